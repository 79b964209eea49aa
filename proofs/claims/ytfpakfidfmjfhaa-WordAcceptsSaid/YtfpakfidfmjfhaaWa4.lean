import Derived.Test.YtfpakfidfmjfhaaWa3
set_option linter.unusedSimpArgs false
set_option linter.unusedVariables false
set_option linter.unusedSectionVars false
open Go Go.Eng
namespace Go.Proofs.Ytfpakfidfmjfhaa
theorem fun15 : T0.funcs.get 15 = some Try.f15 := by kernel_rfl
theorem fun8 : T0.funcs.get 8 = some Try.f8 := by kernel_rfl
attribute [local congr] undef_congr WpK.congr WpS.congr WpL.congr WpC.congr WpF.congr gotS.congr callS.congr nextS.congr wantS.congr condS.congr
attribute [local irreducible] WpK
attribute [local simp] WpDr_nil WpDr_cons atS_some dwantS_true dwantS_false kindS_light kindS_float kindS_heavy lightS_value floatS_some heavyS_value heavyS_skip heavyS_enter dcallS_some dcallS_none doneS_eq
  isLight isFloat isPlain dLook testBit_dec dChain dLights_nil dLights_skip dLights_one dLight_nil dLight_cons dFreshes_nil dFreshes_one oneF_none oneF_some dFresh_nil dFresh_cons oneL_some oneW_true oneW_false sameV_value dPut dMay valEq List.getElem?_cons Tr.get_nil dEnd
attribute [local simp] WpS_nil WpS_cons isDefer undef_false wantS_true wantS_false nextS_value nextS_skip nextS_enter callS_some callS_none gotS_some aWanted aOp aEvalF aEval opMove opAssign opPick aVal flat flat1 AAct.put opBinOp opConvert opIndex aConv Tr.get_set Tr.get_lay aBin aResults tupled
  aCall aVals aCallB blt_dec ble_dec beq_dec aBinI_add aBinI_sub aBinI_lss aBinI_leq aBinI_gtr aBinI_geq aBinI_eql aBinI_neq index_str len_str len_slice Nat.beq_refl und3 und37 und5 und9
  opBox opLoad opFieldAddr opIndexAddr acells aAddr field25 und22 und23 und43 und4 und28
attribute [local simp] field31

set_option maxHeartbeats 4000000 in
theorem check_wp (L n bN oN cN bG oG cG : Nat) (nx : Nat → Nat → Nat) (W : AW) (hN : Rows W bN oN n L nx) (hL1 : 1 ≤ L) (hL4 : L ≤ 4) (hn1 : 1 ≤ n) (hn64 : n ≤ 64)
    (hnx : ∀ s i, s < n → i < L → nx s i < n) :
    WpF T0 15 [.agg ⟨[.int .i64 L, .slice (some ⟨bN, oN, none⟩) n cN, .slice (some ⟨bG, oG, none⟩) n cG]⟩] W (fun v W' => Ext W W' ∧ v = .int .i64 0) := by
  refine wpF fun15 rfl ?_
  refine wpK_reg (fun R hR => by simp; exact hR) ?_
  have hE : Ext W (W.newCells 31 [.int .i64 L, .slice (some ⟨bN, oN, none⟩) n cN, .slice (some ⟨bG, oG, none⟩) n cG]) := .newCells _ _ _
  have hN1 := hN.ext hE
  have hb0 : (W.newCells 31 [.int .i64 L, .slice (some ⟨bN, oN, none⟩) n cN, .slice (some ⟨bG, oG, none⟩) n cG]).cell W.next 0 = some (.int .i64 L) := by rw [newCells_cell, if_pos rfl]; rfl
  have hb1 : (W.newCells 31 [.int .i64 L, .slice (some ⟨bN, oN, none⟩) n cN, .slice (some ⟨bG, oG, none⟩) n cG]).cell W.next 1 = some (.slice (some ⟨bN, oN, none⟩) n cN) := by rw [newCells_cell, if_pos rfl]; rfl
  have hb2 : (W.newCells 31 [.int .i64 L, .slice (some ⟨bN, oN, none⟩) n cN, .slice (some ⟨bG, oG, none⟩) n cG]).cell W.next 2 = some (.slice (some ⟨bG, oG, none⟩) n cG) := by rw [newCells_cell, if_pos rfl]; rfl
  generalize W.newCells 31 [.int .i64 L, .slice (some ⟨bN, oN, none⟩) n cN, .slice (some ⟨bG, oG, none⟩) n cG] = W₁ at hE hN1 hb0 hb1 hb2
  have hl0 : aLoadVar T0 W₁ 3 W.next 0 = some (.int .i64 L) := by rw [loadVar_cell und3 rfl]; exact hb0
  have hl1 : aLoadVar T0 W₁ 22 W.next 1 = some (.slice (some ⟨bN, oN, none⟩) n cN) := by rw [loadVar_cell und22 rfl]; exact hb1
  have hl2 : aLoadVar T0 W₁ 23 W.next 2 = some (.slice (some ⟨bG, oG, none⟩) n cG) := by rw [loadVar_cell und23 rfl]; exact hb2
  have e1 : ¬ ((L : Int) < 1) := by omega
  have e2 : ¬ (4 < (L : Int)) := by omega
  have e3 : ¬ ((n : Int) < 1) := by omega
  have e4 : ¬ (64 < (n : Int)) := by omega
  have e5 : L ≠ 0 := by omega
  have e6 : n ≠ 0 := by omega
  try simp only [wpK_assoc]
  refine wpK_reg (fun R hR => by simp [hl0, e1, e2, e5]; exact hR) ?_
  try simp only [wpK_assoc]
  refine wpK_onF (by simp) ?_
  try simp only [wpK_assoc]
  refine wpK_reg (fun R hR => by simp [hl1]; exact hR) ?_
  try simp only [wpK_assoc]
  refine wpK_reg (fun R hR => by simp [hl2, e3, e4, e6]; exact hR) ?_
  try simp only [wpK_assoc]
  refine wpK_onF (by simp) ?_
  try simp only [wpK_assoc]
  refine wpK_reg (fun R hR => by simp [hl1]; exact hR) ?_
  refine wpK_while (I := fun k A W' => W' = W₁ ∧ A.n = 59 ∧ A.defers = [] ∧ A.tmps.get 1 = some (.pointer (some ⟨W.next, 0, none⟩)) ∧ A.tmps.get 3 = some (.int .i64 n) ∧ A.tmps.get 33 = some (.slice (some ⟨bN, oN, none⟩) n cN) ∧ A.tmps.get 34 = some (.int .i64 n) ∧
    ∃ s : Nat, k = n - s ∧ s ≤ n ∧ A.tmps.get 35 = some (.int .i64 s))
    (J := fun A W' => W' = W₁ ∧ A.n = 59 ∧ A.defers = [])
    (Rt := fun _ _ => False) (k := n) ?_ ?_ ?_ ?_
  · exact ⟨rfl, rfl, rfl, by simp, by simp, by simp, by simp, 0, by simp, by simp, by simp⟩
  · rintro k ⟨t, m, ds⟩ W' ⟨rfl, hm, hd, h1, h3, h33, h34, s, hk, hs, h35⟩ Q' hJ hRt hI
    simp only at hm hd h1 h3 h33 h34 h35
    subst hm; subst hd
    try simp only [wpK_assoc]
    refine wpK_reg (fun R hR => by simp [h34, h35]; exact hR) ?_
    by_cases hlt : s < n
    · refine wpK_onT (by simp [hlt]) ?_
      obtain ⟨r, ro, cc, hr1, hr2⟩ := hN1 _ hlt
      have ha1 := indexAddr_slice (b := bN) (o := oN) (c := cN) (k := .i64) und22 sz43 hlt
      have hl3 : aLoadVar T0 W' 43 bN (oN + s) = some (.slice (some ⟨r, ro, none⟩) L cc) := by rw [loadVar_cell und43 rfl]; exact hr1.2
      simp only [Nat.mul_one] at ha1
      refine wpK_block ?_
      try simp only [wpK_assoc]
      refine wpK_reg (fun R hR => by simp [h33, h35, ha1, hl3]; exact hR) ?_
      try simp only [wpK_assoc]
      refine wpK_reg (fun R hR => by simp [h1, hl0]; exact hR) ?_
      try simp only [wpK_assoc]
      refine wpK_onF (by simp) ?_
      try simp only [wpK_assoc]
      refine wpK_reg (fun R hR => by simp; exact hR) ?_
      refine wpK_while1 (I := fun k A W'' => W'' = W' ∧ A.n = 59 ∧ A.defers = [] ∧ A.tmps.get 1 = some (.pointer (some ⟨W.next, 0, none⟩)) ∧ A.tmps.get 3 = some (.int .i64 n) ∧ A.tmps.get 33 = some (.slice (some ⟨bN, oN, none⟩) n cN) ∧ A.tmps.get 34 = some (.int .i64 n) ∧
        A.tmps.get 35 = some (.int .i64 s) ∧ A.tmps.get 44 = some (.slice (some ⟨r, ro, none⟩) L cc) ∧ A.tmps.get 45 = some (.int .i64 L) ∧ ∃ i : Nat, k = L - i ∧ i ≤ L ∧ A.tmps.get 46 = some (.int .i64 i))
        (J := fun A W'' => W'' = W' ∧ A.n = 59 ∧ A.defers = [] ∧ A.tmps.get 1 = some (.pointer (some ⟨W.next, 0, none⟩)) ∧ A.tmps.get 3 = some (.int .i64 n) ∧ A.tmps.get 33 = some (.slice (some ⟨bN, oN, none⟩) n cN) ∧ A.tmps.get 34 = some (.int .i64 n) ∧
          A.tmps.get 35 = some (.int .i64 s))
        (Rt := fun _ _ => False) (k := L) ?_ ?_ ?_ ?_
      · exact ⟨rfl, rfl, rfl, by simp [h1], by simp [h3], by simp [h33], by simp [h34], by simp [h35], by simp, by simp, 0, by simp, by simp, by simp⟩
      · rintro k' ⟨t', m', ds'⟩ W'' ⟨rfl, hm, hd, h1, h3, h33, h34, h35, h44, h45, i, hk', hi, h46⟩ Q'' hJ' hRt' hI'
        simp only at hm hd h1 h3 h33 h34 h35 h44 h45 h46
        subst hm; subst hd
        try simp only [wpK_assoc]
        refine wpK_reg (fun R hR => by simp [h45, h46]; exact hR) ?_
        by_cases hlt' : i < L
        · refine wpK_onT (by simp [hlt']) ?_
          have ha2 := indexAddr_slice (b := r) (o := ro) (c := cc) (k := .i64) (len := L) (i := i) und43 sz3 hlt'
          simp only [Nat.mul_one] at ha2
          have hl4 : aLoadVar T0 W'' 3 r (ro + i) = some (.int .i64 (nx s i : Nat)) := by rw [loadVar_cell und3 rfl]; exact (hr2 i hlt').2
          have hb := hnx s i hlt hlt'
          have e7 : ¬ ((nx s i : Int) < 0) := by omega
          have e8 : ¬ (n ≤ nx s i) := by omega
          refine wpK_block ?_
          try simp only [wpK_assoc]
          refine wpK_reg (fun R hR => by simp [h44, h46, ha2, hl4]; exact hR) ?_
          try simp only [wpK_assoc]
          refine wpK_reg (fun R hR => by simp [h3, e7, e8]; exact hR) ?_
          refine wpK_endF (by simp) (wpK_skip ?_)
          refine wpK_reg1 (fun R hR => by simp [h46]; exact hR) ?_
          exact hI' (k' - 1) _ _ (by omega) ⟨rfl, rfl, rfl, by simp [h1], by simp [h3], by simp [h33], by simp [h34], by simp [h35], by simp [h44], by simp [h45], i + 1, by omega, by omega, by simp; exact i64_succ i (by omega)⟩
        · exact wpK_out (by simp [hlt']) (hJ' _ _ ⟨rfl, rfl, rfl, by simp [h1], by simp [h3], by simp [h33], by simp [h34], by simp [h35]⟩)
      · rintro A' W'' h; exact h.elim
      · rintro ⟨t', m', ds'⟩ W'' ⟨rfl, hm, hd, h1, h3, h33, h34, h35⟩
        simp only at hm hd h1 h3 h33 h34 h35
        subst hm; subst hd
        refine wpK_reg1 (fun R hR => by simp [h35]; exact hR) ?_
        exact hI (k - 1) _ _ (by omega) ⟨rfl, rfl, rfl, by simp [h1], by simp [h3], by simp [h33], by simp [h34], s + 1, by omega, by omega, by simp; exact i64_succ s (by omega)⟩
    · exact wpK_out (by simp [hlt]) (hJ _ _ ⟨rfl, rfl, rfl⟩)
  · rintro A' W' h; exact h.elim
  · rintro ⟨t, m, ds⟩ W' ⟨rfl, hm, hd⟩
    simp only at hm hd
    subst hm; subst hd
    refine wpK_reg (fun R hR => by simp; exact hR) ?_
    exact wpK_ret ⟨.inr rfl, rfl, [.int .i64 0], by simp, hE, rfl⟩

/-- an automaton as a value -/
abbrev autoV (L n bN oN cN bG oG cG : Nat) : Value := .agg ⟨[.int .i64 L, .slice (some ⟨bN, oN, none⟩) n cN, .slice (some ⟨bG, oG, none⟩) n cG]⟩
theorem build31 (L : Int) (a a' : Addr) (n c n' c' : Nat) : aBuild T0 31 [(0, .int .i64 L), (1, .slice (some a) n c), (2, .slice (some a') n' c')] = some (.agg ⟨[.int .i64 L, .slice (some a) n c, .slice (some a') n' c']⟩) := by kernel_rfl
theorem zero31 : aZero T0 31 = some (.agg ⟨[.int .i64 0, .slice none 0 0, .slice none 0 0]⟩) := by kernel_rfl
theorem zero25 : aZero T0 25 = some (.agg ⟨[.int .i64 0, .slice none 0 0, .slice none 0 0]⟩) := by kernel_rfl
theorem inf31 : T0.info.get 31 = some Try.t31 := by kernel_rfl
theorem inf25 : T0.info.get 25 = some Try.t25 := by kernel_rfl
theorem load31 {W : AW} {b o : Nat} {l : List Value} (h : W.cellsAt b o 3 = some l) : aLoadVar T0 W 31 b o = some (.agg ⟨l⟩) := loadVar_agg (und31.trans und24) (by kernel_rfl) inf31 h
theorem load25 {W : AW} {b o : Nat} {l : List Value} (h : W.cellsAt b o 3 = some l) : aLoadVar T0 W 25 b o = some (.agg ⟨l⟩) := loadVar_agg (und25.trans und24) (by kernel_rfl) inf25 h

set_option maxHeartbeats 4000000 in
theorem give_wp (L n bN oN cN bG oG cG : Nat) (W : AW) : WpF T0 8 [autoV L n bN oN cN bG oG cG] W (fun v W' => Ext W W' ∧ v = autoV L n bN oN cN bG oG cG) := by
  refine wpF fun8 rfl ?_
  refine wpK_reg (fun R hR => by simp [opAlloc, zero31]; exact hR) ?_
  have hE1 : Ext W (W.newCells 25 [.int .i64 L, .slice (some ⟨bN, oN, none⟩) n cN, .slice (some ⟨bG, oG, none⟩) n cG]) := .newCells _ _ _
  have hb0 : ∀ j, j < 3 → (W.newCells 25 [.int .i64 L, .slice (some ⟨bN, oN, none⟩) n cN, .slice (some ⟨bG, oG, none⟩) n cG]).Has W.next j ([.int .i64 L, .slice (some ⟨bN, oN, none⟩) n cN, .slice (some ⟨bG, oG, none⟩) n cG].getD j undef) := fun j hj =>
    Has.newCells (by match j, hj with | 0, _ => rfl | 1, _ => rfl | 2, _ => rfl)
  have hnx1 : (W.newCells 25 [.int .i64 L, .slice (some ⟨bN, oN, none⟩) n cN, .slice (some ⟨bG, oG, none⟩) n cG]).next = W.next + 1 := rfl
  generalize W.newCells 25 [.int .i64 L, .slice (some ⟨bN, oN, none⟩) n cN, .slice (some ⟨bG, oG, none⟩) n cG] = W₁ at hE1 hb0 hnx1
  have hE2 : Ext W₁ (W₁.newCells 31 [.int .i64 0, .slice none 0 0, .slice none 0 0]) := .newCells _ _ _
  have hg2 : (W₁.newCells 31 [.int .i64 0, .slice none 0 0, .slice none 0 0]).blocks.get W₁.next = some ⟨.cells (Tr.nil.lay 0 [.int .i64 0, .slice none 0 0, .slice none 0 0]) 3 31, []⟩ := by rw [newCells_get, if_pos rfl]; rfl
  have hnx2 : (W₁.newCells 31 [.int .i64 0, .slice none 0 0, .slice none 0 0]).next = W₁.next + 1 := rfl
  generalize W₁.newCells 31 [.int .i64 0, .slice none 0 0, .slice none 0 0] = W₂ at hE2 hg2 hnx2
  have hl0 : aLoadVar T0 W₂ 3 W.next 0 = some (.int .i64 L) := by rw [loadVar_cell und3 rfl]; exact ((hb0 0 (by omega)).ext hE2).2
  have hl1 : aLoadVar T0 W₂ 22 W.next 1 = some (.slice (some ⟨bN, oN, none⟩) n cN) := by rw [loadVar_cell und22 rfl]; exact ((hb0 1 (by omega)).ext hE2).2
  have hl2 : aLoadVar T0 W₂ 23 W.next 2 = some (.slice (some ⟨bG, oG, none⟩) n cG) := by rw [loadVar_cell und23 rfl]; exact ((hb0 2 (by omega)).ext hE2).2
  obtain ⟨W₃, hs1, hs2, hs3, hs4⟩ := storeVar_own (T := T0) (t := 31) (v := autoV L n bN oN cN bG oG cG) (o := 0) inf31 (by kernel_rfl) hg2 (by show 0 + 3 ≤ 3; omega) rfl
  refine wpK_reg (fun R hR => by simp [hl0, hl1, hl2, opBuild, aParts, build31, opStore, hs1]; exact hR) ?_
  have hc : W₃.cellsAt W₁.next 0 3 = some [.int .i64 L, .slice (some ⟨bN, oN, none⟩) n cN, .slice (some ⟨bG, oG, none⟩) n cG] := by
    simp only [AW.cellsAt, hs4, ble_dec]
    refine take_get _ 3 0 _ rfl (fun j hj => ?_)
    rw [Tr.get_lay]
    simp only [acells, List.length_cons, List.length_nil, Nat.zero_add, Nat.zero_le, true_and, Nat.sub_zero]
    rw [if_pos hj]
  refine wpK_ret ⟨.inr rfl, rfl, [autoV L n bN oN cN bG oG cG], ?_, ⟨?_, fun b hb _ => ?_⟩, rfl⟩
  · show aResults T0 W₃ _ [.cell 2 31] = _
    simp [load31 hc]
  · omega
  · have h1 := hE1.1
    rw [hs3 b (by omega), hE2.2 b (by omega) (fun x => x), hE1.2 b hb (fun x => x)]

end Go.Proofs.Ytfpakfidfmjfhaa
