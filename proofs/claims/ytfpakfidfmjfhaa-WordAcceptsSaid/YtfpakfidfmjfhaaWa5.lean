import Derived.Test.YtfpakfidfmjfhaaWa4
set_option linter.unusedSimpArgs false
set_option linter.unusedVariables false
set_option linter.unusedSectionVars false
open Go Go.Eng
namespace Go.Proofs.Ytfpakfidfmjfhaa
theorem fun10 : T0.funcs.get 10 = some Try.f10 := by kernel_rfl
theorem fun7 : T0.funcs.get 7 = some Try.f7 := by kernel_rfl
attribute [local congr] undef_congr WpK.congr WpS.congr WpL.congr WpC.congr WpF.congr gotS.congr callS.congr nextS.congr wantS.congr condS.congr
attribute [local irreducible] WpK
attribute [local simp] WpDr_nil WpDr_cons atS_some dwantS_true dwantS_false kindS_light kindS_float kindS_heavy lightS_value floatS_some heavyS_value heavyS_skip heavyS_enter dcallS_some doneS_eq
  isLight isFloat isPlain dLook testBit_dec dChain dLights_nil dLights_skip dLights_one dLight_nil dLight_cons dFreshes_nil dFreshes_one oneF_none oneF_some dFresh_nil dFresh_cons oneL_some oneW_true oneW_false sameV_value dPut dMay valEq arrEq listEq List.getElem?_cons Tr.get_nil dEnd
attribute [local simp] WpS_nil WpS_cons isDefer undef_false wantS_true wantS_false nextS_value nextS_skip nextS_enter callS_some gotS_some aWanted aOp aEvalF aEval opMove opAssign opPick aVal flat flat1 AAct.put opBinOp opConvert opIndex aConv Tr.get_set Tr.get_lay aBin aResults tupled
  aCall aVals aCallB blt_dec ble_dec beq_dec aBinI_add aBinI_sub aBinI_lss aBinI_leq aBinI_gtr aBinI_geq aBinI_eql aBinI_neq index_str len_str len_slice Nat.beq_refl und3 und37 und5 und9
  opBox opLoad opFieldAddr opIndexAddr acells aAddr field25 und22 und23 und43 und4 und28
attribute [local simp] field31


set_option maxHeartbeats 4000000 in
theorem refAccepts_wp (L n bN oN cN bG oG cG : Nat) (nx : Nat → Nat → Nat) (gd : Nat → Bool) (w : ByteArray) (l : List UInt8) (hl : w.data.toList = l) (hlen : l.length < 9223372036854775808) (W : AW) (hN : Rows W bN oN n L nx) (hG : Goods W bG oG n gd) (hn : 0 < n)
    (hnx : ∀ s i, s < n → i < L → nx s i < n) (hw : ∀ c ∈ l, badB L c = false) (hrun : runN nx 0 l < n) :
    WpF T0 10 [autoV L n bN oN cN bG oG cG, .string w] W (fun v W' => Ext W W' ∧ v = .bool (gd (runN nx 0 l))) := by
  refine wpF fun10 rfl ?_
  refine wpK_reg (fun R hR => by simp; exact hR) ?_
  have hE : Ext W (W.newCells 25 [.int .i64 L, .slice (some ⟨bN, oN, none⟩) n cN, .slice (some ⟨bG, oG, none⟩) n cG]) := .newCells _ _ _
  have hb0 : ∀ j, j < 3 → (W.newCells 25 [.int .i64 L, .slice (some ⟨bN, oN, none⟩) n cN, .slice (some ⟨bG, oG, none⟩) n cG]).Has W.next j ([.int .i64 L, .slice (some ⟨bN, oN, none⟩) n cN, .slice (some ⟨bG, oG, none⟩) n cG].getD j undef) := fun j hj =>
    Has.newCells (by match j, hj with | 0, _ => rfl | 1, _ => rfl | 2, _ => rfl)
  have hat : ∃ k, (W.newCells 25 [.int .i64 L, .slice (some ⟨bN, oN, none⟩) n cN, .slice (some ⟨bG, oG, none⟩) n cG]).blocks.get W.next = some k := ⟨_, by rw [newCells_get, if_pos rfl]⟩
  generalize W.newCells 25 [.int .i64 L, .slice (some ⟨bN, oN, none⟩) n cN, .slice (some ⟨bG, oG, none⟩) n cG] = W₁ at hE hb0 hat
  have hN1 := hN.ext hE
  have hG1 := hG.ext hE
  have hl2 : ∀ W', Ext W₁ W' → aLoadVar T0 W' 23 W.next 2 = some (.slice (some ⟨bG, oG, none⟩) n cG) := fun W' h => by rw [loadVar_cell und23 rfl]; exact ((hb0 2 (by omega)).ext h).2
  have hl25 : aLoadVar T0 W₁ 25 W.next 0 = some (autoV L n bN oN cN bG oG cG) := by
    refine load25 (cellsAt_of_cells rfl hat (fun j hj => ?_) (by omega))
    rw [Nat.zero_add, (hb0 j hj).2]
    match j, hj with
    | 0, _ => rfl
    | 1, _ => rfl
    | 2, _ => rfl
  have ha1 := indexAddr_slice (b := bG) (o := oG) (c := cG) (k := .i64) und23 sz4 hrun
  simp only [Nat.mul_one] at ha1
  refine wpK_dr (wr := Tr.nil |>.set 5 0 |>.set 6 1 |>.set 7 2 |>.set 8 3 |>.set 9 4 |>.set 10 5 |>.set 11 6 |>.set 4 7) (bits := Tr.nil.lay 0 [0, 1, 0, 0, 12, 31, 63, 127]) (ord := [0, 1, 2, 3, 4, 5, 6, 7])
    (J := fun A' W'' => Ext W W'' ∧ A'.n = 12 ∧ A'.defers = [] ∧ A'.tmps.get 4 = some (.bool (gd (runN nx 0 l))))
    (by kernel_rfl) (by kernel_rfl) (by kernel_rfl) (fun G hG' => ?_) ?_
  · simp [hl2 W₁ (.refl _ _), hl25, aEnter, fun18, short_other, aCallV]
    rw [dcallS_none]
    refine (from_wp L n bN oN cN bG oG cG nx 0 w l hl hlen W₁ hN1 hn hnx hw).mono (fun v W₂ ⟨hE2, hv⟩ => ?_)
    subst hv
    have hg : aLoadVar T0 W₂ 4 bG (oG + runN nx 0 l) = some (.bool (gd (runN nx 0 l))) := by rw [loadVar_cell und4 rfl]; exact ((hG1 _ hrun).ext hE2).2
    simp [hl2 W₁ (.refl _ _), hl2 W₂ hE2, hl25, ha1, hg, hE2.1]
    apply hG'
    exact ⟨hE.trans hE2, rfl, rfl, by simp⟩
  · rintro ⟨t', m', ds'⟩ W'' ⟨hE', hn', hd', h4'⟩
    simp only at hn' hd' h4'
    subst hn'; subst hd'
    exact wpK_ret ⟨.inr rfl, rfl, [.bool (gd (runN nx 0 l))], by simp [h4'], hE', rfl⟩

set_option maxHeartbeats 4000000 in
theorem accepts_wp (L n bN oN cN bG oG cG : Nat) (nx : Nat → Nat → Nat) (gd : Nat → Bool) (w : ByteArray) (l : List UInt8) (hl : w.data.toList = l) (hlen : l.length < 9223372036854775808) (W : AW) (hN : Rows W bN oN n L nx) (hG : Goods W bG oG n gd)
    (hL1 : 1 ≤ L) (hL4 : L ≤ 4) (hn : 1 ≤ n) (hn64 : n ≤ 64) (hnx : ∀ s i, s < n → i < L → nx s i < n) :
    WpF T0 7 [autoV L n bN oN cN bG oG cG, .string w] W (fun v W' => Ext W W' ∧ v = .tuple ⟨[.bool (if wordErr L l = 0 then gd (runN nx 0 l) else false), .int .i64 (wordErr L l)]⟩) := by
  refine wpF fun7 rfl ?_
  refine wpK_reg (fun R hR => by simp; exact hR) ?_
  have hE : Ext W (W.newCells 31 [.int .i64 L, .slice (some ⟨bN, oN, none⟩) n cN, .slice (some ⟨bG, oG, none⟩) n cG]) := .newCells _ _ _
  have hb0 : ∀ j, j < 3 → (W.newCells 31 [.int .i64 L, .slice (some ⟨bN, oN, none⟩) n cN, .slice (some ⟨bG, oG, none⟩) n cG]).Has W.next j ([.int .i64 L, .slice (some ⟨bN, oN, none⟩) n cN, .slice (some ⟨bG, oG, none⟩) n cG].getD j undef) := fun j hj =>
    Has.newCells (by match j, hj with | 0, _ => rfl | 1, _ => rfl | 2, _ => rfl)
  have hat : ∃ k, (W.newCells 31 [.int .i64 L, .slice (some ⟨bN, oN, none⟩) n cN, .slice (some ⟨bG, oG, none⟩) n cG]).blocks.get W.next = some k := ⟨_, by rw [newCells_get, if_pos rfl]⟩
  generalize W.newCells 31 [.int .i64 L, .slice (some ⟨bN, oN, none⟩) n cN, .slice (some ⟨bG, oG, none⟩) n cG] = W₁ at hE hb0 hat
  have hN1 := hN.ext hE
  have hG1 := hG.ext hE
  have hlt : W.next < W₁.next := (hb0 0 (by omega)).1
  have hl0 : ∀ W', Ext W₁ W' → aLoadVar T0 W' 3 W.next 0 = some (.int .i64 L) := fun W' h => by rw [loadVar_cell und3 rfl]; exact ((hb0 0 (by omega)).ext h).2
  have hl2 : ∀ W', Ext W₁ W' → aLoadVar T0 W' 23 W.next 2 = some (.slice (some ⟨bG, oG, none⟩) n cG) := fun W' h => by rw [loadVar_cell und23 rfl]; exact ((hb0 2 (by omega)).ext h).2
  have hl31 : ∀ W', Ext W₁ W' → aLoadVar T0 W' 31 W.next 0 = some (autoV L n bN oN cN bG oG cG) := fun W' h => by
    refine load31 (cellsAt_of_cells rfl ?_ (fun j hj => ?_) (by omega))
    · obtain ⟨k, hk⟩ := hat
      exact ⟨k, by rw [h.2 _ hlt (fun x => x)]; exact hk⟩
    · rw [Nat.zero_add, ((hb0 j hj).ext h).2]
      match j, hj with
      | 0, _ => rfl
      | 1, _ => rfl
      | 2, _ => rfl
  try simp only [wpK_assoc]
  refine wpK_regc (J := fun A' W' => Ext W₁ W' ∧ A'.n = 27 ∧ A'.defers = [] ∧ A'.tmps.get 1 = some (.string w) ∧ A'.tmps.get 2 = some (.pointer (some ⟨W.next, 0, none⟩)) ∧ A'.tmps.get 6 = some (.int .i64 0)) (fun R hR => ?_) ?_
  · simp [hl31 W₁ (.refl _ _), aEnter, fun15, short_other, aCallV]
    rw [callS_none]
    refine (check_wp L n bN oN cN bG oG cG nx W₁ hN1 hL1 hL4 hn hn64 hnx).mono (fun v W₂ ⟨hE2, hv⟩ => ?_)
    subst hv
    simp
    apply hR
    exact ⟨hE2, rfl, rfl, by simp, by simp, by simp⟩
  rintro ⟨t, m, ds⟩ W₂ ⟨hE2, hm, hd, h1, h2, h6⟩
  simp only at hm hd h1 h2 h6
  subst hm; subst hd
  try simp only [wpK_assoc]
  refine wpK_reg (fun R hR => by simp [h6]; exact hR) ?_
  try simp only [wpK_assoc]
  refine wpK_onF (by simp) ?_
  try simp only [wpK_assoc]
  refine wpK_regc (J := fun A' W' => Ext W₁ W' ∧ A'.n = 27 ∧ A'.defers = [] ∧ A'.tmps.get 1 = some (.string w) ∧ A'.tmps.get 2 = some (.pointer (some ⟨W.next, 0, none⟩)) ∧ A'.tmps.get 7 = some (.int .i64 (wordErr L l))) (fun R hR => ?_) ?_
  · simp [h1, h2, hl0 W₂ hE2, aEnter, fun16, short_other, aCallV]
    rw [callS_none]
    refine (checkWord_wp L w (by rw [hl]; exact hlen) W₂).mono (fun v W₃ ⟨hE3, hv⟩ => ?_)
    subst hE3; subst hv
    simp [hl]
    apply hR
    exact ⟨hE2, rfl, rfl, by simp [h1], by simp [h2], by simp⟩
  rintro ⟨t, m, ds⟩ W₃ ⟨hE3, hm, hd, h1, h2, h7⟩
  simp only at hm hd h1 h2 h7
  subst hm; subst hd
  try simp only [wpK_assoc]
  refine wpK_reg (fun R hR => by simp [h7]; exact hR) ?_
  try simp only [wpK_assoc]
  by_cases he : wordErr L l = 0
  · refine wpK_onF (by simp [he]) ?_
    have hw : ∀ c ∈ l, badB L c = false := by
      intro c hc
      unfold wordErr at he
      split at he
      · cases he
      · rename_i h0
        have := List.any_eq_false.1 (Bool.eq_false_iff.2 h0) c hc
        simpa using this
    have hrun : runN nx 0 l < n := by
      have : ∀ (l : List UInt8) (s : Nat), s < n → (∀ c ∈ l, badB L c = false) → runN nx s l < n := by
        intro l
        induction l with
        | nil => intro s hs _; exact hs
        | cons c l ih =>
          intro s hs hb
          have hc := hb c (List.mem_cons_self ..)
          simp only [badB, Bool.or_eq_false_iff, decide_eq_false_iff_not] at hc
          exact ih _ (hnx _ _ hs (by omega)) (fun d hd => hb d (List.mem_cons_of_mem _ hd))
      exact this l 0 (by omega) hw
    have ha1 := indexAddr_slice (b := bG) (o := oG) (c := cG) (k := .i64) und23 sz4 hrun
    simp only [Nat.mul_one] at ha1
    refine wpK_dr (wr := Tr.nil |>.set 20 0 |>.set 21 1 |>.set 22 2 |>.set 23 3 |>.set 24 4 |>.set 25 5 |>.set 26 6 |>.set 4 7 |>.set 5 8) (bits := Tr.nil.lay 0 [0, 1, 0, 0, 12, 31, 63, 127, 255]) (ord := [0, 1, 2, 3, 4, 5, 6, 7, 8])
      (J := fun A' W'' => Ext W W'' ∧ A'.n = 27 ∧ A'.defers = [] ∧ A'.tmps.get 4 = some (.bool (gd (runN nx 0 l))) ∧ A'.tmps.get 5 = some (.int .i64 0))
      (by kernel_rfl) (by kernel_rfl) (by kernel_rfl) (fun G hG' => ?_) ?_
    · simp [h1, h2, hl2 W₃ hE3, hl31 W₃ hE3, aEnter, fun17, short_other, aCallV]
      rw [dcallS_none]
      refine (run_wp L n bN oN cN bG oG cG nx 0 w l hl hlen W₃ (hN1.ext hE3) (by omega) hnx hw).mono (fun v W₄ ⟨hE4, hv⟩ => ?_)
      subst hv
      have hg : aLoadVar T0 W₄ 4 bG (oG + runN nx 0 l) = some (.bool (gd (runN nx 0 l))) := by rw [loadVar_cell und4 rfl]; exact (((hG1 _ hrun).ext hE3).ext hE4).2
      simp [h1, h2, hl2 W₃ hE3, hl2 W₄ (hE3.trans hE4), hl31 W₃ hE3, ha1, hg, hE4.1]
      apply hG'
      exact ⟨(hE.trans hE3).trans hE4, rfl, rfl, by simp, by simp⟩
    · rintro ⟨t', m', ds'⟩ W'' ⟨hE', hn', hd', h4', h5'⟩
      simp only at hn' hd' h4' h5'
      subst hn'; subst hd'
      exact wpK_ret ⟨.inr rfl, rfl, [.bool (gd (runN nx 0 l)), .int .i64 0], by simp [h4', h5'], hE', by simp [he]⟩
  · refine wpK_condT (by simp [he]) ?_
    refine wpK_reg (fun R hR => by simp [h7]; exact hR) ?_
    exact wpK_ret ⟨.inr rfl, rfl, [.bool false, .int .i64 (wordErr L l)], by simp, hE.trans hE3, by simp [he]⟩
end Go.Proofs.Ytfpakfidfmjfhaa
