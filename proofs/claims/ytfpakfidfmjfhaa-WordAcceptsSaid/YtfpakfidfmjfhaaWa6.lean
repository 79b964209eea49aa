import Derived.Test.YtfpakfidfmjfhaaWa5
set_option linter.unusedSimpArgs false
set_option linter.unusedVariables false
set_option linter.unusedSectionVars false
open Go Go.Eng
namespace Go.Proofs.Ytfpakfidfmjfhaa
attribute [local congr] undef_congr WpK.congr WpS.congr WpL.congr WpC.congr WpF.congr gotS.congr callS.congr nextS.congr wantS.congr condS.congr
attribute [local irreducible] WpK
attribute [local simp] WpDr_nil WpDr_cons atS_some dwantS_true dwantS_false kindS_light kindS_float kindS_heavy lightS_value floatS_some heavyS_value heavyS_skip heavyS_enter dcallS_some doneS_eq
  isLight isFloat isPlain dLook testBit_dec dChain dLights_nil dLights_skip dLights_one dLight_nil dLight_cons dFreshes_nil dFreshes_one oneF_none oneF_some dFresh_nil dFresh_cons oneL_some oneW_true oneW_false sameV_value dPut dMay valEq arrEq listEq List.getElem?_cons Tr.get_nil dEnd
attribute [local simp] WpS_nil WpS_cons isDefer undef_false wantS_true wantS_false nextS_value nextS_skip nextS_enter callS_some gotS_some aWanted aOp aEvalF aEval opMove opAssign opPick aVal flat flat1 AAct.put opBinOp opConvert opIndex Tr.get_set Tr.get_lay aBin aResults tupled
  aCall aVals aCallB blt_dec ble_dec beq_dec aBinI_add aBinI_sub aBinI_lss aBinI_leq aBinI_gtr aBinI_geq aBinI_eql aBinI_neq index_str len_str len_slice Nat.beq_refl und3 und37 und5 und9
  opBox opLoad opFieldAddr opIndexAddr acells aAddr field25 und22 und23 und43 und4 und28
attribute [local simp] field31


theorem fun11 : T0.funcs.get 11 = some Try.f11 := by kernel_rfl
theorem und38 : T0.und.get 38 = some (.slice 5) := by kernel_rfl
theorem conv_3_5 (W : AW) (k : IntKind) (n : Int) : aConv T0 W 3 5 (.int k n) = some (.int .u8 (IntKind.u8.wrap n)) := by kernel_rfl
theorem conv_3_37 (W : AW) (k : IntKind) (n : Int) : aConv T0 W 3 37 (.int k n) = some (.int .u64 (IntKind.u64.wrap n)) := by kernel_rfl
theorem conv_37_3 (W : AW) (k : IntKind) (n : Int) : aConv T0 W 37 3 (.int k n) = some (.int .i64 (IntKind.i64.wrap n)) := by kernel_rfl
theorem conv_5_3 (W : AW) (k : IntKind) (n : Int) : aConv T0 W 5 3 (.int k n) = some (.int .i64 (IntKind.i64.wrap n)) := by kernel_rfl
attribute [local simp] conv_3_5 conv_3_37 conv_37_3 conv_5_3
theorem bs38 (W : AW) (v : Int) : aBuildSlice T0 W 38 1 [(0, .int .u8 v)] = some (.slice (some ⟨W.next, 0, none⟩) 1 2, W.newCells 5 [.int .u8 v]) := by kernel_rfl
theorem newCells_cellsAt (W : AW) (el : TypeId) (l : List Value) (n : Nat) (h : l.length = n) : (W.newCells el l).cellsAt W.next 0 n = some l := by
  simp only [AW.cellsAt, newCells_get, if_pos, ble_dec]
  rw [decide_eq_true (by omega)]
  exact take_get _ n 0 l h (fun j hj => by rw [Tr.get_lay, if_pos (by omega)]; simp)
theorem conv38 (W : AW) (v : Int) : ∃ u : ByteArray, u.data.toList.length = 1 ∧ aConv T0 (W.newCells 5 [.int .u8 v]) 38 9 (.slice (some ⟨W.next, 0, none⟩) 1 2) = some (.string u) := by
  simp only [aConv, und38, und9, und5, newCells_cellsAt W 5 [.int .u8 v] 1 rfl]
  exact ⟨⟨⟨[UInt8.ofNat v.toNat]⟩⟩, rfl, rfl⟩

set_option maxHeartbeats 4000000 in
theorem text_wp (L : Nat) (hL1 : 1 ≤ L) (hL4 : L ≤ 4) (s : ByteArray) (l : List UInt8) (hl : s.data.toList = l) (hlen : l.length < 9223372036854775808) (W : AW) :
    WpF T0 11 [.string s, .int .i64 L, .int .i64 60] W (fun v W' => Ext W W' ∧ ∃ u : ByteArray, v = .string u ∧ u.data.toList.length ≤ 60) := by
  refine wpF fun11 rfl ?_
  refine wpK_reg (fun R hR => by simp; exact hR) ?_
  try simp only [wpK_assoc]
  refine wpK_reg (fun R hR => by simp; exact hR) ?_
  try simp only [wpK_assoc]
  refine wpK_reg (fun R hR => by simp; exact hR) ?_
  refine wpK_while (I := fun k A W' => Ext W W' ∧ A.n = 32 ∧ A.defers = [] ∧ A.tmps.get 0 = some (.string s) ∧ A.tmps.get 1 = some (.int .i64 L) ∧ A.tmps.get 2 = some (.int .i64 60) ∧
    ∃ i : Nat, k = 60 - i ∧ i ≤ 60 ∧ A.tmps.get 8 = some (.int .i64 i) ∧ ∃ u : ByteArray, A.tmps.get 7 = some (.string u) ∧ u.data.toList.length ≤ i)
    (J := fun A W' => Ext W W' ∧ A.n = 32 ∧ A.defers = [] ∧ ∃ u : ByteArray, A.tmps.get 7 = some (.string u) ∧ u.data.toList.length ≤ 60)
    (Rt := fun _ _ => False) (k := 60) ?_ ?_ ?_ ?_
  · exact ⟨.refl _ _, rfl, rfl, by simp, by simp, by simp, 0, by simp, by simp, by simp, _, by simp; rfl, by simp⟩
  · rintro k ⟨t, m, ds⟩ W' ⟨hE, hm, hd, h0, h1, h2, i, hk, hi, h8, u, h7, hu⟩ Q' hJ hRt hI
    simp only at hm hd h0 h1 h2 h8 h7
    subst hm; subst hd
    try simp only [wpK_assoc]
    by_cases hlt : i < l.length
    · by_cases hlt2 : i < 60
      · have hlt3 : (i : Int) < 60 := by omega
        refine wpK_reg (fun R hR => by simp [h0, h2, h8, hl, hlt, hlt3]; exact hR) ?_
        refine wpK_onT (by simp) ?_
        have hc : l[i]? = some l[i] := List.getElem?_eq_getElem hlt
        generalize l[i] = c at hc
        have hcl := c.toNat_lt
        have hw : IntKind.u8.wrap (L : Int) = L := IntWalk.u8_in _ (by omega)
        have hne : (L : Int) ≠ 0 := by omega
        have hrem := aBinI_rem .u8 (c.toNat : Int) (L : Int) hne
        obtain ⟨u1, hu1, hcv⟩ := conv38 W' (IntKind.u8.wrap (97 + (c.toNat : Int).tmod L))
        have hst : aStr .add u u1 = some (.string ⟨⟨u.data.toList ++ u1.data.toList⟩⟩) := by
          simp only [aStr, ble_dec]
          rw [decide_eq_true (by omega)]
        refine wpK_block ?_
        try simp only [wpK_assoc]
        refine wpK_reg1 (fun R hR => by simp [h0, h1, h7, h8, hl, hc, hw, hrem, opBuildSlice, aParts, bs38, aValW, hcv, hst]; exact hR) ?_
        refine wpK_reg1 (fun R hR => by simp [h8]; exact hR) ?_
        refine hI (k - 1) _ _ (by omega) ⟨hE.trans (.newCells _ _ _), rfl, rfl, by simp [h0], by simp [h1], by simp [h2], i + 1, by omega, by omega, by simp; exact i64_succ i (by omega), _, by simp; rfl, ?_⟩
        simp only [List.length_append]; omega
      · have hlt3 : ¬ (i : Int) < 60 := by omega
        refine wpK_reg (fun R hR => by simp [h0, h2, h8, hl, hlt, hlt3]; exact hR) ?_
        exact wpK_out (by simp) (hJ _ _ ⟨hE, rfl, rfl, u, by simp [h7], by omega⟩)
    · refine wpK_reg (fun R hR => by simp [h0, h2, h8, hl, hlt]; exact hR) ?_
      exact wpK_out (by simp) (hJ _ _ ⟨hE, rfl, rfl, u, by simp [h7], by omega⟩)
  · rintro A' W' h; exact h.elim
  · rintro ⟨t, m, ds⟩ W' ⟨hE, hm, hd, u, h7, hu⟩
    simp only at hm hd h7
    subst hm; subst hd
    refine wpK_reg (fun R hR => by simp [h7]; exact hR) ?_
    exact wpK_ret ⟨.inr rfl, rfl, [.string u], by simp, hE, u, rfl, hu⟩
end Go.Proofs.Ytfpakfidfmjfhaa
