import Derived.Test.YtfpakfidfmjfhaaWa2
set_option linter.unusedSimpArgs false
set_option linter.unusedVariables false
set_option linter.unusedSectionVars false
open Go Go.Eng
namespace Go.Proofs.Ytfpakfidfmjfhaa
theorem fun16 : T0.funcs.get 16 = some Try.f16 := by kernel_rfl
theorem field31 (b o f : Nat) (hf : f < 3) : aField T0 31 (.pointer (some ⟨b, o, none⟩)) f = some (.pointer (some ⟨b, o + f, none⟩)) := by
  match f, hf with
  | 0, _ => rfl
  | 1, _ => rfl
  | 2, _ => rfl
attribute [local congr] undef_congr WpK.congr WpS.congr WpL.congr WpC.congr WpF.congr gotS.congr callS.congr nextS.congr wantS.congr condS.congr
attribute [local irreducible] WpK
attribute [local simp] WpDr_nil WpDr_cons atS_some dwantS_true dwantS_false kindS_light kindS_float kindS_heavy lightS_value floatS_some heavyS_value heavyS_skip heavyS_enter dcallS_some dcallS_none doneS_eq
  isLight isFloat isPlain dLook testBit_dec dChain dLights_nil dLights_skip dLights_one dLight_nil dLight_cons dFreshes_nil dFreshes_one oneF_none oneF_some dFresh_nil dFresh_cons oneL_some oneW_true oneW_false sameV_value dPut dMay valEq List.getElem?_cons Tr.get_nil dEnd
attribute [local simp] WpS_nil WpS_cons isDefer undef_false wantS_true wantS_false nextS_value nextS_skip nextS_enter callS_some callS_none gotS_some aWanted aOp aEvalF aEval opMove opAssign opPick aVal flat flat1 AAct.put opBinOp opConvert opIndex aConv Tr.get_set Tr.get_lay aBin aResults tupled
  aCall aVals aCallB blt_dec ble_dec beq_dec aBinI_add aBinI_sub aBinI_lss aBinI_leq aBinI_gtr aBinI_geq aBinI_eql aBinI_neq index_str len_str len_slice Nat.beq_refl und3 und37 und5 und9
  opBox opLoad opFieldAddr opIndexAddr acells aAddr field25 und22 und23 und43 und4 und28
attribute [local simp] field31

set_option maxHeartbeats 4000000 in
theorem checkWord_wp (L : Int) (s : ByteArray) (hs : s.data.toList.length < 9223372036854775808) (W : AW) : WpF T0 16 [.int .i64 L, .string s] W (fun v W' => W' = W ∧ v = .int .i64 (wordErr L s.data.toList)) := by
  refine wpF fun16 rfl ?_
  generalize hl : s.data.toList = l at hs
  refine wpK_reg (fun R hR => by simp; exact hR) ?_
  try simp only [wpK_assoc]
  refine wpK_reg (fun R hR => by simp [hl]; exact hR) ?_
  refine wpK_while (I := fun k A W' => W' = W ∧ A.n = 28 ∧ A.defers = [] ∧ A.tmps.get 0 = some (.int .i64 L) ∧ A.tmps.get 1 = some (.string s) ∧ A.tmps.get 7 = some (.int .i64 (l.length : Nat)) ∧
    ∃ i : Nat, k = l.length - i ∧ i ≤ l.length ∧ A.tmps.get 8 = some (.int .i64 i) ∧ ∀ j c, j < i → l[j]? = some c → badB L c = false)
    (J := fun A W' => W' = W ∧ A.n = 28 ∧ A.defers = [] ∧ A.tmps.get 1 = some (.string s) ∧ l.any (badB L) = false)
    (Rt := fun A W' => W' = W ∧ A.defers = [] ∧ A.tmps.get 4 = some (.int .i64 1) ∧ l.any (badB L) = true) (k := l.length) ?_ ?_ ?_ ?_
  · exact ⟨rfl, rfl, rfl, by simp, by simp, by simp, 0, by simp, by simp, by simp, fun j c hj => by omega⟩
  · rintro k ⟨t, n, ds⟩ W' ⟨rfl, hn, hd, h0, h1, h7, i, hk, hi, h8, hgood⟩ Q' hJ hRt hI
    simp only at hn hd h0 h1 h7 h8
    subst hn; subst hd
    try simp only [wpK_assoc]
    refine wpK_reg (fun R hR => by simp [h7, h8]; exact hR) ?_
    by_cases hlt : i < l.length
    · refine wpK_onT (by simp [hlt]) ?_
      have hc : l[i]? = some l[i] := List.getElem?_eq_getElem hlt
      have hm : l[i] ∈ l := List.getElem_mem hlt
      generalize l[i] = c at hc hm
      have hcl := c.toNat_lt
      refine wpK_block ?_
      refine wpK_reg (fun R hR => by simp [h8]; exact hR) ?_
      by_cases hb : (c.toNat : Int) < 97
      · refine wpK_reg (fun R hR => by simp [h0, h1, hl, hc, hb]; exact hR) ?_
        refine wpK_endT (by simp) ?_
        refine wpK_reg (fun R hR => by simp; exact hR) ?_
        refine wpK_ret (hRt _ _ ⟨rfl, rfl, by simp, ?_⟩)
        rw [List.any_eq_true]
        exact ⟨c, hm, by simp [badB, hb]⟩
      · have hw : IntKind.i64.wrap (IntKind.u8.wrap ((c.toNat : Int) - 97)) = (c.toNat : Int) - 97 := by
          rw [IntWalk.u8_in _ (by omega), IntWalk.i64_in _ (by omega)]
        by_cases hb2 : L ≤ (c.toNat : Int) - 97
        · refine wpK_reg (fun R hR => by simp [h0, h1, hl, hc, hb, hw, hb2]; exact hR) ?_
          refine wpK_endT (by simp) ?_
          refine wpK_reg (fun R hR => by simp; exact hR) ?_
          refine wpK_ret (hRt _ _ ⟨rfl, rfl, by simp, ?_⟩)
          rw [List.any_eq_true]
          exact ⟨c, hm, by simp [badB, hb2]⟩
        · refine wpK_reg (fun R hR => by simp [h0, h1, hl, hc, hb, hw, hb2]; exact hR) ?_
          refine wpK_endF (by simp) (wpK_skip ?_)
          refine wpK_reg1 (fun R hR => by simp [h8]; exact hR) ?_
          refine hI (k - 1) _ _ (by omega) ⟨rfl, rfl, rfl, by simp [h0], by simp [h1], by simp [h7], i + 1, by omega, by omega, by simp; exact i64_succ i (by omega), fun j d hj hd => ?_⟩
          by_cases hji : j = i
          · subst hji; rw [hc] at hd; cases hd; simp [badB, hb, hb2]
          · exact hgood j d (by omega) hd
    · refine wpK_out (by simp [hlt]) (hJ _ _ ⟨rfl, rfl, rfl, by simp [h1], ?_⟩)
      rw [List.any_eq_false]
      intro x hx
      obtain ⟨j, hj, rfl⟩ := List.getElem_of_mem hx
      have := hgood j l[j] (by omega) (List.getElem?_eq_getElem hj)
      simp [this]
  · rintro A' W' ⟨rfl, h1, h2, h3⟩
    exact ⟨.inr rfl, h1, [.int .i64 1], by simp [h2], rfl, by simp [wordErr, h3]⟩
  · rintro ⟨t, n, ds⟩ W' ⟨rfl, hn, hd, h1, hall⟩
    simp only at hn hd h1
    subst hn; subst hd
    try simp only [wpK_assoc]
    refine wpK_reg (fun R hR => by simp [h1, hl]; exact hR) ?_
    by_cases hlen : 5000 < l.length
    · refine wpK_condT (by simp; omega) ?_
      refine wpK_reg (fun R hR => by simp; exact hR) ?_
      exact wpK_ret ⟨.inr rfl, rfl, [.int .i64 2], by simp, rfl, by simp [wordErr, hall, hlen]⟩
    · refine wpK_onF (by simp; omega) ?_
      refine wpK_reg (fun R hR => by simp; exact hR) ?_
      exact wpK_ret ⟨.inr rfl, rfl, [.int .i64 0], by simp, rfl, by simp [wordErr, hall, hlen]⟩

set_option maxHeartbeats 4000000 in
theorem run_wp (L n bN oN cN bG oG cG : Nat) (nx : Nat → Nat → Nat) (s0 : Nat) (w : ByteArray) (l : List UInt8) (hl : w.data.toList = l) (hlen : l.length < 9223372036854775808) (W : AW) (hN : Rows W bN oN n L nx) (hs0 : s0 < n)
    (hnx : ∀ s i, s < n → i < L → nx s i < n) (hw : ∀ c ∈ l, badB L c = false) :
    WpF T0 17 [.agg ⟨[.int .i64 L, .slice (some ⟨bN, oN, none⟩) n cN, .slice (some ⟨bG, oG, none⟩) n cG]⟩, .int .i64 s0, .string w] W (fun v W' => Ext W W' ∧ v = .int .i64 (runN nx s0 l : Nat)) := by
  refine wpF fun17 rfl ?_
  refine wpK_reg (fun R hR => by simp; exact hR) ?_
  try simp only [wpK_assoc]
  refine wpK_reg (fun R hR => by simp [hl]; exact hR) ?_
  have hE : Ext W (W.newCells 31 [.int .i64 L, .slice (some ⟨bN, oN, none⟩) n cN, .slice (some ⟨bG, oG, none⟩) n cG]) := .newCells _ _ _
  have hN1 := hN.ext hE
  have hb0 : (W.newCells 31 [.int .i64 L, .slice (some ⟨bN, oN, none⟩) n cN, .slice (some ⟨bG, oG, none⟩) n cG]).cell W.next 1 = some (.slice (some ⟨bN, oN, none⟩) n cN) := by rw [newCells_cell, if_pos rfl]; rfl
  generalize W.newCells 31 [.int .i64 L, .slice (some ⟨bN, oN, none⟩) n cN, .slice (some ⟨bG, oG, none⟩) n cG] = W₁ at hE hN1 hb0
  refine wpK_while (I := fun k A W' => W' = W₁ ∧ A.n = 26 ∧ A.defers = [] ∧ A.tmps.get 3 = some (.pointer (some ⟨W.next, 0, none⟩)) ∧ A.tmps.get 2 = some (.string w) ∧ A.tmps.get 9 = some (.int .i64 (l.length : Nat)) ∧
    ∃ i : Nat, k = l.length - i ∧ i ≤ l.length ∧ A.tmps.get 10 = some (.int .i64 i) ∧ A.tmps.get 1 = some (.int .i64 (runN nx s0 (l.take i) : Nat)) ∧ runN nx s0 (l.take i) < n)
    (J := fun A W' => W' = W₁ ∧ A.n = 26 ∧ A.defers = [] ∧ A.tmps.get 1 = some (.int .i64 (runN nx s0 l : Nat)))
    (Rt := fun _ _ => False) (k := l.length) ?_ ?_ ?_ ?_
  · exact ⟨rfl, rfl, rfl, by simp, by simp, by simp, 0, by simp, by simp, by simp, by simp [runN], by simpa [runN] using hs0⟩
  · rintro k ⟨t, m, ds⟩ W' ⟨rfl, hn, hd, h3, h2, h9, i, hk, hi, h10, h1, hrun⟩ Q' hJ hRt hI
    simp only at hn hd h3 h2 h9 h10 h1
    subst hn; subst hd
    try simp only [wpK_assoc]
    refine wpK_reg (fun R hR => by simp [h9, h10]; exact hR) ?_
    by_cases hlt : i < l.length
    · refine wpK_onT (by simp [hlt]) ?_
      have hc : l[i]? = some l[i] := List.getElem?_eq_getElem hlt
      have hm : l[i] ∈ l := List.getElem_mem hlt
      have htake : l.take (i + 1) = l.take i ++ [l[i]] := by rw [List.take_add_one, hc]; rfl
      generalize l[i] = c at hc hm htake
      have hcl := c.toNat_lt
      have hbad := hw c hm
      simp only [badB, Bool.or_eq_false_iff, decide_eq_false_iff_not] at hbad
      obtain ⟨r, ro, cc, hr1, hr2⟩ := hN1 _ hrun
      have hr3 := hr2 (c.toNat - 97) (by omega)
      refine wpK_block ?_
      refine wpK_reg (fun R hR => by simp [h10]; exact hR) ?_
      have hl1 : aLoadVar T0 W' 22 W.next 1 = some (.slice (some ⟨bN, oN, none⟩) n cN) := by rw [loadVar_cell und22 rfl]; exact hb0
      have hl2 : aLoadVar T0 W' 43 bN (oN + runN nx s0 (l.take i)) = some (.slice (some ⟨r, ro, none⟩) L cc) := by rw [loadVar_cell und43 rfl]; exact hr1.2
      have hl3 : aLoadVar T0 W' 3 r (ro + (c.toNat - 97)) = some (.int .i64 (nx (runN nx s0 (l.take i)) (c.toNat - 97) : Nat)) := by rw [loadVar_cell und3 rfl]; exact hr3.2
      have hwr : IntKind.u8.wrap ((c.toNat : Int) - 97) = ((c.toNat - 97 : Nat) : Int) := by
        rw [IntWalk.u8_in _ (by omega)]; omega
      have ha1 := indexAddr_slice (b := bN) (o := oN) (c := cN) (k := .i64) und22 sz43 hrun
      have ha2 := indexAddr_slice (b := r) (o := ro) (c := cc) (k := .u8) (len := L) (i := c.toNat - 97) und43 sz3 (by omega)
      refine wpK_dr1 (wr := Tr.nil |>.set 13 0 |>.set 14 1 |>.set 15 2 |>.set 16 3 |>.set 17 4 |>.set 18 5 |>.set 19 6 |>.set 20 7 |>.set 21 8 |>.set 22 9 |>.set 23 10 |>.set 1 11) (bits := Tr.nil.lay 0 [0, 1, 0, 7, 15, 0, 0, 96, 224, 511, 1023, 2047]) (ord := [0, 1, 2, 3, 4, 5, 6, 7, 8, 9, 10, 11])
        (J := fun A' W'' => W'' = W' ∧ A'.n = 26 ∧ A'.defers = [] ∧ A'.tmps.get 3 = some (.pointer (some ⟨W.next, 0, none⟩)) ∧ A'.tmps.get 2 = some (.string w) ∧ A'.tmps.get 9 = some (.int .i64 (l.length : Nat)) ∧ A'.tmps.get 10 = some (.int .i64 i) ∧
          A'.tmps.get 1 = some (.int .i64 (nx (runN nx s0 (l.take i)) (c.toNat - 97) : Nat)))
        (by kernel_rfl) (by kernel_rfl) (by kernel_rfl) (fun G hG => ?_) ?_
      · simp only [Nat.mul_one] at ha1 ha2
        simp [h1, h2, h3, hl, hc, hl1, hl2, hl3, hwr, ha1, ha2]
        apply hG
        refine ⟨rfl, rfl, rfl, ?_⟩
        simp [h2, h3, h9, h10]
      · rintro ⟨t', m', ds'⟩ W'' ⟨rfl, hn', hd', h3', h2', h9', h10', h1'⟩
        simp only at hn' hd' h3' h2' h9' h10' h1'
        subst hn'; subst hd'
        refine wpK_reg1 (fun R hR => by simp [h10']; exact hR) ?_
        have hstep : runN nx s0 (l.take (i + 1)) = nx (runN nx s0 (l.take i)) (c.toNat - 97) := by rw [htake]; simp [runN]
        refine hI (k - 1) _ _ (by omega) ⟨rfl, rfl, rfl, by simp [h3'], by simp [h2'], by simp [h9'], i + 1, by omega, by omega, by simp; exact i64_succ i (by omega), by simp [h1', hstep], ?_⟩
        rw [hstep]; exact hnx _ _ hrun (by omega)
    · refine wpK_out (by simp [hlt]) (hJ _ _ ⟨rfl, rfl, rfl, ?_⟩)
      have : l.take i = l := List.take_of_length_le (by omega)
      rw [this] at h1
      simp [h1]
  · rintro A' W' h; exact h.elim
  · rintro ⟨t, m, ds⟩ W' ⟨rfl, hn, hd, h1⟩
    simp only at hn hd h1
    subst hn; subst hd
    refine wpK_reg (fun R hR => by simp [h1]; exact hR) ?_
    exact wpK_ret ⟨.inr rfl, rfl, [.int .i64 (runN nx s0 l : Nat)], by simp, hE, rfl⟩
end Go.Proofs.Ytfpakfidfmjfhaa
