import Derived.Test.YtnnfobmfffbhaaaWa1
import Derived.Test.YtnnfobmfffbhaaaEngRe
set_option linter.unusedSimpArgs false
set_option linter.unusedVariables false
set_option linter.unusedSectionVars false
open Go Go.Eng
namespace Go.Proofs.Ytnnfobmfffbhaaa
theorem und22 : T0.und.get 22 = some (.slice 65) := by kernel_rfl
theorem und23 : T0.und.get 23 = some (.slice 4) := by kernel_rfl
theorem und43 : T0.und.get 65 = some (.slice 3) := by kernel_rfl
theorem und4 : T0.und.get 4 = some .bool := by kernel_rfl
theorem und28 : T0.und.get 30 = some (.int .i64) := by kernel_rfl
theorem und25 : T0.und.get 25 = T0.und.get 24 := by kernel_rfl
theorem und24 : T0.und.get 24 = some Try.t24.desc := by kernel_rfl
theorem und31 : T0.und.get 28 = T0.und.get 24 := by kernel_rfl
theorem sz3 : aSize T0 3 = some 1 := by kernel_rfl
theorem sz4 : aSize T0 4 = some 1 := by kernel_rfl
theorem sz43 : aSize T0 65 = some 1 := by kernel_rfl
theorem sz22 : aSize T0 22 = some 1 := by kernel_rfl
theorem sz23 : aSize T0 23 = some 1 := by kernel_rfl
theorem fun18 : T0.funcs.get 23 = some Try.f23 := by kernel_rfl
theorem fun17 : T0.funcs.get 47 = some Try.f47 := by kernel_rfl

/-- fields of a boxed automaton -/
theorem field25 (b o f : Nat) (hf : f < 3) : aField T0 25 (.pointer (some ⟨b, o, none⟩)) f = some (.pointer (some ⟨b, o + f, none⟩)) := by
  match f, hf with
  | 0, _ => rfl
  | 1, _ => rfl
  | 2, _ => rfl

def Rows (W : AW) (b o n L : Nat) (nx : Nat → Nat → Nat) : Prop :=
  ∀ s, s < n → ∃ r ro c, W.Has b (o + s) (.slice (some ⟨r, ro, none⟩) L c) ∧ ∀ i, i < L → W.Has r (ro + i) (.int .i64 (nx s i : Nat))
def Goods (W : AW) (b o n : Nat) (gd : Nat → Bool) : Prop := ∀ s, s < n → W.Has b (o + s) (.bool (gd s))
theorem Rows.ext {W W' : AW} {b o n L : Nat} {nx : Nat → Nat → Nat} (h : Rows W b o n L nx) (he : Ext W W') : Rows W' b o n L nx := fun s hs =>
  let ⟨r, ro, c, h1, h2⟩ := h s hs
  ⟨r, ro, c, h1.ext he, fun i hi => (h2 i hi).ext he⟩
theorem Goods.ext {W W' : AW} {b o n : Nat} {gd : Nat → Bool} (h : Goods W b o n gd) (he : Ext W W') : Goods W' b o n gd := fun s hs => (h s hs).ext he
def runN (nx : Nat → Nat → Nat) (s : Nat) (l : List UInt8) : Nat := l.foldl (fun s c => nx s (c.toNat - 97)) s

attribute [local congr] undef_congr WpK.congr WpS.congr WpL.congr WpC.congr WpF.congr gotS.congr callS.congr nextS.congr wantS.congr condS.congr
attribute [local irreducible] WpK
attribute [local simp] WpDr_nil WpDr_cons atS_some dwantS_true dwantS_false kindS_light kindS_float kindS_heavy lightS_value floatS_some heavyS_value heavyS_skip heavyS_enter dcallS_some dcallS_none doneS_eq
  isLight isFloat isPlain dLook testBit_dec dChain dLights_nil dLights_skip dLights_one dLight_nil dLight_cons dFreshes_nil dFreshes_one oneF_none oneF_some dFresh_nil dFresh_cons oneL_some oneW_true oneW_false sameV_value dPut dMay valEq List.getElem?_cons Tr.get_nil dEnd
attribute [local simp] WpS_nil WpS_cons isDefer undef_false wantS_true wantS_false nextS_value nextS_skip nextS_enter callS_some callS_none gotS_some aWanted aOp aEvalF aEval opMove opAssign opPick aVal flat flat1 AAct.put opBinOp opConvert opIndex aConv Tr.get_set Tr.get_lay aBin aResults tupled
  aCall aVals aCallB blt_dec ble_dec beq_dec aBinI_add aBinI_sub aBinI_lss aBinI_leq aBinI_gtr aBinI_geq aBinI_eql aBinI_neq aIndex_str aLen_str Nat.beq_refl und3 und37 und5 und9
  opBox opLoad opFieldAddr opIndexAddr acells aAddr field25 und22 und23 und43 und4 und28

set_option maxHeartbeats 4000000 in
theorem from_wp (L n bN oN cN bG oG cG : Nat) (nx : Nat → Nat → Nat) (s0 : Nat) (w : ByteArray) (l : List UInt8) (hl : w.data.toList = l) (hlen : l.length < 9223372036854775808) (W : AW) (hN : Rows W bN oN n L nx) (hs0 : s0 < n)
    (hnx : ∀ s i, s < n → i < L → nx s i < n) (hw : ∀ c ∈ l, badB L c = false) :
    WpF T0 23 [.agg ⟨[.int .i64 L, .slice (some ⟨bN, oN, none⟩) n cN, .slice (some ⟨bG, oG, none⟩) n cG]⟩, .int .i64 s0, .string w] W (fun v W' => Ext W W' ∧ v = .int .i64 (runN nx s0 l : Nat)) := by
  refine wpF fun18 rfl ?_
  refine wpK_reg (fun R hR => by simp; exact hR) ?_
  simp only [wpK_assoc]
  refine wpK_reg (fun R hR => by simp; exact hR) ?_
  have hE : Ext W (W.newCells 25 [.int .i64 L, .slice (some ⟨bN, oN, none⟩) n cN, .slice (some ⟨bG, oG, none⟩) n cG]) := .newCells _ _ _
  have hN1 := hN.ext hE
  have hb0 : (W.newCells 25 [.int .i64 L, .slice (some ⟨bN, oN, none⟩) n cN, .slice (some ⟨bG, oG, none⟩) n cG]).cell W.next 1 = some (.slice (some ⟨bN, oN, none⟩) n cN) := by rw [newCells_cell, if_pos rfl]; rfl
  generalize W.newCells 25 [.int .i64 L, .slice (some ⟨bN, oN, none⟩) n cN, .slice (some ⟨bG, oG, none⟩) n cG] = W₁ at hE hN1 hb0
  refine wpK_while (I := fun k A W' => W' = W₁ ∧ A.n = 27 ∧ A.defers = [] ∧ A.tmps.get 3 = some (.pointer (some ⟨W.next, 0, none⟩)) ∧ A.tmps.get 2 = some (.string w) ∧
    ∃ i : Nat, k = l.length - i ∧ i ≤ l.length ∧ A.tmps.get 7 = some (.int .i64 i) ∧ A.tmps.get 1 = some (.int .i64 (runN nx s0 (l.take i) : Nat)) ∧ runN nx s0 (l.take i) < n)
    (J := fun A W' => W' = W₁ ∧ A.n = 27 ∧ A.defers = [] ∧ A.tmps.get 1 = some (.int .i64 (runN nx s0 l : Nat)))
    (Rt := fun _ _ => False) (k := l.length) ?_ ?_ ?_ ?_
  · exact ⟨rfl, rfl, rfl, by simp, by simp, 0, by simp, by simp, by simp, by simp [runN], by simpa [runN] using hs0⟩
  · rintro k ⟨t, m, ds⟩ W' ⟨rfl, hn, hd, h3, h2, i, hk, hi, h7, h1, hrun⟩ Q' hJ hRt hI
    simp only at hn hd h3 h2 h7 h1
    subst hn; subst hd
    simp only [wpK_assoc]
    refine wpK_reg (fun R hR => by simp [h2, h7, hl]; exact hR) ?_
    by_cases hlt : i < l.length
    · refine wpK_onT (by simp [hlt]) ?_
      have hc : l[i]? = some l[i] := List.getElem?_eq_getElem hlt
      have hm : l[i] ∈ l := List.getElem_mem hlt
      have htake : l.take (i + 1) = l.take i ++ [l[i]] := by rw [List.take_add_one, hc]; rfl
      generalize l[i] = c at hc hm htake
      have hcl := c.toNat_lt
      have hbad := hw c hm
      simp only [badB, Bool.or_eq_false_iff, decide_eq_false_iff_not] at hbad
      obtain ⟨r, ro, cc, hr1, hr2⟩ := hN1 _ hrun
      have hr3 := hr2 (c.toNat - 97) (by omega)
      refine wpK_block ?_
      have hl1 : aLoadVar T0 W' 22 W.next 1 = some (.slice (some ⟨bN, oN, none⟩) n cN) := by rw [loadVar_cell und22 rfl]; exact hb0
      have hl2 : aLoadVar T0 W' 65 bN (oN + runN nx s0 (l.take i)) = some (.slice (some ⟨r, ro, none⟩) L cc) := by rw [loadVar_cell und43 rfl]; exact hr1.2
      have hl3 : aLoadVar T0 W' 3 r (ro + (c.toNat - 97)) = some (.int .i64 (nx (runN nx s0 (l.take i)) (c.toNat - 97) : Nat)) := by rw [loadVar_cell und3 rfl]; exact hr3.2
      have hwr : IntKind.i64.wrap (IntKind.u8.wrap ((c.toNat : Int) - 97)) = ((c.toNat - 97 : Nat) : Int) := by
        rw [IntWalk.u8_in _ (by omega), IntWalk.i64_in _ (by omega)]; omega
      have ha1 := indexAddr_slice (b := bN) (o := oN) (c := cN) (k := .i64) und22 sz43 hrun
      have ha2 := indexAddr_slice (b := r) (o := ro) (c := cc) (k := .i64) (len := L) (i := c.toNat - 97) und43 sz3 (by omega)
      refine wpK_dr1 (wr := Tr.nil |>.set 14 0 |>.set 15 1 |>.set 16 2 |>.set 17 3 |>.set 18 4 |>.set 19 5 |>.set 20 6 |>.set 21 7 |>.set 22 8 |>.set 23 9 |>.set 24 10 |>.set 25 11 |>.set 1 12) (bits := Tr.nil.lay 0 [0, 1, 0, 7, 15, 0, 0, 96, 224, 480, 1023, 2047, 4095]) (ord := [0, 1, 2, 3, 4, 5, 6, 7, 8, 9, 10, 11, 12])
        (J := fun A' W'' => W'' = W' ∧ A'.n = 27 ∧ A'.defers = [] ∧ A'.tmps.get 3 = some (.pointer (some ⟨W.next, 0, none⟩)) ∧ A'.tmps.get 2 = some (.string w) ∧ A'.tmps.get 7 = some (.int .i64 i) ∧
          A'.tmps.get 1 = some (.int .i64 (nx (runN nx s0 (l.take i)) (c.toNat - 97) : Nat)))
        (by kernel_rfl) (by kernel_rfl) (by kernel_rfl) (fun G hG => ?_) ?_
      · simp only [Nat.mul_one] at ha1 ha2
        simp [h1, h2, h3, h7, hl, hc, hl1, hl2, hl3, hwr, ha1, ha2]
        apply hG
        refine ⟨rfl, rfl, rfl, ?_⟩
        simp [h2, h3, h7]
      · rintro ⟨t', m', ds'⟩ W'' ⟨rfl, hn', hd', h3', h2', h7', h1'⟩
        simp only at hn' hd' h3' h2' h7' h1'
        subst hn'; subst hd'
        refine wpK_reg1 (fun R hR => by simp [h7']; exact hR) ?_
        have hstep : runN nx s0 (l.take (i + 1)) = nx (runN nx s0 (l.take i)) (c.toNat - 97) := by rw [htake]; simp [runN]
        refine hI (k - 1) _ _ (by omega) ⟨rfl, rfl, rfl, by simp [h3'], by simp [h2'], i + 1, by omega, by omega, by simp; exact i64_succ i (by omega), by simp [h1', hstep], ?_⟩
        rw [hstep]; exact hnx _ _ hrun (by omega)
    · refine wpK_out (by simp [hlt]) (hJ _ _ ⟨rfl, rfl, rfl, ?_⟩)
      have : l.take i = l := List.take_of_length_le (by omega)
      rw [this] at h1
      simp [h1]
  · rintro A' W' h; exact h.elim
  · rintro ⟨t, m, ds⟩ W' ⟨rfl, hn, hd, h1⟩
    simp only at hn hd h1
    subst hn; subst hd
    refine wpK_reg (fun R hR => by simp [h1]; exact hR) ?_
    exact wpK_ret ⟨.inr rfl, rfl, [.int .i64 (runN nx s0 l : Nat)], by simp, hE, rfl⟩
end Go.Proofs.Ytnnfobmfffbhaaa

open Go Go.Eng
namespace Go.Proofs.Ytnnfobmfffbhaaa
theorem fun16 : T0.funcs.get 44 = some Try.f44 := by kernel_rfl
theorem field31 (b o f : Nat) (hf : f < 3) : aField T0 28 (.pointer (some ⟨b, o, none⟩)) f = some (.pointer (some ⟨b, o + f, none⟩)) := by
  match f, hf with
  | 0, _ => rfl
  | 1, _ => rfl
  | 2, _ => rfl
attribute [local congr] undef_congr WpK.congr WpS.congr WpL.congr WpC.congr WpF.congr gotS.congr callS.congr nextS.congr wantS.congr condS.congr
attribute [local irreducible] WpK
attribute [local simp] WpDr_nil WpDr_cons atS_some dwantS_true dwantS_false kindS_light kindS_float kindS_heavy lightS_value floatS_some heavyS_value heavyS_skip heavyS_enter dcallS_some dcallS_none doneS_eq
  isLight isFloat isPlain dLook testBit_dec dChain dLights_nil dLights_skip dLights_one dLight_nil dLight_cons dFreshes_nil dFreshes_one oneF_none oneF_some dFresh_nil dFresh_cons oneL_some oneW_true oneW_false sameV_value dPut dMay valEq List.getElem?_cons Tr.get_nil dEnd
attribute [local simp] WpS_nil WpS_cons isDefer undef_false wantS_true wantS_false nextS_value nextS_skip nextS_enter callS_some callS_none gotS_some aWanted aOp aEvalF aEval opMove opAssign opPick aVal flat flat1 AAct.put opBinOp opConvert opIndex aConv Tr.get_set Tr.get_lay aBin aResults tupled
  aCall aVals aCallB blt_dec ble_dec beq_dec aBinI_add aBinI_sub aBinI_lss aBinI_leq aBinI_gtr aBinI_geq aBinI_eql aBinI_neq index_str len_str len_slice Nat.beq_refl und3 und37 und5 und9
  opBox opLoad opFieldAddr opIndexAddr acells aAddr field25 und22 und23 und43 und4 und28
attribute [local simp] field31

set_option maxHeartbeats 4000000 in
theorem checkWord_wp (L : Int) (s : ByteArray) (hs : s.data.toList.length < 9223372036854775808) (W : AW) : WpF T0 44 [.int .i64 L, .string s] W (fun v W' => W' = W ∧ v = .int .i64 (wordErr L s.data.toList)) := by
  refine wpF fun16 rfl ?_
  generalize hl : s.data.toList = l at hs
  refine wpK_reg (fun R hR => by simp; exact hR) ?_
  try simp only [wpK_assoc]
  refine wpK_reg (fun R hR => by simp [hl]; exact hR) ?_
  refine wpK_while (I := fun k A W' => W' = W ∧ A.n = 28 ∧ A.defers = [] ∧ A.tmps.get 0 = some (.int .i64 L) ∧ A.tmps.get 1 = some (.string s) ∧ A.tmps.get 7 = some (.int .i64 (l.length : Nat)) ∧
    ∃ i : Nat, k = l.length - i ∧ i ≤ l.length ∧ A.tmps.get 8 = some (.int .i64 i) ∧ ∀ j c, j < i → l[j]? = some c → badB L c = false)
    (J := fun A W' => W' = W ∧ A.n = 28 ∧ A.defers = [] ∧ A.tmps.get 1 = some (.string s) ∧ l.any (badB L) = false)
    (Rt := fun A W' => W' = W ∧ A.defers = [] ∧ A.tmps.get 4 = some (.int .i64 1) ∧ l.any (badB L) = true) (k := l.length) ?_ ?_ ?_ ?_
  · exact ⟨rfl, rfl, rfl, by simp, by simp, by simp, 0, by simp, by simp, by simp, fun j c hj => by omega⟩
  · rintro k ⟨t, n, ds⟩ W' ⟨rfl, hn, hd, h0, h1, h7, i, hk, hi, h8, hgood⟩ Q' hJ hRt hI
    simp only at hn hd h0 h1 h7 h8
    subst hn; subst hd
    try simp only [wpK_assoc]
    refine wpK_reg (fun R hR => by simp [h7, h8]; exact hR) ?_
    by_cases hlt : i < l.length
    · refine wpK_onT (by simp [hlt]) ?_
      have hc : l[i]? = some l[i] := List.getElem?_eq_getElem hlt
      have hm : l[i] ∈ l := List.getElem_mem hlt
      generalize l[i] = c at hc hm
      have hcl := c.toNat_lt
      refine wpK_block ?_
      refine wpK_reg (fun R hR => by simp [h8]; exact hR) ?_
      by_cases hb : (c.toNat : Int) < 97
      · refine wpK_reg (fun R hR => by simp [h0, h1, hl, hc, hb]; exact hR) ?_
        refine wpK_endT (by simp) ?_
        refine wpK_reg (fun R hR => by simp; exact hR) ?_
        refine wpK_ret (hRt _ _ ⟨rfl, rfl, by simp, ?_⟩)
        rw [List.any_eq_true]
        exact ⟨c, hm, by simp [badB, hb]⟩
      · have hw : IntKind.i64.wrap (IntKind.u8.wrap ((c.toNat : Int) - 97)) = (c.toNat : Int) - 97 := by
          rw [IntWalk.u8_in _ (by omega), IntWalk.i64_in _ (by omega)]
        by_cases hb2 : L ≤ (c.toNat : Int) - 97
        · refine wpK_reg (fun R hR => by simp [h0, h1, hl, hc, hb, hw, hb2]; exact hR) ?_
          refine wpK_endT (by simp) ?_
          refine wpK_reg (fun R hR => by simp; exact hR) ?_
          refine wpK_ret (hRt _ _ ⟨rfl, rfl, by simp, ?_⟩)
          rw [List.any_eq_true]
          exact ⟨c, hm, by simp [badB, hb2]⟩
        · refine wpK_reg (fun R hR => by simp [h0, h1, hl, hc, hb, hw, hb2]; exact hR) ?_
          refine wpK_endF (by simp) (wpK_skip ?_)
          refine wpK_reg1 (fun R hR => by simp [h8]; exact hR) ?_
          refine hI (k - 1) _ _ (by omega) ⟨rfl, rfl, rfl, by simp [h0], by simp [h1], by simp [h7], i + 1, by omega, by omega, by simp; exact i64_succ i (by omega), fun j d hj hd => ?_⟩
          by_cases hji : j = i
          · subst hji; rw [hc] at hd; cases hd; simp [badB, hb, hb2]
          · exact hgood j d (by omega) hd
    · refine wpK_out (by simp [hlt]) (hJ _ _ ⟨rfl, rfl, rfl, by simp [h1], ?_⟩)
      rw [List.any_eq_false]
      intro x hx
      obtain ⟨j, hj, rfl⟩ := List.getElem_of_mem hx
      have := hgood j l[j] (by omega) (List.getElem?_eq_getElem hj)
      simp [this]
  · rintro A' W' ⟨rfl, h1, h2, h3⟩
    exact ⟨.inr rfl, h1, [.int .i64 1], by simp [h2], rfl, by simp [wordErr, h3]⟩
  · rintro ⟨t, n, ds⟩ W' ⟨rfl, hn, hd, h1, hall⟩
    simp only at hn hd h1
    subst hn; subst hd
    try simp only [wpK_assoc]
    refine wpK_reg (fun R hR => by simp [h1, hl]; exact hR) ?_
    by_cases hlen : 5000 < l.length
    · refine wpK_condT (by simp; omega) ?_
      refine wpK_reg (fun R hR => by simp; exact hR) ?_
      exact wpK_ret ⟨.inr rfl, rfl, [.int .i64 2], by simp, rfl, by simp [wordErr, hall, hlen]⟩
    · refine wpK_onF (by simp; omega) ?_
      refine wpK_reg (fun R hR => by simp; exact hR) ?_
      exact wpK_ret ⟨.inr rfl, rfl, [.int .i64 0], by simp, rfl, by simp [wordErr, hall, hlen]⟩

set_option maxHeartbeats 4000000 in
theorem run_wp (L n bN oN cN bG oG cG : Nat) (nx : Nat → Nat → Nat) (s0 : Nat) (w : ByteArray) (l : List UInt8) (hl : w.data.toList = l) (hlen : l.length < 9223372036854775808) (W : AW) (hN : Rows W bN oN n L nx) (hs0 : s0 < n)
    (hnx : ∀ s i, s < n → i < L → nx s i < n) (hw : ∀ c ∈ l, badB L c = false) :
    WpF T0 47 [.agg ⟨[.int .i64 L, .slice (some ⟨bN, oN, none⟩) n cN, .slice (some ⟨bG, oG, none⟩) n cG]⟩, .int .i64 s0, .string w] W (fun v W' => Ext W W' ∧ v = .int .i64 (runN nx s0 l : Nat)) := by
  refine wpF fun17 rfl ?_
  refine wpK_reg (fun R hR => by simp; exact hR) ?_
  try simp only [wpK_assoc]
  refine wpK_reg (fun R hR => by simp [hl]; exact hR) ?_
  have hE : Ext W (W.newCells 28 [.int .i64 L, .slice (some ⟨bN, oN, none⟩) n cN, .slice (some ⟨bG, oG, none⟩) n cG]) := .newCells _ _ _
  have hN1 := hN.ext hE
  have hb0 : (W.newCells 28 [.int .i64 L, .slice (some ⟨bN, oN, none⟩) n cN, .slice (some ⟨bG, oG, none⟩) n cG]).cell W.next 1 = some (.slice (some ⟨bN, oN, none⟩) n cN) := by rw [newCells_cell, if_pos rfl]; rfl
  generalize W.newCells 28 [.int .i64 L, .slice (some ⟨bN, oN, none⟩) n cN, .slice (some ⟨bG, oG, none⟩) n cG] = W₁ at hE hN1 hb0
  refine wpK_while (I := fun k A W' => W' = W₁ ∧ A.n = 26 ∧ A.defers = [] ∧ A.tmps.get 3 = some (.pointer (some ⟨W.next, 0, none⟩)) ∧ A.tmps.get 2 = some (.string w) ∧ A.tmps.get 9 = some (.int .i64 (l.length : Nat)) ∧
    ∃ i : Nat, k = l.length - i ∧ i ≤ l.length ∧ A.tmps.get 10 = some (.int .i64 i) ∧ A.tmps.get 1 = some (.int .i64 (runN nx s0 (l.take i) : Nat)) ∧ runN nx s0 (l.take i) < n)
    (J := fun A W' => W' = W₁ ∧ A.n = 26 ∧ A.defers = [] ∧ A.tmps.get 1 = some (.int .i64 (runN nx s0 l : Nat)))
    (Rt := fun _ _ => False) (k := l.length) ?_ ?_ ?_ ?_
  · exact ⟨rfl, rfl, rfl, by simp, by simp, by simp, 0, by simp, by simp, by simp, by simp [runN], by simpa [runN] using hs0⟩
  · rintro k ⟨t, m, ds⟩ W' ⟨rfl, hn, hd, h3, h2, h9, i, hk, hi, h10, h1, hrun⟩ Q' hJ hRt hI
    simp only at hn hd h3 h2 h9 h10 h1
    subst hn; subst hd
    try simp only [wpK_assoc]
    refine wpK_reg (fun R hR => by simp [h9, h10]; exact hR) ?_
    by_cases hlt : i < l.length
    · refine wpK_onT (by simp [hlt]) ?_
      have hc : l[i]? = some l[i] := List.getElem?_eq_getElem hlt
      have hm : l[i] ∈ l := List.getElem_mem hlt
      have htake : l.take (i + 1) = l.take i ++ [l[i]] := by rw [List.take_add_one, hc]; rfl
      generalize l[i] = c at hc hm htake
      have hcl := c.toNat_lt
      have hbad := hw c hm
      simp only [badB, Bool.or_eq_false_iff, decide_eq_false_iff_not] at hbad
      obtain ⟨r, ro, cc, hr1, hr2⟩ := hN1 _ hrun
      have hr3 := hr2 (c.toNat - 97) (by omega)
      refine wpK_block ?_
      refine wpK_reg (fun R hR => by simp [h10]; exact hR) ?_
      have hl1 : aLoadVar T0 W' 22 W.next 1 = some (.slice (some ⟨bN, oN, none⟩) n cN) := by rw [loadVar_cell und22 rfl]; exact hb0
      have hl2 : aLoadVar T0 W' 65 bN (oN + runN nx s0 (l.take i)) = some (.slice (some ⟨r, ro, none⟩) L cc) := by rw [loadVar_cell und43 rfl]; exact hr1.2
      have hl3 : aLoadVar T0 W' 3 r (ro + (c.toNat - 97)) = some (.int .i64 (nx (runN nx s0 (l.take i)) (c.toNat - 97) : Nat)) := by rw [loadVar_cell und3 rfl]; exact hr3.2
      have hwr : IntKind.u8.wrap ((c.toNat : Int) - 97) = ((c.toNat - 97 : Nat) : Int) := by
        rw [IntWalk.u8_in _ (by omega)]; omega
      have ha1 := indexAddr_slice (b := bN) (o := oN) (c := cN) (k := .i64) und22 sz43 hrun
      have ha2 := indexAddr_slice (b := r) (o := ro) (c := cc) (k := .u8) (len := L) (i := c.toNat - 97) und43 sz3 (by omega)
      refine wpK_dr1 (wr := Tr.nil |>.set 13 0 |>.set 14 1 |>.set 15 2 |>.set 16 3 |>.set 17 4 |>.set 18 5 |>.set 19 6 |>.set 20 7 |>.set 21 8 |>.set 22 9 |>.set 23 10 |>.set 1 11) (bits := Tr.nil.lay 0 [0, 1, 0, 7, 15, 0, 0, 96, 224, 511, 1023, 2047]) (ord := [0, 1, 2, 3, 4, 5, 6, 7, 8, 9, 10, 11])
        (J := fun A' W'' => W'' = W' ∧ A'.n = 26 ∧ A'.defers = [] ∧ A'.tmps.get 3 = some (.pointer (some ⟨W.next, 0, none⟩)) ∧ A'.tmps.get 2 = some (.string w) ∧ A'.tmps.get 9 = some (.int .i64 (l.length : Nat)) ∧ A'.tmps.get 10 = some (.int .i64 i) ∧
          A'.tmps.get 1 = some (.int .i64 (nx (runN nx s0 (l.take i)) (c.toNat - 97) : Nat)))
        (by kernel_rfl) (by kernel_rfl) (by kernel_rfl) (fun G hG => ?_) ?_
      · simp only [Nat.mul_one] at ha1 ha2
        simp [h1, h2, h3, hl, hc, hl1, hl2, hl3, hwr, ha1, ha2]
        apply hG
        refine ⟨rfl, rfl, rfl, ?_⟩
        simp [h2, h3, h9, h10]
      · rintro ⟨t', m', ds'⟩ W'' ⟨rfl, hn', hd', h3', h2', h9', h10', h1'⟩
        simp only at hn' hd' h3' h2' h9' h10' h1'
        subst hn'; subst hd'
        refine wpK_reg1 (fun R hR => by simp [h10']; exact hR) ?_
        have hstep : runN nx s0 (l.take (i + 1)) = nx (runN nx s0 (l.take i)) (c.toNat - 97) := by rw [htake]; simp [runN]
        refine hI (k - 1) _ _ (by omega) ⟨rfl, rfl, rfl, by simp [h3'], by simp [h2'], by simp [h9'], i + 1, by omega, by omega, by simp; exact i64_succ i (by omega), by simp [h1', hstep], ?_⟩
        rw [hstep]; exact hnx _ _ hrun (by omega)
    · refine wpK_out (by simp [hlt]) (hJ _ _ ⟨rfl, rfl, rfl, ?_⟩)
      have : l.take i = l := List.take_of_length_le (by omega)
      rw [this] at h1
      simp [h1]
  · rintro A' W' h; exact h.elim
  · rintro ⟨t, m, ds⟩ W' ⟨rfl, hn, hd, h1⟩
    simp only at hn hd h1
    subst hn; subst hd
    refine wpK_reg (fun R hR => by simp [h1]; exact hR) ?_
    exact wpK_ret ⟨.inr rfl, rfl, [.int .i64 (runN nx s0 l : Nat)], by simp, hE, rfl⟩
end Go.Proofs.Ytnnfobmfffbhaaa

open Go Go.Eng
namespace Go.Proofs.Ytnnfobmfffbhaaa
theorem fun15 : T0.funcs.get 30 = some Try.f30 := by kernel_rfl
theorem fun8 : T0.funcs.get 9 = some Try.f9 := by kernel_rfl
attribute [local congr] undef_congr WpK.congr WpS.congr WpL.congr WpC.congr WpF.congr gotS.congr callS.congr nextS.congr wantS.congr condS.congr
attribute [local irreducible] WpK
attribute [local simp] WpDr_nil WpDr_cons atS_some dwantS_true dwantS_false kindS_light kindS_float kindS_heavy lightS_value floatS_some heavyS_value heavyS_skip heavyS_enter dcallS_some dcallS_none doneS_eq
  isLight isFloat isPlain dLook testBit_dec dChain dLights_nil dLights_skip dLights_one dLight_nil dLight_cons dFreshes_nil dFreshes_one oneF_none oneF_some dFresh_nil dFresh_cons oneL_some oneW_true oneW_false sameV_value dPut dMay valEq List.getElem?_cons Tr.get_nil dEnd
attribute [local simp] WpS_nil WpS_cons isDefer undef_false wantS_true wantS_false nextS_value nextS_skip nextS_enter callS_some callS_none gotS_some aWanted aOp aEvalF aEval opMove opAssign opPick aVal flat flat1 AAct.put opBinOp opConvert opIndex aConv Tr.get_set Tr.get_lay aBin aResults tupled
  aCall aVals aCallB blt_dec ble_dec beq_dec aBinI_add aBinI_sub aBinI_lss aBinI_leq aBinI_gtr aBinI_geq aBinI_eql aBinI_neq index_str len_str len_slice Nat.beq_refl und3 und37 und5 und9
  opBox opLoad opFieldAddr opIndexAddr acells aAddr field25 und22 und23 und43 und4 und28
attribute [local simp] field31

set_option maxHeartbeats 4000000 in
theorem check_wp (L n bN oN cN bG oG cG : Nat) (nx : Nat → Nat → Nat) (W : AW) (hN : Rows W bN oN n L nx) (hL1 : 1 ≤ L) (hL4 : L ≤ 4) (hn1 : 1 ≤ n) (hn64 : n ≤ 64)
    (hnx : ∀ s i, s < n → i < L → nx s i < n) :
    WpF T0 30 [.agg ⟨[.int .i64 L, .slice (some ⟨bN, oN, none⟩) n cN, .slice (some ⟨bG, oG, none⟩) n cG]⟩] W (fun v W' => Ext W W' ∧ v = .int .i64 0) := by
  refine wpF fun15 rfl ?_
  refine wpK_reg (fun R hR => by simp; exact hR) ?_
  have hE : Ext W (W.newCells 28 [.int .i64 L, .slice (some ⟨bN, oN, none⟩) n cN, .slice (some ⟨bG, oG, none⟩) n cG]) := .newCells _ _ _
  have hN1 := hN.ext hE
  have hb0 : (W.newCells 28 [.int .i64 L, .slice (some ⟨bN, oN, none⟩) n cN, .slice (some ⟨bG, oG, none⟩) n cG]).cell W.next 0 = some (.int .i64 L) := by rw [newCells_cell, if_pos rfl]; rfl
  have hb1 : (W.newCells 28 [.int .i64 L, .slice (some ⟨bN, oN, none⟩) n cN, .slice (some ⟨bG, oG, none⟩) n cG]).cell W.next 1 = some (.slice (some ⟨bN, oN, none⟩) n cN) := by rw [newCells_cell, if_pos rfl]; rfl
  have hb2 : (W.newCells 28 [.int .i64 L, .slice (some ⟨bN, oN, none⟩) n cN, .slice (some ⟨bG, oG, none⟩) n cG]).cell W.next 2 = some (.slice (some ⟨bG, oG, none⟩) n cG) := by rw [newCells_cell, if_pos rfl]; rfl
  generalize W.newCells 28 [.int .i64 L, .slice (some ⟨bN, oN, none⟩) n cN, .slice (some ⟨bG, oG, none⟩) n cG] = W₁ at hE hN1 hb0 hb1 hb2
  have hl0 : aLoadVar T0 W₁ 3 W.next 0 = some (.int .i64 L) := by rw [loadVar_cell und3 rfl]; exact hb0
  have hl1 : aLoadVar T0 W₁ 22 W.next 1 = some (.slice (some ⟨bN, oN, none⟩) n cN) := by rw [loadVar_cell und22 rfl]; exact hb1
  have hl2 : aLoadVar T0 W₁ 23 W.next 2 = some (.slice (some ⟨bG, oG, none⟩) n cG) := by rw [loadVar_cell und23 rfl]; exact hb2
  have e1 : ¬ ((L : Int) < 1) := by omega
  have e2 : ¬ (4 < (L : Int)) := by omega
  have e3 : ¬ ((n : Int) < 1) := by omega
  have e4 : ¬ (64 < (n : Int)) := by omega
  have e5 : L ≠ 0 := by omega
  have e6 : n ≠ 0 := by omega
  try simp only [wpK_assoc]
  refine wpK_reg (fun R hR => by simp [hl0, e1, e2, e5]; exact hR) ?_
  try simp only [wpK_assoc]
  refine wpK_onF (by simp) ?_
  try simp only [wpK_assoc]
  refine wpK_reg (fun R hR => by simp [hl1]; exact hR) ?_
  try simp only [wpK_assoc]
  refine wpK_reg (fun R hR => by simp [hl2, e3, e4, e6]; exact hR) ?_
  try simp only [wpK_assoc]
  refine wpK_onF (by simp) ?_
  try simp only [wpK_assoc]
  refine wpK_reg (fun R hR => by simp [hl1]; exact hR) ?_
  refine wpK_while (I := fun k A W' => W' = W₁ ∧ A.n = 59 ∧ A.defers = [] ∧ A.tmps.get 1 = some (.pointer (some ⟨W.next, 0, none⟩)) ∧ A.tmps.get 3 = some (.int .i64 n) ∧ A.tmps.get 33 = some (.slice (some ⟨bN, oN, none⟩) n cN) ∧ A.tmps.get 34 = some (.int .i64 n) ∧
    ∃ s : Nat, k = n - s ∧ s ≤ n ∧ A.tmps.get 35 = some (.int .i64 s))
    (J := fun A W' => W' = W₁ ∧ A.n = 59 ∧ A.defers = [])
    (Rt := fun _ _ => False) (k := n) ?_ ?_ ?_ ?_
  · exact ⟨rfl, rfl, rfl, by simp, by simp, by simp, by simp, 0, by simp, by simp, by simp⟩
  · rintro k ⟨t, m, ds⟩ W' ⟨rfl, hm, hd, h1, h3, h33, h34, s, hk, hs, h35⟩ Q' hJ hRt hI
    simp only at hm hd h1 h3 h33 h34 h35
    subst hm; subst hd
    try simp only [wpK_assoc]
    refine wpK_reg (fun R hR => by simp [h34, h35]; exact hR) ?_
    by_cases hlt : s < n
    · refine wpK_onT (by simp [hlt]) ?_
      obtain ⟨r, ro, cc, hr1, hr2⟩ := hN1 _ hlt
      have ha1 := indexAddr_slice (b := bN) (o := oN) (c := cN) (k := .i64) und22 sz43 hlt
      have hl3 : aLoadVar T0 W' 65 bN (oN + s) = some (.slice (some ⟨r, ro, none⟩) L cc) := by rw [loadVar_cell und43 rfl]; exact hr1.2
      simp only [Nat.mul_one] at ha1
      refine wpK_block ?_
      try simp only [wpK_assoc]
      refine wpK_reg (fun R hR => by simp [h33, h35, ha1, hl3]; exact hR) ?_
      try simp only [wpK_assoc]
      refine wpK_reg (fun R hR => by simp [h1, hl0]; exact hR) ?_
      try simp only [wpK_assoc]
      refine wpK_onF (by simp) ?_
      try simp only [wpK_assoc]
      refine wpK_reg (fun R hR => by simp; exact hR) ?_
      refine wpK_while1 (I := fun k A W'' => W'' = W' ∧ A.n = 59 ∧ A.defers = [] ∧ A.tmps.get 1 = some (.pointer (some ⟨W.next, 0, none⟩)) ∧ A.tmps.get 3 = some (.int .i64 n) ∧ A.tmps.get 33 = some (.slice (some ⟨bN, oN, none⟩) n cN) ∧ A.tmps.get 34 = some (.int .i64 n) ∧
        A.tmps.get 35 = some (.int .i64 s) ∧ A.tmps.get 44 = some (.slice (some ⟨r, ro, none⟩) L cc) ∧ A.tmps.get 45 = some (.int .i64 L) ∧ ∃ i : Nat, k = L - i ∧ i ≤ L ∧ A.tmps.get 46 = some (.int .i64 i))
        (J := fun A W'' => W'' = W' ∧ A.n = 59 ∧ A.defers = [] ∧ A.tmps.get 1 = some (.pointer (some ⟨W.next, 0, none⟩)) ∧ A.tmps.get 3 = some (.int .i64 n) ∧ A.tmps.get 33 = some (.slice (some ⟨bN, oN, none⟩) n cN) ∧ A.tmps.get 34 = some (.int .i64 n) ∧
          A.tmps.get 35 = some (.int .i64 s))
        (Rt := fun _ _ => False) (k := L) ?_ ?_ ?_ ?_
      · exact ⟨rfl, rfl, rfl, by simp [h1], by simp [h3], by simp [h33], by simp [h34], by simp [h35], by simp, by simp, 0, by simp, by simp, by simp⟩
      · rintro k' ⟨t', m', ds'⟩ W'' ⟨rfl, hm, hd, h1, h3, h33, h34, h35, h44, h45, i, hk', hi, h46⟩ Q'' hJ' hRt' hI'
        simp only at hm hd h1 h3 h33 h34 h35 h44 h45 h46
        subst hm; subst hd
        try simp only [wpK_assoc]
        refine wpK_reg (fun R hR => by simp [h45, h46]; exact hR) ?_
        by_cases hlt' : i < L
        · refine wpK_onT (by simp [hlt']) ?_
          have ha2 := indexAddr_slice (b := r) (o := ro) (c := cc) (k := .i64) (len := L) (i := i) und43 sz3 hlt'
          simp only [Nat.mul_one] at ha2
          have hl4 : aLoadVar T0 W'' 3 r (ro + i) = some (.int .i64 (nx s i : Nat)) := by rw [loadVar_cell und3 rfl]; exact (hr2 i hlt').2
          have hb := hnx s i hlt hlt'
          have e7 : ¬ ((nx s i : Int) < 0) := by omega
          have e8 : ¬ (n ≤ nx s i) := by omega
          refine wpK_block ?_
          try simp only [wpK_assoc]
          refine wpK_reg (fun R hR => by simp [h44, h46, ha2, hl4]; exact hR) ?_
          try simp only [wpK_assoc]
          refine wpK_reg (fun R hR => by simp [h3, e7, e8]; exact hR) ?_
          refine wpK_endF (by simp) (wpK_skip ?_)
          refine wpK_reg1 (fun R hR => by simp [h46]; exact hR) ?_
          exact hI' (k' - 1) _ _ (by omega) ⟨rfl, rfl, rfl, by simp [h1], by simp [h3], by simp [h33], by simp [h34], by simp [h35], by simp [h44], by simp [h45], i + 1, by omega, by omega, by simp; exact i64_succ i (by omega)⟩
        · exact wpK_out (by simp [hlt']) (hJ' _ _ ⟨rfl, rfl, rfl, by simp [h1], by simp [h3], by simp [h33], by simp [h34], by simp [h35]⟩)
      · rintro A' W'' h; exact h.elim
      · rintro ⟨t', m', ds'⟩ W'' ⟨rfl, hm, hd, h1, h3, h33, h34, h35⟩
        simp only at hm hd h1 h3 h33 h34 h35
        subst hm; subst hd
        refine wpK_reg1 (fun R hR => by simp [h35]; exact hR) ?_
        exact hI (k - 1) _ _ (by omega) ⟨rfl, rfl, rfl, by simp [h1], by simp [h3], by simp [h33], by simp [h34], s + 1, by omega, by omega, by simp; exact i64_succ s (by omega)⟩
    · exact wpK_out (by simp [hlt]) (hJ _ _ ⟨rfl, rfl, rfl⟩)
  · rintro A' W' h; exact h.elim
  · rintro ⟨t, m, ds⟩ W' ⟨rfl, hm, hd⟩
    simp only at hm hd
    subst hm; subst hd
    refine wpK_reg (fun R hR => by simp; exact hR) ?_
    exact wpK_ret ⟨.inr rfl, rfl, [.int .i64 0], by simp, hE, rfl⟩

/-- an automaton as a value -/
abbrev autoV (L n bN oN cN bG oG cG : Nat) : Value := .agg ⟨[.int .i64 L, .slice (some ⟨bN, oN, none⟩) n cN, .slice (some ⟨bG, oG, none⟩) n cG]⟩
theorem build31 (L : Int) (a a' : Addr) (n c n' c' : Nat) : aBuild T0 28 [(0, .int .i64 L), (1, .slice (some a) n c), (2, .slice (some a') n' c')] = some (.agg ⟨[.int .i64 L, .slice (some a) n c, .slice (some a') n' c']⟩) := by kernel_rfl
theorem zero31 : aZero T0 28 = some (.agg ⟨[.int .i64 0, .slice none 0 0, .slice none 0 0]⟩) := by kernel_rfl
theorem zero25 : aZero T0 25 = some (.agg ⟨[.int .i64 0, .slice none 0 0, .slice none 0 0]⟩) := by kernel_rfl
theorem inf31 : T0.info.get 28 = some Try.t28 := by kernel_rfl
theorem inf25 : T0.info.get 25 = some Try.t25 := by kernel_rfl
theorem load31 {W : AW} {b o : Nat} {l : List Value} (h : W.cellsAt b o 3 = some l) : aLoadVar T0 W 28 b o = some (.agg ⟨l⟩) := loadVar_agg (und31.trans und24) (by kernel_rfl) inf31 h
theorem load25 {W : AW} {b o : Nat} {l : List Value} (h : W.cellsAt b o 3 = some l) : aLoadVar T0 W 25 b o = some (.agg ⟨l⟩) := loadVar_agg (und25.trans und24) (by kernel_rfl) inf25 h

set_option maxHeartbeats 4000000 in
theorem give_wp (L n bN oN cN bG oG cG : Nat) (W : AW) : WpF T0 9 [autoV L n bN oN cN bG oG cG] W (fun v W' => Ext W W' ∧ v = autoV L n bN oN cN bG oG cG) := by
  refine wpF fun8 rfl ?_
  refine wpK_reg (fun R hR => by simp [opAlloc, zero31]; exact hR) ?_
  have hE1 : Ext W (W.newCells 25 [.int .i64 L, .slice (some ⟨bN, oN, none⟩) n cN, .slice (some ⟨bG, oG, none⟩) n cG]) := .newCells _ _ _
  have hb0 : ∀ j, j < 3 → (W.newCells 25 [.int .i64 L, .slice (some ⟨bN, oN, none⟩) n cN, .slice (some ⟨bG, oG, none⟩) n cG]).Has W.next j ([.int .i64 L, .slice (some ⟨bN, oN, none⟩) n cN, .slice (some ⟨bG, oG, none⟩) n cG].getD j undef) := fun j hj =>
    Has.newCells (by match j, hj with | 0, _ => rfl | 1, _ => rfl | 2, _ => rfl)
  have hnx1 : (W.newCells 25 [.int .i64 L, .slice (some ⟨bN, oN, none⟩) n cN, .slice (some ⟨bG, oG, none⟩) n cG]).next = W.next + 1 := rfl
  generalize W.newCells 25 [.int .i64 L, .slice (some ⟨bN, oN, none⟩) n cN, .slice (some ⟨bG, oG, none⟩) n cG] = W₁ at hE1 hb0 hnx1
  have hE2 : Ext W₁ (W₁.newCells 28 [.int .i64 0, .slice none 0 0, .slice none 0 0]) := .newCells _ _ _
  have hg2 : (W₁.newCells 28 [.int .i64 0, .slice none 0 0, .slice none 0 0]).blocks.get W₁.next = some ⟨.cells (Tr.nil.lay 0 [.int .i64 0, .slice none 0 0, .slice none 0 0]) 3 28, []⟩ := by rw [newCells_get, if_pos rfl]; rfl
  have hnx2 : (W₁.newCells 28 [.int .i64 0, .slice none 0 0, .slice none 0 0]).next = W₁.next + 1 := rfl
  generalize W₁.newCells 28 [.int .i64 0, .slice none 0 0, .slice none 0 0] = W₂ at hE2 hg2 hnx2
  have hl0 : aLoadVar T0 W₂ 3 W.next 0 = some (.int .i64 L) := by rw [loadVar_cell und3 rfl]; exact ((hb0 0 (by omega)).ext hE2).2
  have hl1 : aLoadVar T0 W₂ 22 W.next 1 = some (.slice (some ⟨bN, oN, none⟩) n cN) := by rw [loadVar_cell und22 rfl]; exact ((hb0 1 (by omega)).ext hE2).2
  have hl2 : aLoadVar T0 W₂ 23 W.next 2 = some (.slice (some ⟨bG, oG, none⟩) n cG) := by rw [loadVar_cell und23 rfl]; exact ((hb0 2 (by omega)).ext hE2).2
  obtain ⟨W₃, hs1, hs2, hs3, hs4⟩ := storeVar_own (T := T0) (t := 28) (v := autoV L n bN oN cN bG oG cG) (o := 0) inf31 (by kernel_rfl) hg2 (by show 0 + 3 ≤ 3; omega) rfl
  refine wpK_reg (fun R hR => by simp [hl0, hl1, hl2, opBuild, aParts, build31, opStore, hs1]; exact hR) ?_
  have hc : W₃.cellsAt W₁.next 0 3 = some [.int .i64 L, .slice (some ⟨bN, oN, none⟩) n cN, .slice (some ⟨bG, oG, none⟩) n cG] := by
    simp only [AW.cellsAt, hs4, ble_dec]
    refine take_get _ 3 0 _ rfl (fun j hj => ?_)
    rw [Tr.get_lay]
    simp only [acells, List.length_cons, List.length_nil, Nat.zero_add, Nat.zero_le, true_and, Nat.sub_zero]
    rw [if_pos hj]
  refine wpK_ret ⟨.inr rfl, rfl, [autoV L n bN oN cN bG oG cG], ?_, ⟨?_, fun b hb _ => ?_⟩, rfl⟩
  · show aResults T0 W₃ _ [.cell 2 28] = _
    simp [load31 hc]
  · omega
  · have h1 := hE1.1
    rw [hs3 b (by omega), hE2.2 b (by omega) (fun x => x), hE1.2 b hb (fun x => x)]

end Go.Proofs.Ytnnfobmfffbhaaa

open Go Go.Eng
namespace Go.Proofs.Ytnnfobmfffbhaaa
theorem fun7 : T0.funcs.get 29 = some Try.f29 := by kernel_rfl
attribute [local congr] undef_congr WpK.congr WpS.congr WpL.congr WpC.congr WpF.congr gotS.congr callS.congr nextS.congr wantS.congr condS.congr
attribute [local irreducible] WpK
attribute [local simp] WpDr_nil WpDr_cons atS_some dwantS_true dwantS_false kindS_light kindS_float kindS_heavy lightS_value floatS_some heavyS_value heavyS_skip heavyS_enter dcallS_some doneS_eq
  isLight isFloat isPlain dLook testBit_dec dChain dLights_nil dLights_skip dLights_one dLight_nil dLight_cons dFreshes_nil dFreshes_one oneF_none oneF_some dFresh_nil dFresh_cons oneL_some oneW_true oneW_false sameV_value dPut dMay valEq arrEq listEq List.getElem?_cons Tr.get_nil dEnd
attribute [local simp] WpS_nil WpS_cons isDefer undef_false wantS_true wantS_false nextS_value nextS_skip nextS_enter callS_some gotS_some aWanted aOp aEvalF aEval opMove opAssign opPick aVal flat flat1 AAct.put opBinOp opConvert opIndex aConv Tr.get_set Tr.get_lay aBin aResults tupled
  aCall aVals aCallB blt_dec ble_dec beq_dec aBinI_add aBinI_sub aBinI_lss aBinI_leq aBinI_gtr aBinI_geq aBinI_eql aBinI_neq index_str len_str len_slice Nat.beq_refl und3 und37 und5 und9
  opBox opLoad opFieldAddr opIndexAddr acells aAddr field25 und22 und23 und43 und4 und28
attribute [local simp] field31


set_option maxHeartbeats 4000000 in
theorem accepts_wp (L n bN oN cN bG oG cG : Nat) (nx : Nat → Nat → Nat) (gd : Nat → Bool) (w : ByteArray) (l : List UInt8) (hl : w.data.toList = l) (hlen : l.length < 9223372036854775808) (W : AW) (hN : Rows W bN oN n L nx) (hG : Goods W bG oG n gd)
    (hL1 : 1 ≤ L) (hL4 : L ≤ 4) (hn : 1 ≤ n) (hn64 : n ≤ 64) (hnx : ∀ s i, s < n → i < L → nx s i < n) :
    WpF T0 29 [autoV L n bN oN cN bG oG cG, .string w] W (fun v W' => Ext W W' ∧ v = .tuple ⟨[.bool (if wordErr L l = 0 then gd (runN nx 0 l) else false), .int .i64 (wordErr L l)]⟩) := by
  refine wpF fun7 rfl ?_
  refine wpK_reg (fun R hR => by simp; exact hR) ?_
  have hE : Ext W (W.newCells 28 [.int .i64 L, .slice (some ⟨bN, oN, none⟩) n cN, .slice (some ⟨bG, oG, none⟩) n cG]) := .newCells _ _ _
  have hb0 : ∀ j, j < 3 → (W.newCells 28 [.int .i64 L, .slice (some ⟨bN, oN, none⟩) n cN, .slice (some ⟨bG, oG, none⟩) n cG]).Has W.next j ([.int .i64 L, .slice (some ⟨bN, oN, none⟩) n cN, .slice (some ⟨bG, oG, none⟩) n cG].getD j undef) := fun j hj =>
    Has.newCells (by match j, hj with | 0, _ => rfl | 1, _ => rfl | 2, _ => rfl)
  have hat : ∃ k, (W.newCells 28 [.int .i64 L, .slice (some ⟨bN, oN, none⟩) n cN, .slice (some ⟨bG, oG, none⟩) n cG]).blocks.get W.next = some k := ⟨_, by rw [newCells_get, if_pos rfl]⟩
  generalize W.newCells 28 [.int .i64 L, .slice (some ⟨bN, oN, none⟩) n cN, .slice (some ⟨bG, oG, none⟩) n cG] = W₁ at hE hb0 hat
  have hN1 := hN.ext hE
  have hG1 := hG.ext hE
  have hlt : W.next < W₁.next := (hb0 0 (by omega)).1
  have hl0 : ∀ W', Ext W₁ W' → aLoadVar T0 W' 3 W.next 0 = some (.int .i64 L) := fun W' h => by rw [loadVar_cell und3 rfl]; exact ((hb0 0 (by omega)).ext h).2
  have hl2 : ∀ W', Ext W₁ W' → aLoadVar T0 W' 23 W.next 2 = some (.slice (some ⟨bG, oG, none⟩) n cG) := fun W' h => by rw [loadVar_cell und23 rfl]; exact ((hb0 2 (by omega)).ext h).2
  have hl31 : ∀ W', Ext W₁ W' → aLoadVar T0 W' 28 W.next 0 = some (autoV L n bN oN cN bG oG cG) := fun W' h => by
    refine load31 (cellsAt_of_cells rfl ?_ (fun j hj => ?_) (by omega))
    · obtain ⟨k, hk⟩ := hat
      exact ⟨k, by rw [h.2 _ hlt (fun x => x)]; exact hk⟩
    · rw [Nat.zero_add, ((hb0 j hj).ext h).2]
      match j, hj with
      | 0, _ => rfl
      | 1, _ => rfl
      | 2, _ => rfl
  try simp only [wpK_assoc]
  refine wpK_regc (J := fun A' W' => Ext W₁ W' ∧ A'.n = 27 ∧ A'.defers = [] ∧ A'.tmps.get 1 = some (.string w) ∧ A'.tmps.get 2 = some (.pointer (some ⟨W.next, 0, none⟩)) ∧ A'.tmps.get 6 = some (.int .i64 0)) (fun R hR => ?_) ?_
  · simp [hl31 W₁ (.refl _ _), aEnter, fun15, short_other, aCallV]
    rw [callS_none]
    refine (check_wp L n bN oN cN bG oG cG nx W₁ hN1 hL1 hL4 hn hn64 hnx).mono (fun v W₂ ⟨hE2, hv⟩ => ?_)
    subst hv
    simp
    apply hR
    exact ⟨hE2, rfl, rfl, by simp, by simp, by simp⟩
  rintro ⟨t, m, ds⟩ W₂ ⟨hE2, hm, hd, h1, h2, h6⟩
  simp only at hm hd h1 h2 h6
  subst hm; subst hd
  try simp only [wpK_assoc]
  refine wpK_reg (fun R hR => by simp [h6]; exact hR) ?_
  try simp only [wpK_assoc]
  refine wpK_onF (by simp) ?_
  try simp only [wpK_assoc]
  refine wpK_regc (J := fun A' W' => Ext W₁ W' ∧ A'.n = 27 ∧ A'.defers = [] ∧ A'.tmps.get 1 = some (.string w) ∧ A'.tmps.get 2 = some (.pointer (some ⟨W.next, 0, none⟩)) ∧ A'.tmps.get 7 = some (.int .i64 (wordErr L l))) (fun R hR => ?_) ?_
  · simp [h1, h2, hl0 W₂ hE2, aEnter, fun16, short_other, aCallV]
    rw [callS_none]
    refine (checkWord_wp L w (by rw [hl]; exact hlen) W₂).mono (fun v W₃ ⟨hE3, hv⟩ => ?_)
    subst hE3; subst hv
    simp [hl]
    apply hR
    exact ⟨hE2, rfl, rfl, by simp [h1], by simp [h2], by simp⟩
  rintro ⟨t, m, ds⟩ W₃ ⟨hE3, hm, hd, h1, h2, h7⟩
  simp only at hm hd h1 h2 h7
  subst hm; subst hd
  try simp only [wpK_assoc]
  refine wpK_reg (fun R hR => by simp [h7]; exact hR) ?_
  try simp only [wpK_assoc]
  by_cases he : wordErr L l = 0
  · refine wpK_onF (by simp [he]) ?_
    have hw : ∀ c ∈ l, badB L c = false := by
      intro c hc
      unfold wordErr at he
      split at he
      · cases he
      · rename_i h0
        have := List.any_eq_false.1 (Bool.eq_false_iff.2 h0) c hc
        simpa using this
    have hrun : runN nx 0 l < n := by
      have : ∀ (l : List UInt8) (s : Nat), s < n → (∀ c ∈ l, badB L c = false) → runN nx s l < n := by
        intro l
        induction l with
        | nil => intro s hs _; exact hs
        | cons c l ih =>
          intro s hs hb
          have hc := hb c (List.mem_cons_self ..)
          simp only [badB, Bool.or_eq_false_iff, decide_eq_false_iff_not] at hc
          exact ih _ (hnx _ _ hs (by omega)) (fun d hd => hb d (List.mem_cons_of_mem _ hd))
      exact this l 0 (by omega) hw
    have ha1 := indexAddr_slice (b := bG) (o := oG) (c := cG) (k := .i64) und23 sz4 hrun
    simp only [Nat.mul_one] at ha1
    refine wpK_dr (wr := Tr.nil |>.set 20 0 |>.set 21 1 |>.set 22 2 |>.set 23 3 |>.set 24 4 |>.set 25 5 |>.set 26 6 |>.set 4 7 |>.set 5 8) (bits := Tr.nil.lay 0 [0, 1, 0, 0, 12, 31, 63, 127, 255]) (ord := [0, 1, 2, 3, 4, 5, 6, 7, 8])
      (J := fun A' W'' => Ext W W'' ∧ A'.n = 27 ∧ A'.defers = [] ∧ A'.tmps.get 4 = some (.bool (gd (runN nx 0 l))) ∧ A'.tmps.get 5 = some (.int .i64 0))
      (by kernel_rfl) (by kernel_rfl) (by kernel_rfl) (fun G hG' => ?_) ?_
    · simp [h1, h2, hl2 W₃ hE3, hl31 W₃ hE3, aEnter, fun17, short_other, aCallV]
      rw [dcallS_none]
      refine (run_wp L n bN oN cN bG oG cG nx 0 w l hl hlen W₃ (hN1.ext hE3) (by omega) hnx hw).mono (fun v W₄ ⟨hE4, hv⟩ => ?_)
      subst hv
      have hg : aLoadVar T0 W₄ 4 bG (oG + runN nx 0 l) = some (.bool (gd (runN nx 0 l))) := by rw [loadVar_cell und4 rfl]; exact (((hG1 _ hrun).ext hE3).ext hE4).2
      simp [h1, h2, hl2 W₃ hE3, hl2 W₄ (hE3.trans hE4), hl31 W₃ hE3, ha1, hg, hE4.1]
      apply hG'
      exact ⟨(hE.trans hE3).trans hE4, rfl, rfl, by simp, by simp⟩
    · rintro ⟨t', m', ds'⟩ W'' ⟨hE', hn', hd', h4', h5'⟩
      simp only at hn' hd' h4' h5'
      subst hn'; subst hd'
      exact wpK_ret ⟨.inr rfl, rfl, [.bool (gd (runN nx 0 l)), .int .i64 0], by simp [h4', h5'], hE', by simp [he]⟩
  · refine wpK_condT (by simp [he]) ?_
    refine wpK_reg (fun R hR => by simp [h7]; exact hR) ?_
    exact wpK_ret ⟨.inr rfl, rfl, [.bool false, .int .i64 (wordErr L l)], by simp, hE.trans hE3, by simp [he]⟩
end Go.Proofs.Ytnnfobmfffbhaaa

open Go Go.Eng
namespace Go.Proofs.Ytnnfobmfffbhaaa
attribute [local congr] undef_congr WpK.congr WpS.congr WpL.congr WpC.congr WpF.congr gotS.congr callS.congr nextS.congr wantS.congr condS.congr
attribute [local irreducible] WpK
attribute [local simp] WpDr_nil WpDr_cons atS_some dwantS_true dwantS_false kindS_light kindS_float kindS_heavy lightS_value floatS_some heavyS_value heavyS_skip heavyS_enter dcallS_some doneS_eq
  isLight isFloat isPlain dLook testBit_dec dChain dLights_nil dLights_skip dLights_one dLight_nil dLight_cons dFreshes_nil dFreshes_one oneF_none oneF_some dFresh_nil dFresh_cons oneL_some oneW_true oneW_false sameV_value dPut dMay valEq arrEq listEq List.getElem?_cons Tr.get_nil dEnd
attribute [local simp] WpS_nil WpS_cons isDefer undef_false wantS_true wantS_false nextS_value nextS_skip nextS_enter callS_some gotS_some aWanted aOp aEvalF aEval opMove opAssign opPick aVal flat flat1 AAct.put opBinOp opConvert opIndex Tr.get_set Tr.get_lay aBin aResults tupled
  aCall aVals aCallB blt_dec ble_dec beq_dec aBinI_add aBinI_sub aBinI_lss aBinI_leq aBinI_gtr aBinI_geq aBinI_eql aBinI_neq index_str len_str len_slice Nat.beq_refl und3 und37 und5 und9
  opBox opLoad opFieldAddr opIndexAddr acells aAddr field25 und22 und23 und43 und4 und28
attribute [local simp] field31


theorem fun11 : T0.funcs.get 24 = some Try.f24 := by kernel_rfl
theorem und38 : T0.und.get 92 = some (.slice 5) := by kernel_rfl
theorem conv_3_5 (W : AW) (k : IntKind) (n : Int) : aConv T0 W 3 5 (.int k n) = some (.int .u8 (IntKind.u8.wrap n)) := by kernel_rfl
theorem conv_3_37 (W : AW) (k : IntKind) (n : Int) : aConv T0 W 3 60 (.int k n) = some (.int .u64 (IntKind.u64.wrap n)) := by kernel_rfl
theorem conv_37_3 (W : AW) (k : IntKind) (n : Int) : aConv T0 W 60 3 (.int k n) = some (.int .i64 (IntKind.i64.wrap n)) := by kernel_rfl
theorem conv_5_3 (W : AW) (k : IntKind) (n : Int) : aConv T0 W 5 3 (.int k n) = some (.int .i64 (IntKind.i64.wrap n)) := by kernel_rfl
attribute [local simp] conv_3_5 conv_3_37 conv_37_3 conv_5_3
theorem bs38 (W : AW) (v : Int) : aBuildSlice T0 W 92 1 [(0, .int .u8 v)] = some (.slice (some ⟨W.next, 0, none⟩) 1 2, W.newCells 5 [.int .u8 v]) := by kernel_rfl
theorem newCells_cellsAt (W : AW) (el : TypeId) (l : List Value) (n : Nat) (h : l.length = n) : (W.newCells el l).cellsAt W.next 0 n = some l := by
  simp only [AW.cellsAt, newCells_get, if_pos, ble_dec]
  rw [decide_eq_true (by omega)]
  exact take_get _ n 0 l h (fun j hj => by rw [Tr.get_lay, if_pos (by omega)]; simp)
theorem conv38 (W : AW) (v : Int) : ∃ u : ByteArray, u.data.toList.length = 1 ∧ aConv T0 (W.newCells 5 [.int .u8 v]) 92 9 (.slice (some ⟨W.next, 0, none⟩) 1 2) = some (.string u) := by
  simp only [aConv, und38, und9, und5, newCells_cellsAt W 5 [.int .u8 v] 1 rfl]
  exact ⟨⟨⟨[UInt8.ofNat v.toNat]⟩⟩, rfl, rfl⟩

set_option maxHeartbeats 4000000 in
theorem text_wp (K : Nat) (hK : K ≤ 1000) (L : Nat) (hL1 : 1 ≤ L) (hL4 : L ≤ 4) (s : ByteArray) (l : List UInt8) (hl : s.data.toList = l) (hlen : l.length < 9223372036854775808) (W : AW) :
    WpF T0 24 [.string s, .int .i64 L, .int .i64 K] W (fun v W' => Ext W W' ∧ ∃ u : ByteArray, v = .string u ∧ u.data.toList.length ≤ K) := by
  refine wpF fun11 rfl ?_
  refine wpK_reg (fun R hR => by simp; exact hR) ?_
  try simp only [wpK_assoc]
  refine wpK_reg (fun R hR => by simp; exact hR) ?_
  try simp only [wpK_assoc]
  refine wpK_reg (fun R hR => by simp; exact hR) ?_
  refine wpK_while (I := fun k A W' => Ext W W' ∧ A.n = 32 ∧ A.defers = [] ∧ A.tmps.get 0 = some (.string s) ∧ A.tmps.get 1 = some (.int .i64 L) ∧ A.tmps.get 2 = some (.int .i64 K) ∧
    ∃ i : Nat, k = K - i ∧ i ≤ K ∧ A.tmps.get 8 = some (.int .i64 i) ∧ ∃ u : ByteArray, A.tmps.get 7 = some (.string u) ∧ u.data.toList.length ≤ i)
    (J := fun A W' => Ext W W' ∧ A.n = 32 ∧ A.defers = [] ∧ ∃ u : ByteArray, A.tmps.get 7 = some (.string u) ∧ u.data.toList.length ≤ K)
    (Rt := fun _ _ => False) (k := K) ?_ ?_ ?_ ?_
  · exact ⟨.refl _ _, rfl, rfl, by simp, by simp, by simp, 0, by simp, by simp, by simp, _, by simp; rfl, by simp⟩
  · rintro k ⟨t, m, ds⟩ W' ⟨hE, hm, hd, h0, h1, h2, i, hk, hi, h8, u, h7, hu⟩ Q' hJ hRt hI
    simp only at hm hd h0 h1 h2 h8 h7
    subst hm; subst hd
    try simp only [wpK_assoc]
    by_cases hlt : i < l.length
    · by_cases hlt2 : i < K
      · have hlt3 : (i : Int) < K := by omega
        refine wpK_reg (fun R hR => by simp [h0, h2, h8, hl, hlt, hlt3]; exact hR) ?_
        refine wpK_onT (by simp) ?_
        have hc : l[i]? = some l[i] := List.getElem?_eq_getElem hlt
        generalize l[i] = c at hc
        have hcl := c.toNat_lt
        have hw : IntKind.u8.wrap (L : Int) = L := IntWalk.u8_in _ (by omega)
        have hne : (L : Int) ≠ 0 := by omega
        have hrem := aBinI_rem .u8 (c.toNat : Int) (L : Int) hne
        obtain ⟨u1, hu1, hcv⟩ := conv38 W' (IntKind.u8.wrap (97 + (c.toNat : Int).tmod L))
        have hst : aStr .add u u1 = some (.string ⟨⟨u.data.toList ++ u1.data.toList⟩⟩) := by
          simp only [aStr, ble_dec]
          rw [decide_eq_true (by omega)]
        refine wpK_block ?_
        try simp only [wpK_assoc]
        refine wpK_reg1 (fun R hR => by simp [h0, h1, h7, h8, hl, hc, hw, hrem, opBuildSlice, aParts, bs38, aValW, hcv, hst]; exact hR) ?_
        refine wpK_reg1 (fun R hR => by simp [h8]; exact hR) ?_
        refine hI (k - 1) _ _ (by omega) ⟨hE.trans (.newCells _ _ _), rfl, rfl, by simp [h0], by simp [h1], by simp [h2], i + 1, by omega, by omega, by simp; exact i64_succ i (by omega), _, by simp; rfl, ?_⟩
        simp only [List.length_append]; omega
      · have hlt3 : ¬ (i : Int) < K := by omega
        refine wpK_reg (fun R hR => by simp [h0, h2, h8, hl, hlt, hlt3]; exact hR) ?_
        exact wpK_out (by simp) (hJ _ _ ⟨hE, rfl, rfl, u, by simp [h7], by omega⟩)
    · refine wpK_reg (fun R hR => by simp [h0, h2, h8, hl, hlt]; exact hR) ?_
      exact wpK_out (by simp) (hJ _ _ ⟨hE, rfl, rfl, u, by simp [h7], by omega⟩)
  · rintro A' W' h; exact h.elim
  · rintro ⟨t, m, ds⟩ W' ⟨hE, hm, hd, u, h7, hu⟩
    simp only at hm hd h7
    subst hm; subst hd
    refine wpK_reg (fun R hR => by simp [h7]; exact hR) ?_
    exact wpK_ret ⟨.inr rfl, rfl, [.string u], by simp, hE, u, rfl, hu⟩
end Go.Proofs.Ytnnfobmfffbhaaa
