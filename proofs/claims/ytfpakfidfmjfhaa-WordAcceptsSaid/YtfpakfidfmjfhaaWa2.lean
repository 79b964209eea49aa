import Derived.Test.YtfpakfidfmjfhaaWa1
import Derived.Test.YtfpakfidfmjfhaaEngRe
set_option linter.unusedSimpArgs false
set_option linter.unusedVariables false
set_option linter.unusedSectionVars false
open Go Go.Eng
namespace Go.Proofs.Ytfpakfidfmjfhaa
theorem und22 : T0.und.get 22 = some (.slice 43) := by kernel_rfl
theorem und23 : T0.und.get 23 = some (.slice 4) := by kernel_rfl
theorem und43 : T0.und.get 43 = some (.slice 3) := by kernel_rfl
theorem und4 : T0.und.get 4 = some .bool := by kernel_rfl
theorem und28 : T0.und.get 28 = some (.int .i64) := by kernel_rfl
theorem und25 : T0.und.get 25 = T0.und.get 24 := by kernel_rfl
theorem und24 : T0.und.get 24 = some Try.t24.desc := by kernel_rfl
theorem und31 : T0.und.get 31 = T0.und.get 24 := by kernel_rfl
theorem sz3 : aSize T0 3 = some 1 := by kernel_rfl
theorem sz4 : aSize T0 4 = some 1 := by kernel_rfl
theorem sz43 : aSize T0 43 = some 1 := by kernel_rfl
theorem sz22 : aSize T0 22 = some 1 := by kernel_rfl
theorem sz23 : aSize T0 23 = some 1 := by kernel_rfl
theorem fun18 : T0.funcs.get 18 = some Try.f18 := by kernel_rfl
theorem fun17 : T0.funcs.get 17 = some Try.f17 := by kernel_rfl

/-- fields of a boxed automaton -/
theorem field25 (b o f : Nat) (hf : f < 3) : aField T0 25 (.pointer (some ⟨b, o, none⟩)) f = some (.pointer (some ⟨b, o + f, none⟩)) := by
  match f, hf with
  | 0, _ => rfl
  | 1, _ => rfl
  | 2, _ => rfl

def Rows (W : AW) (b o n L : Nat) (nx : Nat → Nat → Nat) : Prop :=
  ∀ s, s < n → ∃ r ro c, W.Has b (o + s) (.slice (some ⟨r, ro, none⟩) L c) ∧ ∀ i, i < L → W.Has r (ro + i) (.int .i64 (nx s i : Nat))
def Goods (W : AW) (b o n : Nat) (gd : Nat → Bool) : Prop := ∀ s, s < n → W.Has b (o + s) (.bool (gd s))
theorem Rows.ext {W W' : AW} {b o n L : Nat} {nx : Nat → Nat → Nat} (h : Rows W b o n L nx) (he : Ext W W') : Rows W' b o n L nx := fun s hs =>
  let ⟨r, ro, c, h1, h2⟩ := h s hs
  ⟨r, ro, c, h1.ext he, fun i hi => (h2 i hi).ext he⟩
theorem Goods.ext {W W' : AW} {b o n : Nat} {gd : Nat → Bool} (h : Goods W b o n gd) (he : Ext W W') : Goods W' b o n gd := fun s hs => (h s hs).ext he
def runN (nx : Nat → Nat → Nat) (s : Nat) (l : List UInt8) : Nat := l.foldl (fun s c => nx s (c.toNat - 97)) s

attribute [local congr] undef_congr WpK.congr WpS.congr WpL.congr WpC.congr WpF.congr gotS.congr callS.congr nextS.congr wantS.congr condS.congr
attribute [local irreducible] WpK
attribute [local simp] WpDr_nil WpDr_cons atS_some dwantS_true dwantS_false kindS_light kindS_float kindS_heavy lightS_value floatS_some heavyS_value heavyS_skip heavyS_enter dcallS_some dcallS_none doneS_eq
  isLight isFloat isPlain dLook testBit_dec dChain dLights_nil dLights_skip dLights_one dLight_nil dLight_cons dFreshes_nil dFreshes_one oneF_none oneF_some dFresh_nil dFresh_cons oneL_some oneW_true oneW_false sameV_value dPut dMay valEq List.getElem?_cons Tr.get_nil dEnd
attribute [local simp] WpS_nil WpS_cons isDefer undef_false wantS_true wantS_false nextS_value nextS_skip nextS_enter callS_some callS_none gotS_some aWanted aOp aEvalF aEval opMove opAssign opPick aVal flat flat1 AAct.put opBinOp opConvert opIndex aConv Tr.get_set Tr.get_lay aBin aResults tupled
  aCall aVals aCallB blt_dec ble_dec beq_dec aBinI_add aBinI_sub aBinI_lss aBinI_leq aBinI_gtr aBinI_geq aBinI_eql aBinI_neq aIndex_str aLen_str Nat.beq_refl und3 und37 und5 und9
  opBox opLoad opFieldAddr opIndexAddr acells aAddr field25 und22 und23 und43 und4 und28

set_option maxHeartbeats 4000000 in
theorem from_wp (L n bN oN cN bG oG cG : Nat) (nx : Nat → Nat → Nat) (s0 : Nat) (w : ByteArray) (l : List UInt8) (hl : w.data.toList = l) (hlen : l.length < 9223372036854775808) (W : AW) (hN : Rows W bN oN n L nx) (hs0 : s0 < n)
    (hnx : ∀ s i, s < n → i < L → nx s i < n) (hw : ∀ c ∈ l, badB L c = false) :
    WpF T0 18 [.agg ⟨[.int .i64 L, .slice (some ⟨bN, oN, none⟩) n cN, .slice (some ⟨bG, oG, none⟩) n cG]⟩, .int .i64 s0, .string w] W (fun v W' => Ext W W' ∧ v = .int .i64 (runN nx s0 l : Nat)) := by
  refine wpF fun18 rfl ?_
  refine wpK_reg (fun R hR => by simp; exact hR) ?_
  simp only [wpK_assoc]
  refine wpK_reg (fun R hR => by simp; exact hR) ?_
  have hE : Ext W (W.newCells 25 [.int .i64 L, .slice (some ⟨bN, oN, none⟩) n cN, .slice (some ⟨bG, oG, none⟩) n cG]) := .newCells _ _ _
  have hN1 := hN.ext hE
  have hb0 : (W.newCells 25 [.int .i64 L, .slice (some ⟨bN, oN, none⟩) n cN, .slice (some ⟨bG, oG, none⟩) n cG]).cell W.next 1 = some (.slice (some ⟨bN, oN, none⟩) n cN) := by rw [newCells_cell, if_pos rfl]; rfl
  generalize W.newCells 25 [.int .i64 L, .slice (some ⟨bN, oN, none⟩) n cN, .slice (some ⟨bG, oG, none⟩) n cG] = W₁ at hE hN1 hb0
  refine wpK_while (I := fun k A W' => W' = W₁ ∧ A.n = 27 ∧ A.defers = [] ∧ A.tmps.get 3 = some (.pointer (some ⟨W.next, 0, none⟩)) ∧ A.tmps.get 2 = some (.string w) ∧
    ∃ i : Nat, k = l.length - i ∧ i ≤ l.length ∧ A.tmps.get 7 = some (.int .i64 i) ∧ A.tmps.get 1 = some (.int .i64 (runN nx s0 (l.take i) : Nat)) ∧ runN nx s0 (l.take i) < n)
    (J := fun A W' => W' = W₁ ∧ A.n = 27 ∧ A.defers = [] ∧ A.tmps.get 1 = some (.int .i64 (runN nx s0 l : Nat)))
    (Rt := fun _ _ => False) (k := l.length) ?_ ?_ ?_ ?_
  · exact ⟨rfl, rfl, rfl, by simp, by simp, 0, by simp, by simp, by simp, by simp [runN], by simpa [runN] using hs0⟩
  · rintro k ⟨t, m, ds⟩ W' ⟨rfl, hn, hd, h3, h2, i, hk, hi, h7, h1, hrun⟩ Q' hJ hRt hI
    simp only at hn hd h3 h2 h7 h1
    subst hn; subst hd
    simp only [wpK_assoc]
    refine wpK_reg (fun R hR => by simp [h2, h7, hl]; exact hR) ?_
    by_cases hlt : i < l.length
    · refine wpK_onT (by simp [hlt]) ?_
      have hc : l[i]? = some l[i] := List.getElem?_eq_getElem hlt
      have hm : l[i] ∈ l := List.getElem_mem hlt
      have htake : l.take (i + 1) = l.take i ++ [l[i]] := by rw [List.take_add_one, hc]; rfl
      generalize l[i] = c at hc hm htake
      have hcl := c.toNat_lt
      have hbad := hw c hm
      simp only [badB, Bool.or_eq_false_iff, decide_eq_false_iff_not] at hbad
      obtain ⟨r, ro, cc, hr1, hr2⟩ := hN1 _ hrun
      have hr3 := hr2 (c.toNat - 97) (by omega)
      refine wpK_block ?_
      have hl1 : aLoadVar T0 W' 22 W.next 1 = some (.slice (some ⟨bN, oN, none⟩) n cN) := by rw [loadVar_cell und22 rfl]; exact hb0
      have hl2 : aLoadVar T0 W' 43 bN (oN + runN nx s0 (l.take i)) = some (.slice (some ⟨r, ro, none⟩) L cc) := by rw [loadVar_cell und43 rfl]; exact hr1.2
      have hl3 : aLoadVar T0 W' 3 r (ro + (c.toNat - 97)) = some (.int .i64 (nx (runN nx s0 (l.take i)) (c.toNat - 97) : Nat)) := by rw [loadVar_cell und3 rfl]; exact hr3.2
      have hwr : IntKind.i64.wrap (IntKind.u8.wrap ((c.toNat : Int) - 97)) = ((c.toNat - 97 : Nat) : Int) := by
        rw [IntWalk.u8_in _ (by omega), IntWalk.i64_in _ (by omega)]; omega
      have ha1 := indexAddr_slice (b := bN) (o := oN) (c := cN) (k := .i64) und22 sz43 hrun
      have ha2 := indexAddr_slice (b := r) (o := ro) (c := cc) (k := .i64) (len := L) (i := c.toNat - 97) und43 sz3 (by omega)
      refine wpK_dr1 (wr := Tr.nil |>.set 14 0 |>.set 15 1 |>.set 16 2 |>.set 17 3 |>.set 18 4 |>.set 19 5 |>.set 20 6 |>.set 21 7 |>.set 22 8 |>.set 23 9 |>.set 24 10 |>.set 25 11 |>.set 1 12) (bits := Tr.nil.lay 0 [0, 1, 0, 7, 15, 0, 0, 96, 224, 480, 1023, 2047, 4095]) (ord := [0, 1, 2, 3, 4, 5, 6, 7, 8, 9, 10, 11, 12])
        (J := fun A' W'' => W'' = W' ∧ A'.n = 27 ∧ A'.defers = [] ∧ A'.tmps.get 3 = some (.pointer (some ⟨W.next, 0, none⟩)) ∧ A'.tmps.get 2 = some (.string w) ∧ A'.tmps.get 7 = some (.int .i64 i) ∧
          A'.tmps.get 1 = some (.int .i64 (nx (runN nx s0 (l.take i)) (c.toNat - 97) : Nat)))
        (by kernel_rfl) (by kernel_rfl) (by kernel_rfl) (fun G hG => ?_) ?_
      · simp only [Nat.mul_one] at ha1 ha2
        simp [h1, h2, h3, h7, hl, hc, hl1, hl2, hl3, hwr, ha1, ha2]
        apply hG
        refine ⟨rfl, rfl, rfl, ?_⟩
        simp [h2, h3, h7]
      · rintro ⟨t', m', ds'⟩ W'' ⟨rfl, hn', hd', h3', h2', h7', h1'⟩
        simp only at hn' hd' h3' h2' h7' h1'
        subst hn'; subst hd'
        refine wpK_reg1 (fun R hR => by simp [h7']; exact hR) ?_
        have hstep : runN nx s0 (l.take (i + 1)) = nx (runN nx s0 (l.take i)) (c.toNat - 97) := by rw [htake]; simp [runN]
        refine hI (k - 1) _ _ (by omega) ⟨rfl, rfl, rfl, by simp [h3'], by simp [h2'], i + 1, by omega, by omega, by simp; exact i64_succ i (by omega), by simp [h1', hstep], ?_⟩
        rw [hstep]; exact hnx _ _ hrun (by omega)
    · refine wpK_out (by simp [hlt]) (hJ _ _ ⟨rfl, rfl, rfl, ?_⟩)
      have : l.take i = l := List.take_of_length_le (by omega)
      rw [this] at h1
      simp [h1]
  · rintro A' W' h; exact h.elim
  · rintro ⟨t, m, ds⟩ W' ⟨rfl, hn, hd, h1⟩
    simp only at hn hd h1
    subst hn; subst hd
    refine wpK_reg (fun R hR => by simp [h1]; exact hR) ?_
    exact wpK_ret ⟨.inr rfl, rfl, [.int .i64 (runN nx s0 l : Nat)], by simp, hE, rfl⟩
end Go.Proofs.Ytfpakfidfmjfhaa
