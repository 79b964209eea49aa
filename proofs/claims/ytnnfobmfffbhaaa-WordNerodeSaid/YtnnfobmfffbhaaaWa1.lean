import Derived.Test.YtnnfobmfffbhaaaWt1
import Derived.Test.YtnnfobmfffbhaaaEngSm
set_option linter.unusedSimpArgs false
set_option linter.unusedVariables false
set_option linter.unusedSectionVars false
open Go Go.Eng
namespace Go.Proofs.Ytnnfobmfffbhaaa
theorem und3 : T0.und.get 3 = some (.int .i64) := by kernel_rfl
theorem und5 : T0.und.get 5 = some (.int .u8) := by kernel_rfl
theorem und9 : T0.und.get 9 = some .string := by kernel_rfl
theorem und37 : T0.und.get 60 = some (.int .u64) := by kernel_rfl
theorem fun6 : T0.funcs.get 8 = some Try.f8 := by kernel_rfl
theorem fun9 : T0.funcs.get 21 = some Try.f21 := by kernel_rfl

theorem aIndex_str {T : Tabs} {t : TypeId} (h : T.und.get t = some .string) (s : ByteArray) (k : IntKind) (i : Nat) : aIndex T t (.string s) (.int k (i : Int)) = match s.data.toList[i]? with | some b => some (.int .u8 b.toNat) | none => none := by
  show aIndex T t (.string s) (.int k (Int.ofNat i)) = _
  simp only [aIndex, h]
  cases s.data.toList[i]? <;> rfl
theorem aLen_str {T : Tabs} {W : AW} {t : TypeId} (h : T.und.get t = some .string) (s : ByteArray) : aLen T W t (.string s) = some (.int .i64 s.data.toList.length) := by
  simp only [aLen, h]
theorem i64_succ (i : Nat) (h : i + 1 < 9223372036854775808) : IntKind.i64.wrap ((i : Int) + 1) = ((i + 1 : Nat) : Int) := by
  rw [IntWalk.i64_in _ (by omega)]; rfl
theorem i64_nat (i : Nat) (h : i < 9223372036854775808) : IntKind.i64.wrap (i : Int) = i := IntWalk.i64_in _ (by omega)

/-- is it none of the letters? -/
def badB (L : Int) (c : UInt8) : Bool := decide ((c.toNat : Int) < 97) || decide (L ≤ (c.toNat : Int) - 97)
def wordErr (L : Int) (l : List UInt8) : Int := if l.any (badB L) = true then 1 else if 5000 < l.length then 2 else 0

attribute [local congr] undef_congr WpK.congr WpS.congr WpL.congr WpC.congr WpF.congr gotS.congr callS.congr nextS.congr wantS.congr condS.congr
attribute [local irreducible] WpK
attribute [local simp] WpS_nil WpS_cons isDefer undef_false wantS_true wantS_false nextS_value nextS_skip nextS_enter callS_some callS_none gotS_some behind_normal behind_exit behind_ret leaves_normal leaves_ret leaves_exit condS_true condS_false aWanted aOp aEvalF aEval opMove opAssign opPick aVal flat flat1 AAct.put opBinOp opConvert opIndex aConv Tr.get_set Tr.get_lay aBin aResults tupled
  aCall aVals aCallB blt_dec ble_dec beq_dec aBinI_add aBinI_sub aBinI_lss aBinI_leq aBinI_gtr aBinI_geq aBinI_eql aBinI_neq aIndex_str aLen_str Nat.beq_refl und3 und37 und5 und9

set_option maxHeartbeats 4000000 in
theorem refWord_wp (L : Int) (s : ByteArray) (hs : s.data.toList.length < 9223372036854775808) (W : AW) : WpF T0 21 [.int .i64 L, .string s] W (fun v W' => W' = W ∧ v = .int .i64 (wordErr L s.data.toList)) := by
  refine wpF fun9 rfl ?_
  generalize hl : s.data.toList = l at hs
  refine wpK_reg (fun R hR => by simp; exact hR) ?_
  simp only [wpK_assoc]
  refine wpK_reg (fun R hR => by simp; exact hR) ?_
  refine wpK_while (I := fun k A W' => W' = W ∧ A.n = 28 ∧ A.defers = [] ∧ A.tmps.get 0 = some (.int .i64 L) ∧ A.tmps.get 1 = some (.string s) ∧
    ∃ i : Nat, k = l.length - i ∧ i ≤ l.length ∧ A.tmps.get 5 = some (.int .i64 i) ∧ ∀ j c, j < i → l[j]? = some c → badB L c = false)
    (J := fun A W' => W' = W ∧ A.n = 28 ∧ A.defers = [] ∧ A.tmps.get 1 = some (.string s) ∧ l.any (badB L) = false)
    (Rt := fun A W' => W' = W ∧ A.defers = [] ∧ A.tmps.get 4 = some (.int .i64 1) ∧ l.any (badB L) = true) (k := l.length) ?_ ?_ ?_ ?_
  · exact ⟨rfl, rfl, rfl, by simp, by simp, 0, by simp, by simp, by simp, fun j c hj => by omega⟩
  · rintro k ⟨t, n, ds⟩ W' ⟨rfl, hn, hd, h0, h1, i, hk, hi, h5, hgood⟩ Q' hJ hRt hI
    simp only at hn hd h0 h1 h5
    subst hn; subst hd
    simp only [wpK_assoc]
    refine wpK_reg (fun R hR => by simp [h0, h1, h5, hl]; exact hR) ?_
    by_cases hlt : i < l.length
    · refine wpK_onT (by simp [hlt]) ?_
      have hc : l[i]? = some l[i] := List.getElem?_eq_getElem hlt
      have hm : l[i] ∈ l := List.getElem_mem hlt
      generalize l[i] = c at hc hm
      have hcl := c.toNat_lt
      refine wpK_block ?_
      by_cases hb : (c.toNat : Int) < 97
      · refine wpK_reg (fun R hR => by simp [h0, h1, h5, hl, hc, hb]; exact hR) ?_
        refine wpK_endT (by simp) ?_
        refine wpK_reg (fun R hR => by simp; exact hR) ?_
        refine wpK_ret (hRt _ _ ⟨rfl, rfl, by simp, ?_⟩)
        rw [List.any_eq_true]
        exact ⟨c, hm, by simp [badB, hb]⟩
      · have hw : IntKind.i64.wrap (IntKind.u8.wrap ((c.toNat : Int) - 97)) = (c.toNat : Int) - 97 := by
          rw [IntWalk.u8_in _ (by omega), IntWalk.i64_in _ (by omega)]
        by_cases hb2 : L ≤ (c.toNat : Int) - 97
        · refine wpK_reg (fun R hR => by simp [h0, h1, h5, hl, hc, hb, hw, hb2]; exact hR) ?_
          refine wpK_endT (by simp) ?_
          refine wpK_reg (fun R hR => by simp; exact hR) ?_
          refine wpK_ret (hRt _ _ ⟨rfl, rfl, by simp, ?_⟩)
          rw [List.any_eq_true]
          exact ⟨c, hm, by simp [badB, hb2]⟩
        · refine wpK_reg (fun R hR => by simp [h0, h1, h5, hl, hc, hb, hw, hb2]; exact hR) ?_
          refine wpK_endF (by simp) (wpK_skip ?_)
          refine wpK_reg1 (fun R hR => by simp [h5]; exact hR) ?_
          refine hI (k - 1) _ _ (by omega) ⟨rfl, rfl, rfl, by simp [h0], by simp [h1], i + 1, by omega, by omega, by simp; exact i64_succ i (by omega), fun j d hj hd => ?_⟩
          by_cases hji : j = i
          · subst hji; rw [hc] at hd; cases hd; simp [badB, hb, hb2]
          · exact hgood j d (by omega) hd
    · refine wpK_out (by simp [hlt]) (hJ _ _ ⟨rfl, rfl, rfl, by simp [h1], ?_⟩)
      rw [List.any_eq_false]
      intro x hx
      obtain ⟨j, hj, rfl⟩ := List.getElem_of_mem hx
      have := hgood j l[j] (by omega) (List.getElem?_eq_getElem hj)
      simp [this]
  · rintro A' W' ⟨rfl, h1, h2, h3⟩
    exact ⟨.inr rfl, h1, [.int .i64 1], by simp [h2], rfl, by simp [wordErr, h3]⟩
  · rintro ⟨t, n, ds⟩ W' ⟨rfl, hn, hd, h1, hall⟩
    simp only at hn hd h1
    subst hn; subst hd
    simp only [wpK_assoc]
    refine wpK_reg (fun R hR => by simp [h1, hl]; exact hR) ?_
    by_cases hlen : 5000 < l.length
    · refine wpK_condT (by simp; omega) ?_
      refine wpK_reg (fun R hR => by simp; exact hR) ?_
      exact wpK_ret ⟨.inr rfl, rfl, [.int .i64 2], by simp, rfl, by simp [wordErr, hall, hlen]⟩
    · refine wpK_onF (by simp; omega) ?_
      refine wpK_reg (fun R hR => by simp; exact hR) ?_
      exact wpK_ret ⟨.inr rfl, rfl, [.int .i64 0], by simp, rfl, by simp [wordErr, hall, hlen]⟩
end Go.Proofs.Ytnnfobmfffbhaaa
