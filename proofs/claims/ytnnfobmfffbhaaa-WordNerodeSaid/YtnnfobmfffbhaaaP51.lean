import Derived.Test.YtnnfobmfffbhaaaP50
import Derived.Test.YtnnfobmfffbhaaaP46
import Derived.Test.YtnnfobmfffbhaaaWm0
set_option linter.unusedSimpArgs false
set_option linter.unusedVariables false
set_option linter.unusedSectionVars false
open Go Go.Eng
namespace Go.Proofs.Ytnnfobmfffbhaaa
attribute [local congr] undef_congr WpK.congr WpS.congr WpL.congr WpC.congr WpF.congr gotS.congr callS.congr nextS.congr wantS.congr condS.congr
attribute [local irreducible] WpK
attribute [local simp] WpDr_nil WpDr_cons atS_some dwantS_true dwantS_false kindS_light kindS_float kindS_heavy lightS_value floatS_some heavyS_value heavyS_skip heavyS_enter dcallS_some doneS_eq
  isLight isFloat isPlain dLook testBit_dec dChain dLights_nil dLights_skip dLights_one dLight_nil dLight_cons dFreshes_nil dFreshes_one oneF_none oneF_some dFresh_nil dFresh_cons oneL_some oneW_true oneW_false sameV_value dPut dMay valEq arrEq listEq List.getElem?_cons Tr.get_nil dEnd
attribute [local simp] WpS_nil WpS_cons isDefer undef_false wantS_true wantS_false nextS_value nextS_skip nextS_enter callS_some gotS_some aWanted aOp aEvalF aEval opMove opAssign opPick aVal flat flat1 AAct.put opBinOp opConvert opIndex Tr.get_set Tr.get_lay aBin aResults tupled
  aCall aVals aCallB blt_dec ble_dec beq_dec aBinI_add aBinI_sub aBinI_lss aBinI_leq aBinI_gtr aBinI_geq aBinI_eql aBinI_neq index_str len_str len_slice Nat.beq_refl und3 und37 und5 und9
  opBox opLoad opFieldAddr opIndexAddr acells aAddr field25 und22 und23 und43 und4 und28
attribute [local simp] field31 conv_3_5 conv_3_37 conv_37_3 conv_5_3
set_option maxHeartbeats 4000000
/-! ### a search has one answer -/
theorem Found.det {n : Nat} {keys lB lL : List Value} {key : Value} {bf lt : Int} {k1 B1 L1 k2 B2 L2 : List Value} {j1 j2 : Nat} (hk : ∀ k ∈ keys, IsS n k) (hkey : IsS n key) (hd : Dist keys) (h1 : Found keys lB lL key bf lt k1 B1 L1 j1) (h2 : Found keys lB lL key bf lt k2 B2 L2 j2) :
    k1 = k2 ∧ B1 = B2 ∧ L1 = L2 ∧ j1 = j2 := by
  obtain ⟨a1, ⟨u1, a2, a3⟩, ⟨rfl, rfl, rfl⟩ | ⟨rfl, a4, rfl, rfl, rfl⟩⟩ := h1
  · obtain ⟨b1, ⟨u2, b2, b3⟩, ⟨rfl, rfl, rfl⟩ | ⟨rfl, b4, rfl, rfl, rfl⟩⟩ := h2
    · refine ⟨rfl, rfl, rfl, ?_⟩
      obtain ⟨s1, _, rfl⟩ := hk u1 (List.mem_of_getElem? a2)
      obtain ⟨s2, _, rfl⟩ := hk u2 (List.mem_of_getElem? b2)
      obtain ⟨s, _, rfl⟩ := hkey
      have e1 := key3_eq a3
      have e2 := key3_eq b3
      subst e1; subst e2
      unfold Dist at hd
      rw [List.pairwise_iff_getElem] at hd
      rcases Nat.lt_trichotomy j1 j2 with hlt | hlt | hlt
      · have := hd j1 j2 a1 b1 hlt
        rw [(List.getElem?_eq_some_iff.1 a2).2, (List.getElem?_eq_some_iff.1 b2).2, key3_self] at this; cases this
      · exact hlt
      · have := hd j2 j1 b1 a1 hlt
        rw [(List.getElem?_eq_some_iff.1 a2).2, (List.getElem?_eq_some_iff.1 b2).2, key3_self] at this; cases this
    · have := b4 u1 (List.mem_of_getElem? a2)
      rw [a3] at this; cases this
  · obtain ⟨b1, ⟨u2, b2, b3⟩, ⟨rfl, rfl, rfl⟩ | ⟨rfl, b4, rfl, rfl, rfl⟩⟩ := h2
    · have := a4 u2 (List.mem_of_getElem? b2)
      rw [b3] at this; cases this
    · exact ⟨rfl, rfl, rfl, rfl⟩
theorem RowI.det {n : Nat} {step : Value → Nat → Value} (hs : ∀ {key x}, IsS n key → IsS n (step key x)) {key : Value} (hkey : IsS n key) {i : Nat} : ∀ {x : Nat} {keys lB lL row k1 B1 L1 row2 k2 B2 L2 : List Value}, (∀ k ∈ keys, IsS n k) → Dist keys →
    RowI step key i x keys lB lL row k1 B1 L1 → RowI step key i x keys lB lL row2 k2 B2 L2 → row = row2 ∧ k1 = k2 ∧ B1 = B2 ∧ L1 = L2
  | 0, _, _, _, _, _, _, _, _, _, _, _, _, _, h1, h2 => by
    obtain ⟨rfl, rfl, rfl, rfl⟩ := h1
    obtain ⟨rfl, rfl, rfl, rfl⟩ := h2
    exact ⟨rfl, rfl, rfl, rfl⟩
  | x + 1, _, _, _, _, _, _, _, _, _, _, _, hk, hd, h1, h2 => by
    obtain ⟨r1, m1, B1, L1, j1, a1, a2, rfl⟩ := h1
    obtain ⟨r2, m2, B2, L2, j2, b1, b2, rfl⟩ := h2
    obtain ⟨rfl, rfl, rfl, rfl⟩ := RowI.det hs hkey hk hd a1 b1
    obtain ⟨rfl, rfl, rfl, rfl⟩ := Found.det (bfs_isK hs a1 hkey hk) (hs hkey) (a1.dist hd) a2 b2
    exact ⟨rfl, rfl, rfl, rfl⟩
theorem Bfs.det {n : Nat} {step : Value → Nat → Value} (hs : ∀ {key x}, IsS n key → IsS n (step key x)) {L : Nat} {start : Value} (h0 : IsS n start) : ∀ {i : Nat} {k1 B1 L1 N1 k2 B2 L2 N2 : List Value}, Bfs step L start i k1 B1 L1 N1 → Bfs step L start i k2 B2 L2 N2 → k1 = k2 ∧ B1 = B2 ∧ L1 = L2 ∧ N1 = N2
  | 0, _, _, _, _, _, _, _, _, h1, h2 => by
    obtain ⟨rfl, rfl, rfl, rfl⟩ := h1
    obtain ⟨rfl, rfl, rfl, rfl⟩ := h2
    exact ⟨rfl, rfl, rfl, rfl⟩
  | i + 1, _, _, _, _, _, _, _, _, h1, h2 => by
    obtain ⟨_, _, _, _, key, row, a1, a2, a3, rfl⟩ := h1
    obtain ⟨_, _, _, _, key', row', b1, b2, b3, rfl⟩ := h2
    obtain ⟨rfl, rfl, rfl, rfl⟩ := Bfs.det hs h0 a1 b1
    rw [a2] at b2
    cases b2
    have hK := a1.isK (isK := IsS n) hs h0
    obtain ⟨rfl, rfl, rfl, rfl⟩ := RowI.det hs (hK _ (List.mem_of_getElem? a2)) hK a1.dist a3 b3
    exact ⟨rfl, rfl, rfl, rfl⟩
theorem Bfs.down {step : Value → Nat → Value} {L : Nat} {start : Value} : ∀ {i : Nat} {k1 B1 L1 N1 : List Value}, Bfs step L start i k1 B1 L1 N1 → ∀ j, j < i → ∃ k B L' N, Bfs step L start j k B L' N ∧ j < k.length
  | 0, _, _, _, _, _, j, hj => by omega
  | i + 1, _, _, _, _, h1, j, hj => by
    obtain ⟨k, B, L', N, key, row, a1, a2, a3, rfl⟩ := h1
    by_cases e : j = i
    · subst e; exact ⟨k, B, L', N, a1, (List.getElem?_eq_some_iff.1 a2).1⟩
    · exact Bfs.down a1 j (by omega)
theorem bfs_one {n : Nat} {step : Value → Nat → Value} (hs : ∀ {key x}, IsS n key → IsS n (step key x)) {L : Nat} {start : Value} (h0 : IsS n start) {k1 B1 L1 N1 k2 B2 L2 N2 : List Value} (h1 : Bfs step L start k1.length k1 B1 L1 N1) (h2 : Bfs step L start k2.length k2 B2 L2 N2) : k1 = k2 ∧ B1 = B2 ∧ L1 = L2 ∧ N1 = N2 := by
  have hno : ∀ {k1 B1 L1 N1 k2 B2 L2 N2 : List Value}, Bfs step L start k1.length k1 B1 L1 N1 → Bfs step L start k2.length k2 B2 L2 N2 → ¬ k1.length < k2.length := fun {k1 B1 L1 N1 k2 B2 L2 N2} h1 h2 hlt => by
    obtain ⟨k, B, L', N, a1, a2⟩ := h2.down _ hlt
    obtain ⟨rfl, _⟩ := Bfs.det hs h0 h1 a1
    omega
  have hl : k1.length = k2.length := by
    have := hno h1 h2
    have := hno h2 h1
    omega
  rw [← hl] at h2
  exact Bfs.det hs h0 h1 h2
/-! ### the classes have one numbering -/
theorem LeastM.runX {mx : Nat → Nat → Nat} {mg : Nat → Bool} {L N cnt : Nat} {mxL : Nat → Nat → Nat} {mgL : Nat → Bool} {cl : Nat → Nat} (h : LeastM mx mg L N cnt mxL mgL cl) (hL : L ≤ 4) (hmx : ∀ s x, s < N → x < 4 → mx s x < N) : ∀ (l : List Nat) (i j : Nat), i < N → j < N → cl i = cl j → (∀ x ∈ l, x < L) →
    cl (runX mx i l) = cl (runX mx j l) ∧ runX mx i l < N ∧ runX mx j l < N
  | [], i, j, hi, hj, e, _ => ⟨e, hi, hj⟩
  | x :: l, i, j, hi, hj, e, hx => by
    have hx4 : x < 4 := by have := hx x (List.mem_cons_self ..); omega
    refine h.runX hL hmx l (mx i x) (mx j x) (hmx i x hi hx4) (hmx j x hj hx4) ?_ (fun y hy => hx y (List.mem_cons_of_mem _ hy))
    rw [← h.nx i x hi hx4, ← h.nx j x hj hx4, e]
theorem LeastM.kernel {mx : Nat → Nat → Nat} {mg : Nat → Bool} {L N cnt cnt' : Nat} {mxL mxL' : Nat → Nat → Nat} {mgL mgL' : Nat → Bool} {cl cl' : Nat → Nat} (h : LeastM mx mg L N cnt mxL mgL cl) (h' : LeastM mx mg L N cnt' mxL' mgL' cl') (hL : L ≤ 4) (hmx : ∀ s x, s < N → x < 4 → mx s x < N) {i j : Nat} (hi : i < N) (hj : j < N) (e : cl i = cl j) : cl' i = cl' j := by
  rcases Nat.decEq (cl' i) (cl' j) with hne | heq
  · obtain ⟨l, hl, hd⟩ := h'.moore.dis i j hi hj hne
    obtain ⟨e1, e2, e3⟩ := h.runX hL hmx l i j hi hj e hl
    exact absurd (h.moore.good _ _ e2 e3 e1) hd
  · exact heq
theorem LeastM.before {mx : Nat → Nat → Nat} {mg : Nat → Bool} {L N cnt : Nat} {mxL : Nat → Nat → Nat} {mgL : Nat → Bool} {cl : Nat → Nat} (h : LeastM mx mg L N cnt mxL mgL cl) {i : Nat} (hi : i < N) (hf : ∀ j, j < i → cl j ≠ cl i) : (∀ j, j < i → cl j < cl i) ∧ (0 < cl i → ∃ j, j < i ∧ cl j + 1 = cl i) := by
  have hlt := h.moore.lt i hi
  obtain ⟨q, hq, hqc, hpre⟩ := h.moore.sur (cl i) hlt
  have hqi : q = i := by
    rcases Nat.lt_trichotomy q i with e | e | e
    · exact absurd hqc (hf q e)
    · exact e
    · have := hpre i e; omega
  subst hqi
  refine ⟨hpre, fun h0 => ?_⟩
  obtain ⟨q2, hq2, hqc2, hpre2⟩ := h.moore.sur (cl q - 1) (by omega)
  rcases Nat.lt_trichotomy q2 q with e | e | e
  · exact ⟨q2, e, by omega⟩
  · subst e; omega
  · have := hpre2 q e; omega
theorem LeastM.one {mx : Nat → Nat → Nat} {mg : Nat → Bool} {L N cnt cnt' : Nat} {mxL mxL' : Nat → Nat → Nat} {mgL mgL' : Nat → Bool} {cl cl' : Nat → Nat} (h : LeastM mx mg L N cnt mxL mgL cl) (h' : LeastM mx mg L N cnt' mxL' mgL' cl') (hL : L ≤ 4) (hmx : ∀ s x, s < N → x < 4 → mx s x < N) : ∀ i, i < N → cl i = cl' i := by
  intro i
  induction i using Nat.strongRecOn with
  | _ i ih =>
    intro hi
    by_cases hf : ∀ j, j < i → cl j ≠ cl i
    · have hf' : ∀ j, j < i → cl' j ≠ cl' i := fun j hj e => hf j hj (h'.kernel h hL hmx (by omega) hi e)
      obtain ⟨a1, a2⟩ := h.before hi hf
      obtain ⟨b1, b2⟩ := h'.before hi hf'
      have hle : cl i ≤ cl' i := by
        rcases Nat.eq_zero_or_pos (cl i) with e | e
        · omega
        · obtain ⟨j, hj, hje⟩ := a2 e
          have := b1 j hj
          have := ih j hj (by omega)
          omega
      have hge : cl' i ≤ cl i := by
        rcases Nat.eq_zero_or_pos (cl' i) with e | e
        · omega
        · obtain ⟨j, hj, hje⟩ := b2 e
          have := a1 j hj
          have := ih j hj (by omega)
          omega
      omega
    · obtain ⟨j, hj⟩ := Classical.not_forall.1 hf
      obtain ⟨hj, he⟩ := Classical.not_imp.1 hj
      have he : cl j = cl i := Classical.not_not.1 he
      rw [← he, ← h.kernel h' hL hmx (by omega) hi he]
      exact ih j hj (by omega)
theorem LeastM.count {mx : Nat → Nat → Nat} {mg : Nat → Bool} {L N cnt cnt' : Nat} {mxL mxL' : Nat → Nat → Nat} {mgL mgL' : Nat → Bool} {cl cl' : Nat → Nat} (h : LeastM mx mg L N cnt mxL mgL cl) (h' : LeastM mx mg L N cnt' mxL' mgL' cl') (hL : L ≤ 4) (hmx : ∀ s x, s < N → x < 4 → mx s x < N) : cnt = cnt' := by
  have hle : ∀ {cnt cnt' : Nat} {mxL mxL' : Nat → Nat → Nat} {mgL mgL' : Nat → Bool} {cl cl' : Nat → Nat}, LeastM mx mg L N cnt mxL mgL cl → LeastM mx mg L N cnt' mxL' mgL' cl' → ¬ cnt < cnt' := fun {cnt cnt' mxL mxL' mgL mgL' cl cl'} h h' hlt => by
    obtain ⟨q, hq, hqc, _⟩ := h'.moore.sur cnt hlt
    have := h.moore.lt q hq
    rw [h.one h' hL hmx q hq] at this
    omega
  have := hle h h'
  have := hle h' h
  omega
/-- where a word leads in the least machine -/
theorem LeastM.run {mx : Nat → Nat → Nat} {mg : Nat → Bool} {L N cnt : Nat} {mxL : Nat → Nat → Nat} {mgL : Nat → Bool} {cl : Nat → Nat} (h : LeastM mx mg L N cnt mxL mgL cl) (hL : L ≤ 4) (hmx : ∀ s x, s < N → x < 4 → mx s x < N) : ∀ (l : List UInt8) (i : Nat), i < N → (∀ c ∈ l, badB L c = false) → runN mxL (cl i) l = cl (runN mx i l) ∧ runN mx i l < N
  | [], i, hi, _ => ⟨rfl, hi⟩
  | c :: l, i, hi, hb => by
    have hc := hb c (List.mem_cons_self ..)
    simp only [badB, Bool.or_eq_false_iff, decide_eq_false_iff_not] at hc
    have := h.run hL hmx l (mx i (c.toNat - 97)) (hmx i _ hi (by omega)) (fun d hd => hb d (List.mem_cons_of_mem _ hd))
    rw [← h.nx i _ hi (by omega)] at this
    exact this
end Go.Proofs.Ytnnfobmfffbhaaa

open Go Go.Eng
namespace Go.Proofs.Ytnnfobmfffbhaaa
attribute [local congr] undef_congr WpK.congr WpS.congr WpL.congr WpC.congr WpF.congr gotS.congr callS.congr nextS.congr wantS.congr condS.congr
attribute [local irreducible] WpK
attribute [local simp] WpDr_nil WpDr_cons atS_some dwantS_true dwantS_false kindS_light kindS_float kindS_heavy lightS_value floatS_some heavyS_value heavyS_skip heavyS_enter dcallS_some doneS_eq
  isLight isFloat isPlain dLook testBit_dec dChain dLights_nil dLights_skip dLights_one dLight_nil dLight_cons dFreshes_nil dFreshes_one oneF_none oneF_some dFresh_nil dFresh_cons oneL_some oneW_true oneW_false sameV_value dPut dMay valEq arrEq listEq List.getElem?_cons Tr.get_nil dEnd
attribute [local simp] WpS_nil WpS_cons isDefer undef_false wantS_true wantS_false nextS_value nextS_skip nextS_enter callS_some gotS_some aWanted aOp aEvalF aEval opMove opAssign opPick aVal flat flat1 AAct.put opBinOp opConvert opIndex Tr.get_set Tr.get_lay aBin aResults tupled
  aCall aVals aCallB blt_dec ble_dec beq_dec aBinI_add aBinI_sub aBinI_lss aBinI_leq aBinI_gtr aBinI_geq aBinI_eql aBinI_neq index_str len_str len_slice Nat.beq_refl und3 und37 und5 und9
  opBox opLoad opFieldAddr opIndexAddr acells aAddr field25 und22 und23 und43 und4 und28
attribute [local simp] field31 conv_3_5 conv_3_37 conv_37_3 conv_5_3
set_option maxHeartbeats 4000000
/-! ### what a search by pairs of states finds -/
theorem radd_mem {l : List (Nat × Nat × List UInt8)} {s t : Nat} {w : List UInt8} {e : Nat × Nat × List UInt8} (h : e ∈ radd l s t w) : e ∈ l ∨ e = (s, t, w) := by
  unfold radd at h
  split at h
  · exact .inl h
  · rcases List.mem_append.1 h with h | h
    · exact .inl h
    · exact .inr (List.mem_singleton.1 h)
theorem radd_sub {l : List (Nat × Nat × List UInt8)} {s t : Nat} {w : List UInt8} {e : Nat × Nat × List UInt8} (h : e ∈ l) : e ∈ radd l s t w := by
  unfold radd
  split
  · exact h
  · exact List.mem_append_left _ h
theorem radd_has (l : List (Nat × Nat × List UInt8)) (s t : Nat) (w : List UInt8) : ∃ e ∈ radd l s t w, e.1 = s ∧ e.2.1 = t := by
  unfold radd
  split
  · rename_i h
    obtain ⟨e, he, h1⟩ := List.any_eq_true.1 h
    simp only [Bool.and_eq_true, beq_iff_eq] at h1
    exact ⟨e, he, h1⟩
  · exact ⟨(s, t, w), by simp, rfl, rfl⟩
theorem rrow_sub (nx nx' : Nat → Nat → Nat) (e : Nat × Nat × List UInt8) {l : List (Nat × Nat × List UInt8)} {f : Nat × Nat × List UInt8} (h : f ∈ l) : ∀ x, f ∈ rrow nx nx' e x l
  | 0 => h
  | x + 1 => radd_sub (rrow_sub nx nx' e h x)
theorem rrow_has (nx nx' : Nat → Nat → Nat) (e : Nat × Nat × List UInt8) (l : List (Nat × Nat × List UInt8)) : ∀ x y, y < x → ∃ f ∈ rrow nx nx' e x l, f.1 = nx e.1 y ∧ f.2.1 = nx' e.2.1 y
  | 0, y, hy => by omega
  | x + 1, y, hy => by
    by_cases e' : y = x
    · subst e'; exact radd_has _ _ _ _
    · obtain ⟨f, hf, h⟩ := rrow_has nx nx' e l x y (by omega)
      exact ⟨f, radd_sub hf, h⟩
/-- each word leads to its pair -/
def Leads (nx nx' : Nat → Nat → Nat) (L S T : Nat) (e : Nat × Nat × List UInt8) : Prop := e.1 = runN nx S e.2.2 ∧ e.2.1 = runN nx' T e.2.2 ∧ ∀ c ∈ e.2.2, badB L c = false
theorem rrow_leads {nx nx' : Nat → Nat → Nat} {L S T : Nat} (hL : L ≤ 4) {e : Nat × Nat × List UInt8} (he : Leads nx nx' L S T e) {l : List (Nat × Nat × List UInt8)} (hl : ∀ f ∈ l, Leads nx nx' L S T f) : ∀ x, x ≤ L → ∀ f ∈ rrow nx nx' e x l, Leads nx nx' L S T f
  | 0, _ => hl
  | x + 1, hx => fun f hf => by
    rcases radd_mem hf with hf | rfl
    · exact rrow_leads hL he hl x (by omega) f hf
    · obtain ⟨h1, h2, h3⟩ := he
      have hb : (UInt8.ofNat (97 + x)).toNat = 97 + x := by simp; omega
      refine ⟨?_, ?_, fun c hc => ?_⟩
      · show nx e.1 x = runN nx S (e.2.2 ++ [UInt8.ofNat (97 + x)])
        rw [runN_append, ← h1]
        show _ = nx e.1 ((UInt8.ofNat (97 + x)).toNat - 97)
        rw [hb, show 97 + x - 97 = x from by omega]
      · show nx' e.2.1 x = runN nx' T (e.2.2 ++ [UInt8.ofNat (97 + x)])
        rw [runN_append, ← h2]
        show _ = nx' e.2.1 ((UInt8.ofNat (97 + x)).toNat - 97)
        rw [hb, show 97 + x - 97 = x from by omega]
      · rcases List.mem_append.1 hc with hc | hc
        · exact h3 c hc
        · rw [List.mem_singleton] at hc
          subst hc
          simp only [badB, hb, Bool.or_eq_false_iff, decide_eq_false_iff_not]
          omega
theorem rb_leads {nx nx' : Nat → Nat → Nat} {L S T : Nat} (hL : L ≤ 4) : ∀ i, ∀ f ∈ rb nx nx' L S T i, Leads nx nx' L S T f
  | 0 => fun f hf => by
    simp only [rb, List.mem_singleton] at hf
    subst hf
    exact ⟨rfl, rfl, (fun c hc => by cases hc)⟩
  | i + 1 => by
    have ih := rb_leads (nx := nx) (nx' := nx') (S := S) (T := T) hL i
    show ∀ f ∈ (match (rb nx nx' L S T i)[i]? with | some e => rrow nx nx' e L (rb nx nx' L S T i) | none => rb nx nx' L S T i), _
    split
    · rename_i e he
      exact rrow_leads hL (ih e (List.mem_of_getElem? he)) ih L (Nat.le_refl _)
    · exact ih
theorem rb_closed {nx nx' : Nat → Nat → Nat} {L S T : Nat} : ∀ i j e, j < i → (rb nx nx' L S T i)[j]? = some e → ∀ y, y < L → ∃ f ∈ rb nx nx' L S T i, f.1 = nx e.1 y ∧ f.2.1 = nx' e.2.1 y
  | 0, j, _, hj, _, _, _ => by omega
  | i + 1, j, e, hj, he, y, hy => by
    cases hi : (rb nx nx' L S T i)[i]? with
    | none =>
      have heq : rb nx nx' L S T (i + 1) = rb nx nx' L S T i := by
        show (match (rb nx nx' L S T i)[i]? with | some e => rrow nx nx' e L (rb nx nx' L S T i) | none => rb nx nx' L S T i) = _
        rw [hi]
      rw [heq] at he ⊢
      by_cases e' : j = i
      · subst e'; rw [hi] at he; cases he
      · exact rb_closed i j e (by omega) he y hy
    | some e0 =>
      have heq : rb nx nx' L S T (i + 1) = rrow nx nx' e0 L (rb nx nx' L S T i) := by
        show (match (rb nx nx' L S T i)[i]? with | some e => rrow nx nx' e L (rb nx nx' L S T i) | none => rb nx nx' L S T i) = _
        rw [hi]
      have hlen := (List.getElem?_eq_some_iff.1 hi).1
      have hj' : (rb nx nx' L S T i)[j]? = some e := by
        obtain ⟨r, hr⟩ := rb_pre nx nx' L S T i
        rw [← hr, List.getElem?_append_left (by omega)] at he; exact he
      rw [heq]
      by_cases e' : j = i
      · subst e'
        rw [hi] at hj'; cases hj'
        exact rrow_has nx nx' _ _ L y hy
      · obtain ⟨f, hf, h⟩ := rb_closed i j e (by omega) hj' y hy
        exact ⟨f, rrow_sub nx nx' e0 hf L, h⟩
theorem rb_all {nx nx' : Nat → Nat → Nat} {L S T i : Nat} (hi : i = (rb nx nx' L S T i).length) : ∀ (w : List UInt8) (e : Nat × Nat × List UInt8), e ∈ rb nx nx' L S T i → (∀ c ∈ w, badB L c = false) → ∃ f ∈ rb nx nx' L S T i, f.1 = runN nx e.1 w ∧ f.2.1 = runN nx' e.2.1 w
  | [], e, he, _ => ⟨e, he, rfl, rfl⟩
  | c :: w, e, he, hb => by
    have hc := hb c (List.mem_cons_self ..)
    simp only [badB, Bool.or_eq_false_iff, decide_eq_false_iff_not] at hc
    obtain ⟨j, hj⟩ := List.getElem?_of_mem he
    have hjl := (List.getElem?_eq_some_iff.1 hj).1
    obtain ⟨f, hf, h1, h2⟩ := rb_closed i j e (by omega) hj (c.toNat - 97) (by omega)
    obtain ⟨g, hg, h3, h4⟩ := rb_all hi w f hf (fun d hd => hb d (List.mem_cons_of_mem _ hd))
    exact ⟨g, hg, by rw [h3, h1]; rfl, by rw [h4, h2]; rfl⟩
/-- what the search by pairs answers, in words -/
theorem parts_words {n n' : Nat} {gd gd' : Nat → Bool} {nx nx' : Nat → Nat → Nat} {L S T : Nat} {r : List UInt8} {ok : Bool} (hL : L ≤ 4) (hnx : ∀ s i, s < n → i < L → nx s i < n) (hnx' : ∀ s i, s < n' → i < L → nx' s i < n') (hS : S < n) (hT : T < n') (h : Parts gd gd' nx nx' L S T r ok) :
    (ok = true → gd (runN nx S r) ≠ gd' (runN nx' T r) ∧ (∀ c ∈ r, badB L c = false) ∧ r.length ≤ n * n') ∧ (ok = false → ∀ w, (∀ c ∈ w, badB L c = false) → gd (runN nx S w) = gd' (runN nx' T w)) := by
  obtain ⟨i, hag, ⟨hi, rfl, rfl⟩ | ⟨e, he, hne, rfl, rfl⟩⟩ := h
  · refine ⟨(fun e => by cases e), fun _ w hw => ?_⟩
    have h0 : (S, T, []) ∈ rb nx nx' L S T i := by
      obtain ⟨q, hq⟩ := rb_pres nx nx' L S T (Nat.zero_le i)
      rw [← hq]; simp [rb]
    obtain ⟨f, hf, h1, h2⟩ := rb_all hi w _ h0 hw
    obtain ⟨j, hj⟩ := List.getElem?_of_mem hf
    have hjl := (List.getElem?_eq_some_iff.1 hj).1
    have := hag j f (by omega) hj
    rw [h1, h2] at this; exact this
  · obtain ⟨h1, h2, h3⟩ := rb_leads hL i e (List.mem_of_getElem? he)
    have hok := rb_ok hnx hnx' hS hT i
    refine ⟨fun _ => ⟨by rw [← h1, ← h2]; exact hne, h3, ?_⟩, (fun e => by cases e)⟩
    have := hok.len e (List.mem_of_getElem? he)
    have := hok.size
    have := (List.getElem?_eq_some_iff.1 he).1
    omega
def wordOf (l : List Nat) : List UInt8 := l.map fun x => UInt8.ofNat (97 + x)
theorem wordOf_run (mx : Nat → Nat → Nat) {L : Nat} (hL : L ≤ 4) : ∀ (l : List Nat) (i : Nat), (∀ x ∈ l, x < L) → runN mx i (wordOf l) = runX mx i l ∧ ∀ c ∈ wordOf l, badB L c = false
  | [], _, _ => ⟨rfl, fun c hc => by cases hc⟩
  | x :: l, i, h => by
    have hx := h x (List.mem_cons_self ..)
    have hb : (UInt8.ofNat (97 + x)).toNat = 97 + x := by simp; omega
    obtain ⟨h1, h2⟩ := wordOf_run mx hL l (mx i x) (fun y hy => h y (List.mem_cons_of_mem _ hy))
    refine ⟨?_, fun c hc => ?_⟩
    · show runN mx (mx i ((UInt8.ofNat (97 + x)).toNat - 97)) (wordOf l) = runX mx (mx i x) l
      rw [hb, show 97 + x - 97 = x from by omega]; exact h1
    · rcases List.mem_cons.1 hc with rfl | hc
      · simp only [badB, hb, Bool.or_eq_false_iff, decide_eq_false_iff_not]
        omega
      · exact h2 c hc
/-- two states of different classes are just those that a word parts -/
theorem parts_class {L n N cnt : Nat} {nx : Nat → Nat → Nat} {gd : Nat → Bool} {mx : Nat → Nat → Nat} {mg : Nat → Bool} {φ : Nat → Nat} {mxL : Nat → Nat → Nat} {mgL : Nat → Bool} {cl : Nat → Nat} (hm : Num L n N nx gd mx mg φ) (h : LeastM mx mg L N cnt mxL mgL cl) (hL : L ≤ 4) (hnx : ∀ s i, s < n → i < L → nx s i < n)
    {p q : Nat} (hp : p < N) (hq : q < N) {r : List UInt8} {ok : Bool} (hP : Parts gd gd nx nx L (φ p) (φ q) r ok) :
    ok = (cl p != cl q) ∧ (ok = true → gd (runN nx (φ p) r) ≠ gd (runN nx (φ q) r) ∧ (∀ c ∈ r, badB L c = false) ∧ r.length ≤ n * n) := by
  obtain ⟨h1, h2⟩ := parts_words hL hnx hnx (hm.lt p hp) (hm.lt q hq) hP
  refine ⟨?_, h1⟩
  cases ok with
  | true =>
    obtain ⟨g1, g2, _⟩ := h1 rfl
    obtain ⟨a1, a2⟩ := hm.run hL r p hp g2
    obtain ⟨b1, b2⟩ := hm.run hL r q hq g2
    rw [← a1, ← b1, ← hm.good _ a2, ← hm.good _ b2] at g1
    have hne : cl p ≠ cl q := fun e => by
      have e1 := (h.run hL hm.mlt r p hp g2).1
      have e2 := (h.run hL hm.mlt r q hq g2).1
      rw [e, e2] at e1
      exact g1 (h.moore.good _ _ a2 b2 e1.symm)
    simp [hne]
  | false =>
    have heq : cl p = cl q := by
      rcases Nat.decEq (cl p) (cl q) with hne | he
      · obtain ⟨l, hl, hd⟩ := h.moore.dis p q hp hq hne
        obtain ⟨e1, e2⟩ := wordOf_run mx hL l p hl
        obtain ⟨f1, _⟩ := wordOf_run mx hL l q hl
        have := h2 rfl (wordOf l) e2
        obtain ⟨a1, a2⟩ := hm.run hL (wordOf l) p hp e2
        obtain ⟨b1, b2⟩ := hm.run hL (wordOf l) q hq e2
        rw [← a1, ← b1, ← hm.good _ a2, ← hm.good _ b2, e1, f1] at this
        exact absurd this hd
      · exact he
    simp [heq]
end Go.Proofs.Ytnnfobmfffbhaaa

open Go Go.Eng
namespace Go.Proofs.Ytnnfobmfffbhaaa
attribute [local congr] undef_congr WpK.congr WpS.congr WpL.congr WpC.congr WpF.congr gotS.congr callS.congr nextS.congr wantS.congr condS.congr
attribute [local irreducible] WpK
attribute [local simp] WpDr_nil WpDr_cons atS_some dwantS_true dwantS_false kindS_light kindS_float kindS_heavy lightS_value floatS_some heavyS_value heavyS_skip heavyS_enter dcallS_some doneS_eq
  isLight isFloat isPlain dLook testBit_dec dChain dLights_nil dLights_skip dLights_one dLight_nil dLight_cons dFreshes_nil dFreshes_one oneF_none oneF_some dFresh_nil dFresh_cons oneL_some oneW_true oneW_false sameV_value dPut dMay valEq arrEq listEq List.getElem?_cons Tr.get_nil dEnd
attribute [local simp] WpS_nil WpS_cons isDefer undef_false wantS_true wantS_false nextS_value nextS_skip nextS_enter callS_some gotS_some aWanted aOp aEvalF aEval opMove opAssign opPick aVal flat flat1 AAct.put opBinOp opConvert opIndex Tr.get_set Tr.get_lay aBin aResults tupled
  aCall aVals aCallB blt_dec ble_dec beq_dec aBinI_add aBinI_sub aBinI_lss aBinI_leq aBinI_gtr aBinI_geq aBinI_eql aBinI_neq index_str len_str len_slice Nat.beq_refl und3 und37 und5 und9
  opBox opLoad opFieldAddr opIndexAddr acells aAddr field25 und22 und23 und43 und4 und28
attribute [local simp] field31 conv_3_5 conv_3_37 conv_37_3 conv_5_3
set_option maxHeartbeats 4000000
theorem convU8 (W : AW) (v : Int) : aConv T0 (W.newCells 5 [.int .u8 v]) 92 9 (.slice (some ⟨W.next, 0, none⟩) 1 2) = some (.string ⟨⟨[UInt8.ofNat v.toNat]⟩⟩) := by
  have : (W.newCells 5 [.int .u8 v]).cellsAt W.next 0 1 = some [.int .u8 v] := newCells_cellsAt W 5 _ 1 rfl
  simp only [aConv, und38, und9, und5, this, bytesOf]
set_option maxHeartbeats 4000000 in
theorem textOk_wp (K : Nat) (hK : K ≤ 1000) (L : Nat) (hL1 : 1 ≤ L) (hL4 : L ≤ 4) (s : ByteArray) (l : List UInt8) (hl : s.data.toList = l) (hlen : l.length < 9223372036854775808) (W : AW) :
    WpF T0 24 [.string s, .int .i64 L, .int .i64 K] W (fun v W' => Ext W W' ∧ ∃ u : List UInt8, v = .string ⟨⟨u⟩⟩ ∧ u.length ≤ K ∧ ∀ c ∈ u, badB L c = false) := by
  refine wpF fun11 rfl ?_
  refine wpK_reg (fun R hR => by simp; exact hR) ?_
  try simp only [wpK_assoc]
  refine wpK_reg (fun R hR => by simp; exact hR) ?_
  try simp only [wpK_assoc]
  refine wpK_reg (fun R hR => by simp; exact hR) ?_
  refine wpK_while (I := fun k A W' => Ext W W' ∧ A.n = 32 ∧ A.defers = [] ∧ A.tmps.get 0 = some (.string s) ∧ A.tmps.get 1 = some (.int .i64 L) ∧ A.tmps.get 2 = some (.int .i64 K) ∧
    ∃ i : Nat, k = K - i ∧ i ≤ K ∧ A.tmps.get 8 = some (.int .i64 i) ∧ ∃ u : List UInt8, A.tmps.get 7 = some (.string ⟨⟨u⟩⟩) ∧ u.length ≤ i ∧ ∀ c ∈ u, badB L c = false)
    (J := fun A W' => Ext W W' ∧ A.n = 32 ∧ A.defers = [] ∧ ∃ u : List UInt8, A.tmps.get 7 = some (.string ⟨⟨u⟩⟩) ∧ u.length ≤ K ∧ ∀ c ∈ u, badB L c = false)
    (Rt := fun _ _ => False) (k := K) ?_ ?_ ?_ ?_
  · exact ⟨.refl _ _, rfl, rfl, by simp, by simp, by simp, 0, by simp, by simp, by simp, [], by simp, by simp, (fun c hc => by cases hc)⟩
  · rintro k ⟨t, m, ds⟩ W' ⟨hE, hm, hd, h0, h1, h2, i, hk, hi, h8, u, h7, hu, hub⟩ Q' hJ hRt hI
    simp only at hm hd h0 h1 h2 h8 h7
    subst hm; subst hd
    try simp only [wpK_assoc]
    by_cases hlt : i < l.length
    · by_cases hlt2 : i < K
      · have hlt3 : (i : Int) < K := by omega
        refine wpK_reg (fun R hR => by simp [h0, h2, h8, hl, hlt, hlt3]; exact hR) ?_
        refine wpK_onT (by simp) ?_
        have hc : l[i]? = some l[i] := List.getElem?_eq_getElem hlt
        generalize l[i] = c at hc
        have hcl := c.toNat_lt
        have hw : IntKind.u8.wrap (L : Int) = L := IntWalk.u8_in _ (by omega)
        have hne : (L : Int) ≠ 0 := by omega
        have hrem := aBinI_rem .u8 (c.toNat : Int) (L : Int) hne
        obtain ⟨x, hx⟩ : ∃ x : Nat, (c.toNat : Int).tmod L = x := ⟨((c.toNat : Int).tmod L).toNat, by rw [Int.toNat_of_nonneg (Int.tmod_nonneg _ (by omega))]⟩
        have hxL : x < L := by
          have := Int.tmod_lt_of_pos (c.toNat : Int) (show (0 : Int) < L by omega)
          omega
        have hwx : IntKind.u8.wrap (97 + (x : Int)) = 97 + (x : Int) := by rw [IntWalk.u8_in _ (by omega)]
        have hcv := convU8 W' (97 + (x : Int))
        rw [show (97 + (x : Int)).toNat = 97 + x from by omega] at hcv
        have hb : (UInt8.ofNat (97 + x)).toNat = 97 + x := by simp; omega
        obtain ⟨q, hq⟩ : ∃ q, q = UInt8.ofNat (97 + x) := ⟨_, rfl⟩
        rw [← hq] at hcv hb
        clear hq
        have hst : aStr .add ⟨⟨u⟩⟩ ⟨⟨[q]⟩⟩ = some (.string ⟨⟨u ++ [q]⟩⟩) := by
          simp only [aStr, ble_dec]
          rw [decide_eq_true (by simp; omega)]
        refine wpK_block ?_
        try simp only [wpK_assoc]
        refine wpK_reg1 (fun R hR => by simp [h0, h1, h7, h8, hl, hc, hw, hrem, hx, hwx, opBuildSlice, aParts, bs38, aValW, hcv, hst]; exact hR) ?_
        refine wpK_reg1 (fun R hR => by simp [h8]; exact hR) ?_
        refine hI (k - 1) _ _ (by omega) ⟨hE.trans (.newCells _ _ _), rfl, rfl, by simp [h0], by simp [h1], by simp [h2], i + 1, by omega, by omega, by simp; exact i64_succ i (by omega), u ++ [q], by simp, by simp; omega, fun d hd => ?_⟩
        rcases List.mem_append.1 hd with hd | hd
        · exact hub d hd
        · rw [List.mem_singleton] at hd
          subst hd
          simp only [badB, hb, Bool.or_eq_false_iff, decide_eq_false_iff_not]
          omega
      · have hlt3 : ¬ (i : Int) < K := by omega
        refine wpK_reg (fun R hR => by simp [h0, h2, h8, hl, hlt, hlt3]; exact hR) ?_
        exact wpK_out (by simp) (hJ _ _ ⟨hE, rfl, rfl, u, by simp [h7], by omega, hub⟩)
    · refine wpK_reg (fun R hR => by simp [h0, h2, h8, hl, hlt]; exact hR) ?_
      exact wpK_out (by simp) (hJ _ _ ⟨hE, rfl, rfl, u, by simp [h7], by omega, hub⟩)
  · rintro A' W' h; exact h.elim
  · rintro ⟨t, m, ds⟩ W' ⟨hE, hm, hd, u, h7, hu, hub⟩
    simp only at hm hd h7
    subst hm; subst hd
    refine wpK_reg (fun R hR => by simp [h7]; exact hR) ?_
    exact wpK_ret ⟨.inr rfl, rfl, [.string ⟨⟨u⟩⟩], by simp, hE, u, rfl, hu, hub⟩
end Go.Proofs.Ytnnfobmfffbhaaa

open Go Go.Eng
namespace Go.Proofs.Ytnnfobmfffbhaaa
attribute [local congr] undef_congr WpK.congr WpS.congr WpL.congr WpC.congr WpF.congr gotS.congr callS.congr nextS.congr wantS.congr condS.congr
attribute [local irreducible] WpK
attribute [local simp] WpDr_nil WpDr_cons atS_some dwantS_true dwantS_false kindS_light kindS_float kindS_heavy lightS_value floatS_some heavyS_value heavyS_skip heavyS_enter dcallS_some doneS_eq
  isLight isFloat isPlain dLook testBit_dec dChain dLights_nil dLights_skip dLights_one dLight_nil dLight_cons dFreshes_nil dFreshes_one oneF_none oneF_some dFresh_nil dFresh_cons oneL_some oneW_true oneW_false sameV_value dPut dMay valEq arrEq listEq List.getElem?_cons Tr.get_nil dEnd
attribute [local simp] WpS_nil WpS_cons isDefer undef_false wantS_true wantS_false nextS_value nextS_skip nextS_enter callS_some gotS_some aWanted aOp aEvalF aEval opMove opAssign opPick aVal flat flat1 AAct.put opBinOp opConvert opIndex Tr.get_set Tr.get_lay aBin aResults tupled
  aCall aVals aCallB blt_dec ble_dec beq_dec aBinI_add aBinI_sub aBinI_lss aBinI_leq aBinI_gtr aBinI_geq aBinI_eql aBinI_neq index_str len_str len_slice Nat.beq_refl und3 und37 und5 und9
  opBox opLoad opFieldAddr opIndexAddr acells aAddr field25 und22 und23 und43 und4 und28
attribute [local simp] field31 conv_3_5 conv_3_37 conv_37_3 conv_5_3
set_option maxHeartbeats 4000000
theorem fnNerode : T0.funcs.get 6 = some Try.f6 := by kernel_rfl
theorem bld25 (L : Int) (a a' : Option Addr) (n c n' c' : Nat) : aBuild T0 25 [(0, .int .i64 L), (1, .slice a n c), (2, .slice a' n' c')] = some (.agg ⟨[.int .i64 L, .slice a n c, .slice a' n' c']⟩) := by kernel_rfl
theorem undArr2 : T0.und.get 45 = some (.array 2 9) := by kernel_rfl
theorem idxAddr45 (r x : Nat) (hx : x < 2) : aIndexAddr T0 45 (.pointer (some ⟨r, 0, none⟩)) (.int .i64 (x : Nat)) = some (.pointer (some ⟨r, x, none⟩)) := by
  show aIndexAddr T0 45 (.pointer (some ⟨r, 0, none⟩)) (.int .i64 (Int.ofNat x)) = _
  simp only [aIndexAddr, undArr2, sz9, blt_dec, hx, decide_true, Nat.mul_one, Nat.zero_add]
theorem wordErr_zero {L : Nat} {l : List UInt8} (hb : ∀ c ∈ l, badB L c = false) (hl : l.length ≤ 5000) : wordErr L l = 0 := by
  unfold wordErr
  have : l.any (badB L) = false := by
    rw [List.any_eq_false]
    intro c hc
    rw [hb c hc]; simp
  rw [this]
  simp; omega
/-- what is known of the words of the classes -/
structure ClsWords (ws : List Value) (L N cnt : Nat) (mx : Nat → Nat → Nat) (mxL : Nat → Nat → Nat) (cl : Nat → Nat) : Prop where
  word : ∀ j, j < cnt → ∃ r : List UInt8, ws[j]? = some (.string ⟨⟨r⟩⟩) ∧ (∀ c ∈ r, badB L c = false) ∧ r.length ≤ j ∧ runN mx 0 r < N ∧ cl (runN mx 0 r) = j ∧ runN mxL 0 r = j
theorem clsWords_of {mx : Nat → Nat → Nat} {mg : Nat → Bool} {L N cnt cnt' : Nat} {mxL mxL' : Nat → Nat → Nat} {mgL mgL' : Nat → Bool} {cl cl' : Nat → Nat} (h : LeastM mx mg L N cnt mxL mgL cl) (h' : LeastM mx mg L N cnt' mxL' mgL' cl') (hL : L ≤ 4) (hmx : ∀ s x, s < N → x < 4 → mx s x < N) (hN : 0 < N) {ws : List Value} (hw : ∀ j, j < cnt' → WordTo mxL' L ws j) : ClsWords ws L N cnt mx mxL cl := by
  refine ⟨fun j hj => ?_⟩
  obtain ⟨r, h1, h2, h3, h4⟩ := hw j (by rw [← h.count h' hL hmx]; exact hj)
  obtain ⟨a1, a2⟩ := h.run hL hmx r 0 hN h3
  obtain ⟨b1, b2⟩ := h'.run hL hmx r 0 hN h3
  rw [(h'.cl0 hN).1, h2] at b1
  rw [(h.cl0 hN).1] at a1
  have e := h.one h' hL hmx _ a2
  exact ⟨r, h1, h3, h4, a2, by rw [e, ← b1], by rw [a1, e, ← b1]⟩

theorem wordNerode_wp (L0 : Int) (vN vG : Value) (nN nG : Nat) (len : Nat → Nat) (f : Nat → Nat → Int) (g : Nat → Bool) (u z : ByteArray) (hu : u.data.toList.length < 9223372036854775808) (hz : z.data.toList.length < 9223372036854775808)
    (W : AW) (hN : RowsIn W vN nN len f) (hG : BoolsIn W vG nG g) :
    WpF T0 6 [.agg ⟨[.int .i64 L0, vN, vG]⟩, .agg ⟨[.string u, .string z]⟩] W (fun v W' => Ext W W' ∧ v = .bool true) := by
  have hN0 := hN
  have hG0 := hG
  obtain ⟨aN, cN, rfl, _⟩ := hN
  obtain ⟨aG, cG, rfl, _⟩ := hG
  refine wpF fnNerode rfl ?_
  refine wpK_reg (fun R hR => by simp; exact hR) ?_
  obtain ⟨W1, hW1, hE1, hn1, hb0, hl2, hs0, hs1⟩ : ∃ W1, W1 = (W.newCells 25 [.int .i64 L0, .slice aN nN cN, .slice aG nG cG]).newCells 45 [.string u, .string z] ∧ Ext W W1 ∧ W1.next = W.next + 2 ∧
      W1.Has W.next 0 (.int .i64 L0) ∧ (∀ W', Ext W1 W' → aLoadVar T0 W' 25 W.next 0 = some (.agg ⟨[.int .i64 L0, .slice aN nN cN, .slice aG nG cG]⟩)) ∧ W1.Has (W.next + 1) 0 (.string u) ∧ W1.Has (W.next + 1) 1 (.string z) := by
    have hA : ∀ j u', [Value.int .i64 L0, .slice aN nN cN, .slice aG nG cG][j]? = some u' → ((W.newCells 25 [.int .i64 L0, .slice aN nN cN, .slice aG nG cG]).newCells 45 [.string u, .string z]).Has W.next j u' := fun j u' h => (Has.newCells h).ext (.newCells _ _ _)
    refine ⟨_, rfl, (Only.newCells _ _ _).trans (Only.newCells _ _ _), rfl, hA 0 _ rfl, fun W' h => ?_, Has.newCells rfl, Has.newCells rfl⟩
    refine load25 (cellsAt_of_cells rfl ⟨_, by rw [h.2 _ (by simp only [newCells_next]; omega) (fun x => x), newCells_get, if_neg (by simp only [newCells_next]; omega), newCells_get, if_pos rfl]⟩ (fun j hj => ?_) (by omega))
    rw [Nat.zero_add]
    match j, hj with
    | 0, _ => exact ((hA 0 _ rfl).ext h).2
    | 1, _ => exact ((hA 1 _ rfl).ext h).2
    | 2, _ => exact ((hA 2 _ rfl).ext h).2
  rw [← hW1]
  simp only [newCells_next]
  clear hW1
  -- how many letters
  try simp only [wpK_assoc]
  refine wpK_regc (J := fun A W' => W' = W1 ∧ A.n = 170 ∧ A.defers = [] ∧ A.tmps.get 2 = some (.pointer (some ⟨W.next, 0, none⟩)) ∧ A.tmps.get 3 = some (.pointer (some ⟨W.next + 1, 0, none⟩)) ∧ ∃ L : Nat, 1 ≤ L ∧ L ≤ 4 ∧ A.tmps.get 5 = some (.int .i64 L)) (fun R hR => ?_) ?_
  · simp [load_ext und3 rfl hb0 (.refl _ _), aEnter, fun6, short_other, aCallV]
    rw [callS_none]
    refine (letters_wp L0 W1).mono ?_
    rintro v W' ⟨rfl, L, rfl, hL1, hL4⟩
    simp
    apply hR
    exact ⟨rfl, rfl, rfl, by simp, by simp, L, hL1, hL4, by simp⟩
  rintro ⟨t, m, ds⟩ W' ⟨rfl, hm, hd, h2, h3, L, hL1, hL4, h5⟩
  simp only at hm hd h2 h3 h5
  subst hm; subst hd
  -- the automaton
  try simp only [wpK_assoc]
  refine wpK_regc (J := fun A W2 => A.n = 170 ∧ A.defers = [] ∧ A.tmps.get 3 = some (.pointer (some ⟨W.next + 1, 0, none⟩)) ∧ A.tmps.get 5 = some (.int .i64 L) ∧ Ext W' W2 ∧ ∃ b6, A.tmps.get 6 = some (.pointer (some ⟨b6, 0, none⟩)) ∧ ∃ n bN bG nx gd, 1 ≤ n ∧ n ≤ 9 ∧
      (∀ W'', Ext W2 W'' → aLoadVar T0 W'' 28 b6 0 = some (autoV L n bN 0 3 bG 0 3)) ∧ Rows W2 bN 0 n L nx ∧ Goods W2 bG 0 n gd ∧ (∀ s i, s < n → i < L → nx s i < n)) (fun R hR => ?_) ?_
  · simp [h2, h5, hl2 W' (.refl _ _), aEnter, fun5, short_other, aCallV]
    rw [callS_none]
    refine (tame_wp 9 (by omega) (by omega) L hL1 hL4 L0 _ _ nN nG len f g W' (hN0.ext hE1) (hG0.ext hE1)).mono ?_
    rintro v W3 ⟨hE3, n, bN, bG, nx, gd, rfl, hn1', hn9, hbN, hbG, hR', hGd, hnx⟩
    simp [aEnter, fun8, short_other, aCallV]
    rw [callS_none]
    refine (give_wp L n bN 0 3 bG 0 3 W3).mono ?_
    rintro v W4 ⟨hE4, rfl⟩
    obtain ⟨W5, s1, s2, s3, s4⟩ := storeVar_own (T := T0) (t := 28) (W := W4.newCells 28 [.int .i64 0, .slice none 0 0, .slice none 0 0]) (v := autoV L n bN 0 3 bG 0 3) (b := W4.next) (o := 0) inf31 rfl (by rw [newCells_get, if_pos rfl]) (by show 0 + 3 ≤ 3; omega) rfl
    have hE5 : Ext W4 W5 := ⟨by rw [s2, newCells_next]; omega, fun b hb _ => by rw [s3 b (by omega), newCells_get, if_neg (by omega)]⟩
    have hn5 : W5.next = W4.next + 1 := s2
    have hE35 := hE4.trans hE5
    simp [opAlloc, zero31, opStore, s1]
    apply hR
    refine ⟨rfl, rfl, by simp [h3], by simp [h5], hE3.trans hE35, W4.next, by simp, n, bN, bG, nx, gd, hn1', hn9, fun W'' h => ?_, hR'.rows.ext hE35, hGd.ext hE35, hnx⟩
    exact load31 (cells3 (by rw [h.2 _ (by omega) (fun x => x)]; exact s4) (by rw [Tr.get_lay]; rfl) (by rw [Tr.get_lay]; rfl) (by rw [Tr.get_lay]; rfl))
  rintro ⟨t, m, ds⟩ W2 ⟨hm, hd, h3, h5, hE2, b6, h6, n, bN, bG, nx, gd, hn1', hn9, hl6, hRN, hGD, hnx⟩
  simp only at hm hd h3 h5 h6
  subst hm; subst hd
  -- the least one
  try simp only [wpK_assoc]
  refine wpK_regc (J := fun A W3 => A.n = 170 ∧ A.defers = [] ∧ A.tmps.get 3 = some (.pointer (some ⟨W.next + 1, 0, none⟩)) ∧ A.tmps.get 5 = some (.int .i64 L) ∧ A.tmps.get 6 = some (.pointer (some ⟨b6, 0, none⟩)) ∧ A.tmps.get 8 = some (.int .i64 0) ∧ Ext W2 W3 ∧ ∃ b7, A.tmps.get 7 = some (.pointer (some ⟨b7, 0, none⟩)) ∧
      ∃ keys lB lL lN cl cnt mxL mgL bN' cN' bG' cG', Bfs (stepA L n nx) L (.int .i64 0) keys.length keys lB lL lN ∧ LeastM (mxOf lN) (mgOf gd keys) L keys.length cnt mxL mgL cl ∧
      W3.Has b7 0 (.int .i64 L) ∧ W3.Has b7 1 (.slice (some ⟨bN', 0, none⟩) cnt cN') ∧ W3.Has b7 2 (.slice (some ⟨bG', 0, none⟩) cnt cG') ∧ Rows W3 bN' 0 cnt L mxL) (fun R hR => ?_) ?_
  · simp [h6, hl6 W2 (.refl _ _), aEnter, fnLeast10, short_other, aCallV]
    rw [callS_none]
    refine (least10_wp L n bN 0 3 bG 0 3 nx gd W2 hRN hGD hL1 hL4 hn1' (by omega) hnx).mono ?_
    rintro v W3 ⟨hE3, keys, lB, lL, lN, cl, cnt, mxL, mgL, bN', cN', bG', cG', hB, hLM, rfl, hR', hG'⟩
    obtain ⟨W5, s1, s2, s3, s4⟩ := storeVar_own (T := T0) (t := 28) (W := W3.newCells 28 [.int .i64 0, .slice none 0 0, .slice none 0 0]) (v := autoV L cnt bN' 0 cN' bG' 0 cG') (b := W3.next) (o := 0) inf31 rfl (by rw [newCells_get, if_pos rfl]) (by show 0 + 3 ≤ 3; omega) rfl
    have hE5 : Ext W3 W5 := ⟨by rw [s2, newCells_next]; omega, fun b hb _ => by rw [s3 b (by omega), newCells_get, if_neg (by omega)]⟩
    have hn5 : W5.next = W3.next + 1 := s2
    simp [opExtract, aExtract, opAlloc, zero31, opStore, s1]
    apply hR
    exact ⟨rfl, rfl, by simp [h3], by simp [h5], by simp [h6], by simp, hE3.trans hE5, W3.next, by simp, keys, lB, lL, lN, cl, cnt, mxL, mgL, bN', cN', bG', cG', hB, hLM, ⟨by omega, by simp only [AW.cell, s4, blt_dec]; rfl⟩, ⟨by omega, by simp only [AW.cell, s4, blt_dec]; rfl⟩, ⟨by omega, by simp only [AW.cell, s4, blt_dec]; rfl⟩, hR'.ext hE5⟩
  rintro ⟨t, m, ds⟩ W3 ⟨hm, hd, h3, h5, h6, h8, hE3, b7, h7, keys, lB, lL, lN, cl, cnt, mxL, mgL, bN', cN', bG', cG', hB, hLM, hq0, hq1, hq2, hRL⟩
  simp only at hm hd h3 h5 h6 h8 h7
  subst hm; subst hd
  have hN1 : 0 < keys.length := hB.pos.length_le
  have hmx : ∀ s x, s < keys.length → x < 4 → mxOf lN s x < keys.length := fun s x hs hx => (mxOf_lt hB hs hx).1
  have hnm := num_of (gd := gd) hL4 (by omega) hnx hB
  -- the classes
  try simp only [wpK_assoc]
  refine wpK_regc (J := fun A W4 => A.n = 170 ∧ A.defers = [] ∧ A.tmps.get 3 = some (.pointer (some ⟨W.next + 1, 0, none⟩)) ∧ A.tmps.get 5 = some (.int .i64 L) ∧ A.tmps.get 6 = some (.pointer (some ⟨b6, 0, none⟩)) ∧ A.tmps.get 7 = some (.pointer (some ⟨b7, 0, none⟩)) ∧ A.tmps.get 8 = some (.int .i64 0) ∧ A.tmps.get 10 = some (.int .i64 0) ∧ Ext W3 W4 ∧
      ∃ bc cc ws, A.tmps.get 9 = some (.slice (some ⟨bc, 0, none⟩) cnt cc) ∧ (∀ j u', ws[j]? = some u' → W4.Has bc j u') ∧ ClsWords ws L keys.length cnt (mxOf lN) mxL cl) (fun R hR => ?_) ?_
  · simp [h6, hl6 W3 hE3, aEnter, fnClasses, short_other, aCallV]
    rw [callS_none]
    refine (classes_wp L n bN 0 3 bG 0 3 nx gd W3 (hRN.ext hE3) (hGD.ext hE3) hL1 hL4 hn1' (by omega) hnx).mono ?_
    rintro v W4 ⟨hE4, keys', lB', lL', lN', cl', cnt', mxL', mgL', hB', hLM', bc, cc, ws, rfl, hh, hws⟩
    obtain ⟨rfl, rfl, rfl, rfl⟩ := bfs_one (n := n) (fun h => stepA_is (by omega) hnx h) ⟨0, by omega, rfl⟩ hB hB'
    have hce := hLM.count hLM' hL4 hmx
    subst hce
    simp [opExtract, aExtract]
    apply hR
    exact ⟨rfl, rfl, by simp [h3], by simp [h5], by simp [h6], by simp [h7], by simp [h8], by simp, hE4, bc, cc, ws, by simp, hh, clsWords_of hLM hLM' hL4 hmx hN1 hws⟩
  rintro ⟨t, m, ds⟩ W4 ⟨hm, hd, h3, h5, h6, h7, h8, h10, hE4, bc, cc, ws, h9, hh, hCW⟩
  simp only at hm hd h3 h5 h6 h7 h8 h10 h9
  subst hm; subst hd
  have hce : ¬ ((cnt : Int) ≠ cnt) := by omega
  try simp only [wpK_assoc]
  refine wpK_reg (fun R hR => by simp [h7, h8, h9, h10, len_slice undStrs, len_slice und22, field31, load_ext und22 rfl hq1 hE4]; exact hR) ?_
  refine wpK_onF (by simp) ?_
  -- the least one, for the reference
  obtain ⟨W5, s1, s2, s3, s4⟩ := storeVar_own (T := T0) (t := 25) (W := W4.newCells 25 [.int .i64 0, .slice none 0 0, .slice none 0 0]) (v := .agg ⟨[.int .i64 L, .slice (some ⟨bN', 0, none⟩) cnt cN', .slice (some ⟨bG', 0, none⟩) cnt cG']⟩) (b := W4.next) (o := 0) inf25 rfl (by rw [newCells_get, if_pos rfl]) (by show 0 + 3 ≤ 3; omega) rfl
  have hE5 : Ext W4 W5 := ⟨by rw [s2, newCells_next]; omega, fun b hb _ => by rw [s3 b (by omega), newCells_get, if_neg (by omega)]⟩
  have hn5 : W5.next = W4.next + 1 := s2
  have hl11 : ∀ W'', Ext W5 W'' → aLoadVar T0 W'' 25 W4.next 0 = some (.agg ⟨[.int .i64 L, .slice (some ⟨bN', 0, none⟩) cnt cN', .slice (some ⟨bG', 0, none⟩) cnt cG']⟩) := fun W'' h => load25 (cells3 (by rw [h.2 _ (by omega) (fun x => x)]; exact s4) (by rw [Tr.get_lay]; rfl) (by rw [Tr.get_lay]; rfl) (by rw [Tr.get_lay]; rfl))
  try simp only [wpK_assoc]
  refine wpK_reg (fun R hR => by simp [h7, field31, load_ext und3 rfl hq0 hE4, load_ext und22 rfl hq1 hE4, load_ext und23 rfl hq2 hE4, opBuild, aParts, bld25, opAlloc, zero25, opStore, s1]; exact hR) ?_
  try simp only [wpK_assoc]
  refine wpK_reg (fun R hR => by simp; exact hR) ?_
  have hcw := hLM.moore.le
  have hkn : keys.length ≤ n := distS_len (hB.isK (isK := IsS n) (fun h => stepA_is (by omega) hnx h) ⟨0, by omega, rfl⟩) hB.dist
  have hcnt0 := (hLM.cl0 hN1).2
  have hcl0 := (hLM.cl0 hN1).1
  have hmxL : ∀ s i, s < cnt → i < L → mxL s i < cnt := fun s i hs hi => hLM.lt hmx s i hs (by omega)
  have hE24 := hE3.trans hE4
  have hE25 := hE24.trans hE5
  have hE35 := hE4.trans hE5
  have hvA : valEq (.agg ⟨[.int .i64 L, .slice (some ⟨bN', 0, none⟩) cnt cN', .slice (some ⟨bG', 0, none⟩) cnt cG']⟩) (.agg ⟨[.int .i64 L, .slice (some ⟨bN', 0, none⟩) cnt cN', .slice (some ⟨bG', 0, none⟩) cnt cG']⟩) = true := by simp [valEq, arrEq, listEq]
  have hvB : valEq (autoV L n bN 0 3 bG 0 3) (autoV L n bN 0 3 bG 0 3) = true := by simp [valEq, arrEq, listEq]
  have hvw : ∀ w : ByteArray, valEq (.string w) (.string w) = true := fun w => by simp [valEq]
  try simp only [wpK_assoc]
  refine wpK_while (I := fun k A Wx => A.n = 170 ∧ A.defers = [] ∧ A.tmps.get 3 = some (.pointer (some ⟨W.next + 1, 0, none⟩)) ∧ A.tmps.get 5 = some (.int .i64 L) ∧ A.tmps.get 6 = some (.pointer (some ⟨b6, 0, none⟩)) ∧ A.tmps.get 9 = some (.slice (some ⟨bc, 0, none⟩) cnt cc) ∧ A.tmps.get 11 = some (.pointer (some ⟨W4.next, 0, none⟩)) ∧
        Ext W5 Wx ∧ ∃ i : Nat, k = cnt - i ∧ i ≤ cnt ∧ A.tmps.get 12 = some (.int .i64 i))
      (J := fun A Wx => A.n = 170 ∧ A.defers = [] ∧ A.tmps.get 3 = some (.pointer (some ⟨W.next + 1, 0, none⟩)) ∧ A.tmps.get 5 = some (.int .i64 L) ∧ A.tmps.get 6 = some (.pointer (some ⟨b6, 0, none⟩)) ∧ A.tmps.get 11 = some (.pointer (some ⟨W4.next, 0, none⟩)) ∧ Ext W5 Wx) (Rt := fun _ _ => False) (k := cnt) ?_ ?_ ?_ ?_
  · exact ⟨rfl, rfl, by simp [h3], by simp [h5], by simp [h6], by simp [h9], by simp, .refl _ _, 0, by omega, by omega, by simp⟩
  · clear h3 h5 h6 h7 h8 h9 h10
    rintro k ⟨t, m, ds⟩ Wx ⟨hm, hd, h3, h5, h6, h9, h11, hEx, i, hk, hi, h12⟩ Q' hJ hRt hI
    simp only at hm hd h3 h5 h6 h9 h11 h12
    subst hm; subst hd
    try simp only [wpK_assoc]
    refine wpK_reg (fun R hR => by simp [h9, h12, len_slice undStrs]; exact hR) ?_
    by_cases hic : i < cnt
    case neg =>
      exact wpK_out (by simp [hic]) (hJ _ _ ⟨rfl, rfl, by simp [h3], by simp [h5], by simp [h6], by simp [h11], hEx⟩)
    refine wpK_onT (by simp [hic]) ?_
    refine wpK_block ?_
    obtain ⟨ri, hi1, hi2, hi3, hi4, hi5, hi6⟩ := hCW.word i hic
    have hEx3 := hE35.trans hEx
    have hEx4 := hE5.trans hEx
    have hwi := (hh i _ hi1).ext hEx4
    have ha := indexAddr_slice (b := bc) (o := 0) (c := cc) (k := .i64) undStrs sz9 hic
    simp only [Nat.zero_add, Nat.mul_one] at ha
    have hrl : ri.length < 9223372036854775808 := by omega
    -- its number in the least one
    try simp only [wpK_assoc]
    refine wpK_dr (wr := Tr.nil |>.set 70 0 |>.set 71 1 |>.set 72 2 |>.set 73 3 |>.set 74 4 |>.set 75 5 |>.set 76 6 |>.set 77 7) (bits := Tr.nil.lay 0 [0, 0, 0, 6, 14, 31, 0, 127]) (ord := [0, 1, 2, 3, 4, 5, 6, 7])
      (J := fun A Wy => A.n = 170 ∧ A.defers = [] ∧ A.tmps.get 3 = some (.pointer (some ⟨W.next + 1, 0, none⟩)) ∧ A.tmps.get 5 = some (.int .i64 L) ∧ A.tmps.get 6 = some (.pointer (some ⟨b6, 0, none⟩)) ∧ A.tmps.get 9 = some (.slice (some ⟨bc, 0, none⟩) cnt cc) ∧ A.tmps.get 11 = some (.pointer (some ⟨W4.next, 0, none⟩)) ∧ A.tmps.get 12 = some (.int .i64 i) ∧ A.tmps.get 77 = some (.bool false) ∧ Ext W5 Wy)
      (by kernel_rfl) (by kernel_rfl) (by kernel_rfl) (fun G hGG => ?_) ?_
    · simp [h9, h11, h12, hl11 Wx hEx, ha, load_ext und9 rfl hwi (.refl _ _), hvA, hvw, aEnter, fun18, short_other, aCallV]
      rw [dcallS_none]
      refine (from_wp L cnt bN' 0 cN' bG' 0 cG' mxL 0 ⟨⟨ri⟩⟩ ri rfl hrl Wx (hRL.ext hEx3) (by omega) hmxL hi2).mono ?_
      rintro v Wy ⟨hEy, rfl⟩
      rw [hi6]
      simp [h9, h11, h12, hl11 Wx hEx, hl11 Wy (hEx.trans hEy), ha, load_ext und9 rfl hwi (.refl _ _), load_ext und9 rfl hwi hEy, hEy.1, hvA, hvw, valEq_slice]
      apply hGG
      exact ⟨rfl, rfl, by simp [h3], by simp [h5], by simp [h6], by simp [h9], by simp [h11], by simp [h12], by simp, hEx.trans hEy⟩
    rintro ⟨t, m, ds⟩ Wy ⟨hm, hd, h3, h5, h6, h9, h11, h12, h77, hEy⟩
    simp only at hm hd h3 h5 h6 h9 h11 h12 h77
    subst hm; subst hd
    refine wpK_onF (by simp [h77]) ?_
    try simp only [wpK_assoc]
    refine wpK_reg (fun R hR => by simp; exact hR) ?_
    refine wpK_while1 (I := fun k A Wz => A.n = 170 ∧ A.defers = [] ∧ A.tmps.get 3 = some (.pointer (some ⟨W.next + 1, 0, none⟩)) ∧ A.tmps.get 5 = some (.int .i64 L) ∧ A.tmps.get 6 = some (.pointer (some ⟨b6, 0, none⟩)) ∧ A.tmps.get 9 = some (.slice (some ⟨bc, 0, none⟩) cnt cc) ∧ A.tmps.get 11 = some (.pointer (some ⟨W4.next, 0, none⟩)) ∧ A.tmps.get 12 = some (.int .i64 i) ∧
          Ext W5 Wz ∧ ∃ j : Nat, k = i - j ∧ j ≤ i ∧ A.tmps.get 13 = some (.int .i64 j))
        (J := fun A Wz => A.n = 170 ∧ A.defers = [] ∧ A.tmps.get 3 = some (.pointer (some ⟨W.next + 1, 0, none⟩)) ∧ A.tmps.get 5 = some (.int .i64 L) ∧ A.tmps.get 6 = some (.pointer (some ⟨b6, 0, none⟩)) ∧ A.tmps.get 9 = some (.slice (some ⟨bc, 0, none⟩) cnt cc) ∧ A.tmps.get 11 = some (.pointer (some ⟨W4.next, 0, none⟩)) ∧ A.tmps.get 12 = some (.int .i64 i) ∧ Ext W5 Wz) (Rt := fun _ _ => False) (k := i) ?_ ?_ ?_ ?_
    · exact ⟨rfl, rfl, by simp [h3], by simp [h5], by simp [h6], by simp [h9], by simp [h11], by simp [h12], hEy, 0, by omega, by omega, by simp⟩
    · clear h3 h5 h6 h9 h11 h12 h77
      rintro k2 ⟨t, m, ds⟩ Wz ⟨hm, hd, h3, h5, h6, h9, h11, h12, hEz, j, hk2, hj, h13⟩ Q2 hJ2 hRt2 hI2
      simp only at hm hd h3 h5 h6 h9 h11 h12 h13
      subst hm; subst hd
      try simp only [wpK_assoc]
      refine wpK_reg (fun R hR => by simp [h12, h13]; exact hR) ?_
      by_cases hji : j < i
      case neg =>
        exact wpK_out (by simp [hji]) (hJ2 _ _ ⟨rfl, rfl, by simp [h3], by simp [h5], by simp [h6], by simp [h9], by simp [h11], by simp [h12], hEz⟩)
      refine wpK_onT (by simp [hji]) ?_
      refine wpK_block ?_
      obtain ⟨rj, hj1, hj2, hj3, hj4, hj5, hj6⟩ := hCW.word j (by omega)
      have hEz4 := hE5.trans hEz
      have hEz2 := hE25.trans hEz
      have hwi := (hh i _ hi1).ext hEz4
      have hwj := (hh j _ hj1).ext hEz4
      have ha2 := indexAddr_slice (b := bc) (o := 0) (c := cc) (k := .i64) undStrs sz9 (show j < cnt by omega)
      simp only [Nat.zero_add, Nat.mul_one] at ha2
      have hrlj : rj.length < 9223372036854775808 := by omega
      have hei : wordErr L ri = 0 := wordErr_zero hi2 (by omega)
      have hej : wordErr L rj = 0 := wordErr_zero hj2 (by omega)
      have he2 : wordErr2 L ri rj = 0 := by unfold wordErr2; rw [if_pos hei]; exact hej
      -- what parts them
      try simp only [wpK_assoc]
      refine wpK_dr (wr := Tr.nil |>.set 84 0 |>.set 85 1 |>.set 86 2 |>.set 87 3 |>.set 88 4 |>.set 89 5 |>.set 90 6 |>.set 91 7 |>.set 92 8 |>.set 93 9 |>.set 83 10 |>.set 94 11 |>.set 95 12 |>.set 96 13 |>.set 14 14 |>.set 15 15 |>.set 16 16) (bits := Tr.nil.lay 0 [0, 0, 0, 6, 14, 0, 0, 96, 224, 511, 1023, 2047, 2047, 2047, 4095, 24575, 65535]) (ord := [0, 1, 2, 3, 4, 5, 6, 7, 8, 9, 10, 11, 12, 13, 14, 15, 16])
        (J := fun A Wp => A.n = 170 ∧ A.defers = [] ∧ A.tmps.get 3 = some (.pointer (some ⟨W.next + 1, 0, none⟩)) ∧ A.tmps.get 5 = some (.int .i64 L) ∧ A.tmps.get 6 = some (.pointer (some ⟨b6, 0, none⟩)) ∧ A.tmps.get 9 = some (.slice (some ⟨bc, 0, none⟩) cnt cc) ∧ A.tmps.get 11 = some (.pointer (some ⟨W4.next, 0, none⟩)) ∧ A.tmps.get 12 = some (.int .i64 i) ∧ A.tmps.get 13 = some (.int .i64 j) ∧ Ext W5 Wp ∧
          ∃ r, A.tmps.get 14 = some (.string ⟨⟨r⟩⟩) ∧ A.tmps.get 15 = some (.bool true) ∧ A.tmps.get 16 = some (.int .i64 0) ∧ gd (runN nx (runN nx 0 ri) r) ≠ gd (runN nx (runN nx 0 rj) r) ∧ (∀ c ∈ r, badB L c = false) ∧ r.length ≤ 81)
        (by kernel_rfl) (by kernel_rfl) (by kernel_rfl) (fun G hGG => ?_) ?_
      · simp [h6, h9, h12, h13, hl6 Wz hEz2, ha, ha2, load_ext und9 rfl hwi (.refl _ _), load_ext und9 rfl hwj (.refl _ _), hvB, hvw, valEq_slice, aEnter, fun13, short_other, aCallV]
        rw [dcallS_none]
        refine (part13_wp L n bN 0 3 bG 0 3 nx gd ⟨⟨ri⟩⟩ ⟨⟨rj⟩⟩ ri rj rfl rfl hrl hrlj Wz (hRN.ext hEz2) (hGD.ext hEz2) hL1 hL4 hn1' (by omega) hnx).mono ?_
        rintro v Wp ⟨hEp, w, ok, rfl, _, hw2⟩
        obtain ⟨keys', lB', lL', lN', hB', hP⟩ := hw2 he2
        obtain ⟨rfl, rfl, rfl, rfl⟩ := bfs_one (n := n) (fun h => stepA_is (by omega) hnx h) ⟨0, by omega, rfl⟩ hB hB'
        obtain ⟨a1, a2⟩ := hnm.run hL4 ri 0 hnm.zero.1 hi2
        obtain ⟨b1, b2⟩ := hnm.run hL4 rj 0 hnm.zero.1 hj2
        obtain ⟨r, rfl, hPs⟩ := parts_of hnm hnm hL4 a2 b2 hP
        obtain ⟨c1, c2⟩ := parts_class hnm hLM hL4 hnx hi4 hj4 hPs
        have hok : ok = true := by rw [c1, hi5, hj5, bne_iff_ne]; omega
        subst hok
        obtain ⟨d1, d2, d3⟩ := c2 rfl
        rw [a1, b1, hnm.zero.2] at d1
        have hnn : n * n ≤ 9 * 9 := Nat.mul_le_mul hn9 hn9
        rw [he2]
        simp [h6, h9, h12, h13, hl6 Wz hEz2, hl6 Wp (hEz2.trans hEp), ha, ha2, load_ext und9 rfl hwi (.refl _ _), load_ext und9 rfl hwj (.refl _ _), load_ext und9 rfl hwi hEp, load_ext und9 rfl hwj hEp, hEp.1, hvB, hvw, valEq_slice, opExtract, aExtract]
        apply hGG
        exact ⟨rfl, rfl, by simp [h3], by simp [h5], by simp [h6], by simp [h9], by simp [h11], by simp [h12], by simp [h13], hEz.trans hEp, r, by simp, by simp, by simp, d1, d2, by omega⟩
      rintro ⟨t, m, ds⟩ Wp ⟨hm, hd, h3, h5, h6, h9, h11, h12, h13, hEp, r, h14, h15, h16, hd1, hd2, hd3⟩
      simp only at hm hd h3 h5 h6 h9 h11 h12 h13 h14 h15 h16
      subst hm; subst hd
      have hEp4 := hE5.trans hEp
      have hEp2 := hE25.trans hEp
      have hwi := (hh i _ hi1).ext hEp4
      have hwj := (hh j _ hj1).ext hEp4
      have hgi : ∀ c ∈ ri ++ r, badB L c = false := fun c hc => (List.mem_append.1 hc).elim (hi2 c) (hd2 c)
      have hgj : ∀ c ∈ rj ++ r, badB L c = false := fun c hc => (List.mem_append.1 hc).elim (hj2 c) (hd2 c)
      have hli : (ri ++ r).length ≤ 5000 := by rw [List.length_append]; omega
      have hlj : (rj ++ r).length ≤ 5000 := by rw [List.length_append]; omega
      have hsi : aStr .add ⟨⟨ri⟩⟩ ⟨⟨r⟩⟩ = some (.string ⟨⟨ri ++ r⟩⟩) := by
        simp only [aStr, ble_dec]
        rw [decide_eq_true (by omega)]
      have hsj : aStr .add ⟨⟨rj⟩⟩ ⟨⟨r⟩⟩ = some (.string ⟨⟨rj ++ r⟩⟩) := by
        simp only [aStr, ble_dec]
        rw [decide_eq_true (by omega)]
      have hwei : wordErr L (ri ++ r) = 0 := wordErr_zero hgi hli
      have hwej : wordErr L (rj ++ r) = 0 := wordErr_zero hgj hlj
      try simp only [wpK_assoc]
      refine wpK_dr (wr := Tr.nil |>.set 98 0 |>.set 99 1 |>.set 100 2 |>.set 101 3 |>.set 102 4 |>.set 103 5 |>.set 104 6 |>.set 105 7 |>.set 97 8 |>.set 106 9 |>.set 107 10 |>.set 17 11 |>.set 18 12) (bits := Tr.nil.lay 0 [0, 0, 0, 6, 14, 0, 62, 127, 255, 511, 511, 1023, 4095]) (ord := [0, 1, 2, 3, 4, 5, 6, 7, 8, 9, 10, 11, 12])
        (J := fun A Wr => A.n = 170 ∧ A.defers = [] ∧ A.tmps.get 3 = some (.pointer (some ⟨W.next + 1, 0, none⟩)) ∧ A.tmps.get 5 = some (.int .i64 L) ∧ A.tmps.get 6 = some (.pointer (some ⟨b6, 0, none⟩)) ∧ A.tmps.get 9 = some (.slice (some ⟨bc, 0, none⟩) cnt cc) ∧ A.tmps.get 11 = some (.pointer (some ⟨W4.next, 0, none⟩)) ∧ A.tmps.get 12 = some (.int .i64 i) ∧ A.tmps.get 13 = some (.int .i64 j) ∧ Ext W5 Wr ∧
          A.tmps.get 14 = some (.string ⟨⟨r⟩⟩) ∧ A.tmps.get 15 = some (.bool true) ∧ A.tmps.get 16 = some (.int .i64 0) ∧ A.tmps.get 17 = some (.bool (gd (runN nx (runN nx 0 ri) r))) ∧ A.tmps.get 18 = some (.int .i64 0))
        (by kernel_rfl) (by kernel_rfl) (by kernel_rfl) (fun G hGG => ?_) ?_
      · simp [h6, h9, h12, h14, hl6 Wp hEp2, ha, load_ext und9 rfl hwi (.refl _ _), hsi, hvB, hvw, valEq_slice, aEnter, fun7, short_other, aCallV]
        rw [dcallS_none]
        refine (accepts_wp L n bN 0 3 bG 0 3 nx gd ⟨⟨ri ++ r⟩⟩ (ri ++ r) rfl (by omega) Wp (hRN.ext hEp2) (hGD.ext hEp2) hL1 hL4 hn1' (by omega) hnx).mono ?_
        rintro v Wr ⟨hEr, rfl⟩
        rw [hwei, if_pos rfl, runN_append]
        simp [h6, h9, h12, h14, hl6 Wp hEp2, hl6 Wr (hEp2.trans hEr), ha, load_ext und9 rfl hwi (.refl _ _), load_ext und9 rfl hwi hEr, hEr.1, hsi, hvB, hvw, valEq_slice, opExtract, aExtract]
        apply hGG
        exact ⟨rfl, rfl, by simp [h3], by simp [h5], by simp [h6], by simp [h9], by simp [h11], by simp [h12], by simp [h13], hEp.trans hEr, by simp [h14], by simp [h15], by simp [h16], by simp, by simp⟩
      rintro ⟨t, m, ds⟩ Wr ⟨hm, hd, h3, h5, h6, h9, h11, h12, h13, hEr, h14, h15, h16, h17, h18⟩
      simp only at hm hd h3 h5 h6 h9 h11 h12 h13 h14 h15 h16 h17 h18
      subst hm; subst hd
      have hEr4 := hE5.trans hEr
      have hEr2 := hE25.trans hEr
      have hwj' := (hh j _ hj1).ext hEr4
      try simp only [wpK_assoc]
      refine wpK_dr (wr := Tr.nil |>.set 109 0 |>.set 110 1 |>.set 111 2 |>.set 112 3 |>.set 113 4 |>.set 114 5 |>.set 115 6 |>.set 116 7 |>.set 108 8 |>.set 117 9 |>.set 118 10 |>.set 19 11 |>.set 20 12) (bits := Tr.nil.lay 0 [0, 0, 0, 6, 14, 0, 62, 127, 255, 511, 511, 1023, 4095]) (ord := [0, 1, 2, 3, 4, 5, 6, 7, 8, 9, 10, 11, 12])
        (J := fun A Wr => A.n = 170 ∧ A.defers = [] ∧ A.tmps.get 3 = some (.pointer (some ⟨W.next + 1, 0, none⟩)) ∧ A.tmps.get 5 = some (.int .i64 L) ∧ A.tmps.get 6 = some (.pointer (some ⟨b6, 0, none⟩)) ∧ A.tmps.get 9 = some (.slice (some ⟨bc, 0, none⟩) cnt cc) ∧ A.tmps.get 11 = some (.pointer (some ⟨W4.next, 0, none⟩)) ∧ A.tmps.get 12 = some (.int .i64 i) ∧ A.tmps.get 13 = some (.int .i64 j) ∧ Ext W5 Wr ∧
          A.tmps.get 15 = some (.bool true) ∧ A.tmps.get 16 = some (.int .i64 0) ∧ A.tmps.get 17 = some (.bool (gd (runN nx (runN nx 0 ri) r))) ∧ A.tmps.get 18 = some (.int .i64 0) ∧ A.tmps.get 19 = some (.bool (gd (runN nx (runN nx 0 rj) r))) ∧ A.tmps.get 20 = some (.int .i64 0))
        (by kernel_rfl) (by kernel_rfl) (by kernel_rfl) (fun G hGG => ?_) ?_
      · simp [h6, h9, h13, h14, hl6 Wr hEr2, ha2, load_ext und9 rfl hwj' (.refl _ _), hsj, hvB, hvw, valEq_slice, aEnter, fun7, short_other, aCallV]
        rw [dcallS_none]
        refine (accepts_wp L n bN 0 3 bG 0 3 nx gd ⟨⟨rj ++ r⟩⟩ (rj ++ r) rfl (by omega) Wr (hRN.ext hEr2) (hGD.ext hEr2) hL1 hL4 hn1' (by omega) hnx).mono ?_
        rintro v Ws ⟨hEs, rfl⟩
        rw [hwej, if_pos rfl, runN_append]
        simp [h6, h9, h13, h14, hl6 Wr hEr2, hl6 Ws (hEr2.trans hEs), ha2, load_ext und9 rfl hwj' (.refl _ _), load_ext und9 rfl hwj' hEs, hEs.1, hsj, hvB, hvw, valEq_slice, opExtract, aExtract]
        apply hGG
        exact ⟨rfl, rfl, by simp [h3], by simp [h5], by simp [h6], by simp [h9], by simp [h11], by simp [h12], by simp [h13], hEr.trans hEs, by simp [h15], by simp [h16], by simp [h17], by simp [h18], by simp, by simp⟩
      rintro ⟨t, m, ds⟩ Ws ⟨hm, hd, h3, h5, h6, h9, h11, h12, h13, hEs, h15, h16, h17, h18, h19, h20⟩
      simp only at hm hd h3 h5 h6 h9 h11 h12 h13 h15 h16 h17 h18 h19 h20
      subst hm; subst hd
      generalize gd (runN nx (runN nx 0 ri) r) = ga at h17 hd1
      generalize gd (runN nx (runN nx 0 rj) r) = gb at h19 hd1
      have hwj2 := i64_succ j (by omega)
      try simp only [wpK_assoc]
      refine wpK_reg (fun R hR => by simp [h15, h16, h17, h18, h19, h20, aGuard, aBinO, aEq, und4, aUn, opUnOp]; exact hR) ?_
      have hab : (ga == gb) = false := by cases ga <;> cases gb <;> simp_all
      refine wpK_endF (by simp [hab]) (wpK_skip ?_)
      refine wpK_reg1 (fun R hR => by simp [h13, hwj2]; exact hR) ?_
      exact hI2 (i - (j + 1)) _ _ (by omega) ⟨rfl, rfl, by simp [h3], by simp [h5], by simp [h6], by simp [h9], by simp [h11], by simp [h12], hEs, j + 1, rfl, by omega, by simp⟩
    · rintro A' W' hf; exact hf.elim
    · clear h3 h5 h6 h9 h11 h12 h77
      rintro ⟨t, m, ds⟩ Wz ⟨hm, hd, h3, h5, h6, h9, h11, h12, hEz⟩
      simp only at hm hd h3 h5 h6 h9 h11 h12
      subst hm; subst hd
      have hwi' := i64_succ i (by omega)
      refine wpK_reg1 (fun R hR => by simp [h12, hwi']; exact hR) ?_
      exact hI (cnt - (i + 1)) _ _ (by omega) ⟨rfl, rfl, by simp [h3], by simp [h5], by simp [h6], by simp [h9], by simp [h11], hEz, i + 1, rfl, by omega, by simp⟩
  · rintro A' W' hf; exact hf.elim
  · clear h3 h5 h6 h7 h8 h9 h10
    rintro ⟨t, m, ds⟩ Wx ⟨hm, hd, h3, h5, h6, h11, hEx⟩
    simp only at hm hd h3 h5 h6 h11
    subst hm; subst hd
    have hEx2 := hE25.trans hEx
    have hEx3 := hE35.trans hEx
    have hEx1 : Ext W' Wx := hE2.trans hEx2
    have hi0 : aIndexAddr T0 45 (.pointer (some ⟨W.next + 1, 0, none⟩)) (.int .i64 0) = some (.pointer (some ⟨W.next + 1, 0, none⟩)) := idxAddr45 (W.next + 1) 0 (by omega)
    have hi1 : aIndexAddr T0 45 (.pointer (some ⟨W.next + 1, 0, none⟩)) (.int .i64 1) = some (.pointer (some ⟨W.next + 1, 1, none⟩)) := idxAddr45 (W.next + 1) 1 (by omega)
    generalize hlu : u.data.toList = lu at hu
    generalize hlz : z.data.toList = lz at hz
    -- two words
    try simp only [wpK_assoc]
    refine wpK_dr (wr := Tr.nil |>.set 138 0 |>.set 139 1 |>.set 140 2 |>.set 141 3 |>.set 142 4 |>.set 143 5 |>.set 144 6 |>.set 145 7 |>.set 21 8 |>.set 22 9) (bits := Tr.nil.lay 0 [0, 1, 0, 7, 0, 16, 0, 127, 255, 511]) (ord := [0, 1, 2, 3, 4, 5, 6, 7, 8, 9])
      (J := fun A Wy => A.n = 170 ∧ A.defers = [] ∧ A.tmps.get 6 = some (.pointer (some ⟨b6, 0, none⟩)) ∧ A.tmps.get 11 = some (.pointer (some ⟨W4.next, 0, none⟩)) ∧ Ext Wx Wy ∧ ∃ ru rz, A.tmps.get 21 = some (.string ⟨⟨ru⟩⟩) ∧ A.tmps.get 22 = some (.string ⟨⟨rz⟩⟩) ∧ ru.length ≤ 15 ∧ rz.length ≤ 15 ∧ (∀ c ∈ ru, badB L c = false) ∧ ∀ c ∈ rz, badB L c = false)
      (by kernel_rfl) (by kernel_rfl) (by kernel_rfl) (fun G hGG => ?_) ?_
    · simp [h3, h5, hi0, hi1, load_ext und9 rfl hs0 hEx1, load_ext und9 rfl hs1 hEx1, hvw, valEq_slice, aEnter, fun11, short_other, aCallV]
      rw [dcallS_none]
      refine (textOk_wp 15 (by omega) L hL1 hL4 u lu hlu hu Wx).mono ?_
      rintro v Wy ⟨hEy, ru, rfl, hr1, hr2⟩
      have hEy1 := hEx1.trans hEy
      simp [h3, h5, hi0, hi1, load_ext und9 rfl hs0 hEx1, load_ext und9 rfl hs1 hEx1, load_ext und9 rfl hs0 hEy1, load_ext und9 rfl hs1 hEy1, hEy.1, hvw, valEq_slice, aEnter, fun11, short_other, aCallV]
      rw [dcallS_none]
      refine (textOk_wp 15 (by omega) L hL1 hL4 z lz hlz hz Wy).mono ?_
      rintro v Wz ⟨hEz, rz, rfl, hz1, hz2⟩
      have hEz1 := hEy1.trans hEz
      simp [h3, h5, hi0, hi1, load_ext und9 rfl hs0 hEx1, load_ext und9 rfl hs1 hEx1, load_ext und9 rfl hs0 hEy1, load_ext und9 rfl hs1 hEy1, load_ext und9 rfl hs0 hEz1, load_ext und9 rfl hs1 hEz1, hEy.1, hEz.1, hvw, valEq_slice]
      apply hGG
      exact ⟨rfl, rfl, by simp [h6], by simp [h11], hEy.trans hEz, ru, rz, by simp, by simp, hr1, hz1, hr2, hz2⟩
    rintro ⟨t, m, ds⟩ Wy ⟨hm, hd, h6, h11, hEy, ru, rz, h21, h22, hr1, hz1, hr2, hz2⟩
    simp only at hm hd h6 h11 h21 h22
    subst hm; subst hd
    have heu : wordErr L ru = 0 := wordErr_zero hr2 (by omega)
    have hez : wordErr L rz = 0 := wordErr_zero hz2 (by omega)
    have he2 : wordErr2 L ru rz = 0 := by unfold wordErr2; rw [if_pos heu]; exact hez
    have hEy2 := hEx2.trans hEy
    obtain ⟨a1, a2⟩ := hnm.run hL4 ru 0 hnm.zero.1 hr2
    obtain ⟨b1, b2⟩ := hnm.run hL4 rz 0 hnm.zero.1 hz2
    obtain ⟨e1, _⟩ := hLM.run hL4 hmx ru 0 hN1 hr2
    obtain ⟨e2, _⟩ := hLM.run hL4 hmx rz 0 hN1 hz2
    rw [hcl0] at e1 e2
    -- are they parted?
    try simp only [wpK_assoc]
    refine wpK_regc (J := fun A Wz => A.n = 170 ∧ A.defers = [] ∧ A.tmps.get 11 = some (.pointer (some ⟨W4.next, 0, none⟩)) ∧ Ext Wy Wz ∧ A.tmps.get 21 = some (.string ⟨⟨ru⟩⟩) ∧ A.tmps.get 22 = some (.string ⟨⟨rz⟩⟩) ∧ A.tmps.get 24 = some (.bool (runN mxL 0 ru != runN mxL 0 rz)) ∧ A.tmps.get 25 = some (.int .i64 0)) (fun R hR => ?_) ?_
    · simp [h6, h21, h22, hl6 Wy hEy2, aEnter, fun13, short_other, aCallV]
      rw [callS_none]
      refine (part13_wp L n bN 0 3 bG 0 3 nx gd ⟨⟨ru⟩⟩ ⟨⟨rz⟩⟩ ru rz rfl rfl (by omega) (by omega) Wy (hRN.ext hEy2) (hGD.ext hEy2) hL1 hL4 hn1' (by omega) hnx).mono ?_
      rintro v Wz ⟨hEz, w, ok, rfl, _, hw2⟩
      obtain ⟨keys', lB', lL', lN', hB', hP⟩ := hw2 he2
      obtain ⟨rfl, rfl, rfl, rfl⟩ := bfs_one (n := n) (fun h => stepA_is (by omega) hnx h) ⟨0, by omega, rfl⟩ hB hB'
      obtain ⟨r, rfl, hPs⟩ := parts_of hnm hnm hL4 a2 b2 hP
      obtain ⟨c1, _⟩ := parts_class hnm hLM hL4 hnx a2 b2 hPs
      rw [← e1, ← e2] at c1
      subst c1
      rw [he2]
      simp [opExtract, aExtract]
      apply hR
      exact ⟨rfl, rfl, by simp [h11], hEz, by simp [h21], by simp [h22], by simp, by simp⟩
    rintro ⟨t, m, ds⟩ Wz ⟨hm, hd, h11, hEz, h21, h22, h24, h25⟩
    simp only at hm hd h11 h21 h22 h24 h25
    subst hm; subst hd
    have hEz5 := (hEx.trans hEy).trans hEz
    have hEz3 := hE35.trans hEz5
    have hout : Ext W Wz := hE1.trans (hE2.trans (hE25.trans hEz5))
    try simp only [wpK_assoc]
    refine wpK_dr (wr := Tr.nil |>.set 154 0 |>.set 155 1 |>.set 156 2 |>.set 157 3 |>.set 158 4 |>.set 159 5 |>.set 160 6 |>.set 161 7 |>.set 162 8 |>.set 163 9 |>.set 164 10 |>.set 165 11 |>.set 166 12 |>.set 167 13 |>.set 168 14 |>.set 169 15 |>.set 4 16) (bits := Tr.nil.lay 0 [0, 1, 3, 7, 7, 7, 55, 7, 7, 503, 1015, 2047, 4095, 8191, 16383, 32767, 65535]) (ord := [0, 1, 2, 3, 4, 5, 6, 7, 8, 9, 10, 11, 12, 13, 14, 15, 16])
      (J := fun A Wq => A.defers = [] ∧ A.tmps.get 4 = some (.bool true) ∧ Ext W Wq)
      (by kernel_rfl) (by kernel_rfl) (by kernel_rfl) (fun G hGG => ?_) ?_
    · simp [h11, h21, h22, h24, h25, hl11 Wz hEz5, hvA, hvw, aEnter, fun18, short_other, aCallV]
      rw [dcallS_none]
      refine (from_wp L cnt bN' 0 cN' bG' 0 cG' mxL 0 ⟨⟨ru⟩⟩ ru rfl (by omega) Wz (hRL.ext hEz3) (by omega) hmxL hr2).mono ?_
      rintro v Wp ⟨hEp, rfl⟩
      simp [h11, h21, h22, h24, h25, hl11 Wz hEz5, hl11 Wp (hEz5.trans hEp), hEp.1, hvA, hvw, aEnter, fun18, short_other, aCallV]
      rw [dcallS_none]
      refine (from_wp L cnt bN' 0 cN' bG' 0 cG' mxL 0 ⟨⟨rz⟩⟩ rz rfl (by omega) Wp (hRL.ext (hEz3.trans hEp)) (by omega) hmxL hz2).mono ?_
      rintro v Wr ⟨hEr, rfl⟩
      by_cases hcc : runN mxL 0 ru = runN mxL 0 rz
      · simp [h11, h21, h22, h24, h25, hl11 Wz hEz5, hl11 Wp (hEz5.trans hEp), hl11 Wr ((hEz5.trans hEp).trans hEr), hcc, hEp.1, hEr.1, hvA, hvw, aGuard, aBinO, aEq, und4, aEnter, fun12, short_awake, aCallV]
        apply hGG
        exact ⟨rfl, by simp, (hout.trans hEp).trans hEr⟩
      · have hq1 : (runN mxL 0 ru != runN mxL 0 rz) = true := bne_iff_ne.2 hcc
        have hq2 : ¬ ((runN mxL 0 ru : Nat) : Int) = (runN mxL 0 rz : Nat) := by omega
        simp [h11, h21, h22, h24, h25, hl11 Wz hEz5, hl11 Wp (hEz5.trans hEp), hl11 Wr ((hEz5.trans hEp).trans hEr), hq1, hq2, hEp.1, hEr.1, hvA, hvw, aGuard, aBinO, aEq, und4, aEnter, fun12, short_awake, aCallV]
        apply hGG
        exact ⟨rfl, by simp, (hout.trans hEp).trans hEr⟩
    rintro ⟨t, m, ds⟩ Wq ⟨hd, h4, hEq⟩
    simp only at hd h4
    subst hd
    exact wpK_ret ⟨.inr rfl, rfl, [.bool true], by simp [h4], hEq, rfl⟩
end Go.Proofs.Ytnnfobmfffbhaaa
