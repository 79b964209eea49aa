/-
  WORDLIMITS: for every automaton and every number, whatever their sizes, the law WordLimits of the package word answers true, and the input reads as it did. No condition.
-/
import Derived.Test.YtfpakfidfmjfhaaWm
import Derived.Test.YtfpakfidfmjfhaaP46
set_option linter.unusedSimpArgs false
set_option linter.unusedVariables false
set_option linter.unusedSectionVars false
open Go Go.Eng
namespace Go.Proofs.Ytfpakfidfmjfhaa
open Go.ChangeShapes Go.WideShapes Go.ChangeAt Go.RowKit
open Go.ChangeMaps (open_string shut_string)

/-- the call, from any world -/
theorem limits_any (L0 : Int) (vN vG uN uG : Value) (nN nG : Nat) (len : Nat → Nat) (f : Nat → Nat → Int) (g : Nat → Bool) (n0 : Int) (W : World) (hN : absV W vN = some uN) (hN' : RowsIn (embW W) uN nN len f) (hG : absV W vG = some uG) (hG' : BoolsIn (embW W) uG nG g) :
    Calls Try.prog 4 #[.agg #[.int .i64 L0, vN, vG], .int .i64 n0] W fun e W' => e = .returned (.bool true) ∧ Below W.heap.size W W' ∧ ∀ a, W'.frozen? a = W.frozen? a := by
  refine (emb_calls T0_ok noGlobs (wordLimits_wp L0 n0 uN uG nN nG len f g (embW W) hN' hG') (args' := #[.agg #[.int .i64 L0, vN, vG], .int .i64 n0]) ?_).mono ?_
  · refine .cons (.agg _ _ rfl ?_) (.cons (.int .i64 n0) (.nil _))
    exact (LR.toArray (.cons (.int _ _) (.cons (absV_vr hN) (.cons (absV_vr hG) (.nil _))))).2
  · rintro e W' ⟨η, v, v', W2, rfl, hv, _, ⟨_, rfl⟩, hO⟩
    cases hv
    exact ⟨rfl, ⟨hO.os, hO.tape, hO.output, hO.size, fun k hk => hO.keep k hk⟩, hO.froz⟩

set_option maxRecDepth 100000 in
theorem wordLimits_lifted (os : Os) (started : os.Started) (H : Type) (enc : TypeId × Value → H) :
    ReturnsInHanded {} Try.checked os 4 .any (Rows.wordLimitsSpec.pre6 enc Try.prog Try.f4 Rows.wordLimitsRow.domain false) (Rows.wordLimitsSpec.post enc Try.prog Try.f4 false true false false) := by
  refine returnsInHanded_of_change (C := Try.checked) own started (by kernel_rfl) Try.func4
    (ChangeSpec.witness6 (enc := enc) (C := Try.checked) false ⟨#[], #[.agg #[.int .i64 0, .slice none 0 0, .slice none 0 0], .int .i64 0], []⟩ 8 (by kernel_rfl) (by kernel_rfl) (by kernel_rfl) (by kernel_rfl)) ?_
  intro W base args ds gs before hval0 hW hcnd _
  have hval : ∀ (j : Nat) t v, Try.f4.params[j]? = some t → args[j]? = some v → Value.okWide Try.prog W .any base t v := hval0
  have hW' := hW
  obtain ⟨p, q, hA0, hV, rfl, hfz, hnd⟩ := hW
  have hA : DataW.TrodAll enc Try.prog W 0 (fun _ => true) true Try.f4.params.toList args.toList ds p := hA0
  rw [Try.params4] at hA hval
  obtain ⟨v0, v1, d0, d1, p0, p1, rfl, rfl, rfl, h0, h1⟩ := trodAll_two hA
  obtain ⟨rfl, rfl⟩ := trodVars_none hV
  have h0k := h0
  have h1k := h1
  obtain ⟨c0, c1, c2, y0, y1, y2, m, rfl, _, hp, hy0, hy1, hy2⟩ := Joins.open_agg3 Try.underlying25 (by kernel_rfl) (by kernel_rfl) (hval 0 25 v0 rfl rfl) h0
  obtain ⟨L0, e0, _, _⟩ := DataW.trod_int Try.underlying3 hy0
  cases e0
  obtain ⟨uN, nN, len, f, hN, hN'⟩ := rows_in Try.underlying22 Try.underlying43 Try.underlying3 (by kernel_rfl) (by kernel_rfl) hy1
  obtain ⟨uG, nG, g, hG, hG'⟩ := bools_in Try.underlying23 Try.underlying4 (by kernel_rfl) hy2
  obtain ⟨n0, rfl, _, _⟩ := open_int Try.underlying3 (hval 1 3 v1 rfl rfl) h1
  clear hA0 hval0
  have hlt0 : ∀ x ∈ p0, x.block < W.heap.size := fun x hx => by simpa using hW'.lt x (by simp [hx])
  have hlt1 : ∀ x ∈ p1, x.block < W.heap.size := fun x hx => by simpa using hW'.lt x (by simp [hx])
  refine (limits_any L0 c1 c2 uN uG nN nG len f g n0 W hN hN' hG hG').mono fun e W' ⟨he, hB, hfr⟩ => ?_
  subst he
  exact ⟨_, rfl, post_of_same (pa := p0 ++ p1) (pv := []) hW' (fun _ _ _ => trodAll_mk1 (shut_bool Try.underlying4 true))
    (fun sp hsp => trodAll_mk2 (WideElems.Trod_stays laidOut (by kernel_rfl) (of_decide_eq_true (by kernel_rfl)) h0k (fun x hx => hB.same (hlt0 x hx)) (fun x hx => hsp x (by simp [hx])))
      (WideElems.Trod_stays laidOut (by kernel_rfl) (of_decide_eq_true (by kernel_rfl)) h1k (fun x hx => hB.same (hlt1 x hx)) (fun x hx => hsp x (by simp [hx]))))
    (fun _ _ => rfl) rfl (hB.frame _) hfr (ok_one (by kernel_rfl) rfl (okWide_bool_mk Try.underlying4 true))⟩

theorem wordLimits_proved : Rows.WordLimitsSaid :=
  OpenClaim.holds_of_wide 4 Try.f4 rfl rfl rfl rfl rfl rfl rfl ⟨rfl, rfl, rfl, rfl, rfl⟩ rfl rfl rfl rfl rfl (by kernel_rfl) Try.func4 (by kernel_rfl)
    (of_decide_eq_true (by kernel_rfl)) (by unfold Func.isWrapper; first | (rw [if_pos (by decide +kernel)]; kernel_rfl) | (rw [if_neg (by decide +kernel)]; exact ⟨rfl, rfl⟩))
    (fun os started H enc _ => wordLimits_lifted os started H enc)
end Go.Proofs.Ytfpakfidfmjfhaa
