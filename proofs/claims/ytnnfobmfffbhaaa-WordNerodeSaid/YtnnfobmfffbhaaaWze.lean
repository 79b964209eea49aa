/-
  WORDNERODE: for every automaton and every two words, whatever their sizes, the law WordNerode of the package word answers true, and the input reads as it did. No condition.
-/
import Derived.Test.YtnnfobmfffbhaaaWm0
import Derived.Test.YtnnfobmfffbhaaaP51
import Derived.OpenShut
set_option linter.unusedSimpArgs false
set_option linter.unusedVariables false
set_option linter.unusedSectionVars false
open Go Go.Eng
namespace Go.Proofs.Ytnnfobmfffbhaaa
open Go.ChangeShapes Go.WideShapes Go.ChangeAt Go.RowKit
open Go.ChangeMaps (open_string shut_string)

/-- two strings in an array, by value -/
theorem open_strsN {H : Type} {enc : TypeId × Value → H} {P : Program} {w : World} {r : Reach} {base b0 : Nat} {spare : Nat → Bool} {held : Bool} {t e : TypeId} {v : Value} {d : DataW H} {p : List MemPlace} (ht : P.underlying t = some (.array 2 e)) (he : P.underlying e = some .string) (ce : P.cellsOf e = 1) (ct : P.cellsOf t = 2)
    (hv : Value.okWide P w r b0 t v) (h : DataW.Trod enc P w base spare held t v d p) : ∃ s0 s1 : ByteArray, v = .agg #[.string s0, .string s1] ∧ s0.size ≤ maxLen ∧ s1.size ≤ maxLen := by
  obtain ⟨cs, rfl, hsz, _⟩ : ∃ cs, v = .agg cs ∧ cs.size = P.cellsOf t ∧ Row.okWide P w r b0 t cs := by
    simpa [Value.okWide, ht] using hv
  rw [ct] at hsz
  obtain ⟨c0, c1, rfl⟩ := Joins.array2 hsz
  obtain ⟨fuel, hf⟩ := h
  obtain ⟨xs, m, _, _, _, hl, hel⟩ := DataW.trod_array ht hf
  have h0 := hel 0 (by omega)
  have h1 := hel 1 (by omega)
  rw [ce, List.getElem?_eq_getElem (by omega)] at h0 h1
  obtain ⟨s0, e0, _, w0⟩ := DataW.trod_string he h0
  obtain ⟨s1, e1, _, w1⟩ := DataW.trod_string he h1
  simp [Value.cells] at e0 e1
  subst e0; subst e1
  exact ⟨s0, s1, rfl, w0, w1⟩

/-- the call, from any world -/
theorem nerode_any (L0 : Int) (vN vG uN uG : Value) (nN nG : Nat) (len : Nat → Nat) (f : Nat → Nat → Int) (g : Nat → Bool) (s z : ByteArray) (hs : s.size ≤ maxLen) (hz : z.size ≤ maxLen) (W : World) (hN : absV W vN = some uN) (hN' : RowsIn (embW W) uN nN len f) (hG : absV W vG = some uG) (hG' : BoolsIn (embW W) uG nG g) :
    Calls Try.prog 6 #[.agg #[.int .i64 L0, vN, vG], .agg #[.string s, .string z]] W fun e W' => e = .returned (.bool true) ∧ Below W.heap.size W W' ∧ ∀ a, W'.frozen? a = W.frozen? a := by
  have hl : ∀ s : ByteArray, s.size ≤ maxLen → s.data.toList.length < 9223372036854775808 := fun s hs => by
    have : s.data.toList.length = s.size := Array.length_toList
    unfold maxLen at hs; omega
  refine (emb_calls T0_ok noGlobs (wordNerode_wp L0 uN uG nN nG len f g s z (hl s hs) (hl z hz) (embW W) hN' hG') (args' := #[.agg #[.int .i64 L0, vN, vG], .agg #[.string s, .string z]]) ?_).mono ?_
  · refine .cons (.agg _ _ rfl ?_) (.cons (.agg _ _ rfl ?_) (.nil _))
    · exact (LR.toArray (.cons (.int _ _) (.cons (absV_vr hN) (.cons (absV_vr hG) (.nil _))))).2
    · exact (LR.toArray (.cons (.string _) (.cons (.string _) (.nil _)))).2
  · rintro e W' ⟨η, v, v', W2, rfl, hv, _, ⟨_, rfl⟩, hO⟩
    cases hv
    exact ⟨rfl, ⟨hO.os, hO.tape, hO.output, hO.size, fun k hk => hO.keep k hk⟩, hO.froz⟩

set_option maxRecDepth 100000 in
theorem wordNerode_lifted (os : Os) (started : os.Started) (H : Type) (enc : TypeId × Value → H) :
    ReturnsInHanded {} Try.checked os 6 .any (Rows.wordNerodeSpec.pre6 enc Try.prog Try.f6 Rows.wordNerodeRow.domain false) (Rows.wordNerodeSpec.post enc Try.prog Try.f6 false true false false) := by
  refine returnsInHanded_of_change (C := Try.checked) own started (by kernel_rfl) Try.func6
    (ChangeSpec.witness6 (enc := enc) (C := Try.checked) false ⟨#[], #[.agg #[.int .i64 0, .slice none 0 0, .slice none 0 0], .agg #[.string ⟨#[]⟩, .string ⟨#[]⟩]], []⟩ 8 (by kernel_rfl) (by kernel_rfl) (by kernel_rfl) (by kernel_rfl)) ?_
  intro W base args ds gs before hval0 hW hcnd _
  have hval : ∀ (j : Nat) t v, Try.f6.params[j]? = some t → args[j]? = some v → Value.okWide Try.prog W .any base t v := hval0
  have hW' := hW
  obtain ⟨p, q, hA0, hV, rfl, hfz, hnd⟩ := hW
  have hA : DataW.TrodAll enc Try.prog W 0 (fun _ => true) true Try.f6.params.toList args.toList ds p := hA0
  rw [Try.params6] at hA hval
  obtain ⟨v0, v1, d0, d1, p0, p1, rfl, rfl, rfl, h0, h1⟩ := trodAll_two hA
  obtain ⟨rfl, rfl⟩ := trodVars_none hV
  have h0k := h0
  have h1k := h1
  obtain ⟨c0, c1, c2, y0, y1, y2, m, rfl, _, hp, hy0, hy1, hy2⟩ := Joins.open_agg3 Try.underlying25 (by kernel_rfl) (by kernel_rfl) (hval 0 25 v0 rfl rfl) h0
  obtain ⟨L0, e0, _, _⟩ := DataW.trod_int Try.underlying3 hy0
  cases e0
  obtain ⟨uN, nN, len, f, hN, hN'⟩ := rows_in Try.underlying22 Try.underlying65 Try.underlying3 (by kernel_rfl) (by kernel_rfl) hy1
  obtain ⟨uG, nG, g, hG, hG'⟩ := bools_in Try.underlying23 Try.underlying4 (by kernel_rfl) hy2
  obtain ⟨s, z, rfl, ws, wz⟩ := open_strsN Try.underlying45 Try.underlying9 (by kernel_rfl) (by kernel_rfl) (hval 1 45 v1 rfl rfl) h1
  clear hA0 hval0
  have hlt0 : ∀ x ∈ p0, x.block < W.heap.size := fun x hx => by simpa using hW'.lt x (by simp [hx])
  have hlt1 : ∀ x ∈ p1, x.block < W.heap.size := fun x hx => by simpa using hW'.lt x (by simp [hx])
  refine (nerode_any L0 c1 c2 uN uG nN nG len f g s z ws wz W hN hN' hG hG').mono fun e W' ⟨he, hB, hfr⟩ => ?_
  subst he
  exact ⟨_, rfl, post_of_same (pa := p0 ++ p1) (pv := []) hW' (fun _ _ _ => trodAll_mk1 (shut_bool Try.underlying4 true))
    (fun sp hsp => trodAll_mk2 (WideElems.Trod_stays laidOut (by kernel_rfl) (of_decide_eq_true (by kernel_rfl)) h0k (fun x hx => hB.same (hlt0 x hx)) (fun x hx => hsp x (by simp [hx])))
      (WideElems.Trod_stays laidOut (by kernel_rfl) (of_decide_eq_true (by kernel_rfl)) h1k (fun x hx => hB.same (hlt1 x hx)) (fun x hx => hsp x (by simp [hx]))))
    (fun _ _ => rfl) rfl (hB.frame _) hfr (ok_one (by kernel_rfl) rfl (okWide_bool_mk Try.underlying4 true))⟩

theorem wordNerode_proved : Rows.WordNerodeSaid :=
  OpenClaim.holds_of_wide 6 Try.f6 rfl rfl rfl rfl rfl rfl rfl ⟨rfl, rfl, rfl, rfl, rfl⟩ rfl rfl rfl rfl rfl (by kernel_rfl) Try.func6 (by kernel_rfl)
    (of_decide_eq_true (by kernel_rfl)) (by unfold Func.isWrapper; first | (rw [if_pos (by decide +kernel)]; kernel_rfl) | (rw [if_neg (by decide +kernel)]; exact ⟨rfl, rfl⟩))
    (fun os started H enc _ => wordNerode_lifted os started H enc)
end Go.Proofs.Ytnnfobmfffbhaaa
