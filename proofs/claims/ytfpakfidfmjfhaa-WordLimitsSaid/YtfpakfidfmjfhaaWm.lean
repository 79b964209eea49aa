import Derived.Test.YtfpakfidfmjfhaaP39
import Derived.Test.YtfpakfidfmjfhaaEngEm
import Derived.Test.YtfpakfidfmjfhaaRows
import Derived.ProofKit
import Derived.Lib.SmallJoins
import Derived.Deep.Matrix
import Derived.Deep.Grids
set_option linter.unusedSimpArgs false
set_option linter.unusedVariables false
set_option linter.unusedSectionVars false
/-
  WORDACCEPTS: for every automaton and every word, whatever their sizes, the law WordAccepts of the package word answers true, and the input reads as it did. No condition.
-/
open Go Go.Eng
namespace Go.Proofs.Ytfpakfidfmjfhaa
open Go.ChangeShapes Go.WideShapes Go.ChangeAt Go.RowKit
open Go.ChangeMaps (open_string shut_string)

section
variable {H : Type} {enc : TypeId × Value → H} {P : Program} {w : World}

theorem add_block (a : Addr) (n : Nat) : (a.add n).block = a.block := by unfold Addr.add; split <;> rfl
theorem add_off (a : Addr) (n : Nat) : (a.add n).off = a.off + n := by unfold Addr.add; split <;> simp_all

/-- a slice of bools that is read -/
theorem bools_in {t e : TypeId} {fuel : Nat} {held : Bool} {v : Value} {x : DataW H × List MemPlace} (ht : P.underlying t = some (.slice e)) (he : P.underlying e = some .bool) (hc : P.cellsOf e = 1)
    (h : DataW.trod enc P w 0 (fun _ => true) held fuel t [v] = some x) : ∃ u n g, absV w v = some u ∧ BoolsIn (embW w) u n g := by
  rcases Deep.open_bools ht he hc h with ⟨h1, _⟩ | ⟨a, len, cap, B, h1, _, h2, _, _, h3⟩
  · cases h1
    exact ⟨.slice none 0 0, 0, fun _ => false, rfl, none, 0, rfl, fun i hi => absurd hi (Nat.not_lt_zero i)⟩
  · cases h1
    obtain ⟨a', c', h4, h5⟩ := absV_row (w := w) (a := a) (n := len) (c := cap) (fun hc => ⟨_, by simpa [Addr.add] using h3 0 hc⟩) h2
    refine ⟨_, len, B, h4, a', c', rfl, fun i hi => ⟨a.block, a.off, h5 (by omega), ?_⟩⟩
    have := emb_has (h3 i (by omega)) (u := .bool (B i)) rfl
    rwa [add_block, add_off] at this
/-- .. of numbers, by its cell -/
theorem ints_in {A : Option Addr} {L C : Nat} {Z : List Int} (h1 : L ≤ C) (h0 : A = none → C = 0) (h : ∀ a', A = some a' → ∀ c, c < C → w.cell? (a'.add c) = some (.int .i64 (Z.getD c 0))) :
    ∃ u, absV w (.slice A L C) = some u ∧ IntsIn (embW w) u L (fun c => Z.getD c 0) := by
  cases A with
  | none =>
    obtain rfl := h0 rfl
    obtain rfl : L = 0 := by omega
    exact ⟨.slice none 0 0, rfl, none, 0, rfl, fun i hi => absurd hi (Nat.not_lt_zero i)⟩
  | some a =>
    have h3 := h a rfl
    obtain ⟨a', c', h4, h5⟩ := absV_row (w := w) (a := a) (n := L) (c := C) (fun hc => ⟨_, by simpa [Addr.add] using h3 0 hc⟩) h1
    refine ⟨_, h4, a', c', rfl, fun i hi => ⟨a.block, a.off, h5 (by omega), ?_⟩⟩
    have := emb_has (h3 i (by omega)) (u := .int .i64 (Z.getD i 0)) rfl
    rwa [add_block, add_off] at this
/-- .. of slices of numbers -/
theorem rows_in {t e q : TypeId} {fuel : Nat} {held : Bool} {v : Value} {x : DataW H × List MemPlace} (ht : P.underlying t = some (.slice e)) (he : P.underlying e = some (.slice q)) (hq : P.underlying q = some (.int .i64)) (ce : P.cellsOf e = 1) (cq : P.cellsOf q = 1)
    (h : DataW.trod enc P w 0 (fun _ => true) held fuel t [v] = some x) : ∃ u n len f, absV w v = some u ∧ RowsIn (embW w) u n len f := by
  rcases Deep.open_int_rows ht he hq ce cq h with ⟨h1, _⟩ | ⟨a, len, cap, A, L, C, Z, h1, _, h2, _, _, h3⟩
  · cases h1
    exact ⟨.slice none 0 0, 0, fun _ => 0, fun _ _ => 0, rfl, none, 0, rfl, fun i hi => absurd hi (Nat.not_lt_zero i)⟩
  · cases h1
    obtain ⟨a', c', h4, h5⟩ := absV_row (w := w) (a := a) (n := len) (c := cap) (fun hc => ⟨_, by simpa [Addr.add] using (h3 0 hc).1⟩) h2
    refine ⟨_, len, L, fun s c => (Z s).getD c 0, h4, a', c', rfl, fun s hs => ?_⟩
    obtain ⟨g1, g2, _, _, _, g3, g4⟩ := h3 s (by omega)
    obtain ⟨u, g5, g6⟩ := ints_in (w := w) g2 g3 (fun a' ha => (g4 a' ha).2)
    have := emb_has g1 g5
    rw [add_block, add_off] at this
    exact ⟨a.block, a.off, u, h5 (by omega), this, g6⟩
end

theorem own : ownKnob Try.prog.godebug = none := by kernel_rfl
theorem laidOut : laidOutB Try.prog = true := by kernel_rfl
theorem noGlobs : ∀ g, T0.globs.get g = none := fun g => Tr.get_nil g

/-- the call, from any world -/
theorem accepts_any (L0 : Int) (vN vG uN uG : Value) (nN nG : Nat) (len : Nat → Nat) (f : Nat → Nat → Int) (g : Nat → Bool) (s : ByteArray) (hs : s.size ≤ maxLen) (W : World) (hN : absV W vN = some uN) (hN' : RowsIn (embW W) uN nN len f) (hG : absV W vG = some uG) (hG' : BoolsIn (embW W) uG nG g) :
    Calls Try.prog 3 #[.agg #[.int .i64 L0, vN, vG], .string s] W fun e W' => e = .returned (.bool true) ∧ Below W.heap.size W W' ∧ ∀ a, W'.frozen? a = W.frozen? a := by
  have hl : s.data.toList.length < 9223372036854775808 := by
    have : s.data.toList.length = s.size := Array.length_toList
    unfold maxLen at hs; omega
  refine (emb_calls T0_ok noGlobs (wordAccepts_wp L0 uN uG nN nG len f g s hl (embW W) hN' hG') (args' := #[.agg #[.int .i64 L0, vN, vG], .string s]) ?_).mono ?_
  · refine .cons (.agg _ _ rfl ?_) (.cons (.string s) (.nil _))
    exact (LR.toArray (.cons (.int _ _) (.cons (absV_vr hN) (.cons (absV_vr hG) (.nil _))))).2
  · rintro e W' ⟨η, v, v', W2, rfl, hv, _, ⟨_, rfl⟩, hO⟩
    cases hv
    exact ⟨rfl, ⟨hO.os, hO.tape, hO.output, hO.size, fun k hk => hO.keep k hk⟩, hO.froz⟩

set_option maxRecDepth 100000 in
theorem wordAccepts_lifted (os : Os) (started : os.Started) (H : Type) (enc : TypeId × Value → H) :
    ReturnsInHanded {} Try.checked os 3 .any (Rows.wordAcceptsSpec.pre6 enc Try.prog Try.f3 Rows.wordAcceptsRow.domain false) (Rows.wordAcceptsSpec.post enc Try.prog Try.f3 false true false false) := by
  refine returnsInHanded_of_change (C := Try.checked) own started (by kernel_rfl) Try.func3
    (ChangeSpec.witness6 (enc := enc) (C := Try.checked) false ⟨#[], #[.agg #[.int .i64 0, .slice none 0 0, .slice none 0 0], .string ⟨#[]⟩], []⟩ 8 (by kernel_rfl) (by kernel_rfl) (by kernel_rfl) (by kernel_rfl)) ?_
  intro W base args ds gs before hval0 hW hcnd _
  have hval : ∀ (j : Nat) t v, Try.f3.params[j]? = some t → args[j]? = some v → Value.okWide Try.prog W .any base t v := hval0
  have hW' := hW
  obtain ⟨p, q, hA0, hV, rfl, hfz, hnd⟩ := hW
  have hA : DataW.TrodAll enc Try.prog W 0 (fun _ => true) true Try.f3.params.toList args.toList ds p := hA0
  rw [Try.params3] at hA hval
  obtain ⟨v0, v1, d0, d1, p0, p1, rfl, rfl, rfl, h0, h1⟩ := trodAll_two hA
  obtain ⟨rfl, rfl⟩ := trodVars_none hV
  have h0k := h0
  have h1k := h1
  obtain ⟨c0, c1, c2, y0, y1, y2, m, rfl, _, hp, hy0, hy1, hy2⟩ := Joins.open_agg3 Try.underlying25 (by kernel_rfl) (by kernel_rfl) (hval 0 25 v0 rfl rfl) h0
  obtain ⟨L0, e0, _, _⟩ := DataW.trod_int Try.underlying3 hy0
  cases e0
  obtain ⟨uN, nN, len, f, hN, hN'⟩ := rows_in Try.underlying22 Try.underlying43 Try.underlying3 (by kernel_rfl) (by kernel_rfl) hy1
  obtain ⟨uG, nG, g, hG, hG'⟩ := bools_in Try.underlying23 Try.underlying4 (by kernel_rfl) hy2
  obtain ⟨s, rfl, _, _, ws⟩ := open_string Try.underlying9 (hval 1 9 v1 rfl rfl) h1
  clear hA0 hval0
  have hlt0 : ∀ x ∈ p0, x.block < W.heap.size := fun x hx => by simpa using hW'.lt x (by simp [hx])
  have hlt1 : ∀ x ∈ p1, x.block < W.heap.size := fun x hx => by simpa using hW'.lt x (by simp [hx])
  refine (accepts_any L0 c1 c2 uN uG nN nG len f g s ws W hN hN' hG hG').mono fun e W' ⟨he, hB, hfr⟩ => ?_
  subst he
  exact ⟨_, rfl, post_of_same (pa := p0 ++ p1) (pv := []) hW' (fun _ _ _ => trodAll_mk1 (shut_bool Try.underlying4 true))
    (fun sp hsp => trodAll_mk2 (WideElems.Trod_stays laidOut (by kernel_rfl) (of_decide_eq_true (by kernel_rfl)) h0k (fun x hx => hB.same (hlt0 x hx)) (fun x hx => hsp x (by simp [hx])))
      (WideElems.Trod_stays laidOut (by kernel_rfl) (of_decide_eq_true (by kernel_rfl)) h1k (fun x hx => hB.same (hlt1 x hx)) (fun x hx => hsp x (by simp [hx]))))
    (fun _ _ => rfl) rfl (hB.frame _) hfr (ok_one (by kernel_rfl) rfl (okWide_bool_mk Try.underlying4 true))⟩

theorem wordAccepts_proved : Rows.WordAcceptsSaid :=
  OpenClaim.holds_of_wide 3 Try.f3 rfl rfl rfl rfl rfl rfl rfl ⟨rfl, rfl, rfl, rfl, rfl⟩ rfl rfl rfl rfl rfl (by kernel_rfl) Try.func3 (by kernel_rfl)
    (of_decide_eq_true (by kernel_rfl)) (by unfold Func.isWrapper; first | (rw [if_pos (by decide +kernel)]; kernel_rfl) | (rw [if_neg (by decide +kernel)]; exact ⟨rfl, rfl⟩))
    (fun os started H enc _ => wordAccepts_lifted os started H enc)
end Go.Proofs.Ytfpakfidfmjfhaa
