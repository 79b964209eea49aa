import Derived.Test.YtnnfobmfffbhaaaP39
import Derived.Test.YtnnfobmfffbhaaaEngEm
import Derived.Test.YtnnfobmfffbhaaaRows
import Derived.ProofKit
import Derived.Lib.SmallJoins
import Derived.Deep.Matrix
import Derived.Deep.Grids
set_option linter.unusedSimpArgs false
set_option linter.unusedVariables false
set_option linter.unusedSectionVars false
open Go Go.Eng
namespace Go.Proofs.Ytnnfobmfffbhaaa
open Go.ChangeShapes Go.WideShapes Go.ChangeAt Go.RowKit
open Go.ChangeMaps (open_string shut_string)

section
variable {H : Type} {enc : TypeId × Value → H} {P : Program} {w : World}

theorem add_block (a : Addr) (n : Nat) : (a.add n).block = a.block := by unfold Addr.add; split <;> rfl
theorem add_off (a : Addr) (n : Nat) : (a.add n).off = a.off + n := by unfold Addr.add; split <;> simp_all

/-- a slice of bools that is read -/
theorem bools_in {t e : TypeId} {fuel : Nat} {held : Bool} {v : Value} {x : DataW H × List MemPlace} (ht : P.underlying t = some (.slice e)) (he : P.underlying e = some .bool) (hc : P.cellsOf e = 1)
    (h : DataW.trod enc P w 0 (fun _ => true) held fuel t [v] = some x) : ∃ u n g, absV w v = some u ∧ BoolsIn (embW w) u n g := by
  rcases Deep.open_bools ht he hc h with ⟨h1, _⟩ | ⟨a, len, cap, B, h1, _, h2, _, _, h3⟩
  · cases h1
    exact ⟨.slice none 0 0, 0, fun _ => false, rfl, none, 0, rfl, fun i hi => absurd hi (Nat.not_lt_zero i)⟩
  · cases h1
    obtain ⟨a', c', h4, h5⟩ := absV_row (w := w) (a := a) (n := len) (c := cap) (fun hc => ⟨_, by simpa [Addr.add] using h3 0 hc⟩) h2
    refine ⟨_, len, B, h4, a', c', rfl, fun i hi => ⟨a.block, a.off, h5 (by omega), ?_⟩⟩
    have := emb_has (h3 i (by omega)) (u := .bool (B i)) rfl
    rwa [add_block, add_off] at this
/-- .. of numbers, by its cell -/
theorem ints_in {A : Option Addr} {L C : Nat} {Z : List Int} (h1 : L ≤ C) (h0 : A = none → C = 0) (h : ∀ a', A = some a' → ∀ c, c < C → w.cell? (a'.add c) = some (.int .i64 (Z.getD c 0))) :
    ∃ u, absV w (.slice A L C) = some u ∧ IntsIn (embW w) u L (fun c => Z.getD c 0) := by
  cases A with
  | none =>
    obtain rfl := h0 rfl
    obtain rfl : L = 0 := by omega
    exact ⟨.slice none 0 0, rfl, none, 0, rfl, fun i hi => absurd hi (Nat.not_lt_zero i)⟩
  | some a =>
    have h3 := h a rfl
    obtain ⟨a', c', h4, h5⟩ := absV_row (w := w) (a := a) (n := L) (c := C) (fun hc => ⟨_, by simpa [Addr.add] using h3 0 hc⟩) h1
    refine ⟨_, h4, a', c', rfl, fun i hi => ⟨a.block, a.off, h5 (by omega), ?_⟩⟩
    have := emb_has (h3 i (by omega)) (u := .int .i64 (Z.getD i 0)) rfl
    rwa [add_block, add_off] at this
/-- .. of slices of numbers -/
theorem rows_in {t e q : TypeId} {fuel : Nat} {held : Bool} {v : Value} {x : DataW H × List MemPlace} (ht : P.underlying t = some (.slice e)) (he : P.underlying e = some (.slice q)) (hq : P.underlying q = some (.int .i64)) (ce : P.cellsOf e = 1) (cq : P.cellsOf q = 1)
    (h : DataW.trod enc P w 0 (fun _ => true) held fuel t [v] = some x) : ∃ u n len f, absV w v = some u ∧ RowsIn (embW w) u n len f := by
  rcases Deep.open_int_rows ht he hq ce cq h with ⟨h1, _⟩ | ⟨a, len, cap, A, L, C, Z, h1, _, h2, _, _, h3⟩
  · cases h1
    exact ⟨.slice none 0 0, 0, fun _ => 0, fun _ _ => 0, rfl, none, 0, rfl, fun i hi => absurd hi (Nat.not_lt_zero i)⟩
  · cases h1
    obtain ⟨a', c', h4, h5⟩ := absV_row (w := w) (a := a) (n := len) (c := cap) (fun hc => ⟨_, by simpa [Addr.add] using (h3 0 hc).1⟩) h2
    refine ⟨_, len, L, fun s c => (Z s).getD c 0, h4, a', c', rfl, fun s hs => ?_⟩
    obtain ⟨g1, g2, _, _, _, g3, g4⟩ := h3 s (by omega)
    obtain ⟨u, g5, g6⟩ := ints_in (w := w) g2 g3 (fun a' ha => (g4 a' ha).2)
    have := emb_has g1 g5
    rw [add_block, add_off] at this
    exact ⟨a.block, a.off, u, h5 (by omega), this, g6⟩
end

theorem own : ownKnob Try.prog.godebug = none := by kernel_rfl
theorem laidOut : laidOutB Try.prog = true := by kernel_rfl
theorem noGlobs : ∀ g, T0.globs.get g = none := fun g => Tr.get_nil g

end Go.Proofs.Ytnnfobmfffbhaaa
