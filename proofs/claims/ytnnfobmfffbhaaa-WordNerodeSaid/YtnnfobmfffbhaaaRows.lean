/-
  No cell of these rows narrows 'for every input' (looked for: loops, veiled, ifaces, maps, wideKeys, modest, calm, conditions, laid).
  DERIVED. THE GIVEN ROWS OF THIS SEAT. 4 by the template 'for every input the law returns true; each argument reads behind the call as it read before'; 0 by the template 'total and deterministic' (their statements: YtnnfobmfffbhaaaTotals.lean).
  GIVEN WITH THE SEED: the statements are not yours to turn. If you find one false, say at which input.
  Laid BY PROGRAM, IN A SANDBOX (cutbox-rows.mjs): the forced cells as the released guide's own fill.sh prints them over the translation f28a35262d535a23… (all of the seat's roots in one cut). By AI agents, Wed Nov 11 2026. No macro, syntax, notation, axiom, sorry.
-/
import Derived.Test.YtnnfobmfffbhaaaChecked
import GoSem.Claim
import GoSem.ClaimJoined
import GoSem.ClaimMapViews
import Derived.JoinedTies
import Derived.KernelRfl
namespace Go.Proofs.Ytnnfobmfffbhaaa
/- THE CELL 'sum', in the pinned program and in every row, IS THE sha256 OF THE DUMP (.gsa) THAT YtnnfobmfffbhaaaProg.lean LOADS. Nothing in Lean hashes anything: it is a label: what it is worth is what the hold of that sum in a sandbox is worth. -/
noncomputable def Try.pinned : Pinned := { name := "ytnnfobmfffbhaaa", sum := "f28a35262d535a234cef418b0ed67b77d40a5d29f8c9cfed7e3aea8b92fb5ba4", checked := Try.checked }
namespace Rows
def none {H : Type} : Left H := { results := [], args := [] }

/-- 'minikinlaw02.WordLeasts': WHATEVER THE INPUT: true; the input reads as it did. -/
def wordLeastsSpec : ChangeSpec := { name := "wordLeasts", fn := fun _ => fun
  | [d] => { results := [.lit (.bool true)], args := [d] }
  | _ => none }
def wordLeastsRow : OpenClaim := { program := "ytnnfobmfffbhaaa", sum := "f28a35262d535a234cef418b0ed67b77d40a5d29f8c9cfed7e3aea8b92fb5ba4", func := "minikin/minikinlaw02.WordLeasts", spec := "wordLeasts", unfollowed := true, recurses := true, plainKeys := false, apart := false }
def WordLeastsSaid : Prop := wordLeastsRow.holds Try.pinned (OpenSpec.ofChange wordLeastsSpec)

/-- ITS FALSE NEIGHBOUR: 'it returns false'. Refute it at one input. -/
def wordLeastsWrong : ChangeSpec := { name := "wordLeasts", fn := fun _ => fun
  | [d] => { results := [.lit (.bool false)], args := [d] }
  | _ => none }
def WordLeastsWrongFalsely : Prop := wordLeastsRow.holds Try.pinned (OpenSpec.ofChange wordLeastsWrong)

/-- 'minikinlaw02.WordDiffers': WHATEVER THE INPUT: true; the input reads as it did. -/
def wordDiffersSpec : ChangeSpec := { name := "wordDiffers", fn := fun _ => fun
  | [d1, d2, d3] => { results := [.lit (.bool true)], args := [d1, d2, d3] }
  | _ => none }
def wordDiffersRow : OpenClaim := { program := "ytnnfobmfffbhaaa", sum := "f28a35262d535a234cef418b0ed67b77d40a5d29f8c9cfed7e3aea8b92fb5ba4", func := "minikin/minikinlaw02.WordDiffers", spec := "wordDiffers", unfollowed := true, recurses := true, plainKeys := false, apart := false }
def WordDiffersSaid : Prop := wordDiffersRow.holds Try.pinned (OpenSpec.ofChange wordDiffersSpec)

/-- ITS FALSE NEIGHBOUR: 'it returns false'. Refute it at one input. -/
def wordDiffersWrong : ChangeSpec := { name := "wordDiffers", fn := fun _ => fun
  | [d1, d2, d3] => { results := [.lit (.bool false)], args := [d1, d2, d3] }
  | _ => none }
def WordDiffersWrongFalsely : Prop := wordDiffersRow.holds Try.pinned (OpenSpec.ofChange wordDiffersWrong)

/-- 'minikinlaw02.WordCounts': WHATEVER THE INPUT: true; the input reads as it did. -/
def wordCountsSpec : ChangeSpec := { name := "wordCounts", fn := fun _ => fun
  | [d1, d2, d3] => { results := [.lit (.bool true)], args := [d1, d2, d3] }
  | _ => none }
def wordCountsRow : OpenClaim := { program := "ytnnfobmfffbhaaa", sum := "f28a35262d535a234cef418b0ed67b77d40a5d29f8c9cfed7e3aea8b92fb5ba4", func := "minikin/minikinlaw02.WordCounts", spec := "wordCounts", unfollowed := true, recurses := true, plainKeys := false, apart := false }
def WordCountsSaid : Prop := wordCountsRow.holds Try.pinned (OpenSpec.ofChange wordCountsSpec)

/-- ITS FALSE NEIGHBOUR: 'it returns false'. Refute it at one input. -/
def wordCountsWrong : ChangeSpec := { name := "wordCounts", fn := fun _ => fun
  | [d1, d2, d3] => { results := [.lit (.bool false)], args := [d1, d2, d3] }
  | _ => none }
def WordCountsWrongFalsely : Prop := wordCountsRow.holds Try.pinned (OpenSpec.ofChange wordCountsWrong)

/-- 'minikinlaw02.WordNerode': WHATEVER THE INPUT: true; the input reads as it did. -/
def wordNerodeSpec : ChangeSpec := { name := "wordNerode", fn := fun _ => fun
  | [d1, d2] => { results := [.lit (.bool true)], args := [d1, d2] }
  | _ => none }
def wordNerodeRow : OpenClaim := { program := "ytnnfobmfffbhaaa", sum := "f28a35262d535a234cef418b0ed67b77d40a5d29f8c9cfed7e3aea8b92fb5ba4", func := "minikin/minikinlaw02.WordNerode", spec := "wordNerode", unfollowed := true, recurses := true, plainKeys := false, apart := false }
def WordNerodeSaid : Prop := wordNerodeRow.holds Try.pinned (OpenSpec.ofChange wordNerodeSpec)

/-- ITS FALSE NEIGHBOUR: 'it returns false'. Refute it at one input. -/
def wordNerodeWrong : ChangeSpec := { name := "wordNerode", fn := fun _ => fun
  | [d1, d2] => { results := [.lit (.bool false)], args := [d1, d2] }
  | _ => none }
def WordNerodeWrongFalsely : Prop := wordNerodeRow.holds Try.pinned (OpenSpec.ofChange wordNerodeWrong)

/- THE SECOND FORM. 'bulk': how many values and letters a reading holds, each counted each time it is reached (what is shared counts as often as it is met; a slice's spare places count too). A statement '..UptoSaid' is the law's where the arguments, and the package variables that the reading takes, are together of bulk at most 1048576: NARROWER than '..Said'. Prove '..Said' where nothing that the law and all that it calls make is longer than what came in: it says more and counts as full. Else prove '..UptoSaid'. A law counts once. -/
mutual
def uptoBulk {H : Type} : DataW H → Nat
  | .lit (.string bytes) => bytes.length + 1
  | .lit _ => 1
  | .nil => 1
  | .ptr d => uptoBulk d + 1
  | .slice elems spare => uptoBulkAll elems + uptoBulkAll spare + 1
  | .agg parts => uptoBulkAll parts + 1
  | .iface _ d => uptoBulk d + 1
  | .map entries => uptoBulkEntries entries + 1
  | .held _ => 1
def uptoBulkAll {H : Type} : List (DataW H) → Nat
  | [] => 0
  | d :: r => uptoBulk d + uptoBulkAll r
def uptoBulkEntries {H : Type} : List (Lit × DataW H) → Nat
  | [] => 0
  | x :: r => uptoBulkEntry x + uptoBulkEntries r
def uptoBulkEntry {H : Type} : Lit × DataW H → Nat
  | (.string bytes, d) => bytes.length + uptoBulk d + 1
  | (_, d) => uptoBulk d + 1
 end
def uptoSmall : (H : Type) → List (DataW H) → Bool := fun _ ds => decide (uptoBulkAll ds ≤ 1048576)
def OpenSpec.upto (s : _root_.Go.ChangeSpec) : _root_.Go.OpenSpec := { _root_.Go.OpenSpec.ofChange s with cond := some uptoSmall }

/-- 'minikinlaw02.WordLeasts', WHERE WHAT IT READS IS OF BULK AT MOST 1048576: true; the input reads as it did. -/
def wordLeastsUptoRow : OpenClaim := { program := "ytnnfobmfffbhaaa", sum := "f28a35262d535a234cef418b0ed67b77d40a5d29f8c9cfed7e3aea8b92fb5ba4", func := "minikin/minikinlaw02.WordLeasts", spec := "wordLeasts", unfollowed := true, recurses := true, plainKeys := false, apart := false, narrowed := true }
def WordLeastsUptoSaid : Prop := wordLeastsUptoRow.holds Try.pinned (OpenSpec.upto wordLeastsSpec)

/-- 'minikinlaw02.WordDiffers', WHERE WHAT IT READS IS OF BULK AT MOST 1048576: true; the input reads as it did. -/
def wordDiffersUptoRow : OpenClaim := { program := "ytnnfobmfffbhaaa", sum := "f28a35262d535a234cef418b0ed67b77d40a5d29f8c9cfed7e3aea8b92fb5ba4", func := "minikin/minikinlaw02.WordDiffers", spec := "wordDiffers", unfollowed := true, recurses := true, plainKeys := false, apart := false, narrowed := true }
def WordDiffersUptoSaid : Prop := wordDiffersUptoRow.holds Try.pinned (OpenSpec.upto wordDiffersSpec)

/-- 'minikinlaw02.WordCounts', WHERE WHAT IT READS IS OF BULK AT MOST 1048576: true; the input reads as it did. -/
def wordCountsUptoRow : OpenClaim := { program := "ytnnfobmfffbhaaa", sum := "f28a35262d535a234cef418b0ed67b77d40a5d29f8c9cfed7e3aea8b92fb5ba4", func := "minikin/minikinlaw02.WordCounts", spec := "wordCounts", unfollowed := true, recurses := true, plainKeys := false, apart := false, narrowed := true }
def WordCountsUptoSaid : Prop := wordCountsUptoRow.holds Try.pinned (OpenSpec.upto wordCountsSpec)

/-- 'minikinlaw02.WordNerode', WHERE WHAT IT READS IS OF BULK AT MOST 1048576: true; the input reads as it did. -/
def wordNerodeUptoRow : OpenClaim := { program := "ytnnfobmfffbhaaa", sum := "f28a35262d535a234cef418b0ed67b77d40a5d29f8c9cfed7e3aea8b92fb5ba4", func := "minikin/minikinlaw02.WordNerode", spec := "wordNerode", unfollowed := true, recurses := true, plainKeys := false, apart := false, narrowed := true }
def WordNerodeUptoSaid : Prop := wordNerodeUptoRow.holds Try.pinned (OpenSpec.upto wordNerodeSpec)

end Rows
end Go.Proofs.Ytnnfobmfffbhaaa
