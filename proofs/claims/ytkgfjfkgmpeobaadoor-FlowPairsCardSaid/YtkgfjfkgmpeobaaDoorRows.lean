/-
  NARROWER THAN 'FOR EVERY INPUT', by the rows' own cells (each row's printed sentence says how): FlowChecks: laid · FlowMost: laid · FlowJudges: laid · FlowApart: laid · FlowTrees: laid · FlowBranches: laid · FlowEither: laid · FlowPairs: laid · FlowSums: laid.
  DERIVED. THE GIVEN ROWS OF THIS SEAT. 9 by the template 'for every input the law returns true; each argument reads behind the call as it read before'; 0 by the template 'total and deterministic' (their statements: YtkgfjfkgmpeobaaDoorTotals.lean).
  GIVEN WITH THE SEED: the statements are not yours to turn. If you find one false, say at which input.
  Laid BY PROGRAM, IN A SANDBOX (cutbox-rows.mjs): the forced cells as the released guide's own fill.sh prints them over the translation f2128abd6121ea1a… (all of the seat's roots in one cut). By AI agents, Wed Nov 11 2026. No macro, syntax, notation, axiom, sorry.
-/
import Derived.Test.YtkgfjfkgmpeobaaDoorChecked
import GoSem.Claim
import GoSem.ClaimJoined
import GoSem.ClaimMapViews
import Derived.JoinedTies
import Derived.KernelRfl
namespace Go.Proofs.YtkgfjfkgmpeobaaDoor
/- THE CELL 'sum', in the pinned program and in every row, IS THE sha256 OF THE DUMP (.gsa) THAT YtkgfjfkgmpeobaaDoorProg.lean LOADS. Nothing in Lean hashes anything: it is a label: what it is worth is what the hold of that sum in a sandbox is worth. -/
noncomputable def Tryd.pinned : Pinned := { name := "ytkgfjfkgmpeobaadoor", sum := "f2128abd6121ea1a8149533de4f85b93d76c064952897b78ea1a1f06cc05e84c", checked := Tryd.checked }
namespace Rows
def none {H : Type} : Left H := { results := [], args := [] }

/- WHAT THE LISTED PACKAGE-LEVEL VARIABLES READ AS WHEN THE CALL BEGINS. Each datum BY PROGRAM (the guide's laid-datum.mjs) off the statement by which the dump's own 'gosem.cut.vars' lays the variable. In a bare row this is a premise. The card (YtkgfjfkgmpeobaaDoorCards.lean) ties it to the program's text. -/
def laid_math_bits_deBruijn64tab {H : Type} : DataW H := .agg [.lit (.int .u8 0), .lit (.int .u8 1), .lit (.int .u8 56), .lit (.int .u8 2), .lit (.int .u8 57), .lit (.int .u8 49), .lit (.int .u8 28), .lit (.int .u8 3), .lit (.int .u8 61), .lit (.int .u8 58), .lit (.int .u8 42), .lit (.int .u8 50), .lit (.int .u8 38), .lit (.int .u8 29), .lit (.int .u8 17), .lit (.int .u8 4), .lit (.int .u8 62), .lit (.int .u8 47), .lit (.int .u8 59), .lit (.int .u8 36), .lit (.int .u8 45), .lit (.int .u8 43), .lit (.int .u8 51), .lit (.int .u8 22), .lit (.int .u8 53), .lit (.int .u8 39), .lit (.int .u8 33), .lit (.int .u8 30), .lit (.int .u8 24), .lit (.int .u8 18), .lit (.int .u8 12), .lit (.int .u8 5), .lit (.int .u8 63), .lit (.int .u8 55), .lit (.int .u8 48), .lit (.int .u8 27), .lit (.int .u8 60), .lit (.int .u8 41), .lit (.int .u8 37), .lit (.int .u8 16), .lit (.int .u8 46), .lit (.int .u8 35), .lit (.int .u8 44), .lit (.int .u8 21), .lit (.int .u8 52), .lit (.int .u8 32), .lit (.int .u8 23), .lit (.int .u8 11), .lit (.int .u8 54), .lit (.int .u8 26), .lit (.int .u8 40), .lit (.int .u8 15), .lit (.int .u8 34), .lit (.int .u8 20), .lit (.int .u8 31), .lit (.int .u8 10), .lit (.int .u8 25), .lit (.int .u8 14), .lit (.int .u8 19), .lit (.int .u8 9), .lit (.int .u8 13), .lit (.int .u8 8), .lit (.int .u8 7), .lit (.int .u8 6)]

/-- 'minikinlaw03.FlowChecks': WHATEVER THE INPUT: true; the input reads as it did. -/
def flowChecksSpec : ChangeSpec := { name := "flowChecks", fn := fun _ => fun
  | [d1, d2, d3] => { results := [.lit (.bool true)], args := [d1, d2, d3] }
  | _ => none }
def flowChecksRow : OpenClaim := { program := "ytkgfjfkgmpeobaadoor", sum := "f2128abd6121ea1a8149533de4f85b93d76c064952897b78ea1a1f06cc05e84c", func := "minikin/minikinlaw03.FlowChecks", spec := "flowChecks", unfollowed := true, recurses := true, named := ["math/bits.deBruijn64tab"], apart := false, laid := [("math/bits.deBruijn64tab", laid_math_bits_deBruijn64tab)] }
def FlowChecksSaid : Prop := flowChecksRow.holds Tryd.pinned (OpenSpec.ofChange flowChecksSpec)

/-- ITS FALSE NEIGHBOUR: 'it returns false'. Refute it at one input. -/
def flowChecksWrong : ChangeSpec := { name := "flowChecks", fn := fun _ => fun
  | [d1, d2, d3] => { results := [.lit (.bool false)], args := [d1, d2, d3] }
  | _ => none }
def FlowChecksWrongFalsely : Prop := flowChecksRow.holds Tryd.pinned (OpenSpec.ofChange flowChecksWrong)

/-- 'minikinlaw03.FlowMost': WHATEVER THE INPUT: true; the input reads as it did. -/
def flowMostSpec : ChangeSpec := { name := "flowMost", fn := fun _ => fun
  | [d1, d2] => { results := [.lit (.bool true)], args := [d1, d2] }
  | _ => none }
def flowMostRow : OpenClaim := { program := "ytkgfjfkgmpeobaadoor", sum := "f2128abd6121ea1a8149533de4f85b93d76c064952897b78ea1a1f06cc05e84c", func := "minikin/minikinlaw03.FlowMost", spec := "flowMost", unfollowed := true, recurses := true, named := ["math/bits.deBruijn64tab"], apart := false, laid := [("math/bits.deBruijn64tab", laid_math_bits_deBruijn64tab)] }
def FlowMostSaid : Prop := flowMostRow.holds Tryd.pinned (OpenSpec.ofChange flowMostSpec)

/-- ITS FALSE NEIGHBOUR: 'it returns false'. Refute it at one input. -/
def flowMostWrong : ChangeSpec := { name := "flowMost", fn := fun _ => fun
  | [d1, d2] => { results := [.lit (.bool false)], args := [d1, d2] }
  | _ => none }
def FlowMostWrongFalsely : Prop := flowMostRow.holds Tryd.pinned (OpenSpec.ofChange flowMostWrong)

/-- 'minikinlaw03.FlowJudges': WHATEVER THE INPUT: true; the input reads as it did. -/
def flowJudgesSpec : ChangeSpec := { name := "flowJudges", fn := fun _ => fun
  | [d1, d2, d3] => { results := [.lit (.bool true)], args := [d1, d2, d3] }
  | _ => none }
def flowJudgesRow : OpenClaim := { program := "ytkgfjfkgmpeobaadoor", sum := "f2128abd6121ea1a8149533de4f85b93d76c064952897b78ea1a1f06cc05e84c", func := "minikin/minikinlaw03.FlowJudges", spec := "flowJudges", unfollowed := true, recurses := true, named := ["math/bits.deBruijn64tab"], apart := false, laid := [("math/bits.deBruijn64tab", laid_math_bits_deBruijn64tab)] }
def FlowJudgesSaid : Prop := flowJudgesRow.holds Tryd.pinned (OpenSpec.ofChange flowJudgesSpec)

/-- ITS FALSE NEIGHBOUR: 'it returns false'. Refute it at one input. -/
def flowJudgesWrong : ChangeSpec := { name := "flowJudges", fn := fun _ => fun
  | [d1, d2, d3] => { results := [.lit (.bool false)], args := [d1, d2, d3] }
  | _ => none }
def FlowJudgesWrongFalsely : Prop := flowJudgesRow.holds Tryd.pinned (OpenSpec.ofChange flowJudgesWrong)

/-- 'minikinlaw03.FlowApart': WHATEVER THE INPUT: true; the input reads as it did. -/
def flowApartSpec : ChangeSpec := { name := "flowApart", fn := fun _ => fun
  | [d1, d2, d3] => { results := [.lit (.bool true)], args := [d1, d2, d3] }
  | _ => none }
def flowApartRow : OpenClaim := { program := "ytkgfjfkgmpeobaadoor", sum := "f2128abd6121ea1a8149533de4f85b93d76c064952897b78ea1a1f06cc05e84c", func := "minikin/minikinlaw03.FlowApart", spec := "flowApart", unfollowed := true, recurses := true, named := ["math/bits.deBruijn64tab"], apart := false, laid := [("math/bits.deBruijn64tab", laid_math_bits_deBruijn64tab)] }
def FlowApartSaid : Prop := flowApartRow.holds Tryd.pinned (OpenSpec.ofChange flowApartSpec)

/-- ITS FALSE NEIGHBOUR: 'it returns false'. Refute it at one input. -/
def flowApartWrong : ChangeSpec := { name := "flowApart", fn := fun _ => fun
  | [d1, d2, d3] => { results := [.lit (.bool false)], args := [d1, d2, d3] }
  | _ => none }
def FlowApartWrongFalsely : Prop := flowApartRow.holds Tryd.pinned (OpenSpec.ofChange flowApartWrong)

/-- 'minikinlaw03.FlowTrees': WHATEVER THE INPUT: true; the input reads as it did. -/
def flowTreesSpec : ChangeSpec := { name := "flowTrees", fn := fun _ => fun
  | [d1, d2] => { results := [.lit (.bool true)], args := [d1, d2] }
  | _ => none }
def flowTreesRow : OpenClaim := { program := "ytkgfjfkgmpeobaadoor", sum := "f2128abd6121ea1a8149533de4f85b93d76c064952897b78ea1a1f06cc05e84c", func := "minikin/minikinlaw03.FlowTrees", spec := "flowTrees", unfollowed := true, recurses := true, named := ["math/bits.deBruijn64tab"], apart := false, laid := [("math/bits.deBruijn64tab", laid_math_bits_deBruijn64tab)] }
def FlowTreesSaid : Prop := flowTreesRow.holds Tryd.pinned (OpenSpec.ofChange flowTreesSpec)

/-- ITS FALSE NEIGHBOUR: 'it returns false'. Refute it at one input. -/
def flowTreesWrong : ChangeSpec := { name := "flowTrees", fn := fun _ => fun
  | [d1, d2] => { results := [.lit (.bool false)], args := [d1, d2] }
  | _ => none }
def FlowTreesWrongFalsely : Prop := flowTreesRow.holds Tryd.pinned (OpenSpec.ofChange flowTreesWrong)

/-- 'minikinlaw03.FlowBranches': WHATEVER THE INPUT: true; the input reads as it did. -/
def flowBranchesSpec : ChangeSpec := { name := "flowBranches", fn := fun _ => fun
  | [d1, d2, d3] => { results := [.lit (.bool true)], args := [d1, d2, d3] }
  | _ => none }
def flowBranchesRow : OpenClaim := { program := "ytkgfjfkgmpeobaadoor", sum := "f2128abd6121ea1a8149533de4f85b93d76c064952897b78ea1a1f06cc05e84c", func := "minikin/minikinlaw03.FlowBranches", spec := "flowBranches", unfollowed := true, recurses := true, named := ["math/bits.deBruijn64tab"], apart := false, laid := [("math/bits.deBruijn64tab", laid_math_bits_deBruijn64tab)] }
def FlowBranchesSaid : Prop := flowBranchesRow.holds Tryd.pinned (OpenSpec.ofChange flowBranchesSpec)

/-- ITS FALSE NEIGHBOUR: 'it returns false'. Refute it at one input. -/
def flowBranchesWrong : ChangeSpec := { name := "flowBranches", fn := fun _ => fun
  | [d1, d2, d3] => { results := [.lit (.bool false)], args := [d1, d2, d3] }
  | _ => none }
def FlowBranchesWrongFalsely : Prop := flowBranchesRow.holds Tryd.pinned (OpenSpec.ofChange flowBranchesWrong)

/-- 'minikinlaw03.FlowEither': WHATEVER THE INPUT: true; the input reads as it did. -/
def flowEitherSpec : ChangeSpec := { name := "flowEither", fn := fun _ => fun
  | [d1, d2, d3] => { results := [.lit (.bool true)], args := [d1, d2, d3] }
  | _ => none }
def flowEitherRow : OpenClaim := { program := "ytkgfjfkgmpeobaadoor", sum := "f2128abd6121ea1a8149533de4f85b93d76c064952897b78ea1a1f06cc05e84c", func := "minikin/minikinlaw03.FlowEither", spec := "flowEither", unfollowed := true, recurses := true, named := ["math/bits.deBruijn64tab"], apart := false, laid := [("math/bits.deBruijn64tab", laid_math_bits_deBruijn64tab)] }
def FlowEitherSaid : Prop := flowEitherRow.holds Tryd.pinned (OpenSpec.ofChange flowEitherSpec)

/-- ITS FALSE NEIGHBOUR: 'it returns false'. Refute it at one input. -/
def flowEitherWrong : ChangeSpec := { name := "flowEither", fn := fun _ => fun
  | [d1, d2, d3] => { results := [.lit (.bool false)], args := [d1, d2, d3] }
  | _ => none }
def FlowEitherWrongFalsely : Prop := flowEitherRow.holds Tryd.pinned (OpenSpec.ofChange flowEitherWrong)

/-- 'minikinlaw03.FlowPairs': WHATEVER THE INPUT: true; the input reads as it did. -/
def flowPairsSpec : ChangeSpec := { name := "flowPairs", fn := fun _ => fun
  | [d] => { results := [.lit (.bool true)], args := [d] }
  | _ => none }
def flowPairsRow : OpenClaim := { program := "ytkgfjfkgmpeobaadoor", sum := "f2128abd6121ea1a8149533de4f85b93d76c064952897b78ea1a1f06cc05e84c", func := "minikin/minikinlaw03.FlowPairs", spec := "flowPairs", unfollowed := true, recurses := true, named := ["math/bits.deBruijn64tab"], apart := false, laid := [("math/bits.deBruijn64tab", laid_math_bits_deBruijn64tab)] }
def FlowPairsSaid : Prop := flowPairsRow.holds Tryd.pinned (OpenSpec.ofChange flowPairsSpec)

/-- ITS FALSE NEIGHBOUR: 'it returns false'. Refute it at one input. -/
def flowPairsWrong : ChangeSpec := { name := "flowPairs", fn := fun _ => fun
  | [d] => { results := [.lit (.bool false)], args := [d] }
  | _ => none }
def FlowPairsWrongFalsely : Prop := flowPairsRow.holds Tryd.pinned (OpenSpec.ofChange flowPairsWrong)

/-- 'minikinlaw03.FlowSums': WHATEVER THE INPUT: true; the input reads as it did. -/
def flowSumsSpec : ChangeSpec := { name := "flowSums", fn := fun _ => fun
  | [d1, d2, d3] => { results := [.lit (.bool true)], args := [d1, d2, d3] }
  | _ => none }
def flowSumsRow : OpenClaim := { program := "ytkgfjfkgmpeobaadoor", sum := "f2128abd6121ea1a8149533de4f85b93d76c064952897b78ea1a1f06cc05e84c", func := "minikin/minikinlaw03.FlowSums", spec := "flowSums", unfollowed := true, recurses := true, named := ["math/bits.deBruijn64tab"], apart := false, laid := [("math/bits.deBruijn64tab", laid_math_bits_deBruijn64tab)] }
def FlowSumsSaid : Prop := flowSumsRow.holds Tryd.pinned (OpenSpec.ofChange flowSumsSpec)

/-- ITS FALSE NEIGHBOUR: 'it returns false'. Refute it at one input. -/
def flowSumsWrong : ChangeSpec := { name := "flowSums", fn := fun _ => fun
  | [d1, d2, d3] => { results := [.lit (.bool false)], args := [d1, d2, d3] }
  | _ => none }
def FlowSumsWrongFalsely : Prop := flowSumsRow.holds Tryd.pinned (OpenSpec.ofChange flowSumsWrong)

/- THE SECOND FORM. 'bulk': how many values and letters a reading holds, each counted each time it is reached (what is shared counts as often as it is met; a slice's spare places count too). A statement '..UptoSaid' is the law's where the arguments, and the package variables that the reading takes, are together of bulk at most 1048576: NARROWER than '..Said'. Prove '..Said' where nothing that the law and all that it calls make is longer than what came in: it says more and counts as full. Else prove '..UptoSaid'. A law counts once. -/
mutual
def uptoBulk {H : Type} : DataW H → Nat
  | .lit (.string bytes) => bytes.length + 1
  | .lit _ => 1
  | .nil => 1
  | .ptr d => uptoBulk d + 1
  | .slice elems spare => uptoBulkAll elems + uptoBulkAll spare + 1
  | .agg parts => uptoBulkAll parts + 1
  | .iface _ d => uptoBulk d + 1
  | .map entries => uptoBulkEntries entries + 1
  | .held _ => 1
def uptoBulkAll {H : Type} : List (DataW H) → Nat
  | [] => 0
  | d :: r => uptoBulk d + uptoBulkAll r
def uptoBulkEntries {H : Type} : List (Lit × DataW H) → Nat
  | [] => 0
  | x :: r => uptoBulkEntry x + uptoBulkEntries r
def uptoBulkEntry {H : Type} : Lit × DataW H → Nat
  | (.string bytes, d) => bytes.length + uptoBulk d + 1
  | (_, d) => uptoBulk d + 1
 end
def uptoSmall : (H : Type) → List (DataW H) → Bool := fun _ ds => decide (uptoBulkAll ds ≤ 1048576)
def OpenSpec.upto (s : _root_.Go.ChangeSpec) : _root_.Go.OpenSpec := { _root_.Go.OpenSpec.ofChange s with cond := some uptoSmall }

/-- 'minikinlaw03.FlowChecks', WHERE WHAT IT READS IS OF BULK AT MOST 1048576: true; the input reads as it did. -/
def flowChecksUptoRow : OpenClaim := { program := "ytkgfjfkgmpeobaadoor", sum := "f2128abd6121ea1a8149533de4f85b93d76c064952897b78ea1a1f06cc05e84c", func := "minikin/minikinlaw03.FlowChecks", spec := "flowChecks", unfollowed := true, recurses := true, named := ["math/bits.deBruijn64tab"], apart := false, laid := [("math/bits.deBruijn64tab", laid_math_bits_deBruijn64tab)], narrowed := true }
def FlowChecksUptoSaid : Prop := flowChecksUptoRow.holds Tryd.pinned (OpenSpec.upto flowChecksSpec)

/-- 'minikinlaw03.FlowMost', WHERE WHAT IT READS IS OF BULK AT MOST 1048576: true; the input reads as it did. -/
def flowMostUptoRow : OpenClaim := { program := "ytkgfjfkgmpeobaadoor", sum := "f2128abd6121ea1a8149533de4f85b93d76c064952897b78ea1a1f06cc05e84c", func := "minikin/minikinlaw03.FlowMost", spec := "flowMost", unfollowed := true, recurses := true, named := ["math/bits.deBruijn64tab"], apart := false, laid := [("math/bits.deBruijn64tab", laid_math_bits_deBruijn64tab)], narrowed := true }
def FlowMostUptoSaid : Prop := flowMostUptoRow.holds Tryd.pinned (OpenSpec.upto flowMostSpec)

/-- 'minikinlaw03.FlowJudges', WHERE WHAT IT READS IS OF BULK AT MOST 1048576: true; the input reads as it did. -/
def flowJudgesUptoRow : OpenClaim := { program := "ytkgfjfkgmpeobaadoor", sum := "f2128abd6121ea1a8149533de4f85b93d76c064952897b78ea1a1f06cc05e84c", func := "minikin/minikinlaw03.FlowJudges", spec := "flowJudges", unfollowed := true, recurses := true, named := ["math/bits.deBruijn64tab"], apart := false, laid := [("math/bits.deBruijn64tab", laid_math_bits_deBruijn64tab)], narrowed := true }
def FlowJudgesUptoSaid : Prop := flowJudgesUptoRow.holds Tryd.pinned (OpenSpec.upto flowJudgesSpec)

/-- 'minikinlaw03.FlowApart', WHERE WHAT IT READS IS OF BULK AT MOST 1048576: true; the input reads as it did. -/
def flowApartUptoRow : OpenClaim := { program := "ytkgfjfkgmpeobaadoor", sum := "f2128abd6121ea1a8149533de4f85b93d76c064952897b78ea1a1f06cc05e84c", func := "minikin/minikinlaw03.FlowApart", spec := "flowApart", unfollowed := true, recurses := true, named := ["math/bits.deBruijn64tab"], apart := false, laid := [("math/bits.deBruijn64tab", laid_math_bits_deBruijn64tab)], narrowed := true }
def FlowApartUptoSaid : Prop := flowApartUptoRow.holds Tryd.pinned (OpenSpec.upto flowApartSpec)

/-- 'minikinlaw03.FlowTrees', WHERE WHAT IT READS IS OF BULK AT MOST 1048576: true; the input reads as it did. -/
def flowTreesUptoRow : OpenClaim := { program := "ytkgfjfkgmpeobaadoor", sum := "f2128abd6121ea1a8149533de4f85b93d76c064952897b78ea1a1f06cc05e84c", func := "minikin/minikinlaw03.FlowTrees", spec := "flowTrees", unfollowed := true, recurses := true, named := ["math/bits.deBruijn64tab"], apart := false, laid := [("math/bits.deBruijn64tab", laid_math_bits_deBruijn64tab)], narrowed := true }
def FlowTreesUptoSaid : Prop := flowTreesUptoRow.holds Tryd.pinned (OpenSpec.upto flowTreesSpec)

/-- 'minikinlaw03.FlowBranches', WHERE WHAT IT READS IS OF BULK AT MOST 1048576: true; the input reads as it did. -/
def flowBranchesUptoRow : OpenClaim := { program := "ytkgfjfkgmpeobaadoor", sum := "f2128abd6121ea1a8149533de4f85b93d76c064952897b78ea1a1f06cc05e84c", func := "minikin/minikinlaw03.FlowBranches", spec := "flowBranches", unfollowed := true, recurses := true, named := ["math/bits.deBruijn64tab"], apart := false, laid := [("math/bits.deBruijn64tab", laid_math_bits_deBruijn64tab)], narrowed := true }
def FlowBranchesUptoSaid : Prop := flowBranchesUptoRow.holds Tryd.pinned (OpenSpec.upto flowBranchesSpec)

/-- 'minikinlaw03.FlowEither', WHERE WHAT IT READS IS OF BULK AT MOST 1048576: true; the input reads as it did. -/
def flowEitherUptoRow : OpenClaim := { program := "ytkgfjfkgmpeobaadoor", sum := "f2128abd6121ea1a8149533de4f85b93d76c064952897b78ea1a1f06cc05e84c", func := "minikin/minikinlaw03.FlowEither", spec := "flowEither", unfollowed := true, recurses := true, named := ["math/bits.deBruijn64tab"], apart := false, laid := [("math/bits.deBruijn64tab", laid_math_bits_deBruijn64tab)], narrowed := true }
def FlowEitherUptoSaid : Prop := flowEitherUptoRow.holds Tryd.pinned (OpenSpec.upto flowEitherSpec)

/-- 'minikinlaw03.FlowPairs', WHERE WHAT IT READS IS OF BULK AT MOST 1048576: true; the input reads as it did. -/
def flowPairsUptoRow : OpenClaim := { program := "ytkgfjfkgmpeobaadoor", sum := "f2128abd6121ea1a8149533de4f85b93d76c064952897b78ea1a1f06cc05e84c", func := "minikin/minikinlaw03.FlowPairs", spec := "flowPairs", unfollowed := true, recurses := true, named := ["math/bits.deBruijn64tab"], apart := false, laid := [("math/bits.deBruijn64tab", laid_math_bits_deBruijn64tab)], narrowed := true }
def FlowPairsUptoSaid : Prop := flowPairsUptoRow.holds Tryd.pinned (OpenSpec.upto flowPairsSpec)

/-- 'minikinlaw03.FlowSums', WHERE WHAT IT READS IS OF BULK AT MOST 1048576: true; the input reads as it did. -/
def flowSumsUptoRow : OpenClaim := { program := "ytkgfjfkgmpeobaadoor", sum := "f2128abd6121ea1a8149533de4f85b93d76c064952897b78ea1a1f06cc05e84c", func := "minikin/minikinlaw03.FlowSums", spec := "flowSums", unfollowed := true, recurses := true, named := ["math/bits.deBruijn64tab"], apart := false, laid := [("math/bits.deBruijn64tab", laid_math_bits_deBruijn64tab)], narrowed := true }
def FlowSumsUptoSaid : Prop := flowSumsUptoRow.holds Tryd.pinned (OpenSpec.upto flowSumsSpec)

end Rows
end Go.Proofs.YtkgfjfkgmpeobaaDoor
