/-
  NARROWER THAN 'FOR EVERY INPUT', by the rows' own cells (each row's printed sentence says how): PairChecks: laid · PairMatches: laid · PairJudges: laid · PairAssigns: laid · PairPrices: laid · PairOrders: laid · PairBerge: laid · PairGallai: laid · PairWorth: laid · PairDilworth: laid.
  DERIVED. THE GIVEN ROWS OF THIS SEAT. 10 by the template 'for every input the law returns true; each argument reads behind the call as it read before'; 0 by the template 'total and deterministic' (their statements: YtdpnplanohgecaaDoorTotals.lean).
  GIVEN WITH THE SEED: the statements are not yours to turn. If you find one false, say at which input.
  Laid BY PROGRAM, IN A SANDBOX (cutbox-rows.mjs): the forced cells as the released guide's own fill.sh prints them over the translation d5958435149609cf… (all of the seat's roots in one cut). By AI agents, Wed Nov 11 2026. No macro, syntax, notation, axiom, sorry.
-/
import Derived.Test.YtdpnplanohgecaaDoorChecked
import GoSem.Claim
import GoSem.ClaimJoined
import GoSem.ClaimMapViews
import Derived.JoinedTies
import Derived.KernelRfl
namespace Go.Proofs.YtdpnplanohgecaaDoor
/- THE CELL 'sum', in the pinned program and in every row, IS THE sha256 OF THE DUMP (.gsa) THAT YtdpnplanohgecaaDoorProg.lean LOADS. Nothing in Lean hashes anything: it is a label: what it is worth is what the hold of that sum in a sandbox is worth. -/
noncomputable def Tryd.pinned : Pinned := { name := "ytdpnplanohgecaadoor", sum := "d5958435149609cf65b9972d8c4f2e78cd5fe0f969e6ab44c45d51c18b42b4e1", checked := Tryd.checked }
namespace Rows
def none {H : Type} : Left H := { results := [], args := [] }

/- WHAT THE LISTED PACKAGE-LEVEL VARIABLES READ AS WHEN THE CALL BEGINS. Each datum BY PROGRAM (the guide's laid-datum.mjs) off the statement by which the dump's own 'gosem.cut.vars' lays the variable. In a bare row this is a premise. The card (YtdpnplanohgecaaDoorCards.lean) ties it to the program's text. -/
def laid_math_bits_deBruijn64tab {H : Type} : DataW H := .agg [.lit (.int .u8 0), .lit (.int .u8 1), .lit (.int .u8 56), .lit (.int .u8 2), .lit (.int .u8 57), .lit (.int .u8 49), .lit (.int .u8 28), .lit (.int .u8 3), .lit (.int .u8 61), .lit (.int .u8 58), .lit (.int .u8 42), .lit (.int .u8 50), .lit (.int .u8 38), .lit (.int .u8 29), .lit (.int .u8 17), .lit (.int .u8 4), .lit (.int .u8 62), .lit (.int .u8 47), .lit (.int .u8 59), .lit (.int .u8 36), .lit (.int .u8 45), .lit (.int .u8 43), .lit (.int .u8 51), .lit (.int .u8 22), .lit (.int .u8 53), .lit (.int .u8 39), .lit (.int .u8 33), .lit (.int .u8 30), .lit (.int .u8 24), .lit (.int .u8 18), .lit (.int .u8 12), .lit (.int .u8 5), .lit (.int .u8 63), .lit (.int .u8 55), .lit (.int .u8 48), .lit (.int .u8 27), .lit (.int .u8 60), .lit (.int .u8 41), .lit (.int .u8 37), .lit (.int .u8 16), .lit (.int .u8 46), .lit (.int .u8 35), .lit (.int .u8 44), .lit (.int .u8 21), .lit (.int .u8 52), .lit (.int .u8 32), .lit (.int .u8 23), .lit (.int .u8 11), .lit (.int .u8 54), .lit (.int .u8 26), .lit (.int .u8 40), .lit (.int .u8 15), .lit (.int .u8 34), .lit (.int .u8 20), .lit (.int .u8 31), .lit (.int .u8 10), .lit (.int .u8 25), .lit (.int .u8 14), .lit (.int .u8 19), .lit (.int .u8 9), .lit (.int .u8 13), .lit (.int .u8 8), .lit (.int .u8 7), .lit (.int .u8 6)]

/-- 'minikinlaw04.PairChecks': WHATEVER THE INPUT: true; the input reads as it did. -/
def pairChecksSpec : ChangeSpec := { name := "pairChecks", fn := fun _ => fun
  | [d] => { results := [.lit (.bool true)], args := [d] }
  | _ => none }
def pairChecksRow : OpenClaim := { program := "ytdpnplanohgecaadoor", sum := "d5958435149609cf65b9972d8c4f2e78cd5fe0f969e6ab44c45d51c18b42b4e1", func := "minikin/minikinlaw04.PairChecks", spec := "pairChecks", unfollowed := true, recurses := true, named := ["math/bits.deBruijn64tab"], plainKeys := false, apart := false, laid := [("math/bits.deBruijn64tab", laid_math_bits_deBruijn64tab)] }
def PairChecksSaid : Prop := pairChecksRow.holds Tryd.pinned (OpenSpec.ofChange pairChecksSpec)

/-- ITS FALSE NEIGHBOUR: 'it returns false'. Refute it at one input. -/
def pairChecksWrong : ChangeSpec := { name := "pairChecks", fn := fun _ => fun
  | [d] => { results := [.lit (.bool false)], args := [d] }
  | _ => none }
def PairChecksWrongFalsely : Prop := pairChecksRow.holds Tryd.pinned (OpenSpec.ofChange pairChecksWrong)

/-- 'minikinlaw04.PairMatches': WHATEVER THE INPUT: true; the input reads as it did. -/
def pairMatchesSpec : ChangeSpec := { name := "pairMatches", fn := fun _ => fun
  | [d] => { results := [.lit (.bool true)], args := [d] }
  | _ => none }
def pairMatchesRow : OpenClaim := { program := "ytdpnplanohgecaadoor", sum := "d5958435149609cf65b9972d8c4f2e78cd5fe0f969e6ab44c45d51c18b42b4e1", func := "minikin/minikinlaw04.PairMatches", spec := "pairMatches", unfollowed := true, recurses := true, named := ["math/bits.deBruijn64tab"], plainKeys := false, apart := false, laid := [("math/bits.deBruijn64tab", laid_math_bits_deBruijn64tab)] }
def PairMatchesSaid : Prop := pairMatchesRow.holds Tryd.pinned (OpenSpec.ofChange pairMatchesSpec)

/-- ITS FALSE NEIGHBOUR: 'it returns false'. Refute it at one input. -/
def pairMatchesWrong : ChangeSpec := { name := "pairMatches", fn := fun _ => fun
  | [d] => { results := [.lit (.bool false)], args := [d] }
  | _ => none }
def PairMatchesWrongFalsely : Prop := pairMatchesRow.holds Tryd.pinned (OpenSpec.ofChange pairMatchesWrong)

/-- 'minikinlaw04.PairJudges': WHATEVER THE INPUT: true; the input reads as it did. -/
def pairJudgesSpec : ChangeSpec := { name := "pairJudges", fn := fun _ => fun
  | [d1, d2, d3] => { results := [.lit (.bool true)], args := [d1, d2, d3] }
  | _ => none }
def pairJudgesRow : OpenClaim := { program := "ytdpnplanohgecaadoor", sum := "d5958435149609cf65b9972d8c4f2e78cd5fe0f969e6ab44c45d51c18b42b4e1", func := "minikin/minikinlaw04.PairJudges", spec := "pairJudges", unfollowed := true, recurses := true, named := ["math/bits.deBruijn64tab"], plainKeys := false, apart := false, laid := [("math/bits.deBruijn64tab", laid_math_bits_deBruijn64tab)] }
def PairJudgesSaid : Prop := pairJudgesRow.holds Tryd.pinned (OpenSpec.ofChange pairJudgesSpec)

/-- ITS FALSE NEIGHBOUR: 'it returns false'. Refute it at one input. -/
def pairJudgesWrong : ChangeSpec := { name := "pairJudges", fn := fun _ => fun
  | [d1, d2, d3] => { results := [.lit (.bool false)], args := [d1, d2, d3] }
  | _ => none }
def PairJudgesWrongFalsely : Prop := pairJudgesRow.holds Tryd.pinned (OpenSpec.ofChange pairJudgesWrong)

/-- 'minikinlaw04.PairAssigns': WHATEVER THE INPUT: true; the input reads as it did. -/
def pairAssignsSpec : ChangeSpec := { name := "pairAssigns", fn := fun _ => fun
  | [d] => { results := [.lit (.bool true)], args := [d] }
  | _ => none }
def pairAssignsRow : OpenClaim := { program := "ytdpnplanohgecaadoor", sum := "d5958435149609cf65b9972d8c4f2e78cd5fe0f969e6ab44c45d51c18b42b4e1", func := "minikin/minikinlaw04.PairAssigns", spec := "pairAssigns", unfollowed := true, recurses := true, named := ["math/bits.deBruijn64tab"], plainKeys := false, apart := false, laid := [("math/bits.deBruijn64tab", laid_math_bits_deBruijn64tab)] }
def PairAssignsSaid : Prop := pairAssignsRow.holds Tryd.pinned (OpenSpec.ofChange pairAssignsSpec)

/-- ITS FALSE NEIGHBOUR: 'it returns false'. Refute it at one input. -/
def pairAssignsWrong : ChangeSpec := { name := "pairAssigns", fn := fun _ => fun
  | [d] => { results := [.lit (.bool false)], args := [d] }
  | _ => none }
def PairAssignsWrongFalsely : Prop := pairAssignsRow.holds Tryd.pinned (OpenSpec.ofChange pairAssignsWrong)

/-- 'minikinlaw04.PairPrices': WHATEVER THE INPUT: true; the input reads as it did. -/
def pairPricesSpec : ChangeSpec := { name := "pairPrices", fn := fun _ => fun
  | [d1, d2, d3] => { results := [.lit (.bool true)], args := [d1, d2, d3] }
  | _ => none }
def pairPricesRow : OpenClaim := { program := "ytdpnplanohgecaadoor", sum := "d5958435149609cf65b9972d8c4f2e78cd5fe0f969e6ab44c45d51c18b42b4e1", func := "minikin/minikinlaw04.PairPrices", spec := "pairPrices", unfollowed := true, recurses := true, named := ["math/bits.deBruijn64tab"], plainKeys := false, apart := false, laid := [("math/bits.deBruijn64tab", laid_math_bits_deBruijn64tab)] }
def PairPricesSaid : Prop := pairPricesRow.holds Tryd.pinned (OpenSpec.ofChange pairPricesSpec)

/-- ITS FALSE NEIGHBOUR: 'it returns false'. Refute it at one input. -/
def pairPricesWrong : ChangeSpec := { name := "pairPrices", fn := fun _ => fun
  | [d1, d2, d3] => { results := [.lit (.bool false)], args := [d1, d2, d3] }
  | _ => none }
def PairPricesWrongFalsely : Prop := pairPricesRow.holds Tryd.pinned (OpenSpec.ofChange pairPricesWrong)

/-- 'minikinlaw04.PairOrders': WHATEVER THE INPUT: true; the input reads as it did. -/
def pairOrdersSpec : ChangeSpec := { name := "pairOrders", fn := fun _ => fun
  | [d1, d2] => { results := [.lit (.bool true)], args := [d1, d2] }
  | _ => none }
def pairOrdersRow : OpenClaim := { program := "ytdpnplanohgecaadoor", sum := "d5958435149609cf65b9972d8c4f2e78cd5fe0f969e6ab44c45d51c18b42b4e1", func := "minikin/minikinlaw04.PairOrders", spec := "pairOrders", unfollowed := true, recurses := true, named := ["math/bits.deBruijn64tab"], plainKeys := false, apart := false, laid := [("math/bits.deBruijn64tab", laid_math_bits_deBruijn64tab)] }
def PairOrdersSaid : Prop := pairOrdersRow.holds Tryd.pinned (OpenSpec.ofChange pairOrdersSpec)

/-- ITS FALSE NEIGHBOUR: 'it returns false'. Refute it at one input. -/
def pairOrdersWrong : ChangeSpec := { name := "pairOrders", fn := fun _ => fun
  | [d1, d2] => { results := [.lit (.bool false)], args := [d1, d2] }
  | _ => none }
def PairOrdersWrongFalsely : Prop := pairOrdersRow.holds Tryd.pinned (OpenSpec.ofChange pairOrdersWrong)

/-- 'minikinlaw04.PairBerge': WHATEVER THE INPUT: true; the input reads as it did. -/
def pairBergeSpec : ChangeSpec := { name := "pairBerge", fn := fun _ => fun
  | [d1, d2] => { results := [.lit (.bool true)], args := [d1, d2] }
  | _ => none }
def pairBergeRow : OpenClaim := { program := "ytdpnplanohgecaadoor", sum := "d5958435149609cf65b9972d8c4f2e78cd5fe0f969e6ab44c45d51c18b42b4e1", func := "minikin/minikinlaw04.PairBerge", spec := "pairBerge", unfollowed := true, recurses := true, named := ["math/bits.deBruijn64tab"], plainKeys := false, apart := false, laid := [("math/bits.deBruijn64tab", laid_math_bits_deBruijn64tab)] }
def PairBergeSaid : Prop := pairBergeRow.holds Tryd.pinned (OpenSpec.ofChange pairBergeSpec)

/-- ITS FALSE NEIGHBOUR: 'it returns false'. Refute it at one input. -/
def pairBergeWrong : ChangeSpec := { name := "pairBerge", fn := fun _ => fun
  | [d1, d2] => { results := [.lit (.bool false)], args := [d1, d2] }
  | _ => none }
def PairBergeWrongFalsely : Prop := pairBergeRow.holds Tryd.pinned (OpenSpec.ofChange pairBergeWrong)

/-- 'minikinlaw04.PairGallai': WHATEVER THE INPUT: true; the input reads as it did. -/
def pairGallaiSpec : ChangeSpec := { name := "pairGallai", fn := fun _ => fun
  | [d] => { results := [.lit (.bool true)], args := [d] }
  | _ => none }
def pairGallaiRow : OpenClaim := { program := "ytdpnplanohgecaadoor", sum := "d5958435149609cf65b9972d8c4f2e78cd5fe0f969e6ab44c45d51c18b42b4e1", func := "minikin/minikinlaw04.PairGallai", spec := "pairGallai", unfollowed := true, recurses := true, named := ["math/bits.deBruijn64tab"], plainKeys := false, apart := false, laid := [("math/bits.deBruijn64tab", laid_math_bits_deBruijn64tab)] }
def PairGallaiSaid : Prop := pairGallaiRow.holds Tryd.pinned (OpenSpec.ofChange pairGallaiSpec)

/-- ITS FALSE NEIGHBOUR: 'it returns false'. Refute it at one input. -/
def pairGallaiWrong : ChangeSpec := { name := "pairGallai", fn := fun _ => fun
  | [d] => { results := [.lit (.bool false)], args := [d] }
  | _ => none }
def PairGallaiWrongFalsely : Prop := pairGallaiRow.holds Tryd.pinned (OpenSpec.ofChange pairGallaiWrong)

/-- 'minikinlaw04.PairWorth': WHATEVER THE INPUT: true; the input reads as it did. -/
def pairWorthSpec : ChangeSpec := { name := "pairWorth", fn := fun _ => fun
  | [d1, d2] => { results := [.lit (.bool true)], args := [d1, d2] }
  | _ => none }
def pairWorthRow : OpenClaim := { program := "ytdpnplanohgecaadoor", sum := "d5958435149609cf65b9972d8c4f2e78cd5fe0f969e6ab44c45d51c18b42b4e1", func := "minikin/minikinlaw04.PairWorth", spec := "pairWorth", unfollowed := true, recurses := true, named := ["math/bits.deBruijn64tab"], plainKeys := false, apart := false, laid := [("math/bits.deBruijn64tab", laid_math_bits_deBruijn64tab)] }
def PairWorthSaid : Prop := pairWorthRow.holds Tryd.pinned (OpenSpec.ofChange pairWorthSpec)

/-- ITS FALSE NEIGHBOUR: 'it returns false'. Refute it at one input. -/
def pairWorthWrong : ChangeSpec := { name := "pairWorth", fn := fun _ => fun
  | [d1, d2] => { results := [.lit (.bool false)], args := [d1, d2] }
  | _ => none }
def PairWorthWrongFalsely : Prop := pairWorthRow.holds Tryd.pinned (OpenSpec.ofChange pairWorthWrong)

/-- 'minikinlaw04.PairDilworth': WHATEVER THE INPUT: true; the input reads as it did. -/
def pairDilworthSpec : ChangeSpec := { name := "pairDilworth", fn := fun _ => fun
  | [d1, d2] => { results := [.lit (.bool true)], args := [d1, d2] }
  | _ => none }
def pairDilworthRow : OpenClaim := { program := "ytdpnplanohgecaadoor", sum := "d5958435149609cf65b9972d8c4f2e78cd5fe0f969e6ab44c45d51c18b42b4e1", func := "minikin/minikinlaw04.PairDilworth", spec := "pairDilworth", unfollowed := true, recurses := true, named := ["math/bits.deBruijn64tab"], plainKeys := false, apart := false, laid := [("math/bits.deBruijn64tab", laid_math_bits_deBruijn64tab)] }
def PairDilworthSaid : Prop := pairDilworthRow.holds Tryd.pinned (OpenSpec.ofChange pairDilworthSpec)

/-- ITS FALSE NEIGHBOUR: 'it returns false'. Refute it at one input. -/
def pairDilworthWrong : ChangeSpec := { name := "pairDilworth", fn := fun _ => fun
  | [d1, d2] => { results := [.lit (.bool false)], args := [d1, d2] }
  | _ => none }
def PairDilworthWrongFalsely : Prop := pairDilworthRow.holds Tryd.pinned (OpenSpec.ofChange pairDilworthWrong)

/- THE SECOND FORM. 'bulk': how many values and letters a reading holds, each counted each time it is reached (what is shared counts as often as it is met; a slice's spare places count too). A statement '..UptoSaid' is the law's where the arguments, and the package variables that the reading takes, are together of bulk at most 1048576: NARROWER than '..Said'. Prove '..Said' where nothing that the law and all that it calls make is longer than what came in: it says more and counts as full. Else prove '..UptoSaid'. A law counts once. -/
mutual
def uptoBulk {H : Type} : DataW H → Nat
  | .lit (.string bytes) => bytes.length + 1
  | .lit _ => 1
  | .nil => 1
  | .ptr d => uptoBulk d + 1
  | .slice elems spare => uptoBulkAll elems + uptoBulkAll spare + 1
  | .agg parts => uptoBulkAll parts + 1
  | .iface _ d => uptoBulk d + 1
  | .map entries => uptoBulkEntries entries + 1
  | .held _ => 1
def uptoBulkAll {H : Type} : List (DataW H) → Nat
  | [] => 0
  | d :: r => uptoBulk d + uptoBulkAll r
def uptoBulkEntries {H : Type} : List (Lit × DataW H) → Nat
  | [] => 0
  | x :: r => uptoBulkEntry x + uptoBulkEntries r
def uptoBulkEntry {H : Type} : Lit × DataW H → Nat
  | (.string bytes, d) => bytes.length + uptoBulk d + 1
  | (_, d) => uptoBulk d + 1
 end
def uptoSmall : (H : Type) → List (DataW H) → Bool := fun _ ds => decide (uptoBulkAll ds ≤ 1048576)
def OpenSpec.upto (s : _root_.Go.ChangeSpec) : _root_.Go.OpenSpec := { _root_.Go.OpenSpec.ofChange s with cond := some uptoSmall }

/-- 'minikinlaw04.PairChecks', WHERE WHAT IT READS IS OF BULK AT MOST 1048576: true; the input reads as it did. -/
def pairChecksUptoRow : OpenClaim := { program := "ytdpnplanohgecaadoor", sum := "d5958435149609cf65b9972d8c4f2e78cd5fe0f969e6ab44c45d51c18b42b4e1", func := "minikin/minikinlaw04.PairChecks", spec := "pairChecks", unfollowed := true, recurses := true, named := ["math/bits.deBruijn64tab"], plainKeys := false, apart := false, laid := [("math/bits.deBruijn64tab", laid_math_bits_deBruijn64tab)], narrowed := true }
def PairChecksUptoSaid : Prop := pairChecksUptoRow.holds Tryd.pinned (OpenSpec.upto pairChecksSpec)

/-- 'minikinlaw04.PairMatches', WHERE WHAT IT READS IS OF BULK AT MOST 1048576: true; the input reads as it did. -/
def pairMatchesUptoRow : OpenClaim := { program := "ytdpnplanohgecaadoor", sum := "d5958435149609cf65b9972d8c4f2e78cd5fe0f969e6ab44c45d51c18b42b4e1", func := "minikin/minikinlaw04.PairMatches", spec := "pairMatches", unfollowed := true, recurses := true, named := ["math/bits.deBruijn64tab"], plainKeys := false, apart := false, laid := [("math/bits.deBruijn64tab", laid_math_bits_deBruijn64tab)], narrowed := true }
def PairMatchesUptoSaid : Prop := pairMatchesUptoRow.holds Tryd.pinned (OpenSpec.upto pairMatchesSpec)

/-- 'minikinlaw04.PairJudges', WHERE WHAT IT READS IS OF BULK AT MOST 1048576: true; the input reads as it did. -/
def pairJudgesUptoRow : OpenClaim := { program := "ytdpnplanohgecaadoor", sum := "d5958435149609cf65b9972d8c4f2e78cd5fe0f969e6ab44c45d51c18b42b4e1", func := "minikin/minikinlaw04.PairJudges", spec := "pairJudges", unfollowed := true, recurses := true, named := ["math/bits.deBruijn64tab"], plainKeys := false, apart := false, laid := [("math/bits.deBruijn64tab", laid_math_bits_deBruijn64tab)], narrowed := true }
def PairJudgesUptoSaid : Prop := pairJudgesUptoRow.holds Tryd.pinned (OpenSpec.upto pairJudgesSpec)

/-- 'minikinlaw04.PairAssigns', WHERE WHAT IT READS IS OF BULK AT MOST 1048576: true; the input reads as it did. -/
def pairAssignsUptoRow : OpenClaim := { program := "ytdpnplanohgecaadoor", sum := "d5958435149609cf65b9972d8c4f2e78cd5fe0f969e6ab44c45d51c18b42b4e1", func := "minikin/minikinlaw04.PairAssigns", spec := "pairAssigns", unfollowed := true, recurses := true, named := ["math/bits.deBruijn64tab"], plainKeys := false, apart := false, laid := [("math/bits.deBruijn64tab", laid_math_bits_deBruijn64tab)], narrowed := true }
def PairAssignsUptoSaid : Prop := pairAssignsUptoRow.holds Tryd.pinned (OpenSpec.upto pairAssignsSpec)

/-- 'minikinlaw04.PairPrices', WHERE WHAT IT READS IS OF BULK AT MOST 1048576: true; the input reads as it did. -/
def pairPricesUptoRow : OpenClaim := { program := "ytdpnplanohgecaadoor", sum := "d5958435149609cf65b9972d8c4f2e78cd5fe0f969e6ab44c45d51c18b42b4e1", func := "minikin/minikinlaw04.PairPrices", spec := "pairPrices", unfollowed := true, recurses := true, named := ["math/bits.deBruijn64tab"], plainKeys := false, apart := false, laid := [("math/bits.deBruijn64tab", laid_math_bits_deBruijn64tab)], narrowed := true }
def PairPricesUptoSaid : Prop := pairPricesUptoRow.holds Tryd.pinned (OpenSpec.upto pairPricesSpec)

/-- 'minikinlaw04.PairOrders', WHERE WHAT IT READS IS OF BULK AT MOST 1048576: true; the input reads as it did. -/
def pairOrdersUptoRow : OpenClaim := { program := "ytdpnplanohgecaadoor", sum := "d5958435149609cf65b9972d8c4f2e78cd5fe0f969e6ab44c45d51c18b42b4e1", func := "minikin/minikinlaw04.PairOrders", spec := "pairOrders", unfollowed := true, recurses := true, named := ["math/bits.deBruijn64tab"], plainKeys := false, apart := false, laid := [("math/bits.deBruijn64tab", laid_math_bits_deBruijn64tab)], narrowed := true }
def PairOrdersUptoSaid : Prop := pairOrdersUptoRow.holds Tryd.pinned (OpenSpec.upto pairOrdersSpec)

/-- 'minikinlaw04.PairBerge', WHERE WHAT IT READS IS OF BULK AT MOST 1048576: true; the input reads as it did. -/
def pairBergeUptoRow : OpenClaim := { program := "ytdpnplanohgecaadoor", sum := "d5958435149609cf65b9972d8c4f2e78cd5fe0f969e6ab44c45d51c18b42b4e1", func := "minikin/minikinlaw04.PairBerge", spec := "pairBerge", unfollowed := true, recurses := true, named := ["math/bits.deBruijn64tab"], plainKeys := false, apart := false, laid := [("math/bits.deBruijn64tab", laid_math_bits_deBruijn64tab)], narrowed := true }
def PairBergeUptoSaid : Prop := pairBergeUptoRow.holds Tryd.pinned (OpenSpec.upto pairBergeSpec)

/-- 'minikinlaw04.PairGallai', WHERE WHAT IT READS IS OF BULK AT MOST 1048576: true; the input reads as it did. -/
def pairGallaiUptoRow : OpenClaim := { program := "ytdpnplanohgecaadoor", sum := "d5958435149609cf65b9972d8c4f2e78cd5fe0f969e6ab44c45d51c18b42b4e1", func := "minikin/minikinlaw04.PairGallai", spec := "pairGallai", unfollowed := true, recurses := true, named := ["math/bits.deBruijn64tab"], plainKeys := false, apart := false, laid := [("math/bits.deBruijn64tab", laid_math_bits_deBruijn64tab)], narrowed := true }
def PairGallaiUptoSaid : Prop := pairGallaiUptoRow.holds Tryd.pinned (OpenSpec.upto pairGallaiSpec)

/-- 'minikinlaw04.PairWorth', WHERE WHAT IT READS IS OF BULK AT MOST 1048576: true; the input reads as it did. -/
def pairWorthUptoRow : OpenClaim := { program := "ytdpnplanohgecaadoor", sum := "d5958435149609cf65b9972d8c4f2e78cd5fe0f969e6ab44c45d51c18b42b4e1", func := "minikin/minikinlaw04.PairWorth", spec := "pairWorth", unfollowed := true, recurses := true, named := ["math/bits.deBruijn64tab"], plainKeys := false, apart := false, laid := [("math/bits.deBruijn64tab", laid_math_bits_deBruijn64tab)], narrowed := true }
def PairWorthUptoSaid : Prop := pairWorthUptoRow.holds Tryd.pinned (OpenSpec.upto pairWorthSpec)

/-- 'minikinlaw04.PairDilworth', WHERE WHAT IT READS IS OF BULK AT MOST 1048576: true; the input reads as it did. -/
def pairDilworthUptoRow : OpenClaim := { program := "ytdpnplanohgecaadoor", sum := "d5958435149609cf65b9972d8c4f2e78cd5fe0f969e6ab44c45d51c18b42b4e1", func := "minikin/minikinlaw04.PairDilworth", spec := "pairDilworth", unfollowed := true, recurses := true, named := ["math/bits.deBruijn64tab"], plainKeys := false, apart := false, laid := [("math/bits.deBruijn64tab", laid_math_bits_deBruijn64tab)], narrowed := true }
def PairDilworthUptoSaid : Prop := pairDilworthUptoRow.holds Tryd.pinned (OpenSpec.upto pairDilworthSpec)

end Rows
end Go.Proofs.YtdpnplanohgecaaDoor
