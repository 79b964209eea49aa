/-
  DERIVED. GIVEN WITH THE SEED: THE CARDS: each row of YtkgfjfkgmpeobaaDoorRows.lean that lists a variable, with what it lists TIED to the program's text (the seventh form; the later family's looks); each row that meets fmt, with fmt's text TOLD by the authors' own Lean function (tested against real Go, not proved from fmt's source: count such statements apart). THE CARD IS WHAT COUNTS. Prove the row's statement (the work); the ties are given (YtkgfjfkgmpeobaaDoorTie.lean); close each card by the builder's one call (the guide's Derived/Test/ToyasCard.lean, 'card_holds'). Laid BY PROGRAM, IN A SANDBOX (cutbox-door.mjs). By AI agents, Wed Nov 11 2026. No macro, syntax, notation, axiom, sorry.
-/
import Derived.Test.YtkgfjfkgmpeobaaDoorRows
import GoSem.ClaimSeven
namespace Go.Proofs.YtkgfjfkgmpeobaaDoor
namespace Rows

/-- THE TIED CARD OF 'minikinlaw03.FlowChecks'. -/
def flowChecksCard : Claim7 := { stood := { row := flowChecksRow, standIns := [], harness := (true, "7033ce403e1db594bc714a3131189a54cf7b54a6e86c250f090f5b6c5a7a696c"), looks := false }, kinds := [], alts := [], laidByText := true, laidKinds := [.data], laidTests := true, laidLooks := .later }
def FlowChecksCardSaid : Prop := Claim7.holds Tryd.pinned (.plain (OpenSpec.ofChange flowChecksSpec)) flowChecksCard

/-- THE TIED CARD OF 'minikinlaw03.FlowMost'. -/
def flowMostCard : Claim7 := { stood := { row := flowMostRow, standIns := [], harness := (true, "7033ce403e1db594bc714a3131189a54cf7b54a6e86c250f090f5b6c5a7a696c"), looks := false }, kinds := [], alts := [], laidByText := true, laidKinds := [.data], laidTests := true, laidLooks := .later }
def FlowMostCardSaid : Prop := Claim7.holds Tryd.pinned (.plain (OpenSpec.ofChange flowMostSpec)) flowMostCard

/-- THE TIED CARD OF 'minikinlaw03.FlowJudges'. -/
def flowJudgesCard : Claim7 := { stood := { row := flowJudgesRow, standIns := [], harness := (true, "7033ce403e1db594bc714a3131189a54cf7b54a6e86c250f090f5b6c5a7a696c"), looks := false }, kinds := [], alts := [], laidByText := true, laidKinds := [.data], laidTests := true, laidLooks := .later }
def FlowJudgesCardSaid : Prop := Claim7.holds Tryd.pinned (.plain (OpenSpec.ofChange flowJudgesSpec)) flowJudgesCard

/-- THE TIED CARD OF 'minikinlaw03.FlowApart'. -/
def flowApartCard : Claim7 := { stood := { row := flowApartRow, standIns := [], harness := (true, "7033ce403e1db594bc714a3131189a54cf7b54a6e86c250f090f5b6c5a7a696c"), looks := false }, kinds := [], alts := [], laidByText := true, laidKinds := [.data], laidTests := true, laidLooks := .later }
def FlowApartCardSaid : Prop := Claim7.holds Tryd.pinned (.plain (OpenSpec.ofChange flowApartSpec)) flowApartCard

/-- THE TIED CARD OF 'minikinlaw03.FlowTrees'. -/
def flowTreesCard : Claim7 := { stood := { row := flowTreesRow, standIns := [], harness := (true, "7033ce403e1db594bc714a3131189a54cf7b54a6e86c250f090f5b6c5a7a696c"), looks := false }, kinds := [], alts := [], laidByText := true, laidKinds := [.data], laidTests := true, laidLooks := .later }
def FlowTreesCardSaid : Prop := Claim7.holds Tryd.pinned (.plain (OpenSpec.ofChange flowTreesSpec)) flowTreesCard

/-- THE TIED CARD OF 'minikinlaw03.FlowBranches'. -/
def flowBranchesCard : Claim7 := { stood := { row := flowBranchesRow, standIns := [], harness := (true, "7033ce403e1db594bc714a3131189a54cf7b54a6e86c250f090f5b6c5a7a696c"), looks := false }, kinds := [], alts := [], laidByText := true, laidKinds := [.data], laidTests := true, laidLooks := .later }
def FlowBranchesCardSaid : Prop := Claim7.holds Tryd.pinned (.plain (OpenSpec.ofChange flowBranchesSpec)) flowBranchesCard

/-- THE TIED CARD OF 'minikinlaw03.FlowEither'. -/
def flowEitherCard : Claim7 := { stood := { row := flowEitherRow, standIns := [], harness := (true, "7033ce403e1db594bc714a3131189a54cf7b54a6e86c250f090f5b6c5a7a696c"), looks := false }, kinds := [], alts := [], laidByText := true, laidKinds := [.data], laidTests := true, laidLooks := .later }
def FlowEitherCardSaid : Prop := Claim7.holds Tryd.pinned (.plain (OpenSpec.ofChange flowEitherSpec)) flowEitherCard

/-- THE TIED CARD OF 'minikinlaw03.FlowPairs'. -/
def flowPairsCard : Claim7 := { stood := { row := flowPairsRow, standIns := [], harness := (true, "7033ce403e1db594bc714a3131189a54cf7b54a6e86c250f090f5b6c5a7a696c"), looks := false }, kinds := [], alts := [], laidByText := true, laidKinds := [.data], laidTests := true, laidLooks := .later }
def FlowPairsCardSaid : Prop := Claim7.holds Tryd.pinned (.plain (OpenSpec.ofChange flowPairsSpec)) flowPairsCard

/-- THE TIED CARD OF 'minikinlaw03.FlowSums'. -/
def flowSumsCard : Claim7 := { stood := { row := flowSumsRow, standIns := [], harness := (true, "7033ce403e1db594bc714a3131189a54cf7b54a6e86c250f090f5b6c5a7a696c"), looks := false }, kinds := [], alts := [], laidByText := true, laidKinds := [.data], laidTests := true, laidLooks := .later }
def FlowSumsCardSaid : Prop := Claim7.holds Tryd.pinned (.plain (OpenSpec.ofChange flowSumsSpec)) flowSumsCard

/-- THE SECOND FORM's CARD OF 'minikinlaw03.FlowChecks'. -/
def flowChecksUptoCard : Claim7 := { stood := { row := flowChecksUptoRow, standIns := [], harness := (true, "7033ce403e1db594bc714a3131189a54cf7b54a6e86c250f090f5b6c5a7a696c"), looks := false }, kinds := [], alts := [], laidByText := true, laidKinds := [.data], laidTests := true, laidLooks := .later }
def FlowChecksUptoCardSaid : Prop := Claim7.holds Tryd.pinned (.plain (OpenSpec.upto flowChecksSpec)) flowChecksUptoCard

/-- THE SECOND FORM's CARD OF 'minikinlaw03.FlowMost'. -/
def flowMostUptoCard : Claim7 := { stood := { row := flowMostUptoRow, standIns := [], harness := (true, "7033ce403e1db594bc714a3131189a54cf7b54a6e86c250f090f5b6c5a7a696c"), looks := false }, kinds := [], alts := [], laidByText := true, laidKinds := [.data], laidTests := true, laidLooks := .later }
def FlowMostUptoCardSaid : Prop := Claim7.holds Tryd.pinned (.plain (OpenSpec.upto flowMostSpec)) flowMostUptoCard

/-- THE SECOND FORM's CARD OF 'minikinlaw03.FlowJudges'. -/
def flowJudgesUptoCard : Claim7 := { stood := { row := flowJudgesUptoRow, standIns := [], harness := (true, "7033ce403e1db594bc714a3131189a54cf7b54a6e86c250f090f5b6c5a7a696c"), looks := false }, kinds := [], alts := [], laidByText := true, laidKinds := [.data], laidTests := true, laidLooks := .later }
def FlowJudgesUptoCardSaid : Prop := Claim7.holds Tryd.pinned (.plain (OpenSpec.upto flowJudgesSpec)) flowJudgesUptoCard

/-- THE SECOND FORM's CARD OF 'minikinlaw03.FlowApart'. -/
def flowApartUptoCard : Claim7 := { stood := { row := flowApartUptoRow, standIns := [], harness := (true, "7033ce403e1db594bc714a3131189a54cf7b54a6e86c250f090f5b6c5a7a696c"), looks := false }, kinds := [], alts := [], laidByText := true, laidKinds := [.data], laidTests := true, laidLooks := .later }
def FlowApartUptoCardSaid : Prop := Claim7.holds Tryd.pinned (.plain (OpenSpec.upto flowApartSpec)) flowApartUptoCard

/-- THE SECOND FORM's CARD OF 'minikinlaw03.FlowTrees'. -/
def flowTreesUptoCard : Claim7 := { stood := { row := flowTreesUptoRow, standIns := [], harness := (true, "7033ce403e1db594bc714a3131189a54cf7b54a6e86c250f090f5b6c5a7a696c"), looks := false }, kinds := [], alts := [], laidByText := true, laidKinds := [.data], laidTests := true, laidLooks := .later }
def FlowTreesUptoCardSaid : Prop := Claim7.holds Tryd.pinned (.plain (OpenSpec.upto flowTreesSpec)) flowTreesUptoCard

/-- THE SECOND FORM's CARD OF 'minikinlaw03.FlowBranches'. -/
def flowBranchesUptoCard : Claim7 := { stood := { row := flowBranchesUptoRow, standIns := [], harness := (true, "7033ce403e1db594bc714a3131189a54cf7b54a6e86c250f090f5b6c5a7a696c"), looks := false }, kinds := [], alts := [], laidByText := true, laidKinds := [.data], laidTests := true, laidLooks := .later }
def FlowBranchesUptoCardSaid : Prop := Claim7.holds Tryd.pinned (.plain (OpenSpec.upto flowBranchesSpec)) flowBranchesUptoCard

/-- THE SECOND FORM's CARD OF 'minikinlaw03.FlowEither'. -/
def flowEitherUptoCard : Claim7 := { stood := { row := flowEitherUptoRow, standIns := [], harness := (true, "7033ce403e1db594bc714a3131189a54cf7b54a6e86c250f090f5b6c5a7a696c"), looks := false }, kinds := [], alts := [], laidByText := true, laidKinds := [.data], laidTests := true, laidLooks := .later }
def FlowEitherUptoCardSaid : Prop := Claim7.holds Tryd.pinned (.plain (OpenSpec.upto flowEitherSpec)) flowEitherUptoCard

/-- THE SECOND FORM's CARD OF 'minikinlaw03.FlowPairs'. -/
def flowPairsUptoCard : Claim7 := { stood := { row := flowPairsUptoRow, standIns := [], harness := (true, "7033ce403e1db594bc714a3131189a54cf7b54a6e86c250f090f5b6c5a7a696c"), looks := false }, kinds := [], alts := [], laidByText := true, laidKinds := [.data], laidTests := true, laidLooks := .later }
def FlowPairsUptoCardSaid : Prop := Claim7.holds Tryd.pinned (.plain (OpenSpec.upto flowPairsSpec)) flowPairsUptoCard

/-- THE SECOND FORM's CARD OF 'minikinlaw03.FlowSums'. -/
def flowSumsUptoCard : Claim7 := { stood := { row := flowSumsUptoRow, standIns := [], harness := (true, "7033ce403e1db594bc714a3131189a54cf7b54a6e86c250f090f5b6c5a7a696c"), looks := false }, kinds := [], alts := [], laidByText := true, laidKinds := [.data], laidTests := true, laidLooks := .later }
def FlowSumsUptoCardSaid : Prop := Claim7.holds Tryd.pinned (.plain (OpenSpec.upto flowSumsSpec)) flowSumsUptoCard
end Rows
end Go.Proofs.YtkgfjfkgmpeobaaDoor
