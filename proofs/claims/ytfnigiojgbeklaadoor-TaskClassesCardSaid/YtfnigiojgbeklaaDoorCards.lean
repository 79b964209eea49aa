/-
  DERIVED. GIVEN WITH THE SEED: THE CARDS: each row of YtfnigiojgbeklaaDoorRows.lean that lists a variable, with what it lists TIED to the program's text (the seventh form; the later family's looks); each row that meets fmt, with fmt's text TOLD by the authors' own Lean function (tested against real Go, not proved from fmt's source: count such statements apart). THE CARD IS WHAT COUNTS. Prove the row's statement (the work); the ties are given (YtfnigiojgbeklaaDoorTie.lean); close each card by the builder's one call (the guide's Derived/Test/ToyasCard.lean, 'card_holds'). Laid BY PROGRAM, IN A SANDBOX (cutbox-door.mjs). By AI agents, Wed Nov 11 2026. No macro, syntax, notation, axiom, sorry.
-/
import Derived.Test.YtfnigiojgbeklaaDoorRows
import GoSem.ClaimSeven
namespace Go.Proofs.YtfnigiojgbeklaaDoor
namespace Rows

/-- THE TIED CARD OF 'minikinlaw05.TaskClasses'. -/
def taskClassesCard : Claim7 := { stood := { row := taskClassesRow, standIns := [], harness := (true, "679e89b96e64c12b6d4cf8298ec92e839791a39e1cc5333cc44ffa75939c98be"), looks := true }, kinds := [], alts := [], laidByText := true, laidKinds := [.data], laidTests := true, laidLooks := .later }
def TaskClassesCardSaid : Prop := Claim7.holds Tryd.pinned (.plain (OpenSpec.ofChange taskClassesSpec)) taskClassesCard

/-- THE TIED CARD OF 'minikinlaw05.TaskParts'. -/
def taskPartsCard : Claim7 := { stood := { row := taskPartsRow, standIns := [], harness := (true, "679e89b96e64c12b6d4cf8298ec92e839791a39e1cc5333cc44ffa75939c98be"), looks := true }, kinds := [], alts := [], laidByText := true, laidKinds := [.data], laidTests := true, laidLooks := .later }
def TaskPartsCardSaid : Prop := Claim7.holds Tryd.pinned (.plain (OpenSpec.ofChange taskPartsSpec)) taskPartsCard

/-- THE TIED CARD OF 'minikinlaw05.TaskFormulas'. -/
def taskFormulasCard : Claim7 := { stood := { row := taskFormulasRow, standIns := [], harness := (true, "679e89b96e64c12b6d4cf8298ec92e839791a39e1cc5333cc44ffa75939c98be"), looks := true }, kinds := [], alts := [], laidByText := true, laidKinds := [.data], laidTests := true, laidLooks := .later }
def TaskFormulasCardSaid : Prop := Claim7.holds Tryd.pinned (.plain (OpenSpec.ofChange taskFormulasSpec)) taskFormulasCard

/-- THE TIED CARD OF 'minikinlaw05.TaskLikeness'. -/
def taskLikenessCard : Claim7 := { stood := { row := taskLikenessRow, standIns := [], harness := (true, "679e89b96e64c12b6d4cf8298ec92e839791a39e1cc5333cc44ffa75939c98be"), looks := true }, kinds := [], alts := [], laidByText := true, laidKinds := [.data], laidTests := true, laidLooks := .later }
def TaskLikenessCardSaid : Prop := Claim7.holds Tryd.pinned (.plain (OpenSpec.ofChange taskLikenessSpec)) taskLikenessCard

/-- THE TIED CARD OF 'minikinlaw05.TaskWays'. -/
def taskWaysCard : Claim7 := { stood := { row := taskWaysRow, standIns := [], harness := (true, "679e89b96e64c12b6d4cf8298ec92e839791a39e1cc5333cc44ffa75939c98be"), looks := true }, kinds := [], alts := [], laidByText := true, laidKinds := [.data], laidTests := true, laidLooks := .later }
def TaskWaysCardSaid : Prop := Claim7.holds Tryd.pinned (.plain (OpenSpec.ofChange taskWaysSpec)) taskWaysCard

/-- THE TIED CARD OF 'minikinlaw05.TaskMilner'. -/
def taskMilnerCard : Claim7 := { stood := { row := taskMilnerRow, standIns := [], harness := (true, "679e89b96e64c12b6d4cf8298ec92e839791a39e1cc5333cc44ffa75939c98be"), looks := true }, kinds := [], alts := [], laidByText := true, laidKinds := [.data], laidTests := true, laidLooks := .later }
def TaskMilnerCardSaid : Prop := Claim7.holds Tryd.pinned (.plain (OpenSpec.ofChange taskMilnerSpec)) taskMilnerCard

/-- THE TIED CARD OF 'minikinlaw05.TaskCoarser'. -/
def taskCoarserCard : Claim7 := { stood := { row := taskCoarserRow, standIns := [], harness := (true, "679e89b96e64c12b6d4cf8298ec92e839791a39e1cc5333cc44ffa75939c98be"), looks := true }, kinds := [], alts := [], laidByText := true, laidKinds := [.data], laidTests := true, laidLooks := .later }
def TaskCoarserCardSaid : Prop := Claim7.holds Tryd.pinned (.plain (OpenSpec.ofChange taskCoarserSpec)) taskCoarserCard

/-- THE SECOND FORM's CARD OF 'minikinlaw05.TaskClasses'. -/
def taskClassesUptoCard : Claim7 := { stood := { row := taskClassesUptoRow, standIns := [], harness := (true, "679e89b96e64c12b6d4cf8298ec92e839791a39e1cc5333cc44ffa75939c98be"), looks := true }, kinds := [], alts := [], laidByText := true, laidKinds := [.data], laidTests := true, laidLooks := .later }
def TaskClassesUptoCardSaid : Prop := Claim7.holds Tryd.pinned (.plain (OpenSpec.upto taskClassesSpec)) taskClassesUptoCard

/-- THE SECOND FORM's CARD OF 'minikinlaw05.TaskParts'. -/
def taskPartsUptoCard : Claim7 := { stood := { row := taskPartsUptoRow, standIns := [], harness := (true, "679e89b96e64c12b6d4cf8298ec92e839791a39e1cc5333cc44ffa75939c98be"), looks := true }, kinds := [], alts := [], laidByText := true, laidKinds := [.data], laidTests := true, laidLooks := .later }
def TaskPartsUptoCardSaid : Prop := Claim7.holds Tryd.pinned (.plain (OpenSpec.upto taskPartsSpec)) taskPartsUptoCard

/-- THE SECOND FORM's CARD OF 'minikinlaw05.TaskFormulas'. -/
def taskFormulasUptoCard : Claim7 := { stood := { row := taskFormulasUptoRow, standIns := [], harness := (true, "679e89b96e64c12b6d4cf8298ec92e839791a39e1cc5333cc44ffa75939c98be"), looks := true }, kinds := [], alts := [], laidByText := true, laidKinds := [.data], laidTests := true, laidLooks := .later }
def TaskFormulasUptoCardSaid : Prop := Claim7.holds Tryd.pinned (.plain (OpenSpec.upto taskFormulasSpec)) taskFormulasUptoCard

/-- THE SECOND FORM's CARD OF 'minikinlaw05.TaskLikeness'. -/
def taskLikenessUptoCard : Claim7 := { stood := { row := taskLikenessUptoRow, standIns := [], harness := (true, "679e89b96e64c12b6d4cf8298ec92e839791a39e1cc5333cc44ffa75939c98be"), looks := true }, kinds := [], alts := [], laidByText := true, laidKinds := [.data], laidTests := true, laidLooks := .later }
def TaskLikenessUptoCardSaid : Prop := Claim7.holds Tryd.pinned (.plain (OpenSpec.upto taskLikenessSpec)) taskLikenessUptoCard

/-- THE SECOND FORM's CARD OF 'minikinlaw05.TaskWays'. -/
def taskWaysUptoCard : Claim7 := { stood := { row := taskWaysUptoRow, standIns := [], harness := (true, "679e89b96e64c12b6d4cf8298ec92e839791a39e1cc5333cc44ffa75939c98be"), looks := true }, kinds := [], alts := [], laidByText := true, laidKinds := [.data], laidTests := true, laidLooks := .later }
def TaskWaysUptoCardSaid : Prop := Claim7.holds Tryd.pinned (.plain (OpenSpec.upto taskWaysSpec)) taskWaysUptoCard

/-- THE SECOND FORM's CARD OF 'minikinlaw05.TaskMilner'. -/
def taskMilnerUptoCard : Claim7 := { stood := { row := taskMilnerUptoRow, standIns := [], harness := (true, "679e89b96e64c12b6d4cf8298ec92e839791a39e1cc5333cc44ffa75939c98be"), looks := true }, kinds := [], alts := [], laidByText := true, laidKinds := [.data], laidTests := true, laidLooks := .later }
def TaskMilnerUptoCardSaid : Prop := Claim7.holds Tryd.pinned (.plain (OpenSpec.upto taskMilnerSpec)) taskMilnerUptoCard

/-- THE SECOND FORM's CARD OF 'minikinlaw05.TaskCoarser'. -/
def taskCoarserUptoCard : Claim7 := { stood := { row := taskCoarserUptoRow, standIns := [], harness := (true, "679e89b96e64c12b6d4cf8298ec92e839791a39e1cc5333cc44ffa75939c98be"), looks := true }, kinds := [], alts := [], laidByText := true, laidKinds := [.data], laidTests := true, laidLooks := .later }
def TaskCoarserUptoCardSaid : Prop := Claim7.holds Tryd.pinned (.plain (OpenSpec.upto taskCoarserSpec)) taskCoarserUptoCard
end Rows
end Go.Proofs.YtfnigiojgbeklaaDoor
