/-
  DERIVED. GIVEN WITH THE SEED: THE CARDS: each row of YtdpnplanohgecaaDoorRows.lean that lists a variable, with what it lists TIED to the program's text (the seventh form; the later family's looks); each row that meets fmt, with fmt's text TOLD by the authors' own Lean function (tested against real Go, not proved from fmt's source: count such statements apart). THE CARD IS WHAT COUNTS. Prove the row's statement (the work); the ties are given (YtdpnplanohgecaaDoorTie.lean); close each card by the builder's one call (the guide's Derived/Test/ToyasCard.lean, 'card_holds'). Laid BY PROGRAM, IN A SANDBOX (cutbox-door.mjs). By AI agents, Wed Nov 11 2026. No macro, syntax, notation, axiom, sorry.
-/
import Derived.Test.YtdpnplanohgecaaDoorRows
import GoSem.ClaimSeven
namespace Go.Proofs.YtdpnplanohgecaaDoor
namespace Rows

/-- THE TIED CARD OF 'minikinlaw04.PairChecks'. -/
def pairChecksCard : Claim7 := { stood := { row := pairChecksRow, standIns := [], harness := (true, "7f6964510d47deaea9a1009d04b6850565883c9b4f56f6d462bfa309cf94d134"), looks := false }, kinds := [], alts := [], laidByText := true, laidKinds := [.data], laidTests := true, laidLooks := .later }
def PairChecksCardSaid : Prop := Claim7.holds Tryd.pinned (.plain (OpenSpec.ofChange pairChecksSpec)) pairChecksCard

/-- THE TIED CARD OF 'minikinlaw04.PairMatches'. -/
def pairMatchesCard : Claim7 := { stood := { row := pairMatchesRow, standIns := [], harness := (true, "7f6964510d47deaea9a1009d04b6850565883c9b4f56f6d462bfa309cf94d134"), looks := false }, kinds := [], alts := [], laidByText := true, laidKinds := [.data], laidTests := true, laidLooks := .later }
def PairMatchesCardSaid : Prop := Claim7.holds Tryd.pinned (.plain (OpenSpec.ofChange pairMatchesSpec)) pairMatchesCard

/-- THE TIED CARD OF 'minikinlaw04.PairJudges'. -/
def pairJudgesCard : Claim7 := { stood := { row := pairJudgesRow, standIns := [], harness := (true, "7f6964510d47deaea9a1009d04b6850565883c9b4f56f6d462bfa309cf94d134"), looks := false }, kinds := [], alts := [], laidByText := true, laidKinds := [.data], laidTests := true, laidLooks := .later }
def PairJudgesCardSaid : Prop := Claim7.holds Tryd.pinned (.plain (OpenSpec.ofChange pairJudgesSpec)) pairJudgesCard

/-- THE TIED CARD OF 'minikinlaw04.PairAssigns'. -/
def pairAssignsCard : Claim7 := { stood := { row := pairAssignsRow, standIns := [], harness := (true, "7f6964510d47deaea9a1009d04b6850565883c9b4f56f6d462bfa309cf94d134"), looks := false }, kinds := [], alts := [], laidByText := true, laidKinds := [.data], laidTests := true, laidLooks := .later }
def PairAssignsCardSaid : Prop := Claim7.holds Tryd.pinned (.plain (OpenSpec.ofChange pairAssignsSpec)) pairAssignsCard

/-- THE TIED CARD OF 'minikinlaw04.PairPrices'. -/
def pairPricesCard : Claim7 := { stood := { row := pairPricesRow, standIns := [], harness := (true, "7f6964510d47deaea9a1009d04b6850565883c9b4f56f6d462bfa309cf94d134"), looks := false }, kinds := [], alts := [], laidByText := true, laidKinds := [.data], laidTests := true, laidLooks := .later }
def PairPricesCardSaid : Prop := Claim7.holds Tryd.pinned (.plain (OpenSpec.ofChange pairPricesSpec)) pairPricesCard

/-- THE TIED CARD OF 'minikinlaw04.PairOrders'. -/
def pairOrdersCard : Claim7 := { stood := { row := pairOrdersRow, standIns := [], harness := (true, "7f6964510d47deaea9a1009d04b6850565883c9b4f56f6d462bfa309cf94d134"), looks := false }, kinds := [], alts := [], laidByText := true, laidKinds := [.data], laidTests := true, laidLooks := .later }
def PairOrdersCardSaid : Prop := Claim7.holds Tryd.pinned (.plain (OpenSpec.ofChange pairOrdersSpec)) pairOrdersCard

/-- THE TIED CARD OF 'minikinlaw04.PairBerge'. -/
def pairBergeCard : Claim7 := { stood := { row := pairBergeRow, standIns := [], harness := (true, "7f6964510d47deaea9a1009d04b6850565883c9b4f56f6d462bfa309cf94d134"), looks := false }, kinds := [], alts := [], laidByText := true, laidKinds := [.data], laidTests := true, laidLooks := .later }
def PairBergeCardSaid : Prop := Claim7.holds Tryd.pinned (.plain (OpenSpec.ofChange pairBergeSpec)) pairBergeCard

/-- THE TIED CARD OF 'minikinlaw04.PairGallai'. -/
def pairGallaiCard : Claim7 := { stood := { row := pairGallaiRow, standIns := [], harness := (true, "7f6964510d47deaea9a1009d04b6850565883c9b4f56f6d462bfa309cf94d134"), looks := false }, kinds := [], alts := [], laidByText := true, laidKinds := [.data], laidTests := true, laidLooks := .later }
def PairGallaiCardSaid : Prop := Claim7.holds Tryd.pinned (.plain (OpenSpec.ofChange pairGallaiSpec)) pairGallaiCard

/-- THE TIED CARD OF 'minikinlaw04.PairWorth'. -/
def pairWorthCard : Claim7 := { stood := { row := pairWorthRow, standIns := [], harness := (true, "7f6964510d47deaea9a1009d04b6850565883c9b4f56f6d462bfa309cf94d134"), looks := false }, kinds := [], alts := [], laidByText := true, laidKinds := [.data], laidTests := true, laidLooks := .later }
def PairWorthCardSaid : Prop := Claim7.holds Tryd.pinned (.plain (OpenSpec.ofChange pairWorthSpec)) pairWorthCard

/-- THE TIED CARD OF 'minikinlaw04.PairDilworth'. -/
def pairDilworthCard : Claim7 := { stood := { row := pairDilworthRow, standIns := [], harness := (true, "7f6964510d47deaea9a1009d04b6850565883c9b4f56f6d462bfa309cf94d134"), looks := false }, kinds := [], alts := [], laidByText := true, laidKinds := [.data], laidTests := true, laidLooks := .later }
def PairDilworthCardSaid : Prop := Claim7.holds Tryd.pinned (.plain (OpenSpec.ofChange pairDilworthSpec)) pairDilworthCard

/-- THE SECOND FORM's CARD OF 'minikinlaw04.PairChecks'. -/
def pairChecksUptoCard : Claim7 := { stood := { row := pairChecksUptoRow, standIns := [], harness := (true, "7f6964510d47deaea9a1009d04b6850565883c9b4f56f6d462bfa309cf94d134"), looks := false }, kinds := [], alts := [], laidByText := true, laidKinds := [.data], laidTests := true, laidLooks := .later }
def PairChecksUptoCardSaid : Prop := Claim7.holds Tryd.pinned (.plain (OpenSpec.upto pairChecksSpec)) pairChecksUptoCard

/-- THE SECOND FORM's CARD OF 'minikinlaw04.PairMatches'. -/
def pairMatchesUptoCard : Claim7 := { stood := { row := pairMatchesUptoRow, standIns := [], harness := (true, "7f6964510d47deaea9a1009d04b6850565883c9b4f56f6d462bfa309cf94d134"), looks := false }, kinds := [], alts := [], laidByText := true, laidKinds := [.data], laidTests := true, laidLooks := .later }
def PairMatchesUptoCardSaid : Prop := Claim7.holds Tryd.pinned (.plain (OpenSpec.upto pairMatchesSpec)) pairMatchesUptoCard

/-- THE SECOND FORM's CARD OF 'minikinlaw04.PairJudges'. -/
def pairJudgesUptoCard : Claim7 := { stood := { row := pairJudgesUptoRow, standIns := [], harness := (true, "7f6964510d47deaea9a1009d04b6850565883c9b4f56f6d462bfa309cf94d134"), looks := false }, kinds := [], alts := [], laidByText := true, laidKinds := [.data], laidTests := true, laidLooks := .later }
def PairJudgesUptoCardSaid : Prop := Claim7.holds Tryd.pinned (.plain (OpenSpec.upto pairJudgesSpec)) pairJudgesUptoCard

/-- THE SECOND FORM's CARD OF 'minikinlaw04.PairAssigns'. -/
def pairAssignsUptoCard : Claim7 := { stood := { row := pairAssignsUptoRow, standIns := [], harness := (true, "7f6964510d47deaea9a1009d04b6850565883c9b4f56f6d462bfa309cf94d134"), looks := false }, kinds := [], alts := [], laidByText := true, laidKinds := [.data], laidTests := true, laidLooks := .later }
def PairAssignsUptoCardSaid : Prop := Claim7.holds Tryd.pinned (.plain (OpenSpec.upto pairAssignsSpec)) pairAssignsUptoCard

/-- THE SECOND FORM's CARD OF 'minikinlaw04.PairPrices'. -/
def pairPricesUptoCard : Claim7 := { stood := { row := pairPricesUptoRow, standIns := [], harness := (true, "7f6964510d47deaea9a1009d04b6850565883c9b4f56f6d462bfa309cf94d134"), looks := false }, kinds := [], alts := [], laidByText := true, laidKinds := [.data], laidTests := true, laidLooks := .later }
def PairPricesUptoCardSaid : Prop := Claim7.holds Tryd.pinned (.plain (OpenSpec.upto pairPricesSpec)) pairPricesUptoCard

/-- THE SECOND FORM's CARD OF 'minikinlaw04.PairOrders'. -/
def pairOrdersUptoCard : Claim7 := { stood := { row := pairOrdersUptoRow, standIns := [], harness := (true, "7f6964510d47deaea9a1009d04b6850565883c9b4f56f6d462bfa309cf94d134"), looks := false }, kinds := [], alts := [], laidByText := true, laidKinds := [.data], laidTests := true, laidLooks := .later }
def PairOrdersUptoCardSaid : Prop := Claim7.holds Tryd.pinned (.plain (OpenSpec.upto pairOrdersSpec)) pairOrdersUptoCard

/-- THE SECOND FORM's CARD OF 'minikinlaw04.PairBerge'. -/
def pairBergeUptoCard : Claim7 := { stood := { row := pairBergeUptoRow, standIns := [], harness := (true, "7f6964510d47deaea9a1009d04b6850565883c9b4f56f6d462bfa309cf94d134"), looks := false }, kinds := [], alts := [], laidByText := true, laidKinds := [.data], laidTests := true, laidLooks := .later }
def PairBergeUptoCardSaid : Prop := Claim7.holds Tryd.pinned (.plain (OpenSpec.upto pairBergeSpec)) pairBergeUptoCard

/-- THE SECOND FORM's CARD OF 'minikinlaw04.PairGallai'. -/
def pairGallaiUptoCard : Claim7 := { stood := { row := pairGallaiUptoRow, standIns := [], harness := (true, "7f6964510d47deaea9a1009d04b6850565883c9b4f56f6d462bfa309cf94d134"), looks := false }, kinds := [], alts := [], laidByText := true, laidKinds := [.data], laidTests := true, laidLooks := .later }
def PairGallaiUptoCardSaid : Prop := Claim7.holds Tryd.pinned (.plain (OpenSpec.upto pairGallaiSpec)) pairGallaiUptoCard

/-- THE SECOND FORM's CARD OF 'minikinlaw04.PairWorth'. -/
def pairWorthUptoCard : Claim7 := { stood := { row := pairWorthUptoRow, standIns := [], harness := (true, "7f6964510d47deaea9a1009d04b6850565883c9b4f56f6d462bfa309cf94d134"), looks := false }, kinds := [], alts := [], laidByText := true, laidKinds := [.data], laidTests := true, laidLooks := .later }
def PairWorthUptoCardSaid : Prop := Claim7.holds Tryd.pinned (.plain (OpenSpec.upto pairWorthSpec)) pairWorthUptoCard

/-- THE SECOND FORM's CARD OF 'minikinlaw04.PairDilworth'. -/
def pairDilworthUptoCard : Claim7 := { stood := { row := pairDilworthUptoRow, standIns := [], harness := (true, "7f6964510d47deaea9a1009d04b6850565883c9b4f56f6d462bfa309cf94d134"), looks := false }, kinds := [], alts := [], laidByText := true, laidKinds := [.data], laidTests := true, laidLooks := .later }
def PairDilworthUptoCardSaid : Prop := Claim7.holds Tryd.pinned (.plain (OpenSpec.upto pairDilworthSpec)) pairDilworthUptoCard
end Rows
end Go.Proofs.YtdpnplanohgecaaDoor
