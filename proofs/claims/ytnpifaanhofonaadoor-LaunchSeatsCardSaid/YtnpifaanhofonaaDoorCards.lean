/-
  DERIVED. GIVEN WITH THE SEED: THE CARDS: each row of YtnpifaanhofonaaDoorRows.lean that lists a variable, with what it lists TIED to the program's text (the seventh form; the later family's looks); each row that meets fmt, with fmt's text TOLD by the authors' own Lean function (tested against real Go, not proved from fmt's source: count such statements apart). THE CARD IS WHAT COUNTS. Prove the row's statement (the work); the ties are given (YtnpifaanhofonaaDoorTie.lean); close each card by the builder's one call (the guide's Derived/Test/ToyasCard.lean, 'card_holds'). Laid BY PROGRAM, IN A SANDBOX (cutbox-door.mjs). By AI agents, Wed Nov 11 2026. No macro, syntax, notation, axiom, sorry.
-/
import Derived.Test.YtnpifaanhofonaaDoorRows
import GoSem.ClaimSeven
namespace Go.Proofs.YtnpifaanhofonaaDoor
namespace Rows

/-- THE TIED CARD OF 'coblelaw05.LaunchBoards'. -/
def launchBoardsCard : Claim7 := { stood := { row := launchBoardsRow, standIns := [], harness := (true, "1dabf2a32281cfa0d97019fc5398d72ba729498522dad79a140939c24eb4b0bf"), looks := false }, kinds := [], alts := [], laidByText := true, laidKinds := [.data], laidTests := true, laidLooks := .later }
def LaunchBoardsCardSaid : Prop := Claim7.holds Tryd.pinned (.plain (OpenSpec.ofChange launchBoardsSpec)) launchBoardsCard

/-- THE TIED CARD OF 'coblelaw05.LaunchEasier'. -/
def launchEasierCard : Claim7 := { stood := { row := launchEasierRow, standIns := [], harness := (true, "1dabf2a32281cfa0d97019fc5398d72ba729498522dad79a140939c24eb4b0bf"), looks := false }, kinds := [], alts := [], laidByText := true, laidKinds := [.data], laidTests := true, laidLooks := .later }
def LaunchEasierCardSaid : Prop := Claim7.holds Tryd.pinned (.plain (OpenSpec.ofChange launchEasierSpec)) launchEasierCard

/-- THE TIED CARD OF 'coblelaw05.LaunchReaches'. -/
def launchReachesCard : Claim7 := { stood := { row := launchReachesRow, standIns := [], harness := (true, "1dabf2a32281cfa0d97019fc5398d72ba729498522dad79a140939c24eb4b0bf"), looks := false }, kinds := [], alts := [], laidByText := true, laidKinds := [.data], laidTests := true, laidLooks := .later }
def LaunchReachesCardSaid : Prop := Claim7.holds Tryd.pinned (.plain (OpenSpec.ofChange launchReachesSpec)) launchReachesCard

/-- THE TIED CARD OF 'coblelaw05.LaunchSeats'. -/
def launchSeatsCard : Claim7 := { stood := { row := launchSeatsRow, standIns := [], harness := (true, "1dabf2a32281cfa0d97019fc5398d72ba729498522dad79a140939c24eb4b0bf"), looks := false }, kinds := [], alts := [], laidByText := true, laidKinds := [.data], laidTests := true, laidLooks := .later }
def LaunchSeatsCardSaid : Prop := Claim7.holds Tryd.pinned (.plain (OpenSpec.ofChange launchSeatsSpec)) launchSeatsCard

/-- THE SECOND FORM's CARD OF 'coblelaw05.LaunchBoards'. -/
def launchBoardsUptoCard : Claim7 := { stood := { row := launchBoardsUptoRow, standIns := [], harness := (true, "1dabf2a32281cfa0d97019fc5398d72ba729498522dad79a140939c24eb4b0bf"), looks := false }, kinds := [], alts := [], laidByText := true, laidKinds := [.data], laidTests := true, laidLooks := .later }
def LaunchBoardsUptoCardSaid : Prop := Claim7.holds Tryd.pinned (.plain (OpenSpec.upto launchBoardsSpec)) launchBoardsUptoCard

/-- THE SECOND FORM's CARD OF 'coblelaw05.LaunchEasier'. -/
def launchEasierUptoCard : Claim7 := { stood := { row := launchEasierUptoRow, standIns := [], harness := (true, "1dabf2a32281cfa0d97019fc5398d72ba729498522dad79a140939c24eb4b0bf"), looks := false }, kinds := [], alts := [], laidByText := true, laidKinds := [.data], laidTests := true, laidLooks := .later }
def LaunchEasierUptoCardSaid : Prop := Claim7.holds Tryd.pinned (.plain (OpenSpec.upto launchEasierSpec)) launchEasierUptoCard

/-- THE SECOND FORM's CARD OF 'coblelaw05.LaunchReaches'. -/
def launchReachesUptoCard : Claim7 := { stood := { row := launchReachesUptoRow, standIns := [], harness := (true, "1dabf2a32281cfa0d97019fc5398d72ba729498522dad79a140939c24eb4b0bf"), looks := false }, kinds := [], alts := [], laidByText := true, laidKinds := [.data], laidTests := true, laidLooks := .later }
def LaunchReachesUptoCardSaid : Prop := Claim7.holds Tryd.pinned (.plain (OpenSpec.upto launchReachesSpec)) launchReachesUptoCard

/-- THE SECOND FORM's CARD OF 'coblelaw05.LaunchSeats'. -/
def launchSeatsUptoCard : Claim7 := { stood := { row := launchSeatsUptoRow, standIns := [], harness := (true, "1dabf2a32281cfa0d97019fc5398d72ba729498522dad79a140939c24eb4b0bf"), looks := false }, kinds := [], alts := [], laidByText := true, laidKinds := [.data], laidTests := true, laidLooks := .later }
def LaunchSeatsUptoCardSaid : Prop := Claim7.holds Tryd.pinned (.plain (OpenSpec.upto launchSeatsSpec)) launchSeatsUptoCard
end Rows
end Go.Proofs.YtnpifaanhofonaaDoor
