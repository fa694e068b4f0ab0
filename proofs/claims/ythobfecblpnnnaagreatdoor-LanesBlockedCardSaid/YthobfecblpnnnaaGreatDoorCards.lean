/-
  DERIVED. GIVEN WITH THE SEED: THE CARDS: each row of YthobfecblpnnnaaGreatDoorRows.lean that lists a variable, with what it lists TIED to the program's text (the seventh form; the later family's looks); each row that meets fmt, with fmt's text TOLD by the authors' own Lean function (tested against real Go, not proved from fmt's source: count such statements apart). THE CARD IS WHAT COUNTS. Prove the row's statement (the work); the ties are given (YthobfecblpnnnaaGreatDoorTie.lean); close each card by the builder's one call (the guide's Derived/Test/ToyasCard.lean, 'card_holds'). Laid BY PROGRAM, IN A SANDBOX (cutbox-door.mjs). By AI agents, Wed Nov 11 2026. No macro, syntax, notation, axiom, sorry.
-/
import Derived.Test.YthobfecblpnnnaaGreatDoorRows
import GoSem.ClaimSeven
namespace Go.Proofs.YthobfecblpnnnaaGreatDoor
namespace Rows

/-- THE TIED CARD OF 'coblelaw06.LanesApart'. -/
def lanesApartCard : Claim7 := { stood := { row := lanesApartRow, standIns := [], harness := (true, "ec1d7fc31bd7e31c609c583c1ceb6cfff7f094afca46f9fbc3fd3ad7fdcb6401"), looks := false }, kinds := [], alts := [], laidByText := true, laidKinds := [.data], laidTests := true, laidLooks := .later }
def LanesApartCardSaid : Prop := Claim7.holds Tryz.pinned (.plain (OpenSpec.ofChange lanesApartSpec)) lanesApartCard

/-- THE TIED CARD OF 'coblelaw06.LanesFirst'. -/
def lanesFirstCard : Claim7 := { stood := { row := lanesFirstRow, standIns := [], harness := (true, "ec1d7fc31bd7e31c609c583c1ceb6cfff7f094afca46f9fbc3fd3ad7fdcb6401"), looks := false }, kinds := [], alts := [], laidByText := true, laidKinds := [.data], laidTests := true, laidLooks := .later }
def LanesFirstCardSaid : Prop := Claim7.holds Tryz.pinned (.plain (OpenSpec.ofChange lanesFirstSpec)) lanesFirstCard

/-- THE TIED CARD OF 'coblelaw06.LanesFewer'. -/
def lanesFewerCard : Claim7 := { stood := { row := lanesFewerRow, standIns := [], harness := (true, "ec1d7fc31bd7e31c609c583c1ceb6cfff7f094afca46f9fbc3fd3ad7fdcb6401"), looks := false }, kinds := [], alts := [], laidByText := true, laidKinds := [.data], laidTests := true, laidLooks := .later }
def LanesFewerCardSaid : Prop := Claim7.holds Tryz.pinned (.plain (OpenSpec.ofChange lanesFewerSpec)) lanesFewerCard

/-- THE TIED CARD OF 'coblelaw06.LanesBlocked'. -/
def lanesBlockedCard : Claim7 := { stood := { row := lanesBlockedRow, standIns := [], harness := (true, "ec1d7fc31bd7e31c609c583c1ceb6cfff7f094afca46f9fbc3fd3ad7fdcb6401"), looks := false }, kinds := [], alts := [], laidByText := true, laidKinds := [.data], laidTests := true, laidLooks := .later }
def LanesBlockedCardSaid : Prop := Claim7.holds Tryz.pinned (.plain (OpenSpec.ofChange lanesBlockedSpec)) lanesBlockedCard

/-- THE TIED CARD OF 'coblelaw06.LanesOpen'. -/
def lanesOpenCard : Claim7 := { stood := { row := lanesOpenRow, standIns := [], harness := (true, "ec1d7fc31bd7e31c609c583c1ceb6cfff7f094afca46f9fbc3fd3ad7fdcb6401"), looks := false }, kinds := [], alts := [], laidByText := true, laidKinds := [.data], laidTests := true, laidLooks := .later }
def LanesOpenCardSaid : Prop := Claim7.holds Tryz.pinned (.plain (OpenSpec.ofChange lanesOpenSpec)) lanesOpenCard

/-- THE TIED CARD OF 'coblelaw06.LanesEither'. -/
def lanesEitherCard : Claim7 := { stood := { row := lanesEitherRow, standIns := [], harness := (true, "ec1d7fc31bd7e31c609c583c1ceb6cfff7f094afca46f9fbc3fd3ad7fdcb6401"), looks := false }, kinds := [], alts := [], laidByText := true, laidKinds := [.data], laidTests := true, laidLooks := .later }
def LanesEitherCardSaid : Prop := Claim7.holds Tryz.pinned (.plain (OpenSpec.ofChange lanesEitherSpec)) lanesEitherCard

/-- THE TIED CARD OF 'coblelaw06.LanesPlanned'. -/
def lanesPlannedCard : Claim7 := { stood := { row := lanesPlannedRow, standIns := [], harness := (true, "ec1d7fc31bd7e31c609c583c1ceb6cfff7f094afca46f9fbc3fd3ad7fdcb6401"), looks := false }, kinds := [], alts := [], laidByText := true, laidKinds := [.data], laidTests := true, laidLooks := .later }
def LanesPlannedCardSaid : Prop := Claim7.holds Tryz.pinned (.plain (OpenSpec.ofChange lanesPlannedSpec)) lanesPlannedCard

/-- THE TIED CARD OF 'coblelaw06.LanesClashes'. -/
def lanesClashesCard : Claim7 := { stood := { row := lanesClashesRow, standIns := [], harness := (true, "ec1d7fc31bd7e31c609c583c1ceb6cfff7f094afca46f9fbc3fd3ad7fdcb6401"), looks := false }, kinds := [], alts := [], laidByText := true, laidKinds := [.data], laidTests := true, laidLooks := .later }
def LanesClashesCardSaid : Prop := Claim7.holds Tryz.pinned (.plain (OpenSpec.ofChange lanesClashesSpec)) lanesClashesCard

/-- THE TIED CARD OF 'coblelaw06.LanesRoutes'. -/
def lanesRoutesCard : Claim7 := { stood := { row := lanesRoutesRow, standIns := [], harness := (true, "ec1d7fc31bd7e31c609c583c1ceb6cfff7f094afca46f9fbc3fd3ad7fdcb6401"), looks := false }, kinds := [], alts := [], laidByText := true, laidKinds := [.data], laidTests := true, laidLooks := .later }
def LanesRoutesCardSaid : Prop := Claim7.holds Tryz.pinned (.plain (OpenSpec.ofChange lanesRoutesSpec)) lanesRoutesCard

/-- THE TIED CARD OF 'coblelaw06.LanesPlans'. -/
def lanesPlansCard : Claim7 := { stood := { row := lanesPlansRow, standIns := [], harness := (true, "ec1d7fc31bd7e31c609c583c1ceb6cfff7f094afca46f9fbc3fd3ad7fdcb6401"), looks := false }, kinds := [], alts := [], laidByText := true, laidKinds := [.data], laidTests := true, laidLooks := .later }
def LanesPlansCardSaid : Prop := Claim7.holds Tryz.pinned (.plain (OpenSpec.ofChange lanesPlansSpec)) lanesPlansCard

/-- THE SECOND FORM's CARD OF 'coblelaw06.LanesApart'. -/
def lanesApartUptoCard : Claim7 := { stood := { row := lanesApartUptoRow, standIns := [], harness := (true, "ec1d7fc31bd7e31c609c583c1ceb6cfff7f094afca46f9fbc3fd3ad7fdcb6401"), looks := false }, kinds := [], alts := [], laidByText := true, laidKinds := [.data], laidTests := true, laidLooks := .later }
def LanesApartUptoCardSaid : Prop := Claim7.holds Tryz.pinned (.plain (OpenSpec.upto lanesApartSpec)) lanesApartUptoCard

/-- THE SECOND FORM's CARD OF 'coblelaw06.LanesFirst'. -/
def lanesFirstUptoCard : Claim7 := { stood := { row := lanesFirstUptoRow, standIns := [], harness := (true, "ec1d7fc31bd7e31c609c583c1ceb6cfff7f094afca46f9fbc3fd3ad7fdcb6401"), looks := false }, kinds := [], alts := [], laidByText := true, laidKinds := [.data], laidTests := true, laidLooks := .later }
def LanesFirstUptoCardSaid : Prop := Claim7.holds Tryz.pinned (.plain (OpenSpec.upto lanesFirstSpec)) lanesFirstUptoCard

/-- THE SECOND FORM's CARD OF 'coblelaw06.LanesFewer'. -/
def lanesFewerUptoCard : Claim7 := { stood := { row := lanesFewerUptoRow, standIns := [], harness := (true, "ec1d7fc31bd7e31c609c583c1ceb6cfff7f094afca46f9fbc3fd3ad7fdcb6401"), looks := false }, kinds := [], alts := [], laidByText := true, laidKinds := [.data], laidTests := true, laidLooks := .later }
def LanesFewerUptoCardSaid : Prop := Claim7.holds Tryz.pinned (.plain (OpenSpec.upto lanesFewerSpec)) lanesFewerUptoCard

/-- THE SECOND FORM's CARD OF 'coblelaw06.LanesBlocked'. -/
def lanesBlockedUptoCard : Claim7 := { stood := { row := lanesBlockedUptoRow, standIns := [], harness := (true, "ec1d7fc31bd7e31c609c583c1ceb6cfff7f094afca46f9fbc3fd3ad7fdcb6401"), looks := false }, kinds := [], alts := [], laidByText := true, laidKinds := [.data], laidTests := true, laidLooks := .later }
def LanesBlockedUptoCardSaid : Prop := Claim7.holds Tryz.pinned (.plain (OpenSpec.upto lanesBlockedSpec)) lanesBlockedUptoCard

/-- THE SECOND FORM's CARD OF 'coblelaw06.LanesOpen'. -/
def lanesOpenUptoCard : Claim7 := { stood := { row := lanesOpenUptoRow, standIns := [], harness := (true, "ec1d7fc31bd7e31c609c583c1ceb6cfff7f094afca46f9fbc3fd3ad7fdcb6401"), looks := false }, kinds := [], alts := [], laidByText := true, laidKinds := [.data], laidTests := true, laidLooks := .later }
def LanesOpenUptoCardSaid : Prop := Claim7.holds Tryz.pinned (.plain (OpenSpec.upto lanesOpenSpec)) lanesOpenUptoCard

/-- THE SECOND FORM's CARD OF 'coblelaw06.LanesEither'. -/
def lanesEitherUptoCard : Claim7 := { stood := { row := lanesEitherUptoRow, standIns := [], harness := (true, "ec1d7fc31bd7e31c609c583c1ceb6cfff7f094afca46f9fbc3fd3ad7fdcb6401"), looks := false }, kinds := [], alts := [], laidByText := true, laidKinds := [.data], laidTests := true, laidLooks := .later }
def LanesEitherUptoCardSaid : Prop := Claim7.holds Tryz.pinned (.plain (OpenSpec.upto lanesEitherSpec)) lanesEitherUptoCard

/-- THE SECOND FORM's CARD OF 'coblelaw06.LanesPlanned'. -/
def lanesPlannedUptoCard : Claim7 := { stood := { row := lanesPlannedUptoRow, standIns := [], harness := (true, "ec1d7fc31bd7e31c609c583c1ceb6cfff7f094afca46f9fbc3fd3ad7fdcb6401"), looks := false }, kinds := [], alts := [], laidByText := true, laidKinds := [.data], laidTests := true, laidLooks := .later }
def LanesPlannedUptoCardSaid : Prop := Claim7.holds Tryz.pinned (.plain (OpenSpec.upto lanesPlannedSpec)) lanesPlannedUptoCard

/-- THE SECOND FORM's CARD OF 'coblelaw06.LanesClashes'. -/
def lanesClashesUptoCard : Claim7 := { stood := { row := lanesClashesUptoRow, standIns := [], harness := (true, "ec1d7fc31bd7e31c609c583c1ceb6cfff7f094afca46f9fbc3fd3ad7fdcb6401"), looks := false }, kinds := [], alts := [], laidByText := true, laidKinds := [.data], laidTests := true, laidLooks := .later }
def LanesClashesUptoCardSaid : Prop := Claim7.holds Tryz.pinned (.plain (OpenSpec.upto lanesClashesSpec)) lanesClashesUptoCard

/-- THE SECOND FORM's CARD OF 'coblelaw06.LanesRoutes'. -/
def lanesRoutesUptoCard : Claim7 := { stood := { row := lanesRoutesUptoRow, standIns := [], harness := (true, "ec1d7fc31bd7e31c609c583c1ceb6cfff7f094afca46f9fbc3fd3ad7fdcb6401"), looks := false }, kinds := [], alts := [], laidByText := true, laidKinds := [.data], laidTests := true, laidLooks := .later }
def LanesRoutesUptoCardSaid : Prop := Claim7.holds Tryz.pinned (.plain (OpenSpec.upto lanesRoutesSpec)) lanesRoutesUptoCard

/-- THE SECOND FORM's CARD OF 'coblelaw06.LanesPlans'. -/
def lanesPlansUptoCard : Claim7 := { stood := { row := lanesPlansUptoRow, standIns := [], harness := (true, "ec1d7fc31bd7e31c609c583c1ceb6cfff7f094afca46f9fbc3fd3ad7fdcb6401"), looks := false }, kinds := [], alts := [], laidByText := true, laidKinds := [.data], laidTests := true, laidLooks := .later }
def LanesPlansUptoCardSaid : Prop := Claim7.holds Tryz.pinned (.plain (OpenSpec.upto lanesPlansSpec)) lanesPlansUptoCard
end Rows
end Go.Proofs.YthobfecblpnnnaaGreatDoor
