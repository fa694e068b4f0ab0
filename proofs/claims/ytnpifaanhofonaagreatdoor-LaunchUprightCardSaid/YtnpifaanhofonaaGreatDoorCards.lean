/-
  DERIVED. GIVEN WITH THE SEED: THE CARDS: each row of YtnpifaanhofonaaGreatDoorRows.lean that lists a variable, with what it lists TIED to the program's text (the seventh form; the later family's looks); each row that meets fmt, with fmt's text TOLD by the authors' own Lean function (tested against real Go, not proved from fmt's source: count such statements apart). THE CARD IS WHAT COUNTS. Prove the row's statement (the work); the ties are given (YtnpifaanhofonaaGreatDoorTie.lean); close each card by the builder's one call (the guide's Derived/Test/ToyasCard.lean, 'card_holds'). Laid BY PROGRAM, IN A SANDBOX (cutbox-door.mjs). By AI agents, Wed Nov 11 2026. No macro, syntax, notation, axiom, sorry.
-/
import Derived.Test.YtnpifaanhofonaaGreatDoorRows
import GoSem.ClaimSeven
namespace Go.Proofs.YtnpifaanhofonaaGreatDoor
namespace Rows

/-- THE TIED CARD OF 'coblelaw05.LaunchOpens'. -/
def launchOpensCard : Claim7 := { stood := { row := launchOpensRow, standIns := [], harness := (true, "ac038e2415fb78feef4af79fdec58d626af6ea1216dbec5e14323ae764a7100e"), looks := false }, kinds := [], alts := [], laidByText := true, laidKinds := [.data], laidTests := true, laidLooks := .later }
def LaunchOpensCardSaid : Prop := Claim7.holds Tryz.pinned (.plain (OpenSpec.ofChange launchOpensSpec)) launchOpensCard

/-- THE TIED CARD OF 'coblelaw05.LaunchDecides'. -/
def launchDecidesCard : Claim7 := { stood := { row := launchDecidesRow, standIns := [], harness := (true, "ac038e2415fb78feef4af79fdec58d626af6ea1216dbec5e14323ae764a7100e"), looks := false }, kinds := [], alts := [], laidByText := true, laidKinds := [.data], laidTests := true, laidLooks := .later }
def LaunchDecidesCardSaid : Prop := Claim7.holds Tryz.pinned (.plain (OpenSpec.ofChange launchDecidesSpec)) launchDecidesCard

/-- THE TIED CARD OF 'coblelaw05.LaunchRounds'. -/
def launchRoundsCard : Claim7 := { stood := { row := launchRoundsRow, standIns := [], harness := (true, "ac038e2415fb78feef4af79fdec58d626af6ea1216dbec5e14323ae764a7100e"), looks := false }, kinds := [], alts := [], laidByText := true, laidKinds := [.data], laidTests := true, laidLooks := .later }
def LaunchRoundsCardSaid : Prop := Claim7.holds Tryz.pinned (.plain (OpenSpec.ofChange launchRoundsSpec)) launchRoundsCard

/-- THE TIED CARD OF 'coblelaw05.LaunchRights'. -/
def launchRightsCard : Claim7 := { stood := { row := launchRightsRow, standIns := [], harness := (true, "ac038e2415fb78feef4af79fdec58d626af6ea1216dbec5e14323ae764a7100e"), looks := false }, kinds := [], alts := [], laidByText := true, laidKinds := [.data], laidTests := true, laidLooks := .later }
def LaunchRightsCardSaid : Prop := Claim7.holds Tryz.pinned (.plain (OpenSpec.ofChange launchRightsSpec)) launchRightsCard

/-- THE TIED CARD OF 'coblelaw05.LaunchComes'. -/
def launchComesCard : Claim7 := { stood := { row := launchComesRow, standIns := [], harness := (true, "ac038e2415fb78feef4af79fdec58d626af6ea1216dbec5e14323ae764a7100e"), looks := false }, kinds := [], alts := [], laidByText := true, laidKinds := [.data], laidTests := true, laidLooks := .later }
def LaunchComesCardSaid : Prop := Claim7.holds Tryz.pinned (.plain (OpenSpec.ofChange launchComesSpec)) launchComesCard

/-- THE TIED CARD OF 'coblelaw05.LaunchCheapest'. -/
def launchCheapestCard : Claim7 := { stood := { row := launchCheapestRow, standIns := [], harness := (true, "ac038e2415fb78feef4af79fdec58d626af6ea1216dbec5e14323ae764a7100e"), looks := false }, kinds := [], alts := [], laidByText := true, laidKinds := [.data], laidTests := true, laidLooks := .later }
def LaunchCheapestCardSaid : Prop := Claim7.holds Tryz.pinned (.plain (OpenSpec.ofChange launchCheapestSpec)) launchCheapestCard

/-- THE TIED CARD OF 'coblelaw05.LaunchUpright'. -/
def launchUprightCard : Claim7 := { stood := { row := launchUprightRow, standIns := [], harness := (true, "ac038e2415fb78feef4af79fdec58d626af6ea1216dbec5e14323ae764a7100e"), looks := false }, kinds := [], alts := [], laidByText := true, laidKinds := [.data], laidTests := true, laidLooks := .later }
def LaunchUprightCardSaid : Prop := Claim7.holds Tryz.pinned (.plain (OpenSpec.ofChange launchUprightSpec)) launchUprightCard

/-- THE SECOND FORM's CARD OF 'coblelaw05.LaunchOpens'. -/
def launchOpensUptoCard : Claim7 := { stood := { row := launchOpensUptoRow, standIns := [], harness := (true, "ac038e2415fb78feef4af79fdec58d626af6ea1216dbec5e14323ae764a7100e"), looks := false }, kinds := [], alts := [], laidByText := true, laidKinds := [.data], laidTests := true, laidLooks := .later }
def LaunchOpensUptoCardSaid : Prop := Claim7.holds Tryz.pinned (.plain (OpenSpec.upto launchOpensSpec)) launchOpensUptoCard

/-- THE SECOND FORM's CARD OF 'coblelaw05.LaunchDecides'. -/
def launchDecidesUptoCard : Claim7 := { stood := { row := launchDecidesUptoRow, standIns := [], harness := (true, "ac038e2415fb78feef4af79fdec58d626af6ea1216dbec5e14323ae764a7100e"), looks := false }, kinds := [], alts := [], laidByText := true, laidKinds := [.data], laidTests := true, laidLooks := .later }
def LaunchDecidesUptoCardSaid : Prop := Claim7.holds Tryz.pinned (.plain (OpenSpec.upto launchDecidesSpec)) launchDecidesUptoCard

/-- THE SECOND FORM's CARD OF 'coblelaw05.LaunchRounds'. -/
def launchRoundsUptoCard : Claim7 := { stood := { row := launchRoundsUptoRow, standIns := [], harness := (true, "ac038e2415fb78feef4af79fdec58d626af6ea1216dbec5e14323ae764a7100e"), looks := false }, kinds := [], alts := [], laidByText := true, laidKinds := [.data], laidTests := true, laidLooks := .later }
def LaunchRoundsUptoCardSaid : Prop := Claim7.holds Tryz.pinned (.plain (OpenSpec.upto launchRoundsSpec)) launchRoundsUptoCard

/-- THE SECOND FORM's CARD OF 'coblelaw05.LaunchRights'. -/
def launchRightsUptoCard : Claim7 := { stood := { row := launchRightsUptoRow, standIns := [], harness := (true, "ac038e2415fb78feef4af79fdec58d626af6ea1216dbec5e14323ae764a7100e"), looks := false }, kinds := [], alts := [], laidByText := true, laidKinds := [.data], laidTests := true, laidLooks := .later }
def LaunchRightsUptoCardSaid : Prop := Claim7.holds Tryz.pinned (.plain (OpenSpec.upto launchRightsSpec)) launchRightsUptoCard

/-- THE SECOND FORM's CARD OF 'coblelaw05.LaunchComes'. -/
def launchComesUptoCard : Claim7 := { stood := { row := launchComesUptoRow, standIns := [], harness := (true, "ac038e2415fb78feef4af79fdec58d626af6ea1216dbec5e14323ae764a7100e"), looks := false }, kinds := [], alts := [], laidByText := true, laidKinds := [.data], laidTests := true, laidLooks := .later }
def LaunchComesUptoCardSaid : Prop := Claim7.holds Tryz.pinned (.plain (OpenSpec.upto launchComesSpec)) launchComesUptoCard

/-- THE SECOND FORM's CARD OF 'coblelaw05.LaunchCheapest'. -/
def launchCheapestUptoCard : Claim7 := { stood := { row := launchCheapestUptoRow, standIns := [], harness := (true, "ac038e2415fb78feef4af79fdec58d626af6ea1216dbec5e14323ae764a7100e"), looks := false }, kinds := [], alts := [], laidByText := true, laidKinds := [.data], laidTests := true, laidLooks := .later }
def LaunchCheapestUptoCardSaid : Prop := Claim7.holds Tryz.pinned (.plain (OpenSpec.upto launchCheapestSpec)) launchCheapestUptoCard

/-- THE SECOND FORM's CARD OF 'coblelaw05.LaunchUpright'. -/
def launchUprightUptoCard : Claim7 := { stood := { row := launchUprightUptoRow, standIns := [], harness := (true, "ac038e2415fb78feef4af79fdec58d626af6ea1216dbec5e14323ae764a7100e"), looks := false }, kinds := [], alts := [], laidByText := true, laidKinds := [.data], laidTests := true, laidLooks := .later }
def LaunchUprightUptoCardSaid : Prop := Claim7.holds Tryz.pinned (.plain (OpenSpec.upto launchUprightSpec)) launchUprightUptoCard
end Rows
end Go.Proofs.YtnpifaanhofonaaGreatDoor
