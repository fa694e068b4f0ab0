/- Which functions write to nothing that was there. -/
import Derived.Test.YtnpifaanhofonaaGreatDoorSeat
set_option linter.all false
namespace Go.Proofs.YtnpifaanhofonaaGreatDoor
open Go Go.RowKit
/-- The functions that write to nothing that was there. -/
def pureF : FuncId → Bool := fun f => !([136, 143, 123, 83, 84, 88].contains f)
end Go.Proofs.YtnpifaanhofonaaGreatDoor
