/- Which functions write to nothing that was there. -/
import Derived.Test.YthobfecblpnnnaaGreatDoorSeat
set_option linter.all false
namespace Go.Proofs.YthobfecblpnnnaaGreatDoor
open Go Go.RowKit
/-- The functions that write to nothing that was there. -/
def pureF : FuncId → Bool := fun f => !([126, 113, 100, 121, 130, 131, 132, 134, 135, 137, 138, 145, 155, 149, 148, 147].contains f)
end Go.Proofs.YthobfecblpnnnaaGreatDoor
