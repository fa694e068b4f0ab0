/- Which functions write to nothing that was there. -/
import Derived.Test.YtnpifaanhofonaaDoorSeat
set_option linter.all false
namespace Go.Proofs.YtnpifaanhofonaaDoor
open Go Go.RowKit
/-- The functions that write to nothing that was there. -/
def pureF : FuncId → Bool := fun f => !([92, 114, 73, 57, 58, 62].contains f)
end Go.Proofs.YtnpifaanhofonaaDoor
