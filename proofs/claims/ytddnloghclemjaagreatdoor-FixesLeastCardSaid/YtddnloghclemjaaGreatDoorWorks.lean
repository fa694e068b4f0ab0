/- What the laws fall back on: computed by the kernel in the abstract machine. -/
import Derived.Test.YtddnloghclemjaaGreatDoorSeat
import Derived.Test.YtddnloghclemjaaGreatDoorCoreE
set_option linter.all false
namespace Go.Proofs.YtddnloghclemjaaGreatDoor
open Go Go.RowKit




/-- The functions that write to nothing that was there. -/
def pureF : FuncId → Bool := fun f => !([104, 107, 126, 115, 124].contains f)


def pf : PF := ⟨pureF, tabs, fun _ _ => none⟩

theorem pf_sound (B0 : Nat) : OrSound Tryz.prog B0 pf := fun _ _ _ h => by cases h



end Go.Proofs.YtddnloghclemjaaGreatDoor
