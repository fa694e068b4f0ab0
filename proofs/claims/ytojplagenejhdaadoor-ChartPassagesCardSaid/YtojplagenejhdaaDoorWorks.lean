/- What the laws fall back on: computed by the kernel in the abstract machine. -/
import Derived.Test.YtojplagenejhdaaDoorSeat
import Derived.Test.YtojplagenejhdaaDoorCoreE
set_option linter.all false
namespace Go.Proofs.YtojplagenejhdaaDoor
open Go Go.RowKit

/-- The functions that write to nothing that was there. -/
def pureF : FuncId → Bool := fun f => !([75, 86, 94, 97].contains f)

theorem works_run : apA Tryd.prog ⟨pureF, [], fun _ _ => none⟩ 3000 (.func (.func 13) #[] #[]) [] 0 (globH Tryd.prog tabs) = some (.bool true, globH Tryd.prog tabs) := by kernel_rfl

def pf : PF := ⟨pureF, tabs, fun f args => if f = 13 ∧ args.isEmpty = true then some (.bool true) else none⟩

theorem pf_sound (B0 : Nat) : OrSound Tryd.prog B0 pf := orSound_of foll works_run rfl B0
end Go.Proofs.YtojplagenejhdaaDoor
