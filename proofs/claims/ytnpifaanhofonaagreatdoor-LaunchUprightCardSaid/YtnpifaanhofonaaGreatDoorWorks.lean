/- What the laws fall back on: computed by the kernel in the abstract machine. -/
import Derived.Test.YtnpifaanhofonaaGreatDoorSeat
import Derived.Test.YtnpifaanhofonaaGreatDoorPie
import Derived.Test.YtnpifaanhofonaaGreatDoorCoreE
set_option linter.all false
namespace Go.Proofs.YtnpifaanhofonaaGreatDoor
open Go Go.RowKit







def pf : PF := ⟨pureF, tabs, fun f args => if f = 11 ∧ args.isEmpty = true then some (.bool true) else none⟩

theorem pf_sound (B0 : Nat) : OrSound Tryz.prog B0 pf := orSound_ofL foll works_run rfl B0
end Go.Proofs.YtnpifaanhofonaaGreatDoor
