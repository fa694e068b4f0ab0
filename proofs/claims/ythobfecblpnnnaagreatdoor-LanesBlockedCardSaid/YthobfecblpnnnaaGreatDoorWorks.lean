/- What the laws fall back on: computed by the kernel in the abstract machine. -/
import Derived.Test.YthobfecblpnnnaaGreatDoorSeat
import Derived.Test.YthobfecblpnnnaaGreatDoorPie
import Derived.Test.YthobfecblpnnnaaGreatDoorCoreE
set_option linter.all false
namespace Go.Proofs.YthobfecblpnnnaaGreatDoor
open Go Go.RowKit









def pf : PF := ⟨pureF, tabs, fun f args => if f = 15 ∧ args.isEmpty = true then some (.bool true) else none⟩

theorem pf_sound (B0 : Nat) : OrSound Tryz.prog B0 pf := orSound_ofL foll works_run rfl B0

end Go.Proofs.YthobfecblpnnnaaGreatDoor
