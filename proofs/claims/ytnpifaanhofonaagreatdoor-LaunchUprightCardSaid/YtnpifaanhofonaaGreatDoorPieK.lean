/- A run of the program without arguments, piece by piece: computed by the kernel. Printed by tools/pieces.py. -/
import Derived.Test.YtnpifaanhofonaaGreatDoorPieJ
import Derived.Test.YtnpifaanhofonaaGreatDoorTab
set_option linter.all false
set_option maxRecDepth 100000
namespace Go.Proofs.YtnpifaanhofonaaGreatDoor
open Go
/-- coble/coblelaw05.works, 37 ms -/
noncomputable def of160 : OF := ⟨(.func (.func 11) #[] #[]), [], 0, hp0, ((.bool true), hp0)⟩
theorem of160_ok : of160.Ok Tryz.prog pureF := apO_sound (T := sfTab) (O := ot159) (n := 100000) sfTab_ok ot159_ok (by kernel_rfl)
noncomputable def ol160 : OL := .cons of160 .nil
theorem ol160_ok : ol160.Ok Tryz.prog pureF := ⟨of160_ok, trivial⟩
noncomputable def ot160 : OT := (.cons 11 ol160 (.cons 58 ol159 (.cons 84 ol158 (.cons 113 ol153 (.cons 110 ol81 (.cons 36 ol80 (.cons 20 ol79 .nil)))))))
theorem ot160_ok : ot160.Ok Tryz.prog pureF := ⟨ol160_ok, ⟨ol159_ok, ⟨ol158_ok, ⟨ol153_ok, ⟨ol81_ok, ⟨ol80_ok, ⟨ol79_ok, trivial⟩⟩⟩⟩⟩⟩⟩
theorem works_run : apL Tryz.prog ⟨pureF, [], fun _ _ => none⟩ (.func (.func 11) #[] #[]) [] 0 (globH Tryz.prog tabs) = some ((.bool true), globH Tryz.prog tabs) := of160_ok
end Go.Proofs.YtnpifaanhofonaaGreatDoor
