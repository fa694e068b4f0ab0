/- A run of the program without arguments, piece by piece: computed by the kernel. Printed by tools/pieces.py. -/
import Derived.Test.YtnpifaanhofonaaDoorPieJ
import Derived.Test.YtnpifaanhofonaaDoorTab
set_option linter.all false
set_option maxRecDepth 100000
namespace Go.Proofs.YtnpifaanhofonaaDoor
open Go
/-- coble/coblelaw05.works, 39 ms -/
noncomputable def of160 : OF := ⟨(.func (.func 7) #[] #[]), [], 0, hp0, ((.bool true), hp0)⟩
theorem of160_ok : of160.Ok Tryd.prog pureF := apO_sound (T := sfTab) (O := ot159) (n := 100000) sfTab_ok ot159_ok (by kernel_rfl)
noncomputable def ol160 : OL := .cons of160 .nil
theorem ol160_ok : ol160.Ok Tryd.prog pureF := ⟨of160_ok, trivial⟩
noncomputable def ot160 : OT := (.cons 7 ol160 (.cons 40 ol159 (.cons 58 ol158 (.cons 79 ol153 (.cons 44 ol81 (.cons 45 ol80 (.cons 13 ol79 .nil)))))))
theorem ot160_ok : ot160.Ok Tryd.prog pureF := ⟨ol160_ok, ⟨ol159_ok, ⟨ol158_ok, ⟨ol153_ok, ⟨ol81_ok, ⟨ol80_ok, ⟨ol79_ok, trivial⟩⟩⟩⟩⟩⟩⟩
theorem works_run : apL Tryd.prog ⟨pureF, [], fun _ _ => none⟩ (.func (.func 7) #[] #[]) [] 0 (globH Tryd.prog tabs) = some ((.bool true), globH Tryd.prog tabs) := of160_ok
end Go.Proofs.YtnpifaanhofonaaDoor
