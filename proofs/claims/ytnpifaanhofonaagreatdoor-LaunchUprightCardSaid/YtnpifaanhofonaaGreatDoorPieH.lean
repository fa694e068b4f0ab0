/- A run of the program without arguments, piece by piece: computed by the kernel. Printed by tools/pieces.py. -/
import Derived.Test.YtnpifaanhofonaaGreatDoorPieG
import Derived.Test.YtnpifaanhofonaaGreatDoorTab
set_option linter.all false
set_option maxRecDepth 100000
namespace Go.Proofs.YtnpifaanhofonaaGreatDoor
open Go
noncomputable def hp83 : AH := (hp65.take 222) ++ [.rw 1 [(V 226 0 2 3), (V 234 0 4 5), (V 242 0 4 5), (V 248 0 3 4), (V 258 0 5 6), (E 0 0), (E 0 0), (E 0 0), (E 0 0), (E 0 0), (E 0 0), (E 0 0)], .rw 1 [(K 1)], .dead, .rw 1 [(K 4)], .rw 1 [(K 1), (K 4)], .rw 1 [(K 2)], .dead, .rw 1 [(K 5)], .dead, .rw 1 [(K 4)], .dead, .rw 1 [(K 0)], .rw 1 [(K 2), (K 5), (K 4), (K 0)], .rw 1 [(K 3)], .dead, .rw 1 [(K 6)], .dead, .rw 1 [(K 5)], .dead, .rw 1 [(K 1)], .rw 1 [(K 3), (K 6), (K 5), (K 1)], .rw 1 [(K 7)], .dead, .rw 1 [(K 6)], .dead, .rw 1 [(K 2)], .rw 1 [(K 7), (K 6), (K 2)], .rw 1 [(K 5)], .dead, .rw 1 [(K 9)], .dead, .rw 1 [(K 8)], .dead, .rw 1 [(K 0)], .dead, .rw 1 [(K 1)], .rw 1 [(K 5), (K 9), (K 8), (K 0), (K 1)]]
/-- coble/chart.Next, 3 ms -/
noncomputable def of112 : OF := ⟨(.func (.func 113) #[] #[]), [(.agg #[(K 4), (K 3), (V 1 0 12 12), (V 2 0 5 5), (V 3 0 5 5)]), (K 5), (K 0)], 222, hp83, ((.tuple #[(K 6), (K 0)]), hp83)⟩
theorem of112_ok : of112.Ok Tryz.prog pureF := apO_sound (T := sfTab) (O := ot111) (n := 100000) sfTab_ok ot111_ok (by kernel_rfl)
noncomputable def ol112 : OL := .cons of112 ol111
theorem ol112_ok : ol112.Ok Tryz.prog pureF := ⟨of112_ok, ol111_ok⟩
noncomputable def ot112 : OT := (.cons 113 ol112 (.cons 110 ol81 (.cons 36 ol80 (.cons 20 ol79 (.cons 84 ol78 (.cons 58 ol77 .nil))))))
theorem ot112_ok : ot112.Ok Tryz.prog pureF := ⟨ol112_ok, ⟨ol81_ok, ⟨ol80_ok, ⟨ol79_ok, ⟨ol78_ok, ⟨ol77_ok, trivial⟩⟩⟩⟩⟩⟩
noncomputable def hp84 : AH := (hp65.take 222) ++ [.rw 1 [(V 226 0 2 3), (V 234 0 4 5), (V 242 0 4 5), (V 248 0 3 4), (V 258 0 5 6), (V 260 0 1 2), (E 0 0), (E 0 0), (E 0 0), (E 0 0), (E 0 0), (E 0 0)], .rw 1 [(K 1)], .dead, .rw 1 [(K 4)], .rw 1 [(K 1), (K 4)], .rw 1 [(K 2)], .dead, .rw 1 [(K 5)], .dead, .rw 1 [(K 4)], .dead, .rw 1 [(K 0)], .rw 1 [(K 2), (K 5), (K 4), (K 0)], .rw 1 [(K 3)], .dead, .rw 1 [(K 6)], .dead, .rw 1 [(K 5)], .dead, .rw 1 [(K 1)], .rw 1 [(K 3), (K 6), (K 5), (K 1)], .rw 1 [(K 7)], .dead, .rw 1 [(K 6)], .dead, .rw 1 [(K 2)], .rw 1 [(K 7), (K 6), (K 2)], .rw 1 [(K 5)], .dead, .rw 1 [(K 9)], .dead, .rw 1 [(K 8)], .dead, .rw 1 [(K 0)], .dead, .rw 1 [(K 1)], .rw 1 [(K 5), (K 9), (K 8), (K 0), (K 1)], .rw 1 [(K 6)], .rw 1 [(K 6)]]
/-- coble/chart.Next, 3 ms -/
noncomputable def of113 : OF := ⟨(.func (.func 113) #[] #[]), [(.agg #[(K 4), (K 3), (V 1 0 12 12), (V 2 0 5 5), (V 3 0 5 5)]), (K 5), (K 1)], 222, hp84, ((.tuple #[(K 10), (K 0)]), hp84)⟩
theorem of113_ok : of113.Ok Tryz.prog pureF := apO_sound (T := sfTab) (O := ot112) (n := 100000) sfTab_ok ot112_ok (by kernel_rfl)
noncomputable def ol113 : OL := .cons of113 ol112
theorem ol113_ok : ol113.Ok Tryz.prog pureF := ⟨of113_ok, ol112_ok⟩
noncomputable def ot113 : OT := (.cons 113 ol113 (.cons 110 ol81 (.cons 36 ol80 (.cons 20 ol79 (.cons 84 ol78 (.cons 58 ol77 .nil))))))
theorem ot113_ok : ot113.Ok Tryz.prog pureF := ⟨ol113_ok, ⟨ol81_ok, ⟨ol80_ok, ⟨ol79_ok, ⟨ol78_ok, ⟨ol77_ok, trivial⟩⟩⟩⟩⟩⟩
noncomputable def hp85 : AH := (hp65.take 222) ++ [.rw 1 [(V 226 0 2 3), (V 234 0 4 5), (V 242 0 4 5), (V 248 0 3 4), (V 258 0 5 6), (V 262 0 2 3), (E 0 0), (E 0 0), (E 0 0), (E 0 0), (E 0 0), (E 0 0)], .rw 1 [(K 1)], .dead, .rw 1 [(K 4)], .rw 1 [(K 1), (K 4)], .rw 1 [(K 2)], .dead, .rw 1 [(K 5)], .dead, .rw 1 [(K 4)], .dead, .rw 1 [(K 0)], .rw 1 [(K 2), (K 5), (K 4), (K 0)], .rw 1 [(K 3)], .dead, .rw 1 [(K 6)], .dead, .rw 1 [(K 5)], .dead, .rw 1 [(K 1)], .rw 1 [(K 3), (K 6), (K 5), (K 1)], .rw 1 [(K 7)], .dead, .rw 1 [(K 6)], .dead, .rw 1 [(K 2)], .rw 1 [(K 7), (K 6), (K 2)], .rw 1 [(K 5)], .dead, .rw 1 [(K 9)], .dead, .rw 1 [(K 8)], .dead, .rw 1 [(K 0)], .dead, .rw 1 [(K 1)], .rw 1 [(K 5), (K 9), (K 8), (K 0), (K 1)], .rw 1 [(K 6)], .dead, .rw 1 [(K 10)], .rw 1 [(K 6), (K 10)]]
/-- coble/chart.Next, 3 ms -/
noncomputable def of114 : OF := ⟨(.func (.func 113) #[] #[]), [(.agg #[(K 4), (K 3), (V 1 0 12 12), (V 2 0 5 5), (V 3 0 5 5)]), (K 5), (K 2)], 222, hp85, ((.tuple #[(K 9), (K 0)]), hp85)⟩
theorem of114_ok : of114.Ok Tryz.prog pureF := apO_sound (T := sfTab) (O := ot113) (n := 100000) sfTab_ok ot113_ok (by kernel_rfl)
noncomputable def ol114 : OL := .cons of114 ol113
theorem ol114_ok : ol114.Ok Tryz.prog pureF := ⟨of114_ok, ol113_ok⟩
noncomputable def ot114 : OT := (.cons 113 ol114 (.cons 110 ol81 (.cons 36 ol80 (.cons 20 ol79 (.cons 84 ol78 (.cons 58 ol77 .nil))))))
theorem ot114_ok : ot114.Ok Tryz.prog pureF := ⟨ol114_ok, ⟨ol81_ok, ⟨ol80_ok, ⟨ol79_ok, ⟨ol78_ok, ⟨ol77_ok, trivial⟩⟩⟩⟩⟩⟩
noncomputable def hp86 : AH := (hp65.take 222) ++ [.rw 1 [(V 226 0 2 3), (V 234 0 4 5), (V 242 0 4 5), (V 248 0 3 4), (V 258 0 5 6), (V 264 0 3 4), (E 0 0), (E 0 0), (E 0 0), (E 0 0), (E 0 0), (E 0 0)], .rw 1 [(K 1)], .dead, .rw 1 [(K 4)], .rw 1 [(K 1), (K 4)], .rw 1 [(K 2)], .dead, .rw 1 [(K 5)], .dead, .rw 1 [(K 4)], .dead, .rw 1 [(K 0)], .rw 1 [(K 2), (K 5), (K 4), (K 0)], .rw 1 [(K 3)], .dead, .rw 1 [(K 6)], .dead, .rw 1 [(K 5)], .dead, .rw 1 [(K 1)], .rw 1 [(K 3), (K 6), (K 5), (K 1)], .rw 1 [(K 7)], .dead, .rw 1 [(K 6)], .dead, .rw 1 [(K 2)], .rw 1 [(K 7), (K 6), (K 2)], .rw 1 [(K 5)], .dead, .rw 1 [(K 9)], .dead, .rw 1 [(K 8)], .dead, .rw 1 [(K 0)], .dead, .rw 1 [(K 1)], .rw 1 [(K 5), (K 9), (K 8), (K 0), (K 1)], .rw 1 [(K 6)], .dead, .rw 1 [(K 10)], .dead, .rw 1 [(K 9)], .rw 1 [(K 6), (K 10), (K 9)]]
/-- coble/chart.Next, 3 ms -/
noncomputable def of115 : OF := ⟨(.func (.func 113) #[] #[]), [(.agg #[(K 4), (K 3), (V 1 0 12 12), (V 2 0 5 5), (V 3 0 5 5)]), (K 5), (K 3)], 222, hp86, ((.tuple #[(K 4), (K 0)]), hp86)⟩
theorem of115_ok : of115.Ok Tryz.prog pureF := apO_sound (T := sfTab) (O := ot114) (n := 100000) sfTab_ok ot114_ok (by kernel_rfl)
noncomputable def ol115 : OL := .cons of115 ol114
theorem ol115_ok : ol115.Ok Tryz.prog pureF := ⟨of115_ok, ol114_ok⟩
noncomputable def ot115 : OT := (.cons 113 ol115 (.cons 110 ol81 (.cons 36 ol80 (.cons 20 ol79 (.cons 84 ol78 (.cons 58 ol77 .nil))))))
theorem ot115_ok : ot115.Ok Tryz.prog pureF := ⟨ol115_ok, ⟨ol81_ok, ⟨ol80_ok, ⟨ol79_ok, ⟨ol78_ok, ⟨ol77_ok, trivial⟩⟩⟩⟩⟩⟩
noncomputable def hp87 : AH := (hp65.take 222) ++ [.rw 1 [(V 226 0 2 3), (V 234 0 4 5), (V 242 0 4 5), (V 248 0 3 4), (V 258 0 5 6), (V 266 0 4 5), (E 0 0), (E 0 0), (E 0 0), (E 0 0), (E 0 0), (E 0 0)], .rw 1 [(K 1)], .dead, .rw 1 [(K 4)], .rw 1 [(K 1), (K 4)], .rw 1 [(K 2)], .dead, .rw 1 [(K 5)], .dead, .rw 1 [(K 4)], .dead, .rw 1 [(K 0)], .rw 1 [(K 2), (K 5), (K 4), (K 0)], .rw 1 [(K 3)], .dead, .rw 1 [(K 6)], .dead, .rw 1 [(K 5)], .dead, .rw 1 [(K 1)], .rw 1 [(K 3), (K 6), (K 5), (K 1)], .rw 1 [(K 7)], .dead, .rw 1 [(K 6)], .dead, .rw 1 [(K 2)], .rw 1 [(K 7), (K 6), (K 2)], .rw 1 [(K 5)], .dead, .rw 1 [(K 9)], .dead, .rw 1 [(K 8)], .dead, .rw 1 [(K 0)], .dead, .rw 1 [(K 1)], .rw 1 [(K 5), (K 9), (K 8), (K 0), (K 1)], .rw 1 [(K 6)], .dead, .rw 1 [(K 10)], .dead, .rw 1 [(K 9)], .dead, .rw 1 [(K 4)], .rw 1 [(K 6), (K 10), (K 9), (K 4)]]
/-- coble/chart.Next, 3 ms -/
noncomputable def of116 : OF := ⟨(.func (.func 113) #[] #[]), [(.agg #[(K 4), (K 3), (V 1 0 12 12), (V 2 0 5 5), (V 3 0 5 5)]), (K 5), (K 4)], 222, hp87, ((.tuple #[(K 1), (K 0)]), hp87)⟩
theorem of116_ok : of116.Ok Tryz.prog pureF := apO_sound (T := sfTab) (O := ot115) (n := 100000) sfTab_ok ot115_ok (by kernel_rfl)
noncomputable def ol116 : OL := .cons of116 ol115
theorem ol116_ok : ol116.Ok Tryz.prog pureF := ⟨of116_ok, ol115_ok⟩
noncomputable def ot116 : OT := (.cons 113 ol116 (.cons 110 ol81 (.cons 36 ol80 (.cons 20 ol79 (.cons 84 ol78 (.cons 58 ol77 .nil))))))
theorem ot116_ok : ot116.Ok Tryz.prog pureF := ⟨ol116_ok, ⟨ol81_ok, ⟨ol80_ok, ⟨ol79_ok, ⟨ol78_ok, ⟨ol77_ok, trivial⟩⟩⟩⟩⟩⟩
noncomputable def hp88 : AH := (hp65.take 222) ++ [.rw 1 [(V 226 0 2 3), (V 234 0 4 5), (V 242 0 4 5), (V 248 0 3 4), (V 258 0 5 6), (V 268 0 5 6), (E 0 0), (E 0 0), (E 0 0), (E 0 0), (E 0 0), (E 0 0)], .rw 1 [(K 1)], .dead, .rw 1 [(K 4)], .rw 1 [(K 1), (K 4)], .rw 1 [(K 2)], .dead, .rw 1 [(K 5)], .dead, .rw 1 [(K 4)], .dead, .rw 1 [(K 0)], .rw 1 [(K 2), (K 5), (K 4), (K 0)], .rw 1 [(K 3)], .dead, .rw 1 [(K 6)], .dead, .rw 1 [(K 5)], .dead, .rw 1 [(K 1)], .rw 1 [(K 3), (K 6), (K 5), (K 1)], .rw 1 [(K 7)], .dead, .rw 1 [(K 6)], .dead, .rw 1 [(K 2)], .rw 1 [(K 7), (K 6), (K 2)], .rw 1 [(K 5)], .dead, .rw 1 [(K 9)], .dead, .rw 1 [(K 8)], .dead, .rw 1 [(K 0)], .dead, .rw 1 [(K 1)], .rw 1 [(K 5), (K 9), (K 8), (K 0), (K 1)], .rw 1 [(K 6)], .dead, .rw 1 [(K 10)], .dead, .rw 1 [(K 9)], .dead, .rw 1 [(K 4)], .dead, .rw 1 [(K 1)], .rw 1 [(K 6), (K 10), (K 9), (K 4), (K 1)]]
/-- coble/chart.Next, 3 ms -/
noncomputable def of117 : OF := ⟨(.func (.func 113) #[] #[]), [(.agg #[(K 4), (K 3), (V 1 0 12 12), (V 2 0 5 5), (V 3 0 5 5)]), (K 5), (K 5)], 222, hp88, ((.tuple #[(K 2), (K 0)]), hp88)⟩
theorem of117_ok : of117.Ok Tryz.prog pureF := apO_sound (T := sfTab) (O := ot116) (n := 100000) sfTab_ok ot116_ok (by kernel_rfl)
noncomputable def ol117 : OL := .cons of117 ol116
theorem ol117_ok : ol117.Ok Tryz.prog pureF := ⟨of117_ok, ol116_ok⟩
noncomputable def ot117 : OT := (.cons 113 ol117 (.cons 110 ol81 (.cons 36 ol80 (.cons 20 ol79 (.cons 84 ol78 (.cons 58 ol77 .nil))))))
theorem ot117_ok : ot117.Ok Tryz.prog pureF := ⟨ol117_ok, ⟨ol81_ok, ⟨ol80_ok, ⟨ol79_ok, ⟨ol78_ok, ⟨ol77_ok, trivial⟩⟩⟩⟩⟩⟩
noncomputable def hp89 : AH := (hp65.take 222) ++ [.rw 1 [(V 226 0 2 3), (V 234 0 4 5), (V 242 0 4 5), (V 248 0 3 4), (V 258 0 5 6), (V 270 0 6 7), (E 0 0), (E 0 0), (E 0 0), (E 0 0), (E 0 0), (E 0 0)], .rw 1 [(K 1)], .dead, .rw 1 [(K 4)], .rw 1 [(K 1), (K 4)], .rw 1 [(K 2)], .dead, .rw 1 [(K 5)], .dead, .rw 1 [(K 4)], .dead, .rw 1 [(K 0)], .rw 1 [(K 2), (K 5), (K 4), (K 0)], .rw 1 [(K 3)], .dead, .rw 1 [(K 6)], .dead, .rw 1 [(K 5)], .dead, .rw 1 [(K 1)], .rw 1 [(K 3), (K 6), (K 5), (K 1)], .rw 1 [(K 7)], .dead, .rw 1 [(K 6)], .dead, .rw 1 [(K 2)], .rw 1 [(K 7), (K 6), (K 2)], .rw 1 [(K 5)], .dead, .rw 1 [(K 9)], .dead, .rw 1 [(K 8)], .dead, .rw 1 [(K 0)], .dead, .rw 1 [(K 1)], .rw 1 [(K 5), (K 9), (K 8), (K 0), (K 1)], .rw 1 [(K 6)], .dead, .rw 1 [(K 10)], .dead, .rw 1 [(K 9)], .dead, .rw 1 [(K 4)], .dead, .rw 1 [(K 1)], .dead, .rw 1 [(K 2)], .rw 1 [(K 6), (K 10), (K 9), (K 4), (K 1), (K 2)]]
/-- coble/chart.Next, 3 ms -/
noncomputable def of118 : OF := ⟨(.func (.func 113) #[] #[]), [(.agg #[(K 4), (K 3), (V 1 0 12 12), (V 2 0 5 5), (V 3 0 5 5)]), (K 6), (K 0)], 222, hp89, ((.tuple #[(K 7), (K 0)]), hp89)⟩
theorem of118_ok : of118.Ok Tryz.prog pureF := apO_sound (T := sfTab) (O := ot117) (n := 100000) sfTab_ok ot117_ok (by kernel_rfl)
noncomputable def ol118 : OL := .cons of118 ol117
theorem ol118_ok : ol118.Ok Tryz.prog pureF := ⟨of118_ok, ol117_ok⟩
noncomputable def ot118 : OT := (.cons 113 ol118 (.cons 110 ol81 (.cons 36 ol80 (.cons 20 ol79 (.cons 84 ol78 (.cons 58 ol77 .nil))))))
theorem ot118_ok : ot118.Ok Tryz.prog pureF := ⟨ol118_ok, ⟨ol81_ok, ⟨ol80_ok, ⟨ol79_ok, ⟨ol78_ok, ⟨ol77_ok, trivial⟩⟩⟩⟩⟩⟩
noncomputable def hp90 : AH := (hp65.take 222) ++ [.rw 1 [(V 226 0 2 3), (V 234 0 4 5), (V 242 0 4 5), (V 248 0 3 4), (V 258 0 5 6), (V 270 0 6 7), (V 272 0 1 2), (E 0 0), (E 0 0), (E 0 0), (E 0 0), (E 0 0)], .rw 1 [(K 1)], .dead, .rw 1 [(K 4)], .rw 1 [(K 1), (K 4)], .rw 1 [(K 2)], .dead, .rw 1 [(K 5)], .dead, .rw 1 [(K 4)], .dead, .rw 1 [(K 0)], .rw 1 [(K 2), (K 5), (K 4), (K 0)], .rw 1 [(K 3)], .dead, .rw 1 [(K 6)], .dead, .rw 1 [(K 5)], .dead, .rw 1 [(K 1)], .rw 1 [(K 3), (K 6), (K 5), (K 1)], .rw 1 [(K 7)], .dead, .rw 1 [(K 6)], .dead, .rw 1 [(K 2)], .rw 1 [(K 7), (K 6), (K 2)], .rw 1 [(K 5)], .dead, .rw 1 [(K 9)], .dead, .rw 1 [(K 8)], .dead, .rw 1 [(K 0)], .dead, .rw 1 [(K 1)], .rw 1 [(K 5), (K 9), (K 8), (K 0), (K 1)], .rw 1 [(K 6)], .dead, .rw 1 [(K 10)], .dead, .rw 1 [(K 9)], .dead, .rw 1 [(K 4)], .dead, .rw 1 [(K 1)], .dead, .rw 1 [(K 2)], .rw 1 [(K 6), (K 10), (K 9), (K 4), (K 1), (K 2)], .rw 1 [(K 7)], .rw 1 [(K 7)]]
/-- coble/chart.Next, 3 ms -/
noncomputable def of119 : OF := ⟨(.func (.func 113) #[] #[]), [(.agg #[(K 4), (K 3), (V 1 0 12 12), (V 2 0 5 5), (V 3 0 5 5)]), (K 6), (K 1)], 222, hp90, ((.tuple #[(K 11), (K 0)]), hp90)⟩
theorem of119_ok : of119.Ok Tryz.prog pureF := apO_sound (T := sfTab) (O := ot118) (n := 100000) sfTab_ok ot118_ok (by kernel_rfl)
noncomputable def ol119 : OL := .cons of119 ol118
theorem ol119_ok : ol119.Ok Tryz.prog pureF := ⟨of119_ok, ol118_ok⟩
noncomputable def ot119 : OT := (.cons 113 ol119 (.cons 110 ol81 (.cons 36 ol80 (.cons 20 ol79 (.cons 84 ol78 (.cons 58 ol77 .nil))))))
theorem ot119_ok : ot119.Ok Tryz.prog pureF := ⟨ol119_ok, ⟨ol81_ok, ⟨ol80_ok, ⟨ol79_ok, ⟨ol78_ok, ⟨ol77_ok, trivial⟩⟩⟩⟩⟩⟩
noncomputable def hp91 : AH := (hp65.take 222) ++ [.rw 1 [(V 226 0 2 3), (V 234 0 4 5), (V 242 0 4 5), (V 248 0 3 4), (V 258 0 5 6), (V 270 0 6 7), (V 274 0 2 3), (E 0 0), (E 0 0), (E 0 0), (E 0 0), (E 0 0)], .rw 1 [(K 1)], .dead, .rw 1 [(K 4)], .rw 1 [(K 1), (K 4)], .rw 1 [(K 2)], .dead, .rw 1 [(K 5)], .dead, .rw 1 [(K 4)], .dead, .rw 1 [(K 0)], .rw 1 [(K 2), (K 5), (K 4), (K 0)], .rw 1 [(K 3)], .dead, .rw 1 [(K 6)], .dead, .rw 1 [(K 5)], .dead, .rw 1 [(K 1)], .rw 1 [(K 3), (K 6), (K 5), (K 1)], .rw 1 [(K 7)], .dead, .rw 1 [(K 6)], .dead, .rw 1 [(K 2)], .rw 1 [(K 7), (K 6), (K 2)], .rw 1 [(K 5)], .dead, .rw 1 [(K 9)], .dead, .rw 1 [(K 8)], .dead, .rw 1 [(K 0)], .dead, .rw 1 [(K 1)], .rw 1 [(K 5), (K 9), (K 8), (K 0), (K 1)], .rw 1 [(K 6)], .dead, .rw 1 [(K 10)], .dead, .rw 1 [(K 9)], .dead, .rw 1 [(K 4)], .dead, .rw 1 [(K 1)], .dead, .rw 1 [(K 2)], .rw 1 [(K 6), (K 10), (K 9), (K 4), (K 1), (K 2)], .rw 1 [(K 7)], .dead, .rw 1 [(K 11)], .rw 1 [(K 7), (K 11)]]
/-- coble/chart.Next, 3 ms -/
noncomputable def of120 : OF := ⟨(.func (.func 113) #[] #[]), [(.agg #[(K 4), (K 3), (V 1 0 12 12), (V 2 0 5 5), (V 3 0 5 5)]), (K 6), (K 2)], 222, hp91, ((.tuple #[(K 10), (K 0)]), hp91)⟩
theorem of120_ok : of120.Ok Tryz.prog pureF := apO_sound (T := sfTab) (O := ot119) (n := 100000) sfTab_ok ot119_ok (by kernel_rfl)
noncomputable def ol120 : OL := .cons of120 ol119
theorem ol120_ok : ol120.Ok Tryz.prog pureF := ⟨of120_ok, ol119_ok⟩
noncomputable def ot120 : OT := (.cons 113 ol120 (.cons 110 ol81 (.cons 36 ol80 (.cons 20 ol79 (.cons 84 ol78 (.cons 58 ol77 .nil))))))
theorem ot120_ok : ot120.Ok Tryz.prog pureF := ⟨ol120_ok, ⟨ol81_ok, ⟨ol80_ok, ⟨ol79_ok, ⟨ol78_ok, ⟨ol77_ok, trivial⟩⟩⟩⟩⟩⟩
noncomputable def hp92 : AH := (hp65.take 222) ++ [.rw 1 [(V 226 0 2 3), (V 234 0 4 5), (V 242 0 4 5), (V 248 0 3 4), (V 258 0 5 6), (V 270 0 6 7), (V 276 0 3 4), (E 0 0), (E 0 0), (E 0 0), (E 0 0), (E 0 0)], .rw 1 [(K 1)], .dead, .rw 1 [(K 4)], .rw 1 [(K 1), (K 4)], .rw 1 [(K 2)], .dead, .rw 1 [(K 5)], .dead, .rw 1 [(K 4)], .dead, .rw 1 [(K 0)], .rw 1 [(K 2), (K 5), (K 4), (K 0)], .rw 1 [(K 3)], .dead, .rw 1 [(K 6)], .dead, .rw 1 [(K 5)], .dead, .rw 1 [(K 1)], .rw 1 [(K 3), (K 6), (K 5), (K 1)], .rw 1 [(K 7)], .dead, .rw 1 [(K 6)], .dead, .rw 1 [(K 2)], .rw 1 [(K 7), (K 6), (K 2)], .rw 1 [(K 5)], .dead, .rw 1 [(K 9)], .dead, .rw 1 [(K 8)], .dead, .rw 1 [(K 0)], .dead, .rw 1 [(K 1)], .rw 1 [(K 5), (K 9), (K 8), (K 0), (K 1)], .rw 1 [(K 6)], .dead, .rw 1 [(K 10)], .dead, .rw 1 [(K 9)], .dead, .rw 1 [(K 4)], .dead, .rw 1 [(K 1)], .dead, .rw 1 [(K 2)], .rw 1 [(K 6), (K 10), (K 9), (K 4), (K 1), (K 2)], .rw 1 [(K 7)], .dead, .rw 1 [(K 11)], .dead, .rw 1 [(K 10)], .rw 1 [(K 7), (K 11), (K 10)]]
/-- coble/chart.Next, 3 ms -/
noncomputable def of121 : OF := ⟨(.func (.func 113) #[] #[]), [(.agg #[(K 4), (K 3), (V 1 0 12 12), (V 2 0 5 5), (V 3 0 5 5)]), (K 6), (K 3)], 222, hp92, ((.tuple #[(K 5), (K 0)]), hp92)⟩
theorem of121_ok : of121.Ok Tryz.prog pureF := apO_sound (T := sfTab) (O := ot120) (n := 100000) sfTab_ok ot120_ok (by kernel_rfl)
noncomputable def ol121 : OL := .cons of121 ol120
theorem ol121_ok : ol121.Ok Tryz.prog pureF := ⟨of121_ok, ol120_ok⟩
noncomputable def ot121 : OT := (.cons 113 ol121 (.cons 110 ol81 (.cons 36 ol80 (.cons 20 ol79 (.cons 84 ol78 (.cons 58 ol77 .nil))))))
theorem ot121_ok : ot121.Ok Tryz.prog pureF := ⟨ol121_ok, ⟨ol81_ok, ⟨ol80_ok, ⟨ol79_ok, ⟨ol78_ok, ⟨ol77_ok, trivial⟩⟩⟩⟩⟩⟩
noncomputable def hp93 : AH := (hp65.take 222) ++ [.rw 1 [(V 226 0 2 3), (V 234 0 4 5), (V 242 0 4 5), (V 248 0 3 4), (V 258 0 5 6), (V 270 0 6 7), (V 278 0 4 5), (E 0 0), (E 0 0), (E 0 0), (E 0 0), (E 0 0)], .rw 1 [(K 1)], .dead, .rw 1 [(K 4)], .rw 1 [(K 1), (K 4)], .rw 1 [(K 2)], .dead, .rw 1 [(K 5)], .dead, .rw 1 [(K 4)], .dead, .rw 1 [(K 0)], .rw 1 [(K 2), (K 5), (K 4), (K 0)], .rw 1 [(K 3)], .dead, .rw 1 [(K 6)], .dead, .rw 1 [(K 5)], .dead, .rw 1 [(K 1)], .rw 1 [(K 3), (K 6), (K 5), (K 1)], .rw 1 [(K 7)], .dead, .rw 1 [(K 6)], .dead, .rw 1 [(K 2)], .rw 1 [(K 7), (K 6), (K 2)], .rw 1 [(K 5)], .dead, .rw 1 [(K 9)], .dead, .rw 1 [(K 8)], .dead, .rw 1 [(K 0)], .dead, .rw 1 [(K 1)], .rw 1 [(K 5), (K 9), (K 8), (K 0), (K 1)], .rw 1 [(K 6)], .dead, .rw 1 [(K 10)], .dead, .rw 1 [(K 9)], .dead, .rw 1 [(K 4)], .dead, .rw 1 [(K 1)], .dead, .rw 1 [(K 2)], .rw 1 [(K 6), (K 10), (K 9), (K 4), (K 1), (K 2)], .rw 1 [(K 7)], .dead, .rw 1 [(K 11)], .dead, .rw 1 [(K 10)], .dead, .rw 1 [(K 5)], .rw 1 [(K 7), (K 11), (K 10), (K 5)]]
/-- coble/chart.Next, 3 ms -/
noncomputable def of122 : OF := ⟨(.func (.func 113) #[] #[]), [(.agg #[(K 4), (K 3), (V 1 0 12 12), (V 2 0 5 5), (V 3 0 5 5)]), (K 6), (K 4)], 222, hp93, ((.tuple #[(K 2), (K 0)]), hp93)⟩
theorem of122_ok : of122.Ok Tryz.prog pureF := apO_sound (T := sfTab) (O := ot121) (n := 100000) sfTab_ok ot121_ok (by kernel_rfl)
noncomputable def ol122 : OL := .cons of122 ol121
theorem ol122_ok : ol122.Ok Tryz.prog pureF := ⟨of122_ok, ol121_ok⟩
noncomputable def ot122 : OT := (.cons 113 ol122 (.cons 110 ol81 (.cons 36 ol80 (.cons 20 ol79 (.cons 84 ol78 (.cons 58 ol77 .nil))))))
theorem ot122_ok : ot122.Ok Tryz.prog pureF := ⟨ol122_ok, ⟨ol81_ok, ⟨ol80_ok, ⟨ol79_ok, ⟨ol78_ok, ⟨ol77_ok, trivial⟩⟩⟩⟩⟩⟩
noncomputable def hp94 : AH := (hp65.take 222) ++ [.rw 1 [(V 226 0 2 3), (V 234 0 4 5), (V 242 0 4 5), (V 248 0 3 4), (V 258 0 5 6), (V 270 0 6 7), (V 280 0 5 6), (E 0 0), (E 0 0), (E 0 0), (E 0 0), (E 0 0)], .rw 1 [(K 1)], .dead, .rw 1 [(K 4)], .rw 1 [(K 1), (K 4)], .rw 1 [(K 2)], .dead, .rw 1 [(K 5)], .dead, .rw 1 [(K 4)], .dead, .rw 1 [(K 0)], .rw 1 [(K 2), (K 5), (K 4), (K 0)], .rw 1 [(K 3)], .dead, .rw 1 [(K 6)], .dead, .rw 1 [(K 5)], .dead, .rw 1 [(K 1)], .rw 1 [(K 3), (K 6), (K 5), (K 1)], .rw 1 [(K 7)], .dead, .rw 1 [(K 6)], .dead, .rw 1 [(K 2)], .rw 1 [(K 7), (K 6), (K 2)], .rw 1 [(K 5)], .dead, .rw 1 [(K 9)], .dead, .rw 1 [(K 8)], .dead, .rw 1 [(K 0)], .dead, .rw 1 [(K 1)], .rw 1 [(K 5), (K 9), (K 8), (K 0), (K 1)], .rw 1 [(K 6)], .dead, .rw 1 [(K 10)], .dead, .rw 1 [(K 9)], .dead, .rw 1 [(K 4)], .dead, .rw 1 [(K 1)], .dead, .rw 1 [(K 2)], .rw 1 [(K 6), (K 10), (K 9), (K 4), (K 1), (K 2)], .rw 1 [(K 7)], .dead, .rw 1 [(K 11)], .dead, .rw 1 [(K 10)], .dead, .rw 1 [(K 5)], .dead, .rw 1 [(K 2)], .rw 1 [(K 7), (K 11), (K 10), (K 5), (K 2)]]
/-- coble/chart.Next, 3 ms -/
noncomputable def of123 : OF := ⟨(.func (.func 113) #[] #[]), [(.agg #[(K 4), (K 3), (V 1 0 12 12), (V 2 0 5 5), (V 3 0 5 5)]), (K 6), (K 5)], 222, hp94, ((.tuple #[(K 3), (K 0)]), hp94)⟩
theorem of123_ok : of123.Ok Tryz.prog pureF := apO_sound (T := sfTab) (O := ot122) (n := 100000) sfTab_ok ot122_ok (by kernel_rfl)
noncomputable def ol123 : OL := .cons of123 ol122
theorem ol123_ok : ol123.Ok Tryz.prog pureF := ⟨of123_ok, ol122_ok⟩
noncomputable def ot123 : OT := (.cons 113 ol123 (.cons 110 ol81 (.cons 36 ol80 (.cons 20 ol79 (.cons 84 ol78 (.cons 58 ol77 .nil))))))
theorem ot123_ok : ot123.Ok Tryz.prog pureF := ⟨ol123_ok, ⟨ol81_ok, ⟨ol80_ok, ⟨ol79_ok, ⟨ol78_ok, ⟨ol77_ok, trivial⟩⟩⟩⟩⟩⟩
noncomputable def hp95 : AH := (hp65.take 222) ++ [.rw 1 [(V 226 0 2 3), (V 234 0 4 5), (V 242 0 4 5), (V 248 0 3 4), (V 258 0 5 6), (V 270 0 6 7), (V 282 0 6 7), (E 0 0), (E 0 0), (E 0 0), (E 0 0), (E 0 0)], .rw 1 [(K 1)], .dead, .rw 1 [(K 4)], .rw 1 [(K 1), (K 4)], .rw 1 [(K 2)], .dead, .rw 1 [(K 5)], .dead, .rw 1 [(K 4)], .dead, .rw 1 [(K 0)], .rw 1 [(K 2), (K 5), (K 4), (K 0)], .rw 1 [(K 3)], .dead, .rw 1 [(K 6)], .dead, .rw 1 [(K 5)], .dead, .rw 1 [(K 1)], .rw 1 [(K 3), (K 6), (K 5), (K 1)], .rw 1 [(K 7)], .dead, .rw 1 [(K 6)], .dead, .rw 1 [(K 2)], .rw 1 [(K 7), (K 6), (K 2)], .rw 1 [(K 5)], .dead, .rw 1 [(K 9)], .dead, .rw 1 [(K 8)], .dead, .rw 1 [(K 0)], .dead, .rw 1 [(K 1)], .rw 1 [(K 5), (K 9), (K 8), (K 0), (K 1)], .rw 1 [(K 6)], .dead, .rw 1 [(K 10)], .dead, .rw 1 [(K 9)], .dead, .rw 1 [(K 4)], .dead, .rw 1 [(K 1)], .dead, .rw 1 [(K 2)], .rw 1 [(K 6), (K 10), (K 9), (K 4), (K 1), (K 2)], .rw 1 [(K 7)], .dead, .rw 1 [(K 11)], .dead, .rw 1 [(K 10)], .dead, .rw 1 [(K 5)], .dead, .rw 1 [(K 2)], .dead, .rw 1 [(K 3)], .rw 1 [(K 7), (K 11), (K 10), (K 5), (K 2), (K 3)]]
/-- coble/chart.Next, 3 ms -/
noncomputable def of124 : OF := ⟨(.func (.func 113) #[] #[]), [(.agg #[(K 4), (K 3), (V 1 0 12 12), (V 2 0 5 5), (V 3 0 5 5)]), (K 7), (K 0)], 222, hp95, ((.tuple #[(K 0), (K 3)]), hp95)⟩
theorem of124_ok : of124.Ok Tryz.prog pureF := apO_sound (T := sfTab) (O := ot123) (n := 100000) sfTab_ok ot123_ok (by kernel_rfl)
noncomputable def ol124 : OL := .cons of124 ol123
theorem ol124_ok : ol124.Ok Tryz.prog pureF := ⟨of124_ok, ol123_ok⟩
noncomputable def ot124 : OT := (.cons 113 ol124 (.cons 110 ol81 (.cons 36 ol80 (.cons 20 ol79 (.cons 84 ol78 (.cons 58 ol77 .nil))))))
theorem ot124_ok : ot124.Ok Tryz.prog pureF := ⟨ol124_ok, ⟨ol81_ok, ⟨ol80_ok, ⟨ol79_ok, ⟨ol78_ok, ⟨ol77_ok, trivial⟩⟩⟩⟩⟩⟩
/-- coble/chart.Next, 3 ms -/
noncomputable def of125 : OF := ⟨(.func (.func 113) #[] #[]), [(.agg #[(K 4), (K 3), (V 1 0 12 12), (V 2 0 5 5), (V 3 0 5 5)]), (K 7), (K 1)], 222, hp95, ((.tuple #[(K 0), (K 3)]), hp95)⟩
theorem of125_ok : of125.Ok Tryz.prog pureF := apO_sound (T := sfTab) (O := ot124) (n := 100000) sfTab_ok ot124_ok (by kernel_rfl)
noncomputable def ol125 : OL := .cons of125 ol124
theorem ol125_ok : ol125.Ok Tryz.prog pureF := ⟨of125_ok, ol124_ok⟩
noncomputable def ot125 : OT := (.cons 113 ol125 (.cons 110 ol81 (.cons 36 ol80 (.cons 20 ol79 (.cons 84 ol78 (.cons 58 ol77 .nil))))))
theorem ot125_ok : ot125.Ok Tryz.prog pureF := ⟨ol125_ok, ⟨ol81_ok, ⟨ol80_ok, ⟨ol79_ok, ⟨ol78_ok, ⟨ol77_ok, trivial⟩⟩⟩⟩⟩⟩
/-- coble/chart.Next, 3 ms -/
noncomputable def of126 : OF := ⟨(.func (.func 113) #[] #[]), [(.agg #[(K 4), (K 3), (V 1 0 12 12), (V 2 0 5 5), (V 3 0 5 5)]), (K 7), (K 2)], 222, hp95, ((.tuple #[(K 11), (K 0)]), hp95)⟩
theorem of126_ok : of126.Ok Tryz.prog pureF := apO_sound (T := sfTab) (O := ot125) (n := 100000) sfTab_ok ot125_ok (by kernel_rfl)
noncomputable def ol126 : OL := .cons of126 ol125
theorem ol126_ok : ol126.Ok Tryz.prog pureF := ⟨of126_ok, ol125_ok⟩
noncomputable def ot126 : OT := (.cons 113 ol126 (.cons 110 ol81 (.cons 36 ol80 (.cons 20 ol79 (.cons 84 ol78 (.cons 58 ol77 .nil))))))
theorem ot126_ok : ot126.Ok Tryz.prog pureF := ⟨ol126_ok, ⟨ol81_ok, ⟨ol80_ok, ⟨ol79_ok, ⟨ol78_ok, ⟨ol77_ok, trivial⟩⟩⟩⟩⟩⟩
noncomputable def hp96 : AH := (hp65.take 222) ++ [.rw 1 [(V 226 0 2 3), (V 234 0 4 5), (V 242 0 4 5), (V 248 0 3 4), (V 258 0 5 6), (V 270 0 6 7), (V 282 0 6 7), (V 284 0 1 2), (E 0 0), (E 0 0), (E 0 0), (E 0 0)], .rw 1 [(K 1)], .dead, .rw 1 [(K 4)], .rw 1 [(K 1), (K 4)], .rw 1 [(K 2)], .dead, .rw 1 [(K 5)], .dead, .rw 1 [(K 4)], .dead, .rw 1 [(K 0)], .rw 1 [(K 2), (K 5), (K 4), (K 0)], .rw 1 [(K 3)], .dead, .rw 1 [(K 6)], .dead, .rw 1 [(K 5)], .dead, .rw 1 [(K 1)], .rw 1 [(K 3), (K 6), (K 5), (K 1)], .rw 1 [(K 7)], .dead, .rw 1 [(K 6)], .dead, .rw 1 [(K 2)], .rw 1 [(K 7), (K 6), (K 2)], .rw 1 [(K 5)], .dead, .rw 1 [(K 9)], .dead, .rw 1 [(K 8)], .dead, .rw 1 [(K 0)], .dead, .rw 1 [(K 1)], .rw 1 [(K 5), (K 9), (K 8), (K 0), (K 1)], .rw 1 [(K 6)], .dead, .rw 1 [(K 10)], .dead, .rw 1 [(K 9)], .dead, .rw 1 [(K 4)], .dead, .rw 1 [(K 1)], .dead, .rw 1 [(K 2)], .rw 1 [(K 6), (K 10), (K 9), (K 4), (K 1), (K 2)], .rw 1 [(K 7)], .dead, .rw 1 [(K 11)], .dead, .rw 1 [(K 10)], .dead, .rw 1 [(K 5)], .dead, .rw 1 [(K 2)], .dead, .rw 1 [(K 3)], .rw 1 [(K 7), (K 11), (K 10), (K 5), (K 2), (K 3)], .rw 1 [(K 11)], .rw 1 [(K 11)]]
/-- coble/chart.Next, 3 ms -/
noncomputable def of127 : OF := ⟨(.func (.func 113) #[] #[]), [(.agg #[(K 4), (K 3), (V 1 0 12 12), (V 2 0 5 5), (V 3 0 5 5)]), (K 7), (K 3)], 222, hp96, ((.tuple #[(K 6), (K 0)]), hp96)⟩
theorem of127_ok : of127.Ok Tryz.prog pureF := apO_sound (T := sfTab) (O := ot126) (n := 100000) sfTab_ok ot126_ok (by kernel_rfl)
noncomputable def ol127 : OL := .cons of127 ol126
theorem ol127_ok : ol127.Ok Tryz.prog pureF := ⟨of127_ok, ol126_ok⟩
noncomputable def ot127 : OT := (.cons 113 ol127 (.cons 110 ol81 (.cons 36 ol80 (.cons 20 ol79 (.cons 84 ol78 (.cons 58 ol77 .nil))))))
theorem ot127_ok : ot127.Ok Tryz.prog pureF := ⟨ol127_ok, ⟨ol81_ok, ⟨ol80_ok, ⟨ol79_ok, ⟨ol78_ok, ⟨ol77_ok, trivial⟩⟩⟩⟩⟩⟩
end Go.Proofs.YtnpifaanhofonaaGreatDoor
