/- A run of the program without arguments, piece by piece: computed by the kernel. Printed by tools/pieces.py. -/
import Derived.Test.YtnpifaanhofonaaGreatDoorPieF
import Derived.Test.YtnpifaanhofonaaGreatDoorTab
set_option linter.all false
set_option maxRecDepth 100000
namespace Go.Proofs.YtnpifaanhofonaaGreatDoor
open Go
noncomputable def hp73 : AH := (hp65.take 222) ++ [.rw 1 [(V 226 0 2 3), (V 234 0 4 5), (V 238 0 2 3), (E 0 0), (E 0 0), (E 0 0), (E 0 0), (E 0 0), (E 0 0), (E 0 0), (E 0 0), (E 0 0)], .rw 1 [(K 1)], .dead, .rw 1 [(K 4)], .rw 1 [(K 1), (K 4)], .rw 1 [(K 2)], .dead, .rw 1 [(K 5)], .dead, .rw 1 [(K 4)], .dead, .rw 1 [(K 0)], .rw 1 [(K 2), (K 5), (K 4), (K 0)], .rw 1 [(K 3)], .dead, .rw 1 [(K 6)], .rw 1 [(K 3), (K 6)]]
/-- coble/chart.Next, 3 ms -/
noncomputable def of96 : OF := ⟨(.func (.func 113) #[] #[]), [(.agg #[(K 4), (K 3), (V 1 0 12 12), (V 2 0 5 5), (V 3 0 5 5)]), (K 2), (K 2)], 222, hp73, ((.tuple #[(K 5), (K 0)]), hp73)⟩
theorem of96_ok : of96.Ok Tryz.prog pureF := apO_sound (T := sfTab) (O := ot95) (n := 100000) sfTab_ok ot95_ok (by kernel_rfl)
noncomputable def ol96 : OL := .cons of96 ol95
theorem ol96_ok : ol96.Ok Tryz.prog pureF := ⟨of96_ok, ol95_ok⟩
noncomputable def ot96 : OT := (.cons 113 ol96 (.cons 110 ol81 (.cons 36 ol80 (.cons 20 ol79 (.cons 84 ol78 (.cons 58 ol77 .nil))))))
theorem ot96_ok : ot96.Ok Tryz.prog pureF := ⟨ol96_ok, ⟨ol81_ok, ⟨ol80_ok, ⟨ol79_ok, ⟨ol78_ok, ⟨ol77_ok, trivial⟩⟩⟩⟩⟩⟩
noncomputable def hp74 : AH := (hp65.take 222) ++ [.rw 1 [(V 226 0 2 3), (V 234 0 4 5), (V 240 0 3 4), (E 0 0), (E 0 0), (E 0 0), (E 0 0), (E 0 0), (E 0 0), (E 0 0), (E 0 0), (E 0 0)], .rw 1 [(K 1)], .dead, .rw 1 [(K 4)], .rw 1 [(K 1), (K 4)], .rw 1 [(K 2)], .dead, .rw 1 [(K 5)], .dead, .rw 1 [(K 4)], .dead, .rw 1 [(K 0)], .rw 1 [(K 2), (K 5), (K 4), (K 0)], .rw 1 [(K 3)], .dead, .rw 1 [(K 6)], .dead, .rw 1 [(K 5)], .rw 1 [(K 3), (K 6), (K 5)]]
/-- coble/chart.Next, 3 ms -/
noncomputable def of97 : OF := ⟨(.func (.func 113) #[] #[]), [(.agg #[(K 4), (K 3), (V 1 0 12 12), (V 2 0 5 5), (V 3 0 5 5)]), (K 2), (K 3)], 222, hp74, ((.tuple #[(K 1), (K 0)]), hp74)⟩
theorem of97_ok : of97.Ok Tryz.prog pureF := apO_sound (T := sfTab) (O := ot96) (n := 100000) sfTab_ok ot96_ok (by kernel_rfl)
noncomputable def ol97 : OL := .cons of97 ol96
theorem ol97_ok : ol97.Ok Tryz.prog pureF := ⟨of97_ok, ol96_ok⟩
noncomputable def ot97 : OT := (.cons 113 ol97 (.cons 110 ol81 (.cons 36 ol80 (.cons 20 ol79 (.cons 84 ol78 (.cons 58 ol77 .nil))))))
theorem ot97_ok : ot97.Ok Tryz.prog pureF := ⟨ol97_ok, ⟨ol81_ok, ⟨ol80_ok, ⟨ol79_ok, ⟨ol78_ok, ⟨ol77_ok, trivial⟩⟩⟩⟩⟩⟩
noncomputable def hp75 : AH := (hp65.take 222) ++ [.rw 1 [(V 226 0 2 3), (V 234 0 4 5), (V 242 0 4 5), (E 0 0), (E 0 0), (E 0 0), (E 0 0), (E 0 0), (E 0 0), (E 0 0), (E 0 0), (E 0 0)], .rw 1 [(K 1)], .dead, .rw 1 [(K 4)], .rw 1 [(K 1), (K 4)], .rw 1 [(K 2)], .dead, .rw 1 [(K 5)], .dead, .rw 1 [(K 4)], .dead, .rw 1 [(K 0)], .rw 1 [(K 2), (K 5), (K 4), (K 0)], .rw 1 [(K 3)], .dead, .rw 1 [(K 6)], .dead, .rw 1 [(K 5)], .dead, .rw 1 [(K 1)], .rw 1 [(K 3), (K 6), (K 5), (K 1)]]
/-- coble/chart.Next, 3 ms -/
noncomputable def of98 : OF := ⟨(.func (.func 113) #[] #[]), [(.agg #[(K 4), (K 3), (V 1 0 12 12), (V 2 0 5 5), (V 3 0 5 5)]), (K 2), (K 4)], 222, hp75, ((.tuple #[(K 0), (K 3)]), hp75)⟩
theorem of98_ok : of98.Ok Tryz.prog pureF := apO_sound (T := sfTab) (O := ot97) (n := 100000) sfTab_ok ot97_ok (by kernel_rfl)
noncomputable def ol98 : OL := .cons of98 ol97
theorem ol98_ok : ol98.Ok Tryz.prog pureF := ⟨of98_ok, ol97_ok⟩
noncomputable def ot98 : OT := (.cons 113 ol98 (.cons 110 ol81 (.cons 36 ol80 (.cons 20 ol79 (.cons 84 ol78 (.cons 58 ol77 .nil))))))
theorem ot98_ok : ot98.Ok Tryz.prog pureF := ⟨ol98_ok, ⟨ol81_ok, ⟨ol80_ok, ⟨ol79_ok, ⟨ol78_ok, ⟨ol77_ok, trivial⟩⟩⟩⟩⟩⟩
/-- coble/chart.Next, 3 ms -/
noncomputable def of99 : OF := ⟨(.func (.func 113) #[] #[]), [(.agg #[(K 4), (K 3), (V 1 0 12 12), (V 2 0 5 5), (V 3 0 5 5)]), (K 2), (K 5)], 222, hp75, ((.tuple #[(K 0), (K 3)]), hp75)⟩
theorem of99_ok : of99.Ok Tryz.prog pureF := apO_sound (T := sfTab) (O := ot98) (n := 100000) sfTab_ok ot98_ok (by kernel_rfl)
noncomputable def ol99 : OL := .cons of99 ol98
theorem ol99_ok : ol99.Ok Tryz.prog pureF := ⟨of99_ok, ol98_ok⟩
noncomputable def ot99 : OT := (.cons 113 ol99 (.cons 110 ol81 (.cons 36 ol80 (.cons 20 ol79 (.cons 84 ol78 (.cons 58 ol77 .nil))))))
theorem ot99_ok : ot99.Ok Tryz.prog pureF := ⟨ol99_ok, ⟨ol81_ok, ⟨ol80_ok, ⟨ol79_ok, ⟨ol78_ok, ⟨ol77_ok, trivial⟩⟩⟩⟩⟩⟩
/-- coble/chart.Next, 3 ms -/
noncomputable def of100 : OF := ⟨(.func (.func 113) #[] #[]), [(.agg #[(K 4), (K 3), (V 1 0 12 12), (V 2 0 5 5), (V 3 0 5 5)]), (K 3), (K 0)], 222, hp75, ((.tuple #[(K 0), (K 3)]), hp75)⟩
theorem of100_ok : of100.Ok Tryz.prog pureF := apO_sound (T := sfTab) (O := ot99) (n := 100000) sfTab_ok ot99_ok (by kernel_rfl)
noncomputable def ol100 : OL := .cons of100 ol99
theorem ol100_ok : ol100.Ok Tryz.prog pureF := ⟨of100_ok, ol99_ok⟩
noncomputable def ot100 : OT := (.cons 113 ol100 (.cons 110 ol81 (.cons 36 ol80 (.cons 20 ol79 (.cons 84 ol78 (.cons 58 ol77 .nil))))))
theorem ot100_ok : ot100.Ok Tryz.prog pureF := ⟨ol100_ok, ⟨ol81_ok, ⟨ol80_ok, ⟨ol79_ok, ⟨ol78_ok, ⟨ol77_ok, trivial⟩⟩⟩⟩⟩⟩
/-- coble/chart.Next, 3 ms -/
noncomputable def of101 : OF := ⟨(.func (.func 113) #[] #[]), [(.agg #[(K 4), (K 3), (V 1 0 12 12), (V 2 0 5 5), (V 3 0 5 5)]), (K 3), (K 1)], 222, hp75, ((.tuple #[(K 7), (K 0)]), hp75)⟩
theorem of101_ok : of101.Ok Tryz.prog pureF := apO_sound (T := sfTab) (O := ot100) (n := 100000) sfTab_ok ot100_ok (by kernel_rfl)
noncomputable def ol101 : OL := .cons of101 ol100
theorem ol101_ok : ol101.Ok Tryz.prog pureF := ⟨of101_ok, ol100_ok⟩
noncomputable def ot101 : OT := (.cons 113 ol101 (.cons 110 ol81 (.cons 36 ol80 (.cons 20 ol79 (.cons 84 ol78 (.cons 58 ol77 .nil))))))
theorem ot101_ok : ot101.Ok Tryz.prog pureF := ⟨ol101_ok, ⟨ol81_ok, ⟨ol80_ok, ⟨ol79_ok, ⟨ol78_ok, ⟨ol77_ok, trivial⟩⟩⟩⟩⟩⟩
noncomputable def hp76 : AH := (hp65.take 222) ++ [.rw 1 [(V 226 0 2 3), (V 234 0 4 5), (V 242 0 4 5), (V 244 0 1 2), (E 0 0), (E 0 0), (E 0 0), (E 0 0), (E 0 0), (E 0 0), (E 0 0), (E 0 0)], .rw 1 [(K 1)], .dead, .rw 1 [(K 4)], .rw 1 [(K 1), (K 4)], .rw 1 [(K 2)], .dead, .rw 1 [(K 5)], .dead, .rw 1 [(K 4)], .dead, .rw 1 [(K 0)], .rw 1 [(K 2), (K 5), (K 4), (K 0)], .rw 1 [(K 3)], .dead, .rw 1 [(K 6)], .dead, .rw 1 [(K 5)], .dead, .rw 1 [(K 1)], .rw 1 [(K 3), (K 6), (K 5), (K 1)], .rw 1 [(K 7)], .rw 1 [(K 7)]]
/-- coble/chart.Next, 3 ms -/
noncomputable def of102 : OF := ⟨(.func (.func 113) #[] #[]), [(.agg #[(K 4), (K 3), (V 1 0 12 12), (V 2 0 5 5), (V 3 0 5 5)]), (K 3), (K 2)], 222, hp76, ((.tuple #[(K 6), (K 0)]), hp76)⟩
theorem of102_ok : of102.Ok Tryz.prog pureF := apO_sound (T := sfTab) (O := ot101) (n := 100000) sfTab_ok ot101_ok (by kernel_rfl)
noncomputable def ol102 : OL := .cons of102 ol101
theorem ol102_ok : ol102.Ok Tryz.prog pureF := ⟨of102_ok, ol101_ok⟩
noncomputable def ot102 : OT := (.cons 113 ol102 (.cons 110 ol81 (.cons 36 ol80 (.cons 20 ol79 (.cons 84 ol78 (.cons 58 ol77 .nil))))))
theorem ot102_ok : ot102.Ok Tryz.prog pureF := ⟨ol102_ok, ⟨ol81_ok, ⟨ol80_ok, ⟨ol79_ok, ⟨ol78_ok, ⟨ol77_ok, trivial⟩⟩⟩⟩⟩⟩
noncomputable def hp77 : AH := (hp65.take 222) ++ [.rw 1 [(V 226 0 2 3), (V 234 0 4 5), (V 242 0 4 5), (V 246 0 2 3), (E 0 0), (E 0 0), (E 0 0), (E 0 0), (E 0 0), (E 0 0), (E 0 0), (E 0 0)], .rw 1 [(K 1)], .dead, .rw 1 [(K 4)], .rw 1 [(K 1), (K 4)], .rw 1 [(K 2)], .dead, .rw 1 [(K 5)], .dead, .rw 1 [(K 4)], .dead, .rw 1 [(K 0)], .rw 1 [(K 2), (K 5), (K 4), (K 0)], .rw 1 [(K 3)], .dead, .rw 1 [(K 6)], .dead, .rw 1 [(K 5)], .dead, .rw 1 [(K 1)], .rw 1 [(K 3), (K 6), (K 5), (K 1)], .rw 1 [(K 7)], .dead, .rw 1 [(K 6)], .rw 1 [(K 7), (K 6)]]
/-- coble/chart.Next, 3 ms -/
noncomputable def of103 : OF := ⟨(.func (.func 113) #[] #[]), [(.agg #[(K 4), (K 3), (V 1 0 12 12), (V 2 0 5 5), (V 3 0 5 5)]), (K 3), (K 3)], 222, hp77, ((.tuple #[(K 2), (K 0)]), hp77)⟩
theorem of103_ok : of103.Ok Tryz.prog pureF := apO_sound (T := sfTab) (O := ot102) (n := 100000) sfTab_ok ot102_ok (by kernel_rfl)
noncomputable def ol103 : OL := .cons of103 ol102
theorem ol103_ok : ol103.Ok Tryz.prog pureF := ⟨of103_ok, ol102_ok⟩
noncomputable def ot103 : OT := (.cons 113 ol103 (.cons 110 ol81 (.cons 36 ol80 (.cons 20 ol79 (.cons 84 ol78 (.cons 58 ol77 .nil))))))
theorem ot103_ok : ot103.Ok Tryz.prog pureF := ⟨ol103_ok, ⟨ol81_ok, ⟨ol80_ok, ⟨ol79_ok, ⟨ol78_ok, ⟨ol77_ok, trivial⟩⟩⟩⟩⟩⟩
noncomputable def hp78 : AH := (hp65.take 222) ++ [.rw 1 [(V 226 0 2 3), (V 234 0 4 5), (V 242 0 4 5), (V 248 0 3 4), (E 0 0), (E 0 0), (E 0 0), (E 0 0), (E 0 0), (E 0 0), (E 0 0), (E 0 0)], .rw 1 [(K 1)], .dead, .rw 1 [(K 4)], .rw 1 [(K 1), (K 4)], .rw 1 [(K 2)], .dead, .rw 1 [(K 5)], .dead, .rw 1 [(K 4)], .dead, .rw 1 [(K 0)], .rw 1 [(K 2), (K 5), (K 4), (K 0)], .rw 1 [(K 3)], .dead, .rw 1 [(K 6)], .dead, .rw 1 [(K 5)], .dead, .rw 1 [(K 1)], .rw 1 [(K 3), (K 6), (K 5), (K 1)], .rw 1 [(K 7)], .dead, .rw 1 [(K 6)], .dead, .rw 1 [(K 2)], .rw 1 [(K 7), (K 6), (K 2)]]
/-- coble/chart.Next, 3 ms -/
noncomputable def of104 : OF := ⟨(.func (.func 113) #[] #[]), [(.agg #[(K 4), (K 3), (V 1 0 12 12), (V 2 0 5 5), (V 3 0 5 5)]), (K 3), (K 4)], 222, hp78, ((.tuple #[(K 0), (K 3)]), hp78)⟩
theorem of104_ok : of104.Ok Tryz.prog pureF := apO_sound (T := sfTab) (O := ot103) (n := 100000) sfTab_ok ot103_ok (by kernel_rfl)
noncomputable def ol104 : OL := .cons of104 ol103
theorem ol104_ok : ol104.Ok Tryz.prog pureF := ⟨of104_ok, ol103_ok⟩
noncomputable def ot104 : OT := (.cons 113 ol104 (.cons 110 ol81 (.cons 36 ol80 (.cons 20 ol79 (.cons 84 ol78 (.cons 58 ol77 .nil))))))
theorem ot104_ok : ot104.Ok Tryz.prog pureF := ⟨ol104_ok, ⟨ol81_ok, ⟨ol80_ok, ⟨ol79_ok, ⟨ol78_ok, ⟨ol77_ok, trivial⟩⟩⟩⟩⟩⟩
/-- coble/chart.Next, 3 ms -/
noncomputable def of105 : OF := ⟨(.func (.func 113) #[] #[]), [(.agg #[(K 4), (K 3), (V 1 0 12 12), (V 2 0 5 5), (V 3 0 5 5)]), (K 3), (K 5)], 222, hp78, ((.tuple #[(K 0), (K 3)]), hp78)⟩
theorem of105_ok : of105.Ok Tryz.prog pureF := apO_sound (T := sfTab) (O := ot104) (n := 100000) sfTab_ok ot104_ok (by kernel_rfl)
noncomputable def ol105 : OL := .cons of105 ol104
theorem ol105_ok : ol105.Ok Tryz.prog pureF := ⟨of105_ok, ol104_ok⟩
noncomputable def ot105 : OT := (.cons 113 ol105 (.cons 110 ol81 (.cons 36 ol80 (.cons 20 ol79 (.cons 84 ol78 (.cons 58 ol77 .nil))))))
theorem ot105_ok : ot105.Ok Tryz.prog pureF := ⟨ol105_ok, ⟨ol81_ok, ⟨ol80_ok, ⟨ol79_ok, ⟨ol78_ok, ⟨ol77_ok, trivial⟩⟩⟩⟩⟩⟩
/-- coble/chart.Next, 3 ms -/
noncomputable def of106 : OF := ⟨(.func (.func 113) #[] #[]), [(.agg #[(K 4), (K 3), (V 1 0 12 12), (V 2 0 5 5), (V 3 0 5 5)]), (K 4), (K 0)], 222, hp78, ((.tuple #[(K 5), (K 0)]), hp78)⟩
theorem of106_ok : of106.Ok Tryz.prog pureF := apO_sound (T := sfTab) (O := ot105) (n := 100000) sfTab_ok ot105_ok (by kernel_rfl)
noncomputable def ol106 : OL := .cons of106 ol105
theorem ol106_ok : ol106.Ok Tryz.prog pureF := ⟨of106_ok, ol105_ok⟩
noncomputable def ot106 : OT := (.cons 113 ol106 (.cons 110 ol81 (.cons 36 ol80 (.cons 20 ol79 (.cons 84 ol78 (.cons 58 ol77 .nil))))))
theorem ot106_ok : ot106.Ok Tryz.prog pureF := ⟨ol106_ok, ⟨ol81_ok, ⟨ol80_ok, ⟨ol79_ok, ⟨ol78_ok, ⟨ol77_ok, trivial⟩⟩⟩⟩⟩⟩
noncomputable def hp79 : AH := (hp65.take 222) ++ [.rw 1 [(V 226 0 2 3), (V 234 0 4 5), (V 242 0 4 5), (V 248 0 3 4), (V 250 0 1 2), (E 0 0), (E 0 0), (E 0 0), (E 0 0), (E 0 0), (E 0 0), (E 0 0)], .rw 1 [(K 1)], .dead, .rw 1 [(K 4)], .rw 1 [(K 1), (K 4)], .rw 1 [(K 2)], .dead, .rw 1 [(K 5)], .dead, .rw 1 [(K 4)], .dead, .rw 1 [(K 0)], .rw 1 [(K 2), (K 5), (K 4), (K 0)], .rw 1 [(K 3)], .dead, .rw 1 [(K 6)], .dead, .rw 1 [(K 5)], .dead, .rw 1 [(K 1)], .rw 1 [(K 3), (K 6), (K 5), (K 1)], .rw 1 [(K 7)], .dead, .rw 1 [(K 6)], .dead, .rw 1 [(K 2)], .rw 1 [(K 7), (K 6), (K 2)], .rw 1 [(K 5)], .rw 1 [(K 5)]]
/-- coble/chart.Next, 3 ms -/
noncomputable def of107 : OF := ⟨(.func (.func 113) #[] #[]), [(.agg #[(K 4), (K 3), (V 1 0 12 12), (V 2 0 5 5), (V 3 0 5 5)]), (K 4), (K 1)], 222, hp79, ((.tuple #[(K 9), (K 0)]), hp79)⟩
theorem of107_ok : of107.Ok Tryz.prog pureF := apO_sound (T := sfTab) (O := ot106) (n := 100000) sfTab_ok ot106_ok (by kernel_rfl)
noncomputable def ol107 : OL := .cons of107 ol106
theorem ol107_ok : ol107.Ok Tryz.prog pureF := ⟨of107_ok, ol106_ok⟩
noncomputable def ot107 : OT := (.cons 113 ol107 (.cons 110 ol81 (.cons 36 ol80 (.cons 20 ol79 (.cons 84 ol78 (.cons 58 ol77 .nil))))))
theorem ot107_ok : ot107.Ok Tryz.prog pureF := ⟨ol107_ok, ⟨ol81_ok, ⟨ol80_ok, ⟨ol79_ok, ⟨ol78_ok, ⟨ol77_ok, trivial⟩⟩⟩⟩⟩⟩
noncomputable def hp80 : AH := (hp65.take 222) ++ [.rw 1 [(V 226 0 2 3), (V 234 0 4 5), (V 242 0 4 5), (V 248 0 3 4), (V 252 0 2 3), (E 0 0), (E 0 0), (E 0 0), (E 0 0), (E 0 0), (E 0 0), (E 0 0)], .rw 1 [(K 1)], .dead, .rw 1 [(K 4)], .rw 1 [(K 1), (K 4)], .rw 1 [(K 2)], .dead, .rw 1 [(K 5)], .dead, .rw 1 [(K 4)], .dead, .rw 1 [(K 0)], .rw 1 [(K 2), (K 5), (K 4), (K 0)], .rw 1 [(K 3)], .dead, .rw 1 [(K 6)], .dead, .rw 1 [(K 5)], .dead, .rw 1 [(K 1)], .rw 1 [(K 3), (K 6), (K 5), (K 1)], .rw 1 [(K 7)], .dead, .rw 1 [(K 6)], .dead, .rw 1 [(K 2)], .rw 1 [(K 7), (K 6), (K 2)], .rw 1 [(K 5)], .dead, .rw 1 [(K 9)], .rw 1 [(K 5), (K 9)]]
/-- coble/chart.Next, 3 ms -/
noncomputable def of108 : OF := ⟨(.func (.func 113) #[] #[]), [(.agg #[(K 4), (K 3), (V 1 0 12 12), (V 2 0 5 5), (V 3 0 5 5)]), (K 4), (K 2)], 222, hp80, ((.tuple #[(K 8), (K 0)]), hp80)⟩
theorem of108_ok : of108.Ok Tryz.prog pureF := apO_sound (T := sfTab) (O := ot107) (n := 100000) sfTab_ok ot107_ok (by kernel_rfl)
noncomputable def ol108 : OL := .cons of108 ol107
theorem ol108_ok : ol108.Ok Tryz.prog pureF := ⟨of108_ok, ol107_ok⟩
noncomputable def ot108 : OT := (.cons 113 ol108 (.cons 110 ol81 (.cons 36 ol80 (.cons 20 ol79 (.cons 84 ol78 (.cons 58 ol77 .nil))))))
theorem ot108_ok : ot108.Ok Tryz.prog pureF := ⟨ol108_ok, ⟨ol81_ok, ⟨ol80_ok, ⟨ol79_ok, ⟨ol78_ok, ⟨ol77_ok, trivial⟩⟩⟩⟩⟩⟩
noncomputable def hp81 : AH := (hp65.take 222) ++ [.rw 1 [(V 226 0 2 3), (V 234 0 4 5), (V 242 0 4 5), (V 248 0 3 4), (V 254 0 3 4), (E 0 0), (E 0 0), (E 0 0), (E 0 0), (E 0 0), (E 0 0), (E 0 0)], .rw 1 [(K 1)], .dead, .rw 1 [(K 4)], .rw 1 [(K 1), (K 4)], .rw 1 [(K 2)], .dead, .rw 1 [(K 5)], .dead, .rw 1 [(K 4)], .dead, .rw 1 [(K 0)], .rw 1 [(K 2), (K 5), (K 4), (K 0)], .rw 1 [(K 3)], .dead, .rw 1 [(K 6)], .dead, .rw 1 [(K 5)], .dead, .rw 1 [(K 1)], .rw 1 [(K 3), (K 6), (K 5), (K 1)], .rw 1 [(K 7)], .dead, .rw 1 [(K 6)], .dead, .rw 1 [(K 2)], .rw 1 [(K 7), (K 6), (K 2)], .rw 1 [(K 5)], .dead, .rw 1 [(K 9)], .dead, .rw 1 [(K 8)], .rw 1 [(K 5), (K 9), (K 8)]]
/-- coble/chart.Next, 3 ms -/
noncomputable def of109 : OF := ⟨(.func (.func 113) #[] #[]), [(.agg #[(K 4), (K 3), (V 1 0 12 12), (V 2 0 5 5), (V 3 0 5 5)]), (K 4), (K 3)], 222, hp81, ((.tuple #[(K 0), (K 3)]), hp81)⟩
theorem of109_ok : of109.Ok Tryz.prog pureF := apO_sound (T := sfTab) (O := ot108) (n := 100000) sfTab_ok ot108_ok (by kernel_rfl)
noncomputable def ol109 : OL := .cons of109 ol108
theorem ol109_ok : ol109.Ok Tryz.prog pureF := ⟨of109_ok, ol108_ok⟩
noncomputable def ot109 : OT := (.cons 113 ol109 (.cons 110 ol81 (.cons 36 ol80 (.cons 20 ol79 (.cons 84 ol78 (.cons 58 ol77 .nil))))))
theorem ot109_ok : ot109.Ok Tryz.prog pureF := ⟨ol109_ok, ⟨ol81_ok, ⟨ol80_ok, ⟨ol79_ok, ⟨ol78_ok, ⟨ol77_ok, trivial⟩⟩⟩⟩⟩⟩
/-- coble/chart.Next, 3 ms -/
noncomputable def of110 : OF := ⟨(.func (.func 113) #[] #[]), [(.agg #[(K 4), (K 3), (V 1 0 12 12), (V 2 0 5 5), (V 3 0 5 5)]), (K 4), (K 4)], 222, hp81, ((.tuple #[(K 0), (K 0)]), hp81)⟩
theorem of110_ok : of110.Ok Tryz.prog pureF := apO_sound (T := sfTab) (O := ot109) (n := 100000) sfTab_ok ot109_ok (by kernel_rfl)
noncomputable def ol110 : OL := .cons of110 ol109
theorem ol110_ok : ol110.Ok Tryz.prog pureF := ⟨of110_ok, ol109_ok⟩
noncomputable def ot110 : OT := (.cons 113 ol110 (.cons 110 ol81 (.cons 36 ol80 (.cons 20 ol79 (.cons 84 ol78 (.cons 58 ol77 .nil))))))
theorem ot110_ok : ot110.Ok Tryz.prog pureF := ⟨ol110_ok, ⟨ol81_ok, ⟨ol80_ok, ⟨ol79_ok, ⟨ol78_ok, ⟨ol77_ok, trivial⟩⟩⟩⟩⟩⟩
noncomputable def hp82 : AH := (hp65.take 222) ++ [.rw 1 [(V 226 0 2 3), (V 234 0 4 5), (V 242 0 4 5), (V 248 0 3 4), (V 256 0 4 5), (E 0 0), (E 0 0), (E 0 0), (E 0 0), (E 0 0), (E 0 0), (E 0 0)], .rw 1 [(K 1)], .dead, .rw 1 [(K 4)], .rw 1 [(K 1), (K 4)], .rw 1 [(K 2)], .dead, .rw 1 [(K 5)], .dead, .rw 1 [(K 4)], .dead, .rw 1 [(K 0)], .rw 1 [(K 2), (K 5), (K 4), (K 0)], .rw 1 [(K 3)], .dead, .rw 1 [(K 6)], .dead, .rw 1 [(K 5)], .dead, .rw 1 [(K 1)], .rw 1 [(K 3), (K 6), (K 5), (K 1)], .rw 1 [(K 7)], .dead, .rw 1 [(K 6)], .dead, .rw 1 [(K 2)], .rw 1 [(K 7), (K 6), (K 2)], .rw 1 [(K 5)], .dead, .rw 1 [(K 9)], .dead, .rw 1 [(K 8)], .dead, .rw 1 [(K 0)], .rw 1 [(K 5), (K 9), (K 8), (K 0)]]
/-- coble/chart.Next, 3 ms -/
noncomputable def of111 : OF := ⟨(.func (.func 113) #[] #[]), [(.agg #[(K 4), (K 3), (V 1 0 12 12), (V 2 0 5 5), (V 3 0 5 5)]), (K 4), (K 5)], 222, hp82, ((.tuple #[(K 1), (K 0)]), hp82)⟩
theorem of111_ok : of111.Ok Tryz.prog pureF := apO_sound (T := sfTab) (O := ot110) (n := 100000) sfTab_ok ot110_ok (by kernel_rfl)
noncomputable def ol111 : OL := .cons of111 ol110
theorem ol111_ok : ol111.Ok Tryz.prog pureF := ⟨of111_ok, ol110_ok⟩
noncomputable def ot111 : OT := (.cons 113 ol111 (.cons 110 ol81 (.cons 36 ol80 (.cons 20 ol79 (.cons 84 ol78 (.cons 58 ol77 .nil))))))
theorem ot111_ok : ot111.Ok Tryz.prog pureF := ⟨ol111_ok, ⟨ol81_ok, ⟨ol80_ok, ⟨ol79_ok, ⟨ol78_ok, ⟨ol77_ok, trivial⟩⟩⟩⟩⟩⟩
end Go.Proofs.YtnpifaanhofonaaGreatDoor
