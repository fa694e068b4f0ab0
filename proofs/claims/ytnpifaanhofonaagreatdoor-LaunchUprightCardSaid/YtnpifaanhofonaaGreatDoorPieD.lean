/- A run of the program without arguments, piece by piece: computed by the kernel. Printed by tools/pieces.py. -/
import Derived.Test.YtnpifaanhofonaaGreatDoorPieC
import Derived.Test.YtnpifaanhofonaaGreatDoorTab
set_option linter.all false
set_option maxRecDepth 100000
namespace Go.Proofs.YtnpifaanhofonaaGreatDoor
open Go
noncomputable def hp37 : AH := (hp5.take 35) ++ [.rw 1 [(V 39 0 2 3), (V 47 0 4 5), (V 55 0 4 5), (V 61 0 3 4), (V 71 0 5 6), (V 83 0 6 7), (V 95 0 6 7), (V 99 0 2 3), (E 0 0), (E 0 0), (E 0 0), (E 0 0)], .rw 1 [(K 1)], .dead, .rw 1 [(K 4)], .rw 1 [(K 1), (K 4)], .rw 1 [(K 2)], .dead, .rw 1 [(K 5)], .dead, .rw 1 [(K 4)], .dead, .rw 1 [(K 0)], .rw 1 [(K 2), (K 5), (K 4), (K 0)], .rw 1 [(K 3)], .dead, .rw 1 [(K 6)], .dead, .rw 1 [(K 5)], .dead, .rw 1 [(K 1)], .rw 1 [(K 3), (K 6), (K 5), (K 1)], .rw 1 [(K 7)], .dead, .rw 1 [(K 6)], .dead, .rw 1 [(K 2)], .rw 1 [(K 7), (K 6), (K 2)], .rw 1 [(K 5)], .dead, .rw 1 [(K 9)], .dead, .rw 1 [(K 8)], .dead, .rw 1 [(K 0)], .dead, .rw 1 [(K 1)], .rw 1 [(K 5), (K 9), (K 8), (K 0), (K 1)], .rw 1 [(K 6)], .dead, .rw 1 [(K 10)], .dead, .rw 1 [(K 9)], .dead, .rw 1 [(K 4)], .dead, .rw 1 [(K 1)], .dead, .rw 1 [(K 2)], .rw 1 [(K 6), (K 10), (K 9), (K 4), (K 1), (K 2)], .rw 1 [(K 7)], .dead, .rw 1 [(K 11)], .dead, .rw 1 [(K 10)], .dead, .rw 1 [(K 5)], .dead, .rw 1 [(K 2)], .dead, .rw 1 [(K 3)], .rw 1 [(K 7), (K 11), (K 10), (K 5), (K 2), (K 3)], .rw 1 [(K 11)], .dead, .rw 1 [(K 6)], .rw 1 [(K 11), (K 6)]]
/-- coble/chart.Next, 3 ms -/
noncomputable def of48 : OF := ⟨(.func (.func 113) #[] #[]), [(.agg #[(K 4), (K 3), (V 1 0 12 12), (V 2 0 5 5), (V 3 0 5 5)]), (K 7), (K 4)], 35, hp37, ((.tuple #[(K 3), (K 0)]), hp37)⟩
theorem of48_ok : of48.Ok Tryz.prog pureF := apO_sound (T := sfTab) (O := ot47) (n := 100000) sfTab_ok ot47_ok (by kernel_rfl)
noncomputable def ol48 : OL := .cons of48 ol47
theorem ol48_ok : ol48.Ok Tryz.prog pureF := ⟨of48_ok, ol47_ok⟩
noncomputable def ot48 : OT := (.cons 113 ol48 (.cons 110 ol1 (.cons 36 ol0 .nil)))
theorem ot48_ok : ot48.Ok Tryz.prog pureF := ⟨ol48_ok, ⟨ol1_ok, ⟨ol0_ok, trivial⟩⟩⟩
noncomputable def hp38 : AH := (hp5.take 35) ++ [.rw 1 [(V 39 0 2 3), (V 47 0 4 5), (V 55 0 4 5), (V 61 0 3 4), (V 71 0 5 6), (V 83 0 6 7), (V 95 0 6 7), (V 101 0 3 4), (E 0 0), (E 0 0), (E 0 0), (E 0 0)], .rw 1 [(K 1)], .dead, .rw 1 [(K 4)], .rw 1 [(K 1), (K 4)], .rw 1 [(K 2)], .dead, .rw 1 [(K 5)], .dead, .rw 1 [(K 4)], .dead, .rw 1 [(K 0)], .rw 1 [(K 2), (K 5), (K 4), (K 0)], .rw 1 [(K 3)], .dead, .rw 1 [(K 6)], .dead, .rw 1 [(K 5)], .dead, .rw 1 [(K 1)], .rw 1 [(K 3), (K 6), (K 5), (K 1)], .rw 1 [(K 7)], .dead, .rw 1 [(K 6)], .dead, .rw 1 [(K 2)], .rw 1 [(K 7), (K 6), (K 2)], .rw 1 [(K 5)], .dead, .rw 1 [(K 9)], .dead, .rw 1 [(K 8)], .dead, .rw 1 [(K 0)], .dead, .rw 1 [(K 1)], .rw 1 [(K 5), (K 9), (K 8), (K 0), (K 1)], .rw 1 [(K 6)], .dead, .rw 1 [(K 10)], .dead, .rw 1 [(K 9)], .dead, .rw 1 [(K 4)], .dead, .rw 1 [(K 1)], .dead, .rw 1 [(K 2)], .rw 1 [(K 6), (K 10), (K 9), (K 4), (K 1), (K 2)], .rw 1 [(K 7)], .dead, .rw 1 [(K 11)], .dead, .rw 1 [(K 10)], .dead, .rw 1 [(K 5)], .dead, .rw 1 [(K 2)], .dead, .rw 1 [(K 3)], .rw 1 [(K 7), (K 11), (K 10), (K 5), (K 2), (K 3)], .rw 1 [(K 11)], .dead, .rw 1 [(K 6)], .dead, .rw 1 [(K 3)], .rw 1 [(K 11), (K 6), (K 3)]]
/-- coble/chart.Next, 3 ms -/
noncomputable def of49 : OF := ⟨(.func (.func 113) #[] #[]), [(.agg #[(K 4), (K 3), (V 1 0 12 12), (V 2 0 5 5), (V 3 0 5 5)]), (K 7), (K 5)], 35, hp38, ((.tuple #[(K 0), (K 3)]), hp38)⟩
theorem of49_ok : of49.Ok Tryz.prog pureF := apO_sound (T := sfTab) (O := ot48) (n := 100000) sfTab_ok ot48_ok (by kernel_rfl)
noncomputable def ol49 : OL := .cons of49 ol48
theorem ol49_ok : ol49.Ok Tryz.prog pureF := ⟨of49_ok, ol48_ok⟩
noncomputable def ot49 : OT := (.cons 113 ol49 (.cons 110 ol1 (.cons 36 ol0 .nil)))
theorem ot49_ok : ot49.Ok Tryz.prog pureF := ⟨ol49_ok, ⟨ol1_ok, ⟨ol0_ok, trivial⟩⟩⟩
/-- coble/chart.Next, 3 ms -/
noncomputable def of50 : OF := ⟨(.func (.func 113) #[] #[]), [(.agg #[(K 4), (K 3), (V 1 0 12 12), (V 2 0 5 5), (V 3 0 5 5)]), (K 8), (K 0)], 35, hp38, ((.tuple #[(K 9), (K 0)]), hp38)⟩
theorem of50_ok : of50.Ok Tryz.prog pureF := apO_sound (T := sfTab) (O := ot49) (n := 100000) sfTab_ok ot49_ok (by kernel_rfl)
noncomputable def ol50 : OL := .cons of50 ol49
theorem ol50_ok : ol50.Ok Tryz.prog pureF := ⟨of50_ok, ol49_ok⟩
noncomputable def ot50 : OT := (.cons 113 ol50 (.cons 110 ol1 (.cons 36 ol0 .nil)))
theorem ot50_ok : ot50.Ok Tryz.prog pureF := ⟨ol50_ok, ⟨ol1_ok, ⟨ol0_ok, trivial⟩⟩⟩
noncomputable def hp39 : AH := (hp5.take 35) ++ [.rw 1 [(V 39 0 2 3), (V 47 0 4 5), (V 55 0 4 5), (V 61 0 3 4), (V 71 0 5 6), (V 83 0 6 7), (V 95 0 6 7), (V 101 0 3 4), (V 103 0 1 2), (E 0 0), (E 0 0), (E 0 0)], .rw 1 [(K 1)], .dead, .rw 1 [(K 4)], .rw 1 [(K 1), (K 4)], .rw 1 [(K 2)], .dead, .rw 1 [(K 5)], .dead, .rw 1 [(K 4)], .dead, .rw 1 [(K 0)], .rw 1 [(K 2), (K 5), (K 4), (K 0)], .rw 1 [(K 3)], .dead, .rw 1 [(K 6)], .dead, .rw 1 [(K 5)], .dead, .rw 1 [(K 1)], .rw 1 [(K 3), (K 6), (K 5), (K 1)], .rw 1 [(K 7)], .dead, .rw 1 [(K 6)], .dead, .rw 1 [(K 2)], .rw 1 [(K 7), (K 6), (K 2)], .rw 1 [(K 5)], .dead, .rw 1 [(K 9)], .dead, .rw 1 [(K 8)], .dead, .rw 1 [(K 0)], .dead, .rw 1 [(K 1)], .rw 1 [(K 5), (K 9), (K 8), (K 0), (K 1)], .rw 1 [(K 6)], .dead, .rw 1 [(K 10)], .dead, .rw 1 [(K 9)], .dead, .rw 1 [(K 4)], .dead, .rw 1 [(K 1)], .dead, .rw 1 [(K 2)], .rw 1 [(K 6), (K 10), (K 9), (K 4), (K 1), (K 2)], .rw 1 [(K 7)], .dead, .rw 1 [(K 11)], .dead, .rw 1 [(K 10)], .dead, .rw 1 [(K 5)], .dead, .rw 1 [(K 2)], .dead, .rw 1 [(K 3)], .rw 1 [(K 7), (K 11), (K 10), (K 5), (K 2), (K 3)], .rw 1 [(K 11)], .dead, .rw 1 [(K 6)], .dead, .rw 1 [(K 3)], .rw 1 [(K 11), (K 6), (K 3)], .rw 1 [(K 9)], .rw 1 [(K 9)]]
/-- coble/chart.Next, 3 ms -/
noncomputable def of51 : OF := ⟨(.func (.func 113) #[] #[]), [(.agg #[(K 4), (K 3), (V 1 0 12 12), (V 2 0 5 5), (V 3 0 5 5)]), (K 8), (K 1)], 35, hp39, ((.tuple #[(K 0), (K 3)]), hp39)⟩
theorem of51_ok : of51.Ok Tryz.prog pureF := apO_sound (T := sfTab) (O := ot50) (n := 100000) sfTab_ok ot50_ok (by kernel_rfl)
noncomputable def ol51 : OL := .cons of51 ol50
theorem ol51_ok : ol51.Ok Tryz.prog pureF := ⟨of51_ok, ol50_ok⟩
noncomputable def ot51 : OT := (.cons 113 ol51 (.cons 110 ol1 (.cons 36 ol0 .nil)))
theorem ot51_ok : ot51.Ok Tryz.prog pureF := ⟨ol51_ok, ⟨ol1_ok, ⟨ol0_ok, trivial⟩⟩⟩
/-- coble/chart.Next, 3 ms -/
noncomputable def of52 : OF := ⟨(.func (.func 113) #[] #[]), [(.agg #[(K 4), (K 3), (V 1 0 12 12), (V 2 0 5 5), (V 3 0 5 5)]), (K 8), (K 2)], 35, hp39, ((.tuple #[(K 0), (K 3)]), hp39)⟩
theorem of52_ok : of52.Ok Tryz.prog pureF := apO_sound (T := sfTab) (O := ot51) (n := 100000) sfTab_ok ot51_ok (by kernel_rfl)
noncomputable def ol52 : OL := .cons of52 ol51
theorem ol52_ok : ol52.Ok Tryz.prog pureF := ⟨of52_ok, ol51_ok⟩
noncomputable def ot52 : OT := (.cons 113 ol52 (.cons 110 ol1 (.cons 36 ol0 .nil)))
theorem ot52_ok : ot52.Ok Tryz.prog pureF := ⟨ol52_ok, ⟨ol1_ok, ⟨ol0_ok, trivial⟩⟩⟩
/-- coble/chart.Next, 3 ms -/
noncomputable def of53 : OF := ⟨(.func (.func 113) #[] #[]), [(.agg #[(K 4), (K 3), (V 1 0 12 12), (V 2 0 5 5), (V 3 0 5 5)]), (K 8), (K 3)], 35, hp39, ((.tuple #[(K 0), (K 3)]), hp39)⟩
theorem of53_ok : of53.Ok Tryz.prog pureF := apO_sound (T := sfTab) (O := ot52) (n := 100000) sfTab_ok ot52_ok (by kernel_rfl)
noncomputable def ol53 : OL := .cons of53 ol52
theorem ol53_ok : ol53.Ok Tryz.prog pureF := ⟨of53_ok, ol52_ok⟩
noncomputable def ot53 : OT := (.cons 113 ol53 (.cons 110 ol1 (.cons 36 ol0 .nil)))
theorem ot53_ok : ot53.Ok Tryz.prog pureF := ⟨ol53_ok, ⟨ol1_ok, ⟨ol0_ok, trivial⟩⟩⟩
/-- coble/chart.Next, 3 ms -/
noncomputable def of54 : OF := ⟨(.func (.func 113) #[] #[]), [(.agg #[(K 4), (K 3), (V 1 0 12 12), (V 2 0 5 5), (V 3 0 5 5)]), (K 8), (K 4)], 35, hp39, ((.tuple #[(K 0), (K 3)]), hp39)⟩
theorem of54_ok : of54.Ok Tryz.prog pureF := apO_sound (T := sfTab) (O := ot53) (n := 100000) sfTab_ok ot53_ok (by kernel_rfl)
noncomputable def ol54 : OL := .cons of54 ol53
theorem ol54_ok : ol54.Ok Tryz.prog pureF := ⟨of54_ok, ol53_ok⟩
noncomputable def ot54 : OT := (.cons 113 ol54 (.cons 110 ol1 (.cons 36 ol0 .nil)))
theorem ot54_ok : ot54.Ok Tryz.prog pureF := ⟨ol54_ok, ⟨ol1_ok, ⟨ol0_ok, trivial⟩⟩⟩
/-- coble/chart.Next, 3 ms -/
noncomputable def of55 : OF := ⟨(.func (.func 113) #[] #[]), [(.agg #[(K 4), (K 3), (V 1 0 12 12), (V 2 0 5 5), (V 3 0 5 5)]), (K 8), (K 5)], 35, hp39, ((.tuple #[(K 4), (K 0)]), hp39)⟩
theorem of55_ok : of55.Ok Tryz.prog pureF := apO_sound (T := sfTab) (O := ot54) (n := 100000) sfTab_ok ot54_ok (by kernel_rfl)
noncomputable def ol55 : OL := .cons of55 ol54
theorem ol55_ok : ol55.Ok Tryz.prog pureF := ⟨of55_ok, ol54_ok⟩
noncomputable def ot55 : OT := (.cons 113 ol55 (.cons 110 ol1 (.cons 36 ol0 .nil)))
theorem ot55_ok : ot55.Ok Tryz.prog pureF := ⟨ol55_ok, ⟨ol1_ok, ⟨ol0_ok, trivial⟩⟩⟩
noncomputable def hp40 : AH := (hp5.take 35) ++ [.rw 1 [(V 39 0 2 3), (V 47 0 4 5), (V 55 0 4 5), (V 61 0 3 4), (V 71 0 5 6), (V 83 0 6 7), (V 95 0 6 7), (V 101 0 3 4), (V 105 0 2 3), (E 0 0), (E 0 0), (E 0 0)], .rw 1 [(K 1)], .dead, .rw 1 [(K 4)], .rw 1 [(K 1), (K 4)], .rw 1 [(K 2)], .dead, .rw 1 [(K 5)], .dead, .rw 1 [(K 4)], .dead, .rw 1 [(K 0)], .rw 1 [(K 2), (K 5), (K 4), (K 0)], .rw 1 [(K 3)], .dead, .rw 1 [(K 6)], .dead, .rw 1 [(K 5)], .dead, .rw 1 [(K 1)], .rw 1 [(K 3), (K 6), (K 5), (K 1)], .rw 1 [(K 7)], .dead, .rw 1 [(K 6)], .dead, .rw 1 [(K 2)], .rw 1 [(K 7), (K 6), (K 2)], .rw 1 [(K 5)], .dead, .rw 1 [(K 9)], .dead, .rw 1 [(K 8)], .dead, .rw 1 [(K 0)], .dead, .rw 1 [(K 1)], .rw 1 [(K 5), (K 9), (K 8), (K 0), (K 1)], .rw 1 [(K 6)], .dead, .rw 1 [(K 10)], .dead, .rw 1 [(K 9)], .dead, .rw 1 [(K 4)], .dead, .rw 1 [(K 1)], .dead, .rw 1 [(K 2)], .rw 1 [(K 6), (K 10), (K 9), (K 4), (K 1), (K 2)], .rw 1 [(K 7)], .dead, .rw 1 [(K 11)], .dead, .rw 1 [(K 10)], .dead, .rw 1 [(K 5)], .dead, .rw 1 [(K 2)], .dead, .rw 1 [(K 3)], .rw 1 [(K 7), (K 11), (K 10), (K 5), (K 2), (K 3)], .rw 1 [(K 11)], .dead, .rw 1 [(K 6)], .dead, .rw 1 [(K 3)], .rw 1 [(K 11), (K 6), (K 3)], .rw 1 [(K 9)], .dead, .rw 1 [(K 4)], .rw 1 [(K 9), (K 4)]]
/-- coble/chart.Next, 3 ms -/
noncomputable def of56 : OF := ⟨(.func (.func 113) #[] #[]), [(.agg #[(K 4), (K 3), (V 1 0 12 12), (V 2 0 5 5), (V 3 0 5 5)]), (K 9), (K 0)], 35, hp40, ((.tuple #[(K 10), (K 0)]), hp40)⟩
theorem of56_ok : of56.Ok Tryz.prog pureF := apO_sound (T := sfTab) (O := ot55) (n := 100000) sfTab_ok ot55_ok (by kernel_rfl)
noncomputable def ol56 : OL := .cons of56 ol55
theorem ol56_ok : ol56.Ok Tryz.prog pureF := ⟨of56_ok, ol55_ok⟩
noncomputable def ot56 : OT := (.cons 113 ol56 (.cons 110 ol1 (.cons 36 ol0 .nil)))
theorem ot56_ok : ot56.Ok Tryz.prog pureF := ⟨ol56_ok, ⟨ol1_ok, ⟨ol0_ok, trivial⟩⟩⟩
noncomputable def hp41 : AH := (hp5.take 35) ++ [.rw 1 [(V 39 0 2 3), (V 47 0 4 5), (V 55 0 4 5), (V 61 0 3 4), (V 71 0 5 6), (V 83 0 6 7), (V 95 0 6 7), (V 101 0 3 4), (V 105 0 2 3), (V 107 0 1 2), (E 0 0), (E 0 0)], .rw 1 [(K 1)], .dead, .rw 1 [(K 4)], .rw 1 [(K 1), (K 4)], .rw 1 [(K 2)], .dead, .rw 1 [(K 5)], .dead, .rw 1 [(K 4)], .dead, .rw 1 [(K 0)], .rw 1 [(K 2), (K 5), (K 4), (K 0)], .rw 1 [(K 3)], .dead, .rw 1 [(K 6)], .dead, .rw 1 [(K 5)], .dead, .rw 1 [(K 1)], .rw 1 [(K 3), (K 6), (K 5), (K 1)], .rw 1 [(K 7)], .dead, .rw 1 [(K 6)], .dead, .rw 1 [(K 2)], .rw 1 [(K 7), (K 6), (K 2)], .rw 1 [(K 5)], .dead, .rw 1 [(K 9)], .dead, .rw 1 [(K 8)], .dead, .rw 1 [(K 0)], .dead, .rw 1 [(K 1)], .rw 1 [(K 5), (K 9), (K 8), (K 0), (K 1)], .rw 1 [(K 6)], .dead, .rw 1 [(K 10)], .dead, .rw 1 [(K 9)], .dead, .rw 1 [(K 4)], .dead, .rw 1 [(K 1)], .dead, .rw 1 [(K 2)], .rw 1 [(K 6), (K 10), (K 9), (K 4), (K 1), (K 2)], .rw 1 [(K 7)], .dead, .rw 1 [(K 11)], .dead, .rw 1 [(K 10)], .dead, .rw 1 [(K 5)], .dead, .rw 1 [(K 2)], .dead, .rw 1 [(K 3)], .rw 1 [(K 7), (K 11), (K 10), (K 5), (K 2), (K 3)], .rw 1 [(K 11)], .dead, .rw 1 [(K 6)], .dead, .rw 1 [(K 3)], .rw 1 [(K 11), (K 6), (K 3)], .rw 1 [(K 9)], .dead, .rw 1 [(K 4)], .rw 1 [(K 9), (K 4)], .rw 1 [(K 10)], .rw 1 [(K 10)]]
/-- coble/chart.Next, 3 ms -/
noncomputable def of57 : OF := ⟨(.func (.func 113) #[] #[]), [(.agg #[(K 4), (K 3), (V 1 0 12 12), (V 2 0 5 5), (V 3 0 5 5)]), (K 9), (K 1)], 35, hp41, ((.tuple #[(K 0), (K 3)]), hp41)⟩
theorem of57_ok : of57.Ok Tryz.prog pureF := apO_sound (T := sfTab) (O := ot56) (n := 100000) sfTab_ok ot56_ok (by kernel_rfl)
noncomputable def ol57 : OL := .cons of57 ol56
theorem ol57_ok : ol57.Ok Tryz.prog pureF := ⟨of57_ok, ol56_ok⟩
noncomputable def ot57 : OT := (.cons 113 ol57 (.cons 110 ol1 (.cons 36 ol0 .nil)))
theorem ot57_ok : ot57.Ok Tryz.prog pureF := ⟨ol57_ok, ⟨ol1_ok, ⟨ol0_ok, trivial⟩⟩⟩
/-- coble/chart.Next, 3 ms -/
noncomputable def of58 : OF := ⟨(.func (.func 113) #[] #[]), [(.agg #[(K 4), (K 3), (V 1 0 12 12), (V 2 0 5 5), (V 3 0 5 5)]), (K 9), (K 2)], 35, hp41, ((.tuple #[(K 0), (K 3)]), hp41)⟩
theorem of58_ok : of58.Ok Tryz.prog pureF := apO_sound (T := sfTab) (O := ot57) (n := 100000) sfTab_ok ot57_ok (by kernel_rfl)
noncomputable def ol58 : OL := .cons of58 ol57
theorem ol58_ok : ol58.Ok Tryz.prog pureF := ⟨of58_ok, ol57_ok⟩
noncomputable def ot58 : OT := (.cons 113 ol58 (.cons 110 ol1 (.cons 36 ol0 .nil)))
theorem ot58_ok : ot58.Ok Tryz.prog pureF := ⟨ol58_ok, ⟨ol1_ok, ⟨ol0_ok, trivial⟩⟩⟩
/-- coble/chart.Next, 3 ms -/
noncomputable def of59 : OF := ⟨(.func (.func 113) #[] #[]), [(.agg #[(K 4), (K 3), (V 1 0 12 12), (V 2 0 5 5), (V 3 0 5 5)]), (K 9), (K 3)], 35, hp41, ((.tuple #[(K 8), (K 0)]), hp41)⟩
theorem of59_ok : of59.Ok Tryz.prog pureF := apO_sound (T := sfTab) (O := ot58) (n := 100000) sfTab_ok ot58_ok (by kernel_rfl)
noncomputable def ol59 : OL := .cons of59 ol58
theorem ol59_ok : ol59.Ok Tryz.prog pureF := ⟨of59_ok, ol58_ok⟩
noncomputable def ot59 : OT := (.cons 113 ol59 (.cons 110 ol1 (.cons 36 ol0 .nil)))
theorem ot59_ok : ot59.Ok Tryz.prog pureF := ⟨ol59_ok, ⟨ol1_ok, ⟨ol0_ok, trivial⟩⟩⟩
noncomputable def hp42 : AH := (hp5.take 35) ++ [.rw 1 [(V 39 0 2 3), (V 47 0 4 5), (V 55 0 4 5), (V 61 0 3 4), (V 71 0 5 6), (V 83 0 6 7), (V 95 0 6 7), (V 101 0 3 4), (V 105 0 2 3), (V 109 0 2 3), (E 0 0), (E 0 0)], .rw 1 [(K 1)], .dead, .rw 1 [(K 4)], .rw 1 [(K 1), (K 4)], .rw 1 [(K 2)], .dead, .rw 1 [(K 5)], .dead, .rw 1 [(K 4)], .dead, .rw 1 [(K 0)], .rw 1 [(K 2), (K 5), (K 4), (K 0)], .rw 1 [(K 3)], .dead, .rw 1 [(K 6)], .dead, .rw 1 [(K 5)], .dead, .rw 1 [(K 1)], .rw 1 [(K 3), (K 6), (K 5), (K 1)], .rw 1 [(K 7)], .dead, .rw 1 [(K 6)], .dead, .rw 1 [(K 2)], .rw 1 [(K 7), (K 6), (K 2)], .rw 1 [(K 5)], .dead, .rw 1 [(K 9)], .dead, .rw 1 [(K 8)], .dead, .rw 1 [(K 0)], .dead, .rw 1 [(K 1)], .rw 1 [(K 5), (K 9), (K 8), (K 0), (K 1)], .rw 1 [(K 6)], .dead, .rw 1 [(K 10)], .dead, .rw 1 [(K 9)], .dead, .rw 1 [(K 4)], .dead, .rw 1 [(K 1)], .dead, .rw 1 [(K 2)], .rw 1 [(K 6), (K 10), (K 9), (K 4), (K 1), (K 2)], .rw 1 [(K 7)], .dead, .rw 1 [(K 11)], .dead, .rw 1 [(K 10)], .dead, .rw 1 [(K 5)], .dead, .rw 1 [(K 2)], .dead, .rw 1 [(K 3)], .rw 1 [(K 7), (K 11), (K 10), (K 5), (K 2), (K 3)], .rw 1 [(K 11)], .dead, .rw 1 [(K 6)], .dead, .rw 1 [(K 3)], .rw 1 [(K 11), (K 6), (K 3)], .rw 1 [(K 9)], .dead, .rw 1 [(K 4)], .rw 1 [(K 9), (K 4)], .rw 1 [(K 10)], .dead, .rw 1 [(K 8)], .rw 1 [(K 10), (K 8)]]
/-- coble/chart.Next, 3 ms -/
noncomputable def of60 : OF := ⟨(.func (.func 113) #[] #[]), [(.agg #[(K 4), (K 3), (V 1 0 12 12), (V 2 0 5 5), (V 3 0 5 5)]), (K 9), (K 4)], 35, hp42, ((.tuple #[(K 4), (K 0)]), hp42)⟩
theorem of60_ok : of60.Ok Tryz.prog pureF := apO_sound (T := sfTab) (O := ot59) (n := 100000) sfTab_ok ot59_ok (by kernel_rfl)
noncomputable def ol60 : OL := .cons of60 ol59
theorem ol60_ok : ol60.Ok Tryz.prog pureF := ⟨of60_ok, ol59_ok⟩
noncomputable def ot60 : OT := (.cons 113 ol60 (.cons 110 ol1 (.cons 36 ol0 .nil)))
theorem ot60_ok : ot60.Ok Tryz.prog pureF := ⟨ol60_ok, ⟨ol1_ok, ⟨ol0_ok, trivial⟩⟩⟩
noncomputable def hp43 : AH := (hp5.take 35) ++ [.rw 1 [(V 39 0 2 3), (V 47 0 4 5), (V 55 0 4 5), (V 61 0 3 4), (V 71 0 5 6), (V 83 0 6 7), (V 95 0 6 7), (V 101 0 3 4), (V 105 0 2 3), (V 111 0 3 4), (E 0 0), (E 0 0)], .rw 1 [(K 1)], .dead, .rw 1 [(K 4)], .rw 1 [(K 1), (K 4)], .rw 1 [(K 2)], .dead, .rw 1 [(K 5)], .dead, .rw 1 [(K 4)], .dead, .rw 1 [(K 0)], .rw 1 [(K 2), (K 5), (K 4), (K 0)], .rw 1 [(K 3)], .dead, .rw 1 [(K 6)], .dead, .rw 1 [(K 5)], .dead, .rw 1 [(K 1)], .rw 1 [(K 3), (K 6), (K 5), (K 1)], .rw 1 [(K 7)], .dead, .rw 1 [(K 6)], .dead, .rw 1 [(K 2)], .rw 1 [(K 7), (K 6), (K 2)], .rw 1 [(K 5)], .dead, .rw 1 [(K 9)], .dead, .rw 1 [(K 8)], .dead, .rw 1 [(K 0)], .dead, .rw 1 [(K 1)], .rw 1 [(K 5), (K 9), (K 8), (K 0), (K 1)], .rw 1 [(K 6)], .dead, .rw 1 [(K 10)], .dead, .rw 1 [(K 9)], .dead, .rw 1 [(K 4)], .dead, .rw 1 [(K 1)], .dead, .rw 1 [(K 2)], .rw 1 [(K 6), (K 10), (K 9), (K 4), (K 1), (K 2)], .rw 1 [(K 7)], .dead, .rw 1 [(K 11)], .dead, .rw 1 [(K 10)], .dead, .rw 1 [(K 5)], .dead, .rw 1 [(K 2)], .dead, .rw 1 [(K 3)], .rw 1 [(K 7), (K 11), (K 10), (K 5), (K 2), (K 3)], .rw 1 [(K 11)], .dead, .rw 1 [(K 6)], .dead, .rw 1 [(K 3)], .rw 1 [(K 11), (K 6), (K 3)], .rw 1 [(K 9)], .dead, .rw 1 [(K 4)], .rw 1 [(K 9), (K 4)], .rw 1 [(K 10)], .dead, .rw 1 [(K 8)], .dead, .rw 1 [(K 4)], .rw 1 [(K 10), (K 8), (K 4)]]
/-- coble/chart.Next, 3 ms -/
noncomputable def of61 : OF := ⟨(.func (.func 113) #[] #[]), [(.agg #[(K 4), (K 3), (V 1 0 12 12), (V 2 0 5 5), (V 3 0 5 5)]), (K 9), (K 5)], 35, hp43, ((.tuple #[(K 5), (K 0)]), hp43)⟩
theorem of61_ok : of61.Ok Tryz.prog pureF := apO_sound (T := sfTab) (O := ot60) (n := 100000) sfTab_ok ot60_ok (by kernel_rfl)
noncomputable def ol61 : OL := .cons of61 ol60
theorem ol61_ok : ol61.Ok Tryz.prog pureF := ⟨of61_ok, ol60_ok⟩
noncomputable def ot61 : OT := (.cons 113 ol61 (.cons 110 ol1 (.cons 36 ol0 .nil)))
theorem ot61_ok : ot61.Ok Tryz.prog pureF := ⟨ol61_ok, ⟨ol1_ok, ⟨ol0_ok, trivial⟩⟩⟩
noncomputable def hp44 : AH := (hp5.take 35) ++ [.rw 1 [(V 39 0 2 3), (V 47 0 4 5), (V 55 0 4 5), (V 61 0 3 4), (V 71 0 5 6), (V 83 0 6 7), (V 95 0 6 7), (V 101 0 3 4), (V 105 0 2 3), (V 113 0 4 5), (E 0 0), (E 0 0)], .rw 1 [(K 1)], .dead, .rw 1 [(K 4)], .rw 1 [(K 1), (K 4)], .rw 1 [(K 2)], .dead, .rw 1 [(K 5)], .dead, .rw 1 [(K 4)], .dead, .rw 1 [(K 0)], .rw 1 [(K 2), (K 5), (K 4), (K 0)], .rw 1 [(K 3)], .dead, .rw 1 [(K 6)], .dead, .rw 1 [(K 5)], .dead, .rw 1 [(K 1)], .rw 1 [(K 3), (K 6), (K 5), (K 1)], .rw 1 [(K 7)], .dead, .rw 1 [(K 6)], .dead, .rw 1 [(K 2)], .rw 1 [(K 7), (K 6), (K 2)], .rw 1 [(K 5)], .dead, .rw 1 [(K 9)], .dead, .rw 1 [(K 8)], .dead, .rw 1 [(K 0)], .dead, .rw 1 [(K 1)], .rw 1 [(K 5), (K 9), (K 8), (K 0), (K 1)], .rw 1 [(K 6)], .dead, .rw 1 [(K 10)], .dead, .rw 1 [(K 9)], .dead, .rw 1 [(K 4)], .dead, .rw 1 [(K 1)], .dead, .rw 1 [(K 2)], .rw 1 [(K 6), (K 10), (K 9), (K 4), (K 1), (K 2)], .rw 1 [(K 7)], .dead, .rw 1 [(K 11)], .dead, .rw 1 [(K 10)], .dead, .rw 1 [(K 5)], .dead, .rw 1 [(K 2)], .dead, .rw 1 [(K 3)], .rw 1 [(K 7), (K 11), (K 10), (K 5), (K 2), (K 3)], .rw 1 [(K 11)], .dead, .rw 1 [(K 6)], .dead, .rw 1 [(K 3)], .rw 1 [(K 11), (K 6), (K 3)], .rw 1 [(K 9)], .dead, .rw 1 [(K 4)], .rw 1 [(K 9), (K 4)], .rw 1 [(K 10)], .dead, .rw 1 [(K 8)], .dead, .rw 1 [(K 4)], .dead, .rw 1 [(K 5)], .rw 1 [(K 10), (K 8), (K 4), (K 5)]]
/-- coble/chart.Next, 3 ms -/
noncomputable def of62 : OF := ⟨(.func (.func 113) #[] #[]), [(.agg #[(K 4), (K 3), (V 1 0 12 12), (V 2 0 5 5), (V 3 0 5 5)]), (K 10), (K 0)], 35, hp44, ((.tuple #[(K 11), (K 0)]), hp44)⟩
theorem of62_ok : of62.Ok Tryz.prog pureF := apO_sound (T := sfTab) (O := ot61) (n := 100000) sfTab_ok ot61_ok (by kernel_rfl)
noncomputable def ol62 : OL := .cons of62 ol61
theorem ol62_ok : ol62.Ok Tryz.prog pureF := ⟨of62_ok, ol61_ok⟩
noncomputable def ot62 : OT := (.cons 113 ol62 (.cons 110 ol1 (.cons 36 ol0 .nil)))
theorem ot62_ok : ot62.Ok Tryz.prog pureF := ⟨ol62_ok, ⟨ol1_ok, ⟨ol0_ok, trivial⟩⟩⟩
noncomputable def hp45 : AH := (hp5.take 35) ++ [.rw 1 [(V 39 0 2 3), (V 47 0 4 5), (V 55 0 4 5), (V 61 0 3 4), (V 71 0 5 6), (V 83 0 6 7), (V 95 0 6 7), (V 101 0 3 4), (V 105 0 2 3), (V 113 0 4 5), (V 115 0 1 2), (E 0 0)], .rw 1 [(K 1)], .dead, .rw 1 [(K 4)], .rw 1 [(K 1), (K 4)], .rw 1 [(K 2)], .dead, .rw 1 [(K 5)], .dead, .rw 1 [(K 4)], .dead, .rw 1 [(K 0)], .rw 1 [(K 2), (K 5), (K 4), (K 0)], .rw 1 [(K 3)], .dead, .rw 1 [(K 6)], .dead, .rw 1 [(K 5)], .dead, .rw 1 [(K 1)], .rw 1 [(K 3), (K 6), (K 5), (K 1)], .rw 1 [(K 7)], .dead, .rw 1 [(K 6)], .dead, .rw 1 [(K 2)], .rw 1 [(K 7), (K 6), (K 2)], .rw 1 [(K 5)], .dead, .rw 1 [(K 9)], .dead, .rw 1 [(K 8)], .dead, .rw 1 [(K 0)], .dead, .rw 1 [(K 1)], .rw 1 [(K 5), (K 9), (K 8), (K 0), (K 1)], .rw 1 [(K 6)], .dead, .rw 1 [(K 10)], .dead, .rw 1 [(K 9)], .dead, .rw 1 [(K 4)], .dead, .rw 1 [(K 1)], .dead, .rw 1 [(K 2)], .rw 1 [(K 6), (K 10), (K 9), (K 4), (K 1), (K 2)], .rw 1 [(K 7)], .dead, .rw 1 [(K 11)], .dead, .rw 1 [(K 10)], .dead, .rw 1 [(K 5)], .dead, .rw 1 [(K 2)], .dead, .rw 1 [(K 3)], .rw 1 [(K 7), (K 11), (K 10), (K 5), (K 2), (K 3)], .rw 1 [(K 11)], .dead, .rw 1 [(K 6)], .dead, .rw 1 [(K 3)], .rw 1 [(K 11), (K 6), (K 3)], .rw 1 [(K 9)], .dead, .rw 1 [(K 4)], .rw 1 [(K 9), (K 4)], .rw 1 [(K 10)], .dead, .rw 1 [(K 8)], .dead, .rw 1 [(K 4)], .dead, .rw 1 [(K 5)], .rw 1 [(K 10), (K 8), (K 4), (K 5)], .rw 1 [(K 11)], .rw 1 [(K 11)]]
/-- coble/chart.Next, 3 ms -/
noncomputable def of63 : OF := ⟨(.func (.func 113) #[] #[]), [(.agg #[(K 4), (K 3), (V 1 0 12 12), (V 2 0 5 5), (V 3 0 5 5)]), (K 10), (K 1)], 35, hp45, ((.tuple #[(K 0), (K 3)]), hp45)⟩
theorem of63_ok : of63.Ok Tryz.prog pureF := apO_sound (T := sfTab) (O := ot62) (n := 100000) sfTab_ok ot62_ok (by kernel_rfl)
noncomputable def ol63 : OL := .cons of63 ol62
theorem ol63_ok : ol63.Ok Tryz.prog pureF := ⟨of63_ok, ol62_ok⟩
noncomputable def ot63 : OT := (.cons 113 ol63 (.cons 110 ol1 (.cons 36 ol0 .nil)))
theorem ot63_ok : ot63.Ok Tryz.prog pureF := ⟨ol63_ok, ⟨ol1_ok, ⟨ol0_ok, trivial⟩⟩⟩
end Go.Proofs.YtnpifaanhofonaaGreatDoor
