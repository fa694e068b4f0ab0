/- A run of the program without arguments, piece by piece: computed by the kernel. Printed by tools/pieces.py. -/
import Derived.Test.YtnpifaanhofonaaGreatDoorPieA
import Derived.Test.YtnpifaanhofonaaGreatDoorTab
set_option linter.all false
set_option maxRecDepth 100000
namespace Go.Proofs.YtnpifaanhofonaaGreatDoor
open Go
noncomputable def hp13 : AH := (hp5.take 35) ++ [.rw 1 [(V 39 0 2 3), (V 47 0 4 5), (V 51 0 2 3), (E 0 0), (E 0 0), (E 0 0), (E 0 0), (E 0 0), (E 0 0), (E 0 0), (E 0 0), (E 0 0)], .rw 1 [(K 1)], .dead, .rw 1 [(K 4)], .rw 1 [(K 1), (K 4)], .rw 1 [(K 2)], .dead, .rw 1 [(K 5)], .dead, .rw 1 [(K 4)], .dead, .rw 1 [(K 0)], .rw 1 [(K 2), (K 5), (K 4), (K 0)], .rw 1 [(K 3)], .dead, .rw 1 [(K 6)], .rw 1 [(K 3), (K 6)]]
/-- coble/chart.Next, 3 ms -/
noncomputable def of16 : OF := ⟨(.func (.func 113) #[] #[]), [(.agg #[(K 4), (K 3), (V 1 0 12 12), (V 2 0 5 5), (V 3 0 5 5)]), (K 2), (K 2)], 35, hp13, ((.tuple #[(K 5), (K 0)]), hp13)⟩
theorem of16_ok : of16.Ok Tryz.prog pureF := apO_sound (T := sfTab) (O := ot15) (n := 100000) sfTab_ok ot15_ok (by kernel_rfl)
noncomputable def ol16 : OL := .cons of16 ol15
theorem ol16_ok : ol16.Ok Tryz.prog pureF := ⟨of16_ok, ol15_ok⟩
noncomputable def ot16 : OT := (.cons 113 ol16 (.cons 110 ol1 (.cons 36 ol0 .nil)))
theorem ot16_ok : ot16.Ok Tryz.prog pureF := ⟨ol16_ok, ⟨ol1_ok, ⟨ol0_ok, trivial⟩⟩⟩
noncomputable def hp14 : AH := (hp5.take 35) ++ [.rw 1 [(V 39 0 2 3), (V 47 0 4 5), (V 53 0 3 4), (E 0 0), (E 0 0), (E 0 0), (E 0 0), (E 0 0), (E 0 0), (E 0 0), (E 0 0), (E 0 0)], .rw 1 [(K 1)], .dead, .rw 1 [(K 4)], .rw 1 [(K 1), (K 4)], .rw 1 [(K 2)], .dead, .rw 1 [(K 5)], .dead, .rw 1 [(K 4)], .dead, .rw 1 [(K 0)], .rw 1 [(K 2), (K 5), (K 4), (K 0)], .rw 1 [(K 3)], .dead, .rw 1 [(K 6)], .dead, .rw 1 [(K 5)], .rw 1 [(K 3), (K 6), (K 5)]]
/-- coble/chart.Next, 3 ms -/
noncomputable def of17 : OF := ⟨(.func (.func 113) #[] #[]), [(.agg #[(K 4), (K 3), (V 1 0 12 12), (V 2 0 5 5), (V 3 0 5 5)]), (K 2), (K 3)], 35, hp14, ((.tuple #[(K 1), (K 0)]), hp14)⟩
theorem of17_ok : of17.Ok Tryz.prog pureF := apO_sound (T := sfTab) (O := ot16) (n := 100000) sfTab_ok ot16_ok (by kernel_rfl)
noncomputable def ol17 : OL := .cons of17 ol16
theorem ol17_ok : ol17.Ok Tryz.prog pureF := ⟨of17_ok, ol16_ok⟩
noncomputable def ot17 : OT := (.cons 113 ol17 (.cons 110 ol1 (.cons 36 ol0 .nil)))
theorem ot17_ok : ot17.Ok Tryz.prog pureF := ⟨ol17_ok, ⟨ol1_ok, ⟨ol0_ok, trivial⟩⟩⟩
noncomputable def hp15 : AH := (hp5.take 35) ++ [.rw 1 [(V 39 0 2 3), (V 47 0 4 5), (V 55 0 4 5), (E 0 0), (E 0 0), (E 0 0), (E 0 0), (E 0 0), (E 0 0), (E 0 0), (E 0 0), (E 0 0)], .rw 1 [(K 1)], .dead, .rw 1 [(K 4)], .rw 1 [(K 1), (K 4)], .rw 1 [(K 2)], .dead, .rw 1 [(K 5)], .dead, .rw 1 [(K 4)], .dead, .rw 1 [(K 0)], .rw 1 [(K 2), (K 5), (K 4), (K 0)], .rw 1 [(K 3)], .dead, .rw 1 [(K 6)], .dead, .rw 1 [(K 5)], .dead, .rw 1 [(K 1)], .rw 1 [(K 3), (K 6), (K 5), (K 1)]]
/-- coble/chart.Next, 3 ms -/
noncomputable def of18 : OF := ⟨(.func (.func 113) #[] #[]), [(.agg #[(K 4), (K 3), (V 1 0 12 12), (V 2 0 5 5), (V 3 0 5 5)]), (K 2), (K 4)], 35, hp15, ((.tuple #[(K 0), (K 3)]), hp15)⟩
theorem of18_ok : of18.Ok Tryz.prog pureF := apO_sound (T := sfTab) (O := ot17) (n := 100000) sfTab_ok ot17_ok (by kernel_rfl)
noncomputable def ol18 : OL := .cons of18 ol17
theorem ol18_ok : ol18.Ok Tryz.prog pureF := ⟨of18_ok, ol17_ok⟩
noncomputable def ot18 : OT := (.cons 113 ol18 (.cons 110 ol1 (.cons 36 ol0 .nil)))
theorem ot18_ok : ot18.Ok Tryz.prog pureF := ⟨ol18_ok, ⟨ol1_ok, ⟨ol0_ok, trivial⟩⟩⟩
/-- coble/chart.Next, 3 ms -/
noncomputable def of19 : OF := ⟨(.func (.func 113) #[] #[]), [(.agg #[(K 4), (K 3), (V 1 0 12 12), (V 2 0 5 5), (V 3 0 5 5)]), (K 2), (K 5)], 35, hp15, ((.tuple #[(K 0), (K 3)]), hp15)⟩
theorem of19_ok : of19.Ok Tryz.prog pureF := apO_sound (T := sfTab) (O := ot18) (n := 100000) sfTab_ok ot18_ok (by kernel_rfl)
noncomputable def ol19 : OL := .cons of19 ol18
theorem ol19_ok : ol19.Ok Tryz.prog pureF := ⟨of19_ok, ol18_ok⟩
noncomputable def ot19 : OT := (.cons 113 ol19 (.cons 110 ol1 (.cons 36 ol0 .nil)))
theorem ot19_ok : ot19.Ok Tryz.prog pureF := ⟨ol19_ok, ⟨ol1_ok, ⟨ol0_ok, trivial⟩⟩⟩
/-- coble/chart.Next, 3 ms -/
noncomputable def of20 : OF := ⟨(.func (.func 113) #[] #[]), [(.agg #[(K 4), (K 3), (V 1 0 12 12), (V 2 0 5 5), (V 3 0 5 5)]), (K 3), (K 0)], 35, hp15, ((.tuple #[(K 0), (K 3)]), hp15)⟩
theorem of20_ok : of20.Ok Tryz.prog pureF := apO_sound (T := sfTab) (O := ot19) (n := 100000) sfTab_ok ot19_ok (by kernel_rfl)
noncomputable def ol20 : OL := .cons of20 ol19
theorem ol20_ok : ol20.Ok Tryz.prog pureF := ⟨of20_ok, ol19_ok⟩
noncomputable def ot20 : OT := (.cons 113 ol20 (.cons 110 ol1 (.cons 36 ol0 .nil)))
theorem ot20_ok : ot20.Ok Tryz.prog pureF := ⟨ol20_ok, ⟨ol1_ok, ⟨ol0_ok, trivial⟩⟩⟩
/-- coble/chart.Next, 3 ms -/
noncomputable def of21 : OF := ⟨(.func (.func 113) #[] #[]), [(.agg #[(K 4), (K 3), (V 1 0 12 12), (V 2 0 5 5), (V 3 0 5 5)]), (K 3), (K 1)], 35, hp15, ((.tuple #[(K 7), (K 0)]), hp15)⟩
theorem of21_ok : of21.Ok Tryz.prog pureF := apO_sound (T := sfTab) (O := ot20) (n := 100000) sfTab_ok ot20_ok (by kernel_rfl)
noncomputable def ol21 : OL := .cons of21 ol20
theorem ol21_ok : ol21.Ok Tryz.prog pureF := ⟨of21_ok, ol20_ok⟩
noncomputable def ot21 : OT := (.cons 113 ol21 (.cons 110 ol1 (.cons 36 ol0 .nil)))
theorem ot21_ok : ot21.Ok Tryz.prog pureF := ⟨ol21_ok, ⟨ol1_ok, ⟨ol0_ok, trivial⟩⟩⟩
noncomputable def hp16 : AH := (hp5.take 35) ++ [.rw 1 [(V 39 0 2 3), (V 47 0 4 5), (V 55 0 4 5), (V 57 0 1 2), (E 0 0), (E 0 0), (E 0 0), (E 0 0), (E 0 0), (E 0 0), (E 0 0), (E 0 0)], .rw 1 [(K 1)], .dead, .rw 1 [(K 4)], .rw 1 [(K 1), (K 4)], .rw 1 [(K 2)], .dead, .rw 1 [(K 5)], .dead, .rw 1 [(K 4)], .dead, .rw 1 [(K 0)], .rw 1 [(K 2), (K 5), (K 4), (K 0)], .rw 1 [(K 3)], .dead, .rw 1 [(K 6)], .dead, .rw 1 [(K 5)], .dead, .rw 1 [(K 1)], .rw 1 [(K 3), (K 6), (K 5), (K 1)], .rw 1 [(K 7)], .rw 1 [(K 7)]]
/-- coble/chart.Next, 3 ms -/
noncomputable def of22 : OF := ⟨(.func (.func 113) #[] #[]), [(.agg #[(K 4), (K 3), (V 1 0 12 12), (V 2 0 5 5), (V 3 0 5 5)]), (K 3), (K 2)], 35, hp16, ((.tuple #[(K 6), (K 0)]), hp16)⟩
theorem of22_ok : of22.Ok Tryz.prog pureF := apO_sound (T := sfTab) (O := ot21) (n := 100000) sfTab_ok ot21_ok (by kernel_rfl)
noncomputable def ol22 : OL := .cons of22 ol21
theorem ol22_ok : ol22.Ok Tryz.prog pureF := ⟨of22_ok, ol21_ok⟩
noncomputable def ot22 : OT := (.cons 113 ol22 (.cons 110 ol1 (.cons 36 ol0 .nil)))
theorem ot22_ok : ot22.Ok Tryz.prog pureF := ⟨ol22_ok, ⟨ol1_ok, ⟨ol0_ok, trivial⟩⟩⟩
noncomputable def hp17 : AH := (hp5.take 35) ++ [.rw 1 [(V 39 0 2 3), (V 47 0 4 5), (V 55 0 4 5), (V 59 0 2 3), (E 0 0), (E 0 0), (E 0 0), (E 0 0), (E 0 0), (E 0 0), (E 0 0), (E 0 0)], .rw 1 [(K 1)], .dead, .rw 1 [(K 4)], .rw 1 [(K 1), (K 4)], .rw 1 [(K 2)], .dead, .rw 1 [(K 5)], .dead, .rw 1 [(K 4)], .dead, .rw 1 [(K 0)], .rw 1 [(K 2), (K 5), (K 4), (K 0)], .rw 1 [(K 3)], .dead, .rw 1 [(K 6)], .dead, .rw 1 [(K 5)], .dead, .rw 1 [(K 1)], .rw 1 [(K 3), (K 6), (K 5), (K 1)], .rw 1 [(K 7)], .dead, .rw 1 [(K 6)], .rw 1 [(K 7), (K 6)]]
/-- coble/chart.Next, 3 ms -/
noncomputable def of23 : OF := ⟨(.func (.func 113) #[] #[]), [(.agg #[(K 4), (K 3), (V 1 0 12 12), (V 2 0 5 5), (V 3 0 5 5)]), (K 3), (K 3)], 35, hp17, ((.tuple #[(K 2), (K 0)]), hp17)⟩
theorem of23_ok : of23.Ok Tryz.prog pureF := apO_sound (T := sfTab) (O := ot22) (n := 100000) sfTab_ok ot22_ok (by kernel_rfl)
noncomputable def ol23 : OL := .cons of23 ol22
theorem ol23_ok : ol23.Ok Tryz.prog pureF := ⟨of23_ok, ol22_ok⟩
noncomputable def ot23 : OT := (.cons 113 ol23 (.cons 110 ol1 (.cons 36 ol0 .nil)))
theorem ot23_ok : ot23.Ok Tryz.prog pureF := ⟨ol23_ok, ⟨ol1_ok, ⟨ol0_ok, trivial⟩⟩⟩
noncomputable def hp18 : AH := (hp5.take 35) ++ [.rw 1 [(V 39 0 2 3), (V 47 0 4 5), (V 55 0 4 5), (V 61 0 3 4), (E 0 0), (E 0 0), (E 0 0), (E 0 0), (E 0 0), (E 0 0), (E 0 0), (E 0 0)], .rw 1 [(K 1)], .dead, .rw 1 [(K 4)], .rw 1 [(K 1), (K 4)], .rw 1 [(K 2)], .dead, .rw 1 [(K 5)], .dead, .rw 1 [(K 4)], .dead, .rw 1 [(K 0)], .rw 1 [(K 2), (K 5), (K 4), (K 0)], .rw 1 [(K 3)], .dead, .rw 1 [(K 6)], .dead, .rw 1 [(K 5)], .dead, .rw 1 [(K 1)], .rw 1 [(K 3), (K 6), (K 5), (K 1)], .rw 1 [(K 7)], .dead, .rw 1 [(K 6)], .dead, .rw 1 [(K 2)], .rw 1 [(K 7), (K 6), (K 2)]]
/-- coble/chart.Next, 3 ms -/
noncomputable def of24 : OF := ⟨(.func (.func 113) #[] #[]), [(.agg #[(K 4), (K 3), (V 1 0 12 12), (V 2 0 5 5), (V 3 0 5 5)]), (K 3), (K 4)], 35, hp18, ((.tuple #[(K 0), (K 3)]), hp18)⟩
theorem of24_ok : of24.Ok Tryz.prog pureF := apO_sound (T := sfTab) (O := ot23) (n := 100000) sfTab_ok ot23_ok (by kernel_rfl)
noncomputable def ol24 : OL := .cons of24 ol23
theorem ol24_ok : ol24.Ok Tryz.prog pureF := ⟨of24_ok, ol23_ok⟩
noncomputable def ot24 : OT := (.cons 113 ol24 (.cons 110 ol1 (.cons 36 ol0 .nil)))
theorem ot24_ok : ot24.Ok Tryz.prog pureF := ⟨ol24_ok, ⟨ol1_ok, ⟨ol0_ok, trivial⟩⟩⟩
/-- coble/chart.Next, 3 ms -/
noncomputable def of25 : OF := ⟨(.func (.func 113) #[] #[]), [(.agg #[(K 4), (K 3), (V 1 0 12 12), (V 2 0 5 5), (V 3 0 5 5)]), (K 3), (K 5)], 35, hp18, ((.tuple #[(K 0), (K 3)]), hp18)⟩
theorem of25_ok : of25.Ok Tryz.prog pureF := apO_sound (T := sfTab) (O := ot24) (n := 100000) sfTab_ok ot24_ok (by kernel_rfl)
noncomputable def ol25 : OL := .cons of25 ol24
theorem ol25_ok : ol25.Ok Tryz.prog pureF := ⟨of25_ok, ol24_ok⟩
noncomputable def ot25 : OT := (.cons 113 ol25 (.cons 110 ol1 (.cons 36 ol0 .nil)))
theorem ot25_ok : ot25.Ok Tryz.prog pureF := ⟨ol25_ok, ⟨ol1_ok, ⟨ol0_ok, trivial⟩⟩⟩
/-- coble/chart.Next, 3 ms -/
noncomputable def of26 : OF := ⟨(.func (.func 113) #[] #[]), [(.agg #[(K 4), (K 3), (V 1 0 12 12), (V 2 0 5 5), (V 3 0 5 5)]), (K 4), (K 0)], 35, hp18, ((.tuple #[(K 5), (K 0)]), hp18)⟩
theorem of26_ok : of26.Ok Tryz.prog pureF := apO_sound (T := sfTab) (O := ot25) (n := 100000) sfTab_ok ot25_ok (by kernel_rfl)
noncomputable def ol26 : OL := .cons of26 ol25
theorem ol26_ok : ol26.Ok Tryz.prog pureF := ⟨of26_ok, ol25_ok⟩
noncomputable def ot26 : OT := (.cons 113 ol26 (.cons 110 ol1 (.cons 36 ol0 .nil)))
theorem ot26_ok : ot26.Ok Tryz.prog pureF := ⟨ol26_ok, ⟨ol1_ok, ⟨ol0_ok, trivial⟩⟩⟩
noncomputable def hp19 : AH := (hp5.take 35) ++ [.rw 1 [(V 39 0 2 3), (V 47 0 4 5), (V 55 0 4 5), (V 61 0 3 4), (V 63 0 1 2), (E 0 0), (E 0 0), (E 0 0), (E 0 0), (E 0 0), (E 0 0), (E 0 0)], .rw 1 [(K 1)], .dead, .rw 1 [(K 4)], .rw 1 [(K 1), (K 4)], .rw 1 [(K 2)], .dead, .rw 1 [(K 5)], .dead, .rw 1 [(K 4)], .dead, .rw 1 [(K 0)], .rw 1 [(K 2), (K 5), (K 4), (K 0)], .rw 1 [(K 3)], .dead, .rw 1 [(K 6)], .dead, .rw 1 [(K 5)], .dead, .rw 1 [(K 1)], .rw 1 [(K 3), (K 6), (K 5), (K 1)], .rw 1 [(K 7)], .dead, .rw 1 [(K 6)], .dead, .rw 1 [(K 2)], .rw 1 [(K 7), (K 6), (K 2)], .rw 1 [(K 5)], .rw 1 [(K 5)]]
/-- coble/chart.Next, 3 ms -/
noncomputable def of27 : OF := ⟨(.func (.func 113) #[] #[]), [(.agg #[(K 4), (K 3), (V 1 0 12 12), (V 2 0 5 5), (V 3 0 5 5)]), (K 4), (K 1)], 35, hp19, ((.tuple #[(K 9), (K 0)]), hp19)⟩
theorem of27_ok : of27.Ok Tryz.prog pureF := apO_sound (T := sfTab) (O := ot26) (n := 100000) sfTab_ok ot26_ok (by kernel_rfl)
noncomputable def ol27 : OL := .cons of27 ol26
theorem ol27_ok : ol27.Ok Tryz.prog pureF := ⟨of27_ok, ol26_ok⟩
noncomputable def ot27 : OT := (.cons 113 ol27 (.cons 110 ol1 (.cons 36 ol0 .nil)))
theorem ot27_ok : ot27.Ok Tryz.prog pureF := ⟨ol27_ok, ⟨ol1_ok, ⟨ol0_ok, trivial⟩⟩⟩
noncomputable def hp20 : AH := (hp5.take 35) ++ [.rw 1 [(V 39 0 2 3), (V 47 0 4 5), (V 55 0 4 5), (V 61 0 3 4), (V 65 0 2 3), (E 0 0), (E 0 0), (E 0 0), (E 0 0), (E 0 0), (E 0 0), (E 0 0)], .rw 1 [(K 1)], .dead, .rw 1 [(K 4)], .rw 1 [(K 1), (K 4)], .rw 1 [(K 2)], .dead, .rw 1 [(K 5)], .dead, .rw 1 [(K 4)], .dead, .rw 1 [(K 0)], .rw 1 [(K 2), (K 5), (K 4), (K 0)], .rw 1 [(K 3)], .dead, .rw 1 [(K 6)], .dead, .rw 1 [(K 5)], .dead, .rw 1 [(K 1)], .rw 1 [(K 3), (K 6), (K 5), (K 1)], .rw 1 [(K 7)], .dead, .rw 1 [(K 6)], .dead, .rw 1 [(K 2)], .rw 1 [(K 7), (K 6), (K 2)], .rw 1 [(K 5)], .dead, .rw 1 [(K 9)], .rw 1 [(K 5), (K 9)]]
/-- coble/chart.Next, 3 ms -/
noncomputable def of28 : OF := ⟨(.func (.func 113) #[] #[]), [(.agg #[(K 4), (K 3), (V 1 0 12 12), (V 2 0 5 5), (V 3 0 5 5)]), (K 4), (K 2)], 35, hp20, ((.tuple #[(K 8), (K 0)]), hp20)⟩
theorem of28_ok : of28.Ok Tryz.prog pureF := apO_sound (T := sfTab) (O := ot27) (n := 100000) sfTab_ok ot27_ok (by kernel_rfl)
noncomputable def ol28 : OL := .cons of28 ol27
theorem ol28_ok : ol28.Ok Tryz.prog pureF := ⟨of28_ok, ol27_ok⟩
noncomputable def ot28 : OT := (.cons 113 ol28 (.cons 110 ol1 (.cons 36 ol0 .nil)))
theorem ot28_ok : ot28.Ok Tryz.prog pureF := ⟨ol28_ok, ⟨ol1_ok, ⟨ol0_ok, trivial⟩⟩⟩
noncomputable def hp21 : AH := (hp5.take 35) ++ [.rw 1 [(V 39 0 2 3), (V 47 0 4 5), (V 55 0 4 5), (V 61 0 3 4), (V 67 0 3 4), (E 0 0), (E 0 0), (E 0 0), (E 0 0), (E 0 0), (E 0 0), (E 0 0)], .rw 1 [(K 1)], .dead, .rw 1 [(K 4)], .rw 1 [(K 1), (K 4)], .rw 1 [(K 2)], .dead, .rw 1 [(K 5)], .dead, .rw 1 [(K 4)], .dead, .rw 1 [(K 0)], .rw 1 [(K 2), (K 5), (K 4), (K 0)], .rw 1 [(K 3)], .dead, .rw 1 [(K 6)], .dead, .rw 1 [(K 5)], .dead, .rw 1 [(K 1)], .rw 1 [(K 3), (K 6), (K 5), (K 1)], .rw 1 [(K 7)], .dead, .rw 1 [(K 6)], .dead, .rw 1 [(K 2)], .rw 1 [(K 7), (K 6), (K 2)], .rw 1 [(K 5)], .dead, .rw 1 [(K 9)], .dead, .rw 1 [(K 8)], .rw 1 [(K 5), (K 9), (K 8)]]
/-- coble/chart.Next, 3 ms -/
noncomputable def of29 : OF := ⟨(.func (.func 113) #[] #[]), [(.agg #[(K 4), (K 3), (V 1 0 12 12), (V 2 0 5 5), (V 3 0 5 5)]), (K 4), (K 3)], 35, hp21, ((.tuple #[(K 0), (K 3)]), hp21)⟩
theorem of29_ok : of29.Ok Tryz.prog pureF := apO_sound (T := sfTab) (O := ot28) (n := 100000) sfTab_ok ot28_ok (by kernel_rfl)
noncomputable def ol29 : OL := .cons of29 ol28
theorem ol29_ok : ol29.Ok Tryz.prog pureF := ⟨of29_ok, ol28_ok⟩
noncomputable def ot29 : OT := (.cons 113 ol29 (.cons 110 ol1 (.cons 36 ol0 .nil)))
theorem ot29_ok : ot29.Ok Tryz.prog pureF := ⟨ol29_ok, ⟨ol1_ok, ⟨ol0_ok, trivial⟩⟩⟩
/-- coble/chart.Next, 3 ms -/
noncomputable def of30 : OF := ⟨(.func (.func 113) #[] #[]), [(.agg #[(K 4), (K 3), (V 1 0 12 12), (V 2 0 5 5), (V 3 0 5 5)]), (K 4), (K 4)], 35, hp21, ((.tuple #[(K 0), (K 0)]), hp21)⟩
theorem of30_ok : of30.Ok Tryz.prog pureF := apO_sound (T := sfTab) (O := ot29) (n := 100000) sfTab_ok ot29_ok (by kernel_rfl)
noncomputable def ol30 : OL := .cons of30 ol29
theorem ol30_ok : ol30.Ok Tryz.prog pureF := ⟨of30_ok, ol29_ok⟩
noncomputable def ot30 : OT := (.cons 113 ol30 (.cons 110 ol1 (.cons 36 ol0 .nil)))
theorem ot30_ok : ot30.Ok Tryz.prog pureF := ⟨ol30_ok, ⟨ol1_ok, ⟨ol0_ok, trivial⟩⟩⟩
noncomputable def hp22 : AH := (hp5.take 35) ++ [.rw 1 [(V 39 0 2 3), (V 47 0 4 5), (V 55 0 4 5), (V 61 0 3 4), (V 69 0 4 5), (E 0 0), (E 0 0), (E 0 0), (E 0 0), (E 0 0), (E 0 0), (E 0 0)], .rw 1 [(K 1)], .dead, .rw 1 [(K 4)], .rw 1 [(K 1), (K 4)], .rw 1 [(K 2)], .dead, .rw 1 [(K 5)], .dead, .rw 1 [(K 4)], .dead, .rw 1 [(K 0)], .rw 1 [(K 2), (K 5), (K 4), (K 0)], .rw 1 [(K 3)], .dead, .rw 1 [(K 6)], .dead, .rw 1 [(K 5)], .dead, .rw 1 [(K 1)], .rw 1 [(K 3), (K 6), (K 5), (K 1)], .rw 1 [(K 7)], .dead, .rw 1 [(K 6)], .dead, .rw 1 [(K 2)], .rw 1 [(K 7), (K 6), (K 2)], .rw 1 [(K 5)], .dead, .rw 1 [(K 9)], .dead, .rw 1 [(K 8)], .dead, .rw 1 [(K 0)], .rw 1 [(K 5), (K 9), (K 8), (K 0)]]
/-- coble/chart.Next, 3 ms -/
noncomputable def of31 : OF := ⟨(.func (.func 113) #[] #[]), [(.agg #[(K 4), (K 3), (V 1 0 12 12), (V 2 0 5 5), (V 3 0 5 5)]), (K 4), (K 5)], 35, hp22, ((.tuple #[(K 1), (K 0)]), hp22)⟩
theorem of31_ok : of31.Ok Tryz.prog pureF := apO_sound (T := sfTab) (O := ot30) (n := 100000) sfTab_ok ot30_ok (by kernel_rfl)
noncomputable def ol31 : OL := .cons of31 ol30
theorem ol31_ok : ol31.Ok Tryz.prog pureF := ⟨of31_ok, ol30_ok⟩
noncomputable def ot31 : OT := (.cons 113 ol31 (.cons 110 ol1 (.cons 36 ol0 .nil)))
theorem ot31_ok : ot31.Ok Tryz.prog pureF := ⟨ol31_ok, ⟨ol1_ok, ⟨ol0_ok, trivial⟩⟩⟩
end Go.Proofs.YtnpifaanhofonaaGreatDoor
