/- A run of the program without arguments, piece by piece: computed by the kernel. Printed by tools/pieces.py. -/
import Derived.Test.YtnpifaanhofonaaGreatDoorPieB
import Derived.Test.YtnpifaanhofonaaGreatDoorTab
set_option linter.all false
set_option maxRecDepth 100000
namespace Go.Proofs.YtnpifaanhofonaaGreatDoor
open Go
noncomputable def hp23 : AH := (hp5.take 35) ++ [.rw 1 [(V 39 0 2 3), (V 47 0 4 5), (V 55 0 4 5), (V 61 0 3 4), (V 71 0 5 6), (E 0 0), (E 0 0), (E 0 0), (E 0 0), (E 0 0), (E 0 0), (E 0 0)], .rw 1 [(K 1)], .dead, .rw 1 [(K 4)], .rw 1 [(K 1), (K 4)], .rw 1 [(K 2)], .dead, .rw 1 [(K 5)], .dead, .rw 1 [(K 4)], .dead, .rw 1 [(K 0)], .rw 1 [(K 2), (K 5), (K 4), (K 0)], .rw 1 [(K 3)], .dead, .rw 1 [(K 6)], .dead, .rw 1 [(K 5)], .dead, .rw 1 [(K 1)], .rw 1 [(K 3), (K 6), (K 5), (K 1)], .rw 1 [(K 7)], .dead, .rw 1 [(K 6)], .dead, .rw 1 [(K 2)], .rw 1 [(K 7), (K 6), (K 2)], .rw 1 [(K 5)], .dead, .rw 1 [(K 9)], .dead, .rw 1 [(K 8)], .dead, .rw 1 [(K 0)], .dead, .rw 1 [(K 1)], .rw 1 [(K 5), (K 9), (K 8), (K 0), (K 1)]]
/-- coble/chart.Next, 3 ms -/
noncomputable def of32 : OF := ⟨(.func (.func 113) #[] #[]), [(.agg #[(K 4), (K 3), (V 1 0 12 12), (V 2 0 5 5), (V 3 0 5 5)]), (K 5), (K 0)], 35, hp23, ((.tuple #[(K 6), (K 0)]), hp23)⟩
theorem of32_ok : of32.Ok Tryz.prog pureF := apO_sound (T := sfTab) (O := ot31) (n := 100000) sfTab_ok ot31_ok (by kernel_rfl)
noncomputable def ol32 : OL := .cons of32 ol31
theorem ol32_ok : ol32.Ok Tryz.prog pureF := ⟨of32_ok, ol31_ok⟩
noncomputable def ot32 : OT := (.cons 113 ol32 (.cons 110 ol1 (.cons 36 ol0 .nil)))
theorem ot32_ok : ot32.Ok Tryz.prog pureF := ⟨ol32_ok, ⟨ol1_ok, ⟨ol0_ok, trivial⟩⟩⟩
noncomputable def hp24 : AH := (hp5.take 35) ++ [.rw 1 [(V 39 0 2 3), (V 47 0 4 5), (V 55 0 4 5), (V 61 0 3 4), (V 71 0 5 6), (V 73 0 1 2), (E 0 0), (E 0 0), (E 0 0), (E 0 0), (E 0 0), (E 0 0)], .rw 1 [(K 1)], .dead, .rw 1 [(K 4)], .rw 1 [(K 1), (K 4)], .rw 1 [(K 2)], .dead, .rw 1 [(K 5)], .dead, .rw 1 [(K 4)], .dead, .rw 1 [(K 0)], .rw 1 [(K 2), (K 5), (K 4), (K 0)], .rw 1 [(K 3)], .dead, .rw 1 [(K 6)], .dead, .rw 1 [(K 5)], .dead, .rw 1 [(K 1)], .rw 1 [(K 3), (K 6), (K 5), (K 1)], .rw 1 [(K 7)], .dead, .rw 1 [(K 6)], .dead, .rw 1 [(K 2)], .rw 1 [(K 7), (K 6), (K 2)], .rw 1 [(K 5)], .dead, .rw 1 [(K 9)], .dead, .rw 1 [(K 8)], .dead, .rw 1 [(K 0)], .dead, .rw 1 [(K 1)], .rw 1 [(K 5), (K 9), (K 8), (K 0), (K 1)], .rw 1 [(K 6)], .rw 1 [(K 6)]]
/-- coble/chart.Next, 3 ms -/
noncomputable def of33 : OF := ⟨(.func (.func 113) #[] #[]), [(.agg #[(K 4), (K 3), (V 1 0 12 12), (V 2 0 5 5), (V 3 0 5 5)]), (K 5), (K 1)], 35, hp24, ((.tuple #[(K 10), (K 0)]), hp24)⟩
theorem of33_ok : of33.Ok Tryz.prog pureF := apO_sound (T := sfTab) (O := ot32) (n := 100000) sfTab_ok ot32_ok (by kernel_rfl)
noncomputable def ol33 : OL := .cons of33 ol32
theorem ol33_ok : ol33.Ok Tryz.prog pureF := ⟨of33_ok, ol32_ok⟩
noncomputable def ot33 : OT := (.cons 113 ol33 (.cons 110 ol1 (.cons 36 ol0 .nil)))
theorem ot33_ok : ot33.Ok Tryz.prog pureF := ⟨ol33_ok, ⟨ol1_ok, ⟨ol0_ok, trivial⟩⟩⟩
noncomputable def hp25 : AH := (hp5.take 35) ++ [.rw 1 [(V 39 0 2 3), (V 47 0 4 5), (V 55 0 4 5), (V 61 0 3 4), (V 71 0 5 6), (V 75 0 2 3), (E 0 0), (E 0 0), (E 0 0), (E 0 0), (E 0 0), (E 0 0)], .rw 1 [(K 1)], .dead, .rw 1 [(K 4)], .rw 1 [(K 1), (K 4)], .rw 1 [(K 2)], .dead, .rw 1 [(K 5)], .dead, .rw 1 [(K 4)], .dead, .rw 1 [(K 0)], .rw 1 [(K 2), (K 5), (K 4), (K 0)], .rw 1 [(K 3)], .dead, .rw 1 [(K 6)], .dead, .rw 1 [(K 5)], .dead, .rw 1 [(K 1)], .rw 1 [(K 3), (K 6), (K 5), (K 1)], .rw 1 [(K 7)], .dead, .rw 1 [(K 6)], .dead, .rw 1 [(K 2)], .rw 1 [(K 7), (K 6), (K 2)], .rw 1 [(K 5)], .dead, .rw 1 [(K 9)], .dead, .rw 1 [(K 8)], .dead, .rw 1 [(K 0)], .dead, .rw 1 [(K 1)], .rw 1 [(K 5), (K 9), (K 8), (K 0), (K 1)], .rw 1 [(K 6)], .dead, .rw 1 [(K 10)], .rw 1 [(K 6), (K 10)]]
/-- coble/chart.Next, 3 ms -/
noncomputable def of34 : OF := ⟨(.func (.func 113) #[] #[]), [(.agg #[(K 4), (K 3), (V 1 0 12 12), (V 2 0 5 5), (V 3 0 5 5)]), (K 5), (K 2)], 35, hp25, ((.tuple #[(K 9), (K 0)]), hp25)⟩
theorem of34_ok : of34.Ok Tryz.prog pureF := apO_sound (T := sfTab) (O := ot33) (n := 100000) sfTab_ok ot33_ok (by kernel_rfl)
noncomputable def ol34 : OL := .cons of34 ol33
theorem ol34_ok : ol34.Ok Tryz.prog pureF := ⟨of34_ok, ol33_ok⟩
noncomputable def ot34 : OT := (.cons 113 ol34 (.cons 110 ol1 (.cons 36 ol0 .nil)))
theorem ot34_ok : ot34.Ok Tryz.prog pureF := ⟨ol34_ok, ⟨ol1_ok, ⟨ol0_ok, trivial⟩⟩⟩
noncomputable def hp26 : AH := (hp5.take 35) ++ [.rw 1 [(V 39 0 2 3), (V 47 0 4 5), (V 55 0 4 5), (V 61 0 3 4), (V 71 0 5 6), (V 77 0 3 4), (E 0 0), (E 0 0), (E 0 0), (E 0 0), (E 0 0), (E 0 0)], .rw 1 [(K 1)], .dead, .rw 1 [(K 4)], .rw 1 [(K 1), (K 4)], .rw 1 [(K 2)], .dead, .rw 1 [(K 5)], .dead, .rw 1 [(K 4)], .dead, .rw 1 [(K 0)], .rw 1 [(K 2), (K 5), (K 4), (K 0)], .rw 1 [(K 3)], .dead, .rw 1 [(K 6)], .dead, .rw 1 [(K 5)], .dead, .rw 1 [(K 1)], .rw 1 [(K 3), (K 6), (K 5), (K 1)], .rw 1 [(K 7)], .dead, .rw 1 [(K 6)], .dead, .rw 1 [(K 2)], .rw 1 [(K 7), (K 6), (K 2)], .rw 1 [(K 5)], .dead, .rw 1 [(K 9)], .dead, .rw 1 [(K 8)], .dead, .rw 1 [(K 0)], .dead, .rw 1 [(K 1)], .rw 1 [(K 5), (K 9), (K 8), (K 0), (K 1)], .rw 1 [(K 6)], .dead, .rw 1 [(K 10)], .dead, .rw 1 [(K 9)], .rw 1 [(K 6), (K 10), (K 9)]]
/-- coble/chart.Next, 3 ms -/
noncomputable def of35 : OF := ⟨(.func (.func 113) #[] #[]), [(.agg #[(K 4), (K 3), (V 1 0 12 12), (V 2 0 5 5), (V 3 0 5 5)]), (K 5), (K 3)], 35, hp26, ((.tuple #[(K 4), (K 0)]), hp26)⟩
theorem of35_ok : of35.Ok Tryz.prog pureF := apO_sound (T := sfTab) (O := ot34) (n := 100000) sfTab_ok ot34_ok (by kernel_rfl)
noncomputable def ol35 : OL := .cons of35 ol34
theorem ol35_ok : ol35.Ok Tryz.prog pureF := ⟨of35_ok, ol34_ok⟩
noncomputable def ot35 : OT := (.cons 113 ol35 (.cons 110 ol1 (.cons 36 ol0 .nil)))
theorem ot35_ok : ot35.Ok Tryz.prog pureF := ⟨ol35_ok, ⟨ol1_ok, ⟨ol0_ok, trivial⟩⟩⟩
noncomputable def hp27 : AH := (hp5.take 35) ++ [.rw 1 [(V 39 0 2 3), (V 47 0 4 5), (V 55 0 4 5), (V 61 0 3 4), (V 71 0 5 6), (V 79 0 4 5), (E 0 0), (E 0 0), (E 0 0), (E 0 0), (E 0 0), (E 0 0)], .rw 1 [(K 1)], .dead, .rw 1 [(K 4)], .rw 1 [(K 1), (K 4)], .rw 1 [(K 2)], .dead, .rw 1 [(K 5)], .dead, .rw 1 [(K 4)], .dead, .rw 1 [(K 0)], .rw 1 [(K 2), (K 5), (K 4), (K 0)], .rw 1 [(K 3)], .dead, .rw 1 [(K 6)], .dead, .rw 1 [(K 5)], .dead, .rw 1 [(K 1)], .rw 1 [(K 3), (K 6), (K 5), (K 1)], .rw 1 [(K 7)], .dead, .rw 1 [(K 6)], .dead, .rw 1 [(K 2)], .rw 1 [(K 7), (K 6), (K 2)], .rw 1 [(K 5)], .dead, .rw 1 [(K 9)], .dead, .rw 1 [(K 8)], .dead, .rw 1 [(K 0)], .dead, .rw 1 [(K 1)], .rw 1 [(K 5), (K 9), (K 8), (K 0), (K 1)], .rw 1 [(K 6)], .dead, .rw 1 [(K 10)], .dead, .rw 1 [(K 9)], .dead, .rw 1 [(K 4)], .rw 1 [(K 6), (K 10), (K 9), (K 4)]]
/-- coble/chart.Next, 3 ms -/
noncomputable def of36 : OF := ⟨(.func (.func 113) #[] #[]), [(.agg #[(K 4), (K 3), (V 1 0 12 12), (V 2 0 5 5), (V 3 0 5 5)]), (K 5), (K 4)], 35, hp27, ((.tuple #[(K 1), (K 0)]), hp27)⟩
theorem of36_ok : of36.Ok Tryz.prog pureF := apO_sound (T := sfTab) (O := ot35) (n := 100000) sfTab_ok ot35_ok (by kernel_rfl)
noncomputable def ol36 : OL := .cons of36 ol35
theorem ol36_ok : ol36.Ok Tryz.prog pureF := ⟨of36_ok, ol35_ok⟩
noncomputable def ot36 : OT := (.cons 113 ol36 (.cons 110 ol1 (.cons 36 ol0 .nil)))
theorem ot36_ok : ot36.Ok Tryz.prog pureF := ⟨ol36_ok, ⟨ol1_ok, ⟨ol0_ok, trivial⟩⟩⟩
noncomputable def hp28 : AH := (hp5.take 35) ++ [.rw 1 [(V 39 0 2 3), (V 47 0 4 5), (V 55 0 4 5), (V 61 0 3 4), (V 71 0 5 6), (V 81 0 5 6), (E 0 0), (E 0 0), (E 0 0), (E 0 0), (E 0 0), (E 0 0)], .rw 1 [(K 1)], .dead, .rw 1 [(K 4)], .rw 1 [(K 1), (K 4)], .rw 1 [(K 2)], .dead, .rw 1 [(K 5)], .dead, .rw 1 [(K 4)], .dead, .rw 1 [(K 0)], .rw 1 [(K 2), (K 5), (K 4), (K 0)], .rw 1 [(K 3)], .dead, .rw 1 [(K 6)], .dead, .rw 1 [(K 5)], .dead, .rw 1 [(K 1)], .rw 1 [(K 3), (K 6), (K 5), (K 1)], .rw 1 [(K 7)], .dead, .rw 1 [(K 6)], .dead, .rw 1 [(K 2)], .rw 1 [(K 7), (K 6), (K 2)], .rw 1 [(K 5)], .dead, .rw 1 [(K 9)], .dead, .rw 1 [(K 8)], .dead, .rw 1 [(K 0)], .dead, .rw 1 [(K 1)], .rw 1 [(K 5), (K 9), (K 8), (K 0), (K 1)], .rw 1 [(K 6)], .dead, .rw 1 [(K 10)], .dead, .rw 1 [(K 9)], .dead, .rw 1 [(K 4)], .dead, .rw 1 [(K 1)], .rw 1 [(K 6), (K 10), (K 9), (K 4), (K 1)]]
/-- coble/chart.Next, 3 ms -/
noncomputable def of37 : OF := ⟨(.func (.func 113) #[] #[]), [(.agg #[(K 4), (K 3), (V 1 0 12 12), (V 2 0 5 5), (V 3 0 5 5)]), (K 5), (K 5)], 35, hp28, ((.tuple #[(K 2), (K 0)]), hp28)⟩
theorem of37_ok : of37.Ok Tryz.prog pureF := apO_sound (T := sfTab) (O := ot36) (n := 100000) sfTab_ok ot36_ok (by kernel_rfl)
noncomputable def ol37 : OL := .cons of37 ol36
theorem ol37_ok : ol37.Ok Tryz.prog pureF := ⟨of37_ok, ol36_ok⟩
noncomputable def ot37 : OT := (.cons 113 ol37 (.cons 110 ol1 (.cons 36 ol0 .nil)))
theorem ot37_ok : ot37.Ok Tryz.prog pureF := ⟨ol37_ok, ⟨ol1_ok, ⟨ol0_ok, trivial⟩⟩⟩
noncomputable def hp29 : AH := (hp5.take 35) ++ [.rw 1 [(V 39 0 2 3), (V 47 0 4 5), (V 55 0 4 5), (V 61 0 3 4), (V 71 0 5 6), (V 83 0 6 7), (E 0 0), (E 0 0), (E 0 0), (E 0 0), (E 0 0), (E 0 0)], .rw 1 [(K 1)], .dead, .rw 1 [(K 4)], .rw 1 [(K 1), (K 4)], .rw 1 [(K 2)], .dead, .rw 1 [(K 5)], .dead, .rw 1 [(K 4)], .dead, .rw 1 [(K 0)], .rw 1 [(K 2), (K 5), (K 4), (K 0)], .rw 1 [(K 3)], .dead, .rw 1 [(K 6)], .dead, .rw 1 [(K 5)], .dead, .rw 1 [(K 1)], .rw 1 [(K 3), (K 6), (K 5), (K 1)], .rw 1 [(K 7)], .dead, .rw 1 [(K 6)], .dead, .rw 1 [(K 2)], .rw 1 [(K 7), (K 6), (K 2)], .rw 1 [(K 5)], .dead, .rw 1 [(K 9)], .dead, .rw 1 [(K 8)], .dead, .rw 1 [(K 0)], .dead, .rw 1 [(K 1)], .rw 1 [(K 5), (K 9), (K 8), (K 0), (K 1)], .rw 1 [(K 6)], .dead, .rw 1 [(K 10)], .dead, .rw 1 [(K 9)], .dead, .rw 1 [(K 4)], .dead, .rw 1 [(K 1)], .dead, .rw 1 [(K 2)], .rw 1 [(K 6), (K 10), (K 9), (K 4), (K 1), (K 2)]]
/-- coble/chart.Next, 3 ms -/
noncomputable def of38 : OF := ⟨(.func (.func 113) #[] #[]), [(.agg #[(K 4), (K 3), (V 1 0 12 12), (V 2 0 5 5), (V 3 0 5 5)]), (K 6), (K 0)], 35, hp29, ((.tuple #[(K 7), (K 0)]), hp29)⟩
theorem of38_ok : of38.Ok Tryz.prog pureF := apO_sound (T := sfTab) (O := ot37) (n := 100000) sfTab_ok ot37_ok (by kernel_rfl)
noncomputable def ol38 : OL := .cons of38 ol37
theorem ol38_ok : ol38.Ok Tryz.prog pureF := ⟨of38_ok, ol37_ok⟩
noncomputable def ot38 : OT := (.cons 113 ol38 (.cons 110 ol1 (.cons 36 ol0 .nil)))
theorem ot38_ok : ot38.Ok Tryz.prog pureF := ⟨ol38_ok, ⟨ol1_ok, ⟨ol0_ok, trivial⟩⟩⟩
noncomputable def hp30 : AH := (hp5.take 35) ++ [.rw 1 [(V 39 0 2 3), (V 47 0 4 5), (V 55 0 4 5), (V 61 0 3 4), (V 71 0 5 6), (V 83 0 6 7), (V 85 0 1 2), (E 0 0), (E 0 0), (E 0 0), (E 0 0), (E 0 0)], .rw 1 [(K 1)], .dead, .rw 1 [(K 4)], .rw 1 [(K 1), (K 4)], .rw 1 [(K 2)], .dead, .rw 1 [(K 5)], .dead, .rw 1 [(K 4)], .dead, .rw 1 [(K 0)], .rw 1 [(K 2), (K 5), (K 4), (K 0)], .rw 1 [(K 3)], .dead, .rw 1 [(K 6)], .dead, .rw 1 [(K 5)], .dead, .rw 1 [(K 1)], .rw 1 [(K 3), (K 6), (K 5), (K 1)], .rw 1 [(K 7)], .dead, .rw 1 [(K 6)], .dead, .rw 1 [(K 2)], .rw 1 [(K 7), (K 6), (K 2)], .rw 1 [(K 5)], .dead, .rw 1 [(K 9)], .dead, .rw 1 [(K 8)], .dead, .rw 1 [(K 0)], .dead, .rw 1 [(K 1)], .rw 1 [(K 5), (K 9), (K 8), (K 0), (K 1)], .rw 1 [(K 6)], .dead, .rw 1 [(K 10)], .dead, .rw 1 [(K 9)], .dead, .rw 1 [(K 4)], .dead, .rw 1 [(K 1)], .dead, .rw 1 [(K 2)], .rw 1 [(K 6), (K 10), (K 9), (K 4), (K 1), (K 2)], .rw 1 [(K 7)], .rw 1 [(K 7)]]
/-- coble/chart.Next, 3 ms -/
noncomputable def of39 : OF := ⟨(.func (.func 113) #[] #[]), [(.agg #[(K 4), (K 3), (V 1 0 12 12), (V 2 0 5 5), (V 3 0 5 5)]), (K 6), (K 1)], 35, hp30, ((.tuple #[(K 11), (K 0)]), hp30)⟩
theorem of39_ok : of39.Ok Tryz.prog pureF := apO_sound (T := sfTab) (O := ot38) (n := 100000) sfTab_ok ot38_ok (by kernel_rfl)
noncomputable def ol39 : OL := .cons of39 ol38
theorem ol39_ok : ol39.Ok Tryz.prog pureF := ⟨of39_ok, ol38_ok⟩
noncomputable def ot39 : OT := (.cons 113 ol39 (.cons 110 ol1 (.cons 36 ol0 .nil)))
theorem ot39_ok : ot39.Ok Tryz.prog pureF := ⟨ol39_ok, ⟨ol1_ok, ⟨ol0_ok, trivial⟩⟩⟩
noncomputable def hp31 : AH := (hp5.take 35) ++ [.rw 1 [(V 39 0 2 3), (V 47 0 4 5), (V 55 0 4 5), (V 61 0 3 4), (V 71 0 5 6), (V 83 0 6 7), (V 87 0 2 3), (E 0 0), (E 0 0), (E 0 0), (E 0 0), (E 0 0)], .rw 1 [(K 1)], .dead, .rw 1 [(K 4)], .rw 1 [(K 1), (K 4)], .rw 1 [(K 2)], .dead, .rw 1 [(K 5)], .dead, .rw 1 [(K 4)], .dead, .rw 1 [(K 0)], .rw 1 [(K 2), (K 5), (K 4), (K 0)], .rw 1 [(K 3)], .dead, .rw 1 [(K 6)], .dead, .rw 1 [(K 5)], .dead, .rw 1 [(K 1)], .rw 1 [(K 3), (K 6), (K 5), (K 1)], .rw 1 [(K 7)], .dead, .rw 1 [(K 6)], .dead, .rw 1 [(K 2)], .rw 1 [(K 7), (K 6), (K 2)], .rw 1 [(K 5)], .dead, .rw 1 [(K 9)], .dead, .rw 1 [(K 8)], .dead, .rw 1 [(K 0)], .dead, .rw 1 [(K 1)], .rw 1 [(K 5), (K 9), (K 8), (K 0), (K 1)], .rw 1 [(K 6)], .dead, .rw 1 [(K 10)], .dead, .rw 1 [(K 9)], .dead, .rw 1 [(K 4)], .dead, .rw 1 [(K 1)], .dead, .rw 1 [(K 2)], .rw 1 [(K 6), (K 10), (K 9), (K 4), (K 1), (K 2)], .rw 1 [(K 7)], .dead, .rw 1 [(K 11)], .rw 1 [(K 7), (K 11)]]
/-- coble/chart.Next, 3 ms -/
noncomputable def of40 : OF := ⟨(.func (.func 113) #[] #[]), [(.agg #[(K 4), (K 3), (V 1 0 12 12), (V 2 0 5 5), (V 3 0 5 5)]), (K 6), (K 2)], 35, hp31, ((.tuple #[(K 10), (K 0)]), hp31)⟩
theorem of40_ok : of40.Ok Tryz.prog pureF := apO_sound (T := sfTab) (O := ot39) (n := 100000) sfTab_ok ot39_ok (by kernel_rfl)
noncomputable def ol40 : OL := .cons of40 ol39
theorem ol40_ok : ol40.Ok Tryz.prog pureF := ⟨of40_ok, ol39_ok⟩
noncomputable def ot40 : OT := (.cons 113 ol40 (.cons 110 ol1 (.cons 36 ol0 .nil)))
theorem ot40_ok : ot40.Ok Tryz.prog pureF := ⟨ol40_ok, ⟨ol1_ok, ⟨ol0_ok, trivial⟩⟩⟩
noncomputable def hp32 : AH := (hp5.take 35) ++ [.rw 1 [(V 39 0 2 3), (V 47 0 4 5), (V 55 0 4 5), (V 61 0 3 4), (V 71 0 5 6), (V 83 0 6 7), (V 89 0 3 4), (E 0 0), (E 0 0), (E 0 0), (E 0 0), (E 0 0)], .rw 1 [(K 1)], .dead, .rw 1 [(K 4)], .rw 1 [(K 1), (K 4)], .rw 1 [(K 2)], .dead, .rw 1 [(K 5)], .dead, .rw 1 [(K 4)], .dead, .rw 1 [(K 0)], .rw 1 [(K 2), (K 5), (K 4), (K 0)], .rw 1 [(K 3)], .dead, .rw 1 [(K 6)], .dead, .rw 1 [(K 5)], .dead, .rw 1 [(K 1)], .rw 1 [(K 3), (K 6), (K 5), (K 1)], .rw 1 [(K 7)], .dead, .rw 1 [(K 6)], .dead, .rw 1 [(K 2)], .rw 1 [(K 7), (K 6), (K 2)], .rw 1 [(K 5)], .dead, .rw 1 [(K 9)], .dead, .rw 1 [(K 8)], .dead, .rw 1 [(K 0)], .dead, .rw 1 [(K 1)], .rw 1 [(K 5), (K 9), (K 8), (K 0), (K 1)], .rw 1 [(K 6)], .dead, .rw 1 [(K 10)], .dead, .rw 1 [(K 9)], .dead, .rw 1 [(K 4)], .dead, .rw 1 [(K 1)], .dead, .rw 1 [(K 2)], .rw 1 [(K 6), (K 10), (K 9), (K 4), (K 1), (K 2)], .rw 1 [(K 7)], .dead, .rw 1 [(K 11)], .dead, .rw 1 [(K 10)], .rw 1 [(K 7), (K 11), (K 10)]]
/-- coble/chart.Next, 3 ms -/
noncomputable def of41 : OF := ⟨(.func (.func 113) #[] #[]), [(.agg #[(K 4), (K 3), (V 1 0 12 12), (V 2 0 5 5), (V 3 0 5 5)]), (K 6), (K 3)], 35, hp32, ((.tuple #[(K 5), (K 0)]), hp32)⟩
theorem of41_ok : of41.Ok Tryz.prog pureF := apO_sound (T := sfTab) (O := ot40) (n := 100000) sfTab_ok ot40_ok (by kernel_rfl)
noncomputable def ol41 : OL := .cons of41 ol40
theorem ol41_ok : ol41.Ok Tryz.prog pureF := ⟨of41_ok, ol40_ok⟩
noncomputable def ot41 : OT := (.cons 113 ol41 (.cons 110 ol1 (.cons 36 ol0 .nil)))
theorem ot41_ok : ot41.Ok Tryz.prog pureF := ⟨ol41_ok, ⟨ol1_ok, ⟨ol0_ok, trivial⟩⟩⟩
noncomputable def hp33 : AH := (hp5.take 35) ++ [.rw 1 [(V 39 0 2 3), (V 47 0 4 5), (V 55 0 4 5), (V 61 0 3 4), (V 71 0 5 6), (V 83 0 6 7), (V 91 0 4 5), (E 0 0), (E 0 0), (E 0 0), (E 0 0), (E 0 0)], .rw 1 [(K 1)], .dead, .rw 1 [(K 4)], .rw 1 [(K 1), (K 4)], .rw 1 [(K 2)], .dead, .rw 1 [(K 5)], .dead, .rw 1 [(K 4)], .dead, .rw 1 [(K 0)], .rw 1 [(K 2), (K 5), (K 4), (K 0)], .rw 1 [(K 3)], .dead, .rw 1 [(K 6)], .dead, .rw 1 [(K 5)], .dead, .rw 1 [(K 1)], .rw 1 [(K 3), (K 6), (K 5), (K 1)], .rw 1 [(K 7)], .dead, .rw 1 [(K 6)], .dead, .rw 1 [(K 2)], .rw 1 [(K 7), (K 6), (K 2)], .rw 1 [(K 5)], .dead, .rw 1 [(K 9)], .dead, .rw 1 [(K 8)], .dead, .rw 1 [(K 0)], .dead, .rw 1 [(K 1)], .rw 1 [(K 5), (K 9), (K 8), (K 0), (K 1)], .rw 1 [(K 6)], .dead, .rw 1 [(K 10)], .dead, .rw 1 [(K 9)], .dead, .rw 1 [(K 4)], .dead, .rw 1 [(K 1)], .dead, .rw 1 [(K 2)], .rw 1 [(K 6), (K 10), (K 9), (K 4), (K 1), (K 2)], .rw 1 [(K 7)], .dead, .rw 1 [(K 11)], .dead, .rw 1 [(K 10)], .dead, .rw 1 [(K 5)], .rw 1 [(K 7), (K 11), (K 10), (K 5)]]
/-- coble/chart.Next, 3 ms -/
noncomputable def of42 : OF := ⟨(.func (.func 113) #[] #[]), [(.agg #[(K 4), (K 3), (V 1 0 12 12), (V 2 0 5 5), (V 3 0 5 5)]), (K 6), (K 4)], 35, hp33, ((.tuple #[(K 2), (K 0)]), hp33)⟩
theorem of42_ok : of42.Ok Tryz.prog pureF := apO_sound (T := sfTab) (O := ot41) (n := 100000) sfTab_ok ot41_ok (by kernel_rfl)
noncomputable def ol42 : OL := .cons of42 ol41
theorem ol42_ok : ol42.Ok Tryz.prog pureF := ⟨of42_ok, ol41_ok⟩
noncomputable def ot42 : OT := (.cons 113 ol42 (.cons 110 ol1 (.cons 36 ol0 .nil)))
theorem ot42_ok : ot42.Ok Tryz.prog pureF := ⟨ol42_ok, ⟨ol1_ok, ⟨ol0_ok, trivial⟩⟩⟩
noncomputable def hp34 : AH := (hp5.take 35) ++ [.rw 1 [(V 39 0 2 3), (V 47 0 4 5), (V 55 0 4 5), (V 61 0 3 4), (V 71 0 5 6), (V 83 0 6 7), (V 93 0 5 6), (E 0 0), (E 0 0), (E 0 0), (E 0 0), (E 0 0)], .rw 1 [(K 1)], .dead, .rw 1 [(K 4)], .rw 1 [(K 1), (K 4)], .rw 1 [(K 2)], .dead, .rw 1 [(K 5)], .dead, .rw 1 [(K 4)], .dead, .rw 1 [(K 0)], .rw 1 [(K 2), (K 5), (K 4), (K 0)], .rw 1 [(K 3)], .dead, .rw 1 [(K 6)], .dead, .rw 1 [(K 5)], .dead, .rw 1 [(K 1)], .rw 1 [(K 3), (K 6), (K 5), (K 1)], .rw 1 [(K 7)], .dead, .rw 1 [(K 6)], .dead, .rw 1 [(K 2)], .rw 1 [(K 7), (K 6), (K 2)], .rw 1 [(K 5)], .dead, .rw 1 [(K 9)], .dead, .rw 1 [(K 8)], .dead, .rw 1 [(K 0)], .dead, .rw 1 [(K 1)], .rw 1 [(K 5), (K 9), (K 8), (K 0), (K 1)], .rw 1 [(K 6)], .dead, .rw 1 [(K 10)], .dead, .rw 1 [(K 9)], .dead, .rw 1 [(K 4)], .dead, .rw 1 [(K 1)], .dead, .rw 1 [(K 2)], .rw 1 [(K 6), (K 10), (K 9), (K 4), (K 1), (K 2)], .rw 1 [(K 7)], .dead, .rw 1 [(K 11)], .dead, .rw 1 [(K 10)], .dead, .rw 1 [(K 5)], .dead, .rw 1 [(K 2)], .rw 1 [(K 7), (K 11), (K 10), (K 5), (K 2)]]
/-- coble/chart.Next, 3 ms -/
noncomputable def of43 : OF := ⟨(.func (.func 113) #[] #[]), [(.agg #[(K 4), (K 3), (V 1 0 12 12), (V 2 0 5 5), (V 3 0 5 5)]), (K 6), (K 5)], 35, hp34, ((.tuple #[(K 3), (K 0)]), hp34)⟩
theorem of43_ok : of43.Ok Tryz.prog pureF := apO_sound (T := sfTab) (O := ot42) (n := 100000) sfTab_ok ot42_ok (by kernel_rfl)
noncomputable def ol43 : OL := .cons of43 ol42
theorem ol43_ok : ol43.Ok Tryz.prog pureF := ⟨of43_ok, ol42_ok⟩
noncomputable def ot43 : OT := (.cons 113 ol43 (.cons 110 ol1 (.cons 36 ol0 .nil)))
theorem ot43_ok : ot43.Ok Tryz.prog pureF := ⟨ol43_ok, ⟨ol1_ok, ⟨ol0_ok, trivial⟩⟩⟩
noncomputable def hp35 : AH := (hp5.take 35) ++ [.rw 1 [(V 39 0 2 3), (V 47 0 4 5), (V 55 0 4 5), (V 61 0 3 4), (V 71 0 5 6), (V 83 0 6 7), (V 95 0 6 7), (E 0 0), (E 0 0), (E 0 0), (E 0 0), (E 0 0)], .rw 1 [(K 1)], .dead, .rw 1 [(K 4)], .rw 1 [(K 1), (K 4)], .rw 1 [(K 2)], .dead, .rw 1 [(K 5)], .dead, .rw 1 [(K 4)], .dead, .rw 1 [(K 0)], .rw 1 [(K 2), (K 5), (K 4), (K 0)], .rw 1 [(K 3)], .dead, .rw 1 [(K 6)], .dead, .rw 1 [(K 5)], .dead, .rw 1 [(K 1)], .rw 1 [(K 3), (K 6), (K 5), (K 1)], .rw 1 [(K 7)], .dead, .rw 1 [(K 6)], .dead, .rw 1 [(K 2)], .rw 1 [(K 7), (K 6), (K 2)], .rw 1 [(K 5)], .dead, .rw 1 [(K 9)], .dead, .rw 1 [(K 8)], .dead, .rw 1 [(K 0)], .dead, .rw 1 [(K 1)], .rw 1 [(K 5), (K 9), (K 8), (K 0), (K 1)], .rw 1 [(K 6)], .dead, .rw 1 [(K 10)], .dead, .rw 1 [(K 9)], .dead, .rw 1 [(K 4)], .dead, .rw 1 [(K 1)], .dead, .rw 1 [(K 2)], .rw 1 [(K 6), (K 10), (K 9), (K 4), (K 1), (K 2)], .rw 1 [(K 7)], .dead, .rw 1 [(K 11)], .dead, .rw 1 [(K 10)], .dead, .rw 1 [(K 5)], .dead, .rw 1 [(K 2)], .dead, .rw 1 [(K 3)], .rw 1 [(K 7), (K 11), (K 10), (K 5), (K 2), (K 3)]]
/-- coble/chart.Next, 3 ms -/
noncomputable def of44 : OF := ⟨(.func (.func 113) #[] #[]), [(.agg #[(K 4), (K 3), (V 1 0 12 12), (V 2 0 5 5), (V 3 0 5 5)]), (K 7), (K 0)], 35, hp35, ((.tuple #[(K 0), (K 3)]), hp35)⟩
theorem of44_ok : of44.Ok Tryz.prog pureF := apO_sound (T := sfTab) (O := ot43) (n := 100000) sfTab_ok ot43_ok (by kernel_rfl)
noncomputable def ol44 : OL := .cons of44 ol43
theorem ol44_ok : ol44.Ok Tryz.prog pureF := ⟨of44_ok, ol43_ok⟩
noncomputable def ot44 : OT := (.cons 113 ol44 (.cons 110 ol1 (.cons 36 ol0 .nil)))
theorem ot44_ok : ot44.Ok Tryz.prog pureF := ⟨ol44_ok, ⟨ol1_ok, ⟨ol0_ok, trivial⟩⟩⟩
/-- coble/chart.Next, 3 ms -/
noncomputable def of45 : OF := ⟨(.func (.func 113) #[] #[]), [(.agg #[(K 4), (K 3), (V 1 0 12 12), (V 2 0 5 5), (V 3 0 5 5)]), (K 7), (K 1)], 35, hp35, ((.tuple #[(K 0), (K 3)]), hp35)⟩
theorem of45_ok : of45.Ok Tryz.prog pureF := apO_sound (T := sfTab) (O := ot44) (n := 100000) sfTab_ok ot44_ok (by kernel_rfl)
noncomputable def ol45 : OL := .cons of45 ol44
theorem ol45_ok : ol45.Ok Tryz.prog pureF := ⟨of45_ok, ol44_ok⟩
noncomputable def ot45 : OT := (.cons 113 ol45 (.cons 110 ol1 (.cons 36 ol0 .nil)))
theorem ot45_ok : ot45.Ok Tryz.prog pureF := ⟨ol45_ok, ⟨ol1_ok, ⟨ol0_ok, trivial⟩⟩⟩
/-- coble/chart.Next, 3 ms -/
noncomputable def of46 : OF := ⟨(.func (.func 113) #[] #[]), [(.agg #[(K 4), (K 3), (V 1 0 12 12), (V 2 0 5 5), (V 3 0 5 5)]), (K 7), (K 2)], 35, hp35, ((.tuple #[(K 11), (K 0)]), hp35)⟩
theorem of46_ok : of46.Ok Tryz.prog pureF := apO_sound (T := sfTab) (O := ot45) (n := 100000) sfTab_ok ot45_ok (by kernel_rfl)
noncomputable def ol46 : OL := .cons of46 ol45
theorem ol46_ok : ol46.Ok Tryz.prog pureF := ⟨of46_ok, ol45_ok⟩
noncomputable def ot46 : OT := (.cons 113 ol46 (.cons 110 ol1 (.cons 36 ol0 .nil)))
theorem ot46_ok : ot46.Ok Tryz.prog pureF := ⟨ol46_ok, ⟨ol1_ok, ⟨ol0_ok, trivial⟩⟩⟩
noncomputable def hp36 : AH := (hp5.take 35) ++ [.rw 1 [(V 39 0 2 3), (V 47 0 4 5), (V 55 0 4 5), (V 61 0 3 4), (V 71 0 5 6), (V 83 0 6 7), (V 95 0 6 7), (V 97 0 1 2), (E 0 0), (E 0 0), (E 0 0), (E 0 0)], .rw 1 [(K 1)], .dead, .rw 1 [(K 4)], .rw 1 [(K 1), (K 4)], .rw 1 [(K 2)], .dead, .rw 1 [(K 5)], .dead, .rw 1 [(K 4)], .dead, .rw 1 [(K 0)], .rw 1 [(K 2), (K 5), (K 4), (K 0)], .rw 1 [(K 3)], .dead, .rw 1 [(K 6)], .dead, .rw 1 [(K 5)], .dead, .rw 1 [(K 1)], .rw 1 [(K 3), (K 6), (K 5), (K 1)], .rw 1 [(K 7)], .dead, .rw 1 [(K 6)], .dead, .rw 1 [(K 2)], .rw 1 [(K 7), (K 6), (K 2)], .rw 1 [(K 5)], .dead, .rw 1 [(K 9)], .dead, .rw 1 [(K 8)], .dead, .rw 1 [(K 0)], .dead, .rw 1 [(K 1)], .rw 1 [(K 5), (K 9), (K 8), (K 0), (K 1)], .rw 1 [(K 6)], .dead, .rw 1 [(K 10)], .dead, .rw 1 [(K 9)], .dead, .rw 1 [(K 4)], .dead, .rw 1 [(K 1)], .dead, .rw 1 [(K 2)], .rw 1 [(K 6), (K 10), (K 9), (K 4), (K 1), (K 2)], .rw 1 [(K 7)], .dead, .rw 1 [(K 11)], .dead, .rw 1 [(K 10)], .dead, .rw 1 [(K 5)], .dead, .rw 1 [(K 2)], .dead, .rw 1 [(K 3)], .rw 1 [(K 7), (K 11), (K 10), (K 5), (K 2), (K 3)], .rw 1 [(K 11)], .rw 1 [(K 11)]]
/-- coble/chart.Next, 3 ms -/
noncomputable def of47 : OF := ⟨(.func (.func 113) #[] #[]), [(.agg #[(K 4), (K 3), (V 1 0 12 12), (V 2 0 5 5), (V 3 0 5 5)]), (K 7), (K 3)], 35, hp36, ((.tuple #[(K 6), (K 0)]), hp36)⟩
theorem of47_ok : of47.Ok Tryz.prog pureF := apO_sound (T := sfTab) (O := ot46) (n := 100000) sfTab_ok ot46_ok (by kernel_rfl)
noncomputable def ol47 : OL := .cons of47 ol46
theorem ol47_ok : ol47.Ok Tryz.prog pureF := ⟨of47_ok, ol46_ok⟩
noncomputable def ot47 : OT := (.cons 113 ol47 (.cons 110 ol1 (.cons 36 ol0 .nil)))
theorem ot47_ok : ot47.Ok Tryz.prog pureF := ⟨ol47_ok, ⟨ol1_ok, ⟨ol0_ok, trivial⟩⟩⟩
end Go.Proofs.YtnpifaanhofonaaGreatDoor
