/- A run of the program without arguments, piece by piece: computed by the kernel. Printed by tools/pieces.py. -/
import Derived.Test.YtnpifaanhofonaaGreatDoorPieE
import Derived.Test.YtnpifaanhofonaaGreatDoorTab
set_option linter.all false
set_option maxRecDepth 100000
namespace Go.Proofs.YtnpifaanhofonaaGreatDoor
open Go
noncomputable def hp62 : AH := (hp61.take 191) ++ [.rw 2 [(K 0), (K 0)], .rw 2 [(K 0), (K 4)], .rw 2 [(K 0), (K 0)], .rw 2 [(K 0), (K 4)], .rw 2 [(K 0), (K 0)], .rw 2 [(K 0), (K 4)], .rw 2 [(K 0), (K 0)], .rw 2 [(K 0), (K 4)]]
/-- coble/launch.open, 73 ms -/
noncomputable def of80 : OF := ⟨(.func (.func 36) #[] #[]), [(.agg #[(K 4), (K 3), (V 1 0 12 12), (V 2 0 5 5), (V 3 0 5 5)]), (.agg #[(K 20), (K 5), (K 4), (K 1), (K 10), (K 6), (K 1000)]), (.agg #[(K 5), (K 1), (K 0), (K 200), (K 5)])], 191, hp61, ((.tuple #[(.agg #[(K 4), (K 3), (V 1 0 12 12), (V 2 0 5 5), (V 3 0 5 5), (K 20), (K 5), (K 4), (K 1), (K 10), (K 6), (K 1000), (K 5), (V 196 0 1 2)]), (K 0)]), hp62)⟩
theorem of80_ok : of80.Ok Tryz.prog pureF := apO_sound (T := sfTab) (O := ot79) (n := 100000) sfTab_ok ot79_ok (by kernel_rfl)
noncomputable def ol80 : OL := .cons of80 ol0
theorem ol80_ok : ol80.Ok Tryz.prog pureF := ⟨of80_ok, ol0_ok⟩
noncomputable def ot80 : OT := (.cons 36 ol80 (.cons 20 ol79 (.cons 84 ol78 (.cons 58 ol77 (.cons 113 ol73 (.cons 110 ol1 .nil))))))
theorem ot80_ok : ot80.Ok Tryz.prog pureF := ⟨ol80_ok, ⟨ol79_ok, ⟨ol78_ok, ⟨ol77_ok, ⟨ol73_ok, ⟨ol1_ok, trivial⟩⟩⟩⟩⟩⟩
noncomputable def hp63 : AH := (hp62.take 199) ++ [.rw 0 [(K 0)], .rw 0 [(K 5000)], .rw 0 [(K 4), (K 3), (V 1 0 12 12), (V 2 0 5 5), (V 3 0 5 5), (K 20), (K 5), (K 4), (K 1), (K 10), (K 6), (K 1000), (K 5), (V 196 0 1 2)], .rw 1 [(K 5)], .rw 1 [(K 0)]]
noncomputable def hp64 : AH := (hp63.take 204) ++ [.rw 1 [(K (-1))], .rw 1 [(K 2), (K 2), (K (-1)), (K (-1)), (K 1), (K 0), (K 1), (K (-1)), (K 2), (K 1), (K 1), (K 2)], .rw 0 [(K 4), (K 3), (V 1 0 12 12), (V 2 0 5 5), (V 3 0 5 5), (K 20)], .rw 0 [(K 5)], .rw 0 [(K 0)], .rw 0 [(K 1)], .dead, .rw 1 [(K (-1))], .rw 1 [(K (-1)), (K (-1)), (K (-1)), (K (-1)), (K (-1)), (K 0), (K (-1)), (K (-1)), (K (-1)), (K (-1)), (K (-1)), (K (-1))], .rw 1 [(K (-1))], .rw 1 [(K (-1)), (K (-1)), (K (-1)), (K (-1)), (K 1), (K 0), (K 1), (K (-1)), (K (-1)), (K 1), (K 1), (K (-1))], .rw 1 [(K (-1))], .rw 1 [(K 2), (K 1), (K (-1)), (K (-1)), (K 1), (K 0), (K 1), (K (-1)), (K 2), (K 1), (K 1), (K 2)], .rw 1 [(K (-1))], .rw 1 [(K (-1)), (K (-1)), (K (-1)), (K (-1)), (K 1), (K 0), (K 1), (K (-1)), (K 2), (K 1), (K 1), (K 2)], .rw 1 [(K (-1))], .rw 1 [(K (-1)), (K (-1)), (K (-1)), (K (-1)), (K 1), (K 0), (K (-1)), (K (-1)), (K 2), (K 1), (K 1), (K 2)]]
/-- (coble/chart.boat).nearest, 221 ms -/
noncomputable def of81 : OF := ⟨(.func (.func 110) #[] #[]), [(.agg #[(K 4), (K 3), (V 1 0 12 12), (V 2 0 5 5), (V 3 0 5 5), (K 20)]), (K 5), (K 0), (K 1)], 202, hp63, ((V 205 0 12 12), hp64)⟩
theorem of81_ok : of81.Ok Tryz.prog pureF := apO_sound (T := sfTab) (O := ot80) (n := 100000) sfTab_ok ot80_ok (by kernel_rfl)
noncomputable def ol81 : OL := .cons of81 ol1
theorem ol81_ok : ol81.Ok Tryz.prog pureF := ⟨of81_ok, ol1_ok⟩
noncomputable def ot81 : OT := (.cons 110 ol81 (.cons 36 ol80 (.cons 20 ol79 (.cons 84 ol78 (.cons 58 ol77 (.cons 113 ol73 .nil))))))
theorem ot81_ok : ot81.Ok Tryz.prog pureF := ⟨ol81_ok, ⟨ol80_ok, ⟨ol79_ok, ⟨ol78_ok, ⟨ol77_ok, ⟨ol73_ok, trivial⟩⟩⟩⟩⟩⟩
noncomputable def hp65 : AH := (hp64.take 221) ++ [.rw 0 [(K 4), (K 3), (V 1 0 12 12), (V 2 0 5 5), (V 3 0 5 5), (K 20), (K 5), (K 4), (K 1), (K 10), (K 6), (K 1000), (K 5), (V 196 0 1 2)], .rw 1 [(E 0 0), (E 0 0), (E 0 0), (E 0 0), (E 0 0), (E 0 0), (E 0 0), (E 0 0), (E 0 0), (E 0 0), (E 0 0), (E 0 0)]]
/-- coble/chart.Next, 3 ms -/
noncomputable def of82 : OF := ⟨(.func (.func 113) #[] #[]), [(.agg #[(K 4), (K 3), (V 1 0 12 12), (V 2 0 5 5), (V 3 0 5 5)]), (K 0), (K 0)], 222, hp65, ((.tuple #[(K 1), (K 0)]), hp65)⟩
theorem of82_ok : of82.Ok Tryz.prog pureF := apO_sound (T := sfTab) (O := ot81) (n := 100000) sfTab_ok ot81_ok (by kernel_rfl)
noncomputable def ol82 : OL := .cons of82 ol73
theorem ol82_ok : ol82.Ok Tryz.prog pureF := ⟨of82_ok, ol73_ok⟩
noncomputable def ot82 : OT := (.cons 113 ol82 (.cons 110 ol81 (.cons 36 ol80 (.cons 20 ol79 (.cons 84 ol78 (.cons 58 ol77 .nil))))))
theorem ot82_ok : ot82.Ok Tryz.prog pureF := ⟨ol82_ok, ⟨ol81_ok, ⟨ol80_ok, ⟨ol79_ok, ⟨ol78_ok, ⟨ol77_ok, trivial⟩⟩⟩⟩⟩⟩
noncomputable def hp66 : AH := (hp65.take 222) ++ [.rw 1 [(V 224 0 1 2), (E 0 0), (E 0 0), (E 0 0), (E 0 0), (E 0 0), (E 0 0), (E 0 0), (E 0 0), (E 0 0), (E 0 0), (E 0 0)], .rw 1 [(K 1)], .rw 1 [(K 1)]]
/-- coble/chart.Next, 3 ms -/
noncomputable def of83 : OF := ⟨(.func (.func 113) #[] #[]), [(.agg #[(K 4), (K 3), (V 1 0 12 12), (V 2 0 5 5), (V 3 0 5 5)]), (K 0), (K 1)], 222, hp66, ((.tuple #[(K 4), (K 0)]), hp66)⟩
theorem of83_ok : of83.Ok Tryz.prog pureF := apO_sound (T := sfTab) (O := ot82) (n := 100000) sfTab_ok ot82_ok (by kernel_rfl)
noncomputable def ol83 : OL := .cons of83 ol82
theorem ol83_ok : ol83.Ok Tryz.prog pureF := ⟨of83_ok, ol82_ok⟩
noncomputable def ot83 : OT := (.cons 113 ol83 (.cons 110 ol81 (.cons 36 ol80 (.cons 20 ol79 (.cons 84 ol78 (.cons 58 ol77 .nil))))))
theorem ot83_ok : ot83.Ok Tryz.prog pureF := ⟨ol83_ok, ⟨ol81_ok, ⟨ol80_ok, ⟨ol79_ok, ⟨ol78_ok, ⟨ol77_ok, trivial⟩⟩⟩⟩⟩⟩
noncomputable def hp67 : AH := (hp65.take 222) ++ [.rw 1 [(V 226 0 2 3), (E 0 0), (E 0 0), (E 0 0), (E 0 0), (E 0 0), (E 0 0), (E 0 0), (E 0 0), (E 0 0), (E 0 0), (E 0 0)], .rw 1 [(K 1)], .dead, .rw 1 [(K 4)], .rw 1 [(K 1), (K 4)]]
/-- coble/chart.Next, 3 ms -/
noncomputable def of84 : OF := ⟨(.func (.func 113) #[] #[]), [(.agg #[(K 4), (K 3), (V 1 0 12 12), (V 2 0 5 5), (V 3 0 5 5)]), (K 0), (K 2)], 222, hp67, ((.tuple #[(K 0), (K 3)]), hp67)⟩
theorem of84_ok : of84.Ok Tryz.prog pureF := apO_sound (T := sfTab) (O := ot83) (n := 100000) sfTab_ok ot83_ok (by kernel_rfl)
noncomputable def ol84 : OL := .cons of84 ol83
theorem ol84_ok : ol84.Ok Tryz.prog pureF := ⟨of84_ok, ol83_ok⟩
noncomputable def ot84 : OT := (.cons 113 ol84 (.cons 110 ol81 (.cons 36 ol80 (.cons 20 ol79 (.cons 84 ol78 (.cons 58 ol77 .nil))))))
theorem ot84_ok : ot84.Ok Tryz.prog pureF := ⟨ol84_ok, ⟨ol81_ok, ⟨ol80_ok, ⟨ol79_ok, ⟨ol78_ok, ⟨ol77_ok, trivial⟩⟩⟩⟩⟩⟩
/-- coble/chart.Next, 3 ms -/
noncomputable def of85 : OF := ⟨(.func (.func 113) #[] #[]), [(.agg #[(K 4), (K 3), (V 1 0 12 12), (V 2 0 5 5), (V 3 0 5 5)]), (K 0), (K 3)], 222, hp67, ((.tuple #[(K 0), (K 3)]), hp67)⟩
theorem of85_ok : of85.Ok Tryz.prog pureF := apO_sound (T := sfTab) (O := ot84) (n := 100000) sfTab_ok ot84_ok (by kernel_rfl)
noncomputable def ol85 : OL := .cons of85 ol84
theorem ol85_ok : ol85.Ok Tryz.prog pureF := ⟨of85_ok, ol84_ok⟩
noncomputable def ot85 : OT := (.cons 113 ol85 (.cons 110 ol81 (.cons 36 ol80 (.cons 20 ol79 (.cons 84 ol78 (.cons 58 ol77 .nil))))))
theorem ot85_ok : ot85.Ok Tryz.prog pureF := ⟨ol85_ok, ⟨ol81_ok, ⟨ol80_ok, ⟨ol79_ok, ⟨ol78_ok, ⟨ol77_ok, trivial⟩⟩⟩⟩⟩⟩
/-- coble/chart.Next, 3 ms -/
noncomputable def of86 : OF := ⟨(.func (.func 113) #[] #[]), [(.agg #[(K 4), (K 3), (V 1 0 12 12), (V 2 0 5 5), (V 3 0 5 5)]), (K 0), (K 4)], 222, hp67, ((.tuple #[(K 0), (K 3)]), hp67)⟩
theorem of86_ok : of86.Ok Tryz.prog pureF := apO_sound (T := sfTab) (O := ot85) (n := 100000) sfTab_ok ot85_ok (by kernel_rfl)
noncomputable def ol86 : OL := .cons of86 ol85
theorem ol86_ok : ol86.Ok Tryz.prog pureF := ⟨of86_ok, ol85_ok⟩
noncomputable def ot86 : OT := (.cons 113 ol86 (.cons 110 ol81 (.cons 36 ol80 (.cons 20 ol79 (.cons 84 ol78 (.cons 58 ol77 .nil))))))
theorem ot86_ok : ot86.Ok Tryz.prog pureF := ⟨ol86_ok, ⟨ol81_ok, ⟨ol80_ok, ⟨ol79_ok, ⟨ol78_ok, ⟨ol77_ok, trivial⟩⟩⟩⟩⟩⟩
/-- coble/chart.Next, 3 ms -/
noncomputable def of87 : OF := ⟨(.func (.func 113) #[] #[]), [(.agg #[(K 4), (K 3), (V 1 0 12 12), (V 2 0 5 5), (V 3 0 5 5)]), (K 0), (K 5)], 222, hp67, ((.tuple #[(K 0), (K 3)]), hp67)⟩
theorem of87_ok : of87.Ok Tryz.prog pureF := apO_sound (T := sfTab) (O := ot86) (n := 100000) sfTab_ok ot86_ok (by kernel_rfl)
noncomputable def ol87 : OL := .cons of87 ol86
theorem ol87_ok : ol87.Ok Tryz.prog pureF := ⟨of87_ok, ol86_ok⟩
noncomputable def ot87 : OT := (.cons 113 ol87 (.cons 110 ol81 (.cons 36 ol80 (.cons 20 ol79 (.cons 84 ol78 (.cons 58 ol77 .nil))))))
theorem ot87_ok : ot87.Ok Tryz.prog pureF := ⟨ol87_ok, ⟨ol81_ok, ⟨ol80_ok, ⟨ol79_ok, ⟨ol78_ok, ⟨ol77_ok, trivial⟩⟩⟩⟩⟩⟩
/-- coble/chart.Next, 3 ms -/
noncomputable def of88 : OF := ⟨(.func (.func 113) #[] #[]), [(.agg #[(K 4), (K 3), (V 1 0 12 12), (V 2 0 5 5), (V 3 0 5 5)]), (K 1), (K 0)], 222, hp67, ((.tuple #[(K 2), (K 0)]), hp67)⟩
theorem of88_ok : of88.Ok Tryz.prog pureF := apO_sound (T := sfTab) (O := ot87) (n := 100000) sfTab_ok ot87_ok (by kernel_rfl)
noncomputable def ol88 : OL := .cons of88 ol87
theorem ol88_ok : ol88.Ok Tryz.prog pureF := ⟨of88_ok, ol87_ok⟩
noncomputable def ot88 : OT := (.cons 113 ol88 (.cons 110 ol81 (.cons 36 ol80 (.cons 20 ol79 (.cons 84 ol78 (.cons 58 ol77 .nil))))))
theorem ot88_ok : ot88.Ok Tryz.prog pureF := ⟨ol88_ok, ⟨ol81_ok, ⟨ol80_ok, ⟨ol79_ok, ⟨ol78_ok, ⟨ol77_ok, trivial⟩⟩⟩⟩⟩⟩
noncomputable def hp68 : AH := (hp65.take 222) ++ [.rw 1 [(V 226 0 2 3), (V 228 0 1 2), (E 0 0), (E 0 0), (E 0 0), (E 0 0), (E 0 0), (E 0 0), (E 0 0), (E 0 0), (E 0 0), (E 0 0)], .rw 1 [(K 1)], .dead, .rw 1 [(K 4)], .rw 1 [(K 1), (K 4)], .rw 1 [(K 2)], .rw 1 [(K 2)]]
/-- coble/chart.Next, 3 ms -/
noncomputable def of89 : OF := ⟨(.func (.func 113) #[] #[]), [(.agg #[(K 4), (K 3), (V 1 0 12 12), (V 2 0 5 5), (V 3 0 5 5)]), (K 1), (K 1)], 222, hp68, ((.tuple #[(K 5), (K 0)]), hp68)⟩
theorem of89_ok : of89.Ok Tryz.prog pureF := apO_sound (T := sfTab) (O := ot88) (n := 100000) sfTab_ok ot88_ok (by kernel_rfl)
noncomputable def ol89 : OL := .cons of89 ol88
theorem ol89_ok : ol89.Ok Tryz.prog pureF := ⟨of89_ok, ol88_ok⟩
noncomputable def ot89 : OT := (.cons 113 ol89 (.cons 110 ol81 (.cons 36 ol80 (.cons 20 ol79 (.cons 84 ol78 (.cons 58 ol77 .nil))))))
theorem ot89_ok : ot89.Ok Tryz.prog pureF := ⟨ol89_ok, ⟨ol81_ok, ⟨ol80_ok, ⟨ol79_ok, ⟨ol78_ok, ⟨ol77_ok, trivial⟩⟩⟩⟩⟩⟩
noncomputable def hp69 : AH := (hp65.take 222) ++ [.rw 1 [(V 226 0 2 3), (V 230 0 2 3), (E 0 0), (E 0 0), (E 0 0), (E 0 0), (E 0 0), (E 0 0), (E 0 0), (E 0 0), (E 0 0), (E 0 0)], .rw 1 [(K 1)], .dead, .rw 1 [(K 4)], .rw 1 [(K 1), (K 4)], .rw 1 [(K 2)], .dead, .rw 1 [(K 5)], .rw 1 [(K 2), (K 5)]]
/-- coble/chart.Next, 3 ms -/
noncomputable def of90 : OF := ⟨(.func (.func 113) #[] #[]), [(.agg #[(K 4), (K 3), (V 1 0 12 12), (V 2 0 5 5), (V 3 0 5 5)]), (K 1), (K 2)], 222, hp69, ((.tuple #[(K 4), (K 0)]), hp69)⟩
theorem of90_ok : of90.Ok Tryz.prog pureF := apO_sound (T := sfTab) (O := ot89) (n := 100000) sfTab_ok ot89_ok (by kernel_rfl)
noncomputable def ol90 : OL := .cons of90 ol89
theorem ol90_ok : ol90.Ok Tryz.prog pureF := ⟨of90_ok, ol89_ok⟩
noncomputable def ot90 : OT := (.cons 113 ol90 (.cons 110 ol81 (.cons 36 ol80 (.cons 20 ol79 (.cons 84 ol78 (.cons 58 ol77 .nil))))))
theorem ot90_ok : ot90.Ok Tryz.prog pureF := ⟨ol90_ok, ⟨ol81_ok, ⟨ol80_ok, ⟨ol79_ok, ⟨ol78_ok, ⟨ol77_ok, trivial⟩⟩⟩⟩⟩⟩
noncomputable def hp70 : AH := (hp65.take 222) ++ [.rw 1 [(V 226 0 2 3), (V 232 0 3 4), (E 0 0), (E 0 0), (E 0 0), (E 0 0), (E 0 0), (E 0 0), (E 0 0), (E 0 0), (E 0 0), (E 0 0)], .rw 1 [(K 1)], .dead, .rw 1 [(K 4)], .rw 1 [(K 1), (K 4)], .rw 1 [(K 2)], .dead, .rw 1 [(K 5)], .dead, .rw 1 [(K 4)], .rw 1 [(K 2), (K 5), (K 4)]]
/-- coble/chart.Next, 3 ms -/
noncomputable def of91 : OF := ⟨(.func (.func 113) #[] #[]), [(.agg #[(K 4), (K 3), (V 1 0 12 12), (V 2 0 5 5), (V 3 0 5 5)]), (K 1), (K 3)], 222, hp70, ((.tuple #[(K 0), (K 0)]), hp70)⟩
theorem of91_ok : of91.Ok Tryz.prog pureF := apO_sound (T := sfTab) (O := ot90) (n := 100000) sfTab_ok ot90_ok (by kernel_rfl)
noncomputable def ol91 : OL := .cons of91 ol90
theorem ol91_ok : ol91.Ok Tryz.prog pureF := ⟨of91_ok, ol90_ok⟩
noncomputable def ot91 : OT := (.cons 113 ol91 (.cons 110 ol81 (.cons 36 ol80 (.cons 20 ol79 (.cons 84 ol78 (.cons 58 ol77 .nil))))))
theorem ot91_ok : ot91.Ok Tryz.prog pureF := ⟨ol91_ok, ⟨ol81_ok, ⟨ol80_ok, ⟨ol79_ok, ⟨ol78_ok, ⟨ol77_ok, trivial⟩⟩⟩⟩⟩⟩
noncomputable def hp71 : AH := (hp65.take 222) ++ [.rw 1 [(V 226 0 2 3), (V 234 0 4 5), (E 0 0), (E 0 0), (E 0 0), (E 0 0), (E 0 0), (E 0 0), (E 0 0), (E 0 0), (E 0 0), (E 0 0)], .rw 1 [(K 1)], .dead, .rw 1 [(K 4)], .rw 1 [(K 1), (K 4)], .rw 1 [(K 2)], .dead, .rw 1 [(K 5)], .dead, .rw 1 [(K 4)], .dead, .rw 1 [(K 0)], .rw 1 [(K 2), (K 5), (K 4), (K 0)]]
/-- coble/chart.Next, 3 ms -/
noncomputable def of92 : OF := ⟨(.func (.func 113) #[] #[]), [(.agg #[(K 4), (K 3), (V 1 0 12 12), (V 2 0 5 5), (V 3 0 5 5)]), (K 1), (K 4)], 222, hp71, ((.tuple #[(K 0), (K 3)]), hp71)⟩
theorem of92_ok : of92.Ok Tryz.prog pureF := apO_sound (T := sfTab) (O := ot91) (n := 100000) sfTab_ok ot91_ok (by kernel_rfl)
noncomputable def ol92 : OL := .cons of92 ol91
theorem ol92_ok : ol92.Ok Tryz.prog pureF := ⟨of92_ok, ol91_ok⟩
noncomputable def ot92 : OT := (.cons 113 ol92 (.cons 110 ol81 (.cons 36 ol80 (.cons 20 ol79 (.cons 84 ol78 (.cons 58 ol77 .nil))))))
theorem ot92_ok : ot92.Ok Tryz.prog pureF := ⟨ol92_ok, ⟨ol81_ok, ⟨ol80_ok, ⟨ol79_ok, ⟨ol78_ok, ⟨ol77_ok, trivial⟩⟩⟩⟩⟩⟩
/-- coble/chart.Next, 3 ms -/
noncomputable def of93 : OF := ⟨(.func (.func 113) #[] #[]), [(.agg #[(K 4), (K 3), (V 1 0 12 12), (V 2 0 5 5), (V 3 0 5 5)]), (K 1), (K 5)], 222, hp71, ((.tuple #[(K 0), (K 3)]), hp71)⟩
theorem of93_ok : of93.Ok Tryz.prog pureF := apO_sound (T := sfTab) (O := ot92) (n := 100000) sfTab_ok ot92_ok (by kernel_rfl)
noncomputable def ol93 : OL := .cons of93 ol92
theorem ol93_ok : ol93.Ok Tryz.prog pureF := ⟨of93_ok, ol92_ok⟩
noncomputable def ot93 : OT := (.cons 113 ol93 (.cons 110 ol81 (.cons 36 ol80 (.cons 20 ol79 (.cons 84 ol78 (.cons 58 ol77 .nil))))))
theorem ot93_ok : ot93.Ok Tryz.prog pureF := ⟨ol93_ok, ⟨ol81_ok, ⟨ol80_ok, ⟨ol79_ok, ⟨ol78_ok, ⟨ol77_ok, trivial⟩⟩⟩⟩⟩⟩
/-- coble/chart.Next, 3 ms -/
noncomputable def of94 : OF := ⟨(.func (.func 113) #[] #[]), [(.agg #[(K 4), (K 3), (V 1 0 12 12), (V 2 0 5 5), (V 3 0 5 5)]), (K 2), (K 0)], 222, hp71, ((.tuple #[(K 3), (K 0)]), hp71)⟩
theorem of94_ok : of94.Ok Tryz.prog pureF := apO_sound (T := sfTab) (O := ot93) (n := 100000) sfTab_ok ot93_ok (by kernel_rfl)
noncomputable def ol94 : OL := .cons of94 ol93
theorem ol94_ok : ol94.Ok Tryz.prog pureF := ⟨of94_ok, ol93_ok⟩
noncomputable def ot94 : OT := (.cons 113 ol94 (.cons 110 ol81 (.cons 36 ol80 (.cons 20 ol79 (.cons 84 ol78 (.cons 58 ol77 .nil))))))
theorem ot94_ok : ot94.Ok Tryz.prog pureF := ⟨ol94_ok, ⟨ol81_ok, ⟨ol80_ok, ⟨ol79_ok, ⟨ol78_ok, ⟨ol77_ok, trivial⟩⟩⟩⟩⟩⟩
noncomputable def hp72 : AH := (hp65.take 222) ++ [.rw 1 [(V 226 0 2 3), (V 234 0 4 5), (V 236 0 1 2), (E 0 0), (E 0 0), (E 0 0), (E 0 0), (E 0 0), (E 0 0), (E 0 0), (E 0 0), (E 0 0)], .rw 1 [(K 1)], .dead, .rw 1 [(K 4)], .rw 1 [(K 1), (K 4)], .rw 1 [(K 2)], .dead, .rw 1 [(K 5)], .dead, .rw 1 [(K 4)], .dead, .rw 1 [(K 0)], .rw 1 [(K 2), (K 5), (K 4), (K 0)], .rw 1 [(K 3)], .rw 1 [(K 3)]]
/-- coble/chart.Next, 3 ms -/
noncomputable def of95 : OF := ⟨(.func (.func 113) #[] #[]), [(.agg #[(K 4), (K 3), (V 1 0 12 12), (V 2 0 5 5), (V 3 0 5 5)]), (K 2), (K 1)], 222, hp72, ((.tuple #[(K 6), (K 0)]), hp72)⟩
theorem of95_ok : of95.Ok Tryz.prog pureF := apO_sound (T := sfTab) (O := ot94) (n := 100000) sfTab_ok ot94_ok (by kernel_rfl)
noncomputable def ol95 : OL := .cons of95 ol94
theorem ol95_ok : ol95.Ok Tryz.prog pureF := ⟨of95_ok, ol94_ok⟩
noncomputable def ot95 : OT := (.cons 113 ol95 (.cons 110 ol81 (.cons 36 ol80 (.cons 20 ol79 (.cons 84 ol78 (.cons 58 ol77 .nil))))))
theorem ot95_ok : ot95.Ok Tryz.prog pureF := ⟨ol95_ok, ⟨ol81_ok, ⟨ol80_ok, ⟨ol79_ok, ⟨ol78_ok, ⟨ol77_ok, trivial⟩⟩⟩⟩⟩⟩
end Go.Proofs.YtnpifaanhofonaaGreatDoor
