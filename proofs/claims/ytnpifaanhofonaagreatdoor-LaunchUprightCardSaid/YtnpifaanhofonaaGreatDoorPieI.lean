/- A run of the program without arguments, piece by piece: computed by the kernel. Printed by tools/pieces.py. -/
import Derived.Test.YtnpifaanhofonaaGreatDoorPieH
import Derived.Test.YtnpifaanhofonaaGreatDoorTab
set_option linter.all false
set_option maxRecDepth 100000
namespace Go.Proofs.YtnpifaanhofonaaGreatDoor
open Go
noncomputable def hp97 : AH := (hp65.take 222) ++ [.rw 1 [(V 226 0 2 3), (V 234 0 4 5), (V 242 0 4 5), (V 248 0 3 4), (V 258 0 5 6), (V 270 0 6 7), (V 282 0 6 7), (V 286 0 2 3), (E 0 0), (E 0 0), (E 0 0), (E 0 0)], .rw 1 [(K 1)], .dead, .rw 1 [(K 4)], .rw 1 [(K 1), (K 4)], .rw 1 [(K 2)], .dead, .rw 1 [(K 5)], .dead, .rw 1 [(K 4)], .dead, .rw 1 [(K 0)], .rw 1 [(K 2), (K 5), (K 4), (K 0)], .rw 1 [(K 3)], .dead, .rw 1 [(K 6)], .dead, .rw 1 [(K 5)], .dead, .rw 1 [(K 1)], .rw 1 [(K 3), (K 6), (K 5), (K 1)], .rw 1 [(K 7)], .dead, .rw 1 [(K 6)], .dead, .rw 1 [(K 2)], .rw 1 [(K 7), (K 6), (K 2)], .rw 1 [(K 5)], .dead, .rw 1 [(K 9)], .dead, .rw 1 [(K 8)], .dead, .rw 1 [(K 0)], .dead, .rw 1 [(K 1)], .rw 1 [(K 5), (K 9), (K 8), (K 0), (K 1)], .rw 1 [(K 6)], .dead, .rw 1 [(K 10)], .dead, .rw 1 [(K 9)], .dead, .rw 1 [(K 4)], .dead, .rw 1 [(K 1)], .dead, .rw 1 [(K 2)], .rw 1 [(K 6), (K 10), (K 9), (K 4), (K 1), (K 2)], .rw 1 [(K 7)], .dead, .rw 1 [(K 11)], .dead, .rw 1 [(K 10)], .dead, .rw 1 [(K 5)], .dead, .rw 1 [(K 2)], .dead, .rw 1 [(K 3)], .rw 1 [(K 7), (K 11), (K 10), (K 5), (K 2), (K 3)], .rw 1 [(K 11)], .dead, .rw 1 [(K 6)], .rw 1 [(K 11), (K 6)]]
/-- coble/chart.Next, 3 ms -/
noncomputable def of128 : OF := ⟨(.func (.func 113) #[] #[]), [(.agg #[(K 4), (K 3), (V 1 0 12 12), (V 2 0 5 5), (V 3 0 5 5)]), (K 7), (K 4)], 222, hp97, ((.tuple #[(K 3), (K 0)]), hp97)⟩
theorem of128_ok : of128.Ok Tryz.prog pureF := apO_sound (T := sfTab) (O := ot127) (n := 100000) sfTab_ok ot127_ok (by kernel_rfl)
noncomputable def ol128 : OL := .cons of128 ol127
theorem ol128_ok : ol128.Ok Tryz.prog pureF := ⟨of128_ok, ol127_ok⟩
noncomputable def ot128 : OT := (.cons 113 ol128 (.cons 110 ol81 (.cons 36 ol80 (.cons 20 ol79 (.cons 84 ol78 (.cons 58 ol77 .nil))))))
theorem ot128_ok : ot128.Ok Tryz.prog pureF := ⟨ol128_ok, ⟨ol81_ok, ⟨ol80_ok, ⟨ol79_ok, ⟨ol78_ok, ⟨ol77_ok, trivial⟩⟩⟩⟩⟩⟩
noncomputable def hp98 : AH := (hp65.take 222) ++ [.rw 1 [(V 226 0 2 3), (V 234 0 4 5), (V 242 0 4 5), (V 248 0 3 4), (V 258 0 5 6), (V 270 0 6 7), (V 282 0 6 7), (V 288 0 3 4), (E 0 0), (E 0 0), (E 0 0), (E 0 0)], .rw 1 [(K 1)], .dead, .rw 1 [(K 4)], .rw 1 [(K 1), (K 4)], .rw 1 [(K 2)], .dead, .rw 1 [(K 5)], .dead, .rw 1 [(K 4)], .dead, .rw 1 [(K 0)], .rw 1 [(K 2), (K 5), (K 4), (K 0)], .rw 1 [(K 3)], .dead, .rw 1 [(K 6)], .dead, .rw 1 [(K 5)], .dead, .rw 1 [(K 1)], .rw 1 [(K 3), (K 6), (K 5), (K 1)], .rw 1 [(K 7)], .dead, .rw 1 [(K 6)], .dead, .rw 1 [(K 2)], .rw 1 [(K 7), (K 6), (K 2)], .rw 1 [(K 5)], .dead, .rw 1 [(K 9)], .dead, .rw 1 [(K 8)], .dead, .rw 1 [(K 0)], .dead, .rw 1 [(K 1)], .rw 1 [(K 5), (K 9), (K 8), (K 0), (K 1)], .rw 1 [(K 6)], .dead, .rw 1 [(K 10)], .dead, .rw 1 [(K 9)], .dead, .rw 1 [(K 4)], .dead, .rw 1 [(K 1)], .dead, .rw 1 [(K 2)], .rw 1 [(K 6), (K 10), (K 9), (K 4), (K 1), (K 2)], .rw 1 [(K 7)], .dead, .rw 1 [(K 11)], .dead, .rw 1 [(K 10)], .dead, .rw 1 [(K 5)], .dead, .rw 1 [(K 2)], .dead, .rw 1 [(K 3)], .rw 1 [(K 7), (K 11), (K 10), (K 5), (K 2), (K 3)], .rw 1 [(K 11)], .dead, .rw 1 [(K 6)], .dead, .rw 1 [(K 3)], .rw 1 [(K 11), (K 6), (K 3)]]
/-- coble/chart.Next, 3 ms -/
noncomputable def of129 : OF := ⟨(.func (.func 113) #[] #[]), [(.agg #[(K 4), (K 3), (V 1 0 12 12), (V 2 0 5 5), (V 3 0 5 5)]), (K 7), (K 5)], 222, hp98, ((.tuple #[(K 0), (K 3)]), hp98)⟩
theorem of129_ok : of129.Ok Tryz.prog pureF := apO_sound (T := sfTab) (O := ot128) (n := 100000) sfTab_ok ot128_ok (by kernel_rfl)
noncomputable def ol129 : OL := .cons of129 ol128
theorem ol129_ok : ol129.Ok Tryz.prog pureF := ⟨of129_ok, ol128_ok⟩
noncomputable def ot129 : OT := (.cons 113 ol129 (.cons 110 ol81 (.cons 36 ol80 (.cons 20 ol79 (.cons 84 ol78 (.cons 58 ol77 .nil))))))
theorem ot129_ok : ot129.Ok Tryz.prog pureF := ⟨ol129_ok, ⟨ol81_ok, ⟨ol80_ok, ⟨ol79_ok, ⟨ol78_ok, ⟨ol77_ok, trivial⟩⟩⟩⟩⟩⟩
/-- coble/chart.Next, 3 ms -/
noncomputable def of130 : OF := ⟨(.func (.func 113) #[] #[]), [(.agg #[(K 4), (K 3), (V 1 0 12 12), (V 2 0 5 5), (V 3 0 5 5)]), (K 8), (K 0)], 222, hp98, ((.tuple #[(K 9), (K 0)]), hp98)⟩
theorem of130_ok : of130.Ok Tryz.prog pureF := apO_sound (T := sfTab) (O := ot129) (n := 100000) sfTab_ok ot129_ok (by kernel_rfl)
noncomputable def ol130 : OL := .cons of130 ol129
theorem ol130_ok : ol130.Ok Tryz.prog pureF := ⟨of130_ok, ol129_ok⟩
noncomputable def ot130 : OT := (.cons 113 ol130 (.cons 110 ol81 (.cons 36 ol80 (.cons 20 ol79 (.cons 84 ol78 (.cons 58 ol77 .nil))))))
theorem ot130_ok : ot130.Ok Tryz.prog pureF := ⟨ol130_ok, ⟨ol81_ok, ⟨ol80_ok, ⟨ol79_ok, ⟨ol78_ok, ⟨ol77_ok, trivial⟩⟩⟩⟩⟩⟩
noncomputable def hp99 : AH := (hp65.take 222) ++ [.rw 1 [(V 226 0 2 3), (V 234 0 4 5), (V 242 0 4 5), (V 248 0 3 4), (V 258 0 5 6), (V 270 0 6 7), (V 282 0 6 7), (V 288 0 3 4), (V 290 0 1 2), (E 0 0), (E 0 0), (E 0 0)], .rw 1 [(K 1)], .dead, .rw 1 [(K 4)], .rw 1 [(K 1), (K 4)], .rw 1 [(K 2)], .dead, .rw 1 [(K 5)], .dead, .rw 1 [(K 4)], .dead, .rw 1 [(K 0)], .rw 1 [(K 2), (K 5), (K 4), (K 0)], .rw 1 [(K 3)], .dead, .rw 1 [(K 6)], .dead, .rw 1 [(K 5)], .dead, .rw 1 [(K 1)], .rw 1 [(K 3), (K 6), (K 5), (K 1)], .rw 1 [(K 7)], .dead, .rw 1 [(K 6)], .dead, .rw 1 [(K 2)], .rw 1 [(K 7), (K 6), (K 2)], .rw 1 [(K 5)], .dead, .rw 1 [(K 9)], .dead, .rw 1 [(K 8)], .dead, .rw 1 [(K 0)], .dead, .rw 1 [(K 1)], .rw 1 [(K 5), (K 9), (K 8), (K 0), (K 1)], .rw 1 [(K 6)], .dead, .rw 1 [(K 10)], .dead, .rw 1 [(K 9)], .dead, .rw 1 [(K 4)], .dead, .rw 1 [(K 1)], .dead, .rw 1 [(K 2)], .rw 1 [(K 6), (K 10), (K 9), (K 4), (K 1), (K 2)], .rw 1 [(K 7)], .dead, .rw 1 [(K 11)], .dead, .rw 1 [(K 10)], .dead, .rw 1 [(K 5)], .dead, .rw 1 [(K 2)], .dead, .rw 1 [(K 3)], .rw 1 [(K 7), (K 11), (K 10), (K 5), (K 2), (K 3)], .rw 1 [(K 11)], .dead, .rw 1 [(K 6)], .dead, .rw 1 [(K 3)], .rw 1 [(K 11), (K 6), (K 3)], .rw 1 [(K 9)], .rw 1 [(K 9)]]
/-- coble/chart.Next, 3 ms -/
noncomputable def of131 : OF := ⟨(.func (.func 113) #[] #[]), [(.agg #[(K 4), (K 3), (V 1 0 12 12), (V 2 0 5 5), (V 3 0 5 5)]), (K 8), (K 1)], 222, hp99, ((.tuple #[(K 0), (K 3)]), hp99)⟩
theorem of131_ok : of131.Ok Tryz.prog pureF := apO_sound (T := sfTab) (O := ot130) (n := 100000) sfTab_ok ot130_ok (by kernel_rfl)
noncomputable def ol131 : OL := .cons of131 ol130
theorem ol131_ok : ol131.Ok Tryz.prog pureF := ⟨of131_ok, ol130_ok⟩
noncomputable def ot131 : OT := (.cons 113 ol131 (.cons 110 ol81 (.cons 36 ol80 (.cons 20 ol79 (.cons 84 ol78 (.cons 58 ol77 .nil))))))
theorem ot131_ok : ot131.Ok Tryz.prog pureF := ⟨ol131_ok, ⟨ol81_ok, ⟨ol80_ok, ⟨ol79_ok, ⟨ol78_ok, ⟨ol77_ok, trivial⟩⟩⟩⟩⟩⟩
/-- coble/chart.Next, 3 ms -/
noncomputable def of132 : OF := ⟨(.func (.func 113) #[] #[]), [(.agg #[(K 4), (K 3), (V 1 0 12 12), (V 2 0 5 5), (V 3 0 5 5)]), (K 8), (K 2)], 222, hp99, ((.tuple #[(K 0), (K 3)]), hp99)⟩
theorem of132_ok : of132.Ok Tryz.prog pureF := apO_sound (T := sfTab) (O := ot131) (n := 100000) sfTab_ok ot131_ok (by kernel_rfl)
noncomputable def ol132 : OL := .cons of132 ol131
theorem ol132_ok : ol132.Ok Tryz.prog pureF := ⟨of132_ok, ol131_ok⟩
noncomputable def ot132 : OT := (.cons 113 ol132 (.cons 110 ol81 (.cons 36 ol80 (.cons 20 ol79 (.cons 84 ol78 (.cons 58 ol77 .nil))))))
theorem ot132_ok : ot132.Ok Tryz.prog pureF := ⟨ol132_ok, ⟨ol81_ok, ⟨ol80_ok, ⟨ol79_ok, ⟨ol78_ok, ⟨ol77_ok, trivial⟩⟩⟩⟩⟩⟩
/-- coble/chart.Next, 3 ms -/
noncomputable def of133 : OF := ⟨(.func (.func 113) #[] #[]), [(.agg #[(K 4), (K 3), (V 1 0 12 12), (V 2 0 5 5), (V 3 0 5 5)]), (K 8), (K 3)], 222, hp99, ((.tuple #[(K 0), (K 3)]), hp99)⟩
theorem of133_ok : of133.Ok Tryz.prog pureF := apO_sound (T := sfTab) (O := ot132) (n := 100000) sfTab_ok ot132_ok (by kernel_rfl)
noncomputable def ol133 : OL := .cons of133 ol132
theorem ol133_ok : ol133.Ok Tryz.prog pureF := ⟨of133_ok, ol132_ok⟩
noncomputable def ot133 : OT := (.cons 113 ol133 (.cons 110 ol81 (.cons 36 ol80 (.cons 20 ol79 (.cons 84 ol78 (.cons 58 ol77 .nil))))))
theorem ot133_ok : ot133.Ok Tryz.prog pureF := ⟨ol133_ok, ⟨ol81_ok, ⟨ol80_ok, ⟨ol79_ok, ⟨ol78_ok, ⟨ol77_ok, trivial⟩⟩⟩⟩⟩⟩
/-- coble/chart.Next, 3 ms -/
noncomputable def of134 : OF := ⟨(.func (.func 113) #[] #[]), [(.agg #[(K 4), (K 3), (V 1 0 12 12), (V 2 0 5 5), (V 3 0 5 5)]), (K 8), (K 4)], 222, hp99, ((.tuple #[(K 0), (K 3)]), hp99)⟩
theorem of134_ok : of134.Ok Tryz.prog pureF := apO_sound (T := sfTab) (O := ot133) (n := 100000) sfTab_ok ot133_ok (by kernel_rfl)
noncomputable def ol134 : OL := .cons of134 ol133
theorem ol134_ok : ol134.Ok Tryz.prog pureF := ⟨of134_ok, ol133_ok⟩
noncomputable def ot134 : OT := (.cons 113 ol134 (.cons 110 ol81 (.cons 36 ol80 (.cons 20 ol79 (.cons 84 ol78 (.cons 58 ol77 .nil))))))
theorem ot134_ok : ot134.Ok Tryz.prog pureF := ⟨ol134_ok, ⟨ol81_ok, ⟨ol80_ok, ⟨ol79_ok, ⟨ol78_ok, ⟨ol77_ok, trivial⟩⟩⟩⟩⟩⟩
/-- coble/chart.Next, 3 ms -/
noncomputable def of135 : OF := ⟨(.func (.func 113) #[] #[]), [(.agg #[(K 4), (K 3), (V 1 0 12 12), (V 2 0 5 5), (V 3 0 5 5)]), (K 8), (K 5)], 222, hp99, ((.tuple #[(K 4), (K 0)]), hp99)⟩
theorem of135_ok : of135.Ok Tryz.prog pureF := apO_sound (T := sfTab) (O := ot134) (n := 100000) sfTab_ok ot134_ok (by kernel_rfl)
noncomputable def ol135 : OL := .cons of135 ol134
theorem ol135_ok : ol135.Ok Tryz.prog pureF := ⟨of135_ok, ol134_ok⟩
noncomputable def ot135 : OT := (.cons 113 ol135 (.cons 110 ol81 (.cons 36 ol80 (.cons 20 ol79 (.cons 84 ol78 (.cons 58 ol77 .nil))))))
theorem ot135_ok : ot135.Ok Tryz.prog pureF := ⟨ol135_ok, ⟨ol81_ok, ⟨ol80_ok, ⟨ol79_ok, ⟨ol78_ok, ⟨ol77_ok, trivial⟩⟩⟩⟩⟩⟩
noncomputable def hp100 : AH := (hp65.take 222) ++ [.rw 1 [(V 226 0 2 3), (V 234 0 4 5), (V 242 0 4 5), (V 248 0 3 4), (V 258 0 5 6), (V 270 0 6 7), (V 282 0 6 7), (V 288 0 3 4), (V 292 0 2 3), (E 0 0), (E 0 0), (E 0 0)], .rw 1 [(K 1)], .dead, .rw 1 [(K 4)], .rw 1 [(K 1), (K 4)], .rw 1 [(K 2)], .dead, .rw 1 [(K 5)], .dead, .rw 1 [(K 4)], .dead, .rw 1 [(K 0)], .rw 1 [(K 2), (K 5), (K 4), (K 0)], .rw 1 [(K 3)], .dead, .rw 1 [(K 6)], .dead, .rw 1 [(K 5)], .dead, .rw 1 [(K 1)], .rw 1 [(K 3), (K 6), (K 5), (K 1)], .rw 1 [(K 7)], .dead, .rw 1 [(K 6)], .dead, .rw 1 [(K 2)], .rw 1 [(K 7), (K 6), (K 2)], .rw 1 [(K 5)], .dead, .rw 1 [(K 9)], .dead, .rw 1 [(K 8)], .dead, .rw 1 [(K 0)], .dead, .rw 1 [(K 1)], .rw 1 [(K 5), (K 9), (K 8), (K 0), (K 1)], .rw 1 [(K 6)], .dead, .rw 1 [(K 10)], .dead, .rw 1 [(K 9)], .dead, .rw 1 [(K 4)], .dead, .rw 1 [(K 1)], .dead, .rw 1 [(K 2)], .rw 1 [(K 6), (K 10), (K 9), (K 4), (K 1), (K 2)], .rw 1 [(K 7)], .dead, .rw 1 [(K 11)], .dead, .rw 1 [(K 10)], .dead, .rw 1 [(K 5)], .dead, .rw 1 [(K 2)], .dead, .rw 1 [(K 3)], .rw 1 [(K 7), (K 11), (K 10), (K 5), (K 2), (K 3)], .rw 1 [(K 11)], .dead, .rw 1 [(K 6)], .dead, .rw 1 [(K 3)], .rw 1 [(K 11), (K 6), (K 3)], .rw 1 [(K 9)], .dead, .rw 1 [(K 4)], .rw 1 [(K 9), (K 4)]]
/-- coble/chart.Next, 3 ms -/
noncomputable def of136 : OF := ⟨(.func (.func 113) #[] #[]), [(.agg #[(K 4), (K 3), (V 1 0 12 12), (V 2 0 5 5), (V 3 0 5 5)]), (K 9), (K 0)], 222, hp100, ((.tuple #[(K 10), (K 0)]), hp100)⟩
theorem of136_ok : of136.Ok Tryz.prog pureF := apO_sound (T := sfTab) (O := ot135) (n := 100000) sfTab_ok ot135_ok (by kernel_rfl)
noncomputable def ol136 : OL := .cons of136 ol135
theorem ol136_ok : ol136.Ok Tryz.prog pureF := ⟨of136_ok, ol135_ok⟩
noncomputable def ot136 : OT := (.cons 113 ol136 (.cons 110 ol81 (.cons 36 ol80 (.cons 20 ol79 (.cons 84 ol78 (.cons 58 ol77 .nil))))))
theorem ot136_ok : ot136.Ok Tryz.prog pureF := ⟨ol136_ok, ⟨ol81_ok, ⟨ol80_ok, ⟨ol79_ok, ⟨ol78_ok, ⟨ol77_ok, trivial⟩⟩⟩⟩⟩⟩
noncomputable def hp101 : AH := (hp65.take 222) ++ [.rw 1 [(V 226 0 2 3), (V 234 0 4 5), (V 242 0 4 5), (V 248 0 3 4), (V 258 0 5 6), (V 270 0 6 7), (V 282 0 6 7), (V 288 0 3 4), (V 292 0 2 3), (V 294 0 1 2), (E 0 0), (E 0 0)], .rw 1 [(K 1)], .dead, .rw 1 [(K 4)], .rw 1 [(K 1), (K 4)], .rw 1 [(K 2)], .dead, .rw 1 [(K 5)], .dead, .rw 1 [(K 4)], .dead, .rw 1 [(K 0)], .rw 1 [(K 2), (K 5), (K 4), (K 0)], .rw 1 [(K 3)], .dead, .rw 1 [(K 6)], .dead, .rw 1 [(K 5)], .dead, .rw 1 [(K 1)], .rw 1 [(K 3), (K 6), (K 5), (K 1)], .rw 1 [(K 7)], .dead, .rw 1 [(K 6)], .dead, .rw 1 [(K 2)], .rw 1 [(K 7), (K 6), (K 2)], .rw 1 [(K 5)], .dead, .rw 1 [(K 9)], .dead, .rw 1 [(K 8)], .dead, .rw 1 [(K 0)], .dead, .rw 1 [(K 1)], .rw 1 [(K 5), (K 9), (K 8), (K 0), (K 1)], .rw 1 [(K 6)], .dead, .rw 1 [(K 10)], .dead, .rw 1 [(K 9)], .dead, .rw 1 [(K 4)], .dead, .rw 1 [(K 1)], .dead, .rw 1 [(K 2)], .rw 1 [(K 6), (K 10), (K 9), (K 4), (K 1), (K 2)], .rw 1 [(K 7)], .dead, .rw 1 [(K 11)], .dead, .rw 1 [(K 10)], .dead, .rw 1 [(K 5)], .dead, .rw 1 [(K 2)], .dead, .rw 1 [(K 3)], .rw 1 [(K 7), (K 11), (K 10), (K 5), (K 2), (K 3)], .rw 1 [(K 11)], .dead, .rw 1 [(K 6)], .dead, .rw 1 [(K 3)], .rw 1 [(K 11), (K 6), (K 3)], .rw 1 [(K 9)], .dead, .rw 1 [(K 4)], .rw 1 [(K 9), (K 4)], .rw 1 [(K 10)], .rw 1 [(K 10)]]
/-- coble/chart.Next, 3 ms -/
noncomputable def of137 : OF := ⟨(.func (.func 113) #[] #[]), [(.agg #[(K 4), (K 3), (V 1 0 12 12), (V 2 0 5 5), (V 3 0 5 5)]), (K 9), (K 1)], 222, hp101, ((.tuple #[(K 0), (K 3)]), hp101)⟩
theorem of137_ok : of137.Ok Tryz.prog pureF := apO_sound (T := sfTab) (O := ot136) (n := 100000) sfTab_ok ot136_ok (by kernel_rfl)
noncomputable def ol137 : OL := .cons of137 ol136
theorem ol137_ok : ol137.Ok Tryz.prog pureF := ⟨of137_ok, ol136_ok⟩
noncomputable def ot137 : OT := (.cons 113 ol137 (.cons 110 ol81 (.cons 36 ol80 (.cons 20 ol79 (.cons 84 ol78 (.cons 58 ol77 .nil))))))
theorem ot137_ok : ot137.Ok Tryz.prog pureF := ⟨ol137_ok, ⟨ol81_ok, ⟨ol80_ok, ⟨ol79_ok, ⟨ol78_ok, ⟨ol77_ok, trivial⟩⟩⟩⟩⟩⟩
/-- coble/chart.Next, 3 ms -/
noncomputable def of138 : OF := ⟨(.func (.func 113) #[] #[]), [(.agg #[(K 4), (K 3), (V 1 0 12 12), (V 2 0 5 5), (V 3 0 5 5)]), (K 9), (K 2)], 222, hp101, ((.tuple #[(K 0), (K 3)]), hp101)⟩
theorem of138_ok : of138.Ok Tryz.prog pureF := apO_sound (T := sfTab) (O := ot137) (n := 100000) sfTab_ok ot137_ok (by kernel_rfl)
noncomputable def ol138 : OL := .cons of138 ol137
theorem ol138_ok : ol138.Ok Tryz.prog pureF := ⟨of138_ok, ol137_ok⟩
noncomputable def ot138 : OT := (.cons 113 ol138 (.cons 110 ol81 (.cons 36 ol80 (.cons 20 ol79 (.cons 84 ol78 (.cons 58 ol77 .nil))))))
theorem ot138_ok : ot138.Ok Tryz.prog pureF := ⟨ol138_ok, ⟨ol81_ok, ⟨ol80_ok, ⟨ol79_ok, ⟨ol78_ok, ⟨ol77_ok, trivial⟩⟩⟩⟩⟩⟩
/-- coble/chart.Next, 3 ms -/
noncomputable def of139 : OF := ⟨(.func (.func 113) #[] #[]), [(.agg #[(K 4), (K 3), (V 1 0 12 12), (V 2 0 5 5), (V 3 0 5 5)]), (K 9), (K 3)], 222, hp101, ((.tuple #[(K 8), (K 0)]), hp101)⟩
theorem of139_ok : of139.Ok Tryz.prog pureF := apO_sound (T := sfTab) (O := ot138) (n := 100000) sfTab_ok ot138_ok (by kernel_rfl)
noncomputable def ol139 : OL := .cons of139 ol138
theorem ol139_ok : ol139.Ok Tryz.prog pureF := ⟨of139_ok, ol138_ok⟩
noncomputable def ot139 : OT := (.cons 113 ol139 (.cons 110 ol81 (.cons 36 ol80 (.cons 20 ol79 (.cons 84 ol78 (.cons 58 ol77 .nil))))))
theorem ot139_ok : ot139.Ok Tryz.prog pureF := ⟨ol139_ok, ⟨ol81_ok, ⟨ol80_ok, ⟨ol79_ok, ⟨ol78_ok, ⟨ol77_ok, trivial⟩⟩⟩⟩⟩⟩
noncomputable def hp102 : AH := (hp65.take 222) ++ [.rw 1 [(V 226 0 2 3), (V 234 0 4 5), (V 242 0 4 5), (V 248 0 3 4), (V 258 0 5 6), (V 270 0 6 7), (V 282 0 6 7), (V 288 0 3 4), (V 292 0 2 3), (V 296 0 2 3), (E 0 0), (E 0 0)], .rw 1 [(K 1)], .dead, .rw 1 [(K 4)], .rw 1 [(K 1), (K 4)], .rw 1 [(K 2)], .dead, .rw 1 [(K 5)], .dead, .rw 1 [(K 4)], .dead, .rw 1 [(K 0)], .rw 1 [(K 2), (K 5), (K 4), (K 0)], .rw 1 [(K 3)], .dead, .rw 1 [(K 6)], .dead, .rw 1 [(K 5)], .dead, .rw 1 [(K 1)], .rw 1 [(K 3), (K 6), (K 5), (K 1)], .rw 1 [(K 7)], .dead, .rw 1 [(K 6)], .dead, .rw 1 [(K 2)], .rw 1 [(K 7), (K 6), (K 2)], .rw 1 [(K 5)], .dead, .rw 1 [(K 9)], .dead, .rw 1 [(K 8)], .dead, .rw 1 [(K 0)], .dead, .rw 1 [(K 1)], .rw 1 [(K 5), (K 9), (K 8), (K 0), (K 1)], .rw 1 [(K 6)], .dead, .rw 1 [(K 10)], .dead, .rw 1 [(K 9)], .dead, .rw 1 [(K 4)], .dead, .rw 1 [(K 1)], .dead, .rw 1 [(K 2)], .rw 1 [(K 6), (K 10), (K 9), (K 4), (K 1), (K 2)], .rw 1 [(K 7)], .dead, .rw 1 [(K 11)], .dead, .rw 1 [(K 10)], .dead, .rw 1 [(K 5)], .dead, .rw 1 [(K 2)], .dead, .rw 1 [(K 3)], .rw 1 [(K 7), (K 11), (K 10), (K 5), (K 2), (K 3)], .rw 1 [(K 11)], .dead, .rw 1 [(K 6)], .dead, .rw 1 [(K 3)], .rw 1 [(K 11), (K 6), (K 3)], .rw 1 [(K 9)], .dead, .rw 1 [(K 4)], .rw 1 [(K 9), (K 4)], .rw 1 [(K 10)], .dead, .rw 1 [(K 8)], .rw 1 [(K 10), (K 8)]]
/-- coble/chart.Next, 3 ms -/
noncomputable def of140 : OF := ⟨(.func (.func 113) #[] #[]), [(.agg #[(K 4), (K 3), (V 1 0 12 12), (V 2 0 5 5), (V 3 0 5 5)]), (K 9), (K 4)], 222, hp102, ((.tuple #[(K 4), (K 0)]), hp102)⟩
theorem of140_ok : of140.Ok Tryz.prog pureF := apO_sound (T := sfTab) (O := ot139) (n := 100000) sfTab_ok ot139_ok (by kernel_rfl)
noncomputable def ol140 : OL := .cons of140 ol139
theorem ol140_ok : ol140.Ok Tryz.prog pureF := ⟨of140_ok, ol139_ok⟩
noncomputable def ot140 : OT := (.cons 113 ol140 (.cons 110 ol81 (.cons 36 ol80 (.cons 20 ol79 (.cons 84 ol78 (.cons 58 ol77 .nil))))))
theorem ot140_ok : ot140.Ok Tryz.prog pureF := ⟨ol140_ok, ⟨ol81_ok, ⟨ol80_ok, ⟨ol79_ok, ⟨ol78_ok, ⟨ol77_ok, trivial⟩⟩⟩⟩⟩⟩
noncomputable def hp103 : AH := (hp65.take 222) ++ [.rw 1 [(V 226 0 2 3), (V 234 0 4 5), (V 242 0 4 5), (V 248 0 3 4), (V 258 0 5 6), (V 270 0 6 7), (V 282 0 6 7), (V 288 0 3 4), (V 292 0 2 3), (V 298 0 3 4), (E 0 0), (E 0 0)], .rw 1 [(K 1)], .dead, .rw 1 [(K 4)], .rw 1 [(K 1), (K 4)], .rw 1 [(K 2)], .dead, .rw 1 [(K 5)], .dead, .rw 1 [(K 4)], .dead, .rw 1 [(K 0)], .rw 1 [(K 2), (K 5), (K 4), (K 0)], .rw 1 [(K 3)], .dead, .rw 1 [(K 6)], .dead, .rw 1 [(K 5)], .dead, .rw 1 [(K 1)], .rw 1 [(K 3), (K 6), (K 5), (K 1)], .rw 1 [(K 7)], .dead, .rw 1 [(K 6)], .dead, .rw 1 [(K 2)], .rw 1 [(K 7), (K 6), (K 2)], .rw 1 [(K 5)], .dead, .rw 1 [(K 9)], .dead, .rw 1 [(K 8)], .dead, .rw 1 [(K 0)], .dead, .rw 1 [(K 1)], .rw 1 [(K 5), (K 9), (K 8), (K 0), (K 1)], .rw 1 [(K 6)], .dead, .rw 1 [(K 10)], .dead, .rw 1 [(K 9)], .dead, .rw 1 [(K 4)], .dead, .rw 1 [(K 1)], .dead, .rw 1 [(K 2)], .rw 1 [(K 6), (K 10), (K 9), (K 4), (K 1), (K 2)], .rw 1 [(K 7)], .dead, .rw 1 [(K 11)], .dead, .rw 1 [(K 10)], .dead, .rw 1 [(K 5)], .dead, .rw 1 [(K 2)], .dead, .rw 1 [(K 3)], .rw 1 [(K 7), (K 11), (K 10), (K 5), (K 2), (K 3)], .rw 1 [(K 11)], .dead, .rw 1 [(K 6)], .dead, .rw 1 [(K 3)], .rw 1 [(K 11), (K 6), (K 3)], .rw 1 [(K 9)], .dead, .rw 1 [(K 4)], .rw 1 [(K 9), (K 4)], .rw 1 [(K 10)], .dead, .rw 1 [(K 8)], .dead, .rw 1 [(K 4)], .rw 1 [(K 10), (K 8), (K 4)]]
/-- coble/chart.Next, 3 ms -/
noncomputable def of141 : OF := ⟨(.func (.func 113) #[] #[]), [(.agg #[(K 4), (K 3), (V 1 0 12 12), (V 2 0 5 5), (V 3 0 5 5)]), (K 9), (K 5)], 222, hp103, ((.tuple #[(K 5), (K 0)]), hp103)⟩
theorem of141_ok : of141.Ok Tryz.prog pureF := apO_sound (T := sfTab) (O := ot140) (n := 100000) sfTab_ok ot140_ok (by kernel_rfl)
noncomputable def ol141 : OL := .cons of141 ol140
theorem ol141_ok : ol141.Ok Tryz.prog pureF := ⟨of141_ok, ol140_ok⟩
noncomputable def ot141 : OT := (.cons 113 ol141 (.cons 110 ol81 (.cons 36 ol80 (.cons 20 ol79 (.cons 84 ol78 (.cons 58 ol77 .nil))))))
theorem ot141_ok : ot141.Ok Tryz.prog pureF := ⟨ol141_ok, ⟨ol81_ok, ⟨ol80_ok, ⟨ol79_ok, ⟨ol78_ok, ⟨ol77_ok, trivial⟩⟩⟩⟩⟩⟩
noncomputable def hp104 : AH := (hp65.take 222) ++ [.rw 1 [(V 226 0 2 3), (V 234 0 4 5), (V 242 0 4 5), (V 248 0 3 4), (V 258 0 5 6), (V 270 0 6 7), (V 282 0 6 7), (V 288 0 3 4), (V 292 0 2 3), (V 300 0 4 5), (E 0 0), (E 0 0)], .rw 1 [(K 1)], .dead, .rw 1 [(K 4)], .rw 1 [(K 1), (K 4)], .rw 1 [(K 2)], .dead, .rw 1 [(K 5)], .dead, .rw 1 [(K 4)], .dead, .rw 1 [(K 0)], .rw 1 [(K 2), (K 5), (K 4), (K 0)], .rw 1 [(K 3)], .dead, .rw 1 [(K 6)], .dead, .rw 1 [(K 5)], .dead, .rw 1 [(K 1)], .rw 1 [(K 3), (K 6), (K 5), (K 1)], .rw 1 [(K 7)], .dead, .rw 1 [(K 6)], .dead, .rw 1 [(K 2)], .rw 1 [(K 7), (K 6), (K 2)], .rw 1 [(K 5)], .dead, .rw 1 [(K 9)], .dead, .rw 1 [(K 8)], .dead, .rw 1 [(K 0)], .dead, .rw 1 [(K 1)], .rw 1 [(K 5), (K 9), (K 8), (K 0), (K 1)], .rw 1 [(K 6)], .dead, .rw 1 [(K 10)], .dead, .rw 1 [(K 9)], .dead, .rw 1 [(K 4)], .dead, .rw 1 [(K 1)], .dead, .rw 1 [(K 2)], .rw 1 [(K 6), (K 10), (K 9), (K 4), (K 1), (K 2)], .rw 1 [(K 7)], .dead, .rw 1 [(K 11)], .dead, .rw 1 [(K 10)], .dead, .rw 1 [(K 5)], .dead, .rw 1 [(K 2)], .dead, .rw 1 [(K 3)], .rw 1 [(K 7), (K 11), (K 10), (K 5), (K 2), (K 3)], .rw 1 [(K 11)], .dead, .rw 1 [(K 6)], .dead, .rw 1 [(K 3)], .rw 1 [(K 11), (K 6), (K 3)], .rw 1 [(K 9)], .dead, .rw 1 [(K 4)], .rw 1 [(K 9), (K 4)], .rw 1 [(K 10)], .dead, .rw 1 [(K 8)], .dead, .rw 1 [(K 4)], .dead, .rw 1 [(K 5)], .rw 1 [(K 10), (K 8), (K 4), (K 5)]]
/-- coble/chart.Next, 3 ms -/
noncomputable def of142 : OF := ⟨(.func (.func 113) #[] #[]), [(.agg #[(K 4), (K 3), (V 1 0 12 12), (V 2 0 5 5), (V 3 0 5 5)]), (K 10), (K 0)], 222, hp104, ((.tuple #[(K 11), (K 0)]), hp104)⟩
theorem of142_ok : of142.Ok Tryz.prog pureF := apO_sound (T := sfTab) (O := ot141) (n := 100000) sfTab_ok ot141_ok (by kernel_rfl)
noncomputable def ol142 : OL := .cons of142 ol141
theorem ol142_ok : ol142.Ok Tryz.prog pureF := ⟨of142_ok, ol141_ok⟩
noncomputable def ot142 : OT := (.cons 113 ol142 (.cons 110 ol81 (.cons 36 ol80 (.cons 20 ol79 (.cons 84 ol78 (.cons 58 ol77 .nil))))))
theorem ot142_ok : ot142.Ok Tryz.prog pureF := ⟨ol142_ok, ⟨ol81_ok, ⟨ol80_ok, ⟨ol79_ok, ⟨ol78_ok, ⟨ol77_ok, trivial⟩⟩⟩⟩⟩⟩
noncomputable def hp105 : AH := (hp65.take 222) ++ [.rw 1 [(V 226 0 2 3), (V 234 0 4 5), (V 242 0 4 5), (V 248 0 3 4), (V 258 0 5 6), (V 270 0 6 7), (V 282 0 6 7), (V 288 0 3 4), (V 292 0 2 3), (V 300 0 4 5), (V 302 0 1 2), (E 0 0)], .rw 1 [(K 1)], .dead, .rw 1 [(K 4)], .rw 1 [(K 1), (K 4)], .rw 1 [(K 2)], .dead, .rw 1 [(K 5)], .dead, .rw 1 [(K 4)], .dead, .rw 1 [(K 0)], .rw 1 [(K 2), (K 5), (K 4), (K 0)], .rw 1 [(K 3)], .dead, .rw 1 [(K 6)], .dead, .rw 1 [(K 5)], .dead, .rw 1 [(K 1)], .rw 1 [(K 3), (K 6), (K 5), (K 1)], .rw 1 [(K 7)], .dead, .rw 1 [(K 6)], .dead, .rw 1 [(K 2)], .rw 1 [(K 7), (K 6), (K 2)], .rw 1 [(K 5)], .dead, .rw 1 [(K 9)], .dead, .rw 1 [(K 8)], .dead, .rw 1 [(K 0)], .dead, .rw 1 [(K 1)], .rw 1 [(K 5), (K 9), (K 8), (K 0), (K 1)], .rw 1 [(K 6)], .dead, .rw 1 [(K 10)], .dead, .rw 1 [(K 9)], .dead, .rw 1 [(K 4)], .dead, .rw 1 [(K 1)], .dead, .rw 1 [(K 2)], .rw 1 [(K 6), (K 10), (K 9), (K 4), (K 1), (K 2)], .rw 1 [(K 7)], .dead, .rw 1 [(K 11)], .dead, .rw 1 [(K 10)], .dead, .rw 1 [(K 5)], .dead, .rw 1 [(K 2)], .dead, .rw 1 [(K 3)], .rw 1 [(K 7), (K 11), (K 10), (K 5), (K 2), (K 3)], .rw 1 [(K 11)], .dead, .rw 1 [(K 6)], .dead, .rw 1 [(K 3)], .rw 1 [(K 11), (K 6), (K 3)], .rw 1 [(K 9)], .dead, .rw 1 [(K 4)], .rw 1 [(K 9), (K 4)], .rw 1 [(K 10)], .dead, .rw 1 [(K 8)], .dead, .rw 1 [(K 4)], .dead, .rw 1 [(K 5)], .rw 1 [(K 10), (K 8), (K 4), (K 5)], .rw 1 [(K 11)], .rw 1 [(K 11)]]
/-- coble/chart.Next, 3 ms -/
noncomputable def of143 : OF := ⟨(.func (.func 113) #[] #[]), [(.agg #[(K 4), (K 3), (V 1 0 12 12), (V 2 0 5 5), (V 3 0 5 5)]), (K 10), (K 1)], 222, hp105, ((.tuple #[(K 0), (K 3)]), hp105)⟩
theorem of143_ok : of143.Ok Tryz.prog pureF := apO_sound (T := sfTab) (O := ot142) (n := 100000) sfTab_ok ot142_ok (by kernel_rfl)
noncomputable def ol143 : OL := .cons of143 ol142
theorem ol143_ok : ol143.Ok Tryz.prog pureF := ⟨of143_ok, ol142_ok⟩
noncomputable def ot143 : OT := (.cons 113 ol143 (.cons 110 ol81 (.cons 36 ol80 (.cons 20 ol79 (.cons 84 ol78 (.cons 58 ol77 .nil))))))
theorem ot143_ok : ot143.Ok Tryz.prog pureF := ⟨ol143_ok, ⟨ol81_ok, ⟨ol80_ok, ⟨ol79_ok, ⟨ol78_ok, ⟨ol77_ok, trivial⟩⟩⟩⟩⟩⟩
end Go.Proofs.YtnpifaanhofonaaGreatDoor
