/- A run of the program without arguments, piece by piece: computed by the kernel. Printed by tools/pieces.py. -/
import Derived.Test.YthobfecblpnnnaaGreatDoorPure
import Derived.Test.YthobfecblpnnnaaGreatDoorTab
set_option linter.all false
set_option maxRecDepth 100000
namespace Go.Proofs.YthobfecblpnnnaaGreatDoor
open Go
noncomputable def hp0 : AH := globH Tryz.prog tabs
noncomputable def hp1 : AH := (hp0.take 1) ++ [.rw 1 [(K 0), (K 0), (K (-50)), (K (-90)), (K 30), (K 20), (K 10), (K (-20)), (K 60), (K 60), (K 40), (K 30)], .rw 2 [(K 10), (K 14), (K 20), (K 26), (K 30), (K 36), (K 20), (K 26), (K 10), (K 14)], .rw 1 [(K 5), (K 5), (K 5), (K 5), (K 5)], .rw 1 [(K 4), (K 5), (K 10), (K 9)], .rw 1 [(K 10), (K 5), (K 6)], .rw 1 [(K 6), (K 5), (K 4)], .rw 5 [(K 0), (K 0), (K 20), (.bool false), (V 4 0 4 4), (K 1), (K 0), (K 20), (.bool true), (V 5 0 3 3), (K 0), (K 1), (K 0), (.bool false), (V 6 0 3 3)]]
/-- (coble/lanes.traffic).isWay, 54 ms -/
noncomputable def of0 : OF := ⟨(.func (.func 111) #[] #[]), [(.agg #[(K 4), (K 3), (V 1 0 12 12), (V 2 0 5 5), (V 3 0 5 5), (V 7 0 3 3)]), (.agg #[(K 0), (K 0), (K 20), (.bool false), (V 4 0 4 4)])], 8, hp1, ((.bool true), hp1)⟩
theorem of0_ok : of0.Ok Tryz.prog pureF := apO_sound (T := sfTab) (O := .nil) (n := 100000) sfTab_ok trivial (by kernel_rfl)
noncomputable def ol0 : OL := .cons of0 .nil
theorem ol0_ok : ol0.Ok Tryz.prog pureF := ⟨of0_ok, trivial⟩
noncomputable def ot0 : OT := (.cons 111 ol0 .nil)
theorem ot0_ok : ot0.Ok Tryz.prog pureF := ⟨ol0_ok, trivial⟩
/-- (coble/lanes.traffic).isWay, 36 ms -/
noncomputable def of1 : OF := ⟨(.func (.func 111) #[] #[]), [(.agg #[(K 4), (K 3), (V 1 0 12 12), (V 2 0 5 5), (V 3 0 5 5), (V 7 0 3 3)]), (.agg #[(K 1), (K 0), (K 20), (.bool true), (V 5 0 3 3)])], 8, hp1, ((.bool true), hp1)⟩
theorem of1_ok : of1.Ok Tryz.prog pureF := apO_sound (T := sfTab) (O := ot0) (n := 100000) sfTab_ok ot0_ok (by kernel_rfl)
noncomputable def ol1 : OL := .cons of1 ol0
theorem ol1_ok : ol1.Ok Tryz.prog pureF := ⟨of1_ok, ol0_ok⟩
noncomputable def ot1 : OT := (.cons 111 ol1 .nil)
theorem ot1_ok : ot1.Ok Tryz.prog pureF := ⟨ol1_ok, trivial⟩
noncomputable def hp2 : AH := (hp1.take 8) ++ [.rw 3 [(K 0), (K 1), (K 2)], .rw 3 [(K 0), (K 1), (K 2)]]
/-- coble/lanes.Clashes, 31 ms -/
noncomputable def of2 : OF := ⟨(.func (.func 18) #[] #[]), [(.agg #[(K 4), (K 3), (V 1 0 12 12), (V 2 0 5 5), (V 3 0 5 5)]), (V 7 0 3 3)], 1, hp1, ((.tuple #[(V 9 0 1 2), (K 0)]), hp2)⟩
theorem of2_ok : of2.Ok Tryz.prog pureF := apO_sound (T := sfTab) (O := ot1) (n := 100000) sfTab_ok ot1_ok (by kernel_rfl)
noncomputable def ol2 : OL := .cons of2 .nil
theorem ol2_ok : ol2.Ok Tryz.prog pureF := ⟨of2_ok, trivial⟩
noncomputable def ot2 : OT := (.cons 18 ol2 (.cons 111 ol1 .nil))
theorem ot2_ok : ot2.Ok Tryz.prog pureF := ⟨ol2_ok, ⟨ol1_ok, trivial⟩⟩
noncomputable def hp3 : AH := (hp2.take 10) ++ [.rw 1 [(K 0)], .rw 1 [(K 1)], .dead, .rw 1 [(K 4)], .rw 1 [(K 0), (K 1), (K 4)]]
/-- (coble/lanes.traffic).around, 29 ms -/
noncomputable def of3 : OF := ⟨(.func (.func 68) #[] #[]), [(.agg #[(K 4), (K 3), (V 1 0 12 12), (V 2 0 5 5), (V 3 0 5 5), (E 0 0)]), (K 0)], 10, hp2, ((V 14 0 3 4), hp3)⟩
theorem of3_ok : of3.Ok Tryz.prog pureF := apO_sound (T := sfTab) (O := ot2) (n := 100000) sfTab_ok ot2_ok (by kernel_rfl)
noncomputable def ol3 : OL := .cons of3 .nil
theorem ol3_ok : ol3.Ok Tryz.prog pureF := ⟨of3_ok, trivial⟩
noncomputable def ot3 : OT := (.cons 68 ol3 (.cons 18 ol2 (.cons 111 ol1 .nil)))
theorem ot3_ok : ot3.Ok Tryz.prog pureF := ⟨ol3_ok, ⟨ol2_ok, ⟨ol1_ok, trivial⟩⟩⟩
noncomputable def hp4 : AH := (hp3.take 15) ++ [.rw 1 [(V 14 0 3 4)], .rw 1 [(V 14 0 3 4)]]
noncomputable def hp5 : AH := (hp4.take 17) ++ [.rw 1 [(K 1)], .rw 1 [(K 2)], .dead, .rw 1 [(K 5)], .dead, .rw 1 [(K 4)], .dead, .rw 1 [(K 0)], .rw 1 [(K 0), (K 1), (K 2), (K 4), (K 5)]]
/-- (coble/lanes.traffic).around, 32 ms -/
noncomputable def of4 : OF := ⟨(.func (.func 68) #[] #[]), [(.agg #[(K 4), (K 3), (V 1 0 12 12), (V 2 0 5 5), (V 3 0 5 5), (E 0 0)]), (K 1)], 17, hp4, ((V 25 0 5 6), hp5)⟩
theorem of4_ok : of4.Ok Tryz.prog pureF := apO_sound (T := sfTab) (O := ot3) (n := 100000) sfTab_ok ot3_ok (by kernel_rfl)
noncomputable def ol4 : OL := .cons of4 ol3
theorem ol4_ok : ol4.Ok Tryz.prog pureF := ⟨of4_ok, ol3_ok⟩
noncomputable def ot4 : OT := (.cons 68 ol4 (.cons 18 ol2 (.cons 111 ol1 .nil)))
theorem ot4_ok : ot4.Ok Tryz.prog pureF := ⟨ol4_ok, ⟨ol2_ok, ⟨ol1_ok, trivial⟩⟩⟩
noncomputable def hp6 : AH := (hp4.take 16) ++ [.dead, .rw 1 [(K 1)], .rw 1 [(K 2)], .dead, .rw 1 [(K 5)], .dead, .rw 1 [(K 4)], .dead, .rw 1 [(K 0)], .rw 1 [(K 0), (K 1), (K 2), (K 4), (K 5)], .rw 1 [(V 25 0 5 6)], .rw 1 [(V 14 0 3 4), (V 25 0 5 6)]]
noncomputable def hp7 : AH := (hp6.take 28) ++ [.rw 1 [(K 2)], .rw 1 [(K 3)], .dead, .rw 1 [(K 6)], .dead, .rw 1 [(K 5)], .dead, .rw 1 [(K 1)], .rw 1 [(K 1), (K 2), (K 3), (K 5), (K 6)]]
/-- (coble/lanes.traffic).around, 32 ms -/
noncomputable def of5 : OF := ⟨(.func (.func 68) #[] #[]), [(.agg #[(K 4), (K 3), (V 1 0 12 12), (V 2 0 5 5), (V 3 0 5 5), (E 0 0)]), (K 2)], 28, hp6, ((V 36 0 5 6), hp7)⟩
theorem of5_ok : of5.Ok Tryz.prog pureF := apO_sound (T := sfTab) (O := ot4) (n := 100000) sfTab_ok ot4_ok (by kernel_rfl)
noncomputable def ol5 : OL := .cons of5 ol4
theorem ol5_ok : ol5.Ok Tryz.prog pureF := ⟨of5_ok, ol4_ok⟩
noncomputable def ot5 : OT := (.cons 68 ol5 (.cons 18 ol2 (.cons 111 ol1 .nil)))
theorem ot5_ok : ot5.Ok Tryz.prog pureF := ⟨ol5_ok, ⟨ol2_ok, ⟨ol1_ok, trivial⟩⟩⟩
noncomputable def hp8 : AH := (hp6.take 27) ++ [.dead, .rw 1 [(K 2)], .rw 1 [(K 3)], .dead, .rw 1 [(K 6)], .dead, .rw 1 [(K 5)], .dead, .rw 1 [(K 1)], .rw 1 [(K 1), (K 2), (K 3), (K 5), (K 6)], .rw 1 [(V 36 0 5 6)], .rw 1 [(V 14 0 3 4), (V 25 0 5 6), (V 36 0 5 6)]]
noncomputable def hp9 : AH := (hp8.take 39) ++ [.rw 1 [(K 3)], .rw 1 [(K 7)], .dead, .rw 1 [(K 6)], .dead, .rw 1 [(K 2)], .rw 1 [(K 2), (K 3), (K 6), (K 7)]]
/-- (coble/lanes.traffic).around, 30 ms -/
noncomputable def of6 : OF := ⟨(.func (.func 68) #[] #[]), [(.agg #[(K 4), (K 3), (V 1 0 12 12), (V 2 0 5 5), (V 3 0 5 5), (E 0 0)]), (K 3)], 39, hp8, ((V 45 0 4 5), hp9)⟩
theorem of6_ok : of6.Ok Tryz.prog pureF := apO_sound (T := sfTab) (O := ot5) (n := 100000) sfTab_ok ot5_ok (by kernel_rfl)
noncomputable def ol6 : OL := .cons of6 ol5
theorem ol6_ok : ol6.Ok Tryz.prog pureF := ⟨of6_ok, ol5_ok⟩
noncomputable def ot6 : OT := (.cons 68 ol6 (.cons 18 ol2 (.cons 111 ol1 .nil)))
theorem ot6_ok : ot6.Ok Tryz.prog pureF := ⟨ol6_ok, ⟨ol2_ok, ⟨ol1_ok, trivial⟩⟩⟩
noncomputable def hp10 : AH := (hp8.take 38) ++ [.dead, .rw 1 [(K 3)], .rw 1 [(K 7)], .dead, .rw 1 [(K 6)], .dead, .rw 1 [(K 2)], .rw 1 [(K 2), (K 3), (K 6), (K 7)], .rw 1 [(V 45 0 4 5)], .rw 1 [(V 14 0 3 4), (V 25 0 5 6), (V 36 0 5 6), (V 45 0 4 5)]]
noncomputable def hp11 : AH := (hp10.take 48) ++ [.rw 1 [(K 4)], .rw 1 [(K 5)], .dead, .rw 1 [(K 9)], .dead, .rw 1 [(K 8)], .dead, .rw 1 [(K 0)], .dead, .rw 1 [(K 1)], .rw 1 [(K 0), (K 1), (K 4), (K 5), (K 8), (K 9)]]
/-- (coble/lanes.traffic).around, 32 ms -/
noncomputable def of7 : OF := ⟨(.func (.func 68) #[] #[]), [(.agg #[(K 4), (K 3), (V 1 0 12 12), (V 2 0 5 5), (V 3 0 5 5), (E 0 0)]), (K 4)], 48, hp10, ((V 58 0 6 7), hp11)⟩
theorem of7_ok : of7.Ok Tryz.prog pureF := apO_sound (T := sfTab) (O := ot6) (n := 100000) sfTab_ok ot6_ok (by kernel_rfl)
noncomputable def ol7 : OL := .cons of7 ol6
theorem ol7_ok : ol7.Ok Tryz.prog pureF := ⟨of7_ok, ol6_ok⟩
noncomputable def ot7 : OT := (.cons 68 ol7 (.cons 18 ol2 (.cons 111 ol1 .nil)))
theorem ot7_ok : ot7.Ok Tryz.prog pureF := ⟨ol7_ok, ⟨ol2_ok, ⟨ol1_ok, trivial⟩⟩⟩
noncomputable def hp12 : AH := (hp10.take 47) ++ [.dead, .rw 1 [(K 4)], .rw 1 [(K 5)], .dead, .rw 1 [(K 9)], .dead, .rw 1 [(K 8)], .dead, .rw 1 [(K 0)], .dead, .rw 1 [(K 1)], .rw 1 [(K 0), (K 1), (K 4), (K 5), (K 8), (K 9)], .rw 1 [(V 58 0 6 7)], .rw 1 [(V 14 0 3 4), (V 25 0 5 6), (V 36 0 5 6), (V 45 0 4 5), (V 58 0 6 7)]]
noncomputable def hp13 : AH := (hp12.take 61) ++ [.rw 1 [(K 5)], .rw 1 [(K 6)], .dead, .rw 1 [(K 10)], .dead, .rw 1 [(K 9)], .dead, .rw 1 [(K 4)], .dead, .rw 1 [(K 1)], .dead, .rw 1 [(K 2)], .rw 1 [(K 1), (K 2), (K 4), (K 5), (K 6), (K 9), (K 10)]]
/-- (coble/lanes.traffic).around, 36 ms -/
noncomputable def of8 : OF := ⟨(.func (.func 68) #[] #[]), [(.agg #[(K 4), (K 3), (V 1 0 12 12), (V 2 0 5 5), (V 3 0 5 5), (E 0 0)]), (K 5)], 61, hp12, ((V 73 0 7 8), hp13)⟩
theorem of8_ok : of8.Ok Tryz.prog pureF := apO_sound (T := sfTab) (O := ot7) (n := 100000) sfTab_ok ot7_ok (by kernel_rfl)
noncomputable def ol8 : OL := .cons of8 ol7
theorem ol8_ok : ol8.Ok Tryz.prog pureF := ⟨of8_ok, ol7_ok⟩
noncomputable def ot8 : OT := (.cons 68 ol8 (.cons 18 ol2 (.cons 111 ol1 .nil)))
theorem ot8_ok : ot8.Ok Tryz.prog pureF := ⟨ol8_ok, ⟨ol2_ok, ⟨ol1_ok, trivial⟩⟩⟩
end Go.Proofs.YthobfecblpnnnaaGreatDoor
