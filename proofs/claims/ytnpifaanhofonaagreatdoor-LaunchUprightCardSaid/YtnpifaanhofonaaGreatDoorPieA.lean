/- A run of the program without arguments, piece by piece: computed by the kernel. Printed by tools/pieces.py. -/
import Derived.Test.YtnpifaanhofonaaGreatDoorPure
import Derived.Test.YtnpifaanhofonaaGreatDoorTab
set_option linter.all false
set_option maxRecDepth 100000
namespace Go.Proofs.YtnpifaanhofonaaGreatDoor
open Go
noncomputable def hp0 : AH := globH Tryz.prog tabs
noncomputable def hp1 : AH := (hp0.take 1) ++ [.rw 1 [(K 0), (K 0), (K (-50)), (K (-90)), (K 30), (K 20), (K 10), (K (-20)), (K 60), (K 60), (K 40), (K 30)], .rw 2 [(K 10), (K 14), (K 20), (K 26), (K 30), (K 36), (K 20), (K 26), (K 10), (K 14)], .rw 1 [(K 5), (K 5), (K 5), (K 5), (K 5)]]
noncomputable def hp2 : AH := (hp1.take 4) ++ [.rw 2 [(K 0), (K 0)], .rw 2 [(K 0), (K 4)], .rw 2 [(K 0), (K 0)], .rw 2 [(K 0), (K 4)], .rw 2 [(K 0), (K 0)], .rw 2 [(K 0), (K 4)], .rw 2 [(K 0), (K 0)], .rw 2 [(K 0), (K 4)]]
/-- coble/launch.open, 72 ms -/
noncomputable def of0 : OF := ⟨(.func (.func 36) #[] #[]), [(.agg #[(K 4), (K 3), (V 1 0 12 12), (V 2 0 5 5), (V 3 0 5 5)]), (.agg #[(K 20), (K 5), (K 4), (K 1), (K 10), (K 6), (K 1000)]), (.agg #[(K 5), (K 1), (K 0), (K 200), (K 5)])], 4, hp1, ((.tuple #[(.agg #[(K 4), (K 3), (V 1 0 12 12), (V 2 0 5 5), (V 3 0 5 5), (K 20), (K 5), (K 4), (K 1), (K 10), (K 6), (K 1000), (K 5), (V 9 0 1 2)]), (K 0)]), hp2)⟩
theorem of0_ok : of0.Ok Tryz.prog pureF := apO_sound (T := sfTab) (O := .nil) (n := 100000) sfTab_ok trivial (by kernel_rfl)
noncomputable def ol0 : OL := .cons of0 .nil
theorem ol0_ok : ol0.Ok Tryz.prog pureF := ⟨of0_ok, trivial⟩
noncomputable def ot0 : OT := (.cons 36 ol0 .nil)
theorem ot0_ok : ot0.Ok Tryz.prog pureF := ⟨ol0_ok, trivial⟩
noncomputable def hp3 : AH := (hp2.take 12) ++ [.rw 0 [(K 0)], .rw 0 [(K 5000)], .rw 0 [(K 4), (K 3), (V 1 0 12 12), (V 2 0 5 5), (V 3 0 5 5), (K 20), (K 5), (K 4), (K 1), (K 10), (K 6), (K 1000), (K 5), (V 9 0 1 2)], .rw 1 [(K 5)], .rw 1 [(K 0)]]
noncomputable def hp4 : AH := (hp3.take 17) ++ [.rw 1 [(K (-1))], .rw 1 [(K 2), (K 2), (K (-1)), (K (-1)), (K 1), (K 0), (K 1), (K (-1)), (K 2), (K 1), (K 1), (K 2)], .rw 0 [(K 4), (K 3), (V 1 0 12 12), (V 2 0 5 5), (V 3 0 5 5), (K 20)], .rw 0 [(K 5)], .rw 0 [(K 0)], .rw 0 [(K 1)], .dead, .rw 1 [(K (-1))], .rw 1 [(K (-1)), (K (-1)), (K (-1)), (K (-1)), (K (-1)), (K 0), (K (-1)), (K (-1)), (K (-1)), (K (-1)), (K (-1)), (K (-1))], .rw 1 [(K (-1))], .rw 1 [(K (-1)), (K (-1)), (K (-1)), (K (-1)), (K 1), (K 0), (K 1), (K (-1)), (K (-1)), (K 1), (K 1), (K (-1))], .rw 1 [(K (-1))], .rw 1 [(K 2), (K 1), (K (-1)), (K (-1)), (K 1), (K 0), (K 1), (K (-1)), (K 2), (K 1), (K 1), (K 2)], .rw 1 [(K (-1))], .rw 1 [(K (-1)), (K (-1)), (K (-1)), (K (-1)), (K 1), (K 0), (K 1), (K (-1)), (K 2), (K 1), (K 1), (K 2)], .rw 1 [(K (-1))], .rw 1 [(K (-1)), (K (-1)), (K (-1)), (K (-1)), (K 1), (K 0), (K (-1)), (K (-1)), (K 2), (K 1), (K 1), (K 2)]]
/-- (coble/chart.boat).nearest, 213 ms -/
noncomputable def of1 : OF := ⟨(.func (.func 110) #[] #[]), [(.agg #[(K 4), (K 3), (V 1 0 12 12), (V 2 0 5 5), (V 3 0 5 5), (K 20)]), (K 5), (K 0), (K 1)], 15, hp3, ((V 18 0 12 12), hp4)⟩
theorem of1_ok : of1.Ok Tryz.prog pureF := apO_sound (T := sfTab) (O := ot0) (n := 100000) sfTab_ok ot0_ok (by kernel_rfl)
noncomputable def ol1 : OL := .cons of1 .nil
theorem ol1_ok : ol1.Ok Tryz.prog pureF := ⟨of1_ok, trivial⟩
noncomputable def ot1 : OT := (.cons 110 ol1 (.cons 36 ol0 .nil))
theorem ot1_ok : ot1.Ok Tryz.prog pureF := ⟨ol1_ok, ⟨ol0_ok, trivial⟩⟩
noncomputable def hp5 : AH := (hp4.take 34) ++ [.rw 0 [(K 4), (K 3), (V 1 0 12 12), (V 2 0 5 5), (V 3 0 5 5), (K 20), (K 5), (K 4), (K 1), (K 10), (K 6), (K 1000), (K 5), (V 9 0 1 2)], .rw 1 [(E 0 0), (E 0 0), (E 0 0), (E 0 0), (E 0 0), (E 0 0), (E 0 0), (E 0 0), (E 0 0), (E 0 0), (E 0 0), (E 0 0)]]
/-- coble/chart.Next, 3 ms -/
noncomputable def of2 : OF := ⟨(.func (.func 113) #[] #[]), [(.agg #[(K 4), (K 3), (V 1 0 12 12), (V 2 0 5 5), (V 3 0 5 5)]), (K 0), (K 0)], 35, hp5, ((.tuple #[(K 1), (K 0)]), hp5)⟩
theorem of2_ok : of2.Ok Tryz.prog pureF := apO_sound (T := sfTab) (O := ot1) (n := 100000) sfTab_ok ot1_ok (by kernel_rfl)
noncomputable def ol2 : OL := .cons of2 .nil
theorem ol2_ok : ol2.Ok Tryz.prog pureF := ⟨of2_ok, trivial⟩
noncomputable def ot2 : OT := (.cons 113 ol2 (.cons 110 ol1 (.cons 36 ol0 .nil)))
theorem ot2_ok : ot2.Ok Tryz.prog pureF := ⟨ol2_ok, ⟨ol1_ok, ⟨ol0_ok, trivial⟩⟩⟩
noncomputable def hp6 : AH := (hp5.take 35) ++ [.rw 1 [(V 37 0 1 2), (E 0 0), (E 0 0), (E 0 0), (E 0 0), (E 0 0), (E 0 0), (E 0 0), (E 0 0), (E 0 0), (E 0 0), (E 0 0)], .rw 1 [(K 1)], .rw 1 [(K 1)]]
/-- coble/chart.Next, 3 ms -/
noncomputable def of3 : OF := ⟨(.func (.func 113) #[] #[]), [(.agg #[(K 4), (K 3), (V 1 0 12 12), (V 2 0 5 5), (V 3 0 5 5)]), (K 0), (K 1)], 35, hp6, ((.tuple #[(K 4), (K 0)]), hp6)⟩
theorem of3_ok : of3.Ok Tryz.prog pureF := apO_sound (T := sfTab) (O := ot2) (n := 100000) sfTab_ok ot2_ok (by kernel_rfl)
noncomputable def ol3 : OL := .cons of3 ol2
theorem ol3_ok : ol3.Ok Tryz.prog pureF := ⟨of3_ok, ol2_ok⟩
noncomputable def ot3 : OT := (.cons 113 ol3 (.cons 110 ol1 (.cons 36 ol0 .nil)))
theorem ot3_ok : ot3.Ok Tryz.prog pureF := ⟨ol3_ok, ⟨ol1_ok, ⟨ol0_ok, trivial⟩⟩⟩
noncomputable def hp7 : AH := (hp5.take 35) ++ [.rw 1 [(V 39 0 2 3), (E 0 0), (E 0 0), (E 0 0), (E 0 0), (E 0 0), (E 0 0), (E 0 0), (E 0 0), (E 0 0), (E 0 0), (E 0 0)], .rw 1 [(K 1)], .dead, .rw 1 [(K 4)], .rw 1 [(K 1), (K 4)]]
/-- coble/chart.Next, 3 ms -/
noncomputable def of4 : OF := ⟨(.func (.func 113) #[] #[]), [(.agg #[(K 4), (K 3), (V 1 0 12 12), (V 2 0 5 5), (V 3 0 5 5)]), (K 0), (K 2)], 35, hp7, ((.tuple #[(K 0), (K 3)]), hp7)⟩
theorem of4_ok : of4.Ok Tryz.prog pureF := apO_sound (T := sfTab) (O := ot3) (n := 100000) sfTab_ok ot3_ok (by kernel_rfl)
noncomputable def ol4 : OL := .cons of4 ol3
theorem ol4_ok : ol4.Ok Tryz.prog pureF := ⟨of4_ok, ol3_ok⟩
noncomputable def ot4 : OT := (.cons 113 ol4 (.cons 110 ol1 (.cons 36 ol0 .nil)))
theorem ot4_ok : ot4.Ok Tryz.prog pureF := ⟨ol4_ok, ⟨ol1_ok, ⟨ol0_ok, trivial⟩⟩⟩
/-- coble/chart.Next, 3 ms -/
noncomputable def of5 : OF := ⟨(.func (.func 113) #[] #[]), [(.agg #[(K 4), (K 3), (V 1 0 12 12), (V 2 0 5 5), (V 3 0 5 5)]), (K 0), (K 3)], 35, hp7, ((.tuple #[(K 0), (K 3)]), hp7)⟩
theorem of5_ok : of5.Ok Tryz.prog pureF := apO_sound (T := sfTab) (O := ot4) (n := 100000) sfTab_ok ot4_ok (by kernel_rfl)
noncomputable def ol5 : OL := .cons of5 ol4
theorem ol5_ok : ol5.Ok Tryz.prog pureF := ⟨of5_ok, ol4_ok⟩
noncomputable def ot5 : OT := (.cons 113 ol5 (.cons 110 ol1 (.cons 36 ol0 .nil)))
theorem ot5_ok : ot5.Ok Tryz.prog pureF := ⟨ol5_ok, ⟨ol1_ok, ⟨ol0_ok, trivial⟩⟩⟩
/-- coble/chart.Next, 3 ms -/
noncomputable def of6 : OF := ⟨(.func (.func 113) #[] #[]), [(.agg #[(K 4), (K 3), (V 1 0 12 12), (V 2 0 5 5), (V 3 0 5 5)]), (K 0), (K 4)], 35, hp7, ((.tuple #[(K 0), (K 3)]), hp7)⟩
theorem of6_ok : of6.Ok Tryz.prog pureF := apO_sound (T := sfTab) (O := ot5) (n := 100000) sfTab_ok ot5_ok (by kernel_rfl)
noncomputable def ol6 : OL := .cons of6 ol5
theorem ol6_ok : ol6.Ok Tryz.prog pureF := ⟨of6_ok, ol5_ok⟩
noncomputable def ot6 : OT := (.cons 113 ol6 (.cons 110 ol1 (.cons 36 ol0 .nil)))
theorem ot6_ok : ot6.Ok Tryz.prog pureF := ⟨ol6_ok, ⟨ol1_ok, ⟨ol0_ok, trivial⟩⟩⟩
/-- coble/chart.Next, 3 ms -/
noncomputable def of7 : OF := ⟨(.func (.func 113) #[] #[]), [(.agg #[(K 4), (K 3), (V 1 0 12 12), (V 2 0 5 5), (V 3 0 5 5)]), (K 0), (K 5)], 35, hp7, ((.tuple #[(K 0), (K 3)]), hp7)⟩
theorem of7_ok : of7.Ok Tryz.prog pureF := apO_sound (T := sfTab) (O := ot6) (n := 100000) sfTab_ok ot6_ok (by kernel_rfl)
noncomputable def ol7 : OL := .cons of7 ol6
theorem ol7_ok : ol7.Ok Tryz.prog pureF := ⟨of7_ok, ol6_ok⟩
noncomputable def ot7 : OT := (.cons 113 ol7 (.cons 110 ol1 (.cons 36 ol0 .nil)))
theorem ot7_ok : ot7.Ok Tryz.prog pureF := ⟨ol7_ok, ⟨ol1_ok, ⟨ol0_ok, trivial⟩⟩⟩
/-- coble/chart.Next, 3 ms -/
noncomputable def of8 : OF := ⟨(.func (.func 113) #[] #[]), [(.agg #[(K 4), (K 3), (V 1 0 12 12), (V 2 0 5 5), (V 3 0 5 5)]), (K 1), (K 0)], 35, hp7, ((.tuple #[(K 2), (K 0)]), hp7)⟩
theorem of8_ok : of8.Ok Tryz.prog pureF := apO_sound (T := sfTab) (O := ot7) (n := 100000) sfTab_ok ot7_ok (by kernel_rfl)
noncomputable def ol8 : OL := .cons of8 ol7
theorem ol8_ok : ol8.Ok Tryz.prog pureF := ⟨of8_ok, ol7_ok⟩
noncomputable def ot8 : OT := (.cons 113 ol8 (.cons 110 ol1 (.cons 36 ol0 .nil)))
theorem ot8_ok : ot8.Ok Tryz.prog pureF := ⟨ol8_ok, ⟨ol1_ok, ⟨ol0_ok, trivial⟩⟩⟩
noncomputable def hp8 : AH := (hp5.take 35) ++ [.rw 1 [(V 39 0 2 3), (V 41 0 1 2), (E 0 0), (E 0 0), (E 0 0), (E 0 0), (E 0 0), (E 0 0), (E 0 0), (E 0 0), (E 0 0), (E 0 0)], .rw 1 [(K 1)], .dead, .rw 1 [(K 4)], .rw 1 [(K 1), (K 4)], .rw 1 [(K 2)], .rw 1 [(K 2)]]
/-- coble/chart.Next, 3 ms -/
noncomputable def of9 : OF := ⟨(.func (.func 113) #[] #[]), [(.agg #[(K 4), (K 3), (V 1 0 12 12), (V 2 0 5 5), (V 3 0 5 5)]), (K 1), (K 1)], 35, hp8, ((.tuple #[(K 5), (K 0)]), hp8)⟩
theorem of9_ok : of9.Ok Tryz.prog pureF := apO_sound (T := sfTab) (O := ot8) (n := 100000) sfTab_ok ot8_ok (by kernel_rfl)
noncomputable def ol9 : OL := .cons of9 ol8
theorem ol9_ok : ol9.Ok Tryz.prog pureF := ⟨of9_ok, ol8_ok⟩
noncomputable def ot9 : OT := (.cons 113 ol9 (.cons 110 ol1 (.cons 36 ol0 .nil)))
theorem ot9_ok : ot9.Ok Tryz.prog pureF := ⟨ol9_ok, ⟨ol1_ok, ⟨ol0_ok, trivial⟩⟩⟩
noncomputable def hp9 : AH := (hp5.take 35) ++ [.rw 1 [(V 39 0 2 3), (V 43 0 2 3), (E 0 0), (E 0 0), (E 0 0), (E 0 0), (E 0 0), (E 0 0), (E 0 0), (E 0 0), (E 0 0), (E 0 0)], .rw 1 [(K 1)], .dead, .rw 1 [(K 4)], .rw 1 [(K 1), (K 4)], .rw 1 [(K 2)], .dead, .rw 1 [(K 5)], .rw 1 [(K 2), (K 5)]]
/-- coble/chart.Next, 3 ms -/
noncomputable def of10 : OF := ⟨(.func (.func 113) #[] #[]), [(.agg #[(K 4), (K 3), (V 1 0 12 12), (V 2 0 5 5), (V 3 0 5 5)]), (K 1), (K 2)], 35, hp9, ((.tuple #[(K 4), (K 0)]), hp9)⟩
theorem of10_ok : of10.Ok Tryz.prog pureF := apO_sound (T := sfTab) (O := ot9) (n := 100000) sfTab_ok ot9_ok (by kernel_rfl)
noncomputable def ol10 : OL := .cons of10 ol9
theorem ol10_ok : ol10.Ok Tryz.prog pureF := ⟨of10_ok, ol9_ok⟩
noncomputable def ot10 : OT := (.cons 113 ol10 (.cons 110 ol1 (.cons 36 ol0 .nil)))
theorem ot10_ok : ot10.Ok Tryz.prog pureF := ⟨ol10_ok, ⟨ol1_ok, ⟨ol0_ok, trivial⟩⟩⟩
noncomputable def hp10 : AH := (hp5.take 35) ++ [.rw 1 [(V 39 0 2 3), (V 45 0 3 4), (E 0 0), (E 0 0), (E 0 0), (E 0 0), (E 0 0), (E 0 0), (E 0 0), (E 0 0), (E 0 0), (E 0 0)], .rw 1 [(K 1)], .dead, .rw 1 [(K 4)], .rw 1 [(K 1), (K 4)], .rw 1 [(K 2)], .dead, .rw 1 [(K 5)], .dead, .rw 1 [(K 4)], .rw 1 [(K 2), (K 5), (K 4)]]
/-- coble/chart.Next, 3 ms -/
noncomputable def of11 : OF := ⟨(.func (.func 113) #[] #[]), [(.agg #[(K 4), (K 3), (V 1 0 12 12), (V 2 0 5 5), (V 3 0 5 5)]), (K 1), (K 3)], 35, hp10, ((.tuple #[(K 0), (K 0)]), hp10)⟩
theorem of11_ok : of11.Ok Tryz.prog pureF := apO_sound (T := sfTab) (O := ot10) (n := 100000) sfTab_ok ot10_ok (by kernel_rfl)
noncomputable def ol11 : OL := .cons of11 ol10
theorem ol11_ok : ol11.Ok Tryz.prog pureF := ⟨of11_ok, ol10_ok⟩
noncomputable def ot11 : OT := (.cons 113 ol11 (.cons 110 ol1 (.cons 36 ol0 .nil)))
theorem ot11_ok : ot11.Ok Tryz.prog pureF := ⟨ol11_ok, ⟨ol1_ok, ⟨ol0_ok, trivial⟩⟩⟩
noncomputable def hp11 : AH := (hp5.take 35) ++ [.rw 1 [(V 39 0 2 3), (V 47 0 4 5), (E 0 0), (E 0 0), (E 0 0), (E 0 0), (E 0 0), (E 0 0), (E 0 0), (E 0 0), (E 0 0), (E 0 0)], .rw 1 [(K 1)], .dead, .rw 1 [(K 4)], .rw 1 [(K 1), (K 4)], .rw 1 [(K 2)], .dead, .rw 1 [(K 5)], .dead, .rw 1 [(K 4)], .dead, .rw 1 [(K 0)], .rw 1 [(K 2), (K 5), (K 4), (K 0)]]
/-- coble/chart.Next, 3 ms -/
noncomputable def of12 : OF := ⟨(.func (.func 113) #[] #[]), [(.agg #[(K 4), (K 3), (V 1 0 12 12), (V 2 0 5 5), (V 3 0 5 5)]), (K 1), (K 4)], 35, hp11, ((.tuple #[(K 0), (K 3)]), hp11)⟩
theorem of12_ok : of12.Ok Tryz.prog pureF := apO_sound (T := sfTab) (O := ot11) (n := 100000) sfTab_ok ot11_ok (by kernel_rfl)
noncomputable def ol12 : OL := .cons of12 ol11
theorem ol12_ok : ol12.Ok Tryz.prog pureF := ⟨of12_ok, ol11_ok⟩
noncomputable def ot12 : OT := (.cons 113 ol12 (.cons 110 ol1 (.cons 36 ol0 .nil)))
theorem ot12_ok : ot12.Ok Tryz.prog pureF := ⟨ol12_ok, ⟨ol1_ok, ⟨ol0_ok, trivial⟩⟩⟩
/-- coble/chart.Next, 3 ms -/
noncomputable def of13 : OF := ⟨(.func (.func 113) #[] #[]), [(.agg #[(K 4), (K 3), (V 1 0 12 12), (V 2 0 5 5), (V 3 0 5 5)]), (K 1), (K 5)], 35, hp11, ((.tuple #[(K 0), (K 3)]), hp11)⟩
theorem of13_ok : of13.Ok Tryz.prog pureF := apO_sound (T := sfTab) (O := ot12) (n := 100000) sfTab_ok ot12_ok (by kernel_rfl)
noncomputable def ol13 : OL := .cons of13 ol12
theorem ol13_ok : ol13.Ok Tryz.prog pureF := ⟨of13_ok, ol12_ok⟩
noncomputable def ot13 : OT := (.cons 113 ol13 (.cons 110 ol1 (.cons 36 ol0 .nil)))
theorem ot13_ok : ot13.Ok Tryz.prog pureF := ⟨ol13_ok, ⟨ol1_ok, ⟨ol0_ok, trivial⟩⟩⟩
/-- coble/chart.Next, 3 ms -/
noncomputable def of14 : OF := ⟨(.func (.func 113) #[] #[]), [(.agg #[(K 4), (K 3), (V 1 0 12 12), (V 2 0 5 5), (V 3 0 5 5)]), (K 2), (K 0)], 35, hp11, ((.tuple #[(K 3), (K 0)]), hp11)⟩
theorem of14_ok : of14.Ok Tryz.prog pureF := apO_sound (T := sfTab) (O := ot13) (n := 100000) sfTab_ok ot13_ok (by kernel_rfl)
noncomputable def ol14 : OL := .cons of14 ol13
theorem ol14_ok : ol14.Ok Tryz.prog pureF := ⟨of14_ok, ol13_ok⟩
noncomputable def ot14 : OT := (.cons 113 ol14 (.cons 110 ol1 (.cons 36 ol0 .nil)))
theorem ot14_ok : ot14.Ok Tryz.prog pureF := ⟨ol14_ok, ⟨ol1_ok, ⟨ol0_ok, trivial⟩⟩⟩
noncomputable def hp12 : AH := (hp5.take 35) ++ [.rw 1 [(V 39 0 2 3), (V 47 0 4 5), (V 49 0 1 2), (E 0 0), (E 0 0), (E 0 0), (E 0 0), (E 0 0), (E 0 0), (E 0 0), (E 0 0), (E 0 0)], .rw 1 [(K 1)], .dead, .rw 1 [(K 4)], .rw 1 [(K 1), (K 4)], .rw 1 [(K 2)], .dead, .rw 1 [(K 5)], .dead, .rw 1 [(K 4)], .dead, .rw 1 [(K 0)], .rw 1 [(K 2), (K 5), (K 4), (K 0)], .rw 1 [(K 3)], .rw 1 [(K 3)]]
/-- coble/chart.Next, 3 ms -/
noncomputable def of15 : OF := ⟨(.func (.func 113) #[] #[]), [(.agg #[(K 4), (K 3), (V 1 0 12 12), (V 2 0 5 5), (V 3 0 5 5)]), (K 2), (K 1)], 35, hp12, ((.tuple #[(K 6), (K 0)]), hp12)⟩
theorem of15_ok : of15.Ok Tryz.prog pureF := apO_sound (T := sfTab) (O := ot14) (n := 100000) sfTab_ok ot14_ok (by kernel_rfl)
noncomputable def ol15 : OL := .cons of15 ol14
theorem ol15_ok : ol15.Ok Tryz.prog pureF := ⟨of15_ok, ol14_ok⟩
noncomputable def ot15 : OT := (.cons 113 ol15 (.cons 110 ol1 (.cons 36 ol0 .nil)))
theorem ot15_ok : ot15.Ok Tryz.prog pureF := ⟨ol15_ok, ⟨ol1_ok, ⟨ol0_ok, trivial⟩⟩⟩
end Go.Proofs.YtnpifaanhofonaaGreatDoor
