/- A run of the program without arguments, piece by piece: computed by the kernel. Printed by tools/pieces.py. -/
import Derived.Test.YthobfecblpnnnaaGreatDoorPieA
import Derived.Test.YthobfecblpnnnaaGreatDoorTab
set_option linter.all false
set_option maxRecDepth 100000
namespace Go.Proofs.YthobfecblpnnnaaGreatDoor
open Go
noncomputable def hp14 : AH := (hp12.take 60) ++ [.dead, .rw 1 [(K 5)], .rw 1 [(K 6)], .dead, .rw 1 [(K 10)], .dead, .rw 1 [(K 9)], .dead, .rw 1 [(K 4)], .dead, .rw 1 [(K 1)], .dead, .rw 1 [(K 2)], .rw 1 [(K 1), (K 2), (K 4), (K 5), (K 6), (K 9), (K 10)], .rw 1 [(V 73 0 7 8)], .rw 1 [(V 14 0 3 4), (V 25 0 5 6), (V 36 0 5 6), (V 45 0 4 5), (V 58 0 6 7), (V 73 0 7 8)]]
noncomputable def hp15 : AH := (hp14.take 76) ++ [.rw 1 [(K 6)], .rw 1 [(K 7)], .dead, .rw 1 [(K 11)], .dead, .rw 1 [(K 10)], .dead, .rw 1 [(K 5)], .dead, .rw 1 [(K 2)], .dead, .rw 1 [(K 3)], .rw 1 [(K 2), (K 3), (K 5), (K 6), (K 7), (K 10), (K 11)]]
/-- (coble/lanes.traffic).around, 37 ms -/
noncomputable def of9 : OF := ⟨(.func (.func 68) #[] #[]), [(.agg #[(K 4), (K 3), (V 1 0 12 12), (V 2 0 5 5), (V 3 0 5 5), (E 0 0)]), (K 6)], 76, hp14, ((V 88 0 7 8), hp15)⟩
theorem of9_ok : of9.Ok Tryz.prog pureF := apO_sound (T := sfTab) (O := ot8) (n := 100000) sfTab_ok ot8_ok (by kernel_rfl)
noncomputable def ol9 : OL := .cons of9 ol8
theorem ol9_ok : ol9.Ok Tryz.prog pureF := ⟨of9_ok, ol8_ok⟩
noncomputable def ot9 : OT := (.cons 68 ol9 (.cons 18 ol2 (.cons 111 ol1 .nil)))
theorem ot9_ok : ot9.Ok Tryz.prog pureF := ⟨ol9_ok, ⟨ol2_ok, ⟨ol1_ok, trivial⟩⟩⟩
noncomputable def hp16 : AH := (hp14.take 75) ++ [.dead, .rw 1 [(K 6)], .rw 1 [(K 7)], .dead, .rw 1 [(K 11)], .dead, .rw 1 [(K 10)], .dead, .rw 1 [(K 5)], .dead, .rw 1 [(K 2)], .dead, .rw 1 [(K 3)], .rw 1 [(K 2), (K 3), (K 5), (K 6), (K 7), (K 10), (K 11)], .rw 1 [(V 88 0 7 8)], .rw 1 [(V 14 0 3 4), (V 25 0 5 6), (V 36 0 5 6), (V 45 0 4 5), (V 58 0 6 7), (V 73 0 7 8), (V 88 0 7 8)]]
noncomputable def hp17 : AH := (hp16.take 91) ++ [.rw 1 [(K 7)], .rw 1 [(K 11)], .dead, .rw 1 [(K 6)], .dead, .rw 1 [(K 3)], .rw 1 [(K 3), (K 6), (K 7), (K 11)]]
/-- (coble/lanes.traffic).around, 29 ms -/
noncomputable def of10 : OF := ⟨(.func (.func 68) #[] #[]), [(.agg #[(K 4), (K 3), (V 1 0 12 12), (V 2 0 5 5), (V 3 0 5 5), (E 0 0)]), (K 7)], 91, hp16, ((V 97 0 4 5), hp17)⟩
theorem of10_ok : of10.Ok Tryz.prog pureF := apO_sound (T := sfTab) (O := ot9) (n := 100000) sfTab_ok ot9_ok (by kernel_rfl)
noncomputable def ol10 : OL := .cons of10 ol9
theorem ol10_ok : ol10.Ok Tryz.prog pureF := ⟨of10_ok, ol9_ok⟩
noncomputable def ot10 : OT := (.cons 68 ol10 (.cons 18 ol2 (.cons 111 ol1 .nil)))
theorem ot10_ok : ot10.Ok Tryz.prog pureF := ⟨ol10_ok, ⟨ol2_ok, ⟨ol1_ok, trivial⟩⟩⟩
noncomputable def hp18 : AH := (hp16.take 90) ++ [.dead, .rw 1 [(K 7)], .rw 1 [(K 11)], .dead, .rw 1 [(K 6)], .dead, .rw 1 [(K 3)], .rw 1 [(K 3), (K 6), (K 7), (K 11)], .rw 1 [(V 97 0 4 5)], .rw 1 [(V 14 0 3 4), (V 25 0 5 6), (V 36 0 5 6), (V 45 0 4 5), (V 58 0 6 7), (V 73 0 7 8), (V 88 0 7 8), (V 97 0 4 5)]]
noncomputable def hp19 : AH := (hp18.take 100) ++ [.rw 1 [(K 8)], .rw 1 [(K 9)], .dead, .rw 1 [(K 4)], .rw 1 [(K 4), (K 8), (K 9)]]
/-- (coble/lanes.traffic).around, 28 ms -/
noncomputable def of11 : OF := ⟨(.func (.func 68) #[] #[]), [(.agg #[(K 4), (K 3), (V 1 0 12 12), (V 2 0 5 5), (V 3 0 5 5), (E 0 0)]), (K 8)], 100, hp18, ((V 104 0 3 4), hp19)⟩
theorem of11_ok : of11.Ok Tryz.prog pureF := apO_sound (T := sfTab) (O := ot10) (n := 100000) sfTab_ok ot10_ok (by kernel_rfl)
noncomputable def ol11 : OL := .cons of11 ol10
theorem ol11_ok : ol11.Ok Tryz.prog pureF := ⟨of11_ok, ol10_ok⟩
noncomputable def ot11 : OT := (.cons 68 ol11 (.cons 18 ol2 (.cons 111 ol1 .nil)))
theorem ot11_ok : ot11.Ok Tryz.prog pureF := ⟨ol11_ok, ⟨ol2_ok, ⟨ol1_ok, trivial⟩⟩⟩
noncomputable def hp20 : AH := (hp18.take 99) ++ [.dead, .rw 1 [(K 8)], .rw 1 [(K 9)], .dead, .rw 1 [(K 4)], .rw 1 [(K 4), (K 8), (K 9)], .rw 1 [(V 104 0 3 4)], .rw 1 [(V 14 0 3 4), (V 25 0 5 6), (V 36 0 5 6), (V 45 0 4 5), (V 58 0 6 7), (V 73 0 7 8), (V 88 0 7 8), (V 97 0 4 5), (V 104 0 3 4)]]
noncomputable def hp21 : AH := (hp20.take 107) ++ [.rw 1 [(K 9)], .rw 1 [(K 10)], .dead, .rw 1 [(K 8)], .dead, .rw 1 [(K 4)], .dead, .rw 1 [(K 5)], .rw 1 [(K 4), (K 5), (K 8), (K 9), (K 10)]]
/-- (coble/lanes.traffic).around, 32 ms -/
noncomputable def of12 : OF := ⟨(.func (.func 68) #[] #[]), [(.agg #[(K 4), (K 3), (V 1 0 12 12), (V 2 0 5 5), (V 3 0 5 5), (E 0 0)]), (K 9)], 107, hp20, ((V 115 0 5 6), hp21)⟩
theorem of12_ok : of12.Ok Tryz.prog pureF := apO_sound (T := sfTab) (O := ot11) (n := 100000) sfTab_ok ot11_ok (by kernel_rfl)
noncomputable def ol12 : OL := .cons of12 ol11
theorem ol12_ok : ol12.Ok Tryz.prog pureF := ⟨of12_ok, ol11_ok⟩
noncomputable def ot12 : OT := (.cons 68 ol12 (.cons 18 ol2 (.cons 111 ol1 .nil)))
theorem ot12_ok : ot12.Ok Tryz.prog pureF := ⟨ol12_ok, ⟨ol2_ok, ⟨ol1_ok, trivial⟩⟩⟩
noncomputable def hp22 : AH := (hp20.take 106) ++ [.dead, .rw 1 [(K 9)], .rw 1 [(K 10)], .dead, .rw 1 [(K 8)], .dead, .rw 1 [(K 4)], .dead, .rw 1 [(K 5)], .rw 1 [(K 4), (K 5), (K 8), (K 9), (K 10)], .rw 1 [(V 115 0 5 6)], .rw 1 [(V 14 0 3 4), (V 25 0 5 6), (V 36 0 5 6), (V 45 0 4 5), (V 58 0 6 7), (V 73 0 7 8), (V 88 0 7 8), (V 97 0 4 5), (V 104 0 3 4), (V 115 0 5 6)]]
noncomputable def hp23 : AH := (hp22.take 118) ++ [.rw 1 [(K 10)], .rw 1 [(K 11)], .dead, .rw 1 [(K 9)], .dead, .rw 1 [(K 5)], .dead, .rw 1 [(K 6)], .rw 1 [(K 5), (K 6), (K 9), (K 10), (K 11)]]
/-- (coble/lanes.traffic).around, 33 ms -/
noncomputable def of13 : OF := ⟨(.func (.func 68) #[] #[]), [(.agg #[(K 4), (K 3), (V 1 0 12 12), (V 2 0 5 5), (V 3 0 5 5), (E 0 0)]), (K 10)], 118, hp22, ((V 126 0 5 6), hp23)⟩
theorem of13_ok : of13.Ok Tryz.prog pureF := apO_sound (T := sfTab) (O := ot12) (n := 100000) sfTab_ok ot12_ok (by kernel_rfl)
noncomputable def ol13 : OL := .cons of13 ol12
theorem ol13_ok : ol13.Ok Tryz.prog pureF := ⟨of13_ok, ol12_ok⟩
noncomputable def ot13 : OT := (.cons 68 ol13 (.cons 18 ol2 (.cons 111 ol1 .nil)))
theorem ot13_ok : ot13.Ok Tryz.prog pureF := ⟨ol13_ok, ⟨ol2_ok, ⟨ol1_ok, trivial⟩⟩⟩
noncomputable def hp24 : AH := (hp22.take 117) ++ [.dead, .rw 1 [(K 10)], .rw 1 [(K 11)], .dead, .rw 1 [(K 9)], .dead, .rw 1 [(K 5)], .dead, .rw 1 [(K 6)], .rw 1 [(K 5), (K 6), (K 9), (K 10), (K 11)], .rw 1 [(V 126 0 5 6)], .rw 1 [(V 14 0 3 4), (V 25 0 5 6), (V 36 0 5 6), (V 45 0 4 5), (V 58 0 6 7), (V 73 0 7 8), (V 88 0 7 8), (V 97 0 4 5), (V 104 0 3 4), (V 115 0 5 6), (V 126 0 5 6)]]
noncomputable def hp25 : AH := (hp24.take 129) ++ [.rw 1 [(K 11)], .rw 1 [(K 10)], .dead, .rw 1 [(K 6)], .dead, .rw 1 [(K 7)], .rw 1 [(K 6), (K 7), (K 10), (K 11)]]
/-- (coble/lanes.traffic).around, 32 ms -/
noncomputable def of14 : OF := ⟨(.func (.func 68) #[] #[]), [(.agg #[(K 4), (K 3), (V 1 0 12 12), (V 2 0 5 5), (V 3 0 5 5), (E 0 0)]), (K 11)], 129, hp24, ((V 135 0 4 5), hp25)⟩
theorem of14_ok : of14.Ok Tryz.prog pureF := apO_sound (T := sfTab) (O := ot13) (n := 100000) sfTab_ok ot13_ok (by kernel_rfl)
noncomputable def ol14 : OL := .cons of14 ol13
theorem ol14_ok : ol14.Ok Tryz.prog pureF := ⟨of14_ok, ol13_ok⟩
noncomputable def ot14 : OT := (.cons 68 ol14 (.cons 18 ol2 (.cons 111 ol1 .nil)))
theorem ot14_ok : ot14.Ok Tryz.prog pureF := ⟨ol14_ok, ⟨ol2_ok, ⟨ol1_ok, trivial⟩⟩⟩
noncomputable def hp26 : AH := (hp24.take 128) ++ [.dead, .rw 1 [(K 11)], .rw 1 [(K 10)], .dead, .rw 1 [(K 6)], .dead, .rw 1 [(K 7)], .rw 1 [(K 6), (K 7), (K 10), (K 11)], .rw 1 [(V 135 0 4 5)], .rw 1 [(V 14 0 3 4), (V 25 0 5 6), (V 36 0 5 6), (V 45 0 4 5), (V 58 0 6 7), (V 73 0 7 8), (V 88 0 7 8), (V 97 0 4 5), (V 104 0 3 4), (V 115 0 5 6), (V 126 0 5 6), (V 135 0 4 5)], .rw 0 [(E 0 0)], .rw 1 [(K (-1))], .rw 1 [(K (-1)), (K (-1)), (K (-1)), (K (-1)), (K 4), (K (-1)), (K (-1)), (K (-1)), (K (-1)), (K (-1)), (K (-1)), (K (-1))], .rw 1 [(V 140 0 12 12)], .rw 1 [(V 140 0 12 12)], .rw 0 [(E 0 0)]]
noncomputable def hp27 : AH := (hp26.take 144) ++ [.rw 1 [(K (-1))], .rw 1 [(K (-1)), (K (-1)), (K (-1)), (K (-1)), (K 4), (K 4), (K (-1)), (K (-1)), (K 4), (K 4), (K (-1)), (K (-1))], .rw 0 [(V 140 0 12 12)], .rw 0 [(.func (.func 104) #[] #[(Q 143 0)])], .rw 0 [(K 0)], .rw 0 [(K 4), (K 3), (V 1 0 12 12), (V 2 0 5 5), (V 3 0 5 5), (E 0 0), (K 0), (K 0), (K 20), (.bool false), (K 4), (K 6), (V 137 0 12 13)], .rw 0 [(K 1)], .rw 0 [(K 2)], .rw 0 [(K 3)], .rw 0 [(K 4)], .rw 0 [(K 5)], .rw 0 [(K 6)], .rw 0 [(K 7)], .rw 0 [(K 8)], .rw 0 [(K 9)], .rw 0 [(K 10)], .rw 0 [(K 11)]]
/-- (coble/lanes.run).after, 89 ms -/
noncomputable def of15 : OF := ⟨(.func (.func 72) #[] #[]), [(.agg #[(K 4), (K 3), (V 1 0 12 12), (V 2 0 5 5), (V 3 0 5 5), (E 0 0), (K 0), (K 0), (K 20), (.bool false), (K 4), (K 6), (V 137 0 12 13)]), (V 140 0 12 12), (K 1), (.func (.func 104) #[] #[(Q 143 0)])], 138, hp26, ((V 145 0 12 12), hp27)⟩
theorem of15_ok : of15.Ok Tryz.prog pureF := apO_sound (T := sfTab) (O := ot14) (n := 100000) sfTab_ok ot14_ok (by kernel_rfl)
noncomputable def ol15 : OL := .cons of15 .nil
theorem ol15_ok : ol15.Ok Tryz.prog pureF := ⟨of15_ok, trivial⟩
noncomputable def ot15 : OT := (.cons 72 ol15 (.cons 68 ol14 (.cons 18 ol2 (.cons 111 ol1 .nil))))
theorem ot15_ok : ot15.Ok Tryz.prog pureF := ⟨ol15_ok, ⟨ol14_ok, ⟨ol2_ok, ⟨ol1_ok, trivial⟩⟩⟩⟩
noncomputable def hp28 : AH := (hp26.take 142) ++ [.dead, .rw 0 [(E 0 0)], .rw 1 [(K (-1))], .rw 1 [(K (-1)), (K (-1)), (K (-1)), (K (-1)), (K 4), (K 4), (K (-1)), (K (-1)), (K 4), (K 4), (K (-1)), (K (-1))], .rw 0 [(V 140 0 12 12)], .rw 0 [(.func (.func 104) #[] #[(Q 143 0)])], .rw 0 [(K 0)], .rw 0 [(K 4), (K 3), (V 1 0 12 12), (V 2 0 5 5), (V 3 0 5 5), (E 0 0), (K 0), (K 0), (K 20), (.bool false), (K 4), (K 6), (V 137 0 12 13)], .rw 0 [(K 1)], .rw 0 [(K 2)], .rw 0 [(K 3)], .rw 0 [(K 4)], .rw 0 [(K 5)], .rw 0 [(K 6)], .rw 0 [(K 7)], .rw 0 [(K 8)], .rw 0 [(K 9)], .rw 0 [(K 10)], .rw 0 [(K 11)], .rw 1 [(V 145 0 12 12)], .rw 1 [(V 140 0 12 12), (V 145 0 12 12)], .rw 0 [(E 0 0)]]
noncomputable def hp29 : AH := (hp28.take 164) ++ [.rw 1 [(K (-1))], .rw 1 [(K 4), (K 4), (K (-1)), (K (-1)), (K 4), (K 4), (K 5), (K (-1)), (K 4), (K 4), (K 5), (K (-1))], .rw 0 [(V 145 0 12 12)], .rw 0 [(.func (.func 104) #[] #[(Q 163 0)])], .rw 0 [(K 0)], .rw 0 [(K 4), (K 3), (V 1 0 12 12), (V 2 0 5 5), (V 3 0 5 5), (E 0 0), (K 0), (K 0), (K 20), (.bool false), (K 4), (K 6), (V 137 0 12 13)], .rw 0 [(K 1)], .rw 0 [(K 2)], .rw 0 [(K 3)], .rw 0 [(K 4)], .rw 0 [(K 5)], .rw 0 [(K 6)], .rw 0 [(K 7)], .rw 0 [(K 8)], .rw 0 [(K 9)], .rw 0 [(K 10)], .rw 0 [(K 11)]]
/-- (coble/lanes.run).after, 110 ms -/
noncomputable def of16 : OF := ⟨(.func (.func 72) #[] #[]), [(.agg #[(K 4), (K 3), (V 1 0 12 12), (V 2 0 5 5), (V 3 0 5 5), (E 0 0), (K 0), (K 0), (K 20), (.bool false), (K 4), (K 6), (V 137 0 12 13)]), (V 145 0 12 12), (K 2), (.func (.func 104) #[] #[(Q 163 0)])], 138, hp28, ((V 165 0 12 12), hp29)⟩
theorem of16_ok : of16.Ok Tryz.prog pureF := apO_sound (T := sfTab) (O := ot15) (n := 100000) sfTab_ok ot15_ok (by kernel_rfl)
noncomputable def ol16 : OL := .cons of16 ol15
theorem ol16_ok : ol16.Ok Tryz.prog pureF := ⟨of16_ok, ol15_ok⟩
noncomputable def ot16 : OT := (.cons 72 ol16 (.cons 68 ol14 (.cons 18 ol2 (.cons 111 ol1 .nil))))
theorem ot16_ok : ot16.Ok Tryz.prog pureF := ⟨ol16_ok, ⟨ol14_ok, ⟨ol2_ok, ⟨ol1_ok, trivial⟩⟩⟩⟩
/-- coble/coblelaw06.works, 25 ms -/
noncomputable def of17 : OF := ⟨(.func (.func 15) #[] #[]), [], 0, hp0, ((.bool true), hp0)⟩
theorem of17_ok : of17.Ok Tryz.prog pureF := apO_sound (T := sfTab) (O := ot16) (n := 100000) sfTab_ok ot16_ok (by kernel_rfl)
noncomputable def ol17 : OL := .cons of17 .nil
theorem ol17_ok : ol17.Ok Tryz.prog pureF := ⟨of17_ok, trivial⟩
noncomputable def ot17 : OT := (.cons 15 ol17 (.cons 72 ol16 (.cons 68 ol14 (.cons 18 ol2 (.cons 111 ol1 .nil)))))
theorem ot17_ok : ot17.Ok Tryz.prog pureF := ⟨ol17_ok, ⟨ol16_ok, ⟨ol14_ok, ⟨ol2_ok, ⟨ol1_ok, trivial⟩⟩⟩⟩⟩
theorem works_run : apL Tryz.prog ⟨pureF, [], fun _ _ => none⟩ (.func (.func 15) #[] #[]) [] 0 (globH Tryz.prog tabs) = some ((.bool true), globH Tryz.prog tabs) := of17_ok
end Go.Proofs.YthobfecblpnnnaaGreatDoor
