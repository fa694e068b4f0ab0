/- The law LaunchRights at what was read. -/
import Derived.Test.YtnpifaanhofonaaGreatDoorRigE
import Derived.Test.YtnpifaanhofonaaGreatDoorDataC
import Derived.Test.YtnpifaanhofonaaGreatDoorDataL
set_option linter.all false
namespace Go.Proofs.YtnpifaanhofonaaGreatDoor
open Go Go.RowKit
attribute [local irreducible] tyD

variable {H : Type}

theorem globG : (globH Tryz.prog tabs)[waysG]? = some (.ro waysV) := by
  unfold globH
  rw [List.getElem?_map]
  rfl

theorem launchRights_true (ds : List (DataW H)) (h : All2 (tyD Tryz.prog 5) [27, 57] ds) : ∃ H', apL Tryz.prog pf (.func (.func 6) #[] #[]) (absVs Tryz.prog [27, 57] ds Tryz.prog.globals.size).1 0 (globH Tryz.prog tabs ++ (absVs Tryz.prog [27, 57] ds Tryz.prog.globals.size).2) = some (.bool true, H') := by
  match ds, h with
  | [x, y], h =>
    obtain ⟨c, hc⟩ := dClass (n := 3) h.1
    obtain ⟨l, _, hl⟩ := dLoadsS (n := 1) h.2.1
    obtain ⟨lv, e, hS⟩ := hl (globH Tryz.prog tabs)
    rw [show (globH Tryz.prog tabs).length = Tryz.prog.globals.size by simp [globH]] at e hS
    have hG := hG_ext (absD y Tryz.prog.globals.size).2 globG
    have ev : (absVs Tryz.prog [27, 57] [x, y] Tryz.prog.globals.size) = ([clV c, lv], (absD y Tryz.prog.globals.size).2) := by
      simp only [absVs, hc, e, List.append_nil, List.nil_append, List.length_nil, Nat.add_zero]
      have a1 : isAggT Tryz.prog 27 = true := by kernel_rfl
      have a2 : isAggT Tryz.prog 57 = false := by kernel_rfl
      simp only [absV, a1, a2, if_true]
      rfl
    rw [ev]
    exact ⟨_, rights_law c l 0 _ hG lv hS⟩
  | [], h => exact h.elim
  | [_], h => exact h.2.elim
  | _ :: _ :: _ :: _, h => exact h.2.2.elim
end Go.Proofs.YtnpifaanhofonaaGreatDoor
