/- The law LaunchUpright at what was read. -/
import Derived.Test.YtnpifaanhofonaaGreatDoorUpr
import Derived.Test.YtnpifaanhofonaaGreatDoorDataC
import Derived.Test.YtnpifaanhofonaaGreatDoorDataL
set_option linter.all false
namespace Go.Proofs.YtnpifaanhofonaaGreatDoor
open Go Go.RowKit
attribute [local irreducible] tyD

variable {H : Type}

theorem globG' : (globH Tryz.prog tabs)[waysG]? = some (.ro waysV) := by
  unfold globH
  rw [List.getElem?_map]
  rfl

theorem launchUpright_true (ds : List (DataW H)) (h : All2 (tyD Tryz.prog 5) [27, 57, 22, 3] ds) : ∃ H', apL Tryz.prog pf (.func (.func 9) #[] #[]) (absVs Tryz.prog [27, 57, 22, 3] ds Tryz.prog.globals.size).1 0 (globH Tryz.prog tabs ++ (absVs Tryz.prog [27, 57, 22, 3] ds Tryz.prog.globals.size).2) = some (.bool true, H') := by
  match ds, h with
  | [x, y, z, u], h =>
    obtain ⟨c, hc⟩ := dClass (n := 3) h.1
    obtain ⟨l, hll, hl⟩ := dLoadsS (n := 1) h.2.1
    obtain ⟨ws, hwl, _, hw⟩ := dIntsS (n := 3) h.2.2.1
    obtain ⟨set, _, hs⟩ := dInt (n := 4) h.2.2.2.1
    obtain ⟨lv, e, hS⟩ := hl (globH Tryz.prog tabs)
    obtain ⟨wv, ew, hW⟩ := hw (globH Tryz.prog tabs ++ (absD y (globH Tryz.prog tabs).length).2)
    have hgl : (globH Tryz.prog tabs).length = Tryz.prog.globals.size := by simp [globH]
    rw [List.length_append] at ew hW
    rw [hgl] at e hS ew hW
    have hG := hG_ext (absD y Tryz.prog.globals.size).2 globG'
    obtain ⟨n2, hn2⟩ : ∃ n2, n2 = Tryz.prog.globals.size + (absD y Tryz.prog.globals.size).2.length := ⟨_, rfl⟩
    rw [← hn2] at ew hW
    have eq : (absVs Tryz.prog [27, 57, 22, 3] [x, y, z, u] Tryz.prog.globals.size) = ([clV c, lv, wv, .int .i64 set], (absD y Tryz.prog.globals.size).2 ++ (absD z n2).2) := by
      simp only [absVs, hc, hs, e, List.append_nil, List.nil_append, List.length_nil, Nat.add_zero, ← hn2, ew]
      have a1 : isAggT Tryz.prog 27 = true := by kernel_rfl
      have a2 : isAggT Tryz.prog 57 = false := by kernel_rfl
      have a3 : isAggT Tryz.prog 3 = false := by kernel_rfl
      have a4 : isAggT Tryz.prog 22 = false := by kernel_rfl
      simp only [absV, a1, a2, a3, a4, if_true]
      rfl
    rw [eq]
    simp only [← List.append_assoc]
    have E : Ext (globH Tryz.prog tabs ++ (absD y Tryz.prog.globals.size).2) (globH Tryz.prog tabs ++ (absD y Tryz.prog.globals.size).2 ++ (absD z n2).2) := Ext.push _ _
    exact upright_law c l ws set 0 _ (hG_ext _ hG) lv wv (hS.ext E) hW
  | [], h => exact h.elim
  | [_], h => exact h.2.elim
  | [_, _], h => exact h.2.2.elim
  | [_, _, _], h => exact h.2.2.2.elim
  | _ :: _ :: _ :: _ :: _ :: _, h => exact h.2.2.2.2.elim
end Go.Proofs.YtnpifaanhofonaaGreatDoor
