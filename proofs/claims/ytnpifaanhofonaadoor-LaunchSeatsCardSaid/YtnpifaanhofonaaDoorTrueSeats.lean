/- The law LaunchSeats at what was read. -/
import Derived.Test.YtnpifaanhofonaaDoorLauO
import Derived.Test.YtnpifaanhofonaaDoorDataE
set_option linter.all false
namespace Go.Proofs.YtnpifaanhofonaaDoor
open Go Go.RowKit
attribute [local irreducible] tyD

variable {H : Type}

theorem globG : (globH Tryd.prog tabs)[waysG]? = some (.ro waysV) := by
  unfold globH
  rw [List.getElem?_map]
  rfl

theorem launchSeats_true (ds : List (DataW H)) (h : All2 (tyD Tryd.prog 5) [22, 3, 3] ds) : ∃ H', apL Tryd.prog pf (.func (.func 6) #[] #[]) (absVs Tryd.prog [22, 3, 3] ds Tryd.prog.globals.size).1 0 (globH Tryd.prog tabs ++ (absVs Tryd.prog [22, 3, 3] ds Tryd.prog.globals.size).2) = some (.bool true, H') := by
  match ds, h with
  | [x, y, z], h =>
    obtain ⟨cs, hl, hc⟩ := dClasssS (n := 2) h.1
    obtain ⟨a, _, ha⟩ := dInt (n := 4) h.2.1
    obtain ⟨a2, _, ha2⟩ := dInt (n := 4) h.2.2.1
    obtain ⟨cv, e, hS⟩ := hc (globH Tryd.prog tabs)
    rw [show (globH Tryd.prog tabs).length = Tryd.prog.globals.size by simp [globH]] at e hS
    have hG := hG_ext (absD x Tryd.prog.globals.size).2 globG
    have ev : (absVs Tryd.prog [22, 3, 3] [x, y, z] Tryd.prog.globals.size) = ([cv, .int .i64 a, .int .i64 a2], (absD x Tryd.prog.globals.size).2) := by
      simp only [absVs, ha, ha2, e, List.append_nil]
      have a1 : isAggT Tryd.prog 22 = false := by kernel_rfl
      have a2 : isAggT Tryd.prog 3 = false := by kernel_rfl
      simp only [absV, a1, a2, if_true]
      rfl
    rw [ev]
    exact ⟨_, seats_law cs a a2 0 _ hG cv hS⟩
  | [], h => exact h.elim
  | [_], h => exact h.2.elim
  | [_, _], h => exact h.2.2.elim
  | _ :: _ :: _ :: _ :: _, h => exact h.2.2.2.elim
end Go.Proofs.YtnpifaanhofonaaDoor
