/- The law ChartCells at what was read. -/
import Derived.Test.YtjejcbiilimjkaaDoorFunZ
import Derived.Test.YtjejcbiilimjkaaDoorTrueFloats
set_option linter.all false
namespace Go.Proofs.YtjejcbiilimjkaaDoor
open Go Go.RowKit
attribute [local irreducible] tyD

variable {H : Type}

theorem chartCells_true (ds : List (DataW H)) (h : All2 (tyD Tryd.prog 5) [25, 3, 3] ds) : ∃ H', apL Tryd.prog pf (.func (.func 3) #[] #[]) (absVs Tryd.prog [25, 3, 3] ds Tryd.prog.globals.size).1 0 (globH Tryd.prog tabs ++ (absVs Tryd.prog [25, 3, 3] ds Tryd.prog.globals.size).2) = some (.bool true, H') := by
  match ds, h with
  | [x, y, z], h =>
    obtain ⟨c, _, hc⟩ := dChart (n := 1) h.1
    obtain ⟨a, _, ha⟩ := dInt (n := 4) h.2.1
    obtain ⟨b, _, hb⟩ := dInt (n := 4) h.2.2.1
    obtain ⟨dd, tt, ss, e, hS⟩ := hc (globH Tryd.prog tabs)
    rw [show (globH Tryd.prog tabs).length = Tryd.prog.globals.size by simp [globH]] at e hS
    have hG := hG_ext (absD x Tryd.prog.globals.size).2 globG
    have ev : (absVs Tryd.prog [25, 3, 3] [x, y, z] Tryd.prog.globals.size) = ([chV c dd tt ss, .int .i64 a, .int .i64 b], (absD x Tryd.prog.globals.size).2) := by
      simp only [absVs, ha, hb, e, List.append_nil]
      have a1 : isAggT Tryd.prog 25 = true := by kernel_rfl
      have a2 : isAggT Tryd.prog 3 = false := by kernel_rfl
      simp only [absV, a1, a2, if_true]
      rfl
    rw [ev]
    exact ⟨_, cells_law c 0 _ hG dd tt ss hS a b⟩
  | [], h => exact h.elim
  | [_], h => exact h.2.elim
  | [_, _], h => exact h.2.2.elim
  | _ :: _ :: _ :: _ :: _, h => exact h.2.2.2.elim
end Go.Proofs.YtjejcbiilimjkaaDoor
