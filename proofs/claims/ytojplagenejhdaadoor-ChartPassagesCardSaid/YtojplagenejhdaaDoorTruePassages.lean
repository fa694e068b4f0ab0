/- The law ChartPassages at what was read. -/
import Derived.Test.YtojplagenejhdaaDoorPasL
import Derived.Test.YtojplagenejhdaaDoorTrueFloats
set_option linter.all false
namespace Go.Proofs.YtojplagenejhdaaDoor
open Go Go.RowKit
attribute [local irreducible] tyD

variable {H : Type}

theorem chartPassages_true (ds : List (DataW H)) (h : All2 (tyD Tryd.prog 5) [25, 35, 37] ds) : ∃ H', apL Tryd.prog pf (.func (.func 5) #[] #[]) (absVs Tryd.prog [25, 35, 37] ds Tryd.prog.globals.size).1 0 (globH Tryd.prog tabs ++ (absVs Tryd.prog [25, 35, 37] ds Tryd.prog.globals.size).2) = some (.bool true, H') := by
  match ds, h with
  | [x, y, z], h =>
    obtain ⟨c, _, hc⟩ := dChart (n := 1) h.1
    obtain ⟨g, a, b, _, hs⟩ := dSpot (n := 3) h.2.1
    obtain ⟨p, q, _, _, hz⟩ := dSpan (n := 3) h.2.2.1
    obtain ⟨dd, tt, ss, e, hS⟩ := hc (globH Tryd.prog tabs)
    rw [show (globH Tryd.prog tabs).length = Tryd.prog.globals.size by simp [globH]] at e hS
    have hG := hG_ext (absD x Tryd.prog.globals.size).2 globG
    have ev : (absVs Tryd.prog [25, 35, 37] [x, y, z] Tryd.prog.globals.size) = ([chV c dd tt ss, .agg #[.int .i64 g, .int .i64 a, .int .i64 b], .agg #[.int .i64 p, .int .i64 q]], (absD x Tryd.prog.globals.size).2) := by
      simp only [absVs, hs, hz, e, List.append_nil]
      have a1 : isAggT Tryd.prog 25 = true := by kernel_rfl
      have a2 : isAggT Tryd.prog 35 = true := by kernel_rfl
      have a3 : isAggT Tryd.prog 37 = true := by kernel_rfl
      simp only [absV, a1, a2, a3, if_true]
      rfl
    rw [ev]
    exact ⟨_, passages_law c 0 _ hG dd tt ss hS g a b p q⟩
  | [], h => exact h.elim
  | [_], h => exact h.2.elim
  | [_, _], h => exact h.2.2.elim
  | _ :: _ :: _ :: _ :: _, h => exact h.2.2.2.elim
end Go.Proofs.YtojplagenejhdaaDoor
