/- The law ChartFloats at what was read. -/
import Derived.Test.YtojplagenejhdaaDoorChartA
import Derived.Test.YtojplagenejhdaaDoorData
set_option linter.all false
namespace Go.Proofs.YtojplagenejhdaaDoor
open Go Go.RowKit
attribute [local irreducible] tyD

variable {H : Type}

theorem dSpot {n : Nat} {d : DataW H} (h : tyD Tryd.prog (n + 2) 35 d) : ∃ a b c, (i64R a ∧ i64R b ∧ i64R c) ∧ ∀ k, absD d k = ([.int .i64 a, .int .i64 b, .int .i64 c], []) := by
  unfold tyD at h
  simp only [Tryd.underlying35] at h
  obtain ⟨parts, rfl, hp⟩ := h
  match parts, hp with
  | [x, y, z], hp =>
    obtain ⟨a, ra, ha⟩ := dInt (n := n) hp.1
    obtain ⟨b, rb, hb⟩ := dInt (n := n) hp.2.1
    obtain ⟨c, rc, hc⟩ := dInt (n := n) hp.2.2.1
    exact ⟨a, b, c, ⟨ra, rb, rc⟩, fun k => by simp [absD, absDs, ha, hb, hc]⟩
  | [], hp => exact hp.elim
  | [_], hp => exact hp.2.elim
  | [_, _], hp => exact hp.2.2.elim
  | _ :: _ :: _ :: _ :: _, hp => exact hp.2.2.2.elim

theorem globG : (globH Tryd.prog tabs)[waysG]? = some (.ro waysV) := by
  unfold globH
  rw [List.getElem?_map]
  rfl

theorem chartFloats_true (ds : List (DataW H)) (h : All2 (tyD Tryd.prog 5) [25, 35] ds) : ∃ H', apL Tryd.prog pf (.func (.func 4) #[] #[]) (absVs Tryd.prog [25, 35] ds Tryd.prog.globals.size).1 0 (globH Tryd.prog tabs ++ (absVs Tryd.prog [25, 35] ds Tryd.prog.globals.size).2) = some (.bool true, H') := by
  match ds, h with
  | [x, y], h =>
    obtain ⟨c, _, hc⟩ := dChart (n := 1) h.1
    obtain ⟨g, a, b, _, hs⟩ := dSpot (n := 3) h.2.1
    obtain ⟨dd, tt, ss, e, hS⟩ := hc (globH Tryd.prog tabs)
    rw [show (globH Tryd.prog tabs).length = Tryd.prog.globals.size by simp [globH]] at e hS
    have hG := hG_ext (absD x Tryd.prog.globals.size).2 globG
    have ev : (absVs Tryd.prog [25, 35] [x, y] Tryd.prog.globals.size) = ([chV c dd tt ss, .agg #[.int .i64 g, .int .i64 a, .int .i64 b]], (absD x Tryd.prog.globals.size).2) := by
      simp only [absVs, hs, e, List.append_nil]
      have a1 : isAggT Tryd.prog 25 = true := by kernel_rfl
      have a2 : isAggT Tryd.prog 35 = true := by kernel_rfl
      simp only [absV, a1, a2, if_true]
      rfl
    rw [ev]
    exact ⟨_, floats_law c 0 _ hG dd tt ss hS g a b⟩
  | [], h => exact h.elim
  | [_], h => exact h.2.elim
  | _ :: _ :: _ :: _, h => exact h.2.2.elim
end Go.Proofs.YtojplagenejhdaaDoor
