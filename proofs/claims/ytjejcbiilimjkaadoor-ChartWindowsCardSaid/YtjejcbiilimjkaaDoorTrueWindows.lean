/- The laws ChartWindows and ChartLaunched at what was read. -/
import Derived.Test.YtjejcbiilimjkaaDoorFunX
import Derived.Test.YtjejcbiilimjkaaDoorTrueFloats
set_option linter.all false
namespace Go.Proofs.YtjejcbiilimjkaaDoor
open Go Go.RowKit
attribute [local irreducible] tyD

variable {H : Type}

theorem dRamp {n : Nat} {d : DataW H} (h : tyD Tryd.prog (n + 2) 49 d) : ∃ r : Rp, ∀ k, absD d k = ([.int .i64 r.cell, .int .i64 r.g, .int .i64 r.least, .int .i64 r.most, .int .i64 r.surf], []) := by
  unfold tyD at h
  simp only [Tryd.underlying49] at h
  obtain ⟨parts, rfl, hp⟩ := h
  match parts, hp with
  | [x1, x2, x3, x4, x5], hp =>
    obtain ⟨a1, _, h1⟩ := dInt (n := n) hp.1
    obtain ⟨a2, _, h2⟩ := dInt (n := n) hp.2.1
    obtain ⟨a3, _, h3⟩ := dInt (n := n) hp.2.2.1
    obtain ⟨a4, _, h4⟩ := dInt (n := n) hp.2.2.2.1
    obtain ⟨a5, _, h5⟩ := dInt (n := n) hp.2.2.2.2.1
    exact ⟨⟨a1, a2, a3, a4, a5⟩, fun k => by simp [absD, absDs, h1, h2, h3, h4, h5]⟩
  | [], hp => exact hp.elim
  | [_], hp => exact hp.2.elim
  | [_, _], hp => exact hp.2.2.elim
  | [_, _, _], hp => exact hp.2.2.2.elim
  | [_, _, _, _], hp => exact hp.2.2.2.2.elim
  | _ :: _ :: _ :: _ :: _ :: _ :: _, hp => exact hp.2.2.2.2.2.elim

theorem aggC : isAggT Tryd.prog 25 = true := by kernel_rfl
theorem aggR : isAggT Tryd.prog 49 = true := by kernel_rfl
theorem aggS : isAggT Tryd.prog 37 = true := by kernel_rfl

theorem chartWindows_true (ds : List (DataW H)) (h : All2 (tyD Tryd.prog 5) [25, 49] ds) : ∃ H', apL Tryd.prog pf (.func (.func 6) #[] #[]) (absVs Tryd.prog [25, 49] ds Tryd.prog.globals.size).1 0 (globH Tryd.prog tabs ++ (absVs Tryd.prog [25, 49] ds Tryd.prog.globals.size).2) = some (.bool true, H') := by
  match ds, h with
  | [x, y], h =>
    obtain ⟨c, _, hc⟩ := dChart (n := 1) h.1
    obtain ⟨r, hr⟩ := dRamp (n := 3) h.2.1
    obtain ⟨dd, tt, ss, e, hS⟩ := hc (globH Tryd.prog tabs)
    rw [show (globH Tryd.prog tabs).length = Tryd.prog.globals.size by simp [globH]] at e hS
    have hG := hG_ext (absD x Tryd.prog.globals.size).2 globG
    have ev : (absVs Tryd.prog [25, 49] [x, y] Tryd.prog.globals.size) = ([chV c dd tt ss, rpV r], (absD x Tryd.prog.globals.size).2) := by
      simp only [absVs, hr, e, List.append_nil]
      simp only [absV, aggC, aggR, if_true]
      rfl
    rw [ev]
    exact ⟨_, windows_law c 0 _ hG dd tt ss hS r⟩
  | [], h => exact h.elim
  | [_], h => exact h.2.elim
  | _ :: _ :: _ :: _, h => exact h.2.2.elim

theorem chartLaunched_true (ds : List (DataW H)) (h : All2 (tyD Tryd.prog 5) [25, 49, 49, 37] ds) : ∃ H', apL Tryd.prog pf (.func (.func 11) #[] #[]) (absVs Tryd.prog [25, 49, 49, 37] ds Tryd.prog.globals.size).1 0 (globH Tryd.prog tabs ++ (absVs Tryd.prog [25, 49, 49, 37] ds Tryd.prog.globals.size).2) = some (.bool true, H') := by
  match ds, h with
  | [x, y, z, u], h =>
    obtain ⟨c, _, hc⟩ := dChart (n := 1) h.1
    obtain ⟨r, hr⟩ := dRamp (n := 3) h.2.1
    obtain ⟨w, hw⟩ := dRamp (n := 3) h.2.2.1
    obtain ⟨a, b, _, _, hu⟩ := dSpan (n := 3) h.2.2.2.1
    obtain ⟨dd, tt, ss, e, hS⟩ := hc (globH Tryd.prog tabs)
    rw [show (globH Tryd.prog tabs).length = Tryd.prog.globals.size by simp [globH]] at e hS
    have hG := hG_ext (absD x Tryd.prog.globals.size).2 globG
    have ev : (absVs Tryd.prog [25, 49, 49, 37] [x, y, z, u] Tryd.prog.globals.size) = ([chV c dd tt ss, rpV r, rpV w, .agg #[.int .i64 a, .int .i64 b]], (absD x Tryd.prog.globals.size).2) := by
      simp only [absVs, hr, hw, hu, e, List.append_nil]
      simp only [absV, aggC, aggR, aggS, if_true]
      rfl
    rw [ev]
    exact ⟨_, launched_law c 0 _ hG dd tt ss hS r w a b⟩
  | [], h => exact h.elim
  | [_], h => exact h.2.elim
  | [_, _], h => exact h.2.2.elim
  | [_, _, _], h => exact h.2.2.2.elim
  | _ :: _ :: _ :: _ :: _ :: _, h => exact h.2.2.2.2.elim
end Go.Proofs.YtjejcbiilimjkaaDoor
