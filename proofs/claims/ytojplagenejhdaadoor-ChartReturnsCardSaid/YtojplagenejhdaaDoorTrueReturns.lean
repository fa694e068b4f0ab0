/- The law ChartReturns at what was read. -/
import Derived.Test.YtojplagenejhdaaDoorRetC
import Derived.Test.YtojplagenejhdaaDoorTrueFloats
set_option linter.all false
namespace Go.Proofs.YtojplagenejhdaaDoor
open Go Go.RowKit
attribute [local irreducible] tyD

variable {H : Type}

theorem chartReturns_true (ds : List (DataW H)) (h : All2 (tyD Tryd.prog 5) [25, 35, 3, 22] ds) : ∃ H', apL Tryd.prog pf (.func (.func 9) #[] #[]) (absVs Tryd.prog [25, 35, 3, 22] ds Tryd.prog.globals.size).1 0 (globH Tryd.prog tabs ++ (absVs Tryd.prog [25, 35, 3, 22] ds Tryd.prog.globals.size).2) = some (.bool true, H') := by
  match ds, h with
  | [x, y, z, u], h =>
    obtain ⟨c, _, hc⟩ := dChart (n := 1) h.1
    obtain ⟨g, a, b, _, hs⟩ := dSpot (n := 3) h.2.1
    obtain ⟨w, _, hw⟩ := dInt (n := 4) h.2.2.1
    obtain ⟨l, _, _, hl⟩ := dIntsS (n := 3) h.2.2.2.1
    obtain ⟨dd, tt, ss, e, hS⟩ := hc (globH Tryd.prog tabs)
    obtain ⟨v, ev, hv⟩ := hl (globH Tryd.prog tabs ++ (absD x (globH Tryd.prog tabs).length).2)
    have hgl : (globH Tryd.prog tabs).length = Tryd.prog.globals.size := by simp [globH]
    rw [List.length_append] at ev hv
    rw [hgl] at e hS ev hv
    have hG := hG_ext (absD x Tryd.prog.globals.size).2 globG
    obtain ⟨n2, hn2⟩ : ∃ n2, n2 = Tryd.prog.globals.size + (absD x Tryd.prog.globals.size).2.length := ⟨_, rfl⟩
    rw [← hn2] at ev hv
    have eq : (absVs Tryd.prog [25, 35, 3, 22] [x, y, z, u] Tryd.prog.globals.size) = ([chV c dd tt ss, .agg #[.int .i64 g, .int .i64 a, .int .i64 b], .int .i64 w, v], (absD x Tryd.prog.globals.size).2 ++ (absD u n2).2) := by
      simp only [absVs, hs, hw, e, List.append_nil, List.nil_append, List.length_nil, Nat.add_zero, ← hn2, ev]
      have a1 : isAggT Tryd.prog 25 = true := by kernel_rfl
      have a2 : isAggT Tryd.prog 35 = true := by kernel_rfl
      have a3 : isAggT Tryd.prog 3 = false := by kernel_rfl
      have a4 : isAggT Tryd.prog 22 = false := by kernel_rfl
      simp only [absV, a1, a2, a3, a4, if_true]
      rfl
    rw [eq]
    simp only [← List.append_assoc]
    have E : Ext (globH Tryd.prog tabs ++ (absD x Tryd.prog.globals.size).2) (globH Tryd.prog tabs ++ (absD x Tryd.prog.globals.size).2 ++ (absD u n2).2) := Ext.push _ _
    exact ⟨_, returns_law c 0 _ (hG_ext _ hG) dd tt ss v ⟨hS.d.ext E, hS.t.ext E, hS.s.ext E⟩ g a b w l hv⟩
  | [], h => exact h.elim
  | [_], h => exact h.2.elim
  | [_, _], h => exact h.2.2.elim
  | [_, _, _], h => exact h.2.2.2.elim
  | _ :: _ :: _ :: _ :: _ :: _, h => exact h.2.2.2.2.elim
end Go.Proofs.YtojplagenejhdaaDoor
