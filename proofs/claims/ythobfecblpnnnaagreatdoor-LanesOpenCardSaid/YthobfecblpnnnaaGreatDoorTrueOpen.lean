/- The law LanesOpen at what was read. -/
import Derived.Test.YthobfecblpnnnaaGreatDoorLanO
import Derived.Test.YthobfecblpnnnaaGreatDoorDataG
set_option linter.all false
namespace Go.Proofs.YthobfecblpnnnaaGreatDoor
open Go Go.RowKit
attribute [local irreducible] tyD

variable {H : Type}

theorem globG : (globH Tryz.prog tabs)[waysG]? = some (.ro waysV) := by
  unfold globH
  rw [List.getElem?_map]
  rfl

theorem dSpot {n : Nat} {d : DataW H} (h : tyD Tryz.prog (n + 2) 54 d) : ∃ a b, ∀ k, absD d k = ([.int .i64 a, .int .i64 b], []) := by
  unfold tyD at h
  simp only [Tryz.underlying54] at h
  obtain ⟨parts, rfl, hp⟩ := h
  match parts, hp with
  | [x, y], hp =>
    obtain ⟨a, _, ha⟩ := dInt (n := n) hp.1
    obtain ⟨b, _, hb⟩ := dInt (n := n) hp.2.1
    exact ⟨a, b, fun k => by simp [absD, absDs, ha, hb]⟩
  | [], hp => exact hp.elim
  | [_], hp => exact hp.2.elim
  | _ :: _ :: _ :: _, hp => exact hp.2.2.elim

theorem aggC : isAggT Tryz.prog 25 = true := by kernel_rfl
theorem aggP : isAggT Tryz.prog 54 = true := by kernel_rfl
theorem aggL : isAggT Tryz.prog 26 = false := by kernel_rfl

theorem lanesOpen_true (ds : List (DataW H)) (h : All2 (tyD Tryz.prog 5) [25, 26, 54] ds) : ∃ H', apL Tryz.prog pf (.func (.func 7) #[] #[]) (absVs Tryz.prog [25, 26, 54] ds Tryz.prog.globals.size).1 0 (globH Tryz.prog tabs ++ (absVs Tryz.prog [25, 26, 54] ds Tryz.prog.globals.size).2) = some (.bool true, H') := by
  match ds, h with
  | [x, y, z], h =>
    obtain ⟨c, _, hc⟩ := dChart (n := 1) h.1
    obtain ⟨ls, hll, hl⟩ := dLegsS (n := 1) h.2.1
    obtain ⟨a, b, hz⟩ := dSpot (n := 3) h.2.2.1
    obtain ⟨dd, tt, ss, e, hS⟩ := hc (globH Tryz.prog tabs)
    obtain ⟨lv, el, hL⟩ := hl (globH Tryz.prog tabs ++ (absD x (globH Tryz.prog tabs).length).2)
    have hgl : (globH Tryz.prog tabs).length = Tryz.prog.globals.size := by simp [globH]
    rw [List.length_append] at el hL
    rw [hgl] at e hS el hL
    have hG := hG_ext (absD x Tryz.prog.globals.size).2 globG
    obtain ⟨n2, hn2⟩ : ∃ n2, n2 = Tryz.prog.globals.size + (absD x Tryz.prog.globals.size).2.length := ⟨_, rfl⟩
    rw [← hn2] at el hL
    have ev : (absVs Tryz.prog [25, 26, 54] [x, y, z] Tryz.prog.globals.size) = ([chV c dd tt ss, lv, .agg #[.int .i64 a, .int .i64 b]], (absD x Tryz.prog.globals.size).2 ++ (absD y n2).2) := by
      simp only [absVs, hz, e, List.append_nil, ← hn2, el]
      simp only [absV, aggC, aggP, aggL, if_true]
      rfl
    rw [ev]
    simp only [← List.append_assoc]
    have E : Ext (globH Tryz.prog tabs ++ (absD x Tryz.prog.globals.size).2) (globH Tryz.prog tabs ++ (absD x Tryz.prog.globals.size).2 ++ (absD y n2).2) := Ext.push _ _
    have hml : maxLen < 2 ^ 63 := by decide
    exact ⟨_, open_law c ls (by omega) a b 0 _ (hG_ext _ hG) dd tt ss lv ⟨hS.d.ext E, hS.t.ext E, hS.s.ext E⟩ hL⟩
  | [], h => exact h.elim
  | [_], h => exact h.2.elim
  | [_, _], h => exact h.2.2.elim
  | _ :: _ :: _ :: _ :: _, h => exact h.2.2.2.elim
end Go.Proofs.YthobfecblpnnnaaGreatDoor
