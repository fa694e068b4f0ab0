/- The law LanesFirst at what was read. -/
import Derived.Test.YthobfecblpnnnaaGreatDoorLmJ
import Derived.Test.YthobfecblpnnnaaGreatDoorDataT
set_option linter.all false
namespace Go.Proofs.YthobfecblpnnnaaGreatDoor
open Go Go.RowKit
attribute [local irreducible] tyD

variable {H : Type}

theorem dWay {n : Nat} {d : DataW H} (h : tyD Tryz.prog (n + 3) 46 d) : ∃ (p : Tp) (cs : List Int), cs.length ≤ maxLen ∧ Lay d fun A vs => ∃ s, vs = tpC p ++ [s] ∧ Sl A s cs.length (ints cs) := by
  unfold tyD at h
  simp only [Tryz.underlying46] at h
  obtain ⟨parts, rfl, hp⟩ := h
  match parts, hp with
  | [x1, x2], hp =>
    obtain ⟨p, h1⟩ := dTrip (n := n) hp.1
    obtain ⟨l, hl, _, k2⟩ := dIntsS (n := n) hp.2.1
    refine ⟨p, l, hl, fun H0 => ?_⟩
    obtain ⟨v, ev, sv⟩ := k2 H0
    refine ⟨v, ?_, ?_⟩
    · simp only [absD, absDs, h1, ev, List.nil_append, List.length_nil, Nat.add_zero, List.append_nil, List.cons_append]
    · have e : (absD (DataW.agg [x1, x2]) H0.length).2 = (absD x2 H0.length).2 := by
        simp only [absD, absDs, h1, List.nil_append, List.length_nil, Nat.add_zero, List.append_nil]
      rw [e]
      exact sv
  | [], hp => exact hp.elim
  | [_], hp => exact hp.2.elim
  | _ :: _ :: _ :: _, hp => exact hp.2.2.elim

theorem aggWT : isAggT Tryz.prog 46 = true := by kernel_rfl

theorem lanesFirst_true (ds : List (DataW H)) (h : All2 (tyD Tryz.prog 5) [25, 26, 46] ds) : ∃ H', apL Tryz.prog pf (.func (.func 4) #[] #[]) (absVs Tryz.prog [25, 26, 46] ds Tryz.prog.globals.size).1 0 (globH Tryz.prog tabs ++ (absVs Tryz.prog [25, 26, 46] ds Tryz.prog.globals.size).2) = some (.bool true, H') := by
  match ds, h with
  | [x, y, z], h =>
    obtain ⟨c, _, hc⟩ := dChart (n := 1) h.1
    obtain ⟨ls, hll, hl⟩ := dLegsS (n := 1) h.2.1
    obtain ⟨p, cs, hcl, hz⟩ := dWay (n := 2) h.2.2.1
    obtain ⟨dd, tt, ss, e, hS⟩ := hc (globH Tryz.prog tabs)
    obtain ⟨lv, el, hL⟩ := hl (globH Tryz.prog tabs ++ (absD x (globH Tryz.prog tabs).length).2)
    obtain ⟨sv, ez, hZ⟩ := hz (globH Tryz.prog tabs ++ (absD x (globH Tryz.prog tabs).length).2 ++ (absD y (globH Tryz.prog tabs ++ (absD x (globH Tryz.prog tabs).length).2).length).2)
    have hgl : (globH Tryz.prog tabs).length = Tryz.prog.globals.size := by simp [globH]
    simp only [List.length_append] at el hL ez hZ
    rw [hgl] at e hS el hL ez hZ
    have hG := hG_ext (absD x Tryz.prog.globals.size).2 globGT
    obtain ⟨n2, hn2⟩ : ∃ n2, n2 = Tryz.prog.globals.size + (absD x Tryz.prog.globals.size).2.length := ⟨_, rfl⟩
    rw [← hn2] at el hL ez hZ
    obtain ⟨n3, hn3⟩ : ∃ n3, n3 = n2 + (absD y n2).2.length := ⟨_, rfl⟩
    rw [← hn3] at ez hZ
    have ev : (absVs Tryz.prog [25, 26, 46] [x, y, z] Tryz.prog.globals.size) = ([chV c dd tt ss, lv, wyV p sv], (absD x Tryz.prog.globals.size).2 ++ ((absD y n2).2 ++ (absD z n3).2)) := by
      simp only [absVs, e, List.append_nil, ← hn2, el, ← hn3, ez]
      simp only [absV, aggCT, aggLT, aggWT, if_true]
      rfl
    rw [ev]
    simp only [← List.append_assoc]
    have E1 : Ext (globH Tryz.prog tabs ++ (absD x Tryz.prog.globals.size).2) (globH Tryz.prog tabs ++ (absD x Tryz.prog.globals.size).2 ++ (absD y n2).2) := Ext.push _ _
    have E2 : Ext (globH Tryz.prog tabs ++ (absD x Tryz.prog.globals.size).2 ++ (absD y n2).2) (globH Tryz.prog tabs ++ (absD x Tryz.prog.globals.size).2 ++ (absD y n2).2 ++ (absD z n3).2) := Ext.push _ _
    have E := E1.trans E2
    have hml : maxLen < 2 ^ 63 := by decide
    exact first_law c ls (by omega) p cs 0 _ (noLp_app (noLp_app (noLp_app globH_nlp (absD_nlp x _)) (absD_nlp y _)) (absD_nlp z _)) (hG_ext _ (hG_ext _ hG)) dd tt ss lv sv ⟨hS.d.ext E, hS.t.ext E, hS.s.ext E⟩ (hL.ext E2) hZ (by omega)
  | [], h => exact h.elim
  | [_], h => exact h.2.elim
  | [_, _], h => exact h.2.2.elim
  | _ :: _ :: _ :: _ :: _, h => exact h.2.2.2.elim
end Go.Proofs.YthobfecblpnnnaaGreatDoor
