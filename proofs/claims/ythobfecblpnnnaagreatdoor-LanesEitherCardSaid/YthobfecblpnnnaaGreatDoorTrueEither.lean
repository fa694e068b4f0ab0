/- The law LanesEither at what was read. -/
import Derived.Test.YthobfecblpnnnaaGreatDoorLanK
import Derived.Test.YthobfecblpnnnaaGreatDoorDataG
set_option linter.all false
namespace Go.Proofs.YthobfecblpnnnaaGreatDoor
open Go Go.RowKit
attribute [local irreducible] tyD

variable {H : Type}

theorem globGE : (globH Tryz.prog tabs)[waysG]? = some (.ro waysV) := by
  unfold globH
  rw [List.getElem?_map]
  rfl

theorem aggCE : isAggT Tryz.prog 25 = true := by kernel_rfl
theorem aggGE : isAggT Tryz.prog 41 = true := by kernel_rfl

theorem lanesEither_true (ds : List (DataW H)) (h : All2 (tyD Tryz.prog 5) [25, 41, 41] ds) : ∃ H', apL Tryz.prog pf (.func (.func 8) #[] #[]) (absVs Tryz.prog [25, 41, 41] ds Tryz.prog.globals.size).1 0 (globH Tryz.prog tabs ++ (absVs Tryz.prog [25, 41, 41] ds Tryz.prog.globals.size).2) = some (.bool true, H') := by
  match ds, h with
  | [x, y, z], h =>
    obtain ⟨c, _, hc⟩ := dChart (n := 1) h.1
    obtain ⟨a, _, ha⟩ := dLeg (n := 2) h.2.1
    obtain ⟨b, _, hb⟩ := dLeg (n := 2) h.2.2.1
    obtain ⟨dd, tt, ss, e, hS⟩ := hc (globH Tryz.prog tabs)
    obtain ⟨sa, ea, hA⟩ := ha (globH Tryz.prog tabs ++ (absD x (globH Tryz.prog tabs).length).2)
    obtain ⟨sb, eb, hB⟩ := hb (globH Tryz.prog tabs ++ (absD x (globH Tryz.prog tabs).length).2 ++ (absD y (globH Tryz.prog tabs ++ (absD x (globH Tryz.prog tabs).length).2).length).2)
    have hgl : (globH Tryz.prog tabs).length = Tryz.prog.globals.size := by simp [globH]
    simp only [List.length_append] at ea hA eb hB
    rw [hgl] at e hS ea hA eb hB
    have hG := hG_ext (absD x Tryz.prog.globals.size).2 globGE
    obtain ⟨n2, hn2⟩ : ∃ n2, n2 = Tryz.prog.globals.size + (absD x Tryz.prog.globals.size).2.length := ⟨_, rfl⟩
    rw [← hn2] at ea hA eb hB
    obtain ⟨n3, hn3⟩ : ∃ n3, n3 = n2 + (absD y n2).2.length := ⟨_, rfl⟩
    rw [← hn3] at eb hB
    have ev : (absVs Tryz.prog [25, 41, 41] [x, y, z] Tryz.prog.globals.size) = ([chV c dd tt ss, lgV a sa, lgV b sb], (absD x Tryz.prog.globals.size).2 ++ ((absD y n2).2 ++ (absD z n3).2)) := by
      simp only [absVs, e, List.append_nil, ← hn2, ea, ← hn3, eb]
      simp only [absV, aggCE, aggGE, if_true]
      rfl
    rw [ev]
    simp only [← List.append_assoc]
    have E1 : Ext (globH Tryz.prog tabs ++ (absD x Tryz.prog.globals.size).2) (globH Tryz.prog tabs ++ (absD x Tryz.prog.globals.size).2 ++ (absD y n2).2) := Ext.push _ _
    have E2 : Ext (globH Tryz.prog tabs ++ (absD x Tryz.prog.globals.size).2 ++ (absD y n2).2) (globH Tryz.prog tabs ++ (absD x Tryz.prog.globals.size).2 ++ (absD y n2).2 ++ (absD z n3).2) := Ext.push _ _
    have E := E1.trans E2
    exact ⟨_, either_law c a b 0 _ (hG_ext _ (hG_ext _ hG)) dd tt ss sa sb ⟨hS.d.ext E, hS.t.ext E, hS.s.ext E⟩ (hA.ext E2) hB⟩
  | [], h => exact h.elim
  | [_], h => exact h.2.elim
  | [_, _], h => exact h.2.2.elim
  | _ :: _ :: _ :: _ :: _, h => exact h.2.2.2.elim
end Go.Proofs.YthobfecblpnnnaaGreatDoor
