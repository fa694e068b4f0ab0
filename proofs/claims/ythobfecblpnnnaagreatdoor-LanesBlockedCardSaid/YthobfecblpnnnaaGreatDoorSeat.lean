/- This seat's program: what its laws share. -/
import Derived.Test.YthobfecblpnnnaaGreatDoorCoreE
import Derived.Test.YthobfecblpnnnaaGreatDoorProg
import Derived.Test.YthobfecblpnnnaaGreatDoorCards
import Derived.Test.YthobfecblpnnnaaGreatDoorTie
import Derived.WalkKit
import Derived.ProofKit
import Derived.Deep.DeepHandedRow
set_option linter.all false
namespace Go.Proofs.YthobfecblpnnnaaGreatDoor
open Go Go.RowKit Go.ChangeShapes Go.WideShapes Go.ChangeAt

theorem own : ownKnob Tryz.prog.godebug = none := by kernel_rfl
theorem foll : Tryz.prog.follows .mixedOrders = true := by kernel_rfl
theorem laidOut : laidOutB Tryz.prog = true := by kernel_rfl
theorem rowed : mapsRowed Tryz.prog = true := by kernel_rfl
theorem full : ((List.range Tryz.prog.types.size).all fun t => match Tryz.prog.underlying t with | some (.slice e) => decide (0 < Tryz.prog.cellsOf e) | _ => true) = true := by kernel_rfl
theorem gsz : Tryz.prog.globals.size < (begin Tryz.prog (fun _ _ => 0) default).world.heap.size := of_decide_eq_true (by kernel_rfl)
theorem kids : Kids Tryz.prog (· < Tryz.prog.types.size) := kids_rows laidOut rowed

theorem globals_there {W : World} (h : W.ShapedOpen Tryz.prog) : Tryz.prog.globals.size ≤ W.heap.size := by
  obtain ⟨_, h2⟩ := h
  obtain ⟨o, _, h3, _⟩ := h2 Tryz.prog.globals.size (Nat.le_refl _) gsz
  exact Nat.le_of_lt (lt_of_heap h3)

/-- The table of the six directions. -/
def waysG : Nat := 0
theorem ways_named : Tryz.prog.globalNamed "coble/chart.ways" = some waysG := by kernel_rfl
def waysV : List Value := (absD (Rows.laid_coble_chart_ways (H := Unit)) 0).1
theorem ways_flat : waysV.all flatV = true := by kernel_rfl
def tabs : List (Nat × List Value) := [(waysG, waysV)]

theorem ways_type : (Tryz.prog.globals[waysG]?).map (·.type) = (Tryz.prog.globals[waysG]?).map (·.type) := rfl

theorem tabs_there {W : World} (h : laidMetH Tryz.prog [("coble/chart.ways", Rows.laid_coble_chart_ways)] W) : ∀ g vs, tabs.lookup g = some vs → scaL vs = true ∧ ∀ j (h : j < vs.length), W.cell? ⟨g, j, none⟩ = some vs[j] := by
  intro g vs hl
  have h' : laidMet Tryz.prog [("coble/chart.ways", Rows.laid_coble_chart_ways)] W := h
  obtain ⟨ps, hv, _⟩ := h'
  have hg : g = waysG ∧ vs = waysV := by
    unfold tabs at hl
    simp only [List.lookup] at hl
    split at hl
    · rename_i e; simp at e; cases hl; exact ⟨e, rfl⟩
    · cases hl
  obtain ⟨rfl, rfl⟩ := hg
  refine ⟨flat_sca ways_flat, ?_⟩
  obtain ⟨t, ht⟩ : ∃ t, (Tryz.prog.globals[waysG]?).map (·.type) = some t ∧ supT Tryz.prog 5 t = true := by
    refine ⟨_, rfl, ?_⟩
    kernel_rfl
  exact laid_cells _ ps hv _ _ (by simp) waysG t 5 ways_named ht.1 ht.2 ways_flat

end Go.Proofs.YthobfecblpnnnaaGreatDoor
