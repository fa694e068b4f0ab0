/- This seat's program: what its laws share. -/
import Derived.Test.YtnpifaanhofonaaDoorCoreE
import Derived.Test.YtnpifaanhofonaaDoorProg
import Derived.Test.YtnpifaanhofonaaDoorCards
import Derived.Test.YtnpifaanhofonaaDoorTie
import Derived.WalkKit
import Derived.ProofKit
import Derived.Deep.DeepHandedRow
set_option linter.all false
namespace Go.Proofs.YtnpifaanhofonaaDoor
open Go Go.RowKit Go.ChangeShapes Go.WideShapes Go.ChangeAt

theorem own : ownKnob Tryd.prog.godebug = none := by kernel_rfl
theorem foll : Tryd.prog.follows .mixedOrders = true := by kernel_rfl
theorem laidOut : laidOutB Tryd.prog = true := by kernel_rfl
theorem rowed : mapsRowed Tryd.prog = true := by kernel_rfl
theorem full : ((List.range Tryd.prog.types.size).all fun t => match Tryd.prog.underlying t with | some (.slice e) => decide (0 < Tryd.prog.cellsOf e) | _ => true) = true := by kernel_rfl
theorem gsz : Tryd.prog.globals.size < (begin Tryd.prog (fun _ _ => 0) default).world.heap.size := of_decide_eq_true (by kernel_rfl)
theorem kids : Kids Tryd.prog (· < Tryd.prog.types.size) := kids_rows laidOut rowed

theorem globals_there {W : World} (h : W.ShapedOpen Tryd.prog) : Tryd.prog.globals.size ≤ W.heap.size := by
  obtain ⟨_, h2⟩ := h
  obtain ⟨o, _, h3, _⟩ := h2 Tryd.prog.globals.size (Nat.le_refl _) gsz
  exact Nat.le_of_lt (lt_of_heap h3)

/-- The table of the six directions. -/
def waysG : Nat := 0
theorem ways_named : Tryd.prog.globalNamed "coble/chart.ways" = some waysG := by kernel_rfl
def waysV : List Value := (absD (Rows.laid_coble_chart_ways (H := Unit)) 0).1
theorem ways_flat : waysV.all flatV = true := by kernel_rfl
def tabs : List (Nat × List Value) := [(waysG, waysV)]

theorem ways_type : (Tryd.prog.globals[waysG]?).map (·.type) = (Tryd.prog.globals[waysG]?).map (·.type) := rfl

theorem tabs_there {W : World} (h : laidMetH Tryd.prog [("coble/chart.ways", Rows.laid_coble_chart_ways)] W) : ∀ g vs, tabs.lookup g = some vs → scaL vs = true ∧ ∀ j (h : j < vs.length), W.cell? ⟨g, j, none⟩ = some vs[j] := by
  intro g vs hl
  have h' : laidMet Tryd.prog [("coble/chart.ways", Rows.laid_coble_chart_ways)] W := h
  obtain ⟨ps, hv, _⟩ := h'
  have hg : g = waysG ∧ vs = waysV := by
    unfold tabs at hl
    simp only [List.lookup] at hl
    split at hl
    · rename_i e; simp at e; cases hl; exact ⟨e, rfl⟩
    · cases hl
  obtain ⟨rfl, rfl⟩ := hg
  refine ⟨flat_sca ways_flat, ?_⟩
  obtain ⟨t, ht⟩ : ∃ t, (Tryd.prog.globals[waysG]?).map (·.type) = some t ∧ supT Tryd.prog 5 t = true := by
    refine ⟨_, rfl, ?_⟩
    kernel_rfl
  exact laid_cells _ ps hv _ _ (by simp) waysG t 5 ways_named ht.1 ht.2 ways_flat

end Go.Proofs.YtnpifaanhofonaaDoor
