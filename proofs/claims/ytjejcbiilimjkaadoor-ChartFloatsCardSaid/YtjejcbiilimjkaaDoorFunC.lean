/- Contracts of the functions, in the abstract machine: the law's own small ones; cells. -/
import Derived.Test.YtjejcbiilimjkaaDoorFunB
set_option linter.all false
namespace Go.Proofs.YtjejcbiilimjkaaDoor
open Go Go.RowKit

theorem run_CellsCh (c : Ch) (lim : Nat) (H : AH) (d t s : Value) : apL Tryd.prog pf (.func (.func 40) #[] #[]) [chV c d t s] lim H = some (.int .i64 (IntKind.i64.wrap (c.w * c.h)), H) := run_Cells c.w c.h [d, t, s] lim H

theorem run_IsCell (c : Ch) (x : Int) (lim : Nat) (H : AH) (d t s : Value) (hc : ChIn H c d t s) (hwh : IntKind.i64.wrap (c.w * c.h) = c.w * c.h) (hwh2 : IntKind.i64.wrap (c.w * c.h - 1) = c.w * c.h - 1) :
    apL Tryd.prog pf (.func (.func 37) #[] #[]) [chV c d t s, .int .i64 x] lim H = some (.bool (decide (0 ≤ x) && decide (x ≤ c.w * c.h - 1)), H) := by
  rw [apL_func _ _ _ _ _ _ (by rfl), sf_cobleref01_IsCell_eq]
  obtain ⟨⟨da, dc, ed, _⟩, ⟨ta, tc, et, _⟩, ⟨sa, sc, es, _⟩, _, _, _⟩ := hc
  have hC := fun lim H => run_CellsCh c lim H d t s
  simp only [chV, ed, et, es] at hC
  simp [sf_cobleref01_IsCell, chV, ed, et, es, hC, hwh, hwh2, pf_pure, pureF]

open Classical in
/-- Whether the law looks at a chart: at most 40 cells and 16 ticks, or one that is not valid; nothing longer than 146, 62, 62. -/
theorem run_Vast (c : Ch) (lim : Nat) (H : AH) (d t s : Value) (hc : ChIn H c d t s) :
    apL Tryd.prog pf (.func (.func 12) #[] #[]) [chV c d t s] lim H =
      some (.bool (decide (c.depth.length > 146 ∨ c.tide.length > 62 ∨ c.swell.length > 62 ∨ (ChOk c ∧ (c.w * c.h > 40 ∨ c.tide.length > 16)))), H) := by
  rw [apL_func _ _ _ _ _ _ (by rfl), sf_coblelaw01_Vast_eq]
  have hC := fun lim => run_Check c lim H d t s hc
  obtain ⟨⟨da, dc, ed, _⟩, ⟨ta, tc, et, _⟩, ⟨sa, sc, es, _⟩, _, _, _⟩ := hc
  by_cases a1 : c.depth.length > 146
  · have b1 : ((c.depth.length : Int) > 146) := by omega
    simp [sf_coblelaw01_Vast, chV, ed, a1, b1, pf_pure, pureF]
  have b1 : ¬ ((c.depth.length : Int) > 146) := by omega
  by_cases a2 : c.tide.length > 62
  · have b2 : ((c.tide.length : Int) > 62) := by omega
    simp [sf_coblelaw01_Vast, chV, ed, et, a1, b1, a2, b2, pf_pure, pureF]
  have b2 : ¬ ((c.tide.length : Int) > 62) := by omega
  by_cases a3 : c.swell.length > 62
  · have b3 : ((c.swell.length : Int) > 62) := by omega
    simp [sf_coblelaw01_Vast, chV, ed, et, es, a1, b1, a2, b2, a3, b3, pf_pure, pureF]
  have b3 : ¬ ((c.swell.length : Int) > 62) := by omega
  simp only [chV, ed, et, es] at hC
  by_cases hok : ChOk c
  rotate_left
  · simp [sf_coblelaw01_Vast, chV, ed, et, es, a1, b1, a2, b2, a3, b3, hC, hok, pf_pure, pureF]
  have hmul : IntKind.i64.wrap (c.w * c.h) = c.w * c.h := by
    have h1 : 0 ≤ c.w * c.h := Int.mul_nonneg (by have := hok.1; omega) (by have := hok.2.1; omega)
    have h2 : c.w * c.h ≤ 12 * 12 := Int.mul_le_mul hok.1.2 hok.2.1.2 (by have := hok.2.1; omega) (by omega)
    exact wrap_i64 (by omega) (by omega)
  by_cases a4 : c.w * c.h > 40
  · simp [sf_coblelaw01_Vast, chV, ed, et, es, a1, b1, a2, b2, a3, b3, hC, hok, hmul, a4, pf_pure, pureF]
  · by_cases a5 : c.tide.length > 16
    · have b5 : ((c.tide.length : Int) > 16) := by omega
      simp [sf_coblelaw01_Vast, chV, ed, et, es, a1, b1, a2, b2, a3, b3, hC, hok, hmul, a4, a5, b5, pf_pure, pureF]
    · have b5 : ¬ ((c.tide.length : Int) > 16) := by omega
      simp [sf_coblelaw01_Vast, chV, ed, et, es, a1, b1, a2, b2, a3, b3, hC, hok, hmul, a4, a5, b5, pf_pure, pureF]
end Go.Proofs.YtjejcbiilimjkaaDoor
