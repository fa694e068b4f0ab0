/- Contracts of the functions, in the abstract machine: the law ChartFloats. -/
import Derived.Test.YtjejcbiilimjkaaDoorFunJ
set_option linter.all false
namespace Go.Proofs.YtjejcbiilimjkaaDoor
open Go Go.RowKit

/-- What the law does not look at. -/
def Far (c : Ch) : Prop := c.depth.length > 146 ∨ c.tide.length > 62 ∨ c.swell.length > 62 ∨ (ChOk c ∧ (c.w * c.h > 40 ∨ c.tide.length > 16))

theorem hG_ext {H : AH} (l : AH) (hG : H[waysG]? = some (.ro waysV)) : (H ++ l)[waysG]? = some (.ro waysV) := Ext.push H l _ _ hG

open Classical in
theorem floats_law (c : Ch) (lim : Nat) (H : AH) (hG : H[waysG]? = some (.ro waysV)) (d t s : Value) (hc : ChIn H c d t s) (g a b : Int) :
    apL Tryd.prog pf (.func (.func 4) #[] #[]) [chV c d t s, .agg #[.int .i64 g, .int .i64 a, .int .i64 b]] lim H = some (.bool true, H) := by
  rw [apL_func _ _ _ _ _ _ (by rfl), sf_coblelaw01_ChartFloats_eq]
  have hV := fun lim => run_Vast c lim H d t s hc
  by_cases hf : Far c
  · have hW := fun lim => run_works lim H hG
    obtain ⟨⟨da, dc, ed, _⟩, ⟨ta, tc, et, _⟩, ⟨sa, sc, es, _⟩, _, _, _⟩ := hc
    have hf' : decide (c.depth.length > 146 ∨ c.tide.length > 62 ∨ c.swell.length > 62 ∨ (ChOk c ∧ (c.w * c.h > 40 ∨ c.tide.length > 16))) = true := decide_eq_true hf
    simp only [chV, ed, et, es, hf'] at hV
    simp [sf_coblelaw01_ChartFloats, chV, ed, et, es, hV, hW, pf_pure, pureF]
  have hf' : decide (c.depth.length > 146 ∨ c.tide.length > 62 ∨ c.swell.length > 62 ∨ (ChOk c ∧ (c.w * c.h > 40 ∨ c.tide.length > 16))) = false := decide_eq_false hf
  have hl : c.depth.length ≤ 1000 ∧ c.tide.length ≤ 1000 ∧ c.swell.length ≤ 1000 := by
    unfold Far at hf
    refine ⟨?_, ?_, ?_⟩ <;> (apply Nat.le_of_not_lt; intro h; apply hf)
    · exact .inl (by omega)
    · exact .inr (.inl (by omega))
    · exact .inr (.inr (.inl (by omega)))
  obtain ⟨d', t', s', hC, hc'⟩ := run_Copy c H.length H d t s hc hl
  have hW := fun lim => run_works lim (H ++ copyB c) (hG_ext _ hG)
  have w1 := fun lim => run_Water c lim _ d' t' s' hc' a b
  have w2 := fun lim => run_refWater c lim (H ++ copyB c) d t s (hc.ext (Ext.push _ _)) a b
  have f1 := fun lim => run_Floats c lim _ d' t' s' hc' g a b
  have f2 := fun lim => run_refFloats c lim (H ++ copyB c) d t s (hc.ext (Ext.push _ _)) g a b
  obtain ⟨⟨da, dc, ed, _⟩, ⟨ta, tc, et, _⟩, ⟨sa, sc, es, _⟩, _, _, _⟩ := hc
  obtain ⟨⟨da', dc', ed', _⟩, ⟨ta', tc', et', _⟩, ⟨sa', sc', es', _⟩, _, _, _⟩ := hc'
  simp only [chV, ed, et, es, ed', et', es', hf', waterR, floatsR] at hV hC w1 w2 f1 f2
  by_cases h0 : openE c [a] [b] = 0
  · simp only [h0, if_true] at w1 w2
    simp [sf_coblelaw01_ChartFloats, chV, ed, et, es, hV, hC, hW, w1, w2, f1, f2, pf_pure, pureF]
  · simp only [h0, if_false] at w1 w2
    simp [sf_coblelaw01_ChartFloats, chV, ed, et, es, hV, hC, hW, w1, w2, f1, f2, pf_pure, pureF]
end Go.Proofs.YtjejcbiilimjkaaDoor
