/- Contracts of the functions, in the abstract machine: chart.valid. -/
import Derived.Test.YtjejcbiilimjkaaDoorFunE
set_option linter.all false
namespace Go.Proofs.YtjejcbiilimjkaaDoor
open Go Go.RowKit

/-- The blocks that chart.valid makes. -/
def validH (H : AH) : AH := H ++ [.rw 0 [.int .i64 1], .rw 0 [.int .i64 12], .rw 0 [.int .i64 (-1000)], .rw 0 [.int .i64 1000], .rw 0 [.int .i64 1], .rw 0 [.int .i64 60], .rw 0 [.int .i64 0], .rw 0 [.int .i64 100], .rw 0 [.int .i64 0], .rw 0 [.int .i64 200]]

theorem validH_get (H : AH) (k : Nat) : (validH H)[H.length + k]? = ((validH H).drop H.length)[k]? := by rw [List.getElem?_drop]

theorem validH_drop (H : AH) : (validH H).drop H.length = [.rw 0 [.int .i64 1], .rw 0 [.int .i64 12], .rw 0 [.int .i64 (-1000)], .rw 0 [.int .i64 1000], .rw 0 [.int .i64 1], .rw 0 [.int .i64 60], .rw 0 [.int .i64 0], .rw 0 [.int .i64 100], .rw 0 [.int .i64 0], .rw 0 [.int .i64 200]] := by simp [validH]

open Classical in
theorem run_valid (c : Ch) (lim : Nat) (H : AH) (d t s : Value) (hc : ChIn H c d t s) : apL Tryd.prog pf (.func (.func 58) #[] #[]) [chV c d t s] lim H = some (.bool (decide (ChOk c)), H) := by
  rw [apL_func _ _ _ _ _ _ (by rfl), sf_chart_valid_eq]
  have hE : Ext H (validH H) := Ext.push H _
  have p1 := isP_between 1 12 (validH H) H.length (by simp [validH]) ((validH_get H 1).trans (by rw [validH_drop]; rfl))
  have p2 := isP_between (-1000) 1000 (validH H) (H.length + 2) ((validH_get H 2).trans (by rw [validH_drop]; rfl)) ((validH_get H 3).trans (by rw [validH_drop]; rfl))
  have p3 := isP_between 1 60 (validH H) (H.length + 4) ((validH_get H 4).trans (by rw [validH_drop]; rfl)) ((validH_get H 5).trans (by rw [validH_drop]; rfl))
  have p4 := isP_between 0 100 (validH H) (H.length + 6) ((validH_get H 6).trans (by rw [validH_drop]; rfl)) ((validH_get H 7).trans (by rw [validH_drop]; rfl))
  have q5 := isQ_within 0 200 (validH H) (H.length + 8) ((validH_get H 8).trans (by rw [validH_drop]; rfl)) ((validH_get H 9).trans (by rw [validH_drop]; rfl))
  have r1 := fun x lim => p1.2 (validH H) (Ext.refl _) x lim
  have r3 := fun x lim => p3.2 (validH H) (Ext.refl _) x lim
  have a2 := fun lim => run_all c.depth hc.dl (validH H) lim d _ _ (hc.d.ext hE) p2
  have a4 := fun lim => run_all c.swell hc.sl (validH H) lim s _ _ (hc.s.ext hE) p4
  have a5 := fun lim => run_all2 c.tide hc.tl (validH H) lim t _ _ (hc.t.ext hE) q5
  have hc' := hc
  obtain ⟨⟨da, dc, ed, _⟩, ⟨ta, tc, et, _⟩, ⟨sa, sc, es, _⟩, _, _, _⟩ := hc'
  rw [ed] at a2
  rw [es] at a4
  rw [et] at a5
  have hb := fun l h lim H => run_between l h lim H
  have hw := fun l h lim H => run_within l h lim H
  simp only [betweenV, withinV, validH] at hb hw r1 r3 a2 a4 a5
  by_cases a1 : 1 ≤ c.w ∧ c.w ≤ 12
  rotate_left
  · have b1 : (decide (1 ≤ c.w) && decide (c.w ≤ 12)) = false := by simpa using a1
    have : ¬ ChOk c := fun h => a1 h.1
    simp [sf_chart_valid, chV, ed, et, es, hb, hw, r1, b1, this, pf_pure, pureF]
  have b1 : (decide (1 ≤ c.w) && decide (c.w ≤ 12)) = true := by simpa using a1
  by_cases a2' : 1 ≤ c.h ∧ c.h ≤ 12
  rotate_left
  · have b2 : (decide (1 ≤ c.h) && decide (c.h ≤ 12)) = false := by simpa using a2'
    have : ¬ ChOk c := fun h => a2' h.2.1
    simp [sf_chart_valid, chV, ed, et, es, hb, hw, r1, b1, b2, this, pf_pure, pureF]
  have b2 : (decide (1 ≤ c.h) && decide (c.h ≤ 12)) = true := by simpa using a2'
  have hmul : IntKind.i64.wrap (c.w * c.h) = c.w * c.h := by
    have h1 : 0 ≤ c.w * c.h := Int.mul_nonneg (by omega) (by omega)
    have h2 : c.w * c.h ≤ 12 * 12 := Int.mul_le_mul a1.2 a2'.2 (by omega) (by omega)
    exact wrap_i64 (by omega) (by omega)
  by_cases a3 : (c.depth.length : Int) = c.w * c.h
  rotate_left
  · have b3 : ((c.depth.length : Int) == c.w * c.h) = false := by simpa using a3
    have : ¬ ChOk c := fun h => a3 h.2.2.1
    simp [sf_chart_valid, chV, ed, et, es, hb, hw, r1, b1, b2, b3, hmul, this, pf_pure, pureF]
  have b3 : ((c.depth.length : Int) == c.w * c.h) = true := by simpa using a3
  cases b4 : (c.depth.all fun x => decide (-1000 ≤ x) && decide (x ≤ 1000)) with
  | false =>
    have : ¬ ChOk c := fun h => by
      have : (c.depth.all fun x => decide (-1000 ≤ x) && decide (x ≤ 1000)) = true := List.all_eq_true.2 fun x hx => by simpa using h.2.2.2.2.2.1 x hx
      rw [b4] at this; cases this
    rw [b4] at a2
    simp [sf_chart_valid, chV, ed, et, es, hb, hw, r1, b1, b2, b3, a2, hmul, this, pf_pure, pureF]
  | true =>
  have hdep : ∀ x ∈ c.depth, -1000 ≤ x ∧ x ≤ 1000 := fun x hx => by simpa using List.all_eq_true.1 b4 x hx
  rw [b4] at a2
  by_cases a6 : 1 ≤ c.tide.length ∧ c.tide.length ≤ 60
  rotate_left
  · have b6 : (decide (1 ≤ (c.tide.length : Int)) && decide ((c.tide.length : Int) ≤ 60)) = false := by simp; omega
    have : ¬ ChOk c := fun h => a6 h.2.2.2.1
    simp [sf_chart_valid, chV, ed, et, es, hb, hw, r1, r3, b1, b2, b3, b6, a2, hmul, this, pf_pure, pureF]
  have b6 : (decide (1 ≤ (c.tide.length : Int)) && decide ((c.tide.length : Int) ≤ 60)) = true := by simp; omega
  cases b7 : (c.tide.all (spanIn 0 200)) with
  | false =>
    have : ¬ ChOk c := fun h => by
      have : (c.tide.all (spanIn 0 200)) = true := List.all_eq_true.2 fun x hx => by
        obtain ⟨j, hj, rfl⟩ := List.mem_iff_getElem.1 hx
        have := h.2.2.2.2.2.2 j hj (by rw [h.2.2.2.2.1]; exact hj)
        obtain ⟨u1, u2, u3, _⟩ := this
        simp only [spanIn, Bool.and_eq_true, decide_eq_true_eq]
        omega
      rw [b7] at this; cases this
    rw [b7] at a5
    simp [sf_chart_valid, chV, ed, et, es, hb, hw, r1, r3, b1, b2, b3, b6, a2, a5, hmul, this, pf_pure, pureF]
  | true =>
  rw [b7] at a5
  by_cases a8 : c.swell.length = c.tide.length
  rotate_left
  · have b8 : ((c.swell.length : Int) == c.tide.length) = false := by simp; omega
    have : ¬ ChOk c := fun h => a8 h.2.2.2.2.1
    simp [sf_chart_valid, chV, ed, et, es, hb, hw, r1, r3, b1, b2, b3, b6, b8, a2, a5, hmul, this, pf_pure, pureF]
  have b8 : ((c.swell.length : Int) == c.tide.length) = true := by simp; omega
  cases b9 : (c.swell.all fun x => decide (0 ≤ x) && decide (x ≤ 100)) with
  | false =>
    have : ¬ ChOk c := fun h => by
      have : (c.swell.all fun x => decide (0 ≤ x) && decide (x ≤ 100)) = true := List.all_eq_true.2 fun x hx => by
        obtain ⟨j, hj, rfl⟩ := List.mem_iff_getElem.1 hx
        have := h.2.2.2.2.2.2 j (by omega) hj
        simpa using this.2.2.2
      rw [b9] at this; cases this
    rw [b9] at a4
    simp [sf_chart_valid, chV, ed, et, es, hb, hw, r1, r3, b1, b2, b3, b6, b8, a2, a4, a5, hmul, this, pf_pure, pureF]
  | true =>
    rw [b9] at a4
    have : ChOk c := by
      refine ⟨a1, a2', a3, a6, a8, hdep, fun j hj hj' => ?_⟩
      have h1 := List.all_eq_true.1 b7 _ (List.getElem_mem hj)
      have h2 := List.all_eq_true.1 b9 _ (List.getElem_mem hj')
      simp only [spanIn, Bool.and_eq_true, decide_eq_true_eq] at h1 h2
      exact ⟨h1.1.1, h1.1.2, h1.2, h2.1, h2.2⟩
    simp [sf_chart_valid, chV, ed, et, es, hb, hw, r1, r3, b1, b2, b3, b6, b8, a2, a4, a5, hmul, this, pf_pure, pureF]
end Go.Proofs.YtjejcbiilimjkaaDoor
