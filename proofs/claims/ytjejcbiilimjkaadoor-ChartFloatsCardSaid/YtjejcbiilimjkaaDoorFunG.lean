/- Contracts of the functions, in the abstract machine: charts that are open. -/
import Derived.Test.YtjejcbiilimjkaaDoorFunF
set_option linter.all false
namespace Go.Proofs.YtjejcbiilimjkaaDoor
open Go Go.RowKit

def cellF (c : Ch) (d t s : Value) : Value := .func (.func 78) #[chV c d t s] #[]
def tickF (c : Ch) (d t s : Value) : Value := .func (.func 79) #[chV c d t s] #[]

/-- Whether a number is one of n. -/
def inN (n : Nat) (x : Int) : Bool := decide (0 ≤ x) && decide (x ≤ (n : Int) - 1)

theorem ext_between (H : AH) (l h : Int) (x : Int) (lim : Nat) : apL Tryd.prog pf (betweenV H.length) [.int .i64 x] lim (H ++ [.rw 0 [.int .i64 l], .rw 0 [.int .i64 h]]) = some (.bool (decide (l ≤ x) && decide (x ≤ h)), H ++ [.rw 0 [.int .i64 l], .rw 0 [.int .i64 h]]) :=
  (isP_between l h (H ++ [.rw 0 [.int .i64 l], .rw 0 [.int .i64 h]]) H.length (by simp) (by simp)).2 _ (Ext.refl _) x lim

theorem nl_betweenV (n : Nat) : nl (betweenV n) = true := by simp [betweenV]

theorem isP_cell (c : Ch) (H : AH) (d t s : Value) (hc : ChIn H c d t s) : IsP H (cellF c d t s) (inN c.depth.length) := by
  have hdl := hc.dl
  obtain ⟨⟨da, dc, ed, _⟩, ⟨ta, tc, et, _⟩, ⟨sa, sc, es, _⟩, _, _, _⟩ := hc
  refine ⟨⟨by simp [cellF, chV, ed, et, es], rfl, rfl⟩, fun H' hH x lim => ?_⟩
  unfold cellF
  rw [apL_func _ _ _ _ _ _ (by rfl), sf_chart_sea_isCell_eq]
  have hw : IntKind.i64.wrap ((c.depth.length : Int) - 1) = (c.depth.length : Int) - 1 := wrap_i64 (by omega) (by omega)
  have hb := ext_between H' 0 ((c.depth.length : Int) - 1) x
  have hr := run_between
  simp only [betweenV] at hb hr
  simp [sf_chart_sea_isCell, chV, ed, et, es, hw, hb, hr, inN, pf_pure, pureF]

theorem isP_tick (c : Ch) (H : AH) (d t s : Value) (hc : ChIn H c d t s) : IsP H (tickF c d t s) (inN c.tide.length) := by
  have hdl := hc.tl
  obtain ⟨⟨da, dc, ed, _⟩, ⟨ta, tc, et, _⟩, ⟨sa, sc, es, _⟩, _, _, _⟩ := hc
  refine ⟨⟨by simp [tickF, chV, ed, et, es], rfl, rfl⟩, fun H' hH x lim => ?_⟩
  unfold tickF
  rw [apL_func _ _ _ _ _ _ (by rfl), sf_chart_sea_isTick_eq]
  have hw : IntKind.i64.wrap ((c.tide.length : Int) - 1) = (c.tide.length : Int) - 1 := wrap_i64 (by omega) (by omega)
  have hb := ext_between H' 0 ((c.tide.length : Int) - 1) x
  have hr := run_between
  simp only [betweenV] at hb hr
  simp [sf_chart_sea_isTick, chV, ed, et, es, hw, hb, hr, inN, pf_pure, pureF]

def noCh : Value := .agg #[.int .i64 0, .int .i64 0, .slice none 0 0, .slice none 0 0, .slice none 0 0]

open Classical in
/-- The error of a chart, some cells and some ticks. -/
noncomputable def openE (c : Ch) (cells ticks : List Int) : Int := if ChOk c then (if cells.all (inN c.depth.length) && ticks.all (inN c.tide.length) then 0 else 1) else 10

theorem run_open (c : Ch) (lim : Nat) (H : AH) (d t s : Value) (hc : ChIn H c d t s) (xs ys : List Int) (x y : Value) (hx : Sl H x xs.length (ints xs)) (hy : Sl H y ys.length (ints ys)) (hxl : xs.length < 2 ^ 62) (hyl : ys.length < 2 ^ 62) :
    apL Tryd.prog pf (.func (.func 51) #[] #[]) [chV c d t s, x, y] lim H = some (.tuple #[if openE c xs ys = 0 then chV c d t s else noCh, .int .i64 (openE c xs ys)], H) := by
  rw [apL_func _ _ _ _ _ _ (by rfl), sf_chart_open_eq]
  have hv := fun lim => run_valid c lim H d t s hc
  have a1 := fun lim => run_all xs hxl H lim x _ _ hx (isP_cell c H d t s hc)
  have a2 := fun lim => run_all ys hyl H lim y _ _ hy (isP_tick c H d t s hc)
  obtain ⟨⟨da, dc, ed, _⟩, ⟨ta, tc, et, _⟩, ⟨sa, sc, es, _⟩, _, _, _⟩ := hc
  obtain ⟨xa, xc, ex, _⟩ := hx
  obtain ⟨ya, yc, ey, _⟩ := hy
  simp only [cellF, tickF, chV, ed, et, es, ex, ey] at hv a1 a2
  by_cases hok : ChOk c
  rotate_left
  · simp [sf_chart_open, chV, ed, et, es, ex, ey, hv, hok, openE, noCh, pf_pure, pureF]
  cases b1 : xs.all (inN c.depth.length)
  · simp [sf_chart_open, chV, ed, et, es, ex, ey, hv, hok, a1, b1, openE, noCh, pf_pure, pureF]
  cases b2 : ys.all (inN c.tide.length)
  · simp [sf_chart_open, chV, ed, et, es, ex, ey, hv, hok, a1, b1, a2, b2, openE, noCh, pf_pure, pureF]
  · simp [sf_chart_open, chV, ed, et, es, ex, ey, hv, hok, a1, b1, a2, b2, openE, noCh, pf_pure, pureF]

open Classical in
theorem run_chartCheck (c : Ch) (lim : Nat) (H : AH) (d t s : Value) (hc : ChIn H c d t s) : apL Tryd.prog pf (.func (.func 19) #[] #[]) [chV c d t s] lim H = some (.int .i64 (if ChOk c then 0 else 10), H) := by
  rw [apL_func _ _ _ _ _ _ (by rfl), sf_chart_Check_eq]
  have hv := fun lim => run_valid c lim H d t s hc
  obtain ⟨⟨da, dc, ed, _⟩, ⟨ta, tc, et, _⟩, ⟨sa, sc, es, _⟩, _, _, _⟩ := hc
  simp only [chV, ed, et, es] at hv
  by_cases hok : ChOk c <;> simp [sf_chart_Check, chV, ed, et, es, hv, hok, pf_pure, pureF]

theorem run_isDraught (x : Int) (lim : Nat) (H : AH) : apL Tryd.prog pf (.func (.func 85) #[] #[]) [.int .i64 x] lim H = some (.bool (decide (1 ≤ x) && decide (x ≤ 100)), H) := by
  rw [apL_func _ _ _ _ _ _ (by rfl), sf_chart_isDraught_eq]
  have hb := ext_between H 1 100 x
  have hr := run_between
  simp only [betweenV] at hb hr
  simp [sf_chart_isDraught, hb, hr, pf_pure, pureF]

/-- A boat on a chart. -/
def boV (c : Ch) (d t s : Value) (g : Int) : Value := .agg #[.int .i64 c.w, .int .i64 c.h, d, t, s, .int .i64 g]
def noBo : Value := .agg #[.int .i64 0, .int .i64 0, .slice none 0 0, .slice none 0 0, .slice none 0 0, .int .i64 0]

noncomputable def embE (c : Ch) (g : Int) (cells ticks : List Int) : Int := if openE c cells ticks = 0 then (if 1 ≤ g ∧ g ≤ 100 then 0 else 1) else openE c cells ticks

theorem run_embark (c : Ch) (lim : Nat) (H : AH) (d t s : Value) (hc : ChIn H c d t s) (g : Int) (xs ys : List Int) (x y : Value) (hx : Sl H x xs.length (ints xs)) (hy : Sl H y ys.length (ints ys)) (hxl : xs.length < 2 ^ 62) (hyl : ys.length < 2 ^ 62) :
    apL Tryd.prog pf (.func (.func 60) #[] #[]) [chV c d t s, .int .i64 g, x, y] lim H = some (.tuple #[if embE c g xs ys = 0 then boV c d t s g else noBo, .int .i64 (embE c g xs ys)], H) := by
  rw [apL_func _ _ _ _ _ _ (by rfl), sf_chart_embark_eq]
  have ho := fun lim => run_open c lim H d t s hc xs ys x y hx hy hxl hyl
  have hd := run_isDraught g
  obtain ⟨⟨da, dc, ed, _⟩, ⟨ta, tc, et, _⟩, ⟨sa, sc, es, _⟩, _, _, _⟩ := hc
  obtain ⟨xa, xc, ex, _⟩ := hx
  obtain ⟨ya, yc, ey, _⟩ := hy
  simp only [chV, ed, et, es, ex, ey] at ho
  by_cases h0 : openE c xs ys = 0
  rotate_left
  · have h1 : (openE c xs ys != 0) = true := by simpa using h0
    simp only [h0, if_false] at ho
    simp [sf_chart_embark, chV, ed, et, es, ex, ey, ho, h0, h1, embE, noBo, noCh, pf_pure, pureF]
  simp only [h0, if_true] at ho
  by_cases hg : 1 ≤ g ∧ g ≤ 100
  · simp [sf_chart_embark, chV, ed, et, es, ex, ey, ho, h0, hd, hg, embE, boV, pf_pure, pureF]
  · have hb : (decide (1 ≤ g) && decide (g ≤ 100)) = false := by simpa using hg
    simp [sf_chart_embark, chV, ed, et, es, ex, ey, ho, h0, hd, hg, hb, embE, noBo, pf_pure, pureF]
end Go.Proofs.YtjejcbiilimjkaaDoor
