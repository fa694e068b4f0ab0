/- Contracts of the functions, in the abstract machine: ramps. -/
import Derived.Test.YtjejcbiilimjkaaDoorFunM
set_option linter.all false
namespace Go.Proofs.YtjejcbiilimjkaaDoor
open Go Go.RowKit

theorem apL_bound {f : FuncId} {a : Value} {args : List Value} {lim : Nat} {H : AH} (h1 : orcA pf f #[a] #[] args = none) (h2 : orcA pf f #[] #[] (a :: args) = none) : apL Tryd.prog pf (.func (.func f) #[a] #[]) args lim H = apL Tryd.prog pf (.func (.func f) #[] #[]) (a :: args) lim H := by
  rw [apL_func _ _ _ _ _ _ h1, apL_func _ _ _ _ _ _ h2]
  rfl

theorem maxIf (x y : Int) : (if x < y then y else x) = max x y := by rw [Int.max_def]; split <;> split <;> omega
theorem minIf (x y : Int) : (if y < x then y else x) = min x y := by rw [Int.min_def]; split <;> split <;> omega

structure Rp where
  cell : Int
  g : Int
  least : Int
  most : Int
  surf : Int

def rpV (r : Rp) : Value := .agg #[.int .i64 r.cell, .int .i64 r.g, .int .i64 r.least, .int .i64 r.most, .int .i64 r.surf]

def rampB (c : Ch) (r : Rp) : Bool := inN c.cells r.cell && (decide (1 ≤ r.g) && decide (r.g ≤ 100)) && spanIn 0 200 (r.least, r.most) && (decide (0 ≤ r.surf) && decide (r.surf ≤ 100))

theorem run_isCell (c : Ch) (x : Int) (lim : Nat) (H : AH) (d t s : Value) (hc : ChIn H c d t s) : apL Tryd.prog pf (.func (.func 78) #[] #[]) [chV c d t s, .int .i64 x] lim H = some (.bool (inN c.cells x), H) := by
  rw [← apL_bound (by rfl) (by rfl)]
  exact (isP_cell c H d t s hc).2 H (Ext.refl H) x lim

theorem run_hasRamp (c : Ch) (r : Rp) (lim : Nat) (H : AH) (d t s : Value) (hc : ChIn H c d t s) : apL Tryd.prog pf (.func (.func 71) #[] #[]) [chV c d t s, rpV r] lim H = some (.bool (rampB c r), H) := by
  rw [apL_func _ _ _ _ _ _ (by rfl), sf_chart_sea_hasRamp_eq]
  let X : AH := H ++ [.rw 0 [.int .i64 0], .rw 0 [.int .i64 200], .rw 0 [.int .i64 0], .rw 0 [.int .i64 100]]
  have hX : X = H ++ [.rw 0 [.int .i64 0], .rw 0 [.int .i64 200], .rw 0 [.int .i64 0], .rw 0 [.int .i64 100]] := rfl
  have hI := fun lim => run_isCell c r.cell lim X d t s (hc.ext (Ext.push H _))
  have hD := fun lim => run_isDraught r.g lim X
  have q := fun lim => (isQ_within 0 200 X H.length (by simp [hX]) (by simp [hX])).2 X (Ext.refl X) (r.least, r.most) lim
  have p := fun lim => (isP_between 0 100 X (H.length + 2) (by simp [hX]) (by show X[H.length + 3]? = _; rw [hX, List.getElem?_append_right (by omega), Nat.add_sub_cancel_left]; rfl)).2 X (Ext.refl X) r.surf lim
  have hw := fun l h lim H => run_within l h lim H
  have hb := fun l h lim H => run_between l h lim H
  obtain ⟨⟨da, dc, ed, _⟩, ⟨ta, tc, et, _⟩, ⟨sa, sc, es, _⟩, _, _, _⟩ := hc
  simp only [withinV, betweenV, spV, hX, chV, ed, et, es] at hI hD q p hw hb
  cases h1 : inN c.cells r.cell
  · simp [sf_chart_sea_hasRamp, chV, rpV, ed, et, es, hw, hb, hI, h1, rampB, pf_pure, pureF]
  by_cases h2 : 1 ≤ r.g ∧ r.g ≤ 100
  rotate_left
  · have h2b : (decide (1 ≤ r.g) && decide (r.g ≤ 100)) = false := by simpa using h2
    simp [sf_chart_sea_hasRamp, chV, rpV, ed, et, es, hw, hb, hI, h1, hD, h2b, rampB, pf_pure, pureF]
  have h2b : (decide (1 ≤ r.g) && decide (r.g ≤ 100)) = true := by simpa using h2
  cases h3 : spanIn 0 200 (r.least, r.most)
  · simp [sf_chart_sea_hasRamp, chV, rpV, ed, et, es, hw, hb, hI, h1, hD, h2b, q, h3, rampB, pf_pure, pureF]
  · simp [sf_chart_sea_hasRamp, chV, rpV, ed, et, es, hw, hb, hI, h1, hD, h2b, q, h3, p, rampB, pf_pure, pureF]

def slV (c : Ch) (d t s : Value) (r : Rp) : Value := .agg #[.int .i64 c.w, .int .i64 c.h, d, t, s, .int .i64 r.g, .int .i64 r.cell, .int .i64 r.g, .int .i64 r.least, .int .i64 r.most, .int .i64 r.surf]

/-- The least height of the tide with which a boat can be launched. -/
def Ch.hLo (c : Ch) (r : Rp) (k : Nat) : Int := max r.least (r.g + c.sw k - c.dep r.cell.toNat)

theorem rampB_iff {c : Ch} {r : Rp} : rampB c r = true ↔ (∃ i : Nat, i < c.cells ∧ r.cell = i) ∧ (1 ≤ r.g ∧ r.g ≤ 100) ∧ (0 ≤ r.least ∧ r.least ≤ r.most ∧ r.most ≤ 200) ∧ (0 ≤ r.surf ∧ r.surf ≤ 100) := by
  simp only [rampB, spanIn, Bool.and_eq_true, inN_iff, decide_eq_true_eq]
  constructor
  · rintro ⟨⟨⟨h1, h2⟩, ⟨h3, h4⟩, h5⟩, h6⟩; exact ⟨h1, h2, ⟨h3, h4, h5⟩, h6⟩
  · rintro ⟨h1, h2, ⟨h3, h4, h5⟩, h6⟩; exact ⟨⟨⟨h1, h2⟩, ⟨h3, h4⟩, h5⟩, h6⟩

theorem run_heights (c : Ch) (hok : ChOk c) (r : Rp) (hr : rampB c r = true) (lim : Nat) (H : AH) (d t s : Value) (hc : ChIn H c d t s) {k : Nat} (hk : k < c.ticks) : apL Tryd.prog pf (.func (.func 91) #[] #[]) [slV c d t s r, .int .i64 k] lim H = some (.agg #[.int .i64 (c.hLo r k), .int .i64 r.most], H) := by
  rw [apL_func _ _ _ _ _ _ (by rfl), sf_chart_slip_heights_eq]
  obtain ⟨⟨i, hi, ei⟩, ⟨g0, g1⟩, ⟨l0, l1, l2⟩, u0, u1⟩ := rampB_iff.1 hr
  obtain ⟨⟨b1, b2⟩, ⟨b3, b4, b5⟩, b6, b7⟩ := hok.bounds hi hk
  have hsl : k < c.swell.length := by rw [hok.2.2.2.2.1]; exact hk
  obtain ⟨bd, od, kd, rfl, d1⟩ := hc.dep hi
  obtain ⟨bs, os, ks, rfl, s1⟩ := hc.sw hsl
  obtain ⟨ta, tc, et, _⟩ := hc.t
  have hi' : i < c.depth.length := hi
  have w1 : IntKind.i64.wrap (r.g + c.sw k) = r.g + c.sw k := wrap_i64 (by omega) (by omega)
  have w2 : IntKind.i64.wrap (r.g + c.sw k - c.dep i) = r.g + c.sw k - c.dep i := wrap_i64 (by omega) (by omega)
  simp only [hcell] at d1 s1
  simp [sf_chart_slip_heights, slV, ei, et, hi', hsl, d1, s1, w1, w2, maxIf, Ch.hLo, pf_pure, pureF]

/-- Whether a boat surely can be launched; whether it may. -/
def Ch.sureL (c : Ch) (r : Rp) (k : Nat) : Bool := decide (c.sw k ≤ r.surf) && (decide (c.hLo r k ≤ c.lo k) && decide (c.hi k ≤ r.most))
def Ch.mayL (c : Ch) (r : Rp) (k : Nat) : Bool := decide (c.sw k ≤ r.surf) && decide (max (c.hLo r k) (c.lo k) ≤ min r.most (c.hi k))

theorem run_surelyL (c : Ch) (hok : ChOk c) (r : Rp) (hr : rampB c r = true) (lim : Nat) (H : AH) (d t s : Value) (hc : ChIn H c d t s) {k : Nat} (hk : k < c.ticks) : apL Tryd.prog pf (.func (.func 73) #[] #[]) [slV c d t s r, .int .i64 k] lim H = some (.bool (c.sureL r k), H) := by
  rw [apL_func _ _ _ _ _ _ (by rfl), sf_chart_slip_surelyLaunches_eq]
  have hh := fun lim => run_heights c hok r hr lim H d t s hc hk
  have hsl : k < c.swell.length := by rw [hok.2.2.2.2.1]; exact hk
  obtain ⟨bs, os, ks, es, s1⟩ := hc.sw hsl
  obtain ⟨bt, ot, kt, et, t1, t2⟩ := hc.td hk
  obtain ⟨da, dc, ed, _⟩ := hc.d
  have hk' : k < c.tide.length := hk
  simp only [slV, ed, et, es] at hh
  simp only [hcell] at s1 t1 t2
  by_cases h1 : c.sw k ≤ r.surf
  · by_cases h2 : c.hLo r k ≤ c.lo k
    · simp [-Array.all_toList, sf_chart_slip_surelyLaunches, slV, ed, et, es, hh, hk', hsl, s1, t1, t2, h1, h2, Ch.sureL, pf_pure, pureF]
    · simp [-Array.all_toList, sf_chart_slip_surelyLaunches, slV, ed, et, es, hh, hk', hsl, s1, t1, t2, h1, h2, Ch.sureL, pf_pure, pureF]
  · simp [-Array.all_toList, sf_chart_slip_surelyLaunches, slV, ed, et, es, hh, hk', hsl, s1, t1, t2, h1, Ch.sureL, pf_pure, pureF]

theorem run_mayL (c : Ch) (hok : ChOk c) (r : Rp) (hr : rampB c r = true) (lim : Nat) (H : AH) (d t s : Value) (hc : ChIn H c d t s) {k : Nat} (hk : k < c.ticks) : apL Tryd.prog pf (.func (.func 74) #[] #[]) [slV c d t s r, .int .i64 k] lim H = some (.bool (c.mayL r k), H) := by
  rw [apL_func _ _ _ _ _ _ (by rfl), sf_chart_slip_mayLaunch_eq]
  have hh := fun lim => run_heights c hok r hr lim H d t s hc hk
  have hsl : k < c.swell.length := by rw [hok.2.2.2.2.1]; exact hk
  obtain ⟨bs, os, ks, es, s1⟩ := hc.sw hsl
  obtain ⟨bt, ot, kt, et, t1, t2⟩ := hc.td hk
  obtain ⟨da, dc, ed, _⟩ := hc.d
  have hk' : k < c.tide.length := hk
  simp only [slV, ed, et, es] at hh
  simp only [hcell] at s1 t1 t2
  by_cases h1 : c.sw k ≤ r.surf
  · simp [-Array.all_toList, sf_chart_slip_mayLaunch, slV, ed, et, es, hh, hk', hsl, s1, t1, t2, h1, maxIf, minIf, Ch.mayL, pf_pure, pureF]
  · simp [-Array.all_toList, sf_chart_slip_mayLaunch, slV, ed, et, es, hh, hk', hsl, s1, t1, t2, h1, Ch.mayL, pf_pure, pureF]
end Go.Proofs.YtjejcbiilimjkaaDoor
