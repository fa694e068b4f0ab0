/- Contracts of the functions, in the abstract machine: the reference's windows. -/
import Derived.Test.YtjejcbiilimjkaaDoorFunR
set_option linter.all false
namespace Go.Proofs.YtjejcbiilimjkaaDoor
open Go Go.RowKit

theorem run_IsRamp (c : Ch) (hok : ChOk c) (r : Rp) (lim : Nat) (H : AH) (d t s : Value) (hc : ChIn H c d t s) : apL Tryd.prog pf (.func (.func 46) #[] #[]) [chV c d t s, rpV r] lim H = some (.bool (rampB c r), H) := by
  rw [apL_func _ _ _ _ _ _ (by rfl), sf_cobleref01_IsRamp_eq]
  have hI := fun lim => run_IsCellOk c hok r.cell lim H d t s hc
  have hD := fun lim => run_IsDraught r.g lim H
  obtain ⟨⟨da, dc, ed, _⟩, ⟨ta, tc, et, _⟩, ⟨sa, sc, es, _⟩, _, _, _⟩ := hc
  simp only [chV, ed, et, es] at hI
  cases h1 : inN c.cells r.cell
  · simp [sf_cobleref01_IsRamp, chV, rpV, ed, et, es, hI, h1, rampB, pf_pure, pureF]
  cases h2 : (decide (1 ≤ r.g) && decide (r.g ≤ 100))
  · simp only [h2] at hD
    simp [-Bool.and_eq_false_imp, sf_cobleref01_IsRamp, chV, rpV, ed, et, es, hI, h1, hD, h2, rampB, pf_pure, pureF]
  simp only [h2] at hD
  cases h3 : (decide (0 ≤ r.least) && decide (r.least ≤ r.most))
  · simp [sf_cobleref01_IsRamp, chV, rpV, ed, et, es, hI, h1, hD, h2, h3, rampB, spanIn, pf_pure, pureF]
  by_cases h4 : r.most ≤ 200
  rotate_left
  · simp [sf_cobleref01_IsRamp, chV, rpV, ed, et, es, hI, h1, hD, h2, h3, h4, rampB, spanIn, pf_pure, pureF]
  · simp [sf_cobleref01_IsRamp, chV, rpV, ed, et, es, hI, h1, hD, h2, h3, h4, rampB, spanIn, pf_pure, pureF]

/-- Whether a boat can be launched with a height of the tide. -/
def Ch.launch (c : Ch) (r : Rp) (k : Nat) (h : Int) : Bool := (decide (r.least ≤ h) && decide (h ≤ r.most)) && decide (c.sw k ≤ r.surf) && decide (r.g ≤ c.over r.cell.toNat k h)

theorem run_Launches (c : Ch) (hok : ChOk c) (r : Rp) (hr : rampB c r = true) (lim : Nat) (H : AH) (d t s : Value) (hc : ChIn H c d t s) {k : Nat} (hk : k < c.ticks) (h : Int) (h0 : -1000000 ≤ h) (h1 : h ≤ 1000000) :
    apL Tryd.prog pf (.func (.func 49) #[] #[]) [chV c d t s, rpV r, .int .i64 k, .int .i64 h] lim H = some (.bool (c.launch r k h), H) := by
  rw [apL_func _ _ _ _ _ _ (by rfl), sf_cobleref01_Launches_eq]
  obtain ⟨⟨i, hi, ei⟩, _⟩ := rampB_iff.1 hr
  have hO := fun lim => run_Over c hok lim H d t s hc hi hk h h0 h1
  have hsl : k < c.swell.length := by rw [hok.2.2.2.2.1]; exact hk
  obtain ⟨bs, os, ks, es, s1⟩ := hc.sw hsl
  obtain ⟨⟨da, dc, ed, _⟩, ⟨ta, tc, et, _⟩, _, _, _, _⟩ := hc
  simp only [chV, ed, et, es] at hO
  simp only [hcell] at s1
  have et' : r.cell.toNat = i := by omega
  cases a1 : (decide (r.least ≤ h) && decide (h ≤ r.most))
  · simp [-Bool.and_eq_false_imp, sf_cobleref01_Launches, chV, rpV, ed, et, es, ei, a1, Ch.launch, pf_pure, pureF]
  by_cases a2 : c.sw k ≤ r.surf
  · simp [sf_cobleref01_Launches, chV, rpV, ed, et, es, ei, a1, a2, hsl, s1, hO, Ch.launch, pf_pure, pureF]
  · simp [sf_cobleref01_Launches, chV, rpV, ed, et, es, ei, a1, a2, hsl, s1, Ch.launch, pf_pure, pureF]

/-- The heights of a tick, the first n of them. -/
def Ch.allL (c : Ch) (r : Rp) (k n : Nat) : Bool := (List.range n).all fun j => c.launch r k (c.lo k + j)
def Ch.anyL (c : Ch) (r : Rp) (k n : Nat) : Bool := (List.range n).any fun j => c.launch r k (c.lo k + j)
def Ch.hs (c : Ch) (k : Nat) : Nat := (c.hi k - c.lo k + 1).toNat

theorem allL_succ (c : Ch) (r : Rp) (k n : Nat) : c.allL r k (n + 1) = (c.allL r k n && c.launch r k (c.lo k + n)) := by unfold Ch.allL; rw [List.range_succ, List.all_append]; simp
theorem anyL_succ (c : Ch) (r : Rp) (k n : Nat) : c.anyL r k (n + 1) = (c.anyL r k n || c.launch r k (c.lo k + n)) := by unfold Ch.anyL; rw [List.range_succ, List.any_append]; simp

theorem sure_eq (c : Ch) (hok : ChOk c) (r : Rp) (hr : rampB c r = true) {k : Nat} (hk : k < c.ticks) : c.allL r k (c.hs k) = c.sureL r k := by
  obtain ⟨⟨i, hi, ei⟩, _⟩ := rampB_iff.1 hr
  obtain ⟨_, ⟨b3, b4, b5⟩, _⟩ := hok.bounds hi hk
  have et' : r.cell.toNat = i := by omega
  rw [Bool.eq_iff_iff]
  simp only [Ch.allL, Ch.sureL, Ch.launch, Ch.hLo, Ch.over, Ch.hs, List.all_eq_true, List.mem_range, Bool.and_eq_true, decide_eq_true_eq, et']
  constructor
  · intro h
    have h1 := h 0 (by omega)
    have h2 := h (c.hi k - c.lo k).toNat (by omega)
    omega
  · intro h j hj
    omega

theorem may_eq (c : Ch) (hok : ChOk c) (r : Rp) (hr : rampB c r = true) {k : Nat} (hk : k < c.ticks) : c.anyL r k (c.hs k) = c.mayL r k := by
  obtain ⟨⟨i, hi, ei⟩, _, ⟨l0, l1, l2⟩, _⟩ := rampB_iff.1 hr
  obtain ⟨_, ⟨b3, b4, b5⟩, _⟩ := hok.bounds hi hk
  have et' : r.cell.toNat = i := by omega
  rw [Bool.eq_iff_iff]
  simp only [Ch.anyL, Ch.mayL, Ch.launch, Ch.hLo, Ch.over, Ch.hs, List.any_eq_true, List.mem_range, Bool.and_eq_true, decide_eq_true_eq, et']
  constructor
  · rintro ⟨j, hj, h⟩; omega
  · rintro ⟨h1, h2⟩
    exact ⟨(max (max r.least (r.g + c.sw k - c.dep i)) (c.lo k) - c.lo k).toNat, by omega, by omega⟩

def winIn : SC := sf_cobleref01_Windows.body.loops.getD 1 .skip

theorem win_in (c : Ch) (hok : ChOk c) (r : Rp) (hr : rampB c r = true) (A : AH) (d t s : Value) (hc : ChIn A c d t s) {k : Nat} (hk : k < c.ticks) (S : St) (h2 : tget S.t 2 = .pointer (some ⟨2, 0, some 0⟩)) (h3 : tget S.t 3 = .pointer (some ⟨3, 0, some 0⟩)) (h7 : tget S.t 7 = .int .i64 k) (h8 : tget S.t 8 = .bool true) (h9 : tget S.t 9 = .bool false) (h10 : tget S.t 10 = .int .i64 (c.lo k))
    (hL : S.L = [(3, 0, .cells [.int .i64 r.cell, .int .i64 r.g, .int .i64 r.least, .int .i64 r.most, .int .i64 r.surf]), (2, 0, .cells [.int .i64 c.w, .int .i64 c.h, d, t, s])]) (hH : S.H = A) :
    ∃ q, exL Tryd.prog pf (.loop winIn) S = some q ∧ q.1 = .exit 2 ∧ tget q.2.t 8 = .bool (c.allL r k (c.hs k)) ∧ tget q.2.t 9 = .bool (c.anyL r k (c.hs k)) ∧ tget q.2.t 2 = tget S.t 2 ∧ tget q.2.t 3 = tget S.t 3 ∧ tget q.2.t 4 = tget S.t 4 ∧ tget q.2.t 5 = tget S.t 5 ∧ tget q.2.t 7 = tget S.t 7 ∧ q.2.L = S.L ∧ q.2.H = A ∧ q.2.lim = S.lim := by
  obtain ⟨⟨i0, hi0, ei0⟩, _⟩ := rampB_iff.1 hr
  obtain ⟨_, ⟨b3, b4, b5⟩, _⟩ := hok.bounds hi0 hk
  have hN : (c.hs k : Int) = c.hi k - c.lo k + 1 := by unfold Ch.hs; omega
  have hLa := fun h lim h0 h1 => run_Launches c hok r hr lim A d t s hc hk h h0 h1
  obtain ⟨bt, ot, kt, et, t1, t2⟩ := hc.td hk
  obtain ⟨⟨da, dc, ed, _⟩, _, ⟨sa, sc, es, _⟩, _, _, _⟩ := hc
  have hk' : k < c.tide.length := hk
  simp only [chV, rpV, ed, et, es] at hLa hL
  simp only [hcell] at t1 t2
  refine loop_rule (I := fun n s' => ∃ i, i ≤ c.hs k ∧ n = c.hs k - i ∧ tget s'.t 2 = .pointer (some ⟨2, 0, some 0⟩) ∧ tget s'.t 3 = .pointer (some ⟨3, 0, some 0⟩) ∧ tget s'.t 4 = tget S.t 4 ∧ tget s'.t 5 = tget S.t 5 ∧ tget s'.t 7 = .int .i64 k ∧ tget s'.t 8 = .bool (c.allL r k i) ∧ tget s'.t 9 = .bool (c.anyL r k i) ∧ tget s'.t 10 = .int .i64 (c.lo k + i) ∧ s'.L = S.L ∧ s'.H = A ∧ s'.lim = S.lim) ?_ (c.hs k) S
    ⟨0, by omega, by omega, h2, h3, rfl, rfl, h7, h8, h9, by rw [h10]; simp, rfl, hH, rfl⟩
  rintro n s' ⟨i, hi, rfl, e2, e3, e4, e5, e7, e8, e9, e10, eL, eH, el⟩
  rw [hL] at eL
  by_cases hlt : i < c.hs k
  rotate_left
  · have : i = c.hs k := by omega
    subst this
    have hb : ¬ (c.lo k + (c.hs k : Int) ≤ c.hi k) := by omega
    simp [winIn, SC.loops, sf_cobleref01_Windows, e2, e3, e4, e5, e7, e8, e9, e10, eL, eH, el, hk', t2, hb, h2, h3, h7, hL]
  · have hb : c.lo k + (i : Int) ≤ c.hi k := by omega
    have hw : IntKind.i64.wrap (c.lo k + (i : Int) + 1) = c.lo k + ((i + 1 : Nat) : Int) := by rw [wrap_i64 (by omega) (by omega)]; omega
    have hl := fun lim => hLa (c.lo k + i) lim (by omega) (by omega)
    have s1 := allL_succ c r k i
    have s2 := anyL_succ c r k i
    cases x1 : c.allL r k i <;> cases x2 : c.anyL r k i <;> cases x3 : c.launch r k (c.lo k + i) <;> rw [x1, x3] at s1 <;> rw [x2, x3] at s2 <;>
    · simp [-Int.natCast_add, winIn, SC.loops, sf_cobleref01_Windows, e2, e3, e4, e5, e7, e8, e9, e10, eL, eH, el, hk', t2, hb, hl, x1, x2, x3, hw, h2, h3, h7, hL]
      exact ⟨_, by omega, i + 1, by omega, rfl, by rw [s1]; rfl, by rw [s2]; rfl, rfl⟩
end Go.Proofs.YtjejcbiilimjkaaDoor
