/- Contracts of the functions, in the abstract machine: the law ChartLaunched. -/
import Derived.Test.YtjejcbiilimjkaaDoorFunV
set_option linter.all false
namespace Go.Proofs.YtjejcbiilimjkaaDoor
open Go Go.RowKit

theorem lenTicks (c : Ch) : (c.tide.length : Int) = (c.ticks : Int) := rfl

theorem sure_may (c : Ch) (hok : ChOk c) (r : Rp) (hr : rampB c r = true) {k : Nat} (hk : k < c.ticks) (h : c.sureL r k = true) : c.mayL r k = true := by
  obtain ⟨⟨i, hi, ei⟩, _⟩ := rampB_iff.1 hr
  obtain ⟨_, ⟨b3, b4, b5⟩, _⟩ := hok.bounds hi hk
  simp only [Ch.sureL, Ch.mayL, Bool.and_eq_true, decide_eq_true_eq] at h ⊢
  omega

theorem launch_may (c : Ch) (r : Rp) {k : Nat} {h : Int} (h0 : c.lo k ≤ h) (h1 : h ≤ c.hi k) (hl : c.launch r k h = true) : c.mayL r k = true := by
  simp only [Ch.launch, Ch.mayL, Bool.and_eq_true, decide_eq_true_eq] at hl ⊢
  simp only [Ch.hLo, Ch.over] at hl ⊢
  generalize c.dep r.cell.toNat = D at *
  omega

theorem sure_launch (c : Ch) (r : Rp) {k : Nat} {h : Int} (h0 : c.lo k ≤ h) (h1 : h ≤ c.hi k) (hl : c.sureL r k = true) : c.launch r k h = true := by
  simp only [Ch.launch, Ch.sureL, Bool.and_eq_true, decide_eq_true_eq] at hl ⊢
  simp only [Ch.hLo, Ch.over] at hl ⊢
  generalize c.dep r.cell.toNat = D at *
  omega

/-- A ramp that allows more. -/
def Wider (r w : Rp) : Prop := w.cell = r.cell ∧ w.g = r.g ∧ w.least ≤ r.least ∧ r.most ≤ w.most ∧ r.surf ≤ w.surf

theorem wider_sure (c : Ch) {r w : Rp} (hw : Wider r w) {k : Nat} (h : c.sureL r k = true) : c.sureL w k = true := by
  obtain ⟨e1, e2, h3, h4, h5⟩ := hw
  simp only [Ch.sureL, Bool.and_eq_true, decide_eq_true_eq] at h ⊢
  simp only [Ch.hLo, e1, e2] at h ⊢
  generalize c.dep r.cell.toNat = D at *
  omega
theorem wider_may (c : Ch) {r w : Rp} (hw : Wider r w) {k : Nat} (h : c.mayL r k = true) : c.mayL w k = true := by
  obtain ⟨e1, e2, h3, h4, h5⟩ := hw
  simp only [Ch.mayL, Bool.and_eq_true, decide_eq_true_eq] at h ⊢
  simp only [Ch.hLo, e1, e2] at h ⊢
  generalize c.dep r.cell.toNat = D at *
  omega

theorem wi_spans (p : Nat → Bool) (n k : Nat) (hk : k < n) : wiB (spansTo p n) k = p k := by
  rw [Bool.eq_iff_iff, (spansTo_ok p n).2]
  constructor
  · rintro ⟨j, _, e, h⟩; obtain rfl : k = j := by omega
    exact h
  · intro h; exact ⟨k, hk, rfl, h⟩

theorem run_wi' (p : Nat → Bool) (n : Nat) (hn : n ≤ 1000) (H : AH) (v : Value) (hv : Sl H v (spansTo p n).length (spans (spansTo p n))) {k : Nat} (hk : k < n) (lim : Nat) :
    apL Tryd.prog pf (.func (.func 48) #[] #[]) [v, .int .i64 k] lim H = some (.bool (p k), H) := by
  rw [run_wi _ (spansTo_short p n hn) H lim v hv, wi_spans p n k hk]

def lauLoop1 : SC := sf_coblelaw01_ChartLaunched.body.loops.headD .skip
def lauLoop2 : SC := sf_coblelaw01_ChartLaunched.body.loops.getD 1 .skip

/-- What the loops of the law need to know: its boxed variables. -/
def lauL (c : Ch) (r w : Rp) (t1 t2 : Int) (d t s : Value) : LS :=
  [(7, 0, .cells [.int .i64 t1, .int .i64 t2]), (6, 0, .cells [.int .i64 w.cell, .int .i64 w.g, .int .i64 w.least, .int .i64 w.most, .int .i64 w.surf]), (5, 0, .cells [.int .i64 r.cell, .int .i64 r.g, .int .i64 r.least, .int .i64 r.most, .int .i64 r.surf]), (4, 0, .cells [.int .i64 c.w, .int .i64 c.h, d, t, s])]

theorem lau_loop1 (c : Ch) (hok : ChOk c) (r w : Rp) (hr : rampB c r = true) (A : AH) (u1 u2 : Int) (d t s : Value) (ht : Sl A t c.tide.length (spans c.tide)) (v1 v2 : Value) (o1 : Sl A v1 (spansTo (c.sureL r) c.ticks).length (spans (spansTo (c.sureL r) c.ticks))) (o2 : Sl A v2 (spansTo (c.mayL r) c.ticks).length (spans (spansTo (c.mayL r) c.ticks))) (S : St)
    (h4 : tget S.t 4 = .pointer (some ⟨4, 0, some 0⟩)) (h9 : tget S.t 9 = v1) (h10 : tget S.t 10 = v2) (h12 : tget S.t 12 = .int .i64 0) (hL : S.L = lauL c r w u1 u2 d t s) (hH : S.H = A) :
    ∃ q, exL Tryd.prog pf (.loop lauLoop1) S = some q ∧ q.1 = .exit 0 ∧ q.2.H = A ∧ q.2.L = S.L ∧ q.2.lim = S.lim ∧ tget q.2.t 4 = tget S.t 4 ∧ tget q.2.t 5 = tget S.t 5 ∧ tget q.2.t 6 = tget S.t 6 ∧ tget q.2.t 7 = tget S.t 7 ∧ tget q.2.t 9 = tget S.t 9 ∧ tget q.2.t 10 = tget S.t 10 := by
  have hT : c.ticks ≤ 60 := hok.2.2.2.1.2
  refine loop_rule (I := fun n s' => ∃ i, i ≤ c.ticks ∧ n = c.ticks - i ∧ tget s'.t 4 = .pointer (some ⟨4, 0, some 0⟩) ∧ tget s'.t 9 = v1 ∧ tget s'.t 10 = v2 ∧ tget s'.t 12 = .int .i64 i ∧ s'.L = S.L ∧ s'.H = A ∧ s'.lim = S.lim ∧ tget s'.t 5 = tget S.t 5 ∧ tget s'.t 6 = tget S.t 6 ∧ tget s'.t 7 = tget S.t 7) ?_ c.ticks S
    ⟨0, by omega, by omega, h4, h9, h10, h12, rfl, hH, rfl, rfl, rfl, rfl⟩
  rintro n s' ⟨i, hi, rfl, e4, e9, e10, e12, eL, eH, el, e5, e6, e7⟩
  obtain ⟨ta, tc, et, _⟩ := ht
  rw [hL, et] at eL
  rw [et] at hL
  have n1 : nl v1 = true := by obtain ⟨_, _, rfl, _⟩ := o1; simp
  have n2 : nl v2 = true := by obtain ⟨_, _, rfl, _⟩ := o2; simp
  by_cases hlt : i < c.ticks
  rotate_left
  · have : i = c.ticks := by omega
    subst this
    simp [lauLoop1, SC.loops, sf_coblelaw01_ChartLaunched, lauL, e4, e5, e6, e7, e9, e10, e12, eL, eH, el, hL, h4, h9, h10, lenTicks]
  have hw : IntKind.i64.wrap ((i : Int) + 1) = (i : Int) + 1 := wrap_i64 (by omega) (by omega)
  have w1 := fun lim => run_wi' (c.sureL r) c.ticks (by omega) A v1 o1 hlt lim
  have w2 := fun lim => run_wi' (c.mayL r) c.ticks (by omega) A v2 o2 hlt lim
  have hsm := sure_may c hok r hr hlt
  have hlt' : i < c.tide.length := hlt
  cases x1 : c.sureL r i
  · simp [lauLoop1, SC.loops, sf_coblelaw01_ChartLaunched, lauL, e4, e5, e6, e7, e9, e10, e12, eL, eH, el, hL, h4, h9, h10, hlt', hw, n1, n2, w1, x1]
    exact ⟨_, by omega, i + 1, by omega, rfl, by omega⟩
  · have x2 := hsm x1
    simp [lauLoop1, SC.loops, sf_coblelaw01_ChartLaunched, lauL, e4, e5, e6, e7, e9, e10, e12, eL, eH, el, hL, h4, h9, h10, hlt', hw, n1, n2, w1, w2, x1, x2]
    exact ⟨_, by omega, i + 1, by omega, rfl, by omega⟩

theorem lau_loop2 (c : Ch) (hok : ChOk c) (r w : Rp) (hw' : Wider r w) (A : AH) (u1 u2 : Int) (d t s : Value) (ht : Sl A t c.tide.length (spans c.tide)) (v1 v2 v3 v4 : Value) (o1 : Sl A v1 (spansTo (c.sureL r) c.ticks).length (spans (spansTo (c.sureL r) c.ticks))) (o2 : Sl A v2 (spansTo (c.mayL r) c.ticks).length (spans (spansTo (c.mayL r) c.ticks)))
    (o3 : Sl A v3 (spansTo (c.sureL w) c.ticks).length (spans (spansTo (c.sureL w) c.ticks))) (o4 : Sl A v4 (spansTo (c.mayL w) c.ticks).length (spans (spansTo (c.mayL w) c.ticks))) (S : St)
    (h4 : tget S.t 4 = .pointer (some ⟨4, 0, some 0⟩)) (h9 : tget S.t 9 = v1) (h10 : tget S.t 10 = v2) (h16 : tget S.t 16 = v3) (h17 : tget S.t 17 = v4) (h19 : tget S.t 19 = .int .i64 0) (hL : S.L = lauL c r w u1 u2 d t s) (hH : S.H = A) :
    ∃ q, exL Tryd.prog pf (.loop lauLoop2) S = some q ∧ q.1 = .exit 2 ∧ q.2.H = A ∧ tget q.2.t 18 = tget S.t 18 := by
  have hT : c.ticks ≤ 60 := hok.2.2.2.1.2
  refine loop_rule (I := fun n s' => ∃ i, i ≤ c.ticks ∧ n = c.ticks - i ∧ tget s'.t 4 = .pointer (some ⟨4, 0, some 0⟩) ∧ tget s'.t 9 = v1 ∧ tget s'.t 10 = v2 ∧ tget s'.t 16 = v3 ∧ tget s'.t 17 = v4 ∧ tget s'.t 19 = .int .i64 i ∧ s'.L = S.L ∧ s'.H = A ∧ tget s'.t 18 = tget S.t 18) ?_ c.ticks S
    ⟨0, by omega, by omega, h4, h9, h10, h16, h17, h19, rfl, hH, rfl⟩
  rintro n s' ⟨i, hi, rfl, e4, e9, e10, e16, e17, e19, eL, eH, e18⟩
  obtain ⟨ta, tc, et, _⟩ := ht
  rw [hL, et] at eL
  rw [et] at hL
  have n1 : nl v1 = true := by obtain ⟨_, _, rfl, _⟩ := o1; simp
  have n2 : nl v2 = true := by obtain ⟨_, _, rfl, _⟩ := o2; simp
  have n3 : nl v3 = true := by obtain ⟨_, _, rfl, _⟩ := o3; simp
  have n4 : nl v4 = true := by obtain ⟨_, _, rfl, _⟩ := o4; simp
  by_cases hlt : i < c.ticks
  rotate_left
  · have : i = c.ticks := by omega
    subst this
    simp [lauLoop2, SC.loops, sf_coblelaw01_ChartLaunched, lauL, e4, e9, e10, e16, e17, e18, e19, eL, eH, hL, h4, lenTicks]
  have hw : IntKind.i64.wrap ((i : Int) + 1) = (i : Int) + 1 := wrap_i64 (by omega) (by omega)
  have w1 := fun lim => run_wi' (c.sureL r) c.ticks (by omega) A v1 o1 hlt lim
  have w2 := fun lim => run_wi' (c.mayL r) c.ticks (by omega) A v2 o2 hlt lim
  have w3 := fun lim => run_wi' (c.sureL w) c.ticks (by omega) A v3 o3 hlt lim
  have w4 := fun lim => run_wi' (c.mayL w) c.ticks (by omega) A v4 o4 hlt lim
  have m1 := wider_sure c hw' (k := i)
  have m2 := wider_may c hw' (k := i)
  have hlt' : i < c.tide.length := hlt
  cases x1 : c.sureL r i <;> cases x2 : c.mayL r i <;> (try have x3 := m1 x1) <;> (try have x4 := m2 x2) <;>
  · simp [lauLoop2, SC.loops, sf_coblelaw01_ChartLaunched, lauL, e4, e9, e10, e16, e17, e18, e19, eL, eH, hL, h4, hlt', hw, n1, n2, n3, n4, w1, w2, w3, w4, *]
    exact ⟨_, by omega, i + 1, by omega, rfl, by omega⟩
end Go.Proofs.YtjejcbiilimjkaaDoor
