/- Contracts of the functions, in the abstract machine: charts that are valid, by the reference. -/
import Derived.Test.YtjejcbiilimjkaaDoorFunA
set_option linter.all false
namespace Go.Proofs.YtjejcbiilimjkaaDoor
open Go Go.RowKit

def spans (l : List (Int × Int)) : List Value := l.flatMap fun (a, b) => [.int .i64 a, .int .i64 b]

/-- A chart, as it is read. -/
structure Ch where
  w : Int
  h : Int
  depth : List Int
  tide : List (Int × Int)
  swell : List Int

structure ChIn (H : AH) (c : Ch) (d t s : Value) : Prop where
  d : Sl H d c.depth.length (ints c.depth)
  t : Sl H t c.tide.length (spans c.tide)
  s : Sl H s c.swell.length (ints c.swell)
  dl : c.depth.length < 2 ^ 62
  tl : c.tide.length < 2 ^ 62
  sl : c.swell.length < 2 ^ 62

def chV (c : Ch) (d t s : Value) : Value := .agg #[.int .i64 c.w, .int .i64 c.h, d, t, s]

/-- The loop over the depths. -/
def checkLoop1 : SC := match sf_cobleref01_Check.body with | .seq _ (.seq _ (.seq (.seq _ (.block _ (.loop b))) _)) => b | _ => .skip

theorem check_loop1 (c : Ch) (H : AH) (d t s : Value) (hc : ChIn H c d t s) (S : St) (h1 : tget S.t 1 = .pointer (some ⟨1, 0, some 0⟩)) (h3 : tget S.t 3 = .int .i64 0) (hL : S.L = [(1, 0, .cells [.int .i64 c.w, .int .i64 c.h, d, t, s])]) (hH : S.H = H) :
    ∃ r, exL Tryd.prog pf (.loop checkLoop1) S = some r ∧ r.2.L = S.L ∧ r.2.H = H ∧ tget r.2.t 1 = tget S.t 1 ∧ ((r.1 = .exit 0 ∧ ∀ x ∈ c.depth, -1000 ≤ x ∧ x ≤ 1000) ∨ (r.1 = .ret ∧ tget r.2.t 2 = .int .i64 10 ∧ ¬ ∀ x ∈ c.depth, -1000 ≤ x ∧ x ≤ 1000)) := by
  obtain ⟨da, dc, rfl, hd⟩ := hc.d
  have hdl := hc.dl
  refine loop_rule (I := fun n s' => ∃ i, i ≤ c.depth.length ∧ n = c.depth.length - i ∧ tget s'.t 1 = .pointer (some ⟨1, 0, some 0⟩) ∧ tget s'.t 3 = .int .i64 i ∧ s'.L = S.L ∧ s'.H = H ∧ ∀ x ∈ c.depth.take i, -1000 ≤ x ∧ x ≤ 1000) ?_ c.depth.length S ⟨0, by omega, by omega, h1, h3, rfl, hH, by simp⟩
  rintro n s' ⟨i, hi, rfl, e1, e3, eL, eH, et⟩
  rw [hL] at eL
  by_cases hlt : i < c.depth.length
  · obtain ⟨b1, o1, rfl, c1⟩ := hd i (.int .i64 c.depth[i]) (by simp [ints, hlt])
    have hw : IntKind.i64.wrap ((i : Int) + 1) = (i : Int) + 1 := wrap_i64 (by omega) (by omega)
    simp only [hcell] at c1
    by_cases hin : -1000 ≤ c.depth[i] ∧ c.depth[i] ≤ 1000
    · simp [checkLoop1, sf_cobleref01_Check, e1, e3, eL, eH, hlt, c1, hw, hin, hL, h1]
      refine ⟨_, by omega, i + 1, by omega, rfl, by omega, ?_⟩
      intro x hx
      rw [List.take_add_one, List.mem_append] at hx
      rcases hx with hx | hx
      · exact et x hx
      · simp [hlt] at hx
        subst hx
        exact hin
    · have hb : (decide (-1000 ≤ c.depth[i]) && decide (c.depth[i] ≤ 1000)) = false := by simpa using hin
      simp [checkLoop1, sf_cobleref01_Check, e1, e3, eL, eH, hlt, c1, hw, hb, hL, h1]
      exact ⟨c.depth[i], by simp, fun h => by omega⟩
  · have : i = c.depth.length := by omega
    subst this
    simp [checkLoop1, sf_cobleref01_Check, e1, e3, eL, eH, hL, h1]
    simpa using et

/-- The loop over the ticks. -/
def checkLoop2 : SC := match sf_cobleref01_Check.body with | .seq _ (.seq _ (.seq _ (.seq (.seq _ (.block _ (.loop b))) _))) => b | _ => .skip

def tickOk (p : Int × Int) (x : Int) : Prop := 0 ≤ p.1 ∧ p.1 ≤ p.2 ∧ p.2 ≤ 200 ∧ 0 ≤ x ∧ x ≤ 100

theorem spans_get {l : List (Int × Int)} {i : Nat} (h : i < l.length) : (spans l)[i * 2]? = some (.int .i64 l[i].1) ∧ (spans l)[i * 2 + 1]? = some (.int .i64 l[i].2) := by
  induction l generalizing i with
  | nil => simp at h
  | cons p l ih =>
    obtain ⟨a, b⟩ := p
    cases i with
    | zero => simp [spans]
    | succ i =>
      have := ih (i := i) (by simpa using h)
      simp only [spans, List.flatMap_cons] at this ⊢
      rw [show (i + 1) * 2 = i * 2 + 2 by omega, show i * 2 + 2 + 1 = (i * 2 + 1) + 2 by omega]
      simpa using this

theorem check_loop2 (c : Ch) (H : AH) (d t s : Value) (hc : ChIn H c d t s) (hts : c.swell.length = c.tide.length) (S : St) (h1 : tget S.t 1 = .pointer (some ⟨1, 0, some 0⟩)) (h4 : tget S.t 4 = .int .i64 0) (hL : S.L = [(1, 0, .cells [.int .i64 c.w, .int .i64 c.h, d, t, s])]) (hH : S.H = H) :
    ∃ r, exL Tryd.prog pf (.loop checkLoop2) S = some r ∧ r.2.L = S.L ∧ r.2.H = H ∧ tget r.2.t 1 = tget S.t 1 ∧ ((r.1 = .exit 2 ∧ ∀ i (h : i < c.tide.length) (h' : i < c.swell.length), tickOk c.tide[i] c.swell[i]) ∨
      (r.1 = .ret ∧ tget r.2.t 2 = .int .i64 10 ∧ ¬ ∀ i (h : i < c.tide.length) (h' : i < c.swell.length), tickOk c.tide[i] c.swell[i])) := by
  obtain ⟨ta, tc, rfl, ht⟩ := hc.t
  obtain ⟨sa, sc, rfl, hs⟩ := hc.s
  have htl := hc.tl
  refine loop_rule (I := fun n s' => ∃ i, i ≤ c.tide.length ∧ n = c.tide.length - i ∧ tget s'.t 1 = .pointer (some ⟨1, 0, some 0⟩) ∧ tget s'.t 4 = .int .i64 i ∧ s'.L = S.L ∧ s'.H = H ∧ ∀ j (h : j < c.tide.length) (h' : j < c.swell.length), j < i → tickOk c.tide[j] c.swell[j]) ?_ c.tide.length S ⟨0, by omega, by omega, h1, h4, rfl, hH, by omega⟩
  rintro n s' ⟨i, hi, rfl, e1, e4, eL, eH, et⟩
  rw [hL] at eL
  by_cases hlt : i < c.tide.length
  · have hlt2 : i < c.swell.length := by omega
    obtain ⟨b1, o1, rfl, c1⟩ := ht (i * 2) _ (spans_get hlt).1
    obtain ⟨b1', o1', e, c1'⟩ := ht (i * 2 + 1) _ (spans_get hlt).2
    cases e
    obtain ⟨b2, o2, rfl, c2⟩ := hs i (.int .i64 c.swell[i]) (by simp [ints, hlt2])
    have hw : IntKind.i64.wrap ((i : Int) + 1) = (i : Int) + 1 := wrap_i64 (by omega) (by omega)
    have e' : o1 + (i * 2 + 1) = o1 + i * 2 + 1 := by omega
    rw [e'] at c1'
    simp only [hcell] at c1 c1' c2
    by_cases ha : (decide (0 ≤ c.tide[i].1) && decide (c.tide[i].1 ≤ c.tide[i].2)) = true
    · by_cases hb : c.tide[i].2 > 200
      · simp [checkLoop2, sf_cobleref01_Check, e1, e4, eL, eH, hlt, hlt2, c1, c1', c2, hw, ha, hb, hL, h1]
        exact ⟨i, hlt, hlt2, fun h => by have := h.2.2.1; omega⟩
      · by_cases hd : (decide (0 ≤ c.swell[i]) && decide (c.swell[i] ≤ 100)) = true
        · simp [checkLoop2, sf_cobleref01_Check, e1, e4, eL, eH, hlt, hlt2, c1, c1', c2, hw, ha, hb, hd, hL, h1]
          simp only [Bool.and_eq_true, decide_eq_true_eq] at ha hd
          refine ⟨_, by omega, i + 1, by omega, rfl, by omega, fun j h h' hj => ?_⟩
          by_cases hji : j = i
          · subst hji; exact ⟨ha.1, ha.2, by omega, hd.1, hd.2⟩
          · exact et j h h' (by omega)
        · simp [checkLoop2, sf_cobleref01_Check, e1, e4, eL, eH, hlt, hlt2, c1, c1', c2, hw, ha, hb, hd, hL, h1]
          exact ⟨i, hlt, hlt2, fun h => hd (by simp [h.2.2.2.1, h.2.2.2.2])⟩
    · simp [checkLoop2, sf_cobleref01_Check, e1, e4, eL, eH, hlt, hlt2, c1, c1', c2, hw, ha, hL, h1]
      exact ⟨i, hlt, hlt2, fun h => ha (by simp [h.1, h.2.1])⟩
  · have : i = c.tide.length := by omega
    subst this
    simp [checkLoop2, sf_cobleref01_Check, e1, e4, eL, eH, hL, h1]
    exact fun j h h' => et j h h' h

/-- What the document asks of a chart. -/
def ChOk (c : Ch) : Prop := (1 ≤ c.w ∧ c.w ≤ 12) ∧ (1 ≤ c.h ∧ c.h ≤ 12) ∧ (c.depth.length : Int) = c.w * c.h ∧ (1 ≤ c.tide.length ∧ c.tide.length ≤ 60) ∧ c.swell.length = c.tide.length ∧ (∀ x ∈ c.depth, -1000 ≤ x ∧ x ≤ 1000) ∧
  ∀ i (h : i < c.tide.length) (h' : i < c.swell.length), tickOk c.tide[i] c.swell[i]

open Classical in
theorem run_Check (c : Ch) (lim : Nat) (H : AH) (d t s : Value) (hc : ChIn H c d t s) : apL Tryd.prog pf (.func (.func 20) #[] #[]) [chV c d t s] lim H = some (.int .i64 (if ChOk c then 0 else 10), H) := by
  rw [apL_func _ _ _ _ _ _ (by rfl), sf_cobleref01_Check_eq]
  have hc' := hc
  obtain ⟨⟨da, dc, ed, _⟩, ⟨ta, tc, et, _⟩, ⟨sa, sc, es, _⟩, _, _, _⟩ := hc'
  by_cases a1 : 1 ≤ c.w ∧ c.w ≤ 12
  rotate_left
  · have b1 : (decide (1 ≤ c.w) && decide (c.w ≤ 12)) = false := by simpa using a1
    have : ¬ ChOk c := fun h => a1 h.1
    simp [sf_cobleref01_Check, chV, b1, this, pf_pure, pureF]
  by_cases a2 : 1 ≤ c.h ∧ c.h ≤ 12
  rotate_left
  · have b2 : (decide (1 ≤ c.h) && decide (c.h ≤ 12)) = false := by simpa using a2
    have : ¬ ChOk c := fun h => a2 h.2.1
    simp [sf_cobleref01_Check, chV, a1, b2, this, pf_pure, pureF]
  have hmul : IntKind.i64.wrap (c.w * c.h) = c.w * c.h := by
    have h1 : 0 ≤ c.w * c.h := Int.mul_nonneg (by omega) (by omega)
    have h2 : c.w * c.h ≤ 12 * 12 := Int.mul_le_mul a1.2 a2.2 (by omega) (by omega)
    exact wrap_i64 (by omega) (by omega)
  by_cases a3 : (c.depth.length : Int) = c.w * c.h
  rotate_left
  · have b3 : ((c.depth.length : Int) != c.w * c.h) = true := by simpa using a3
    have : ¬ ChOk c := fun h => a3 h.2.2.1
    simp [sf_cobleref01_Check, chV, a1, a2, ed, hmul, b3, this, pf_pure, pureF]
  have b3 : ((c.depth.length : Int) != c.w * c.h) = false := by simpa using a3
  by_cases a4 : 1 ≤ c.tide.length ∧ c.tide.length ≤ 60
  rotate_left
  · have b4 : (decide (1 ≤ (c.tide.length : Int)) && decide ((c.tide.length : Int) ≤ 60)) = false := by simp; omega
    have : ¬ ChOk c := fun h => a4 h.2.2.2.1
    simp [sf_cobleref01_Check, chV, a1, a2, ed, et, hmul, b3, b4, this, pf_pure, pureF]
  have b4 : (decide (1 ≤ (c.tide.length : Int)) && decide ((c.tide.length : Int) ≤ 60)) = true := by simp; omega
  by_cases a5 : c.swell.length = c.tide.length
  rotate_left
  · have b5 : ((c.swell.length : Int) != c.tide.length) = true := by simp; omega
    have : ¬ ChOk c := fun h => a5 h.2.2.2.2.1
    simp [sf_cobleref01_Check, chV, a1, a2, ed, et, es, hmul, b3, b4, b5, this, pf_pure, pureF]
  have b5 : ((c.swell.length : Int) != c.tide.length) = false := by simp; omega
  simp [sf_cobleref01_Check, chV, a1, a2, ed, et, es, hmul, b3, b4, b5]
  generalize hS : ({ t := _, L := _, H := _, lim := _, rd := _ } : St) = S
  obtain ⟨⟨e, s1⟩, hr, q1, q2, q4, q3⟩ := check_loop1 c H d t s hc S (by subst hS; simp) (by subst hS; simp) (by subst hS; simp [ed, et, es]) (by subst hS; rfl)
  simp only [checkLoop1, sf_cobleref01_Check] at hr
  rw [hr]
  simp only at q1 q2 q3 q4
  have hSL : S.L = [(1, 0, .cells [.int .i64 c.w, .int .i64 c.h, d, t, s])] := by subst hS; simp [ed, et, es]
  have hS1 : tget S.t 1 = .pointer (some ⟨1, 0, some 0⟩) := by subst hS; simp
  rcases q3 with ⟨rfl, h⟩ | ⟨rfl, h4, h⟩
  rotate_left
  · have : ¬ ChOk c := fun k => h k.2.2.2.2.2.1
    simp [h4, q1, q2, this, pf_pure, pureF]
  simp
  generalize hS2 : ({ t := _, L := _, H := _, lim := _, rd := _ } : St) = S2
  obtain ⟨⟨e, s2⟩, hr2, r1, r2, r4, r3⟩ := check_loop2 c H d t s hc a5 S2 (by subst hS2; simp [q4, hS1]) (by subst hS2; simp) (by subst hS2; simp [q1, hSL]) (by subst hS2; simp [q2])
  simp only [checkLoop2, sf_cobleref01_Check] at hr2
  rw [hr2]
  simp only at r1 r2 r3 r4
  rcases r3 with ⟨rfl, k⟩ | ⟨rfl, k4, k⟩
  · have : ChOk c := ⟨a1, a2, a3, a4, a5, h, k⟩
    simp [r1, r2, this, pf_pure, pureF]
  · have : ¬ ChOk c := fun x => k x.2.2.2.2.2.2
    simp [k4, r1, r2, this, pf_pure, pureF]
end Go.Proofs.YtjejcbiilimjkaaDoor
