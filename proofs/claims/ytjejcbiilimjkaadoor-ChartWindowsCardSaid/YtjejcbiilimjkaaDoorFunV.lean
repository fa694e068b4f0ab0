/- Contracts of the functions, in the abstract machine: within, ordered; what is so of lists of ticks. -/
import Derived.Test.YtjejcbiilimjkaaDoorFunU
set_option linter.all false
namespace Go.Proofs.YtjejcbiilimjkaaDoor
open Go Go.RowKit

def wiB (l : List (Int × Int)) (t : Int) : Bool := l.any fun x => decide (x.1 ≤ t) && decide (t ≤ x.2)

def wiLoop : SC := sf_coblelaw01_within.body.loops.headD .skip

theorem wi_loop (xs : List (Int × Int)) (hlen : xs.length < 2 ^ 62) (H : AH) (v : Value) (hv : Sl H v xs.length (spans xs)) (t : Int) (S : St) (h0 : tget S.t 0 = v) (h1 : tget S.t 1 = .int .i64 t) (h5 : tget S.t 5 = .int .i64 0) (hH : S.H = H) :
    ∃ r, exL Tryd.prog pf (.loop wiLoop) S = some r ∧ r.2.H = H ∧ ((r.1 = .exit 0 ∧ wiB xs t = false) ∨ (r.1 = .ret ∧ tget r.2.t 4 = .bool true ∧ wiB xs t = true)) := by
  obtain ⟨aa, ac, rfl, hd⟩ := hv
  refine loop_rule (I := fun n s' => ∃ i, i ≤ xs.length ∧ n = xs.length - i ∧ tget s'.t 0 = .slice aa xs.length ac ∧ tget s'.t 1 = .int .i64 t ∧ tget s'.t 5 = .int .i64 i ∧ s'.H = H ∧ ∀ j (h : j < xs.length), j < i → ¬ (xs[j].1 ≤ t ∧ t ≤ xs[j].2)) ?_ xs.length S ⟨0, by omega, by omega, h0, h1, h5, hH, by omega⟩
  rintro n s' ⟨i, hi, rfl, e0, e1, e5, eH, et⟩
  by_cases hlt : i < xs.length
  · obtain ⟨b1, o1, rfl, c1⟩ := hd (i * 2) _ (spans_get hlt).1
    obtain ⟨b1', o1', e, c2⟩ := hd (i * 2 + 1) _ (spans_get hlt).2
    cases e
    rw [show o1 + (i * 2 + 1) = o1 + i * 2 + 1 by omega] at c2
    have hw : IntKind.i64.wrap ((i : Int) + 1) = (i : Int) + 1 := wrap_i64 (by omega) (by omega)
    simp only [hcell] at c1 c2
    have hno : ¬ (xs[i].1 ≤ t ∧ t ≤ xs[i].2) → ∀ j (h : j < xs.length), j < i + 1 → ¬ (xs[j].1 ≤ t ∧ t ≤ xs[j].2) := fun hn j h hj => by
      by_cases e : j = i
      · subst e; exact hn
      · exact et j h (by omega)
    by_cases a1 : xs[i].1 ≤ t
    · by_cases a2 : t ≤ xs[i].2
      · simp [wiLoop, SC.loops, sf_coblelaw01_within, e0, e1, e5, eH, hlt, c1, c2, hw, a1, a2, wiB]
        exact ⟨xs[i].1, xs[i].2, List.getElem_mem hlt, a1, a2⟩
      · simp [wiLoop, SC.loops, sf_coblelaw01_within, e0, e1, e5, eH, hlt, c1, c2, hw, a1, a2]
        exact ⟨_, by omega, i + 1, by omega, rfl, by omega, fun j h hj k => by have := hno (fun h => a2 h.2) j h hj; omega⟩
    · simp [wiLoop, SC.loops, sf_coblelaw01_within, e0, e1, e5, eH, hlt, c1, c2, hw, a1]
      exact ⟨_, by omega, i + 1, by omega, rfl, by omega, fun j h hj k => by have := hno (fun h => a1 h.1) j h hj; omega⟩
  · have : i = xs.length := by omega
    subst this
    simp [wiLoop, SC.loops, sf_coblelaw01_within, e0, e1, e5, eH, wiB]
    intro x1 x2 hx k
    obtain ⟨j, h, e⟩ := List.mem_iff_getElem.1 hx
    have := et j h h
    rw [e] at this
    simp only at this
    omega

theorem run_wi (xs : List (Int × Int)) (hlen : xs.length < 2 ^ 62) (H : AH) (lim : Nat) (v : Value) (hv : Sl H v xs.length (spans xs)) (t : Int) :
    apL Tryd.prog pf (.func (.func 48) #[] #[]) [v, .int .i64 t] lim H = some (.bool (wiB xs t), H) := by
  rw [apL_func _ _ _ _ _ _ (by rfl), sf_coblelaw01_within_eq]
  have hv0 := hv
  obtain ⟨aa, ac, ev, _⟩ := hv0
  simp [sf_coblelaw01_within, ev]
  generalize hS : ({ t := _, L := _, H := _, lim := _, rd := _ } : St) = S
  obtain ⟨⟨e, s1⟩, hr, q2, q3⟩ := wi_loop xs hlen H v hv t S (by subst hS; simp [ev]) (by subst hS; simp) (by subst hS; simp) (by subst hS; rfl)
  simp [wiLoop, SC.loops, sf_coblelaw01_within] at hr
  rw [hr]
  simp only at q2 q3
  rcases q3 with ⟨rfl, h⟩ | ⟨rfl, h4, h⟩
  · simp [h, q2, pf_pure, pureF]
  · simp [h, h4, q2, pf_pure, pureF]

/-- Spans of ticks below n, in order, with at least one tick between each two. -/
def Ord (n : Int) (l : List (Int × Int)) : Prop := ∀ i (h : i < l.length), 0 ≤ l[i].1 ∧ l[i].1 ≤ l[i].2 ∧ l[i].2 < n ∧ (∀ h0 : 0 < i, l[i - 1].2 + 1 < l[i].1)

def ordLoop : SC := sf_coblelaw01_ordered.body.loops.headD .skip

theorem ord_loop (xs : List (Int × Int)) (hlen : xs.length < 2 ^ 62) (H : AH) (v : Value) (hv : Sl H v xs.length (spans xs)) (n : Int) (hn : n ≤ 1000) (ho : Ord n xs) (S : St) (h0 : tget S.t 0 = v) (h1 : tget S.t 1 = .int .i64 n) (h5 : tget S.t 5 = .int .i64 0) (hH : S.H = H) :
    ∃ r, exL Tryd.prog pf (.loop ordLoop) S = some r ∧ r.2.H = H ∧ r.1 = .exit 0 := by
  obtain ⟨aa, ac, rfl, hd⟩ := hv
  refine loop_rule (I := fun m s' => ∃ i, i ≤ xs.length ∧ m = xs.length - i ∧ tget s'.t 0 = .slice aa xs.length ac ∧ tget s'.t 1 = .int .i64 n ∧ tget s'.t 5 = .int .i64 i ∧ s'.H = H) ?_ xs.length S ⟨0, by omega, by omega, h0, h1, h5, hH⟩
  rintro m s' ⟨i, hi, rfl, e0, e1, e5, eH⟩
  by_cases hlt : i < xs.length
  rotate_left
  · have : i = xs.length := by omega
    subst this
    simp [ordLoop, SC.loops, sf_coblelaw01_ordered, e0, e1, e5, eH]
  obtain ⟨o1, o2, o3, o4⟩ := ho i hlt
  obtain ⟨b1, q1, rfl, c1⟩ := hd (i * 2) _ (spans_get hlt).1
  obtain ⟨b1', q1', e, c2⟩ := hd (i * 2 + 1) _ (spans_get hlt).2
  cases e
  rw [show q1 + (i * 2 + 1) = q1 + i * 2 + 1 by omega] at c2
  have hw : IntKind.i64.wrap ((i : Int) + 1) = (i : Int) + 1 := wrap_i64 (by omega) (by omega)
  simp only [hcell] at c1 c2
  have n1 : ¬ (xs[i].1 < 0) := by omega
  have n2 : ¬ (xs[i].1 > xs[i].2) := by omega
  have n3 : ¬ (xs[i].2 ≥ n) := by omega
  have n2' : ¬ (xs[i].2 < xs[i].1) := by omega
  have n3' : ¬ (n ≤ xs[i].2) := by omega
  by_cases hz : i = 0
  · subst hz
    simp at c1 c2 hw
    simp [ordLoop, SC.loops, sf_coblelaw01_ordered, e0, e1, e5, eH, hlt, c1, c2, hw, n1, n2', n3']
    exact ⟨_, by omega, 1, by omega, rfl, by simp⟩
  · obtain ⟨j, rfl⟩ : ∃ j, i = j + 1 := ⟨i - 1, by omega⟩
    have hjl : j < xs.length := by omega
    have h4 : xs[j].2 + 1 < xs[j + 1].1 := o4 (by omega)
    obtain ⟨_, _, e, c3⟩ := hd (j * 2 + 1) _ (spans_get hjl).2
    cases e
    rw [show q1 + (j * 2 + 1) = q1 + j * 2 + 1 by omega] at c3
    simp only [hcell] at c3
    have hj0 : (0 : Int) < ((j + 1 : Nat) : Int) := by omega
    have hwj : IntKind.i64.wrap (((j + 1 : Nat) : Int) - 1) = (j : Int) := by rw [wrap_i64 (by omega) (by omega)]; omega
    have hj1 := (ho j hjl)
    have hwk : IntKind.i64.wrap (xs[j].2 + 1) = xs[j].2 + 1 := wrap_i64 (by omega) (by omega)
    have n4 : ¬ (xs[j + 1].1 ≤ xs[j].2 + 1) := by omega
    have hjl' : (j : Int) < (xs.length : Int) := by omega
    simp [-Int.natCast_add, ordLoop, SC.loops, sf_coblelaw01_ordered, e0, e1, e5, eH, hlt, hjl, c1, c2, c3, hw, hwj, hwk, n1, n2', n3', n4, hj0, hjl']
    exact ⟨_, by omega, j + 1 + 1, by omega, rfl, by omega⟩

theorem run_ord (xs : List (Int × Int)) (hlen : xs.length < 2 ^ 62) (H : AH) (lim : Nat) (v : Value) (hv : Sl H v xs.length (spans xs)) (n : Int) (hn : n ≤ 1000) (ho : Ord n xs) :
    apL Tryd.prog pf (.func (.func 47) #[] #[]) [v, .int .i64 n] lim H = some (.bool true, H) := by
  rw [apL_func _ _ _ _ _ _ (by rfl), sf_coblelaw01_ordered_eq]
  have hv0 := hv
  obtain ⟨aa, ac, ev, _⟩ := hv0
  simp [sf_coblelaw01_ordered, ev]
  generalize hS : ({ t := _, L := _, H := _, lim := _, rd := _ } : St) = S
  obtain ⟨⟨e, s1⟩, hr, q2, q3⟩ := ord_loop xs hlen H v hv n hn ho S (by subst hS; simp [ev]) (by subst hS; simp) (by subst hS; simp) (by subst hS; rfl)
  simp [ordLoop, SC.loops, sf_coblelaw01_ordered] at hr
  rw [hr]
  simp only at q2 q3
  subst q3
  simp [q2, pf_pure, pureF]

theorem wiB_append (l m : List (Int × Int)) (t : Int) : wiB (l ++ m) t = (wiB l t || wiB m t) := by simp [wiB]

theorem wiB_one (x y t : Int) : wiB [(x, y)] t = true ↔ x ≤ t ∧ t ≤ y := by simp [wiB]

theorem spansTo_ok (p : Nat → Bool) : ∀ n : Nat, Ord n (spansTo p n) ∧ ∀ t : Int, wiB (spansTo p n) t = true ↔ ∃ k : Nat, k < n ∧ t = k ∧ p k = true
  | 0 => ⟨fun i h => by simp [spansTo] at h, fun t => by simp [spansTo, wiB]⟩
  | n + 1 => by
    obtain ⟨ho, hw⟩ := spansTo_ok p n
    have up : ∀ (P : Nat → Prop), (∃ k, k < n + 1 ∧ P k) ↔ (∃ k, k < n ∧ P k) ∨ P n := fun P => by
      constructor
      · rintro ⟨k, hk, h⟩
        by_cases e : k = n
        · subst e; exact .inr h
        · exact .inl ⟨k, by omega, h⟩
      · rintro (⟨k, hk, h⟩ | h)
        · exact ⟨k, by omega, h⟩
        · exact ⟨n, by omega, h⟩
    simp only [spansTo]
    cases hp : p n with
    | false =>
      simp only [Bool.false_eq_true, if_false]
      refine ⟨fun i h => ?_, fun t => ?_⟩
      · obtain ⟨a, b, c, d⟩ := ho i h
        exact ⟨a, b, by omega, d⟩
      · rw [hw, up]
        simp [hp]
    | true =>
      simp only [if_true]
      generalize spansTo p n = l at *
      rcases List.eq_nil_or_concat l with rfl | ⟨m, ⟨a, z⟩, hm⟩
      · rw [growL_nil]
        refine ⟨fun i h => ?_, fun t => ?_⟩
        · have : i = 0 := by simpa using h
          subst this
          simp
          omega
        · rw [up, ← hw]
          simp [wiB, hp]
          omega
      rw [List.concat_eq_append] at hm
      subst hm
      rw [growL_snoc]
      have hlast := ho m.length (by simp)
      obtain ⟨l1, l2, l3, l4⟩ := hlast
      simp only [List.getElem_append_right (Nat.le_refl _), Nat.sub_self, List.getElem_cons_zero] at l1 l2 l3
      split
      · rename_i hz
        refine ⟨fun i h => ?_, fun t => ?_⟩
        · simp only [List.length_append, List.length_cons, List.length_nil] at h
          by_cases e : i < m.length
          · obtain ⟨x1, x2, x3, x4⟩ := ho i (by simp; omega)
            simp only [List.getElem_append_left e] at x1 x2 x3 x4 ⊢
            refine ⟨x1, x2, by omega, fun h0 => ?_⟩
            have := x4 h0
            rw [List.getElem_append_left (by omega)] at this ⊢
            exact this
          · have : i = m.length := by omega
            subst this
            simp only [List.getElem_append_right (Nat.le_refl _), Nat.sub_self, List.getElem_cons_zero]
            refine ⟨l1, by omega, by omega, fun h0 => ?_⟩
            have := l4 h0
            rw [List.getElem_append_left (by omega)] at this ⊢
            simpa using this
        · rw [up, ← hw, wiB_append, wiB_append, Bool.or_eq_true, Bool.or_eq_true, wiB_one, wiB_one]
          by_cases hq : wiB m t = true
          · simp [hq]
          · simp only [hq, Bool.false_eq_true, false_or, hp, and_true]; omega
      · rename_i hz
        refine ⟨fun i h => ?_, fun t => ?_⟩
        · simp only [List.length_append, List.length_cons, List.length_nil] at h
          by_cases e : i < (m ++ [(a, z)]).length
          · obtain ⟨x1, x2, x3, x4⟩ := ho i e
            simp only [List.getElem_append_left e] at x1 x2 x3 x4 ⊢
            refine ⟨x1, x2, by omega, fun h0 => ?_⟩
            have := x4 h0
            rw [List.getElem_append_left (by omega)]
            exact this
          · have : i = m.length + 1 := by simp at e; omega
            subst this
            have e1 : (m ++ [(a, z)] ++ [((n : Int), (n : Int))])[m.length + 1]'(by simp) = ((n : Int), (n : Int)) := by
              rw [List.getElem_append_right (by simp)]; simp
            have e2 : (m ++ [(a, z)] ++ [((n : Int), (n : Int))])[m.length + 1 - 1]'(by simp) = (a, z) := by
              rw [List.getElem_append_left (by simp)]; simp
            rw [e1]
            refine ⟨by simp, by simp, by simp; omega, fun h0 => ?_⟩
            rw [e2]
            simp
            omega
        · rw [up, ← hw, wiB_append, wiB_append, Bool.or_eq_true, Bool.or_eq_true, wiB_one, wiB_one]
          by_cases hq : wiB m t = true
          · simp [hq]
          · simp only [hq, Bool.false_eq_true, false_or, hp, and_true]; omega
end Go.Proofs.YtjejcbiilimjkaaDoor
