/- Contracts of the functions, in the abstract machine: predicates of spans. -/
import Derived.Test.YtjejcbiilimjkaaDoorFunD
set_option linter.all false
namespace Go.Proofs.YtjejcbiilimjkaaDoor
open Go Go.RowKit

def spV (x : Int × Int) : Value := .agg #[.int .i64 x.1, .int .i64 x.2]

/-- A function value that says of a span whether p holds, and does nothing else. -/
def IsQ (H : AH) (f : Value) (p : Int × Int → Bool) : Prop := (nl f = true ∧ isU f = false ∧ f.cells = #[f]) ∧ ∀ H', Ext H H' → ∀ x lim, apL Tryd.prog pf f [spV x] lim H' = some (.bool (p x), H')

theorem IsQ.nl {H : AH} {f : Value} {p : Int × Int → Bool} (k : IsQ H f p) : nl f = true := k.1.1
theorem IsQ.cells {H : AH} {f : Value} {p : Int × Int → Bool} (k : IsQ H f p) : isU f = false ∧ f.cells = #[f] := k.1.2

theorem IsQ.ext {H H' : AH} (h : Ext H H') {f : Value} {p : Int × Int → Bool} (k : IsQ H f p) : IsQ H' f p := ⟨k.1, fun H'' h2 => k.2 H'' (h.trans h2)⟩

def withinV (n : Nat) : Value := .func (.func 92) #[] #[.pointer (some ⟨n, 0, none⟩), .pointer (some ⟨n + 1, 0, none⟩)]

theorem run_within (l h : Int) (lim : Nat) (H : AH) : apL Tryd.prog pf (.func (.func 83) #[] #[]) [.int .i64 l, .int .i64 h] lim H = some (withinV H.length, H ++ [.rw 0 [.int .i64 l], .rw 0 [.int .i64 h]]) := by
  rw [apL_func _ _ _ _ _ _ (by rfl), sf_checks_Within_eq]
  simp [sf_checks_Within, pf_pure, pureF, withinV]

def spanIn (l h : Int) (x : Int × Int) : Bool := decide (l ≤ x.1) && decide (x.1 ≤ x.2) && decide (x.2 ≤ h)

theorem isQ_within (l h : Int) (H : AH) (n : Nat) (h1 : H[n]? = some (.rw 0 [.int .i64 l])) (h2 : H[n + 1]? = some (.rw 0 [.int .i64 h])) : IsQ H (withinV n) (spanIn l h) := by
  refine ⟨⟨by simp [withinV], rfl, rfl⟩, fun H' hH x lim => ?_⟩
  obtain ⟨x1, x2⟩ := x
  have k1 := hH _ _ h1
  have k2 := hH _ _ h2
  unfold withinV
  simp only [spV]
  rw [apL_func _ _ _ _ _ _ (by rfl), sf_checks_Within_1_eq]
  by_cases hx : l ≤ x1
  · by_cases hy : x1 ≤ x2 <;> simp [sf_checks_Within_1, k1, k2, hx, hy, spanIn, pf_pure, pureF]
  · simp [sf_checks_Within_1, k1, k2, hx, spanIn, pf_pure, pureF]

def allLoop2 : SC := sf_checks_All_api_Span.body.loops.headD .skip

theorem all_loop2 (xs : List (Int × Int)) (hlen : xs.length < 2 ^ 62) (H : AH) (v f : Value) (p : Int × Int → Bool) (hv : Sl H v xs.length (spans xs)) (hp : IsQ H f p) (S : St) (h1 : tget S.t 1 = f) (h7 : tget S.t 7 = v) (h8 : tget S.t 8 = .int .i64 xs.length) (h9 : tget S.t 9 = .int .i64 0) (hH : S.H = H) :
    ∃ r, exL Tryd.prog pf (.loop allLoop2) S = some r ∧ r.2.H = H ∧ ((r.1 = .exit 0 ∧ xs.all p = true) ∨ (r.1 = .ret ∧ tget r.2.t 4 = .bool false ∧ xs.all p = false)) := by
  obtain ⟨aa, ac, rfl, hd⟩ := hv
  obtain ⟨⟨hn, _⟩, hp⟩ := hp
  have hp := fun x lim => hp H (Ext.refl H) x lim
  refine loop_rule (I := fun n s' => ∃ i, i ≤ xs.length ∧ n = xs.length - i ∧ tget s'.t 1 = f ∧ tget s'.t 7 = .slice aa xs.length ac ∧ tget s'.t 8 = .int .i64 xs.length ∧ tget s'.t 9 = .int .i64 i ∧ s'.H = H ∧ ∀ j (h : j < xs.length), j < i → p xs[j] = true) ?_ xs.length S ⟨0, by omega, by omega, h1, h7, h8, h9, hH, by omega⟩
  rintro n s' ⟨i, hi, rfl, e1, e7, e8, e9, eH, et⟩
  by_cases hlt : i < xs.length
  · obtain ⟨b1, o1, rfl, c1⟩ := hd (i * 2) _ (spans_get hlt).1
    obtain ⟨b1', o1', e, c2⟩ := hd (i * 2 + 1) _ (spans_get hlt).2
    cases e
    rw [show o1 + (i * 2 + 1) = o1 + i * 2 + 1 by omega] at c2
    have hps : ∀ lim, apL Tryd.prog pf f [.agg #[.int .i64 xs[i].1, .int .i64 xs[i].2]] lim H = some (.bool (p xs[i]), H) := fun lim => hp xs[i] lim
    have hw : IntKind.i64.wrap ((i : Int) + 1) = (i : Int) + 1 := wrap_i64 (by omega) (by omega)
    simp only [hcell] at c1 c2
    cases hx : p xs[i] with
    | true =>
      simp [allLoop2, SC.loops, sf_checks_All_api_Span, e1, e7, e8, e9, eH, hlt, c1, c2, hw, hn, hps, hx]
      exact ⟨_, by omega, i + 1, by omega, rfl, by omega, fun j h hj => by
        by_cases e : j = i
        · subst e; exact hx
        · exact et j h (by omega)⟩
    | false =>
      simp [allLoop2, SC.loops, sf_checks_All_api_Span, e1, e7, e8, e9, eH, hlt, c1, c2, hw, hn, hps, hx]
      exact ⟨xs[i].1, xs[i].2, List.getElem_mem hlt, hx⟩
  · have : i = xs.length := by omega
    subst this
    simp [allLoop2, SC.loops, sf_checks_All_api_Span, e1, e7, e8, e9, eH]
    intro x1 x2 hx
    obtain ⟨j, h, e⟩ := List.mem_iff_getElem.1 hx
    rw [← e]; exact et j h h

/-- All: whether p holds of each span. -/
theorem run_all2 (xs : List (Int × Int)) (hlen : xs.length < 2 ^ 62) (H : AH) (lim : Nat) (v f : Value) (p : Int × Int → Bool) (hv : Sl H v xs.length (spans xs)) (hp : IsQ H f p) :
    apL Tryd.prog pf (.func (.func 84) #[] #[]) [v, f] lim H = some (.bool (xs.all p), H) := by
  rw [apL_func _ _ _ _ _ _ (by rfl), sf_checks_All_api_Span_eq]
  have hv0 := hv
  obtain ⟨aa, ac, ev, _⟩ := hv0
  simp [sf_checks_All_api_Span, ev]
  generalize hS : ({ t := _, L := _, H := _, lim := _, rd := _ } : St) = S
  obtain ⟨⟨e, s1⟩, hr, q2, q3⟩ := all_loop2 xs hlen H v f p hv hp S (by subst hS; simp) (by subst hS; simp [ev]) (by subst hS; simp) (by subst hS; simp) (by subst hS; rfl)
  simp [allLoop2, SC.loops, sf_checks_All_api_Span] at hr
  rw [hr]
  simp only at q2 q3
  rcases q3 with ⟨rfl, h⟩ | ⟨rfl, h4, h⟩
  · simp [h, q2, pf_pure, pureF]
  · simp [h, h4, q2, pf_pure, pureF]
end Go.Proofs.YtjejcbiilimjkaaDoor
