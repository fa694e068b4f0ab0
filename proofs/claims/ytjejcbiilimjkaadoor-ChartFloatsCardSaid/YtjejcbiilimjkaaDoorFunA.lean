/- Contracts of the functions, in the abstract machine: the small ones; lists of numbers. -/
import Derived.Test.YtjejcbiilimjkaaDoorWorks
import Derived.Test.YtjejcbiilimjkaaDoorStep
import Derived.Test.YtjejcbiilimjkaaDoorTermsA
import Derived.Test.YtjejcbiilimjkaaDoorTermsB
set_option linter.all false
namespace Go.Proofs.YtjejcbiilimjkaaDoor
open Go Go.RowKit

theorem pf_pure (f : FuncId) : pf.pure f = pureF f := rfl

theorem wrap_i64 {n : Int} (h0 : -9223372036854775808 ≤ n) (h1 : n < 9223372036854775808) : IntKind.i64.wrap n = n := by rw [IntKind.wrap_i64]; omega

/-- A slice of n elements, its cells in the heap. -/
def Sl (H : AH) (v : Value) (n : Nat) (cells : List Value) : Prop := ∃ a c, v = .slice a n c ∧ ∀ (j : Nat) x, cells[j]? = some x → ∃ b o, a = some ⟨b, o, none⟩ ∧ hcell H b (o + j) = some x

def ints (l : List Int) : List Value := l.map (.int .i64)

@[simp] theorem run_from (n l h : Int) (lim : Nat) (H : AH) : apL Tryd.prog pf (.func (.func 54) #[] #[]) [.int .i64 n, .int .i64 l, .int .i64 h] lim H = some (.bool (decide (l ≤ n) && decide (n ≤ h)), H) := by
  rw [apL_func _ _ _ _ _ _ (by rfl), sf_cobleref01_from_eq]
  by_cases h1 : l ≤ n <;> simp [sf_cobleref01_from, h1, pf_pure, pureF]

@[simp] theorem run_Cells (w h : Int) (r : List Value) (lim : Nat) (H : AH) : apL Tryd.prog pf (.func (.func 40) #[] #[]) [.agg (.int .i64 w :: .int .i64 h :: r).toArray] lim H = some (.int .i64 (IntKind.i64.wrap (w * h)), H) := by
  rw [apL_func _ _ _ _ _ _ (by rfl), sf_cobleref01_Cells_eq]
  simp [sf_cobleref01_Cells, pf_pure, pureF]

@[simp] theorem run_distance (a b : Int) (lim : Nat) (H : AH) : apL Tryd.prog pf (.func (.func 81) #[] #[]) [.int .i64 a, .int .i64 b] lim H = some (.int .i64 (if IntKind.i64.wrap (b - a) > IntKind.i64.wrap (a - b) then IntKind.i64.wrap (b - a) else IntKind.i64.wrap (a - b)), H) := by
  rw [apL_func _ _ _ _ _ _ (by rfl), sf_chart_distance_eq]
  simp [sf_chart_distance, pf_pure, pureF]

theorem run_east (x w : Int) (hw : w ≠ 0) (r : List Value) (lim : Nat) (H : AH) : apL Tryd.prog pf (.func (.func 82) #[] #[]) [.agg (.int .i64 w :: r).toArray, .int .i64 x] lim H =
    some (.int .i64 (IntKind.i64.wrap (IntKind.i64.wrap (x.tmod w * 2) + (IntKind.i64.wrap (x.tdiv w)).tmod 2)), H) := by
  rw [apL_func _ _ _ _ _ _ (by rfl), sf_chart_sea_east_eq]
  simp [sf_chart_sea_east, pf, pureF, hw]

/-- The body of the loop of sameInts. -/
def sameIntsBody : SC := match sf_coblelaw01_sameInts.body with | .seq _ (.seq _ (.seq (.seq _ (.block _ (.loop b))) _)) => b | _ => .skip

theorem sameInts_loop (xs ys : List Int) (hxy : xs.length = ys.length) (hlen : xs.length < 2 ^ 62) (H : AH) (a b : Value) (ha : Sl H a xs.length (ints xs)) (hb : Sl H b ys.length (ints ys)) (s : St) (h0 : tget s.t 0 = a) (h1 : tget s.t 1 = b) (h5 : tget s.t 5 = .int .i64 0) (hL : s.L = []) (hH : s.H = H) :
    ∃ r, exL Tryd.prog pf (.loop sameIntsBody) s = some r ∧ r.2.L = [] ∧ r.2.H = H ∧ ((r.1 = .exit 0 ∧ xs = ys) ∨ (r.1 = .ret ∧ tget r.2.t 4 = .bool false ∧ xs ≠ ys)) := by
  obtain ⟨aa, ac, rfl, ha⟩ := ha
  obtain ⟨ba, bc, rfl, hb⟩ := hb
  refine loop_rule (I := fun n s => ∃ i, i ≤ xs.length ∧ n = xs.length - i ∧ tget s.t 0 = .slice aa xs.length ac ∧ tget s.t 1 = .slice ba ys.length bc ∧ tget s.t 5 = .int .i64 i ∧ s.L = [] ∧ s.H = H ∧ xs.take i = ys.take i) ?_ xs.length s ⟨0, by omega, by omega, h0, h1, h5, hL, hH, rfl⟩
  rintro n s ⟨i, hi, rfl, e0, e1, e5, eL, eH, et⟩
  by_cases hlt : i < xs.length
  · have hlt2 : i < ys.length := by omega
    obtain ⟨b1, o1, rfl, c1⟩ := ha i (.int .i64 xs[i]) (by simp [ints, hlt])
    obtain ⟨b2, o2, rfl, c2⟩ := hb i (.int .i64 ys[i]) (by simp [ints, hlt2])
    have hw : IntKind.i64.wrap ((i : Int) + 1) = (i : Int) + 1 := wrap_i64 (by omega) (by omega)
    simp only [hcell] at c1 c2
    by_cases heq : xs[i] = ys[i]
    · simp [sameIntsBody, sf_coblelaw01_sameInts, e0, e1, e5, eL, eH, hlt, hlt2, c1, c2, hw, heq]
      exact ⟨_, by omega, i + 1, by omega, rfl, by omega, by rw [List.take_add_one, List.take_add_one, et]; simp [hlt, hlt2, heq]⟩
    · have hne : (xs[i] != ys[i]) = true := by simpa using heq
      simp [sameIntsBody, sf_coblelaw01_sameInts, e0, e1, e5, eL, eH, hlt, hlt2, c1, c2, hw, hne]
      exact fun e => heq (by subst e; rfl)
  · have : i = xs.length := by omega
    subst this
    simp [sameIntsBody, sf_coblelaw01_sameInts, e0, e1, e5, eL, eH]
    rw [List.take_length, hxy, List.take_length] at et
    exact et

/-- sameInts: whether two lists are the same. A pattern for a function with a loop. -/
theorem run_sameInts (xs ys : List Int) (hlen : xs.length < 2 ^ 62) (lim : Nat) (H : AH) (a b : Value) (ha : Sl H a xs.length (ints xs)) (hb : Sl H b ys.length (ints ys)) :
    apL Tryd.prog pf (.func (.func 27) #[] #[]) [a, b] lim H = some (.bool (decide (xs = ys)), H) := by
  rw [apL_func _ _ _ _ _ _ (by rfl), sf_coblelaw01_sameInts_eq]
  obtain ⟨aa, ac, ea, ha'⟩ := ha
  obtain ⟨ba, bc, eb, hb'⟩ := hb
  by_cases hxy : xs.length = ys.length
  · have hh : ((xs.length : Int) != ys.length) = false := by simp [hxy]
    simp [sf_coblelaw01_sameInts, ea, eb, hh]
    generalize hS : ({ t := _, L := _, H := _, lim := _, rd := _ } : St) = S
    obtain ⟨⟨e, s'⟩, hr, q1, q2, q3⟩ := sameInts_loop xs ys hxy hlen H a b ⟨aa, ac, ea, ha'⟩ ⟨ba, bc, eb, hb'⟩ S (by subst hS; simp [ea]) (by subst hS; simp [eb]) (by subst hS; simp) (by subst hS; rfl) (by subst hS; rfl)
    simp only [sameIntsBody, sf_coblelaw01_sameInts] at hr
    rw [hr]
    simp only at q1 q2 q3
    rcases q3 with ⟨rfl, h⟩ | ⟨rfl, h4, h⟩
    · simp [h, q1, q2, pf_pure, pureF]
    · simp [h, h4, q1, q2, pf_pure, pureF]
  · have hne : xs ≠ ys := fun e => hxy (by rw [e])
    have hh : ((xs.length : Int) != ys.length) = true := by simp; omega
    simp [sf_coblelaw01_sameInts, ea, eb, hh, hne, pf_pure, pureF]
end Go.Proofs.YtjejcbiilimjkaaDoor
