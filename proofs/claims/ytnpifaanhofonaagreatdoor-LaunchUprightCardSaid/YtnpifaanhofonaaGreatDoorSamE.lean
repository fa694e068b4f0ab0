import Derived.Test.YtnpifaanhofonaaGreatDoorRigD
set_option linter.all false

/- Lists of numbers compared; the look at the examples (seats that have no Board; else LauK has both). -/
namespace Go.Proofs.YtnpifaanhofonaaGreatDoor
open Go Go.RowKit

/-- The body of the loop of sameInts. -/
def sameIntsBody5 : SC := match sf_coblelaw05_sameInts.body with | .seq _ (.seq _ (.seq (.seq _ (.block _ (.loop b))) _)) => b | _ => .skip

theorem sameInts_loop5 (xs ys : List Int) (hxy : xs.length = ys.length) (hlen : xs.length < 2 ^ 62) (H : AH) (a b : Value) (ha : Sl H a xs.length (ints xs)) (hb : Sl H b ys.length (ints ys)) (s : St) (h0 : tget s.t 0 = a) (h1 : tget s.t 1 = b) (h5 : tget s.t 5 = .int .i64 0) (hL : s.L = []) (hH : s.H = H) :
    ∃ r, exL Tryz.prog pf (.loop sameIntsBody5) s = some r ∧ r.2.L = [] ∧ r.2.H = H ∧ ((r.1 = .exit 0 ∧ xs = ys) ∨ (r.1 = .ret ∧ tget r.2.t 4 = .bool false ∧ xs ≠ ys)) := by
  obtain ⟨aa, ac, rfl, ha⟩ := ha
  obtain ⟨ba, bc, rfl, hb⟩ := hb
  refine loop_rule (I := fun n s => ∃ i, i ≤ xs.length ∧ n = xs.length - i ∧ tget s.t 0 = .slice aa xs.length ac ∧ tget s.t 1 = .slice ba ys.length bc ∧ tget s.t 5 = .int .i64 i ∧ s.L = [] ∧ s.H = H ∧ xs.take i = ys.take i) ?_ xs.length s ⟨0, by omega, by omega, h0, h1, h5, hL, hH, rfl⟩
  rintro n s ⟨i, hi, rfl, e0, e1, e5, eL, eH, et⟩
  by_cases hlt : i < xs.length
  · have hlt2 : i < ys.length := by omega
    obtain ⟨b1, o1, rfl, c1⟩ := ha i (.int .i64 xs[i]) (by simp [ints, hlt])
    obtain ⟨b2, o2, rfl, c2⟩ := hb i (.int .i64 ys[i]) (by simp [ints, hlt2])
    have hw : IntKind.i64.wrap ((i : Int) + 1) = (i : Int) + 1 := wrap_i64 (by omega) (by omega)
    simp only [hcell] at c1 c2
    by_cases heq : xs[i] = ys[i]
    · simp [sameIntsBody5, sf_coblelaw05_sameInts, e0, e1, e5, eL, eH, hlt, hlt2, c1, c2, hw, heq]
      exact ⟨_, by omega, i + 1, by omega, rfl, by omega, by rw [List.take_add_one, List.take_add_one, et]; simp [hlt, hlt2, heq]⟩
    · have hne : (xs[i] != ys[i]) = true := by simpa using heq
      simp [sameIntsBody5, sf_coblelaw05_sameInts, e0, e1, e5, eL, eH, hlt, hlt2, c1, c2, hw, hne]
      exact fun e => heq (by subst e; rfl)
  · have : i = xs.length := by omega
    subst this
    simp [sameIntsBody5, sf_coblelaw05_sameInts, e0, e1, e5, eL, eH]
    rw [List.take_length, hxy, List.take_length] at et
    exact et

/-- sameInts: whether two lists are the same. A pattern for a function with a loop. -/
theorem run_sameInts5 (xs ys : List Int) (hlen : xs.length < 2 ^ 62) (lim : Nat) (H : AH) (a b : Value) (ha : Sl H a xs.length (ints xs)) (hb : Sl H b ys.length (ints ys)) :
    apL Tryz.prog pf (.func (.func 19) #[] #[]) [a, b] lim H = some (.bool (decide (xs = ys)), H) := by
  rw [apL_func _ _ _ _ _ _ (by rfl), sf_coblelaw05_sameInts_eq]
  obtain ⟨aa, ac, ea, ha'⟩ := ha
  obtain ⟨ba, bc, eb, hb'⟩ := hb
  by_cases hxy : xs.length = ys.length
  · have hh : ((xs.length : Int) != ys.length) = false := by simp [hxy]
    simp [sf_coblelaw05_sameInts, ea, eb, hh]
    generalize hS : ({ t := _, L := _, H := _, lim := _, rd := _ } : St) = S
    obtain ⟨⟨e, s'⟩, hr, q1, q2, q3⟩ := sameInts_loop5 xs ys hxy hlen H a b ⟨aa, ac, ea, ha'⟩ ⟨ba, bc, eb, hb'⟩ S (by subst hS; simp [ea]) (by subst hS; simp [eb]) (by subst hS; simp) (by subst hS; rfl) (by subst hS; rfl)
    simp only [sameIntsBody5, sf_coblelaw05_sameInts] at hr
    rw [hr]
    simp only at q1 q2 q3
    rcases q3 with ⟨rfl, h⟩ | ⟨rfl, h4, h⟩
    · simp [h, q1, q2, pf_pure, pureF]
    · simp [h, h4, q1, q2, pf_pure, pureF]
  · have hne : xs ≠ ys := fun e => hxy (by rw [e])
    have hh : ((xs.length : Int) != ys.length) = true := by simp; omega
    simp [sf_coblelaw05_sameInts, ea, eb, hh, hne, pf_pure, pureF]

theorem run_works5 (lim : Nat) (H : AH) (hG : H[waysG]? = some (.ro waysV)) : apL Tryz.prog pf (.func (.func 11) #[] #[]) [] lim H = some (.bool true, H) :=
  apL_orc (by rfl) (by
    simp only [pf, tabs, tabsOk, List.all_cons, List.all_nil, Bool.and_true, hG]
    exact by kernel_rfl)

end Go.Proofs.YtnpifaanhofonaaGreatDoor
