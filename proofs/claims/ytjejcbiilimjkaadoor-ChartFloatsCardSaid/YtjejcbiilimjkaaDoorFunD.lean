/- Contracts of the functions, in the abstract machine: predicates that are function values. -/
import Derived.Test.YtjejcbiilimjkaaDoorFunC
set_option linter.all false
namespace Go.Proofs.YtjejcbiilimjkaaDoor
open Go Go.RowKit

/-- A later heap that keeps the blocks. -/
def Ext (H H' : AH) : Prop := ∀ (b : Nat) (x : ABlk), H[b]? = some x → H'[b]? = some x
theorem Ext.refl (H : AH) : Ext H H := fun _ _ h => h
theorem Ext.trans {H H' H'' : AH} (h : Ext H H') (k : Ext H' H'') : Ext H H'' := fun b x e => k b x (h b x e)
theorem Ext.push (H : AH) (l : List ABlk) : Ext H (H ++ l) := fun b x h => by
  rw [List.getElem?_append_left (List.getElem?_eq_some_iff.1 h).1]; exact h

theorem Sl.ext {H H' : AH} (h : Ext H H') {v : Value} {n : Nat} {cs : List Value} (k : Sl H v n cs) : Sl H' v n cs := by
  obtain ⟨a, c, e, hk⟩ := k
  refine ⟨a, c, e, fun j x hx => ?_⟩
  obtain ⟨b, o, e1, e2⟩ := hk j x hx
  exact ⟨b, o, e1, hcell_ext (fun x => h b x) e2⟩

/-- A function value that says of a number whether p holds, and does nothing else. -/
def IsP (H : AH) (f : Value) (p : Int → Bool) : Prop := (nl f = true ∧ isU f = false ∧ f.cells = #[f]) ∧ ∀ H', Ext H H' → ∀ x lim, apL Tryd.prog pf f [.int .i64 x] lim H' = some (.bool (p x), H')

theorem IsP.nl {H : AH} {f : Value} {p : Int → Bool} (k : IsP H f p) : nl f = true := k.1.1
theorem IsP.cells {H : AH} {f : Value} {p : Int → Bool} (k : IsP H f p) : isU f = false ∧ f.cells = #[f] := k.1.2

theorem IsP.ext {H H' : AH} (h : Ext H H') {f : Value} {p : Int → Bool} (k : IsP H f p) : IsP H' f p := ⟨k.1, fun H'' h2 => k.2 H'' (h.trans h2)⟩

def betweenV (n : Nat) : Value := .func (.func 80) #[] #[.pointer (some ⟨n, 0, none⟩), .pointer (some ⟨n + 1, 0, none⟩)]

theorem run_between (l h : Int) (lim : Nat) (H : AH) : apL Tryd.prog pf (.func (.func 52) #[] #[]) [.int .i64 l, .int .i64 h] lim H = some (betweenV H.length, H ++ [.rw 0 [.int .i64 l], .rw 0 [.int .i64 h]]) := by
  rw [apL_func _ _ _ _ _ _ (by rfl), sf_checks_Between_eq]
  simp [sf_checks_Between, pf_pure, pureF, betweenV]

theorem isP_between (l h : Int) (H : AH) (n : Nat) (h1 : H[n]? = some (.rw 0 [.int .i64 l])) (h2 : H[n + 1]? = some (.rw 0 [.int .i64 h])) : IsP H (betweenV n) (fun x => decide (l ≤ x) && decide (x ≤ h)) := by
  refine ⟨⟨by simp [betweenV], rfl, rfl⟩, fun H' hH x lim => ?_⟩
  have k1 := hH _ _ h1
  have k2 := hH _ _ h2
  unfold betweenV
  rw [apL_func _ _ _ _ _ _ (by rfl), sf_checks_Between_1_eq]
  by_cases hx : l ≤ x <;> simp [sf_checks_Between_1, k1, k2, hx, pf_pure, pureF]

/-- The loops of a piece of code, the outer ones first. -/
def SC.loops : SC → List SC
  | .seq a b => a.loops ++ b.loops
  | .cond _ a b => a.loops ++ b.loops
  | .block _ a => a.loops
  | .loop a => a :: a.loops
  | .rng _ _ a b => a.loops ++ b.loops
  | _ => []

def allLoop : SC := sf_checks_All_int.body.loops.headD .skip

theorem all_loop (xs : List Int) (hlen : xs.length < 2 ^ 62) (H : AH) (v f : Value) (p : Int → Bool) (hv : Sl H v xs.length (ints xs)) (hp : IsP H f p) (S : St) (h1 : tget S.t 1 = f) (h7 : tget S.t 7 = v) (h8 : tget S.t 8 = .int .i64 xs.length) (h9 : tget S.t 9 = .int .i64 0) (hH : S.H = H) :
    ∃ r, exL Tryd.prog pf (.loop allLoop) S = some r ∧ r.2.H = H ∧ ((r.1 = .exit 0 ∧ xs.all p = true) ∨ (r.1 = .ret ∧ tget r.2.t 4 = .bool false ∧ xs.all p = false)) := by
  obtain ⟨aa, ac, rfl, hd⟩ := hv
  obtain ⟨⟨hn, _⟩, hp⟩ := hp
  have hp := fun x lim => hp H (Ext.refl H) x lim
  refine loop_rule (I := fun n s' => ∃ i, i ≤ xs.length ∧ n = xs.length - i ∧ tget s'.t 1 = f ∧ tget s'.t 7 = .slice aa xs.length ac ∧ tget s'.t 8 = .int .i64 xs.length ∧ tget s'.t 9 = .int .i64 i ∧ s'.H = H ∧ ∀ j (h : j < xs.length), j < i → p xs[j] = true) ?_ xs.length S ⟨0, by omega, by omega, h1, h7, h8, h9, hH, by omega⟩
  rintro n s' ⟨i, hi, rfl, e1, e7, e8, e9, eH, et⟩
  by_cases hlt : i < xs.length
  · obtain ⟨b1, o1, rfl, c1⟩ := hd i (.int .i64 xs[i]) (by simp [ints, hlt])
    have hw : IntKind.i64.wrap ((i : Int) + 1) = (i : Int) + 1 := wrap_i64 (by omega) (by omega)
    simp only [hcell] at c1
    cases hx : p xs[i] with
    | true =>
      simp [allLoop, SC.loops, sf_checks_All_int, e1, e7, e8, e9, eH, hlt, c1, hw, hn, hp, hx]
      exact ⟨_, by omega, i + 1, by omega, rfl, by omega, fun j h hj => by
        by_cases e : j = i
        · subst e; exact hx
        · exact et j h (by omega)⟩
    | false =>
      simp [allLoop, SC.loops, sf_checks_All_int, e1, e7, e8, e9, eH, hlt, c1, hw, hn, hp, hx]
      exact ⟨xs[i], by simp, hx⟩
  · have : i = xs.length := by omega
    subst this
    simp [allLoop, SC.loops, sf_checks_All_int, e1, e7, e8, e9, eH]
    intro x hx
    obtain ⟨j, h, rfl⟩ := List.mem_iff_getElem.1 hx
    exact et j h h

/-- All: whether p holds of each number. -/
theorem run_all (xs : List Int) (hlen : xs.length < 2 ^ 62) (H : AH) (lim : Nat) (v f : Value) (p : Int → Bool) (hv : Sl H v xs.length (ints xs)) (hp : IsP H f p) :
    apL Tryd.prog pf (.func (.func 77) #[] #[]) [v, f] lim H = some (.bool (xs.all p), H) := by
  rw [apL_func _ _ _ _ _ _ (by rfl), sf_checks_All_int_eq]
  have hv0 := hv
  obtain ⟨aa, ac, ev, _⟩ := hv0
  simp [sf_checks_All_int, ev]
  generalize hS : ({ t := _, L := _, H := _, lim := _, rd := _ } : St) = S
  obtain ⟨⟨e, s1⟩, hr, q2, q3⟩ := all_loop xs hlen H v f p hv hp S (by subst hS; simp) (by subst hS; simp [ev]) (by subst hS; simp) (by subst hS; simp) (by subst hS; rfl)
  simp [allLoop, SC.loops, sf_checks_All_int] at hr
  rw [hr]
  simp only at q2 q3
  rcases q3 with ⟨rfl, h⟩ | ⟨rfl, h4, h⟩
  · simp [h, q2, pf_pure, pureF]
  · simp [h, h4, q2, pf_pure, pureF]
end Go.Proofs.YtjejcbiilimjkaaDoor
