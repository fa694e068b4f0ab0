import Derived.Test.YtnpifaanhofonaaGreatDoorLauA
set_option linter.all false

/- Contracts of layer 5: loads. -/
namespace Go.Proofs.YtnpifaanhofonaaGreatDoor
open Go Go.RowKit

/-- A load, as it is read. -/
structure Ld where
  (lo hi ht : Int)

def Ld.vals (r : Ld) : List Value := [.int .i64 r.lo, .int .i64 r.hi, .int .i64 r.ht]
def ldV (r : Ld) : Value := .agg #[.int .i64 r.lo, .int .i64 r.hi, .int .i64 r.ht]
def ldsV (l : List Ld) : List Value := l.flatMap Ld.vals

theorem ldsV_length : ∀ (l : List Ld), (ldsV l).length = l.length * 3
  | [] => rfl
  | r :: l => by
    have := ldsV_length l
    simp only [ldsV, List.flatMap_cons, List.length_append, List.length_cons] at this ⊢
    rw [this]
    simp [Ld.vals]
    omega

theorem ldsV_get : ∀ {l : List Ld} {i : Nat} (h : i < l.length) (j : Nat) (_ : j < 3), (ldsV l)[i * 3 + j]? = l[i].vals[j]?
  | r :: l, 0, h, j, hj => by
    have : j < r.vals.length := by simpa [Ld.vals] using hj
    simp only [ldsV, List.flatMap_cons]
    rw [List.getElem?_append_left (by omega)]
    simp
  | r :: l, i + 1, h, j, hj => by
    have := ldsV_get (l := l) (i := i) (by simpa using h) j hj
    simp only [ldsV, List.flatMap_cons] at this ⊢
    rw [List.getElem?_append_right (by simp [Ld.vals]; omega)]
    simp only [List.getElem_cons_succ]
    rw [← this]
    congr 1
    simp [Ld.vals]
    omega

/-- A function value that says of one whether p holds, and does nothing else. -/
def IsL (H : AH) (f : Value) (p : Ld → Bool) : Prop := (nl f = true ∧ isU f = false ∧ f.cells = #[f]) ∧ ∀ H', Ext H H' → ∀ x lim, apL Tryz.prog pf f [ldV x] lim H' = some (.bool (p x), H')

theorem ldV_cells {H : AH} {xs : List Ld} {v : Value} (hv : Sl H v xs.length (ldsV xs)) {i : Nat} (hi : i < xs.length) : ∃ b o c, v = .slice (some ⟨b, o, none⟩) xs.length c ∧
    hcell H b (o + i * 3) = some (.int .i64 xs[i].lo) ∧ hcell H b (o + i * 3 + 1) = some (.int .i64 xs[i].hi) ∧ hcell H b (o + i * 3 + 2) = some (.int .i64 xs[i].ht) := by
  obtain ⟨aa, ac, rfl, hd⟩ := hv
  obtain ⟨b, o, rfl, _⟩ := hd (i * 3) _ (by have := ldsV_get hi 0 (by omega); rw [Nat.add_zero] at this; exact this)
  have key : ∀ j (hj : j < 3) x, xs[i].vals[j]? = some x → hcell H b (o + i * 3 + j) = some x := by
    intro j hj x hx
    obtain ⟨b', o', e, c⟩ := hd (i * 3 + j) x ((ldsV_get hi j hj).trans hx)
    cases e
    rw [Nat.add_assoc]; exact c
  refine ⟨b, o, ac, rfl, key 0 (by omega) _ rfl, key 1 (by omega) _ rfl, key 2 (by omega) _ rfl⟩

def allLoopL : SC := sf_checks_All_api_Load.body.loops.headD .skip

theorem allLoopL_run (xs : List Ld) (hlen : xs.length < 2 ^ 62) (H : AH) (v f : Value) (p : Ld → Bool) (hv : Sl H v xs.length (ldsV xs)) (hp : IsL H f p) (S : St) (h1 : tget S.t 1 = f) (h7 : tget S.t 7 = v) (h8 : tget S.t 8 = .int .i64 xs.length) (h9 : tget S.t 9 = .int .i64 0) (hH : S.H = H) :
    ∃ r, exL Tryz.prog pf (.loop allLoopL) S = some r ∧ r.2.H = H ∧ ((r.1 = .exit 0 ∧ xs.all p = true) ∨ (r.1 = .ret ∧ tget r.2.t 4 = .bool false ∧ xs.all p = false)) := by
  have hv0 := hv
  obtain ⟨aa, ac, rfl, _⟩ := hv0
  obtain ⟨⟨hn, _⟩, hp⟩ := hp
  have hp := fun x lim => hp H (Ext.refl H) x lim
  refine loop_rule (I := fun n s' => ∃ i, i ≤ xs.length ∧ n = xs.length - i ∧ tget s'.t 1 = f ∧ tget s'.t 7 = .slice aa xs.length ac ∧ tget s'.t 8 = .int .i64 xs.length ∧ tget s'.t 9 = .int .i64 i ∧ s'.H = H ∧ ∀ j (h : j < xs.length), j < i → p xs[j] = true) ?_ xs.length S ⟨0, by omega, by omega, h1, h7, h8, h9, hH, by omega⟩
  rintro n s' ⟨i, hi, rfl, e1, e7, e8, e9, eH, et⟩
  by_cases hlt : i < xs.length
  · obtain ⟨b1, o1, ac1, e, c0, c1, c2⟩ := ldV_cells hv hlt
    cases e
    have hps : ∀ lim, apL Tryz.prog pf f [ldV xs[i]] lim H = some (.bool (p xs[i]), H) := fun lim => hp xs[i] lim
    have hw : IntKind.i64.wrap ((i : Int) + 1) = (i : Int) + 1 := wrap_i64 (by omega) (by omega)
    generalize hq : xs[i] = q at *
    simp only [hcell, ldV] at c0 c1 c2 hps
    cases hx : p q with
    | true =>
      simp [allLoopL, SC.loops, sf_checks_All_api_Load, e1, e7, e8, e9, eH, hlt, c0, c1, c2, hw, hn, hps, hx]
      exact ⟨_, by omega, i + 1, by omega, rfl, by omega, fun j h hj => by
        by_cases e : j = i
        · subst e; rw [hq]; exact hx
        · exact et j h (by omega)⟩
    | false =>
      simp [allLoopL, SC.loops, sf_checks_All_api_Load, e1, e7, e8, e9, eH, hlt, c0, c1, c2, hw, hn, hps, hx]
      exact ⟨q, by rw [← hq]; exact List.getElem_mem hlt, hx⟩
  · have : i = xs.length := by omega
    subst this
    simp [allLoopL, SC.loops, sf_checks_All_api_Load, e1, e7, e8, e9, eH]
    intro x hx
    obtain ⟨j, h, e⟩ := List.mem_iff_getElem.1 hx
    rw [← e]; exact et j h h

theorem run_allL (xs : List Ld) (hlen : xs.length < 2 ^ 62) (H : AH) (lim : Nat) (v f : Value) (p : Ld → Bool) (hv : Sl H v xs.length (ldsV xs)) (hp : IsL H f p) :
    apL Tryz.prog pf (.func (.func 94) #[] #[]) [v, f] lim H = some (.bool (xs.all p), H) := by
  rw [apL_func _ _ _ _ _ _ (by rfl), sf_checks_All_api_Load_eq]
  have hv0 := hv
  obtain ⟨aa, ac, ev, _⟩ := hv0
  simp [sf_checks_All_api_Load, ev]
  generalize hS : ({ t := _, L := _, H := _, lim := _, rd := _ } : St) = S
  obtain ⟨⟨e, s1⟩, hr, q2, q3⟩ := allLoopL_run xs hlen H v f p hv hp S (by subst hS; simp) (by subst hS; simp [ev]) (by subst hS; simp) (by subst hS; simp) (by subst hS; rfl)
  simp [allLoopL, SC.loops, sf_checks_All_api_Load] at hr
  rw [hr]
  simp only at q2 q3
  rcases q3 with ⟨rfl, h⟩ | ⟨rfl, h4, h⟩
  · simp [h, q2, pf_pure, pureF]
  · simp [h, h4, q2, pf_pure, pureF]
end Go.Proofs.YtnpifaanhofonaaGreatDoor
