import Derived.Test.YtnpifaanhofonaaGreatDoorLauH
import Derived.Test.YtnpifaanhofonaaGreatDoorLauL
set_option linter.all false

/- Contracts of layer 5: valid loads; whether a number is in a list. -/
namespace Go.Proofs.YtnpifaanhofonaaGreatDoor
open Go Go.RowKit

def ldOk (r : Ld) : Bool := spanIn 0 1000 (r.lo, r.hi) && (decide (0 ≤ r.ht) && decide (r.ht ≤ 50))

theorem ext_withinR (H : AH) (l h : Int) (x y : Int) (lim : Nat) : apL Tryz.prog pf (withinV H.length) [.agg #[.int .i64 x, .int .i64 y]] lim (H ++ [.rw 0 [.int .i64 l], .rw 0 [.int .i64 h]]) = some (.bool (spanIn l h (x, y)), H ++ [.rw 0 [.int .i64 l], .rw 0 [.int .i64 h]]) := by
  generalize hH : H ++ [ABlk.rw 0 [.int .i64 l], .rw 0 [.int .i64 h]] = H2
  exact (isQ_within l h H2 H.length (by subst hH; simp) (by subst hH; simp)).2 H2 (Ext.refl _) (x, y) lim

theorem run_isLoad (r : Ld) (lim : Nat) (H0 : AH) : apL Tryz.prog pf (.func (.func 95) #[] #[]) [ldV r] lim H0 = some (.bool (ldOk r), H0) := by
  rw [apL_func _ _ _ _ _ _ (by rfl), sf_launch_isLoad_eq]
  generalize hH1 : H0 ++ [ABlk.rw 0 [.int .i64 0], .rw 0 [.int .i64 1000]] = H1
  have b0 := fun lim => run_within 0 1000 lim H0
  have e0 := fun lim => ext_withinR H0 0 1000 r.lo r.hi lim
  rw [hH1] at b0 e0
  generalize hH2 : H1 ++ [ABlk.rw 0 [.int .i64 0], .rw 0 [.int .i64 50]] = H2
  have b1 := fun lim => run_between 0 50 lim H1
  have e1 := fun x lim => ext_between H1 0 50 x lim
  rw [hH2] at b1 e1
  simp only [betweenV, withinV] at b0 e0 b1 e1
  simp only [ldV]
  cases c0 : spanIn 0 1000 (r.lo, r.hi) with
  | false =>
    rw [c0] at e0
    simp [sf_launch_isLoad, b0, e0, c0, ldOk, pf_pure, pureF]
  | true =>
    rw [c0] at e0
    simp [sf_launch_isLoad, b0, e0, b1, e1, c0, ldOk, pf_pure, pureF]

def loadF : Value := .func (.func 95) #[] #[]
theorem isL_load (H : AH) : IsL H loadF ldOk := ⟨⟨by simp [loadF], rfl, rfl⟩, fun H' _ x lim => run_isLoad x lim H'⟩

/-- The error of a class with loads. -/
def loadsE (c : Cl) (l : List Ld) : Int := if clOk c = false then 50 else if 10 < l.length then 2 else if l.all ldOk = false then 52 else 0
theorem loadsE_zero {c : Cl} {l : List Ld} (h : loadsE c l = 0) : l.length ≤ 10 ∧ l.all ldOk = true := by
  unfold loadsE at h
  split at h
  · cases h
  · split at h
    · cases h
    · split at h
      · cases h
      · rename_i h1 h2 h3
        exact ⟨by omega, by simpa using h3⟩

theorem run_checkLoads (c : Cl) (l : List Ld) (hl : l.length < 2 ^ 62) (lim : Nat) (H : AH) (v : Value) (hv : Sl H v l.length (ldsV l)) :
    apL Tryz.prog pf (.func (.func 61) #[] #[]) [clV c, v] lim H = some (.int .i64 (loadsE c l), H) := by
  rw [apL_func _ _ _ _ _ _ (by rfl), sf_launch_checkLoads_eq]
  have hc := fun lim => run_launchCheck c lim H
  have ha := fun lim => run_allL l hl H lim v loadF ldOk hv (isL_load H)
  obtain ⟨aa, ac, rfl, _⟩ := hv
  simp only [loadF] at ha
  unfold loadsE
  simp only [clV] at hc ⊢
  cases h1 : clOk c with
  | false =>
    rw [h1] at hc
    simp [sf_launch_checkLoads, hc, pf_pure, pureF]
  | true =>
  rw [h1] at hc
  by_cases h2 : 10 < l.length
  · have h2' : (10 : Int) < l.length := by omega
    simp [sf_launch_checkLoads, hc, h2, h2', pf_pure, pureF]
  have h2' : ¬ (10 : Int) < l.length := by omega
  cases h3 : l.all ldOk with
  | false =>
    rw [h3] at ha
    simp [-List.all_eq_false, sf_launch_checkLoads, hc, ha, h2, h2', pf_pure, pureF]
  | true =>
    rw [h3] at ha
    simp [-List.all_eq_true, sf_launch_checkLoads, hc, ha, h2, h2', pf_pure, pureF]

def clLoop5 : SC := sf_cobleref05_CheckLoads.body.loops.headD .skip

theorem clLoop5_run (xs : List Ld) (hlen : xs.length < 2 ^ 62) (H : AH) (v : Value) (hv : Sl H v xs.length (ldsV xs)) (S : St) (h1 : tget S.t 1 = v) (h5 : tget S.t 5 = .int .i64 0) (hH : S.H = H) :
    ∃ r, exL Tryz.prog pf (.loop clLoop5) S = some r ∧ r.2.H = H ∧ ((r.1 = .exit 0 ∧ xs.all ldOk = true) ∨ (r.1 = .ret ∧ tget r.2.t 4 = .int .i64 52 ∧ xs.all ldOk = false)) := by
  have hv0 := hv
  obtain ⟨aa, ac, rfl, _⟩ := hv0
  refine loop_rule (I := fun n s' => ∃ i, i ≤ xs.length ∧ n = xs.length - i ∧ tget s'.t 1 = .slice aa xs.length ac ∧ tget s'.t 5 = .int .i64 i ∧ s'.H = H ∧ ∀ j (h : j < xs.length), j < i → ldOk xs[j] = true) ?_ xs.length S ⟨0, by omega, by omega, h1, h5, hH, by omega⟩
  rintro n s' ⟨i, hi, rfl, e1, e5, eH, et⟩
  by_cases hlt : i < xs.length
  · obtain ⟨b1, o1, ac1, e, c0, c1, c2⟩ := ldV_cells hv hlt
    cases e
    have hw : IntKind.i64.wrap ((i : Int) + 1) = (i : Int) + 1 := wrap_i64 (by omega) (by omega)
    have key : xs.all ldOk = false ∨ ldOk xs[i] = true := by
      cases hx : ldOk xs[i] with
      | true => exact .inr rfl
      | false =>
        left
        cases hy : xs.all ldOk with
        | false => rfl
        | true => rw [List.all_eq_true.1 hy _ (List.getElem_mem hlt)] at hx; cases hx
    have keyF : ldOk xs[i] = false → xs.all ldOk = false := fun h => by
      rcases key with k | k
      · exact k
      · rw [h] at k; cases k
    have keyT : ldOk xs[i] = true → ∀ j (h : j < xs.length), j < i + 1 → ldOk xs[j] = true := fun h j h1 h2 => by
      by_cases e : j = i
      · subst e; exact h
      · exact et j h1 (by omega)
    generalize hq : xs[i] = q at *
    have hok : ldOk q = (decide (0 ≤ q.lo) && decide (q.lo ≤ q.hi) && decide (q.hi ≤ 1000) && (decide (0 ≤ q.ht) && decide (q.ht ≤ 50))) := by
      unfold ldOk spanIn
      by_cases k1 : 0 ≤ q.lo <;> by_cases k2 : q.lo ≤ q.hi <;> by_cases k3 : q.hi ≤ 1000 <;> by_cases k4 : 0 ≤ q.ht <;> by_cases k5 : q.ht ≤ 50 <;> simp [k1, k2, k3, k4, k5]
    simp only [hcell] at c0 c1 c2
    cases k1 : (decide (0 ≤ q.lo) && decide (q.lo ≤ q.hi)) with
    | false =>
      rw [k1] at hok
      simp only [Bool.false_and] at hok
      simp [-List.all_eq_false, -Bool.and_eq_false_imp, -Bool.and_eq_true, clLoop5, SC.loops, sf_cobleref05_CheckLoads, e1, e5, eH, hlt, c0, c1, c2, hw, k1]
      exact keyF hok
    | true =>
    rw [k1] at hok
    by_cases k2 : q.hi ≤ 1000
    rotate_left
    · have k2' : 1000 < q.hi := by omega
      simp only [k2, decide_false, Bool.and_false, Bool.false_and] at hok
      simp [-List.all_eq_false, -Bool.and_eq_false_imp, -Bool.and_eq_true, clLoop5, SC.loops, sf_cobleref05_CheckLoads, e1, e5, eH, hlt, c0, c1, c2, hw, k1, k2']
      exact keyF hok
    have k2' : ¬ 1000 < q.hi := by omega
    cases k3 : (decide (0 ≤ q.ht) && decide (q.ht ≤ 50)) with
    | false =>
      rw [k3] at hok
      simp only [Bool.and_false] at hok
      simp [-List.all_eq_false, -Bool.and_eq_false_imp, -Bool.and_eq_true, clLoop5, SC.loops, sf_cobleref05_CheckLoads, e1, e5, eH, hlt, c0, c1, c2, hw, k1, k2', k3]
      exact keyF hok
    | true =>
      rw [k3] at hok
      simp only [k2, decide_true, Bool.and_true] at hok
      simp [-List.all_eq_false, -Bool.and_eq_false_imp, -Bool.and_eq_true, clLoop5, SC.loops, sf_cobleref05_CheckLoads, e1, e5, eH, hlt, c0, c1, c2, hw, k1, k2', k3]
      exact ⟨_, by omega, i + 1, by omega, rfl, by omega, keyT hok⟩
  · have : i = xs.length := by omega
    subst this
    simp [clLoop5, SC.loops, sf_cobleref05_CheckLoads, e1, e5, eH]
    intro x hx
    obtain ⟨j, h, e⟩ := List.mem_iff_getElem.1 hx
    rw [← e]; exact et j h h

theorem run_CheckLoads5 (c : Cl) (l : List Ld) (hl : l.length < 2 ^ 62) (lim : Nat) (H : AH) (v : Value) (hv : Sl H v l.length (ldsV l)) :
    apL Tryz.prog pf (.func (.func 33) #[] #[]) [clV c, v] lim H = some (.int .i64 (loadsE c l), H) := by
  rw [apL_func _ _ _ _ _ _ (by rfl), sf_cobleref05_CheckLoads_eq]
  have hc := fun lim => run_Check5 c lim H
  have hv0 := hv
  obtain ⟨aa, ac, ev, _⟩ := hv0
  unfold loadsE
  simp only [clV] at hc ⊢
  cases h1 : clOk c with
  | false =>
    rw [h1] at hc
    simp [sf_cobleref05_CheckLoads, hc, pf_pure, pureF]
  | true =>
  rw [h1] at hc
  by_cases h2 : 10 < l.length
  · have h2' : (10 : Int) < l.length := by omega
    simp [sf_cobleref05_CheckLoads, hc, ev, h2, h2', pf_pure, pureF]
  have h2' : ¬ (10 : Int) < l.length := by omega
  simp [-List.all_eq_true, -List.all_eq_false, sf_cobleref05_CheckLoads, hc, ev, h2, h2', pf_pure, pureF]
  generalize hS : ({ t := _, L := _, H := _, lim := _, rd := _ } : St) = S
  obtain ⟨⟨q, s1⟩, hr, q1, q2⟩ := clLoop5_run l hl H v hv S (by subst hS; simp [ev]) (by subst hS; simp) (by subst hS; rfl)
  simp [clLoop5, SC.loops, sf_cobleref05_CheckLoads] at hr
  rw [hr]
  simp only at q1 q2
  rcases q2 with ⟨rfl, h⟩ | ⟨rfl, h4, h⟩
  · simp [-List.all_eq_true, h, q1]
  · simp [-List.all_eq_false, h, h4, q1]

def ixLoopR : SC := sf_slices_Index_int_int.body.loops.headD .skip

theorem run_Index (l : List Nat) (hl : l.length < 2 ^ 62) (k : Nat) (lim : Nat) (H : AH) (v : Value) (hv : Sl H v l.length (ints (natI l))) :
    ∃ i : Int, apL Tryz.prog pf (.func (.func 122) #[] #[]) [v, .int .i64 k] lim H = some (.int .i64 i, H) ∧ decide (0 ≤ i) = l.contains k := by
  rw [apL_func _ _ _ _ _ _ (by rfl), sf_slices_Index_int_int_eq]
  have hv0 := hv
  obtain ⟨va, vc, ev, hd⟩ := hv0
  simp [sf_slices_Index_int_int, ev, pf_pure, pureF]
  generalize hS : ({ t := _, L := _, H := _, lim := _, rd := _ } : St) = S
  have key : ∃ q, exL Tryz.prog pf (.loop ixLoopR) S = some q ∧ (q.2.H = H ∧ ((q.1 = .exit 0 ∧ l.contains k = false) ∨ (q.1 = .ret ∧ (∃ i : Nat, tget q.2.t 4 = .int .i64 i) ∧ l.contains k = true))) := by
    subst ev
    refine loop_rule (I := fun m s' => ∃ j, j ≤ l.length ∧ m = l.length - j ∧ tget s'.t 0 = .slice va l.length vc ∧ tget s'.t 1 = .int .i64 k ∧ tget s'.t 7 = .int .i64 l.length ∧ tget s'.t 8 = .int .i64 j ∧ s'.H = H ∧ ∀ i (h : i < l.length), i < j → l[i] ≠ k) ?_ l.length S
      ⟨0, by omega, by omega, by subst hS; simp, by subst hS; simp, by subst hS; simp, by subst hS; simp, by subst hS; rfl, by omega⟩
    rintro m s' ⟨j, hj, rfl, e0, e1, e7, e8, eH, et⟩
    by_cases hlt : j < l.length
    rotate_left
    · have : j = l.length := by omega
      subst this
      simp [ixLoopR, SC.loops, sf_slices_Index_int_int, e0, e1, e7, e8, eH]
      intro hm
      obtain ⟨i, h, e⟩ := List.mem_iff_getElem.1 hm
      exact et i h h e
    obtain ⟨b1, o1, rfl, hc1⟩ := hd j _ (natI_get hlt)
    have hw : IntKind.i64.wrap ((j : Int) + 1) = (j : Int) + 1 := wrap_i64 (by omega) (by omega)
    have hmem := List.getElem_mem hlt
    have hne : l[j] ≠ k → ∀ i (h : i < l.length), i < j + 1 → l[i] ≠ k := fun hx i h h2 => by
      by_cases e : i = j
      · subst e; exact hx
      · exact et i h (by omega)
    generalize hlj : l[j] = p at *
    simp only [hcell] at hc1
    by_cases hx : k = p
    · subst hx
      simp [ixLoopR, SC.loops, sf_slices_Index_int_int, e0, e1, e7, e8, eH, hlt, hc1, hmem]
      exact ⟨j, rfl⟩
    · have hxI : ((k : Int) == (p : Int)) = false := by simpa using (by omega : ¬ (k : Int) = (p : Int))
      simp [ixLoopR, SC.loops, sf_slices_Index_int_int, e0, e1, e7, e8, eH, hlt, hc1, hw, hxI]
      exact ⟨_, by omega, j + 1, by omega, rfl, by omega, hne fun e => hx e.symm⟩
  obtain ⟨⟨q, s1⟩, hr, q1, q2⟩ := key
  simp [ixLoopR, SC.loops, sf_slices_Index_int_int] at hr
  rw [hr]
  simp only at q1 q2
  rcases q2 with ⟨rfl, h⟩ | ⟨rfl, ⟨i, h4⟩, h⟩
  · have h' : ¬ k ∈ l := by simpa using h
    simp [q1, h']
  · have h' : k ∈ l := by simpa using h
    simp [q1, h4, h']

theorem run_Contains (l : List Nat) (hl : l.length < 2 ^ 62) (k : Nat) (lim : Nat) (H : AH) (v : Value) (hv : Sl H v l.length (ints (natI l))) :
    apL Tryz.prog pf (.func (.func 96) #[] #[]) [v, .int .i64 k] lim H = some (.bool (l.contains k), H) := by
  rw [apL_func _ _ _ _ _ _ (by rfl), sf_slices_Contains_int_int_eq]
  obtain ⟨i, hi, h2⟩ := run_Index l hl k H.length H v hv
  have hi' : ∀ lim, ∃ i : Int, apL Tryz.prog pf (.func (.func 122) #[] #[]) [v, .int .i64 k] lim H = some (.int .i64 i, H) ∧ decide (0 ≤ i) = l.contains k := fun lim => run_Index l hl k lim H v hv
  obtain ⟨aa, ac, rfl, _⟩ := hv
  simp [sf_slices_Contains_int_int, hi, h2, pf_pure, pureF]
end Go.Proofs.YtnpifaanhofonaaGreatDoor
