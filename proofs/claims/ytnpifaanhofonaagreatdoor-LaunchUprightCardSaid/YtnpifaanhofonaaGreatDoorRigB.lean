import Derived.Test.YtnpifaanhofonaaGreatDoorRigA
set_option linter.all false

/- Contracts of layer 5: the heel of loads; Rights. -/
namespace Go.Proofs.YtnpifaanhofonaaGreatDoor
open Go Go.RowKit

/-- The sum over the first k loads that are chosen. -/
def wS (g : Ld → Int) (l : List Ld) (q : Nat → Bool) : Nat → Int
  | 0 => 0
  | k + 1 => wS g l q k + (if q k = true then (match l[k]? with | some r => g r | none => 0) else 0)
theorem wS_congr {g : Ld → Int} {l : List Ld} {q q' : Nat → Bool} : ∀ (k : Nat) (_ : ∀ i, i < k → q i = q' i), wS g l q k = wS g l q' k
  | 0, _ => rfl
  | k + 1, h => by
    rw [wS, wS, wS_congr k (fun i hi => h i (by omega)), h k (by omega)]
theorem wS_bound {g : Ld → Int} {l : List Ld} {q : Nat → Bool} (h : ∀ r ∈ l, 0 ≤ g r ∧ g r ≤ 50000) : ∀ k : Nat, 0 ≤ wS g l q k ∧ wS g l q k ≤ 50000 * (k : Int)
  | 0 => by simp [wS]
  | k + 1 => by
    have ih := wS_bound (q := q) h k
    rw [wS]
    split
    · cases hk : l[k]? with
      | none => simp only []; omega
      | some r =>
        have := h r (List.mem_of_getElem? hk)
        simp only []; omega
    · omega
theorem wS_get {g : Ld → Int} {l : List Ld} {q : Nat → Bool} {k : Nat} (h : k < l.length) : wS g l q (k + 1) = wS g l q k + (if q k = true then g l[k] else 0) := by
  rw [wS, List.getElem?_eq_getElem h]

def gLo (r : Ld) : Int := r.lo * r.ht
def gHi (r : Ld) : Int := r.hi * r.ht
theorem ldOk_iff {r : Ld} (h : ldOk r = true) : 0 ≤ r.lo ∧ r.lo ≤ r.hi ∧ r.hi ≤ 1000 ∧ 0 ≤ r.ht ∧ r.ht ≤ 50 := by
  unfold ldOk spanIn at h
  simp only [Bool.and_eq_true, decide_eq_true_eq] at h
  omega
theorem mul_le_50 {a b : Int} (h1 : 0 ≤ a) (h2 : a ≤ 1000) (h3 : 0 ≤ b) (h4 : b ≤ 50) : 0 ≤ a * b ∧ a * b ≤ 50000 :=
  ⟨Int.mul_nonneg h1 h3, by have := Int.mul_le_mul h2 h4 h3 (by omega : (0 : Int) ≤ 1000); omega⟩
theorem g_ok {l : List Ld} (h : l.all ldOk = true) : (∀ r ∈ l, 0 ≤ gLo r ∧ gLo r ≤ 50000) ∧ (∀ r ∈ l, 0 ≤ gHi r ∧ gHi r ≤ 50000) := by
  refine ⟨fun r hr => ?_, fun r hr => ?_⟩ <;> have := ldOk_iff (List.all_eq_true.1 h r hr)
  · exact mul_le_50 (by omega) (by omega) (by omega) (by omega)
  · exact mul_le_50 (by omega) (by omega) (by omega) (by omega)

def heLoop : SC := sf_launch_heelOf.body.loops.headD .skip
def awayQ (w : List Nat) (i : Nat) : Bool := !w.contains i

set_option maxHeartbeats 1000000 in
theorem he_loop (l : List Ld) (hl : l.length ≤ 10) (hok : l.all ldOk = true) (w : List Nat) (hw : w.length < 2 ^ 62) (H : AH) (lv wv : Value) (hlv : Sl H lv l.length (ldsV l)) (hwv : Sl H wv w.length (ints (natI w))) (S : St) (hH : S.H = H)
    (h1 : tget S.t 1 = wv) (h4 : tget S.t 4 = .pointer (some ⟨4, 0, some 0⟩)) (h5 : tget S.t 5 = .pointer (some ⟨5, 0, some 0⟩)) (h8 : tget S.t 8 = lv) (h9 : tget S.t 9 = .int .i64 l.length) (h10 : tget S.t 10 = .int .i64 0)
    (L4 : lget S.L 4 = some (0, .cells [.int .i64 0, .int .i64 0])) (L5 : lget S.L 5 = some (0, .cells [.int .i64 0, .int .i64 0])) :
    ∃ q, exL Tryz.prog pf (.loop heLoop) S = some q ∧ (q.1 = .exit 0 ∧ q.2.H = H ∧ tget q.2.t 4 = .pointer (some ⟨4, 0, some 0⟩) ∧ tget q.2.t 5 = .pointer (some ⟨5, 0, some 0⟩) ∧ lget q.2.L 4 = some (0, .cells [.int .i64 0, .int .i64 0]) ∧ lget q.2.L 5 = some (0, .cells [.int .i64 (wS gLo l (awayQ w) l.length), .int .i64 (wS gHi l (awayQ w) l.length)])) := by
  obtain ⟨hb1, hb2⟩ := g_ok hok
  have hc := fun (k : Nat) lim => run_Contains w hw k lim H wv hwv
  have hlv0 := hlv
  have hwv0 := hwv
  obtain ⟨la, lc, rfl, _⟩ := hlv0
  obtain ⟨wa, wc, rfl, _⟩ := hwv0
  refine loop_rule (I := fun m s' => ∃ j, j ≤ l.length ∧ m = l.length - j ∧ tget s'.t 1 = .slice wa w.length wc ∧ tget s'.t 4 = .pointer (some ⟨4, 0, some 0⟩) ∧ tget s'.t 5 = .pointer (some ⟨5, 0, some 0⟩) ∧ tget s'.t 8 = .slice la l.length lc ∧ tget s'.t 9 = .int .i64 l.length ∧ tget s'.t 10 = .int .i64 j ∧ s'.H = H ∧
      lget s'.L 4 = some (0, .cells [.int .i64 0, .int .i64 0]) ∧ lget s'.L 5 = some (0, .cells [.int .i64 (wS gLo l (awayQ w) j), .int .i64 (wS gHi l (awayQ w) j)])) ?_ l.length S
    ⟨0, by omega, by omega, h1, h4, h5, h8, h9, h10, hH, L4, by simpa [wS] using L5⟩
  rintro m s' ⟨j, hj, rfl, e1, e4, e5, e8, e9, e10, eH, f4, f5⟩
  by_cases hlt : j < l.length
  rotate_left
  · have : j = l.length := by omega
    subst this
    simp [heLoop, SC.loops, sf_launch_heelOf, e1, e4, e5, e8, e9, e10, eH, f4, f5]
  obtain ⟨b, o, c, e, c0, c1, c2⟩ := ldV_cells hlv hlt
  cases e
  have hwr : IntKind.i64.wrap ((j : Int) + 1) = (j : Int) + 1 := wrap_i64 (by omega) (by omega)
  have hcj := fun lim => hc j lim
  have s1 := wS_get (g := gLo) (q := awayQ w) hlt
  have s2 := wS_get (g := gHi) (q := awayQ w) hlt
  have k1 := wS_bound (q := awayQ w) hb1 (j + 1)
  have k2 := wS_bound (q := awayQ w) hb2 (j + 1)
  have m1 := hb1 l[j] (List.getElem_mem hlt)
  have m2 := hb2 l[j] (List.getElem_mem hlt)
  cases hx : w.contains j with
  | true =>
    have ha : awayQ w j = false := by unfold awayQ; rw [hx]; rfl
    rw [if_neg (by rw [ha]; simp), Int.add_zero] at s1 s2
    rw [hx] at hcj
    generalize hq : l[j] = q at *
    simp only [hcell] at c0 c1 c2
    cases hL7 : lget s'.L 7 with
    | none =>
      simp [-List.contains_eq_mem, heLoop, SC.loops, sf_launch_heelOf, e1, e4, e5, e8, e9, e10, eH, f4, f5, hlt, c0, c1, c2, hwr, hcj, hL7]
      exact ⟨_, by omega, j + 1, by omega, rfl, by omega, by rw [← s1], by rw [← s2]⟩
    | some p =>
      simp [-List.contains_eq_mem, heLoop, SC.loops, sf_launch_heelOf, e1, e4, e5, e8, e9, e10, eH, f4, f5, hlt, c0, c1, c2, hwr, hcj, hL7]
      exact ⟨_, by omega, j + 1, by omega, rfl, by omega, by rw [← s1], by rw [← s2]⟩
  | false =>
    have ha : awayQ w j = true := by unfold awayQ; rw [hx]; rfl
    rw [if_pos ha] at s1 s2
    rw [hx] at hcj
    have w1 : IntKind.i64.wrap (l[j].lo * l[j].ht) = l[j].lo * l[j].ht := by unfold gLo at m1; exact wrap_i64 (by omega) (by omega)
    have w2 : IntKind.i64.wrap (l[j].hi * l[j].ht) = l[j].hi * l[j].ht := by unfold gHi at m2; exact wrap_i64 (by omega) (by omega)
    have w3 : IntKind.i64.wrap (wS gLo l (awayQ w) j + l[j].lo * l[j].ht) = wS gLo l (awayQ w) (j + 1) := by rw [show wS gLo l (awayQ w) j + l[j].lo * l[j].ht = wS gLo l (awayQ w) (j + 1) from s1.symm]; exact wrap_i64 (by omega) (by omega)
    have w4 : IntKind.i64.wrap (wS gHi l (awayQ w) j + l[j].hi * l[j].ht) = wS gHi l (awayQ w) (j + 1) := by rw [show wS gHi l (awayQ w) j + l[j].hi * l[j].ht = wS gHi l (awayQ w) (j + 1) from s2.symm]; exact wrap_i64 (by omega) (by omega)
    generalize hq : l[j] = q at *
    simp only [hcell] at c0 c1 c2
    cases hL7 : lget s'.L 7 with
    | none =>
      simp [-List.contains_eq_mem, heLoop, SC.loops, sf_launch_heelOf, e1, e4, e5, e8, e9, e10, eH, f4, f5, hlt, c0, c1, c2, hwr, hcj, hL7, w1, w2, w3, w4]
      exact ⟨_, by omega, j + 1, by omega, rfl, by omega, rfl, rfl⟩
    | some p =>
      simp [-List.contains_eq_mem, heLoop, SC.loops, sf_launch_heelOf, e1, e4, e5, e8, e9, e10, eH, f4, f5, hlt, c0, c1, c2, hwr, hcj, hL7, w1, w2, w3, w4]
      exact ⟨_, by omega, j + 1, by omega, rfl, by omega, rfl, rfl⟩

theorem run_heelOf (l : List Ld) (hl : l.length ≤ 10) (hok : l.all ldOk = true) (w : List Nat) (hw : w.length < 2 ^ 62) (lim : Nat) (H : AH) (lv wv : Value) (hlv : Sl H lv l.length (ldsV l)) (hwv : Sl H wv w.length (ints (natI w))) :
    apL Tryz.prog pf (.func (.func 62) #[] #[]) [lv, wv] lim H = some (.agg #[.int .i64 (wS gLo l (awayQ w) l.length), .int .i64 (wS gHi l (awayQ w) l.length)], H) := by
  rw [apL_func _ _ _ _ _ _ (by rfl), sf_launch_heelOf_eq]
  have hlv0 := hlv
  obtain ⟨la, lc, ev, _⟩ := hlv0
  simp [-Array.all_toList, sf_launch_heelOf, ev, pf_pure, pureF]
  generalize hS : ({ t := _, L := _, H := _, lim := _, rd := _ } : St) = S
  obtain ⟨⟨q, s1⟩, hr, q1, q2, q3, q4, q5, q6⟩ := he_loop l hl hok w hw H lv wv hlv hwv S (by subst hS; rfl) (by subst hS; simp) (by subst hS; simp) (by subst hS; simp) (by subst hS; simp [ev]) (by subst hS; simp) (by subst hS; simp) (by subst hS; simp) (by subst hS; simp)
  simp [heLoop, SC.loops, sf_launch_heelOf] at hr
  rw [hr]
  simp only at q1 q2 q3 q4 q5 q6
  subst q1
  simp [-Array.all_toList, q2, q3, q4, q5, q6]

/-- Rights: whether it surely does, whether it may, the error. -/
def rightsD (c : Cl) (l : List Ld) : Bool × Bool × Int :=
  if loadsE c l ≠ 0 then (false, false, loadsE c l) else (decide (wS gHi l (fun _ => true) l.length ≤ c.mom), decide (wS gLo l (fun _ => true) l.length ≤ c.mom), 0)

theorem rightsD_ok {c : Cl} {l : List Ld} (h : loadsE c l = 0) : rightsD c l = (decide (wS gHi l (fun _ => true) l.length ≤ c.mom), decide (wS gLo l (fun _ => true) l.length ≤ c.mom), 0) := by
  unfold rightsD
  rw [if_neg (by simpa using h)]
theorem rightsD_no {c : Cl} {l : List Ld} (h : ¬ loadsE c l = 0) : rightsD c l = (false, false, loadsE c l) := by
  unfold rightsD
  rw [if_pos h]

theorem run_Rights (c : Cl) (l : List Ld) (hl : l.length < 2 ^ 62) (lim : Nat) (H : AH) (lv : Value) (hlv : Sl H lv l.length (ldsV l)) :
    apL Tryz.prog pf (.func (.func 26) #[] #[]) [clV c, lv] lim H = some (.tuple #[.bool (rightsD c l).1, .bool (rightsD c l).2.1, .int .i64 (rightsD c l).2.2], H) := by
  rw [apL_func _ _ _ _ _ _ (by rfl), sf_launch_Rights_eq]
  have hk := fun lim => run_checkLoads c l hl lim H lv hlv
  have hlv0 := hlv
  obtain ⟨la, lc, ev, _⟩ := hlv0
  by_cases h0 : loadsE c l = 0
  · obtain ⟨h10, hok⟩ := loadsE_zero h0
    rw [h0] at hk
    have hh := fun lim => run_heelOf l h10 hok [] (by simp) lim H lv (.slice none 0 0) hlv Sl.nil
    rw [wS_congr l.length (fun i _ => show awayQ [] i = true by simp [awayQ]), wS_congr (g := gHi) l.length (fun i _ => show awayQ [] i = true by simp [awayQ])] at hh
    rw [rightsD_ok h0]
    simp only [clV, ev] at hk hh ⊢
    simp [sf_launch_Rights, hk, hh, pf_pure, pureF]
  · rw [rightsD_no h0]
    simp only [clV, ev] at hk ⊢
    have h0' : (loadsE c l != 0) = true := by simpa using h0
    simp [sf_launch_Rights, hk, h0', pf_pure, pureF]

def rrLoop : SC := sf_cobleref05_Rights.body.loops.headD .skip

set_option maxHeartbeats 1000000 in
theorem rr_loop (l : List Ld) (hl : l.length ≤ 10) (hok : l.all ldOk = true) (H : AH) (lv : Value) (hlv : Sl H lv l.length (ldsV l)) (S : St) (hH : S.H = H)
    (h1 : tget S.t 1 = lv) (h7 : tget S.t 7 = .int .i64 0) (h8 : tget S.t 8 = .int .i64 0) (h9 : tget S.t 9 = .int .i64 0) :
    ∃ q, exL Tryz.prog pf (.loop rrLoop) S = some q ∧ (q.1 = .exit 0 ∧ q.2.H = H ∧ tget q.2.t 2 = tget S.t 2 ∧ q.2.L = S.L ∧ tget q.2.t 7 = .int .i64 (wS gLo l (fun _ => true) l.length) ∧ tget q.2.t 8 = .int .i64 (wS gHi l (fun _ => true) l.length)) := by
  obtain ⟨hb1, hb2⟩ := g_ok hok
  have hlv0 := hlv
  obtain ⟨la, lc, rfl, _⟩ := hlv0
  refine loop_rule (I := fun m s' => ∃ j, j ≤ l.length ∧ m = l.length - j ∧ tget s'.t 1 = .slice la l.length lc ∧ tget s'.t 9 = .int .i64 j ∧ s'.H = H ∧ tget s'.t 2 = tget S.t 2 ∧ s'.L = S.L ∧ tget s'.t 7 = .int .i64 (wS gLo l (fun _ => true) j) ∧ tget s'.t 8 = .int .i64 (wS gHi l (fun _ => true) j)) ?_ l.length S
    ⟨0, by omega, by omega, h1, h9, hH, rfl, rfl, h7, h8⟩
  rintro m s' ⟨j, hj, rfl, e1, e9, eH, e2, eL, e7, e8⟩
  by_cases hlt : j < l.length
  rotate_left
  · have : j = l.length := by omega
    subst this
    simp [rrLoop, SC.loops, sf_cobleref05_Rights, e1, e2, e7, e8, e9, eH, eL]
  obtain ⟨b, o, c, e, c0, c1, c2⟩ := ldV_cells hlv hlt
  cases e
  have hwr : IntKind.i64.wrap ((j : Int) + 1) = (j : Int) + 1 := wrap_i64 (by omega) (by omega)
  have s1 := wS_get (g := gLo) (q := fun _ => true) hlt
  have s2 := wS_get (g := gHi) (q := fun _ => true) hlt
  have k1 := wS_bound (q := fun _ => true) hb1 (j + 1)
  have k2 := wS_bound (q := fun _ => true) hb2 (j + 1)
  have m1 := hb1 l[j] (List.getElem_mem hlt)
  have m2 := hb2 l[j] (List.getElem_mem hlt)
  simp only [if_true] at s1 s2
  have w1 : IntKind.i64.wrap (l[j].lo * l[j].ht) = l[j].lo * l[j].ht := by unfold gLo at m1; exact wrap_i64 (by omega) (by omega)
  have w2 : IntKind.i64.wrap (l[j].hi * l[j].ht) = l[j].hi * l[j].ht := by unfold gHi at m2; exact wrap_i64 (by omega) (by omega)
  have w3 : IntKind.i64.wrap (wS gLo l (fun _ => true) j + l[j].lo * l[j].ht) = wS gLo l (fun _ => true) (j + 1) := by rw [show wS gLo l (fun _ => true) j + l[j].lo * l[j].ht = wS gLo l (fun _ => true) (j + 1) from s1.symm]; exact wrap_i64 (by omega) (by omega)
  have w4 : IntKind.i64.wrap (wS gHi l (fun _ => true) j + l[j].hi * l[j].ht) = wS gHi l (fun _ => true) (j + 1) := by rw [show wS gHi l (fun _ => true) j + l[j].hi * l[j].ht = wS gHi l (fun _ => true) (j + 1) from s2.symm]; exact wrap_i64 (by omega) (by omega)
  generalize hq : l[j] = q at *
  simp only [hcell] at c0 c1 c2
  simp [rrLoop, SC.loops, sf_cobleref05_Rights, e1, e2, e7, e8, e9, eH, eL, hlt, c0, c1, c2, hwr, w1, w2, w3, w4]
  exact ⟨_, by omega, j + 1, by omega, rfl, by omega, rfl, rfl⟩

theorem run_refRights (c : Cl) (l : List Ld) (hl : l.length < 2 ^ 62) (lim : Nat) (H : AH) (lv : Value) (hlv : Sl H lv l.length (ldsV l)) :
    apL Tryz.prog pf (.func (.func 27) #[] #[]) [clV c, lv] lim H = some (.tuple #[.bool (rightsD c l).1, .bool (rightsD c l).2.1, .int .i64 (rightsD c l).2.2], H) := by
  rw [apL_func _ _ _ _ _ _ (by rfl), sf_cobleref05_Rights_eq]
  have hk := fun lim => run_CheckLoads5 c l hl lim H lv hlv
  have hlv0 := hlv
  obtain ⟨la, lc, ev, _⟩ := hlv0
  by_cases h0 : loadsE c l = 0
  · obtain ⟨h10, hok⟩ := loadsE_zero h0
    rw [h0] at hk
    rw [rightsD_ok h0]
    simp only [clV, ev] at hk ⊢
    simp [sf_cobleref05_Rights, hk, pf_pure, pureF]
    generalize hS : ({ t := _, L := _, H := _, lim := _, rd := _ } : St) = S
    obtain ⟨⟨q, s1⟩, hr, q1, q2, q3, q4, q5, q6⟩ := rr_loop l h10 hok H lv hlv S (by subst hS; rfl) (by subst hS; simp [ev]) (by subst hS; simp) (by subst hS; simp) (by subst hS; simp)
    simp [rrLoop, SC.loops, sf_cobleref05_Rights] at hr
    rw [hr]
    simp only at q1 q2 q3 q4 q5 q6
    subst q1
    have x2 : tget S.t 2 = .pointer (some ⟨2, 0, some 0⟩) := by subst hS; simp
    have xL : lget S.L 2 = some (0, .cells [.int .i64 c.dr, .int .i64 c.seas, .int .i64 c.mv, .int .i64 c.idle, .int .i64 c.res, .int .i64 c.seats, .int .i64 c.mom]) := by subst hS; simp
    rw [x2] at q3
    rw [← q4] at xL
    simp [q2, q3, q5, q6, xL]
  · rw [rightsD_no h0]
    simp only [clV, ev] at hk ⊢
    have h0' : (loadsE c l != 0) = true := by simpa using h0
    simp [sf_cobleref05_Rights, hk, h0', pf_pure, pureF]
end Go.Proofs.YtnpifaanhofonaaGreatDoor
