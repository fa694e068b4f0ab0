import Derived.Test.YtnpifaanhofonaaGreatDoorSamE
import Derived.Test.YtnpifaanhofonaaGreatDoorRigE
set_option linter.all false

/- LaunchUpright: sets of loads, the law's loops, the law. -/
namespace Go.Proofs.YtnpifaanhofonaaGreatDoor
open Go Go.RowKit

theorem asc_pw : ∀ (l : List Nat), Asc l → l.Pairwise (· < ·)
  | [], _ => List.Pairwise.nil
  | a :: l, h => List.Pairwise.cons (asc_le l a h) (asc_pw l (asc_tail h))
theorem asc_idx {l : List Nat} (h : Asc l) {i j : Nat} (hi : i < l.length) (hj : j < l.length) (hij : i < j) : l[i] < l[j] :=
  List.pairwise_iff_getElem.1 (asc_pw l h) i j hi hj hij

/-- The loads that are chosen. -/
def pickL (l : List Ld) (q : Nat → Bool) : Nat → List Ld
  | 0 => []
  | k + 1 => pickL l q k ++ (if q k = true then (match l[k]? with | some r => [r] | none => []) else [])
theorem pickL_yes {l : List Ld} {q : Nat → Bool} {k : Nat} (hk : k < l.length) (h : q k = true) : pickL l q (k + 1) = pickL l q k ++ [l[k]] := by
  rw [pickL, if_pos h, List.getElem?_eq_getElem hk]
theorem pickL_no {l : List Ld} {q : Nat → Bool} {k : Nat} (h : q k = false) : pickL l q (k + 1) = pickL l q k := by
  rw [pickL, if_neg (by rw [h]; simp), List.append_nil]
theorem pickL_mem {l : List Ld} {q : Nat → Bool} : ∀ (k : Nat), ∀ r ∈ pickL l q k, r ∈ l
  | 0 => by simp [pickL]
  | k + 1 => fun r hr => by
    rw [pickL] at hr
    rcases List.mem_append.1 hr with h | h
    · exact pickL_mem k r h
    · split at h
      · cases hx : l[k]? with
        | none => rw [hx] at h; simp at h
        | some y =>
          rw [hx] at h
          simp at h
          subst h
          exact List.mem_of_getElem? hx
      · simp at h
theorem pickL_len {l : List Ld} {q : Nat → Bool} : ∀ (k : Nat) (_ : k ≤ l.length), (pickL l q k).length = ((List.range k).filter q).length
  | 0, _ => by simp [pickL]
  | k + 1, hk => by
    rw [List.range_succ, List.filter_append, List.length_append, ← pickL_len (l := l) k (by omega)]
    cases h : q k with
    | true => rw [pickL_yes (by omega) h]; simp [h]
    | false => rw [pickL_no h]; simp [h]
theorem wS_app {g : Ld → Int} {l m : List Ld} : ∀ (k : Nat) (_ : k ≤ l.length), wS g (l ++ m) (fun _ => true) k = wS g l (fun _ => true) k
  | 0, _ => rfl
  | k + 1, h => by
    rw [wS, wS, wS_app (l := l) (m := m) k (by omega), List.getElem?_append_left (show k < l.length by omega)]
theorem wS_pick {g : Ld → Int} {l : List Ld} {q : Nat → Bool} : ∀ (k : Nat) (_ : k ≤ l.length), wS g (pickL l q k) (fun _ => true) (pickL l q k).length = wS g l q k
  | 0, _ => by simp [pickL, wS]
  | k + 1, hk => by
    have ih := wS_pick (g := g) (l := l) (q := q) k (by omega)
    cases h : q k with
    | true =>
      rw [pickL_yes (by omega) h, List.length_append, wS_get (q := q) (by omega), if_pos h, ← ih]
      simp only [List.length_singleton]
      rw [wS_get (by simp), if_pos rfl, wS_app _ (Nat.le_refl _)]
      simp
    | false =>
      rw [pickL_no h, wS_get (q := q) (by omega), if_neg (by rw [h]; simp), ih, Int.add_zero]
theorem pickL_loadsE {c : Cl} {l : List Ld} {q : Nat → Bool} {k : Nat} (hk : k ≤ l.length) (h : loadsE c l = 0) : loadsE c (pickL l q k) = 0 := by
  obtain ⟨h10, hok⟩ := loadsE_zero h
  have hc : clOk c = true := by
    unfold loadsE at h
    split at h
    · cases h
    · rename_i h1; simpa using h1
  have h1 : (pickL l q k).length ≤ 10 := by
    rw [pickL_len k hk]
    have := List.length_filter_le q (List.range k)
    simp at this
    omega
  have h2 : (pickL l q k).all ldOk = true := List.all_eq_true.2 fun r hr => List.all_eq_true.1 hok r (pickL_mem k r hr)
  unfold loadsE
  rw [if_neg (by simp [hc]), if_neg (by omega), if_neg (by simp only [h2]; simp)]

theorem wS_mono {g g' : Ld → Int} {l : List Ld} {q : Nat → Bool} (h : ∀ r ∈ l, g r ≤ g' r) : ∀ k, wS g l q k ≤ wS g' l q k
  | 0 => by simp [wS]
  | k + 1 => by
    have ih := wS_mono (q := q) h k
    rw [wS, wS]
    split
    · cases hx : l[k]? with
      | none => simp only []; omega
      | some r =>
        have := h r (List.mem_of_getElem? hx)
        simp only []; omega
    · omega
theorem gLo_le {l : List Ld} (h : l.all ldOk = true) : ∀ r ∈ l, gLo r ≤ gHi r := fun r hr => by
  have := ldOk_iff (List.all_eq_true.1 h r hr)
  exact Int.mul_le_mul_of_nonneg_right (by omega) (by omega)

theorem mom_nonneg {c : Cl} (h : clOk c = true) : 0 ≤ c.mom := by
  unfold clOk at h
  simp only [Bool.and_eq_true, decide_eq_true_eq] at h
  omega
theorem wS_none {g : Ld → Int} {l : List Ld} {q : Nat → Bool} : ∀ (k : Nat) (_ : ∀ i, i < k → q i = false), wS g l q k = 0
  | 0, _ => rfl
  | k + 1, h => by
    rw [wS, wS_none k (fun i hi => h i (by omega)), if_neg (by rw [h k (by omega)]; simp)]
    rfl

/-- What is taken of Shed's answer. -/
structure ShedOk (c : Cl) (l : List Ld) (w : List Nat) : Prop where
  fits : wS gHi l (awayQ w) l.length ≤ c.mom
  asc : Asc w
  lt : ∀ i ∈ w, i < l.length
  least : ∀ m, Asc m → (∀ i ∈ m, i < l.length) → wS gHi l (awayQ m) l.length ≤ c.mom → w.length ≤ m.length

theorem befB_len {l m : List Nat} (h : befB l m = true) : l.length ≤ m.length := by
  unfold befB at h
  split at h
  · omega
  · simp at h; omega

theorem shed_ok {c : Cl} {l : List Ld} (h : loadsE c l = 0) : ShedOk c l (shedD c l).1 ∧ (shedD c l).2 = 0 := by
  obtain ⟨h10, hok⟩ := loadsE_zero h
  have hc : clOk c = true := by
    unfold loadsE at h
    split at h
    · cases h
    · rename_i h1; simpa using h1
  rw [shedD_ok h]
  refine ⟨?_, rfl⟩
  cases hx : (listsM l.length).find? (pS c l) with
  | none =>
    exfalso
    have := find_none hx (List.range l.length) (asc_pair _ List.pairwise_lt_range) (fun i hi => List.mem_range.1 hi)
    unfold pS at this
    rw [wS_none _ (fun i hi => by unfold awayQ; simp [hi])] at this
    have := mom_nonneg hc
    simp at *
    omega
  | some w =>
    obtain ⟨⟨h1, h2, h3⟩, h4⟩ := find_first hx
    simp only [Option.getD_some]
    refine ⟨by simpa [pS] using h1, h2, h3, fun m k1 k2 k3 => ?_⟩
    rcases h4 m k1 k2 (by simpa [pS] using k3) with e | e
    · rw [e]; exact Nat.le_refl _
    · exact befB_len e

/-- Fewer than all but the loads of Shed: some that are kept together surely don't outnumber them. -/
theorem upright_least {c : Cl} {l : List Ld} {w : List Nat} (h : ShedOk c l w) (q : Nat → Bool) (hq : wS gHi l q l.length ≤ c.mom) : (pickL l q l.length).length ≤ (pickL l (awayQ w) l.length).length := by
  rw [pickL_len _ (Nat.le_refl _), pickL_len _ (Nat.le_refl _)]
  have hm := h.least ((List.range l.length).filter fun i => !q i) (asc_pair _ (List.pairwise_lt_range.filter _)) (fun i hi => List.mem_range.1 (List.mem_filter.1 hi).1) (by
    rw [wS_congr (q' := q) l.length fun i hi => by
      unfold awayQ
      cases hqi : q i <;> simp [hi, hqi]]
    exact hq)
  have hw : w = (List.range l.length).filter fun i => w.contains i := asc_ext _ _ h.asc (asc_pair _ (List.pairwise_lt_range.filter _)) fun i => by
    rw [List.mem_filter, List.mem_range]
    constructor
    · intro hi; exact ⟨h.lt i hi, by simpa using hi⟩
    · intro hi; simpa using hi.2
  have key : ∀ (q : Nat → Bool) (n : Nat), ((List.range n).filter q).length + ((List.range n).filter fun i => !q i).length = n := by
    intro q n
    induction n with
    | zero => simp
    | succ n ih =>
      rw [List.range_succ, List.filter_append, List.filter_append, List.length_append, List.length_append]
      cases hq : q n <;> simp [hq] <;> omega
  have k1 := key q l.length
  have k2 : ((List.range l.length).filter fun i => w.contains i).length + ((List.range l.length).filter fun i => !w.contains i).length = l.length := key (fun i => w.contains i) l.length
  have hwl : w.length = ((List.range l.length).filter fun i => w.contains i).length := by rw [← hw]
  have e : (List.range l.length).filter (awayQ w) = (List.range l.length).filter fun i => !w.contains i := rfl
  rw [e]
  omega

def upLoop0 : SC := sf_coblelaw05_LaunchUpright.body.loops.headD .skip
def upLoop1 : SC := sf_coblelaw05_LaunchUpright.body.loops.tail.headD .skip
def upH : SC := match upLoop0 with | .seq a _ => a | _ => .skip
def upT : SC := match upLoop0 with | .seq _ (.seq _ a) => a | _ => .skip
def upP1 : SC := match upLoop0 with | .seq _ (.seq (.block _ (.seq a _)) _) => a | _ => .skip
def upP2 : SC := match upLoop0 with | .seq _ (.seq (.block _ (.seq _ a)) _) => a | _ => .skip
theorem upLoop0_eq : upLoop0 = .seq upH (.seq (.block 1 (.seq upP1 upP2)) upT) := rfl

/-- A list of loads of one's own. -/
def OwnL (n0 : Nat) (A : AH) (b : Nat) (v : Value) (m : List Ld) : Prop := (m = [] ∧ v = .slice none 0 0) ∨ (m ≠ [] ∧ n0 ≤ b ∧ v = .slice (some ⟨b, 0, none⟩) m.length (m.length + 1) ∧ A[b]? = some (.rw 3 (ldsV m)))
theorem OwnL.sl {n0 : Nat} {A : AH} {b : Nat} {v : Value} {m : List Ld} (h : OwnL n0 A b v m) : Sl A v m.length (ldsV m) := by
  rcases h with ⟨rfl, rfl⟩ | ⟨_, _, rfl, hb⟩
  · exact ⟨none, 0, rfl, fun j v hv => by simp [ldsV] at hv⟩
  · refine ⟨_, _, rfl, fun j x hx => ⟨b, 0, rfl, ?_⟩⟩
    simp only [hcell, hb, Nat.zero_add]
    exact hx
/-- Blocks that are laid behind, and one that dies. -/
theorem OwnL.push {n0 : Nat} {A : AH} {b : Nat} {v : Value} {m : List Ld} (h : OwnL n0 A b v m) (X : AH) : OwnL n0 (A ++ X) b v m := by
  rcases h with h | ⟨h1, h2, h3, h4⟩
  · exact .inl h
  · exact .inr ⟨h1, h2, h3, own_get h4 X⟩
theorem OwnL.set {n0 : Nat} {A : AH} {a b : Nat} {v : Value} {m : List Ld} (h : OwnL n0 A b v m) (hab : a ≠ b) (x : ABlk) : OwnL n0 (A.set a x) b v m := by
  rcases h with h | ⟨h1, h2, h3, h4⟩
  · exact .inl h
  · exact .inr ⟨h1, h2, h3, by rw [List.getElem?_set_ne hab, h4]⟩
/-- A place that is not a given one. -/
theorem OwnL.other {n0 : Nat} {A : AH} {b : Nat} {v : Value} {m : List Ld} (h : OwnL n0 A b v m) {N : Nat} (hN : A.length ≤ N) : ∃ b', b' ≠ N ∧ (b' = b ∨ m = []) := by
  rcases h with h | ⟨h1, h2, h3, h4⟩
  · exact ⟨N + 1, by omega, .inr h.1⟩
  · have := (List.getElem?_eq_some_iff.1 h4).1
    exact ⟨b, by omega, .inl rfl⟩
theorem OwnL.move {n0 : Nat} {A : AH} {b b' : Nat} {v : Value} {m : List Ld} (h : OwnL n0 A b v m) (hb : b' = b ∨ m = []) : OwnL n0 A b' v m := by
  rcases hb with rfl | e
  · exact h
  · rcases h with h | h
    · exact .inl h
    · exact absurd e h.1

theorem ldsV_snoc (m : List Ld) (r : Ld) : ldsV (m ++ [r]) = ldsV m ++ [.int .i64 r.lo, .int .i64 r.hi, .int .i64 r.ht] := by simp [ldsV, Ld.vals]

theorem own_cells3 {A : AH} {b : Nat} {cs : List Value} (h : A[b]? = some (.rw 3 cs)) (L : LS) (x : AH) : cellsAt L (A ++ x) ⟨b, 0, none⟩ cs.length = some cs := by
  have hbl : b < A.length := (List.getElem?_eq_some_iff.1 h).1
  refine cellsAt_of cs 0 fun m y hy => ?_
  simp only [hcell, Nat.zero_add]
  rw [List.getElem?_append_left hbl, h]
  exact hy

theorem own_set3 {A : AH} {b : Nat} {z : ABlk} (h : A[b]? = some z) (x y : AH) : (A ++ x).set b .dead ++ y = A.set b .dead ++ (x ++ y) := own_set h x y

/-- What is as it was. -/
def UpK (s s' : St) : Prop := (tget s'.t 1 = tget s.t 1 ∧ tget s'.t 3 = tget s.t 3 ∧ tget s'.t 12 = tget s.t 12 ∧ tget s'.t 17 = tget s.t 17 ∧ tget s'.t 2 = tget s.t 2 ∧ tget s'.t 4 = tget s.t 4 ∧ tget s'.t 9 = tget s.t 9 ∧ tget s'.t 10 = tget s.t 10 ∧ s'.L = s.L ∧ s'.lim = s.lim)

/-- The heap, and the place of a list, after an append. -/
def appH (A : AH) (a : Nat) (m : List Ld) (r : Ld) : AH := if m = [] then A ++ [.rw 3 r.vals, .rw 3 r.vals] else A.set a .dead ++ [.rw 3 r.vals, .rw 3 (ldsV m ++ r.vals)]
def appV (A : AH) (m : List Ld) : Value := .slice (some ⟨A.length + 1, 0, none⟩) (m.length + 1) (m.length + 2)
theorem app_own {n0 : Nat} {A : AH} {a : Nat} {v : Value} {m : List Ld} (h : OwnL n0 A a v m) (hn : n0 ≤ A.length) (r : Ld) : OwnL n0 (appH A a m r) (A.length + 1) (appV A m) (m ++ [r]) := by
  refine .inr ⟨by simp, by omega, by simp [appV], ?_⟩
  unfold appH
  split
  · rename_i e
    subst e
    rw [List.getElem?_append_right (by omega)]
    simp [ldsV]
  · rw [List.getElem?_append_right (by simp)]
    simp [ldsV]
theorem app_other {n0 : Nat} {A : AH} {a b : Nat} {v : Value} {m m' : List Ld} (h : OwnL n0 A b v m') (hab : a ≠ b) (r : Ld) : OwnL n0 (appH A a m r) b v m' := by
  unfold appH
  split
  · exact h.push _
  · exact (h.set hab _).push _
theorem app_aft {H A : AH} {a : Nat} {v : Value} {m : List Ld} (hA : Aft H A) (h : OwnL H.length A a v m) (r : Ld) : Aft H (appH A a m r) := by
  unfold appH
  split
  · exact hA.push _
  · rename_i e
    rcases h with h | h
    · exact absurd h.1 e
    · exact (hA.set h.2.1 _).push _

set_option maxHeartbeats 2000000 in
/-- A load that is shed. -/
theorem up_yes (w : List Nat) (hwl : w.length ≤ 10) (wv : Value) (s : St) (hwA : Sl s.H wv w.length (ints (natI w))) (j k : Nat) (hk : w[k]? = some j) (e12 : tget s.t 12 = wv) (e16 : tget s.t 16 = .int .i64 k) (e17 : tget s.t 17 = .int .i64 j) :
    ∃ s', exL Tryz.prog pf upP1 s = some (.normal, s') ∧ (UpK s s' ∧ s'.H = s.H ∧ tget s'.t 14 = tget s.t 14 ∧ tget s'.t 15 = tget s.t 15 ∧ tget s'.t 16 = .int .i64 ((k : Int) + 1)) := by
  obtain ⟨A, hA⟩ : ∃ A, s.H = A := ⟨_, rfl⟩
  rw [hA] at hwA
  obtain ⟨wa, wc, ew, hd⟩ := hwA
  have hkl : k < w.length := (List.getElem?_eq_some_iff.1 hk).1
  have hkj : w[k] = j := (List.getElem?_eq_some_iff.1 hk).2
  obtain ⟨b1, o1', ewa, hc1⟩ := hd k _ (natI_get hkl)
  rw [hkj] at hc1
  subst ewa
  simp only [hcell] at hc1
  have hw : IntKind.i64.wrap ((k : Int) + 1) = (k : Int) + 1 := wrap_i64 (by omega) (by omega)
  simp [UpK, upP1, upLoop0, SC.loops, sf_coblelaw05_LaunchUpright, e12, ew, e16, e17, hkl, hc1, hA, hw]

set_option maxHeartbeats 2000000 in
/-- A load that is kept. -/
theorem up_no (l : List Ld) (w : List Nat) (hwl : w.length ≤ 10) (wv lv : Value) (s : St) (hwA : Sl s.H wv w.length (ints (natI w))) (hlA : Sl s.H lv l.length (ldsV l)) (j k : Nat) (hj : j < l.length) (hk : ¬ w[k]? = some j) (e1 : tget s.t 1 = lv) (e12 : tget s.t 12 = wv) (e16 : tget s.t 16 = .int .i64 k) (e17 : tget s.t 17 = .int .i64 j)
    (n0 a : Nat) (hlim : s.lim ≤ n0) (m : List Ld) (hm : m.length ≤ 10) (o : OwnL n0 s.H a (tget s.t 14) m) :
    ∃ s', exL Tryz.prog pf upP1 s = some (.normal, s') ∧ (UpK s s' ∧ s'.H = appH s.H a m l[j] ∧ tget s'.t 14 = appV s.H m ∧ tget s'.t 15 = tget s.t 15 ∧ tget s'.t 16 = .int .i64 k) := by
  obtain ⟨A, hA⟩ : ∃ A, s.H = A := ⟨_, rfl⟩
  rw [hA] at hwA hlA o ⊢
  obtain ⟨bl, ol, lc, el, c0, c1, c2⟩ := ldV_cells hlA hj
  simp only [hcell] at c0 c1 c2
  have hm1 : 1 ≤ maxA := by decide
  have hmx : m.length + 1 ≤ maxA := Nat.le_trans (show _ ≤ 100 by omega) (by decide)
  obtain ⟨wa, wc, ew, hd⟩ := hwA
  have hcond : (∃ b1 o1, wa = some ⟨b1, o1, none⟩ ∧ ∃ h : k < w.length, hcell A b1 (o1 + k) = some (.int .i64 (w[k] : Nat)) ∧ ¬ w[k] = j) ∨ ¬ k < w.length := by
    by_cases h : k < w.length
    · obtain ⟨b1, o1', ewa, hc1⟩ := hd k _ (natI_get h)
      exact .inl ⟨b1, o1', ewa, h, hc1, fun e => hk (by rw [List.getElem?_eq_getElem h, e])⟩
    · exact .inr h
  unfold appH appV Ld.vals
  rcases hcond with ⟨b1, o1, rfl, hkl, hc1, hne⟩ | hkl
  · have hne' : (((w[k] : Nat) : Int) == (j : Int)) = false := by simpa using (by omega : ¬ ((w[k] : Nat) : Int) = (j : Int))
    simp only [hcell] at hc1
    generalize w[k] = x at *
    rcases o with ⟨rfl, e14⟩ | ⟨h0, hb0, e14, hbA⟩
    · simp [-oneC, oneC_slice, oneC_int, UpK, upP1, upLoop0, SC.loops, sf_coblelaw05_LaunchUpright, e1, el, e12, ew, e14, e16, e17, hkl, hc1, hne', hA, hj, c0, c1, c2, hm1]
    · have hl0 : ¬ m.length = 0 := by simpa using h0
      have hcA := fun L x => own_cells3 hbA L x
      rw [ldsV_length] at hcA
      have hbX := fun x => own_get hbA x
      have hsX := fun x y => own_set3 hbA x y
      obtain ⟨q1, q2⟩ := oneC_lds m
      have hci := ldsV_length m
      generalize ldsV m = cl at *
      simp [-oneC, oneC_slice, oneC_int, UpK, upP1, upLoop0, SC.loops, sf_coblelaw05_LaunchUpright, e1, el, e12, ew, e14, e16, e17, hkl, hc1, hne', hA, hj, c0, c1, c2, hm1, h0, hl0, hmx, hcA, hbX, hsX, q1, q2, hci, Nat.le_trans hlim hb0]
  · have hklI : ¬ (k : Int) < (w.length : Int) := by omega
    rcases o with ⟨rfl, e14⟩ | ⟨h0, hb0, e14, hbA⟩
    · simp [-oneC, oneC_slice, oneC_int, UpK, upP1, upLoop0, SC.loops, sf_coblelaw05_LaunchUpright, e1, el, e12, ew, e14, e16, e17, hkl, hA, hj, c0, c1, c2, hm1]
    · have hl0 : ¬ m.length = 0 := by simpa using h0
      have hcA := fun L x => own_cells3 hbA L x
      rw [ldsV_length] at hcA
      have hbX := fun x => own_get hbA x
      have hsX := fun x y => own_set3 hbA x y
      obtain ⟨q1, q2⟩ := oneC_lds m
      have hci := ldsV_length m
      generalize ldsV m = cl at *
      simp [-oneC, oneC_slice, oneC_int, UpK, upP1, upLoop0, SC.loops, sf_coblelaw05_LaunchUpright, e1, el, e12, ew, e14, e16, e17, hkl, hA, hj, c0, c1, c2, hm1, h0, hl0, hmx, hcA, hbX, hsX, q1, q2, hci, Nat.le_trans hlim hb0]

/-- Whether a bit of a number is set. -/
def bitQ (set : Int) (i : Nat) : Bool := decide ((set.fdiv (2 ^ i)) % 2 = 1)

set_option maxHeartbeats 2000000 in
theorem up_bit (set : Int) (l : List Ld) (hl : l.length ≤ 10) (lv : Value) (s : St) (hlA : Sl s.H lv l.length (ldsV l)) (j : Nat) (hj : j < l.length) (e1 : tget s.t 1 = lv) (e3 : tget s.t 3 = .int .i64 set) (e17 : tget s.t 17 = .int .i64 j)
    (n0 a : Nat) (hlim : s.lim ≤ n0) (m : List Ld) (hm : m.length ≤ 10) (o : OwnL n0 s.H a (tget s.t 15) m) :
    ∃ s', exL Tryz.prog pf upP2 s = some (.normal, s') ∧ (UpK s s' ∧ tget s'.t 14 = tget s.t 14 ∧ tget s'.t 16 = tget s.t 16 ∧ s'.H = (if bitQ set j then appH s.H a m l[j] else s.H) ∧ tget s'.t 15 = (if bitQ set j then appV s.H m else tget s.t 15)) := by
  obtain ⟨A, hA⟩ : ∃ A, s.H = A := ⟨_, rfl⟩
  rw [hA] at hlA o ⊢
  obtain ⟨bl, ol, lc, el, c0, c1, c2⟩ := ldV_cells hlA hj
  simp only [hcell] at c0 c1 c2
  have hm1 : 1 ≤ maxA := by decide
  have hmx : m.length + 1 ≤ maxA := Nat.le_trans (show _ ≤ 100 by omega) (by decide)
  have hu : IntKind.u64.wrap (j : Int) = (j : Int) := wrap_u64j (by omega)
  have hmin : min j IntKind.i64.bits = j := by have e : IntKind.i64.bits = 64 := rfl; omega
  have hand := and_one (set.fdiv (2 ^ min j IntKind.i64.bits))
  rw [hmin] at hand
  unfold appH appV Ld.vals
  cases hb : bitQ set j with
  | false =>
    have hx : ((set.fdiv (2 ^ j)) % 2 == 1) = false := by unfold bitQ at hb; simpa using hb
    generalize set.fdiv (2 ^ j) % 2 = x at *
    simp [UpK, upP2, upLoop0, SC.loops, sf_coblelaw05_LaunchUpright, e1, el, e3, e17, hu, hmin, hand, hx, hA]
  | true =>
    have hx : (set.fdiv (2 ^ j)) % 2 = 1 := by unfold bitQ at hb; simpa using hb
    rw [hx] at hand
    rcases o with ⟨rfl, e15⟩ | ⟨h0, hb0, e15, hbA⟩
    · simp [-oneC, oneC_slice, oneC_int, UpK, upP2, upLoop0, SC.loops, sf_coblelaw05_LaunchUpright, e1, el, e3, e15, e17, hu, hmin, hand, hA, hj, c0, c1, c2, hm1]
    · have hl0 : ¬ m.length = 0 := by simpa using h0
      have hcA := fun L x => own_cells3 hbA L x
      rw [ldsV_length] at hcA
      have hbX := fun x => own_get hbA x
      have hsX := fun x y => own_set3 hbA x y
      obtain ⟨q1, q2⟩ := oneC_lds m
      have hci := ldsV_length m
      generalize ldsV m = cl at *
      simp [-oneC, oneC_slice, oneC_int, UpK, upP2, upLoop0, SC.loops, sf_coblelaw05_LaunchUpright, e1, el, e3, e15, e17, hu, hmin, hand, hA, hj, c0, c1, c2, hm1, h0, hl0, hmx, hcA, hbX, hsX, q1, q2, hci, Nat.le_trans hlim hb0]

/-- How many of a list are below j, as the loop counts them. -/
def CntI (w : List Nat) (j k : Nat) : Prop := k ≤ w.length ∧ (∀ i (h : i < w.length), i < k → w[i] < j) ∧ (∀ i (h : i < w.length), k ≤ i → j ≤ w[i])
theorem cnt_yes {w : List Nat} (ha : Asc w) {j k : Nat} (h : CntI w j k) (hk : w[k]? = some j) : CntI w (j + 1) (k + 1) ∧ awayQ w j = false := by
  obtain ⟨h1, h2, h3⟩ := h
  have hkl : k < w.length := (List.getElem?_eq_some_iff.1 hk).1
  have hkj : w[k] = j := (List.getElem?_eq_some_iff.1 hk).2
  refine ⟨⟨by omega, fun i hi hik => ?_, fun i hi hik => ?_⟩, ?_⟩
  · by_cases e : i = k
    · subst e; omega
    · have := h2 i hi (by omega); omega
  · have := asc_idx ha hkl hi (by omega); omega
  · have : j ∈ w := by rw [← hkj]; exact List.getElem_mem hkl
    unfold awayQ; simp [this]
theorem cnt_no {w : List Nat} (ha : Asc w) {j k : Nat} (h : CntI w j k) (hk : ¬ w[k]? = some j) : CntI w (j + 1) k ∧ awayQ w j = true := by
  obtain ⟨h1, h2, h3⟩ := h
  have key : ∀ i (h : i < w.length), k ≤ i → w[i] ≠ j := by
    intro i hi hik e
    by_cases e2 : i = k
    · subst e2; exact hk (by rw [List.getElem?_eq_getElem hi, e])
    · have hkl : k < w.length := by omega
      have := asc_idx ha hkl hi (by omega)
      have := h3 k hkl (Nat.le_refl _)
      omega
  refine ⟨⟨h1, fun i hi hik => ?_, fun i hi hik => ?_⟩, ?_⟩
  · have := h2 i hi hik; omega
  · have := h3 i hi hik
    have := key i hi hik
    omega
  · have : ¬ j ∈ w := fun hm => by
      obtain ⟨i, hi, e⟩ := List.mem_iff_getElem.1 hm
      by_cases hik : i < k
      · have := h2 i hi hik; omega
      · exact key i hi (by omega) e
    unfold awayQ; simp [this]

theorem up_head (l : List Ld) (s : St) (la : Option Addr) (lc j : Nat) (e1 : tget s.t 1 = .slice la l.length lc) (e17 : tget s.t 17 = .int .i64 j) :
    ∃ s', exL Tryz.prog pf upH s = some (if j < l.length then .normal else .exit 0, s') ∧ (UpK s s' ∧ s'.H = s.H ∧ tget s'.t 14 = tget s.t 14 ∧ tget s'.t 15 = tget s.t 15 ∧ tget s'.t 16 = tget s.t 16) := by
  by_cases h : j < l.length
  · simp [UpK, upH, upLoop0, SC.loops, sf_coblelaw05_LaunchUpright, e1, e17, h]
  · simp [UpK, upH, upLoop0, SC.loops, sf_coblelaw05_LaunchUpright, e1, e17, h]
theorem up_tail (s : St) (j : Nat) (hj : j < 1000) (e17 : tget s.t 17 = .int .i64 j) :
    ∃ s', exL Tryz.prog pf upT s = some (.normal, s') ∧ (tget s'.t 17 = .int .i64 ((j : Int) + 1) ∧ tget s'.t 1 = tget s.t 1 ∧ tget s'.t 3 = tget s.t 3 ∧ tget s'.t 12 = tget s.t 12 ∧ tget s'.t 2 = tget s.t 2 ∧ tget s'.t 4 = tget s.t 4 ∧ tget s'.t 9 = tget s.t 9 ∧ tget s'.t 10 = tget s.t 10 ∧ s'.L = s.L ∧ s'.lim = s.lim ∧ s'.H = s.H ∧ tget s'.t 14 = tget s.t 14 ∧ tget s'.t 15 = tget s.t 15 ∧ tget s'.t 16 = tget s.t 16) := by
  have hw : IntKind.i64.wrap ((j : Int) + 1) = (j : Int) + 1 := wrap_i64 (by omega) (by omega)
  simp [upT, upLoop0, SC.loops, sf_coblelaw05_LaunchUpright, e17, hw]

theorem appH_len (A : AH) (a : Nat) (m : List Ld) (r : Ld) : (appH A a m r).length = A.length + 2 := by
  unfold appH; split <;> simp

set_option maxHeartbeats 2000000 in
theorem up_loop0 (set : Int) (l : List Ld) (hl : l.length ≤ 10) (w : List Nat) (hwl : w.length ≤ 10) (ha : Asc w) (H : AH) (lv wv : Value) (hlv : Sl H lv l.length (ldsV l)) (hwv : Sl H wv w.length (ints (natI w))) (S : St) (hH : S.H = H) (hlim : S.lim ≤ H.length)
    (h1 : tget S.t 1 = lv) (h3 : tget S.t 3 = .int .i64 set) (h12 : tget S.t 12 = wv) (h14 : tget S.t 14 = .slice none 0 0) (h15 : tget S.t 15 = .slice none 0 0) (h16 : tget S.t 16 = .int .i64 0) (h17 : tget S.t 17 = .int .i64 0) :
    ∃ q, exL Tryz.prog pf (.loop upLoop0) S = some q ∧ (q.1 = .exit 0 ∧ (∃ k : Nat, tget q.2.t 16 = .int .i64 k ∧ CntI w l.length k) ∧ Aft H q.2.H ∧ (∃ a, OwnL H.length q.2.H a (tget q.2.t 14) (pickL l (awayQ w) l.length)) ∧ (∃ b, OwnL H.length q.2.H b (tget q.2.t 15) (pickL l (bitQ set) l.length)) ∧
      tget q.2.t 1 = lv ∧ tget q.2.t 12 = wv ∧ tget q.2.t 2 = tget S.t 2 ∧ tget q.2.t 4 = tget S.t 4 ∧ tget q.2.t 9 = tget S.t 9 ∧ tget q.2.t 10 = tget S.t 10 ∧ q.2.L = S.L ∧ q.2.lim = S.lim) := by
  refine loop_rule (I := fun n s => ∃ j k a b, j ≤ l.length ∧ n = l.length - j ∧ CntI w j k ∧ a ≠ b ∧ tget s.t 16 = .int .i64 (k : Nat) ∧ tget s.t 17 = .int .i64 (j : Nat) ∧ Aft H s.H ∧ OwnL H.length s.H a (tget s.t 14) (pickL l (awayQ w) j) ∧ OwnL H.length s.H b (tget s.t 15) (pickL l (bitQ set) j) ∧
      tget s.t 1 = lv ∧ tget s.t 3 = .int .i64 set ∧ tget s.t 12 = wv ∧ tget s.t 2 = tget S.t 2 ∧ tget s.t 4 = tget S.t 4 ∧ tget s.t 9 = tget S.t 9 ∧ tget s.t 10 = tget S.t 10 ∧ s.L = S.L ∧ s.lim = S.lim) ?_ l.length S
    ⟨0, 0, 0, 1, by omega, by omega, ⟨by omega, fun i h hi => by omega, fun i h hi => by omega⟩, by omega, h16, h17, by rw [hH]; exact Aft.refl H, .inl ⟨rfl, h14⟩, .inl ⟨rfl, h15⟩, h1, h3, h12, rfl, rfl, rfl, rfl, rfl, rfl⟩
  rintro n s ⟨j, k, a, b, hj, rfl, hC, hab, e16, e17, eA, o1, o2, e1, e3, e12, e2, e4, e9, e10, eL, el⟩
  obtain ⟨la, lc, elv, _⟩ := hlv
  obtain ⟨s0, r0, ⟨x1, x3, x12, x17, x2, x4, x9, x10, xL, xl⟩, x0, x14, x15, x16⟩ := up_head l s la lc j (by rw [e1, elv]) e17
  rw [upLoop0_eq, exL_seq, r0]
  by_cases hlt : j < l.length
  rotate_left
  · have : j = l.length := by omega
    subst this
    rw [if_neg hlt]
    refine ⟨_, rfl, ?_⟩
    simp only
    exact ⟨trivial, ⟨k, by rw [x16, e16], hC⟩, by rw [x0]; exact eA, ⟨a, by rw [x0, x14]; exact o1⟩, ⟨b, by rw [x0, x15]; exact o2⟩, by rw [x1, e1], by rw [x12, e12], by rw [x2, e2], by rw [x4, e4], by rw [x9, e9], by rw [x10, e10], by rw [xL, eL], by rw [xl, el]⟩
  rw [if_pos hlt]
  have hlvH : Sl H lv l.length (ldsV l) := ⟨la, lc, elv, by assumption⟩
  have hml : ∀ (q : Nat → Bool), (pickL l q j).length ≤ 10 := fun q => by
    rw [pickL_len j hj]
    have := List.length_filter_le q (List.range j)
    simp at this
    omega
  have hw0 : Sl s0.H wv w.length (ints (natI w)) := by rw [x0]; exact hwv.ext eA.ext
  have hl0 : Sl s0.H lv l.length (ldsV l) := by rw [x0]; exact hlvH.ext eA.ext
  have hn := eA.le
  have ex0 : s0.lim ≤ H.length := by rw [xl, el]; exact hlim
  obtain ⟨s1, k1, a1, b1, r1, ⟨y1, y3, y12, y17, y2, y4, y9, y10, yL, yl⟩, hC1, y16, yA, p1, p2, hab1⟩ : ∃ s1 k1 a1 b1, exL Tryz.prog pf upP1 s0 = some (.normal, s1) ∧ UpK s0 s1 ∧ CntI w (j + 1) k1 ∧ tget s1.t 16 = .int .i64 (k1 : Nat) ∧ Aft H s1.H ∧ OwnL H.length s1.H a1 (tget s1.t 14) (pickL l (awayQ w) (j + 1)) ∧ OwnL H.length s1.H b1 (tget s1.t 15) (pickL l (bitQ set) j) ∧ a1 ≠ b1 := by
    by_cases hk : w[k]? = some j
    · obtain ⟨s1, r1, y, yH, y14, y15, y16⟩ := up_yes w hwl wv s0 hw0 j k hk (by rw [x12, e12]) (by rw [x16, e16]) (by rw [x17, e17])
      obtain ⟨c1, c2⟩ := cnt_yes ha hC hk
      refine ⟨s1, k + 1, a, b, r1, y, c1, by rw [y16]; rfl, by rw [yH, x0]; exact eA, ?_, ?_, hab⟩
      · rw [pickL_no c2, yH, x0, y14, x14]; exact o1
      · rw [yH, x0, y15, x15]; exact o2
    · have o1' : OwnL H.length s0.H a (tget s0.t 14) (pickL l (awayQ w) j) := by rw [x0, x14]; exact o1
      have o2' : OwnL H.length s0.H b (tget s0.t 15) (pickL l (bitQ set) j) := by rw [x0, x15]; exact o2
      obtain ⟨s1, r1, y, yH, y14, y15, y16⟩ := up_no l w hwl wv lv s0 hw0 hl0 j k hlt hk (by rw [x1, e1]) (by rw [x12, e12]) (by rw [x16, e16]) (by rw [x17, e17]) H.length a ex0 _ (hml _) o1'
      obtain ⟨c1, c2⟩ := cnt_no ha hC hk
      obtain ⟨b', hb1, hb2⟩ := o2'.other (N := s0.H.length + 1) (by omega)
      refine ⟨s1, k, s0.H.length + 1, b', r1, y, c1, y16, ?_, ?_, ?_, fun e => hb1 e.symm⟩
      · rw [yH]; exact app_aft (by rw [x0]; exact eA) o1' _
      · rw [pickL_yes hlt c2, yH, y14]; exact app_own o1' (by rw [x0]; exact hn) _
      · rw [yH, y15]; exact (app_other o2' hab _).move hb2
  have hw1 : Sl s1.H wv w.length (ints (natI w)) := hwv.ext yA.ext
  have hl1 : Sl s1.H lv l.length (ldsV l) := hlvH.ext yA.ext
  obtain ⟨s2, r2, ⟨z1, z3, z12, z17, z2, z4, z9, z10, zL, zl⟩, z14, z16, zH, z15⟩ := up_bit set l hl lv s1 hl1 j hlt (by rw [y1, x1, e1]) (by rw [y3, x3, e3]) (by rw [y17, x17, e17]) H.length b1 (by rw [yl]; exact ex0) _ (hml _) p2
  have hf : ∃ a2 b2, a2 ≠ b2 ∧ Aft H s2.H ∧ OwnL H.length s2.H a2 (tget s2.t 14) (pickL l (awayQ w) (j + 1)) ∧ OwnL H.length s2.H b2 (tget s2.t 15) (pickL l (bitQ set) (j + 1)) := by
    cases hb : bitQ set j with
    | false =>
      rw [hb, if_neg (by simp)] at zH z15
      exact ⟨a1, b1, hab1, by rw [zH]; exact yA, by rw [zH, z14]; exact p1, by rw [pickL_no hb, zH, z15]; exact p2⟩
    | true =>
      rw [hb, if_pos rfl] at zH z15
      obtain ⟨a', ha1, ha2⟩ := p1.other (N := s1.H.length + 1) (by omega)
      refine ⟨a', s1.H.length + 1, ha1, ?_, ?_, ?_⟩
      · rw [zH]; exact app_aft yA p2 _
      · rw [zH, z14]; exact (app_other p1 (fun e => hab1 e.symm) _).move ha2
      · rw [pickL_yes hlt hb, zH, z15]; exact app_own p2 yA.le _
  obtain ⟨a2, b2, hab2, zA, q1, q2⟩ := hf
  obtain ⟨s3, r3, t17, t1, t3, t12, t2, t4, t9, t10, tL, tl, tH, t14, t15, t16⟩ := up_tail s2 j (by omega) (by rw [z17, y17, x17, e17])
  simp only [exL_seq, exL_block, r1, r2, r3]
  refine ⟨_, rfl, ?_⟩
  simp only
  exact ⟨l.length - (j + 1), by omega, j + 1, k1, a2, b2, by omega, rfl, hC1, hab2, by rw [t16, z16, y16], by rw [t17]; rfl, by rw [tH]; exact zA, by rw [tH, t14]; exact q1, by rw [tH, t15]; exact q2,
    by rw [t1, z1, y1, x1, e1], by rw [t3, z3, y3, x3, e3], by rw [t12, z12, y12, x12, e12], by rw [t2, z2, y2, x2, e2], by rw [t4, z4, y4, x4, e4], by rw [t9, z9, y9, x9, e9], by rw [t10, z10, y10, x10, e10], by rw [tL, zL, yL, xL, eL], by rw [tl, zl, yl, xl, el]⟩

/-- The weights' heel. -/
def sW (ws : List Int) (l : List Ld) : Nat → Int
  | 0 => 0
  | k + 1 => sW ws l k + (match ws[k]?, l[k]? with | some x, some r => x * r.ht | _, _ => 0)
theorem sW_get {ws : List Int} {l : List Ld} {k : Nat} (h : k < ws.length) (h' : k < l.length) : sW ws l (k + 1) = sW ws l k + ws[k] * l[k].ht := by
  rw [sW, List.getElem?_eq_getElem h, List.getElem?_eq_getElem h']
def InW (ws : List Int) (l : List Ld) (k : Nat) : Prop := ∀ i (h : i < ws.length) (h' : i < l.length), i < k → l[i].lo ≤ ws[i] ∧ ws[i] ≤ l[i].hi
theorem sW_between {ws : List Int} {l : List Ld} (hok : l.all ldOk = true) (hwl : ws.length = l.length) : ∀ k (_ : k ≤ l.length) (_ : InW ws l k), wS gLo l (fun _ => true) k ≤ sW ws l k ∧ sW ws l k ≤ wS gHi l (fun _ => true) k
  | 0, _, _ => by simp [sW, wS]
  | k + 1, hk, h => by
    obtain ⟨i1, i2⟩ := sW_between hok hwl k (by omega) (fun i h1 h2 h3 => h i h1 h2 (by omega))
    have hx := h k (by omega) (by omega) (by omega)
    rw [sW_get (by omega) (by omega), wS_get (by omega), wS_get (by omega), if_pos rfl, if_pos rfl]
    have hr := ldOk_iff (List.all_eq_true.1 hok _ (List.getElem_mem (show k < l.length by omega)))
    have m1 : l[k].lo * l[k].ht ≤ ws[k] * l[k].ht := Int.mul_le_mul_of_nonneg_right hx.1 (by omega)
    have m2 : ws[k] * l[k].ht ≤ l[k].hi * l[k].ht := Int.mul_le_mul_of_nonneg_right hx.2 (by omega)
    unfold gLo gHi at *
    omega

set_option maxHeartbeats 2000000 in
theorem up_loop1 (l : List Ld) (hl : l.length ≤ 10) (hok : l.all ldOk = true) (ws : List Int) (hwl : ws.length = l.length) (H : AH) (hG : H[waysG]? = some (.ro waysV)) (lv wv : Value) (hlv : Sl H lv l.length (ldsV l)) (hwv : Sl H wv ws.length (ints ws)) (S : St) (hH : S.H = H)
    (h1 : tget S.t 1 = lv) (h2 : tget S.t 2 = wv) (h24 : tget S.t 24 = .int .i64 0) (h25 : tget S.t 25 = .int .i64 0) :
    ∃ q, exL Tryz.prog pf (.loop upLoop1) S = some q ∧ ((q.1 = .ret ∧ tget q.2.t 8 = .bool true ∧ q.2.H = H) ∨ (q.1 = .exit 2 ∧ q.2.H = H ∧ InW ws l l.length ∧ tget q.2.t 24 = .int .i64 (sW ws l l.length) ∧ tget q.2.t 4 = tget S.t 4 ∧ tget q.2.t 9 = tget S.t 9 ∧ tget q.2.t 10 = tget S.t 10 ∧ q.2.L = S.L)) := by
  obtain ⟨hb1, hb2⟩ := g_ok hok
  have hw := fun lim => run_works5 lim H hG
  have hlv0 := hlv
  obtain ⟨la, lc, rfl, _⟩ := hlv0
  obtain ⟨wa, wc, rfl, hd⟩ := hwv
  refine loop_rule (I := fun m s' => ∃ j, j ≤ l.length ∧ m = l.length - j ∧ tget s'.t 1 = .slice la l.length lc ∧ tget s'.t 2 = .slice wa ws.length wc ∧ tget s'.t 25 = .int .i64 j ∧ s'.H = H ∧ InW ws l j ∧ tget s'.t 24 = .int .i64 (sW ws l j) ∧ tget s'.t 4 = tget S.t 4 ∧ tget s'.t 9 = tget S.t 9 ∧ tget s'.t 10 = tget S.t 10 ∧ s'.L = S.L) ?_ l.length S
    ⟨0, by omega, by omega, h1, h2, h25, hH, fun i _ _ h => by omega, h24, rfl, rfl, rfl, rfl⟩
  rintro m s' ⟨j, hj, rfl, e1, e2, e25, eH, eI, e24, e4, e9, e10, eL⟩
  by_cases hlt : j < l.length
  rotate_left
  · have : j = l.length := by omega
    subst this
    simp [upLoop1, SC.loops, sf_coblelaw05_LaunchUpright, e1, e25, eH, e24, e4, e9, e10, eL]
    exact eI
  have hltw : j < ws.length := by omega
  obtain ⟨b, o, c, e, c0, c1, c2⟩ := ldV_cells hlv hlt
  cases e
  obtain ⟨b1, o1, rfl, hc1⟩ := hd j (.int .i64 ws[j]) (by simp [ints, hltw])
  have hwr : IntKind.i64.wrap ((j : Int) + 1) = (j : Int) + 1 := wrap_i64 (by omega) (by omega)
  have hr := ldOk_iff (List.all_eq_true.1 hok _ (List.getElem_mem hlt))
  simp only [hcell] at c0 c1 c2 hc1
  by_cases k1 : ws[j] < l[j].lo
  · generalize l[j] = r at *
    generalize ws[j] = x at *
    simp [upLoop1, SC.loops, sf_coblelaw05_LaunchUpright, e1, e2, e25, eH, e24, e4, e9, e10, eL, hlt, hltw, c0, c1, c2, hc1, k1, hw]
  by_cases k2 : l[j].hi < ws[j]
  · generalize l[j] = r at *
    generalize ws[j] = x at *
    simp [upLoop1, SC.loops, sf_coblelaw05_LaunchUpright, e1, e2, e25, eH, e24, e4, e9, e10, eL, hlt, hltw, c0, c1, c2, hc1, k1, k2, hw]
  have hIn : InW ws l (j + 1) := fun i h h' hi => by
    by_cases e : i = j
    · subst e; omega
    · exact eI i h h' (by omega)
  have hs := sW_get hltw hlt
  have hbt := sW_between hok hwl (j + 1) (by omega) hIn
  have q1 := wS_bound (q := fun _ => true) hb1 (j + 1)
  have q2 := wS_bound (q := fun _ => true) hb2 (j + 1)
  have hm := mul_le_50 (a := ws[j]) (b := l[j].ht) (by omega) (by omega) (by omega) (by omega)
  have w1 : IntKind.i64.wrap (ws[j] * l[j].ht) = ws[j] * l[j].ht := wrap_i64 (by omega) (by omega)
  have w2 : IntKind.i64.wrap (sW ws l j + ws[j] * l[j].ht) = sW ws l (j + 1) := by rw [← hs]; exact wrap_i64 (by omega) (by omega)
  generalize l[j] = r at *
  generalize ws[j] = x at *
  simp [upLoop1, SC.loops, sf_coblelaw05_LaunchUpright, e1, e2, e25, eH, e24, e4, e9, e10, eL, hlt, hltw, c0, c1, c2, hc1, k1, k2, w1, w2, hwr]
  exact ⟨_, by omega, j + 1, by omega, rfl, by omega, hIn, rfl⟩

theorem wS_awayNil {g : Ld → Int} {l : List Ld} (k : Nat) : wS g l (awayQ []) k = wS g l (fun _ => true) k := wS_congr k fun i _ => by simp [awayQ]

theorem shed_nil {c : Cl} {l : List Ld} {w : List Nat} (h : ShedOk c l w) (hs : wS gHi l (fun _ => true) l.length ≤ c.mom) : w.length = 0 := by
  have := h.least [] trivial (by simp) (by rw [wS_awayNil]; exact hs)
  simpa using this
theorem shed_some {c : Cl} {l : List Ld} {w : List Nat} (h : ShedOk c l w) (hs : ¬ wS gHi l (fun _ => true) l.length ≤ c.mom) : ¬ w.length = 0 := fun e => by
  have e' : w = [] := List.eq_nil_of_length_eq_zero e
  have := h.fits
  rw [e', wS_awayNil] at this
  exact hs this

theorem rights_pick {c : Cl} {l : List Ld} (h : loadsE c l = 0) (q : Nat → Bool) : (rightsD c (pickL l q l.length)).1 = decide (wS gHi l q l.length ≤ c.mom) ∧ (rightsD c (pickL l q l.length)).2.2 = 0 := by
  rw [rightsD_ok (pickL_loadsE (Nat.le_refl _) h)]
  refine ⟨?_, rfl⟩
  simp only
  rw [wS_pick _ (Nat.le_refl _)]

/-- However many loads. -/
theorem run_CheckLoads5' (c : Cl) (l : List Ld) (lim : Nat) (H : AH) (v : Value) (hv : Sl H v l.length (ldsV l)) :
    apL Tryz.prog pf (.func (.func 33) #[] #[]) [clV c, v] lim H = some (.int .i64 (loadsE c l), H) := by
  by_cases h2 : 10 < l.length
  rotate_left
  · exact run_CheckLoads5 c l (by omega) lim H v hv
  rw [apL_func _ _ _ _ _ _ (by rfl), sf_cobleref05_CheckLoads_eq]
  have hc := fun lim => run_Check5 c lim H
  obtain ⟨aa, ac, ev, _⟩ := hv
  unfold loadsE
  have h2' : (10 : Int) < l.length := by omega
  simp only [clV] at hc ⊢
  cases h1 : clOk c with
  | false =>
    rw [h1] at hc
    simp [sf_cobleref05_CheckLoads, hc, pf_pure, pureF]
  | true =>
    rw [h1] at hc
    simp [sf_cobleref05_CheckLoads, hc, ev, h2, h2', pf_pure, pureF]

set_option maxHeartbeats 8000000 in
theorem upright_law (c : Cl) (l : List Ld) (ws : List Int) (set : Int) (lim : Nat) (H : AH) (hG : H[waysG]? = some (.ro waysV)) (lv wv : Value) (hlv : Sl H lv l.length (ldsV l)) (hwv : Sl H wv ws.length (ints ws)) :
    ∃ H', apL Tryz.prog pf (.func (.func 9) #[] #[]) [clV c, lv, wv, .int .i64 set] lim H = some (.bool true, H') := by
  refine ⟨H, ?_⟩
  rw [apL_func _ _ _ _ _ _ (by rfl), sf_coblelaw05_LaunchUpright_eq]
  have hw := fun lim H hG => run_works5 lim H hG
  have hk := fun lim => run_CheckLoads5' c l lim H lv hlv
  by_cases h0 : loadsE c l = 0
  rotate_left
  · have h0' : (loadsE c l != 0) = true := by simpa using h0
    have hwH := fun lim => hw lim H hG
    obtain ⟨la, lc, rfl, _⟩ := hlv
    obtain ⟨wa, wc, rfl, _⟩ := hwv
    simp only [clV] at hk ⊢
    simp [-oneC, oneC_slice, oneC_int, -Array.all_toList, sf_coblelaw05_LaunchUpright, hk, h0', hwH, pf_pure, pureF]
  obtain ⟨h10, hok⟩ := loadsE_zero h0
  obtain ⟨hSh, hSe⟩ := shed_ok h0
  have hl : l.length < 2 ^ 62 := by omega
  have hR := fun lim => run_Rights c l hl lim H lv hlv
  obtain ⟨av, A, hB, hA, hv⟩ := run_Shed c l hl H.length H lv hlv
  rw [h0] at hk
  rw [hSe] at hB
  rw [rightsD_ok h0] at hR
  generalize (shedD c l).1 = w at *
  have hwl : w.length ≤ 10 := Nat.le_trans (asc_lenR hSh.asc hSh.lt) h10
  obtain ⟨aa, ac, ea, _⟩ := hv.sl
  have hlA := hlv.ext hA.ext
  have hwA := hwv.ext hA.ext
  have hGA := hA.ext _ _ hG
  obtain ⟨la, lc, el, _⟩ := hlv
  obtain ⟨wa, wc, ew, _⟩ := hwv
  -- what is decided
  obtain ⟨su, hsu⟩ : ∃ su, su = decide (wS gHi l (fun _ => true) l.length ≤ c.mom) := ⟨_, rfl⟩
  obtain ⟨ma, hma⟩ : ∃ ma, ma = decide (wS gLo l (fun _ => true) l.length ≤ c.mom) := ⟨_, rfl⟩
  have hmono := wS_mono (q := fun _ => true) (gLo_le hok) l.length
  simp only [← hsu, ← hma] at hR
  have hfst : su = true → ma = true ∧ w.length = 0 := fun h => by
    rw [hsu, decide_eq_true_eq] at h
    exact ⟨by rw [hma, decide_eq_true_eq]; omega, shed_nil hSh h⟩
  have hsnd : su = false → ¬ w.length = 0 := fun h => by
    rw [hsu, decide_eq_false_iff_not] at h
    exact shed_some hSh h
  simp only [clV] at hk hR hB ⊢
  rw [el] at hk hR hB
  rw [ea] at hB
  have hpre : (su = true ∧ ma = true ∧ w.length = 0) ∨ (su = false ∧ ¬ w.length = 0) := by
    cases h : su with
    | true => obtain ⟨a, b⟩ := hfst h; exact .inl ⟨rfl, a, b⟩
    | false => exact .inr ⟨rfl, hsnd h⟩
  -- the pieces behind the loops
  have fin : ∀ sw : Int, wS gLo l (fun _ => true) l.length ≤ sw ∧ sw ≤ wS gHi l (fun _ => true) l.length → (su = true → sw ≤ c.mom) ∧ (ma = false → c.mom < sw) := fun sw h => ⟨fun e => by
    rw [hsu, decide_eq_true_eq] at e; omega, fun e => by rw [hma, decide_eq_false_iff_not] at e; omega⟩
  have hKeep : (rightsD c (pickL l (awayQ w) l.length)).1 = true := by rw [(rights_pick h0 _).1, decide_eq_true_eq]; exact hSh.fits
  have hOther : (rightsD c (pickL l (bitQ set) l.length)).1 = true → ¬ ((pickL l (awayQ w) l.length).length : Int) < ((pickL l (bitQ set) l.length).length : Int) := fun h => by
    rw [(rights_pick h0 _).1, decide_eq_true_eq] at h
    have := upright_least hSh _ h
    omega
  have e1 := (rights_pick h0 (awayQ w)).2
  have e2 := (rights_pick h0 (bitQ set)).2
  have hl1 : (pickL l (awayQ w) l.length).length < 2 ^ 62 := by
    have := (loadsE_zero (pickL_loadsE (q := awayQ w) (Nat.le_refl _) h0)).1; omega
  have hl2 : (pickL l (bitQ set) l.length).length < 2 ^ 62 := by
    have := (loadsE_zero (pickL_loadsE (q := bitQ set) (Nat.le_refl _) h0)).1; omega
  rw [ew]
  rcases hpre with ⟨p1, p2, p3⟩ | ⟨p1, p3⟩
  · rw [p1, p2] at hR
    simp [-oneC, oneC_slice, oneC_int, -Array.all_toList, sf_coblelaw05_LaunchUpright, el, hk, hR, hB, p3, pf_pure, pureF]
    generalize hS : ({ t := _, L := _, H := _, lim := _, rd := _ } : St) = S
    obtain ⟨⟨q, s1⟩, hr, q1, ⟨k, q16, qC⟩, qA, ⟨a1, o1⟩, ⟨b1, o2⟩, z1, z12, z2, z4, z9, z10, zL, zl⟩ := up_loop0 set l h10 w hwl hSh.asc A lv av hlA hv.sl S (by subst hS; rfl) (by subst hS; exact hA.le) (by subst hS; simp [el]) (by subst hS; simp) (by subst hS; simp [ea, p3]) (by subst hS; simp) (by subst hS; simp) (by subst hS; simp) (by subst hS; simp)
    simp [upLoop0, SC.loops, sf_coblelaw05_LaunchUpright] at hr
    rw [hr]
    simp only at q1 q16 qA o1 o2 z1 z12 z2 z4 z9 z10 zL zl
    subst q1
    have hkk : k = w.length := by
      rcases Nat.lt_or_ge k w.length with h | h
      · have := qC.2.2 k h (Nat.le_refl _)
        have := hSh.lt w[k] (List.getElem_mem h)
        omega
      · have := qC.1; omega
    subst hkk
    have x2 : tget S.t 2 = .slice wa ws.length wc := by subst hS; simp [ew]
    have x4 : tget S.t 4 = .pointer (some ⟨4, 0, some 0⟩) := by subst hS; simp
    have x9 : tget S.t 9 = .bool true := by subst hS; simp
    have x10 : tget S.t 10 = .bool true := by subst hS; simp
    have xL : lget S.L 4 = some (0, .cells [.int .i64 c.dr, .int .i64 c.seas, .int .i64 c.mv, .int .i64 c.idle, .int .i64 c.res, .int .i64 c.seats, .int .i64 c.mom]) := by subst hS; simp
    rw [x2] at z2; rw [x4] at z4; rw [x9] at z9; rw [x10] at z10; rw [← zL] at xL
    rw [el] at z1; rw [ea] at z12
    have hRk := fun lim => run_Rights c _ hl1 lim s1.H _ o1.sl
    have hRo := fun lim => run_Rights c _ hl2 lim s1.H _ o2.sl
    obtain ⟨ka, kc, ek, _⟩ := o1.sl
    obtain ⟨oa, oc, eo, _⟩ := o2.sl
    have hG1 := qA.ext _ _ hGA
    have hwG1 := fun lim => hw lim s1.H hG1
    rw [ek, hKeep, e1] at hRk
    rw [eo, e2] at hRo
    simp only [clV] at hRk hRo
    have hlA1 := hlA.ext qA.ext
    have hwA1 := hwA.ext qA.ext
    generalize (rightsD c (pickL l (awayQ w) l.length)).2.1 = r1 at *
    generalize (rightsD c (pickL l (bitQ set) l.length)).2.1 = r2 at *
    generalize (rightsD c (pickL l (bitQ set) l.length)).1 = so at *
    generalize (pickL l (awayQ w) l.length).length = n1 at *
    generalize (pickL l (bitQ set) l.length).length = n2 at *
    have hso : so = false ∨ (so = true ∧ ¬ (n1 : Int) < n2) := by
      cases so with
      | false => exact .inl rfl
      | true => exact .inr ⟨rfl, hOther rfl⟩
    have hlast : ∀ S2 : St, S2.H = s1.H → tget S2.t 1 = .slice la l.length lc → tget S2.t 2 = .slice wa ws.length wc → tget S2.t 24 = .int .i64 0 → tget S2.t 25 = .int .i64 0 → ws.length = l.length →
        ∃ q, exL Tryz.prog pf (.loop upLoop1) S2 = some q ∧ ((q.1 = .ret ∧ tget q.2.t 8 = .bool true ∧ q.2.H = s1.H) ∨ (q.1 = .exit 2 ∧ q.2.H = s1.H ∧ InW ws l l.length ∧ tget q.2.t 24 = .int .i64 (sW ws l l.length) ∧ tget q.2.t 4 = tget S2.t 4 ∧ tget q.2.t 9 = tget S2.t 9 ∧ tget q.2.t 10 = tget S2.t 10 ∧ q.2.L = S2.L)) := fun S2 h h1 h2 h3 h4 h5 =>
      up_loop1 l h10 hok ws h5 s1.H hG1 _ _ (by rw [el] at hlA1; exact hlA1) (by rw [ew] at hwA1; exact hwA1) S2 h h1 h2 h3 h4
    by_cases h5 : ws.length = l.length
    rotate_left
    · have h5' : ((ws.length : Int) != l.length) = true := by simpa using (by omega : ¬ (ws.length : Int) = l.length)
      rcases hso with rfl | ⟨rfl, hno⟩
      · simp [-oneC, oneC_slice, oneC_int, -Array.all_toList, q16, z1, z2, z4, z9, z10, z12, xL, ek, eo, hRk, hRo, hwG1, h5', p3]
      · simp [-oneC, oneC_slice, oneC_int, -Array.all_toList, q16, z1, z2, z4, z9, z10, z12, xL, ek, eo, hRk, hRo, hwG1, h5', hno, p3]
    have h5' : ((ws.length : Int) != l.length) = false := by rw [h5]; simp
    have hfin : ∀ S2 : St, S2.H = s1.H → tget S2.t 1 = .slice la l.length lc → tget S2.t 2 = .slice wa ws.length wc → tget S2.t 24 = .int .i64 0 → tget S2.t 25 = .int .i64 0 → tget S2.t 4 = .pointer (some ⟨4, 0, some 0⟩) → tget S2.t 9 = .bool true → tget S2.t 10 = .bool true → lget S2.L 4 = some (0, .cells [.int .i64 c.dr, .int .i64 c.seas, .int .i64 c.mv, .int .i64 c.idle, .int .i64 c.res, .int .i64 c.seats, .int .i64 c.mom]) →
        ∃ q, exL Tryz.prog pf (.loop upLoop1) S2 = some q ∧ ((q.1 = .ret ∧ tget q.2.t 8 = .bool true ∧ q.2.H = s1.H) ∨ (q.1 = .exit 2 ∧ q.2.H = s1.H ∧ tget q.2.t 24 = .int .i64 (sW ws l l.length) ∧ ((true = true → sW ws l l.length ≤ c.mom) ∧ (true = false → c.mom < sW ws l l.length)) ∧ tget q.2.t 4 = .pointer (some ⟨4, 0, some 0⟩) ∧ tget q.2.t 9 = .bool true ∧ tget q.2.t 10 = .bool true ∧ lget q.2.L 4 = some (0, .cells [.int .i64 c.dr, .int .i64 c.seas, .int .i64 c.mv, .int .i64 c.idle, .int .i64 c.res, .int .i64 c.seats, .int .i64 c.mom]))) := fun S2 h h1 h2 h3 h4 k4 k9 k10 kL => by
      obtain ⟨q, r, r'⟩ := hlast S2 h h1 h2 h3 h4 h5
      refine ⟨q, r, ?_⟩
      rcases r' with r' | ⟨v1, v2, v3, v4, v5, v6, v7, v8⟩
      · exact .inl r'
      · have hb := sW_between hok h5 l.length (Nat.le_refl _) v3
        have hf := fin _ hb
        rw [p1, p2] at hf
        exact .inr ⟨v1, v2, v4, hf, by rw [v5, k4], by rw [v6, k9], by rw [v7, k10], by rw [v8]; exact kL⟩
    generalize sW ws l l.length = sw at *
    rcases hso with rfl | ⟨rfl, hno⟩
    · simp [-oneC, oneC_slice, oneC_int, -Array.all_toList, q16, z1, z2, z4, z9, z10, z12, xL, ek, eo, hRk, hRo, h5', p3]
      generalize hS2 : ({ t := _, L := _, H := _, lim := _, rd := _ } : St) = S2
      obtain ⟨⟨q', s2⟩, hr2, hq2⟩ := hfin S2 (by subst hS2; rfl) (by subst hS2; simp [z1]) (by subst hS2; simp [z2]) (by subst hS2; simp) (by subst hS2; simp) (by subst hS2; simp [z4]) (by subst hS2; simp [z9]) (by subst hS2; simp [z10]) (by subst hS2; simp [xL])
      simp [upLoop1, SC.loops, sf_coblelaw05_LaunchUpright] at hr2
      rw [hr2]
      simp only at hq2
      rcases hq2 with ⟨rfl, t8, tH⟩ | ⟨rfl, tH, t24, ⟨f1, f2⟩, t4, t9, t10, tL⟩
      · simp [t8, tH]
      · have hwG2 := fun lim => hw lim s1.H hG1
        have f1' := f1 trivial
        simp [tH, t24, t4, t9, t10, tL, hwG2, f1']
    · simp [-oneC, oneC_slice, oneC_int, -Array.all_toList, q16, z1, z2, z4, z9, z10, z12, xL, ek, eo, hRk, hRo, h5', hno, p3]
      generalize hS2 : ({ t := _, L := _, H := _, lim := _, rd := _ } : St) = S2
      obtain ⟨⟨q', s2⟩, hr2, hq2⟩ := hfin S2 (by subst hS2; rfl) (by subst hS2; simp [z1]) (by subst hS2; simp [z2]) (by subst hS2; simp) (by subst hS2; simp) (by subst hS2; simp [z4]) (by subst hS2; simp [z9]) (by subst hS2; simp [z10]) (by subst hS2; simp [xL])
      simp [upLoop1, SC.loops, sf_coblelaw05_LaunchUpright] at hr2
      rw [hr2]
      simp only at hq2
      rcases hq2 with ⟨rfl, t8, tH⟩ | ⟨rfl, tH, t24, ⟨f1, f2⟩, t4, t9, t10, tL⟩
      · simp [t8, tH]
      · have hwG2 := fun lim => hw lim s1.H hG1
        have f1' := f1 trivial
        simp [tH, t24, t4, t9, t10, tL, hwG2, f1']
  · rw [p1] at hR
    have p3' : ((w.length : Int) == 0) = false := by simpa using (by omega : ¬ (w.length : Int) = 0)
    simp [-oneC, oneC_slice, oneC_int, -Array.all_toList, sf_coblelaw05_LaunchUpright, el, hk, hR, hB, p3', pf_pure, pureF]
    generalize hS : ({ t := _, L := _, H := _, lim := _, rd := _ } : St) = S
    obtain ⟨⟨q, s1⟩, hr, q1, ⟨k, q16, qC⟩, qA, ⟨a1, o1⟩, ⟨b1, o2⟩, z1, z12, z2, z4, z9, z10, zL, zl⟩ := up_loop0 set l h10 w hwl hSh.asc A lv av hlA hv.sl S (by subst hS; rfl) (by subst hS; exact hA.le) (by subst hS; simp [el]) (by subst hS; simp) (by subst hS; simp [ea]) (by subst hS; simp) (by subst hS; simp) (by subst hS; simp) (by subst hS; simp)
    simp [upLoop0, SC.loops, sf_coblelaw05_LaunchUpright] at hr
    rw [hr]
    simp only at q1 q16 qA o1 o2 z1 z12 z2 z4 z9 z10 zL zl
    subst q1
    have hkk : k = w.length := by
      rcases Nat.lt_or_ge k w.length with h | h
      · have := qC.2.2 k h (Nat.le_refl _)
        have := hSh.lt w[k] (List.getElem_mem h)
        omega
      · have := qC.1; omega
    subst hkk
    have x2 : tget S.t 2 = .slice wa ws.length wc := by subst hS; simp [ew]
    have x4 : tget S.t 4 = .pointer (some ⟨4, 0, some 0⟩) := by subst hS; simp
    have x9 : tget S.t 9 = .bool false := by subst hS; simp
    have x10 : tget S.t 10 = .bool ma := by subst hS; simp
    have xL : lget S.L 4 = some (0, .cells [.int .i64 c.dr, .int .i64 c.seas, .int .i64 c.mv, .int .i64 c.idle, .int .i64 c.res, .int .i64 c.seats, .int .i64 c.mom]) := by subst hS; simp
    rw [x2] at z2; rw [x4] at z4; rw [x9] at z9; rw [x10] at z10; rw [← zL] at xL
    rw [el] at z1; rw [ea] at z12
    have hRk := fun lim => run_Rights c _ hl1 lim s1.H _ o1.sl
    have hRo := fun lim => run_Rights c _ hl2 lim s1.H _ o2.sl
    obtain ⟨ka, kc, ek, _⟩ := o1.sl
    obtain ⟨oa, oc, eo, _⟩ := o2.sl
    have hG1 := qA.ext _ _ hGA
    have hwG1 := fun lim => hw lim s1.H hG1
    rw [ek, hKeep, e1] at hRk
    rw [eo, e2] at hRo
    simp only [clV] at hRk hRo
    have hlA1 := hlA.ext qA.ext
    have hwA1 := hwA.ext qA.ext
    generalize (rightsD c (pickL l (awayQ w) l.length)).2.1 = r1 at *
    generalize (rightsD c (pickL l (bitQ set) l.length)).2.1 = r2 at *
    generalize (rightsD c (pickL l (bitQ set) l.length)).1 = so at *
    generalize (pickL l (awayQ w) l.length).length = n1 at *
    generalize (pickL l (bitQ set) l.length).length = n2 at *
    have hso : so = false ∨ (so = true ∧ ¬ (n1 : Int) < n2) := by
      cases so with
      | false => exact .inl rfl
      | true => exact .inr ⟨rfl, hOther rfl⟩
    have hlast : ∀ S2 : St, S2.H = s1.H → tget S2.t 1 = .slice la l.length lc → tget S2.t 2 = .slice wa ws.length wc → tget S2.t 24 = .int .i64 0 → tget S2.t 25 = .int .i64 0 → ws.length = l.length →
        ∃ q, exL Tryz.prog pf (.loop upLoop1) S2 = some q ∧ ((q.1 = .ret ∧ tget q.2.t 8 = .bool true ∧ q.2.H = s1.H) ∨ (q.1 = .exit 2 ∧ q.2.H = s1.H ∧ InW ws l l.length ∧ tget q.2.t 24 = .int .i64 (sW ws l l.length) ∧ tget q.2.t 4 = tget S2.t 4 ∧ tget q.2.t 9 = tget S2.t 9 ∧ tget q.2.t 10 = tget S2.t 10 ∧ q.2.L = S2.L)) := fun S2 h h1 h2 h3 h4 h5 =>
      up_loop1 l h10 hok ws h5 s1.H hG1 _ _ (by rw [el] at hlA1; exact hlA1) (by rw [ew] at hwA1; exact hwA1) S2 h h1 h2 h3 h4
    by_cases h5 : ws.length = l.length
    rotate_left
    · have h5' : ((ws.length : Int) != l.length) = true := by simpa using (by omega : ¬ (ws.length : Int) = l.length)
      rcases hso with rfl | ⟨rfl, hno⟩
      · simp [-oneC, oneC_slice, oneC_int, -Array.all_toList, q16, z1, z2, z4, z9, z10, z12, xL, ek, eo, hRk, hRo, hwG1, h5']
      · simp [-oneC, oneC_slice, oneC_int, -Array.all_toList, q16, z1, z2, z4, z9, z10, z12, xL, ek, eo, hRk, hRo, hwG1, h5', hno]
    have h5' : ((ws.length : Int) != l.length) = false := by rw [h5]; simp
    have hfin : ∀ S2 : St, S2.H = s1.H → tget S2.t 1 = .slice la l.length lc → tget S2.t 2 = .slice wa ws.length wc → tget S2.t 24 = .int .i64 0 → tget S2.t 25 = .int .i64 0 → tget S2.t 4 = .pointer (some ⟨4, 0, some 0⟩) → tget S2.t 9 = .bool false → tget S2.t 10 = .bool ma → lget S2.L 4 = some (0, .cells [.int .i64 c.dr, .int .i64 c.seas, .int .i64 c.mv, .int .i64 c.idle, .int .i64 c.res, .int .i64 c.seats, .int .i64 c.mom]) →
        ∃ q, exL Tryz.prog pf (.loop upLoop1) S2 = some q ∧ ((q.1 = .ret ∧ tget q.2.t 8 = .bool true ∧ q.2.H = s1.H) ∨ (q.1 = .exit 2 ∧ q.2.H = s1.H ∧ tget q.2.t 24 = .int .i64 (sW ws l l.length) ∧ ((false = true → sW ws l l.length ≤ c.mom) ∧ (ma = false → c.mom < sW ws l l.length)) ∧ tget q.2.t 4 = .pointer (some ⟨4, 0, some 0⟩) ∧ tget q.2.t 9 = .bool false ∧ tget q.2.t 10 = .bool ma ∧ lget q.2.L 4 = some (0, .cells [.int .i64 c.dr, .int .i64 c.seas, .int .i64 c.mv, .int .i64 c.idle, .int .i64 c.res, .int .i64 c.seats, .int .i64 c.mom]))) := fun S2 h h1 h2 h3 h4 k4 k9 k10 kL => by
      obtain ⟨q, r, r'⟩ := hlast S2 h h1 h2 h3 h4 h5
      refine ⟨q, r, ?_⟩
      rcases r' with r' | ⟨v1, v2, v3, v4, v5, v6, v7, v8⟩
      · exact .inl r'
      · have hb := sW_between hok h5 l.length (Nat.le_refl _) v3
        have hf := fin _ hb
        rw [p1] at hf
        exact .inr ⟨v1, v2, v4, hf, by rw [v5, k4], by rw [v6, k9], by rw [v7, k10], by rw [v8]; exact kL⟩
    generalize sW ws l l.length = sw at *
    rcases hso with rfl | ⟨rfl, hno⟩
    · simp [-oneC, oneC_slice, oneC_int, -Array.all_toList, q16, z1, z2, z4, z9, z10, z12, xL, ek, eo, hRk, hRo, h5']
      generalize hS2 : ({ t := _, L := _, H := _, lim := _, rd := _ } : St) = S2
      obtain ⟨⟨q', s2⟩, hr2, hq2⟩ := hfin S2 (by subst hS2; rfl) (by subst hS2; simp [z1]) (by subst hS2; simp [z2]) (by subst hS2; simp) (by subst hS2; simp) (by subst hS2; simp [z4]) (by subst hS2; simp [z9]) (by subst hS2; simp [z10]) (by subst hS2; simp [xL])
      simp [upLoop1, SC.loops, sf_coblelaw05_LaunchUpright] at hr2
      rw [hr2]
      simp only at hq2
      rcases hq2 with ⟨rfl, t8, tH⟩ | ⟨rfl, tH, t24, ⟨f1, f2⟩, t4, t9, t10, tL⟩
      · simp [t8, tH]
      · have hwG2 := fun lim => hw lim s1.H hG1
        cases ma with
        | false =>
          have f2' := f2 rfl
          simp [tH, t24, t4, t9, t10, tL, hwG2, f2']
        | true => simp [tH, t24, t4, t9, t10, tL, hwG2]
    · simp [-oneC, oneC_slice, oneC_int, -Array.all_toList, q16, z1, z2, z4, z9, z10, z12, xL, ek, eo, hRk, hRo, h5', hno]
      generalize hS2 : ({ t := _, L := _, H := _, lim := _, rd := _ } : St) = S2
      obtain ⟨⟨q', s2⟩, hr2, hq2⟩ := hfin S2 (by subst hS2; rfl) (by subst hS2; simp [z1]) (by subst hS2; simp [z2]) (by subst hS2; simp) (by subst hS2; simp) (by subst hS2; simp [z4]) (by subst hS2; simp [z9]) (by subst hS2; simp [z10]) (by subst hS2; simp [xL])
      simp [upLoop1, SC.loops, sf_coblelaw05_LaunchUpright] at hr2
      rw [hr2]
      simp only at hq2
      rcases hq2 with ⟨rfl, t8, tH⟩ | ⟨rfl, tH, t24, ⟨f1, f2⟩, t4, t9, t10, tL⟩
      · simp [t8, tH]
      · have hwG2 := fun lim => hw lim s1.H hG1
        cases ma with
        | false =>
          have f2' := f2 rfl
          simp [tH, t24, t4, t9, t10, tL, hwG2, f2']
        | true => simp [tH, t24, t4, t9, t10, tL, hwG2]
end Go.Proofs.YtnpifaanhofonaaGreatDoor
