import Derived.Test.YtnpifaanhofonaaGreatDoorChartA
set_option linter.all false

/- Mathematics: all lists of numbers below a bound, the shorter ones first; in which order they come, and that a queue gives them. -/
namespace Go.Proofs.YtnpifaanhofonaaGreatDoor
open Go Go.RowKit

/-- The first number that may follow on a list. -/
def firstN (l : List Nat) : Nat := match l.getLast? with | some j => j + 1 | none => 0
def extM (n : Nat) (l : List Nat) : List (List Nat) := (List.range (n - firstN l)).map fun i => l ++ [firstN l + i]
def longM (n : Nat) (ls : List (List Nat)) : List (List Nat) := ls.flatMap (extM n)
def levelM (n : Nat) : Nat → List (List Nat)
  | 0 => [[]]
  | k + 1 => longM n (levelM n k)
def prefL (n k : Nat) : List (List Nat) := (List.range k).flatMap (levelM n)
/-- All lists of numbers below n, the shorter ones first. -/
def listsM (n : Nat) : List (List Nat) := prefL n (n + 1)

theorem prefL_succ (n k : Nat) : prefL n (k + 1) = prefL n k ++ levelM n k := by simp [prefL, List.range_succ]
theorem extM_spec {n : Nat} {l m : List Nat} (h : m ∈ extM n l) : ∃ i, firstN l ≤ i ∧ i < n ∧ m = l ++ [i] := by
  unfold extM at h
  obtain ⟨i, hi, rfl⟩ := List.mem_map.1 h
  rw [List.mem_range] at hi
  exact ⟨firstN l + i, by omega, by omega, rfl⟩
theorem first_snoc (l : List Nat) (i : Nat) : firstN (l ++ [i]) = i + 1 := by simp [firstN]
theorem level_spec (n : Nat) : ∀ k, ∀ l ∈ levelM n k, l.length = k ∧ k ≤ firstN l ∧ ∀ i ∈ l, i < n
  | 0, l, h => by
    have : l = [] := by simpa [levelM] using h
    subst this
    exact ⟨rfl, by simp, by simp⟩
  | k + 1, l, h => by
    unfold levelM longM at h
    obtain ⟨m, hm, hl⟩ := List.mem_flatMap.1 h
    obtain ⟨h1, h2, h3⟩ := level_spec n k m hm
    obtain ⟨i, i1, i2, rfl⟩ := extM_spec hl
    refine ⟨by simp [h1], by rw [first_snoc]; omega, fun j hj => ?_⟩
    rcases List.mem_append.1 hj with hj | hj
    · exact h3 j hj
    · simp at hj; omega
theorem level_end (n k : Nat) (hk : n < k) : levelM n k = [] := by
  obtain ⟨k, rfl⟩ : ∃ m, k = m + 1 := ⟨k - 1, by omega⟩
  unfold levelM longM
  rw [List.flatMap_eq_nil_iff]
  intro l hl
  obtain ⟨h1, h2, h3⟩ := level_spec n k l hl
  unfold extM
  rw [show n - firstN l = 0 by omega]
  rfl
theorem lists_len : ∀ n, n < 13 → (listsM n).length ≤ 4096 := by decide +kernel

/-! A queue gives them. -/

theorem pref_root (n : Nat) : ∀ k, prefL n (k + 1) = [] :: (prefL n k).flatMap (extM n)
  | 0 => rfl
  | k + 1 => by
    have h := pref_root n k
    have e : (prefL n (k + 1)).flatMap (extM n) = (prefL n k).flatMap (extM n) ++ levelM n (k + 1) := by rw [prefL_succ n k, List.flatMap_append]; rfl
    rw [prefL_succ n (k + 1), e, h]
    rfl
theorem lists_root (n : Nat) : listsM n = [] :: (listsM n).flatMap (extM n) := by
  have h := pref_root n (n + 1)
  rw [prefL_succ, level_end n (n + 1) (by omega), List.append_nil] at h
  exact h

theorem flat_none {n : Nat} {R : List (List Nat)} (h : R = R.flatMap (extM n)) : R = [] := by
  have key : ∀ k, ∀ l ∈ R, k ≤ l.length := by
    intro k
    induction k with
    | zero => intro l _; omega
    | succ k ih =>
      intro l hl
      rw [h] at hl
      obtain ⟨m, hm, hl⟩ := List.mem_flatMap.1 hl
      obtain ⟨i, _, _, rfl⟩ := extM_spec hl
      have := ih m hm
      simp; omega
  cases R with
  | nil => rfl
  | cons l R =>
    have := key (l.length + 1) l (by simp)
    omega

/-- What has been had, and what waits. -/
def Bfs (n : Nat) (P Q : List (List Nat)) : Prop := P ++ Q = [] :: P.flatMap (extM n) ∧ ∃ R, listsM n = P ++ R
theorem bfs_start (n : Nat) : Bfs n [] [[]] := ⟨rfl, _, rfl⟩
theorem bfs_rest {n : Nat} {P Q : List (List Nat)} (h : Bfs n P Q) : ∃ R, listsM n = P ++ R ∧ R = Q ++ R.flatMap (extM n) := by
  obtain ⟨h1, R, h2⟩ := h
  refine ⟨R, h2, ?_⟩
  have h3 := lists_root n
  rw [h2, List.flatMap_append, ← List.cons_append, ← h1, List.append_assoc] at h3
  exact List.append_cancel_left h3
theorem bfs_end {n : Nat} {P : List (List Nat)} (h : Bfs n P []) : P = listsM n := by
  obtain ⟨R, h1, h2⟩ := bfs_rest h
  have hR : R = [] := flat_none (n := n) (by simpa using h2)
  rw [hR, List.append_nil] at h1
  exact h1.symm
theorem bfs_next {n : Nat} {P Q : List (List Nat)} {l : List Nat} (h : Bfs n P (l :: Q)) : (∃ R, P ++ l :: R = listsM n) ∧ Bfs n (P ++ [l]) (Q ++ extM n l) := by
  obtain ⟨R, h1, h2⟩ := bfs_rest h
  rw [List.cons_append] at h2
  refine ⟨⟨_, by rw [h1, h2]⟩, ?_, _, by rw [h1, h2, List.append_cons]⟩
  rw [List.flatMap_append, ← List.cons_append, ← h.1]
  simp

/-! Their order. -/

/-- Fewer elements, or as many, and the lower number at the first place at which they differ. -/
def lexB : List Nat → List Nat → Bool
  | a :: l, b :: m => if a = b then lexB l m else decide (a < b)
  | _, _ => false
def befB (l m : List Nat) : Bool := if l.length = m.length then lexB l m else decide (l.length < m.length)

theorem lexB_irr : ∀ l, lexB l l = false
  | [] => rfl
  | a :: l => by unfold lexB; rw [if_pos rfl]; exact lexB_irr l
theorem lexB_tri : ∀ (l m : List Nat), l.length = m.length → lexB l m = false → lexB m l = false → l = m
  | [], [], _, _, _ => rfl
  | [], _ :: _, h, _, _ => by simp at h
  | _ :: _, [], h, _, _ => by simp at h
  | a :: l, b :: m, h, h1, h2 => by
    unfold lexB at h1 h2
    by_cases hab : a = b
    · subst hab
      rw [if_pos rfl] at h1 h2
      rw [lexB_tri l m (by simpa using h) h1 h2]
    · rw [if_neg hab] at h1
      rw [if_neg (fun e => hab e.symm)] at h2
      simp at h1 h2
      omega
theorem lexB_asym : ∀ (l m : List Nat), lexB l m = true → lexB m l = false
  | [], _, h => by simp [lexB] at h
  | _ :: _, [], h => by simp [lexB] at h
  | a :: l, b :: m, h => by
    unfold lexB at h ⊢
    by_cases hab : a = b
    · subst hab; rw [if_pos rfl] at h ⊢; exact lexB_asym l m h
    · rw [if_neg hab] at h
      rw [if_neg (fun e => hab e.symm)]
      simp at h ⊢; omega
theorem befB_irr (l : List Nat) : befB l l = false := by unfold befB; rw [if_pos rfl]; exact lexB_irr l
theorem befB_asym {l m : List Nat} (h : befB l m = true) : befB m l = false := by
  unfold befB at h ⊢
  by_cases e : l.length = m.length
  · rw [if_pos e] at h; rw [if_pos e.symm]; exact lexB_asym _ _ h
  · rw [if_neg e] at h; rw [if_neg (fun x => e x.symm)]; simp at h ⊢; omega
theorem befB_tri {l m : List Nat} (h1 : befB l m = false) (h2 : befB m l = false) : l = m := by
  unfold befB at h1 h2
  by_cases e : l.length = m.length
  · rw [if_pos e] at h1; rw [if_pos e.symm] at h2; exact lexB_tri _ _ e h1 h2
  · rw [if_neg e] at h1; rw [if_neg (fun x => e x.symm)] at h2; simp at h1 h2; omega

theorem lexB_trans : ∀ (l m r : List Nat), lexB l m = true → lexB m r = true → lexB l r = true
  | [], _, _, h, _ => by simp [lexB] at h
  | _ :: _, [], _, h, _ => by simp [lexB] at h
  | _ :: _, _ :: _, [], _, h => by simp [lexB] at h
  | a :: l, b :: m, c :: r, h1, h2 => by
    unfold lexB at h1 h2 ⊢
    by_cases hab : a = b
    · subst hab
      rw [if_pos rfl] at h1
      by_cases hbc : a = c
      · subst hbc; rw [if_pos rfl] at h2 ⊢; exact lexB_trans l m r h1 h2
      · rw [if_neg hbc] at h2 ⊢; exact h2
    · rw [if_neg hab] at h1
      by_cases hbc : b = c
      · subst hbc; rw [if_neg hab]; exact h1
      · rw [if_neg hbc] at h2
        simp at h1 h2
        rw [if_neg (by omega)]; simp; omega
theorem befB_trans {l m r : List Nat} (h1 : befB l m = true) (h2 : befB m r = true) : befB l r = true := by
  unfold befB at h1 h2 ⊢
  by_cases e : l.length = m.length
  · rw [if_pos e] at h1
    by_cases e2 : m.length = r.length
    · rw [if_pos e2] at h2; rw [if_pos (by omega)]; exact lexB_trans _ _ _ h1 h2
    · rw [if_neg e2] at h2; rw [if_neg (by omega)]; simp at h2 ⊢; omega
  · rw [if_neg e] at h1
    by_cases e2 : m.length = r.length
    · rw [if_pos e2] at h2; rw [if_neg (by omega)]; simp at h1 ⊢; omega
    · rw [if_neg e2] at h2; simp at h1 h2; rw [if_neg (by omega)]; simp; omega

theorem lexB_snoc : ∀ (l m : List Nat) (i j : Nat), l.length = m.length → lexB l m = true → lexB (l ++ [i]) (m ++ [j]) = true
  | [], _, _, _, _, h => by simp [lexB] at h
  | _ :: _, [], _, _, h, _ => by simp at h
  | a :: l, b :: m, i, j, hl, h => by
    rw [List.cons_append, List.cons_append]
    unfold lexB at h ⊢
    by_cases hab : a = b
    · subst hab; rw [if_pos rfl] at h ⊢; exact lexB_snoc l m i j (by simpa using hl) h
    · rw [if_neg hab] at h ⊢; exact h
theorem lexB_last : ∀ (l : List Nat) (i j : Nat), i < j → lexB (l ++ [i]) (l ++ [j]) = true
  | [], i, j, h => by simp [lexB, h]; omega
  | a :: l, i, j, h => by rw [List.cons_append, List.cons_append]; unfold lexB; rw [if_pos rfl]; exact lexB_last l i j h

theorem level_sorted (n : Nat) : ∀ k, (levelM n k).Pairwise fun l m => lexB l m = true
  | 0 => by simp [levelM]
  | k + 1 => by
    unfold levelM longM
    rw [List.pairwise_flatMap]
    refine ⟨fun l hl => ?_, ?_⟩
    · unfold extM
      rw [List.pairwise_map]
      exact List.pairwise_lt_range.imp fun {i j} hij => lexB_last l _ _ (by omega)
    · refine (level_sorted n k).imp_of_mem fun {l m} hl hm h x hx y hy => ?_
      obtain ⟨i, _, _, rfl⟩ := extM_spec hx
      obtain ⟨j, _, _, rfl⟩ := extM_spec hy
      exact lexB_snoc l m i j (by rw [(level_spec n k l hl).1, (level_spec n k m hm).1]) h
theorem lists_sorted (n : Nat) : (listsM n).Pairwise fun l m => befB l m = true := by
  unfold listsM prefL
  rw [List.pairwise_flatMap]
  refine ⟨fun k _ => (level_sorted n k).imp_of_mem fun {l m} hl hm h => ?_, List.pairwise_lt_range.imp fun {i j} hij l hl m hm => ?_⟩
  · unfold befB
    rw [if_pos (by rw [(level_spec n k l hl).1, (level_spec n k m hm).1])]
    exact h
  · unfold befB
    have h1 := (level_spec n i l hl).1
    have h2 := (level_spec n j m hm).1
    rw [if_neg (by omega)]
    simp; omega

/-- In ascending order. -/
def Asc : List Nat → Prop
  | [] => True
  | [_] => True
  | a :: b :: l => a < b ∧ Asc (b :: l)
theorem asc_snoc : ∀ (l : List Nat) (i : Nat), Asc (l ++ [i]) ↔ Asc l ∧ firstN l ≤ i
  | [], i => by simp [Asc, firstN]
  | [a], i => by simp [Asc, firstN]; omega
  | a :: b :: l, i => by
    have ih := asc_snoc (b :: l) i
    have h1 : firstN (a :: b :: l) = firstN (b :: l) := by simp [firstN]
    rw [h1]
    simp only [List.cons_append, Asc] at ih ⊢
    rw [ih, and_assoc]
theorem level_mem (n : Nat) : ∀ k l, l ∈ levelM n k ↔ l.length = k ∧ Asc l ∧ ∀ i ∈ l, i < n
  | 0, l => by
    simp only [levelM, List.mem_singleton]
    constructor
    · rintro rfl; exact ⟨rfl, trivial, by simp⟩
    · rintro ⟨h, _⟩; exact List.eq_nil_of_length_eq_zero h
  | k + 1, l => by
    unfold levelM longM
    rw [List.mem_flatMap]
    constructor
    · rintro ⟨m, hm, hl⟩
      obtain ⟨h1, h2, h3⟩ := (level_mem n k m).1 hm
      obtain ⟨i, i1, i2, rfl⟩ := extM_spec hl
      refine ⟨by simp [h1], (asc_snoc m i).2 ⟨h2, i1⟩, fun j hj => ?_⟩
      rcases List.mem_append.1 hj with hj | hj
      · exact h3 j hj
      · simp at hj; omega
    · rintro ⟨h1, h2, h3⟩
      have hne : l ≠ [] := by rintro rfl; simp at h1
      obtain ⟨m, i, rfl⟩ : ∃ m i, l = m ++ [i] := ⟨_, _, (List.dropLast_concat_getLast hne).symm⟩
      obtain ⟨a1, a2⟩ := (asc_snoc m i).1 h2
      refine ⟨m, (level_mem n k m).2 ⟨by simpa using h1, a1, fun j hj => h3 j (by simp [hj])⟩, ?_⟩
      unfold extM
      rw [List.mem_map]
      have hi := h3 i (by simp)
      exact ⟨i - firstN m, by rw [List.mem_range]; omega, by rw [show firstN m + (i - firstN m) = i by omega]⟩
theorem asc_first : ∀ (k : Nat) (l : List Nat), l.length = k → Asc l → k ≤ firstN l
  | 0, _, _, _ => by omega
  | k + 1, l, h1, h2 => by
    have hne : l ≠ [] := by rintro rfl; simp at h1
    obtain ⟨m, i, rfl⟩ : ∃ m i, l = m ++ [i] := ⟨_, _, (List.dropLast_concat_getLast hne).symm⟩
    obtain ⟨a1, a2⟩ := (asc_snoc m i).1 h2
    have := asc_first k m (by simpa using h1) a1
    rw [first_snoc]; omega
theorem lists_mem (n : Nat) (l : List Nat) : l ∈ listsM n ↔ Asc l ∧ ∀ i ∈ l, i < n := by
  unfold listsM prefL
  rw [List.mem_flatMap]
  constructor
  · rintro ⟨k, _, hk⟩; exact ((level_mem n k l).1 hk).2
  · rintro ⟨h1, h2⟩
    refine ⟨l.length, ?_, (level_mem n _ l).2 ⟨rfl, h1, h2⟩⟩
    rw [List.mem_range]
    have h3 := asc_first _ l rfl h1
    have h4 : firstN l ≤ n := by
      unfold firstN
      cases hx : l.getLast? with
      | none => simp
      | some j => have := h2 j (List.mem_of_getLast? hx); simp; omega
    omega

/-- The first list of which something is so: no other one of which it is so is before it. -/
theorem find_first {n : Nat} {p : List Nat → Bool} {l : List Nat} (h : (listsM n).find? p = some l) : (p l = true ∧ Asc l ∧ ∀ i ∈ l, i < n) ∧ ∀ m, Asc m → (∀ i ∈ m, i < n) → p m = true → m = l ∨ befB l m = true := by
  obtain ⟨h1, xs, ys, h2, h3⟩ := List.find?_eq_some_iff_append.1 h
  have hl : l ∈ listsM n := by rw [h2]; simp
  refine ⟨⟨h1, (lists_mem n l).1 hl⟩, fun m hm hmn hp => ?_⟩
  have hm' : m ∈ listsM n := (lists_mem n m).2 ⟨hm, hmn⟩
  have hs := lists_sorted n
  rw [h2] at hm' hs
  rcases List.mem_append.1 hm' with hm' | hm'
  · have := h3 m hm'; simp [hp] at this
  · rcases List.mem_cons.1 hm' with rfl | hm'
    · exact .inl rfl
    · right
      exact (List.pairwise_cons.1 (List.pairwise_append.1 hs).2.1).1 m hm'
theorem find_none {n : Nat} {p : List Nat → Bool} (h : (listsM n).find? p = none) : ∀ m, Asc m → (∀ i ∈ m, i < n) → p m = false := by
  intro m h1 h2
  have := List.find?_eq_none.1 h m ((lists_mem n m).2 ⟨h1, h2⟩)
  simpa using this

/-! The numbers of the bits of a set. -/

def chosenM (s n : Nat) : List Nat := (List.range n).filter fun i => s.testBit i
theorem asc_pair : ∀ (l : List Nat), l.Pairwise (· < ·) → Asc l
  | [], _ => trivial
  | [_], _ => trivial
  | a :: b :: l, h => ⟨(List.pairwise_cons.1 h).1 b (by simp), asc_pair (b :: l) (List.pairwise_cons.1 h).2⟩
theorem chosen_asc (s n : Nat) : Asc (chosenM s n) := asc_pair _ (List.pairwise_lt_range.filter _)
theorem chosen_lt (s n : Nat) : ∀ i ∈ chosenM s n, i < n := fun i hi => by
  unfold chosenM at hi
  exact List.mem_range.1 (List.mem_filter.1 hi).1
theorem chosen_mem (s n i : Nat) : i ∈ chosenM s n ↔ i < n ∧ s.testBit i = true := by
  unfold chosenM
  rw [List.mem_filter, List.mem_range]
theorem chosen_succ (s n : Nat) : chosenM s (n + 1) = chosenM s n ++ (if s.testBit n then [n] else []) := by
  unfold chosenM
  rw [List.range_succ, List.filter_append]
  congr 1
  cases h : s.testBit n <;> simp [h]

theorem asc_le : ∀ (l : List Nat) (a : Nat), Asc (a :: l) → ∀ i ∈ l, a < i
  | [], _, _ => by simp
  | b :: l, a, h => fun i hi => by
    rcases List.mem_cons.1 hi with rfl | hi
    · exact h.1
    · exact Nat.lt_trans h.1 (asc_le l b h.2 i hi)
theorem asc_tail {a : Nat} : ∀ {l : List Nat}, Asc (a :: l) → Asc l
  | [], _ => trivial
  | _ :: _, h => h.2
theorem asc_ext : ∀ (l m : List Nat), Asc l → Asc m → (∀ i, i ∈ l ↔ i ∈ m) → l = m
  | [], [], _, _, _ => rfl
  | [], b :: m, _, _, h => by have := (h b).2 (by simp); simp at this
  | a :: l, [], _, _, h => by have := (h a).1 (by simp); simp at this
  | a :: l, b :: m, h1, h2, h => by
    have hab : a = b := by
      rcases List.mem_cons.1 ((h a).1 (by simp)) with e | e
      · exact e
      · rcases List.mem_cons.1 ((h b).2 (by simp)) with e2 | e2
        · exact e2.symm
        · have := asc_le _ _ h1 _ e2; have := asc_le _ _ h2 _ e; omega
    subst hab
    rw [asc_ext l m (asc_tail h1) (asc_tail h2) fun i => ?_]
    have hi := h i
    simp only [List.mem_cons] at hi
    constructor
    · intro e
      have := asc_le _ _ h1 _ e
      rcases hi.1 (.inr e) with e2 | e2
      · omega
      · exact e2
    · intro e
      have := asc_le _ _ h2 _ e
      rcases hi.2 (.inr e) with e2 | e2
      · omega
      · exact e2

/-- Each list is that of a set. -/
theorem chosen_sur (n : Nat) : ∀ l, Asc l → (∀ i ∈ l, i < n) → ∃ s, s < 2 ^ n ∧ chosenM s n = l := by
  intro l hl hn
  refine ⟨l.foldl (fun a i => a ||| 2 ^ i) 0, ?_, ?_⟩
  · have key : ∀ (l : List Nat) (a : Nat), a < 2 ^ n → (∀ i ∈ l, i < n) → l.foldl (fun a i => a ||| 2 ^ i) a < 2 ^ n := by
      intro l
      induction l with
      | nil => intro a h _; exact h
      | cons i l ih =>
        intro a h h2
        exact ih _ (Nat.or_lt_two_pow h (Nat.pow_lt_pow_right (by decide) (h2 i (by simp)))) fun j hj => h2 j (by simp [hj])
    exact key l 0 (Nat.two_pow_pos n) hn
  · have key : ∀ (l : List Nat) (a j : Nat), (l.foldl (fun a i => a ||| 2 ^ i) a).testBit j = (a.testBit j || decide (j ∈ l)) := by
      intro l
      induction l with
      | nil => intro a j; simp
      | cons i l ih =>
        intro a j
        rw [List.foldl_cons, ih, Nat.testBit_or, Nat.testBit_two_pow, Bool.or_assoc]
        congr 1
        by_cases h : j = i
        · subst h; simp
        · simp [h, show ¬ i = j from fun e => h e.symm]
    refine asc_ext _ _ (chosen_asc _ _) hl fun i => ?_
    rw [chosen_mem, key]
    simp
    exact hn i

/-- What is best of all sets that have been looked at. -/
def BestOf (n : Nat) (p : List Nat → Bool) (S : Nat) (r : Option (List Nat)) : Prop :=
  match r with
  | none => ∀ s, s < S → p (chosenM s n) = false
  | some l => p l = true ∧ Asc l ∧ (∀ i ∈ l, i < n) ∧ ∀ s, s < S → p (chosenM s n) = true → befB (chosenM s n) l = false
theorem best_find {n : Nat} {p : List Nat → Bool} {r : Option (List Nat)} (h : BestOf n p (2 ^ n) r) : (listsM n).find? p = r := by
  cases hf : (listsM n).find? p with
  | none =>
    have hn := find_none hf
    cases r with
    | none => rfl
    | some l => obtain ⟨h1, h2, h3, _⟩ := h; rw [hn l h2 h3] at h1; cases h1
  | some m =>
    obtain ⟨⟨h1, h2, h3⟩, h4⟩ := find_first hf
    obtain ⟨s, hs, hs2⟩ := chosen_sur n m h2 h3
    cases r with
    | none => have := h s hs; rw [hs2, h1] at this; cases this
    | some l =>
      obtain ⟨k1, k2, k3, k4⟩ := h
      have k5 := k4 s hs (by rw [hs2]; exact h1)
      rw [hs2] at k5
      rcases h4 l k2 k3 k1 with e | e
      · rw [e]
      · rw [k5] at e; cases e
theorem best_step {n : Nat} {p : List Nat → Bool} {S : Nat} {r : Option (List Nat)} (h : BestOf n p S r) :
    BestOf n p (S + 1) (if p (chosenM S n) && (match r with | none => true | some l => befB (chosenM S n) l) then some (chosenM S n) else r) := by
  cases hp : p (chosenM S n) with
  | false =>
    rw [Bool.false_and, if_neg (by simp)]
    cases r with
    | none =>
      intro s hs
      by_cases e : s = S
      · subst e; exact hp
      · exact h s (by omega)
    | some l =>
      refine ⟨h.1, h.2.1, h.2.2.1, fun s hs hs2 => ?_⟩
      by_cases e : s = S
      · subst e; rw [hp] at hs2; cases hs2
      · exact h.2.2.2 s (by omega) hs2
  | true =>
    rw [Bool.true_and]
    cases r with
    | none =>
      rw [if_pos rfl]
      refine ⟨hp, chosen_asc _ _, chosen_lt _ _, fun s hs hs2 => ?_⟩
      by_cases e : s = S
      · subst e; exact befB_irr _
      · have := h s (by omega); rw [hs2] at this; cases this
    | some l =>
      simp only
      by_cases hb : befB (chosenM S n) l = true
      rotate_left
      · rw [if_neg hb]
        simp only [Bool.not_eq_true] at hb
        refine ⟨h.1, h.2.1, h.2.2.1, fun s hs hs2 => ?_⟩
        by_cases e : s = S
        · subst e; exact hb
        · exact h.2.2.2 s (by omega) hs2
      · rw [if_pos hb]
        refine ⟨hp, chosen_asc _ _, chosen_lt _ _, fun s hs hs2 => ?_⟩
        by_cases e : s = S
        · subst e; exact befB_irr _
        · have h1 := h.2.2.2 s (by omega) hs2
          cases h2 : befB (chosenM s n) (chosenM S n) with
          | false => rfl
          | true => rw [befB_trans h2 hb] at h1; cases h1

def natI (l : List Nat) : List Int := l.map fun (i : Nat) => (i : Int)
theorem natI_len (l : List Nat) : (natI l).length = l.length := by simp [natI]
end Go.Proofs.YtnpifaanhofonaaGreatDoor
