import Derived.Test.YthobfecblpnnnaaGreatDoorCoreB
import Derived.OrdersIn
set_option linter.all false

/- Regions of which no order serves for all: one order at a time, each in the way that its clashes come. -/
namespace Go.Proofs.YthobfecblpnnnaaGreatDoor
open Go

/-- An order in which the operations may come. -/
def Path (ops : Array Oper) : Array Bool → List Nat → Prop
  | listed, [] => Region.ready .any ops listed = []
  | listed, k :: r => k ∈ Region.ready .any ops listed ∧ Path ops (listed.setIfInBounds k true) r

theorem ready_lt {ops : Array Oper} {listed : Array Bool} {k : Nat} (h : k ∈ Region.ready .any ops listed) : k < ops.size ∧ k < listed.size ∧ listed.getD k false = false := by
  obtain ⟨h1, o, h2, _⟩ := mem_ready.1 h
  have h3 : k < listed.size := by
    by_cases h : k < listed.size
    · exact h
    · rw [Array.getD_eq_getD_getElem?, Array.getElem?_eq_none (by omega)] at h1; cases h1
  refine ⟨(Array.getElem?_eq_some_iff.1 h2).1, h3, ?_⟩
  rw [Array.getD_eq_getD_getElem?, Array.getElem?_eq_getElem h3] at h1 ⊢
  exact h1

theorem setD (listed : Array Bool) (i k : Nat) (d : Bool) (hi : i < listed.size) : (listed.setIfInBounds i true).getD k d = (decide (k = i) || listed.getD k d) := by
  rw [Array.getD_eq_getD_getElem?, Array.getElem?_setIfInBounds, Array.getD_eq_getD_getElem?]
  by_cases hji : i = k
  · subst hji; simp [hi]
  · rw [if_neg hji]; simp [Ne.symm hji]

theorem set_count : ∀ (l : List Bool) (i : Nat) (_ : l[i]? = some false), (l.set i true).count false + 1 = l.count false
  | [], i, h => by simp at h
  | x :: xs, 0, h => by
    simp at h
    subst h
    simp
  | x :: xs, i + 1, h => by
    have := set_count xs i (by simpa using h)
    simp only [List.set_cons_succ, List.count_cons]
    omega

theorem linearise_path (ops : Array Oper) : ∀ (fuel t : Nat) (listed : Array Bool), listed.toList.count false ≤ fuel → Path ops listed (Region.linearise.go .any ops fuel t listed []) := by
  intro fuel
  induction fuel with
  | zero =>
    intro t listed hc
    simp only [Region.linearise.go, List.reverse_nil, Path]
    cases hx : Region.ready .any ops listed with
    | nil => rfl
    | cons i r =>
      exfalso
      obtain ⟨_, h2, h3⟩ := ready_lt (show i ∈ Region.ready .any ops listed by rw [hx]; simp)
      have h4 : listed.toList.count false = 0 := by omega
      rw [List.count_eq_zero] at h4
      rw [Array.getD_eq_getD_getElem?, Array.getElem?_eq_getElem h2] at h3
      exact h4 (by have : listed[i] = false := h3; rw [← this]; simp)
  | succ fuel ih =>
    intro t listed hc
    simp only [Region.linearise.go]
    change Path ops listed (match (Region.ready .any ops listed)[t % (Region.ready .any ops listed).length]? with
      | some i => Region.linearise.go .any ops fuel (t / (Region.ready .any ops listed).length) (listed.setIfInBounds i true) [i]
      | none => [].reverse)
    cases hi : (Region.ready .any ops listed)[t % (Region.ready .any ops listed).length]? with
    | some i =>
      simp only []
      rw [linearise_go_acc, List.reverse_singleton, List.singleton_append]
      have hm := List.mem_of_getElem? hi
      refine ⟨hm, ih _ _ ?_⟩
      obtain ⟨_, h2, h3⟩ := ready_lt hm
      rw [Array.getD_eq_getD_getElem?, Array.getElem?_eq_getElem h2] at h3
      have := set_count listed.toList i (by simp [h2]; exact h3)
      rw [Array.toList_setIfInBounds]
      omega
    | none =>
      simp only [List.reverse_nil, Path]
      cases hr : Region.ready .any ops listed with
      | nil => rfl
      | cons x xs =>
        rw [hr] at hi
        have hlt : t % (x :: xs).length < (x :: xs).length := Nat.mod_lt _ (by simp)
        simp at hi
        simp at hlt
        omega

section
variable {P : Program} {F : Fence} {n : Nat} {Q : Exit → Act → World → Prop}

theorem any_path {ops : Array Oper} : ∀ (l : List Nat) (fuel : Nat) (listed : Array Bool) (a : Act) (w : World), wpAnyIn F n P .any ops Q fuel listed a w → Path ops listed l → wpOpsIn F n P ops Q l a w
  | [], 0, _, _, _, h, _ => h.2
  | [], _ + 1, _, _, _, h, hp => h.1 hp
  | k :: r, 0, _, _, _, h, hp => by have := hp.1; rw [h.1] at this; cases this
  | k :: r, fuel + 1, _, _, _, h, hp => by
    rw [wpOpsIn_cons]
    exact wpOpIn_mono (fun a w h' => any_path r fuel _ a w h' hp.2) (h.2 k hp.1)

/-! ### One more wait -/

theorem addAfter_get (ops : Array Oper) (j i k : Nat) : (addAfter ops j i)[k]? = if k = j then (ops[k]?).map fun o => { o with after := o.after.push ⟨i, .data⟩ } else ops[k]? := by
  unfold addAfter
  rw [Array.getElem?_modify]
  by_cases h : j = k
  · subst h; simp
  · rw [if_neg h, if_neg (fun e => h e.symm)]
theorem addAfter_size (ops : Array Oper) (j i : Nat) : (addAfter ops j i).size = ops.size := by simp [addAfter]

theorem addAfter_yield (ops : Array Oper) (j i : Nat) (t : Array Value) : yielded (addAfter ops j i) t = yielded ops t := by
  funext g
  have : ((addAfter ops j i)[g]?).bind (·.dst) = (ops[g]?).bind (·.dst) := by
    rw [addAfter_get]
    split
    · cases ops[g]? <;> rfl
    · rfl
  unfold yielded
  rw [this]

theorem addAfter_op (ops : Array Oper) (j i : Nat) (k : Nat) {K : Act → World → Prop} {a : Act} {w : World} : wpOpIn F n P (addAfter ops j i) Q k K a w = wpOpIn F n P ops Q k K a w := by
  unfold wpOpIn
  rw [addAfter_get, addAfter_yield]
  by_cases h : k = j
  · rw [if_pos h]
    cases ho : ops[k]? with
    | none => rfl
    | some o => rfl
  · rw [if_neg h]

theorem addAfter_ops (ops : Array Oper) (j i : Nat) : ∀ (l : List Nat) {a : Act} {w : World}, wpOpsIn F n P (addAfter ops j i) Q l a w = wpOpsIn F n P ops Q l a w
  | [], _, _ => rfl
  | k :: r, a, w => by
    rw [wpOpsIn_cons, wpOpsIn_cons, addAfter_op]
    have : wpOpsIn F n P (addAfter ops j i) Q r = wpOpsIn F n P ops Q r := by funext a w; exact addAfter_ops ops j i r
    rw [this]
end

theorem addAfter_ready {ops : Array Oper} {j i k : Nat} {listed : Array Bool} : k ∈ Region.ready .any (addAfter ops j i) listed ↔ k ∈ Region.ready .any ops listed ∧ (k = j → listed.getD i false = true) := by
  rw [mem_ready, mem_ready, addAfter_get]
  by_cases h : k = j
  · subst h
    simp only [if_true, Option.map_eq_some_iff]
    constructor
    · rintro ⟨h1, o, ⟨o', h2, rfl⟩, h3⟩
      exact ⟨⟨h1, o', h2, fun e he hb => h3 e (by simp [he]) hb⟩, fun _ => h3 ⟨i, .data⟩ (by simp) rfl⟩
    · rintro ⟨⟨h1, o', h2, h3⟩, h4⟩
      refine ⟨h1, _, ⟨o', h2, rfl⟩, fun e he hb => ?_⟩
      simp only [Array.mem_push] at he
      rcases he with he | rfl
      · exact h3 e he hb
      · exact h4 trivial
  · rw [if_neg h]
    exact ⟨fun h' => ⟨h', fun e => absurd e h⟩, fun h' => h'.1⟩

theorem addAfter_nil {ops : Array Oper} {j i : Nat} {listed : Array Bool} (h : Region.ready .any ops listed = []) : Region.ready .any (addAfter ops j i) listed = [] := by
  cases hr : Region.ready .any (addAfter ops j i) listed with
  | nil => rfl
  | cons k r =>
    have := (addAfter_ready.1 (show k ∈ Region.ready .any (addAfter ops j i) listed by rw [hr]; simp)).1
    rw [h] at this; cases this

theorem path_waited {ops : Array Oper} {j i : Nat} : ∀ (l : List Nat) (listed : Array Bool), listed.getD i false = true → Path ops listed l → Path (addAfter ops j i) listed l
  | [], _, _, h => addAfter_nil h
  | k :: r, listed, hi, h => ⟨addAfter_ready.2 ⟨h.1, fun _ => hi⟩, path_waited r _ (by rw [setD _ _ _ _ (ready_lt h.1).2.1, hi]; simp) h.2⟩

/-- One of two comes first. -/
theorem path_split {ops : Array Oper} {i j : Nat} (hij : i ≠ j) : ∀ (l : List Nat) (listed : Array Bool), Path ops listed l → Path (addAfter ops j i) listed l ∨ Path (addAfter ops i j) listed l
  | [], _, h => .inl (addAfter_nil h)
  | k :: r, listed, h => by
    have hlt := (ready_lt h.1).2.1
    by_cases e1 : k = i
    · exact .inl ⟨addAfter_ready.2 ⟨h.1, fun e => absurd (e1.symm.trans e) hij⟩, path_waited r _ (by rw [setD _ _ _ _ hlt, e1]; simp) h.2⟩
    by_cases e2 : k = j
    · exact .inr ⟨addAfter_ready.2 ⟨h.1, fun e => absurd e e1⟩, path_waited r _ (by rw [setD _ _ _ _ hlt, e2]; simp) h.2⟩
    rcases path_split hij r _ h.2 with h' | h'
    · exact .inl ⟨addAfter_ready.2 ⟨h.1, fun e => absurd e e2⟩, h'⟩
    · exact .inr ⟨addAfter_ready.2 ⟨h.1, fun e => absurd e e1⟩, h'⟩

/-! ### In another row -/

structure Perm (ops : Array Oper) (ord : List Nat) : Prop where
  len : ord.length = ops.size
  all : ∀ x, x < ops.size → x ∈ ord
  lt : ∀ x ∈ ord, x < ops.size
  idx : ∀ k (h : k < ord.length), ord.idxOf ord[k] = k

theorem Perm.of {ops : Array Oper} {ord : List Nat} (h : isPerm ops.size ord = true) : Perm ops ord := by
  unfold isPerm at h
  simp only [Bool.and_eq_true, beq_iff_eq, List.all_eq_true, List.mem_range, List.contains_iff_mem, decide_eq_true_eq] at h
  refine ⟨h.1.1.1, h.1.1.2, h.1.2, fun k hk => ?_⟩
  have := h.2 k (by rw [← h.1.1.1]; exact hk)
  rwa [List.getD_eq_getElem?_getD, List.getElem?_eq_getElem hk] at this

theorem idx_out {n : Nat} {ord : List Nat} (hlt : ∀ x ∈ ord, x < n) {x : Nat} (hx : ¬ x < n) : ord.idxOf x = ord.length := List.idxOf_eq_length fun h => hx (hlt x h)

theorem filterMap_get {ops : Array Oper} {g : Oper → Oper} : ∀ (ord : List Nat) (_ : ∀ x ∈ ord, x < ops.size) (k : Nat), (ord.filterMap fun i => (ops[i]?).map g)[k]? = (ord[k]?).bind fun i => (ops[i]?).map g
  | [], _, k => by simp
  | x :: r, h, k => by
    have hx : x < ops.size := h x (by simp)
    have : (ops[x]?).map g = some (g ops[x]) := by simp [hx]
    rw [List.filterMap_cons_some (f := fun i => (ops[i]?).map g) this]
    cases k with
    | zero => simp [hx]
    | succ k => simpa using filterMap_get r (fun y hy => h y (by simp [hy])) k

theorem permute_get {ops : Array Oper} {ord : List Nat} (hp : Perm ops ord) (x : Nat) : (permute ops ord)[ord.idxOf x]? = (ops[x]?).map (relab ord) := by
  unfold permute
  rw [List.getElem?_toArray, filterMap_get ord hp.lt]
  by_cases hx : x < ops.size
  · rw [List.getElem?_eq_getElem (List.idxOf_lt_length_of_mem (hp.all x hx)), List.getElem_idxOf]
    rfl
  · rw [idx_out hp.lt hx]
    simp [hx]

theorem permute_size {ops : Array Oper} {ord : List Nat} (hp : Perm ops ord) : (permute ops ord).size = ops.size := by
  have h1 : ∀ (ord : List Nat), (∀ x ∈ ord, x < ops.size) → (ord.filterMap fun i => (ops[i]?).map (relab ord)).length = ord.length := by
    intro ord
    generalize relab ord = g
    induction ord with
    | nil => intro _; rfl
    | cons x r ih =>
      intro h
      have hx : x < ops.size := h x (by simp)
      have : (ops[x]?).map g = some (g ops[x]) := by simp [hx]
      rw [List.filterMap_cons_some (f := fun i => (ops[i]?).map g) this]
      simp [ih fun y hy => h y (by simp [hy])]
  unfold permute
  rw [List.size_toArray, h1 ord hp.lt, hp.len]

theorem permute_yield {ops : Array Oper} {ord : List Nat} (hp : Perm ops ord) (t : Array Value) (g : Nat) : yielded (permute ops ord) t (ord.idxOf g) = yielded ops t g := by
  unfold yielded
  rw [permute_get hp]
  cases ops[g]? <;> rfl

section
variable {P : Program} {F : Fence} {n : Nat} {Q : Exit → Act → World → Prop}

theorem permute_op {ops : Array Oper} {ord : List Nat} (hp : Perm ops ord) (k : Nat) {K : Act → World → Prop} {a : Act} {w : World} : wpOpIn F n P (permute ops ord) Q (ord.idxOf k) K a w = wpOpIn F n P ops Q k K a w := by
  unfold wpOpIn
  rw [permute_get hp]
  cases ho : ops[k]? with
  | none => rfl
  | some o =>
    have hw : Region.wanted (relab ord o) (yielded (permute ops ord) a.tmps) = Region.wanted o (yielded ops a.tmps) := by
      unfold Region.wanted relab
      cases hg : o.guard with
      | none => rfl
      | some g => obtain ⟨g, b⟩ := g; simp only [Option.map_some, permute_yield hp]
    show (if Region.wanted (relab ord o) (yielded (permute ops ord) a.tmps) = true then _ else _) = _
    rw [hw]
    rfl

theorem permute_ops {ops : Array Oper} {ord : List Nat} (hp : Perm ops ord) : ∀ (l : List Nat) {a : Act} {w : World}, wpOpsIn F n P (permute ops ord) Q (l.map ord.idxOf) a w = wpOpsIn F n P ops Q l a w
  | [], _, _ => rfl
  | k :: r, a, w => by
    rw [List.map_cons, wpOpsIn_cons, wpOpsIn_cons, permute_op hp]
    have : wpOpsIn F n P (permute ops ord) Q (r.map ord.idxOf) = wpOpsIn F n P ops Q r := by funext a w; exact permute_ops hp r
    rw [this]
end

/-- What is done, in the other row. -/
def Moved (ord : List Nat) (n : Nat) (listed listed' : Array Bool) : Prop := listed.size = n ∧ listed'.size = n ∧ ∀ x d, listed'.getD (ord.idxOf x) d = listed.getD x d

theorem Moved.set {ops : Array Oper} {ord : List Nat} (hp : Perm ops ord) {listed listed' : Array Bool} (h : Moved ord ops.size listed listed') {k : Nat} (hk : k < ops.size) : Moved ord ops.size (listed.setIfInBounds k true) (listed'.setIfInBounds (ord.idxOf k) true) := by
  obtain ⟨h1, h2, h3⟩ := h
  have hi : ord.idxOf k < ops.size := by rw [← hp.len]; exact List.idxOf_lt_length_of_mem (hp.all k hk)
  refine ⟨by simpa using h1, by simpa using h2, fun x d => ?_⟩
  rw [setD _ _ _ _ (by omega), setD _ _ _ _ (by omega), h3]
  congr 1
  refine decide_eq_decide.2 ⟨fun e => ?_, fun e => by rw [e]⟩
  by_cases hx : x < ops.size
  · have e1 := List.getElem_idxOf (List.idxOf_lt_length_of_mem (hp.all x hx))
    have e2 := List.getElem_idxOf (List.idxOf_lt_length_of_mem (hp.all k hk))
    rw [← e1, ← e2]
    congr 1
  · rw [idx_out hp.lt hx, hp.len] at e; omega

theorem permute_ready {ops : Array Oper} {ord : List Nat} (hp : Perm ops ord) {listed listed' : Array Bool} (h : Moved ord ops.size listed listed') {k : Nat} : ord.idxOf k ∈ Region.ready .any (permute ops ord) listed' ↔ k ∈ Region.ready .any ops listed := by
  rw [mem_ready, mem_ready, permute_get hp, h.2.2]
  refine and_congr_right fun _ => ?_
  cases ho : ops[k]? with
  | none => simp
  | some o =>
    simp only [Option.map_some, Option.some.injEq, exists_eq_left']
    unfold relab
    simp only [Array.mem_map]
    constructor
    · intro h' e he hb
      have := h' ⟨ord.idxOf e.on, e.ground⟩ ⟨e, he, rfl⟩ hb
      rwa [h.2.2] at this
    · rintro h' _ ⟨e, he, rfl⟩ hb
      rw [h.2.2]
      exact h' e he hb

theorem permute_path {ops : Array Oper} {ord : List Nat} (hp : Perm ops ord) : ∀ (l : List Nat) {listed listed' : Array Bool}, Moved ord ops.size listed listed' → Path ops listed l → Path (permute ops ord) listed' (l.map ord.idxOf)
  | [], listed, listed', hm, h => by
    show Region.ready .any (permute ops ord) listed' = []
    cases hr : Region.ready .any (permute ops ord) listed' with
    | nil => rfl
    | cons k r =>
      exfalso
      have hk : k ∈ Region.ready .any (permute ops ord) listed' := by rw [hr]; simp
      have hlt := (ready_lt hk).1
      rw [permute_size hp, ← hp.len] at hlt
      rw [← hp.idx k hlt, permute_ready hp hm, h] at hk
      cases hk
  | k :: r, listed, listed', hm, h => ⟨(permute_ready hp hm).2 h.1, permute_path hp r (hm.set hp (ready_lt h.1).1) h.2⟩
section
variable {P : Program} {F : Fence} {n : Nat} {Q : Exit → Act → World → Prop}

theorem Moved.start {ops : Array Oper} {ord : List Nat} (hp : Perm ops ord) : Moved ord ops.size (Array.replicate ops.size false) (Array.replicate (permute ops ord).size false) := by
  refine ⟨by simp, by simp [permute_size hp], fun x d => ?_⟩
  rw [permute_size hp]
  by_cases hx : x < ops.size
  · have hi : ord.idxOf x < ops.size := by rw [← hp.len]; exact List.idxOf_lt_length_of_mem (hp.all x hx)
    simp [Array.getD_eq_getD_getElem?, hx, hi]
  · rw [idx_out hp.lt hx, hp.len]
    simp [Array.getD_eq_getD_getElem?, hx]

theorem sorted_path {ops p : Array Oper} (h : sorted ops = some p) {l : List Nat} (hl : Path ops (Array.replicate ops.size false) l) {a : Act} {w : World} (hk : ∀ l', Path p (Array.replicate p.size false) l' → wpOpsIn F n P p Q l' a w) : wpOpsIn F n P ops Q l a w := by
  unfold sorted at h
  simp only at h
  split at h
  · rename_i hp
    cases h
    rw [← permute_ops (Perm.of hp)]
    exact hk _ (permute_path (Perm.of hp) l (Moved.start (Perm.of hp)) hl)
  · cases h

theorem altsGo_path {hard : Bool} {nt : Nat} : ∀ (k : Nat) {ops : Array Oper} {leaves : List (Array Oper)}, altsGo P hard nt k ops = some leaves → ∀ (l : List Nat), Path ops (Array.replicate ops.size false) l → ∀ (a : Act) (w : World), (∀ lf ∈ leaves, ∀ l', Path lf (Array.replicate lf.size false) l' → wpOpsIn F n P lf Q l' a w) → wpOpsIn F n P ops Q l a w
  | 0, _, _, h, _, _, _, _, _ => by cases h
  | k + 1, ops, leaves, h, l, hl, a, w, hk => by
    unfold altsGo at h
    split at h
    · cases h
      exact hk ops (by simp) l hl
    · rename_i i j hc
      split at h
      · rename_i hij
        split at h
        · rename_i p q hp hq
          split at h
          · rename_i x y hx hy
            cases h
            rcases path_split hij.2.2 l _ hl with h' | h'
            · rw [← addAfter_ops ops j i]
              rw [← addAfter_size ops j i] at h'
              exact sorted_path hp h' fun l' hl' => altsGo_path k hx l' hl' a w fun lf hlf => hk lf (by simp [hlf])
            · rw [← addAfter_ops ops i j]
              rw [← addAfter_size ops i j] at h'
              exact sorted_path hq h' fun l' hl' => altsGo_path k hy l' hl' a w fun lf hlf => hk lf (by simp [hlf])
          · cases h
        · cases h
      · cases h
end

/-! ### The same -/

mutual
theorem vEq_eq : ∀ (a b : Value), vEq a b = true → a = b
  | a, b, h => by
    cases a <;> cases b <;> simp only [vEq, Bool.and_eq_true, decide_eq_true_eq, Bool.false_eq_true] at h <;> first | rfl | skip
    all_goals first | (subst h; rfl) | (obtain ⟨h1, h2⟩ := h; subst h1; subst h2; rfl) | (obtain ⟨⟨h1, h2⟩, h3⟩ := h; subst h1; subst h2; subst h3; rfl) | skip
    · obtain ⟨⟨h1, h2⟩, h3⟩ := h
      rw [h1, Array.toList_inj.1 (vEqL_eq _ _ h2), Array.toList_inj.1 (vEqL_eq _ _ h3)]
    · obtain ⟨h1, h2⟩ := h
      rw [h1, vEq_eq _ _ h2]
    · rw [Array.toList_inj.1 (vEqL_eq _ _ h)]
    · rw [Array.toList_inj.1 (vEqL_eq _ _ h)]
theorem vEqL_eq : ∀ (a b : List Value), vEqL a b = true → a = b
  | [], [], _ => rfl
  | v :: r, v' :: r', h => by
    simp only [vEqL, Bool.and_eq_true] at h
    rw [vEq_eq v v' h.1, vEqL_eq r r' h.2]
  | [], _ :: _, h => by simp [vEqL] at h
  | _ :: _, [], h => by simp [vEqL] at h
end
theorem lcEq_eq {a b : LC} (h : lcEq a b = true) : a = b := by
  cases a <;> cases b <;> simp only [lcEq, decide_eq_true_eq, Bool.false_eq_true] at h
  · rw [vEqL_eq _ _ h]
  · rw [h]

theorem lsEq_eq : ∀ {a b : LS}, lsEq a b = true → a = b
  | [], [], _ => rfl
  | (d, g, c) :: r, (d', g', c') :: r', h => by
    simp only [lsEq, Bool.and_eq_true, decide_eq_true_eq] at h
    rw [h.1.1.1, h.1.1.2, lcEq_eq h.1.2, lsEq_eq h.2]
  | [], _ :: _, h => by simp [lsEq] at h
  | _ :: _, [], h => by simp [lsEq] at h

theorem blkEq_eq {a b : ABlk} (h : blkEq a b = true) : a = b := by
  cases a <;> cases b <;> simp only [blkEq, Bool.and_eq_true, decide_eq_true_eq, Bool.false_eq_true] at h
  · rw [h.1, vEqL_eq _ _ h.2]
  · rw [vEqL_eq _ _ h]
  · rfl

theorem hpEq_eq : ∀ {a b : AH}, hpEq a b = true → a = b
  | [], [], _ => rfl
  | x :: r, x' :: r', h => by
    simp only [hpEq, Bool.and_eq_true] at h
    rw [blkEq_eq h.1, hpEq_eq h.2]
  | [], _ :: _, h => by simp [hpEq] at h
  | _ :: _, [], h => by simp [hpEq] at h

theorem Gr.take {H H' : AH} (h : Gr H.length H H') : H'.take H.length = H := by
  apply List.ext_getElem?
  intro k
  rw [List.getElem?_take]
  by_cases hk : k < H.length
  · rw [if_pos hk]; exact h.2 k hk hk
  · rw [if_neg hk, List.getElem?_eq_none (by omega)]

theorem gr_same {H H1 H2 : AH} (h1 : Gr H.length H H1) (h2 : Gr H.length H H2) (h : hpEq (H1.drop H.length) (H2.drop H.length) = true) : H1 = H2 := by
  rw [← List.take_append_drop H.length H1, ← List.take_append_drop H.length H2, h1.take, h2.take, hpEq_eq h]

/-! ### What is forgotten -/

theorem mergeT_get {t : TS} {r1 : St} {rs : List St} {all : Bool} : ∀ (ds : List Tmp) (x : Tmp), tget (mergeT t r1 rs all ds) x = if x ∈ ds then (if (all || sca (tget r1.t x)) && rs.all (fun r => vEq (tget r.t x) (tget r1.t x)) then tget r1.t x else .tuple #[]) else tget t x
  | [], x => by simp [mergeT]
  | d :: ds, x => by
    rw [mergeT, tget_cons]
    by_cases h : x = d
    · subst h; simp
    · rw [if_neg h, mergeT_get ds x]
      simp [h]

variable {P : Program} {B0 : Nat}

/-- With fewer words of the temporaries. -/
theorem SRel.less {rd : Option Nat} {ds : List Nat} {nt : Nat} {m : Mp} {o : Nat → Ow} {s s' : St} {a : Act} {w : World} (r : SRel P B0 rd ds nt m o s a w) (ht : ∀ x, tget s'.t x = tget s.t x ∨ tget s'.t x = .tuple #[]) (hL : s'.L = s.L) (hH : s'.H = s.H) (hr : s'.rd = s.rd) : SRel P B0 rd ds nt m o s' a w where
  T x := by
    rcases ht x with h | h
    · rw [h]; exact r.T x
    · rw [h]; exact .any _
  sz := r.sz
  tie := by rw [hL, hH]; exact r.tie
  G := r.G
  D := r.D
  R := by rw [hr]; exact r.R

/-- What was made is forgotten. -/
theorem SRel.back {rd : Option Nat} {ds : List Nat} {nt : Nat} {m m' : Mp} {o o' : Nat → Ow} {s s' s2 : St} {a a' : Act} {w w' : World} (r : SRel P B0 rd ds nt m o s a w) (r' : SRel P B0 rd ds nt m' o' s' a' w') (hm : m.le m') (hg : Gr s.H.length s.H s'.H) (hk : Keep o w o' w')
    (ht : ∀ x, (tget s2.t x = tget s'.t x ∧ (sca (tget s'.t x) = true ∨ tget s'.t x = tget s.t x)) ∨ tget s2.t x = .tuple #[]) (hL : s'.L = s.L) (hL2 : s2.L = s.L) (hH : s2.H = s.H) (hr : s2.rd = s.rd) : SRel P B0 rd ds nt ⟨m.h, m'.l⟩ o' s2 a' w' where
  T x := by
    rcases ht x with ⟨h, h2⟩ | h
    · rw [h]
      rcases h2 with h2 | h2
      · exact sca_rel (r'.T x) h2
      · have h3 := r'.T x
        have h4 := r.T x
        rw [h2] at h3 ⊢
        obtain ⟨mh, ml⟩ := m
        obtain ⟨mh', ml'⟩ := m'
        exact h3.back hm.1 h4
    · rw [h]; exact .any _
  sz := r'.sz
  tie := by
    obtain ⟨mh, ml⟩ := m
    obtain ⟨mh', ml'⟩ := m'
    rw [hL2, hH]
    refine ⟨((r.tie.tH.relabel (l' := fun _ _ => none)).back hm.1 (r'.tie.tH.relabel (l' := fun _ _ => none)) hg hk.size).relabel, fun d g c hc => ?_, fun d g B hB => ?_⟩
    · have k0 := r.tie.tL d g c hc
      have k1 := r'.tie.tL d g c (by rw [hL]; exact hc)
      cases c with
      | cells vs =>
        obtain ⟨_, _, _, _, _, _, _, q0⟩ := k0
        obtain ⟨B, q1, q2, q3, arr, te, q4, q5⟩ := k1
        exact ⟨B, q1, q2, q3, arr, te, q4, q5.back hm.1 q0⟩
      | fwd b' =>
        obtain ⟨j0, q0, _, _⟩ := k0
        obtain ⟨j, q1, q2, q3⟩ := k1
        have h1 : mh' b' = some j0 := hm.1 _ _ q0
        have h2 : mh' b' = some j := q1
        rw [h1] at h2; cases h2
        exact ⟨_, q0, q2, q3⟩
    · have := r'.tie.tF d g B hB
      rw [hL] at this
      exact this
  G := r.G
  D := r'.D
  R := by
    have := r.R
    rw [hr]
    exact this

/-! ### Two names exchanged -/

def swN (n b : Nat) : Nat := if b = n then n + 1 else if b = n + 1 then n else b
def swOw (n : Nat) : Ow → Ow
  | .heap b => .heap (swN n b)
  | x => x
def swM (n : Nat) (m m' : Mp) : Mp := ⟨fun b => if b = n then m'.h (n + 1) else if b = n + 1 then m'.h n else m.h b, m'.l⟩

theorem swM_a (n : Nat) (m m' : Mp) : (swM n m m').h n = m'.h (n + 1) := by simp [swM]
theorem swM_b (n : Nat) (m m' : Mp) : (swM n m m').h (n + 1) = m'.h n := by simp [swM]
theorem swM_c (n : Nat) (m m' : Mp) {b : Nat} (h1 : b ≠ n) (h2 : b ≠ n + 1) : (swM n m m').h b = m.h b := by simp [swM, h1, h2]

theorem swOw_low {n : Nat} {x : Ow} (h : ∀ b, x = .heap b → b < n) : swOw n x = x := by
  cases x with
  | heap b => have := h b rfl; simp only [swOw, swN]; rw [if_neg (by omega), if_neg (by omega)]
  | _ => rfl

theorem swLs_there {n : Nat} {L : LS} : ∀ {X Y : LS}, swLs n L X Y = true → ∀ d, (lget Y d = lget L d ∧ lget X d = lget L d) ∨ ∃ g a b, lget X d = some (g, a) ∧ lget Y d = some (g, b) ∧ swLc n (lget L d) a b = true
  | X, Y, h, d => by
    unfold swLs at h
    split at h
    · simp only [Bool.and_eq_true] at h
      rw [lsEq_eq h.1, lsEq_eq h.2]
      exact .inl ⟨rfl, rfl⟩
    · split at h
      · rename_i d1 g1 c1 X' d2 g2 c2 Y' hneg
        simp only [Bool.and_eq_true, decide_eq_true_eq] at h
        obtain ⟨⟨⟨rfl, rfl⟩, h3⟩, h4⟩ := h
        by_cases hd : d = d1
        · subst hd
          exact .inr ⟨g1, c1, c2, by simp [lget], by simp [lget], h3⟩
        · rcases swLs_there h4 d with ⟨k1, k2⟩ | ⟨g, a, b, k1, k2, k3⟩
          · exact .inl ⟨by rw [lget, if_neg hd, k1], by rw [lget, if_neg hd, k2]⟩
          · exact .inr ⟨g, a, b, by rw [lget, if_neg hd, k1], by rw [lget, if_neg hd, k2], k3⟩
      · cases h

theorem swV_rel {n : Nat} {m m' : Mp} {a b v : Value} (h : swV n a b = true) (r : VRel m' a v) : VRel (swM n m m') b v := by
  unfold swV at h
  split at h
  · rename_i p k c q k' c'
    simp only [Bool.and_eq_true, Bool.or_eq_true, decide_eq_true_eq, Option.isNone_iff_eq_none] at h
    obtain ⟨⟨⟨⟨⟨rfl, rfl⟩, h3⟩, h4⟩, h5⟩, h6⟩ := h
    cases r with
    | sl _ a' _ _ c' i hs hr hi ht hn hc =>
      have hq : (swM n m m').h q.block = some i := by
        rcases h6 with ⟨e1, e2⟩ | ⟨e1, e2⟩
        · rw [e2, swM_b, ← e1]; exact hi
        · rw [e2, swM_a, ← e1]; exact hi
      refine .sl _ _ _ _ _ i h5 ?_ hq ht hn hc
      obtain ⟨r1, r2⟩ := hr
      rw [hs] at r2
      obtain ⟨i2, r3, r4, r5⟩ := r2
      rw [hi] at r3; cases r3
      refine ⟨r1, ?_⟩
      rw [h5]
      exact ⟨i, hq, r4, by rw [← h3]; exact r5⟩
  · cases h

theorem swCs_rel {n : Nat} {mh mh' : Nat → Option HI} {ml ml' : Nat → Nat → Option Nat} (hm : ∀ b i, mh b = some i → mh' b = some i) (hl : (⟨mh, ml'⟩ : Mp).le (swM n ⟨mh, ml⟩ ⟨mh', ml'⟩)) : ∀ {ps as bs : List Value}, swCs n ps as bs = true → ∀ {xs ys : List Value}, LsRel ⟨mh, ml⟩ ps xs → LsRel ⟨mh', ml'⟩ as ys → LsRel (swM n ⟨mh, ml⟩ ⟨mh', ml'⟩) bs ys
  | [], [], [], _, xs, ys, _, h2 => by
    have : ys = [] := List.eq_nil_of_length_eq_zero (by have := h2.1; simpa using this.symm)
    subst this
    exact LsRel.nil _
  | p :: ps, a :: as, b :: bs, h, xs, ys, h1, h2 => by
    simp only [swCs, Bool.and_eq_true] at h
    cases xs with
    | nil => simp [LsRel] at h1
    | cons x xs =>
    cases ys with
    | nil => simp [LsRel] at h2
    | cons y ys =>
    refine LsRel.cons ?_ (swCs_rel hm hl h.2 h1.tail h2.tail)
    have h3 := h.1
    simp only [swOk, Bool.or_eq_true, Bool.and_eq_true] at h3
    rcases h3 with h3 | ⟨h3, h4 | h4⟩
    · exact swV_rel h3 h2.head
    · rw [← vEq_eq _ _ h3]; exact sca_rel h2.head h4
    · have e1 := vEq_eq _ _ h3
      have e2 := vEq_eq _ _ h4
      have h5 := h1.head
      rw [← e2] at h5
      rw [← e1]
      exact ((h2.head).back hm h5).mono hl
  | [], [], _ :: _, h, _, _, _, _ => by simp [swCs] at h
  | [], _ :: _, _, h, _, _, _, _ => by simp [swCs] at h
  | _ :: _, [], _, h, _, _, _, _ => by simp [swCs] at h
  | _ :: _, _ :: _, [], h, _, _, _, _ => by simp [swCs] at h

theorem SRel.swap {rd : Option Nat} {ds : List Nat} {nt : Nat} {m m' : Mp} {o o' : Nat → Ow} {s r r1 s2 : St} {a a' : Act} {w w' : World} (r0 : SRel P B0 rd ds nt m o s a w) (r' : SRel P B0 rd ds nt m' o' r a' w') (hm : m.le m') (hg : Gr s.H.length s.H r.H) (hg1 : Gr s.H.length s.H r1.H) (hk : Keep o w o' w')
    (hsw : swSt s r r1 = true) (ht : ∀ x, (tget s2.t x = tget r.t x ∧ (sca (tget r.t x) = true ∨ tget r.t x = tget s.t x)) ∨ tget s2.t x = .tuple #[]) (hL2 : s2.L = r1.L) (hH2 : s2.H = r1.H) (hr : s2.rd = s.rd) :
    ∃ m3 o3, m.le m3 ∧ SRel P B0 rd ds nt m3 o3 s2 a' w' ∧ Keep o w o3 w' := by
  unfold swSt at hsw
  rw [Bool.and_eq_true] at hsw
  obtain ⟨hsH, hsL⟩ := hsw
  obtain ⟨e0, vs0, e1, vs1, eX, eY, sc0, sc1⟩ : ∃ e0 vs0 e1 vs1, r.H.drop s.H.length = [.rw e0 vs0, .rw e1 vs1] ∧ r1.H.drop s.H.length = [.rw e1 vs1, .rw e0 vs0] ∧ scaL vs0 = true ∧ scaL vs1 = true := by
    unfold swHp at hsH
    split at hsH
    · rename_i e vs e' vs' f us f' us' hX hY
      simp only [Bool.and_eq_true, decide_eq_true_eq] at hsH
      obtain ⟨⟨⟨⟨⟨rfl, rfl⟩, h3⟩, h4⟩, h5⟩, h6⟩ := hsH
      rw [← vEqL_eq _ _ h3, ← vEqL_eq _ _ h4] at hY
      exact ⟨_, _, _, _, hX, hY, h5, h6⟩
    · cases hsH
  have hXH : r.H = s.H ++ [.rw e0 vs0, .rw e1 vs1] := by
    have h := List.take_append_drop s.H.length r.H
    rw [hg.take, eX] at h
    exact h.symm
  have hYH : r1.H = s.H ++ [.rw e1 vs1, .rw e0 vs0] := by
    have h := List.take_append_drop s.H.length r1.H
    rw [hg1.take, eY] at h
    exact h.symm
  clear eX eY hsH
  obtain ⟨n, hn⟩ : ∃ n, n = s.H.length := ⟨_, rfl⟩
  obtain ⟨mh, ml⟩ := m
  obtain ⟨mh', ml'⟩ := m'
  have hmh : ∀ b i, mh b = some i → mh' b = some i := hm.1
  have hdom : ∀ b i, mh b = some i → b < n := fun b i e => by rw [hn]; exact (r0.tie.tH.dom b i e).1
  have hle0 : (⟨mh, ml'⟩ : Mp).le (swM n ⟨mh, ml⟩ ⟨mh', ml'⟩) := ⟨fun b i e => by
    have := hdom b i e
    rw [swM_c _ _ _ (by omega) (by omega)]; exact e, fun _ _ _ h => h⟩
  have hle : (⟨mh, ml⟩ : Mp).le (swM n ⟨mh, ml⟩ ⟨mh', ml'⟩) := Mp.le_trans (b := ⟨mh, ml'⟩) ⟨fun _ _ h => h, hm.2⟩ hle0
  have WB : WRel P B0 ⟨mh, ml'⟩ o' s.H w' := ((r0.tie.tH.relabel (l' := fun _ _ => none)).back hmh (r'.tie.tH.relabel (l' := fun _ _ => none)) hg hk.size).relabel
  have hb0 := r'.tie.tH.base
  have hsame : ∀ B, (∀ b, o' B = .heap b → b < n) → swOw n (o' B) = o' B := fun B h => swOw_low h
  rw [← hn] at hsL
  have hfront : ∀ (x y : ABlk), (s.H ++ [x, y])[n]? = some x ∧ (s.H ++ [x, y])[n + 1]? = some y := fun x y => by
    rw [hn]
    exact ⟨by rw [List.getElem?_append_right (Nat.le_refl _), Nat.sub_self]; rfl, by rw [List.getElem?_append_right (by omega), Nat.add_sub_cancel_left]; rfl⟩
  refine ⟨swM n ⟨mh, ml⟩ ⟨mh', ml'⟩, fun B => swOw n (o' B), hle, ⟨fun x => ?_, r'.sz, ⟨?_, ?_, ?_⟩, r0.G.mono hle, ?_, ?_⟩, ?_⟩
  · rcases ht x with ⟨h, h2⟩ | h
    · rw [h]
      rcases h2 with h2 | h2
      · exact sca_rel (r'.T x) h2
      · have h3 := r'.T x
        have h4 := r0.T x
        rw [h2] at h3 ⊢
        exact (h3.back hmh h4).mono hle0
    · rw [h]; exact .any _
  · rw [hH2, hYH]
    refine ⟨fun b i e => ?_, fun B hB => by show swOw n (o' B) = _; rw [hb0 B hB]; rfl, r'.tie.tH.low, fun b i x e hx => ?_⟩
    · have hlen : (s.H ++ [ABlk.rw e1 vs1, ABlk.rw e0 vs0]).length = n + 2 := by simp [hn]
      rw [hlen]
      by_cases hb : b = n
      · rw [hb, swM_a] at e; exact ⟨by omega, (r'.tie.tH.dom _ _ e).2⟩
      · by_cases hb1 : b = n + 1
        · rw [hb1, swM_b] at e; exact ⟨by omega, (r'.tie.tH.dom _ _ e).2⟩
        · rw [swM_c _ _ _ hb hb1] at e
          have := hdom b i e; exact ⟨by omega, (WB.dom b i e).2⟩
    · have newB : ∀ (b c : Nat) (e : Nat) (vs : List Value), scaL vs = true → swN n c = b → mh' c = some i → r.H[c]? = some (.rw e vs) → x = .rw e vs → BRel P B0 (swM n ⟨mh, ml⟩ ⟨mh', ml'⟩) (fun B => swOw n (o' B)) b i w' x := by
        rintro b c e vs hsc hbc hi hc rfl
        obtain ⟨h1, h2, h3, h4, h5, arr, te, h6, h7, h8, h9⟩ := r'.tie.tH.blk c i _ hi hc
        refine ⟨h1, h2, h3, by show swOw n (o' i.blk) = _; rw [h4]; simp only [swOw]; rw [hbc], h5, arr, te, h6, h7, h8, h9.1, fun j p q => sca_rel (h9.2 j p q) ?_⟩
        clear h9
        induction vs generalizing j with
        | nil => simp at p
        | cons v vs ih =>
          simp only [scaL, Bool.and_eq_true] at hsc
          cases j with
          | zero => exact hsc.1
          | succ j =>
            have : ∀ (l : List Value) (j : Nat) (h : j < l.length), scaL l = true → sca l[j] = true := by
              intro l
              induction l with
              | nil => intro j h; simp at h
              | cons v l ih =>
                intro j h hs
                simp only [scaL, Bool.and_eq_true] at hs
                cases j with
                | zero => exact hs.1
                | succ j => exact ih j (by simpa using h) hs.2
            exact this vs j (by simpa using p) hsc.2
      by_cases hb : b = n
      · subst hb
        rw [(hfront _ _).1] at hx
        rw [swM_a] at e
        exact newB _ (b + 1) e1 vs1 sc1 (by simp [swN]) e (by rw [hXH]; exact (hfront _ _).2) (Option.some.inj hx).symm
      · by_cases hb1 : b = n + 1
        · subst hb1
          rw [(hfront _ _).2] at hx
          rw [swM_b] at e
          exact newB _ n e0 vs0 sc0 (by simp [swN]) e (by rw [hXH]; exact (hfront _ _).1) (Option.some.inj hx).symm
        · rw [swM_c _ _ _ hb hb1] at e
          have hlt := hdom b i e
          rw [List.getElem?_append_left (by omega)] at hx
          refine (WB.blk b i x e hx).keep hle0 fun B _ ho => ⟨rfl, hsame B fun b' hb' => ?_⟩
          rcases ho with ho | ho | ⟨d, g, ho⟩
          · rw [hb0 B ho] at hb'; cases hb'
          · rw [ho] at hb'; cases hb'; exact hlt
          · rw [ho] at hb'; cases hb'
  · rw [hL2]
    intro d g c hc
    rcases swLs_there hsL d with ⟨k1, k2⟩ | ⟨g2, ca, cb, k1, k2, k3⟩
    · rw [k1] at hc
      have q0 := r0.tie.tL d g c hc
      have q1 := r'.tie.tL d g c (by rw [k2]; exact hc)
      cases c with
      | cells vs =>
        obtain ⟨_, _, _, _, _, _, _, p0⟩ := q0
        obtain ⟨B, p1, p2, p3, arr, te, p4, p5⟩ := q1
        exact ⟨B, p1, by show swOw n (o' B) = _; rw [p2]; rfl, p3, arr, te, p4, (p5.back hmh p0).mono hle0⟩
      | fwd b' =>
        obtain ⟨j0, p0, z0, _⟩ := q0
        obtain ⟨j, p1, p2, p3⟩ := q1
        have h1 : mh' b' = some j0 := hmh _ _ p0
        have h2 : mh' b' = some j := p1
        rw [h1] at h2; cases h2
        exact ⟨_, hle0.1 _ _ p0, p2, p3⟩
    · rw [k2] at hc
      cases hc
      have q1 := r'.tie.tL d g ca k1
      unfold swLc at k3
      split at k3
      · rename_i g0 ps as bs hL
        have q0 := r0.tie.tL d g0 _ hL
        obtain ⟨_, _, _, _, _, _, _, p0⟩ := q0
        obtain ⟨B, p1, p2, p3, arr, te, p4, p5⟩ := q1
        exact ⟨B, p1, by show swOw n (o' B) = _; rw [p2]; rfl, p3, arr, te, p4, swCs_rel hmh hle0 k3 p0 p5⟩
      · cases k3
  · rw [hL2]
    intro d g B hB
    obtain ⟨g', c, h1, h2⟩ := r'.tie.tF d g B hB
    rcases swLs_there hsL d with ⟨k1, k2⟩ | ⟨g2, ca, cb, k1, k2, k3⟩
    · exact ⟨g', c, by rw [k1, ← k2]; exact h1, h2⟩
    · rw [k1] at h1; cases h1
      exact ⟨_, cb, k2, h2⟩
  · obtain ⟨d1, d2, d3⟩ := r'.D
    exact ⟨d1, d2, fun D hD => ⟨(d3 D hD).1, by show swOw n (o' D) = _; rw [(d3 D hD).2]; rfl⟩⟩
  · have h := r0.R
    rw [hr]
    revert h
    cases s.rd <;> cases rd <;> intro h <;> first | trivial | exact h | skip
    obtain ⟨i, h1, h2⟩ := h
    exact ⟨i, hle.1 _ _ h1, h2⟩
  · refine ⟨hk.os, hk.tape, hk.output, hk.size, fun B hB ho => ?_⟩
    obtain ⟨k1, k2⟩ := hk.same B hB ho
    exact ⟨k1, by show swOw n (o' B) = _; rw [k2]; rfl⟩

/-- What all runs have in common holds behind each. -/
theorem merge_rel {rd : Option Nat} {ds : List Nat} {nt : Nat} {m m' : Mp} {o o' : Nat → Ow} {s s' r : St} {ts : List Tmp} {rs : List St} {a a' : Act} {w w' : World} (h : mergeA s ts rs = some s') (hrs : ∀ r ∈ rs, Gr s.H.length s.H r.H ∧ r.rd = s.rd ∧ ∀ x, x ∉ ts → tget r.t x = tget s.t x)
    (r0 : SRel P B0 rd ds nt m o s a w) (hr : r ∈ rs) (r' : SRel P B0 rd ds nt m' o' r a' w') (hm : m.le m') (hk : Keep o w o' w') : ∃ m2 o2, m.le m2 ∧ SRel P B0 rd ds nt m2 o2 s' a' w' ∧ Keep o w o2 w' := by
  cases rs with
  | nil => cases hr
  | cons r1 rs =>
    have key : ∀ x, (∀ r ∈ rs, vEq (tget r.t x) (tget r1.t x) = true) → tget r.t x = tget r1.t x := by
      intro x hv
      rcases List.mem_cons.1 hr with rfl | hr
      · rfl
      · exact vEq_eq _ _ (hv r hr)
    simp only [mergeA] at h
    split at h
    · rename_i hc
      cases h
      have h1 : r.L = r1.L ∧ r.H = r1.H := by
        rcases List.mem_cons.1 hr with rfl | hr'
        · exact ⟨rfl, rfl⟩
        · have := List.all_eq_true.1 hc r hr'
          simp only [Bool.and_eq_true] at this
          exact ⟨lsEq_eq this.1, gr_same (hrs r hr).1 (hrs r1 (by simp)).1 this.2⟩
      refine ⟨m', o', hm, r'.less (fun x => ?_) h1.1.symm h1.2.symm (hrs r hr).2.1.symm, hk⟩
      show tget (mergeT s.t r1 rs true ts) x = _ ∨ _
      rw [mergeT_get]
      by_cases hx : x ∈ ts
      · rw [if_pos hx]
        split
        · rename_i hb
          simp only [Bool.true_or, Bool.true_and, List.all_eq_true] at hb
          exact .inl (key x hb).symm
        · exact .inr rfl
      · rw [if_neg hx]
        exact .inl ((hrs r hr).2.2 x hx).symm
    · split at h
      · rename_i hc
        cases h
        have h1 : r.L = s.L := lsEq_eq (List.all_eq_true.1 hc r hr)
        refine ⟨⟨m.h, m'.l⟩, o', ⟨fun _ _ h => h, hm.2⟩, r0.back r' hm (hrs r hr).1 hk (fun x => ?_) h1 rfl rfl rfl, hk⟩
        show (tget (mergeT s.t r1 rs false ts) x = _ ∧ _) ∨ _
        rw [mergeT_get]
        by_cases hx : x ∈ ts
        · rw [if_pos hx]
          split
          · rename_i hb
            simp only [Bool.false_or, Bool.and_eq_true, List.all_eq_true] at hb
            have := key x hb.2
            exact .inl ⟨this.symm, .inl (by rw [this]; exact hb.1)⟩
          · exact .inr rfl
        · rw [if_neg hx]
          exact .inl ⟨((hrs r hr).2.2 x hx).symm, .inr ((hrs r hr).2.2 x hx)⟩
      · split at h
        · rename_i hc
          cases h
          have htt : ∀ x, (tget (mergeT s.t r1 rs false ts) x = tget r.t x ∧ (sca (tget r.t x) = true ∨ tget r.t x = tget s.t x)) ∨ tget (mergeT s.t r1 rs false ts) x = .tuple #[] := fun x => by
            rw [mergeT_get]
            by_cases hx : x ∈ ts
            · rw [if_pos hx]
              split
              · rename_i hb
                simp only [Bool.false_or, Bool.and_eq_true, List.all_eq_true] at hb
                have := key x hb.2
                exact .inl ⟨this.symm, .inl (by rw [this]; exact hb.1)⟩
              · exact .inr rfl
            · rw [if_neg hx]
              exact .inl ⟨((hrs r hr).2.2 x hx).symm, .inr ((hrs r hr).2.2 x hx)⟩
          rcases List.mem_cons.1 hr with rfl | hr'
          · exact ⟨m', o', hm, r'.less (fun x => (htt x).imp (fun h => h.1) id) rfl rfl (hrs r hr).2.1.symm, hk⟩
          have h1 := List.all_eq_true.1 hc r hr'
          rw [Bool.or_eq_true] at h1
          rcases h1 with h1 | h1
          · simp only [Bool.and_eq_true] at h1
            exact ⟨m', o', hm, r'.less (fun x => (htt x).imp (fun h => h.1) id) (lsEq_eq h1.1).symm (gr_same (hrs r hr).1 (hrs r1 (by simp)).1 h1.2).symm (hrs r hr).2.1.symm, hk⟩
          · exact r0.swap (s2 := { s with t := mergeT s.t r1 rs false ts, L := r1.L, H := r1.H }) r' hm (hrs r hr).1 (hrs r1 (by simp)).1 hk h1 htt rfl rfl rfl
        · cases h

/-- The same heap in all runs. -/
theorem mergeW_rel {rd : Option Nat} {ds : List Nat} {nt : Nat} {m m' : Mp} {o o' : Nat → Ow} {s s' r : St} {ts : List Tmp} {rs : List St} {a' : Act} {w w' : World} (h : mergeW s ts rs = some s') (hrs : ∀ r ∈ rs, r.rd = s.rd ∧ ∀ x, x ∉ ts → tget r.t x = tget s.t x)
    (hr : r ∈ rs) (r' : SRel P B0 rd ds nt m' o' r a' w') (hm : m.le m') (hk : Keep o w o' w') : ∃ m2 o2, m.le m2 ∧ SRel P B0 rd ds nt m2 o2 s' a' w' ∧ Keep o w o2 w' := by
  cases rs with
  | nil => cases hr
  | cons r1 rs =>
    have key : ∀ x, (∀ r ∈ rs, vEq (tget r.t x) (tget r1.t x) = true) → tget r.t x = tget r1.t x := by
      intro x hv
      rcases List.mem_cons.1 hr with rfl | hr
      · rfl
      · exact vEq_eq _ _ (hv r hr)
    simp only [mergeW] at h
    split at h
    · rename_i hc
      cases h
      have h1 : r.L = r1.L ∧ r.H = r1.H := by
        rcases List.mem_cons.1 hr with rfl | hr'
        · exact ⟨rfl, rfl⟩
        · have := List.all_eq_true.1 hc r hr'
          simp only [Bool.and_eq_true] at this
          exact ⟨lsEq_eq this.1, hpEq_eq this.2⟩
      refine ⟨m', o', hm, r'.less (fun x => ?_) h1.1.symm h1.2.symm (hrs r hr).1.symm, hk⟩
      show tget (mergeT s.t r1 rs true ts) x = _ ∨ _
      rw [mergeT_get]
      by_cases hx : x ∈ ts
      · rw [if_pos hx]
        split
        · rename_i hb
          simp only [Bool.true_or, Bool.true_and, List.all_eq_true] at hb
          exact .inl (key x hb).symm
        · exact .inr rfl
      · rw [if_neg hx]
        exact .inl ((hrs r hr).2 x hx).symm
    · cases h

theorem runAlts_mem {C : CallA} {s : St} {lim : Nat} : ∀ {ls : List (List (DK × SOp))} {rs : List St}, runAlts C s lim ls = some rs → (∀ l ∈ ls, ∃ r ∈ rs, dOps C l { s with lim := lim } = some r) ∧ ∀ r ∈ rs, ∃ l ∈ ls, dOps C l { s with lim := lim } = some r
  | [], rs, h => by cases h; exact ⟨fun _ h => by simp at h, fun _ h => by simp at h⟩
  | l :: ls, rs, h => by
    simp only [runAlts] at h
    split at h
    · rename_i x y h1 h2
      cases h
      obtain ⟨k1, k2⟩ := runAlts_mem h2
      refine ⟨fun l' hl' => ?_, fun r hr => ?_⟩
      · rcases List.mem_cons.1 hl' with rfl | hl'
        · exact ⟨x, by simp, h1⟩
        · obtain ⟨r, hr, e⟩ := k1 l' hl'
          exact ⟨r, by simp [hr], e⟩
      · rcases List.mem_cons.1 hr with rfl | hr
        · exact ⟨l, by simp, h1⟩
        · obtain ⟨l', hl', e⟩ := k2 r hr
          exact ⟨l', by simp [hl'], e⟩
    · cases h

theorem drawLs_mem {nt : Nat} : ∀ {lv : List (Array Oper)} {ls : List (List (DK × SOp))}, drawLs P nt lv = some ls → ∀ lf ∈ lv, ∃ l ∈ ls, drawL P nt lf = some l
  | [], ls, h, lf, hl => by cases hl
  | o :: r, ls, h, lf, hl => by
    simp only [drawLs] at h
    split at h
    · rename_i l ls' h1 h2
      cases h
      rcases List.mem_cons.1 hl with rfl | hl
      · exact ⟨l, by simp, h1⟩
      · obtain ⟨l', k1, k2⟩ := drawLs_mem h2 lf hl
        exact ⟨l', by simp [k1], k2⟩
    · cases h
end Go.Proofs.YthobfecblpnnnaaGreatDoor
