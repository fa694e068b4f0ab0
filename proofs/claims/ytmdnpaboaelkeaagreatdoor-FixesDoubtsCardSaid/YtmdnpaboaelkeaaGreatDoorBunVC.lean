import Derived.Test.YtmdnpaboaelkeaaGreatDoorBunVB
set_option linter.all false
namespace Go.Proofs.YtmdnpaboaelkeaaGreatDoor
open Go Go.RowKit
theorem run_holds {a b : Nat} (ha : a < 2 ^ 64) (hb : b < 2 ^ 64) (lim : Nat) (H : AH) : apL Tryz.prog pf (.func (.func 130) #[] #[]) [.int .u64 a, .int .u64 b] lim H = some (.bool (subM b a), H) := by
  rw [apL_func _ _ _ _ _ _ (by rfl), sf_fixes_set_holds_eq]
  have h := fun lim => run_isIn hb ha lim H
  simp [sf_fixes_set_holds, h, pf_pure, pureF]
theorem run_all3 (x : Ds) (hl : x.reps.length ≤ 12) (lim : Nat) (H : AH) (d t s r a b e : Value) (h : DsIn H x d t s r) (ha : OneS a) (hb : OneS b) (he : OneS e) :
    apL Tryz.prog pf (.func (.func 47) #[] #[]) [srV x d t s r a b e] lim H = some (.int .u64 ((2 ^ x.reps.length - 1 : Nat) : Int), H) := by
  rw [apL_func _ _ _ _ _ _ (by rfl), sf_fixes_search_all_eq]
  obtain ⟨⟨⟨da, dc, ed, _⟩, ⟨ta, tc, et, _⟩, ⟨sa, sc, es, _⟩, _, htl, _⟩, ⟨ra, rc, er, _⟩, _⟩ := h
  obtain ⟨a1, a2, a3, ea⟩ := ha
  obtain ⟨b1, b2, b3, eb⟩ := hb
  obtain ⟨e1, e2, e3, ee⟩ := he
  have hbits : IntKind.u64.bits = 64 := rfl
  have hmin : min x.reps.length 64 = x.reps.length := by omega
  have hp : 1 ≤ 2 ^ x.reps.length := Nat.one_le_two_pow
  have hp2 : 2 ^ x.reps.length ≤ 2 ^ 12 := Nat.pow_le_pow_right (by omega) hl
  have w1 : IntKind.u64.wrap ((2 : Int) ^ x.reps.length) = ((2 ^ x.reps.length : Nat) : Int) := by
    have : ((2 : Int) ^ x.reps.length) = ((2 ^ x.reps.length : Nat) : Int) := by simp
    rw [this]; exact wrap_u64 (by omega)
  have w2 : IntKind.u64.wrap (((2 ^ x.reps.length : Nat) : Int) - 1) = ((2 ^ x.reps.length - 1 : Nat) : Int) := by
    have : (((2 ^ x.reps.length : Nat) : Int) - 1) = ((2 ^ x.reps.length - 1 : Nat) : Int) := by omega
    rw [this]; exact wrap_u64 (by omega)
  simp only [srV, ed, et, es, er, ea, eb, ee]
  simp [-Int.natCast_pow, sf_fixes_search_all, hbits, hmin, w1, w2, pf_pure, pureF]
def setM (l : List Nat) : Nat := l.foldl (fun a i => a ||| 2 ^ i) 0
theorem setM_snoc (l : List Nat) (i : Nat) : setM (l ++ [i]) = setM l ||| 2 ^ i := by simp [setM]
theorem setM_lt : ∀ (l : List Nat), (∀ i ∈ l, i < 12) → setM l < 2 ^ 12 := by
  intro l
  have key : ∀ (l : List Nat) (a : Nat), a < 2 ^ 12 → (∀ i ∈ l, i < 12) → l.foldl (fun a i => a ||| 2 ^ i) a < 2 ^ 12 := by
    intro l
    induction l with
    | nil => intro a h _; exact h
    | cons j l ih => intro a h hi; exact ih _ (Nat.or_lt_two_pow h (Nat.pow_lt_pow_right (by omega) (hi j (by simp)))) fun i h' => hi i (by simp [h'])
  exact key l 0 (by omega)
def soLoop : SC := sf_fixes_setOf.body.loops.headD .skip
theorem setOf_loop (l : List Nat) (hl : l.length ≤ 100) (hi : ∀ i ∈ l, i < 12) (H : AH) (v : Value) (hv : Sl H v l.length (ints (l.map fun (i : Nat) => (i : Int)))) (S : St) (h3 : tget S.t 3 = .int .u64 0) (h6 : tget S.t 6 = v) (h7 : tget S.t 7 = .int .i64 l.length) (h8 : tget S.t 8 = .int .i64 0) (hH : S.H = H) :
    ∃ q, exL Tryz.prog pf (.loop soLoop) S = some q ∧ q.1 = .exit 0 ∧ q.2.H = H ∧ tget q.2.t 3 = .int .u64 (setM l) := by
  obtain ⟨aa, ac, rfl, hd⟩ := hv
  refine loop_rule (I := fun n s' => ∃ i, i ≤ l.length ∧ n = l.length - i ∧ tget s'.t 6 = .slice aa l.length ac ∧ tget s'.t 7 = .int .i64 l.length ∧ tget s'.t 8 = .int .i64 i ∧ s'.H = H ∧ tget s'.t 3 = .int .u64 (setM (l.take i))) ?_ l.length S ⟨0, by omega, by omega, h6, h7, h8, hH, by simpa [setM] using h3⟩
  rintro n s' ⟨i, hii, rfl, e6, e7, e8, eH, e3⟩
  by_cases hlt : i < l.length
  rotate_left
  · have : i = l.length := by omega
    subst this
    rw [List.take_length] at e3
    simp [soLoop, SC.loops, sf_fixes_setOf, e3, e6, e7, e8, eH]
  obtain ⟨b, o, rfl, g⟩ := hd i (.int .i64 (l[i] : Nat)) (by simp [ints, hlt])
  simp only [hcell] at g
  have hw : IntKind.i64.wrap ((i : Int) + 1) = (i : Int) + 1 := wrap_i64 (by omega) (by omega)
  have hs : l.take (i + 1) = l.take i ++ [l[i]] := by rw [List.take_add_one]; simp [hlt]
  have hlti : l[i] < 12 := hi _ (List.getElem_mem hlt)
  have hb0 := setM_lt (l.take i) fun j hj => hi j (List.mem_of_mem_take hj)
  have hset : setM (l.take (i + 1)) = setM (l.take i) ||| 2 ^ l[i] := by rw [hs, setM_snoc]
  generalize hq : l[i] = q at *
  generalize hm : setM (l.take i) = m at *
  have hbits : IntKind.u64.bits = 64 := rfl
  have hmin : min q 64 = q := by omega
  have hp2 : 2 ^ q ≤ 2 ^ 12 := Nat.pow_le_pow_right (by omega) (by omega)
  have w1 : IntKind.u64.wrap ((2 : Int) ^ q) = ((2 ^ q : Nat) : Int) := by
    have : ((2 : Int) ^ q) = ((2 ^ q : Nat) : Int) := by simp
    rw [this]; exact wrap_u64 (by omega)
  have w2 := u64_or (a := m) (b := 2 ^ q) (by omega) (by omega)
  obtain ⟨p, hp⟩ : ∃ p : Nat, p = 2 ^ q := ⟨_, rfl⟩
  rw [← hp] at w1 w2 hset hp2
  have hpm : p % 18446744073709551616 = p := Nat.mod_eq_of_lt (by omega)
  have hmm : m % 18446744073709551616 = m := Nat.mod_eq_of_lt (by omega)
  have w3 : IntKind.u64.wrap ((m ||| p : Nat) : Int) = ((m ||| p : Nat) : Int) := wrap_u64 (Nat.or_lt_two_pow (n := 64) (by omega) (by omega))
  simp [soLoop, SC.loops, sf_fixes_setOf, e3, e6, e7, e8, eH, hlt, g, hw, hbits, hmin, w1, hpm, hmm, w3]
  exact ⟨_, by omega, i + 1, by omega, rfl, by omega, by rw [hset]⟩
theorem run_setOf (l : List Nat) (hl : l.length ≤ 100) (hi : ∀ i ∈ l, i < 12) (lim : Nat) (H : AH) (v : Value) (hv : Sl H v l.length (ints (l.map fun (i : Nat) => (i : Int)))) :
    apL Tryz.prog pf (.func (.func 105) #[] #[]) [v] lim H = some (.int .u64 (setM l), H) := by
  rw [apL_func _ _ _ _ _ _ (by rfl), sf_fixes_setOf_eq]
  obtain ⟨aa, ac, ev, _⟩ : ∃ a c, v = .slice a l.length c ∧ True := by obtain ⟨a, c, e, _⟩ := hv; exact ⟨a, c, e, trivial⟩
  simp [sf_fixes_setOf, ev, pf_pure, pureF]
  generalize hS : ({ t := _, L := _, H := _, lim := _, rd := _ } : St) = S
  obtain ⟨⟨e, s1⟩, hr, q1, q2, q3⟩ := setOf_loop l hl hi H v hv S (by subst hS; simp) (by subst hS; simp [ev]) (by subst hS; simp) (by subst hS; simp) (by subst hS; rfl)
  simp [soLoop, SC.loops, sf_fixes_setOf] at hr
  rw [hr]
  simp only at q1 q2 q3
  subst q1
  simp [q2, q3]
end Go.Proofs.YtmdnpaboaelkeaaGreatDoor
namespace Go.Proofs.YtmdnpaboaelkeaaGreatDoor
open Go Go.RowKit
def cheapM (f : Nat → Int) (first : Nat) (l : List Nat) : Nat := l.foldl (fun a c => if f c < f a then c else a) first
theorem cheapM_mem (f : Nat → Int) : ∀ (l : List Nat) (a : Nat), cheapM f a l = a ∨ cheapM f a l ∈ l
  | [], a => .inl rfl
  | c :: l, a => by
    have := cheapM_mem f l (if f c < f a then c else a)
    show cheapM f _ l = a ∨ cheapM f _ l ∈ c :: l
    rcases this with h | h
    · rw [h]; split <;> simp
    · exact .inr (by simp [h])
theorem cheapM_le (f : Nat → Int) : ∀ (l : List Nat) (a : Nat), f (cheapM f a l) ≤ f a ∧ ∀ c ∈ l, f (cheapM f a l) ≤ f c
  | [], a => ⟨Int.le_refl _, by simp⟩
  | c :: l, a => by
    have ih := cheapM_le f l (if f c < f a then c else a)
    show f (cheapM f (if f c < f a then c else a) l) ≤ f a ∧ ∀ d ∈ c :: l, f (cheapM f (if f c < f a then c else a) l) ≤ f d
    split at ih
    · rename_i h
      rw [if_pos h]
      exact ⟨by omega, fun d hd => by rcases List.mem_cons.1 hd with rfl | hd; exact ih.1; exact ih.2 d hd⟩
    · rename_i h
      rw [if_neg h]
      exact ⟨ih.1, fun d hd => by rcases List.mem_cons.1 hd with rfl | hd; omega; exact ih.2 d hd⟩
def chLoop : SC := sf_fixes_search_cheapest.body.loops.headD .skip
theorem cheap_loop (l : List Nat) (hl : l.length ≤ 1000) (ps : List Int) (hi : ∀ i ∈ l, i < ps.length) (h0l : 0 < l.length) (H : AH) (v p : Value) (hv : Sl H v l.length (ints (l.map fun (i : Nat) => (i : Int)))) (hp : Sl H p ps.length (ints ps)) (S : St)
    (h2 : tget S.t 2 = p) (h7 : tget S.t 7 = .int .i64 (l[0] : Nat)) (h13 : tget S.t 13 = v) (h14 : tget S.t 14 = .int .i64 l.length) (h15 : tget S.t 15 = .int .i64 0) (hH : S.H = H) :
    ∃ q, exL Tryz.prog pf (.loop chLoop) S = some q ∧ q.1 = .exit 0 ∧ q.2.H = H ∧ tget q.2.t 7 = .int .i64 (cheapM (fun i => ps.getD i 0) l[0] l : Nat) := by
  obtain ⟨pa, pc, rfl, hpd⟩ := hp
  obtain ⟨aa, ac, rfl, hd⟩ := hv
  refine loop_rule (I := fun n s' => ∃ i, i ≤ l.length ∧ n = l.length - i ∧ tget s'.t 2 = .slice pa ps.length pc ∧ tget s'.t 13 = .slice aa l.length ac ∧ tget s'.t 14 = .int .i64 l.length ∧ tget s'.t 15 = .int .i64 i ∧ s'.H = H ∧ tget s'.t 7 = .int .i64 (cheapM (fun i => ps.getD i 0) l[0] (l.take i) : Nat)) ?_ l.length S
    ⟨0, by omega, by omega, h2, h13, h14, h15, hH, by simpa [cheapM] using h7⟩
  rintro n s' ⟨i, hii, rfl, e2, e13, e14, e15, eH, e7⟩
  by_cases hlt : i < l.length
  rotate_left
  · have : i = l.length := by omega
    subst this
    rw [List.take_length] at e7
    simp [chLoop, SC.loops, sf_fixes_search_cheapest, e2, e7, e13, e14, e15, eH]
  obtain ⟨b, o, rfl, g⟩ := hd i (.int .i64 (l[i] : Nat)) (by simp [ints, hlt])
  have hs : l.take (i + 1) = l.take i ++ [l[i]] := by rw [List.take_add_one]; simp [hlt]
  have hw : IntKind.i64.wrap ((i : Int) + 1) = (i : Int) + 1 := wrap_i64 (by omega) (by omega)
  have hc : cheapM (fun i => ps.getD i 0) l[0] (l.take (i + 1)) = if ps.getD l[i] 0 < ps.getD (cheapM (fun i => ps.getD i 0) l[0] (l.take i)) 0 then l[i] else cheapM (fun i => ps.getD i 0) l[0] (l.take i) := by
    rw [hs]; unfold cheapM; rw [List.foldl_append]; rfl
  have hq := hi _ (List.getElem_mem hlt)
  have hk : cheapM (fun i => ps.getD i 0) l[0] (l.take i) < ps.length := by
    rcases cheapM_mem (fun i => ps.getD i 0) (l.take i) l[0] with h | h
    · rw [h]; exact hi _ (List.getElem_mem h0l)
    · exact hi _ (List.mem_of_mem_take h)
  generalize hqq : l[i] = q at *
  generalize hkk : cheapM (fun i => ps.getD i 0) l[0] (l.take i) = k at *
  obtain ⟨pb, po, rfl, g1⟩ := hpd q _ (ints_get ps q hq)
  obtain ⟨pb', po', e, g2⟩ := hpd k _ (ints_get ps k hk)
  cases e
  simp only [hcell] at g g1 g2
  generalize hN1 : ps.getD q 0 = N1 at *
  generalize hN2 : ps.getD k 0 = N2 at *
  by_cases hlt2 : N1 < N2
  · rw [if_pos hlt2] at hc
    simp [chLoop, SC.loops, sf_fixes_search_cheapest, e2, e7, e13, e14, e15, eH, hlt, g, g1, g2, hq, hk, hlt2, hw]
    exact ⟨_, by omega, i + 1, by omega, rfl, by omega, by rw [← hc]; rfl⟩
  · rw [if_neg hlt2] at hc
    simp [chLoop, SC.loops, sf_fixes_search_cheapest, e2, e7, e13, e14, e15, eH, hlt, g, g1, g2, hq, hk, hlt2, hw]
    exact ⟨_, by omega, i + 1, by omega, rfl, by omega, by rw [← hc]; rfl⟩
theorem run_cheapest (x : Ds) (l : List Nat) (hl : l.length ≤ 1000) (ps : List Int) (hi : ∀ i ∈ l, i < ps.length) (h0l : 0 < l.length) (lim : Nat) (H : AH) (d t s r a b e v p : Value) (h : DsIn H x d t s r) (ha : OneS a) (hb : OneS b) (he : OneS e) (hv : Sl H v l.length (ints (l.map fun (i : Nat) => (i : Int)))) (hp : Sl H p ps.length (ints ps)) :
    apL Tryz.prog pf (.func (.func 96) #[] #[]) [srV x d t s r a b e, v, p] lim H = some (.int .i64 (cheapM (fun i => ps.getD i 0) l[0] l : Nat), H) := by
  rw [apL_func _ _ _ _ _ _ (by rfl), sf_fixes_search_cheapest_eq]
  obtain ⟨⟨⟨da, dc, ed, _⟩, ⟨ta, tc, et, _⟩, ⟨sa, sc, es, _⟩, _, htl, _⟩, ⟨ra, rc, er, _⟩, _⟩ := h
  obtain ⟨a1, a2, a3, ea⟩ := ha
  obtain ⟨b1, b2, b3, eb⟩ := hb
  obtain ⟨e1, e2, e3, ee⟩ := he
  have hp0 := hp
  have hv0 := hv
  obtain ⟨pa, pc, ep, _⟩ := hp
  obtain ⟨va, vc, ev, hvd⟩ := hv
  obtain ⟨vb, vo, rfl, g⟩ := hvd 0 (.int .i64 (l[0] : Nat)) (by simp [ints, h0l])
  simp only [hcell, Nat.add_zero] at g
  simp [sf_fixes_search_cheapest, srV, ed, et, es, er, ea, eb, ee, ep, ev, h0l, g, pf_pure, pureF]
  generalize hS : ({ t := _, L := _, H := _, lim := _, rd := _ } : St) = S
  obtain ⟨⟨e, s1⟩, hr, q1, q2, q3⟩ := cheap_loop l hl ps hi h0l H v p hv0 hp0 S (by subst hS; simp [ep]) (by subst hS; simp) (by subst hS; simp [ev]) (by subst hS; simp) (by subst hS; simp) (by subst hS; rfl)
  simp [chLoop, SC.loops, sf_fixes_search_cheapest] at hr
  rw [hr]
  simp only at q1 q2 q3
  subst q1
  simp [q2, q3]
end Go.Proofs.YtmdnpaboaelkeaaGreatDoor
namespace Go.Proofs.YtmdnpaboaelkeaaGreatDoor
open Go Go.RowKit
def thoseN (p : Int → Bool) (k : Nat) : List Int := ((List.range k).filter fun (i : Nat) => p (i : Int)).map fun (i : Nat) => (i : Int)
theorem thoseN_succ (p : Int → Bool) (k : Nat) : thoseN p (k + 1) = if p (k : Int) then thoseN p k ++ [(k : Int)] else thoseN p k := by
  unfold thoseN
  rw [List.range_succ, List.filter_append]
  cases h : p (k : Int) with
  | true => rw [if_pos rfl]; simp only [List.filter_cons, h, if_true, List.filter_nil, List.map_append, List.map_cons, List.map_nil]
  | false => rw [if_neg (by simp)]; simp only [List.filter_cons, h, Bool.false_eq_true, if_false, List.filter_nil, List.append_nil]
theorem thoseN_len (p : Int → Bool) (k : Nat) : (thoseN p k).length ≤ k := by
  unfold thoseN
  rw [List.length_map]
  exact Nat.le_trans (List.length_filter_le _ _) (by simp)
def IsPn (H : AH) (f : Value) (n : Nat) (p : Int → Bool) : Prop := (nl f = true ∧ isU f = false ∧ f.cells = #[f]) ∧ ∀ H', Ext H H' → ∀ i : Nat, i < n → ∀ lim, apL Tryz.prog pf f [.int .i64 i] lim H' = some (.bool (p i), H')
theorem IsP.n {H : AH} {f : Value} {p : Int → Bool} (n : Nat) (k : IsP H f p) : IsPn H f n p := ⟨k.1, fun H' h i _ lim => k.2 H' h i lim⟩
def ceLoop : SC := sf_fixes_search_cells.body.loops.headD .skip
theorem cells_loop (n : Nat) (hn : n ≤ 1000) (p : Int → Bool) (H : AH) (f : Value) (hp : IsPn H f n p) (S : St) (h1 : tget S.t 1 = f) (h5 : tget S.t 5 = .slice none 0 0) (h11 : tget S.t 11 = .int .i64 n) (h12 : tget S.t 12 = .int .i64 0) (hH : S.H = H) (hlim : S.lim ≤ H.length) :
    ∃ q, exL Tryz.prog pf (.loop ceLoop) S = some q ∧ q.1 = .exit 0 ∧ Aft H q.2.H ∧ OwnA H.length q.2.H (tget q.2.t 5) (thoseN p n) := by
  refine loop_rule (I := fun m s' => ∃ i, i ≤ n ∧ m = n - i ∧ tget s'.t 1 = f ∧ tget s'.t 11 = .int .i64 n ∧ tget s'.t 12 = .int .i64 i ∧ s'.lim = S.lim ∧ Aft H s'.H ∧ OwnA H.length s'.H (tget s'.t 5) (thoseN p i)) ?_ n S
    ⟨0, by omega, by omega, h1, h11, h12, rfl, by rw [hH]; exact Aft.refl H, .inl ⟨by simp [thoseN], h5⟩⟩
  rintro m s' ⟨i, hi, rfl, e1, e11, e12, el, eA, eO⟩
  obtain ⟨A, hA⟩ : ∃ A, s'.H = A := ⟨_, rfl⟩
  rw [hA] at eA eO
  have hnf := hp.1.1
  have hcf := hp.1.2
  have hps := fun (hlt : i < n) lim => hp.2 A eA.ext i hlt lim
  by_cases hlt : i < n
  rotate_left
  · have : i = n := by omega
    subst this
    simp [ceLoop, SC.loops, sf_fixes_search_cells, e1, e11, e12, hA]
    exact ⟨eA, eO⟩
  have hps := fun lim => hps hlt lim
  have hw : IntKind.i64.wrap ((i : Int) + 1) = (i : Int) + 1 := wrap_i64 (by omega) (by omega)
  have hs := thoseN_succ p i
  have hlen := thoseN_len p i
  cases hc : p (i : Int) with
  | false =>
    rw [hc] at hs hps
    rw [if_neg (by simp)] at hs
    simp [-isU, -Value.cells, ceLoop, SC.loops, sf_fixes_search_cells, e1, e11, e12, hA, hlt, hps, hnf, hcf, hw]
    exact ⟨_, by omega, i + 1, by omega, rfl, by omega, el, eA, by rw [hs]; exact eO⟩
  | true =>
  rw [hc] at hs hps
  rw [if_pos rfl] at hs
  obtain ⟨w, hwl⟩ : ∃ w, w = thoseN p i := ⟨_, rfl⟩
  rw [← hwl] at eO hs hlen
  have hm1 : 1 ≤ maxA := by decide
  rcases eO with ⟨hw0, e5⟩ | ⟨hw0, b', hb, e5, hbA⟩
  · simp [-oneC, oneC_int, ceLoop, SC.loops, sf_fixes_search_cells, e1, e5, e11, e12, hA, hlt, hps, hnf, hw, hm1]
    refine ⟨_, by omega, i + 1, by omega, rfl, by omega, el, eA.push _, .inr ⟨by rw [hs]; simp, A.length + 1, by have := eA.le; omega, by rw [hs, hw0]; simp, ?_⟩⟩
    rw [hs, hw0, List.getElem?_append_right (by omega), Nat.add_sub_cancel_left]
    rfl
  · have hbl : b' < A.length := (List.getElem?_eq_some_iff.1 hbA).1
    have hl0 : ¬ w.length = 0 := by simpa using hw0
    have hmx : w.length + 1 ≤ maxA := Nat.le_trans (show w.length + 1 ≤ 2000 by omega) (by decide)
    have hcn : nlL (ints w) = true := nlL_ints w
    have hci : (ints w).length = w.length := ints_length w
    have happ : ints w ++ [.int .i64 (i : Int)] = ints (w ++ [(i : Int)]) := by rw [ints_append]; rfl
    have hcA := fun L x => own_cells hbA L x
    have hbX := fun x => own_get hbA x
    have hsX := fun x y => own_set hbA x y
    have hlb : S.lim ≤ b' := by omega
    rw [hci] at hcA
    generalize hcs : ints w = cs at *
    simp [-oneC, oneC_int, ceLoop, SC.loops, sf_fixes_search_cells, e1, e5, e11, e12, hA, hlt, hps, hnf, hw, hl0, hmx, hcA, hbX, hsX, hcn, happ, hci, el, hlb]
    refine ⟨_, by omega, i + 1, by omega, rfl, by omega, (eA.set hb _).push _, .inr ⟨by rw [hs]; simp, A.length + 1, by have := eA.le; omega, by rw [hs]; simp, ?_⟩⟩
    rw [hs, List.getElem?_append_right (by simp)]
    simp
end Go.Proofs.YtmdnpaboaelkeaaGreatDoor
namespace Go.Proofs.YtmdnpaboaelkeaaGreatDoor
open Go Go.RowKit
theorem run_cells (x : Ds) (hx : x.cells ≤ 1000) (p : Int → Bool) (lim : Nat) (H : AH) (d t s r a b e f : Value) (h : DsIn H x d t s r) (ha : OneS a) (hb : OneS b) (he : OneS e) (hp : IsPn H f x.cells p) :
    ∃ v A, apL Tryz.prog pf (.func (.func 81) #[] #[]) [srV x d t s r a b e, f] lim H = some (v, A) ∧ Aft H A ∧ OwnA H.length A v (thoseN p x.cells) := by
  rw [apL_func _ _ _ _ _ _ (by rfl), sf_fixes_search_cells_eq]
  obtain ⟨⟨⟨da, dc, ed, _⟩, ⟨ta, tc, et, _⟩, ⟨sa, sc, es, _⟩, _, htl, _⟩, ⟨ra, rc, er, _⟩, _⟩ := h
  obtain ⟨a1, a2, a3, ea⟩ := ha
  obtain ⟨b1, b2, b3, eb⟩ := hb
  obtain ⟨e1, e2, e3, ee⟩ := he
  simp [sf_fixes_search_cells, srV, ed, et, es, er, ea, eb, ee, pf_pure, pureF]
  generalize hS : ({ t := _, L := _, H := _, lim := _, rd := _ } : St) = S
  obtain ⟨⟨q, s1⟩, hr, q1, q2, q3⟩ := cells_loop x.cells hx p H f hp S (by subst hS; simp) (by subst hS; simp) (by subst hS; simp [Ds.cells]) (by subst hS; simp) (by subst hS; rfl) (by subst hS; simp)
  simp [ceLoop, SC.loops, sf_fixes_search_cells] at hr
  rw [hr]
  simp only at q1 q2 q3
  subst q1
  rcases q3 with ⟨h0, e5⟩ | ⟨h0, b', hb', e5, hbA⟩
  · simp [e5]
    exact ⟨_, _, ⟨rfl, rfl⟩, Aft.refl H, .inl ⟨h0, rfl⟩⟩
  · simp [e5]
    exact ⟨_, _, ⟨rfl, rfl⟩, q2, .inr ⟨h0, b', hb', rfl, hbA⟩⟩
theorem run_srApartN (x : Ds) (lim : Nat) (H : AH) (d t s r a b e : Value) (h : DsIn H x d t s r) (ha : OneS a) (hb : OneS b) (he : OneS e) (i k : Int) :
    apL Tryz.prog pf (.func (.func 83) #[] #[]) [srV x d t s r a b e, .int .i64 i, .int .i64 k] lim H = some (.int .i64 (apartN x.ch i k), H) := by
  rw [apL_func _ _ _ _ _ _ (by rfl), sf_fixes_search_apart_eq]
  have hA := fun lim => run_Apart x.ch lim H d t s h.c i k
  obtain ⟨⟨⟨da, dc, ed, _⟩, ⟨ta, tc, et, _⟩, ⟨sa, sc, es, _⟩, _, htl, _⟩, ⟨ra, rc, er, _⟩, _⟩ := h
  obtain ⟨a1, a2, a3, ea⟩ := ha
  obtain ⟨b1, b2, b3, eb⟩ := hb
  obtain ⟨e1, e2, e3, ee⟩ := he
  simp only [chV, srV, ed, et, es, er, ea, eb, ee] at hA ⊢
  simp [sf_fixes_search_apart, hA, pf_pure, pureF]
def nearF (sb cb db : Nat) : Value := .func (.func 82) #[] #[.pointer (some ⟨sb, 0, none⟩), .pointer (some ⟨cb, 0, none⟩), .pointer (some ⟨db, 0, none⟩)]
theorem isP_near (x : Ds) (H : AH) (d t s r a b e : Value) (h : DsIn H x d t s r) (ha : OneS a) (hb : OneS b) (he : OneS e) (i : Int) (sb cb db : Nat)
    (h1 : H[sb]? = some (.rw 0 [.int .i64 x.ch.w, .int .i64 x.ch.h, d, t, s, .int .i64 x.g, .int .i64 x.pace, r, a, b, e])) (h2 : H[cb]? = some (.rw 0 [.int .i64 i])) (h3 : H[db]? = some (.rw 0 [.int .i64 x.ch.w, .int .i64 x.ch.h, d, t, s, .int .i64 x.g, .int .i64 x.pace, r])) :
    IsP H (nearF sb cb db) (fun n => decide (apartN x.ch i n ≤ x.pace)) := by
  refine ⟨⟨by simp [nearF], rfl, rfl⟩, fun H' hH n lim => ?_⟩
  have k1 := hH _ _ h1
  have k2 := hH _ _ h2
  have k3 := hH _ _ h3
  have hA := fun lim => run_srApartN x lim H' d t s r a b e (h.ext hH) ha hb he i n
  unfold nearF
  rw [apL_func _ _ _ _ _ _ (by rfl), sf_fixes_open_1_eq]
  obtain ⟨⟨⟨da, dc, ed, _⟩, ⟨ta, tc, et, _⟩, ⟨sa, sc, es, _⟩, _, htl, _⟩, ⟨ra, rc, er, _⟩, _⟩ := h
  obtain ⟨a1, a2, a3, ea⟩ := ha
  obtain ⟨b1, b2, b3, eb⟩ := hb
  obtain ⟨e1, e2, e3, ee⟩ := he
  simp only [srV, ed, et, es, er, ea, eb, ee] at hA k1 k3
  simp [sf_fixes_open_1, k1, k2, k3, hA, pf_pure, pureF]
end Go.Proofs.YtmdnpaboaelkeaaGreatDoor
namespace Go.Proofs.YtmdnpaboaelkeaaGreatDoor
open Go Go.RowKit
theorem floats_ok {x : Ds} (hok : ChOk x.ch) (hdo : dsOk x = true) {i k : Nat} (hi : i < x.ch.cells) (hk : k < x.ch.ticks) : floatsR x.ch x.g i k = .tuple #[.bool (x.ch.sure x.g i k), .bool (x.ch.may x.g i k), .int .i64 0] := by
  have hg : 1 ≤ x.g ∧ x.g ≤ 100 := by
    unfold dsOk at hdo
    simp only [Bool.and_eq_true, decide_eq_true_eq] at hdo
    exact hdo.1.1.1
  have h0 : embE x.ch x.g [(i : Int)] [(k : Int)] = 0 := by
    rw [embE_of0 (by rw [openE_eq hok]; simp [inN_of hi, inN_of hk]), if_pos hg]
  unfold floatsR
  rw [h0]
  simp
def partB (f : Nat → Bool) (n i : Nat) : List Bool := (List.range i).map f ++ List.replicate (n - i) false
theorem partB_len {f : Nat → Bool} {n i : Nat} (h : i ≤ n) : (partB f n i).length = n := by simp [partB]; omega
theorem partB_set {f : Nat → Bool} {n i : Nat} (h : i < n) : (partB f n i).set i (f i) = partB f n (i + 1) := by
  unfold partB
  rw [List.set_append_right _ _ (by simp)]
  have : n - i = (n - (i + 1)) + 1 := by omega
  rw [this, List.replicate_succ]
  simp [List.range_succ]
theorem partB_end {f : Nat → Bool} {n : Nat} : partB f n n = (List.range n).map f := by simp [partB]
def afLoop : SC := sf_fixes_search_afloat.body.loops.headD .skip
theorem af_loop (x : Ds) (hok : ChOk x.ch) (hdo : dsOk x = true) (H : AH) (d t s r a b e : Value) (h : DsIn H x d t s r) (ha : OneS a) (hb : OneS b) (he : OneS e) {k : Nat} (hk : k < x.ch.ticks) (S : St) (h1 : tget S.t 1 = .int .i64 k) (h2 : tget S.t 2 = .pointer (some ⟨2, 0, some 0⟩)) (h5 : tget S.t 5 = .slice (some ⟨H.length, 0, none⟩) x.ch.cells x.ch.cells) (h14 : tget S.t 14 = .int .i64 x.ch.cells) (h15 : tget S.t 15 = .int .i64 0)
    (hL : S.L = [(2, 0, .cells [.int .i64 x.ch.w, .int .i64 x.ch.h, d, t, s, .int .i64 x.g, .int .i64 x.pace, r, a, b, e])]) (hH : S.H = H ++ [.rw 1 (bools (partB (fun i => x.ch.may x.g i k) x.ch.cells 0))]) (hlim : S.lim ≤ H.length) :
    ∃ q, exL Tryz.prog pf (.loop afLoop) S = some q ∧ q.1 = .exit 0 ∧ q.2.H = H ++ [.rw 1 (bools ((List.range x.ch.cells).map fun i => x.ch.may x.g i k))] ∧ tget q.2.t 5 = tget S.t 5 := by
  obtain ⟨m0, m1, m2⟩ := hok.mul
  obtain ⟨a1, a2, a3, ea⟩ := ha
  obtain ⟨b1, b2, b3, eb⟩ := hb
  obtain ⟨e1', e2', e3', ee⟩ := he
  refine loop_rule (I := fun m s' => ∃ i, i ≤ x.ch.cells ∧ m = x.ch.cells - i ∧ tget s'.t 1 = .int .i64 k ∧ tget s'.t 2 = .pointer (some ⟨2, 0, some 0⟩) ∧ tget s'.t 5 = .slice (some ⟨H.length, 0, none⟩) x.ch.cells x.ch.cells ∧ tget s'.t 14 = .int .i64 x.ch.cells ∧ tget s'.t 15 = .int .i64 i ∧ s'.L = S.L ∧ s'.lim = S.lim ∧ s'.H = H ++ [.rw 1 (bools (partB (fun i => x.ch.may x.g i k) x.ch.cells i))]) ?_ x.ch.cells S
    ⟨0, by omega, by omega, h1, h2, h5, h14, h15, rfl, rfl, hH⟩
  rintro m s' ⟨i, hi, rfl, e1, e2, e5, e14, e15, eL, el, eH⟩
  have hF := fun (hlt : i < x.ch.cells) lim => run_Floats x.ch lim (H ++ [.rw 1 (bools (partB (fun i => x.ch.may x.g i k) x.ch.cells i))]) d t s (h.c.ext (Ext.push H _)) x.g i k
  obtain ⟨⟨⟨da, dc, ed, _⟩, ⟨ta, tc, et, _⟩, ⟨sa, sc, es, _⟩, _, htl, _⟩, ⟨ra, rc, er, _⟩, _⟩ := h
  rw [hL, ed, et, es, er, ea, eb, ee] at eL
  by_cases hlt : i < x.ch.cells
  rotate_left
  · have : i = x.ch.cells := by omega
    subst this
    rw [partB_end] at eH
    simp [afLoop, SC.loops, sf_fixes_search_afloat, e1, e2, e5, e14, e15, eL, el, eH, h5]
  have hF := fun lim => hF hlt lim
  rw [floats_ok hok hdo hlt hk] at hF
  simp only [chV, ed, et, es] at hF
  have hw1 : IntKind.i64.wrap ((i : Int) + 1) = (i : Int) + 1 := wrap_i64 (by omega) (by omega)
  have hfl : i + 1 ≤ (partB (fun i => x.ch.may x.g i k) x.ch.cells i).length := by rw [partB_len hi]; omega
  have hset := partB_set (f := fun i => x.ch.may x.g i k) hlt
  obtain ⟨l1, hl1⟩ : ∃ l1, l1 = partB (fun i => x.ch.may x.g i k) x.ch.cells i := ⟨_, rfl⟩
  rw [← hl1] at eH hfl hset hF
  have hLs := hL
  rw [ed, et, es, er, ea, eb, ee] at hLs
  simp [afLoop, SC.loops, sf_fixes_search_afloat, e1, e2, e5, e14, e15, eL, el, eH, h5, hF, hlim, hlt, hw1, bools_length, hfl, bools_set, hLs]
  exact ⟨_, by omega, i + 1, by omega, rfl, by omega, by rw [← hset]⟩
theorem run_afloat (x : Ds) (hok : ChOk x.ch) (hdo : dsOk x = true) (lim : Nat) (H : AH) (d t s r a b e : Value) (h : DsIn H x d t s r) (ha : OneS a) (hb : OneS b) (he : OneS e) {k : Nat} (hk : k < x.ch.ticks) :
    apL Tryz.prog pf (.func (.func 84) #[] #[]) [srV x d t s r a b e, .int .i64 k] lim H = some (.slice (some ⟨H.length, 0, none⟩) x.ch.cells x.ch.cells, H ++ [.rw 1 (bools ((List.range x.ch.cells).map fun i => x.ch.may x.g i k))]) := by
  rw [apL_func _ _ _ _ _ _ (by rfl), sf_fixes_search_afloat_eq]
  have h0 := h
  have ha0 := ha
  have hb0 := hb
  have he0 := he
  obtain ⟨m0, m1, m2⟩ := hok.mul
  obtain ⟨⟨⟨da, dc, ed, _⟩, ⟨ta, tc, et, _⟩, ⟨sa, sc, es, _⟩, _, htl, _⟩, ⟨ra, rc, er, _⟩, _⟩ := h
  obtain ⟨a1, a2, a3, ea⟩ := ha
  obtain ⟨b1, b2, b3, eb⟩ := hb
  obtain ⟨e1, e2, e3, ee⟩ := he
  have hmx : x.ch.cells ≤ maxA := Nat.le_trans (show x.ch.cells ≤ 144 by omega) (by decide)
  have hdl : x.ch.depth.length = x.ch.cells := rfl
  have hf0 : List.replicate x.ch.cells false = partB (fun i => x.ch.may x.g i k) x.ch.cells 0 := by simp [partB]
  simp [sf_fixes_search_afloat, srV, ed, et, es, er, ea, eb, ee, hdl, hmx, zeros_bools, hf0, pf_pure, pureF]
  generalize hS : ({ t := _, L := _, H := _, lim := _, rd := _ } : St) = S
  obtain ⟨⟨q, s1⟩, hr, q1, q2, q3⟩ := af_loop x hok hdo H d t s r a b e h0 ha0 hb0 he0 hk S (by subst hS; simp) (by subst hS; simp) (by subst hS; simp) (by subst hS; simp) (by subst hS; simp) (by subst hS; simp [ed, et, es, er, ea, eb, ee, hdl]) (by subst hS; rfl) (by subst hS; simp)
  simp [afLoop, SC.loops, sf_fixes_search_afloat] at hr
  rw [hr]
  simp only at q1 q2 q3
  subst q1
  have y5 : tget S.t 5 = .slice (some ⟨H.length, 0, none⟩) x.ch.cells x.ch.cells := by subst hS; simp
  rw [y5] at q3
  simp [q3, q2]
end Go.Proofs.YtmdnpaboaelkeaaGreatDoor
namespace Go.Proofs.YtmdnpaboaelkeaaGreatDoor
open Go Go.RowKit
def u64s (l : List Nat) : List Value := l.map fun (n : Nat) => .int .u64 n
theorem u64s_length (l : List Nat) : (u64s l).length = l.length := by simp [u64s]
theorem u64s_set (l : List Nat) (i n : Nat) : (u64s l).set i (.int .u64 n) = u64s (l.set i n) := by simp [u64s, List.map_set]
theorem u64s_get {l : List Nat} {i : Nat} (h : i < l.length) : (u64s l)[i]? = some (.int .u64 (l[i] : Nat)) := by simp [u64s, h]
def denies (x : Ds) (k : Nat) (q : Rep) (i : Nat) : Bool := q.tick == (k : Int) && !holdsM x.ch.w q i
def denyM (x : Ds) (k i : Nat) (j : Nat) : Nat := setM ((List.range j).filter fun n => match x.reps[n]? with | some q => denies x k q i | none => false)
theorem denyM_succ (x : Ds) (k i : Nat) {j : Nat} (hj : j < x.reps.length) : denyM x k i (j + 1) = if denies x k x.reps[j] i then denyM x k i j ||| 2 ^ j else denyM x k i j := by
  unfold denyM
  rw [List.range_succ, List.filter_append]
  cases h : denies x k x.reps[j] i with
  | true =>
    rw [if_pos rfl, ← setM_snoc]
    congr 1
    simp [hj, h]
  | false =>
    rw [if_neg (by simp)]
    congr 1
    simp [hj, h]
theorem denyM_lt (x : Ds) (k i : Nat) {j : Nat} (hj : j ≤ 12) : denyM x k i j < 2 ^ 12 := setM_lt _ fun n hn => by
  have := (List.mem_filter.1 hn).1
  rw [List.mem_range] at this
  omega
def partD (x : Ds) (k j n i : Nat) : List Nat := ((List.range i).map fun c => denyM x k c (j + 1)) ++ ((List.range (n - i)).map fun c => denyM x k (i + c) j)
theorem partD_len {x : Ds} {k j n i : Nat} (h : i ≤ n) : (partD x k j n i).length = n := by simp [partD]; omega
theorem partD_get {x : Ds} {k j n i : Nat} (h : i < n) : (partD x k j n i)[i]? = some (denyM x k i j) := by
  unfold partD
  rw [List.getElem?_append_right (by simp)]
  simp only [List.length_map, List.length_range, Nat.sub_self, List.getElem?_map]
  rw [List.getElem?_range (by omega)]
  rfl
theorem partD_set {x : Ds} {k j n i : Nat} (h : i < n) : (partD x k j n i).set i (denyM x k i (j + 1)) = partD x k j n (i + 1) := by
  apply List.ext_getElem?
  intro c
  unfold partD
  rw [List.set_append_right _ _ (by simp)]
  by_cases hc : c < i
  · rw [List.getElem?_append_left (by simpa using hc), List.getElem?_append_left (by simp; omega)]
    simp [hc, show c < i + 1 by omega]
  · rw [List.getElem?_append_right (by simp; omega)]
    simp only [List.length_map, List.length_range, Nat.sub_self]
    by_cases e : c = i
    · subst e
      rw [Nat.sub_self, List.getElem?_append_left (by simp)]
      rw [List.getElem?_set_self (by simp; omega)]
      simp
    · rw [List.getElem?_set_ne (by omega), List.getElem?_append_right (by simp; omega)]
      simp only [List.length_map, List.length_range, List.getElem?_map]
      by_cases h2 : c < n
      · rw [List.getElem?_range (by omega), List.getElem?_range (by omega)]
        simp only [Option.map_some]
        rw [show i + (c - i) = i + 1 + (c - (i + 1)) by omega]
      · rw [List.getElem?_eq_none (by simp; omega), List.getElem?_eq_none (by simp; omega)]
        rfl
theorem partD_end {x : Ds} {k j n : Nat} : partD x k j n n = partD x k (j + 1) n 0 := by simp [partD]
def deLoop1 : SC := sf_fixes_search_denied.body.loops.tail.headD .skip
end Go.Proofs.YtmdnpaboaelkeaaGreatDoor
namespace Go.Proofs.YtmdnpaboaelkeaaGreatDoor
open Go Go.RowKit
set_option maxHeartbeats 1000000 in
theorem de_inner (x : Ds) (hok : ChOk x.ch) (hdo : dsOk x = true) (H0 A : AH) (d t s r a b e : Value) (h : DsIn H0 x d t s r) (ha : OneS a) (hb : OneS b) (he : OneS e) (hA : Aft H0 A) {k j lb : Nat} (hj : j < x.reps.length) (hlb0 : H0.length ≤ lb) (hlb : A[lb]? = some (.rw 1 (u64s (partD x k j x.ch.cells 0)))) (g : Nat) (S : St) (hlim : S.lim ≤ H0.length)
    (h1 : tget S.t 1 = .int .i64 k) (h2 : tget S.t 2 = .pointer (some ⟨2, 0, some 0⟩)) (h5 : tget S.t 5 = .slice (some ⟨lb, 0, none⟩) x.ch.cells x.ch.cells) (h6 : tget S.t 6 = .int .i64 j) (h7 : tget S.t 7 = .pointer (some ⟨7, 0, some g⟩)) (h25 : tget S.t 25 = .int .i64 x.ch.cells) (h26 : tget S.t 26 = .int .i64 0)
    (hL2 : lget S.L 2 = some (0, .cells [.int .i64 x.ch.w, .int .i64 x.ch.h, d, t, s, .int .i64 x.g, .int .i64 x.pace, r, a, b, e])) (hL7 : lget S.L 7 = some (g, .cells x.reps[j].vals)) (hH : S.H = A) :
    ∃ q, exL Tryz.prog pf (.loop deLoop1) S = some q ∧ q.1 = .exit 2 ∧ q.2.L = S.L ∧ q.2.lim = S.lim ∧ Aft H0 q.2.H ∧ q.2.H[lb]? = some (.rw 1 (u64s (partD x k (j + 1) x.ch.cells 0))) ∧ tget q.2.t 1 = tget S.t 1 ∧ tget q.2.t 2 = tget S.t 2 ∧ tget q.2.t 5 = tget S.t 5 ∧ tget q.2.t 17 = tget S.t 17 ∧ tget q.2.t 18 = tget S.t 18 ∧ tget q.2.t 19 = tget S.t 19 := by
  obtain ⟨m0, m1, m2⟩ := hok.mul
  have hd12 : x.reps.length ≤ 12 ∧ ∀ q ∈ x.reps, repOk x.cells x.ticks q = true := by
    unfold dsOk at hdo
    simp only [Bool.and_eq_true, decide_eq_true_eq, List.all_eq_true] at hdo
    exact ⟨hdo.1.2, hdo.2⟩
  have hrep := hd12.2 _ (List.getElem_mem hj)
  refine loop_rule (I := fun m s' => ∃ i, i ≤ x.ch.cells ∧ m = x.ch.cells - i ∧ tget s'.t 26 = .int .i64 i ∧ tget s'.t 25 = .int .i64 x.ch.cells ∧ tget s'.t 6 = .int .i64 j ∧ tget s'.t 7 = .pointer (some ⟨7, 0, some g⟩) ∧ s'.L = S.L ∧ s'.lim = S.lim ∧ Aft H0 s'.H ∧ s'.H[lb]? = some (.rw 1 (u64s (partD x k j x.ch.cells i))) ∧ tget s'.t 1 = tget S.t 1 ∧ tget s'.t 2 = tget S.t 2 ∧ tget s'.t 5 = tget S.t 5 ∧ tget s'.t 17 = tget S.t 17 ∧ tget s'.t 18 = tget S.t 18 ∧ tget s'.t 19 = tget S.t 19) ?_ x.ch.cells S
    ⟨0, by omega, by omega, h26, h25, h6, h7, rfl, rfl, by rw [hH]; exact hA, by rw [hH]; exact hlb, rfl, rfl, rfl, rfl, rfl, rfl⟩
  rintro m s' ⟨i, hi, rfl, e26, e25, e6, e7, eL, el, eA, eB, e1, e2, e5, e17, e18, e19⟩
  obtain ⟨B, hB⟩ : ∃ B, s'.H = B := ⟨_, rfl⟩
  rw [hB] at eA eB
  rw [h1] at e1
  rw [h2] at e2
  rw [h5] at e5
  have hT := fun (hlt : i < x.ch.cells) lim => run_isTrue x hok lim B d t s r a b e (h.ext eA.ext) ha hb he x.reps[j] hrep hlt
  have hden := fun i => denyM_succ x k i hj
  have hgt : denies x k x.reps[j] i = (x.reps[j].tick == (k : Int) && !holdsM x.ch.w x.reps[j] i) := rfl
  obtain ⟨⟨⟨da, dc, ed, _⟩, ⟨ta, tc, et, _⟩, ⟨sa, sc, es, _⟩, _, htl, _⟩, ⟨ra, rc, er, _⟩, _⟩ := h
  obtain ⟨a1, a2, a3, ea⟩ := ha
  obtain ⟨b1, b2, b3, eb⟩ := hb
  obtain ⟨e1', e2', e3', ee⟩ := he
  rw [ed, et, es, er, ea, eb, ee] at hL2
  by_cases hlt : i < x.ch.cells
  rotate_left
  · have : i = x.ch.cells := by omega
    subst this
    simp [deLoop1, SC.loops, sf_fixes_search_denied, e1, e2, e5, e6, e7, e17, e18, e19, e25, e26, eL, el, hB, h1, h2, h5]
    exact ⟨eA, by rw [eB, partD_end]⟩
  have hT := fun lim => hT hlt lim
  generalize hq : x.reps[j] = q at *
  simp only [srV, repV, ed, et, es, er, ea, eb, ee] at hT
  have hw1 : IntKind.i64.wrap ((i : Int) + 1) = (i : Int) + 1 := wrap_i64 (by omega) (by omega)
  have hbl : lb < B.length := (List.getElem?_eq_some_iff.1 eB).1
  have hset := partD_set (x := x) (k := k) (j := j) hlt
  have hget := partD_get (x := x) (k := k) (j := j) hlt
  have hplen := partD_len (x := x) (k := k) (j := j) hi
  rw [hden, hgt] at hset
  have same : denyM x k i j = denyM x k i (j + 1) → partD x k j x.ch.cells (i + 1) = partD x k j x.ch.cells i := fun e => by
    rw [← partD_set (x := x) (k := k) (j := j) hlt, ← e]
    exact List.ext_getElem? fun c => by
      by_cases hc : i = c
      · subst hc; rw [List.getElem?_set_self (by omega), hget]
      · rw [List.getElem?_set_ne hc]
  have hdi := hden i
  rw [hgt] at hdi
  simp only [Rep.vals] at hL7
  cases ht : (q.tick == (k : Int)) with
  | false =>
    have hsame := same (by rw [hdi, ht]; simp)
    simp [deLoop1, SC.loops, sf_fixes_search_denied, e1, e2, e5, e6, e7, e17, e18, e19, e25, e26, eL, el, hB, h1, h2, h5, hlt, hL2, hL7, ht, hw1]
    exact ⟨_, by omega, i + 1, by omega, rfl, by omega, eA, by rw [hsame]; exact eB⟩
  | true =>
  cases hh : holdsM x.ch.w q i with
  | true =>
    rw [hh] at hT
    have hsame := same (by rw [hdi, ht, hh]; simp)
    simp [deLoop1, SC.loops, sf_fixes_search_denied, e1, e2, e5, e6, e7, e17, e18, e19, e25, e26, eL, el, hB, h1, h2, h5, hlt, hL2, hL7, ht, hT, hw1]
    exact ⟨_, by omega, i + 1, by omega, rfl, by omega, eA, by rw [hsame]; exact eB⟩
  | false =>
    rw [hh] at hT
    rw [ht, hh] at hset
    have hj12 : j < 12 := by omega
    have hSo := fun lim => run_setOf [j] (by simp) (by simpa using hj12) lim (B ++ [.rw 1 [.int .i64 (j : Int)]]) (.slice (some ⟨B.length, 0, none⟩) 1 1) (Sl.made (l := [(j : Int)]) (by simp [ints]) rfl)
    have hs1 : setM [j] = 2 ^ j := by simp [setM]
    rw [hs1] at hSo
    have hp2 : 2 ^ j ≤ 2 ^ 12 := Nat.pow_le_pow_right (by omega) (by omega)
    obtain ⟨p, hp⟩ : ∃ p : Nat, p = 2 ^ j := ⟨_, rfl⟩
    rw [← hp] at hSo hset hp2
    have ho12 := denyM_lt x k i (j := j) (by omega)
    obtain ⟨o, ho⟩ : ∃ o, o = denyM x k i j := ⟨_, rfl⟩
    rw [← ho] at hset ho12 hget
    have hpm : p % 18446744073709551616 = p := Nat.mod_eq_of_lt (by omega)
    have hmm : o % 18446744073709551616 = o := Nat.mod_eq_of_lt (by omega)
    have w3 : IntKind.u64.wrap ((o ||| p : Nat) : Int) = ((o ||| p : Nat) : Int) := wrap_u64 (Nat.or_lt_two_pow (n := 64) (by omega) (by omega))
    have hbits : IntKind.u64.bits = 64 := rfl
    obtain ⟨P, hP⟩ : ∃ P, P = partD x k j x.ch.cells i := ⟨_, rfl⟩
    rw [← hP] at eB hset hget hplen
    have hgu : (u64s P)[i]? = some (.int .u64 (o : Nat)) := by
      have hPl : i < P.length := by omega
      rw [u64s_get hPl]
      rw [List.getElem?_eq_getElem hPl] at hget
      rw [Option.some.inj hget]
    have hBX : ∀ y : AH, (B ++ y)[lb]? = some (.rw 1 (u64s P)) := fun y => own_get eB y
    have hul : (u64s P).length = x.ch.cells := by rw [u64s_length, hplen]
    have hi1 : i + 1 ≤ x.ch.cells := hlt
    have hSl : S.lim ≤ lb := by omega
    have hus := u64s_set P i (o ||| p)
    simp only [Bool.not_false, Bool.and_true, if_true] at hset
    rw [hset] at hus
    generalize hU : u64s P = U at *
    have hgu2 : ∀ hh : i < U.length, U[i]'hh = .int .u64 (o : Nat) := fun hh => by rw [List.getElem?_eq_getElem hh] at hgu; exact Option.some.inj hgu
    simp [deLoop1, SC.loops, sf_fixes_search_denied, e1, e2, e5, e6, e7, e17, e18, e19, e25, e26, eL, el, hB, h1, h2, h5, hlt, hL2, hL7, ht, hT, hw1, eB, hBX, hgu2, hSo, hbits, hpm, hmm, w3, hul, hi1, hSl, hus]
    exact ⟨_, by omega, i + 1, by omega, rfl, by omega, (eA.push _).set hlb0 _, by rw [List.getElem?_set_self (by simp; omega)]⟩
end Go.Proofs.YtmdnpaboaelkeaaGreatDoor
namespace Go.Proofs.YtmdnpaboaelkeaaGreatDoor
open Go Go.RowKit
def topN : Int := 1201
theorem bestOf_le (p : Nat → Bool) (f : Nat → Int) : ∀ n j, j < n → p j = true → bestOf p f n ≤ f j
  | n + 1, j, hj, hp => by
    unfold bestOf
    by_cases e : j = n
    · subst e; rw [if_pos hp]; omega
    · have ih := bestOf_le p f n j (by omega) hp
      split <;> omega
theorem bestOf_never (p : Nat → Bool) (f : Nat → Int) : ∀ n, bestOf p f n ≤ neverR
  | 0 => Int.le_refl _
  | n + 1 => by
    have ih := bestOf_never p f n
    unfold bestOf
    split <;> omega
theorem bestOf_mem (p : Nat → Bool) (f : Nat → Int) : ∀ n, bestOf p f n = neverR ∨ ∃ j, j < n ∧ p j = true ∧ bestOf p f n = f j
  | 0 => .inl rfl
  | n + 1 => by
    have ih := bestOf_mem p f n
    unfold bestOf
    by_cases hp : p n = true
    · rw [if_pos hp]
      by_cases h : bestOf p f n ≤ f n
      · rw [Int.min_eq_left h]
        rcases ih with ih | ⟨j, h1, h2, h3⟩
        · exact .inl ih
        · exact .inr ⟨j, by omega, h2, h3⟩
      · rw [Int.min_eq_right (by omega)]
        exact .inr ⟨n, by omega, hp, rfl⟩
    · rw [if_neg hp]
      rcases ih with ih | ⟨j, h1, h2, h3⟩
      · exact .inl ih
      · exact .inr ⟨j, by omega, h2, h3⟩
theorem bestOf_min (p : Nat → Bool) (f : Nat → Int) : ∀ n, min topN (bestOf p (fun j => min topN (f j)) n) = min topN (bestOf p f n)
  | 0 => rfl
  | n + 1 => by
    have ih := bestOf_min p f n
    unfold bestOf
    split <;> omega
theorem bestOf_congr (p : Nat → Bool) {f g : Nat → Int} : ∀ {n : Nat}, (∀ j, j < n → f j = g j) → bestOf p f n = bestOf p g n
  | 0, _ => rfl
  | n + 1, h => by
    unfold bestOf
    rw [bestOf_congr p fun j hj => h j (by omega), h n (by omega)]
def upto (p : Nat → Bool) (n : Nat) : List Nat := (List.range n).filter p
theorem upto_mem {p : Nat → Bool} {n j : Nat} : j ∈ upto p n ↔ j < n ∧ p j = true := by simp [upto]
theorem cheap_best (p : Nat → Bool) (f : Nat → Int) (n : Nat) (h0 : 0 < (upto p n).length) (hf : ∀ j, j < n → f j ≤ neverR) : f (cheapM f ((upto p n)[0]) (upto p n)) = bestOf p f n := by
  have hm0 : (upto p n)[0] ∈ upto p n := List.getElem_mem h0
  have hm : cheapM f ((upto p n)[0]) (upto p n) ∈ upto p n := by
    rcases cheapM_mem f (upto p n) ((upto p n)[0]) with h | h
    · rw [h]; exact hm0
    · exact h
  have hl := (cheapM_le f (upto p n) ((upto p n)[0])).2
  obtain ⟨a, b⟩ := upto_mem.1 hm
  have h1 := bestOf_le p f n _ a b
  rcases bestOf_mem p f n with h | ⟨j, j1, j2, j3⟩
  · have := hf _ a; omega
  · have := hl j (upto_mem.2 ⟨j1, j2⟩); omega
theorem cheap_first (f : Nat → Int) : ∀ (l : List Nat) (a : Nat), (∃ l1 l2, a :: l = l1 ++ cheapM f a l :: l2 ∧ ∀ j ∈ l1, f (cheapM f a l) < f j)
  | [], a => ⟨[], [], rfl, by simp⟩
  | c :: l, a => by
    show ∃ l1 l2, a :: c :: l = l1 ++ cheapM f (if f c < f a then c else a) l :: l2 ∧ ∀ j ∈ l1, f (cheapM f (if f c < f a then c else a) l) < f j
    by_cases h : f c < f a
    · rw [if_pos h]
      obtain ⟨l1, l2, e1, e2⟩ := cheap_first f l c
      have := (cheapM_le f l c).1
      exact ⟨a :: l1, l2, by rw [e1]; rfl, fun j hj => by rcases List.mem_cons.1 hj with rfl | hj; omega; exact e2 j hj⟩
    · rw [if_neg h]
      obtain ⟨l1, l2, e1, e2⟩ := cheap_first f l a
      cases l1 with
      | nil =>
        simp only [List.nil_append, List.cons.injEq] at e1
        exact ⟨[], c :: l, congrArg (· :: c :: l) e1.1, by simp⟩
      | cons b l1 =>
        simp only [List.cons_append, List.cons.injEq] at e1
        obtain ⟨rfl, e1⟩ := e1
        have hb := e2 a (by simp)
        exact ⟨a :: c :: l1, l2, congrArg (fun z => a :: c :: z) e1, fun j hj => by
          rcases List.mem_cons.1 hj with rfl | hj
          · exact hb
          rcases List.mem_cons.1 hj with rfl | hj
          · omega
          · exact e2 j (by simp [hj])⟩
theorem find_at {l1 l2 : List Nat} {c : Nat} {q : Nat → Bool} (hc : q c = true) (h : ∀ j ∈ l1, q j = false) : (l1 ++ c :: l2).find? q = some c := by
  induction l1 with
  | nil => simp [hc]
  | cons a l1 ih => rw [List.cons_append, List.find?_cons, h a (by simp)]; exact ih fun j hj => h j (by simp [hj])
theorem cheap_find (p : Nat → Bool) (f : Nat → Int) (n : Nat) (v : Int) (hv : bestOf p f n = v) (hv2 : v < topN) (h0 : 0 < (upto p n).length) : (List.range n).find? (fun i => p i && f i == v) = some (cheapM (fun j => min topN (f j)) ((upto p n)[0]) (upto p n)) := by
  have e0 : (List.range n).find? (fun i => p i && f i == v) = (upto p n).find? (fun i => f i == v) := by
    unfold upto
    rw [List.find?_filter]
    congr 1
    funext i
    cases p i <;> by_cases h : f i = v <;> simp [h]
  rw [e0]
  clear e0
  have hm0 : (upto p n)[0] ∈ upto p n := List.getElem_mem h0
  obtain ⟨l1, l2, e1, e2⟩ := cheap_first (fun j => min topN (f j)) (upto p n) ((upto p n)[0])
  have hl := (cheapM_le (fun j => min topN (f j)) (upto p n) ((upto p n)[0])).2
  have hm : cheapM (fun j => min topN (f j)) ((upto p n)[0]) (upto p n) ∈ upto p n := by
    rcases cheapM_mem (fun j => min topN (f j)) (upto p n) ((upto p n)[0]) with h | h
    · rw [h]; exact hm0
    · exact h
  generalize hcc : cheapM (fun j => min topN (f j)) ((upto p n)[0]) (upto p n) = c at *
  obtain ⟨a, b⟩ := upto_mem.1 hm
  have h1 := bestOf_le p f n _ a b
  have hfc : f c = v := by
    rcases bestOf_mem p f n with h | ⟨j, j1, j2, j3⟩
    · rw [hv] at h; rw [h] at hv2; exact absurd hv2 (by decide)
    · have : min topN (f c) ≤ min topN (f j) := hl j (upto_mem.2 ⟨j1, j2⟩); omega
  have hk : ((upto p n)[0] :: upto p n).find? (fun i => f i == v) = some c := by
    rw [e1]
    refine find_at (by simp [hfc]) fun j hj => ?_
    have : min topN (f c) < min topN (f j) := e2 j hj
    have : f j ≠ v := by omega
    simpa using this
  obtain ⟨b, t, ht⟩ : ∃ b t, upto p n = b :: t := by
    cases hu : upto p n with
    | nil => rw [hu] at h0; simp at h0
    | cons b t => exact ⟨b, t, rfl⟩
  have hb0 : (upto p n)[0] = b := by simp only [ht, List.getElem_cons_zero]
  rw [hb0, ht, List.find?_cons] at hk
  rw [ht, List.find?_cons]
  rw [List.find?_cons] at hk
  by_cases hq : (f b == v) = true
  · rw [hq] at hk ⊢; exact hk
  · have hq' : (f b == v) = false := by simpa using hq
    rw [hq'] at hk ⊢; exact hk
def payV (x : Ds) (fl : Nat → Bool) (p : Nat → Int) (prev : List Int) (i : Nat) : Int :=
  if fl i && decide (p i < topN) then min topN (p i + prev.getD (cheapM (fun j => prev.getD j 0) ((upto (hops x i) x.ch.cells).headD 0) (upto (hops x i) x.ch.cells)) 0) else topN
def payN (x : Ds) (fl : Nat → Bool) (p : Nat → Int) (prev : List Int) : List Int := (List.range x.ch.cells).map (payV x fl p prev)
theorem payN_len (x : Ds) (fl : Nat → Bool) (p : Nat → Int) (prev : List Int) : (payN x fl p prev).length = x.ch.cells := by simp [payN]
theorem payN_get (x : Ds) (fl : Nat → Bool) (p : Nat → Int) (prev : List Int) {i : Nat} (hi : i < x.ch.cells) : (payN x fl p prev).getD i 0 = payV x fl p prev i := by
  simp [payN, hi]
def backN (x : Ds) (fl : Nat → Nat → Bool) (p : Nat → Nat → Int) : Nat → List Int
  | 0 => List.replicate x.ch.cells 0
  | s + 1 => payN x (fl (x.ch.ticks - 1 - s)) (p (x.ch.ticks - 1 - s)) (backN x fl p s)
def foreN (x : Ds) (fl : Nat → Nat → Bool) (p : Nat → Nat → Int) : Nat → List Int
  | 0 => List.replicate x.ch.cells 0
  | s + 1 => payN x (fl s) (p s) (foreN x fl p s)
def Agree (x : Ds) (fl : Nat → Nat → Bool) (p : Nat → Nat → Int) (own : Nat → Nat → Int) : Prop :=
  ∀ k i, k < x.ch.ticks → i < x.ch.cells → 0 ≤ p k i ∧ 0 ≤ own i k ∧ own i k ≤ neverR ∧ (if fl k i = true then min topN (p k i) else topN) = min topN (own i k)
theorem upto_pos {x : Ds} {i : Nat} (hi : i < x.ch.cells) (hs : hops x i i = true) : 0 < (upto (hops x i) x.ch.cells).length :=
  List.length_pos_of_mem (upto_mem.2 ⟨hi, hs⟩)
theorem cheap_near {x : Ds} {i : Nat} (hi : i < x.ch.cells) (hs : hops x i i = true) (f : Nat → Int) (hf : ∀ j, j < x.ch.cells → f j ≤ neverR) :
    f (cheapM f ((upto (hops x i) x.ch.cells).headD 0) (upto (hops x i) x.ch.cells)) = bestOf (hops x i) f x.ch.cells := by
  have h0 := upto_pos hi hs
  have h := cheap_best (hops x i) f x.ch.cells h0 hf
  have : (upto (hops x i) x.ch.cells).headD 0 = (upto (hops x i) x.ch.cells)[0] := by
    clear h
    revert h0
    generalize upto (hops x i) x.ch.cells = l
    intro h0
    cases l with
    | nil => simp at h0
    | cons a b => rfl
  rw [this]; exact h
theorem payV_eq {x : Ds} {fl : Nat → Bool} {p own : Nat → Int} {prev : List Int} {i : Nat} (hi : i < x.ch.cells) (hs : hops x i i = true) (hp : 0 ≤ p i ∧ 0 ≤ own i ∧ own i ≤ neverR ∧ (if fl i = true then min topN (p i) else topN) = min topN (own i)) (hf : ∀ j, j < x.ch.cells → 0 ≤ prev.getD j 0 ∧ prev.getD j 0 ≤ topN) :
    payV x fl p prev i = min topN (own i + bestOf (hops x i) (fun j => prev.getD j 0) x.ch.cells) := by
  obtain ⟨p0, o0, o1, e⟩ := hp
  have hT : topN ≤ neverR := by decide
  have hc := cheap_near hi hs (fun j => prev.getD j 0) fun j hj => by have h := (hf j hj).2; exact Int.le_trans h hT
  unfold payV
  rw [hc]
  have hb : 0 ≤ bestOf (hops x i) (fun j => prev.getD j 0) x.ch.cells := by
    rcases bestOf_mem (hops x i) (fun j => prev.getD j 0) x.ch.cells with h | ⟨j, j1, _, j3⟩
    · rw [h]; decide
    · rw [j3]; exact (hf j j1).1
  generalize bestOf (hops x i) (fun j => prev.getD j 0) x.ch.cells = B at *
  have hT0 : topN = 1201 := rfl
  cases hfl : fl i with
  | false =>
    rw [hfl] at e
    simp at e ⊢
    omega
  | true =>
    rw [hfl] at e
    simp at e ⊢
    split <;> omega
theorem payV_bound {x : Ds} {fl : Nat → Bool} {p : Nat → Int} {prev : List Int} {i : Nat} (hp : 0 ≤ p i) (hf : ∀ j, 0 ≤ prev.getD j 0) : 0 ≤ payV x fl p prev i ∧ payV x fl p prev i ≤ topN := by
  unfold payV
  have hT0 : topN = 1201 := rfl
  have h1 := hf (cheapM (fun j => prev.getD j 0) ((upto (hops x i) x.ch.cells).headD 0) (upto (hops x i) x.ch.cells))
  generalize prev.getD _ 0 = B at *
  split <;> omega
theorem payN_bound {x : Ds} {fl : Nat → Bool} {p : Nat → Int} {prev : List Int} (hp : ∀ i, i < x.ch.cells → 0 ≤ p i) (hf : ∀ j, 0 ≤ prev.getD j 0) (j : Nat) : 0 ≤ (payN x fl p prev).getD j 0 ∧ (payN x fl p prev).getD j 0 ≤ topN := by
  by_cases hj : j < x.ch.cells
  · rw [payN_get _ _ _ _ hj]; exact payV_bound (hp j hj) hf
  · rw [List.getD_eq_getElem?_getD, List.getElem?_eq_none (by rw [payN_len]; omega)]
    exact ⟨Int.le_refl _, by decide⟩
theorem zeros_bound (n j : Nat) : 0 ≤ (List.replicate n (0 : Int)).getD j 0 ∧ (List.replicate n (0 : Int)).getD j 0 ≤ topN := by
  rw [List.getD_eq_getElem?_getD, List.getElem?_replicate]
  split <;> exact ⟨Int.le_refl _, by decide⟩
theorem backN_len (x : Ds) (fl : Nat → Nat → Bool) (p : Nat → Nat → Int) (s : Nat) : (backN x fl p s).length = x.ch.cells := by
  cases s with
  | zero => simp [backN]
  | succ s => exact payN_len ..
theorem foreN_len (x : Ds) (fl : Nat → Nat → Bool) (p : Nat → Nat → Int) (s : Nat) : (foreN x fl p s).length = x.ch.cells := by
  cases s with
  | zero => simp [foreN]
  | succ s => exact payN_len ..
theorem backN_bound {x : Ds} {fl : Nat → Nat → Bool} {p : Nat → Nat → Int} (hp : ∀ k i, k < x.ch.ticks → i < x.ch.cells → 0 ≤ p k i) : ∀ s, s ≤ x.ch.ticks → ∀ j, 0 ≤ (backN x fl p s).getD j 0 ∧ (backN x fl p s).getD j 0 ≤ topN
  | 0, _, j => zeros_bound _ j
  | s + 1, hs, j => payN_bound (fun i hi => hp _ i (by omega) hi) (fun j => (backN_bound hp s (by omega) j).1) j
theorem foreN_bound {x : Ds} {fl : Nat → Nat → Bool} {p : Nat → Nat → Int} (hp : ∀ k i, k < x.ch.ticks → i < x.ch.cells → 0 ≤ p k i) : ∀ s, s ≤ x.ch.ticks → ∀ j, 0 ≤ (foreN x fl p s).getD j 0 ∧ (foreN x fl p s).getD j 0 ≤ topN
  | 0, _, j => zeros_bound _ j
  | s + 1, hs, j => payN_bound (fun i hi => hp _ i (by omega) hi) (fun j => (foreN_bound hp s (by omega) j).1) j
theorem row_get (x : Ds) (cnt mst : List Bool) (s : Nat) {i : Nat} (hi : i < x.ch.cells) : ((rowsM x cnt mst (s + 1)).headD []).getD i 0 = valR x cnt mst (x.ch.ticks - 1 - s) ((rowsM x cnt mst s).headD []) i := by
  simp [rowsM, rowN, hi]
theorem rows_back {x : Ds} (hs : ∀ i, hops x i i = true) {fl : Nat → Nat → Bool} {p : Nat → Nat → Int} {cnt mst : List Bool} (hA : Agree x fl p (fun i k => ownM x cnt mst i k)) : ∀ s, s < x.ch.ticks → ∀ i, i < x.ch.cells →
    (backN x fl p (s + 1)).getD i 0 = min topN (((rowsM x cnt mst (s + 1)).headD []).getD i 0)
  | 0, h, i, hi => by
    obtain ⟨h1, h2, h3, h4⟩ := hA (x.ch.ticks - 1 - 0) i (by omega) hi
    rw [row_get _ _ _ _ hi]
    show (payN x (fl (x.ch.ticks - 1 - 0)) (p (x.ch.ticks - 1 - 0)) (backN x fl p 0)).getD i 0 = _
    have hz : ∀ j, (backN x fl p 0).getD j 0 = 0 := fun j => by
      show (List.replicate x.ch.cells (0 : Int)).getD j 0 = 0
      rw [List.getD_eq_getElem?_getD, List.getElem?_replicate]
      split <;> rfl
    rw [payN_get _ _ _ _ hi]
    unfold valR payV
    rw [if_neg (c := x.ch.ticks - 1 - 0 + 1 < x.ch.ticks ∧ _) (by omega), hz]
    have hT0 : topN = 1201 := rfl
    cases hfl : fl (x.ch.ticks - 1 - 0) i with
    | false => rw [hfl] at h4; simp only [Bool.false_and, Bool.false_eq_true, if_false] at h4 ⊢; omega
    | true =>
      rw [hfl] at h4
      simp only [Bool.true_and, if_true, decide_eq_true_eq] at h4 ⊢
      split <;> omega
  | s + 1, h, i, hi => by
    have hAi := hA (x.ch.ticks - 1 - (s + 1)) i (by omega) hi
    simp only at hAi
    obtain ⟨h1, h2, h3, h4⟩ := hAi
    have ih := rows_back hs hA s (by omega)
    have hb := backN_bound (x := x) (fl := fl) (p := p) (fun k i hk hi => (hA k i hk hi).1) (s + 1) (by omega)
    rw [row_get _ _ _ _ hi]
    show (payN x (fl (x.ch.ticks - 1 - (s + 1))) (p (x.ch.ticks - 1 - (s + 1))) (backN x fl p (s + 1))).getD i 0 = _
    rw [payN_get _ _ _ _ hi, payV_eq (own := fun i => ownM x cnt mst i (x.ch.ticks - 1 - (s + 1))) hi (hs i) ⟨h1, h2, h3, h4⟩ fun j _ => hb j]
    have hbe : min topN (bestOf (hops x i) (fun j => (backN x fl p (s + 1)).getD j 0) x.ch.cells) = min topN (bestOf (hops x i) (fun j => ((rowsM x cnt mst (s + 1)).headD []).getD j 0) x.ch.cells) := by
      rw [← bestOf_min (hops x i) (fun j => ((rowsM x cnt mst (s + 1)).headD []).getD j 0)]
      rw [bestOf_congr (hops x i) fun j hj => ih j hj]
    have hn : 0 ≤ bestOf (hops x i) (fun j => ((rowsM x cnt mst (s + 1)).headD []).getD j 0) x.ch.cells := by
      rcases bestOf_mem (hops x i) (fun j => ((rowsM x cnt mst (s + 1)).headD []).getD j 0) x.ch.cells with h | ⟨j, j1, _, j3⟩
      · rw [h]; decide
      · rw [j3]; have := ih j j1; have := (hb j).1; have : topN = 1201 := rfl; omega
    have hn2 : 0 ≤ bestOf (hops x i) (fun j => (backN x fl p (s + 1)).getD j 0) x.ch.cells := by
      rcases bestOf_mem (hops x i) (fun j => (backN x fl p (s + 1)).getD j 0) x.ch.cells with h | ⟨j, j1, _, j3⟩
      · rw [h]; decide
      · rw [j3]; exact (hb j).1
    unfold valR
    generalize ownM x cnt mst i (x.ch.ticks - 1 - (s + 1)) = O at *
    generalize bestOf (hops x i) (fun j => (backN x fl p (s + 1)).getD j 0) x.ch.cells = B1 at *
    generalize bestOf (hops x i) (fun j => ((rowsM x cnt mst (s + 1)).headD []).getD j 0) x.ch.cells = B2 at *
    have hT0 : topN = 1201 := rfl
    have hN0 : neverR = 1073741824 := rfl
    split <;> omega
def wAt (l : List Rep) (k : Nat) : Int := l.foldr (fun q n => if q.tick = (k : Int) then q.w + n else n) 0
def wFrom (l : List Rep) (k : Nat) : Int := l.foldr (fun q n => if (k : Int) ≤ q.tick then q.w + n else n) 0
theorem wFrom_succ : ∀ (l : List Rep) (k : Nat), wFrom l k = wAt l k + wFrom l (k + 1)
  | [], k => rfl
  | q :: l, k => by
    have ih := wFrom_succ l k
    unfold wFrom wAt at *
    simp only [List.foldr_cons]
    split <;> split <;> split <;> omega
theorem wFrom_le : ∀ (l : List Rep) (k : Nat), (∀ q ∈ l, 0 ≤ q.w ∧ q.w ≤ 100) → 0 ≤ wFrom l k ∧ wFrom l k ≤ 100 * l.length
  | [], k, _ => by unfold wFrom; simp
  | q :: l, k, h => by
    have ih := wFrom_le l k fun z hz => h z (by simp [hz])
    have hq := h q (by simp)
    unfold wFrom at *
    simp only [List.foldr_cons, List.length_cons]
    split <;> omega
theorem wAt_nonneg : ∀ (l : List Rep) (k : Nat), (∀ q ∈ l, 0 ≤ q.w ∧ q.w ≤ 100) → 0 ≤ wAt l k
  | [], k, _ => by unfold wAt; simp
  | q :: l, k, h => by
    have ih := wAt_nonneg l k fun z hz => h z (by simp [hz])
    have hq := h q (by simp)
    unfold wAt at *
    simp only [List.foldr_cons]
    split <;> omega
theorem ownGo_small (w : Int) (i t : Nat) : ∀ (l : List Rep) (cs ms : List Bool) (n : Int), (∀ q ∈ l, 0 ≤ q.w ∧ q.w ≤ 100) → ownGo w i t l cs ms n = neverR ∨ ownGo w i t l cs ms n ≤ n + wAt l t
  | q :: l, c :: cs, m :: ms, n, hw => by
    have hq := hw q (by simp)
    have hl : ∀ z ∈ l, 0 ≤ z.w ∧ z.w ≤ 100 := fun z hz => hw z (by simp [hz])
    unfold ownGo
    split
    · rename_i hc
      simp only [Bool.and_eq_true, beq_iff_eq] at hc
      split
      · exact .inl rfl
      · rcases ownGo_small w i t l cs ms (n + q.w) hl with h | h
        · exact .inl h
        · right
          unfold wAt at *
          simp only [List.foldr_cons]
          rw [if_pos hc.1.2]
          omega
    · rcases ownGo_small w i t l cs ms n hl with h | h
      · exact .inl h
      · right
        have := wAt_nonneg l t hl
        unfold wAt at *
        simp only [List.foldr_cons]
        split <;> omega
  | [], cs, ms, n, _ => by
    have : ownGo w i t [] cs ms n = n := by cases cs <;> cases ms <;> rfl
    rw [this]; right; unfold wAt; simp
  | q :: l, [], ms, n, hw => by
    have : ownGo w i t (q :: l) [] ms n = n := by cases ms <;> rfl
    rw [this]; right; have := wAt_nonneg (q :: l) t hw; omega
  | q :: l, c :: cs, [], n, hw => by
    have : ownGo w i t (q :: l) (c :: cs) [] n = n := rfl
    rw [this]; right; have := wAt_nonneg (q :: l) t hw; omega
theorem rows_small {x : Ds} (hl : x.reps.length ≤ 12) (hw : ∀ q ∈ x.reps, 0 ≤ q.w ∧ q.w ≤ 100) (cnt mst : List Bool) (hO0 : ∀ i k, 0 ≤ ownM x cnt mst i k) : ∀ s, s < x.ch.ticks → ∀ i, i < x.ch.cells →
    ((rowsM x cnt mst (s + 1)).headD []).getD i 0 = neverR ∨ ((rowsM x cnt mst (s + 1)).headD []).getD i 0 ≤ wFrom x.reps (x.ch.ticks - 1 - s)
  | s, hs, i, hi => by
    rw [row_get _ _ _ _ hi]
    have hS := wFrom_succ x.reps (x.ch.ticks - 1 - s)
    have h0 := (wFrom_le x.reps (x.ch.ticks - 1 - s + 1) hw).1
    have hwl := (wFrom_le x.reps (x.ch.ticks - 1 - s) hw).2
    have hO : ownM x cnt mst i (x.ch.ticks - 1 - s) = neverR ∨ ownM x cnt mst i (x.ch.ticks - 1 - s) ≤ wAt x.reps (x.ch.ticks - 1 - s) := by
      unfold ownM
      split
      · have := ownGo_small x.ch.w i (x.ch.ticks - 1 - s) x.reps cnt mst 0 hw
        omega
      · exact .inl rfl
    have hN0 : neverR = 1073741824 := rfl
    have h00 := hO0 i (x.ch.ticks - 1 - s)
    unfold valR
    generalize ownM x cnt mst i (x.ch.ticks - 1 - s) = O at *
    split
    · rename_i hc
      obtain ⟨hc1, hc2⟩ := hc
      obtain ⟨s, rfl⟩ : ∃ m, s = m + 1 := ⟨s - 1, by omega⟩
      have ih := rows_small hl hw cnt mst hO0 s (by omega)
      rcases bestOf_mem (hops x i) (fun j => ((rowsM x cnt mst (s + 1)).headD []).getD j 0) x.ch.cells with h | ⟨j, j1, _, j3⟩
      · rw [h]
        have hO2 : O ≤ wAt x.reps (x.ch.ticks - 1 - (s + 1)) := by omega
        left; omega
      · rw [j3]
        have e : x.ch.ticks - 1 - (s + 1) + 1 = x.ch.ticks - 1 - s := by omega
        rw [e] at hS
        have := ih j j1
        generalize ((rowsM x cnt mst (s + 1)).headD []).getD j 0 = V at *
        omega
    · omega
def rowAt (x : Ds) (cnt mst : List Bool) (t : Nat) : List Int := (rowsM x cnt mst (x.ch.ticks - t)).headD []
def fromP (x : Ds) (c : Nat) (t : Nat) (i : Nat) : Bool := t == 0 || hops x c i
def cP (x : Ds) (fl : Nat → Nat → Bool) (p : Nat → Nat → Int) : Nat → Nat
  | 0 => cheapM (fun j => (backN x fl p x.ch.ticks).getD j 0) ((upto (fun _ => true) x.ch.cells).headD 0) (upto (fun _ => true) x.ch.cells)
  | t + 1 => cheapM (fun j => (backN x fl p (x.ch.ticks - (t + 1))).getD j 0) ((upto (hops x (cP x fl p t)) x.ch.cells).headD 0) (upto (hops x (cP x fl p t)) x.ch.cells)
def leftP (x : Ds) (cnt mst : List Bool) (c : Nat → Nat) : Nat → Int
  | 0 => bestOf (fun _ => true) (fun j => (rowAt x cnt mst 0).getD j 0) x.ch.cells
  | t + 1 => leftP x cnt mst c t - ownM x cnt mst (c t) t
theorem headD_zero {l : List Nat} (h : 0 < l.length) : l.headD 0 = l[0] := by
  cases l with
  | nil => simp at h
  | cons a b => rfl
theorem cP_find {x : Ds} (hs : ∀ i, hops x i i = true) (hn0 : 0 < x.ch.cells) (ht0 : 0 < x.ch.ticks) {fl : Nat → Nat → Bool} {p : Nat → Nat → Int} {cnt mst : List Bool} (hA : Agree x fl p (fun i k => ownM x cnt mst i k))
    (h0 : bestOf (fun _ => true) (fun j => (rowAt x cnt mst 0).getD j 0) x.ch.cells < topN) : ∀ t, t < x.ch.ticks →
    ∃ q : Nat → Bool, (∀ i, q i = fromP x (cP x fl p (t - 1)) t i) ∧ leftP x cnt mst (cP x fl p) t = bestOf q (fun j => (rowAt x cnt mst t).getD j 0) x.ch.cells ∧ leftP x cnt mst (cP x fl p) t < topN ∧ cP x fl p t < x.ch.cells ∧
      (List.range x.ch.cells).find? (fun i => q i && (rowAt x cnt mst t).getD i 0 == leftP x cnt mst (cP x fl p) t) = some (cP x fl p t) := by
  have fin : ∀ (q : Nat → Bool) (t : Nat), t < x.ch.ticks → 0 < (upto q x.ch.cells).length → bestOf q (fun j => (rowAt x cnt mst t).getD j 0) x.ch.cells < topN →
      (List.range x.ch.cells).find? (fun i => q i && (rowAt x cnt mst t).getD i 0 == bestOf q (fun j => (rowAt x cnt mst t).getD j 0) x.ch.cells) = some (cheapM (fun j => (backN x fl p (x.ch.ticks - t)).getD j 0) ((upto q x.ch.cells).headD 0) (upto q x.ch.cells)) := by
    intro q t ht hq hb
    rw [cheap_find q _ _ _ rfl hb hq, headD_zero hq]
    congr 1
    have key : ∀ (f g : Nat → Int) (l : List Nat) (a : Nat), (∀ j ∈ l, f j = g j) → f a = g a → (∀ j ∈ l, True) → cheapM f a l = cheapM g a l := by
      intro f g l
      induction l with
      | nil => intro a _ _ _; rfl
      | cons c l ih =>
        intro a h1 h2 _
        show cheapM f (if f c < f a then c else a) l = cheapM g (if g c < g a then c else a) l
        rw [h1 c (by simp), h2]
        split
        · exact ih c (fun j hj => h1 j (by simp [hj])) (h1 c (by simp)) (fun _ _ => trivial)
        · exact ih a (fun j hj => h1 j (by simp [hj])) h2 (fun _ _ => trivial)
    have heq : ∀ j, j < x.ch.cells → min topN ((rowAt x cnt mst t).getD j 0) = (backN x fl p (x.ch.ticks - t)).getD j 0 := fun j hj => by
      obtain ⟨s, hs'⟩ : ∃ s, x.ch.ticks - t = s + 1 := ⟨x.ch.ticks - t - 1, by omega⟩
      unfold rowAt
      rw [hs']
      exact (rows_back hs hA s (by omega) j hj).symm
    refine key _ _ _ _ (fun j hj => heq j (upto_mem.1 hj).1) (heq _ (upto_mem.1 (List.getElem_mem hq)).1) (fun _ _ => trivial)
  have mem : ∀ (q : Nat → Bool) (v : Int) (c t : Nat), (List.range x.ch.cells).find? (fun i => q i && (rowAt x cnt mst t).getD i 0 == v) = some c → c < x.ch.cells ∧ (rowAt x cnt mst t).getD c 0 = v := by
    intro q v c t h
    have h1 := List.find?_some h
    have h2 := List.mem_of_find?_eq_some h
    simp only [Bool.and_eq_true, beq_iff_eq] at h1
    exact ⟨List.mem_range.1 h2, h1.2⟩
  intro t
  induction t with
  | zero =>
    intro _
    have hq : 0 < (upto (fun _ => true) x.ch.cells).length := List.length_pos_of_mem (upto_mem.2 ⟨hn0, rfl⟩)
    have hf := fin (fun _ => true) 0 ht0 hq h0
    rw [Nat.sub_zero] at hf
    refine ⟨fun _ => true, fun i => rfl, rfl, h0, ?_, hf⟩
    exact (mem _ _ _ _ hf).1
  | succ t ih =>
    intro ht
    obtain ⟨q, q1, q2, q3, q4, q5⟩ := ih (by omega)
    obtain ⟨_, hv⟩ := mem _ _ _ _ q5
    obtain ⟨s, hs'⟩ : ∃ s, x.ch.ticks - t = s + 1 := ⟨x.ch.ticks - t - 1, by omega⟩
    have hs1 : x.ch.ticks - 1 - s = t := by omega
    have hs2 : x.ch.ticks - (t + 1) = s := by omega
    have hrow : (rowAt x cnt mst t).getD (cP x fl p t) 0 = valR x cnt mst t (rowAt x cnt mst (t + 1)) (cP x fl p t) := by
      unfold rowAt
      rw [hs', row_get _ _ _ _ q4, hs1, hs2]
    have hAi := hA t (cP x fl p t) (by omega) q4
    simp only at hAi
    obtain ⟨_, ho, _, _⟩ := hAi
    rw [hrow] at hv
    have hN0 : neverR = 1073741824 := rfl
    have hT0 : topN = 1201 := rfl
    have hb : leftP x cnt mst (cP x fl p) (t + 1) = bestOf (hops x (cP x fl p t)) (fun j => (rowAt x cnt mst (t + 1)).getD j 0) x.ch.cells := by
      show leftP x cnt mst (cP x fl p) t - ownM x cnt mst (cP x fl p t) t = _
      unfold valR at hv
      split at hv <;> omega
    have hq : 0 < (upto (hops x (cP x fl p t)) x.ch.cells).length := upto_pos q4 (hs _)
    have hlt : leftP x cnt mst (cP x fl p) (t + 1) < topN := by
      show leftP x cnt mst (cP x fl p) t - ownM x cnt mst (cP x fl p t) t < topN
      omega
    have hf := fin (hops x (cP x fl p t)) (t + 1) ht hq (by rw [← hb]; exact hlt)
    rw [← hb] at hf
    refine ⟨hops x (cP x fl p t), fun i => by simp [fromP], hb, hlt, (mem _ _ _ _ hf).1, hf⟩
def bestF (x : Ds) (t : Nat) (prev : List Int) (i : Nat) : Int := if t = 0 then 0 else bestOf (fun k => hops x k i) (fun j => prev.getD j 0) x.ch.cells
def fwdR (x : Ds) (cnt mst : List Bool) : Nat → List Int
  | 0 => []
  | t + 1 => (List.range x.ch.cells).map fun i => min neverR (bestF x t (fwdR x cnt mst t) i + ownM x cnt mst i t)
def thrM (x : Ds) (cnt mst : List Bool) (t : Nat) : List Int := (List.range x.ch.cells).map fun i => min neverR (bestF x t (fwdR x cnt mst t) i + (rowAt x cnt mst t).getD i 0)
theorem fwdR_get (x : Ds) (cnt mst : List Bool) (t : Nat) {i : Nat} (hi : i < x.ch.cells) : (fwdR x cnt mst (t + 1)).getD i 0 = min neverR (bestF x t (fwdR x cnt mst t) i + ownM x cnt mst i t) := by
  simp [fwdR, hi]
theorem thrM_get (x : Ds) (cnt mst : List Bool) (t : Nat) {i : Nat} (hi : i < x.ch.cells) : (thrM x cnt mst t).getD i 0 = min neverR (bestF x t (fwdR x cnt mst t) i + (rowAt x cnt mst t).getD i 0) := by
  simp [thrM, hi]
theorem thrM_len (x : Ds) (cnt mst : List Bool) (t : Nat) : (thrM x cnt mst t).length = x.ch.cells := by simp [thrM]
theorem bestF_nonneg {x : Ds} {cnt mst : List Bool} (hO0 : ∀ i k, 0 ≤ ownM x cnt mst i k) : ∀ t i, 0 ≤ bestF x t (fwdR x cnt mst t) i
  | 0, i => by unfold bestF; simp
  | t + 1, i => by
    unfold bestF
    rw [if_neg (by omega)]
    rcases bestOf_mem (fun k => hops x k i) (fun j => (fwdR x cnt mst (t + 1)).getD j 0) x.ch.cells with h | ⟨j, j1, _, j3⟩
    · rw [h]; decide
    · rw [j3, fwdR_get _ _ _ _ j1]
      have h1 := bestF_nonneg hO0 t j
      have h2 := hO0 j t
      have hN0 : neverR = 1073741824 := rfl
      omega
theorem fore_eq {x : Ds} (hs : ∀ i, hops x i i = true) (hsym : ∀ i k, hops x i k = hops x k i) {fl : Nat → Nat → Bool} {p : Nat → Nat → Int} {cnt mst : List Bool} (hA : Agree x fl p (fun i k => ownM x cnt mst i k)) (hO0 : ∀ i k, 0 ≤ ownM x cnt mst i k) : ∀ t, t < x.ch.ticks → ∀ i, i < x.ch.cells →
    (foreN x fl p (t + 1)).getD i 0 = min topN ((fwdR x cnt mst (t + 1)).getD i 0)
  | t, h, i, hi => by
    have hAi := hA t i h hi
    simp only at hAi
    obtain ⟨h1, h2, h3, h4⟩ := hAi
    have hb := foreN_bound (x := x) (fl := fl) (p := p) (fun k i hk hi => (hA k i hk hi).1) t (by omega)
    rw [fwdR_get _ _ _ _ hi]
    show (payN x (fl t) (p t) (foreN x fl p t)).getD i 0 = _
    rw [payN_get _ _ _ _ hi]
    have hT0 : topN = 1201 := rfl
    have hN0 : neverR = 1073741824 := rfl
    cases t with
    | zero =>
      unfold payV
      have hz : ∀ j, (foreN x fl p 0).getD j 0 = 0 := fun j => by
        show (List.replicate x.ch.cells (0 : Int)).getD j 0 = 0
        rw [List.getD_eq_getElem?_getD, List.getElem?_replicate]
        split <;> rfl
      rw [hz]
      show _ = min topN (min neverR (0 + _))
      generalize ownM x cnt mst i 0 = O at *
      cases hfl : fl 0 i with
      | false => rw [hfl] at h4; simp only [Bool.false_and, Bool.false_eq_true, if_false] at h4 ⊢; omega
      | true =>
        rw [hfl] at h4
        simp only [Bool.true_and, if_true, decide_eq_true_eq] at h4 ⊢
        split <;> omega
    | succ t =>
      have ih := fore_eq hs hsym hA hO0 t (by omega)
      rw [payV_eq (own := fun i => ownM x cnt mst i (t + 1)) hi (hs i) ⟨h1, h2, h3, h4⟩ fun j _ => hb j]
      have hbn := bestF_nonneg hO0 (t + 1) i
      unfold bestF at hbn ⊢
      rw [if_neg (by omega)] at hbn ⊢
      have hp : (fun k => hops x k i) = hops x i := funext fun k => hsym k i
      rw [hp] at hbn ⊢
      have hbe : min topN (bestOf (hops x i) (fun j => (foreN x fl p (t + 1)).getD j 0) x.ch.cells) = min topN (bestOf (hops x i) (fun j => (fwdR x cnt mst (t + 1)).getD j 0) x.ch.cells) := by
        rw [← bestOf_min (hops x i) (fun j => (fwdR x cnt mst (t + 1)).getD j 0)]
        rw [bestOf_congr (hops x i) fun j hj => ih j hj]
      have hn2 : 0 ≤ bestOf (hops x i) (fun j => (foreN x fl p (t + 1)).getD j 0) x.ch.cells := by
        rcases bestOf_mem (hops x i) (fun j => (foreN x fl p (t + 1)).getD j 0) x.ch.cells with h | ⟨j, j1, _, j3⟩
        · rw [h]; decide
        · rw [j3]; exact (hb j).1
      generalize ownM x cnt mst i (t + 1) = O at *
      generalize bestOf (hops x i) (fun j => (foreN x fl p (t + 1)).getD j 0) x.ch.cells = B1 at *
      generalize bestOf (hops x i) (fun j => (fwdR x cnt mst (t + 1)).getD j 0) x.ch.cells = B2 at *
      omega
def withinB (x : Ds) (fl : Nat → Nat → Bool) (p : Nat → Nat → Int) (t : Nat) (most : Int) (i : Nat) : Bool :=
  decide (max ((foreN x fl p (t + 1)).getD i 0) ((backN x fl p (x.ch.ticks - t)).getD i 0) < topN) && decide ((foreN x fl p (t + 1)).getD i 0 + (backN x fl p (x.ch.ticks - t)).getD i 0 - p t i ≤ most)
theorem within_eq {x : Ds} (hs : ∀ i, hops x i i = true) (hsym : ∀ i k, hops x i k = hops x k i) {fl : Nat → Nat → Bool} {p : Nat → Nat → Int} {cnt mst : List Bool} (hA : Agree x fl p (fun i k => ownM x cnt mst i k)) (hO0 : ∀ i k, 0 ≤ ownM x cnt mst i k) {t : Nat} (ht : t < x.ch.ticks) {i : Nat} (hi : i < x.ch.cells) {most : Int} (hm : most ≤ 1200) :
    withinB x fl p t most i = decide ((thrM x cnt mst t).getD i 0 ≤ most) := by
  obtain ⟨s, hs'⟩ : ∃ s, x.ch.ticks - t = s + 1 := ⟨x.ch.ticks - t - 1, by omega⟩
  have hAi := hA t i ht hi
  simp only at hAi
  obtain ⟨h1, h2, h3, h4⟩ := hAi
  have e1 := fore_eq hs hsym hA hO0 t ht i hi
  have e2 := rows_back hs hA s (by omega) i hi
  rw [fwdR_get _ _ _ _ hi] at e1
  have hbn := bestF_nonneg hO0 t i
  have hT0 : topN = 1201 := rfl
  have hN0 : neverR = 1073741824 := rfl
  have hR : ownM x cnt mst i t ≤ ((rowsM x cnt mst (s + 1)).headD []).getD i 0 ∧ ((rowsM x cnt mst (s + 1)).headD []).getD i 0 ≤ neverR := by
    rw [row_get _ _ _ _ hi, show x.ch.ticks - 1 - s = t by omega]
    unfold valR
    have hb0 : 0 ≤ bestOf (hops x i) (fun j => ((rowsM x cnt mst s).headD []).getD j 0) x.ch.cells := by
      rcases bestOf_mem (hops x i) (fun j => ((rowsM x cnt mst s).headD []).getD j 0) x.ch.cells with h | ⟨j, j1, _, j3⟩
      · rw [h]; decide
      · rw [j3]
        cases s with
        | zero => simp [rowsM]
        | succ s =>
          have e3 := rows_back hs hA s (by omega) j j1
          have hb := backN_bound (x := x) (fl := fl) (p := p) (fun k i hk hi => (hA k i hk hi).1) (s + 1) (by omega) j
          omega
    split <;> omega
  unfold withinB
  rw [thrM_get _ _ _ _ hi]
  unfold rowAt
  rw [hs', e1, e2]
  generalize ((rowsM x cnt mst (s + 1)).headD []).getD i 0 = R at *
  generalize bestF x t (fwdR x cnt mst t) i = B at *
  generalize ownM x cnt mst i t = O at *
  generalize p t i = P at *
  rw [Bool.eq_iff_iff]
  simp only [Bool.and_eq_true, decide_eq_true_eq]
  cases hfl : fl t i with
  | false => rw [hfl] at h4; simp only [Bool.false_eq_true, if_false] at h4; omega
  | true => rw [hfl] at h4; simp only [if_true] at h4; omega
end Go.Proofs.YtmdnpaboaelkeaaGreatDoor
namespace Go.Proofs.YtmdnpaboaelkeaaGreatDoor
open Go Go.RowKit
def deLoop0 : SC := sf_fixes_search_denied.body.loops.headD .skip
set_option maxHeartbeats 1000000 in
theorem de_outer (x : Ds) (hok : ChOk x.ch) (hdo : dsOk x = true) (H0 A0 : AH) (d t s r a b e : Value) (h : DsIn H0 x d t s r) (ha : OneS a) (hb : OneS b) (he : OneS e) (hA0 : Aft H0 A0) {k lb : Nat} (hlb0 : H0.length ≤ lb) (hlb : A0[lb]? = some (.rw 1 (u64s (partD x k 0 x.ch.cells 0)))) (S : St) (hlim : S.lim ≤ H0.length)
    (h1 : tget S.t 1 = .int .i64 k) (h2 : tget S.t 2 = .pointer (some ⟨2, 0, some 0⟩)) (h5 : tget S.t 5 = .slice (some ⟨lb, 0, none⟩) x.ch.cells x.ch.cells) (h17 : tget S.t 17 = r) (h18 : tget S.t 18 = .int .i64 x.reps.length) (h19 : tget S.t 19 = .int .i64 0)
    (hL2 : lget S.L 2 = some (0, .cells [.int .i64 x.ch.w, .int .i64 x.ch.h, d, t, s, .int .i64 x.g, .int .i64 x.pace, r, a, b, e])) (hH : S.H = A0) :
    ∃ q, exL Tryz.prog pf (.loop deLoop0) S = some q ∧ q.1 = .exit 0 ∧ Aft H0 q.2.H ∧ q.2.H[lb]? = some (.rw 1 (u64s (partD x k x.reps.length x.ch.cells 0))) ∧ tget q.2.t 5 = tget S.t 5 := by
  have hd12 : x.reps.length ≤ 12 ∧ ∀ q ∈ x.reps, repOk x.cells x.ticks q = true := by
    unfold dsOk at hdo
    simp only [Bool.and_eq_true, decide_eq_true_eq, List.all_eq_true] at hdo
    exact ⟨hdo.1.2, hdo.2⟩
  refine loop_rule (I := fun m s' => ∃ j, j ≤ x.reps.length ∧ m = x.reps.length - j ∧ tget s'.t 19 = .int .i64 j ∧ tget s'.t 18 = .int .i64 x.reps.length ∧ tget s'.t 17 = r ∧ lget s'.L 2 = lget S.L 2 ∧ s'.lim = S.lim ∧ Aft H0 s'.H ∧ s'.H[lb]? = some (.rw 1 (u64s (partD x k j x.ch.cells 0))) ∧ tget s'.t 1 = tget S.t 1 ∧ tget s'.t 2 = tget S.t 2 ∧ tget s'.t 5 = tget S.t 5) ?_ x.reps.length S
    ⟨0, by omega, by omega, h19, h18, h17, rfl, rfl, by rw [hH]; exact hA0, by rw [hH]; exact hlb, rfl, rfl, rfl⟩
  rintro m s' ⟨j, hj, rfl, e19, e18, e17, eL, el, eA, eB, e1, e2, e5⟩
  obtain ⟨B, hB⟩ : ∃ B, s'.H = B := ⟨_, rfl⟩
  rw [hB] at eA eB
  rw [h1] at e1
  rw [h2] at e2
  rw [h5] at e5
  rw [hL2] at eL
  have hv := h.r.ext eA.ext
  have h0 := h
  have ha0 := ha
  have hb0 := hb
  have he0 := he
  obtain ⟨⟨⟨da, dc, ed, _⟩, ⟨ta, tc, et, _⟩, ⟨sa, sc, es, _⟩, _, htl, _⟩, ⟨ra, rc, er, _⟩, _⟩ := h
  obtain ⟨a1, a2, a3, ea⟩ := ha
  obtain ⟨b1, b2, b3, eb⟩ := hb
  obtain ⟨e1', e2', e3', ee⟩ := he
  have eL0 := eL
  rw [ed, et, es, er, ea, eb, ee] at eL
  by_cases hlt : j < x.reps.length
  rotate_left
  · have : j = x.reps.length := by omega
    subst this
    rw [er] at e17
    simp [deLoop0, SC.loops, sf_fixes_search_denied, e1, e2, e5, e17, e18, e19, eL, el, hB, h5]
    exact ⟨eA, eB⟩
  have hw1 : IntKind.i64.wrap ((j : Int) + 1) = (j : Int) + 1 := wrap_i64 (by omega) (by omega)
  obtain ⟨rb, ro, rc', erc, c0, c1, c2, c3', c4, c5, c6, c7, c8⟩ := rep_cells hv hlt
  rw [erc] at e17
  have hvals : x.reps[j].vals = [.int .i64 x.reps[j].tick, .int .i64 x.reps[j].kind, .int .i64 x.reps[j].cell, .int .i64 x.reps[j].a, .int .i64 x.reps[j].b, .int .i64 x.reps[j].c, .int .i64 x.reps[j].d, .bool x.reps[j].sure, .int .i64 x.reps[j].w] := rfl
  have hin := de_inner x hok hdo H0 B d t s r a b e h0 ha0 hb0 he0 eA hlt hlb0 eB
  generalize hq : x.reps[j] = q at *
  simp only [hcell] at c0 c1 c2 c3' c4 c5 c6 c7 c8
  simp [deLoop0, SC.loops, sf_fixes_search_denied, e1, e2, e5, e17, e18, e19, eL, el, hB, hlt, c0, c1, c2, c3', c4, c5, c6, c7, c8]
  generalize hS2 : ({ t := _, L := _, H := _, lim := _, rd := _ } : St) = S2
  obtain ⟨⟨e, s2⟩, hr, z1, z2, z3, z4, z5, z6, z7, z8, z9, z10, z11⟩ := hin (nextG s'.L 7) S2 (by subst hS2; simp [el]; exact hlim) (by subst hS2; simp [e1]) (by subst hS2; simp [e2]) (by subst hS2; simp [e5]) (by subst hS2; simp) (by subst hS2; simp) (by subst hS2; simp) (by subst hS2; simp) (by subst hS2; simp [eL, ed, et, es, er, ea, eb, ee]) (by subst hS2; simp [hvals]) (by subst hS2; simp)
  simp [deLoop1, SC.loops, sf_fixes_search_denied] at hr
  rw [hr]
  simp only at z1 z2 z3 z4 z5 z6 z7 z8 z9 z10 z11
  have y19 : tget S2.t 19 = .int .i64 j := by subst hS2; simp [e19]
  have y18 : tget S2.t 18 = .int .i64 x.reps.length := by subst hS2; simp [e18]
  have y17 : tget S2.t 17 = r := by subst hS2; simp [e17, erc]
  have y1 : tget S2.t 1 = .int .i64 k := by subst hS2; simp [e1]
  have y2 : tget S2.t 2 = .pointer (some ⟨2, 0, some 0⟩) := by subst hS2; simp [e2]
  have y5 : tget S2.t 5 = .slice (some ⟨lb, 0, none⟩) x.ch.cells x.ch.cells := by subst hS2; simp [e5]
  have yL : lget S2.L 2 = lget s'.L 2 := by subst hS2; simp
  have yl : S2.lim = S.lim := by subst hS2; simp [el]
  subst z1
  simp [and_assoc, z2, z3, z4, z6, z7, z8, z9, z10, z11, y19, y18, y17, y1, y2, y5, yL, yl, hw1, eL0, hL2]
  exact ⟨_, by omega, j + 1, by omega, rfl, by omega, z5, h1.symm, h2.symm, h5.symm⟩
theorem run_denied (x : Ds) (hok : ChOk x.ch) (hdo : dsOk x = true) (lim : Nat) (H : AH) (d t s r a b e : Value) (h : DsIn H x d t s r) (ha : OneS a) (hb : OneS b) (he : OneS e) (k : Nat) :
    ∃ A lb, apL Tryz.prog pf (.func (.func 85) #[] #[]) [srV x d t s r a b e, .int .i64 k] lim H = some (.slice (some ⟨lb, 0, none⟩) x.ch.cells x.ch.cells, A) ∧ Aft H A ∧ H.length ≤ lb ∧ A[lb]? = some (.rw 1 (u64s ((List.range x.ch.cells).map fun i => denyM x k i x.reps.length))) := by
  rw [apL_func _ _ _ _ _ _ (by rfl), sf_fixes_search_denied_eq]
  have h0 := h
  have ha0 := ha
  have hb0 := hb
  have he0 := he
  obtain ⟨m0, m1, m2⟩ := hok.mul
  obtain ⟨⟨⟨da, dc, ed, _⟩, ⟨ta, tc, et, _⟩, ⟨sa, sc, es, _⟩, _, htl, _⟩, ⟨ra, rc, er, _⟩, _⟩ := h
  obtain ⟨a1, a2, a3, ea⟩ := ha
  obtain ⟨b1, b2, b3, eb⟩ := hb
  obtain ⟨e1, e2, e3, ee⟩ := he
  have hmx : x.ch.cells ≤ maxA := Nat.le_trans (show x.ch.cells ≤ 144 by omega) (by decide)
  have hdl : x.ch.depth.length = x.ch.cells := rfl
  have hz : ∀ n, zeros [.int .u64 0] n = u64s (List.replicate n 0) := by
    intro n
    induction n with
    | zero => rfl
    | succ n ih => simp only [zeros, ih, List.replicate_succ, u64s, List.map_cons]; rfl
  have hf0 : List.replicate x.ch.cells 0 = partD x k 0 x.ch.cells 0 := by
    unfold partD
    simp only [List.range_zero, List.map_nil, List.nil_append, Nat.sub_zero, denyM, setM, List.filter_nil, List.foldl_nil, Nat.zero_add]
    induction x.ch.cells with
    | zero => rfl
    | succ n ih => rw [List.replicate_succ', ih, List.range_succ, List.map_append]; rfl
  simp [sf_fixes_search_denied, srV, ed, et, es, er, ea, eb, ee, hdl, hmx, hz, hf0, pf_pure, pureF]
  generalize hS : ({ t := _, L := _, H := _, lim := _, rd := _ } : St) = S
  obtain ⟨⟨q, s1⟩, hr, q1, q2, q3, q4⟩ := de_outer x hok hdo H (H ++ [.rw 1 (u64s (partD x k 0 x.ch.cells 0))]) d t s r a b e h0 ha0 hb0 he0 ((Aft.refl H).push _) (Nat.le_refl _) (by rw [List.getElem?_append_right (Nat.le_refl _), Nat.sub_self]; rfl) S (by subst hS; simp) (by subst hS; simp) (by subst hS; simp) (by subst hS; simp) (by subst hS; simp [er]) (by subst hS; simp) (by subst hS; simp) (by subst hS; simp [ed, et, es, er, ea, eb, ee, hdl]) (by subst hS; rfl)
  simp [deLoop0, SC.loops, sf_fixes_search_denied] at hr
  rw [hr]
  simp only at q1 q2 q3 q4
  subst q1
  have y5 : tget S.t 5 = .slice (some ⟨H.length, 0, none⟩) x.ch.cells x.ch.cells := by subst hS; simp
  rw [y5] at q4
  have hend : partD x k x.reps.length x.ch.cells 0 = (List.range x.ch.cells).map fun i => denyM x k i x.reps.length := by simp [partD]
  rw [hend] at q3
  simp [q4]
  exact ⟨_, _, ⟨rfl, rfl⟩, q2, Nat.le_refl _, q3⟩
end Go.Proofs.YtmdnpaboaelkeaaGreatDoor
namespace Go.Proofs.YtmdnpaboaelkeaaGreatDoor
open Go Go.RowKit
theorem split64 {P : Nat → Prop} (h : ∀ a, a < 64 → ∀ b, b < 64 → P (64 * a + b)) (n : Nat) (hn : n < 4096) : P n := by
  have := h (n / 64) (by omega) (n % 64) (by omega)
  rwa [show 64 * (n / 64) + n % 64 = n by omega] at this
def bitsN (n : Nat) : Nat → Nat
  | 0 => 0
  | k + 1 => bitsN n k + (n / 2 ^ k) % 2
theorem run_OnesCount64 (n : Nat) (hn : n < 4096) (lim : Nat) (H : AH) : apL Tryz.prog pf (.func (.func 141) #[] #[]) [.int .u64 n] lim H = some (.int .i64 (bitsN n 12 : Nat), H) := by
  obtain ⟨v, hv, hr⟩ : ∃ v : Int, v = (bitsN n 12 : Nat) ∧ apL Tryz.prog pf (.func (.func 141) #[] #[]) [.int .u64 n] lim H = some (.int .i64 v, H) := by
    refine ⟨?v, ?p, ?r⟩
    case r =>
      rw [apL_func _ _ _ _ _ _ (by rfl), sf_math_bits_OnesCount64_eq]
      simp [sf_math_bits_OnesCount64, pf_pure, pureF]
      rfl
    case p =>
      clear H lim
      revert hn
      revert n
      refine split64 ?_
      decide +kernel
  rw [hr, hv]
theorem bitsN_le (n : Nat) : ∀ k, bitsN n k ≤ k
  | 0 => Nat.le_refl _
  | k + 1 => by have := bitsN_le n k; unfold bitsN; omega
theorem run_OnesCount {n : Nat} (hn : n < 4096) (lim : Nat) (H : AH) : apL Tryz.prog pf (.func (.func 117) #[] #[]) [.int .u64 n] lim H = some (.int .i64 (bitsN n 12 : Nat), H) := by
  rw [apL_func _ _ _ _ _ _ (by rfl), sf_math_bits_OnesCount_eq]
  have h := fun lim => run_OnesCount64 n hn lim H
  simp [sf_math_bits_OnesCount, h, pf_pure, pureF]
theorem run_size {n : Nat} (hn : n < 4096) (lim : Nat) (H : AH) : apL Tryz.prog pf (.func (.func 91) #[] #[]) [.int .u64 n] lim H = some (.int .i64 (bitsN n 12 : Nat), H) := by
  rw [apL_func _ _ _ _ _ _ (by rfl), sf_fixes_set_size_eq]
  have h := fun lim => run_OnesCount hn lim H
  simp [sf_fixes_set_size, h, pf_pure, pureF]
def lowN (n : Nat) : Nat → Nat
  | 0 => 0
  | k + 1 => if n % 2 = 1 then 0 else lowN (n / 2) k + 1
theorem lowN_le : ∀ (k n : Nat), lowN n k ≤ k
  | 0, n => Nat.le_refl _
  | k + 1, n => by have := lowN_le k (n / 2); unfold lowN; split <;> omega
def tzI (M : Int) (n : Nat) : Int := (IntKind.u64.wrap (IntKind.u64.wrap ((n % 2 ^ IntKind.u64.bits &&& (IntKind.u64.wrap (-(n : Int)) % 2 ^ IntKind.u64.bits).toNat : Nat) : Int) * M)).fdiv (2 ^ min 58 IntKind.u64.bits)
theorem tzI_def (M : Int) (n : Nat) : (IntKind.u64.wrap (IntKind.u64.wrap ((n % 2 ^ IntKind.u64.bits &&& (IntKind.u64.wrap (-(n : Int)) % 2 ^ IntKind.u64.bits).toNat : Nat) : Int) * M)).fdiv (2 ^ min 58 IntKind.u64.bits) = tzI M n := rfl
theorem tzI_eq (n : Nat) (hn : n < 4096) (hn0 : ¬ n = 0) : 0 ≤ tzI 285870213051353865 n ∧ tzI 285870213051353865 n < 64 ∧ bitsV[(tzI 285870213051353865 n).toNat]? = some (.int .u8 (lowN n 12 : Nat)) := by
  have h1 : n ≠ 0 → (0 ≤ tzI 285870213051353865 n ∧ tzI 285870213051353865 n < 64 ∧ (bitsV[(tzI 285870213051353865 n).toNat]?.map fun v => match v with | .int .u8 m => decide (m = (lowN n 12 : Nat)) | _ => false) = some true) := by
    clear hn0
    revert hn
    revert n
    refine split64 ?_
    decide +kernel
  obtain ⟨a, b, c⟩ := h1 hn0
  refine ⟨a, b, ?_⟩
  cases hb : bitsV[(tzI 285870213051353865 n).toNat]? with
  | none => rw [hb] at c; cases c
  | some v =>
    rw [hb] at c
    simp only [Option.map_some, Option.some.injEq] at c
    split at c
    · rw [of_decide_eq_true c]
    · cases c
theorem run_TZ {n : Nat} (hn : n < 4096) (hn0 : ¬ n = 0) (lim : Nat) (H : AH) (hG : H[bitsG]? = some (.ro bitsV)) : apL Tryz.prog pf (.func (.func 145) #[] #[]) [.int .u64 n] lim H = some (.int .i64 (lowN n 12 : Nat), H) := by
  have h0 : ((n : Int) == 0) = false := by simpa using hn0
  obtain ⟨i0, i1, i2⟩ := tzI_eq n hn hn0
  have hi01 := And.intro i0 i1
  rw [apL_func _ _ _ _ _ _ (by rfl), sf_math_bits_TrailingZeros64_eq]
  have hw : IntKind.i64.wrap ((lowN n 12 : Nat) : Int) = (lowN n 12 : Nat) := wrap_i64 (by omega) (by have := lowN_le 12 n; omega)
  have hg : bitsG = 1 := rfl
  rw [hg] at hG
  simp only [sf_math_bits_TrailingZeros64]
  generalize bitsV = V at *
  obtain ⟨M, hM⟩ : ∃ M : Int, M = 285870213051353865 := ⟨_, rfl⟩
  rw [← hM] at hi01 i2 ⊢
  simp [pf_pure, pureF, h0, hG, tzI_def, hi01, i2, hw]
theorem run_TZ0 {n : Nat} (hn : n < 4096) (hn0 : ¬ n = 0) (lim : Nat) (H : AH) (hG : H[bitsG]? = some (.ro bitsV)) : apL Tryz.prog pf (.func (.func 125) #[] #[]) [.int .u64 n] lim H = some (.int .i64 (lowN n 12 : Nat), H) := by
  rw [apL_func _ _ _ _ _ _ (by rfl), sf_math_bits_TrailingZeros_eq]
  have h := fun lim => run_TZ hn hn0 lim H hG
  simp [sf_math_bits_TrailingZeros, h, pf_pure, pureF]
end Go.Proofs.YtmdnpaboaelkeaaGreatDoor
namespace Go.Proofs.YtmdnpaboaelkeaaGreatDoor
open Go Go.RowKit
def RowA (n0 : Nat) (A : AH) (v : Value) (l : List Int) : Prop := ∃ b k, n0 ≤ b ∧ v = .slice (some ⟨b, 0, none⟩) l.length k ∧ A[b]? = some (.rw 1 (ints l))
theorem RowA.nl {n0 : Nat} {A : AH} {v : Value} {l : List Int} (h : RowA n0 A v l) : nl v = true := by
  obtain ⟨b, k, _, rfl, hb⟩ := h
  simp
theorem nlL_of : ∀ (l : List Value), (∀ v ∈ l, nl v = true) → nlL l = true := by
  intro l
  induction l with
  | nil => intro _; rfl
  | cons v l ih => intro h; unfold nlL; rw [h v (by simp), ih fun w hw => h w (by simp [hw])]; rfl
def nearI (x : Ds) (i : Nat) : List Int := (upto (hops x i) x.ch.cells).map fun (j : Nat) => (j : Int)
theorem apt_self (w a : Int) : apt w a a = 0 := by
  have := apt_tri w a a a
  have h2 := apt_nonneg w a a
  unfold apt dst at *
  omega
theorem hops_self {x : Ds} (hdo : dsOk x = true) (i : Nat) : hops x i i = true := by
  unfold dsOk at hdo
  simp only [Bool.and_eq_true, decide_eq_true_eq] at hdo
  unfold hops
  rw [apt_self]
  simp
  omega
theorem hops_symm (x : Ds) (i k : Nat) : hops x i k = hops x k i := by unfold hops; rw [apt_symm]
theorem near_those {x : Ds} (hok : ChOk x.ch) {i : Nat} (hi : i < x.ch.cells) : thoseN (fun n => decide (apartN x.ch i n ≤ x.pace)) x.cells = nearI x i := by
  unfold thoseN nearI upto
  congr 1
  refine List.filter_congr fun j hj => ?_
  show decide (apartN x.ch i j ≤ x.pace) = hops x i j
  rw [(apartN_ok hok hi (List.mem_range.1 hj)).2]
  rfl
theorem nearI_ne {x : Ds} (hdo : dsOk x = true) {i : Nat} (hi : i < x.ch.cells) : nearI x i ≠ [] := by
  have h0 := upto_pos hi (hops_self hdo i)
  unfold nearI
  intro e
  rw [List.map_eq_nil_iff] at e
  rw [e] at h0
  simp at h0
def RowsC (n0 : Nat) (A : AH) (cs : List Value) (l : Nat → List Int) : Prop := ∀ j (h : j < cs.length), RowA n0 A cs[j] (l j)
theorem RowsC.nl {n0 : Nat} {A : AH} {cs : List Value} {l : Nat → List Int} (h : RowsC n0 A cs l) : nlL cs = true :=
  nlL_of cs fun v hv => by obtain ⟨j, hj, rfl⟩ := List.mem_iff_getElem.1 hv; exact (h j hj).nl
theorem RowsC.keep {n0 : Nat} {A F : AH} {cs : List Value} {l : Nat → List Int} (h : RowsC n0 A cs l) (hF : ∀ j, j < cs.length → ∀ b, n0 ≤ b → A[b]? = some (.rw 1 (ints (l j))) → F[b]? = A[b]?) : RowsC n0 F cs l := fun j hj => by
  obtain ⟨b, k, h1, h2, h3⟩ := h j hj
  exact ⟨b, k, h1, h2, by rw [hF j hj b h1 h3, h3]⟩
theorem RowsC.snoc {n0 : Nat} {A : AH} {cs : List Value} {l : Nat → List Int} {v : Value} (h : RowsC n0 A cs l) (hv : RowA n0 A v (l cs.length)) : RowsC n0 A (cs ++ [v]) l := fun j hj => by
  by_cases hjc : j < cs.length
  · rw [List.getElem_append_left hjc]; exact h j hjc
  · have : j = cs.length := by simp at hj; omega
    subst this
    rw [List.getElem_append_right (Nat.le_refl _)]
    simpa using hv
theorem RowsC.other {n0 : Nat} {A : AH} {cs : List Value} {l : Nat → List Int} (h : RowsC n0 A cs l) {b j : Nat} (hj : j < cs.length) (hb : A[b]? = some (.rw 1 cs)) (w : List Int) (hw : A[b]? = some (.rw 1 (ints w))) : False := by
  rw [hb] at hw
  simp only [Option.some.injEq, ABlk.rw.injEq, true_and] at hw
  obtain ⟨_, _, _, e, _⟩ := h j hj
  have h4 : cs[j]? = (ints w)[j]? := by rw [← hw]
  rw [List.getElem?_eq_getElem hj, e] at h4
  simp only [ints, List.getElem?_map] at h4
  cases h5 : w[j]? <;> rw [h5] at h4 <;> cases h4
def opDraw0 : SC := match sf_fixes_open.body.loops.headD .skip with | .seq _ (.seq _ (.seq (.block _ (.seq _ (.pre _ d))) _)) => d | _ => .skip
def dV (x : Ds) (d t s r : Value) : List Value := [.int .i64 x.ch.w, .int .i64 x.ch.h, d, t, s, .int .i64 x.g, .int .i64 x.pace, r]
def sV (x : Ds) (d t s r a b e : Value) : List Value := [.int .i64 x.ch.w, .int .i64 x.ch.h, d, t, s, .int .i64 x.g, .int .i64 x.pace, r, a, b, e]
theorem OwnV.one {n0 : Nat} {A : AH} {v : Value} {cs : List Value} (h : OwnV n0 A v cs) : OneS v := by
  rcases h with ⟨_, rfl⟩ | ⟨_, b, _, rfl, _⟩
  · exact oneS_nil
  · exact ⟨_, _, _, rfl⟩
set_option maxHeartbeats 1000000 in
theorem op_draw0 (x : Ds) (hok : ChOk x.ch) (hdo : dsOk x = true) (H0 : AH) (d t s r av : Value) (h : DsIn H0 x d t s r) {i b9 b10 b3 : Nat} (hi : i < x.ch.cells) (cs : List Value) (hcs : cs.length = i) (S : St) (hlim : S.lim ≤ H0.length) (hA : Aft H0 S.H) (hb9 : H0.length ≤ b9)
    (h9 : tget S.t 9 = .pointer (some ⟨b9, 0, none⟩)) (h10 : tget S.t 10 = .pointer (some ⟨b10, 0, none⟩)) (h3 : tget S.t 3 = .pointer (some ⟨b3, 0, none⟩))
    (hB9 : S.H[b9]? = some (.rw 0 (sV x d t s r av nilS nilS))) (hB10 : S.H[b10]? = some (.rw 0 [.int .i64 i])) (hB3 : S.H[b3]? = some (.rw 0 (dV x d t s r)))
    (hO : OwnV H0.length S.H av cs) (hR : RowsC H0.length S.H cs (nearI x)) :
    ∃ S' av' v, exL Tryz.prog pf opDraw0 S = some (.normal, S') ∧ S'.L = S.L ∧ S'.lim = S.lim ∧ Aft H0 S'.H ∧ S'.H[b9]? = some (.rw 0 (sV x d t s r av' nilS nilS)) ∧ S'.H[b3]? = some (.rw 0 (dV x d t s r)) ∧ OwnV H0.length S'.H av' (cs ++ [v]) ∧ RowsC H0.length S'.H (cs ++ [v]) (nearI x) ∧
      tget S'.t 3 = tget S.t 3 ∧ tget S'.t 6 = tget S.t 6 ∧ tget S'.t 9 = tget S.t 9 ∧ tget S'.t 36 = tget S.t 36 ∧ tget S'.t 37 = tget S.t 37 := by
  obtain ⟨A, hAA⟩ : ∃ A, S.H = A := ⟨_, rfl⟩
  rw [hAA] at hA hB9 hB10 hB3 hO hR
  obtain ⟨m0, m1, m2⟩ := hok.mul
  have hP := isP_near x A d t s r av nilS nilS (h.ext hA.ext) hO.one oneS_nil oneS_nil i b9 b10 b3 hB9 hB10 hB3
  obtain ⟨v, A1, hce, hA1, hv⟩ := run_cells x (by show x.ch.cells ≤ 1000; omega) _ A.length A d t s r av nilS nilS _ (h.ext hA.ext) hO.one oneS_nil oneS_nil (hP.n _)
  rw [near_those hok hi] at hv
  have hne := nearI_ne hdo hi
  obtain ⟨bv, hbv, rfl, hBv⟩ : ∃ bv, A.length ≤ bv ∧ v = .slice (some ⟨bv, 0, none⟩) (nearI x i).length ((nearI x i).length + 1) ∧ A1[bv]? = some (.rw 1 (ints (nearI x i))) := by
    rcases hv with ⟨e, _⟩ | ⟨_, b, h1, h2, h3⟩
    · exact absurd e hne
    · exact ⟨b, h1, h2, h3⟩
  obtain ⟨⟨⟨da, dc, ed, _⟩, ⟨ta, tc, et, _⟩, ⟨sa, sc, es, _⟩, _, htl, _⟩, ⟨ra, rc, er, _⟩, _⟩ := h
  obtain ⟨J, rfl⟩ := hA1
  have hB9' : ∀ y : AH, (A ++ y)[b9]? = some (.rw 0 (sV x d t s r av nilS nilS)) := fun y => own_get hB9 y
  have hB9'' : (A ++ J)[b9]? = some (.rw 0 (sV x d t s r av nilS nilS)) := own_get hB9 J
  have hB3'' : (A ++ J)[b3]? = some (.rw 0 (dV x d t s r)) := own_get hB3 J
  have hB3' : ∀ y : AH, (A ++ y)[b3]? = some (.rw 0 (dV x d t s r)) := fun y => own_get hB3 y
  have hm1 : 1 ≤ maxA := by decide
  have hbv9 : bv ≠ b9 := by
    rintro rfl
    rw [hB9''] at hBv
    cases hBv
  have h39 : b3 ≠ b9 := by
    rintro rfl
    rw [hB9] at hB3
    simp [dV, sV] at hB3
  have hSl : S.lim ≤ b9 := by omega
  have hbvl : bv < (A ++ J).length := (List.getElem?_eq_some_iff.1 hBv).1
  have hb9l : b9 < A.length := (List.getElem?_eq_some_iff.1 hB9).1
  have hb3l : b3 < A.length := (List.getElem?_eq_some_iff.1 hB3).1
  have hn9 : ∀ (y : List Int) (b : Nat), A[b]? = some (.rw 1 (ints y)) → b ≠ b9 := by
    rintro y b hb rfl
    rw [hB9] at hb
    cases hb
  simp only [sV, dV, nearF, srV, nilS, ed, et, es, er] at hce hB9 hB9' hB10 hB3
  rcases hO with ⟨rfl, eav⟩ | ⟨hc0, b, hb, eav, hbA⟩
  · rw [eav] at hce hB9 hB9'
    simp [-oneC, oneC_slice, opDraw0, SC.loops, sf_fixes_open, h9, h10, h3, hAA, hB9, hB9', hB10, hB3, hce, hm1, hSl]
    have hi0 : i = 0 := by simpa using hcs.symm
    refine ⟨(hA.push _).set hb9 _, .slice (some ⟨A.length + (J.length + 1), 0, none⟩) 1 2, ?_, ?_, .slice (some ⟨bv, 0, none⟩) (nearI x i).length ((nearI x i).length + 1), ?_, ?_⟩
    · rw [List.getElem?_set_self (by simp; omega)]
      simp [sV, nilS, ed, et, es, er]
    · rw [List.getElem?_set_ne (Ne.symm h39)]
      exact (hB3' _).trans (by simp [dV, ed, et, es, er])
    · refine .inr ⟨by simp, _, ?_, rfl, ?_⟩
      · have := hA.le; omega
      · rw [List.getElem?_set_ne (by omega), List.getElem?_append_right (by omega), List.getElem?_append_right (by omega)]
        simp
    · refine RowsC.snoc (cs := []) (fun j hj => by simp at hj) ⟨bv, (nearI x i).length + 1, by have := hA.le; omega, by simp [hi0], ?_⟩
      rw [List.getElem?_set_ne (Ne.symm hbv9), ← List.append_assoc, own_get hBv]
      simp [hi0]
  · rw [eav, hcs] at hce hB9 hB9'
    have hbl : b < A.length := (List.getElem?_eq_some_iff.1 hbA).1
    have hl0 : ¬ cs.length = 0 := by simpa using hc0
    have hl0' : ¬ i = 0 := by omega
    have hmx : i + 1 ≤ maxA := Nat.le_trans (show i + 1 ≤ 2000 by omega) (by decide)
    have hcn : nlL cs = true := hR.nl
    have hcA := fun L x => own_cells hbA L x
    have hbX := fun x => own_get hbA x
    have hsX := fun x y => own_set hbA x y
    have hlb : S.lim ≤ b := by omega
    have hb99 : b ≠ b9 := by
      rintro rfl
      rw [hbA] at hB9
      cases hB9
    have hb33 : b ≠ b3 := by
      rintro rfl
      rw [hbA] at hB3
      cases hB3
    have hB9s : ∀ y : AH, (A.set b .dead ++ y)[b9]? = A[b9]? := fun y => by rw [List.getElem?_append_left (by simpa using hb9l), List.getElem?_set_ne hb99]
    rw [hB9] at hB9s
    rw [hcs] at hcA
    simp [-oneC, oneC_slice, opDraw0, SC.loops, sf_fixes_open, h9, h10, h3, hAA, hB9, hB9', hB10, hB3, hce, hm1, hSl, hcs, hl0', hmx, hcn, hcA, hbX, hsX, hlb, hB9s]
    refine ⟨(((hA.set hb _).push _).set hb9 _), .slice (some ⟨A.length + (J.length + 1), 0, none⟩) (i + 1) (i + 1 + 1), ?_, ?_, .slice (some ⟨bv, 0, none⟩) (nearI x i).length ((nearI x i).length + 1), ?_, ?_⟩
    · rw [List.getElem?_set_self (by simp; omega)]
      simp [sV, nilS, ed, et, es, er]
    · rw [List.getElem?_set_ne (Ne.symm h39), List.getElem?_append_left (by simpa using hb3l), List.getElem?_set_ne hb33, hB3]
      simp [dV, ed, et, es, er]
    · refine .inr ⟨by simp, A.length + (J.length + 1), ?_, by simp [hcs], ?_⟩
      · have := hA.le; omega
      · rw [List.getElem?_set_ne (by omega), List.getElem?_append_right (by simp), List.getElem?_append_right (by simp)]
        simp
    · have hbvb : bv ≠ b := by
        have : A.length ≤ bv := hbv
        omega
      refine RowsC.snoc (RowsC.keep hR fun j hj b' h0 h' => ?_) ⟨bv, _, by have := hA.le; omega, by rw [hcs], ?_⟩
      · have hb'l : b' < A.length := (List.getElem?_eq_some_iff.1 h').1
        have h1 : b' ≠ b := by
          rintro rfl
          exact hR.other hj hbA _ h'
        rw [List.getElem?_set_ne (Ne.symm (hn9 _ _ h')), List.getElem?_append_left (by simpa using hb'l), List.getElem?_set_ne (Ne.symm h1)]
      · rw [List.getElem?_set_ne (Ne.symm hbv9)]
        have e : A.set b ABlk.dead ++ (J ++ [ABlk.rw 1 [Value.slice (some ⟨bv, 0, none⟩) (nearI x i).length ((nearI x i).length + 1)], ABlk.rw 1 (cs ++ [Value.slice (some ⟨bv, 0, none⟩) (nearI x i).length ((nearI x i).length + 1)])]) = (A ++ J).set b .dead ++ [ABlk.rw 1 [Value.slice (some ⟨bv, 0, none⟩) (nearI x i).length ((nearI x i).length + 1)], ABlk.rw 1 (cs ++ [Value.slice (some ⟨bv, 0, none⟩) (nearI x i).length ((nearI x i).length + 1)])] := by
          rw [List.set_append_left _ _ hbl, List.append_assoc]
        rw [e, List.getElem?_append_left (by simpa using hbvl), List.getElem?_set_ne (Ne.symm hbvb), hBv, hcs]
end Go.Proofs.YtmdnpaboaelkeaaGreatDoor
namespace Go.Proofs.YtmdnpaboaelkeaaGreatDoor
open Go Go.RowKit
theorem ChOk.pos {c : Ch} (hok : ChOk c) : 0 < c.cells ∧ c.cells ≤ 144 := by
  obtain ⟨m0, m1, m2⟩ := hok.mul
  have h : 0 < c.w * c.h := Int.mul_pos (by have := hok.1.1; omega) (by have := hok.2.1.1; omega)
  omega
def opLoop0 : SC := sf_fixes_open.body.loops.headD .skip
theorem opLoop0_eq : opLoop0 = .seq (.ops [⟨some 38, none, .bin .lss (.tmp 37) (.tmp 36)⟩]) (.seq (.cond (.tmp 38) .skip (.exit 0)) (.seq (.block 1 (.seq (.ops [⟨some 39, none, .mv (.tmp 37)⟩, ⟨some 10, none, .box (.const (.int .i64 0))⟩, ⟨none, none, .st 1 (.tmp 10) (.tmp 39)⟩]) (.pre [9, 10, 3] opDraw0))) (.ops [⟨some 48, none, .bin .add (.tmp 37) (.const (.int .i64 1))⟩, ⟨some 37, none, .mv (.tmp 48)⟩]))) := rfl
set_option maxHeartbeats 1000000 in
theorem op_loop0 (x : Ds) (hok : ChOk x.ch) (hdo : dsOk x = true) (H0 : AH) (d t s r : Value) (h : DsIn H0 x d t s r) (S : St) (hlim : S.lim ≤ H0.length)
    (h3 : tget S.t 3 = .pointer (some ⟨3, 0, some 0⟩)) (h9 : tget S.t 9 = .pointer (some ⟨9, 0, some 0⟩)) (h36 : tget S.t 36 = .int .i64 x.ch.cells) (h37 : tget S.t 37 = .int .i64 0)
    (hL3 : lget S.L 3 = some (0, .cells (dV x d t s r))) (hL9 : lget S.L 9 = some (0, .cells (sV x d t s r nilS nilS nilS))) (hH : S.H = H0) :
    ∃ q, exL Tryz.prog pf (.loop opLoop0) S = some q ∧ q.1 = .exit 0 ∧ Aft H0 q.2.H ∧ q.2.lim = S.lim ∧ tget q.2.t 6 = tget S.t 6 ∧ lget q.2.L 6 = lget S.L 6 ∧ ∃ b9 b3 av cs, H0.length ≤ b9 ∧ tget q.2.t 9 = .pointer (some ⟨b9, 0, none⟩) ∧ tget q.2.t 3 = .pointer (some ⟨b3, 0, none⟩) ∧ q.2.H[b9]? = some (.rw 0 (sV x d t s r av nilS nilS)) ∧ q.2.H[b3]? = some (.rw 0 (dV x d t s r)) ∧ cs.length = x.ch.cells ∧ OwnV H0.length q.2.H av cs ∧ RowsC H0.length q.2.H cs (nearI x) := by
  obtain ⟨m0, m1, m2⟩ := hok.mul
  have hpos := hok.pos.1
  refine loop_rule (I := fun m s' => ∃ i, i ≤ x.ch.cells ∧ m = x.ch.cells - i ∧ tget s'.t 37 = .int .i64 i ∧ tget s'.t 36 = .int .i64 x.ch.cells ∧ s'.lim = S.lim ∧ tget s'.t 6 = tget S.t 6 ∧ lget s'.L 6 = lget S.L 6 ∧ Aft H0 s'.H ∧
      ((i = 0 ∧ s'.H = H0 ∧ tget s'.t 3 = .pointer (some ⟨3, 0, some 0⟩) ∧ tget s'.t 9 = .pointer (some ⟨9, 0, some 0⟩) ∧ lget s'.L 3 = some (0, .cells (dV x d t s r)) ∧ lget s'.L 9 = some (0, .cells (sV x d t s r nilS nilS nilS))) ∨
       ∃ b9 b3 av cs, H0.length ≤ b9 ∧ tget s'.t 9 = .pointer (some ⟨b9, 0, none⟩) ∧ tget s'.t 3 = .pointer (some ⟨b3, 0, none⟩) ∧ s'.H[b9]? = some (.rw 0 (sV x d t s r av nilS nilS)) ∧ s'.H[b3]? = some (.rw 0 (dV x d t s r)) ∧ cs.length = i ∧ OwnV H0.length s'.H av cs ∧ RowsC H0.length s'.H cs (nearI x))) ?_ x.ch.cells S
    ⟨0, by omega, by omega, h37, h36, rfl, rfl, rfl, by rw [hH]; exact Aft.refl H0, .inl ⟨rfl, hH, h3, h9, hL3, hL9⟩⟩
  rintro m s' ⟨i, hi, rfl, e37, e36, el, e6, eL6, eA, hcase⟩
  obtain ⟨A, hA⟩ : ∃ A, s'.H = A := ⟨_, rfl⟩
  rw [hA] at eA hcase
  by_cases hlt : i < x.ch.cells
  rotate_left
  · have : i = x.ch.cells := by omega
    subst this
    rcases hcase with ⟨h0, _⟩ | hcase
    · omega
    simp [opLoop0, SC.loops, sf_fixes_open, e36, e37, hA]
    obtain ⟨b9, b3, av, cs, c1, c2, c3, c4, c5, c6, c7, c8⟩ := hcase
    exact ⟨eA, el, e6, eL6, b9, c1, c2, b3, c3, av, c4, c5, cs, c6, c7, c8⟩
  have hw : IntKind.i64.wrap ((i : Int) + 1) = (i : Int) + 1 := wrap_i64 (by omega) (by omega)
  have hnd : nlL (dV x d t s r) = true ∧ nlL (sV x d t s r nilS nilS nilS) = true := by
    obtain ⟨⟨⟨da, dc, ed, _⟩, ⟨ta, tc, et, _⟩, ⟨sa, sc, es, _⟩, _, htl, _⟩, ⟨ra, rc, er, _⟩, _⟩ := h
    simp [dV, sV, nilS, ed, et, es, er]
  have hn1 : ∀ z : Int, nlL [.int .i64 z] = true := fun z => by simp
  have hn0 : nlL [.int .i64 0] = true := by simp
  rcases hcase with ⟨rfl, hA0, f3, f9, fL3, fL9⟩ | ⟨b9, b3, av, cs, c1, c2, c3, c4, c5, c6, c7, c8⟩
  · subst hA0
    simp [-nlL, opLoop0_eq, e36, e37, hA, hlt, f3, f9, fL3, fL9, hnd, hn0]
    generalize hS2 : ({ t := _, L := _, H := _, lim := _, rd := _ } : St) = S2
    have yH : S2.H = A ++ [.rw 0 (sV x d t s r nilS nilS nilS), .rw 0 [.int .i64 ((0 : Nat) : Int)], .rw 0 (dV x d t s r)] := by subst hS2; simp
    obtain ⟨S', av', v, hr, z1, z2, z3, z4, z5, z6, z7, z8, z9, z10, z11, z12⟩ := op_draw0 x hok hdo A d t s r nilS h (b9 := A.length) (b10 := A.length + 1) (b3 := A.length + 2) hlt [] rfl S2 (by subst hS2; simp [el]; exact hlim) (by rw [yH]; exact (Aft.refl A).push _) (Nat.le_refl _)
      (by subst hS2; simp) (by subst hS2; simp) (by subst hS2; simp) (by rw [yH]; simp) (by rw [yH, List.getElem?_append_right (by omega)]; simp) (by rw [yH, List.getElem?_append_right (by omega)]; simp) (.inl ⟨rfl, rfl⟩) (fun j hj => by simp at hj)
    rw [hr]
    have y37 : tget S2.t 37 = .int .i64 0 := by subst hS2; simp [e37]
    have y36 : tget S2.t 36 = .int .i64 x.ch.cells := by subst hS2; simp [e36]
    have y9 : tget S2.t 9 = .pointer (some ⟨A.length, 0, none⟩) := by subst hS2; simp
    have y3 : tget S2.t 3 = .pointer (some ⟨A.length + 2, 0, none⟩) := by subst hS2; simp
    have y6 : tget S2.t 6 = tget S.t 6 := by subst hS2; simp [e6]
    have yL : lget S2.L 6 = lget S.L 6 := by subst hS2; simp [eL6]
    have yl : S2.lim = S.lim := by subst hS2; simp [el]
    simp [and_assoc, z1, z2, z8, z9, z10, z11, z12, y37, y36, y9, y3, y6, yL, yl]
    exact ⟨_, by omega, 1, by omega, rfl, rfl, z3, A.length, Nat.le_refl _, rfl, av', z4, z5, [] ++ [v], rfl, z6, z7⟩
  · simp [-nlL, opLoop0_eq, e36, e37, hA, hlt, c2, c3, hn1]
    generalize hS2 : ({ t := _, L := _, H := _, lim := _, rd := _ } : St) = S2
    have yH : S2.H = A ++ [.rw 0 [.int .i64 (i : Int)]] := by subst hS2; simp
    obtain ⟨S', av', v, hr, z1, z2, z3, z4, z5, z6, z7, z8, z9, z10, z11, z12⟩ := op_draw0 x hok hdo H0 d t s r av h (b9 := b9) (b10 := A.length) (b3 := b3) hlt cs c6 S2 (by subst hS2; simp [el]; exact hlim) (by rw [yH]; exact eA.push _) c1
      (by subst hS2; simp [c2]) (by subst hS2; simp) (by subst hS2; simp [c3]) (by rw [yH]; exact own_get c4 _) (by rw [yH, List.getElem?_append_right (by omega)]; simp) (by rw [yH]; exact own_get c5 _) (by
        rw [yH]
        rcases c7 with h | ⟨h1, b, h2, h3, h4⟩
        · exact .inl h
        · exact .inr ⟨h1, b, h2, h3, own_get h4 _⟩) (by rw [yH]; exact RowsC.keep c8 fun j _ b _ hb => by rw [own_get hb, hb])
    rw [hr]
    have y37 : tget S2.t 37 = .int .i64 i := by subst hS2; simp [e37]
    have y36 : tget S2.t 36 = .int .i64 x.ch.cells := by subst hS2; simp [e36]
    have y9 : tget S2.t 9 = .pointer (some ⟨b9, 0, none⟩) := by subst hS2; simp [c2]
    have y3 : tget S2.t 3 = .pointer (some ⟨b3, 0, none⟩) := by subst hS2; simp [c3]
    have y6 : tget S2.t 6 = tget S.t 6 := by subst hS2; simp [e6]
    have yL : lget S2.L 6 = lget S.L 6 := by subst hS2; simp [eL6]
    have yl : S2.lim = S.lim := by subst hS2; simp [el]
    simp [and_assoc, z1, z2, z8, z9, z10, z11, z12, y37, y36, y9, y3, y6, yL, yl, hw]
    exact ⟨_, by omega, i + 1, by omega, rfl, by omega, z3, b9, c1, rfl, av', z4, z5, cs ++ [v], by simp [c6], z6, z7⟩
end Go.Proofs.YtmdnpaboaelkeaaGreatDoor
namespace Go.Proofs.YtmdnpaboaelkeaaGreatDoor
open Go Go.RowKit
def RowV (n0 : Nat) (A : AH) (v : Value) (vs : List Value) : Prop := ∃ b k, n0 ≤ b ∧ v = .slice (some ⟨b, 0, none⟩) vs.length k ∧ A[b]? = some (.rw 1 vs)
theorem RowV.sl {n0 : Nat} {A : AH} {v : Value} {vs : List Value} (h : RowV n0 A v vs) : Sl A v vs.length vs := by
  obtain ⟨b, k, _, rfl, hb⟩ := h
  exact ⟨_, _, rfl, fun j x hx => ⟨b, 0, rfl, by simp only [hcell, hb, Nat.zero_add]; exact hx⟩⟩
theorem RowA.v {n0 : Nat} {A : AH} {v : Value} {l : List Int} (h : RowA n0 A v l) : RowV n0 A v (ints l) := by
  obtain ⟨b, k, h1, rfl, hb⟩ := h
  exact ⟨b, k, h1, by rw [ints_length], hb⟩
def RowsV (n0 : Nat) (A : AH) (cs : List Value) (l : Nat → List Value) : Prop := ∀ j (h : j < cs.length), RowV n0 A cs[j] (l j)
theorem RowsV.nl {n0 : Nat} {A : AH} {cs : List Value} {l : Nat → List Value} (h : RowsV n0 A cs l) : nlL cs = true :=
  nlL_of cs fun v hv => by
    obtain ⟨j, hj, rfl⟩ := List.mem_iff_getElem.1 hv
    obtain ⟨b, k, _, e, _⟩ := h j hj
    rw [e]; simp
theorem RowsV.snoc {n0 : Nat} {A : AH} {cs : List Value} {l : Nat → List Value} {v : Value} (h : RowsV n0 A cs l) (hv : RowV n0 A v (l cs.length)) : RowsV n0 A (cs ++ [v]) l := fun j hj => by
  by_cases hjc : j < cs.length
  · rw [List.getElem_append_left hjc]; exact h j hjc
  · have : j = cs.length := by simp at hj; omega
    subst this
    rw [List.getElem_append_right (Nat.le_refl _)]
    simpa using hv
def FlatL (l : Nat → List Value) : Prop := ∀ j, ∀ y ∈ l j, ∀ a n c, y ≠ .slice a n c
structure Tbl (n0 : Nat) (A : AH) (v : Value) (cs : List Value) (l : Nat → List Value) : Prop where
  own : OwnV n0 A v cs
  rows : RowsV n0 A cs l
theorem Tbl.keep {n0 : Nat} {A F : AH} {v : Value} {cs ds : List Value} {l m : Nat → List Value} (h : Tbl n0 A v cs l) (hl : FlatL l) (hds : RowsV n0 A ds m) (hlm : l 0 ≠ m 0) (hF : ∀ c w, n0 ≤ c → A[c]? = some (.rw 1 w) → (ds ≠ [] → w ≠ ds) → F[c]? = A[c]?) : Tbl n0 F v cs l := by
  have hrow : ∀ j (hj : j < cs.length), RowV n0 F cs[j] (l j) := fun j hj => by
    obtain ⟨b, k, h1, h2, h3⟩ := h.rows j hj
    refine ⟨b, k, h1, h2, ?_⟩
    rw [hF b _ h1 h3 fun hd e => ?_, h3]
    obtain ⟨y, t, hy⟩ : ∃ y t, ds = y :: t := by cases hd' : ds with | nil => exact absurd hd' hd | cons y t => exact ⟨y, t, rfl⟩
    obtain ⟨_, _, _, e2, _⟩ := hds 0 (by rw [hy]; simp)
    have : ds[0]'(by rw [hy]; simp) ∈ l j := by rw [e]; exact List.getElem_mem _
    exact hl j _ this _ _ _ e2
  refine ⟨?_, hrow⟩
  rcases h.own with h1 | ⟨h1, b, h2, h3, h4⟩
  · exact .inl h1
  · refine .inr ⟨h1, b, h2, h3, ?_⟩
    rw [hF b _ h2 h4 fun hd e => ?_, h4]
    subst e
    obtain ⟨y, t, hy⟩ : ∃ y t, cs = y :: t := by cases hd' : cs with | nil => exact absurd hd' hd | cons y t => exact ⟨y, t, rfl⟩
    obtain ⟨b1, k1, _, e1, g1⟩ := h.rows 0 (by rw [hy]; simp)
    obtain ⟨b2, k2, _, e2, g2⟩ := hds 0 (by rw [hy]; simp)
    rw [e1] at e2
    simp only [Value.slice.injEq, Option.some.injEq, Addr.mk.injEq] at e2
    obtain ⟨⟨rfl, _⟩, _⟩ := e2
    rw [g1] at g2
    simp only [Option.some.injEq, ABlk.rw.injEq, true_and] at g2
    exact hlm g2
def opLoop2 : SC := sf_fixes_open.body.loops.tail.headD .skip
def floV (x : Ds) (k : Nat) : List Value := bools ((List.range x.ch.cells).map fun i => x.ch.may x.g i k)
def untV (x : Ds) (k : Nat) : List Value := u64s ((List.range x.ch.cells).map fun i => denyM x k i x.reps.length)
def op_floD : SC := match opLoop2 with | .seq _ (.seq _ (.seq (.block _ (.seq _ (.seq d _))) _)) => d | _ => .skip
set_option maxHeartbeats 1000000 in
theorem op_flo (x : Ds) (hok : ChOk x.ch) (hdo : dsOk x = true) (H0 : AH) (d t s r av bv ev : Value) (h : DsIn H0 x d t s r) (ha : OneS av) (hbo : OneS bv) (heo : OneS ev) {k b9 : Nat} (hk : k < x.ch.ticks) (cs : List Value) (hcs : cs.length = k) (S : St) (hlim : S.lim ≤ H0.length) (hA : Aft H0 S.H) (hb9 : H0.length ≤ b9)
    (h9 : tget S.t 9 = .pointer (some ⟨b9, 0, none⟩)) (h11 : tget S.t 11 = .int .i64 k) (hB9 : S.H[b9]? = some (.rw 0 (sV x d t s r av bv ev)))
    (hT : Tbl H0.length S.H bv cs (floV x)) :
    ∃ S' v' v, exL Tryz.prog pf op_floD S = some (.normal, S') ∧ S'.L = S.L ∧ S'.lim = S.lim ∧ Aft H0 S'.H ∧ S'.H[b9]? = some (.rw 0 (sV x d t s r av v' ev)) ∧ Tbl H0.length S'.H v' (cs ++ [v]) (floV x) ∧ OneS v' ∧
      (∀ c w, H0.length ≤ c → S.H[c]? = some (.rw 1 w) → (cs ≠ [] → w ≠ cs) → S'.H[c]? = S.H[c]?) ∧
      tget S'.t 6 = tget S.t 6 ∧ tget S'.t 9 = tget S.t 9 ∧ tget S'.t 11 = tget S.t 11 ∧ tget S'.t 52 = tget S.t 52 ∧ tget S'.t 53 = tget S.t 53 := by
  obtain ⟨A, hAA⟩ : ∃ A, S.H = A := ⟨_, rfl⟩
  rw [hAA] at hA hB9 hT
  obtain ⟨m0, m1, m2⟩ := hok.mul
  have htk : x.ch.ticks ≤ 60 := hok.2.2.2.1.2
  obtain ⟨bw, A1, hce, hA1, hbw, hBw⟩ : ∃ bw A1, apL Tryz.prog pf (.func (.func 84) #[] #[]) [srV x d t s r av bv ev, .int .i64 k] A.length A = some (.slice (some ⟨bw, 0, none⟩) x.ch.cells x.ch.cells, A1) ∧ Aft A A1 ∧ A.length ≤ bw ∧ A1[bw]? = some (.rw 1 (floV x k)) :=
    ⟨_, _, run_afloat x hok hdo A.length A d t s r av bv ev (h.ext hA.ext) ha hbo heo hk, (Aft.refl A).push _, Nat.le_refl _, by rw [List.getElem?_append_right (Nat.le_refl _), Nat.sub_self]; rfl⟩
  obtain ⟨⟨⟨da, dc, ed, _⟩, ⟨ta, tc, et, _⟩, ⟨sa, sc, es, _⟩, _, htl, _⟩, ⟨ra, rc, er, _⟩, _⟩ := h
  obtain ⟨a1, a2, a3, ea⟩ := ha
  obtain ⟨b1, b2, b3, eb⟩ := hbo
  obtain ⟨e1, e2, e3, ee⟩ := heo
  obtain ⟨J, rfl⟩ := hA1
  have hB9' : ∀ y : AH, (A ++ y)[b9]? = some (.rw 0 (sV x d t s r av bv ev)) := fun y => own_get hB9 y
  have hm1 : 1 ≤ maxA := by decide
  have hbv9 : bw ≠ b9 := by
    rintro rfl
    rw [hB9'] at hBw
    cases hBw
  have hSl : S.lim ≤ b9 := by omega
  have hbwl : bw < (A ++ J).length := (List.getElem?_eq_some_iff.1 hBw).1
  have hb9l : b9 < A.length := (List.getElem?_eq_some_iff.1 hB9).1
  have hn9 : ∀ (y : List Value) (b : Nat), A[b]? = some (.rw 1 y) → b ≠ b9 := by
    rintro y b hb rfl
    rw [hB9] at hb
    cases hb
  simp only [sV, srV, ed, et, es, er, ea, eb, ee] at hce hB9 hB9'
  rcases hT with ⟨⟨rfl, eov⟩ | ⟨hc0, b, hb, eov, hbA⟩, hR⟩
  · rw [eb] at eov
    rw [eov] at hce hB9 hB9'
    have key : ∃ S', exL Tryz.prog pf op_floD S = some (.normal, S') ∧ S'.L = S.L ∧ S'.lim = S.lim ∧ S'.H = (A ++ (J ++ [ABlk.rw 1 [.slice (some ⟨bw, 0, none⟩) x.ch.cells x.ch.cells], ABlk.rw 1 [.slice (some ⟨bw, 0, none⟩) x.ch.cells x.ch.cells]])).set b9 (ABlk.rw 0 (sV x d t s r av (.slice (some ⟨A.length + (J.length + 1), 0, none⟩) 1 2) ev)) ∧
        tget S'.t 6 = tget S.t 6 ∧ tget S'.t 9 = tget S.t 9 ∧ tget S'.t 11 = tget S.t 11 ∧ tget S'.t 52 = tget S.t 52 ∧ tget S'.t 53 = tget S.t 53 := by
      simp [-oneC, oneC_slice, op_floD, opLoop2, SC.loops, sf_fixes_open, h9, h11, hAA, hB9, hB9', hce, hm1, hSl, sV, ed, et, es, er, ea, eb, ee]
    obtain ⟨S', hr, hL, hl, hF, ht⟩ := key
    have hk0 : k = 0 := by simpa using hcs.symm
    refine ⟨S', .slice (some ⟨A.length + (J.length + 1), 0, none⟩) 1 2, .slice (some ⟨bw, 0, none⟩) x.ch.cells x.ch.cells, hr, hL, hl, by rw [hF]; exact (hA.push _).set hb9 _, ?_, ?_, ⟨_, _, _, rfl⟩, ?_, ht⟩
    all_goals rw [hF]
    · rw [List.getElem?_set_self (by simp; omega)]
    · refine ⟨.inr ⟨by simp, A.length + (J.length + 1), by have := hA.le; omega, by simp, ?_⟩, RowsV.snoc (cs := []) (fun j hj => by simp at hj) ⟨bw, x.ch.cells, by have := hA.le; omega, by simp [floV, bools_length], ?_⟩⟩
      · rw [List.getElem?_set_ne (by omega), List.getElem?_append_right (by omega), List.getElem?_append_right (by omega)]
        simp
      · rw [List.getElem?_set_ne (Ne.symm hbv9), ← List.append_assoc, own_get hBw]
        simp [hk0]
    · intro c w _ hw _
      rw [hAA] at hw ⊢
      rw [List.getElem?_set_ne (Ne.symm (hn9 _ _ hw)), own_get hw, hw]
  · rw [eb, hcs] at eov
    rw [eov] at hce hB9 hB9'
    have hbl : b < A.length := (List.getElem?_eq_some_iff.1 hbA).1
    have hl0 : ¬ cs.length = 0 := by simpa using hc0
    have hl0' : ¬ k = 0 := by omega
    have hmx : k + 1 ≤ maxA := Nat.le_trans (show k + 1 ≤ 2000 by omega) (by decide)
    have hcn : nlL cs = true := hR.nl
    have hcA := fun L x => own_cells hbA L x
    have hbX := fun x => own_get hbA x
    have hsX := fun x y => own_set hbA x y
    have hlb : S.lim ≤ b := by omega
    have hb99 : b ≠ b9 := by
      rintro rfl
      rw [hbA] at hB9
      cases hB9
    have hB9s : ∀ y : AH, (A.set b .dead ++ y)[b9]? = A[b9]? := fun y => by rw [List.getElem?_append_left (by simpa using hb9l), List.getElem?_set_ne hb99]
    rw [hB9] at hB9s
    rw [hcs] at hcA
    have key : ∃ S', exL Tryz.prog pf op_floD S = some (.normal, S') ∧ S'.L = S.L ∧ S'.lim = S.lim ∧ S'.H = (A.set b .dead ++ (J ++ [ABlk.rw 1 [.slice (some ⟨bw, 0, none⟩) x.ch.cells x.ch.cells], ABlk.rw 1 (cs ++ [.slice (some ⟨bw, 0, none⟩) x.ch.cells x.ch.cells])])).set b9 (ABlk.rw 0 (sV x d t s r av (.slice (some ⟨A.length + (J.length + 1), 0, none⟩) (k + 1) (k + 1 + 1)) ev)) ∧
        tget S'.t 6 = tget S.t 6 ∧ tget S'.t 9 = tget S.t 9 ∧ tget S'.t 11 = tget S.t 11 ∧ tget S'.t 52 = tget S.t 52 ∧ tget S'.t 53 = tget S.t 53 := by
      simp [-oneC, oneC_slice, op_floD, opLoop2, SC.loops, sf_fixes_open, h9, h11, hAA, hB9, hB9', hce, hm1, hSl, hcs, hl0', hmx, hcn, hcA, hbX, hsX, hlb, hB9s, sV, ed, et, es, er, ea, eb, ee]
    obtain ⟨S', hr, hL, hl, hF, ht⟩ := key
    have hkeep : ∀ (Y : AH) (z : ABlk) (c : Nat) (w : List Value), A[c]? = some (ABlk.rw 1 w) → w ≠ cs → ((A.set b ABlk.dead ++ Y).set b9 z)[c]? = A[c]? := fun Y z c w hw hne => by
      have hcl : c < A.length := (List.getElem?_eq_some_iff.1 hw).1
      have h1 : c ≠ b := by
        rintro rfl
        rw [hbA] at hw
        simp only [Option.some.injEq, ABlk.rw.injEq, true_and] at hw
        exact hne hw.symm
      rw [List.getElem?_set_ne (Ne.symm (hn9 _ _ hw)), List.getElem?_append_left (by simpa using hcl), List.getElem?_set_ne (Ne.symm h1)]
    have hnot : ∀ j, j < cs.length → floV x j ≠ cs := fun j hj e => by
      obtain ⟨_, _, _, e2, _⟩ := hR 0 (by omega)
      have hmem : cs[0]'(by omega) ∈ floV x j := by rw [e]; exact List.getElem_mem _
      rw [e2] at hmem
      simp [floV, bools, u64s] at hmem
    refine ⟨S', .slice (some ⟨A.length + (J.length + 1), 0, none⟩) (k + 1) (k + 1 + 1), .slice (some ⟨bw, 0, none⟩) x.ch.cells x.ch.cells, hr, hL, hl, by rw [hF]; exact (((hA.set hb _).push _).set hb9 _), ?_, ?_, ⟨_, _, _, rfl⟩, ?_, ht⟩
    all_goals rw [hF]
    · rw [List.getElem?_set_self (by simp; omega)]
    · refine ⟨.inr ⟨by simp, A.length + (J.length + 1), by have := hA.le; omega, by simp [hcs], ?_⟩, RowsV.snoc (fun j hj => ?_) ⟨bw, x.ch.cells, by have := hA.le; omega, by simp [floV, bools_length], ?_⟩⟩
      · rw [List.getElem?_set_ne (by omega), List.getElem?_append_right (by simp), List.getElem?_append_right (by simp)]
        simp
      · obtain ⟨b', k', g1, g2, g3⟩ := hR j hj
        exact ⟨b', k', g1, g2, by rw [hkeep _ _ _ _ g3 (hnot j hj), g3]⟩
      · have hbwb : bw ≠ b := by omega
        rw [List.getElem?_set_ne (Ne.symm hbv9), ← List.append_assoc, List.getElem?_append_left (by simp at hbwl ⊢; omega)]
        rw [← List.set_append_left _ _ hbl, List.getElem?_set_ne (Ne.symm hbwb), hBw, hcs]
    · intro c w _ hw hne
      rw [hAA] at hw ⊢
      rw [hkeep _ _ _ _ hw (hne hc0)]
end Go.Proofs.YtmdnpaboaelkeaaGreatDoor
namespace Go.Proofs.YtmdnpaboaelkeaaGreatDoor
open Go Go.RowKit
def op_untD : SC := match opLoop2 with | .seq _ (.seq _ (.seq (.block _ (.seq _ (.seq _ d))) _)) => d | _ => .skip
set_option maxHeartbeats 1000000 in
theorem op_unt (x : Ds) (hok : ChOk x.ch) (hdo : dsOk x = true) (H0 : AH) (d t s r av bv ev : Value) (h : DsIn H0 x d t s r) (ha : OneS av) (hbo : OneS bv) (heo : OneS ev) {k b9 : Nat} (hk : k < x.ch.ticks) (cs : List Value) (hcs : cs.length = k) (S : St) (hlim : S.lim ≤ H0.length) (hA : Aft H0 S.H) (hb9 : H0.length ≤ b9)
    (h9 : tget S.t 9 = .pointer (some ⟨b9, 0, none⟩)) (h11 : tget S.t 11 = .int .i64 k) (hB9 : S.H[b9]? = some (.rw 0 (sV x d t s r av bv ev)))
    (hT : Tbl H0.length S.H ev cs (untV x)) :
    ∃ S' v' v, exL Tryz.prog pf op_untD S = some (.normal, S') ∧ S'.L = S.L ∧ S'.lim = S.lim ∧ Aft H0 S'.H ∧ S'.H[b9]? = some (.rw 0 (sV x d t s r av bv v')) ∧ Tbl H0.length S'.H v' (cs ++ [v]) (untV x) ∧ OneS v' ∧
      (∀ c w, H0.length ≤ c → S.H[c]? = some (.rw 1 w) → (cs ≠ [] → w ≠ cs) → S'.H[c]? = S.H[c]?) ∧
      tget S'.t 6 = tget S.t 6 ∧ tget S'.t 9 = tget S.t 9 ∧ tget S'.t 11 = tget S.t 11 ∧ tget S'.t 52 = tget S.t 52 ∧ tget S'.t 53 = tget S.t 53 := by
  obtain ⟨A, hAA⟩ : ∃ A, S.H = A := ⟨_, rfl⟩
  rw [hAA] at hA hB9 hT
  obtain ⟨m0, m1, m2⟩ := hok.mul
  have htk : x.ch.ticks ≤ 60 := hok.2.2.2.1.2
  obtain ⟨A1, bw, hce, hA1, hbw, hBw⟩ := run_denied x hok hdo A.length A d t s r av bv ev (h.ext hA.ext) ha hbo heo k
  replace hBw : A1[bw]? = some (.rw 1 (untV x k)) := hBw
  obtain ⟨⟨⟨da, dc, ed, _⟩, ⟨ta, tc, et, _⟩, ⟨sa, sc, es, _⟩, _, htl, _⟩, ⟨ra, rc, er, _⟩, _⟩ := h
  obtain ⟨a1, a2, a3, ea⟩ := ha
  obtain ⟨b1, b2, b3, eb⟩ := hbo
  obtain ⟨e1, e2, e3, ee⟩ := heo
  obtain ⟨J, rfl⟩ := hA1
  have hB9' : ∀ y : AH, (A ++ y)[b9]? = some (.rw 0 (sV x d t s r av bv ev)) := fun y => own_get hB9 y
  have hm1 : 1 ≤ maxA := by decide
  have hbv9 : bw ≠ b9 := by
    rintro rfl
    rw [hB9'] at hBw
    cases hBw
  have hSl : S.lim ≤ b9 := by omega
  have hbwl : bw < (A ++ J).length := (List.getElem?_eq_some_iff.1 hBw).1
  have hb9l : b9 < A.length := (List.getElem?_eq_some_iff.1 hB9).1
  have hn9 : ∀ (y : List Value) (b : Nat), A[b]? = some (.rw 1 y) → b ≠ b9 := by
    rintro y b hb rfl
    rw [hB9] at hb
    cases hb
  simp only [sV, srV, ed, et, es, er, ea, eb, ee] at hce hB9 hB9'
  rcases hT with ⟨⟨rfl, eov⟩ | ⟨hc0, b, hb, eov, hbA⟩, hR⟩
  · rw [ee] at eov
    rw [eov] at hce hB9 hB9'
    have key : ∃ S', exL Tryz.prog pf op_untD S = some (.normal, S') ∧ S'.L = S.L ∧ S'.lim = S.lim ∧ S'.H = (A ++ (J ++ [ABlk.rw 1 [.slice (some ⟨bw, 0, none⟩) x.ch.cells x.ch.cells], ABlk.rw 1 [.slice (some ⟨bw, 0, none⟩) x.ch.cells x.ch.cells]])).set b9 (ABlk.rw 0 (sV x d t s r av bv (.slice (some ⟨A.length + (J.length + 1), 0, none⟩) 1 2))) ∧
        tget S'.t 6 = tget S.t 6 ∧ tget S'.t 9 = tget S.t 9 ∧ tget S'.t 11 = tget S.t 11 ∧ tget S'.t 52 = tget S.t 52 ∧ tget S'.t 53 = tget S.t 53 := by
      simp [-oneC, oneC_slice, op_untD, opLoop2, SC.loops, sf_fixes_open, h9, h11, hAA, hB9, hB9', hce, hm1, hSl, sV, ed, et, es, er, ea, eb, ee]
    obtain ⟨S', hr, hL, hl, hF, ht⟩ := key
    have hk0 : k = 0 := by simpa using hcs.symm
    refine ⟨S', .slice (some ⟨A.length + (J.length + 1), 0, none⟩) 1 2, .slice (some ⟨bw, 0, none⟩) x.ch.cells x.ch.cells, hr, hL, hl, by rw [hF]; exact (hA.push _).set hb9 _, ?_, ?_, ⟨_, _, _, rfl⟩, ?_, ht⟩
    all_goals rw [hF]
    · rw [List.getElem?_set_self (by simp; omega)]
    · refine ⟨.inr ⟨by simp, A.length + (J.length + 1), by have := hA.le; omega, by simp, ?_⟩, RowsV.snoc (cs := []) (fun j hj => by simp at hj) ⟨bw, x.ch.cells, by have := hA.le; omega, by simp [untV, u64s_length], ?_⟩⟩
      · rw [List.getElem?_set_ne (by omega), List.getElem?_append_right (by omega), List.getElem?_append_right (by omega)]
        simp
      · rw [List.getElem?_set_ne (Ne.symm hbv9), ← List.append_assoc, own_get hBw]
        simp [hk0]
    · intro c w _ hw _
      rw [hAA] at hw ⊢
      rw [List.getElem?_set_ne (Ne.symm (hn9 _ _ hw)), own_get hw, hw]
  · rw [ee, hcs] at eov
    rw [eov] at hce hB9 hB9'
    have hbl : b < A.length := (List.getElem?_eq_some_iff.1 hbA).1
    have hl0 : ¬ cs.length = 0 := by simpa using hc0
    have hl0' : ¬ k = 0 := by omega
    have hmx : k + 1 ≤ maxA := Nat.le_trans (show k + 1 ≤ 2000 by omega) (by decide)
    have hcn : nlL cs = true := hR.nl
    have hcA := fun L x => own_cells hbA L x
    have hbX := fun x => own_get hbA x
    have hsX := fun x y => own_set hbA x y
    have hlb : S.lim ≤ b := by omega
    have hb99 : b ≠ b9 := by
      rintro rfl
      rw [hbA] at hB9
      cases hB9
    have hB9s : ∀ y : AH, (A.set b .dead ++ y)[b9]? = A[b9]? := fun y => by rw [List.getElem?_append_left (by simpa using hb9l), List.getElem?_set_ne hb99]
    rw [hB9] at hB9s
    rw [hcs] at hcA
    have key : ∃ S', exL Tryz.prog pf op_untD S = some (.normal, S') ∧ S'.L = S.L ∧ S'.lim = S.lim ∧ S'.H = (A.set b .dead ++ (J ++ [ABlk.rw 1 [.slice (some ⟨bw, 0, none⟩) x.ch.cells x.ch.cells], ABlk.rw 1 (cs ++ [.slice (some ⟨bw, 0, none⟩) x.ch.cells x.ch.cells])])).set b9 (ABlk.rw 0 (sV x d t s r av bv (.slice (some ⟨A.length + (J.length + 1), 0, none⟩) (k + 1) (k + 1 + 1)))) ∧
        tget S'.t 6 = tget S.t 6 ∧ tget S'.t 9 = tget S.t 9 ∧ tget S'.t 11 = tget S.t 11 ∧ tget S'.t 52 = tget S.t 52 ∧ tget S'.t 53 = tget S.t 53 := by
      simp [-oneC, oneC_slice, op_untD, opLoop2, SC.loops, sf_fixes_open, h9, h11, hAA, hB9, hB9', hce, hm1, hSl, hcs, hl0', hmx, hcn, hcA, hbX, hsX, hlb, hB9s, sV, ed, et, es, er, ea, eb, ee]
    obtain ⟨S', hr, hL, hl, hF, ht⟩ := key
    have hkeep : ∀ (Y : AH) (z : ABlk) (c : Nat) (w : List Value), A[c]? = some (ABlk.rw 1 w) → w ≠ cs → ((A.set b ABlk.dead ++ Y).set b9 z)[c]? = A[c]? := fun Y z c w hw hne => by
      have hcl : c < A.length := (List.getElem?_eq_some_iff.1 hw).1
      have h1 : c ≠ b := by
        rintro rfl
        rw [hbA] at hw
        simp only [Option.some.injEq, ABlk.rw.injEq, true_and] at hw
        exact hne hw.symm
      rw [List.getElem?_set_ne (Ne.symm (hn9 _ _ hw)), List.getElem?_append_left (by simpa using hcl), List.getElem?_set_ne (Ne.symm h1)]
    have hnot : ∀ j, j < cs.length → untV x j ≠ cs := fun j hj e => by
      obtain ⟨_, _, _, e2, _⟩ := hR 0 (by omega)
      have hmem : cs[0]'(by omega) ∈ untV x j := by rw [e]; exact List.getElem_mem _
      rw [e2] at hmem
      simp [untV, bools, u64s] at hmem
    refine ⟨S', .slice (some ⟨A.length + (J.length + 1), 0, none⟩) (k + 1) (k + 1 + 1), .slice (some ⟨bw, 0, none⟩) x.ch.cells x.ch.cells, hr, hL, hl, by rw [hF]; exact (((hA.set hb _).push _).set hb9 _), ?_, ?_, ⟨_, _, _, rfl⟩, ?_, ht⟩
    all_goals rw [hF]
    · rw [List.getElem?_set_self (by simp; omega)]
    · refine ⟨.inr ⟨by simp, A.length + (J.length + 1), by have := hA.le; omega, by simp [hcs], ?_⟩, RowsV.snoc (fun j hj => ?_) ⟨bw, x.ch.cells, by have := hA.le; omega, by simp [untV, u64s_length], ?_⟩⟩
      · rw [List.getElem?_set_ne (by omega), List.getElem?_append_right (by simp), List.getElem?_append_right (by simp)]
        simp
      · obtain ⟨b', k', g1, g2, g3⟩ := hR j hj
        exact ⟨b', k', g1, g2, by rw [hkeep _ _ _ _ g3 (hnot j hj), g3]⟩
      · have hbwb : bw ≠ b := by omega
        rw [List.getElem?_set_ne (Ne.symm hbv9), ← List.append_assoc, List.getElem?_append_left (by simp at hbwl ⊢; omega)]
        rw [← List.set_append_left _ _ hbl, List.getElem?_set_ne (Ne.symm hbwb), hBw, hcs]
    · intro c w _ hw hne
      rw [hAA] at hw ⊢
      rw [hkeep _ _ _ _ hw (hne hc0)]
end Go.Proofs.YtmdnpaboaelkeaaGreatDoor
namespace Go.Proofs.YtmdnpaboaelkeaaGreatDoor
open Go Go.RowKit
def nearV (x : Ds) (i : Nat) : List Value := ints (nearI x i)
theorem flat_near (x : Ds) : FlatL (nearV x) := fun j y hy a n c e => by
  unfold nearV ints at hy
  obtain ⟨z, _, rfl⟩ := List.mem_map.1 hy
  cases e
theorem flat_flo (x : Ds) : FlatL (floV x) := fun j y hy a n c e => by
  unfold floV bools at hy
  obtain ⟨z, _, rfl⟩ := List.mem_map.1 hy
  cases e
theorem flat_unt (x : Ds) : FlatL (untV x) := fun j y hy a n c e => by
  unfold untV u64s at hy
  obtain ⟨z, _, rfl⟩ := List.mem_map.1 hy
  cases e
theorem range_head {n : Nat} (h : 0 < n) : ∃ t, List.range n = 0 :: t := by
  obtain ⟨m, rfl⟩ : ∃ m, n = m + 1 := ⟨n - 1, by omega⟩
  exact ⟨_, List.range_succ_eq_map⟩
theorem flo_unt {x : Ds} (h : 0 < x.ch.cells) : floV x 0 ≠ untV x 0 := by
  obtain ⟨t, ht⟩ := range_head h
  unfold floV untV bools u64s
  rw [ht]
  simp
theorem near_flo {x : Ds} (hdo : dsOk x = true) (h : 0 < x.ch.cells) : nearV x 0 ≠ floV x 0 := by
  obtain ⟨t, ht⟩ := range_head h
  have hne := nearI_ne hdo h
  unfold nearV floV bools ints
  rw [ht]
  cases hn : nearI x 0 with
  | nil => exact absurd hn hne
  | cons a b => simp
theorem near_unt {x : Ds} (hdo : dsOk x = true) (h : 0 < x.ch.cells) : nearV x 0 ≠ untV x 0 := by
  obtain ⟨t, ht⟩ := range_head h
  have hne := nearI_ne hdo h
  unfold nearV untV u64s ints
  rw [ht]
  cases hn : nearI x 0 with
  | nil => exact absurd hn hne
  | cons a b =>
    simp only [List.map_cons]
    intro e
    injection e with e1 _
    cases e1
theorem opLoop2_eq : opLoop2 = .seq (.ops [⟨some 54, none, .bin .lss (.tmp 53) (.tmp 52)⟩]) (.seq (.cond (.tmp 54) .skip (.exit 2)) (.seq (.block 3 (.seq (.ops [⟨some 55, none, .mv (.tmp 53)⟩, ⟨some 11, none, .mv (.tmp 55)⟩]) (.seq op_floD op_untD))) (.ops [⟨some 72, none, .bin .add (.tmp 53) (.const (.int .i64 1))⟩, ⟨some 53, none, .mv (.tmp 72)⟩]))) := rfl
set_option maxHeartbeats 1000000 in
theorem op_loop2 (x : Ds) (hok : ChOk x.ch) (hdo : dsOk x = true) (H0 : AH) (d t s r av : Value) (h : DsIn H0 x d t s r) (ha : OneS av) {b9 : Nat} (hb9 : H0.length ≤ b9) (csn : List Value) (S : St) (hlim : S.lim ≤ H0.length) (hA : Aft H0 S.H)
    (h9 : tget S.t 9 = .pointer (some ⟨b9, 0, none⟩)) (h52 : tget S.t 52 = .int .i64 x.ch.ticks) (h53 : tget S.t 53 = .int .i64 0) (hB9 : S.H[b9]? = some (.rw 0 (sV x d t s r av nilS nilS))) (hN : Tbl H0.length S.H av csn (nearV x)) :
    ∃ q, exL Tryz.prog pf (.loop opLoop2) S = some q ∧ q.1 = .exit 2 ∧ Aft H0 q.2.H ∧ q.2.lim = S.lim ∧ q.2.L = S.L ∧ tget q.2.t 6 = tget S.t 6 ∧ tget q.2.t 9 = tget S.t 9 ∧ ∃ bv ev csb cse, q.2.H[b9]? = some (.rw 0 (sV x d t s r av bv ev)) ∧ OneS bv ∧ OneS ev ∧ csb.length = x.ch.ticks ∧ cse.length = x.ch.ticks ∧ Tbl H0.length q.2.H av csn (nearV x) ∧ Tbl H0.length q.2.H bv csb (floV x) ∧ Tbl H0.length q.2.H ev cse (untV x) := by
  have hpos := hok.pos.1
  have htk : x.ch.ticks ≤ 60 := hok.2.2.2.1.2
  refine loop_rule (I := fun m s' => ∃ k, k ≤ x.ch.ticks ∧ m = x.ch.ticks - k ∧ tget s'.t 53 = .int .i64 k ∧ tget s'.t 52 = .int .i64 x.ch.ticks ∧ s'.lim = S.lim ∧ s'.L = S.L ∧ tget s'.t 6 = tget S.t 6 ∧ tget s'.t 9 = tget S.t 9 ∧ Aft H0 s'.H ∧ 
      ∃ bv ev csb cse, s'.H[b9]? = some (.rw 0 (sV x d t s r av bv ev)) ∧ OneS bv ∧ OneS ev ∧ csb.length = k ∧ cse.length = k ∧ Tbl H0.length s'.H av csn (nearV x) ∧ Tbl H0.length s'.H bv csb (floV x) ∧ Tbl H0.length s'.H ev cse (untV x)) ?_ x.ch.ticks S
    ⟨0, by omega, by omega, h53, h52, rfl, rfl, rfl, rfl, hA, nilS, nilS, [], [], hB9, oneS_nil, oneS_nil, rfl, rfl, hN, ⟨.inl ⟨rfl, rfl⟩, fun j hj => by simp at hj⟩, ⟨.inl ⟨rfl, rfl⟩, fun j hj => by simp at hj⟩⟩
  rintro m s' ⟨k, hk, rfl, e53, e52, el, eL, e6, e9, eA, bv, ev, csb, cse, c1, c2, c3, c4, c5, c6, c7, c8⟩
  rw [h9] at e9
  by_cases hlt : k < x.ch.ticks
  rotate_left
  · have : k = x.ch.ticks := by omega
    subst this
    simp [opLoop2_eq, e52, e53, h9, e9]
    exact ⟨eA, el, eL, e6, bv, ev, c1, c2, c3, csb, c4, cse, c5, c6, c7, c8⟩
  have hw : IntKind.i64.wrap ((k : Int) + 1) = (k : Int) + 1 := wrap_i64 (by omega) (by omega)
  simp [opLoop2_eq, e52, e53, hlt]
  generalize hS2 : ({ t := _, L := _, H := _, lim := _, rd := _ } : St) = S2
  have yH : S2.H = s'.H := by subst hS2; rfl
  have yl : S2.lim = S.lim := by subst hS2; simp [el]
  have yL : S2.L = S.L := by subst hS2; simp [eL]
  have y9 : tget S2.t 9 = .pointer (some ⟨b9, 0, none⟩) := by subst hS2; simp [e9]
  have y6 : tget S2.t 6 = tget S.t 6 := by subst hS2; simp [e6]
  have y52 : tget S2.t 52 = .int .i64 x.ch.ticks := by subst hS2; simp [e52]
  have y53 : tget S2.t 53 = .int .i64 k := by subst hS2; simp [e53]
  have y11 : tget S2.t 11 = .int .i64 k := by subst hS2; simp
  rw [← yH] at c1 c6 c7 c8 eA
  obtain ⟨S3, bv', v1, r1, z1, z2, z3, z4, z5, z6, z7, z8, z9, z10, z11, z12⟩ := op_flo x hok hdo H0 d t s r av bv ev h ha c2 c3 hlt csb c4 S2 (by omega) eA hb9 y9 y11 c1 c7
  rw [r1]
  have n1 := c6.keep (flat_near x) c7.rows (near_flo hdo hpos) z7
  have n2 := c8.keep (flat_unt x) c7.rows (flo_unt hpos).symm z7
  obtain ⟨S4, ev', v2, r2, w1, w2, w3, w4, w5, w6, w7, w8, w9, w10, w11, w12⟩ := op_unt x hok hdo H0 d t s r av bv' ev h ha z6 c3 hlt cse c5 S3 (by omega) z3 hb9 (by rw [z9, y9]) (by rw [z10, y11]) z4 n2
  have n3 := n1.keep (flat_near x) n2.rows (near_unt hdo hpos) w7
  have n4 := z5.keep (flat_flo x) n2.rows (flo_unt hpos) w7
  simp [and_assoc, r2, w1, w2, w8, w9, w11, w12, z1, z2, z8, z9, z11, z12, y6, y9, y52, y53, yL, yl, hw]
  exact ⟨_, by omega, k + 1, by omega, rfl, by omega, h9.symm, w3, bv', ev', w4, z6, w6, csb ++ [v1], by simp [c4], cse ++ [v2], by simp [c5], n3, n4, w5⟩
def Tb (A : AH) (v : Value) (n : Nat) (l : Nat → List Value) : Prop := ∃ rv : List Value, rv.length = n ∧ Sl A v n rv ∧ ∀ i (h : i < rv.length), Sl A rv[i] (l i).length (l i)
theorem Tb.ext {A B : AH} (hE : Ext A B) {v : Value} {n : Nat} {l : Nat → List Value} (h : Tb A v n l) : Tb B v n l := by
  obtain ⟨rv, h1, h2, h3⟩ := h
  exact ⟨rv, h1, h2.ext hE, fun i a => (h3 i a).ext hE⟩
theorem Tbl.tb {n0 : Nat} {A : AH} {v : Value} {cs : List Value} {l : Nat → List Value} (h : Tbl n0 A v cs l) : Tb A v cs.length l := ⟨cs, rfl, h.own.sl, fun i hi => (h.rows i hi).sl⟩
theorem Tb.one {A : AH} {v : Value} {n : Nat} {l : Nat → List Value} (h : Tb A v n l) : OneS v := by
  obtain ⟨rv, _, ⟨a, c, e, _⟩, _⟩ := h
  exact ⟨a, n, c, e⟩
structure SrIn (H : AH) (x : Ds) (fl : Nat → Nat → Bool) (a b e : Value) : Prop where
  near : Tb H a x.ch.cells (nearV x)
  flo : Tb H b x.ch.ticks (fun k => bools ((List.range x.ch.cells).map (fl k)))
  unt : Tb H e x.ch.ticks (untV x)
theorem SrIn.ext {H H' : AH} (hE : Ext H H') {x : Ds} {fl : Nat → Nat → Bool} {a b e : Value} (h : SrIn H x fl a b e) : SrIn H' x fl a b e := ⟨h.near.ext hE, h.flo.ext hE, h.unt.ext hE⟩
def mayF (x : Ds) (k i : Nat) : Bool := x.ch.may x.g i k
def srZ : Value := .agg #[.int .i64 0, .int .i64 0, nilS, nilS, nilS, .int .i64 0, .int .i64 0, nilS, nilS, nilS, nilS]
theorem isP_srTick (x : Ds) (H : AH) (d t s r a b e : Value) (h : DsIn H x d t s r) (ha : OneS a) (hb : OneS b) (he : OneS e) : IsP H (.func (.func 79) #[srV x d t s r a b e] #[]) (inN x.ticks) := by
  refine ⟨?_, fun H' hH q lim => ?_⟩
  · obtain ⟨⟨⟨da, dc, ed, _⟩, ⟨ta, tc, et, _⟩, ⟨sa, sc, es, _⟩, _, htl, _⟩, ⟨ra, rc, er, _⟩, _⟩ := h
    obtain ⟨a1, a2, a3, ea⟩ := ha
    obtain ⟨b1, b2, b3, eb⟩ := hb
    obtain ⟨e1, e2, e3, ee⟩ := he
    exact ⟨by simp [srV, ed, et, es, er, ea, eb, ee], rfl, rfl⟩
  · rw [apL_meth _ _ _ _ _ (by rfl) (by rfl)]
    exact run_srIsTick x lim H' d t s r a b e (h.ext hH) ha hb he q
theorem isP_srCell (x : Ds) (H : AH) (d t s r a b e : Value) (h : DsIn H x d t s r) (ha : OneS a) (hb : OneS b) (he : OneS e) : IsP H (.func (.func 80) #[srV x d t s r a b e] #[]) (inN x.cells) := by
  refine ⟨?_, fun H' hH q lim => ?_⟩
  · obtain ⟨⟨⟨da, dc, ed, _⟩, ⟨ta, tc, et, _⟩, ⟨sa, sc, es, _⟩, _, htl, _⟩, ⟨ra, rc, er, _⟩, _⟩ := h
    obtain ⟨a1, a2, a3, ea⟩ := ha
    obtain ⟨b1, b2, b3, eb⟩ := hb
    obtain ⟨e1, e2, e3, ee⟩ := he
    exact ⟨by simp [srV, ed, et, es, er, ea, eb, ee], rfl, rfl⟩
  · rw [apL_meth _ _ _ _ _ (by rfl) (by rfl)]
    exact run_srIsCell x lim H' d t s r a b e (h.ext hH) ha hb he q
end Go.Proofs.YtmdnpaboaelkeaaGreatDoor
namespace Go.Proofs.YtmdnpaboaelkeaaGreatDoor
open Go Go.RowKit
theorem run_fopen_bad (x : Ds) (lim : Nat) (H : AH) (d t s r : Value) (h : DsIn H x d t s r) (tv cv : Value) (ht : OneS tv) (hc : OneS cv) (he : dsE x ≠ 0) :
    apL Tryz.prog pf (.func (.func 44) #[] #[]) [dsV x d t s r, tv, cv] lim H = some (.tuple #[srZ, .int .i64 (dsE x)], H) := by
  rw [apL_func _ _ _ _ _ _ (by rfl), sf_fixes_open_eq]
  have hC := fun lim => run_fixCheck x lim H d t s r h
  obtain ⟨⟨⟨da, dc, ed, _⟩, ⟨ta, tc, et, _⟩, ⟨sa, sc, es, _⟩, _, htl, _⟩, ⟨ra, rc, er, _⟩, _⟩ := h
  obtain ⟨t1, t2, t3, etv⟩ := ht
  obtain ⟨c1, c2, c3, ecv⟩ := hc
  simp only [dsV, ed, et, es, er] at hC
  obtain ⟨z, hz⟩ : ∃ z, dsE x = z := ⟨_, rfl⟩
  rw [hz] at he hC
  have hne : (z != 0) = true := by simpa using he
  simp [sf_fixes_open, dsV, srZ, nilS, ed, et, es, er, etv, ecv, hC, hz, hne, pf_pure, pureF]
theorem run_fopen_arg (x : Ds) (lim : Nat) (H : AH) (d t s r : Value) (h : DsIn H x d t s r) (tv cv : Value) (ts cs : List Int) (htl : ts.length < 2 ^ 62) (hcl : cs.length < 2 ^ 62) (ht : Sl H tv ts.length (ints ts)) (hc : Sl H cv cs.length (ints cs)) (he : dsE x = 0) (hx : (ts.all (inN x.ticks) && cs.all (inN x.cells)) = false) :
    apL Tryz.prog pf (.func (.func 44) #[] #[]) [dsV x d t s r, tv, cv] lim H = some (.tuple #[srZ, .int .i64 1], H) := by
  rw [apL_func _ _ _ _ _ _ (by rfl), sf_fixes_open_eq]
  have hC := fun lim => run_fixCheck x lim H d t s r h
  have hT := fun lim => run_all ts htl H lim tv _ _ ht (isP_srTick x H d t s r nilS nilS nilS h oneS_nil oneS_nil oneS_nil)
  have hCe := fun lim => run_all cs hcl H lim cv _ _ hc (isP_srCell x H d t s r nilS nilS nilS h oneS_nil oneS_nil oneS_nil)
  obtain ⟨⟨⟨da, dc, ed, _⟩, ⟨ta, tc, et, _⟩, ⟨sa, sc, es, _⟩, _, htl, _⟩, ⟨ra, rc, er, _⟩, _⟩ := h
  obtain ⟨t1, t3, etv, _⟩ := ht
  obtain ⟨c1, c3, ecv, _⟩ := hc
  rw [he] at hC
  simp only [dsV, srV, nilS, ed, et, es, er, etv, ecv] at hC hT hCe
  cases h1 : ts.all (inN x.ticks) with
  | false =>
    rw [h1] at hT
    simp [sf_fixes_open, dsV, srZ, nilS, ed, et, es, er, etv, ecv, hC, hT, pf_pure, pureF]
  | true =>
    rw [h1] at hx hT
    have h2 : cs.all (inN x.cells) = false := by simpa using hx
    rw [h2] at hCe
    simp [sf_fixes_open, dsV, srZ, nilS, ed, et, es, er, etv, ecv, hC, hT, hCe, pf_pure, pureF]
end Go.Proofs.YtmdnpaboaelkeaaGreatDoor
namespace Go.Proofs.YtmdnpaboaelkeaaGreatDoor
open Go Go.RowKit
set_option maxHeartbeats 1000000 in
theorem run_fopen (x : Ds) (lim : Nat) (H : AH) (d t s r : Value) (h : DsIn H x d t s r) (tv cv : Value) (ts cs : List Int) (htl : ts.length < 2 ^ 62) (hcl : cs.length < 2 ^ 62) (ht : Sl H tv ts.length (ints ts)) (hc : Sl H cv cs.length (ints cs)) (he : dsE x = 0) (hx1 : ts.all (inN x.ticks) = true) (hx2 : cs.all (inN x.cells) = true) :
    ∃ a b e A, apL Tryz.prog pf (.func (.func 44) #[] #[]) [dsV x d t s r, tv, cv] lim H = some (.tuple #[srV x d t s r a b e, .int .i64 0], A) ∧ Aft H A ∧ SrIn A x (mayF x) a b e := by
  rw [apL_func _ _ _ _ _ _ (by rfl), sf_fixes_open_eq]
  obtain ⟨hok, hdo⟩ := dsE_zero he
  have hC := fun lim => run_fixCheck x lim H d t s r h
  have hT := fun lim => run_all ts htl H lim tv _ _ ht (isP_srTick x H d t s r nilS nilS nilS h oneS_nil oneS_nil oneS_nil)
  have hCe := fun lim => run_all cs hcl H lim cv _ _ hc (isP_srCell x H d t s r nilS nilS nilS h oneS_nil oneS_nil oneS_nil)
  have h0 := h
  obtain ⟨⟨⟨da, dc, ed, _⟩, ⟨ta, tc, et, _⟩, ⟨sa, sc, es, _⟩, _, htl, _⟩, ⟨ra, rc, er, _⟩, _⟩ := h
  obtain ⟨t1, t3, etv, _⟩ := ht
  obtain ⟨c1, c3, ecv, _⟩ := hc
  rw [he] at hC
  simp only [dsV, srV, nilS, ed, et, es, er, etv, ecv, hx1, hx2] at hC hT hCe
  simp [-oneC, oneC_slice, oneC_int, -Array.all_toList, -List.all_eq_false, sf_fixes_open, dsV, nilS, ed, et, es, er, etv, ecv, hC, hT, hCe, pf_pure, pureF]
  generalize hS : ({ t := _, L := _, H := _, lim := _, rd := _ } : St) = S
  obtain ⟨⟨q, s1⟩, hr, q1, q2, q3, q4, q5, b9, b3, av, csn, c1, c2, c3, c4, c5, c6, c7, c8⟩ := op_loop0 x hok hdo H d t s r h0 S (by subst hS; simp) (by subst hS; simp) (by subst hS; simp) (by subst hS; simp [Ch.cells]) (by subst hS; simp) (by subst hS; simp [dV, ed, et, es, er]) (by subst hS; simp [sV, nilS, ed, et, es, er]) (by subst hS; rfl)
  simp [opLoop0, SC.loops, sf_fixes_open] at hr
  rw [hr]
  simp only at q1 q2 q3 q4 q5 c2 c3 c4 c5 c7 c8
  subst q1
  have hc5 : s1.H[b3]? = some (.rw 0 (dV x d t s r)) := c5
  simp only [dV, ed, et, es, er] at hc5
  simp [-oneC, oneC_slice, oneC_int, -Array.all_toList, -List.all_eq_false, c3, hc5]
  generalize hS2 : ({ t := _, L := _, H := _, lim := _, rd := _ } : St) = S2
  have yH : S2.H = s1.H := by subst hS2; rfl
  have yL : S2.L = s1.L := by subst hS2; rfl
  have y9 : tget S2.t 9 = .pointer (some ⟨b9, 0, none⟩) := by subst hS2; simp [c2]
  have y6 : tget S2.t 6 = tget s1.t 6 := by subst hS2; simp
  have yl : S2.lim = S.lim := by subst hS2; simp [q3]
  have hSl : S.lim = H.length := by subst hS; rfl
  obtain ⟨⟨q', s2⟩, hr2, p1, p2, p3, p4, p5, p6, bv, ev, csb, cse, k1, k2, k3, k4, k5, k6, k7, k8⟩ := op_loop2 x hok hdo H d t s r av h0 c7.one c1 csn S2 (by omega) (by rw [yH]; exact q2) y9 (by subst hS2; simp [Ch.ticks]) (by subst hS2; simp) (by rw [yH]; exact c4) (by rw [yH]; exact ⟨c7, fun j hj => (c8 j hj).v⟩)
  simp [opLoop2, SC.loops, sf_fixes_open] at hr2
  rw [hr2]
  simp only at p1 p2 p3 p4 p5 p6 k1 k6 k7 k8
  subst p1
  have z6 : tget S.t 6 = .pointer (some ⟨6, 0, some 0⟩) := by subst hS; simp
  have zL : lget S.L 6 = some (0, .cells [.int .i64 0, .int .i64 0, nilS, nilS, nilS, .int .i64 0, .int .i64 0, nilS, nilS, nilS, nilS]) := by subst hS; simp [nilS]
  have kk := k1
  obtain ⟨a1, a2, a3, ea⟩ := c7.one
  obtain ⟨b1, b2, b3', eb⟩ := k2
  obtain ⟨e1, e2, e3, ee⟩ := k3
  simp only [sV, ed, et, es, er, ea, eb, ee] at kk
  simp only [nilS] at zL
  simp [-oneC, oneC_slice, oneC_int, p5, p6, y6, y9, q4, z6, p4, yL, q5, zL, kk]
  refine ⟨av, bv, ev, s2.H, ?_, p2, ?_, ?_, ?_⟩
  · simp [srV, ed, et, es, er, ea, eb, ee]
    intro _ e
    have := hok.pos.1
    unfold Ch.cells at this
    rw [e] at this
    simp at this
  · have := k6.tb; rw [c6] at this; exact this
  · have := k7.tb; rw [k4] at this; exact this
  · have := k8.tb; rw [k5] at this; exact this
end Go.Proofs.YtmdnpaboaelkeaaGreatDoor
namespace Go.Proofs.YtmdnpaboaelkeaaGreatDoor
open Go Go.RowKit
theorem u64_wrap {n : Int} (h0 : 0 ≤ n) (h1 : n < 18446744073709551616) : IntKind.u64.wrap n = n := by
  have : IntKind.u64.wrap n = n % 18446744073709551616 := by
    unfold IntKind.wrap
    simp [IntKind.signed, IntKind.bits]
  rw [this]
  exact Int.emod_eq_of_lt h0 h1
theorem u64_lo {n : Nat} (h : n < 4294967296) : (BitVec.ofInt IntKind.u64.bits (n : Int) &&& BitVec.ofInt IntKind.u64.bits 4294967295).toNat = n := by
  have e1 : BitVec.ofInt IntKind.u64.bits (n : Int) = BitVec.ofNat 64 n := BitVec.ofInt_natCast 64 n
  have e2 : BitVec.ofInt IntKind.u64.bits 4294967295 = BitVec.ofNat 64 4294967295 := rfl
  rw [e1, e2]
  show (BitVec.ofNat 64 n &&& BitVec.ofNat 64 4294967295).toNat = n
  rw [BitVec.toNat_and, BitVec.toNat_ofNat, BitVec.toNat_ofNat, Nat.mod_eq_of_lt (by omega), show 4294967295 % 2 ^ 64 = 2 ^ 32 - 1 from rfl, Nat.and_two_pow_sub_one_eq_mod]
  exact Nat.mod_eq_of_lt h
theorem u64_shr {n : Int} (h0 : 0 ≤ n) (h1 : n < 4294967296) : n.fdiv (2 ^ min (32 : Int).toNat IntKind.u64.bits) = 0 := by
  have : (2 : Int) ^ min (32 : Int).toNat IntKind.u64.bits = 4294967296 := by decide
  rw [this, Int.fdiv_eq_ediv_of_nonneg _ (by omega)]
  exact Int.ediv_eq_zero_of_lt h0 h1
theorem run_Mul64 (n : Nat) (hn : n ≤ 1000) (lim : Nat) (H : AH) : apL Tryz.prog pf (.func (.func 156) #[] #[]) [.int .u64 1, .int .u64 n] lim H = some (.tuple #[.int .u64 0, .int .u64 n], H) := by
  rw [apL_func _ _ _ _ _ _ (by rfl), sf_math_bits_Mul64_eq]
  have a1 : (1#IntKind.u64.bits &&& 4294967295#IntKind.u64.bits).toNat = 1 := u64_lo (n := 1) (by omega)
  have a2 : (BitVec.ofInt IntKind.u64.bits ↑n &&& 4294967295#IntKind.u64.bits).toNat = n := u64_lo (n := n) (by omega)
  have a0 : (0#IntKind.u64.bits &&& 4294967295#IntKind.u64.bits).toNat = 0 := u64_lo (n := 0) (by omega)
  have s1 : Int.fdiv 1 (2 ^ min 32 IntKind.u64.bits) = 0 := u64_shr (n := 1) (by omega) (by omega)
  have s2 : (n : Int).fdiv (2 ^ min 32 IntKind.u64.bits) = 0 := u64_shr (n := (n : Int)) (by omega) (by omega)
  have s0 : Int.fdiv 0 (2 ^ min 32 IntKind.u64.bits) = 0 := u64_shr (n := 0) (by omega) (by omega)
  have w2 : IntKind.u64.wrap (n : Int) = n := u64_wrap (by omega) (by omega)
  have w1 : IntKind.u64.wrap 1 = 1 := u64_wrap (by omega) (by omega)
  have w0 : IntKind.u64.wrap 0 = 0 := u64_wrap (by omega) (by omega)
  simp [-BitVec.toNat_and, -BitVec.ofInt_natCast, -BitVec.toNat_ofInt, sf_math_bits_Mul64, a0, a1, a2, s0, s1, s2, w0, w1, w2, pf_pure, pureF]
theorem run_Mul (n : Nat) (hn : n ≤ 1000) (lim : Nat) (H : AH) : apL Tryz.prog pf (.func (.func 153) #[] #[]) [.int .u64 1, .int .u64 n] lim H = some (.tuple #[.int .u64 0, .int .u64 n], H) := by
  rw [apL_func _ _ _ _ _ _ (by rfl), sf_math_bits_Mul_eq]
  have h := run_Mul64 n hn
  simp [sf_math_bits_Mul, h, pf_pure, pureF]
theorem zeros_intsJ : ∀ n : Nat, zeros [.int .i64 0] n = ints (List.replicate n 0)
  | 0 => rfl
  | n + 1 => by simp only [zeros, zeros_intsJ n, List.replicate_succ, ints, List.map_cons]; rfl
def rpLoop : SC := sf_slices_Repeat_int_int.body.loops.headD .skip
theorem repV_cons (i : Nat) (x : Value) (r : List Value) : List.replicate i x ++ x :: r = x :: (List.replicate i x ++ r) := by
  induction i with
  | zero => rfl
  | succ i ih => rw [List.replicate_succ, List.cons_append, ih, List.cons_append]
theorem over_rep {a b k : Nat} (x y : Int) (hk : k ≤ b) : over (ints (List.replicate a x ++ List.replicate b y)) a (ints (List.replicate k x)) = ints (List.replicate (a + k) x ++ List.replicate (b - k) y) := by
  induction k generalizing a b with
  | zero => simp [over, ints]
  | succ k ih =>
    obtain ⟨b, rfl⟩ : ∃ m, b = m + 1 := ⟨b - 1, by omega⟩
    have e : (ints (List.replicate a x ++ List.replicate (b + 1) y)).set a (.int .i64 x) = ints (List.replicate (a + 1) x ++ List.replicate b y) := by
      simp only [ints, List.map_append, List.map_replicate]
      rw [List.set_append_right _ _ (by simp)]
      simp only [List.length_replicate, Nat.sub_self, List.replicate_succ, List.set_cons_zero, List.cons_append]
      exact repV_cons a _ _
    rw [show ints (List.replicate (k + 1) x) = .int .i64 x :: ints (List.replicate k x) by simp [ints, List.replicate_succ]]
    simp only [over]
    rw [e, ih (by omega)]
    congr 3 <;> omega
theorem rp_loop (y0 : Int) (N : Nat) (hN0 : 0 < N) (hN : N ≤ 1000) (H : AH) (S : St) (h7 : tget S.t 7 = .slice (some ⟨H.length, 0, none⟩) N N) (h8 : tget S.t 8 = .int .i64 1) (hH : S.H = H ++ [.rw 1 (ints (List.replicate 1 y0 ++ List.replicate (N - 1) 0))]) (hlim : S.lim ≤ H.length) :
    ∃ q, exL Tryz.prog pf (.loop rpLoop) S = some q ∧ q.1 = .exit 0 ∧ tget q.2.t 7 = .slice (some ⟨H.length, 0, none⟩) N N ∧ q.2.H = H ++ [.rw 1 (ints (List.replicate N y0))] := by
  refine loop_rule (I := fun m s' => ∃ k, 0 < k ∧ k ≤ N ∧ m = N - k ∧ tget s'.t 7 = .slice (some ⟨H.length, 0, none⟩) N N ∧ tget s'.t 8 = .int .i64 k ∧ s'.lim = S.lim ∧ s'.H = H ++ [.rw 1 (ints (List.replicate k y0 ++ List.replicate (N - k) 0))]) ?_ (N - 1) S
    ⟨1, by omega, by omega, rfl, h7, h8, rfl, hH⟩
  rintro m s' ⟨k, k0, k1, rfl, e7, e8, el, eH⟩
  by_cases hlt : k < N
  rotate_left
  · have : k = N := by omega
    subst this
    simp [rpLoop, SC.loops, sf_slices_Repeat_int_int, e7, e8, eH]
  obtain ⟨q, hq⟩ : ∃ q, q = min k (N - k) := ⟨_, rfl⟩
  have hq0 : ¬ q = 0 := by omega
  have hov := over_rep (a := k) (b := N - k) y0 0 (show q ≤ N - k by omega)
  obtain ⟨cs, hcs⟩ : ∃ cs, cs = ints (List.replicate k y0 ++ List.replicate (N - k) 0) := ⟨_, rfl⟩
  obtain ⟨ws, hws⟩ : ∃ ws, ws = ints (List.replicate q y0) := ⟨_, rfl⟩
  have hcl : cs.length = N := by rw [hcs, ints_length]; simp; omega
  have hwl : ws.length = q := by rw [hws, ints_length]; simp
  have hcells : ∀ L, cellsAt L (H ++ [.rw 1 cs]) ⟨H.length, 0, none⟩ q = some ws := fun L => by
    rw [← hwl]
    refine cellsAt_of ws 0 fun j x hx => ?_
    have hj : j < q := by rw [← hwl]; exact (List.getElem?_eq_some_iff.1 hx).1
    simp only [hcell, Nat.zero_add, List.getElem?_append_right (Nat.le_refl _), Nat.sub_self, List.getElem?_cons_zero]
    rw [← hx, hcs, hws]
    simp only [ints, List.map_append, List.map_replicate]
    rw [List.getElem?_append_left (by simp; omega), List.getElem?_replicate, List.getElem?_replicate]
    simp [show j < k by omega, hj]
  have hone : ws.all oneC = true := by rw [hws]; exact one_ints _
  have hnl : nlL ws = true := by rw [hws]; exact nlL_ints _
  rw [← hcs, ← hws] at hov
  rw [← hcs] at eH
  have hle : k + ws.length ≤ cs.length := by omega
  have hle' : k + ws.length ≤ N := by omega
  have hkq : k + q ≤ N := by omega
  have hkN : (k : Int) < N := by omega
  have hkN' : (k : Int) ≤ N := by omega
  have hkN2 : ¬ (k : Int) = N := by omega
  have hkN3 : ¬ k = N := by omega
  have hts : ((N : Int) - (k : Int)).toNat = N - k := by omega
  have hwr : IntKind.i64.wrap ((k : Int) + (q : Int)) = ((k + q : Nat) : Int) := by rw [wrap_i64 (by omega) (by omega)]; omega
  have hls : s'.lim ≤ H.length := by rw [el]; exact hlim
  have hq' : min k (N - k) = q := hq.symm
  simp [-oneC, -Int.natCast_add, rpLoop, SC.loops, sf_slices_Repeat_int_int, e7, e8, eH, hkN, hkN', hkN2, hkN3, hts, hq', hq0, hcells, hone, hnl, hle, hle', hov, hwr, hls, hcl, hwl, hkq]
  exact ⟨_, by omega, k + q, by omega, by omega, rfl, rfl, el, by rw [show N - k - q = N - (k + q) by omega]⟩
theorem run_Repeat (y0 : Int) (N : Nat) (hN0 : 0 < N) (hN : N ≤ 1000) (lim : Nat) (H : AH) (b : Nat) (hb : H[b]? = some (.rw 1 [.int .i64 y0])) :
    apL Tryz.prog pf (.func (.func 139) #[] #[]) [.slice (some ⟨b, 0, none⟩) 1 1, .int .i64 N] lim H = some (.slice (some ⟨H.length, 0, none⟩) N N, H ++ [.rw 1 (ints (List.replicate N y0))]) := by
  rw [apL_func _ _ _ _ _ _ (by rfl), sf_slices_Repeat_int_int_eq]
  have hM := run_Mul N hN
  have hbl : b < H.length := (List.getElem?_eq_some_iff.1 hb).1
  have hmx : N ≤ maxA := Nat.le_trans hN (by decide)
  have u1 : IntKind.u64.wrap 1 = 1 := u64_wrap (by omega) (by omega)
  have uN : IntKind.u64.wrap (N : Int) = N := u64_wrap (by omega) (by omega)
  have iN : IntKind.i64.wrap (N : Int) = N := wrap_i64 (by omega) (by omega)
  have hbig : ¬ ((N : Int) > 9223372036854775807) := by omega
  have hbig' : ¬ (9223372036854775807 < (N : Int)) := by omega
  have hmin : min 1 N = 1 := by omega
  have hbX : ∀ X : AH, (H ++ X)[b]? = some (.rw 1 [.int .i64 y0]) := fun X => by rw [List.getElem?_append_left hbl, hb]
  have hN1 : ¬ N = 0 := by omega
  have hz : 1 ≤ (ints (List.replicate N 0)).length := by rw [ints_length]; simp; omega
  have hset : (ints (List.replicate N 0)).set 0 (.int .i64 y0) = ints (List.replicate 1 y0 ++ List.replicate (N - 1) 0) := by
    obtain ⟨m, rfl⟩ : ∃ m, N = m + 1 := ⟨N - 1, by omega⟩
    simp [ints, List.replicate_succ]
  have hN0' : ¬ (N : Int) < 0 := by omega
  generalize hzz : ints (List.replicate N 0) = zz at *
  simp [sf_slices_Repeat_int_int, hM, hmx, u1, uN, iN, hbig', hmin, hbX, hN1, zeros_intsJ, hzz, hz, hset, hN0', pf_pure, pureF]
  generalize hS : ({ t := _, L := _, H := _, lim := _, rd := _ } : St) = S
  obtain ⟨⟨e, s1⟩, hr, q1, q7, qH⟩ := rp_loop y0 N hN0 hN H S (by subst hS; simp) (by subst hS; simp) (by subst hS; rfl) (by subst hS; simp)
  simp [rpLoop, SC.loops, sf_slices_Repeat_int_int] at hr
  rw [hr]
  simp only at q1 q7 qH
  subst q1
  simp [q7, qH]
end Go.Proofs.YtmdnpaboaelkeaaGreatDoor
namespace Go.Proofs.YtmdnpaboaelkeaaGreatDoor
open Go Go.RowKit
theorem tb_row {A : AH} {v : Value} {n : Nat} {l : Nat → List Value} (h : Tb A v n l) {k : Nat} (hk : k < n) :
    ∃ b o c w, v = .slice (some ⟨b, o, none⟩) n c ∧ hcell A b (o + k) = some w ∧ Sl A w (l k).length (l k) := by
  obtain ⟨rv, h1, ⟨a, c, rfl, h2⟩, h3⟩ := h
  obtain ⟨b, o, rfl, h4⟩ := h2 k rv[k] (List.getElem?_eq_getElem (by omega))
  exact ⟨b, o, c, _, rfl, h4, h3 k (by omega)⟩
theorem tb_cell {A : AH} {v : Value} {n : Nat} {l : Nat → List Value} (h : Tb A v n l) {k i : Nat} (hk : k < n) (hi : i < (l k).length) :
    ∃ b o c b' o' c', v = .slice (some ⟨b, o, none⟩) n c ∧ hcell A b (o + k) = some (.slice (some ⟨b', o', none⟩) (l k).length c') ∧ hcell A b' (o' + i) = some (l k)[i] := by
  obtain ⟨b, o, c, w, e, g, ⟨a', c', rfl, h5⟩⟩ := tb_row h hk
  obtain ⟨b', o', rfl, h6⟩ := h5 i (l k)[i] (by simp [hi])
  exact ⟨b, o, c, b', o', c', e, g, h6⟩
def IsPr (H : AH) (f : Value) (T n : Nat) (p : Nat → Nat → Int) : Prop := (nl f = true ∧ isU f = false ∧ f.cells = #[f]) ∧ ∀ H', Ext H H' → ∀ k i, k < T → i < n → ∀ lim, apL Tryz.prog pf f [.int .i64 k, .int .i64 i] lim H' = some (.int .i64 (p k i), H')
theorem IsPr.ext {H H' : AH} (h : Ext H H') {f : Value} {T n : Nat} {p : Nat → Nat → Int} (k : IsPr H f T n p) : IsPr H' f T n p := ⟨k.1, fun H'' h2 => k.2 H'' (h.trans h2)⟩
def partP (x : Ds) (fl : Nat → Bool) (p : Nat → Int) (prev : List Int) (i : Nat) : List Int := (List.range i).map (payV x fl p prev) ++ List.replicate (x.ch.cells - i) topN
theorem partP_len {x : Ds} {fl : Nat → Bool} {p : Nat → Int} {prev : List Int} {i : Nat} (h : i ≤ x.ch.cells) : (partP x fl p prev i).length = x.ch.cells := by simp [partP]; omega
theorem partP_set {x : Ds} {fl : Nat → Bool} {p : Nat → Int} {prev : List Int} {i : Nat} (h : i < x.ch.cells) : (partP x fl p prev i).set i (payV x fl p prev i) = partP x fl p prev (i + 1) := by
  unfold partP
  rw [List.set_append_right _ _ (by simp)]
  have : x.ch.cells - i = (x.ch.cells - (i + 1)) + 1 := by omega
  rw [this, List.replicate_succ]
  simp [List.range_succ]
theorem partP_same {x : Ds} {fl : Nat → Bool} {p : Nat → Int} {prev : List Int} {i : Nat} (h : i < x.ch.cells) (e : payV x fl p prev i = topN) : partP x fl p prev (i + 1) = partP x fl p prev i := by
  rw [← partP_set h, e]
  apply List.ext_getElem?
  intro c
  by_cases hc : i = c
  · subst hc
    rw [List.getElem?_set_self (by rw [partP_len (by omega)]; exact h)]
    unfold partP
    rw [List.getElem?_append_right (by simp)]
    simp only [List.length_map, List.length_range, Nat.sub_self, List.getElem?_replicate]
    rw [if_pos (by omega)]
  · rw [List.getElem?_set_ne hc]
theorem partP_end {x : Ds} {fl : Nat → Bool} {p : Nat → Int} {prev : List Int} : partP x fl p prev x.ch.cells = payN x fl p prev := by simp [partP, payN]
theorem ints_set' (l : List Int) (i : Nat) (v : Int) : (ints l).set i (.int .i64 v) = ints (l.set i v) := by simp [ints, List.map_set]
theorem min_comm_val (q : Int) : min topN q = if q < 1201 then q else 1201 := by have : topN = 1201 := rfl; split <;> omega
def paLoop : SC := sf_fixes_search_pay.body.loops.headD .skip
set_option maxHeartbeats 1000000 in
theorem pay_loop (x : Ds) (hok : ChOk x.ch) (hdo : dsOk x = true) (H : AH) (d t s r a b e f pv : Value) (h : DsIn H x d t s r) (fl : Nat → Nat → Bool) (hsr : SrIn H x fl a b e) (p : Nat → Nat → Int) (hp : IsPr H f x.ch.ticks x.ch.cells p) (prev : List Int) (hpl : prev.length = x.ch.cells) (hpv : Sl H pv prev.length (ints prev)) (hpb : ∀ j, 0 ≤ prev.getD j 0 ∧ prev.getD j 0 ≤ topN) {k : Nat} (hk : k < x.ch.ticks) (hp0 : ∀ i, i < x.ch.cells → 0 ≤ p k i)
    (S : St) (h1 : tget S.t 1 = f) (h2 : tget S.t 2 = .int .i64 k) (h3 : tget S.t 3 = pv) (h4 : tget S.t 4 = .pointer (some ⟨4, 0, some 0⟩)) (h9 : tget S.t 9 = .slice (some ⟨H.length + 1, 0, none⟩) x.ch.cells x.ch.cells) (h17 : tget S.t 17 = .int .i64 x.ch.cells) (h18 : tget S.t 18 = .int .i64 0)
    (hL : lget S.L 4 = some (0, .cells (sV x d t s r a b e))) (hH : S.H = H ++ [.rw 1 [.int .i64 1201], .rw 1 (ints (partP x (fl k) (p k) prev 0))]) (hlim : S.lim ≤ H.length) :
    ∃ q, exL Tryz.prog pf (.loop paLoop) S = some q ∧ q.1 = .exit 0 ∧ q.2.H = H ++ [.rw 1 [.int .i64 1201], .rw 1 (ints (payN x (fl k) (p k) prev))] ∧ tget q.2.t 9 = tget S.t 9 := by
  obtain ⟨m0, m1, m2⟩ := hok.mul
  have h0 := h
  have ha0 := hsr.near.one
  have hb0 := hsr.flo.one
  have he0 := hsr.unt.one
  obtain ⟨⟨⟨da, dc, ed, _⟩, ⟨ta, tc, et, _⟩, ⟨sa, sc, es, _⟩, _, htl, _⟩, ⟨ra, rc, er, _⟩, _⟩ := h
  obtain ⟨e1', e2', e3', ee⟩ := he0
  refine loop_rule (I := fun m s' => ∃ i, i ≤ x.ch.cells ∧ m = x.ch.cells - i ∧ tget s'.t 1 = f ∧ tget s'.t 2 = .int .i64 k ∧ tget s'.t 3 = pv ∧ tget s'.t 4 = .pointer (some ⟨4, 0, some 0⟩) ∧ tget s'.t 9 = .slice (some ⟨H.length + 1, 0, none⟩) x.ch.cells x.ch.cells ∧ tget s'.t 17 = .int .i64 x.ch.cells ∧ tget s'.t 18 = .int .i64 i ∧ lget s'.L 4 = some (0, .cells (sV x d t s r a b e)) ∧ s'.lim = S.lim ∧ s'.H = H ++ [.rw 1 [.int .i64 1201], .rw 1 (ints (partP x (fl k) (p k) prev i))]) ?_ x.ch.cells S
    ⟨0, by omega, by omega, h1, h2, h3, h4, h9, h17, h18, hL, rfl, hH⟩
  rintro m s' ⟨i, hi, rfl, e1, e2, e3, e4, e9, e17, e18, eL, el, eH⟩
  by_cases hlt : i < x.ch.cells
  rotate_left
  · have : i = x.ch.cells := by omega
    subst this
    rw [partP_end] at eH
    simp [paLoop, SC.loops, sf_fixes_search_pay, e17, e18, e9, eH, h9]
  obtain ⟨A, hA⟩ : ∃ A, A = H ++ [.rw 1 [.int .i64 1201], .rw 1 (ints (partP x (fl k) (p k) prev i))] := ⟨_, rfl⟩
  rw [← hA] at eH
  have hE : Ext H A := by rw [hA]; exact Ext.push H _
  have hAl : A.length = H.length + 2 := by rw [hA]; simp
  have hsA := hsr.ext hE
  obtain ⟨fb, fo, fc, fb', fo', fc', efl, f1, f2⟩ := tb_cell hsA.flo hk (i := i) (by simpa [bools] using hlt)
  obtain ⟨nb, no, nc, nw, enr, n1, n2⟩ := tb_row hsA.near hlt
  have hbf : (bools ((List.range x.ch.cells).map (fl k)))[i]? = some (.bool (fl k i)) := by simp [bools, hlt]
  have f2' : hcell A fb' (fo' + i) = some (.bool (fl k i)) := by
    rw [f2]
    rw [List.getElem?_eq_getElem (by simpa [bools] using hlt)] at hbf
    exact hbf
  have hbl : (bools ((List.range x.ch.cells).map (fl k))).length = x.ch.cells := by simp [bools]
  simp only [hbl] at f1
  have hpr := fun lim => hp.2 A hE k i hk hlt lim
  obtain ⟨hnf, huf, hcf⟩ := hp.1
  have hself := hops_self hdo i
  have h0l := upto_pos hlt hself
  have hnl2 : (nearV x i).length = (upto (hops x i) x.ch.cells).length := by simp [nearV, nearI, ints]
  have hch := fun lim => run_cheapest x (upto (hops x i) x.ch.cells) (by have := List.length_filter_le (hops x i) (List.range x.ch.cells); simp [upto] at this ⊢; omega) prev (fun j hj => by rw [hpl]; exact (upto_mem.1 hj).1) h0l lim A d t s r a b e nw pv (h0.ext hE) hsA.near.one hsA.flo.one hsA.unt.one (by rw [← hnl2]; exact n2) (hpv.ext hE)
  have hck : cheapM (fun j => prev.getD j 0) (upto (hops x i) x.ch.cells)[0] (upto (hops x i) x.ch.cells) < prev.length := by
    rcases cheapM_mem (fun j => prev.getD j 0) (upto (hops x i) x.ch.cells) (upto (hops x i) x.ch.cells)[0] with h | h
    · rw [h, hpl]; exact (upto_mem.1 (List.getElem_mem h0l)).1
    · rw [hpl]; exact (upto_mem.1 h).1
  have hpay : payV x (fl k) (p k) prev i = if fl k i && decide (p k i < topN) then min topN (p k i + prev.getD (cheapM (fun j => prev.getD j 0) (upto (hops x i) x.ch.cells)[0] (upto (hops x i) x.ch.cells)) 0) else topN := by
    unfold payV
    rw [headD_zero h0l]
  have hset := partP_set (x := x) (fl := fl k) (p := p k) (prev := prev) hlt
  have hsame := fun e => partP_same (x := x) (fl := fl k) (p := p k) (prev := prev) hlt e
  have hplen := partP_len (x := x) (fl := fl k) (p := p k) (prev := prev) hi
  have hP0 := hp0 i hlt
  generalize hcc : cheapM (fun j => prev.getD j 0) (upto (hops x i) x.ch.cells)[0] (upto (hops x i) x.ch.cells) = c at *
  have hcb := hpb c
  obtain ⟨pb, po, epv, g1⟩ : ∃ pb po pc, pv = .slice (some ⟨pb, po, none⟩) prev.length pc ∧ hcell A pb (po + c) = some (.int .i64 (prev.getD c 0)) := by
    obtain ⟨pa, pc, e, hd⟩ := hpv.ext hE
    obtain ⟨pb, po, rfl, g⟩ := hd c _ (ints_get prev c hck)
    exact ⟨pb, po, pc, e, g⟩
  obtain ⟨epv, g1⟩ := g1
  generalize hV : payV x (fl k) (p k) prev i = V at *
  generalize hC : prev.getD c 0 = C at *
  generalize hP : p k i = P at *
  have hT0 : topN = 1201 := rfl
  have hw1 : IntKind.i64.wrap ((i : Int) + 1) = (i : Int) + 1 := wrap_i64 (by omega) (by omega)
  simp only [hcell] at f1 f2' n1 g1
  have hAg : A[H.length + 1]? = some (.rw 1 (ints (partP x (fl k) (p k) prev i))) := by rw [hA, List.getElem?_append_right (by omega)]; simp
  have eL0 := eL
  simp only [sV, srV, ed, et, es, er, efl, enr, ee] at eL hch
  have hpl2 : (ints (partP x (fl k) (p k) prev i)).length = x.ch.cells := by rw [ints_length, hplen]
  have hii : i + 1 ≤ x.ch.cells := hlt
  have hSl : S.lim ≤ H.length + 1 := by omega
  obtain ⟨na, ncp, enw, _⟩ := n2
  rw [enw] at hch n1
  rw [epv] at hch e3
  cases hfl : fl k i with
  | false =>
    rw [hfl] at f2' hpay
    simp only [Bool.false_and, Bool.false_eq_true, if_false] at hpay
    simp [paLoop, SC.loops, sf_fixes_search_pay, e1, e2, e3, e4, e9, e17, e18, eL, el, eH, hlt, f1, f2', hk, hw1]
    exact ⟨_, by omega, i + 1, by omega, rfl, epv.symm, by omega, by rw [ed, et, es, er, efl, enr, ee]; rfl, by rw [hsame hpay, hA]⟩
  | true =>
    rw [hfl] at f2' hpay
    simp only [Bool.true_and, decide_eq_true_eq] at hpay
    by_cases hPt : P < 1201
    · have hw2 : IntKind.i64.wrap (P + C) = P + C := wrap_i64 (by omega) (by omega)
      simp [paLoop, SC.loops, sf_fixes_search_pay, e1, e2, e3, e4, e9, e17, e18, eL, el, eH, hlt, f1, f2', hk, hw1, hpr, hnf, hPt, n1, hch, g1, hck, hAg, hw2, hpl2, hii, hSl]
      rw [if_pos (show P < topN from hPt), min_comm_val] at hpay
      exact ⟨_, by omega, i + 1, by omega, rfl, epv.symm, by omega, by rw [ed, et, es, er, efl, enr, ee]; rfl, by
        rw [hA, ← hset, hpay, ints_set', List.set_append_right _ _ (by omega), Nat.add_sub_cancel_left]; rfl⟩
    · simp [paLoop, SC.loops, sf_fixes_search_pay, e1, e2, e3, e4, e9, e17, e18, eL, el, eH, hlt, f1, f2', hk, hw1, hpr, hnf, hPt]
      exact ⟨_, by omega, i + 1, by omega, rfl, epv.symm, by omega, by rw [ed, et, es, er, efl, enr, ee]; rfl, by rw [hsame (by rw [hpay, if_neg (by omega)]), hA]⟩
theorem run_pay (x : Ds) (hok : ChOk x.ch) (hdo : dsOk x = true) (lim : Nat) (H : AH) (d t s r a b e f pv : Value) (h : DsIn H x d t s r) (fl : Nat → Nat → Bool) (hsr : SrIn H x fl a b e) (p : Nat → Nat → Int) (hp : IsPr H f x.ch.ticks x.ch.cells p) (prev : List Int) (hpl : prev.length = x.ch.cells) (hpv : Sl H pv prev.length (ints prev)) (hpb : ∀ j, 0 ≤ prev.getD j 0 ∧ prev.getD j 0 ≤ topN) {k : Nat} (hk : k < x.ch.ticks) (hp0 : ∀ i, i < x.ch.cells → 0 ≤ p k i) :
    apL Tryz.prog pf (.func (.func 116) #[] #[]) [srV x d t s r a b e, f, .int .i64 k, pv] lim H = some (.slice (some ⟨H.length + 1, 0, none⟩) x.ch.cells x.ch.cells, H ++ [.rw 1 [.int .i64 1201], .rw 1 (ints (payN x (fl k) (p k) prev))]) := by
  rw [apL_func _ _ _ _ _ _ (by rfl), sf_fixes_search_pay_eq]
  obtain ⟨p0, p1⟩ := hok.pos
  have h0 := h
  have hpv0 := hpv
  obtain ⟨⟨⟨da, dc, ed, _⟩, ⟨ta, tc, et, _⟩, ⟨sa, sc, es, _⟩, _, htl, _⟩, ⟨ra, rc, er, _⟩, _⟩ := h
  obtain ⟨a1, a2, a3, ea⟩ := hsr.near.one
  obtain ⟨b1, b2, b3, eb⟩ := hsr.flo.one
  obtain ⟨e1, e2, e3, ee⟩ := hsr.unt.one
  obtain ⟨pa, pc, ep, _⟩ := hpv
  obtain ⟨hnf, huf, hcf⟩ := hp.1
  have hR := fun lim => run_Repeat 1201 x.ch.cells p0 (by omega) lim (H ++ [.rw 1 [.int .i64 1201]]) H.length (by simp)
  have hz : List.replicate x.ch.cells 1201 = partP x (fl k) (p k) prev 0 := by simp [partP, topN]
  rw [hz] at hR
  rw [hpl] at ep
  simp only [List.append_assoc, List.length_append, List.length_cons, List.length_nil, Nat.zero_add, List.cons_append, List.nil_append] at hR
  simp [sf_fixes_search_pay, srV, ed, et, es, er, ea, eb, ee, ep, hR, hnf, huf, hcf, pf_pure, pureF]
  generalize hS : ({ t := _, L := _, H := _, lim := _, rd := _ } : St) = S
  obtain ⟨⟨q, s1⟩, hr, q1, q2, q3⟩ := pay_loop x hok hdo H d t s r a b e f pv h0 fl hsr p hp prev hpl hpv0 hpb hk hp0 S (by subst hS; simp) (by subst hS; simp) (by subst hS; simp [ep]) (by subst hS; simp) (by subst hS; simp) (by subst hS; simp) (by subst hS; simp) (by subst hS; simp [sV, ed, et, es, er, ea, eb, ee]) (by subst hS; simp) (by subst hS; simp)
  simp [paLoop, SC.loops, sf_fixes_search_pay] at hr
  rw [hr]
  simp only at q1 q2 q3
  subst q1
  have y9 : tget S.t 9 = .slice (some ⟨H.length + 1, 0, none⟩) x.ch.cells x.ch.cells := by subst hS; simp
  rw [y9] at q3
  simp [q3, q2]
end Go.Proofs.YtmdnpaboaelkeaaGreatDoor
namespace Go.Proofs.YtmdnpaboaelkeaaGreatDoor
open Go Go.RowKit
def ptV (n : Nat) : Value := .func (.func 115) #[] #[.pointer (some ⟨n, 0, none⟩), .pointer (some ⟨n + 1, 0, none⟩), .pointer (some ⟨n + 2, 0, none⟩), .pointer (some ⟨n + 3, 0, none⟩)]
theorem isU_agg (cs : Array Value) : isU (.agg cs) = false := rfl
theorem cells_agg (cs : Array Value) : (Value.agg cs).cells = cs := rfl
theorem isU_i (k : IntKind) (n : Int) : isU (.int k n) = false := rfl
theorem cells_i (k : IntKind) (n : Int) : (Value.int k n).cells = #[.int k n] := rfl
theorem isU_sl (a : Option Addr) (n c : Nat) : isU (.slice a n c) = false := rfl
theorem cells_sl (a : Option Addr) (n c : Nat) : (Value.slice a n c).cells = #[.slice a n c] := rfl
theorem run_parts (x : Ds) (lim : Nat) (H : AH) (d t s r a b e f : Value) (h : DsIn H x d t s r) (ha : OneS a) (hb : OneS b) (he : OneS e) (hf : nl f = true ∧ isU f = false ∧ f.cells = #[f]) (fr st : Int) :
    apL Tryz.prog pf (.func (.func 87) #[] #[]) [srV x d t s r a b e, f, .int .i64 fr, .int .i64 st] lim H = some (ptV H.length, H ++ [.rw 0 (sV x d t s r a b e), .rw 0 [.int .i64 fr], .rw 0 [.int .i64 st], .rw 0 [f]]) := by
  rw [apL_func _ _ _ _ _ _ (by rfl), sf_fixes_search_parts_eq]
  obtain ⟨⟨⟨da, dc, ed, _⟩, ⟨ta, tc, et, _⟩, ⟨sa, sc, es, _⟩, _, htl, _⟩, ⟨ra, rc, er, _⟩, _⟩ := h
  obtain ⟨a1, a2, a3, ea⟩ := ha
  obtain ⟨b1, b2, b3, eb⟩ := hb
  obtain ⟨e1, e2, e3, ee⟩ := he
  obtain ⟨hf1, hf2, hf3⟩ := hf
  simp [-isU, -Value.cells, isU_agg, cells_agg, isU_i, cells_i, sf_fixes_search_parts, srV, sV, ptV, ed, et, es, er, ea, eb, ee, hf1, hf2, hf3, pf_pure, pureF]
structure PtS (x : Ds) (fl : Nat → Nat → Bool) (p : Nat → Nat → Int) (fr st : Int) (kp : Nat → Nat) (rho : Nat → List Int) : Prop where
  first : 0 < x.ch.ticks → fr = kp 0
  next : ∀ j, j + 1 < x.ch.ticks → (kp j : Int) + st = kp (j + 1)
  last : ∀ j, j + 1 = x.ch.ticks → inN x.ticks ((kp j : Int) + st) = false ∧ -9223372036854775808 ≤ (kp j : Int) + st ∧ (kp j : Int) + st < 9223372036854775808
  lt : ∀ j, j < x.ch.ticks → kp j < x.ch.ticks
  zero : rho 0 = List.replicate x.ch.cells 0
  succ : ∀ j, j < x.ch.ticks → rho (j + 1) = payN x (fl (kp j)) (p (kp j)) (rho j)
structure PtC (x : Ds) (H : AH) (d t s r a b e f : Value) (st : Int) (kp : Nat → Nat) (rho : Nat → List Int) (n lim : Nat) (fv : Value) (Inv : Nat → AH → Value → Prop) (Done : AH → Prop) : Prop where
  there : ∀ j A v, Inv j A v → A[n]? = some (.rw 0 (sV x d t s r a b e)) ∧ A[n + 2]? = some (.rw 0 [.int .i64 st]) ∧ A[n + 3]? = some (.rw 0 [f]) ∧ Ext H A ∧ Sl A v x.ch.cells (ints (rho j))
  yield : ∀ j A v, j < x.ch.ticks → Inv j A v → ∃ ok A2, apL Tryz.prog pf fv [.int .i64 (kp j : Nat), .slice (some ⟨A.length + 1, 0, none⟩) x.ch.cells x.ch.cells] lim (A ++ [.rw 1 [.int .i64 1201], .rw 1 (ints (rho (j + 1)))]) = some (.bool ok, A2) ∧
    (ok = true → Inv (j + 1) A2 (.slice (some ⟨A.length + 1, 0, none⟩) x.ch.cells x.ch.cells)) ∧ (ok = false → Done A2)
  fin : ∀ A v, Inv x.ch.ticks A v → Done A
def ptLoop : SC := sf_fixes_search_parts_1.body.loops.headD .skip
theorem rho_bound {x : Ds} {fl : Nat → Nat → Bool} {p : Nat → Nat → Int} {fr st : Int} {kp : Nat → Nat} {rho : Nat → List Int} (hP : PtS x fl p fr st kp rho) (hp : ∀ k i, k < x.ch.ticks → i < x.ch.cells → 0 ≤ p k i) : ∀ j, j ≤ x.ch.ticks → (rho j).length = x.ch.cells ∧ ∀ c, 0 ≤ (rho j).getD c 0 ∧ (rho j).getD c 0 ≤ topN
  | 0, _ => by rw [hP.zero]; exact ⟨by simp, fun c => zeros_bound _ c⟩
  | j + 1, hj => by
    have ih := rho_bound hP hp j (by omega)
    rw [hP.succ j (by omega)]
    exact ⟨payN_len .., fun c => payN_bound (fun i hi => hp _ i (hP.lt j (by omega)) hi) (fun c => (ih.2 c).1) c⟩
set_option maxHeartbeats 1000000 in
theorem pt_loop (x : Ds) (hok : ChOk x.ch) (hdo : dsOk x = true) (H : AH) (d t s r a b e f : Value) (h : DsIn H x d t s r) (fl : Nat → Nat → Bool) (hsr : SrIn H x fl a b e) (p : Nat → Nat → Int) (hp : IsPr H f x.ch.ticks x.ch.cells p) (hp0 : ∀ k i, k < x.ch.ticks → i < x.ch.cells → 0 ≤ p k i) (fr st : Int) (kp : Nat → Nat) (rho : Nat → List Int) (hP : PtS x fl p fr st kp rho) (n lim : Nat) (fv : Value) (hn : nl fv = true) (Inv : Nat → AH → Value → Prop) (Done : AH → Prop) (hC : PtC x H d t s r a b e f st kp rho n lim fv Inv Done)
    (S : St) (h0 : tget S.t 0 = fv) (h1 : tget S.t 1 = .pointer (some ⟨n, 0, none⟩)) (h3 : tget S.t 3 = .pointer (some ⟨n + 2, 0, none⟩)) (h4 : tget S.t 4 = .pointer (some ⟨n + 3, 0, none⟩)) (h7 : tget S.t 7 = .int .i64 fr) (hI : Inv 0 S.H (tget S.t 6)) (hlim : S.lim = lim) :
    ∃ q, exL Tryz.prog pf (.loop ptLoop) S = some q ∧ (q.1 = .exit 0 ∨ q.1 = .ret) ∧ Done q.2.H := by
  have htk0 : 0 < x.ch.ticks := hok.2.2.2.1.1
  have htk : x.ch.ticks ≤ 60 := hok.2.2.2.1.2
  have hin : ∀ j, j < x.ch.ticks → inN x.ticks (kp j : Int) = true := fun j hj => inN_of (hP.lt j hj)
  refine loop_rule (I := fun m s' => ∃ j, j ≤ x.ch.ticks ∧ m = x.ch.ticks - j ∧ tget s'.t 0 = fv ∧ tget s'.t 1 = .pointer (some ⟨n, 0, none⟩) ∧ tget s'.t 3 = .pointer (some ⟨n + 2, 0, none⟩) ∧ tget s'.t 4 = .pointer (some ⟨n + 3, 0, none⟩) ∧ s'.lim = lim ∧ Inv j s'.H (tget s'.t 6) ∧
      ∃ y, tget s'.t 7 = .int .i64 y ∧ ((j < x.ch.ticks ∧ y = kp j) ∨ (j = x.ch.ticks ∧ inN x.ticks y = false))) ?_ x.ch.ticks S
    ⟨0, by omega, by omega, h0, h1, h3, h4, hlim, hI, fr, h7, .inl ⟨htk0, hP.first htk0⟩⟩
  rintro m s' ⟨j, hj, rfl, e0, e1, e3, e4, el, eI, y, e7, ey⟩
  obtain ⟨A, hA⟩ : ∃ A, s'.H = A := ⟨_, rfl⟩
  obtain ⟨v, hv⟩ : ∃ v, tget s'.t 6 = v := ⟨_, rfl⟩
  rw [hA, hv] at eI
  obtain ⟨c1, c2, c3, cE, cS⟩ := hC.there j A v eI
  have hT := fun lim => run_srIsTick x lim A d t s r a b e (h.ext cE) (hsr.near.one) (hsr.flo.one) (hsr.unt.one) y
  have hsx := hsr.ext cE
  have hpx := hp.ext cE
  have h00 := h
  have hb := rho_bound hP hp0 j hj
  obtain ⟨⟨⟨da, dc, ed, _⟩, ⟨ta, tc, et, _⟩, ⟨sa, sc, es, _⟩, _, htl, _⟩, ⟨ra, rc, er, _⟩, _⟩ := h
  obtain ⟨a1, a2, a3, ea⟩ := hsr.near.one
  obtain ⟨b1, b2, b3, eb⟩ := hsr.flo.one
  obtain ⟨e1', e2', e3', ee⟩ := hsr.unt.one
  have cc1 := c1
  simp only [sV, srV, ed, et, es, er, ea, eb, ee] at hT cc1
  by_cases hlt : j < x.ch.ticks
  rotate_left
  · have : j = x.ch.ticks := by omega
    subst this
    have hy : inN x.ticks y = false := by rcases ey with h | h; omega; exact h.2
    rw [hy] at hT
    simp [ptLoop, SC.loops, sf_fixes_search_parts_1, e0, e1, e3, e4, e7, hA, cc1, hT]
    exact hC.fin A v eI
  have hy : y = kp j := by rcases ey with h | h; exact h.2; omega
  rw [hy, hin j hlt] at hT
  rw [hy] at e7
  have hpay := fun lim => run_pay x hok hdo lim A d t s r a b e f v (h00.ext cE) fl hsx p hpx (rho j) hb.1 (by rw [hb.1]; exact cS) hb.2 (hP.lt j hlt) (fun i hi => hp0 _ i (hP.lt j hlt) hi)
  rw [← hP.succ j hlt] at hpay
  obtain ⟨ok, A2, y1, y2, y3⟩ := hC.yield j A v hlt eI
  obtain ⟨va, vc, ev, _⟩ := cS
  obtain ⟨hnf, huf, hcf⟩ := hp.1
  rw [ev] at hpay hv
  simp only [srV, ed, et, es, er, ea, eb, ee] at hpay
  cases ok with
  | false =>
    simp [ptLoop, SC.loops, sf_fixes_search_parts_1, e0, e1, e3, e4, e7, hv, el, hA, cc1, c2, c3, hT, hpay, hn, hnf, y1]
    exact y3 rfl
  | true =>
    have hIn := y2 rfl
    obtain ⟨k1, k2, k3, kE, kS⟩ := hC.there _ _ _ hIn
    obtain ⟨w0, w1, hw⟩ : ∃ w, IntKind.i64.wrap ((kp j : Int) + st) = w ∧ ((j + 1 < x.ch.ticks ∧ w = kp (j + 1)) ∨ (j + 1 = x.ch.ticks ∧ inN x.ticks w = false)) := by
      by_cases h1 : j + 1 < x.ch.ticks
      · have := hP.next j h1
        have h2 := hP.lt (j + 1) h1
        refine ⟨kp (j + 1), ?_, .inl ⟨h1, rfl⟩⟩
        rw [this]; exact wrap_i64 (by omega) (by omega)
      · obtain ⟨l1, l2, l3⟩ := hP.last j (by omega)
        exact ⟨_, wrap_i64 l2 l3, .inr ⟨by omega, l1⟩⟩
    simp [ptLoop, SC.loops, sf_fixes_search_parts_1, e0, e1, e3, e4, e7, hv, el, hA, cc1, c2, c3, hT, hpay, hn, hnf, y1, k1, k2, k3, w1]
    exact ⟨_, by omega, j + 1, by omega, rfl, hIn, hw⟩
end Go.Proofs.YtmdnpaboaelkeaaGreatDoor
namespace Go.Proofs.YtmdnpaboaelkeaaGreatDoor
open Go Go.RowKit
theorem yield_round {l : Nat} {B : AH} {r : ARec} {args : List Value} {lim : Nat} (hl : B[l]? = some (.loop r)) (h0 : r.st = 0) (hlim : lim ≤ r.lim) (hlim2 : lim ≤ l) (hlen : args.length = r.ps.length) {t1 : TS}
    (ha : ∀ X, exL Tryz.prog pf r.asg ⟨(r.ps.zip args).reverse ++ r.t, r.L, X, r.lim, some l⟩ = some (.normal, ⟨t1, r.L, X, r.lim, some l⟩)) {e : Ex} {s' : St}
    (hb : exL Tryz.prog pf r.body ⟨t1, r.L, B.set l (.loop { r with st := 1, L := [] }), r.lim, some l⟩ = some (e, s')) {r2 : ARec} (h4 : s'.H[l]? = some (.loop r2)) :
    apL Tryz.prog pf (.func (.yield l) #[] #[]) args lim B = some (.bool (decide (e = .normal)), s'.H.set l (.loop { r with st := if e = .normal then 0 else 2, pend := if e = .normal then none else some e, L := s'.L })) := by
  have hll : l < B.length := (List.getElem?_eq_some_iff.1 hl).1
  refine apL_yield (r := r) (r1 := { r with st := 4, L := [] }) hl ⟨rfl, h0, hlim, hlim2, hlen⟩ (ha _) (by simp [hll]) rfl (s' := s') ?_ h4
  simp only [List.set_set]
  exact hb
theorem exL_range {f : Operand} {ps : List Tmp} {asg body : SC} {S : St} {fv : Value} (hf : S.ev f = fv) (hn : nl fv = true) (hi : isFn fv = true) (hrd : S.rd = none) {A' : AH} {v : Value} {r : ARec}
    (hcall : apL Tryz.prog pf fv [.func (.yield S.H.length) #[] #[]] S.lim (S.H ++ [.loop ⟨0, none, S.t, S.L, S.lim, ps, asg, body⟩]) = some (v, A')) (hr : A'[S.H.length]? = some (.loop r)) (hst : r.st = 0 ∨ r.st = 2) :
    exL Tryz.prog pf (.rng f ps asg body) S = some (r.pend.getD .normal, { S with L := r.L, H := A'.set S.H.length .dead }) := by
  have hg : ¬ (rdOk S = false ∨ nl (S.ev f) = false ∨ isFn (S.ev f) = false) := by
    have h1 : rdOk S = true := by unfold rdOk; rw [hrd]
    rw [hf, h1, hn, hi]; simp
  rw [exL_rng, if_neg hg, hf, hcall]
  simp only [hr]
  rw [if_neg (by omega)]
theorem run_pt (x : Ds) (hok : ChOk x.ch) (hdo : dsOk x = true) (H : AH) (d t s r a b e f : Value) (h : DsIn H x d t s r) (fl : Nat → Nat → Bool) (hsr : SrIn H x fl a b e) (p : Nat → Nat → Int) (hp : IsPr H f x.ch.ticks x.ch.cells p) (hp0 : ∀ k i, k < x.ch.ticks → i < x.ch.cells → 0 ≤ p k i) (fr st : Int) (kp : Nat → Nat) (rho : Nat → List Int) (hP : PtS x fl p fr st kp rho) (n lim : Nat) (fv : Value) (hn : nl fv = true) (Inv : Nat → AH → Value → Prop) (Done : AH → Prop) (hC : PtC x H d t s r a b e f st kp rho n lim fv Inv Done)
    (A : AH) (hA1 : A[n]? = some (.rw 0 (sV x d t s r a b e))) (hA2 : A[n + 1]? = some (.rw 0 [.int .i64 fr])) (hI : Inv 0 (A ++ [.rw 1 (ints (rho 0))]) (.slice (some ⟨A.length, 0, none⟩) x.ch.cells x.ch.cells)) :
    ∃ A', apL Tryz.prog pf (ptV n) [fv] lim A = some (.tuple #[], A') ∧ Done A' := by
  unfold ptV
  rw [apL_func _ _ _ _ _ _ (by rfl), sf_fixes_search_parts_1_eq]
  have h00 := h
  obtain ⟨p0, p1⟩ := hok.pos
  obtain ⟨⟨⟨da, dc, ed, _⟩, ⟨ta, tc, et, _⟩, ⟨sa, sc, es, _⟩, _, htl, _⟩, ⟨ra, rc, er, _⟩, _⟩ := h
  obtain ⟨a1, a2, a3, ea⟩ := hsr.near.one
  obtain ⟨b1, b2, b3, eb⟩ := hsr.flo.one
  obtain ⟨e1', e2', e3', ee⟩ := hsr.unt.one
  have cc1 := hA1
  simp only [sV, ed, et, es, er, ea, eb, ee] at cc1
  have hmx : x.ch.cells ≤ maxA := Nat.le_trans (show x.ch.cells ≤ 144 by omega) (by decide)
  have hdl : x.ch.depth.length = x.ch.cells := rfl
  have hrz : ints (List.replicate x.ch.cells 0) = ints (rho 0) := by rw [hP.zero]
  have hA2' : ∀ y : AH, (A ++ y)[n + 1]? = some (.rw 0 [.int .i64 fr]) := fun y => own_get hA2 y
  simp [sf_fixes_search_parts_1, cc1, hA2', hdl, hmx, zeros_ints, hrz, pf_pure, pureF]
  generalize hS : ({ t := _, L := _, H := _, lim := _, rd := _ } : St) = S
  obtain ⟨⟨q, s1⟩, hr, q1, q2⟩ := pt_loop x hok hdo H d t s r a b e f h00 fl hsr p hp hp0 fr st kp rho hP n lim fv hn Inv Done hC S (by subst hS; simp) (by subst hS; simp) (by subst hS; simp) (by subst hS; simp) (by subst hS; simp) (by subst hS; simpa using hI) (by subst hS; rfl)
  simp [ptLoop, SC.loops, sf_fixes_search_parts_1] at hr
  rw [hr]
  simp only at q1 q2
  rcases q1 with rfl | rfl
  · simp; exact q2
  · simp; exact q2
def atAsg : SC := match sf_fixes_search_partsAt.body with | .seq _ (.seq (.seq _ (.block _ (.rng _ _ a _))) _) => a | _ => .skip
def atBody : SC := match sf_fixes_search_partsAt.body with | .seq _ (.seq (.seq _ (.block _ (.rng _ _ _ b))) _) => b | _ => .skip
def atR (T : TS) (L : LS) (lim : Nat) : ARec := ⟨0, none, T, L, lim, [10, 11], atAsg, atBody⟩
theorem set_same {A : AH} {l : Nat} {x : ABlk} (h : A[l]? = some x) : A.set l x = A := by
  apply List.ext_getElem?
  intro c
  by_cases hc : l = c
  · subst hc; rw [List.getElem?_set_self (List.getElem?_eq_some_iff.1 h).1, h]
  · rw [List.getElem?_set_ne hc]
def AtI (x : Ds) (H : AH) (T : TS) (L : LS) (kp : Nat → Nat) (rho : Nat → List Int) (J : Nat) (j : Nat) (A : AH) (v : Value) : Prop :=
  j ≤ J ∧ Aft H A ∧ A[H.length]? = some (.loop (atR T L H.length)) ∧ Sl A v x.ch.cells (ints (rho j))
def AtD (x : Ds) (H : AH) (T : TS) (L : LS) (rho : Nat → List Int) (J : Nat) (A : AH) : Prop :=
  Aft H A ∧ ∃ bw L', H.length < bw ∧ A[H.length]? = some (.loop { atR T L H.length with st := 2, pend := some .ret, L := L' }) ∧ lget L' 6 = some (0, .cells [.slice (some ⟨bw, 0, none⟩) x.ch.cells x.ch.cells]) ∧ A[bw]? = some (.rw 1 (ints (rho (J + 1))))
theorem at_C (x : Ds) (H : AH) (d t s r a b e f : Value) (fl : Nat → Nat → Bool) (p : Nat → Nat → Int) (fr st : Int) (kp : Nat → Nat) (rho : Nat → List Int) (hinj : ∀ i j, i < x.ch.ticks → j < x.ch.ticks → kp i = kp j → i = j) {J : Nat} (hJ : J < x.ch.ticks) (hrl : ∀ j, j ≤ x.ch.ticks → (rho j).length = x.ch.cells) (n : Nat) (hn1 : H[n]? = some (.rw 0 (sV x d t s r a b e))) (hn2 : H[n + 2]? = some (.rw 0 [.int .i64 st])) (hn3 : H[n + 3]? = some (.rw 0 [f])) (T : TS) (L : LS)
    (h4 : tget T 4 = .pointer (some ⟨4, 0, some 0⟩)) (h6 : tget T 6 = .pointer (some ⟨6, 0, some 0⟩)) (hL4 : lget L 4 = some (0, .cells [.int .i64 (kp J : Nat)])) (hL6 : lget L 6 = some (0, .cells [.slice none 0 0])) :
    PtC x H d t s r a b e f st kp rho n H.length (.func (.yield H.length) #[] #[]) (AtI x H T L kp rho J) (AtD x H T L rho J) := by
  refine ⟨fun j A v hI => ?_, fun j A v hj hI => ?_, fun A v hI => ?_⟩
  · obtain ⟨i1, ⟨K, rfl⟩, i3, i4⟩ := hI
    exact ⟨own_get hn1 K, own_get hn2 K, own_get hn3 K, Ext.push H K, i4⟩
  · obtain ⟨i1, i2, i3, i4⟩ := hI
    have hle := i2.le
    have hl : H.length < A.length := (List.getElem?_eq_some_iff.1 i3).1
    obtain ⟨B, hB⟩ : ∃ B, B = A ++ [.rw 1 [.int .i64 1201], .rw 1 (ints (rho (j + 1)))] := ⟨_, rfl⟩
    have hBl : B[H.length]? = some (.loop (atR T L H.length)) := by rw [hB]; exact own_get i3 _
    have hBA : Aft H B := by rw [hB]; exact i2.push _
    have hBw : B[A.length + 1]? = some (.rw 1 (ints (rho (j + 1)))) := by rw [hB, List.getElem?_append_right (by omega)]; simp
    rw [← hB]
    have ha : ∀ Y, exL Tryz.prog pf atAsg ⟨([10, 11].zip [Value.int .i64 (kp j : Nat), .slice (some ⟨A.length + 1, 0, none⟩) x.ch.cells x.ch.cells]).reverse ++ T, L, Y, H.length, some H.length⟩ = some (.normal, ⟨(8, .slice (some ⟨A.length + 1, 0, none⟩) x.ch.cells x.ch.cells) :: (7, .int .i64 (kp j : Nat)) :: (11, .slice (some ⟨A.length + 1, 0, none⟩) x.ch.cells x.ch.cells) :: (10, .int .i64 (kp j : Nat)) :: T, L, Y, H.length, some H.length⟩) := fun Y => by
      simp [atAsg, sf_fixes_search_partsAt]
    have hset1 : ∀ z, (B.set H.length z)[H.length]? = some z := fun z => by rw [List.getElem?_set_self (by rw [hB]; simp; omega)]
    by_cases hjJ : j = J
    · have key : ∃ s', exL Tryz.prog pf atBody ⟨(8, .slice (some ⟨A.length + 1, 0, none⟩) x.ch.cells x.ch.cells) :: (7, .int .i64 (kp j : Nat)) :: (11, .slice (some ⟨A.length + 1, 0, none⟩) x.ch.cells x.ch.cells) :: (10, .int .i64 (kp j : Nat)) :: T, L, B.set H.length (.loop { atR T L H.length with st := 1, L := [] }), H.length, some H.length⟩ = some (.ret, s') ∧ s'.H = B.set H.length (.loop { atR T L H.length with st := 1, L := [] }) ∧ lget s'.L 6 = some (0, .cells [.slice (some ⟨A.length + 1, 0, none⟩) x.ch.cells x.ch.cells]) := by
        simp [atBody, sf_fixes_search_partsAt, h4, h6, hL4, hL6, hjJ]
      obtain ⟨s', z1, z2, z3⟩ := key
      have hy := yield_round (l := H.length) (B := B) (r := atR T L H.length) (args := [.int .i64 (kp j : Nat), .slice (some ⟨A.length + 1, 0, none⟩) x.ch.cells x.ch.cells]) (lim := H.length) hBl rfl (Nat.le_refl _) (Nat.le_refl _) rfl ha (e := .ret) (s' := s') z1 (r2 := { atR T L H.length with st := 1, L := [] }) (by rw [z2, hset1])
      refine ⟨false, _, hy, (fun h => by cases h), fun _ => ?_⟩
      rw [z2, List.set_set]
      refine ⟨hBA.set (Nat.le_refl _) _, A.length + 1, s'.L, by omega, ?_, z3, ?_⟩
      · exact hset1 _
      · rw [List.getElem?_set_ne (by omega), hBw, hjJ]
    · have hne : ((kp j : Int) == (kp J : Int)) = false := by
        have : kp j ≠ kp J := fun e => hjJ (hinj j J hj hJ e)
        simp; omega
      have key : ∃ s', exL Tryz.prog pf atBody ⟨(8, .slice (some ⟨A.length + 1, 0, none⟩) x.ch.cells x.ch.cells) :: (7, .int .i64 (kp j : Nat)) :: (11, .slice (some ⟨A.length + 1, 0, none⟩) x.ch.cells x.ch.cells) :: (10, .int .i64 (kp j : Nat)) :: T, L, B.set H.length (.loop { atR T L H.length with st := 1, L := [] }), H.length, some H.length⟩ = some (.normal, s') ∧ s'.H = B.set H.length (.loop { atR T L H.length with st := 1, L := [] }) ∧ s'.L = L := by
        simp [atBody, sf_fixes_search_partsAt, h4, h6, hL4, hL6, hne]
      obtain ⟨s', z1, z2, z3⟩ := key
      have hy := yield_round (l := H.length) (B := B) (r := atR T L H.length) (args := [.int .i64 (kp j : Nat), .slice (some ⟨A.length + 1, 0, none⟩) x.ch.cells x.ch.cells]) (lim := H.length) hBl rfl (Nat.le_refl _) (Nat.le_refl _) rfl ha (e := .normal) (s' := s') z1 (r2 := { atR T L H.length with st := 1, L := [] }) (by rw [z2, hset1])
      have hA2 : s'.H.set H.length (.loop { atR T L H.length with st := if Ex.normal = Ex.normal then 0 else 2, pend := if Ex.normal = Ex.normal then none else some .normal, L := s'.L }) = B := by
        rw [z2, List.set_set, z3]
        exact set_same hBl
      rw [hA2] at hy
      refine ⟨true, B, hy, fun _ => ⟨by omega, hBA, hBl, ?_⟩, fun h => by cases h⟩
      have := Sl.made hBw rfl (k := x.ch.cells)
      rw [hrl (j + 1) (by omega)] at this
      exact this
  · obtain ⟨i1, _⟩ := hI
    omega
theorem run_partsAt (x : Ds) (hok : ChOk x.ch) (hdo : dsOk x = true) (lim : Nat) (H : AH) (d t s r a b e f : Value) (h : DsIn H x d t s r) (fl : Nat → Nat → Bool) (hsr : SrIn H x fl a b e) (p : Nat → Nat → Int) (hp : IsPr H f x.ch.ticks x.ch.cells p) (hp0 : ∀ k i, k < x.ch.ticks → i < x.ch.cells → 0 ≤ p k i) (fr st : Int) (kp : Nat → Nat) (rho : Nat → List Int) (hP : PtS x fl p fr st kp rho) (hinj : ∀ i j, i < x.ch.ticks → j < x.ch.ticks → kp i = kp j → i = j) {J : Nat} (hJ : J < x.ch.ticks) (n : Nat) (hn1 : H[n]? = some (.rw 0 (sV x d t s r a b e))) (hn0 : H[n + 1]? = some (.rw 0 [.int .i64 fr])) (hn2 : H[n + 2]? = some (.rw 0 [.int .i64 st])) (hn3 : H[n + 3]? = some (.rw 0 [f])) :
    ∃ A bw, apL Tryz.prog pf (.func (.func 86) #[] #[]) [srV x d t s r a b e, .int .i64 (kp J : Nat), ptV n] lim H = some (.slice (some ⟨bw, 0, none⟩) x.ch.cells x.ch.cells, A) ∧ Aft H A ∧ H.length ≤ bw ∧ A[bw]? = some (.rw 1 (ints (rho (J + 1)))) := by
  rw [apL_func _ _ _ _ _ _ (by rfl), sf_fixes_search_partsAt_eq]
  have h00 := h
  obtain ⟨⟨⟨da, dc, ed, _⟩, ⟨ta, tc, et, _⟩, ⟨sa, sc, es, _⟩, _, htl, _⟩, ⟨ra, rc, er, _⟩, _⟩ := h
  obtain ⟨a1, a2, a3, ea⟩ := hsr.near.one
  obtain ⟨b1, b2, b3, eb⟩ := hsr.flo.one
  obtain ⟨e1', e2', e3', ee⟩ := hsr.unt.one
  simp [-oneC, oneC_slice, sf_fixes_search_partsAt, srV, ptV, ed, et, es, er, ea, eb, ee, pf_pure, pureF]
  generalize hS : ({ t := _, L := _, H := _, lim := _, rd := _ } : St) = S
  have eH : S.H = H := by subst hS; rfl
  have el : S.lim = H.length := by subst hS; rfl
  have hrl : ∀ j, j ≤ x.ch.ticks → (rho j).length = x.ch.cells := fun j hj => (rho_bound hP hp0 j hj).1
  have hr0 : (H ++ [.loop (atR S.t S.L H.length)] ++ [.rw 1 (ints (rho 0))] : AH)[H.length + 1]? = some (.rw 1 (ints (rho 0))) := by rw [List.getElem?_append_right (by simp)]; simp
  obtain ⟨A', y1, y2, bw, L', y3, y4, y5, y6⟩ := run_pt x hok hdo H d t s r a b e f h00 fl hsr p hp hp0 fr st kp rho hP n H.length (.func (.yield H.length) #[] #[]) (by simp) _ _ (at_C x H d t s r a b e f fl p fr st kp rho hinj hJ hrl n hn1 hn2 hn3 S.t S.L (by subst hS; simp) (by subst hS; simp) (by subst hS; simp) (by subst hS; simp))
    (H ++ [.loop (atR S.t S.L H.length)]) (own_get hn1 _) (own_get hn0 _) ⟨by omega, ((Aft.refl H).push _).push _, by rw [List.append_assoc, List.getElem?_append_right (Nat.le_refl _), Nat.sub_self]; rfl, by
      have := Sl.made (n := x.ch.cells) (k := x.ch.cells) hr0 (hrl 0 (by omega)).symm
      rw [hrl 0 (by omega)] at this
      simpa using this⟩
  have hx := exL_range (f := .tmp 9) (ps := [10, 11]) (asg := atAsg) (body := atBody) (S := S) (fv := ptV n) (by subst hS; simp [ptV]) (by simp [ptV]) rfl (by subst hS; rfl) (A' := A') (v := .tuple #[]) (r := { atR S.t S.L H.length with st := 2, pend := some .ret, L := L' })
    (by rw [eH, el]; exact y1) (by rw [eH]; exact y4) (.inr rfl)
  simp only [atAsg, atBody, sf_fixes_search_partsAt] at hx
  rw [hx]
  have j6 : tget S.t 6 = .pointer (some ⟨6, 0, some 0⟩) := by subst hS; simp
  rw [eH]
  simp [j6, y5]
  refine ⟨A'.set H.length .dead, bw, ?_, y2.set (Nat.le_refl _) _, by omega, ?_⟩
  · first | exact ⟨rfl, rfl⟩ | simp
  rw [List.getElem?_set_ne (by omega), y6]
end Go.Proofs.YtmdnpaboaelkeaaGreatDoor
namespace Go.Proofs.YtmdnpaboaelkeaaGreatDoor
open Go Go.RowKit
def demP (x : Ds) (all : Nat) (k i : Nat) : Int := if denyM x k i x.reps.length &&& all = 0 then ((bitsN (denyM x k i x.reps.length) 12 : Nat) : Int) else 1201
def demF (sb ab : Nat) : Value := .func (.func 90) #[] #[.pointer (some ⟨sb, 0, none⟩), .pointer (some ⟨ab, 0, none⟩)]
theorem unt_cell {x : Ds} {H : AH} {fl : Nat → Nat → Bool} {a b e : Value} (hsr : SrIn H x fl a b e) {k i : Nat} (hk : k < x.ch.ticks) (hi : i < x.ch.cells) :
    ∃ eb eo ec eb' eo' ec', e = .slice (some ⟨eb, eo, none⟩) x.ch.ticks ec ∧ hcell H eb (eo + k) = some (.slice (some ⟨eb', eo', none⟩) x.ch.cells ec') ∧ hcell H eb' (eo' + i) = some (.int .u64 (denyM x k i x.reps.length : Nat)) := by
  have hl : (untV x k).length = x.ch.cells := by simp [untV, u64s]
  obtain ⟨eb, eo, ec, eb', eo', ec', h1, h2, h3⟩ := tb_cell hsr.unt hk (i := i) (by rw [hl]; exact hi)
  refine ⟨eb, eo, ec, eb', eo', ec', h1, by rw [h2, hl], ?_⟩
  rw [h3]
  simp [untV, u64s]
theorem isPr_dem (x : Ds) (H : AH) (d t s r a b e : Value) (h : DsIn H x d t s r) (hl : x.reps.length ≤ 12) (fl : Nat → Nat → Bool) (hsr : SrIn H x fl a b e) (sb ab all : Nat) (hall : all < 2 ^ 64) (h1 : H[sb]? = some (.rw 0 (sV x d t s r a b e))) (h2 : H[ab]? = some (.rw 0 [.int .u64 all])) :
    IsPr H (demF sb ab) x.ch.ticks x.ch.cells (demP x all) := by
  refine ⟨⟨by simp [demF], rfl, rfl⟩, fun H' hH k i hk hi lim => ?_⟩
  have k1 := hH _ _ h1
  have k2 := hH _ _ h2
  unfold demF
  rw [apL_func _ _ _ _ _ _ (by rfl), sf_fixes_search_demands_1_eq]
  obtain ⟨eb, eo, ec, eb', eo', ec', ee, g1, g2⟩ := unt_cell (hsr.ext hH) hk hi
  obtain ⟨⟨⟨da, dc, ed, _⟩, ⟨ta, tc, et, _⟩, ⟨sa, sc, es, _⟩, _, htl, _⟩, ⟨ra, rc, er, _⟩, _⟩ := h
  have hlt := denyM_lt x k i hl
  have hsz := fun lim => run_size (n := denyM x k i x.reps.length) hlt lim H'
  have hand := u64_and (a := denyM x k i x.reps.length) (b := all) (by omega) hall
  simp only [sV] at k1
  simp only [hcell] at g1 g2
  have hdp : demP x all k i = if denyM x k i x.reps.length &&& all = 0 then ((bitsN (denyM x k i x.reps.length) 12 : Nat) : Int) else 1201 := rfl
  rw [hdp]
  generalize denyM x k i x.reps.length = n at *
  have hbits : IntKind.u64.bits = 64 := rfl
  have hnm : n % 18446744073709551616 = n := Nat.mod_eq_of_lt (by omega)
  have ham : all % 18446744073709551616 = all := Nat.mod_eq_of_lt (by omega)
  have hw : IntKind.u64.wrap ((n &&& all : Nat) : Int) = ((n &&& all : Nat) : Int) := wrap_u64 (Nat.lt_of_le_of_lt Nat.and_le_left (by omega))
  by_cases hc : n &&& all = 0
  · have hb : (IntKind.u64.wrap 0 != 0) = false := by decide
    simp [hb, sf_fixes_search_demands_1, k1, k2, ee, g1, g2, hk, hi, hbits, hnm, ham, hw, hsz, hc, pf_pure, pureF]
  · have hb : (((n &&& all : Nat) : Int) != 0) = true := by simp; omega
    simp [sf_fixes_search_demands_1, k1, k2, ee, g1, g2, hk, hi, hbits, hnm, ham, hw, hsz, hc, hb, pf_pure, pureF]
theorem run_demands (x : Ds) (lim : Nat) (H : AH) (d t s r a b e : Value) (h : DsIn H x d t s r) (ha : OneS a) (hb : OneS b) (he : OneS e) (all : Nat) :
    apL Tryz.prog pf (.func (.func 46) #[] #[]) [srV x d t s r a b e, .int .u64 all] lim H = some (demF H.length (H.length + 1), H ++ [.rw 0 (sV x d t s r a b e), .rw 0 [.int .u64 all]]) := by
  rw [apL_func _ _ _ _ _ _ (by rfl), sf_fixes_search_demands_eq]
  obtain ⟨⟨⟨da, dc, ed, _⟩, ⟨ta, tc, et, _⟩, ⟨sa, sc, es, _⟩, _, htl, _⟩, ⟨ra, rc, er, _⟩, _⟩ := h
  obtain ⟨a1, a2, a3, ea⟩ := ha
  obtain ⟨b1, b2, b3, eb⟩ := hb
  obtain ⟨e1, e2, e3, ee⟩ := he
  simp [sf_fixes_search_demands, srV, sV, demF, ed, et, es, er, ea, eb, ee, pf_pure, pureF]
end Go.Proofs.YtmdnpaboaelkeaaGreatDoor
namespace Go.Proofs.YtmdnpaboaelkeaaGreatDoor
open Go Go.RowKit
theorem ptS_fore {x : Ds} (hok : ChOk x.ch) (fl : Nat → Nat → Bool) (p : Nat → Nat → Int) : PtS x fl p 0 1 (fun j => j) (foreN x fl p) := by
  have htk : x.ch.ticks ≤ 60 := hok.2.2.2.1.2
  have hd : x.ticks = x.ch.ticks := rfl
  refine ⟨fun _ => rfl, fun j _ => by omega, fun j hj => ⟨?_, by omega, by omega⟩, fun j hj => hj, rfl, fun j _ => rfl⟩
  unfold inN
  rw [hd]
  simp
  omega
theorem ptS_back {x : Ds} (hok : ChOk x.ch) (fl : Nat → Nat → Bool) (p : Nat → Nat → Int) : PtS x fl p ((x.ch.tide.length : Int) - 1) (-1) (fun j => x.ch.ticks - 1 - j) (backN x fl p) := by
  have htk : x.ch.ticks ≤ 60 := hok.2.2.2.1.2
  have htk0 : 0 < x.ch.ticks := hok.2.2.2.1.1
  have hd : x.ticks = x.ch.ticks := rfl
  have hd2 : x.ch.tide.length = x.ch.ticks := rfl
  refine ⟨fun _ => ?_, fun j hj => ?_, fun j hj => ⟨?_, by omega, by omega⟩, fun j hj => ?_, rfl, fun j _ => rfl⟩
  · show ((x.ch.tide.length : Int) - 1) = ((x.ch.ticks - 1 - 0 : Nat) : Int); rw [hd2]; omega
  · show ((x.ch.ticks - 1 - j : Nat) : Int) + -1 = ((x.ch.ticks - 1 - (j + 1) : Nat) : Int); omega
  · unfold inN
    simp
    omega
  · show x.ch.ticks - 1 - j < x.ch.ticks; omega
theorem run_lastTick (x : Ds) (lim : Nat) (H : AH) (d t s r a b e : Value) (h : DsIn H x d t s r) (ha : OneS a) (hb : OneS b) (he : OneS e) : apL Tryz.prog pf (.func (.func 88) #[] #[]) [srV x d t s r a b e] lim H = some (.int .i64 ((x.ch.tide.length : Int) - 1), H) := by
  rw [apL_func _ _ _ _ _ _ (by rfl), sf_fixes_search_lastTick_eq]
  obtain ⟨⟨⟨da, dc, ed, _⟩, ⟨ta, tc, et, _⟩, ⟨sa, sc, es, _⟩, _, htl, _⟩, ⟨ra, rc, er, _⟩, _⟩ := h
  obtain ⟨a1, a2, a3, ea⟩ := ha
  obtain ⟨b1, b2, b3, eb⟩ := hb
  obtain ⟨e1, e2, e3, ee⟩ := he
  have hw : IntKind.i64.wrap ((x.ch.tide.length : Int) - 1) = (x.ch.tide.length : Int) - 1 := wrap_i64 (by omega) (by omega)
  simp [sf_fixes_search_lastTick, srV, ed, et, es, er, ea, eb, ee, hw, pf_pure, pureF]
def wiF (bb ab pb tb mb : Nat) : Value := .func (.func 89) #[] #[.pointer (some ⟨bb, 0, none⟩), .pointer (some ⟨ab, 0, none⟩), .pointer (some ⟨pb, 0, none⟩), .pointer (some ⟨tb, 0, none⟩), .pointer (some ⟨mb, 0, none⟩)]
theorem max_dec (P Q : Int) : (max P Q : Int) = if P < Q then Q else P := by split <;> omega
theorem isPn_within (x : Ds) (H : AH) (f : Value) (p : Nat → Nat → Int) (hp : IsPr H f x.ch.ticks x.ch.cells p) {k : Nat} (hk : k < x.ch.ticks) (most : Int) (F B : List Int) (hF : F.length = x.ch.cells) (hB : B.length = x.ch.cells) (hFb : ∀ j, 0 ≤ F.getD j 0 ∧ F.getD j 0 ≤ topN) (hBb : ∀ j, 0 ≤ B.getD j 0 ∧ B.getD j 0 ≤ topN) (hpb : ∀ k i, k < x.ch.ticks → i < x.ch.cells → 0 ≤ p k i ∧ p k i ≤ topN) (bv av : Value) (hbv : Sl H bv F.length (ints F)) (hav : Sl H av B.length (ints B)) (bb ab pb tb mb : Nat)
    (h1 : H[bb]? = some (.rw 0 [bv])) (h2 : H[ab]? = some (.rw 0 [av])) (h3 : H[pb]? = some (.rw 0 [f])) (h4 : H[tb]? = some (.rw 0 [.int .i64 k])) (h5 : H[mb]? = some (.rw 0 [.int .i64 most])) :
    IsPn H (wiF bb ab pb tb mb) x.cells (fun i => decide (max (F.getD i.toNat 0) (B.getD i.toNat 0) < topN) && decide (F.getD i.toNat 0 + B.getD i.toNat 0 - p k i.toNat ≤ most)) := by
  refine ⟨⟨by simp [wiF], rfl, rfl⟩, fun H' hH i hi lim => ?_⟩
  replace hi : i < x.ch.cells := hi
  have k1 := hH _ _ h1
  have k2 := hH _ _ h2
  have k3 := hH _ _ h3
  have k4 := hH _ _ h4
  have k5 := hH _ _ h5
  have hpr := fun lim => hp.2 H' hH k i hk hi lim
  obtain ⟨hnf, huf, hcf⟩ := hp.1
  unfold wiF
  rw [apL_func _ _ _ _ _ _ (by rfl), sf_fixes_search_within_1_eq]
  obtain ⟨fa, fc, ebv, hfd⟩ := hbv.ext hH
  obtain ⟨ba, bc, eav, hbd⟩ := hav.ext hH
  obtain ⟨fb, fo, rfl, g1⟩ := hfd i _ (ints_get F i (by omega))
  obtain ⟨bb', bo, rfl, g2⟩ := hbd i _ (ints_get B i (by omega))
  have q1 := hFb i
  have q2 := hBb i
  have q3 := hpb k i hk hi
  have hT0 : topN = 1201 := rfl
  simp only [hcell] at g1 g2
  have hi1 : i < F.length := by omega
  have hi2 : i < B.length := by omega
  rw [ebv] at k1
  rw [eav] at k2
  show _ = some (Value.bool (decide (max (F.getD (i : Int).toNat 0) (B.getD (i : Int).toNat 0) < topN) && decide (F.getD (i : Int).toNat 0 + B.getD (i : Int).toNat 0 - p k (i : Int).toNat ≤ most)), H')
  rw [Int.toNat_natCast]
  generalize F.getD i 0 = P at *
  generalize B.getD i 0 = Q at *
  generalize p k i = R at *
  have w1 : IntKind.i64.wrap (P + Q) = P + Q := wrap_i64 (by omega) (by omega)
  have w2 : IntKind.i64.wrap (P + Q - R) = P + Q - R := wrap_i64 (by omega) (by omega)
  rw [max_dec]
  by_cases hc : (if P < Q then Q else P) < 1201
  · have hd : decide ((if P < Q then Q else P) < topN) = true := by simpa [hT0] using hc
    rw [hd]
    simp [sf_fixes_search_within_1, k1, k2, k3, k4, k5, g1, g2, hi1, hi2, hpr, hnf, w1, w2, hc, pf_pure, pureF]
  · have hd : decide ((if P < Q then Q else P) < topN) = false := by simpa [hT0] using hc
    rw [hd]
    simp [sf_fixes_search_within_1, k1, k2, k3, k4, k5, g1, g2, hi1, hi2, hc, pf_pure, pureF]
end Go.Proofs.YtmdnpaboaelkeaaGreatDoor
namespace Go.Proofs.YtmdnpaboaelkeaaGreatDoor
open Go Go.RowKit
set_option maxHeartbeats 2000000 in
theorem run_swithin (x : Ds) (hok : ChOk x.ch) (hdo : dsOk x = true) (lim : Nat) (H : AH) (d t s r a b e f : Value) (h : DsIn H x d t s r) (fl : Nat → Nat → Bool) (hsr : SrIn H x fl a b e) (p : Nat → Nat → Int) (hp : IsPr H f x.ch.ticks x.ch.cells p) (hpb : ∀ k i, k < x.ch.ticks → i < x.ch.cells → 0 ≤ p k i ∧ p k i ≤ topN) {k : Nat} (hk : k < x.ch.ticks) (most : Int) :
    ∃ v A, apL Tryz.prog pf (.func (.func 45) #[] #[]) [srV x d t s r a b e, f, .int .i64 k, .int .i64 most] lim H = some (v, A) ∧ Aft H A ∧ OwnA H.length A v (thoseN (fun i => withinB x fl p k most i.toNat) x.cells) := by
  rw [apL_func _ _ _ _ _ _ (by rfl), sf_fixes_search_within_eq]
  have hp0 : ∀ k i, k < x.ch.ticks → i < x.ch.cells → 0 ≤ p k i := fun k i hk hi => (hpb k i hk hi).1
  have h0 := h
  have oa := hsr.near.one
  have ob := hsr.flo.one
  have oe := hsr.unt.one
  obtain ⟨H1, hH1⟩ : ∃ H1, H1 = H ++ [.rw 0 (sV x d t s r a b e), .rw 0 [.int .i64 0], .rw 0 [.int .i64 1], .rw 0 [f]] := ⟨_, rfl⟩
  have hP1 := fun lim => run_parts x lim H d t s r a b e f h oa ob oe hp.1 0 1
  rw [← hH1] at hP1
  have hl1 : H1.length = H.length + 4 := by rw [hH1]; simp
  have hA1 : Aft H H1 := by rw [hH1]; exact (Aft.refl H).push _
  have g10 : H1[H.length]? = some (.rw 0 (sV x d t s r a b e)) := by rw [hH1, List.getElem?_append_right (Nat.le_refl _), Nat.sub_self]; rfl
  have g11 : H1[H.length + 1]? = some (.rw 0 [.int .i64 0]) := by rw [hH1, List.getElem?_append_right (by omega), Nat.add_sub_cancel_left]; rfl
  have g12 : H1[H.length + 2]? = some (.rw 0 [.int .i64 1]) := by rw [hH1, List.getElem?_append_right (by omega), Nat.add_sub_cancel_left]; rfl
  have g13 : H1[H.length + 3]? = some (.rw 0 [f]) := by rw [hH1, List.getElem?_append_right (by omega), Nat.add_sub_cancel_left]; rfl
  obtain ⟨B1, bw1, hQ1, hB1, hbw1, hBw1⟩ := run_partsAt x hok hdo (H.length + 4) H1 d t s r a b e f (h.ext hA1.ext) fl (hsr.ext hA1.ext) p (hp.ext hA1.ext) hp0 0 1 (fun j => j) (foreN x fl p) (ptS_fore hok fl p) (fun i j _ _ e => e) hk H.length g10 g11 g12 g13
  have hHB1 := hA1.trans hB1
  obtain ⟨H2, hH2⟩ : ∃ H2, H2 = B1 ++ [.rw 0 (sV x d t s r a b e), .rw 0 [.int .i64 ((x.ch.tide.length : Int) - 1)], .rw 0 [.int .i64 (-1)], .rw 0 [f]] := ⟨_, rfl⟩
  have hP2 := fun lim => run_parts x lim B1 d t s r a b e f (h.ext hHB1.ext) oa ob oe hp.1 ((x.ch.tide.length : Int) - 1) (-1)
  rw [← hH2] at hP2
  have hLT := fun lim => run_lastTick x lim B1 d t s r a b e (h.ext hHB1.ext) oa ob oe
  have hA2 : Aft B1 H2 := by rw [hH2]; exact (Aft.refl B1).push _
  have hHH2 := hHB1.trans hA2
  have g20 : H2[B1.length]? = some (.rw 0 (sV x d t s r a b e)) := by rw [hH2, List.getElem?_append_right (Nat.le_refl _), Nat.sub_self]; rfl
  have g21 : H2[B1.length + 1]? = some (.rw 0 [.int .i64 ((x.ch.tide.length : Int) - 1)]) := by rw [hH2, List.getElem?_append_right (by omega), Nat.add_sub_cancel_left]; rfl
  have g22 : H2[B1.length + 2]? = some (.rw 0 [.int .i64 (-1)]) := by rw [hH2, List.getElem?_append_right (by omega), Nat.add_sub_cancel_left]; rfl
  have g23 : H2[B1.length + 3]? = some (.rw 0 [f]) := by rw [hH2, List.getElem?_append_right (by omega), Nat.add_sub_cancel_left]; rfl
  obtain ⟨B2, bw2, hQ2, hB2, hbw2, hBw2⟩ := run_partsAt x hok hdo H.length H2 d t s r a b e f (h.ext hHH2.ext) fl (hsr.ext hHH2.ext) p (hp.ext hHH2.ext) hp0 ((x.ch.tide.length : Int) - 1) (-1) (fun j => x.ch.ticks - 1 - j) (backN x fl p) (ptS_back hok fl p) (fun i j hi hj e => by have e' : x.ch.ticks - 1 - i = x.ch.ticks - 1 - j := e; omega) (J := x.ch.ticks - 1 - k) (by omega) B1.length g20 g21 g22 g23
  have hHB2 := hHH2.trans hB2
  have ek : x.ch.ticks - 1 - (x.ch.ticks - 1 - k) = k := by omega
  have ek2 : x.ch.ticks - 1 - k + 1 = x.ch.ticks - k := by omega
  simp only [ek] at hQ2
  rw [ek2] at hBw2
  have hBw1' : B2[bw1]? = some (.rw 1 (ints (foreN x fl p (k + 1)))) := by
    obtain ⟨K, hK⟩ := hA2.trans hB2
    rw [hK]; exact own_get hBw1 K
  obtain ⟨H3, hH3⟩ : ∃ H3, H3 = B2 ++ [.rw 0 [.slice (some ⟨bw1, 0, none⟩) x.ch.cells x.ch.cells], .rw 0 [.slice (some ⟨bw2, 0, none⟩) x.ch.cells x.ch.cells], .rw 0 [f], .rw 0 [.int .i64 (k : Int)], .rw 0 [.int .i64 most]] := ⟨_, rfl⟩
  have hA3 : Aft B2 H3 := by rw [hH3]; exact (Aft.refl B2).push _
  have hHH3 := hHB2.trans hA3
  have hfl := foreN_len x fl p (k + 1)
  have hbl := backN_len x fl p (x.ch.ticks - k)
  have sl1 : Sl H3 (.slice (some ⟨bw1, 0, none⟩) x.ch.cells x.ch.cells) (foreN x fl p (k + 1)).length (ints (foreN x fl p (k + 1))) := Sl.made (by rw [hH3]; exact own_get hBw1' _) hfl.symm
  have sl2 : Sl H3 (.slice (some ⟨bw2, 0, none⟩) x.ch.cells x.ch.cells) (backN x fl p (x.ch.ticks - k)).length (ints (backN x fl p (x.ch.ticks - k))) := Sl.made (by rw [hH3]; exact own_get hBw2 _) hbl.symm
  have hPn := isPn_within x H3 f p (hp.ext hHH3.ext) hk most (foreN x fl p (k + 1)) (backN x fl p (x.ch.ticks - k)) hfl hbl (foreN_bound hp0 (k + 1) (by omega)) (backN_bound hp0 (x.ch.ticks - k) (by omega)) hpb _ _ sl1 sl2 B2.length (B2.length + 1) (B2.length + 2) (B2.length + 3) (B2.length + 4)
    (by rw [hH3, List.getElem?_append_right (Nat.le_refl _), Nat.sub_self]; rfl) (by rw [hH3, List.getElem?_append_right (by omega), Nat.add_sub_cancel_left]; rfl) (by rw [hH3, List.getElem?_append_right (by omega), Nat.add_sub_cancel_left]; rfl) (by rw [hH3, List.getElem?_append_right (by omega), Nat.add_sub_cancel_left]; rfl) (by rw [hH3, List.getElem?_append_right (by omega), Nat.add_sub_cancel_left]; rfl)
  replace hPn : IsPn H3 (wiF B2.length (B2.length + 1) (B2.length + 2) (B2.length + 3) (B2.length + 4)) x.cells (fun i => withinB x fl p k most i.toNat) := hPn
  obtain ⟨v, A, hC, hA, hO⟩ := run_cells x (by have := hok.pos.2; show x.ch.cells ≤ 1000; omega) _ H.length H3 d t s r a b e _ (h.ext hHH3.ext) oa ob oe hPn
  have hHA := hHH3.trans hA
  rw [hH3] at hC
  obtain ⟨⟨⟨da, dc, ed, _⟩, ⟨ta, tc, et, _⟩, ⟨sa, sc, es, _⟩, _, htl, _⟩, ⟨ra, rc, er, _⟩, _⟩ := h
  obtain ⟨a1, a2, a3, ea⟩ := oa
  obtain ⟨b1, b2, b3, eb⟩ := ob
  obtain ⟨e1, e2, e3, ee⟩ := oe
  obtain ⟨hf1, hf2, hf3⟩ := hp.1
  simp only [srV, ptV, wiF, ed, et, es, er, ea, eb, ee] at hP1 hP2 hQ1 hQ2 hLT hC
  rcases hO with ⟨z1, rfl⟩ | ⟨z1, b', z2, rfl, z3⟩
  · refine ⟨_, H, ?_, Aft.refl H, .inl ⟨z1, rfl⟩⟩
    simp [-isU, -Value.cells, -oneC, isU_agg, cells_agg, isU_i, cells_i, isU_sl, cells_sl, oneC_slice, -Array.all_toList, sf_fixes_search_within, srV, ed, et, es, er, ea, eb, ee, hf1, hf2, hf3, hP1, hQ1, hP2, hQ2, hLT, hl1, hC, pf_pure, pureF]
  · refine ⟨_, A, ?_, hHA, .inr ⟨z1, b', Nat.le_trans hHH3.le z2, rfl, z3⟩⟩
    simp [-isU, -Value.cells, -oneC, isU_agg, cells_agg, isU_i, cells_i, isU_sl, cells_sl, oneC_slice, -Array.all_toList, sf_fixes_search_within, srV, ed, et, es, er, ea, eb, ee, hf1, hf2, hf3, hP1, hQ1, hP2, hQ2, hLT, hl1, hC, pf_pure, pureF]
end Go.Proofs.YtmdnpaboaelkeaaGreatDoor
namespace Go.Proofs.YtmdnpaboaelkeaaGreatDoor
open Go Go.RowKit
def miLoop : SC := sf_slices_Min_int_int.body.loops.headD .skip
def leastM (l : List Int) (n : Nat) : Int := bestOf (fun _ => true) (fun j => l.getD j 0) n
theorem min_loop (l : List Int) (hl : l.length ≤ 1000) (h0l : 0 < l.length) (hb : ∀ j, l.getD j 0 ≤ neverR) (H : AH) (v : Value) (hv : Sl H v l.length (ints l)) (S : St) (h0 : tget S.t 0 = v) (h3 : tget S.t 3 = .int .i64 (l.getD 0 0)) (h4 : tget S.t 4 = .int .i64 1) (hH : S.H = H) :
    ∃ q, exL Tryz.prog pf (.loop miLoop) S = some q ∧ q.1 = .exit 0 ∧ q.2.H = H ∧ tget q.2.t 3 = .int .i64 (leastM l l.length) := by
  obtain ⟨aa, ac, rfl, hd⟩ := hv
  refine loop_rule (I := fun m s' => ∃ i, 1 ≤ i ∧ i ≤ l.length ∧ m = l.length - i ∧ tget s'.t 0 = .slice aa l.length ac ∧ tget s'.t 4 = .int .i64 i ∧ s'.H = H ∧ tget s'.t 3 = .int .i64 (leastM l i)) ?_ (l.length - 1) S
    ⟨1, by omega, by omega, rfl, h0, h4, hH, by
      rw [h3]
      show Value.int .i64 (l.getD 0 0) = .int .i64 (min neverR (l.getD 0 0))
      have := hb 0
      rw [Int.min_eq_right this]⟩
  rintro m s' ⟨i, i1, hi, rfl, e0, e4, eH, e3⟩
  by_cases hlt : i < l.length
  rotate_left
  · have : i = l.length := by omega
    subst this
    simp [miLoop, SC.loops, sf_slices_Min_int_int, e0, e3, e4, eH]
  obtain ⟨b, o, rfl, g⟩ := hd i _ (ints_get l i hlt)
  simp only [hcell] at g
  have hw : IntKind.i64.wrap ((i : Int) + 1) = (i : Int) + 1 := wrap_i64 (by omega) (by omega)
  have hs : leastM l (i + 1) = min (leastM l i) (l.getD i 0) := rfl
  generalize l.getD i 0 = N at *
  generalize leastM l i = M at *
  simp [miLoop, SC.loops, sf_slices_Min_int_int, e0, e3, e4, eH, hlt, g, hw]
  exact ⟨_, by omega, i + 1, by omega, by omega, rfl, by omega, (min_val M N).trans hs.symm⟩
theorem run_Min (l : List Int) (hl : l.length ≤ 1000) (h0l : 0 < l.length) (hb : ∀ j, l.getD j 0 ≤ neverR) (lim : Nat) (H : AH) (v : Value) (hv : Sl H v l.length (ints l)) :
    apL Tryz.prog pf (.func (.func 95) #[] #[]) [v] lim H = some (.int .i64 (leastM l l.length), H) := by
  rw [apL_func _ _ _ _ _ _ (by rfl), sf_slices_Min_int_int_eq]
  have hv0 := hv
  obtain ⟨aa, ac, ev, hd⟩ := hv
  obtain ⟨b, o, rfl, g⟩ := hd 0 _ (ints_get l 0 h0l)
  simp only [hcell, Nat.add_zero] at g
  have hne : ¬ ((l.length : Int) < 1) := by omega
  have hne2 : ¬ (l.length < 1) := by omega
  have hn0 : ¬ l = [] := by intro e; rw [e] at h0l; simp at h0l
  simp [sf_slices_Min_int_int, ev, hne, hne2, hn0, h0l, g, pf_pure, pureF]
  generalize hS : ({ t := _, L := _, H := _, lim := _, rd := _ } : St) = S
  obtain ⟨⟨e, s1⟩, hr, q1, q2, q3⟩ := min_loop l hl h0l hb H v hv0 S (by subst hS; simp [ev]) (by subst hS; simp [h0l]) (by subst hS; simp) (by subst hS; rfl)
  simp [miLoop, SC.loops, sf_slices_Min_int_int] at hr
  rw [hr]
  simp only at q1 q2 q3
  subst q1
  simp [q2, q3]
def beAsg : SC := match sf_fixes_search_best.body with | .seq _ (.seq _ (.seq (.seq _ (.block _ (.rng _ _ a _))) _)) => a | _ => .skip
def beBody : SC := match sf_fixes_search_best.body with | .seq _ (.seq _ (.seq (.seq _ (.block _ (.rng _ _ _ b))) _)) => b | _ => .skip
def beR (T : TS) (L : LS) (lim : Nat) : ARec := ⟨0, none, T, L, lim, [25, 26], beAsg, beBody⟩
def Rest (x : Ds) (rho : Nat → List Int) (R : Nat) (A : AH) (rv : List Value) (j : Nat) : Prop :=
  rv.length = x.ch.ticks ∧ ∀ i, i < j → ∃ w, R < w ∧ rv[x.ch.ticks - 1 - i]? = some (.slice (some ⟨w, 0, none⟩) x.ch.cells x.ch.cells) ∧ A[w]? = some (.rw 1 (ints (rho (i + 1))))
def BeI (x : Ds) (H : AH) (d t s r a b e f : Value) (T : TS) (L : LS) (rho : Nat → List Int) (j : Nat) (A : AH) (v : Value) : Prop :=
  Aft H A ∧ A[H.length + 1]? = some (.rw 0 (sV x d t s r a b e)) ∧ A[H.length + 3]? = some (.rw 0 [.int .i64 (-1)]) ∧ A[H.length + 4]? = some (.rw 0 [f]) ∧ A[H.length + 5]? = some (.loop (beR T L H.length)) ∧ Sl A v x.ch.cells (ints (rho j)) ∧
    ∃ rv, A[H.length]? = some (.rw 1 rv) ∧ nlL rv = true ∧ Rest x rho (H.length + 5) A rv j
def BeD (x : Ds) (H : AH) (T : TS) (L : LS) (rho : Nat → List Int) (A : AH) : Prop :=
  Aft H A ∧ A[H.length + 5]? = some (.loop (beR T L H.length)) ∧ ∃ rv, A[H.length]? = some (.rw 1 rv) ∧ Rest x rho (H.length + 5) A rv x.ch.ticks
theorem nlL_setV : ∀ (l : List Value) (i : Nat) (v : Value), nlL l = true → nl v = true → nlL (l.set i v) = true
  | [], i, v, h, _ => by cases i <;> exact h
  | a :: l, 0, v, h, hv => by unfold nlL at h; simp only [Bool.and_eq_true] at h; show nlL (v :: l) = true; unfold nlL; simp only [Bool.and_eq_true]; exact ⟨hv, h.2⟩
  | a :: l, i + 1, v, h, hv => by unfold nlL at h; simp only [Bool.and_eq_true] at h; show nlL (a :: l.set i v) = true; unfold nlL; simp only [Bool.and_eq_true]; exact ⟨h.1, nlL_setV l i v h.2 hv⟩
theorem be_C (x : Ds) (H : AH) (d t s r a b e f : Value) (rho : Nat → List Int) (hrl : ∀ j, j ≤ x.ch.ticks → (rho j).length = x.ch.cells) (T : TS) (L : LS) (c7 : Nat)
    (h7 : tget T 7 = .pointer (some ⟨7, 0, some 0⟩)) (hL7 : lget L 7 = some (0, .cells [.slice (some ⟨H.length, 0, none⟩) x.ch.ticks c7])) :
    PtC x H d t s r a b e f (-1) (fun j => x.ch.ticks - 1 - j) rho (H.length + 1) H.length (.func (.yield (H.length + 5)) #[] #[]) (BeI x H d t s r a b e f T L rho) (BeD x H T L rho) := by
  refine ⟨fun j A v hI => ?_, fun j A v hj hI => ?_, fun A v hI => ?_⟩
  · obtain ⟨i1, i2, i3, i4, i5, i6, _⟩ := hI
    exact ⟨i2, i3, i4, i1.ext, i6⟩
  · obtain ⟨i1, i2, i3, i4, i5, i6, rv, i7, i8, i9, i10⟩ := hI
    have hl : H.length + 5 < A.length := (List.getElem?_eq_some_iff.1 i5).1
    obtain ⟨B, hB⟩ : ∃ B, B = A ++ [.rw 1 [.int .i64 1201], .rw 1 (ints (rho (j + 1)))] := ⟨_, rfl⟩
    have hBl : B[H.length + 5]? = some (.loop (beR T L H.length)) := by rw [hB]; exact own_get i5 _
    have hBR : B[H.length]? = some (.rw 1 rv) := by rw [hB]; exact own_get i7 _
    have hBA : Aft H B := by rw [hB]; exact i1.push _
    have hBw : B[A.length + 1]? = some (.rw 1 (ints (rho (j + 1)))) := by rw [hB, List.getElem?_append_right (by omega)]; simp
    have hBk : ∀ c z, A[c]? = some z → B[c]? = some z := fun c z hz => by rw [hB]; exact own_get hz _
    have hBlen : B.length = A.length + 2 := by rw [hB]; simp
    rw [← hB]
    have ha : ∀ Y, exL Tryz.prog pf beAsg ⟨([25, 26].zip [Value.int .i64 (x.ch.ticks - 1 - j : Nat), .slice (some ⟨A.length + 1, 0, none⟩) x.ch.cells x.ch.cells]).reverse ++ T, L, Y, H.length, some (H.length + 5)⟩ = some (.normal, ⟨(9, .slice (some ⟨A.length + 1, 0, none⟩) x.ch.cells x.ch.cells) :: (8, .int .i64 (x.ch.ticks - 1 - j : Nat)) :: (26, .slice (some ⟨A.length + 1, 0, none⟩) x.ch.cells x.ch.cells) :: (25, .int .i64 (x.ch.ticks - 1 - j : Nat)) :: T, L, Y, H.length, some (H.length + 5)⟩) := fun Y => by
      simp [beAsg, sf_fixes_search_best]
    have hjt : x.ch.ticks - 1 - j < x.ch.ticks := by omega
    have hjr : x.ch.ticks - 1 - j + 1 ≤ rv.length := by omega
    have hBR' : ∀ z, (B.set (H.length + 5) z)[H.length]? = some (.rw 1 rv) := fun z => by rw [List.getElem?_set_ne (by omega), hBR]
    obtain ⟨k, hk⟩ : ∃ k, k = x.ch.ticks - 1 - j := ⟨_, rfl⟩
    rw [← hk] at hjt hjr ha ⊢
    have key : ∃ s', exL Tryz.prog pf beBody ⟨(9, .slice (some ⟨A.length + 1, 0, none⟩) x.ch.cells x.ch.cells) :: (8, .int .i64 k) :: (26, .slice (some ⟨A.length + 1, 0, none⟩) x.ch.cells x.ch.cells) :: (25, .int .i64 k) :: T, L, B.set (H.length + 5) (.loop { beR T L H.length with st := 1, L := [] }), H.length, some (H.length + 5)⟩ = some (.normal, s') ∧ s'.H = (B.set (H.length + 5) (.loop { beR T L H.length with st := 1, L := [] })).set H.length (.rw 1 (rv.set k (.slice (some ⟨A.length + 1, 0, none⟩) x.ch.cells x.ch.cells))) ∧ s'.L = L := by
      simp [-oneC, oneC_slice, beBody, sf_fixes_search_best, h7, hL7, hjt, hjr, hBR']
    obtain ⟨s', z1, z2, z3⟩ := key
    have hy := yield_round (l := H.length + 5) (B := B) (r := beR T L H.length) (args := [.int .i64 k, .slice (some ⟨A.length + 1, 0, none⟩) x.ch.cells x.ch.cells]) (lim := H.length) hBl rfl (Nat.le_refl _) (by omega) rfl ha (e := .normal) (s' := s') z1 (r2 := { beR T L H.length with st := 1, L := [] }) (by rw [z2, List.getElem?_set_ne (by omega), List.getElem?_set_self (by omega)])
    have hA2 : s'.H.set (H.length + 5) (.loop { beR T L H.length with st := if Ex.normal = Ex.normal then 0 else 2, pend := if Ex.normal = Ex.normal then none else some .normal, L := s'.L }) = B.set H.length (.rw 1 (rv.set k (.slice (some ⟨A.length + 1, 0, none⟩) x.ch.cells x.ch.cells))) := by
      rw [z2, z3, List.set_comm _ _ (by omega : H.length ≠ H.length + 5), List.set_set]
      congr 1
      exact set_same hBl
    rw [hA2] at hy
    have keep : ∀ c z, c ≠ H.length → B[c]? = some z → (B.set H.length (.rw 1 (rv.set k (.slice (some ⟨A.length + 1, 0, none⟩) x.ch.cells x.ch.cells))))[c]? = some z := fun c z hc hz => by rw [List.getElem?_set_ne (Ne.symm hc), hz]
    refine ⟨true, _, hy, fun _ => ⟨hBA.set (Nat.le_refl _) _, keep _ _ (by omega) (hBk _ _ i2), keep _ _ (by omega) (hBk _ _ i3), keep _ _ (by omega) (hBk _ _ i4), keep _ _ (by omega) hBl, ?_, _, List.getElem?_set_self (by omega), nlL_setV _ _ _ i8 (by simp), ⟨by simpa using i9, fun i hi => ?_⟩⟩, fun h => by cases h⟩
    · have := Sl.made (keep _ _ (by omega) hBw) rfl (k := x.ch.cells)
      rw [hrl (j + 1) (by omega)] at this
      exact this
    · by_cases hij : i = j
      · subst hij
        refine ⟨A.length + 1, by omega, ?_, keep _ _ (by omega) hBw⟩
        rw [← hk, List.getElem?_set_self (by omega)]
      · obtain ⟨w, w1, w2, w3⟩ := i10 i (by omega)
        exact ⟨w, w1, by rw [List.getElem?_set_ne (by omega), w2], keep _ _ (by omega) (hBk _ _ w3)⟩
  · obtain ⟨i1, i2, i3, i4, i5, i6, rv, i7, i8, i9⟩ := hI
    exact ⟨i1, i5, rv, i7, i9⟩
end Go.Proofs.YtmdnpaboaelkeaaGreatDoor
namespace Go.Proofs.YtmdnpaboaelkeaaGreatDoor
open Go Go.RowKit
def nextL (x : Ds) (fl : Nat → Nat → Bool) (p : Nat → Nat → Int) : Nat → List Nat
  | 0 => upto (fun _ => true) x.ch.cells
  | k + 1 => upto (hops x (cP x fl p k)) x.ch.cells
theorem cP_eq (x : Ds) (fl : Nat → Nat → Bool) (p : Nat → Nat → Int) (k : Nat) : cP x fl p k = cheapM (fun j => (backN x fl p (x.ch.ticks - k)).getD j 0) ((nextL x fl p k).headD 0) (nextL x fl p k) := by cases k <;> rfl
theorem nextL_lt {x : Ds} {fl : Nat → Nat → Bool} {p : Nat → Nat → Int} {k j : Nat} (h : j ∈ nextL x fl p k) : j < x.ch.cells := by
  cases k <;> exact (upto_mem.1 h).1
theorem nextL_len (x : Ds) (fl : Nat → Nat → Bool) (p : Nat → Nat → Int) (k : Nat) : (nextL x fl p k).length ≤ x.ch.cells := by
  have : ∀ q : Nat → Bool, (upto q x.ch.cells).length ≤ x.ch.cells := fun q => by
    have := List.length_filter_le q (List.range x.ch.cells)
    simpa [upto] using this
  cases k <;> exact this _
theorem cP_lt {x : Ds} (hdo : dsOk x = true) (hc : 0 < x.ch.cells) (fl : Nat → Nat → Bool) (p : Nat → Nat → Int) : ∀ k, 0 < (nextL x fl p k).length ∧ cP x fl p k < x.ch.cells := by
  have key : ∀ k, 0 < (nextL x fl p k).length → cP x fl p k < x.ch.cells := fun k h => by
    rw [cP_eq, headD_zero h]
    rcases cheapM_mem (fun j => (backN x fl p (x.ch.ticks - k)).getD j 0) (nextL x fl p k) (nextL x fl p k)[0] with e | e
    · rw [e]; exact nextL_lt (List.getElem_mem h)
    · exact nextL_lt e
  intro k
  induction k with
  | zero =>
    have : 0 < (nextL x fl p 0).length := List.length_pos_of_mem (upto_mem.2 ⟨hc, rfl⟩)
    exact ⟨this, key 0 this⟩
  | succ k ih =>
    have : 0 < (nextL x fl p (k + 1)).length := upto_pos ih.2 (hops_self hdo _)
    exact ⟨this, key _ this⟩
def courseM (x : Ds) (fl : Nat → Nat → Bool) (p : Nat → Nat → Int) (k : Nat) : List Int := (List.range k).map fun t => (cP x fl p t : Int)
theorem courseM_succ (x : Ds) (fl : Nat → Nat → Bool) (p : Nat → Nat → Int) (k : Nat) : courseM x fl p (k + 1) = courseM x fl p k ++ [(cP x fl p k : Int)] := by simp [courseM, List.range_succ]
theorem courseM_len (x : Ds) (fl : Nat → Nat → Bool) (p : Nat → Nat → Int) (k : Nat) : (courseM x fl p k).length = k := by simp [courseM]
def beLoop : SC := sf_fixes_search_best.body.loops.headD .skip
set_option maxHeartbeats 1000000 in
theorem best_loop (x : Ds) (hok : ChOk x.ch) (hdo : dsOk x = true) (H2 : AH) (d t s r a b e : Value) (h : DsIn H2 x d t s r) (fl fl' : Nat → Nat → Bool) (hsr : SrIn H2 x fl' a b e) (p : Nat → Nat → Int) {R : Nat} (rv : List Value) (hR : H2[R]? = some (.rw 1 rv)) (hrest : Rest x (backN x fl p) (R + 5) H2 rv x.ch.ticks) (c41 : Nat) (S : St) (hlim : S.lim ≤ H2.length)
    (h2 : tget S.t 2 = .pointer (some ⟨2, 0, some 0⟩)) (h5 : tget S.t 5 = .slice none 0 0) (h41 : tget S.t 41 = .slice (some ⟨R, 0, none⟩) x.ch.ticks c41) (h42 : tget S.t 42 = .int .i64 x.ch.ticks) (h43 : tget S.t 43 = .int .i64 0) (h10 : Sl S.H (tget S.t 10) (nextL x fl p 0).length (ints ((nextL x fl p 0).map fun (j : Nat) => (j : Int))))
    (hL : lget S.L 2 = some (0, .cells (sV x d t s r a b e))) (hH : S.H = H2) :
    ∃ q, exL Tryz.prog pf (.loop beLoop) S = some q ∧ q.1 = .exit 2 ∧ Aft H2 q.2.H ∧ OwnA H2.length q.2.H (tget q.2.t 5) (courseM x fl p x.ch.ticks) ∧ tget q.2.t 4 = tget S.t 4 := by
  have htk : x.ch.ticks ≤ 60 := hok.2.2.2.1.2
  obtain ⟨p0, p1⟩ := hok.pos
  have h00 := h
  obtain ⟨⟨⟨da, dc, ed, _⟩, ⟨ta, tc, et, _⟩, ⟨sa, sc, es, _⟩, _, htl, _⟩, ⟨ra, rc, er, _⟩, _⟩ := h
  obtain ⟨a1, a2, a3, ea⟩ := hsr.near.one
  obtain ⟨b1, b2, b3, eb⟩ := hsr.flo.one
  obtain ⟨e1', e2', e3', ee⟩ := hsr.unt.one
  refine loop_rule (I := fun m s' => ∃ k, k ≤ x.ch.ticks ∧ m = x.ch.ticks - k ∧ tget s'.t 2 = .pointer (some ⟨2, 0, some 0⟩) ∧ tget s'.t 41 = .slice (some ⟨R, 0, none⟩) x.ch.ticks c41 ∧ tget s'.t 42 = .int .i64 x.ch.ticks ∧ tget s'.t 43 = .int .i64 k ∧ lget s'.L 2 = some (0, .cells (sV x d t s r a b e)) ∧ s'.lim = S.lim ∧ tget s'.t 4 = tget S.t 4 ∧ Aft H2 s'.H ∧
      Sl s'.H (tget s'.t 10) (nextL x fl p k).length (ints ((nextL x fl p k).map fun (j : Nat) => (j : Int))) ∧ OwnA H2.length s'.H (tget s'.t 5) (courseM x fl p k)) ?_ x.ch.ticks S
    ⟨0, by omega, by omega, h2, h41, h42, h43, hL, rfl, rfl, by rw [hH]; exact Aft.refl H2, h10, .inl ⟨rfl, h5⟩⟩
  rintro m s' ⟨k, hk, rfl, e2, e41, e42, e43, eL, el, e4, eA, eC, eO⟩
  obtain ⟨A, hA⟩ : ∃ A, s'.H = A := ⟨_, rfl⟩
  obtain ⟨cv, hcv⟩ : ∃ cv, tget s'.t 10 = cv := ⟨_, rfl⟩
  rw [hA] at eA eC eO
  rw [hcv] at eC
  by_cases hlt : k < x.ch.ticks
  rotate_left
  · have : k = x.ch.ticks := by omega
    subst this
    simp [beLoop, SC.loops, sf_fixes_search_best, e2, e41, e42, e43, hA, e4]
    exact ⟨eA, eO⟩
  have hAE := eA.ext
  have hw : IntKind.i64.wrap ((k : Int) + 1) = (k : Int) + 1 := wrap_i64 (by omega) (by omega)
  obtain ⟨hpos, hcl⟩ := cP_lt hdo p0 fl p k
  obtain ⟨hrvl, hrows⟩ := hrest
  obtain ⟨w, w1, w2, w3⟩ := hrows (x.ch.ticks - 1 - k) (by omega)
  rw [show x.ch.ticks - 1 - (x.ch.ticks - 1 - k) = k by omega] at w2
  rw [show x.ch.ticks - 1 - k + 1 = x.ch.ticks - k by omega] at w3
  have hAR : A[R]? = some (.rw 1 rv) := hAE _ _ hR
  have hAw : A[w]? = some (.rw 1 (ints (backN x fl p (x.ch.ticks - k)))) := hAE _ _ w3
  have hbl := backN_len x fl p (x.ch.ticks - k)
  have hsx := hsr.ext hAE
  have hch := fun lim => run_cheapest x (nextL x fl p k) (by have := nextL_len x fl p k; omega) (backN x fl p (x.ch.ticks - k)) (fun j hj => by rw [hbl]; exact nextL_lt hj) hpos lim A d t s r a b e cv (.slice (some ⟨w, 0, none⟩) x.ch.cells x.ch.cells) (h00.ext hAE) hsx.near.one hsx.flo.one hsx.unt.one eC (Sl.made hAw hbl.symm)
  rw [← headD_zero hpos, ← cP_eq] at hch
  obtain ⟨nb, no, nc, nw, enr, n1, n2⟩ := tb_row hsr.near hcl
  have hnl2 : nearV x (cP x fl p k) = ints ((nextL x fl p (k + 1)).map fun (j : Nat) => (j : Int)) := rfl
  have hnl3 : (nearV x (cP x fl p k)).length = (nextL x fl p (k + 1)).length := by rw [hnl2]; simp [ints]
  rw [hnl3, hnl2] at n2
  have hs := courseM_succ x fl p k
  have hlen := courseM_len x fl p k
  obtain ⟨va, vc, ecv, _⟩ := eC
  obtain ⟨na, ncp, enw, _⟩ : ∃ na ncp, nw = .slice na (nextL x fl p (k + 1)).length ncp ∧ True := by obtain ⟨na, nc, e, _⟩ := n2; exact ⟨na, nc, e, trivial⟩
  rw [ecv] at hch hcv
  have eL0 := eL
  have hsV : sV x d t s r a b e = [Value.int IntKind.i64 x.ch.w, Value.int IntKind.i64 x.ch.h, d, t, s, Value.int IntKind.i64 x.g, Value.int IntKind.i64 x.pace, r, a, b, e] := rfl
  rw [hsV, ed, et, es, er, enr, eb, ee] at eL
  simp only [srV, ed, et, es, er, enr, eb, ee] at hch
  rw [enw] at n1
  have n1F : ∀ F : AH, Aft H2 F → hcell F nb (no + cP x fl p k) = some (.slice na (nextL x fl p (k + 1)).length ncp) := fun F hF => by
    obtain ⟨K, rfl⟩ := hF
    have hnb : nb < H2.length := by
      unfold hcell at n1
      cases hx : H2[nb]? with
      | none => rw [hx] at n1; simp at n1
      | some y => exact (List.getElem?_eq_some_iff.1 hx).1
    unfold hcell at n1 ⊢
    rw [List.getElem?_append_left hnb]
    exact n1
  have hrk : k < rv.length := by omega
  have hrvk : ∀ hh : k < rv.length, rv[k]'hh = .slice (some ⟨w, 0, none⟩) x.ch.cells x.ch.cells := fun hh => by rw [List.getElem?_eq_getElem hh] at w2; exact Option.some.inj w2
  generalize hcc : cP x fl p k = c at *
  obtain ⟨ws, hws⟩ : ∃ ws, ws = courseM x fl p k := ⟨_, rfl⟩
  rw [← hws] at eO hs hlen
  have hm1 : 1 ≤ maxA := by decide
  have hfin : ∀ (F : AH), Aft H2 F → Sl F (.slice na (nextL x fl p (k + 1)).length ncp) (nextL x fl p (k + 1)).length (ints ((nextL x fl p (k + 1)).map fun (j : Nat) => (j : Int))) := fun F hE => by
    rw [← enw]; exact n2.ext hE.ext
  have hx1 := fun y : AH => n1F (A ++ y) (eA.push y)
  simp only [hcell] at hx1
  rcases eO with ⟨hw0, e5⟩ | ⟨hw0, b', hb', e5, hbA⟩
  · have hk0 : k = 0 := by rw [← hlen, hw0]; rfl
    simp [-oneC, oneC_int, beLoop, SC.loops, sf_fixes_search_best, e2, e41, e42, e43, e5, hcv, eL, hA, hlt, hAR, hrvk, w2, hch, hm1, hx1, hcl, hw]
    refine ⟨_, by omega, k + 1, by omega, rfl, by omega, ?_, el, e4, eA.push _, hfin _ (eA.push _), .inr ⟨by rw [hs]; simp, A.length + 1, by have := eA.le; omega, by rw [hs, hw0]; simp, ?_⟩⟩
    · rw [hsV, ed, et, es, er, enr, eb, ee]
    · rw [hs, hw0, List.getElem?_append_right (by omega), Nat.add_sub_cancel_left]; rfl
  · have hbl' : b' < A.length := (List.getElem?_eq_some_iff.1 hbA).1
    have hl0 : ¬ ws.length = 0 := by simpa using hw0
    have hl0' : ¬ k = 0 := by omega
    have hmx : k + 1 ≤ maxA := Nat.le_trans (show k + 1 ≤ 2000 by omega) (by decide)
    have hcn : nlL (ints ws) = true := nlL_ints ws
    have hci : (ints ws).length = ws.length := ints_length ws
    have happ : ints ws ++ [.int .i64 (c : Int)] = ints (ws ++ [(c : Int)]) := by rw [ints_append]; rfl
    have hcA := fun L x => own_cells hbA L x
    have hbX := fun x => own_get hbA x
    have hsX := fun x y => own_set hbA x y
    have hlb : S.lim ≤ b' := by omega
    rw [hci, hlen] at hcA
    rw [hlen] at e5 hci
    have hx2 := fun y : AH => n1F (A.set b' .dead ++ y) ((eA.set hb' _).push y)
    simp only [hcell] at hx2
    generalize hcs : ints ws = cs at *
    simp [-oneC, oneC_int, beLoop, SC.loops, sf_fixes_search_best, e2, e41, e42, e43, e5, hcv, eL, hA, hlt, hAR, hrvk, w2, hch, hm1, hx2, hcl, hw, hl0', hmx, hcA, hbX, hsX, hcn, happ, hci, el, hlb]
    refine ⟨_, by omega, k + 1, by omega, rfl, by omega, ?_, e4, (eA.set hb' _).push _, hfin _ ((eA.set hb' _).push _), .inr ⟨by rw [hs]; simp, A.length + 1, by have := eA.le; omega, by rw [hs]; simp [hlen], ?_⟩⟩
    · rw [hsV, ed, et, es, er, enr, eb, ee]
    · rw [hs, List.getElem?_append_right (by simp)]
      simp
end Go.Proofs.YtmdnpaboaelkeaaGreatDoor
namespace Go.Proofs.YtmdnpaboaelkeaaGreatDoor
open Go Go.RowKit
theorem those_all {x : Ds} : thoseN (inN x.cells) x.cells = (upto (fun _ => true) x.ch.cells).map fun (j : Nat) => (j : Int) := by
  unfold thoseN upto
  congr 1
  refine List.filter_congr fun j hj => ?_
  exact inN_of (List.mem_range.1 hj)
set_option maxHeartbeats 2000000 in
theorem run_best (x : Ds) (hok : ChOk x.ch) (hdo : dsOk x = true) (lim : Nat) (H : AH) (d t s r a b e f : Value) (h : DsIn H x d t s r) (fl : Nat → Nat → Bool) (hsr : SrIn H x fl a b e) (p : Nat → Nat → Int) (hp : IsPr H f x.ch.ticks x.ch.cells p) (hp0 : ∀ k i, k < x.ch.ticks → i < x.ch.cells → 0 ≤ p k i) :
    (leastM (backN x fl p x.ch.ticks) x.ch.cells = topN → apL Tryz.prog pf (.func (.func 53) #[] #[]) [srV x d t s r a b e, f] lim H = some (.tuple #[.int .i64 0, .slice none 0 0, .int .i64 3], H)) ∧
    (leastM (backN x fl p x.ch.ticks) x.ch.cells ≠ topN → ∃ v A, apL Tryz.prog pf (.func (.func 53) #[] #[]) [srV x d t s r a b e, f] lim H = some (.tuple #[.int .i64 (leastM (backN x fl p x.ch.ticks) x.ch.cells), v, .int .i64 0], A) ∧ Aft H A ∧ OwnA H.length A v (courseM x fl p x.ch.ticks)) := by
  rw [apL_func _ _ _ _ _ _ (by rfl), sf_fixes_search_best_eq]
  obtain ⟨p0, p1⟩ := hok.pos
  have htk0 : 0 < x.ch.ticks := hok.2.2.2.1.1
  have htk : x.ch.ticks ≤ 60 := hok.2.2.2.1.2
  have h0 := h
  have oa := hsr.near.one
  have ob := hsr.flo.one
  have oe := hsr.unt.one
  have hnlr : ∀ n : Nat, nlL (List.replicate n (Value.slice none 0 0)) = true := fun n => nlL_of _ fun v hv => by
    rw [(List.mem_replicate.1 hv).2]; simp
  obtain ⟨H1, hH1⟩ : ∃ H1, H1 = H ++ [.rw 1 (List.replicate x.ch.ticks (.slice none 0 0))] := ⟨_, rfl⟩
  have hl1 : H1.length = H.length + 1 := by rw [hH1]; simp
  have hA1 : Aft H H1 := by rw [hH1]; exact (Aft.refl H).push _
  have hLT := fun lim => run_lastTick x lim H1 d t s r a b e (h.ext hA1.ext) oa ob oe
  have hP2 := fun lim => run_parts x lim H1 d t s r a b e f (h.ext hA1.ext) oa ob oe hp.1 ((x.ch.tide.length : Int) - 1) (-1)
  obtain ⟨H2, hH2⟩ : ∃ H2, H2 = H1 ++ [.rw 0 (sV x d t s r a b e), .rw 0 [.int .i64 ((x.ch.tide.length : Int) - 1)], .rw 0 [.int .i64 (-1)], .rw 0 [f]] := ⟨_, rfl⟩
  rw [← hH2] at hP2
  have hl2 : H2.length = H.length + 5 := by rw [hH2]; simp [hl1]
  have hA2 : Aft H H2 := by rw [hH2]; exact hA1.push _
  have g2R : H2[H.length]? = some (.rw 1 (List.replicate x.ch.ticks (.slice none 0 0))) := by
    rw [hH2]; refine own_get ?_ _
    rw [hH1, List.getElem?_append_right (Nat.le_refl _), Nat.sub_self]; rfl
  have g20 : H2[H.length + 1]? = some (.rw 0 (sV x d t s r a b e)) := by rw [hH2, ← hl1, List.getElem?_append_right (Nat.le_refl _), Nat.sub_self]; rfl
  have g21 : H2[H.length + 1 + 1]? = some (.rw 0 [.int .i64 ((x.ch.tide.length : Int) - 1)]) := by rw [hH2, ← hl1, List.getElem?_append_right (by omega), Nat.add_sub_cancel_left]; rfl
  have g22 : H2[H.length + 3]? = some (.rw 0 [.int .i64 (-1)]) := by rw [hH2, List.getElem?_append_right (by omega), show H.length + 3 - H1.length = 2 by omega]; rfl
  have g23 : H2[H.length + 4]? = some (.rw 0 [f]) := by rw [hH2, List.getElem?_append_right (by omega), show H.length + 4 - H1.length = 3 by omega]; rfl
  obtain ⟨hf1, hf2, hf3⟩ := hp.1
  have hmx : x.ch.ticks ≤ maxA := Nat.le_trans (show x.ch.ticks ≤ 60 by omega) (by decide)
  have hdl : x.ch.tide.length = x.ch.ticks := rfl
  have hz : ∀ n, zeros [.slice none 0 0] n = List.replicate n (Value.slice none 0 0) := by
    intro n
    induction n with
    | zero => rfl
    | succ n ih => simp only [zeros, ih, List.replicate_succ]; rfl
  have hrl : ∀ j, j ≤ x.ch.ticks → (backN x fl p j).length = x.ch.cells := fun j _ => backN_len ..
  obtain ⟨⟨⟨da, dc, ed, _⟩, ⟨ta, tc, et, _⟩, ⟨sa, sc, es, _⟩, _, htl, _⟩, ⟨ra, rc, er, _⟩, _⟩ := h
  obtain ⟨a1, a2, a3, ea⟩ := oa
  obtain ⟨b1, b2, b3, eb⟩ := ob
  obtain ⟨e1, e2, e3, ee⟩ := oe
  simp only [srV, ptV, ed, et, es, er, ea, eb, ee] at hP2 hLT
  rw [hH1] at hP2 hLT
  simp only [hdl] at hP2 hLT
  simp [-oneC, oneC_slice, -Array.all_toList, sf_fixes_search_best, srV, ed, et, es, er, ea, eb, ee, hdl, hmx, hz, hnlr, hf1, hP2, hLT, pf_pure, pureF]
  generalize hS : ({ t := _, L := _, H := _, lim := _, rd := _ } : St) = S
  have eH : S.H = H2 := by subst hS; rfl
  have el : S.lim = H.length := by subst hS; rfl
  have hr0 : (H2 ++ [.loop (beR S.t S.L H.length)] ++ [.rw 1 (ints (backN x fl p 0))] : AH)[H.length + 6]? = some (.rw 1 (ints (backN x fl p 0))) := by rw [List.getElem?_append_right (by simp [hl2])]; simp [hl2]
  have hlH : (H2 ++ [.loop (beR S.t S.L H.length)] : AH).length = H.length + 6 := by simp [hl2]
  obtain ⟨A', y1, y2, y3, rv, y4, y5⟩ := run_pt x hok hdo H d t s r a b e f h0 fl hsr p hp hp0 ((x.ch.tide.length : Int) - 1) (-1) (fun j => x.ch.ticks - 1 - j) (backN x fl p) (ptS_back hok fl p) (H.length + 1) H.length (.func (.yield (H.length + 5)) #[] #[]) (by simp) _ _ (be_C x H d t s r a b e f (backN x fl p) hrl S.t S.L x.ch.ticks (by subst hS; simp) (by subst hS; simp))
    (H2 ++ [.loop (beR S.t S.L H.length)]) (own_get g20 _) (own_get g21 _) ⟨(hA2.push _).push _, own_get (own_get g20 _) _, own_get (own_get g22 _) _, own_get (own_get g23 _) _, by rw [List.append_assoc, List.getElem?_append_right (by omega), hl2, Nat.sub_self]; rfl, by
      have := Sl.made (n := x.ch.cells) (k := x.ch.cells) hr0 (hrl 0 (by omega)).symm
      rw [hrl 0 (by omega)] at this
      rw [hlH]; exact this, _, own_get (own_get g2R _) _, hnlr _, by simp, fun i hi => by omega⟩
  have hx := exL_range (f := .tmp 24) (ps := [25, 26]) (asg := beAsg) (body := beBody) (S := S) (fv := ptV (H.length + 1)) (by subst hS; simp [ptV]) (by simp [ptV]) rfl (by subst hS; rfl) (A' := A') (v := .tuple #[]) (r := beR S.t S.L H.length)
    (by rw [eH, el, hl2]; exact y1) (by rw [eH, hl2]; exact y3) (.inl rfl)
  simp only [beAsg, beBody, sf_fixes_search_best] at hx
  rw [hx]
  obtain ⟨H3, hH3⟩ : ∃ H3, H3 = A'.set (H.length + 5) .dead := ⟨_, rfl⟩
  have hA3 : Aft H H3 := by rw [hH3]; exact y2.set (by omega) _
  have eH3 : A'.set S.H.length .dead = H3 := by rw [eH, hl2, hH3]
  rw [eH3]
  have r1 : H3[H.length]? = some (.rw 1 rv) := by rw [hH3, List.getElem?_set_ne (by omega), y4]
  have r2 : Rest x (backN x fl p) (H.length + 5) H3 rv x.ch.ticks := ⟨y5.1, fun i hi => by
    obtain ⟨w, w1, w2, w3⟩ := y5.2 i hi
    exact ⟨w, w1, w2, by rw [hH3, List.getElem?_set_ne (by omega), w3]⟩⟩
  obtain ⟨w, w1, w2, w3⟩ := r2.2 (x.ch.ticks - 1) (by omega)
  rw [Nat.sub_self] at w2
  rw [show x.ch.ticks - 1 + 1 = x.ch.ticks by omega] at w3
  have hbl := backN_len x fl p x.ch.ticks
  have hbb := backN_bound (x := x) (fl := fl) (p := p) hp0 x.ch.ticks (Nat.le_refl _)
  have hM := fun lim => run_Min (backN x fl p x.ch.ticks) (by omega) (by omega) (fun j => Int.le_trans (hbb j).2 (by decide)) lim H3 _ (Sl.made w3 hbl.symm (k := x.ch.cells))
  rw [hbl] at hM
  have j7 : tget S.t 7 = .pointer (some ⟨7, 0, some 0⟩) := by subst hS; simp
  have jL7 : lget S.L 7 = some (0, .cells [.slice (some ⟨H.length, 0, none⟩) x.ch.ticks x.ch.ticks]) := by subst hS; simp
  have j2 : tget S.t 2 = .pointer (some ⟨2, 0, some 0⟩) := by subst hS; simp
  have jL2 : lget S.L 2 = some (0, .cells (sV x d t s r a b e)) := by subst hS; simp [sV, ed, et, es, er, ea, eb, ee, hdl]
  have j5 : tget S.t 5 = .slice none 0 0 := by subst hS; simp
  have oa' : OneS a := ⟨_, _, _, ea⟩
  have ob' : OneS b := ⟨_, _, _, eb⟩
  have oe' : OneS e := ⟨_, _, _, ee⟩
  obtain ⟨v, A, hC, hA, hO⟩ := run_cells x (by show x.ch.cells ≤ 1000; omega) _ H.length H3 d t s r a b e _ (h0.ext hA3.ext) oa' ob' oe' ((isP_srCell x H3 d t s r a b e (h0.ext hA3.ext) oa' ob' oe').n _)
  rw [those_all] at hO
  have hup : 0 < (upto (fun _ => true) x.ch.cells).length := List.length_pos_of_mem (upto_mem.2 ⟨p0, rfl⟩)
  obtain ⟨bv, hbv, hev, hBv⟩ : ∃ bv, H3.length ≤ bv ∧ v = .slice (some ⟨bv, 0, none⟩) (upto (fun _ => true) x.ch.cells).length ((upto (fun _ => true) x.ch.cells).length + 1) ∧ A[bv]? = some (.rw 1 (ints ((upto (fun _ => true) x.ch.cells).map fun (j : Nat) => (j : Int)))) := by
    rcases hO with ⟨e0, _⟩ | ⟨_, bv, z1, z2, z3⟩
    · rw [List.map_eq_nil_iff] at e0
      rw [e0] at hup; simp at hup
    · refine ⟨bv, z1, ?_, z3⟩
      simpa using z2
  have jsV : sV x d t s r a b e = [Value.int IntKind.i64 x.ch.w, Value.int IntKind.i64 x.ch.h, d, t, s, Value.int IntKind.i64 x.g, Value.int IntKind.i64 x.pace, r, a, b, e] := rfl
  have jL2' := jL2
  rw [jsV] at jL2'
  rw [hev] at hC
  simp only [srV, ed, et, es, er, ea, eb, ee, hdl] at hC
  rw [ed, et, es, er, ea, eb, ee, hdl] at jL2'
  have hT0 : topN = 1201 := rfl
  have hrv0 : 0 < rv.length := by rw [y5.1]; exact htk0
  have hrve : ∀ hh : 0 < rv.length, rv[0]'hh = .slice (some ⟨w, 0, none⟩) x.ch.cells x.ch.cells := fun hh => by rw [List.getElem?_eq_getElem hh] at w2; exact Option.some.inj w2
  generalize hm : leastM (backN x fl p x.ch.ticks) x.ch.cells = m at *
  rw [hT0]
  constructor
  · intro hm1
    subst hm1
    simp [beR, j7, jL7, r1, htk0, hrv0, hrve, w2, hM]
  · intro hm1
    have hmb : (m == 1201) = false := by simpa using hm1
    simp [beR, j7, jL7, r1, htk0, hrv0, hrve, w2, hM, hmb, j2, jL2', hC, el]
    generalize hS2 : ({ t := _, L := _, H := _, lim := _, rd := _ } : St) = S2
    have q2 : tget S2.t 2 = .pointer (some ⟨2, 0, some 0⟩) := by subst hS2; simp [j2]
    have q5 : tget S2.t 5 = .slice none 0 0 := by subst hS2; simp [j5]
    have q10 : tget S2.t 10 = .slice (some ⟨bv, 0, none⟩) (upto (fun _ => true) x.ch.cells).length ((upto (fun _ => true) x.ch.cells).length + 1) := by subst hS2; simp
    have qH : S2.H = A := by subst hS2; rfl
    have ql : S2.lim = H.length := by subst hS2; simp [el]
    have qL : lget S2.L 2 = some (0, .cells (sV x d t s r a b e)) := by subst hS2; exact jL2
    have hHA := hA3.trans hA
    obtain ⟨⟨q, s3⟩, hr3, u1, u2, u3, u4⟩ := best_loop x hok hdo A d t s r a b e (h0.ext hHA.ext) fl fl (hsr.ext hHA.ext) p (R := H.length) rv (hA.ext _ _ r1) ⟨r2.1, fun i hi => by
      obtain ⟨w, w1, w2, w3⟩ := r2.2 i hi
      exact ⟨w, w1, w2, hA.ext _ _ w3⟩⟩ x.ch.ticks S2 (by have := hHA.le; omega) q2 q5 (by subst hS2; simp) (by subst hS2; simp) (by subst hS2; simp) (by
        rw [q10, qH]
        exact ⟨_, _, rfl, fun j y hy => ⟨bv, 0, rfl, by simp only [hcell, hBv, Nat.zero_add]; exact hy⟩⟩) qL qH
    simp [beLoop, SC.loops, sf_fixes_search_best] at hr3
    rw [hr3]
    simp only at u1 u2 u3 u4
    subst u1
    have q4 : tget S2.t 4 = .int .i64 m := by subst hS2; simp
    rw [q4] at u4
    rcases u3 with ⟨e0, _⟩ | ⟨_, b', z1, z2, z3⟩
    · exfalso
      have := courseM_len x fl p x.ch.ticks
      rw [e0] at this
      simp at this
      omega
    · simp [u4, z2]
      refine ⟨_, _, ⟨rfl, rfl⟩, hHA.trans u2, .inr ⟨?_, b', by have := hHA.le; omega, rfl, z3⟩⟩
      intro e0
      have := courseM_len x fl p x.ch.ticks
      rw [e0] at this
      simp at this
      omega
end Go.Proofs.YtmdnpaboaelkeaaGreatDoor
namespace Go.Proofs.YtmdnpaboaelkeaaGreatDoor
open Go Go.RowKit
theorem setM_bit (l : List Nat) (j : Nat) : (setM l).testBit j = decide (j ∈ l) := by
  have key : ∀ (l : List Nat) (a : Nat), (l.foldl (fun a i => a ||| 2 ^ i) a).testBit j = (a.testBit j || decide (j ∈ l)) := by
    intro l
    induction l with
    | nil => intro a; simp
    | cons i l ih =>
      intro a
      rw [List.foldl_cons, ih, Nat.testBit_or, Nat.testBit_two_pow]
      by_cases h : i = j
      · subst h; simp
      · have : ¬ j = i := fun e => h e.symm
        simp [h, this]
  have := key l 0
  simpa [setM] using this
def denyB (x : Ds) (k i j : Nat) : Bool := match x.reps[j]? with | some q => denies x k q i | none => false
theorem deny_bit (x : Ds) (k i m j : Nat) : (denyM x k i m).testBit j = (decide (j < m) && denyB x k i j) := by
  unfold denyM
  rw [setM_bit]
  rw [Bool.eq_iff_iff]
  simp only [decide_eq_true_eq, List.mem_filter, List.mem_range, Bool.and_eq_true, denyB]
  all_goals (cases x.reps[j]? <;> exact Iff.rfl)
theorem dem_bound (x : Ds) (all k i : Nat) : 0 ≤ demP x all k i ∧ demP x all k i ≤ topN := by
  unfold demP
  have hT : topN = 1201 := rfl
  have := bitsN_le (denyM x k i x.reps.length) 12
  split <;> omega
end Go.Proofs.YtmdnpaboaelkeaaGreatDoor
namespace Go.Proofs.YtmdnpaboaelkeaaGreatDoor
open Go Go.RowKit
def allP (x : Ds) : Nat → Nat → Int := demP x (2 ^ x.reps.length - 1)
def bestE (x : Ds) (fl : Nat → Nat → Bool) (p : Nat → Nat → Int) : List Int × Int := if leastM (backN x fl p x.ch.ticks) x.ch.cells = topN then ([], 3) else (courseM x fl p x.ch.ticks, 0)
noncomputable def courseD (x : Ds) : List Int × Int := if dsE x = 0 then bestE x (mayF x) (allP x) else ([], dsE x)
theorem fx_reps {x : Ds} (hdo : dsOk x = true) : x.reps.length ≤ 12 := by
  unfold dsOk at hdo
  simp only [Bool.and_eq_true, decide_eq_true_eq] at hdo
  exact hdo.1.2
theorem all_lt {n : Nat} (h : n ≤ 12) : 2 ^ n - 1 < 2 ^ 64 := by
  have : 2 ^ n ≤ 2 ^ 12 := Nat.pow_le_pow_right (by omega) h
  omega
set_option maxHeartbeats 1000000 in
theorem run_fCourse (x : Ds) (lim : Nat) (H : AH) (d t s r : Value) (h : DsIn H x d t s r) :
    ∃ v A, apL Tryz.prog pf (.func (.func 18) #[] #[]) [dsV x d t s r] lim H = some (.tuple #[v, .int .i64 (courseD x).2], A) ∧ Aft H A ∧ OwnA H.length A v (courseD x).1 := by
  rw [apL_func _ _ _ _ _ _ (by rfl), sf_fixes_Course_eq]
  have h0 := h
  by_cases he : dsE x = 0
  rotate_left
  · have hO := fun lim => run_fopen_bad x lim H d t s r h (.slice none 0 0) (.slice none 0 0) oneS_nil oneS_nil he
    refine ⟨.slice none 0 0, H, ?_, Aft.refl H, .inl ⟨by simp [courseD, he], rfl⟩⟩
    have hne : (dsE x != 0) = true := by simpa using he
    obtain ⟨⟨⟨da, dc, ed, _⟩, ⟨ta, tc, et, _⟩, ⟨sa, sc, es, _⟩, _, htl, _⟩, ⟨ra, rc, er, _⟩, _⟩ := h
    simp only [dsV, srZ, nilS, ed, et, es, er] at hO
    have hd : (courseD x).2 = dsE x := by simp [courseD, he]
    rw [hd]
    generalize dsE x = z at *
    simp [sf_fixes_Course, dsV, ed, et, es, er, hO, hne, pf_pure, pureF]
  obtain ⟨hok, hdo⟩ := dsE_zero he
  obtain ⟨a, b, e, A, hO, hA, hsr⟩ := run_fopen x H.length H d t s r h (.slice none 0 0) (.slice none 0 0) [] [] (by simp) (by simp) Sl.nil Sl.nil he rfl rfl
  have hl12 := fx_reps hdo
  have hx := h.ext hA.ext
  have oa := hsr.near.one
  have ob := hsr.flo.one
  have oe := hsr.unt.one
  have hAl := fun lim => run_all3 x hl12 lim A d t s r a b e hx oa ob oe
  have hDm := fun lim => run_demands x lim A d t s r a b e hx oa ob oe (2 ^ x.reps.length - 1)
  obtain ⟨A1, hA1⟩ : ∃ A1, A1 = A ++ [.rw 0 (sV x d t s r a b e), .rw 0 [.int .u64 ((2 ^ x.reps.length - 1 : Nat) : Int)]] := ⟨_, rfl⟩
  rw [← hA1] at hDm
  have hAA1 : Aft A A1 := by rw [hA1]; exact (Aft.refl A).push _
  have hHA1 := hA.trans hAA1
  have hpr := isPr_dem x A1 d t s r a b e (h.ext hHA1.ext) hl12 (mayF x) (hsr.ext hAA1.ext) A.length (A.length + 1) (2 ^ x.reps.length - 1) (all_lt hl12) (by rw [hA1, List.getElem?_append_right (Nat.le_refl _), Nat.sub_self]; rfl) (by rw [hA1, List.getElem?_append_right (by omega), Nat.add_sub_cancel_left]; rfl)
  obtain ⟨hB1, hB2⟩ := run_best x hok hdo H.length A1 d t s r a b e _ (h.ext hHA1.ext) (mayF x) (hsr.ext hAA1.ext) (demP x (2 ^ x.reps.length - 1)) hpr (fun k i _ _ => (dem_bound x _ k i).1)
  have hcd : courseD x = bestE x (mayF x) (allP x) := by simp [courseD, he]
  rw [hcd]
  unfold bestE
  have hap : allP x = demP x (2 ^ x.reps.length - 1) := rfl
  rw [hap]
  obtain ⟨⟨⟨da, dc, ed, _⟩, ⟨ta, tc, et, _⟩, ⟨sa, sc, es, _⟩, _, htl, _⟩, ⟨ra, rc, er, _⟩, _⟩ := h
  obtain ⟨a1, a2, a3, ea⟩ := oa
  obtain ⟨b1, b2, b3, eb⟩ := ob
  obtain ⟨e1, e2, e3, ee⟩ := oe
  generalize 2 ^ x.reps.length - 1 = al at *
  simp only [dsV, srV, demF, ed, et, es, er, ea, eb, ee] at hO hAl hDm hB1 hB2
  by_cases hm : leastM (backN x (mayF x) (demP x al) x.ch.ticks) x.ch.cells = topN
  · have hB := hB1 hm
    rw [if_pos hm]
    refine ⟨.slice none 0 0, H, ?_, Aft.refl H, .inl ⟨rfl, rfl⟩⟩
    simp [-oneC, oneC_slice, oneC_int, -Array.all_toList, sf_fixes_Course, dsV, ed, et, es, er, hO, hAl, hDm, hB, pf_pure, pureF]
  · obtain ⟨v, F, hB, hF, hOw⟩ := hB2 hm
    rw [if_neg hm]
    have hAF := hHA1.trans hF
    rcases hOw with ⟨z1, rfl⟩ | ⟨z1, b', z2, rfl, z3⟩
    · exfalso
      have := courseM_len x (mayF x) (demP x al) x.ch.ticks
      rw [z1] at this
      have := hok.2.2.2.1.1
      simp [Ch.ticks] at *
      omega
    · refine ⟨_, F, ?_, hAF, .inr ⟨z1, b', Nat.le_trans hHA1.le z2, rfl, z3⟩⟩
      simp [-oneC, oneC_slice, oneC_int, -Array.all_toList, sf_fixes_Course, dsV, ed, et, es, er, hO, hAl, hDm, hB, pf_pure, pureF]
end Go.Proofs.YtmdnpaboaelkeaaGreatDoor
namespace Go.Proofs.YtmdnpaboaelkeaaGreatDoor
open Go Go.RowKit
def withM (x : Ds) (fl : Nat → Nat → Bool) (p : Nat → Nat → Int) (k : Nat) (most : Int) : List Int := thoseN (fun i => withinB x fl p k most i.toNat) x.cells
end Go.Proofs.YtmdnpaboaelkeaaGreatDoor
namespace Go.Proofs.YtmdnpaboaelkeaaGreatDoor
open Go Go.RowKit
theorem rowsM_get (x : Ds) (cnt mst : List Bool) : ∀ (s j : Nat) (h : j < (rowsM x cnt mst s).length), (rowsM x cnt mst s)[j] = (rowsM x cnt mst (s - j)).headD []
  | 0, j, h => by simp [rowsM] at h
  | s + 1, 0, h => rfl
  | s + 1, j + 1, h => by
    have hl : j < (rowsM x cnt mst s).length := by simp only [rowsM, List.length_cons] at h; omega
    have ih := rowsM_get x cnt mst s j hl
    rw [Nat.add_sub_add_right]
    exact ih
theorem rowAt_get (x : Ds) (cnt mst : List Bool) {t : Nat} (h : t < (rowsM x cnt mst x.ch.ticks).length) : (rowsM x cnt mst x.ch.ticks)[t] = rowAt x cnt mst t := rowsM_get ..
theorem rowAt_len {x : Ds} {cnt mst : List Bool} {t : Nat} (h : t < x.ch.ticks) : (rowAt x cnt mst t).length = x.ch.cells := by
  obtain ⟨s, hs⟩ : ∃ s, x.ch.ticks - t = s + 1 := ⟨x.ch.ticks - t - 1, by omega⟩
  unfold rowAt
  rw [hs]
  exact rowN_len ..
theorem rowAt_bound {x : Ds} (hdo : dsOk x = true) (cnt mst : List Bool) {t : Nat} (h : t < x.ch.ticks) : ∀ y ∈ rowAt x cnt mst t, 0 ≤ y ∧ y ≤ neverR := by
  have hl : t < (rowsM x cnt mst x.ch.ticks).length := by rw [rowsM_len]; exact h
  rw [← rowAt_get x cnt mst hl]
  exact (rowsM_bound hdo cnt mst x.ch.ticks _ (List.getElem_mem hl)).2
def thLoop2 : SC := sf_cobleref03_through.body.loops.tail.tail.headD .skip
set_option maxHeartbeats 1000000 in
theorem thr_inner (x : Ds) (hok : ChOk x.ch) (H : AH) (d t s r m : Value) (hm : Tab H m (mapM x.ch)) (nx : List Int) (hn : nx.length = x.ch.cells) {i rb c11 : Nat} (hi : i < x.ch.cells) (hr : H[rb]? = some (.rw 1 (ints nx))) (S : St)
    (h1 : tget S.t 1 = m) (h4 : tget S.t 4 = .pointer (some ⟨4, 0, some 0⟩)) (h11 : tget S.t 11 = .slice (some ⟨rb, 0, none⟩) x.ch.cells c11) (h14 : tget S.t 14 = .int .i64 i) (h15 : tget S.t 15 = .int .i64 neverR) (h16 : tget S.t 16 = .int .i64 0)
    (hL : S.L = [(4, 0, .cells [.int .i64 x.ch.w, .int .i64 x.ch.h, d, t, s, .int .i64 x.g, .int .i64 x.pace, r])]) (hH : S.H = H) :
    ∃ q, exL Tryz.prog pf (.loop thLoop2) S = some q ∧ q.1 = .exit 4 ∧ q.2.H = H ∧ q.2.L = S.L ∧ q.2.lim = S.lim ∧ tget q.2.t 15 = .int .i64 (bestOf (fun k => hops x k i) (fun j => nx.getD j 0) x.ch.cells) ∧
      tget q.2.t 1 = m ∧ tget q.2.t 2 = tget S.t 2 ∧ tget q.2.t 3 = tget S.t 3 ∧ tget q.2.t 4 = tget S.t 4 ∧ tget q.2.t 9 = tget S.t 9 ∧ tget q.2.t 10 = tget S.t 10 ∧ tget q.2.t 11 = tget S.t 11 ∧ tget q.2.t 12 = tget S.t 12 ∧ tget q.2.t 13 = tget S.t 13 ∧ tget q.2.t 14 = tget S.t 14 := by
  obtain ⟨ma, mc, em⟩ : ∃ a c, m = .slice a x.ch.cells c := by
    obtain ⟨rv, _, ⟨a, c, e, _⟩, _⟩ := hm
    exact ⟨a, c, by rw [e]; simp [mapM]⟩
  obtain ⟨m0, m1, m2⟩ := hok.mul
  refine loop_rule (I := fun n s' => ∃ j, j ≤ x.ch.cells ∧ n = x.ch.cells - j ∧ tget s'.t 16 = .int .i64 j ∧ tget s'.t 15 = .int .i64 (bestOf (fun k => hops x k i) (fun j => nx.getD j 0) j) ∧ s'.H = H ∧ s'.L = S.L ∧ s'.lim = S.lim ∧
      tget s'.t 1 = m ∧ tget s'.t 2 = tget S.t 2 ∧ tget s'.t 3 = tget S.t 3 ∧ tget s'.t 4 = tget S.t 4 ∧ tget s'.t 9 = tget S.t 9 ∧ tget s'.t 10 = tget S.t 10 ∧ tget s'.t 11 = tget S.t 11 ∧ tget s'.t 12 = tget S.t 12 ∧ tget s'.t 13 = tget S.t 13 ∧ tget s'.t 14 = tget S.t 14) ?_ x.ch.cells S
    ⟨0, by omega, by omega, h16, h15, hH, rfl, rfl, h1, rfl, rfl, rfl, rfl, rfl, rfl, rfl, rfl, rfl⟩
  rintro n s' ⟨j, hj, rfl, e16, e15, eH, eL, el, e1, e2, e3, e4, e9, e10, e11, e12, e13, e14⟩
  rw [hL] at eL
  rw [h4] at e4
  rw [h11] at e11
  rw [h14] at e14
  by_cases hlt : j < x.ch.cells
  rotate_left
  · have : j = x.ch.cells := by omega
    subst this
    rw [em] at e1
    simp [thLoop2, SC.loops, sf_cobleref03_through, e1, e2, e3, e4, e9, e10, e11, e12, e13, e14, e15, e16, eL, eH, el, hL, h4, h11, h14]
    exact em.symm
  obtain ⟨b, o, cp, b', o', c', em2, g1, g2⟩ := map_cell hok hm hlt hi
  rw [em2] at e1
  have hw : IntKind.i64.wrap ((j : Int) + 1) = (j : Int) + 1 := wrap_i64 (by omega) (by omega)
  have hrow : hcell H rb j = some (.int .i64 (nx.getD j 0)) := by
    simp only [hcell, hr]
    have : j < nx.length := by omega
    simp [ints, this]
  simp only [hcell] at g1 g2 hrow
  have hb : bestOf (fun k => hops x k i) (fun j => nx.getD j 0) (j + 1) = if hops x j i then min (bestOf (fun k => hops x k i) (fun j => nx.getD j 0) j) (nx.getD j 0) else bestOf (fun k => hops x k i) (fun j => nx.getD j 0) j := rfl
  generalize hB : bestOf (fun k => hops x k i) (fun j => nx.getD j 0) j = B at *
  generalize hN : nx.getD j 0 = N at *
  by_cases hh : apt x.ch.w j i ≤ x.pace
  · have hp : hops x j i = true := by simp [hops, hh]
    rw [hp, if_pos rfl] at hb
    simp [-Int.natCast_add, thLoop2, SC.loops, sf_cobleref03_through, e1, e2, e3, e4, e9, e10, e11, e12, e13, e14, e15, e16, eL, eH, el, hL, h4, h11, h14, hlt, hi, g1, g2, hh, hw, hrow]
    exact ⟨_, by omega, j + 1, by omega, rfl, by omega, (min_val B N).trans hb.symm, em2.symm⟩
  · have hp : hops x j i = false := by simp [hops, hh]
    rw [hp] at hb
    simp [-Int.natCast_add, thLoop2, SC.loops, sf_cobleref03_through, e1, e2, e3, e4, e9, e10, e11, e12, e13, e14, e15, e16, eL, eH, el, hL, h4, h11, h14, hlt, hi, g1, g2, hh, hw]
    exact ⟨_, by omega, j + 1, by omega, rfl, by omega, hb.symm, em2.symm⟩
def thLoop1 : SC := sf_cobleref03_through.body.loops.tail.headD .skip
def nowF (x : Ds) (cnt mst : List Bool) (k : Nat) (prev : List Int) (i : Nat) : Int := min neverR (bestF x k prev i + ownM x cnt mst i k)
def outF (x : Ds) (cnt mst : List Bool) (k : Nat) (prev : List Int) (i : Nat) : Int := min neverR (bestF x k prev i + (rowAt x cnt mst k).getD i 0)
set_option maxHeartbeats 2000000 in
theorem thr_middle (x : Ds) (hok : ChOk x.ch) (hdo : dsOk x = true) (H0 A : AH) (d t s r m c3 m3 rw9 : Value) (h : DsIn H0 x d t s r) (hm : Tab H0 m (mapM x.ch)) (cnt mst : List Bool) (hcl : cnt.length = x.reps.length) (hml : mst.length = x.reps.length) (hc3 : Sl H0 c3 cnt.length (bools cnt)) (hm3 : Sl H0 m3 mst.length (bools mst)) (h9T : Tab H0 rw9 (rowsM x cnt mst x.ch.ticks)) (hA : Aft H0 A)
    {k lb ob nb lc : Nat} (hk : k < x.ch.ticks) (rv : List Value) (hlb : A[lb]? = some (.rw 1 rv)) (hrk : rv[k]? = some (.slice (some ⟨ob, 0, none⟩) x.ch.cells x.ch.cells)) (hob : A[ob]? = some (.rw 1 (ints (partN (fun _ => 0) x.ch.cells 0)))) (hnb : A[nb]? = some (.rw 1 (ints (partN (fun _ => 0) x.ch.cells 0)))) (hob0 : H0.length ≤ ob) (hnb0 : H0.length ≤ nb) (hlo : lb ≠ ob) (hln : lb ≠ nb) (hon : ob ≠ nb) (prev : List Int) (v11 : Value)
    (hpv : 0 < k → prev.length = x.ch.cells ∧ (∀ y ∈ prev, 0 ≤ y) ∧ ∃ rb c11, rb ≠ ob ∧ rb ≠ nb ∧ v11 = .slice (some ⟨rb, 0, none⟩) x.ch.cells c11 ∧ A[rb]? = some (.rw 1 (ints prev))) (hv11 : nl v11 = true) (S : St) (hlim : S.lim ≤ H0.length)
    (h1 : tget S.t 1 = m) (h2 : tget S.t 2 = c3) (h3 : tget S.t 3 = m3) (h4 : tget S.t 4 = .pointer (some ⟨4, 0, some 0⟩)) (h9 : tget S.t 9 = rw9) (h10 : tget S.t 10 = .slice (some ⟨lb, 0, none⟩) x.ch.ticks lc) (h11 : tget S.t 11 = v11) (h12 : tget S.t 12 = .int .i64 k) (h13 : tget S.t 13 = .slice (some ⟨nb, 0, none⟩) x.ch.cells x.ch.cells) (h14 : tget S.t 14 = .int .i64 0)
    (hL : S.L = [(4, 0, .cells [.int .i64 x.ch.w, .int .i64 x.ch.h, d, t, s, .int .i64 x.g, .int .i64 x.pace, r])]) (hH : S.H = A) :
    ∃ q, exL Tryz.prog pf (.loop thLoop1) S = some q ∧ q.1 = .exit 2 ∧ q.2.L = S.L ∧ q.2.lim = S.lim ∧ q.2.H = (A.set nb (.rw 1 (ints ((List.range x.ch.cells).map (nowF x cnt mst k prev))))).set ob (.rw 1 (ints ((List.range x.ch.cells).map (outF x cnt mst k prev)))) ∧ tget q.2.t 1 = m ∧ tget q.2.t 2 = c3 ∧ tget q.2.t 3 = m3 ∧ tget q.2.t 4 = tget S.t 4 ∧ tget q.2.t 9 = tget S.t 9 ∧ tget q.2.t 10 = tget S.t 10 ∧ tget q.2.t 12 = tget S.t 12 ∧ tget q.2.t 13 = tget S.t 13 := by
  obtain ⟨ma, mc, em⟩ : ∃ a c, m = .slice a x.ch.cells c := by
    obtain ⟨rv, _, ⟨a, c, e, _⟩, _⟩ := hm
    exact ⟨a, c, by rw [e]; simp [mapM]⟩
  obtain ⟨m0, m1, m2⟩ := hok.mul
  have htk : x.ch.ticks ≤ 60 := hok.2.2.2.1.2
  have hobl : ob < A.length := (List.getElem?_eq_some_iff.1 hob).1
  have hnbl : nb < A.length := (List.getElem?_eq_some_iff.1 hnb).1
  have hN0 : neverR = 1073741824 := rfl
  have same : ∀ {l : AH} {b : Nat} {z : ABlk}, l[b]? = some z → l.set b z = l := fun h => set_same h
  refine loop_rule (I := fun n s' => ∃ i, i ≤ x.ch.cells ∧ n = x.ch.cells - i ∧ tget s'.t 14 = .int .i64 i ∧ s'.H = (A.set nb (.rw 1 (ints (partN (nowF x cnt mst k prev) x.ch.cells i)))).set ob (.rw 1 (ints (partN (outF x cnt mst k prev) x.ch.cells i))) ∧ s'.L = S.L ∧ s'.lim = S.lim ∧
      tget s'.t 1 = m ∧ tget s'.t 2 = c3 ∧ tget s'.t 3 = m3 ∧ tget s'.t 4 = tget S.t 4 ∧ tget s'.t 9 = tget S.t 9 ∧ tget s'.t 10 = tget S.t 10 ∧ tget s'.t 11 = tget S.t 11 ∧ tget s'.t 12 = tget S.t 12 ∧ tget s'.t 13 = tget S.t 13) ?_ x.ch.cells S
    ⟨0, by omega, by omega, h14, by
      rw [hH, show partN (nowF x cnt mst k prev) x.ch.cells 0 = partN (fun _ => 0) x.ch.cells 0 by simp [partN], show partN (outF x cnt mst k prev) x.ch.cells 0 = partN (fun _ => 0) x.ch.cells 0 by simp [partN], same hnb, same hob], rfl, rfl, h1, h2, h3, rfl, rfl, rfl, rfl, rfl, rfl⟩
  rintro n s' ⟨i, hi, rfl, e14, eH, eL, el, e1, e2, e3, e4, e9, e10, e11, e12, e13⟩
  obtain ⟨B, hB⟩ : ∃ B, s'.H = B := ⟨_, rfl⟩
  have eB : B = (A.set nb (.rw 1 (ints (partN (nowF x cnt mst k prev) x.ch.cells i)))).set ob (.rw 1 (ints (partN (outF x cnt mst k prev) x.ch.cells i))) := hB.symm.trans eH
  have hAB : Aft H0 B := by rw [eB]; exact (hA.set hnb0 _).set hob0 _
  rw [h4] at e4
  rw [h9] at e9
  rw [h10] at e10
  rw [h11] at e11
  rw [h12] at e12
  rw [h13] at e13
  rw [hL] at eL
  by_cases hlt : i < x.ch.cells
  rotate_left
  · have : i = x.ch.cells := by omega
    subst this
    rw [partN_end, partN_end] at eB
    rw [em] at e1
    simp [thLoop1, SC.loops, sf_cobleref03_through, e1, e2, e3, e4, e9, e10, e11, e12, e13, e14, eL, el, hB, hL, h4, h9, h10, h12, h13]
    exact ⟨eB, em.symm⟩
  have hlbB : B[lb]? = some (.rw 1 rv) := by rw [eB, List.getElem?_set_ne (Ne.symm hlo), List.getElem?_set_ne (Ne.symm hln), hlb]
  have hnbB : B[nb]? = some (.rw 1 (ints (partN (nowF x cnt mst k prev) x.ch.cells i))) := by rw [eB, List.getElem?_set_ne hon, List.getElem?_set_self hnbl]
  have hobB : B[ob]? = some (.rw 1 (ints (partN (outF x cnt mst k prev) x.ch.cells i))) := by rw [eB, List.getElem?_set_self (by simpa using hobl)]
  have hO := fun lim => run_own x hok hdo lim B d t s r m c3 m3 (h.ext hAB.ext) (hm.ext hAB.ext) cnt mst hcl hml (hc3.ext hAB.ext) (hm3.ext hAB.ext) hlt hk
  have hT9 := h9T.ext hAB.ext
  have hrl : (rowsM x cnt mst x.ch.ticks).length = x.ch.ticks := rowsM_len ..
  have hkl : k < (rowsM x cnt mst x.ch.ticks).length := by rw [hrl]; exact hk
  have hrow := rowAt_get x cnt mst hkl
  have hrowl : (rowsM x cnt mst x.ch.ticks)[k].length = x.ch.cells := by rw [hrow]; exact rowAt_len hk
  obtain ⟨qb, qo, qc, qb', qo', qc', e9', g1, g2⟩ := tab_cell h9T hkl (i := i) (by rw [hrowl]; exact hlt)
  have hval : (rowsM x cnt mst x.ch.ticks)[k][i]'(by rw [hrowl]; exact hlt) = (rowAt x cnt mst k).getD i 0 := by
    have : i < (rowAt x cnt mst k).length := by rw [rowAt_len hk]; exact hlt
    simp [hrow, this]
  rw [hval] at g2
  rw [hrowl] at g1
  rw [hrl] at e9'
  have hrb := rowAt_bound hdo cnt mst hk ((rowAt x cnt mst k).getD i 0) (by
    have : i < (rowAt x cnt mst k).length := by rw [rowAt_len hk]; exact hlt
    rw [List.getD_eq_getElem?_getD, List.getElem?_eq_getElem this]
    exact List.getElem_mem this)
  have hob1 := ownM_bound hdo cnt mst i k
  have hbf : 0 ≤ bestF x k prev i ∧ bestF x k prev i ≤ neverR := by
    unfold bestF
    split
    · rw [hN0]; omega
    · rename_i hk0
      obtain ⟨p1, p2, _⟩ := hpv (by omega)
      exact bestOf_bound _ _ _ fun j _ => by
        rw [List.getD_eq_getElem?_getD]
        cases hx : prev[j]? with
        | none => simp
        | some y => exact p2 y (List.mem_of_getElem? hx)
  have hnset := partN_set (f := nowF x cnt mst k prev) hlt
  have hoset := partN_set (f := outF x cnt mst k prev) hlt
  have hnlen := partN_len (f := nowF x cnt mst k prev) hi
  have holen := partN_len (f := outF x cnt mst k prev) hi
  have hnf : nowF x cnt mst k prev i = min neverR (bestF x k prev i + ownM x cnt mst i k) := rfl
  have hof : outF x cnt mst k prev i = min neverR (bestF x k prev i + (rowAt x cnt mst k).getD i 0) := rfl
  rw [← min_val] at hnf hof
  rw [hN0] at hnf hof
  have hw : IntKind.i64.wrap ((i : Int) + 1) = (i : Int) + 1 := wrap_i64 (by omega) (by omega)
  have hkT : k < x.ch.ticks := hk
  have hFin : ∀ (V W : Int), V = nowF x cnt mst k prev i → W = outF x cnt mst k prev i → (B.set nb (.rw 1 ((ints (partN (nowF x cnt mst k prev) x.ch.cells i)).set i (.int .i64 V)))).set ob (.rw 1 ((ints (partN (outF x cnt mst k prev) x.ch.cells i)).set i (.int .i64 W))) = (A.set nb (.rw 1 (ints (partN (nowF x cnt mst k prev) x.ch.cells (i + 1))))).set ob (.rw 1 (ints (partN (outF x cnt mst k prev) x.ch.cells (i + 1)))) := by
    rintro V W rfl rfl
    rw [eB, ints_set', ints_set', hnset, hoset, List.set_comm _ _ hon, List.set_set, List.set_set]
  generalize hNF : nowF x cnt mst k prev i = NF at *
  generalize hOF : outF x cnt mst k prev i = OF at *
  have hle1 : i + 1 ≤ (ints (partN (nowF x cnt mst k prev) x.ch.cells i)).length := by rw [ints_length]; omega
  have hle2 : i + 1 ≤ (ints (partN (outF x cnt mst k prev) x.ch.cells i)).length := by rw [ints_length]; omega
  have hobS : ∀ z, (B.set nb z)[ob]? = some (.rw 1 (ints (partN (outF x cnt mst k prev) x.ch.cells i))) := fun z => by rw [List.getElem?_set_ne (Ne.symm hon), hobB]
  have hlbS : ∀ z, (B.set nb z)[lb]? = some (.rw 1 rv) := fun z => by rw [List.getElem?_set_ne (Ne.symm hln), hlbB]
  have lift : ∀ (b o : Nat) (v : Value), hcell H0 b o = some v → ∀ F, Aft H0 F → hcell F b o = some v := fun b o v hv F hF => by
    obtain ⟨K, rfl⟩ := hF
    have hb : b < H0.length := by
      unfold hcell at hv
      cases hx : H0[b]? with
      | none => rw [hx] at hv; simp at hv
      | some y => exact (List.getElem?_eq_some_iff.1 hx).1
    unfold hcell at hv ⊢
    rw [List.getElem?_append_left hb]
    exact hv
  have g1S := fun z => lift _ _ _ g1 (B.set nb z) (hAB.set hnb0 z)
  have g2S := fun z => lift _ _ _ g2 (B.set nb z) (hAB.set hnb0 z)
  simp only [hcell] at g1S g2S
  have hrvl : k < rv.length := (List.getElem?_eq_some_iff.1 hrk).1
  have hrke : ∀ hh : k < rv.length, rv[k]'hh = .slice (some ⟨ob, 0, none⟩) x.ch.cells x.ch.cells := fun hh => by rw [List.getElem?_eq_getElem hh] at hrk; exact Option.some.inj hrk
  have hnl2 : nb < B.length := (List.getElem?_eq_some_iff.1 hnbB).1
  have hSn : S.lim ≤ nb := by omega
  have hSo : S.lim ≤ ob := by omega
  have h00 := h
  obtain ⟨⟨⟨da, dc, ed, _⟩, ⟨ta, tc, et, _⟩, ⟨sa, sc, es, _⟩, _, htl, _⟩, ⟨ra, rc, er, _⟩, _⟩ := h
  obtain ⟨c3a, c3c, ec3, _⟩ := hc3
  obtain ⟨m3a, m3c, em3, _⟩ := hm3
  simp only [dsV, ed, et, es, er, em, ec3, em3] at hO
  rw [ed, et, es, er] at eL
  rw [em] at e1
  rw [ec3] at e2
  rw [em3] at e3
  rw [e9'] at e9
  generalize hpn : ints (partN (nowF x cnt mst k prev) x.ch.cells i) = PN at *
  generalize hpo : ints (partN (outF x cnt mst k prev) x.ch.cells i) = PO at *
  have hPNl : PN.length = x.ch.cells := by rw [← hpn, ints_length, hnlen]
  have hPOl : PO.length = x.ch.cells := by rw [← hpo, ints_length, holen]
  have hi1 : i + 1 ≤ x.ch.cells := hlt
  generalize hOw : ownM x cnt mst i k = OW at *
  generalize hRw : (rowAt x cnt mst k).getD i 0 = RW at *
  by_cases hk0 : k = 0
  · subst hk0
    have hb0 : bestF x 0 prev i = 0 := by unfold bestF; simp
    have hz0 : ((0 : Nat) : Int) = 0 := rfl
    simp only [hz0] at hO
    simp only [Nat.add_zero] at g1S
    rw [hb0] at hnf hof hbf
    have w1 : IntKind.i64.wrap (0 + OW) = 0 + OW := wrap_i64 (by omega) (by omega)
    have w2 : IntKind.i64.wrap (0 + RW) = 0 + RW := wrap_i64 (by omega) (by omega)
    rw [Int.zero_add] at w1 w2 hnf hof
    simp [-Int.natCast_add, thLoop1, SC.loops, sf_cobleref03_through, e1, e2, e3, e4, e9, e10, e11, e12, e13, e14, eL, el, hB, hlt, hO, w1, w2, hw, hnbB, hPNl, hPOl, hi1, hSn, hSo, hlbS, hkT, hrke, hrk, hrvl, g1S, g2S, hobS]
    exact ⟨_, by omega, i + 1, by omega, rfl, by omega, hFin _ _ hnf.symm hof.symm, by rw [hL, ed, et, es, er], em.symm, ec3.symm, em3.symm, h4.symm, by rw [h9, e9'], h10.symm, h11.symm, h12.symm, h13.symm⟩
  · obtain ⟨p1, p2, rb, c11, p3, p4, rfl, p5⟩ := hpv (by omega)
    have hkp : (0 : Int) < k := by omega
    have hkp' : 0 < k := by omega
    have hrbB : B[rb]? = some (.rw 1 (ints prev)) := by rw [eB, List.getElem?_set_ne (Ne.symm p3), List.getElem?_set_ne (Ne.symm p4), p5]
    simp [-Int.natCast_add, thLoop1, SC.loops, sf_cobleref03_through, e1, e2, e3, e4, e9, e10, e11, e12, e13, e14, eL, el, hB, hlt, hkp, hkp']
    generalize hS2 : ({ t := _, L := _, H := _, lim := _, rd := _ } : St) = S2
    obtain ⟨⟨q, s2⟩, hr, z1, z2, z3, z4, z5, z6, z7, z8, z9, z10, z11, z12, z13, z14, z15⟩ := thr_inner x hok B d t s r m (hm.ext hAB.ext) prev p1 (rb := rb) (c11 := c11) hlt hrbB S2 (by subst hS2; simp [e1, em]) (by subst hS2; simp [e4]) (by subst hS2; simp [e11]) (by subst hS2; simp [e14]) (by subst hS2; simp [neverR]) (by subst hS2; simp) (by subst hS2; simp [ed, et, es, er]) (by subst hS2; rfl)
    simp [thLoop2, SC.loops, sf_cobleref03_through] at hr
    rw [hr]
    simp only at z1 z2 z3 z4 z5 z6 z7 z8 z9 z10 z11 z12 z13 z14 z15
    have y2 : tget S2.t 2 = .slice c3a cnt.length c3c := by subst hS2; simp [e2]
    have y3 : tget S2.t 3 = .slice m3a mst.length m3c := by subst hS2; simp [e3]
    have y4 : tget S2.t 4 = .pointer (some ⟨4, 0, some 0⟩) := by subst hS2; simp [e4]
    have y9 : tget S2.t 9 = .slice (some ⟨qb, qo, none⟩) x.ch.ticks qc := by subst hS2; simp [e9]
    have y10 : tget S2.t 10 = .slice (some ⟨lb, 0, none⟩) x.ch.ticks lc := by subst hS2; simp [e10]
    have y11 : tget S2.t 11 = .slice (some ⟨rb, 0, none⟩) x.ch.cells c11 := by subst hS2; simp [e11]
    have y12 : tget S2.t 12 = .int .i64 k := by subst hS2; simp [e12]
    have y13 : tget S2.t 13 = .slice (some ⟨nb, 0, none⟩) x.ch.cells x.ch.cells := by subst hS2; simp [e13]
    have y14 : tget S2.t 14 = .int .i64 i := by subst hS2; simp [e14]
    have yL : S2.L = [(4, 0, .cells [.int .i64 x.ch.w, .int .i64 x.ch.h, .slice da x.ch.depth.length dc, .slice ta x.ch.tide.length tc, .slice sa x.ch.swell.length sc, .int .i64 x.g, .int .i64 x.pace, .slice ra x.reps.length rc])] := by subst hS2; simp
    have yl : S2.lim = S.lim := by subst hS2; simp
    have hbF : bestF x k prev i = bestOf (fun k => hops x k i) (fun j => prev.getD j 0) x.ch.cells := by unfold bestF; rw [if_neg hk0]
    rw [← hbF] at z5
    rw [em] at z6
    generalize bestF x k prev i = BF at *
    have w1 : IntKind.i64.wrap (BF + OW) = BF + OW := wrap_i64 (by omega) (by omega)
    have w2 : IntKind.i64.wrap (BF + RW) = BF + RW := wrap_i64 (by omega) (by omega)
    subst z1
    simp [-Int.natCast_add, and_assoc, hlt, z2, z3, z4, z5, z6, z7, z8, z9, z10, z11, z12, z13, z14, z15, y2, y3, y4, y9, y10, y11, y12, y13, y14, yL, yl, hO, w1, w2, hw, hnbB, hPNl, hPOl, hi1, hSn, hSo, hlbS, hkT, hrke, hrk, hrvl, g1S, g2S, hobS]
    exact ⟨_, by omega, i + 1, by omega, rfl, by omega, hFin _ _ hnf.symm hof.symm, by rw [hL, ed, et, es, er], em.symm, ec3.symm, em3.symm, h4.symm, by rw [h9, e9'], h10.symm, h11.symm, h12.symm, h13.symm⟩
end Go.Proofs.YtmdnpaboaelkeaaGreatDoor
namespace Go.Proofs.YtmdnpaboaelkeaaGreatDoor
open Go Go.RowKit
def thLoop0 : SC := sf_cobleref03_through.body.loops.headD .skip
theorem fwdR_ok {x : Ds} (hdo : dsOk x = true) (cnt mst : List Bool) (t : Nat) (ht : 0 < t) : (fwdR x cnt mst t).length = x.ch.cells ∧ ∀ y ∈ fwdR x cnt mst t, 0 ≤ y := by
  obtain ⟨t, rfl⟩ : ∃ m, t = m + 1 := ⟨t - 1, by omega⟩
  have hO0 : ∀ i k, 0 ≤ ownM x cnt mst i k := fun i k => (ownM_bound hdo cnt mst i k).1
  refine ⟨by simp [fwdR], fun y hy => ?_⟩
  unfold fwdR at hy
  obtain ⟨i, _, rfl⟩ := List.mem_map.1 hy
  have h1 := bestF_nonneg hO0 t i
  have h2 := hO0 i t
  have hN : neverR = 1073741824 := rfl
  omega
set_option maxHeartbeats 2000000 in
theorem thr_outer (x : Ds) (hok : ChOk x.ch) (hdo : dsOk x = true) (H0 : AH) (d t s r m c3 m3 rw9 : Value) (h : DsIn H0 x d t s r) (hm : Tab H0 m (mapM x.ch)) (cnt mst : List Bool) (hcl : cnt.length = x.reps.length) (hml : mst.length = x.reps.length) (hc3 : Sl H0 c3 cnt.length (bools cnt)) (hm3 : Sl H0 m3 mst.length (bools mst)) (h9T : Tab H0 rw9 (rowsM x cnt mst x.ch.ticks))
    {lc : Nat} (S : St) (hlim : S.lim ≤ H0.length)
    (h1 : tget S.t 1 = m) (h2 : tget S.t 2 = c3) (h3 : tget S.t 3 = m3) (h4 : tget S.t 4 = .pointer (some ⟨4, 0, some 0⟩)) (h9 : tget S.t 9 = rw9) (h10 : tget S.t 10 = .slice (some ⟨H0.length, 0, none⟩) x.ch.ticks lc) (h11 : tget S.t 11 = .slice none 0 0) (h12 : tget S.t 12 = .int .i64 0)
    (hL : S.L = [(4, 0, .cells [.int .i64 x.ch.w, .int .i64 x.ch.h, d, t, s, .int .i64 x.g, .int .i64 x.pace, r])]) (hH : S.H = H0 ++ [.rw 1 (List.replicate x.ch.ticks (.slice none 0 0))]) :
    ∃ q, exL Tryz.prog pf (.loop thLoop0) S = some q ∧ q.1 = .exit 0 ∧ Aft H0 q.2.H ∧ tget q.2.t 10 = tget S.t 10 ∧ ∃ rv : List Value, rv.length = x.ch.ticks ∧ q.2.H[H0.length]? = some (.rw 1 rv) ∧ ∀ j, j < x.ch.ticks → ∃ ob, H0.length ≤ ob ∧ rv[j]? = some (.slice (some ⟨ob, 0, none⟩) x.ch.cells x.ch.cells) ∧ q.2.H[ob]? = some (.rw 1 (ints (thrM x cnt mst j))) := by
  obtain ⟨ma, mc, em⟩ : ∃ a c, m = .slice a x.ch.cells c := by
    obtain ⟨rv, _, ⟨a, c, e, _⟩, _⟩ := hm
    exact ⟨a, c, by rw [e]; simp [mapM]⟩
  obtain ⟨na, nc, e9'⟩ : ∃ a c, rw9 = .slice a x.ch.ticks c := by
    obtain ⟨rv, _, ⟨a, c, e, _⟩, _⟩ := h9T
    exact ⟨a, c, by rw [e, rowsM_len]⟩
  obtain ⟨m0, m1, m2⟩ := hok.mul
  have htk : x.ch.ticks ≤ 60 := hok.2.2.2.1.2
  have hnlr : ∀ n : Nat, nlL (List.replicate n (Value.slice none 0 0)) = true := fun n => nlL_of _ fun v hv => by
    rw [(List.mem_replicate.1 hv).2]; simp
  refine loop_rule (I := fun n s' => ∃ k, k ≤ x.ch.ticks ∧ n = x.ch.ticks - k ∧ tget s'.t 12 = .int .i64 k ∧ s'.L = S.L ∧ s'.lim = S.lim ∧ Aft H0 s'.H ∧
      tget s'.t 1 = m ∧ tget s'.t 2 = c3 ∧ tget s'.t 3 = m3 ∧ tget s'.t 4 = tget S.t 4 ∧ tget s'.t 9 = tget S.t 9 ∧ tget s'.t 10 = tget S.t 10 ∧
      (∃ rv : List Value, rv.length = x.ch.ticks ∧ nlL rv = true ∧ s'.H[H0.length]? = some (.rw 1 rv) ∧ ∀ j, j < k → ∃ ob, H0.length < ob ∧ rv[j]? = some (.slice (some ⟨ob, 0, none⟩) x.ch.cells x.ch.cells) ∧ s'.H[ob]? = some (.rw 1 (ints (thrM x cnt mst j)))) ∧
      ((k = 0 ∧ tget s'.t 11 = .slice none 0 0) ∨ (0 < k ∧ ∃ rb, H0.length < rb ∧ tget s'.t 11 = .slice (some ⟨rb, 0, none⟩) x.ch.cells x.ch.cells ∧ s'.H[rb]? = some (.rw 1 (ints (fwdR x cnt mst k)))))) ?_ x.ch.ticks S
    ⟨0, by omega, by omega, h12, rfl, rfl, by rw [hH]; exact (Aft.refl H0).push _, h1, h2, h3, rfl, rfl, rfl, ⟨List.replicate x.ch.ticks (.slice none 0 0), by simp, hnlr _, by rw [hH, List.getElem?_append_right (Nat.le_refl _), Nat.sub_self]; rfl, fun j hj => by omega⟩, .inl ⟨rfl, h11⟩⟩
  rintro n s' ⟨k, hk, rfl, e12, eL, el, eA, e1, e2, e3, e4, e9, e10, ⟨rv, r1, r2, r3, r4⟩, e11⟩
  obtain ⟨B, hB⟩ : ∃ B, s'.H = B := ⟨_, rfl⟩
  rw [hB] at eA r3 r4 e11
  rw [h4] at e4
  rw [h9] at e9
  rw [h10] at e10
  have h00 := h
  have hc00 := hc3
  have hmm00 := hm3
  obtain ⟨⟨⟨da, dc, ed, _⟩, ⟨ta, tc, et, _⟩, ⟨sa, sc, es, _⟩, _, htl, _⟩, ⟨ra, rc, er, _⟩, _⟩ := h
  obtain ⟨c3a, c3c, ec3, _⟩ := hc3
  obtain ⟨m3a, m3c, em3, _⟩ := hm3
  by_cases hlt : k < x.ch.ticks
  rotate_left
  · have : k = x.ch.ticks := by omega
    subst this
    rw [e9'] at e9
    simp [thLoop0, SC.loops, sf_cobleref03_through, e9, e10, e12, hB, h10]
    refine ⟨eA, rv, r1, r3, fun j hj => ?_⟩
    obtain ⟨ob, o1, o2, o3⟩ := r4 j hj
    exact ⟨ob, by omega, o2, o3⟩
  have hlb : H0.length < B.length := (List.getElem?_eq_some_iff.1 r3).1
  have hmx : x.ch.cells ≤ maxA := Nat.le_trans (show x.ch.cells ≤ 144 by omega) (by decide)
  have hkr : k + 1 ≤ rv.length := by omega
  have hrbX : ∀ y : AH, (B ++ y)[H0.length]? = some (.rw 1 rv) := fun y => own_get r3 y
  have hz0 : List.replicate x.ch.cells (0 : Int) = partN (fun _ => 0) x.ch.cells 0 := by simp [partN]
  have hwk : IntKind.i64.wrap ((k : Int) + 1) = (k : Int) + 1 := wrap_i64 (by omega) (by omega)
  obtain ⟨v11, ev11, hn11, hpv⟩ : ∃ v11, tget s'.t 11 = v11 ∧ nl v11 = true ∧ (0 < k → (fwdR x cnt mst k).length = x.ch.cells ∧ (∀ y ∈ fwdR x cnt mst k, 0 ≤ y) ∧ ∃ rb c11, H0.length < rb ∧ rb < B.length ∧ v11 = .slice (some ⟨rb, 0, none⟩) x.ch.cells c11 ∧ B[rb]? = some (.rw 1 (ints (fwdR x cnt mst k)))) := by
    rcases e11 with ⟨rfl, e⟩ | ⟨k0, rb, b1, e, b2⟩
    · exact ⟨_, e, by simp, fun h => by omega⟩
    · obtain ⟨q1, q2⟩ := fwdR_ok hdo cnt mst k k0
      exact ⟨_, e, by simp, fun _ => ⟨q1, q2, rb, _, b1, (List.getElem?_eq_some_iff.1 b2).1, rfl, b2⟩⟩
  rw [em] at e1
  rw [ec3] at e2
  rw [em3] at e3
  have e99 := e9
  rw [e9'] at e9
  rw [hL, ed, et, es, er] at eL
  simp [-oneC, oneC_slice, thLoop0, SC.loops, sf_cobleref03_through, e1, e2, e3, e4, e9, e10, e12, eL, hB, el, hmx, zeros_ints, hrbX, hlt, hkr, hlim]
  generalize hS2 : ({ t := _, L := _, H := _, lim := _, rd := _ } : St) = S2
  obtain ⟨A, hA⟩ : ∃ A, A = (B ++ [ABlk.rw 1 (ints (List.replicate x.ch.cells 0))]).set H0.length (.rw 1 (rv.set k (.slice (some ⟨B.length, 0, none⟩) x.ch.cells x.ch.cells))) ++ [ABlk.rw 1 (ints (List.replicate x.ch.cells 0))] := ⟨_, rfl⟩
  have yH : S2.H = A := by subst hS2; simp [hA]
  have hBl1 : (B ++ [ABlk.rw 1 (ints (List.replicate x.ch.cells 0))]).length = B.length + 1 := by simp
  have hAl : A.length = B.length + 2 := by rw [hA]; simp
  have aA : Aft H0 A := by rw [hA]; exact ((eA.push _).set (Nat.le_refl _) _).push _
  have alb : A[H0.length]? = some (.rw 1 (rv.set k (.slice (some ⟨B.length, 0, none⟩) x.ch.cells x.ch.cells))) := by rw [hA]; refine own_get ?_ _; rw [List.getElem?_set_self (by simp; omega)]
  have aob : A[B.length]? = some (.rw 1 (ints (partN (fun _ => 0) x.ch.cells 0))) := by
    rw [hA, ← hz0]; refine own_get ?_ _
    rw [List.getElem?_set_ne (by omega), List.getElem?_append_right (Nat.le_refl _), Nat.sub_self]; rfl
  have anb : A[B.length + 1]? = some (.rw 1 (ints (partN (fun _ => 0) x.ch.cells 0))) := by
    rw [hA, ← hz0, List.getElem?_append_right (by simp)]; simp
  have aoth : ∀ b z, b ≠ H0.length → B[b]? = some z → A[b]? = some z := fun b z h1 h2 => by
    rw [hA]; refine own_get ?_ _
    rw [List.getElem?_set_ne (Ne.symm h1)]; exact own_get h2 _
  have hrk : (rv.set k (Value.slice (some ⟨B.length, 0, none⟩) x.ch.cells x.ch.cells))[k]? = some (.slice (some ⟨B.length, 0, none⟩) x.ch.cells x.ch.cells) := by rw [List.getElem?_set_self (by omega)]
  obtain ⟨⟨q, s2⟩, hr, z1, z2, z3, z4, z5, z6, z7, z8, z9, z10, z11, z12⟩ := thr_middle x hok hdo H0 A d t s r m c3 m3 rw9 h00 hm cnt mst hcl hml hc00 hmm00 h9T aA (lc := lc) (nb := B.length + 1) hlt _ alb hrk aob anb (by omega) (by omega) (by omega) (by omega) (by omega) (fwdR x cnt mst k) v11 (fun k0 => by
    obtain ⟨q1, q2, rb, c11, q3, q4, q5, q6⟩ := hpv k0
    exact ⟨q1, q2, rb, c11, by omega, by omega, q5, aoth rb _ (by omega) q6⟩) hn11 S2 (by subst hS2; simp [el]; exact hlim) (by subst hS2; simp [e1, em]) (by subst hS2; simp [e2, ec3]) (by subst hS2; simp [e3, em3]) (by subst hS2; simp [e4]) (by subst hS2; simp [e9, e9']) (by subst hS2; simp [e10]) (by subst hS2; simp [ev11]) (by subst hS2; simp [e12]) (by subst hS2; simp) (by subst hS2; simp) (by subst hS2; simp [ed, et, es, er]) yH
  simp [thLoop1, SC.loops, sf_cobleref03_through] at hr
  rw [hr]
  simp only at z1 z2 z3 z4 z5 z6 z7 z8 z9 z10 z11 z12
  have y4 : tget S2.t 4 = .pointer (some ⟨4, 0, some 0⟩) := by subst hS2; simp [e4]
  have y9 : tget S2.t 9 = rw9 := by subst hS2; simp [e9, e9']
  have y10 : tget S2.t 10 = .slice (some ⟨H0.length, 0, none⟩) x.ch.ticks lc := by subst hS2; simp [e10]
  have y12 : tget S2.t 12 = .int .i64 k := by subst hS2; simp [e12]
  have y13 : tget S2.t 13 = .slice (some ⟨B.length + 1, 0, none⟩) x.ch.cells x.ch.cells := by subst hS2; simp
  have yL : S2.L = S.L := by subst hS2; rw [hL]; simp [ed, et, es, er]
  have yl : S2.lim = S.lim := by subst hS2; simp [el]
  have hnow : (List.range x.ch.cells).map (nowF x cnt mst k (fwdR x cnt mst k)) = fwdR x cnt mst (k + 1) := rfl
  have hout : (List.range x.ch.cells).map (outF x cnt mst k (fwdR x cnt mst k)) = thrM x cnt mst k := rfl
  rw [hnow, hout] at z4
  have fin : ∀ b z, b ≠ B.length → b ≠ B.length + 1 → A[b]? = some z → s2.H[b]? = some z := fun b z h1 h2 h3 => by
    rw [z4, List.getElem?_set_ne (Ne.symm h1), List.getElem?_set_ne (Ne.symm h2), h3]
  have fob : s2.H[B.length]? = some (.rw 1 (ints (thrM x cnt mst k))) := by rw [z4, List.getElem?_set_self (by simp; omega)]
  have fnb : s2.H[B.length + 1]? = some (.rw 1 (ints (fwdR x cnt mst (k + 1)))) := by rw [z4, List.getElem?_set_ne (by omega), List.getElem?_set_self (by omega)]
  subst z1
  simp [and_assoc, z2, z3, z5, z6, z7, z8, z9, z10, z11, z12, y4, y9, y10, y12, y13, yL, yl, hwk, em, ec3, em3]
  refine ⟨_, by omega, k + 1, by omega, rfl, by omega, by rw [z4]; exact (aA.set (by omega) _).set (by omega) _, h4.symm, h9.symm, h10.symm, ⟨_, by simp [r1], nlL_setV _ _ _ r2 (by simp), fin _ _ (by omega) (by omega) alb, fun j hj => ?_⟩, ⟨by omega, B.length + 1, by omega, rfl, fnb⟩⟩
  by_cases hjk : j = k
  · subst hjk
    exact ⟨B.length, by omega, hrk, fob⟩
  · obtain ⟨ob, o1, o2, o3⟩ := r4 j (by omega)
    have obl : ob < B.length := (List.getElem?_eq_some_iff.1 o3).1
    exact ⟨ob, o1, by rw [List.getElem?_set_ne (by omega), o2], fin _ _ (by omega) (by omega) (aoth _ _ (by omega) o3)⟩
theorem run_through (x : Ds) (hok : ChOk x.ch) (hdo : dsOk x = true) (lim : Nat) (H : AH) (d t s r m c3 m3 : Value) (h : DsIn H x d t s r) (hm : Tab H m (mapM x.ch)) (cnt mst : List Bool) (hcl : cnt.length = x.reps.length) (hml : mst.length = x.reps.length) (hc3 : Sl H c3 cnt.length (bools cnt)) (hm3 : Sl H m3 mst.length (bools mst)) :
    ∃ lb c A, apL Tryz.prog pf (.func (.func 51) #[] #[]) [dsV x d t s r, m, c3, m3] lim H = some (.slice (some ⟨lb, 0, none⟩) x.ch.ticks c, A) ∧ Aft H A ∧ ∃ rv : List Value, rv.length = x.ch.ticks ∧ A[lb]? = some (.rw 1 rv) ∧ ∀ j, j < x.ch.ticks → ∃ ob, H.length ≤ ob ∧ rv[j]? = some (.slice (some ⟨ob, 0, none⟩) x.ch.cells x.ch.cells) ∧ A[ob]? = some (.rw 1 (ints (thrM x cnt mst j))) := by
  rw [apL_func _ _ _ _ _ _ (by rfl), sf_cobleref03_through_eq]
  obtain ⟨rw9, H1, hR, hH1, hT⟩ := run_rows x hok hdo H.length H d t s r m c3 m3 h hm cnt mst hcl hml hc3 hm3
  have h00 := h
  have hm00 := hm
  have hc00 := hc3
  have hmm00 := hm3
  have htk : x.ch.ticks ≤ 60 := hok.2.2.2.1.2
  have hmx : x.ch.ticks ≤ maxA := Nat.le_trans (show x.ch.ticks ≤ 60 by omega) (by decide)
  obtain ⟨⟨⟨da, dc, ed, _⟩, ⟨ta, tc, et, _⟩, ⟨sa, sc, es, _⟩, _, htl, _⟩, ⟨ra, rc, er, _⟩, _⟩ := h
  obtain ⟨ma, mc, em⟩ : ∃ a c, m = .slice a x.ch.cells c := by
    obtain ⟨rv, _, ⟨a, c, e, _⟩, _⟩ := hm
    exact ⟨a, c, by rw [e]; simp [mapM]⟩
  obtain ⟨na, nc, e9'⟩ : ∃ a c, rw9 = .slice a x.ch.ticks c := by
    obtain ⟨rv, _, ⟨a, c, e, _⟩, _⟩ := hT
    exact ⟨a, c, by rw [e, rowsM_len]⟩
  obtain ⟨c3a, c3c, ec3, _⟩ := hc3
  obtain ⟨m3a, m3c, em3, _⟩ := hm3
  have hz : ∀ n, zeros [.slice none 0 0] n = List.replicate n (Value.slice none 0 0) := by
    intro n
    induction n with
    | zero => rfl
    | succ n ih => simp only [zeros, ih, List.replicate_succ]; rfl
  have hnlr : ∀ n : Nat, nlL (List.replicate n (Value.slice none 0 0)) = true := fun n => nlL_of _ fun v hv => by
    rw [(List.mem_replicate.1 hv).2]; simp
  simp only [dsV, ed, et, es, er, em, ec3, em3, e9'] at hR
  simp [sf_cobleref03_through, dsV, ed, et, es, er, em, ec3, em3, hR, hmx, hz, hnlr, pf_pure, pureF]
  generalize hS : ({ t := _, L := _, H := _, lim := _, rd := _ } : St) = S
  obtain ⟨⟨q, s1⟩, hr, q1, q2, q3, rv, q4, q5, q6⟩ := thr_outer x hok hdo H1 d t s r m c3 m3 rw9 (h00.ext hH1.ext) (hm00.ext hH1.ext) cnt mst hcl hml (hc00.ext hH1.ext) (hmm00.ext hH1.ext) hT (lc := x.ch.ticks) S (by subst hS; simpa using hH1.le) (by subst hS; simp [em]) (by subst hS; simp [ec3]) (by subst hS; simp [em3]) (by subst hS; simp) (by subst hS; simp [e9']) (by subst hS; simp) (by subst hS; simp) (by subst hS; simp) (by subst hS; simp [ed, et, es, er]) (by subst hS; rfl)
  simp [thLoop0, SC.loops, sf_cobleref03_through] at hr
  rw [hr]
  simp only at q1 q2 q3 q5 q6
  subst q1
  have y10 : tget S.t 10 = .slice (some ⟨H1.length, 0, none⟩) x.ch.ticks x.ch.ticks := by subst hS; simp
  rw [y10] at q3
  simp [q3]
  refine ⟨_, _, _, ⟨⟨rfl, rfl⟩, rfl⟩, hH1.trans q2, rv, q4, q5, fun j hj => ?_⟩
  obtain ⟨ob, o1, o2, o3⟩ := q6 j hj
  exact ⟨ob, Nat.le_trans hH1.le o1, o2, o3⟩
end Go.Proofs.YtmdnpaboaelkeaaGreatDoor
namespace Go.Proofs.YtmdnpaboaelkeaaGreatDoor
open Go Go.RowKit
def fiLoop0 : SC := sf_cobleref03_first.body.loops.headD .skip
def fiLoop1 : SC := sf_cobleref03_first.body.loops.tail.headD .skip
def fiLoop2 : SC := sf_cobleref03_first.body.loops.tail.tail.headD .skip
def upC (C : Nat → Nat) (t : Nat) : List Int := (List.range t).map fun i => (C i : Int)
theorem upC_succ (C : Nat → Nat) (t : Nat) : upC C (t + 1) = upC C t ++ [(C t : Int)] := by simp [upC, List.range_succ]
theorem upC_len (C : Nat → Nat) (t : Nat) : (upC C t).length = t := by simp [upC]
theorem upC_get (C : Nat → Nat) {t i : Nat} (h : i < t) : (upC C t).getD i 0 = C i := by simp [upC, h]
theorem row_cell {x : Ds} {H0 : AH} {rw9 : Value} {cnt mst : List Bool} (h : Tab H0 rw9 (rowsM x cnt mst x.ch.ticks)) {k i : Nat} (hk : k < x.ch.ticks) (hi : i < x.ch.cells) :
    ∃ b o c b' o' c', rw9 = .slice (some ⟨b, o, none⟩) x.ch.ticks c ∧ hcell H0 b (o + k) = some (.slice (some ⟨b', o', none⟩) x.ch.cells c') ∧ hcell H0 b' (o' + i) = some (.int .i64 ((rowAt x cnt mst k).getD i 0)) := by
  have hrl : (rowsM x cnt mst x.ch.ticks).length = x.ch.ticks := rowsM_len ..
  have hkl : k < (rowsM x cnt mst x.ch.ticks).length := by rw [hrl]; exact hk
  have hrow := rowAt_get x cnt mst hkl
  have hrowl : (rowsM x cnt mst x.ch.ticks)[k].length = x.ch.cells := by rw [hrow]; exact rowAt_len hk
  obtain ⟨qb, qo, qc, qb', qo', qc', e9', g1, g2⟩ := tab_cell h hkl (i := i) (by rw [hrowl]; exact hi)
  refine ⟨qb, qo, qc, qb', qo', qc', by rw [e9', hrl], by rw [g1, hrowl], ?_⟩
  rw [g2]
  have : i < (rowAt x cnt mst k).length := by rw [rowAt_len hk]; exact hi
  simp [hrow, this]
theorem hcell_aft {H0 : AH} {b o : Nat} {v : Value} (hv : hcell H0 b o = some v) {F : AH} (hF : Aft H0 F) : hcell F b o = some v := by
  obtain ⟨K, rfl⟩ := hF
  have hb : b < H0.length := by
    unfold hcell at hv
    cases hx : H0[b]? with
    | none => rw [hx] at hv; simp at hv
    | some y => exact (List.getElem?_eq_some_iff.1 hx).1
  unfold hcell at hv ⊢
  rw [List.getElem?_append_left hb]
  exact hv
set_option maxHeartbeats 2000000 in
theorem first_inner (x : Ds) (hok : ChOk x.ch) (hdo : dsOk x = true) (H0 A : AH) (d t s r m c3 m3 rw9 : Value) (h : DsIn H0 x d t s r) (hm : Tab H0 m (mapM x.ch)) (cnt mst : List Bool) (hcl : cnt.length = x.reps.length) (hml : mst.length = x.reps.length) (hc3 : Sl H0 c3 cnt.length (bools cnt)) (hm3 : Sl H0 m3 mst.length (bools mst)) (h9T : Tab H0 rw9 (rowsM x cnt mst x.ch.ticks)) (hA : Aft H0 A)
    (C : Nat → Nat) (L : Nat → Int) {k : Nat} (hk : k < x.ch.ticks) (hCk : C (k - 1) < x.ch.cells) (hfind : (List.range x.ch.cells).find? (fun i => fromP x (C (k - 1)) k i && (rowAt x cnt mst k).getD i 0 == L k) = some (C k)) (hLn : L (k + 1) = L k - ownM x cnt mst (C k) k)
    (S : St) (hlim : S.lim ≤ H0.length) (h1 : tget S.t 1 = c3) (h2 : tget S.t 2 = m3) (h3 : tget S.t 3 = .pointer (some ⟨3, 0, some 0⟩)) (h8 : tget S.t 8 = m) (h9 : tget S.t 9 = rw9) (h12 : tget S.t 12 = .int .i64 (L k)) (h13 : OwnA H0.length A (tget S.t 13) (upC C k)) (h14 : tget S.t 14 = .int .i64 k) (h15 : tget S.t 15 = .int .i64 0)
    (hL : S.L = [(3, 0, .cells [.int .i64 x.ch.w, .int .i64 x.ch.h, d, t, s, .int .i64 x.g, .int .i64 x.pace, r])]) (hH : S.H = A) :
    ∃ q, exL Tryz.prog pf (.loop fiLoop2) S = some q ∧ q.1 = .exit 4 ∧ q.2.L = S.L ∧ q.2.lim = S.lim ∧ Aft H0 q.2.H ∧ OwnA H0.length q.2.H (tget q.2.t 13) (upC C (k + 1)) ∧ tget q.2.t 12 = .int .i64 (L (k + 1)) ∧
      tget q.2.t 1 = c3 ∧ tget q.2.t 2 = m3 ∧ tget q.2.t 3 = tget S.t 3 ∧ tget q.2.t 8 = m ∧ tget q.2.t 9 = tget S.t 9 ∧ tget q.2.t 10 = tget S.t 10 ∧ tget q.2.t 14 = tget S.t 14 := by
  obtain ⟨f1, f2, f3⟩ := List.find?_range_eq_some.1 hfind
  have hCc : C k < x.ch.cells := List.mem_range.1 f2
  obtain ⟨ma, mc, em⟩ : ∃ a c, m = .slice a x.ch.cells c := by
    obtain ⟨rv, _, ⟨a, c, e, _⟩, _⟩ := hm
    exact ⟨a, c, by rw [e]; simp [mapM]⟩
  obtain ⟨m0, m1, m2⟩ := hok.mul
  have htk : x.ch.ticks ≤ 60 := hok.2.2.2.1.2
  have hN0 : neverR = 1073741824 := rfl
  obtain ⟨v13, ev13⟩ : ∃ v, tget S.t 13 = v := ⟨_, rfl⟩
  rw [ev13] at h13
  have hw : IntKind.i64.wrap ((k : Int) - 1) = (k : Int) - 1 := wrap_i64 (by omega) (by omega)
  refine loop_rule (I := fun n s' => ∃ i, i ≤ C k ∧ n = C k - i ∧ tget s'.t 15 = .int .i64 i ∧ s'.H = A ∧ s'.L = S.L ∧ s'.lim = S.lim ∧ tget s'.t 1 = c3 ∧ tget s'.t 2 = m3 ∧ tget s'.t 3 = tget S.t 3 ∧ tget s'.t 8 = m ∧ tget s'.t 9 = tget S.t 9 ∧ tget s'.t 10 = tget S.t 10 ∧ tget s'.t 12 = tget S.t 12 ∧ tget s'.t 13 = v13 ∧ tget s'.t 14 = tget S.t 14) ?_ (C k) S
    ⟨0, by omega, by omega, h15, hH, rfl, rfl, h1, h2, rfl, h8, rfl, rfl, rfl, ev13, rfl⟩
  rintro n s' ⟨i, hi, rfl, e15, eH, eL, el, e1, e2, e3, e8, e9, e10, e12, e13, e14⟩
  have hic : i < x.ch.cells := by omega
  rw [h3] at e3
  rw [h9] at e9
  rw [h12] at e12
  rw [h14] at e14
  rw [hL] at eL
  obtain ⟨qb, qo, qc, qb', qo', qc', e9', g1, g2⟩ := row_cell h9T hk hic
  have hrb := rowAt_bound hdo cnt mst hk ((rowAt x cnt mst k).getD i 0) (by
    have : i < (rowAt x cnt mst k).length := by rw [rowAt_len hk]; exact hic
    rw [List.getD_eq_getElem?_getD, List.getElem?_eq_getElem this]
    exact List.getElem_mem this)
  have g1A := hcell_aft g1 hA
  have g2A := hcell_aft g2 hA
  obtain ⟨b, o, cp, b', o', c', em2, n1, n2⟩ := map_cell hok (hm.ext hA.ext) hCk hic
  obtain ⟨xb, xo, hx13, hxc⟩ : ∃ xa xc, v13 = .slice xa k xc ∧ (0 < k → ∃ xb xo, xa = some ⟨xb, xo, none⟩ ∧ hcell A xb (xo + (k - 1)) = some (.int .i64 (C (k - 1) : Nat))) := by
    obtain ⟨xa, xc, e, hd⟩ := h13.sl
    rw [upC_len] at e
    refine ⟨xa, xc, e, fun k0 => ?_⟩
    obtain ⟨xb, xo, e1, g⟩ := hd (k - 1) _ (ints_get (upC C k) (k - 1) (by rw [upC_len]; omega))
    rw [upC_get C (by omega : k - 1 < k)] at g
    exact ⟨xb, xo, e1, g⟩
  have hw1 : IntKind.i64.wrap ((i : Int) + 1) = (i : Int) + 1 := wrap_i64 (by omega) (by omega)
  have hOwn := fun lim (F : AH) (hF : Aft H0 F) => run_own x hok hdo lim F d t s r m c3 m3 (h.ext hF.ext) (hm.ext hF.ext) cnt mst hcl hml (hc3.ext hF.ext) (hm3.ext hF.ext) hCc hk
  have hownb := ownM_bound hdo cnt mst (C k) k
  have h00 := h
  obtain ⟨⟨⟨da, dc, ed, _⟩, ⟨ta, tc, et, _⟩, ⟨sa, sc, es, _⟩, _, htl, _⟩, ⟨ra, rc, er, _⟩, _⟩ := h
  obtain ⟨c3a, c3c, ec3, _⟩ := hc3
  obtain ⟨m3a, m3c, em3, _⟩ := hm3
  simp only [dsV, ed, et, es, er, em2, ec3, em3] at hOwn
  rw [ed, et, es, er] at eL
  rw [em2] at e8
  rw [ec3] at e1
  rw [em3] at e2
  rw [e9'] at e9
  rw [hx13] at e13
  simp only [hcell] at g1A g2A n1 n2
  have hcond : (fromP x (C (k - 1)) k i && (rowAt x cnt mst k).getD i 0 == L k) = decide (i = C k) := by
    by_cases e : i = C k
    · subst e; rw [f1]; simp
    · have := f3 i (by omega)
      have hd : decide (i = C k) = false := by simpa using e
      rw [hd]
      rw [Bool.not_eq_true'] at this
      exact this
  have hwL : IntKind.i64.wrap (L k - ownM x cnt mst (C k) k) = L (k + 1) := by
    rw [hLn]
    simp only [Bool.and_eq_true, beq_iff_eq] at f1
    have hrb2 := rowAt_bound hdo cnt mst hk ((rowAt x cnt mst k).getD (C k) 0) (by
      have : C k < (rowAt x cnt mst k).length := by rw [rowAt_len hk]; exact hCc
      rw [List.getD_eq_getElem?_getD, List.getElem?_eq_getElem this]
      exact List.getElem_mem this)
    rw [f1.2] at hrb2
    exact wrap_i64 (by omega) (by omega)
  have hm1 : 1 ≤ maxA := by decide
  have hsu := upC_succ C k
  have hul := upC_len C k
  have hLs := hL
  rw [ed, et, es, er] at hLs
  have next : i ≠ C k → i + 1 ≤ C k := fun h => by omega
  by_cases hR : (rowAt x cnt mst k).getD i 0 = L k
  rotate_left
  · have hne : i ≠ C k := by
      rintro rfl
      simp only [Bool.and_eq_true, beq_iff_eq] at f1
      exact hR f1.2
    have hbf : ((rowAt x cnt mst k).getD i 0 == L k) = false := by simpa using hR
    generalize (rowAt x cnt mst k).getD i 0 = RW at *
    simp [fiLoop2, SC.loops, sf_cobleref03_first, e1, e2, e3, e8, e9, e10, e12, e13, e14, e15, eL, eH, el, hic, hk, g1A, g2A, hbf, hw1]
    exact ⟨_, by omega, i + 1, next hne, rfl, by omega, hLs.symm, ec3.symm, em3.symm, h3.symm, em2.symm, by rw [h9, e9'], h12.symm, hx13.symm, h14.symm⟩
  have hbt : ((rowAt x cnt mst k).getD i 0 == L k) = true := by simpa using hR
  rw [hbt, Bool.and_true] at hcond
  by_cases hk0 : k = 0
  · have hiC : i = C k := by
      have : fromP x (C (k - 1)) k i = true := by subst hk0; rfl
      rw [this] at hcond
      simpa using hcond.symm
    obtain ⟨hC0, e13'⟩ : upC C k = [] ∧ v13 = .slice none 0 0 := by
      rcases h13 with h | ⟨h1, _⟩
      · exact h
      · rw [hk0] at h1; simp [upC] at h1
    have hOw := fun lim => hOwn lim (A ++ [.rw 1 [.int .i64 (i : Int)], .rw 1 [.int .i64 (i : Int)]]) (hA.push _)
    rw [hx13] at e13'
    rw [e13'] at e13
    have hkk : tget S.t 14 = .int .i64 0 := by rw [h14, hk0]; rfl
    rw [← hiC] at hOw hwL
    subst hk0
    have hz0 : ((0 : Nat) : Int) = 0 := rfl
    simp only [hz0] at hOw
    simp only [Nat.add_zero] at g1A
    generalize (rowAt x cnt mst 0).getD i 0 = RW at *
    simp [-oneC, oneC_int, fiLoop2, SC.loops, sf_cobleref03_first, e1, e2, e3, e8, e9, e10, e12, e13, e14, e15, eL, eH, el, hic, hk, g1A, g2A, hbt, hw1, hm1, hOw, hwL, hL, h3, h9, ed, et, es, er]
    refine ⟨hA.push _, .inr ⟨by simp [upC], A.length + 1, by have := hA.le; omega, by simp [upC], ?_⟩, ec3.symm, em3.symm, em2.symm, e9'.symm, hkk.symm⟩
    rw [List.getElem?_append_right (by omega), Nat.add_sub_cancel_left]
    simp [upC, ints, hiC]
  · obtain ⟨xb', xo', rfl, hxg⟩ := hxc (by omega)
    have hkb : ((k : Int) == 0) = false := by simp; omega
    have hkt : ((k : Int) - 1).toNat = k - 1 := by omega
    have hk1 : (1 : Int) ≤ k ∧ (k : Int) - 1 < k := by omega
    simp only [hcell] at hxg
    by_cases hh : apt x.ch.w (C (k - 1)) i ≤ x.pace
    · have hiC : i = C k := by
        have : fromP x (C (k - 1)) k i = true := by simp [fromP, hops, hh]
        rw [this] at hcond
        simpa using hcond.symm
      obtain ⟨b', hb', ev', hbA⟩ : ∃ b', H0.length ≤ b' ∧ v13 = .slice (some ⟨b', 0, none⟩) k (k + 1) ∧ A[b']? = some (.rw 1 (ints (upC C k))) := by
        rcases h13 with ⟨h, _⟩ | ⟨_, b', h2, h3, h4⟩
        · have := upC_len C k; rw [h] at this; simp at this; omega
        · rw [hul] at h3; exact ⟨b', h2, h3, h4⟩
      rw [hx13] at ev'
      rw [ev'] at e13
      have hbl' : b' < A.length := (List.getElem?_eq_some_iff.1 hbA).1
      have hmx : k + 1 ≤ maxA := Nat.le_trans (show k + 1 ≤ 2000 by omega) (by decide)
      have hcn : nlL (ints (upC C k)) = true := nlL_ints _
      have hci : (ints (upC C k)).length = k := by rw [ints_length, hul]
      have happ : ints (upC C k) ++ [.int .i64 (i : Int)] = ints (upC C (k + 1)) := by rw [hsu, ints_append, ← hiC]; rfl
      have hcA := fun L x => own_cells hbA L x
      have hbX := fun x => own_get hbA x
      have hsX := fun x y => own_set hbA x y
      have hlb : S.lim ≤ b' := by omega
      rw [hci] at hcA
      have hOw := fun lim => hOwn lim (A.set b' .dead ++ [.rw 1 [.int .i64 (i : Int)], .rw 1 (ints (upC C (k + 1)))]) ((hA.set hb' _).push _)
      rw [← hiC] at hOw hwL
      have hxb : xb' = b' ∧ xo' = 0 := by
        simp only [Value.slice.injEq, Option.some.injEq, Addr.mk.injEq] at ev'
        exact ⟨ev'.1.1, ev'.1.2.1⟩
      obtain ⟨rfl, rfl⟩ := hxb
      simp only [Nat.zero_add] at hxg
      generalize hcs : ints (upC C k) = cs at *
      generalize (rowAt x cnt mst k).getD i 0 = RW at *
      simp [-oneC, oneC_int, -Int.natCast_add, fiLoop2, SC.loops, sf_cobleref03_first, e1, e2, e3, e8, e9, e10, e12, e13, e14, e15, eL, eH, el, hic, hk, g1A, g2A, hbt, hw1, hkb, hw, hkt, hk1, hxg, hCk, n1, n2, hh, hm1, hk0, hmx, hcn, hcA, hbX, hsX, happ, hci, hlb, hOw, hwL, hL, h3, h9, h14, ed, et, es, er]
      exact ⟨(hA.set hb' _).push _, .inr ⟨by rw [hsu]; simp, A.length + 1, by have := hA.le; omega, by rw [upC_len], by rw [List.getElem?_append_right (by simp)]; simp⟩, ec3.symm, em3.symm, em2.symm, e9'.symm⟩
    · have hne : i ≠ C k := by
        have h1 : fromP x (C (k - 1)) k i = false := by
          have : (k == 0) = false := by simpa using hk0
          simp [fromP, hops, hh, hk0]
        rw [h1] at hcond
        simpa using hcond.symm
      generalize (rowAt x cnt mst k).getD i 0 = RW at *
      simp [-Int.natCast_add, fiLoop2, SC.loops, sf_cobleref03_first, e1, e2, e3, e8, e9, e10, e12, e13, e14, e15, eL, eH, el, hic, hk, g1A, g2A, hbt, hw1, hkb, hw, hkt, hk1, hxg, hCk, n1, n2, hh]
      exact ⟨_, by omega, i + 1, next hne, rfl, by omega, hLs.symm, ec3.symm, em3.symm, h3.symm, em2.symm, by rw [h9, e9'], h12.symm, hx13.symm, h14.symm⟩
end Go.Proofs.YtmdnpaboaelkeaaGreatDoor
