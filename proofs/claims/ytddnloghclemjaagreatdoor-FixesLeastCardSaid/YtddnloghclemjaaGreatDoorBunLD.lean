import Derived.Test.YtddnloghclemjaaGreatDoorBunLC
import Derived.Test.YtddnloghclemjaaGreatDoorBunLA
import Derived.Test.YtddnloghclemjaaGreatDoorBunLB
set_option linter.all false
namespace Go.Proofs.YtddnloghclemjaaGreatDoor
open Go Go.RowKit
def inLoop : SC := sf_coblelaw03_in.body.loops.headD .skip
theorem in_loop (l : List Int) (hl : l.length < 2 ^ 62) (n : Int) (H : AH) (v : Value) (hv : Sl H v l.length (ints l)) (S : St) (h0 : tget S.t 0 = v) (h1 : tget S.t 1 = .int .i64 n) (h5 : tget S.t 5 = .int .i64 0) (hH : S.H = H) :
    ∃ q, exL Tryz.prog pf (.loop inLoop) S = some q ∧ q.2.H = H ∧ ((q.1 = .exit 0 ∧ n ∉ l) ∨ (q.1 = .ret ∧ n ∈ l ∧ tget q.2.t 4 = .bool true)) := by
  obtain ⟨aa, ac, ev, hd⟩ := hv
  refine loop_rule (I := fun m s' => ∃ j, j ≤ l.length ∧ m = l.length - j ∧ tget s'.t 0 = v ∧ tget s'.t 1 = .int .i64 n ∧ tget s'.t 5 = .int .i64 j ∧ s'.H = H ∧ n ∉ l.take j) ?_ l.length S ⟨0, by omega, by omega, h0, h1, h5, hH, by simp⟩
  rintro m s' ⟨j, hj, rfl, e0, e1, e5, eH, en⟩
  rw [ev] at e0
  by_cases hlt : j < l.length
  rotate_left
  · have : j = l.length := by omega
    subst this
    rw [List.take_length] at en
    simp [inLoop, SC.loops, sf_coblelaw03_in, e0, e1, e5, eH]
    exact en
  obtain ⟨b, o, rfl, g⟩ := hd j (.int .i64 l[j]) (by simp [ints, hlt])
  have hw : IntKind.i64.wrap ((j : Int) + 1) = (j : Int) + 1 := wrap_i64 (by omega) (by omega)
  have ht : l.take (j + 1) = l.take j ++ [l[j]] := by rw [List.take_succ, List.getElem?_eq_getElem hlt]; rfl
  have hm : l[j] ∈ l := List.getElem_mem hlt
  simp only [hcell] at g
  generalize l[j] = y at *
  by_cases hy : y = n
  · subst hy
    simp [inLoop, SC.loops, sf_coblelaw03_in, e0, e1, e5, eH, hlt, g]
    exact hm
  · have hb : (y == n) = false := by simpa using hy
    simp [inLoop, SC.loops, sf_coblelaw03_in, e0, e1, e5, eH, hlt, g, hb, hw]
    exact ⟨_, by omega, j + 1, by omega, rfl, ev.symm, by omega, by rw [ht]; simp [en]; exact fun e => hy e.symm⟩
theorem run_in (l : List Int) (hl : l.length < 2 ^ 62) (n : Int) (lim : Nat) (H : AH) (v : Value) (hv : Sl H v l.length (ints l)) :
    apL Tryz.prog pf (.func (.func 35) #[] #[]) [v, .int .i64 n] lim H = some (.bool (decide (n ∈ l)), H) := by
  rw [apL_func _ _ _ _ _ _ (by rfl), sf_coblelaw03_in_eq]
  have hv0 := hv
  obtain ⟨aa, ac, ev, _⟩ := hv
  simp [sf_coblelaw03_in, ev, pf_pure, pureF]
  generalize hS : ({ t := _, L := _, H := _, lim := _, rd := _ } : St) = S
  obtain ⟨⟨q, s1⟩, hr, q1, q2⟩ := in_loop l hl n H v hv0 S (by subst hS; simp [ev]) (by subst hS; simp) (by subst hS; simp) (by subst hS; rfl)
  simp [inLoop, SC.loops, sf_coblelaw03_in] at hr
  rw [hr]
  simp only at q1 q2
  rcases q2 with ⟨rfl, h⟩ | ⟨rfl, h, h4⟩
  · simp [q1, h]
  · simp [q1, h, h4]
end Go.Proofs.YtddnloghclemjaaGreatDoor
namespace Go.Proofs.YtddnloghclemjaaGreatDoor
open Go Go.RowKit
theorem wthM_mem {x : Ds} {fl : Nat → Nat → Bool} {p : Nat → Nat → Int} {k : Nat} {most : Int} {i : Int} : i ∈ withM x fl p k most ↔ ∃ j : Nat, j < x.ch.cells ∧ i = (j : Nat) ∧ withinB x fl p k most j = true := by
  unfold withM thoseN
  rw [List.mem_map]
  constructor
  · rintro ⟨j, hj, rfl⟩
    rw [List.mem_filter, List.mem_range] at hj
    exact ⟨j, hj.1, rfl, hj.2⟩
  · rintro ⟨j, h1, rfl, h2⟩
    exact ⟨j, by rw [List.mem_filter, List.mem_range]; exact ⟨h1, h2⟩, rfl⟩
theorem wthM_mono {x : Ds} {fl : Nat → Nat → Bool} {p : Nat → Nat → Int} {k : Nat} {a b : Int} (hab : a ≤ b) : ∀ i ∈ withM x fl p k a, i ∈ withM x fl p k b := by
  intro i hi
  obtain ⟨j, h1, h2, h3⟩ := wthM_mem.1 hi
  refine wthM_mem.2 ⟨j, h1, h2, ?_⟩
  unfold withinB at h3 ⊢
  simp only [Bool.and_eq_true, decide_eq_true_eq] at h3 ⊢
  exact ⟨h3.1, by omega⟩
def leLoop : SC := sf_coblelaw03_FixesLeast.body.loops.headD .skip
theorem le_loop (la lb : List Int) (hla : la.length < 2 ^ 62) (hlb : lb.length < 2 ^ 62) (hab : ∀ i ∈ la, i ∈ lb) (H : AH) (a b : Value) (ha : Sl H a la.length (ints la)) (hb : Sl H b lb.length (ints lb)) (S : St)
    (h22 : tget S.t 22 = a) (h24 : tget S.t 24 = b) (h26 : tget S.t 26 = .int .i64 0) (hH : S.H = H) :
    ∃ q, exL Tryz.prog pf (.loop leLoop) S = some q ∧ q.2.H = H ∧ q.1 = .exit 0 := by
  have hI := fun n lim => run_in lb hlb n lim H b hb
  obtain ⟨aa, ac, ea, hd⟩ := ha
  obtain ⟨ba, bc, eb, _⟩ := hb
  rw [eb] at hI
  refine loop_rule (I := fun m s' => ∃ j, j ≤ la.length ∧ m = la.length - j ∧ tget s'.t 22 = a ∧ tget s'.t 24 = b ∧ tget s'.t 26 = .int .i64 j ∧ s'.H = H) ?_ la.length S ⟨0, by omega, by omega, h22, h24, h26, hH⟩
  rintro m s' ⟨j, hj, rfl, e22, e24, e26, eH⟩
  rw [ea] at e22
  rw [eb] at e24
  by_cases hlt : j < la.length
  rotate_left
  · simp [leLoop, SC.loops, sf_coblelaw03_FixesLeast, e22, e24, e26, eH, hlt]
  obtain ⟨bb, o, rfl, g⟩ := hd j (.int .i64 la[j]) (by simp [ints, hlt])
  have hw : IntKind.i64.wrap ((j : Int) + 1) = (j : Int) + 1 := wrap_i64 (by omega) (by omega)
  have hm : la[j] ∈ lb := hab _ (List.getElem_mem hlt)
  simp only [hcell] at g
  generalize la[j] = y at *
  have hI := hI y
  rw [decide_eq_true hm] at hI
  simp [leLoop, SC.loops, sf_coblelaw03_FixesLeast, e22, e24, e26, eH, hlt, g, hI, hw]
  exact ⟨_, by omega, j + 1, by omega, rfl, ea.symm, eb.symm, by omega⟩
theorem wthM_len {x : Ds} (hok : ChOk x.ch) (fl : Nat → Nat → Bool) (p : Nat → Nat → Int) (k : Nat) (most : Int) : (withM x fl p k most).length < 2 ^ 62 := by
  have h1 := thoseN_len (fun i => withinB x fl p k most i.toNat) x.cells
  have h2 : x.cells ≤ 144 := hok.pos.2
  have h3 : (withM x fl p k most).length ≤ x.cells := h1
  omega
theorem none_iff {x : Ds} (hok : ChOk x.ch) (hdo : dsOk x = true) {j : Nat} (hj : j < x.ch.ticks) : withM x (mayF x) (doubtP x) j 0 = [] ↔ leastM (backN x (mayF x) (doubtP x) x.ch.ticks) x.ch.cells ≠ 0 := by
  have hT : topN = 1201 := rfl
  have htk0 : 0 < x.ch.ticks := hok.2.2.2.1.1
  have hp0 : ∀ k i, k < x.ch.ticks → i < x.ch.cells → 0 ≤ doubtP x k i := fun k i _ _ => (doubt_bound hdo k i).1
  constructor
  · intro h e
    obtain ⟨c, c1, c2⟩ := least_way (fl := mayF x) (hops_self hdo) htk0 hp0 (by omega)
    have : ((c j : Nat) : Int) ∈ withM x (mayF x) (doubtP x) j 0 := wthM_mem.2 ⟨c j, c1.lt j (by omega) hj, rfl, (within_way (hops_self hdo) (hops_symm x) hp0 hj (c1.lt j (by omega) hj) (by omega)).2 ⟨c, rfl, c1, by omega⟩⟩
    rw [h] at this; cases this
  · intro h
    apply List.eq_nil_iff_forall_not_mem.2
    intro i hi
    obtain ⟨n, n1, n2, n3⟩ := wthM_mem.1 hi
    obtain ⟨c, _, c1, c2⟩ := (within_way (hops_self hdo) (hops_symm x) hp0 hj n1 (by omega)).1 n3
    have hz := (sumW_none (p := doubtP x) (c := c) x.ch.ticks fun t _ => (doubt_bound hdo t _).1).1 c2
    have h1 := least_min (hops_self hdo) htk0 c1 (p := doubtP x) fun t ht => by have := hz t ht; omega
    have h2 : 0 ≤ leastM (backN x (mayF x) (doubtP x) x.ch.ticks) x.ch.cells := by
      rcases bestOf_mem (fun _ => true) (fun j => (backN x (mayF x) (doubtP x) x.ch.ticks).getD j 0) x.ch.cells with h3 | ⟨z, z1, _, z3⟩
      · have : leastM (backN x (mayF x) (doubtP x) x.ch.ticks) x.ch.cells = neverR := h3
        rw [this]; decide
      · have : leastM (backN x (mayF x) (doubtP x) x.ch.ticks) x.ch.cells = (backN x (mayF x) (doubtP x) x.ch.ticks).getD z 0 := z3
        rw [this]
        exact (backN_bound hp0 _ (Nat.le_refl _) z).1
    omega
theorem least_top {x : Ds} (hok : ChOk x.ch) (hdo : dsOk x = true) : 0 ≤ leastM (backN x (mayF x) (doubtP x) x.ch.ticks) x.ch.cells ∧ leastM (backN x (mayF x) (doubtP x) x.ch.ticks) x.ch.cells ≤ topN := by
  have hp0 : ∀ k i, k < x.ch.ticks → i < x.ch.cells → 0 ≤ doubtP x k i := fun k i _ _ => (doubt_bound hdo k i).1
  constructor
  · rcases bestOf_mem (fun _ => true) (fun j => (backN x (mayF x) (doubtP x) x.ch.ticks).getD j 0) x.ch.cells with h3 | ⟨z, z1, _, z3⟩
    · have : leastM (backN x (mayF x) (doubtP x) x.ch.ticks) x.ch.cells = neverR := h3
      rw [this]; decide
    · have : leastM (backN x (mayF x) (doubtP x) x.ch.ticks) x.ch.cells = (backN x (mayF x) (doubtP x) x.ch.ticks).getD z 0 := z3
      rw [this]
      exact (backN_bound hp0 _ (Nat.le_refl _) z).1
  · have h1 := bestOf_le (fun _ => true) (fun j => (backN x (mayF x) (doubtP x) x.ch.ticks).getD j 0) x.ch.cells 0 hok.pos.1 rfl
    have h2 := (backN_bound (fl := mayF x) hp0 x.ch.ticks (Nat.le_refl _) 0).2
    have h3 : leastM (backN x (mayF x) (doubtP x) x.ch.ticks) x.ch.cells ≤ (backN x (mayF x) (doubtP x) x.ch.ticks).getD 0 0 := h1
    omega
end Go.Proofs.YtddnloghclemjaaGreatDoor
namespace Go.Proofs.YtddnloghclemjaaGreatDoor
open Go Go.RowKit
theorem course_get (x : Ds) (fl : Nat → Nat → Bool) (p : Nat → Nat → Int) : ∀ t, t < x.ch.ticks → (courseM x fl p x.ch.ticks).getD t 0 = (cP x fl p t : Nat) := fun t ht => by
  simp [courseM, List.getD_eq_getElem?_getD, ht]
open Classical in
set_option maxHeartbeats 4000000 in
theorem least_law (x : Ds) (lim : Nat) (H : AH) (hG : H[bitsG]? = some (.ro bitsV)) (d t s r cv : Value) (h : DsSl H x d t s r) (cs : List Int) (hcs : Sl H cv cs.length (ints cs)) (k w : Int) :
    apL Tryz.prog pf (.func (.func 9) #[] #[]) [dsV x d t s r, cv, .agg #[.int .i64 k, .int .i64 w]] lim H = some (.bool true, H) := by
  rw [apL_func _ _ _ _ _ _ (by rfl), sf_coblelaw03_FixesLeast_eq]
  have hV := fun lim => run_Vague x lim H d t s r h
  have hW := fun lim => run_works lim H hG
  have h00 := h
  by_cases hv : Vg x
  · obtain ⟨⟨⟨da, dc, ed, _⟩, ⟨ta, tc, et, _⟩, ⟨sa, sc, es, _⟩⟩, ⟨ra, rc, er, _⟩⟩ := h
    obtain ⟨ca, cc, ec, _⟩ := hcs
    simp only [dsV, ed, et, es, er] at hV
    simp [sf_coblelaw03_FixesLeast, dsV, ed, et, es, er, ec, hV, hv, hW, pf_pure, pureF]
  have hf : ¬ Far x.ch := fun e => hv (.inl e)
  have hl : ¬ x.reps.length > 14 := fun e => hv (.inr (.inl e))
  have hD := h.near hf hl
  have hCk := fun lim => run_ref3Check x lim H d t s r hD
  by_cases he : dsE x = 0
  rotate_left
  · have hne : (dsE x != 0) = true := by simpa using he
    obtain ⟨⟨⟨da, dc, ed, _⟩, ⟨ta, tc, et, _⟩, ⟨sa, sc, es, _⟩⟩, ⟨ra, rc, er, _⟩⟩ := h
    obtain ⟨ca, cc, ec, _⟩ := hcs
    simp only [dsV, ed, et, es, er] at hV hCk
    generalize dsE x = z at *
    simp [sf_coblelaw03_FixesLeast, dsV, ed, et, es, er, ec, hV, hv, hCk, hne, hW, pf_pure, pureF]
  have hTk := fun lim => run_IsTick x.ch k lim H d t s hD.c
  by_cases hk : inN x.ch.ticks k = true
  rotate_left
  · have hk' : inN x.ch.ticks k = false := by simpa using hk
    rw [hk'] at hTk
    rw [he] at hCk
    obtain ⟨⟨⟨da, dc, ed, _⟩, ⟨ta, tc, et, _⟩, ⟨sa, sc, es, _⟩⟩, ⟨ra, rc, er, _⟩⟩ := h
    obtain ⟨ca, cc, ec, _⟩ := hcs
    simp only [dsV, chV, ed, et, es, er] at hV hCk hTk
    simp [sf_coblelaw03_FixesLeast, dsV, ed, et, es, er, ec, hV, hv, hCk, hTk, hW, pf_pure, pureF]
  rw [hk] at hTk
  rw [he] at hCk
  by_cases hw0 : w < 0
  · obtain ⟨⟨⟨da, dc, ed, _⟩, ⟨ta, tc, et, _⟩, ⟨sa, sc, es, _⟩⟩, ⟨ra, rc, er, _⟩⟩ := h
    obtain ⟨ca, cc, ec, _⟩ := hcs
    simp only [dsV, chV, ed, et, es, er] at hV hCk hTk
    simp [sf_coblelaw03_FixesLeast, dsV, ed, et, es, er, ec, hV, hv, hCk, hTk, hw0, hW, pf_pure, pureF]
  by_cases hw1 : 100 < w
  · obtain ⟨⟨⟨da, dc, ed, _⟩, ⟨ta, tc, et, _⟩, ⟨sa, sc, es, _⟩⟩, ⟨ra, rc, er, _⟩⟩ := h
    obtain ⟨ca, cc, ec, _⟩ := hcs
    simp only [dsV, chV, ed, et, es, er] at hV hCk hTk
    simp [sf_coblelaw03_FixesLeast, dsV, ed, et, es, er, ec, hV, hv, hCk, hTk, hw0, hw1, hW, pf_pure, pureF]
  obtain ⟨hok, hdo⟩ := dsE_zero he
  obtain ⟨j, hj, rfl⟩ := inN_iff.1 hk
  have hT : topN = 1201 := rfl
  have htk0 : 0 < x.ch.ticks := hok.2.2.2.1.1
  have hp0 : ∀ k i, k < x.ch.ticks → i < x.ch.cells → 0 ≤ doubtP x k i := fun k i _ _ => (doubt_bound hdo k i).1
  obtain ⟨v1, B1, hr1, hB1, hO1⟩ := run_fDoubt x H.length H hG d t s r hD
  obtain ⟨v2, B2, hr2, hB2, hO2⟩ := run_fWhere x H.length B1 d t s r (hD.ext hB1.ext) j
  have hHB2 := hB1.trans hB2
  obtain ⟨v3, B3, hr3, hB3, hO3⟩ := run_fWithin x H.length B2 (hHB2.ext _ _ hG) d t s r (hD.ext hHB2.ext) j 0
  have hHB3 := hHB2.trans hB3
  have hD3 := hD.ext hHB3.ext
  have hW3 := fun lim => run_works lim B3 (hHB3.ext _ _ hG)
  have hDc := fun lim => run_doubted x hok hdo lim B3 d t s r cv hD3 cs (hcs.ext hHB3.ext)
  have hk2 : inN x.ticks j = true := hk
  have hz := none_iff hok hdo hj
  have hwz := within_zero hok hdo hj
  have ewd3 : withinD x j 0 = (withM x (mayF x) (doubtP x) j 0, 0) := by simp [withinD, he, hk2, dbtB]
  have ewd2 : whereD x j = if withM x (mayF x) (doubtP x) j 0 = [] then ([], 3) else (withM x (mayF x) (doubtP x) j 0, 0) := by
    rw [hwz]; simp [whereD, he, hk2]
  have edd : doubtD x = ((if leastM (backN x (mayF x) (doubtP x) x.ch.ticks) x.ch.cells = topN then 0 else leastM (backN x (mayF x) (doubtP x) x.ch.ticks) x.ch.cells), bestE x (mayF x) (doubtP x)) := by simp [doubtD, he]
  rw [ewd3] at hr3 hO3
  rw [ewd2] at hr2 hO2
  rw [edd] at hr1 hO1
  have hwl := wthM_len hok (mayF x) (doubtP x) j 0
  have htop := least_top hok hdo
  have hinv := fun hb => doubted_inv (cs := cs) hdo hb
  have hlow := doubted_le hdo cs
  have hown : leastM (backN x (mayF x) (doubtP x) x.ch.ticks) x.ch.cells < topN → doubtedM x (courseM x (mayF x) (doubtP x) x.ch.ticks) = (leastM (backN x (mayF x) (doubtP x) x.ch.ticks) x.ch.cells, true, true) := fun hlt => by
    obtain ⟨c1, c2⟩ := cP_seg hok hdo hp0 hlt
    have := doubted_sum hdo c1 (courseM_len x (mayF x) (doubtP x) x.ch.ticks) (course_get x (mayF x) (doubtP x)) (by rw [c2]; exact hlt)
    rw [this, c2]
  have hmin : ∀ c, Seg x (mayF x) c 0 x.ch.ticks → sumW (doubtP x) c 0 x.ch.ticks < topN → leastM (backN x (mayF x) (doubtP x) x.ch.ticks) x.ch.cells ≤ sumW (doubtP x) c 0 x.ch.ticks := fun c hc hs =>
    least_min (hops_self hdo) htk0 hc fun t ht => by
      have := sumW_le (p := doubtP x) (c := c) 0 x.ch.ticks (fun t _ _ => (doubt_bound hdo t _).1) t (by omega) (by omega)
      omega
  unfold bestE at hr1 hO1
  have hS := fun lim => run_sameInts3 (withM x (mayF x) (doubtP x) j 0) (withM x (mayF x) (doubtP x) j 0) hwl lim B3 v3 v2 hO3.sl (by
    by_cases e : withM x (mayF x) (doubtP x) j 0 = []
    · rw [if_pos e] at hO2; rw [e]; exact hO2.sl.ext hB3.ext
    · rw [if_neg e] at hO2; exact hO2.sl.ext hB3.ext)
  obtain ⟨a3, c3, e3, n3⟩ := ownA_slice hO3
  obtain ⟨a2, c2, e2, n2⟩ := ownA_slice hO2
  obtain ⟨a1, c1, e1, n1⟩ := ownA_slice hO1
  by_cases hLt : leastM (backN x (mayF x) (doubtP x) x.ch.ticks) x.ch.cells = topN
  · have hW0 := hz.2 (by rw [hLt]; decide)
    have hno : ¬ ((doubtedM x cs).2.2 = true ∧ (doubtedM x cs).2.1 = true) := fun ⟨h1, h2⟩ => by
      obtain ⟨_, c, c1, _, c2⟩ := hinv h1
      have := hmin c c1 (by rw [c2 h2]; omega)
      have := c2 h2
      omega
    rw [hW0] at hr2 hr3 hS hO3 e2
    simp only [if_pos hLt, if_true] at hr1 hr2 e1 e2
    rw [hW0] at e3
    rw [e1] at hr1 n1
    rw [e2] at hr2 hS n2
    rw [e3] at hr3 hS n3
    simp only [List.length_nil] at hS
    obtain ⟨⟨⟨da, dc, ed, _⟩, ⟨ta, tc, et, _⟩, ⟨sa, sc, es, _⟩⟩, ⟨ra, rc, er, _⟩⟩ := h
    obtain ⟨ca, cc, ec, _⟩ := hcs
    simp only [dsV, chV, ed, et, es, er, ec] at hV hCk hTk hr1 hr2 hr3 hDc
    generalize (doubtedM x cs).1 = n at *
    cases h1 : (doubtedM x cs).2.2 with
    | false =>
      rw [h1] at hDc
      generalize (doubtedM x cs).2.1 = b at *
      simp [-oneC, oneC_slice, oneC_int, -Array.all_toList, -List.all_eq_false, sf_coblelaw03_FixesLeast, dsV, ed, et, es, er, ec, hV, hv, hCk, hTk, hw0, hw1, hr1, hr2, hr3, hS, hDc, hW3, n1, n2, n3, pf_pure, pureF]
    | true =>
      have h2 : (doubtedM x cs).2.1 = false := by
        cases h2 : (doubtedM x cs).2.1
        · rfl
        · exact absurd ⟨h1, h2⟩ hno
      rw [h1, h2] at hDc
      simp [-oneC, oneC_slice, oneC_int, -Array.all_toList, -List.all_eq_false, sf_coblelaw03_FixesLeast, dsV, ed, et, es, er, ec, hV, hv, hCk, hTk, hw0, hw1, hr1, hr2, hr3, hS, hDc, hW3, n1, n2, n3, pf_pure, pureF]
  have hlt : leastM (backN x (mayF x) (doubtP x) x.ch.ticks) x.ch.cells < topN := by omega
  have hown := hown hlt
  have hlen := courseM_len x (mayF x) (doubtP x) x.ch.ticks
  simp only [if_neg hLt] at hr1 hO1 e1
  have hDo := fun lim => run_doubted x hok hdo lim B3 d t s r v1 hD3 (courseM x (mayF x) (doubtP x) x.ch.ticks) (hO1.sl.ext (hB2.trans hB3).ext)
  rw [hown] at hDo
  have hin := fun (n : Int) (hn : dbtB n = true) => show withinD x j n = (withM x (mayF x) (doubtP x) j n, 0) by simp [withinD, he, hk2, hn]
  have hR4 := fun (n : Int) => run_fWithin x H.length B3 (hHB3.ext _ _ hG) d t s r hD3 j n
  have hok2 : (doubtedM x cs).2.2 = true → (doubtedM x cs).2.1 = true → leastM (backN x (mayF x) (doubtP x) x.ch.ticks) x.ch.cells ≤ (doubtedM x cs).1 ∧ cs.length = x.ch.ticks ∧ cs.getD j 0 ∈ withM x (mayF x) (doubtP x) j (doubtedM x cs).1 := fun h1 h2 => by
    obtain ⟨hl, c, c1, c2, c3⟩ := hinv h1
    have h3 := c3 h2
    have h4 := hmin c c1 (by omega)
    refine ⟨by omega, hl, ?_⟩
    rw [c2 j hj]
    exact wthM_mem.2 ⟨c j, c1.lt j (by omega) hj, rfl, (within_way (hops_self hdo) (hops_symm x) hp0 hj (c1.lt j (by omega) hj) (by omega)).2 ⟨c, rfl, c1, by omega⟩⟩
  have hwln := fun n => wthM_len hok (mayF x) (doubtP x) j n
  have hmono := fun (a b : Int) (h : a ≤ b) => wthM_mono (x := x) (fl := mayF x) (p := doubtP x) (k := j) h
  have hcs0 := hcs
  have hEq : ((if withM x (mayF x) (doubtP x) j 0 = [] then (([] : List Int), (3 : Int)) else (withM x (mayF x) (doubtP x) j 0, 0)).2 == 0) = (leastM (backN x (mayF x) (doubtP x) x.ch.ticks) x.ch.cells == 0) := by
    by_cases e : withM x (mayF x) (doubtP x) j 0 = []
    · have := hz.1 e
      rw [if_pos e]
      have : (leastM (backN x (mayF x) (doubtP x) x.ch.ticks) x.ch.cells == 0) = false := by simpa using this
      rw [this]; rfl
    · have : leastM (backN x (mayF x) (doubtP x) x.ch.ticks) x.ch.cells = 0 := by
        apply Classical.byContradiction
        exact fun h => e (hz.2 h)
      rw [if_neg e, this]
  have hz2 : (if withM x (mayF x) (doubtP x) j 0 = [] then (([] : List Int), (3 : Int)) else (withM x (mayF x) (doubtP x) j 0, 0)).2 = 0 ∨ (if withM x (mayF x) (doubtP x) j 0 = [] then (([] : List Int), (3 : Int)) else (withM x (mayF x) (doubtP x) j 0, 0)).2 = 3 := by
    split <;> simp
  rw [e1] at hr1 n1 hDo
  rw [e2] at hr2 hS n2
  rw [e3] at hr3 hS n3
  obtain ⟨⟨⟨da, dc, ed, _⟩, ⟨ta, tc, et, _⟩, ⟨sa, sc, es, _⟩⟩, ⟨ra, rc, er, _⟩⟩ := h
  obtain ⟨ca, cc, ec, hcd⟩ := hcs
  simp only [dsV, chV, ed, et, es, er, ec] at hV hCk hTk hr1 hr2 hr3 hDc hDo hR4
  generalize (if withM x (mayF x) (doubtP x) j 0 = [] then (([] : List Int), (3 : Int)) else (withM x (mayF x) (doubtP x) j 0, 0)).2 = z2 at *
  generalize hle1 : (if withM x (mayF x) (doubtP x) j 0 = [] then (([] : List Int), (3 : Int)) else (withM x (mayF x) (doubtP x) j 0, 0)).1.length = l2 at *
  generalize hle3 : (withM x (mayF x) (doubtP x) j 0).length = l3 at *
  generalize (courseM x (mayF x) (doubtP x) x.ch.ticks).length = l1 at *
  generalize hLL : leastM (backN x (mayF x) (doubtP x) x.ch.ticks) x.ch.cells = L at *
  generalize hn : (doubtedM x cs).1 = n at *
  cases h1 : (doubtedM x cs).2.2 with
  | false =>
    rw [h1] at hDc
    generalize (doubtedM x cs).2.1 = b at *
    rcases hz2 with rfl | rfl
    · have hb : (L == 0) = true := hEq.symm.trans (by decide)
      simp [-oneC, oneC_slice, oneC_int, -Array.all_toList, -List.all_eq_false, sf_coblelaw03_FixesLeast, dsV, ed, et, es, er, ec, hV, hv, hCk, hTk, hw0, hw1, hr1, hr2, hr3, hS, hDo, hDc, hW3, n1, n2, n3, hb, pf_pure, pureF]
    · have hb : (L == 0) = false := hEq.symm.trans (by decide)
      simp [-oneC, oneC_slice, oneC_int, -Array.all_toList, -List.all_eq_false, sf_coblelaw03_FixesLeast, dsV, ed, et, es, er, ec, hV, hv, hCk, hTk, hw0, hw1, hr1, hr2, hr3, hS, hDo, hDc, hW3, n1, n2, n3, hb, pf_pure, pureF]
  | true =>
  cases h2 : (doubtedM x cs).2.1 with
  | false =>
    rw [h1, h2] at hDc
    rcases hz2 with rfl | rfl
    · have hb : (L == 0) = true := hEq.symm.trans (by decide)
      simp [-oneC, oneC_slice, oneC_int, -Array.all_toList, -List.all_eq_false, sf_coblelaw03_FixesLeast, dsV, ed, et, es, er, ec, hV, hv, hCk, hTk, hw0, hw1, hr1, hr2, hr3, hS, hDo, hDc, hW3, n1, n2, n3, hb, pf_pure, pureF]
    · have hb : (L == 0) = false := hEq.symm.trans (by decide)
      simp [-oneC, oneC_slice, oneC_int, -Array.all_toList, -List.all_eq_false, sf_coblelaw03_FixesLeast, dsV, ed, et, es, er, ec, hV, hv, hCk, hTk, hw0, hw1, hr1, hr2, hr3, hS, hDo, hDc, hW3, n1, n2, n3, hb, pf_pure, pureF]
  | true =>
  obtain ⟨hLn, hcl, hcm⟩ := hok2 h1 h2
  rw [h1, h2] at hDc
  have hd4 : dbtB n = true := by simp [dbtB]; omega
  obtain ⟨v4, B4, hr4, hB4, hO4⟩ := hR4 n
  rw [hin n hd4] at hr4 hO4
  obtain ⟨q, hq⟩ : ∃ q, q = if 1200 < n + w then (1200 : Int) else n + w := ⟨_, rfl⟩
  have hq2 : n ≤ q ∧ dbtB q = true := by
    have : n ≤ q ∧ 0 ≤ q ∧ q ≤ 1200 := by rw [hq]; split <;> omega
    refine ⟨this.1, ?_⟩
    simp [dbtB, this.2.1, this.2.2]
  obtain ⟨v5, B5, hr5, hB5, hO5⟩ := run_fWithin x H.length B4 ((hHB3.trans hB4).ext _ _ hG) d t s r (hD3.ext hB4.ext) j q
  rw [hin q hq2.2] at hr5 hO5
  have hHB5 := (hHB3.trans hB4).trans hB5
  obtain ⟨a4, c4, e4, n4⟩ := ownA_slice hO4
  obtain ⟨a5, c5, e5, n5⟩ := ownA_slice hO5
  have hs4 := hO4.sl.ext hB5.ext
  have hs5 := hO5.sl
  have hI := fun lim => run_in (withM x (mayF x) (doubtP x) j n) (hwln n) (cs.getD j 0) lim B5 v4 hs4
  rw [decide_eq_true hcm] at hI
  have hW5 := fun lim => run_works lim B5 (hHB5.ext _ _ hG)
  obtain ⟨ca', cc', ec', hcd5⟩ := hcs0.ext hHB5.ext
  rw [ec] at ec'
  cases ec'
  obtain ⟨cb, co, rfl, g⟩ := hcd5 j (.int .i64 (cs.getD j 0)) (by simp [ints, List.getD_eq_getElem?_getD, hcl, hj])
  have hjl : j < cs.length := by omega
  have hws : IntKind.i64.wrap (n + w) = n + w := wrap_i64 (by omega) (by omega)
  have hnL : ¬ n < L := by omega
  have hn12 : ¬ 1200 < n := by omega
  have hsub := hmono n q hq2.1
  have hll := fun S => le_loop (withM x (mayF x) (doubtP x) j n) (withM x (mayF x) (doubtP x) j q) (hwln n) (hwln q) hsub B5 v4 v5 hs4 hs5 S
  simp only [dsV, ed, et, es, er, hcell] at hr4 hr5 g
  rw [e4] at hr4 hI n4 hll
  rw [e5] at hr5 n5 hll
  generalize cs.getD j 0 = y at *
  generalize withM x (mayF x) (doubtP x) j n = wn at *
  generalize withM x (mayF x) (doubtP x) j q = wq at *
  by_cases hmw : 1200 < n + w
  · rw [if_pos hmw] at hq
    subst hq
    rcases hz2 with rfl | rfl
    · have hb : (L == 0) = true := hEq.symm.trans (by decide)
      simp [-oneC, oneC_slice, oneC_int, -Array.all_toList, -List.all_eq_false, sf_coblelaw03_FixesLeast, dsV, ed, et, es, er, ec, hV, hv, hCk, hTk, hw0, hw1, hr1, hr2, hr3, hS, hDo, hDc, n1, n2, n3, hb, hnL, hn12, hr4, hr5, n4, n5, hws, hmw, hjl, g, hI, pf_pure, pureF]
      generalize hSS : ({ t := _, L := _, H := _, lim := _, rd := _ } : St) = S
      obtain ⟨⟨qq, s1⟩, hrr, q1, q2⟩ := hll S (by subst hSS; simp) (by subst hSS; simp) (by subst hSS; simp) (by subst hSS; rfl)
      simp [leLoop, SC.loops, sf_coblelaw03_FixesLeast] at hrr
      rw [hrr]
      simp only at q1 q2
      subst q2
      simp [q1, hW5]
    · have hb : (L == 0) = false := hEq.symm.trans (by decide)
      simp [-oneC, oneC_slice, oneC_int, -Array.all_toList, -List.all_eq_false, sf_coblelaw03_FixesLeast, dsV, ed, et, es, er, ec, hV, hv, hCk, hTk, hw0, hw1, hr1, hr2, hr3, hS, hDo, hDc, n1, n2, n3, hb, hnL, hn12, hr4, hr5, n4, n5, hws, hmw, hjl, g, hI, pf_pure, pureF]
      generalize hSS : ({ t := _, L := _, H := _, lim := _, rd := _ } : St) = S
      obtain ⟨⟨qq, s1⟩, hrr, q1, q2⟩ := hll S (by subst hSS; simp) (by subst hSS; simp) (by subst hSS; simp) (by subst hSS; rfl)
      simp [leLoop, SC.loops, sf_coblelaw03_FixesLeast] at hrr
      rw [hrr]
      simp only at q1 q2
      subst q2
      simp [q1, hW5]
  · rw [if_neg hmw] at hq
    subst hq
    rcases hz2 with rfl | rfl
    · have hb : (L == 0) = true := hEq.symm.trans (by decide)
      simp [-oneC, oneC_slice, oneC_int, -Array.all_toList, -List.all_eq_false, sf_coblelaw03_FixesLeast, dsV, ed, et, es, er, ec, hV, hv, hCk, hTk, hw0, hw1, hr1, hr2, hr3, hS, hDo, hDc, n1, n2, n3, hb, hnL, hn12, hr4, hr5, n4, n5, hws, hmw, hjl, g, hI, pf_pure, pureF]
      generalize hSS : ({ t := _, L := _, H := _, lim := _, rd := _ } : St) = S
      obtain ⟨⟨qq, s1⟩, hrr, q1, q2⟩ := hll S (by subst hSS; simp) (by subst hSS; simp) (by subst hSS; simp) (by subst hSS; rfl)
      simp [leLoop, SC.loops, sf_coblelaw03_FixesLeast] at hrr
      rw [hrr]
      simp only at q1 q2
      subst q2
      simp [q1, hW5]
    · have hb : (L == 0) = false := hEq.symm.trans (by decide)
      simp [-oneC, oneC_slice, oneC_int, -Array.all_toList, -List.all_eq_false, sf_coblelaw03_FixesLeast, dsV, ed, et, es, er, ec, hV, hv, hCk, hTk, hw0, hw1, hr1, hr2, hr3, hS, hDo, hDc, n1, n2, n3, hb, hnL, hn12, hr4, hr5, n4, n5, hws, hmw, hjl, g, hI, pf_pure, pureF]
      generalize hSS : ({ t := _, L := _, H := _, lim := _, rd := _ } : St) = S
      obtain ⟨⟨qq, s1⟩, hrr, q1, q2⟩ := hll S (by subst hSS; simp) (by subst hSS; simp) (by subst hSS; simp) (by subst hSS; rfl)
      simp [leLoop, SC.loops, sf_coblelaw03_FixesLeast] at hrr
      rw [hrr]
      simp only at q1 q2
      subst q2
      simp [q1, hW5]
end Go.Proofs.YtddnloghclemjaaGreatDoor
namespace Go.Proofs.YtddnloghclemjaaGreatDoor
open Go Go.RowKit
attribute [local irreducible] tyD
variable {H : Type}
def i64R (x : Int) : Prop := -9223372036854775808 ≤ x ∧ x < 9223372036854775808
theorem dInt {n : Nat} {d : DataW H} (h : tyD Tryz.prog (n + 1) 3 d) : ∃ i, i64R i ∧ ∀ k, absD d k = ([.int .i64 i], []) := by
  unfold tyD at h
  simp only [Tryz.underlying3] at h
  obtain ⟨i, rfl, hw⟩ := h
  refine ⟨i, ?_, fun k => rfl⟩
  simp only [Lit.wf, Bool.and_eq_true, decide_eq_true_eq] at hw
  have e1 : IntKind.i64.min = -9223372036854775808 := by decide
  have e2 : IntKind.i64.max = 9223372036854775807 := by decide
  unfold i64R
  omega
theorem dInts {n : Nat} : ∀ (ds : List (DataW H)) (_ : ∀ p ∈ ds, tyD Tryz.prog (n + 1) 3 p), ∃ l : List Int, l.length = ds.length ∧ (∀ x ∈ l, i64R x) ∧ ∀ k, absDs ds k = (ints l, [])
  | [], _ => ⟨[], rfl, by simp, fun k => rfl⟩
  | d :: ds, h => by
    obtain ⟨i, hr, hi⟩ := dInt (n := n) (h d (by simp))
    obtain ⟨l, hl, hx, hk⟩ := dInts (n := n) ds (fun p hp => h p (by simp [hp]))
    exact ⟨i :: l, by simp [hl], by simpa using ⟨hr, hx⟩, fun k => by simp [absDs, hi, hk, ints]⟩
theorem dSpan {n : Nat} {d : DataW H} (h : tyD Tryz.prog (n + 2) 53 d) : ∃ a b, i64R a ∧ i64R b ∧ ∀ k, absD d k = ([.int .i64 a, .int .i64 b], []) := by
  unfold tyD at h
  simp only [Tryz.underlying53] at h
  obtain ⟨parts, rfl, hp⟩ := h
  match parts, hp with
  | [x, y], hp =>
    obtain ⟨a, ra, ha⟩ := dInt (n := n) hp.1
    obtain ⟨b, rb, hb⟩ := dInt (n := n) hp.2.1
    exact ⟨a, b, ra, rb, fun k => by simp [absD, absDs, ha, hb]⟩
  | [], hp => exact hp.elim
  | [_], hp => exact hp.2.elim
  | _ :: _ :: _ :: _, hp => exact hp.2.2.elim
theorem dSpans {n : Nat} : ∀ (ds : List (DataW H)) (_ : ∀ p ∈ ds, tyD Tryz.prog (n + 2) 53 p), ∃ l : List (Int × Int), l.length = ds.length ∧ (∀ x ∈ l, i64R x.1 ∧ i64R x.2) ∧ ∀ k, absDs ds k = (spans l, [])
  | [], _ => ⟨[], rfl, by simp, fun k => rfl⟩
  | d :: ds, h => by
    obtain ⟨a, b, ra, rb, hi⟩ := dSpan (n := n) (h d (by simp))
    obtain ⟨l, hl, hx, hk⟩ := dSpans (n := n) ds (fun p hp => h p (by simp [hp]))
    exact ⟨(a, b) :: l, by simp [hl], fun x hx' => by
      rcases List.mem_cons.1 hx' with rfl | h'
      · exact ⟨ra, rb⟩
      · exact hx _ h', fun k => by simp [absDs, hi, hk, spans]⟩
def Lay (d : DataW H) (R : AH → List Value → Prop) : Prop := ∀ H0 : AH, R (H0 ++ (absD d H0.length).2) (absD d H0.length).1
def SlD (n : Nat) (cs : List Value) (A : AH) (vs : List Value) : Prop := ∃ v, vs = [v] ∧ Sl A v n cs
theorem SlD.of {ds : List (DataW H)} {sp : List (DataW H)} {cs : List Value} (h : ∀ k, absDs ds k = (cs, [])) : Lay (.slice ds sp) (SlD ds.length (if ds = [] then [] else cs)) := by
  intro H0
  match ds, h with
  | [], _ => exact ⟨_, rfl, none, 1, rfl, fun j x hx => by simp at hx⟩
  | d :: ds, h =>
    refine ⟨_, rfl, _, _, rfl, fun j x hx => ⟨H0.length, 0, rfl, ?_⟩⟩
    simp only [absD, h]
    simp only [hcell, Nat.zero_add, List.getElem?_append_right (Nat.le_refl _), Nat.sub_self, List.getElem?_cons_zero]
    simpa using hx
theorem dIntsS {n : Nat} {d : DataW H} (h : tyD Tryz.prog (n + 2) 22 d) : ∃ l : List Int, l.length ≤ maxLen ∧ (∀ x ∈ l, i64R x) ∧ Lay d (SlD l.length (ints l)) := by
  unfold tyD at h
  simp only [Tryz.underlying22] at h
  rcases h with rfl | ⟨elems, spare, rfl, hl, hp⟩
  · exact ⟨[], by simp, by simp, fun H0 => ⟨_, rfl, none, 1, rfl, fun j x hx => by simp [ints] at hx⟩⟩
  · obtain ⟨l, h1, h2, h3⟩ := dInts (n := n) elems hp
    refine ⟨l, by omega, h2, ?_⟩
    have := SlD.of (sp := spare) h3
    rw [h1]
    by_cases he : elems = []
    · subst he
      obtain rfl : l = [] := List.eq_nil_of_length_eq_zero h1
      simpa [ints] using this
    · simpa [he] using this
theorem dSpansS {n : Nat} {d : DataW H} (h : tyD Tryz.prog (n + 3) 23 d) : ∃ l : List (Int × Int), l.length ≤ maxLen ∧ (∀ x ∈ l, i64R x.1 ∧ i64R x.2) ∧ Lay d (SlD l.length (spans l)) := by
  unfold tyD at h
  simp only [Tryz.underlying23] at h
  rcases h with rfl | ⟨elems, spare, rfl, hl, hp⟩
  · exact ⟨[], by simp, by simp, fun H0 => ⟨_, rfl, none, 1, rfl, fun j x hx => by simp [spans] at hx⟩⟩
  · obtain ⟨l, h1, h2, h3⟩ := dSpans (n := n) elems hp
    refine ⟨l, by omega, h2, ?_⟩
    have := SlD.of (sp := spare) h3
    rw [h1]
    by_cases he : elems = []
    · subst he
      obtain rfl : l = [] := List.eq_nil_of_length_eq_zero h1
      simpa [spans] using this
    · simpa [he] using this
theorem dChart {n : Nat} {d : DataW H} (h : tyD Tryz.prog (n + 4) 25 d) : ∃ c : Ch, (i64R c.w ∧ i64R c.h) ∧ Lay d fun A vs => ∃ dd tt ss, vs = [.int .i64 c.w, .int .i64 c.h, dd, tt, ss] ∧ ChSl A c dd tt ss := by
  unfold tyD at h
  simp only [Tryz.underlying25] at h
  obtain ⟨parts, rfl, hp⟩ := h
  match parts, hp with
  | [x1, x2, x3, x4, x5], hp =>
    obtain ⟨w, rw, hw⟩ := dInt (n := n + 2) hp.1
    obtain ⟨hh, rh, hhh⟩ := dInt (n := n + 2) hp.2.1
    obtain ⟨dep, ld, _, kd⟩ := dIntsS (n := n + 1) hp.2.2.1
    obtain ⟨tid, lt, _, kt⟩ := dSpansS (n := n) hp.2.2.2.1
    obtain ⟨swe, ls, _, ks⟩ := dIntsS (n := n + 1) hp.2.2.2.2.1
    refine ⟨⟨w, hh, dep, tid, swe⟩, ⟨rw, rh⟩, fun H0 => ?_⟩
    obtain ⟨vd, ed, sd⟩ := kd H0
    obtain ⟨vt, et, st⟩ := kt (H0 ++ (absD x3 H0.length).2)
    obtain ⟨vs, es, ss⟩ := ks (H0 ++ (absD x3 H0.length).2 ++ (absD x4 (H0 ++ (absD x3 H0.length).2).length).2)
    simp only [List.length_append] at ed et es sd st ss
    refine ⟨vd, vt, vs, ?_, ?_⟩
    · simp only [absD, absDs, hw, hhh, List.nil_append, List.length_nil, Nat.add_zero, ed, et, List.length_append, es, List.append_nil, List.cons_append]
    · have e : H0 ++ (absD (DataW.agg [x1, x2, x3, x4, x5]) H0.length).2 = H0 ++ (absD x3 H0.length).2 ++ (absD x4 (H0.length + (absD x3 H0.length).2.length)).2 ++ (absD x5 (H0.length + (absD x3 H0.length).2.length + (absD x4 (H0.length + (absD x3 H0.length).2.length)).2.length)).2 := by
        simp only [absD, absDs, hw, hhh, List.nil_append, List.length_nil, Nat.add_zero, List.append_nil, List.append_assoc]
      rw [e]
      have E : ∀ (X l : AH) {v : Value} {k : Nat} {cs : List Value}, Sl X v k cs → Sl (X ++ l) v k cs := fun X l v k cs h => by
        obtain ⟨a, c, e, hk⟩ := h
        refine ⟨a, c, e, fun j x hx => ?_⟩
        obtain ⟨b, o, e1, e2⟩ := hk j x hx
        refine ⟨b, o, e1, ?_⟩
        unfold hcell at e2 ⊢
        cases hb : X[b]? with
        | none => simp [hb] at e2
        | some y => rw [List.getElem?_append_left (List.getElem?_eq_some_iff.1 hb).1]; exact e2
      exact ⟨E _ _ (E _ _ sd), E _ _ st, ss⟩
  | [], hp => exact hp.elim
  | [_], hp => exact hp.2.elim
  | [_, _], hp => exact hp.2.2.elim
  | [_, _, _], hp => exact hp.2.2.2.elim
  | [_, _, _, _], hp => exact hp.2.2.2.2.elim
  | _ :: _ :: _ :: _ :: _ :: _ :: _, hp => exact hp.2.2.2.2.2.elim
end Go.Proofs.YtddnloghclemjaaGreatDoor
namespace Go.Proofs.YtddnloghclemjaaGreatDoor
open Go Go.RowKit
attribute [local irreducible] tyD
variable {H : Type}
theorem dBool {n : Nat} {d : DataW H} (h : tyD Tryz.prog (n + 1) 4 d) : ∃ b, ∀ k, absD d k = ([.bool b], []) := by
  unfold tyD at h
  simp only [Tryz.underlying4] at h
  obtain ⟨b, rfl⟩ := h
  exact ⟨b, fun k => rfl⟩
theorem dReport {n : Nat} {d : DataW H} (h : tyD Tryz.prog (n + 2) 44 d) : ∃ q : Rep, ∀ k, absD d k = (q.vals, []) := by
  unfold tyD at h
  simp only [Tryz.underlying44] at h
  obtain ⟨parts, rfl, hp⟩ := h
  match parts, hp with
  | [x1, x2, x3, x4, x5, x6, x7, x8, x9], hp =>
    obtain ⟨a1, _, h1⟩ := dInt (n := n) hp.1
    obtain ⟨a2, _, h2⟩ := dInt (n := n) hp.2.1
    obtain ⟨a3, _, h3⟩ := dInt (n := n) hp.2.2.1
    obtain ⟨a4, _, h4⟩ := dInt (n := n) hp.2.2.2.1
    obtain ⟨a5, _, h5⟩ := dInt (n := n) hp.2.2.2.2.1
    obtain ⟨a6, _, h6⟩ := dInt (n := n) hp.2.2.2.2.2.1
    obtain ⟨a7, _, h7⟩ := dInt (n := n) hp.2.2.2.2.2.2.1
    obtain ⟨a8, h8⟩ := dBool (n := n) hp.2.2.2.2.2.2.2.1
    obtain ⟨a9, _, h9⟩ := dInt (n := n) hp.2.2.2.2.2.2.2.2.1
    exact ⟨⟨a1, a2, a3, a4, a5, a6, a7, a8, a9⟩, fun k => by simp [absD, absDs, h1, h2, h3, h4, h5, h6, h7, h8, h9, Rep.vals]⟩
  | [], hp => exact hp.elim
  | [_], hp => exact hp.2.elim
  | [_, _], hp => exact hp.2.2.elim
  | [_, _, _], hp => exact hp.2.2.2.elim
  | [_, _, _, _], hp => exact hp.2.2.2.2.elim
  | [_, _, _, _, _], hp => exact hp.2.2.2.2.2.elim
  | [_, _, _, _, _, _], hp => exact hp.2.2.2.2.2.2.elim
  | [_, _, _, _, _, _, _], hp => exact hp.2.2.2.2.2.2.2.elim
  | [_, _, _, _, _, _, _, _], hp => exact hp.2.2.2.2.2.2.2.2.elim
  | _ :: _ :: _ :: _ :: _ :: _ :: _ :: _ :: _ :: _ :: _, hp => exact hp.2.2.2.2.2.2.2.2.2.elim
theorem dReports {n : Nat} : ∀ (ds : List (DataW H)) (_ : ∀ p ∈ ds, tyD Tryz.prog (n + 2) 44 p), ∃ l : List Rep, l.length = ds.length ∧ ∀ k, absDs ds k = (repsV l, [])
  | [], _ => ⟨[], rfl, fun k => rfl⟩
  | d :: ds, h => by
    obtain ⟨q, hi⟩ := dReport (n := n) (h d (by simp))
    obtain ⟨l, hl, hk⟩ := dReports (n := n) ds (fun p hp => h p (by simp [hp]))
    exact ⟨q :: l, by simp [hl], fun k => by simp [absDs, hi, hk, repsV]⟩
theorem dReportsS {n : Nat} {d : DataW H} (h : tyD Tryz.prog (n + 3) 26 d) : ∃ l : List Rep, l.length ≤ maxLen ∧ Lay d (SlD l.length (repsV l)) := by
  unfold tyD at h
  simp only [Tryz.underlying26] at h
  rcases h with rfl | ⟨elems, spare, rfl, hl, hp⟩
  · exact ⟨[], by simp, fun H0 => ⟨_, rfl, none, 1, rfl, fun j x hx => by simp [repsV] at hx⟩⟩
  · obtain ⟨l, h1, h3⟩ := dReports (n := n) elems hp
    refine ⟨l, by omega, ?_⟩
    have := SlD.of (sp := spare) h3
    rw [h1]
    by_cases he : elems = []
    · subst he
      obtain rfl : l = [] := List.eq_nil_of_length_eq_zero h1
      simpa [repsV] using this
    · simpa [he] using this
theorem dDistress {n : Nat} {d : DataW H} (h : tyD Tryz.prog (n + 5) 28 d) : ∃ x : Ds, Lay d fun A vs => ∃ dd tt ss rr, vs = [.int .i64 x.ch.w, .int .i64 x.ch.h, dd, tt, ss, .int .i64 x.g, .int .i64 x.pace, rr] ∧ DsSl A x dd tt ss rr := by
  unfold tyD at h
  simp only [Tryz.underlying28] at h
  obtain ⟨parts, rfl, hp⟩ := h
  match parts, hp with
  | [x1, x2, x3, x4], hp =>
    obtain ⟨c, _, hc⟩ := dChart (n := n) hp.1
    obtain ⟨g, _, hg⟩ := dInt (n := n + 3) hp.2.1
    obtain ⟨p, _, hpp⟩ := dInt (n := n + 3) hp.2.2.1
    obtain ⟨l, _, hl⟩ := dReportsS (n := n + 1) hp.2.2.2.1
    refine ⟨⟨c, g, p, l⟩, fun H0 => ?_⟩
    obtain ⟨dd, tt, ss, ec, sc⟩ := hc H0
    obtain ⟨rr, er, sr⟩ := hl (H0 ++ (absD x1 H0.length).2)
    simp only [List.length_append] at er sr
    refine ⟨dd, tt, ss, rr, ?_, ?_⟩
    · simp only [absD, absDs, hg, hpp, ec, er, List.nil_append, List.length_nil, Nat.add_zero, List.append_nil, List.cons_append]
    · have e : H0 ++ (absD (DataW.agg [x1, x2, x3, x4]) H0.length).2 = H0 ++ (absD x1 H0.length).2 ++ (absD x4 (H0.length + (absD x1 H0.length).2.length)).2 := by
        simp only [absD, absDs, hg, hpp, List.nil_append, List.length_nil, Nat.add_zero, List.append_nil, List.append_assoc]
      rw [e]
      exact ⟨⟨sc.d.ext (Ext.push _ _), sc.t.ext (Ext.push _ _), sc.s.ext (Ext.push _ _)⟩, sr⟩
  | [], hp => exact hp.elim
  | [_], hp => exact hp.2.elim
  | [_, _], hp => exact hp.2.2.elim
  | [_, _, _], hp => exact hp.2.2.2.elim
  | _ :: _ :: _ :: _ :: _ :: _, hp => exact hp.2.2.2.2.elim
end Go.Proofs.YtddnloghclemjaaGreatDoor
namespace Go.Proofs.YtddnloghclemjaaGreatDoor
open Go Go.RowKit
attribute [local irreducible] tyD
variable {H : Type}
theorem globB : (globH Tryz.prog tabs)[bitsG]? = some (.ro bitsV) := by
  have hg : bitsG < Tryz.prog.globals.size := by decide +kernel
  rw [globH, List.getElem?_map, List.getElem?_range hg]
  rfl
theorem hB_ext {A : AH} (l : AH) (hG : A[bitsG]? = some (.ro bitsV)) : (A ++ l)[bitsG]? = some (.ro bitsV) := Ext.push A l _ _ hG
end Go.Proofs.YtddnloghclemjaaGreatDoor
namespace Go.Proofs.YtddnloghclemjaaGreatDoor
open Go Go.RowKit
attribute [local irreducible] tyD
variable {H : Type}
theorem fixesLeast_true (ds : List (DataW H)) (h : All2 (tyD Tryz.prog 5) [28, 22, 53] ds) : ∃ H', apL Tryz.prog pf (.func (.func 9) #[] #[]) (absVs Tryz.prog [28, 22, 53] ds Tryz.prog.globals.size).1 0 (globH Tryz.prog tabs ++ (absVs Tryz.prog [28, 22, 53] ds Tryz.prog.globals.size).2) = some (.bool true, H') := by
  match ds, h with
  | [x, y, z], h =>
    obtain ⟨c, hc⟩ := dDistress (n := 0) h.1
    obtain ⟨l, _, _, hl⟩ := dIntsS (n := 3) h.2.1
    obtain ⟨a, b, _, _, hs⟩ := dSpan (n := 3) h.2.2.1
    obtain ⟨dd, tt, ss, rr, e, hS⟩ := hc (globH Tryz.prog tabs)
    obtain ⟨v, ev, hv⟩ := hl (globH Tryz.prog tabs ++ (absD x (globH Tryz.prog tabs).length).2)
    have hgl : (globH Tryz.prog tabs).length = Tryz.prog.globals.size := by simp [globH]
    simp only [List.length_append] at ev hv
    rw [hgl] at e hS ev hv
    have hG := hB_ext (absD x Tryz.prog.globals.size).2 globB
    obtain ⟨n2, hn2⟩ : ∃ n2, n2 = Tryz.prog.globals.size + (absD x Tryz.prog.globals.size).2.length := ⟨_, rfl⟩
    rw [← hn2] at ev hv
    have eq : (absVs Tryz.prog [28, 22, 53] [x, y, z] Tryz.prog.globals.size) = ([dsV c dd tt ss rr, v, .agg #[.int .i64 a, .int .i64 b]], (absD x Tryz.prog.globals.size).2 ++ (absD y n2).2) := by
      simp only [absVs, hs, e, List.append_nil, List.nil_append, List.length_nil, Nat.add_zero, ← hn2, ev]
      have a1 : isAggT Tryz.prog 28 = true := by kernel_rfl
      have a2 : isAggT Tryz.prog 53 = true := by kernel_rfl
      have a4 : isAggT Tryz.prog 22 = false := by kernel_rfl
      simp only [absV, a1, a2, a4, if_true]
      rfl
    rw [eq]
    simp only [← List.append_assoc]
    have E1 : Ext (globH Tryz.prog tabs ++ (absD x Tryz.prog.globals.size).2) (globH Tryz.prog tabs ++ (absD x Tryz.prog.globals.size).2 ++ (absD y n2).2) := Ext.push _ _
    exact ⟨_, least_law c 0 _ (hB_ext _ hG) dd tt ss rr v ⟨⟨hS.c.d.ext E1, hS.c.t.ext E1, hS.c.s.ext E1⟩, hS.r.ext E1⟩ l hv a b⟩
  | [], h => exact h.elim
  | [_], h => exact h.2.elim
  | [_, _], h => exact h.2.2.elim
  | _ :: _ :: _ :: _ :: _, h => exact h.2.2.2.elim
end Go.Proofs.YtddnloghclemjaaGreatDoor
