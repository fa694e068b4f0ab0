/- Layer 6: what a statement looks at; the law LanesOpen. -/
import Derived.Test.YthobfecblpnnnaaGreatDoorLanG
import Derived.Test.YthobfecblpnnnaaGreatDoorLanH
set_option linter.all false
namespace Go.Proofs.YthobfecblpnnnaaGreatDoor
open Go Go.RowKit

theorem run_works6 (lim : Nat) (H : AH) (hG : H[waysG]? = some (.ro waysV)) : apL Tryz.prog pf (.func (.func 15) #[] #[]) [] lim H = some (.bool true, H) :=
  apL_orc (by rfl) (by
    simp only [pf, tabs, tabsOk, List.all_cons, List.all_nil, Bool.and_true, hG]
    exact by kernel_rfl)

theorem legE6_eq (c : Ch) (ls : List Lg) : legE6 c ls = legE c ls := rfl

/-- A chart that is too large for a statement. -/
def Far6 (c : Ch) : Prop := c.depth.length > 200 ∨ c.tide.length > 80 ∨ c.swell.length > 80 ∨ (ChOk c ∧ (c.w * c.h > 20 ∨ c.tide.length > 8))

theorem Far6.in {H : AH} {c : Ch} {d t s : Value} (hs : ChSl H c d t s) (hf : ¬ Far6 c) : ChIn H c d t s := by
  unfold Far6 at hf
  refine ⟨hs.d, hs.t, hs.s, ?_, ?_, ?_⟩ <;> (apply Nat.lt_of_not_le; intro h; apply hf)
  · exact .inl (by omega)
  · exact .inr (.inl (by omega))
  · exact .inr (.inr (.inl (by omega)))

open Classical in
theorem run_Far6 (c : Ch) (lim : Nat) (H : AH) (d t s : Value) (hs : ChSl H c d t s) :
    apL Tryz.prog pf (.func (.func 27) #[] #[]) [chV c d t s] lim H = some (.bool (decide (Far6 c)), H) := by
  rw [apL_func _ _ _ _ _ _ (by rfl), sf_coblelaw06_Far_eq]
  have hs0 := hs
  obtain ⟨⟨da, dc, ed, _⟩, ⟨ta, tc, et, _⟩, ⟨sa, sc, es, _⟩⟩ := hs
  by_cases a1 : c.depth.length > 200
  · have b1 : (200 : Int) < (c.depth.length : Int) := by omega
    have hf : Far6 c := .inl a1
    simp [sf_coblelaw06_Far, chV, ed, et, es, a1, b1, hf, pf_pure, pureF]
  have b1 : ¬ (200 : Int) < (c.depth.length : Int) := by omega
  by_cases a2 : c.tide.length > 80
  · have b2 : (80 : Int) < (c.tide.length : Int) := by omega
    have hf : Far6 c := .inr (.inl a2)
    simp [sf_coblelaw06_Far, chV, ed, et, es, a1, b1, a2, b2, hf, pf_pure, pureF]
  have b2 : ¬ (80 : Int) < (c.tide.length : Int) := by omega
  by_cases a3 : c.swell.length > 80
  · have b3 : (80 : Int) < (c.swell.length : Int) := by omega
    have hf : Far6 c := .inr (.inr (.inl a3))
    simp [sf_coblelaw06_Far, chV, ed, et, es, a1, b1, a2, b2, a3, b3, hf, pf_pure, pureF]
  have b3 : ¬ (80 : Int) < (c.swell.length : Int) := by omega
  have hc : ChIn H c d t s := ⟨hs0.d, hs0.t, hs0.s, by omega, by omega, by omega⟩
  by_cases hok : ChOk c
  rotate_left
  · have hK := fun lim => run_CheckF c lim H d t s hc hok
    have hf : ¬ Far6 c := by rintro (h | h | h | h); exact a1 h; exact a2 h; exact a3 h; exact hok h.1
    simp only [chV, ed, et, es] at hK
    simp [sf_coblelaw06_Far, chV, ed, et, es, a1, b1, a2, b2, a3, b3, hK, hf, pf_pure, pureF]
  have hK := fun lim => run_CheckT c lim H d t s hc hok
  have hC := fun lim => run_CellsCh c lim H d t s
  obtain ⟨m0, m1, m2⟩ := hok.mul
  have hw : IntKind.i64.wrap (c.w * c.h) = c.w * c.h := wrap_i64 (by omega) (by omega)
  rw [hw] at hC
  simp only [chV, ed, et, es] at hK hC
  by_cases a4 : 20 < c.w * c.h
  · have hf : Far6 c := .inr (.inr (.inr ⟨hok, .inl a4⟩))
    simp [sf_coblelaw06_Far, chV, ed, et, es, a1, b1, a2, b2, a3, b3, hK, hC, a4, hf, pf_pure, pureF]
  · by_cases a5 : 8 < c.tide.length
    · have b5 : (8 : Int) < (c.tide.length : Int) := by omega
      have hf : Far6 c := .inr (.inr (.inr ⟨hok, .inr a5⟩))
      simp [sf_coblelaw06_Far, chV, ed, et, es, a1, b1, a2, b2, a3, b3, hK, hC, a4, a5, b5, hf, pf_pure, pureF]
    · have b5 : ¬ (8 : Int) < (c.tide.length : Int) := by omega
      have hf : ¬ Far6 c := by
        rintro (h | h | h | h)
        · exact a1 h
        · exact a2 h
        · exact a3 h
        · rcases h.2 with h | h
          · exact a4 h
          · exact a5 h
      simp [sf_coblelaw06_Far, chV, ed, et, es, a1, b1, a2, b2, a3, b3, hK, hC, a4, a5, b5, hf, pf_pure, pureF]

/-- Legs that are too long, or too many. -/
def FarL (ls : List Lg) : Bool := (ls.any fun l => decide (80 < l.cs.length)) || (decide (5 < ls.length) && decide (ls.length ≤ 12)) || decide (30 < ls.length)

theorem FarL.in {H : AH} {v : Value} {ls : List Lg} (hs : LgSl H v ls) (hf : FarL ls = false) : LgIn H v ls := by
  simp only [FarL, Bool.or_eq_false_iff, List.any_eq_false, decide_eq_true_eq, decide_eq_false_iff_not] at hf
  exact ⟨hs, fun l hl => by have := hf.1.1 l hl; omega, by have := hf.2; omega⟩

def flLoop : SC := sf_coblelaw06_FarLegs.body.loops.headD .skip

theorem run_FarLegs (ls : List Lg) (hn : ls.length < 2 ^ 63) (lim : Nat) (H : AH) (v : Value) (hv : LgSl H v ls) :
    apL Tryz.prog pf (.func (.func 28) #[] #[]) [v] lim H = some (.bool (FarL ls), H) := by
  rw [apL_func _ _ _ _ _ _ (by rfl), sf_coblelaw06_FarLegs_eq]
  obtain ⟨va, vc, ev⟩ := hv.one
  simp [sf_coblelaw06_FarLegs, ev, pf_pure, pureF]
  generalize hS : ({ t := _, L := _, H := _, lim := _, rd := _ } : St) = S
  have key : ∃ r, exL Tryz.prog pf (.loop flLoop) S = some r ∧ r.2.H = H ∧ ((r.1 = .exit 0 ∧ tget r.2.t 0 = .slice va ls.length vc ∧ (ls.any fun l => decide (80 < l.cs.length)) = false) ∨ (r.1 = .ret ∧ tget r.2.t 2 = .bool true ∧ (ls.any fun l => decide (80 < l.cs.length)) = true)) := by
    refine loop_rule (I := fun n s' => ∃ i, i ≤ ls.length ∧ n = ls.length - i ∧ tget s'.t 0 = .slice va ls.length vc ∧ tget s'.t 3 = .int .i64 i ∧ s'.H = H ∧ ∀ j (h : j < ls.length), j < i → ¬ 80 < ls[j].cs.length) ?_ ls.length S
      ⟨0, by omega, by omega, by subst hS; simp [ev], by subst hS; simp, by subst hS; rfl, by omega⟩
    rintro n s' ⟨i, hi, rfl, e0, e3, eH, et⟩
    by_cases hlt : i < ls.length
    rotate_left
    · have : i = ls.length := by omega
      subst this
      have hno : (ls.any fun l => decide (80 < l.cs.length)) = false := List.any_eq_false.2 fun x hx => by
        obtain ⟨m, hm, rfl⟩ := List.mem_iff_getElem.1 hx
        simpa using et m hm hm
      simp [-List.any_eq_false, flLoop, SC.loops, sf_coblelaw06_FarLegs, e0, e3, eH, hno]
    obtain ⟨b1, o1, ac1, ca, cc, e, c0, c1, c2, c3, c4, hsl⟩ := hv.get hlt
    rw [ev] at e
    cases e
    have hltI : (i : Int) < ls.length := by omega
    have hw : IntKind.i64.wrap ((i : Int) + 1) = (i : Int) + 1 := wrap_i64 (by omega) (by omega)
    have hmem := List.getElem_mem hlt
    simp only [hcell] at c4
    generalize hq : ls[i] = q at *
    by_cases h80 : 80 < q.cs.length
    · have h80' : (80 : Int) < (q.cs.length : Int) := by omega
      have hany : (ls.any fun l => decide (80 < l.cs.length)) = true := List.any_eq_true.2 ⟨q, hmem, by simpa using h80⟩
      simp [-List.any_eq_true, flLoop, SC.loops, sf_coblelaw06_FarLegs, e0, e3, eH, hlt, hltI, c4, h80, h80', hany]
    · have h80' : ¬ (80 : Int) < (q.cs.length : Int) := by omega
      simp [flLoop, SC.loops, sf_coblelaw06_FarLegs, e0, e3, eH, hlt, hltI, c4, h80, h80', hw]
      exact ⟨_, by omega, i + 1, by omega, rfl, by omega, fun j h hj => by
        by_cases e : j = i
        · subst e; rw [hq]; omega
        · have := et j h (by omega); omega⟩
  obtain ⟨⟨e, s1⟩, hr, q2, q3⟩ := key
  simp [flLoop, SC.loops, sf_coblelaw06_FarLegs] at hr
  rw [hr]
  simp only at q2 q3
  rcases q3 with ⟨rfl, h0, h⟩ | ⟨rfl, h2, h⟩
  · unfold FarL
    rw [h]
    by_cases a1 : 5 < ls.length
    · have b1 : (5 : Int) < (ls.length : Int) := by omega
      by_cases a2 : ls.length ≤ 12
      · have b2 : (ls.length : Int) ≤ 12 := by omega
        simp [h0, q2, a1, b1, a2, b2]
      · have b2 : ¬ (ls.length : Int) ≤ 12 := by omega
        by_cases a3 : 30 < ls.length
        · have b3 : (30 : Int) < (ls.length : Int) := by omega
          simp [h0, q2, a1, b1, a2, b2, a3, b3]
        · have b3 : ¬ (30 : Int) < (ls.length : Int) := by omega
          simp [h0, q2, a1, b1, a2, b2, a3, b3]
    · have b1 : ¬ (5 : Int) < (ls.length : Int) := by omega
      have a3 : ¬ 30 < ls.length := by omega
      have b3 : ¬ (30 : Int) < (ls.length : Int) := by omega
      simp [h0, q2, a1, b1, a3, b3]
  · unfold FarL
    rw [h]
    simp [h2, q2]

open Classical in
/-- What the statements that do not compare with the specification look at. -/
noncomputable def valid6 (c : Ch) (ls : List Lg) : Bool := decide (¬ Far6 c) && !(FarL ls) && decide (ls.length ≤ 5) && decide (legE c ls = 0)

open Classical in
theorem run_valid6 (c : Ch) (ls : List Lg) (hn : ls.length < 2 ^ 63) (lim : Nat) (H : AH) (d t s v : Value) (hs : ChSl H c d t s) (hv : LgSl H v ls) :
    apL Tryz.prog pf (.func (.func 13) #[] #[]) [chV c d t s, v] lim H = some (.bool (valid6 c ls), H) := by
  rw [apL_func _ _ _ _ _ _ (by rfl), sf_coblelaw06_valid_eq]
  have hF := fun lim => run_Far6 c lim H d t s hs
  have hL := fun lim => run_FarLegs ls hn lim H v hv
  have hK := fun (hf : ¬ Far6 c) (hl : FarL ls = false) lim => run_Check6 c ls H d t s v (Far6.in hs hf) (FarL.in hv hl) lim
  obtain ⟨va, vc, ev⟩ := hv.one
  obtain ⟨⟨da, dc, ed, _⟩, ⟨ta, tc, et, _⟩, ⟨sa, sc, es, _⟩⟩ := hs
  simp only [chV, ed, et, es, ev, legE6_eq] at hF hL hK
  unfold valid6
  by_cases a1 : Far6 c
  · simp [sf_coblelaw06_valid, chV, ed, et, es, ev, hF, a1, pf_pure, pureF]
  cases a2 : FarL ls with
  | true =>
    rw [a2] at hL
    simp [sf_coblelaw06_valid, chV, ed, et, es, ev, hF, a1, hL, pf_pure, pureF]
  | false =>
  have hK := fun lim => hK a1 a2 lim
  rw [a2] at hL
  by_cases a3 : ls.length ≤ 5
  · have b3 : (ls.length : Int) ≤ 5 := by omega
    by_cases a4 : legE c ls = 0
    · simp [sf_coblelaw06_valid, chV, ed, et, es, ev, hF, a1, hL, a3, b3, hK, a4, pf_pure, pureF]
    · have b4 : (legE c ls == 0) = false := by simpa using a4
      simp [sf_coblelaw06_valid, chV, ed, et, es, ev, hF, a1, hL, a3, b3, hK, a4, b4, pf_pure, pureF]
  · have b3 : ¬ (ls.length : Int) ≤ 5 := by omega
    simp [sf_coblelaw06_valid, chV, ed, et, es, ev, hF, a1, hL, a3, b3, pf_pure, pureF]

theorem valid6_iff {c : Ch} {ls : List Lg} : valid6 c ls = true ↔ ¬ Far6 c ∧ FarL ls = false ∧ ls.length ≤ 5 ∧ legE c ls = 0 := by
  unfold valid6
  simp only [Bool.and_eq_true, decide_eq_true_eq, Bool.not_eq_true']
  constructor
  · rintro ⟨⟨⟨h1, h2⟩, h3⟩, h4⟩; exact ⟨h1, h2, h3, h4⟩
  · rintro ⟨h1, h2, h3, h4⟩; exact ⟨⟨⟨h1, h2⟩, h3⟩, h4⟩

theorem lgsNn_of {c : Ch} {ls : List Lg} (h : ls.all (lgOk c) = true) : LgsNn ls := fun l hl x hx => by
  have := List.all_eq_true.1 h l hl
  simp only [lgOk, Bool.and_eq_true] at this
  obtain ⟨y, _, e⟩ := inN_iff.1 (List.all_eq_true.1 this.1.2 x hx)
  omega

/-! The law LanesOpen. -/

def opLoop0 : SC := sf_coblelaw06_LanesOpen.body.loops.headD .skip
def opLoop1 : SC := sf_coblelaw06_LanesOpen.body.loops.getD 1 .skip
def opLoop2 : SC := sf_coblelaw06_LanesOpen.body.loops.getD 2 .skip

/-- The spans are in order, and apart. -/
theorem op_ord (xs : List (Int × Int)) (hlen : xs.length ≤ 1000) (n : Nat) (hn : n ≤ 1000) (ho : Ord n xs) (H : AH) (v : Value) (hv : Sl H v xs.length (spans xs)) (c : Ch) (d s : Value) (ta : Option Addr) (tc : Nat) (S : St) (h3 : tget S.t 3 = .pointer (some ⟨3, 0, some 0⟩)) (h7 : tget S.t 7 = v) (h9 : tget S.t 9 = .int .i64 0) (hL : lget S.L 3 = some (0, .cells [.int .i64 c.w, .int .i64 c.h, d, .slice ta n tc, s])) (hH : S.H = H) :
    ∃ q, exL Tryz.prog pf (.loop opLoop0) S = some q ∧ q.1 = .exit 0 ∧ q.2.H = H ∧ q.2.L = S.L ∧ q.2.lim = S.lim ∧ tget q.2.t 1 = tget S.t 1 ∧ tget q.2.t 3 = tget S.t 3 ∧ tget q.2.t 5 = tget S.t 5 ∧ tget q.2.t 7 = tget S.t 7 := by
  obtain ⟨aa, ac, rfl, hd⟩ := hv
  refine loop_rule (I := fun m s' => ∃ i, i ≤ xs.length ∧ m = xs.length - i ∧ tget s'.t 1 = tget S.t 1 ∧ tget s'.t 3 = .pointer (some ⟨3, 0, some 0⟩) ∧ tget s'.t 5 = tget S.t 5 ∧ tget s'.t 7 = .slice aa xs.length ac ∧ tget s'.t 9 = .int .i64 i ∧ s'.L = S.L ∧ s'.H = H ∧ s'.lim = S.lim) ?_ xs.length S ⟨0, by omega, by omega, rfl, h3, rfl, h7, h9, rfl, hH, rfl⟩
  rintro m s' ⟨i, hi, rfl, e1, e3, e5, e7, e9, eL, eH, el⟩
  by_cases hlt : i < xs.length
  rotate_left
  · have : i = xs.length := by omega
    subst this
    simp [opLoop0, SC.loops, sf_coblelaw06_LanesOpen, e1, e3, e5, e7, e9, eL, eH, el, h3, h7]
  obtain ⟨o1, o2, o3, o4⟩ := ho i hlt
  obtain ⟨b1, q1, rfl, c1⟩ := hd (i * 2) _ (spans_get hlt).1
  obtain ⟨b1', q1', e, c2⟩ := hd (i * 2 + 1) _ (spans_get hlt).2
  cases e
  rw [show q1 + (i * 2 + 1) = q1 + i * 2 + 1 by omega] at c2
  have hw : IntKind.i64.wrap ((i : Int) + 1) = ((i + 1 : Nat) : Int) := by rw [wrap_i64 (by omega) (by omega)]; omega
  simp only [hcell] at c1 c2
  have n1 : ¬ (xs[i].1 < 0) := by omega
  have n2' : ¬ (xs[i].2 < xs[i].1) := by omega
  have n3' : ¬ ((n : Int) ≤ xs[i].2) := by omega
  have hltI : (i : Int) < (xs.length : Int) := by omega
  by_cases hz : i = 0
  · subst hz
    simp at c1 c2 hw
    have hltI : (0 : Int) < (xs.length : Int) := by omega
    simp [opLoop0, SC.loops, sf_coblelaw06_LanesOpen, e1, e3, e5, e7, e9, eL, eH, el, hL, hlt, hltI, c1, c2, hw, n1, n2', n3', h3, h7]
    exact ⟨_, by omega, 1, by omega, rfl, by simp⟩
  · obtain ⟨j, rfl⟩ : ∃ j, i = j + 1 := ⟨i - 1, by omega⟩
    have hjl : j < xs.length := by omega
    have h4 : xs[j].2 + 1 < xs[j + 1].1 := o4 (by omega)
    obtain ⟨_, _, e, c3⟩ := hd (j * 2 + 1) _ (spans_get hjl).2
    cases e
    rw [show q1 + (j * 2 + 1) = q1 + j * 2 + 1 by omega] at c3
    simp only [hcell] at c3
    have hj0 : (0 : Int) < ((j + 1 : Nat) : Int) := by omega
    have hwj : IntKind.i64.wrap (((j + 1 : Nat) : Int) - 1) = (j : Int) := by rw [wrap_i64 (by omega) (by omega)]; omega
    have hj1 := (ho j hjl)
    have hwk : IntKind.i64.wrap (xs[j].2 + 1) = xs[j].2 + 1 := wrap_i64 (by omega) (by omega)
    have n4 : ¬ (xs[j + 1].1 ≤ xs[j].2 + 1) := by omega
    have hjl' : (j : Int) < (xs.length : Int) := by omega
    simp [-Int.natCast_add, opLoop0, SC.loops, sf_coblelaw06_LanesOpen, e1, e3, e5, e7, e9, eL, eH, el, hL, hlt, hltI, hjl, c1, c2, c3, hw, hwj, hwk, n1, n2', n3', n4, hj0, hjl', h3, h7]
    exact ⟨xs.length - (j + 1 + 1), by omega, j + 1 + 1, by omega, rfl, rfl⟩

/-- Whether a tick is in one of the spans. -/
theorem op_in (xs : List (Int × Int)) (hlen : xs.length ≤ 1000) (k : Nat) (H : AH) (v : Value) (hv : Sl H v xs.length (spans xs)) (S : St) (h7 : tget S.t 7 = v) (h10 : tget S.t 10 = .int .i64 k) (h11 : tget S.t 11 = .bool false) (h12 : tget S.t 12 = .int .i64 0) (hH : S.H = H) :
    ∃ q, exL Tryz.prog pf (.loop opLoop2) S = some q ∧ q.1 = .exit 4 ∧ q.2.H = H ∧ q.2.L = S.L ∧ q.2.lim = S.lim ∧ tget q.2.t 1 = tget S.t 1 ∧ tget q.2.t 3 = tget S.t 3 ∧ tget q.2.t 5 = tget S.t 5 ∧ tget q.2.t 7 = tget S.t 7 ∧ tget q.2.t 10 = tget S.t 10 ∧ tget q.2.t 11 = .bool (wiB xs k) := by
  obtain ⟨aa, ac, rfl, hd⟩ := hv
  refine loop_rule (I := fun m s' => ∃ i, i ≤ xs.length ∧ m = xs.length - i ∧ tget s'.t 1 = tget S.t 1 ∧ tget s'.t 3 = tget S.t 3 ∧ tget s'.t 5 = tget S.t 5 ∧ tget s'.t 7 = .slice aa xs.length ac ∧ tget s'.t 10 = .int .i64 k ∧ tget s'.t 11 = .bool (wiB (xs.take i) k) ∧ tget s'.t 12 = .int .i64 i ∧ s'.L = S.L ∧ s'.H = H ∧ s'.lim = S.lim) ?_ xs.length S ⟨0, by omega, by omega, rfl, rfl, rfl, h7, h10, by rw [h11]; rfl, h12, rfl, hH, rfl⟩
  rintro m s' ⟨i, hi, rfl, e1, e3, e5, e7, e10, e11, e12, eL, eH, el⟩
  by_cases hlt : i < xs.length
  rotate_left
  · have : i = xs.length := by omega
    subst this
    rw [List.take_length] at e11
    simp [opLoop2, SC.loops, sf_coblelaw06_LanesOpen, e1, e3, e5, e7, e10, e11, e12, eL, eH, el, h7, h10]
  obtain ⟨b1, q1, rfl, c1⟩ := hd (i * 2) _ (spans_get hlt).1
  obtain ⟨b1', q1', e, c2⟩ := hd (i * 2 + 1) _ (spans_get hlt).2
  cases e
  rw [show q1 + (i * 2 + 1) = q1 + i * 2 + 1 by omega] at c2
  have hw : IntKind.i64.wrap ((i : Int) + 1) = (i : Int) + 1 := wrap_i64 (by omega) (by omega)
  have hltI : (i : Int) < (xs.length : Int) := by omega
  have hts : wiB (xs.take (i + 1)) k = (wiB (xs.take i) k || (decide (xs[i].1 ≤ (k : Int)) && decide ((k : Int) ≤ xs[i].2))) := by
    rw [List.take_add_one, wiB_append]
    simp [hlt, wiB]
  simp only [hcell] at c1 c2
  generalize hx : xs[i] = x at *
  cases hb : wiB (xs.take i) k with
  | true =>
    rw [hb] at e11 hts
    simp [opLoop2, SC.loops, sf_coblelaw06_LanesOpen, e1, e3, e5, e7, e10, e11, e12, eL, eH, el, h7, h10, hlt, hltI, hw]
    exact ⟨_, by omega, i + 1, by omega, rfl, by simpa using hts.symm, by omega⟩
  | false =>
    rw [hb] at e11 hts
    by_cases y1 : x.1 ≤ (k : Int)
    · by_cases y2 : (k : Int) ≤ x.2
      · simp [opLoop2, SC.loops, sf_coblelaw06_LanesOpen, e1, e3, e5, e7, e10, e11, e12, eL, eH, el, h7, h10, hlt, hltI, hw, c1, c2, y1, y2]
        exact ⟨_, by omega, i + 1, by omega, rfl, by simpa [y1, y2] using hts.symm, by omega⟩
      · simp [opLoop2, SC.loops, sf_coblelaw06_LanesOpen, e1, e3, e5, e7, e10, e11, e12, eL, eH, el, h7, h10, hlt, hltI, hw, c1, c2, y1, y2]
        exact ⟨_, by omega, i + 1, by omega, rfl, by simpa [y1, y2] using hts.symm, by omega⟩
    · simp [opLoop2, SC.loops, sf_coblelaw06_LanesOpen, e1, e3, e5, e7, e10, e11, e12, eL, eH, el, h7, h10, hlt, hltI, hw, c1, y1]
      exact ⟨_, by omega, i + 1, by omega, rfl, by simpa [y1] using hts.symm, by omega⟩

/-- Tick by tick. -/
theorem op_ticks (ls : List Lg) (hin : LgsIn ls) (hnn : LgsNn ls) (lv cell : Int) (hcell : 0 ≤ cell) (n : Nat) (hn : n ≤ 60) (H : AH) (lva : Value) (hl : LgIn H lva ls) (v : Value) (hv : Sl H v (spansTo (freeB ls lv cell) n).length (spans (spansTo (freeB ls lv cell) n))) (c : Ch) (d s : Value) (ta : Option Addr) (tc : Nat) (S : St) (h1 : tget S.t 1 = lva) (h3 : tget S.t 3 = .pointer (some ⟨3, 0, some 0⟩)) (h5 : tget S.t 5 = .pointer (some ⟨5, 0, some 0⟩)) (h7 : tget S.t 7 = v) (h10 : tget S.t 10 = .int .i64 0) (hL : lget S.L 3 = some (0, .cells [.int .i64 c.w, .int .i64 c.h, d, .slice ta n tc, s])) (hL5 : lget S.L 5 = some (0, .cells [.int .i64 lv, .int .i64 cell])) (hH : S.H = H) :
    ∃ q, exL Tryz.prog pf (.loop opLoop1) S = some q ∧ q.1 = .exit 2 ∧ q.2.H = H := by
  have hlen := spansTo_length (freeB ls lv cell) n
  obtain ⟨xa, xc, ev⟩ : ∃ a c, v = .slice a (spansTo (freeB ls lv cell) n).length c := by obtain ⟨a, c, e, _⟩ := hv; exact ⟨a, c, e⟩
  obtain ⟨la, lc, el0⟩ := hl.sl.one
  refine loop_rule (I := fun m s' => ∃ i, i ≤ n ∧ m = n - i ∧ tget s'.t 1 = .slice la ls.length lc ∧ tget s'.t 3 = .pointer (some ⟨3, 0, some 0⟩) ∧ tget s'.t 5 = .pointer (some ⟨5, 0, some 0⟩) ∧ tget s'.t 7 = v ∧ tget s'.t 10 = .int .i64 i ∧ s'.L = S.L ∧ s'.H = H) ?_ n S ⟨0, by omega, by omega, by rw [h1, el0], h3, h5, h7, h10, rfl, hH⟩
  rintro m s' ⟨i, hi, rfl, e1, e3, e5, e7, e10, eL, eH⟩
  by_cases hlt : i < n
  rotate_left
  · have : i = n := by omega
    subst this
    simp [opLoop1, SC.loops, sf_coblelaw06_LanesOpen, e1, e3, e5, e7, e10, eL, eH, hL]
  have hltI : (i : Int) < (n : Int) := by omega
  have hw : IntKind.i64.wrap ((i : Int) + 1) = (i : Int) + 1 := wrap_i64 (by omega) (by omega)
  have hO := fun lim => run_Occupied ls hin hnn lv cell hcell i (by omega) H lva hl lim
  rw [el0] at hO
  have hI := op_in (spansTo (freeB ls lv cell) n) (by omega) i H v hv
  rw [wi_spans _ _ _ hlt] at hI
  simp [-Array.all_toList, opLoop1, SC.loops, sf_coblelaw06_LanesOpen, e1, e3, e5, e7, e10, eL, eH, hL, hlt, hltI, ev]
  generalize hS2 : ({ t := _, L := _, H := _, lim := _, rd := _ } : St) = S2
  obtain ⟨⟨e, s2⟩, hr2, g1, g2, g3, g4, g5, g6, g7, g8, g9, g10⟩ := hI S2 (by subst hS2; simp [e7, ev]) (by subst hS2; simp [e10]) (by subst hS2; simp) (by subst hS2; simp) (by subst hS2; simp [eH])
  simp [opLoop2, SC.loops, sf_coblelaw06_LanesOpen] at hr2
  rw [hr2]
  simp only at g1 g2 g3 g4 g5 g6 g7 g8 g9 g10
  subst g1
  have z1 : tget S2.t 1 = .slice la ls.length lc := by subst hS2; simp [e1]
  have z3 : tget S2.t 3 = .pointer (some ⟨3, 0, some 0⟩) := by subst hS2; simp [e3]
  have z5 : tget S2.t 5 = .pointer (some ⟨5, 0, some 0⟩) := by subst hS2; simp [e5]
  have z7 : tget S2.t 7 = v := by subst hS2; simp [e7]
  have z10 : tget S2.t 10 = .int .i64 i := by subst hS2; simp [e10]
  have zL : S2.L = S.L := by subst hS2; simp [eL]
  rw [ev] at z7
  cases hb : freeB ls lv cell i with
  | true =>
    rw [hb] at g10 hO
    simp [and_assoc, g2, g3, g5, g6, g7, g8, g9, g10, z1, z3, z5, z7, z10, zL, hL, hL5, hO, hw]
    exact ⟨n - (i + 1), by omega, i + 1, by omega, rfl, by omega⟩
  | false =>
    rw [hb] at g10 hO
    simp [and_assoc, g2, g3, g5, g6, g7, g8, g9, g10, z1, z3, z5, z7, z10, zL, hL, hL5, hO, hw]
    exact ⟨n - (i + 1), by omega, i + 1, by omega, rfl, by omega⟩

set_option maxHeartbeats 1000000 in
theorem open_law (c : Ch) (ls : List Lg) (hn : ls.length < 2 ^ 63) (lv cell : Int) (lim : Nat) (H : AH) (hG : H[waysG]? = some (.ro waysV)) (d t s v : Value) (hs : ChSl H c d t s) (hv : LgSl H v ls) :
    apL Tryz.prog pf (.func (.func 7) #[] #[]) [chV c d t s, v, .agg #[.int .i64 lv, .int .i64 cell]] lim H = some (.bool true, H) := by
  rw [apL_func _ _ _ _ _ _ (by rfl), sf_coblelaw06_LanesOpen_eq]
  have hV := fun lim => run_valid6 c ls hn lim H d t s v hs hv
  have hW := fun lim => run_works6 lim H hG
  have hs0 := hs
  obtain ⟨va, vc, ev⟩ := hv.one
  obtain ⟨⟨da, dc, ed, _⟩, ⟨ta, tc, et, _⟩, ⟨sa, sc, es, _⟩⟩ := hs
  simp only [chV, ed, et, es, ev] at hV
  cases a1 : valid6 c ls with
  | false =>
    rw [a1] at hV
    simp [sf_coblelaw06_LanesOpen, chV, ed, et, es, ev, hV, hW, pf_pure, pureF]
  | true =>
  rw [a1] at hV
  obtain ⟨v1, v2, v3, v4⟩ := valid6_iff.1 a1
  obtain ⟨hok, hl12, hall⟩ := legE_zero.1 v4
  by_cases a2 : lv < 0
  · simp [sf_coblelaw06_LanesOpen, chV, ed, et, es, ev, hV, hW, a2, pf_pure, pureF]
  by_cases a3 : 3 < lv
  · simp [sf_coblelaw06_LanesOpen, chV, ed, et, es, ev, hV, hW, a2, a3, pf_pure, pureF]
  by_cases a4 : cell < 0
  · simp [sf_coblelaw06_LanesOpen, chV, ed, et, es, ev, hV, hW, a2, a3, a4, pf_pure, pureF]
  by_cases a5 : (c.depth.length : Int) ≤ cell
  · simp [sf_coblelaw06_LanesOpen, chV, ed, et, es, ev, hV, hW, a2, a3, a4, a5, pf_pure, pureF]
  have hc := Far6.in hs0 v1
  have hl := FarL.in hv v2
  have hT : c.ticks ≤ 60 := hok.2.2.2.1.2
  have hin := lgsIn_of hok hall
  have hnn := lgsNn_of hall
  have hcell : inN c.cells cell = true := inN_iff.2 ⟨cell.toNat, by unfold Ch.cells; omega, by omega⟩
  have e1 : lfreeE c ls lv cell = 0 := by unfold lfreeE; rw [if_pos v4, if_pos ⟨⟨by omega, by omega⟩, hcell⟩]
  have e2 : lfreeS c ls lv cell = spansTo (freeB ls lv cell) c.ticks := by unfold lfreeS; rw [e1]; rfl
  obtain ⟨r, A, hF, hA, hr⟩ := run_Free c ls lv cell H d t s v hc hl H.length
  rw [e2] at hr
  have hGA := hA.ext _ _ hG
  have hWA := fun lim => run_works6 lim A hGA
  have hlA := hl.ext hA.ext
  have hord := (spansTo_ok (freeB ls lv cell) c.ticks).1
  have hlen := spansTo_length (freeB ls lv cell) c.ticks
  have hL0 := op_ord (spansTo (freeB ls lv cell) c.ticks) (by omega) c.ticks (by omega) hord A r hr.sl c d s ta tc
  have hL1 := op_ticks ls hin hnn lv cell (by omega) c.ticks hT A v hlA r hr.sl c d s ta tc
  obtain ⟨ra, rc, er⟩ := hr.one
  have hnl := hr.nl
  simp only [chV, ed, et, es, ev, e1] at hF
  rw [er] at hF hnl
  simp [sf_coblelaw06_LanesOpen, chV, ed, et, es, ev, hV, hW, a2, a3, a4, a5, hF, pf_pure, pureF]
  generalize hS : ({ t := _, L := _, H := _, lim := _, rd := _ } : St) = S
  obtain ⟨⟨e, s1⟩, hr1, g1, g2, g3, g4, g5, g6, g7, g8⟩ := hL0 S (by subst hS; simp) (by subst hS; simp [er]) (by subst hS; simp) (by subst hS; simp [ed, et, es, Ch.ticks]) (by subst hS; rfl)
  simp [opLoop0, SC.loops, sf_coblelaw06_LanesOpen] at hr1
  rw [hr1]
  simp only at g1 g2 g3 g4 g5 g6 g7 g8
  subst g1
  simp
  generalize hS2 : ({ t := _, L := _, H := _, lim := _, rd := _ } : St) = S2
  obtain ⟨⟨e, s2⟩, hr2, k1, k2⟩ := hL1 S2 (by subst hS2; simp [g5]; subst hS; simp [ev]) (by subst hS2; simp [g6]; subst hS; simp) (by subst hS2; simp [g7]; subst hS; simp) (by subst hS2; simp [g8]; subst hS; simp [er]) (by subst hS2; simp) (by subst hS2; simp [g3]; subst hS; simp [ed, et, es, Ch.ticks]) (by subst hS2; simp [g3]; subst hS; simp) (by subst hS2; simp [g2])
  simp [opLoop1, SC.loops, sf_coblelaw06_LanesOpen] at hr2
  rw [hr2]
  simp only at k1 k2
  subst k1
  simp [k2, hWA]
end Go.Proofs.YthobfecblpnnnaaGreatDoor
