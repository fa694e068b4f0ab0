/- Layer 6: what a statement looks at; the law LanesOpen. -/
import Derived.Test.YthobfecblpnnnaaGreatDoorLanG
import Derived.Test.YthobfecblpnnnaaGreatDoorLanH
set_option linter.all false
namespace Go.Proofs.YthobfecblpnnnaaGreatDoor
open Go Go.RowKit

theorem run_works6 (lim : Nat) (H : AH) (hG : H[waysG]? = some (.ro waysV)) : apL Tryz.prog pf (.func (.func 15) #[] #[]) [] lim H = some (.bool true, H) :=
  apL_orc (by rfl) (by
    simp only [pf, tabs, tabsOk, List.all_cons, List.all_nil, Bool.and_true, hG]
    exact by kernel_rfl)

theorem legE6_eq (c : Ch) (ls : List Lg) : legE6 c ls = legE c ls := rfl

/-- A chart that is too large for a statement. -/
def Far6 (c : Ch) : Prop := c.depth.length > 200 ∨ c.tide.length > 80 ∨ c.swell.length > 80 ∨ (ChOk c ∧ (c.w * c.h > 20 ∨ c.tide.length > 8))

theorem Far6.in {H : AH} {c : Ch} {d t s : Value} (hs : ChSl H c d t s) (hf : ¬ Far6 c) : ChIn H c d t s := by
  unfold Far6 at hf
  refine ⟨hs.d, hs.t, hs.s, ?_, ?_, ?_⟩ <;> (apply Nat.lt_of_not_le; intro h; apply hf)
  · exact .inl (by omega)
  · exact .inr (.inl (by omega))
  · exact .inr (.inr (.inl (by omega)))

open Classical in
theorem run_Far6 (c : Ch) (lim : Nat) (H : AH) (d t s : Value) (hs : ChSl H c d t s) :
    apL Tryz.prog pf (.func (.func 27) #[] #[]) [chV c d t s] lim H = some (.bool (decide (Far6 c)), H) := by
  rw [apL_func _ _ _ _ _ _ (by rfl), sf_coblelaw06_Far_eq]
  have hs0 := hs
  obtain ⟨⟨da, dc, ed, _⟩, ⟨ta, tc, et, _⟩, ⟨sa, sc, es, _⟩⟩ := hs
  by_cases a1 : c.depth.length > 200
  · have b1 : (200 : Int) < (c.depth.length : Int) := by omega
    have hf : Far6 c := .inl a1
    simp [sf_coblelaw06_Far, chV, ed, et, es, a1, b1, hf, pf_pure, pureF]
  have b1 : ¬ (200 : Int) < (c.depth.length : Int) := by omega
  by_cases a2 : c.tide.length > 80
  · have b2 : (80 : Int) < (c.tide.length : Int) := by omega
    have hf : Far6 c := .inr (.inl a2)
    simp [sf_coblelaw06_Far, chV, ed, et, es, a1, b1, a2, b2, hf, pf_pure, pureF]
  have b2 : ¬ (80 : Int) < (c.tide.length : Int) := by omega
  by_cases a3 : c.swell.length > 80
  · have b3 : (80 : Int) < (c.swell.length : Int) := by omega
    have hf : Far6 c := .inr (.inr (.inl a3))
    simp [sf_coblelaw06_Far, chV, ed, et, es, a1, b1, a2, b2, a3, b3, hf, pf_pure, pureF]
  have b3 : ¬ (80 : Int) < (c.swell.length : Int) := by omega
  have hc : ChIn H c d t s := ⟨hs0.d, hs0.t, hs0.s, by omega, by omega, by omega⟩
  by_cases hok : ChOk c
  rotate_left
  · have hK := fun lim => run_CheckF c lim H d t s hc hok
    have hf : ¬ Far6 c := by rintro (h | h | h | h); exact a1 h; exact a2 h; exact a3 h; exact hok h.1
    simp only [chV, ed, et, es] at hK
    simp [sf_coblelaw06_Far, chV, ed, et, es, a1, b1, a2, b2, a3, b3, hK, hf, pf_pure, pureF]
  have hK := fun lim => run_CheckT c lim H d t s hc hok
  have hC := fun lim => run_CellsCh c lim H d t s
  obtain ⟨m0, m1, m2⟩ := hok.mul
  have hw : IntKind.i64.wrap (c.w * c.h) = c.w * c.h := wrap_i64 (by omega) (by omega)
  rw [hw] at hC
  simp only [chV, ed, et, es] at hK hC
  by_cases a4 : 20 < c.w * c.h
  · have hf : Far6 c := .inr (.inr (.inr ⟨hok, .inl a4⟩))
    simp [sf_coblelaw06_Far, chV, ed, et, es, a1, b1, a2, b2, a3, b3, hK, hC, a4, hf, pf_pure, pureF]
  · by_cases a5 : 8 < c.tide.length
    · have b5 : (8 : Int) < (c.tide.length : Int) := by omega
      have hf : Far6 c := .inr (.inr (.inr ⟨hok, .inr a5⟩))
      simp [sf_coblelaw06_Far, chV, ed, et, es, a1, b1, a2, b2, a3, b3, hK, hC, a4, a5, b5, hf, pf_pure, pureF]
    · have b5 : ¬ (8 : Int) < (c.tide.length : Int) := by omega
      have hf : ¬ Far6 c := by
        rintro (h | h | h | h)
        · exact a1 h
        · exact a2 h
        · exact a3 h
        · rcases h.2 with h | h
          · exact a4 h
          · exact a5 h
      simp [sf_coblelaw06_Far, chV, ed, et, es, a1, b1, a2, b2, a3, b3, hK, hC, a4, a5, b5, hf, pf_pure, pureF]

/-- Legs that are too long, or too many. -/
def FarL (ls : List Lg) : Bool := (ls.any fun l => decide (80 < l.cs.length)) || (decide (5 < ls.length) && decide (ls.length ≤ 12)) || decide (30 < ls.length)

theorem FarL.in {H : AH} {v : Value} {ls : List Lg} (hs : LgSl H v ls) (hf : FarL ls = false) : LgIn H v ls := by
  simp only [FarL, Bool.or_eq_false_iff, List.any_eq_false, decide_eq_true_eq, decide_eq_false_iff_not] at hf
  exact ⟨hs, fun l hl => by have := hf.1.1 l hl; omega, by have := hf.2; omega⟩

def flLoop : SC := sf_coblelaw06_FarLegs.body.loops.headD .skip

theorem run_FarLegs (ls : List Lg) (hn : ls.length < 2 ^ 63) (lim : Nat) (H : AH) (v : Value) (hv : LgSl H v ls) :
    apL Tryz.prog pf (.func (.func 28) #[] #[]) [v] lim H = some (.bool (FarL ls), H) := by
  rw [apL_func _ _ _ _ _ _ (by rfl), sf_coblelaw06_FarLegs_eq]
  obtain ⟨va, vc, ev⟩ := hv.one
  simp [sf_coblelaw06_FarLegs, ev, pf_pure, pureF]
  generalize hS : ({ t := _, L := _, H := _, lim := _, rd := _ } : St) = S
  have key : ∃ r, exL Tryz.prog pf (.loop flLoop) S = some r ∧ r.2.H = H ∧ ((r.1 = .exit 0 ∧ tget r.2.t 0 = .slice va ls.length vc ∧ (ls.any fun l => decide (80 < l.cs.length)) = false) ∨ (r.1 = .ret ∧ tget r.2.t 2 = .bool true ∧ (ls.any fun l => decide (80 < l.cs.length)) = true)) := by
    refine loop_rule (I := fun n s' => ∃ i, i ≤ ls.length ∧ n = ls.length - i ∧ tget s'.t 0 = .slice va ls.length vc ∧ tget s'.t 3 = .int .i64 i ∧ s'.H = H ∧ ∀ j (h : j < ls.length), j < i → ¬ 80 < ls[j].cs.length) ?_ ls.length S
      ⟨0, by omega, by omega, by subst hS; simp [ev], by subst hS; simp, by subst hS; rfl, by omega⟩
    rintro n s' ⟨i, hi, rfl, e0, e3, eH, et⟩
    by_cases hlt : i < ls.length
    rotate_left
    · have : i = ls.length := by omega
      subst this
      have hno : (ls.any fun l => decide (80 < l.cs.length)) = false := List.any_eq_false.2 fun x hx => by
        obtain ⟨m, hm, rfl⟩ := List.mem_iff_getElem.1 hx
        simpa using et m hm hm
      simp [-List.any_eq_false, flLoop, SC.loops, sf_coblelaw06_FarLegs, e0, e3, eH, hno]
    obtain ⟨b1, o1, ac1, ca, cc, e, c0, c1, c2, c3, c4, hsl⟩ := hv.get hlt
    rw [ev] at e
    cases e
    have hltI : (i : Int) < ls.length := by omega
    have hw : IntKind.i64.wrap ((i : Int) + 1) = (i : Int) + 1 := wrap_i64 (by omega) (by omega)
    have hmem := List.getElem_mem hlt
    simp only [hcell] at c4
    generalize hq : ls[i] = q at *
    by_cases h80 : 80 < q.cs.length
    · have h80' : (80 : Int) < (q.cs.length : Int) := by omega
      have hany : (ls.any fun l => decide (80 < l.cs.length)) = true := List.any_eq_true.2 ⟨q, hmem, by simpa using h80⟩
      simp [-List.any_eq_true, flLoop, SC.loops, sf_coblelaw06_FarLegs, e0, e3, eH, hlt, hltI, c4, h80, h80', hany]
    · have h80' : ¬ (80 : Int) < (q.cs.length : Int) := by omega
      simp [flLoop, SC.loops, sf_coblelaw06_FarLegs, e0, e3, eH, hlt, hltI, c4, h80, h80', hw]
      exact ⟨_, by omega, i + 1, by omega, rfl, by omega, fun j h hj => by
        by_cases e : j = i
        · subst e; rw [hq]; omega
        · have := et j h (by omega); omega⟩
  obtain ⟨⟨e, s1⟩, hr, q2, q3⟩ := key
  simp [flLoop, SC.loops, sf_coblelaw06_FarLegs] at hr
  rw [hr]
  simp only at q2 q3
  rcases q3 with ⟨rfl, h0, h⟩ | ⟨rfl, h2, h⟩
  · unfold FarL
    rw [h]
    by_cases a1 : 5 < ls.length
    · have b1 : (5 : Int) < (ls.length : Int) := by omega
      by_cases a2 : ls.length ≤ 12
      · have b2 : (ls.length : Int) ≤ 12 := by omega
        simp [h0, q2, a1, b1, a2, b2]
      · have b2 : ¬ (ls.length : Int) ≤ 12 := by omega
        by_cases a3 : 30 < ls.length
        · have b3 : (30 : Int) < (ls.length : Int) := by omega
          simp [h0, q2, a1, b1, a2, b2, a3, b3]
        · have b3 : ¬ (30 : Int) < (ls.length : Int) := by omega
          simp [h0, q2, a1, b1, a2, b2, a3, b3]
    · have b1 : ¬ (5 : Int) < (ls.length : Int) := by omega
      have a3 : ¬ 30 < ls.length := by omega
      have b3 : ¬ (30 : Int) < (ls.length : Int) := by omega
      simp [h0, q2, a1, b1, a3, b3]
  · unfold FarL
    rw [h]
    simp [h2, q2]

open Classical in
/-- What the statements that do not compare with the specification look at. -/
noncomputable def valid6 (c : Ch) (ls : List Lg) : Bool := decide (¬ Far6 c) && !(FarL ls) && decide (ls.length ≤ 5) && decide (legE c ls = 0)

open Classical in
theorem run_valid6 (c : Ch) (ls : List Lg) (hn : ls.length < 2 ^ 63) (lim : Nat) (H : AH) (d t s v : Value) (hs : ChSl H c d t s) (hv : LgSl H v ls) :
    apL Tryz.prog pf (.func (.func 13) #[] #[]) [chV c d t s, v] lim H = some (.bool (valid6 c ls), H) := by
  rw [apL_func _ _ _ _ _ _ (by rfl), sf_coblelaw06_valid_eq]
  have hF := fun lim => run_Far6 c lim H d t s hs
  have hL := fun lim => run_FarLegs ls hn lim H v hv
  have hK := fun (hf : ¬ Far6 c) (hl : FarL ls = false) lim => run_Check6 c ls H d t s v (Far6.in hs hf) (FarL.in hv hl) lim
  obtain ⟨va, vc, ev⟩ := hv.one
  obtain ⟨⟨da, dc, ed, _⟩, ⟨ta, tc, et, _⟩, ⟨sa, sc, es, _⟩⟩ := hs
  simp only [chV, ed, et, es, ev, legE6_eq] at hF hL hK
  unfold valid6
  by_cases a1 : Far6 c
  · simp [sf_coblelaw06_valid, chV, ed, et, es, ev, hF, a1, pf_pure, pureF]
  cases a2 : FarL ls with
  | true =>
    rw [a2] at hL
    simp [sf_coblelaw06_valid, chV, ed, et, es, ev, hF, a1, hL, pf_pure, pureF]
  | false =>
  have hK := fun lim => hK a1 a2 lim
  rw [a2] at hL
  by_cases a3 : ls.length ≤ 5
  · have b3 : (ls.length : Int) ≤ 5 := by omega
    by_cases a4 : legE c ls = 0
    · simp [sf_coblelaw06_valid, chV, ed, et, es, ev, hF, a1, hL, a3, b3, hK, a4, pf_pure, pureF]
    · have b4 : (legE c ls == 0) = false := by simpa using a4
      simp [sf_coblelaw06_valid, chV, ed, et, es, ev, hF, a1, hL, a3, b3, hK, a4, b4, pf_pure, pureF]
  · have b3 : ¬ (ls.length : Int) ≤ 5 := by omega
    simp [sf_coblelaw06_valid, chV, ed, et, es, ev, hF, a1, hL, a3, b3, pf_pure, pureF]

theorem valid6_iff {c : Ch} {ls : List Lg} : valid6 c ls = true ↔ ¬ Far6 c ∧ FarL ls = false ∧ ls.length ≤ 5 ∧ legE c ls = 0 := by
  unfold valid6
  simp only [Bool.and_eq_true, decide_eq_true_eq, Bool.not_eq_true']
  constructor
  · rintro ⟨⟨⟨h1, h2⟩, h3⟩, h4⟩; exact ⟨h1, h2, h3, h4⟩
  · rintro ⟨h1, h2, h3, h4⟩; exact ⟨⟨⟨h1, h2⟩, h3⟩, h4⟩

theorem lgsNn_of {c : Ch} {ls : List Lg} (h : ls.all (lgOk c) = true) : LgsNn ls := fun l hl x hx => by
  have := List.all_eq_true.1 h l hl
  simp only [lgOk, Bool.and_eq_true] at this
  obtain ⟨y, _, e⟩ := inN_iff.1 (List.all_eq_true.1 this.1.2 x hx)
  omega
end Go.Proofs.YthobfecblpnnnaaGreatDoor
