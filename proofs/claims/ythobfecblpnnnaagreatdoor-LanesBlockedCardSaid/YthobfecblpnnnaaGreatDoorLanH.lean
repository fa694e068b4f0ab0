/- Layer 6: spans (mathematics); contracts of the reference: what a unit occupies. -/
import Derived.Test.YthobfecblpnnnaaGreatDoorLanE
set_option linter.all false
namespace Go.Proofs.YthobfecblpnnnaaGreatDoor
open Go Go.RowKit

def wiB (l : List (Int × Int)) (t : Int) : Bool := l.any fun x => decide (x.1 ≤ t) && decide (t ≤ x.2)
def Ord (n : Int) (l : List (Int × Int)) : Prop := ∀ i (h : i < l.length), 0 ≤ l[i].1 ∧ l[i].1 ≤ l[i].2 ∧ l[i].2 < n ∧ (∀ h0 : 0 < i, l[i - 1].2 + 1 < l[i].1)

theorem wiB_append (l m : List (Int × Int)) (t : Int) : wiB (l ++ m) t = (wiB l t || wiB m t) := by simp [wiB]

theorem wiB_one (x y t : Int) : wiB [(x, y)] t = true ↔ x ≤ t ∧ t ≤ y := by simp [wiB]

theorem spansTo_ok (p : Nat → Bool) : ∀ n : Nat, Ord n (spansTo p n) ∧ ∀ t : Int, wiB (spansTo p n) t = true ↔ ∃ k : Nat, k < n ∧ t = k ∧ p k = true
  | 0 => ⟨fun i h => by simp [spansTo] at h, fun t => by simp [spansTo, wiB]⟩
  | n + 1 => by
    obtain ⟨ho, hw⟩ := spansTo_ok p n
    have up : ∀ (P : Nat → Prop), (∃ k, k < n + 1 ∧ P k) ↔ (∃ k, k < n ∧ P k) ∨ P n := fun P => by
      constructor
      · rintro ⟨k, hk, h⟩
        by_cases e : k = n
        · subst e; exact .inr h
        · exact .inl ⟨k, by omega, h⟩
      · rintro (⟨k, hk, h⟩ | h)
        · exact ⟨k, by omega, h⟩
        · exact ⟨n, by omega, h⟩
    simp only [spansTo]
    cases hp : p n with
    | false =>
      simp only [Bool.false_eq_true, if_false]
      refine ⟨fun i h => ?_, fun t => ?_⟩
      · obtain ⟨a, b, c, d⟩ := ho i h
        exact ⟨a, b, by omega, d⟩
      · rw [hw, up]
        simp [hp]
    | true =>
      simp only [if_true]
      generalize spansTo p n = l at *
      rcases List.eq_nil_or_concat l with rfl | ⟨m, ⟨a, z⟩, hm⟩
      · rw [growL_nil]
        refine ⟨fun i h => ?_, fun t => ?_⟩
        · have : i = 0 := by simpa using h
          subst this
          simp
          omega
        · rw [up, ← hw]
          simp [wiB, hp]
          omega
      rw [List.concat_eq_append] at hm
      subst hm
      rw [growL_snoc]
      have hlast := ho m.length (by simp)
      obtain ⟨l1, l2, l3, l4⟩ := hlast
      simp only [List.getElem_append_right (Nat.le_refl _), Nat.sub_self, List.getElem_cons_zero] at l1 l2 l3
      split
      · rename_i hz
        refine ⟨fun i h => ?_, fun t => ?_⟩
        · simp only [List.length_append, List.length_cons, List.length_nil] at h
          by_cases e : i < m.length
          · obtain ⟨x1, x2, x3, x4⟩ := ho i (by simp; omega)
            simp only [List.getElem_append_left e] at x1 x2 x3 x4 ⊢
            refine ⟨x1, x2, by omega, fun h0 => ?_⟩
            have := x4 h0
            rw [List.getElem_append_left (by omega)] at this ⊢
            exact this
          · have : i = m.length := by omega
            subst this
            simp only [List.getElem_append_right (Nat.le_refl _), Nat.sub_self, List.getElem_cons_zero]
            refine ⟨l1, by omega, by omega, fun h0 => ?_⟩
            have := l4 h0
            rw [List.getElem_append_left (by omega)] at this ⊢
            simpa using this
        · rw [up, ← hw, wiB_append, wiB_append, Bool.or_eq_true, Bool.or_eq_true, wiB_one, wiB_one]
          by_cases hq : wiB m t = true
          · simp [hq]
          · simp only [hq, Bool.false_eq_true, false_or, hp, and_true]; omega
      · rename_i hz
        refine ⟨fun i h => ?_, fun t => ?_⟩
        · simp only [List.length_append, List.length_cons, List.length_nil] at h
          by_cases e : i < (m ++ [(a, z)]).length
          · obtain ⟨x1, x2, x3, x4⟩ := ho i e
            simp only [List.getElem_append_left e] at x1 x2 x3 x4 ⊢
            refine ⟨x1, x2, by omega, fun h0 => ?_⟩
            have := x4 h0
            rw [List.getElem_append_left (by omega)]
            exact this
          · have : i = m.length + 1 := by simp at e; omega
            subst this
            have e1 : (m ++ [(a, z)] ++ [((n : Int), (n : Int))])[m.length + 1]'(by simp) = ((n : Int), (n : Int)) := by
              rw [List.getElem_append_right (by simp)]; simp
            have e2 : (m ++ [(a, z)] ++ [((n : Int), (n : Int))])[m.length + 1 - 1]'(by simp) = (a, z) := by
              rw [List.getElem_append_left (by simp)]; simp
            rw [e1]
            refine ⟨by simp, by simp, by simp; omega, fun h0 => ?_⟩
            rw [e2]
            simp
            omega
        · rw [up, ← hw, wiB_append, wiB_append, Bool.or_eq_true, Bool.or_eq_true, wiB_one, wiB_one]
          by_cases hq : wiB m t = true
          · simp [hq]
          · simp only [hq, Bool.false_eq_true, false_or, hp, and_true]; omega
theorem wi_spans (p : Nat → Bool) (n k : Nat) (hk : k < n) : wiB (spansTo p n) k = p k := by
  rw [Bool.eq_iff_iff, (spansTo_ok p n).2]
  constructor
  · rintro ⟨j, _, e, h⟩; obtain rfl : k = j := by omega
    exact h
  · intro h; exact ⟨k, hk, rfl, h⟩


/-! The reference: where a unit is. -/

theorem run_At (l : Lg) (t : Int) (ht : -1000 ≤ t ∧ t ≤ 1000) (h0 : -1000 ≤ l.t0 ∧ l.t0 ≤ 1000) (lim : Nat) (H : AH) (v : Value) (hv : CsIn H v l) : apL Tryz.prog pf (.func (.func 55) #[] #[]) [lgV l v, .int .i64 t] lim H = some (.int .i64 (l.cel t), H) := by
  rw [apL_func _ _ _ _ _ _ (by rfl), sf_cobleref06_At_eq]
  obtain ⟨⟨va, vc, rfl, hd⟩, hl⟩ := hv
  have hw : IntKind.i64.wrap (l.t0 + (l.cs.length : Int)) = l.t0 + (l.cs.length : Int) := wrap_i64 (by omega) (by omega)
  by_cases h1 : t < l.t0
  · have e : l.cel t = -1 := by unfold Lg.cel; rw [if_neg (by omega)]
    simp [sf_cobleref06_At, lgV, h1, e, pf_pure, pureF]
  by_cases h2 : l.t0 + (l.cs.length : Int) ≤ t
  · have e : l.cel t = -1 := by unfold Lg.cel; rw [if_neg (by omega)]
    simp [sf_cobleref06_At, lgV, h1, hw, h2, e, pf_pure, pureF]
  obtain ⟨j, hj⟩ : ∃ j : Nat, t - l.t0 = j := ⟨(t - l.t0).toNat, by omega⟩
  have hjl : j < l.cs.length := by omega
  obtain ⟨b1, o1, rfl, c1⟩ := hd j (.int .i64 l.cs[j]) (by simp [ints, hjl])
  have e : l.cel t = l.cs[j] := by
    unfold Lg.cel
    rw [if_pos (by omega), hj]
    simp [hjl]
  have hw2 : IntKind.i64.wrap (t - l.t0) = (j : Int) := by rw [hj]; exact wrap_i64 (by omega) (by omega)
  simp only [hcell] at c1
  simp [sf_cobleref06_At, lgV, h1, hw, h2, hw2, hjl, c1, e, pf_pure, pureF]

set_option maxHeartbeats 1000000 in
/-- The cells that a unit occupies: a list of one's own. -/
theorem run_occupies (l : Lg) (t : Int) (ht : -900 ≤ t ∧ t ≤ 900) (h0 : -1000 ≤ l.t0 ∧ l.t0 ≤ 1000) (H : AH) (v : Value) (hv : CsIn H v l) :
    ∃ r A, (∀ lim, apL Tryz.prog pf (.func (.func 54) #[] #[]) [lgV l v, .int .i64 t] lim H = some (r, A)) ∧ Aft H A ∧ Sl A r (l.occs t).length (ints (l.occs t)) := by
  have hw : IntKind.i64.wrap (t - 1) = t - 1 := wrap_i64 (by omega) (by omega)
  have k1 := fun lim => run_At l t (by omega) h0 lim H v hv
  have k2 := fun lim => run_At l (t - 1) (by omega) h0 lim (H ++ [ABlk.rw 1 [.int .i64 (l.cel t)]]) v (hv.ext (Ext.push H _))
  obtain ⟨⟨va, vc, rfl, hd⟩, hl⟩ := hv
  simp only [lgV] at k1 k2
  by_cases h1 : l.cel t < 0
  · refine ⟨.slice none 0 0, H, fun lim => ?_, Aft.refl H, ?_⟩
    · rw [apL_func _ _ _ _ _ _ (by rfl), sf_cobleref06_occupies_eq]
      simp [sf_cobleref06_occupies, lgV, k1, h1, pf_pure, pureF]
    · unfold Lg.occs; rw [if_pos h1]; exact Sl.nil
  by_cases h2 : l.tl = true ∧ 0 ≤ l.cel (t - 1)
  rotate_left
  · refine ⟨.slice (some ⟨H.length, 0, none⟩) 1 1, H ++ [ABlk.rw 1 [.int .i64 (l.cel t)]], fun lim => ?_, (Aft.refl H).push _, ?_⟩
    · rw [apL_func _ _ _ _ _ _ (by rfl), sf_cobleref06_occupies_eq]
      cases htl : l.tl with
      | false =>
        simp only [htl] at k1 k2
        simp [-oneC, oneC_slice, oneC_int, sf_cobleref06_occupies, lgV, k1, k2, h1, hw, htl, pf_pure, pureF]
      | true =>
        have h3 : ¬ (0 ≤ l.cel (t - 1)) := fun h => h2 ⟨htl, h⟩
        simp only [htl] at k1 k2
        simp [-oneC, oneC_slice, oneC_int, sf_cobleref06_occupies, lgV, k1, k2, h1, hw, htl, h3, pf_pure, pureF]
    · unfold Lg.occs; rw [if_neg h1, if_neg h2]
      exact Sl.made (l := [l.cel t]) (by simp [ints]) rfl
  · have hm2 : 2 ≤ maxA := by decide
    simp only [h2.1] at k1 k2
    refine ⟨.slice (some ⟨H.length + 2, 0, none⟩) 2 3, H ++ [ABlk.rw 1 [.int .i64 (l.cel t)], ABlk.rw 1 [.int .i64 (l.cel (t - 1))], ABlk.rw 1 [.int .i64 (l.cel t), .int .i64 (l.cel (t - 1))]], fun lim => ?_, (Aft.refl H).push _, ?_⟩
    · rw [apL_func _ _ _ _ _ _ (by rfl), sf_cobleref06_occupies_eq]
      simp [-oneC, oneC_slice, oneC_int, sf_cobleref06_occupies, lgV, k1, k2, h1, hw, h2.1, h2.2, hm2, pf_pure, pureF]
    · unfold Lg.occs; rw [if_neg h1, if_pos h2]
      refine Sl.made (l := [l.cel t, l.cel (t - 1)]) ?_ rfl
      rw [List.getElem?_append_right (by simp)]
      simp [ints]

def ocLoop : SC := sf_cobleref06_Occupied.body.loops.headD .skip
def ocIn : SC := sf_cobleref06_Occupied.body.loops.getD 1 .skip

theorem oc_in (os : List Int) (hos : os.length ≤ 2) (lv cell : Int) (ls : List Lg) (A : AH) (va : Option Addr) (vc : Nat) (hv : LgIn A (.slice va ls.length vc) ls) {i : Nat} (hi : i < ls.length) (o : Value) (ho : Sl A o os.length (ints os)) (S : St) (e0 : tget S.t 0 = .slice va ls.length vc) (e1 : tget S.t 1 = .int .i64 lv) (e2 : tget S.t 2 = .int .i64 cell) (e9 : tget S.t 9 = .int .i64 i) (e10 : tget S.t 10 = o) (e11 : tget S.t 11 = .int .i64 0) (hH : S.H = A) :
    ∃ q, exL Tryz.prog pf (.loop ocIn) S = some q ∧ q.2.H = A ∧ q.2.lim = S.lim ∧ tget q.2.t 0 = tget S.t 0 ∧ tget q.2.t 1 = tget S.t 1 ∧ tget q.2.t 2 = tget S.t 2 ∧ tget q.2.t 3 = tget S.t 3 ∧ tget q.2.t 9 = tget S.t 9 ∧ ((q.1 = .exit 2 ∧ (ls[i].lv == lv && os.any fun x => x == cell) = false) ∨ (q.1 = .ret ∧ tget q.2.t 8 = .bool true ∧ (ls[i].lv == lv && os.any fun x => x == cell) = true)) := by
  obtain ⟨oa, oc, rfl, hd⟩ := ho
  obtain ⟨b1, o1, ac1, ca, cc, e, c0, c1, c2, c3, c4, hsl⟩ := hv.sl.get hi
  cases e
  simp only [hcell] at c1
  refine loop_rule (I := fun n s' => ∃ j, j ≤ os.length ∧ n = os.length - j ∧ tget s'.t 0 = tget S.t 0 ∧ tget s'.t 1 = .int .i64 lv ∧ tget s'.t 2 = .int .i64 cell ∧ tget s'.t 3 = tget S.t 3 ∧ tget s'.t 9 = .int .i64 i ∧ tget s'.t 10 = .slice oa os.length oc ∧ tget s'.t 11 = .int .i64 j ∧ s'.H = A ∧ s'.lim = S.lim ∧ (0 < j → (ls[i].lv == lv) = true) ∧ ∀ m (h : m < os.length), m < j → os[m] ≠ cell) ?_ os.length S
    ⟨0, by omega, by omega, rfl, e1, e2, rfl, e9, e10, e11, hH, rfl, by omega, by omega⟩
  rintro n s' ⟨j, hj, rfl, f0, f1, f2, f3, f9, f10, f11, fH, fl, hlv, et⟩
  rw [e0] at f0
  by_cases hlt : j < os.length
  rotate_left
  · have : j = os.length := by omega
    subst this
    have hno : (os.any fun x => x == cell) = false := List.any_eq_false.2 fun x hx => by
      obtain ⟨m, hm, rfl⟩ := List.mem_iff_getElem.1 hx
      simpa using et m hm hm
    simp [-List.any_eq_false, ocIn, SC.loops, sf_cobleref06_Occupied, f0, f1, f2, f3, f9, f10, f11, fH, fl, e0, e1, e2, e9, hno]
  have hltI : (j : Int) < os.length := by omega
  have hiI : (i : Int) < ls.length := by omega
  cases hl : (ls[i].lv == lv) with
  | false =>
    simp [ocIn, SC.loops, sf_cobleref06_Occupied, f0, f1, f2, f3, f9, f10, f11, fH, fl, e0, e1, e2, e9, hlt, hltI, hi, hiI, c1, hl]
  | true =>
    obtain ⟨b2, o2, rfl, d1⟩ := hd j (.int .i64 os[j]) (by simp [ints, hlt])
    simp only [hcell] at d1
    have hw : IntKind.i64.wrap ((j : Int) + 1) = (j : Int) + 1 := wrap_i64 (by omega) (by omega)
    have hmem : os[j] ∈ os := List.getElem_mem hlt
    generalize hoj : os[j] = x at *
    by_cases hx : x = cell
    · have hxb : (x == cell) = true := by simpa using hx
      have hany : (os.any fun x => x == cell) = true := List.any_eq_true.2 ⟨x, hmem, hxb⟩
      simp [-List.any_eq_true, ocIn, SC.loops, sf_cobleref06_Occupied, f0, f1, f2, f3, f9, f10, f11, fH, fl, e0, e1, e2, e9, hlt, hltI, hi, hiI, c1, hl, d1, hxb, hany]
    · have hxb : (x == cell) = false := by simpa using hx
      simp [ocIn, SC.loops, sf_cobleref06_Occupied, f0, f1, f2, f3, f9, f10, f11, fH, fl, e0, e1, e2, e9, hlt, hltI, hi, hiI, c1, hl, d1, hxb, hw]
      exact ⟨_, by omega, j + 1, by omega, rfl, by omega, fun m h hm => by
        by_cases e : m = j
        · subst e; rw [hoj]; exact hx
        · exact et m h (by omega)⟩

/-- The legs have cells. -/
def LgsNn (ls : List Lg) : Prop := ∀ l ∈ ls, l.nn

theorem run_Occupied (ls : List Lg) (hin : LgsIn ls) (hnn : LgsNn ls) (lv cell : Int) (hcell : 0 ≤ cell) (k : Nat) (hk : k ≤ 800) (H : AH) (v : Value) (hv : LgIn H v ls) (lim : Nat) :
    apL Tryz.prog pf (.func (.func 24) #[] #[]) [v, .int .i64 lv, .int .i64 cell, .int .i64 k] lim H = some (.bool (!(freeB ls lv cell k)), H) := by
  rw [apL_func _ _ _ _ _ _ (by rfl), sf_cobleref06_Occupied_eq]
  have hv0 := hv
  obtain ⟨va, vc, rfl⟩ := hv.sl.one
  have hlen := hv.n
  unfold freeB
  rw [Bool.not_not]
  simp [-List.any_eq_true, sf_cobleref06_Occupied, pf_pure, pureF]
  generalize hS : ({ t := _, L := _, H := _, lim := _, rd := _ } : St) = S
  have key : ∃ r, exL Tryz.prog pf (.loop ocLoop) S = some r ∧ ((r.1 = .exit 0 ∧ (ls.any fun l => l.lv == lv && (l.sp k).occ cell) = false) ∨ (r.1 = .ret ∧ tget r.2.t 8 = .bool true ∧ (ls.any fun l => l.lv == lv && (l.sp k).occ cell) = true)) := by
    refine loop_rule (I := fun n s' => ∃ i, i ≤ ls.length ∧ n = ls.length - i ∧ tget s'.t 0 = .slice va ls.length vc ∧ tget s'.t 1 = .int .i64 lv ∧ tget s'.t 2 = .int .i64 cell ∧ tget s'.t 3 = .int .i64 k ∧ tget s'.t 9 = .int .i64 i ∧ Aft H s'.H ∧ ∀ j (h : j < ls.length), j < i → (ls[j].lv == lv && (ls[j].sp k).occ cell) = false) ?_ ls.length S
      ⟨0, by omega, by omega, by subst hS; simp, by subst hS; simp, by subst hS; simp, by subst hS; simp, by subst hS; simp, by subst hS; exact Aft.refl H, by omega⟩
    rintro n s' ⟨i, hi, rfl, e0, e1, e2, e3, e9, eA, et⟩
    obtain ⟨A, hA⟩ : ∃ A, s'.H = A := ⟨_, rfl⟩
    rw [hA] at eA
    by_cases hlt : i < ls.length
    rotate_left
    · have : i = ls.length := by omega
      subst this
      have hno : (ls.any fun l => l.lv == lv && (l.sp k).occ cell) = false := List.any_eq_false.2 fun x hx => by
        obtain ⟨m, hm, rfl⟩ := List.mem_iff_getElem.1 hx
        have := et m hm hm
        simp [this]
      simp [-List.any_eq_false, ocLoop, SC.loops, sf_cobleref06_Occupied, e0, e1, e2, e3, e9, hno]
    have hvA := hv0.ext eA.ext
    obtain ⟨b1, o1, ac1, ca, cc, e, c0, c1, c2, c3, c4, hsl⟩ := hvA.sl.get hlt
    cases e
    have hmem := List.getElem_mem hlt
    obtain ⟨r, B, hR, hB, hr⟩ := run_occupies ls[i] k (by omega) (hin _ hmem) A _ ⟨hsl, hv0.cl _ hmem⟩
    have hos : ((ls[i].occs k).any fun x => x == cell) = (ls[i].sp k).occ cell := occs_eq (hnn _ hmem) cell k hcell
    have hol : (ls[i].occs k).length ≤ 2 := by unfold Lg.occs; split <;> (try split) <;> simp
    have hltI : (i : Int) < ls.length := by omega
    have hvB := hvA.ext hB.ext
    have hw : IntKind.i64.wrap ((i : Int) + 1) = (i : Int) + 1 := wrap_i64 (by omega) (by omega)
    have hin2 := oc_in (ls[i].occs k) hol lv cell ls B _ vc hvB hlt r hr
    rw [hos] at hin2
    obtain ⟨ra, rc, er⟩ : ∃ a c, r = .slice a (ls[i].occs k).length c := by obtain ⟨a, c, e, _⟩ := hr; exact ⟨a, c, e⟩
    have hset := et
    generalize hq : ls[i] = q at *
    simp only [Go.Proofs.YthobfecblpnnnaaGreatDoor.hcell, lgV] at c0 c1 c2 c3 c4 hR
    simp [-Array.all_toList, ocLoop, SC.loops, sf_cobleref06_Occupied, e0, e1, e2, e3, e9, hA, hlt, hltI, c0, c1, c2, c3, c4, hR]
    generalize hS2 : ({ t := _, L := _, H := _, lim := _, rd := _ } : St) = S2
    obtain ⟨⟨e, s2⟩, hr2, g1, g2, g3, g4, g5, g6, g7, g8⟩ := hin2 S2 (by subst hS2; simp [e0]) (by subst hS2; simp [e1]) (by subst hS2; simp [e2]) (by subst hS2; simp [e9]) (by subst hS2; simp) (by subst hS2; simp) (by subst hS2; rfl)
    simp [ocIn, SC.loops, sf_cobleref06_Occupied] at hr2
    rw [hr2]
    simp only at g1 g2 g3 g4 g5 g6 g7 g8
    have z0 : tget S2.t 0 = .slice (some ⟨b1, o1, none⟩) ls.length vc := by subst hS2; simp [e0]
    have z1 : tget S2.t 1 = .int .i64 lv := by subst hS2; simp [e1]
    have z2 : tget S2.t 2 = .int .i64 cell := by subst hS2; simp [e2]
    have z3 : tget S2.t 3 = .int .i64 k := by subst hS2; simp [e3]
    have z9 : tget S2.t 9 = .int .i64 i := by subst hS2; simp [e9]
    rcases g8 with ⟨rfl, hno⟩ | ⟨rfl, h8, hyes⟩
    · simp [and_assoc, g1, g3, g4, g5, g6, g7, z0, z1, z2, z3, z9, hw]
      exact ⟨_, by omega, i + 1, by omega, rfl, by omega, eA.trans hB, fun j h hj => by
        by_cases e : j = i
        · subst e; rw [hq]; simpa using hno
        · simpa using et j h (by omega)⟩
    · have hany : (ls.any fun l => l.lv == lv && (l.sp k).occ cell) = true := List.any_eq_true.2 ⟨q, by rw [← hq]; exact List.getElem_mem hlt, hyes⟩
      simp [and_assoc, h8]
      simpa [and_assoc] using hany
  obtain ⟨⟨e, s1⟩, hr, q⟩ := key
  simp [ocLoop, SC.loops, sf_cobleref06_Occupied] at hr
  rw [hr]
  simp only at q
  rcases q with ⟨rfl, h⟩ | ⟨rfl, h8, h⟩
  · simp [-List.any_eq_false, h]
  · simp [-List.any_eq_true, h8, h]
end Go.Proofs.YthobfecblpnnnaaGreatDoor
