/- Contracts: a short list of one's own is sorted. -/
import Derived.Test.YthobfecblpnnnaaGreatDoorLanC
set_option linter.all false
namespace Go.Proofs.YthobfecblpnnnaaGreatDoor
open Go Go.RowKit

theorem run_isNaN (x : Int) (lim : Nat) (H : AH) : apL Tryz.prog pf (.func (.func 150) #[] #[]) [.int .i64 x] lim H = some (.bool false, H) := by
  rw [apL_func _ _ _ _ _ _ (by rfl), sf_cmp_isNaN_int_eq]
  simp [sf_cmp_isNaN_int, pf_pure, pureF]

theorem run_Less (x y : Int) (lim : Nat) (H : AH) : apL Tryz.prog pf (.func (.func 136) #[] #[]) [.int .i64 x, .int .i64 y] lim H = some (.bool (decide (x < y)), H) := by
  rw [apL_func _ _ _ _ _ _ (by rfl), sf_cmp_Less_int_eq]
  have h := run_isNaN
  simp [sf_cmp_Less_int, h, pf_pure, pureF]

/-- The first n are in order. -/
def SrtTo (n : Nat) (l : List Int) : Prop := ∀ p q, p < q → q < n → l.getD p 0 ≤ l.getD q 0
/-- The first i + 1 are in order, but for that at j, which is at most those behind it. -/
def SrtBut (i j : Nat) (l : List Int) : Prop := (∀ p q, p < q → q ≤ i → p ≠ j → q ≠ j → l.getD p 0 ≤ l.getD q 0) ∧ ∀ q, j < q → q ≤ i → l.getD j 0 ≤ l.getD q 0

def swp (l : List Int) (j : Nat) : List Int := (l.set (j + 1) (l.getD j 0)).set j (l.getD (j + 1) 0)
theorem swp_length (l : List Int) (j : Nat) : (swp l j).length = l.length := by simp [swp]
theorem swp_getD {l : List Int} {j : Nat} (hj : j + 1 < l.length) (p : Nat) : (swp l j).getD p 0 = if p = j then l.getD (j + 1) 0 else if p = j + 1 then l.getD j 0 else l.getD p 0 := by
  unfold swp
  simp only [List.getD_eq_getElem?_getD, List.getElem?_set, List.length_set]
  by_cases h1 : p = j
  · subst h1
    simp [show p < l.length by omega]
  · by_cases h2 : p = j + 1
    · subst h2
      simp [hj]
    · simp [h1, h2, Ne.symm h1, Ne.symm h2, show ¬ j = p by omega, show ¬ j + 1 = p by omega]
theorem swp_perm {l : List Int} {j : Nat} (hj : j + 1 < l.length) : (swp l j).Perm l := by
  unfold swp
  have h0 : j < l.length := by omega
  have e1 : l.getD j 0 = l[j] := by simp [h0]
  have e2 : l.getD (j + 1) 0 = l[j + 1] := by simp [hj]
  rw [e1, e2]
  exact List.set_set_perm hj h0

theorem but_step {i j : Nat} {l : List Int} (h : SrtBut i (j + 1) l) (hj : j + 1 ≤ i) (hi : i < l.length) (hlt : l.getD (j + 1) 0 < l.getD j 0) : SrtBut i j (swp l j) := by
  obtain ⟨h1, h2⟩ := h
  have g := swp_getD (l := l) (j := j) (by omega)
  refine ⟨fun p q hpq hq hp hqj => ?_, fun q hq hqi => ?_⟩
  · rw [g p, g q, if_neg hp, if_neg hqj]
    by_cases x1 : p = j + 1
    · subst x1
      rw [if_pos rfl, if_neg (by omega)]
      exact h1 j q (by omega) hq (by omega) (by omega)
    · rw [if_neg x1]
      by_cases x2 : q = j + 1
      · subst x2
        rw [if_pos rfl]
        exact h1 p j (by omega) (by omega) x1 (by omega)
      · rw [if_neg x2]
        exact h1 p q hpq hq x1 x2
  · rw [g j, g q, if_pos rfl, if_neg (by omega)]
    by_cases x2 : q = j + 1
    · subst x2
      rw [if_pos rfl]
      omega
    · rw [if_neg x2]
      exact h2 q (by omega) hqi

theorem but_end {i j : Nat} {l : List Int} (h : SrtBut i j l) (hj : j = 0 ∨ l.getD (j - 1) 0 ≤ l.getD j 0) : SrtTo (i + 1) l := fun p q hpq hq => by
  obtain ⟨h1, h2⟩ := h
  by_cases x1 : p = j
  · subst x1; exact h2 q hpq (by omega)
  · by_cases x2 : q = j
    · subst x2
      rcases hj with hj | hj
      · omega
      · by_cases x3 : p = q - 1
        · rw [x3]; exact hj
        · exact Int.le_trans (h1 p (q - 1) (by omega) (by omega) x1 (by omega)) hj
    · exact h1 p q hpq (by omega) x1 x2

theorem but_begin {i : Nat} {l : List Int} (h : SrtTo i l) : SrtBut i i l := ⟨fun p q hpq hq _ hqi => h p q hpq (by omega), fun q hq hqi => by omega⟩

theorem srt_pairwise : ∀ {l : List Int}, SrtTo l.length l → l.Pairwise (· ≤ ·) := fun {l} h => by
  rw [List.pairwise_iff_getElem]
  intro i j hi hj hij
  have := h i j hij hj
  simpa [hi, hj] using this

def isIn : SC := sf_slices_insertionSortOrdered_int.body.loops.getD 1 .skip
def isOut : SC := sf_slices_insertionSortOrdered_int.body.loops.headD .skip

set_option maxHeartbeats 1000000 in
theorem is_in (A : AH) (b k : Nat) (hb : b < A.length) (i : Nat) (l0 : List Int) (hi : i < l0.length) (hn : l0.length ≤ 1000) (hs : SrtTo i l0) (S : St) (e0 : tget S.t 0 = .slice (some ⟨b, 0, none⟩) l0.length k) (e1 : tget S.t 1 = .int .i64 0) (e7 : tget S.t 7 = .int .i64 i) (hH : S.H = A.set b (.rw 1 (ints l0))) (hlim : S.lim ≤ b) :
    ∃ q l, exL Tryz.prog pf (.loop isIn) S = some q ∧ q.1 = .exit 2 ∧ q.2.L = S.L ∧ q.2.lim = S.lim ∧ tget q.2.t 0 = tget S.t 0 ∧ tget q.2.t 1 = tget S.t 1 ∧ tget q.2.t 2 = tget S.t 2 ∧ tget q.2.t 6 = tget S.t 6 ∧ q.2.H = A.set b (.rw 1 (ints l)) ∧ l.Perm l0 ∧ l.length = l0.length ∧ SrtTo (i + 1) l := by
  have key : ∃ q, exL Tryz.prog pf (.loop isIn) S = some q ∧ (q.1 = .exit 2 ∧ q.2.L = S.L ∧ q.2.lim = S.lim ∧ tget q.2.t 0 = tget S.t 0 ∧ tget q.2.t 1 = tget S.t 1 ∧ tget q.2.t 2 = tget S.t 2 ∧ tget q.2.t 6 = tget S.t 6 ∧ ∃ l : List Int, q.2.H = A.set b (.rw 1 (ints l)) ∧ l.Perm l0 ∧ l.length = l0.length ∧ SrtTo (i + 1) l) := by
    refine loop_rule (I := fun n s' => ∃ j l, j ≤ i ∧ n = j ∧ tget s'.t 0 = .slice (some ⟨b, 0, none⟩) l0.length k ∧ tget s'.t 1 = .int .i64 0 ∧ tget s'.t 2 = tget S.t 2 ∧ tget s'.t 6 = tget S.t 6 ∧ tget s'.t 7 = .int .i64 (j : Nat) ∧ s'.L = S.L ∧ s'.lim = S.lim ∧ s'.H = A.set b (.rw 1 (ints l)) ∧ l.Perm l0 ∧ l.length = l0.length ∧ SrtBut i j l) ?_ i S
      ⟨i, l0, by omega, rfl, e0, e1, rfl, rfl, e7, rfl, rfl, hH, List.Perm.refl _, rfl, but_begin hs⟩
    rintro n s' ⟨j, l, hj, rfl, f0, f1, f2, f6, f7, fL, fl, fH, hp, hll, hB⟩
    have hg : (A.set b (.rw 1 (ints l)))[b]? = some (.rw 1 (ints l)) := List.getElem?_set_self hb
    have hset : ∀ x y, (A.set b x).set b y = A.set b y := fun x y => List.set_set ..
    have hgx : ∀ x, (A.set b x)[b]? = some x := fun x => List.getElem?_set_self hb
    have hle := run_Less
    cases n with
    | zero =>
      have hend := but_end hB (.inl rfl)
      simp [isIn, SC.loops, sf_slices_insertionSortOrdered_int, f0, f1, f2, f6, f7, fL, fl, fH, e0, e1]
      exact ⟨l, rfl, hp, hll, hend⟩
    | succ j =>
      have hjl : j + 1 < l.length := by omega
      have c1 : (ints l)[j + 1]? = some (.int .i64 (l.getD (j + 1) 0)) := by simp [ints, hjl]
      have c0 : (ints l)[j]? = some (.int .i64 (l.getD j 0)) := by simp [ints, show j < l.length by omega]
      have hw1 : IntKind.i64.wrap ((j + 1 : Nat) - 1 : Int) = (j : Int) := by rw [wrap_i64 (by omega) (by omega)]; omega
      have hpos : (0 : Int) < ((j + 1 : Nat) : Int) := by omega
      have hI1 : ((j + 1 : Nat) : Int) < (l0.length : Int) := by omega
      have hI0 : (j : Int) < (l0.length : Int) := by omega
      have hn1 : j + 1 < l0.length := by omega
      have hn0 : j < l0.length := by omega
      by_cases hlt : l.getD (j + 1) 0 < l.getD j 0
      rotate_left
      · have hend := but_end hB (.inr (by simpa using Int.not_lt.1 hlt))
        generalize hu : l.getD (j + 1) 0 = u at *
        generalize hv : l.getD j 0 = v at *
        generalize hcs : ints l = cs at *
        simp [-Int.natCast_add, isIn, SC.loops, sf_slices_insertionSortOrdered_int, f0, f1, f2, f6, f7, fL, fl, fH, e0, e1, hg, c1, c0, hw1, hpos, hI1, hI0, hn1, hn0, hle, hlt]
        exact ⟨l, by rw [hcs], hp, hll, hend⟩
      · have hstep := but_step hB hj (by omega) hlt
        have hperm := (swp_perm hjl).trans hp
        have hlen : (swp l j).length = l0.length := by rw [swp_length, hll]
        have hsw : ((ints l).set (j + 1) (.int .i64 (l.getD j 0))).set j (.int .i64 (l.getD (j + 1) 0)) = ints (swp l j) := by simp [swp, ints, List.map_set]
        have c0' : ((ints l).set (j + 1) (.int .i64 (l.getD j 0)))[j]? = some (.int .i64 (l.getD j 0)) := by rw [List.getElem?_set_ne (by omega)]; exact c0
        have hcl : (ints l).length = l0.length := by rw [ints_length, hll]
        generalize hu : l.getD (j + 1) 0 = u at *
        generalize hv : l.getD j 0 = v at *
        generalize hcs : ints l = cs at *
        have b1 : j + 1 + 1 ≤ cs.length := by omega
        have b0 : j + 1 ≤ cs.length := by omega
        have b1' : j + 1 + 1 ≤ l0.length := by omega
        have b0' : j + 1 ≤ l0.length := by omega
        have hlim' : S.lim ≤ b := hlim
        have d1 : ∀ h : j + 1 < cs.length, cs[j + 1]'h = .int .i64 u := fun h => by rw [List.getElem?_eq_getElem h] at c1; exact Option.some.inj c1
        have d0 : ∀ h : j < cs.length, cs[j]'h = .int .i64 v := fun h => by rw [List.getElem?_eq_getElem h] at c0; exact Option.some.inj c0
        simp [-Int.natCast_add, isIn, SC.loops, sf_slices_insertionSortOrdered_int, f0, f1, f2, f6, f7, fL, fl, fH, e0, e1, hg, hgx, hset, c1, c0, hw1, hpos, hI1, hI0, hn1, hn0, hle, hlt, hlim', b1', b0', hcl, d1, d0, and_assoc]
        exact ⟨_, Nat.lt_succ_self _, j, by omega, rfl, rfl, swp l j, by rw [hsw], hperm, hlen, hstep⟩
  obtain ⟨q, h1, h2, h3, h4, h5, h6, h7, h8, l, h9⟩ := key
  exact ⟨q, l, h1, h2, h3, h4, h5, h6, h7, h8, h9⟩

theorem run_insSort (A : AH) (b k : Nat) (l : List Int) (hn : l.length ≤ 1000) (hb : A[b]? = some (.rw 1 (ints l))) (lim : Nat) (hlim : lim ≤ b) :
    ∃ m : List Int, apL Tryz.prog pf (.func (.func 130) #[] #[]) [.slice (some ⟨b, 0, none⟩) l.length k, .int .i64 0, .int .i64 l.length] lim A = some (.tuple #[], A.set b (.rw 1 (ints m))) ∧ m.Perm l ∧ m.length = l.length ∧ m.Pairwise (· ≤ ·) := by
  rw [apL_func _ _ _ _ _ _ (by rfl), sf_slices_insertionSortOrdered_int_eq]
  have hbl : b < A.length := (List.getElem?_eq_some_iff.1 hb).1
  have hw1 : IntKind.i64.wrap 1 = 1 := by decide
  simp [sf_slices_insertionSortOrdered_int, hw1, pf_pure, pureF]
  generalize hS : ({ t := _, L := _, H := _, lim := _, rd := _ } : St) = S
  have hAA : A = A.set b (.rw 1 (ints l)) := by
    obtain ⟨h1, h2⟩ := List.getElem?_eq_some_iff.1 hb
    rw [← h2, List.set_getElem_self]
  have key : ∃ q, exL Tryz.prog pf (.loop isOut) S = some q ∧ (q.1 = .exit 0 ∧ ∃ m : List Int, q.2.H = A.set b (.rw 1 (ints m)) ∧ m.Perm l ∧ m.length = l.length ∧ SrtTo l.length m) := by
    refine loop_rule (I := fun n s' => ∃ (i : Nat) (m : List Int), 1 ≤ i ∧ (i ≤ l.length ∨ (l.length = 0 ∧ i = 1)) ∧ n = l.length - i ∧ tget s'.t 0 = .slice (some ⟨b, 0, none⟩) l.length k ∧ tget s'.t 1 = .int .i64 0 ∧ tget s'.t 2 = .int .i64 l.length ∧ tget s'.t 6 = .int .i64 i ∧ s'.lim = S.lim ∧ s'.H = A.set b (.rw 1 (ints m)) ∧ m.Perm l ∧ m.length = l.length ∧ SrtTo i m) ?_ (l.length - 1) S
      ⟨1, l, by omega, by omega, rfl, by subst hS; simp, by subst hS; simp, by subst hS; simp, by subst hS; simp, rfl, by subst hS; exact hAA, List.Perm.refl _, rfl, fun p q hpq hq => by omega⟩
    rintro n s' ⟨i, m, hi1, hi, rfl, f0, f1, f2, f6, fl, fH, hp, hml, hs⟩
    by_cases hlt : i < l.length
    rotate_left
    · have hltI : ¬ (i : Int) < (l.length : Int) := by omega
      simp [isOut, SC.loops, sf_slices_insertionSortOrdered_int, f0, f1, f2, f6, fl, fH, hltI]
      exact ⟨m, rfl, hp, hml, fun p q hpq hq => hs p q hpq (by omega)⟩
    have hltI : (i : Int) < (l.length : Int) := by omega
    have hw : IntKind.i64.wrap ((i : Int) + 1) = ((i + 1 : Nat) : Int) := by rw [wrap_i64 (by omega) (by omega)]; omega
    have hin := is_in A b k hbl i m (by omega) (by omega) hs
    rw [hml] at hin
    simp [-Array.all_toList, isOut, SC.loops, sf_slices_insertionSortOrdered_int, f0, f1, f2, f6, fl, fH, hltI]
    generalize hS2 : ({ t := _, L := _, H := _, lim := _, rd := _ } : St) = S2
    have hSl : S.lim = lim := by subst hS; rfl
    obtain ⟨⟨e, s2⟩, m2, hr2, g1, g2, g3, g4, g5, g6, g7, g8, g9, g10, g11⟩ := hin S2 (by subst hS2; simp [f0]) (by subst hS2; simp [f1]) (by subst hS2; simp) (by subst hS2; simp [fH]) (by subst hS2; simp [fl, hSl]; exact hlim)
    simp [isIn, SC.loops, sf_slices_insertionSortOrdered_int] at hr2
    rw [hr2]
    simp only at g1 g2 g3 g4 g5 g6 g7 g8 g9 g10 g11
    subst g1
    have z0 : tget S2.t 0 = .slice (some ⟨b, 0, none⟩) l.length k := by subst hS2; simp [f0]
    have z1 : tget S2.t 1 = .int .i64 0 := by subst hS2; simp [f1]
    have z2 : tget S2.t 2 = .int .i64 l.length := by subst hS2; simp [f2]
    have z6 : tget S2.t 6 = .int .i64 i := by subst hS2; simp [f6]
    have zl : S2.lim = S.lim := by subst hS2; simp [fl]
    simp [-Int.natCast_add, g3, g4, g5, g6, g7, g8, z0, z1, z2, z6, zl, hw, and_assoc]
    exact ⟨_, by omega, i + 1, by omega, by omega, rfl, rfl, m2, rfl, g9.trans hp, by omega, g11⟩
  obtain ⟨⟨e, s1⟩, hr, q1, m, q2, q3, q4, q5⟩ := key
  simp [isOut, SC.loops, sf_slices_insertionSortOrdered_int] at hr
  rw [hr]
  simp only at q1 q2
  subst q1
  refine ⟨m, ?_, q3, q4, srt_pairwise (by rw [q4]; exact q5)⟩
  simp [q2]
end Go.Proofs.YthobfecblpnnnaaGreatDoor
