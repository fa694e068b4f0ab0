/- Contracts of layer 6, the reference: which legs are valid. -/
import Derived.Test.YthobfecblpnnnaaGreatDoorLanB
import Derived.Test.YthobfecblpnnnaaGreatDoorFunY
set_option linter.all false
namespace Go.Proofs.YthobfecblpnnnaaGreatDoor
open Go Go.RowKit

theorem run_within6 (n l h : Int) (lim : Nat) (H : AH) : apL Tryz.prog pf (.func (.func 62) #[] #[]) [.int .i64 n, .int .i64 l, .int .i64 h] lim H = some (.bool (decide (l ≤ n) && decide (n ≤ h)), H) := by
  rw [apL_func _ _ _ _ _ _ (by rfl), sf_cobleref06_within_eq]
  by_cases h1 : l ≤ n <;> simp [sf_cobleref06_within, h1, pf_pure, pureF]

theorem run_refUnit (lv dr : Int) (lim : Nat) (H : AH) : apL Tryz.prog pf (.func (.func 40) #[] #[]) [.int .i64 lv, .int .i64 dr] lim H = some (.bool (unitB lv dr), H) := by
  rw [apL_func _ _ _ _ _ _ (by rfl), sf_cobleref06_isUnit_eq]
  have hw := run_within6
  by_cases h : lv = 0
  · have h' : (lv == 0) = true := by simpa using h
    subst h
    by_cases h2 : 1 ≤ dr ∧ dr ≤ 100
    · have h2' : (decide (1 ≤ dr) && decide (dr ≤ 100)) = true := by simpa using h2
      simp [-Bool.and_eq_true, sf_cobleref06_isUnit, hw, h2', unitB, h2, pf_pure, pureF]
    · have h2' : (decide (1 ≤ dr) && decide (dr ≤ 100)) = false := by simpa using h2
      simp [-Bool.and_eq_false_imp, sf_cobleref06_isUnit, hw, h2', unitB, pf_pure, pureF]
  · have h' : (lv == 0) = false := by simpa using h
    by_cases h3 : 1 ≤ lv ∧ lv ≤ 3
    · have h3' : (decide (1 ≤ lv) && decide (lv ≤ 3)) = true := by simpa using h3
      have h4 : (decide (0 ≤ lv) && decide (lv ≤ 3)) = true := by simp; omega
      simp [-Bool.and_eq_true, sf_cobleref06_isUnit, hw, h', h3', unitB, h, h4, pf_pure, pureF]
    · have h3' : (decide (1 ≤ lv) && decide (lv ≤ 3)) = false := by simpa using h3
      have h4 : (decide (0 ≤ lv) && decide (lv ≤ 3)) = false := by
        cases hb : (decide (0 ≤ lv) && decide (lv ≤ 3)) with
        | false => rfl
        | true => simp at hb; omega
      simp [-Bool.and_eq_false_imp, sf_cobleref06_isUnit, hw, h', h3', unitB, h, h4, pf_pure, pureF]

theorem run_Sure6 (c : Ch) (hok : ChOk c) (lim : Nat) (H : AH) (d t s : Value) (hc : ChIn H c d t s) (g : Int) {i k : Nat} (hi : i < c.cells) (hk : k < c.ticks) :
    apL Tryz.prog pf (.func (.func 109) #[] #[]) [chV c d t s, .int .i64 g, .int .i64 i, .int .i64 k] lim H = some (.bool (c.sure g i k), H) := by
  rw [apL_func _ _ _ _ _ _ (by rfl), sf_cobleref01_Sure_eq]
  obtain ⟨⟨b1, b2⟩, ⟨b3, b4, b5⟩, b6, b7⟩ := hok.bounds hi hk
  have hO := fun lim => run_Over c hok lim H d t s hc hi hk (c.lo k) (by omega) (by omega)
  obtain ⟨bt, ot, kt, et, t1, t2⟩ := hc.td hk
  obtain ⟨⟨da, dc, ed, _⟩, _, ⟨sa, sc, es, _⟩, _, _, _⟩ := hc
  have hk' : k < c.tide.length := hk
  have hk2 : (k : Int) < c.tide.length := by omega
  simp only [hcell] at t1 t2
  simp only [chV, ed, et, es] at hO
  simp [sf_cobleref01_Sure, chV, ed, et, es, hk', hk2, t1, t2, hO, Ch.sure, pf_pure, pureF]

theorem run_Can (c : Ch) (hok : ChOk c) (lv dr : Int) (hu : unitB lv dr = true) (lim : Nat) (H : AH) (d t s : Value) (hc : ChIn H c d t s) {i k : Nat} (hi : i < c.cells) (hk : k < c.ticks) :
    apL Tryz.prog pf (.func (.func 74) #[] #[]) [chV c d t s, .int .i64 lv, .int .i64 dr, .int .i64 i, .int .i64 k] lim H = some (.bool (c.can lv dr i k), H) := by
  rw [apL_func _ _ _ _ _ _ (by rfl), sf_cobleref06_Can_eq]
  have hS := fun lim => run_Sure6 c hok lim H d t s hc dr hi hk
  obtain ⟨⟨da, dc, ed, _⟩, ⟨ta, tc, et, _⟩, ⟨sa, sc, es, _⟩, _, _, _⟩ := hc
  simp only [chV, ed, et, es] at hS
  by_cases h : lv = 0
  · subst h
    simp [sf_cobleref06_Can, chV, ed, et, es, hS, Ch.can, pf_pure, pureF]
  · have h0 : 0 < lv := by
      unfold unitB at hu
      rw [if_neg h] at hu
      simp at hu
      omega
    have h1 : (lv != 0) = true := by simpa using h
    simp [sf_cobleref06_Can, chV, ed, et, es, h0, Ch.can, h1, pf_pure, pureF]

def nx6Loop : SC := sf_cobleref06_Next.body.loops.headD .skip

theorem nx6_loop (c : Ch) (hok : ChOk c) (H : AH) (d t s : Value) (hc : ChIn H c d t s) {a : Nat} (ha : a < c.cells) (b : Int) (S : St) (h1 : tget S.t 1 = .int .i64 a) (h2 : tget S.t 2 = .int .i64 b) (h3 : tget S.t 3 = .pointer (some ⟨3, 0, some 0⟩)) (h7 : tget S.t 7 = .int .i64 0) (hL : S.L = [(3, 0, .cells [.int .i64 c.w, .int .i64 c.h, d, t, s])]) (hH : S.H = H) :
    ∃ r, exL Tryz.prog pf (.loop nx6Loop) S = some r ∧ r.2.H = H ∧ ((r.1 = .exit 0 ∧ nearB c.w c.h a b 6 = false ∧ tget r.2.t 1 = .int .i64 a ∧ tget r.2.t 2 = .int .i64 b) ∨ (r.1 = .ret ∧ tget r.2.t 6 = .bool true ∧ nearB c.w c.h a b 6 = true)) := by
  have hw := hok.1.1
  have hh := hok.2.1.1
  have hB := fun {k} (hk : k < 6) lim => run_Beside c hok lim H d t s hc ha hk
  obtain ⟨⟨da, dc, ed, _⟩, ⟨ta, tc, et, _⟩, ⟨sa, sc, es, _⟩, _, _, _⟩ := hc
  simp only [chV, ed, et, es] at hB
  refine loop_rule (I := fun n s' => ∃ i, i ≤ 6 ∧ n = 6 - i ∧ tget s'.t 1 = .int .i64 a ∧ tget s'.t 2 = .int .i64 b ∧ tget s'.t 3 = .pointer (some ⟨3, 0, some 0⟩) ∧ nearB c.w c.h a b i = false ∧ tget s'.t 7 = .int .i64 i ∧ s'.L = S.L ∧ s'.H = H) ?_ 6 S ⟨0, by omega, by omega, h1, h2, h3, rfl, h7, rfl, hH⟩
  rintro n s' ⟨i, hi, rfl, e1, e2, e3, eN, e7, eL, eH⟩
  rw [hL] at eL
  rw [ed, et, es] at eL hL
  by_cases hlt : i < 6
  rotate_left
  · have : i = 6 := by omega
    subst this
    simp [nx6Loop, SC.loops, sf_cobleref06_Next, e1, e2, e3, e7, eL, eH, eN]
  have hi6 : (i : Int) < 6 := by omega
  have hwr : IntKind.i64.wrap ((i : Int) + 1) = (i : Int) + 1 := wrap_i64 (by omega) (by omega)
  have hs := nearB_succ c.w c.h a b i
  have hB := fun lim => hB hlt lim
  have hmono : nearB c.w c.h a b (i + 1) = true → nearB c.w c.h a b 6 = true := fun h => by
    unfold nearB at h ⊢
    rw [List.any_eq_true] at h ⊢
    obtain ⟨x, hx, hy⟩ := h
    exact ⟨x, by rw [List.mem_range] at hx ⊢; omega, hy⟩
  cases hx : nxt c.w c.h a i with
  | none =>
    rw [hx] at hs
    have hs' : nearB c.w c.h a b (i + 1) = false := by rw [hs, eN]; simp
    simp [nx6Loop, SC.loops, sf_cobleref06_Next, e1, e2, e3, e7, eL, eH, eN, hi6, hB, hx, hwr, hL]
    exact ⟨_, by omega, i + 1, by omega, rfl, hs', by omega⟩
  | some m =>
    rw [hx] at hs
    by_cases hm : m = b
    · have hs' : nearB c.w c.h a b (i + 1) = true := by rw [hs]; simp [hm]
      have hb : (m == b) = true := by simp [hm]
      simp [nx6Loop, SC.loops, sf_cobleref06_Next, e1, e2, e3, e7, eL, eH, eN, hi6, hB, hx, hwr, hL, hb]
      exact hmono hs'
    · have hs' : nearB c.w c.h a b (i + 1) = false := by rw [hs, eN]; simp [hm]
      have hb : (m == b) = false := by simp [hm]
      simp [nx6Loop, SC.loops, sf_cobleref06_Next, e1, e2, e3, e7, eL, eH, eN, hi6, hB, hx, hwr, hL, hb]
      exact ⟨_, by omega, i + 1, by omega, rfl, hs', by omega⟩

theorem adj_eq {c : Ch} (hok : ChOk c) {a b : Nat} (ha : a < c.cells) (hb : b < c.cells) : (nearB c.w c.h a b 6 || ((a : Int) == b)) = decide (apt c.w a b ≤ 1) := by
  obtain ⟨m0, m1, m2⟩ := hok.mul
  have h1 := apt_one (w := c.w) (h := c.h) hok.1.1 hok.2.1.1 (Int.natCast_nonneg a) (by rw [m2]; exact Int.ofNat_lt.2 ha) (Int.natCast_nonneg b) (by rw [m2]; exact Int.ofNat_lt.2 hb)
  have h0 := apt_zero (w := c.w) (h := c.h) hok.1.1 (Int.natCast_nonneg a) (by rw [m2]; exact Int.ofNat_lt.2 ha) (Int.natCast_nonneg b) (by rw [m2]; exact Int.ofNat_lt.2 hb)
  have hn := apt_nonneg c.w a b
  rw [Bool.eq_iff_iff]
  simp only [Bool.or_eq_true, beq_iff_eq, decide_eq_true_eq]
  rw [← h1, ← h0]
  omega

theorem run_Next6 (c : Ch) (hok : ChOk c) (lim : Nat) (H : AH) (d t s : Value) (hc : ChIn H c d t s) {a b : Nat} (ha : a < c.cells) (hb : b < c.cells) :
    apL Tryz.prog pf (.func (.func 75) #[] #[]) [chV c d t s, .int .i64 a, .int .i64 b] lim H = some (.bool (decide (apt c.w a b ≤ 1)), H) := by
  rw [apL_func _ _ _ _ _ _ (by rfl), sf_cobleref06_Next_eq, ← adj_eq hok ha hb]
  have key := nx6_loop c hok H d t s hc ha b
  obtain ⟨⟨da, dc, ed, _⟩, ⟨ta, tc, et, _⟩, ⟨sa, sc, es, _⟩, _, _, _⟩ := hc
  simp [sf_cobleref06_Next, chV, ed, et, es]
  generalize hS : ({ t := _, L := _, H := _, lim := _, rd := _ } : St) = S
  obtain ⟨⟨e, s1⟩, hr, qH, q⟩ := key S (by subst hS; simp) (by subst hS; simp) (by subst hS; simp) (by subst hS; simp) (by subst hS; simp [ed, et, es]) (by subst hS; rfl)
  simp [nx6Loop, SC.loops, sf_cobleref06_Next] at hr
  rw [hr]
  simp only at qH q
  rcases q with ⟨rfl, h, h1, h2⟩ | ⟨rfl, h6, h⟩
  · simp [h, h1, h2, qH, pf_pure, pureF]
  · simp [h, h6, qH, pf_pure, pureF]

def wayAt6 (c : Ch) (l : Lg) (i : Nat) : Bool := c.can l.lv l.dr (l.cs.getD i 0).toNat (l.t0.toNat + i) && (i == 0 || decide (apt c.w (l.cs.getD (i - 1) 0) (l.cs.getD i 0) ≤ 1))
theorem wayB_eq6 (c : Ch) (l : Lg) : wayB c l = (List.range l.cs.length).all (wayAt6 c l) := rfl

def il6Loop : SC := sf_cobleref06_IsLeg.body.loops.headD .skip

set_option maxHeartbeats 1000000 in
theorem il6_loop (c : Ch) (hok : ChOk c) (l : Lg) (hu : unitB l.lv l.dr = true) {n0 : Nat} (h0 : l.t0 = n0) (h1 : n0 + l.cs.length ≤ c.ticks) (H : AH) (d t s : Value) (hc : ChIn H c d t s) (xa : Option Addr) (xc : Nat)
    (hv : Sl H (.slice xa l.cs.length xc) l.cs.length (ints l.cs)) (S : St) (h2 : tget S.t 2 = .pointer (some ⟨2, 0, some 0⟩)) (h3 : tget S.t 3 = .pointer (some ⟨3, 0, some 0⟩)) (h5 : tget S.t 5 = .int .i64 0)
    (hL : S.L = [(3, 0, .cells [.int .i64 l.t0, .int .i64 l.lv, .int .i64 l.dr, .bool l.tl, .slice xa l.cs.length xc]), (2, 0, .cells [.int .i64 c.w, .int .i64 c.h, d, t, s])]) (hH : S.H = H) :
    ∃ r, exL Tryz.prog pf (.loop il6Loop) S = some r ∧ r.2.H = H ∧ ((r.1 = .exit 0 ∧ l.cs.all (inN c.cells) = true ∧ wayB c l = true) ∨ (r.1 = .ret ∧ tget r.2.t 4 = .bool false ∧ (l.cs.all (inN c.cells) && wayB c l) = false)) := by
  have hT : c.ticks ≤ 60 := hok.2.2.2.1.2
  obtain ⟨aa, ac, e, hd⟩ := hv
  cases e
  have hI := fun x lim => run_IsCellOk c hok x lim H d t s hc
  have hCa := fun {m k : Nat} (hm : m < c.cells) (hk : k < c.ticks) lim => run_Can c hok l.lv l.dr hu lim H d t s hc hm hk
  have hNx := fun {m k : Nat} (hm : m < c.cells) (hk : k < c.cells) lim => run_Next6 c hok lim H d t s hc hm hk
  obtain ⟨⟨da, dc, ed, _⟩, ⟨ta, tc, et, _⟩, ⟨sa, sc, es, _⟩, _, _, _⟩ := hc
  simp only [chV, ed, et, es] at hI hCa hNx hL
  have bad : ∀ i, i < l.cs.length → inN c.cells (l.cs.getD i 0) = false ∨ wayAt6 c l i = false → (l.cs.all (inN c.cells) && wayB c l) = false := fun i hi h => by
    rw [Bool.and_eq_false_iff]
    rcases h with h | h
    · refine .inl (List.all_eq_false.2 ⟨l.cs[i], List.getElem_mem hi, ?_⟩)
      simp only [List.getD_eq_getElem?_getD, List.getElem?_eq_getElem hi, Option.getD_some] at h
      simp [h]
    · exact .inr (List.all_eq_false.2 ⟨i, List.mem_range.2 hi, by simpa [wayAt6] using h⟩)
  refine loop_rule (I := fun n s' => ∃ i, i ≤ l.cs.length ∧ n = l.cs.length - i ∧ tget s'.t 2 = .pointer (some ⟨2, 0, some 0⟩) ∧ tget s'.t 3 = .pointer (some ⟨3, 0, some 0⟩) ∧ tget s'.t 5 = .int .i64 i ∧ s'.L = S.L ∧ s'.H = H ∧ ∀ j, j < i → inN c.cells (l.cs.getD j 0) = true ∧ wayAt6 c l j = true) ?_ l.cs.length S
    ⟨0, by omega, by omega, h2, h3, h5, rfl, hH, by omega⟩
  rintro n s' ⟨i, hi, rfl, e2, e3, e5, eL, eH, et'⟩
  rw [hL] at eL
  by_cases hlt : i < l.cs.length
  rotate_left
  · have : i = l.cs.length := by omega
    subst this
    have f1 : l.cs.all (inN c.cells) = true := List.all_eq_true.2 fun x hx => by
      obtain ⟨j, hj, rfl⟩ := List.mem_iff_getElem.1 hx
      have := (et' j hj).1
      simpa only [List.getD_eq_getElem?_getD, List.getElem?_eq_getElem hj, Option.getD_some] using this
    have f2 : wayB c l = true := List.all_eq_true.2 fun j hj => (et' j (List.mem_range.1 hj)).2
    simp [-List.all_eq_true, il6Loop, SC.loops, sf_cobleref06_IsLeg, e2, e3, e5, eL, eH, f1, f2]
  obtain ⟨b1, o1, ea, c1⟩ := hd i (.int .i64 l.cs[i]) (by simp [ints, hlt])
  subst ea
  have hg : l.cs.getD i 0 = l.cs[i] := by simp [hlt]
  have hltI : (i : Int) < l.cs.length := by omega
  have hw0 : IntKind.i64.wrap (l.t0 + (i : Int)) = ((n0 + i : Nat) : Int) := by rw [wrap_i64 (by omega) (by omega)]; omega
  have hw : IntKind.i64.wrap ((i : Int) + 1) = ((i + 1 : Nat) : Int) := by rw [wrap_i64 (by omega) (by omega)]; omega
  simp only [hcell] at c1
  cases hin : inN c.cells l.cs[i] with
  | false =>
    have hb := bad i hlt (.inl (by rw [hg]; exact hin))
    have hI := fun lim => hI l.cs[i] lim
    rw [hin] at hI
    generalize l.cs[i] = x at *
    simp [-Int.natCast_add, -Bool.and_eq_false_imp, il6Loop, SC.loops, sf_cobleref06_IsLeg, e2, e3, e5, eL, eH, hlt, hltI, c1, hI, hb]
  | true =>
  obtain ⟨m, hm, em⟩ := inN_iff.1 hin
  have hI := fun lim => hI l.cs[i] lim
  rw [hin] at hI
  rw [em] at c1 hI hg
  have hCa := fun lim => hCa hm (k := n0 + i) (by omega) lim
  have hwa : wayAt6 c l i = (c.can l.lv l.dr m (n0 + i) && (i == 0 || decide (apt c.w (l.cs.getD (i - 1) 0) m ≤ 1))) := by
    unfold wayAt6
    rw [hg, h0, Int.toNat_natCast, Int.toNat_natCast]
  have fin : wayAt6 c l i = true → ∀ j, j < i + 1 → inN c.cells (l.cs.getD j 0) = true ∧ wayAt6 c l j = true := fun hh j hj => by
    by_cases e : j = i
    · rw [e]; exact ⟨by rw [hg, ← em]; exact hin, hh⟩
    · exact et' j (by omega)
  cases hcan : c.can l.lv l.dr m (n0 + i) with
  | false =>
    rw [hcan] at hCa hwa
    have hb := bad i hlt (.inr (by simpa using hwa))
    simp [-Int.natCast_add, -Bool.and_eq_false_imp, il6Loop, SC.loops, sf_cobleref06_IsLeg, e2, e3, e5, eL, eH, hlt, hltI, c1, hI, hw0, hCa, hb]
  | true =>
    rw [hcan] at hCa hwa
    cases i with
    | zero =>
      simp only [Nat.add_zero, Int.natCast_zero, Int.add_zero] at hw0 c1 hCa e5 hltI
      have hw : IntKind.i64.wrap 1 = 1 := by decide
      simp [-Int.natCast_add, il6Loop, SC.loops, sf_cobleref06_IsLeg, e2, e3, e5, eL, eH, hlt, hltI, c1, hI, hw0, hCa, hw]
      first
        | exact ⟨_, by omega, 1, by omega, rfl, rfl, hL.symm, fin (by simpa using hwa)⟩
        | exact ⟨_, by omega, 1, by omega, rfl, hL.symm, fin (by simpa using hwa)⟩
        | exact ⟨_, by omega, 1, by omega, rfl, ⟨h2, h3⟩, rfl, hL.symm, fin (by simpa using hwa)⟩
        | exact ⟨_, by omega, 1, by omega, rfl, ⟨h2, h3⟩, hL.symm, fin (by simpa using hwa)⟩
    | succ j =>
      have hjl : j < l.cs.length := by omega
      obtain ⟨m', hm', em'⟩ := inN_iff.1 (et' j (by omega)).1
      obtain ⟨b2, o2, ea2, c2⟩ := hd j (.int .i64 l.cs[j]) (by simp [ints, hjl])
      cases ea2
      have hg' : l.cs.getD j 0 = l.cs[j] := by simp [hjl]
      rw [← hg', em'] at c2
      have hNx := fun lim => hNx hm' hm lim
      have hw1 : IntKind.i64.wrap ((j + 1 : Nat) - 1 : Int) = (j : Int) := by rw [wrap_i64 (by omega) (by omega)]; omega
      rw [Nat.add_sub_cancel, em'] at hwa
      have hpos : (0 : Int) < ((j + 1 : Nat) : Int) := by omega
      have hjl' : (j : Int) < l.cs.length := by omega
      simp only [hcell] at c2
      by_cases hap : apt c.w m' m ≤ 1
      · simp only [hap, decide_true] at hNx
        simp [-Int.natCast_add, il6Loop, SC.loops, sf_cobleref06_IsLeg, e2, e3, e5, eL, eH, hlt, hltI, hjl, hjl', hpos, c1, c2, hI, hw0, hCa, hw, hw1, hNx]
        exact ⟨_, by omega, j + 2, by omega, rfl, rfl, hL.symm, fin (by simpa [hap] using hwa)⟩
      · simp only [hap, decide_false] at hNx
        have hb := bad (j + 1) hlt (.inr (by simpa [hap] using hwa))
        simp [-Int.natCast_add, -Bool.and_eq_false_imp, il6Loop, SC.loops, sf_cobleref06_IsLeg, e2, e3, e5, eL, eH, hlt, hltI, hjl, hjl', hpos, c1, c2, hI, hw0, hCa, hw1, hNx, hb]

set_option maxHeartbeats 1000000 in
theorem run_IsLeg6 (c : Ch) (hok : ChOk c) (l : Lg) (H : AH) (d t s : Value) (hc : ChIn H c d t s) (v : Value) (hv : CsIn H v l) (lim : Nat) :
    apL Tryz.prog pf (.func (.func 45) #[] #[]) [chV c d t s, lgV l v] lim H = some (.bool (lgOk c l), H) := by
  rw [apL_func _ _ _ _ _ _ (by rfl), sf_cobleref06_IsLeg_eq]
  have hT : c.ticks ≤ 60 := hok.2.2.2.1.2
  have hU := fun lim => run_refUnit l.lv l.dr lim H
  obtain ⟨hv, hl⟩ := hv
  have hv0 := hv
  obtain ⟨xa, xc, rfl, _⟩ := hv0
  have key := fun hu {n0 : Nat} (h0 : l.t0 = n0) h1 => il6_loop c hok l hu h0 h1 H d t s hc xa xc hv
  obtain ⟨⟨da, dc, ed, _⟩, ⟨ta, tc, et, _⟩, ⟨sa, sc, es, _⟩, _, _, _⟩ := hc
  simp only [chV, lgV, ed, et, es]
  cases a1 : unitB l.lv l.dr with
  | false =>
    rw [a1] at hU
    simp [sf_cobleref06_IsLeg, hU, lgOk, a1, pf_pure, pureF]
  | true =>
  rw [a1] at hU
  by_cases a2 : l.cs.length = 0
  · have a2' : ((l.cs.length : Int) == 0) = true := by simp [a2]
    simp [sf_cobleref06_IsLeg, hU, lgOk, a1, a2, pf_pure, pureF]
  have a2' : ((l.cs.length : Int) == 0) = false := by simp; intro h; exact a2 (by simp [h])
  by_cases a3 : l.t0 < 0
  · have a3' : inN c.ticks l.t0 = false := by simp [inN]; omega
    simp [sf_cobleref06_IsLeg, hU, lgOk, a1, a2', a3, a3', pf_pure, pureF]
  by_cases a4 : c.tide.length < l.cs.length
  · have a4' : (c.tide.length : Int) < l.cs.length := by omega
    have a5 : ¬ (l.t0 + (l.cs.length : Int) ≤ c.ticks) := by unfold Ch.ticks; omega
    simp [sf_cobleref06_IsLeg, hU, lgOk, a1, a2', a3, a4, a4', a5, pf_pure, pureF]
  have a4' : ¬ (c.tide.length : Int) < l.cs.length := by omega
  have hT' : c.tide.length ≤ 60 := hT
  have hw : IntKind.i64.wrap ((c.tide.length : Int) - (l.cs.length : Int)) = (c.tide.length : Int) - (l.cs.length : Int) := wrap_i64 (by omega) (by omega)
  by_cases a5 : (c.tide.length : Int) - (l.cs.length : Int) < l.t0
  · have a5' : ¬ (l.t0 + (l.cs.length : Int) ≤ c.ticks) := by unfold Ch.ticks; omega
    simp [sf_cobleref06_IsLeg, hU, lgOk, a1, a2', a3, a4, a4', hw, a5, a5', pf_pure, pureF]
  obtain ⟨n0, h0⟩ : ∃ n0 : Nat, l.t0 = n0 := ⟨l.t0.toNat, by omega⟩
  have h1 : n0 + l.cs.length ≤ c.ticks := by unfold Ch.ticks; omega
  have a6 : inN c.ticks l.t0 = true := inN_iff.2 ⟨n0, by unfold Ch.ticks at *; omega, h0⟩
  have a7 : l.t0 + (l.cs.length : Int) ≤ c.ticks := by omega
  have a8 : 0 < l.cs.length := by omega
  simp [sf_cobleref06_IsLeg, hU, a2', a3, a4, a4', hw, a5, pf_pure, pureF]
  generalize hS : ({ t := _, L := _, H := _, lim := _, rd := _ } : St) = S
  obtain ⟨⟨e, s1⟩, hr, q2, q3⟩ := key a1 h0 h1 S (by subst hS; simp) (by subst hS; simp) (by subst hS; simp) (by subst hS; simp [ed, et, es]) (by subst hS; rfl)
  simp [il6Loop, SC.loops, sf_cobleref06_IsLeg] at hr
  rw [hr]
  simp only at q2 q3
  have hlg : lgOk c l = (l.cs.all (inN c.cells) && wayB c l) := by
    unfold lgOk
    rw [a1, a6, decide_eq_true a7, decide_eq_true a8]
    simp
  rw [hlg]
  rcases q3 with ⟨rfl, f1, f2⟩ | ⟨rfl, h4, f⟩
  · simp [-List.all_eq_true, f1, f2, q2]
  · simp [-Bool.and_eq_false_imp, f, h4, q2]

def ck6Loop : SC := sf_cobleref06_Check.body.loops.headD .skip

open Classical in
noncomputable def legE6 (c : Ch) (ls : List Lg) : Int := if ChOk c then (if ls.length ≤ 12 ∧ ls.all (lgOk c) = true then 0 else 60) else 10

theorem run_Check6 (c : Ch) (ls : List Lg) (H : AH) (d t s v : Value) (hc : ChIn H c d t s) (hv : LgIn H v ls) (lim : Nat) :
    apL Tryz.prog pf (.func (.func 31) #[] #[]) [chV c d t s, v] lim H = some (.int .i64 (legE6 c ls), H) := by
  rw [apL_func _ _ _ _ _ _ (by rfl), sf_cobleref06_Check_eq]
  obtain ⟨va, vc, ev⟩ := hv.sl.one
  by_cases hok : ChOk c
  rotate_left
  · have hK := fun lim => run_CheckF c lim H d t s hc hok
    have h0 : legE6 c ls = 10 := by unfold legE6; rw [if_neg hok]
    obtain ⟨⟨da, dc, ed, _⟩, ⟨ta, tc, et, _⟩, ⟨sa, sc, es, _⟩, _, _, _⟩ := hc
    simp only [chV, ed, et, es] at hK
    simp [sf_cobleref06_Check, chV, ed, et, es, ev, hK, h0, pf_pure, pureF]
  have hK := fun lim => run_CheckT c lim H d t s hc hok
  have hLg := fun l v hv lim => run_IsLeg6 c hok l H d t s hc v hv lim
  obtain ⟨⟨da, dc, ed, _⟩, ⟨ta, tc, et, _⟩, ⟨sa, sc, es, _⟩, _, _, _⟩ := hc
  simp only [chV, ed, et, es] at hK hLg
  by_cases h1 : ls.length ≤ 12
  rotate_left
  · have h0 : legE6 c ls = 60 := by unfold legE6; rw [if_pos hok, if_neg (fun h => h1 h.1)]
    have h1' : 12 < ls.length := by omega
    have h1I : (12 : Int) < ls.length := by omega
    simp [sf_cobleref06_Check, chV, ed, et, es, ev, hK, h1', h1I, h0, pf_pure, pureF]
  have h1' : ¬ 12 < ls.length := by omega
  have h1I : ¬ (12 : Int) < ls.length := by omega
  simp [sf_cobleref06_Check, chV, ed, et, es, ev, hK, h1', h1I, pf_pure, pureF]
  generalize hS : ({ t := _, L := _, H := _, lim := _, rd := _ } : St) = S
  have key : ∃ r, exL Tryz.prog pf (.loop ck6Loop) S = some r ∧ r.2.H = H ∧ ((r.1 = .exit 0 ∧ ls.all (lgOk c) = true) ∨ (r.1 = .ret ∧ tget r.2.t 4 = .int .i64 60 ∧ ls.all (lgOk c) = false)) := by
    refine loop_rule (I := fun n s' => ∃ i, i ≤ ls.length ∧ n = ls.length - i ∧ tget s'.t 1 = .slice va ls.length vc ∧ tget s'.t 2 = .pointer (some ⟨2, 0, some 0⟩) ∧ tget s'.t 5 = .int .i64 i ∧ s'.L = S.L ∧ s'.H = H ∧ ∀ j (h : j < ls.length), j < i → lgOk c ls[j] = true) ?_ ls.length S
      ⟨0, by omega, by omega, by subst hS; simp [ev], by subst hS; simp, by subst hS; simp, rfl, by subst hS; rfl, by omega⟩
    rintro n s' ⟨i, hi, rfl, e1, e2, e5, eL, eH, et'⟩
    have hL : S.L = [(2, 0, .cells [.int .i64 c.w, .int .i64 c.h, .slice da c.depth.length dc, .slice ta c.tide.length tc, .slice sa c.swell.length sc])] := by subst hS; simp
    rw [hL] at eL
    by_cases hlt : i < ls.length
    · obtain ⟨b1, o1, ac1, ca, cc, e, c0, c1, c2, c3, c4, hsl⟩ := hv.sl.get hlt
      rw [ev] at e
      cases e
      have hps := fun lim => hLg ls[i] (.slice ca ls[i].cs.length cc) ⟨hsl, hv.cl _ (List.getElem_mem hlt)⟩ lim
      have hw : IntKind.i64.wrap ((i : Int) + 1) = (i : Int) + 1 := wrap_i64 (by omega) (by omega)
      have hltI : (i : Int) < ls.length := by omega
      generalize hq : ls[i] = q at *
      simp only [hcell, lgV] at c0 c1 c2 c3 c4 hps
      cases hx : lgOk c q with
      | true =>
        rw [hx] at hps
        simp [ck6Loop, SC.loops, sf_cobleref06_Check, e1, e2, e5, eL, eH, hlt, hltI, c0, c1, c2, c3, c4, hw, hps]
        exact ⟨_, by omega, i + 1, by omega, rfl, by omega, by rw [hL], fun j h hj => by
          by_cases e : j = i
          · subst e; rw [hq]; exact hx
          · exact et' j h (by omega)⟩
      | false =>
        rw [hx] at hps
        simp [ck6Loop, SC.loops, sf_cobleref06_Check, e1, e2, e5, eL, eH, hlt, hltI, c0, c1, c2, c3, c4, hw, hps]
        exact ⟨q, by rw [← hq]; exact List.getElem_mem hlt, hx⟩
    · have : i = ls.length := by omega
      subst this
      simp [ck6Loop, SC.loops, sf_cobleref06_Check, e1, e2, e5, eL, eH]
      intro x hx
      obtain ⟨j, h, e⟩ := List.mem_iff_getElem.1 hx
      rw [← e]; exact et' j h h
  obtain ⟨⟨e, s1⟩, hr, q2, q3⟩ := key
  simp [ck6Loop, SC.loops, sf_cobleref06_Check] at hr
  rw [hr]
  simp only at q2 q3
  rcases q3 with ⟨rfl, h⟩ | ⟨rfl, h4, h⟩
  · have h0 : legE6 c ls = 0 := by unfold legE6; rw [if_pos hok, if_pos ⟨h1, h⟩]
    simp [h0, q2]
  · have h0 : legE6 c ls = 60 := by unfold legE6; rw [if_pos hok, if_neg (by simp [h])]
    simp [h0, h4, q2]
end Go.Proofs.YthobfecblpnnnaaGreatDoor
