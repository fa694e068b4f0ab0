/- Contracts of the functions, in the abstract machine: what a passage is. -/
import Derived.Test.YtojplagenejhdaaDoorMovA
import Derived.Test.YtojplagenejhdaaDoorMathD
import Derived.Test.YtojplagenejhdaaDoorFunY
set_option linter.all false
namespace Go.Proofs.YtojplagenejhdaaDoor
open Go Go.RowKit

theorem run_Sure (c : Ch) (hok : ChOk c) (lim : Nat) (H : AH) (d t s : Value) (hc : ChIn H c d t s) (g : Int) {i k : Nat} (hi : i < c.cells) (hk : k < c.ticks) :
    apL Tryd.prog pf (.func (.func 69) #[] #[]) [chV c d t s, .int .i64 g, .int .i64 i, .int .i64 k] lim H = some (.bool (c.sure g i k), H) := by
  rw [apL_func _ _ _ _ _ _ (by rfl), sf_cobleref01_Sure_eq]
  obtain ⟨⟨b1, b2⟩, ⟨b3, b4, b5⟩, b6, b7⟩ := hok.bounds hi hk
  have hO := fun lim => run_Over c hok lim H d t s hc hi hk (c.lo k) (by omega) (by omega)
  obtain ⟨bt, ot, kt, et, t1, t2⟩ := hc.td hk
  obtain ⟨⟨da, dc, ed, _⟩, _, ⟨sa, sc, es, _⟩, _, _, _⟩ := hc
  have hk' : k < c.tide.length := hk
  have hk2 : (k : Int) < c.tide.length := by omega
  simp only [hcell] at t1 t2
  simp only [chV, ed, et, es] at hO
  simp [sf_cobleref01_Sure, chV, ed, et, es, hk', hk2, t1, t2, hO, Ch.sure, pf_pure, pureF]

def besLoop : SC := sf_coblelaw01_beside.body.loops.headD .skip

theorem bes_loop (c : Ch) (hok : ChOk c) (H : AH) (d t s : Value) (hc : ChIn H c d t s) {a : Nat} (ha : a < c.cells) (b : Int) (S : St) (h1 : tget S.t 1 = .int .i64 a) (h2 : tget S.t 2 = .int .i64 b) (h3 : tget S.t 3 = .pointer (some ⟨3, 0, some 0⟩)) (h7 : tget S.t 7 = .int .i64 0) (hL : S.L = [(3, 0, .cells [.int .i64 c.w, .int .i64 c.h, d, t, s])]) (hH : S.H = H) :
    ∃ r, exL Tryd.prog pf (.loop besLoop) S = some r ∧ r.2.H = H ∧ ((r.1 = .exit 0 ∧ nearB c.w c.h a b 6 = false) ∨ (r.1 = .ret ∧ tget r.2.t 6 = .bool true ∧ nearB c.w c.h a b 6 = true)) := by
  have hw := hok.1.1
  have hh := hok.2.1.1
  have hB := fun {k} (hk : k < 6) lim => run_Beside c hok lim H d t s hc ha hk
  obtain ⟨⟨da, dc, ed, _⟩, ⟨ta, tc, et, _⟩, ⟨sa, sc, es, _⟩, _, _, _⟩ := hc
  simp only [chV, ed, et, es] at hB
  refine loop_rule (I := fun n s' => ∃ i, i ≤ 6 ∧ n = 6 - i ∧ tget s'.t 1 = .int .i64 a ∧ tget s'.t 2 = .int .i64 b ∧ tget s'.t 3 = .pointer (some ⟨3, 0, some 0⟩) ∧ nearB c.w c.h a b i = false ∧ tget s'.t 7 = .int .i64 i ∧ s'.L = S.L ∧ s'.H = H) ?_ 6 S ⟨0, by omega, by omega, h1, h2, h3, rfl, h7, rfl, hH⟩
  rintro n s' ⟨i, hi, rfl, e1, e2, e3, eN, e7, eL, eH⟩
  rw [hL] at eL
  rw [ed, et, es] at eL hL
  by_cases hlt : i < 6
  rotate_left
  · have : i = 6 := by omega
    subst this
    simp [besLoop, SC.loops, sf_coblelaw01_beside, e1, e2, e3, e7, eL, eH, eN]
  have hi6 : (i : Int) < 6 := by omega
  have hwr : IntKind.i64.wrap ((i : Int) + 1) = (i : Int) + 1 := wrap_i64 (by omega) (by omega)
  have hs := nearB_succ c.w c.h a b i
  have hB := fun lim => hB hlt lim
  have hmono : nearB c.w c.h a b (i + 1) = true → nearB c.w c.h a b 6 = true := fun h => by
    unfold nearB at h ⊢
    rw [List.any_eq_true] at h ⊢
    obtain ⟨x, hx, hy⟩ := h
    exact ⟨x, by rw [List.mem_range] at hx ⊢; omega, hy⟩
  cases hx : nxt c.w c.h a i with
  | none =>
    rw [hx] at hs
    have hs' : nearB c.w c.h a b (i + 1) = false := by rw [hs, eN]; simp
    simp [besLoop, SC.loops, sf_coblelaw01_beside, e1, e2, e3, e7, eL, eH, eN, hi6, hB, hx, hwr, hL]
    exact ⟨_, by omega, i + 1, by omega, rfl, hs', by omega⟩
  | some m =>
    rw [hx] at hs
    by_cases hm : m = b
    · have hs' : nearB c.w c.h a b (i + 1) = true := by rw [hs]; simp [hm]
      have hb : (m == b) = true := by simp [hm]
      simp [besLoop, SC.loops, sf_coblelaw01_beside, e1, e2, e3, e7, eL, eH, eN, hi6, hB, hx, hwr, hL, hb]
      exact hmono hs'
    · have hs' : nearB c.w c.h a b (i + 1) = false := by rw [hs, eN]; simp [hm]
      have hb : (m == b) = false := by simp [hm]
      simp [besLoop, SC.loops, sf_coblelaw01_beside, e1, e2, e3, e7, eL, eH, eN, hi6, hB, hx, hwr, hL, hb]
      exact ⟨_, by omega, i + 1, by omega, rfl, hs', by omega⟩

theorem run_beside (c : Ch) (hok : ChOk c) (lim : Nat) (H : AH) (d t s : Value) (hc : ChIn H c d t s) {a : Nat} (ha : a < c.cells) (b : Int) :
    apL Tryd.prog pf (.func (.func 76) #[] #[]) [chV c d t s, .int .i64 a, .int .i64 b] lim H = some (.bool (nearB c.w c.h a b 6), H) := by
  rw [apL_func _ _ _ _ _ _ (by rfl), sf_coblelaw01_beside_eq]
  obtain ⟨⟨da, dc, ed, _⟩, ⟨ta, tc, et, _⟩, ⟨sa, sc, es, _⟩, _, _, _⟩ := id hc
  simp [sf_coblelaw01_beside, chV, ed, et, es]
  generalize hS : ({ t := _, L := _, H := _, lim := _, rd := _ } : St) = S
  obtain ⟨⟨e, s1⟩, hr, qH, q⟩ := bes_loop c hok H d t s hc ha b S (by subst hS; simp) (by subst hS; simp) (by subst hS; simp) (by subst hS; simp) (by subst hS; simp [ed, et, es]) (by subst hS; rfl)
  simp [besLoop, SC.loops, sf_coblelaw01_beside] at hr
  rw [hr]
  simp only at q qH
  rcases q with ⟨rfl, q⟩ | ⟨rfl, q6, q⟩
  · simp [q, qH, pf_pure, pureF]
  · simp [q, q6, qH, pf_pure, pureF]

/-! ### moves -/

/-- How many of the first n steps are moves. -/
def movC (l : List Int) : Nat → Nat
  | 0 => 0
  | n + 1 => if l.getD (n + 1) 0 = l.getD n 0 then movC l n else movC l n + 1
theorem movC_le (l : List Int) : ∀ n, movC l n ≤ n
  | 0 => Nat.le_refl _
  | n + 1 => by have := movC_le l n; unfold movC; split <;> omega

def mvLoop : SC := sf_coblelaw01_moves.body.loops.headD .skip

theorem mv_loop (l : List Int) (hl : l.length < 1000) (hl1 : 0 < l.length) (H : AH) (v : Value) (hv : Sl H v l.length (ints l)) (S : St) (h0 : tget S.t 0 = v) (h3 : tget S.t 3 = .int .i64 0) (h4 : tget S.t 4 = .int .i64 1) (hH : S.H = H) :
    ∃ r, exL Tryd.prog pf (.loop mvLoop) S = some r ∧ r.2.H = H ∧ r.2.L = S.L ∧ r.1 = .exit 0 ∧ tget r.2.t 3 = .int .i64 (movC l (l.length - 1)) := by
  obtain ⟨va, vc, rfl, hv⟩ := hv
  refine loop_rule (I := fun n s' => ∃ i, i < l.length ∧ n = l.length - i ∧ tget s'.t 0 = .slice va l.length vc ∧ tget s'.t 3 = .int .i64 (movC l i) ∧ tget s'.t 4 = .int .i64 (i + 1 : Nat) ∧ s'.L = S.L ∧ s'.H = H) ?_ l.length S ⟨0, by omega, by omega, h0, h3, h4, rfl, hH⟩
  rintro n s' ⟨i, hi, rfl, e0, e3, e4, eL, eH⟩
  by_cases hlt : i + 1 < l.length
  rotate_left
  · have e : i = l.length - 1 := by omega
    have hlt' : ¬ ((i : Int) + 1 < l.length) := by omega
    simp [mvLoop, SC.loops, sf_coblelaw01_moves, e0, e3, e4, eL, eH, hlt']
    rw [← e]
  obtain ⟨b1, o1, rfl, c1⟩ := hv i (.int .i64 (l.getD i 0)) (ints_getE l i hi)
  obtain ⟨_, _, e, c2⟩ := hv (i + 1) (.int .i64 (l.getD (i + 1) 0)) (ints_getE l (i + 1) hlt)
  cases e
  have hb := movC_le l i
  have hw1 : IntKind.i64.wrap (((i + 1 : Nat) : Int) + 1) = ((i + 1 + 1 : Nat) : Int) := by rw [wrap_i64 (by omega) (by omega)]; omega
  have hw2 : IntKind.i64.wrap (((i + 1 : Nat) : Int) - 1) = (i : Int) := by rw [wrap_i64 (by omega) (by omega)]; omega
  have hw3 : IntKind.i64.wrap ((movC l i : Int) + 1) = ((movC l i + 1 : Nat) : Int) := by rw [wrap_i64 (by omega) (by omega)]; omega
  have hlt2 : ((i + 1 : Nat) : Int) < l.length := by omega
  have hlt3 : (i : Int) < l.length := by omega
  have hm : movC l (i + 1) = if l.getD (i + 1) 0 = l.getD i 0 then movC l i else movC l i + 1 := rfl
  simp only [hcell] at c1 c2
  generalize l.getD i 0 = X at *
  generalize l.getD (i + 1) 0 = Y at *
  by_cases hXY : Y = X
  · have hb : (Y != X) = false := by simp [hXY]
    rw [if_pos hXY] at hm
    simp [-Int.natCast_add, mvLoop, SC.loops, sf_coblelaw01_moves, e0, e3, e4, eL, eH, hlt, hlt2, hlt3, hi, hw1, hw2, c1, c2, hb]
    exact ⟨_, by omega, i + 1, hlt, rfl, by rw [hm], rfl⟩
  · have hb : (Y != X) = true := by simp [hXY]
    rw [if_neg hXY] at hm
    simp [-Int.natCast_add, mvLoop, SC.loops, sf_coblelaw01_moves, e0, e3, e4, eL, eH, hlt, hlt2, hlt3, hi, hw1, hw2, hw3, c1, c2, hb]
    exact ⟨_, by omega, i + 1, hlt, rfl, by rw [hm], rfl⟩

theorem run_moves (l : List Int) (hl : l.length < 1000) (hl1 : 0 < l.length) (lim : Nat) (H : AH) (v : Value) (hv : Sl H v l.length (ints l)) :
    apL Tryd.prog pf (.func (.func 45) #[] #[]) [v] lim H = some (.int .i64 (movC l (l.length - 1)), H) := by
  rw [apL_func _ _ _ _ _ _ (by rfl), sf_coblelaw01_moves_eq]
  obtain ⟨va, vc, ev, _⟩ := id hv
  simp [sf_coblelaw01_moves, ev]
  generalize hS : ({ t := _, L := _, H := _, lim := _, rd := _ } : St) = S
  obtain ⟨⟨e, s1⟩, hr, qH, qL, q1, q3⟩ := mv_loop l hl hl1 H v hv S (by subst hS; simp [ev]) (by subst hS; simp) (by subst hS; simp) (by subst hS; rfl)
  simp [mvLoop, SC.loops, sf_coblelaw01_moves] at hr
  rw [hr]
  simp only at q1 q3 qH
  subst q1
  simp [q3, qH, pf_pure, pureF]

/-! ### IsPassage -/

/-- The i-th cell of a passage is one in which a boat floats, and to which it can come from the one before. -/
def okAt (c : Ch) (g : Int) (k : Nat) (l : List Int) (i : Nat) : Bool :=
  inN c.cells (l.getD i 0) && c.sure g (l.getD i 0).toNat (k + i) && (decide (i = 0) || (l.getD i 0 == l.getD (i - 1) 0) || nearB c.w c.h (l.getD (i - 1) 0) (l.getD i 0) 6)
/-- Cells are a passage from a tick on. -/
def pasB (c : Ch) (g : Int) (k : Nat) (l : List Int) : Bool := decide (0 < l.length) && decide (k + l.length ≤ c.ticks) && (List.range l.length).all (okAt c g k l)

def ipLoop : SC := sf_coblelaw01_IsPassage.body.loops.headD .skip

set_option maxHeartbeats 1000000 in
theorem ip_loop (c : Ch) (hok : ChOk c) (H : AH) (d t s : Value) (hc : ChIn H c d t s) (g : Int) (k : Nat) (l : List Int) (hkl : k + l.length ≤ c.ticks) (v : Value) (hv : Sl H v l.length (ints l)) (S : St) (h1 : tget S.t 1 = .int .i64 g) (h2 : tget S.t 2 = .int .i64 k) (h3 : tget S.t 3 = v) (h4 : tget S.t 4 = .pointer (some ⟨4, 0, some 0⟩)) (h9 : tget S.t 9 = .int .i64 0) (hL : S.L = [(4, 0, .cells [.int .i64 c.w, .int .i64 c.h, d, t, s])]) (hH : S.H = H) :
    ∃ r, exL Tryd.prog pf (.loop ipLoop) S = some r ∧ r.2.H = H ∧ ((r.1 = .exit 0 ∧ (List.range l.length).all (okAt c g k l) = true) ∨ (r.1 = .ret ∧ tget r.2.t 8 = .bool false ∧ (List.range l.length).all (okAt c g k l) = false)) := by
  have hT : c.ticks ≤ 60 := hok.2.2.2.1.2
  have hI := fun x lim => run_IsCellOk c hok x lim H d t s hc
  have hS := fun {i k} (hi : i < c.cells) (hk : k < c.ticks) lim => run_Sure c hok lim H d t s hc g hi hk
  have hB := fun {a} (ha : a < c.cells) b lim => run_beside c hok lim H d t s hc ha b
  obtain ⟨⟨da, dc, ed, _⟩, ⟨ta, tc, et, _⟩, ⟨sa, sc, es, _⟩, _, _, _⟩ := hc
  simp only [chV, ed, et, es] at hI hS hB
  obtain ⟨va, vc, rfl, hv⟩ := hv
  have hno : ∀ i, i < l.length → okAt c g k l i = false → (List.range l.length).all (okAt c g k l) = false := fun i hi h => by
    rw [Bool.eq_false_iff]
    intro h'
    rw [List.all_eq_true] at h'
    rw [h' i (List.mem_range.2 hi)] at h
    cases h
  refine loop_rule (I := fun n s' => ∃ i, i ≤ l.length ∧ n = l.length - i ∧ tget s'.t 1 = .int .i64 g ∧ tget s'.t 2 = .int .i64 k ∧ tget s'.t 3 = .slice va l.length vc ∧ tget s'.t 4 = .pointer (some ⟨4, 0, some 0⟩) ∧ tget s'.t 9 = .int .i64 i ∧ s'.L = S.L ∧ s'.H = H ∧ ∀ m, m < i → okAt c g k l m = true) ?_ l.length S ⟨0, by omega, by omega, h1, h2, h3, h4, h9, rfl, hH, fun m hm => by omega⟩
  rintro n s' ⟨i, hi, rfl, e1, e2, e3, e4, e9, eL, eH, eO⟩
  rw [hL] at eL
  rw [ed, et, es] at eL hL
  by_cases hlt : i < l.length
  rotate_left
  · have : i = l.length := by omega
    subst this
    simp [ipLoop, SC.loops, sf_coblelaw01_IsPassage, e1, e2, e3, e4, e9, eL, eH]
    exact eO
  obtain ⟨b1, o1, rfl, c1⟩ := hv i (.int .i64 (l.getD i 0)) (ints_getE l i hlt)
  have hw1 : IntKind.i64.wrap ((i : Int) + 1) = (i : Int) + 1 := wrap_i64 (by omega) (by omega)
  have hw2 : IntKind.i64.wrap ((k : Int) + (i : Int)) = ((k + i : Nat) : Int) := by rw [wrap_i64 (by omega) (by omega)]; omega
  have hno := hno i hlt
  have hO : okAt c g k l i = (inN c.cells (l.getD i 0) && c.sure g (l.getD i 0).toNat (k + i) && (decide (i = 0) || (l.getD i 0 == l.getD (i - 1) 0) || nearB c.w c.h (l.getD (i - 1) 0) (l.getD i 0) 6)) := rfl
  have fin : ∀ (s2 : St), okAt c g k l i = true → tget s2.t 1 = .int .i64 g → True := fun _ _ _ => trivial
  simp only [hcell] at c1
  cases hin : inN c.cells (l.getD i 0)
  · rw [hin] at hO
    simp only [Bool.false_and] at hO
    generalize l.getD i 0 = X at *
    simp [ipLoop, SC.loops, sf_coblelaw01_IsPassage, e1, e2, e3, e4, e9, eL, eH, hlt, c1, hI, hin]
    have := hno hO
    simpa using this
  obtain ⟨x, hx, ex⟩ := inN_iff.1 hin
  have hS := fun lim => hS hx (show k + i < c.ticks by omega) lim
  rw [hin, ex, Int.toNat_natCast] at hO
  rw [ex] at c1
  have hIx := fun lim => hI (x : Int) lim
  rw [show inN c.cells (x : Int) = true from inN_iff.2 ⟨x, hx, rfl⟩] at hIx
  cases hs : c.sure g x (k + i)
  · rw [hs] at hO hS
    simp only [Bool.and_false, Bool.false_and] at hO
    simp [-Int.natCast_add, ipLoop, SC.loops, sf_coblelaw01_IsPassage, e1, e2, e3, e4, e9, eL, eH, hlt, c1, hIx, hw2, hS]
    have := hno hO
    simpa using this
  rw [hs] at hO hS
  simp only [Bool.and_true, Bool.true_and] at hO
  by_cases hi0 : i = 0
  · subst hi0
    simp only [decide_true, Bool.true_or] at hO
    simp only [Nat.add_zero] at hS c1
    have hw2 : IntKind.i64.wrap (k : Int) = k := wrap_i64 (by omega) (by omega)
    simp [-Int.natCast_add, ipLoop, SC.loops, sf_coblelaw01_IsPassage, e1, e2, e3, e4, e9, eL, eH, hlt, c1, hIx, hw1, hw2, hS, h1, h2, h3, h4, hL]
    refine ⟨_, by omega, 1, by omega, rfl, rfl, fun m hm => ?_⟩
    have e0 : m = 0 := by omega
    rw [e0]
    exact hO
  have hi1 : i - 1 < l.length := by omega
  obtain ⟨_, _, e, c2⟩ := hv (i - 1) (.int .i64 (l.getD (i - 1) 0)) (ints_getE l (i - 1) hi1)
  cases e
  have hw3 : IntKind.i64.wrap ((i : Int) - 1) = ((i - 1 : Nat) : Int) := by rw [wrap_i64 (by omega) (by omega)]; omega
  have hi1' : ((i - 1 : Nat) : Int) < l.length := by omega
  have hip : (0 : Int) < i := by omega
  have hip' : 0 < i := by omega
  have hpre := eO (i - 1) (by omega)
  unfold okAt at hpre
  simp only [Bool.and_eq_true] at hpre
  obtain ⟨y, hy, ey⟩ := inN_iff.1 hpre.1.1
  rw [ey] at c2 hO
  simp only [hi0, decide_false, Bool.false_or] at hO
  simp only [hcell] at c2
  have hB := fun lim => hB hy (x : Int) lim
  have hnx : okAt c g k l i = true → ∀ m, m < i + 1 → okAt c g k l m = true := fun h m hm => by
    by_cases e : m = i
    · subst e; exact h
    · exact eO m (by omega)
  by_cases hxy : (x : Int) = y
  · have hb : ((x : Int) != y) = false := by simp [hxy]
    have hO' : okAt c g k l i = true := by rw [hO]; simp [hxy]
    obtain rfl : x = y := by omega
    simp [-Int.natCast_add, ipLoop, SC.loops, sf_coblelaw01_IsPassage, e1, e2, e3, e4, e9, eL, eH, hlt, c1, c2, hIx, hw1, hw2, hw3, hS, hip, hip', hi1, hi1', hb, h1, h2, h3, h4, hL]
    exact ⟨_, by omega, i + 1, by omega, rfl, by omega, hnx hO'⟩
  · have hb : ((x : Int) != y) = true := by simp [hxy]
    have hb' : ((x : Int) == y) = false := by simp [hxy]
    have hxy' : ¬ x = y := by omega
    rw [hb', Bool.false_or] at hO
    cases hn : nearB c.w c.h y x 6
    · rw [hn] at hO hB
      simp [-Int.natCast_add, ipLoop, SC.loops, sf_coblelaw01_IsPassage, e1, e2, e3, e4, e9, eL, eH, hlt, c1, c2, hIx, hw1, hw2, hw3, hS, hip, hip', hi1, hi1', hb, hxy', hB]
      have := hno hO
      simpa using this
    · rw [hn] at hO hB
      simp [-Int.natCast_add, ipLoop, SC.loops, sf_coblelaw01_IsPassage, e1, e2, e3, e4, e9, eL, eH, hlt, c1, c2, hIx, hw1, hw2, hw3, hS, hip, hip', hi1, hi1', hb, hxy', hB, h1, h2, h3, h4, hL]
      exact ⟨_, by omega, i + 1, by omega, rfl, by omega, hnx hO⟩

theorem run_IsPassage (c : Ch) (hok : ChOk c) (lim : Nat) (H : AH) (d t s : Value) (hc : ChIn H c d t s) (g : Int) (k : Nat) (l : List Int) (hk : k ≤ 1000) (hl : l.length ≤ 1000) (v : Value) (hv : Sl H v l.length (ints l)) :
    apL Tryd.prog pf (.func (.func 41) #[] #[]) [chV c d t s, .int .i64 g, .int .i64 k, v] lim H = some (.bool (pasB c g k l), H) := by
  rw [apL_func _ _ _ _ _ _ (by rfl), sf_coblelaw01_IsPassage_eq]
  obtain ⟨⟨da, dc, ed, _⟩, ⟨ta, tc, et, _⟩, ⟨sa, sc, es, _⟩, _, _, _⟩ := id hc
  obtain ⟨va, vc, ev, _⟩ := id hv
  have hw2 : IntKind.i64.wrap ((k : Int) + (l.length : Int)) = ((k + l.length : Nat) : Int) := by rw [wrap_i64 (by omega) (by omega)]; omega
  have hk0 : ¬ (k : Int) < 0 := by omega
  by_cases h0 : l.length = 0
  · have hp : pasB c g k l = false := by unfold pasB; simp [h0]
    simp [sf_coblelaw01_IsPassage, chV, ed, et, es, ev, h0, hp, hk0, pf_pure, pureF]
  have h0' : ¬ (l.length : Int) = 0 := by omega
  have h0b : ((l.length : Int) == 0) = false := by rw [beq_eq_false_iff_ne]; omega
  by_cases hkl : k + l.length ≤ c.ticks
  rotate_left
  · have hkl' : (c.tide.length : Int) < ((k + l.length : Nat) : Int) := by unfold Ch.ticks at hkl; omega
    have hp : pasB c g k l = false := by unfold pasB; simp [hkl]
    simp [-Int.natCast_add, sf_coblelaw01_IsPassage, chV, ed, et, es, ev, h0b, hp, hk0, hw2, hkl', pf_pure, pureF]
  have hkl' : ¬ (c.tide.length : Int) < ((k + l.length : Nat) : Int) := by unfold Ch.ticks at hkl; omega
  simp [-Int.natCast_add, sf_coblelaw01_IsPassage, chV, ed, et, es, ev, h0b, hk0, hw2, hkl']
  generalize hS : ({ t := _, L := _, H := _, lim := _, rd := _ } : St) = S
  obtain ⟨⟨e, s1⟩, hr, qH, q⟩ := ip_loop c hok H d t s hc g k l hkl v hv S (by subst hS; simp) (by subst hS; simp) (by subst hS; simp [ev]) (by subst hS; simp) (by subst hS; simp) (by subst hS; simp [ed, et, es]) (by subst hS; rfl)
  simp [ipLoop, SC.loops, sf_coblelaw01_IsPassage] at hr
  rw [hr]
  simp only at q qH
  have hp : pasB c g k l = (List.range l.length).all (okAt c g k l) := by unfold pasB; simp [hkl, Nat.pos_of_ne_zero h0]
  rcases q with ⟨rfl, q⟩ | ⟨rfl, q6, q⟩
  · rw [hp, q]; simp [qH, pf_pure, pureF]
  · rw [hp, q]; simp [q6, qH, pf_pure, pureF]
end Go.Proofs.YtojplagenejhdaaDoor
