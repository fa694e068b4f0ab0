/- Contracts of the functions, in the abstract machine: the law ChartBack. -/
import Derived.Test.YtojplagenejhdaaDoorMathA
set_option linter.all false
namespace Go.Proofs.YtojplagenejhdaaDoor
open Go Go.RowKit

def backLoop : SC := sf_coblelaw01_ChartBack.body.loops.headD .skip

theorem nextE_ok {c : Ch} (hok : ChOk c) {i : Nat} (hi : i < c.cells) {k : Nat} (hk : k < 6) : nextE c i k = (if (nxt c.w c.h i k).isSome then 0 else 3) ∧ nextN c i k = (nxt c.w c.h i k).getD 0 := by
  have h0 : openE c [(i : Int)] [] = 0 := by
    rw [openE_eq hok]
    have : inN c.cells (i : Int) = true := inN_iff.2 ⟨i, hi, rfl⟩
    simp [this]
  have hk' : 0 ≤ (k : Int) ∧ (k : Int) ≤ 5 := by omega
  unfold nextE nextN
  have h3 : openE c [(i : Int)] [] = 0 ∧ 0 ≤ (k : Int) ∧ (k : Int) ≤ 5 := ⟨h0, hk'⟩
  rw [if_pos h0, if_pos hk', if_pos h3, Int.toNat_natCast]
  exact ⟨rfl, rfl⟩

theorem back_loop (c : Ch) (hok : ChOk c) (H : AH) (hG : H[waysG]? = some (.ro waysV)) (d t s : Value) (hc : ChIn H c d t s) {a b : Nat} (ha : a < c.cells) (S : St) (h1 : tget S.t 1 = .int .i64 a) (h2 : tget S.t 2 = .int .i64 b) (h4 : tget S.t 4 = .pointer (some ⟨4, 0, some 0⟩)) (h9 : tget S.t 9 = .bool false) (h10 : tget S.t 10 = .int .i64 0) (hL : S.L = [(4, 0, .cells [.int .i64 c.w, .int .i64 c.h, d, t, s])]) (hH : S.H = H) :
    ∃ r, exL Tryd.prog pf (.loop backLoop) S = some r ∧ (r.1 = .exit 0 ∧ tget r.2.t 9 = .bool (nearB c.w c.h a b 6) ∧ tget r.2.t 1 = tget S.t 1 ∧ tget r.2.t 2 = tget S.t 2 ∧ tget r.2.t 3 = tget S.t 3 ∧ tget r.2.t 4 = tget S.t 4 ∧ r.2.L = S.L ∧ r.2.H = H) := by
  have hw := hok.1.1
  have hh := hok.2.1.1
  obtain ⟨_, _, m2⟩ := hok.mul
  have hN := fun x y lim => run_Next c lim H hG d t s hc x y
  have hc' := hc
  obtain ⟨⟨da, dc, ed, _⟩, ⟨ta, tc, et, _⟩, ⟨sa, sc, es, _⟩, _, _, _⟩ := hc'
  refine loop_rule (I := fun n s' => ∃ i, i ≤ 6 ∧ n = 6 - i ∧ tget s'.t 1 = .int .i64 a ∧ tget s'.t 2 = .int .i64 b ∧ tget s'.t 3 = tget S.t 3 ∧ tget s'.t 4 = .pointer (some ⟨4, 0, some 0⟩) ∧ tget s'.t 9 = .bool (nearB c.w c.h a b i) ∧ tget s'.t 10 = .int .i64 i ∧ s'.L = S.L ∧ s'.H = H) ?_ 6 S ⟨0, by omega, by omega, h1, h2, rfl, h4, h9, h10, rfl, hH⟩
  rintro n s' ⟨i, hi, rfl, e1, e2, e3, e4, e9, e10, eL, eH⟩
  rw [hL] at eL
  simp only [chV] at hN
  rw [ed, et, es] at hN eL hL
  by_cases hlt : i < 6
  · have hi6 : (i : Int) < 6 := by omega
    have hwr : IntKind.i64.wrap ((i : Int) + 1) = (i : Int) + 1 := wrap_i64 (by omega) (by omega)
    obtain ⟨f1, f2⟩ := nextE_ok hok ha hlt
    have hs := nearB_succ c.w c.h a b i
    cases hx : nxt c.w c.h a i with
    | none =>
      rw [hx] at f1 f2 hs
      simp only [Option.isSome_none, Bool.false_eq_true, if_false] at f1
      have hs' : nearB c.w c.h a b (i + 1) = nearB c.w c.h a b i := by rw [hs]; simp
      simp [backLoop, SC.loops, sf_coblelaw01_ChartBack, e1, e2, e3, e4, e9, e10, eL, eH, hi6, hN, f1, f2, hwr, h1, h2, h4, hL]
      exact ⟨_, by omega, i + 1, by omega, rfl, by rw [hs'], by omega⟩
    | some m =>
      rw [hx] at f1 f2 hs
      simp only [Option.isSome_some, if_true, Option.getD_some] at f1 f2
      obtain ⟨m0, m1, _⟩ := nxt_some hw hh hx
      obtain ⟨k, rfl⟩ : ∃ k : Nat, m = k := ⟨m.toNat, by omega⟩
      have hk : k < c.cells := by rw [m2] at m1; exact Int.ofNat_lt.1 m1
      have hb := nxt_back hw hh (Int.natCast_nonneg a) (by rw [m2]; exact Int.ofNat_lt.2 ha) hlt hx
      have h6 : (i + 3) % 6 < 6 := Nat.mod_lt _ (by omega)
      obtain ⟨g1, g2⟩ := nextE_ok hok hk h6
      rw [hb] at g1 g2
      simp only [Option.isSome_some, if_true, Option.getD_some] at g1 g2
      have hw3 : IntKind.i64.wrap ((i : Int) + 3) = ((i + 3 : Nat) : Int) := by rw [wrap_i64 (by omega) (by omega)]; omega
      have hm6 : ((i + 3 : Nat) : Int).tmod 6 = (((i + 3) % 6 : Nat) : Int) := by rw [Int.tmod_eq_emod_of_nonneg (by omega)]; omega
      by_cases hkb : (k : Int) = b
      · obtain rfl : k = b := by omega
        have hs' : nearB c.w c.h a k (i + 1) = true := by rw [hs]; simp
        cases hnb : nearB c.w c.h a k i
        · simp [backLoop, SC.loops, sf_coblelaw01_ChartBack, e1, e2, e3, e4, e9, e10, eL, eH, hi6, hN, f1, f2, hw3, hm6, g1, g2, hwr, h1, h2, h4, hL, hnb, -Int.natCast_add, -Int.natCast_emod]
          exact ⟨_, by omega, i + 1, by omega, rfl, by rw [hs'], by omega⟩
        · simp [backLoop, SC.loops, sf_coblelaw01_ChartBack, e1, e2, e3, e4, e9, e10, eL, eH, hi6, hN, f1, f2, hw3, hm6, g1, g2, hwr, h1, h2, h4, hL, hnb, -Int.natCast_add, -Int.natCast_emod]
          exact ⟨_, by omega, i + 1, by omega, rfl, by rw [hs'], by omega⟩
      · have hkb' : ((k : Int) == b) = false := by simpa using hkb
        have hs' : nearB c.w c.h a b (i + 1) = nearB c.w c.h a b i := by rw [hs]; simp [hkb]
        cases hnb : nearB c.w c.h a b i
        · simp [backLoop, SC.loops, sf_coblelaw01_ChartBack, e1, e2, e3, e4, e9, e10, eL, eH, hi6, hN, f1, f2, hw3, hm6, g1, g2, hwr, h1, h2, h4, hL, hkb', hnb, -Int.natCast_add, -Int.natCast_emod]
          exact ⟨_, by omega, i + 1, by omega, rfl, by rw [hs', hnb], by omega⟩
        · simp [backLoop, SC.loops, sf_coblelaw01_ChartBack, e1, e2, e3, e4, e9, e10, eL, eH, hi6, hN, f1, f2, hw3, hm6, g1, g2, hwr, h1, h2, h4, hL, hkb', hnb, -Int.natCast_add, -Int.natCast_emod]
          exact ⟨_, by omega, i + 1, by omega, rfl, by rw [hs', hnb], by omega⟩
  · have : i = 6 := by omega
    subst this
    simp [backLoop, SC.loops, sf_coblelaw01_ChartBack, e1, e2, e3, e4, e9, e10, eL, eH, h1, h2, h4, hL]
end Go.Proofs.YtojplagenejhdaaDoor
