/- Contracts of the functions, in the abstract machine: Next, Apart. -/
import Derived.Test.YthobfecblpnnnaaGreatDoorFunL
set_option linter.all false
namespace Go.Proofs.YthobfecblpnnnaaGreatDoor
open Go Go.RowKit

noncomputable def nextE (c : Ch) (a b : Int) : Int := if openE c [a] [] = 0 then (if 0 ≤ b ∧ b ≤ 5 then (if (nxt c.w c.h a b.toNat).isSome then 0 else 3) else 1) else openE c [a] []
noncomputable def nextN (c : Ch) (a b : Int) : Int := if openE c [a] [] = 0 ∧ 0 ≤ b ∧ b ≤ 5 then (nxt c.w c.h a b.toNat).getD 0 else 0

theorem run_Next (c : Ch) (lim : Nat) (H : AH) (hG : H[waysG]? = some (.ro waysV)) (d t s : Value) (hc : ChIn H c d t s) (a b : Int) :
    apL Tryz.prog pf (.func (.func 99) #[] #[]) [chV c d t s, .int .i64 a, .int .i64 b] lim H = some (.tuple #[.int .i64 (nextN c a b), .int .i64 (nextE c a b)], H) := by
  rw [apL_func _ _ _ _ _ _ (by rfl), sf_chart_Next_eq]
  have hc2 : ChIn (H ++ [.rw 1 (ints [a])]) c d t s := hc.ext (Ext.push H _)
  have hc3 : ChIn (H ++ [.rw 1 (ints [a]), .rw 0 [.int .i64 0], .rw 0 [.int .i64 5]]) c d t s := hc.ext (Ext.push H _)
  have ho := fun lim => run_open c lim _ d t s hc2 [a] [] (.slice (some ⟨H.length, 0, none⟩) 1 1) (.slice none 0 0) (Sl.made (by simp) rfl) Sl.nil (by simp) (by simp)
  have hrun := run_between
  have b1 := fun lim => ext_between (H ++ [.rw 1 (ints [a])]) 0 5 b lim
  simp only [betweenV, List.append_assoc, List.length_append, List.length_cons, List.length_nil, List.cons_append, List.nil_append] at hrun b1
  by_cases h0 : openE c [a] [] = 0
  rotate_left
  · have h1 : (openE c [a] [] != 0) = true := by simpa using h0
    obtain ⟨⟨da, dc, ed, _⟩, ⟨ta, tc, et, _⟩, ⟨sa, sc, es, _⟩, _, _, _⟩ := hc
    simp only [h0, if_false, chV, ed, et, es, ints, List.map, noCh] at ho
    simp [sf_chart_Next, chV, ed, et, es, ho, h0, h1, nextE, nextN, pf_pure, pureF]
  obtain ⟨hok, h1, _⟩ := openE_zero h0
  simp only [List.all_cons, List.all_nil, Bool.and_true, inN_iff] at h1
  obtain ⟨i, hi, rfl⟩ := h1
  by_cases hb : 0 ≤ b ∧ b ≤ 5
  rotate_left
  · have hbb : (decide (0 ≤ b) && decide (b ≤ 5)) = false := by simpa using hb
    obtain ⟨⟨da, dc, ed, _⟩, ⟨ta, tc, et, _⟩, ⟨sa, sc, es, _⟩, _, _, _⟩ := hc
    simp only [h0, if_true, chV, ed, et, es, ints, List.map] at ho b1
    simp [sf_chart_Next, chV, ed, et, es, ho, h0, hrun, b1, hb, hbb, nextE, nextN, pf_pure, pureF]
  have hbb : (decide (0 ≤ b) && decide (b ≤ 5)) = true := by simpa using hb
  obtain ⟨k, rfl⟩ : ∃ k : Nat, b = k := ⟨b.toNat, by omega⟩
  have hn := fun lim => run_next c hok lim _ (hG_ext _ hG) d t s hc3 hi (k := k) (by omega)
  obtain ⟨⟨da, dc, ed, _⟩, ⟨ta, tc, et, _⟩, ⟨sa, sc, es, _⟩, _, _, _⟩ := hc
  simp only [h0, if_true, chV, ed, et, es, ints, List.map] at ho b1 hn
  cases hx : nxt c.w c.h i k with
  | none =>
    simp only [hx] at hn
    simp [sf_chart_Next, chV, ed, et, es, ho, h0, hrun, b1, hb, hbb, hn, hx, nextE, nextN, pf_pure, pureF]
  | some n =>
    simp only [hx] at hn
    simp [sf_chart_Next, chV, ed, et, es, ho, h0, hrun, b1, hb, hbb, hn, hx, nextE, nextN, pf_pure, pureF]

def dst (a b : Int) : Int := max (a - b) (b - a)

theorem run_dst (a b : Int) (h : -1000000 ≤ a - b ∧ a - b ≤ 1000000) (lim : Nat) (H : AH) : apL Tryz.prog pf (.func (.func 87) #[] #[]) [.int .i64 a, .int .i64 b] lim H = some (.int .i64 (dst a b), H) := by
  rw [run_distance, wrap_i64 (by omega) (by omega), wrap_i64 (by omega) (by omega)]
  unfold dst
  rw [Int.max_def]
  congr 3
  split <;> split <;> omega

def estN (w i : Int) : Int := i % w * 2 + i / w % 2

theorem run_est (c : Ch) (hok : ChOk c) (lim : Nat) (H : AH) (d t s : Value) (hc : ChIn H c d t s) {i : Nat} (hi : i < c.cells) : apL Tryz.prog pf (.func (.func 88) #[] #[]) [chV c d t s, .int .i64 i] lim H = some (.int .i64 (estN c.w i), H) := by
  obtain ⟨m0, m1, m2⟩ := hok.mul
  obtain ⟨hw, hh, _⟩ := hok
  obtain ⟨⟨r0, r1⟩, ⟨q0, q1⟩, hiq⟩ := rowcol (h := c.h) hw.1 (Int.natCast_nonneg i) (by rw [m2]; exact Int.ofNat_lt.2 hi)
  have := run_east i c.w (by omega) [.int .i64 c.h, d, t, s] lim H
  rw [chV]
  rw [this]
  rw [Int.tdiv_eq_ediv_of_nonneg (Int.natCast_nonneg i), Int.tmod_eq_emod_of_nonneg (Int.natCast_nonneg i), wrap_i64 (n := (i : Int) / c.w) (by omega) (by omega), Int.tmod_eq_emod_of_nonneg r0, wrap_i64 (n := (i : Int) % c.w * 2) (by omega) (by omega), wrap_i64 (by omega) (by omega)]
  rfl

/-- How many steps it is from a cell to another one. -/
def apt (w a b : Int) : Int := dst (a / w) (b / w) + max 0 (dst (estN w a) (estN w b) - dst (a / w) (b / w)) / 2

theorem run_apart (c : Ch) (hok : ChOk c) (lim : Nat) (H : AH) (d t s : Value) (hc : ChIn H c d t s) {i k : Nat} (hi : i < c.cells) (hk : k < c.cells) :
    apL Tryz.prog pf (.func (.func 50) #[] #[]) [chV c d t s, .int .i64 i, .int .i64 k] lim H = some (.int .i64 (apt c.w i k), H) := by
  rw [apL_func _ _ _ _ _ _ (by rfl), sf_chart_sea_apart_eq]
  have e1 := fun lim => run_est c hok lim H d t s hc hi
  have e2 := fun lim => run_est c hok lim H d t s hc hk
  obtain ⟨m0, m1, m2⟩ := hok.mul
  obtain ⟨hw, hh, _⟩ := hok
  obtain ⟨⟨r0, r1⟩, ⟨q0, q1⟩, hiq⟩ := rowcol (h := c.h) hw.1 (Int.natCast_nonneg i) (by rw [m2]; exact Int.ofNat_lt.2 hi)
  obtain ⟨⟨r0', r1'⟩, ⟨q0', q1'⟩, hiq'⟩ := rowcol (h := c.h) hw.1 (Int.natCast_nonneg k) (by rw [m2]; exact Int.ofNat_lt.2 hk)
  have d1 := run_dst ((i : Int) / c.w) ((k : Int) / c.w) (by omega)
  have ee1 : 0 ≤ estN c.w i ∧ estN c.w i ≤ 1000 := by unfold estN; omega
  have ee2 : 0 ≤ estN c.w k ∧ estN c.w k ≤ 1000 := by unfold estN; omega
  have d2 := run_dst (estN c.w i) (estN c.w k) (by omega)
  have hw0 : c.w ≠ 0 := by omega
  have hd : (i : Int).tdiv c.w = (i : Int) / c.w := Int.tdiv_eq_ediv_of_nonneg (Int.natCast_nonneg i)
  have hd' : (k : Int).tdiv c.w = (k : Int) / c.w := Int.tdiv_eq_ediv_of_nonneg (Int.natCast_nonneg k)
  have w1 : IntKind.i64.wrap ((i : Int) / c.w) = (i : Int) / c.w := wrap_i64 (by omega) (by omega)
  have w1' : IntKind.i64.wrap ((k : Int) / c.w) = (k : Int) / c.w := wrap_i64 (by omega) (by omega)
  have B1 : 0 ≤ dst ((i : Int) / c.w) ((k : Int) / c.w) ∧ dst ((i : Int) / c.w) ((k : Int) / c.w) ≤ 1000 := by unfold dst; omega
  have B2 : 0 ≤ dst (estN c.w i) (estN c.w k) ∧ dst (estN c.w i) (estN c.w k) ≤ 1000 := by unfold dst; omega
  have w2 : IntKind.i64.wrap (dst (estN c.w i) (estN c.w k) - dst ((i : Int) / c.w) ((k : Int) / c.w)) = dst (estN c.w i) (estN c.w k) - dst ((i : Int) / c.w) ((k : Int) / c.w) := wrap_i64 (by omega) (by omega)
  have hmax : (if dst (estN c.w i) (estN c.w k) - dst ((i : Int) / c.w) ((k : Int) / c.w) > 0 then dst (estN c.w i) (estN c.w k) - dst ((i : Int) / c.w) ((k : Int) / c.w) else 0) = max 0 (dst (estN c.w i) (estN c.w k) - dst ((i : Int) / c.w) ((k : Int) / c.w)) := by
    rw [Int.max_def]; split <;> split <;> omega
  have hm0 : 0 ≤ max 0 (dst (estN c.w i) (estN c.w k) - dst ((i : Int) / c.w) ((k : Int) / c.w)) := Int.le_max_left _ _
  have hm1 : max 0 (dst (estN c.w i) (estN c.w k) - dst ((i : Int) / c.w) ((k : Int) / c.w)) ≤ 1000 := by omega
  have ht : (max 0 (dst (estN c.w i) (estN c.w k) - dst ((i : Int) / c.w) ((k : Int) / c.w))).tdiv 2 = max 0 (dst (estN c.w i) (estN c.w k) - dst ((i : Int) / c.w) ((k : Int) / c.w)) / 2 := Int.tdiv_eq_ediv_of_nonneg hm0
  have w3 : IntKind.i64.wrap (max 0 (dst (estN c.w i) (estN c.w k) - dst ((i : Int) / c.w) ((k : Int) / c.w)) / 2) = max 0 (dst (estN c.w i) (estN c.w k) - dst ((i : Int) / c.w) ((k : Int) / c.w)) / 2 := wrap_i64 (by omega) (by omega)
  have w4 : IntKind.i64.wrap (apt c.w i k) = apt c.w i k := by
    have : 0 ≤ apt c.w i k ∧ apt c.w i k ≤ 10000 := by unfold apt; omega
    exact wrap_i64 (by omega) (by omega)
  obtain ⟨⟨da, dc, ed, _⟩, ⟨ta, tc, et, _⟩, ⟨sa, sc, es, _⟩, _, _, _⟩ := hc
  simp only [chV, ed, et, es] at e1 e2
  unfold apt at w4 ⊢
  generalize hD1 : dst ((i : Int) / c.w) ((k : Int) / c.w) = D1 at *
  generalize hD2 : dst (estN c.w i) (estN c.w k) = D2 at *
  simp [-Int.sub_pos, -gt_iff_lt, sf_chart_sea_apart, chV, ed, et, es, hw0, hd, hd', w1, w1', d1, e1, e2, d2, w2, hmax, ht, w3, w4, pf_pure, pureF]

noncomputable def apartN (c : Ch) (a b : Int) : Int := if openE c [a, b] [] = 0 then apt c.w a b else 0

theorem run_Apart (c : Ch) (lim : Nat) (H : AH) (d t s : Value) (hc : ChIn H c d t s) (a b : Int) :
    apL Tryz.prog pf (.func (.func 22) #[] #[]) [chV c d t s, .int .i64 a, .int .i64 b] lim H = some (.tuple #[.int .i64 (apartN c a b), .int .i64 (openE c [a, b] [])], H) := by
  rw [apL_func _ _ _ _ _ _ (by rfl), sf_chart_Apart_eq]
  have hc2 : ChIn (H ++ [.rw 1 (ints [a, b])]) c d t s := hc.ext (Ext.push H _)
  have ho := fun lim => run_open c lim _ d t s hc2 [a, b] [] (.slice (some ⟨H.length, 0, none⟩) 2 2) (.slice none 0 0) (Sl.made (by simp) rfl) Sl.nil (by simp) (by simp)
  by_cases h0 : openE c [a, b] [] = 0
  rotate_left
  · have h1 : (openE c [a, b] [] != 0) = true := by simpa using h0
    obtain ⟨⟨da, dc, ed, _⟩, ⟨ta, tc, et, _⟩, ⟨sa, sc, es, _⟩, _, _, _⟩ := hc
    simp only [h0, if_false, chV, ed, et, es, ints, List.map, noCh] at ho
    simp [sf_chart_Apart, chV, ed, et, es, ho, h0, h1, apartN, pf_pure, pureF]
  obtain ⟨hok, h1, _⟩ := openE_zero h0
  simp only [List.all_cons, List.all_nil, Bool.and_true, Bool.and_eq_true, inN_iff] at h1
  obtain ⟨⟨i, hi, rfl⟩, k, hk, rfl⟩ := h1
  have hn := fun lim => run_apart c hok lim _ d t s hc2 hi hk
  obtain ⟨⟨da, dc, ed, _⟩, ⟨ta, tc, et, _⟩, ⟨sa, sc, es, _⟩, _, _, _⟩ := hc
  simp only [h0, if_true, chV, ed, et, es, ints, List.map] at ho hn
  simp [sf_chart_Apart, chV, ed, et, es, ho, h0, hn, apartN, pf_pure, pureF]
end Go.Proofs.YthobfecblpnnnaaGreatDoor
