/- Contracts of the functions, in the abstract machine: neighbours. -/
import Derived.Test.YthobfecblpnnnaaGreatDoorChartA
set_option linter.all false
namespace Go.Proofs.YthobfecblpnnnaaGreatDoor
open Go Go.RowKit

def wayT : List (Int × Int × Int) := [(0, 1, 1), (1, 0, 1), (1, -1, 0), (0, -1, -1), (-1, -1, 0), (-1, 0, 1)]
def wayN (k : Nat) : Int := (wayT.getD k (0, 0, 0)).1
def wayE (k : Nat) : Int := (wayT.getD k (0, 0, 0)).2.1
def wayO (k : Nat) : Int := (wayT.getD k (0, 0, 0)).2.2

theorem ways_eq : waysV = wayT.flatMap fun (a, b, c) => [.int .i64 a, .int .i64 b, .int .i64 c] := by rfl

theorem ways_get : ∀ k : Nat, k < 6 → waysV[k * 3]? = some (.int .i64 (wayN k)) ∧ waysV[k * 3 + 1]? = some (.int .i64 (wayE k)) ∧ waysV[k * 3 + 2]? = some (.int .i64 (wayO k))
  | 0, _ => ⟨rfl, rfl, rfl⟩
  | 1, _ => ⟨rfl, rfl, rfl⟩
  | 2, _ => ⟨rfl, rfl, rfl⟩
  | 3, _ => ⟨rfl, rfl, rfl⟩
  | 4, _ => ⟨rfl, rfl, rfl⟩
  | 5, _ => ⟨rfl, rfl, rfl⟩
  | n + 6, h => by omega

theorem way_bounds : ∀ k : Nat, (-1 ≤ wayN k ∧ wayN k ≤ 1) ∧ (-1 ≤ wayE k ∧ wayE k ≤ 1) ∧ (-1 ≤ wayO k ∧ wayO k ≤ 1)
  | 0 => by decide
  | 1 => by decide
  | 2 => by decide
  | 3 => by decide
  | 4 => by decide
  | 5 => by decide
  | n + 6 => by simp [wayN, wayE, wayO, wayT]

/-- The row and the column of the neighbour of a cell in a direction. -/
def nxR (w i : Int) (k : Nat) : Int := i / w + wayN k
def nxC (w i : Int) (k : Nat) : Int := i % w + (if i / w % 2 = 0 then wayE k else wayO k)
def nxIn (w h i : Int) (k : Nat) : Bool := decide (0 ≤ nxR w i k) && decide (nxR w i k ≤ h - 1) && (decide (0 ≤ nxC w i k) && decide (nxC w i k ≤ w - 1))
def nxt (w h i : Int) (k : Nat) : Option Int := if nxIn w h i k = true then some (nxR w i k * w + nxC w i k) else none

theorem rowcol {w h i : Int} (hw : 1 ≤ w) (h0 : 0 ≤ i) (h1 : i < w * h) : (0 ≤ i / w ∧ i / w < h) ∧ (0 ≤ i % w ∧ i % w < w) ∧ i = i / w * w + i % w := by
  refine ⟨⟨Int.ediv_nonneg h0 (by omega), Int.ediv_lt_of_lt_mul (by omega) (by rw [Int.mul_comm]; exact h1)⟩, ⟨Int.emod_nonneg _ (by omega), Int.emod_lt_of_pos _ (by omega)⟩, ?_⟩
  have := Int.mul_ediv_add_emod i w
  rw [Int.mul_comm] at this
  exact this.symm

theorem nxt_some {w h i n : Int} {k : Nat} (hw : 1 ≤ w) (hh : 1 ≤ h) (e : nxt w h i k = some n) : 0 ≤ n ∧ n < w * h ∧ n / w = nxR w i k ∧ n % w = nxC w i k ∧ nxIn w h i k = true := by
  unfold nxt at e
  split at e
  · rename_i hin
    have hin' := hin
    simp only [nxIn, Bool.and_eq_true, decide_eq_true_eq] at hin
    obtain ⟨⟨r0, r1⟩, c0, c1⟩ := hin
    have en := Option.some.inj e
    have hm : nxR w i k * w ≤ (h - 1) * w := Int.mul_le_mul_of_nonneg_right r1 (by omega)
    have h0 : 0 ≤ nxR w i k * w := Int.mul_nonneg r0 (by omega)
    have e2 : (h - 1) * w = w * h - w := by rw [Int.sub_mul, Int.mul_comm h w, Int.one_mul]
    have e3 : n = nxC w i k + nxR w i k * w := by omega
    refine ⟨by omega, by omega, ?_, ?_, hin'⟩
    · rw [e3, Int.add_mul_ediv_right _ _ (by omega), Int.ediv_eq_zero_of_lt c0 (by omega), Int.zero_add]
    · rw [e3, Int.add_mul_emod_self_right, Int.emod_eq_of_lt c0 (by omega)]
  · cases e

theorem run_next (c : Ch) (hok : ChOk c) (lim : Nat) (H : AH) (hG : H[waysG]? = some (.ro waysV)) (d t s : Value) (hc : ChIn H c d t s) {i k : Nat} (hi : i < c.cells) (hk : k < 6) :
    apL Tryz.prog pf (.func (.func 120) #[] #[]) [chV c d t s, .int .i64 i, .int .i64 k] lim H = some (.tuple #[.int .i64 ((nxt c.w c.h i k).getD 0), .bool (nxt c.w c.h i k).isSome], H) := by
  rw [apL_func _ _ _ _ _ _ (by rfl), sf_chart_sea_next_eq]
  obtain ⟨m0, m1, m2⟩ := hok.mul
  obtain ⟨hw, hh, _⟩ := hok
  obtain ⟨⟨r0, r1⟩, ⟨q0, q1⟩, hiq⟩ := rowcol (h := c.h) hw.1 (Int.natCast_nonneg i) (by rw [m2]; exact Int.ofNat_lt.2 hi)
  obtain ⟨⟨n0, n1⟩, ⟨e0, e1⟩, o0, o1⟩ := way_bounds k
  obtain ⟨g0, g1, g2⟩ := ways_get k hk
  have hd : (i : Int).tdiv c.w = (i : Int) / c.w := Int.tdiv_eq_ediv_of_nonneg (Int.natCast_nonneg i)
  have hm : (i : Int).tmod c.w = (i : Int) % c.w := Int.tmod_eq_emod_of_nonneg (Int.natCast_nonneg i)
  have h2 : ((i : Int) / c.w).tmod 2 = (i : Int) / c.w % 2 := Int.tmod_eq_emod_of_nonneg r0
  have hw0 : c.w ≠ 0 := by omega
  have w1 : IntKind.i64.wrap ((i : Int) / c.w) = (i : Int) / c.w := wrap_i64 (by omega) (by omega)
  have w2 : IntKind.i64.wrap ((i : Int) / c.w + wayN k) = nxR c.w i k := wrap_i64 (by omega) (by omega)
  have w3 : IntKind.i64.wrap ((i : Int) % c.w + wayE k) = (i : Int) % c.w + wayE k := wrap_i64 (by omega) (by omega)
  have w4 : IntKind.i64.wrap ((i : Int) % c.w + wayO k) = (i : Int) % c.w + wayO k := wrap_i64 (by omega) (by omega)
  have w5 : IntKind.i64.wrap (c.h - 1) = c.h - 1 := wrap_i64 (by omega) (by omega)
  have w6 : IntKind.i64.wrap (c.w - 1) = c.w - 1 := wrap_i64 (by omega) (by omega)
  have hk6 : (k : Int) < 6 := by omega
  have hG0 : H[0]? = some (.ro waysV) := hG
  have hGa : ∀ l : AH, (H ++ l)[0]? = some (.ro waysV) := fun l => hG_ext l hG
  obtain ⟨⟨da, dc, ed, _⟩, ⟨ta, tc, et, _⟩, ⟨sa, sc, es, _⟩, _, _, _⟩ := hc
  have hrun := run_between
  have b1 := fun lim => ext_between H 0 (c.h - 1) (nxR c.w i k) lim
  have b2 : ∀ (l : AH) x lim, apL Tryz.prog pf (.func (.func 118) #[] #[.pointer (some ⟨(H ++ l).length, 0, none⟩), .pointer (some ⟨(H ++ l).length + 1, 0, none⟩)]) [.int .i64 x] lim (H ++ (l ++ [.rw 0 [.int .i64 0], .rw 0 [.int .i64 (c.w - 1)]])) = some (.bool (decide (0 ≤ x) && decide (x ≤ c.w - 1)), H ++ (l ++ [.rw 0 [.int .i64 0], .rw 0 [.int .i64 (c.w - 1)]])) := fun l x lim => by
    have := ext_between (H ++ l) 0 (c.w - 1) x lim
    simpa only [betweenV, List.append_assoc] using this
  have b2' := fun x lim => b2 [.rw 0 [.int .i64 0], .rw 0 [.int .i64 (c.h - 1)]] x lim
  simp only [betweenV] at hrun b1
  simp only [List.length_append, List.length_cons, List.length_nil, List.cons_append, List.nil_append] at b2'
  by_cases par : (i : Int) / c.w % 2 = 0
  · have pb : ((i : Int) / c.w % 2 == 0) = true := by simpa using par
    have eC : (i : Int) % c.w + wayE k = nxC c.w i k := by unfold nxC; rw [if_pos par]
    rw [eC] at w3
    by_cases a1 : 0 ≤ nxR c.w i k ∧ nxR c.w i k ≤ c.h - 1
    rotate_left
    · have a1b : (decide (0 ≤ nxR c.w i k) && decide (nxR c.w i k ≤ c.h - 1)) = false := by simpa using a1
      have hn : nxt c.w c.h i k = none := by unfold nxt nxIn; rw [a1b]; rfl
      simp [sf_chart_sea_next, chV, ed, et, es, hd, hm, h2, hw0, w1, w2, w3, w5, hk6, hG0, g0, g1, g2, pb, hrun, b1, a1b, hn, eC, pf_pure, pureF]
    by_cases a2 : 0 ≤ nxC c.w i k ∧ nxC c.w i k ≤ c.w - 1
    rotate_left
    · have a1b : (decide (0 ≤ nxR c.w i k) && decide (nxR c.w i k ≤ c.h - 1)) = true := by simpa using a1
      have a2b : (decide (0 ≤ nxC c.w i k) && decide (nxC c.w i k ≤ c.w - 1)) = false := by simpa using a2
      have hn : nxt c.w c.h i k = none := by unfold nxt nxIn; rw [a2b, a1b]; rfl
      simp [sf_chart_sea_next, chV, ed, et, es, hd, hm, h2, hw0, w1, w2, w3, w5, w6, hk6, hG0, g0, g1, g2, pb, hrun, b1, b2', a1b, a2b, hn, eC, pf_pure, pureF]
    have a1b : (decide (0 ≤ nxR c.w i k) && decide (nxR c.w i k ≤ c.h - 1)) = true := by simpa using a1
    have a2b : (decide (0 ≤ nxC c.w i k) && decide (nxC c.w i k ≤ c.w - 1)) = true := by simpa using a2
    have hn : nxt c.w c.h i k = some (nxR c.w i k * c.w + nxC c.w i k) := by unfold nxt nxIn; rw [a2b, a1b]; rfl
    obtain ⟨x0, x1, _⟩ := nxt_some hw.1 hh.1 hn
    have x2 : 0 ≤ nxR c.w i k * c.w := Int.mul_nonneg a1.1 (by omega)
    have w7 : IntKind.i64.wrap (nxR c.w i k * c.w) = nxR c.w i k * c.w := wrap_i64 (by omega) (by omega)
    have w8 : IntKind.i64.wrap (nxR c.w i k * c.w + nxC c.w i k) = nxR c.w i k * c.w + nxC c.w i k := wrap_i64 (by omega) (by omega)
    simp [sf_chart_sea_next, chV, ed, et, es, hd, hm, h2, hw0, w1, w2, w3, w5, w6, w7, w8, hk6, hG0, g0, g1, g2, pb, hrun, b1, b2', a1b, a2b, hn, eC, pf_pure, pureF]
  · have pb : ((i : Int) / c.w % 2 == 0) = false := by simpa using par
    have eC : (i : Int) % c.w + wayO k = nxC c.w i k := by unfold nxC; rw [if_neg par]
    rw [eC] at w4
    by_cases a1 : 0 ≤ nxR c.w i k ∧ nxR c.w i k ≤ c.h - 1
    rotate_left
    · have a1b : (decide (0 ≤ nxR c.w i k) && decide (nxR c.w i k ≤ c.h - 1)) = false := by simpa using a1
      have hn : nxt c.w c.h i k = none := by unfold nxt nxIn; rw [a1b]; rfl
      simp [sf_chart_sea_next, chV, ed, et, es, hd, hm, h2, hw0, w1, w2, w4, w5, hk6, hG0, g0, g1, g2, pb, hrun, b1, a1b, hn, eC, pf_pure, pureF]
    by_cases a2 : 0 ≤ nxC c.w i k ∧ nxC c.w i k ≤ c.w - 1
    rotate_left
    · have a1b : (decide (0 ≤ nxR c.w i k) && decide (nxR c.w i k ≤ c.h - 1)) = true := by simpa using a1
      have a2b : (decide (0 ≤ nxC c.w i k) && decide (nxC c.w i k ≤ c.w - 1)) = false := by simpa using a2
      have hn : nxt c.w c.h i k = none := by unfold nxt nxIn; rw [a2b, a1b]; rfl
      simp [sf_chart_sea_next, chV, ed, et, es, hd, hm, h2, hw0, w1, w2, w4, w5, w6, hk6, hG0, g0, g1, g2, pb, hrun, b1, b2', a1b, a2b, hn, eC, pf_pure, pureF]
    have a1b : (decide (0 ≤ nxR c.w i k) && decide (nxR c.w i k ≤ c.h - 1)) = true := by simpa using a1
    have a2b : (decide (0 ≤ nxC c.w i k) && decide (nxC c.w i k ≤ c.w - 1)) = true := by simpa using a2
    have hn : nxt c.w c.h i k = some (nxR c.w i k * c.w + nxC c.w i k) := by unfold nxt nxIn; rw [a2b, a1b]; rfl
    obtain ⟨x0, x1, _⟩ := nxt_some hw.1 hh.1 hn
    have x2 : 0 ≤ nxR c.w i k * c.w := Int.mul_nonneg a1.1 (by omega)
    have w7 : IntKind.i64.wrap (nxR c.w i k * c.w) = nxR c.w i k * c.w := wrap_i64 (by omega) (by omega)
    have w8 : IntKind.i64.wrap (nxR c.w i k * c.w + nxC c.w i k) = nxR c.w i k * c.w + nxC c.w i k := wrap_i64 (by omega) (by omega)
    simp [sf_chart_sea_next, chV, ed, et, es, hd, hm, h2, hw0, w1, w2, w4, w5, w6, w7, w8, hk6, hG0, g0, g1, g2, pb, hrun, b1, b2', a1b, a2b, hn, eC, pf_pure, pureF]
end Go.Proofs.YthobfecblpnnnaaGreatDoor
