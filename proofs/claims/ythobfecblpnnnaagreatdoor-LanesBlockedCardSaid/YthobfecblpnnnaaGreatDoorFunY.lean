/- Contracts of the functions, in the abstract machine: the reference's neighbours and steps. -/
import Derived.Test.YthobfecblpnnnaaGreatDoorMathB
import Derived.Test.YthobfecblpnnnaaGreatDoorFunO
set_option linter.all false
namespace Go.Proofs.YthobfecblpnnnaaGreatDoor
open Go Go.RowKit

theorem tab_get : ∀ k : Nat, k < 6 → ([Value.int .i64 0, .int .i64 1, .int .i64 1, .int .i64 0, .int .i64 (-1), .int .i64 (-1)] : List Value)[k]? = some (.int .i64 (wayN k)) ∧
    ([Value.int .i64 1, .int .i64 0, .int .i64 (-1), .int .i64 (-1), .int .i64 (-1), .int .i64 0] : List Value)[k]? = some (.int .i64 (wayE k)) ∧
    ([Value.int .i64 1, .int .i64 1, .int .i64 0, .int .i64 (-1), .int .i64 0, .int .i64 1] : List Value)[k]? = some (.int .i64 (wayO k))
  | 0, _ => ⟨rfl, rfl, rfl⟩
  | 1, _ => ⟨rfl, rfl, rfl⟩
  | 2, _ => ⟨rfl, rfl, rfl⟩
  | 3, _ => ⟨rfl, rfl, rfl⟩
  | 4, _ => ⟨rfl, rfl, rfl⟩
  | 5, _ => ⟨rfl, rfl, rfl⟩
  | n + 6, h => by omega

theorem run_Beside (c : Ch) (hok : ChOk c) (lim : Nat) (H : AH) (d t s : Value) (hc : ChIn H c d t s) {i k : Nat} (hi : i < c.cells) (hk : k < 6) :
    apL Tryz.prog pf (.func (.func 110) #[] #[]) [chV c d t s, .int .i64 i, .int .i64 k] lim H = some (.tuple #[.int .i64 ((nxt c.w c.h i k).getD 0), .bool (nxt c.w c.h i k).isSome], H) := by
  rw [apL_func _ _ _ _ _ _ (by rfl), sf_cobleref01_Beside_eq]
  obtain ⟨m0, m1, m2⟩ := hok.mul
  obtain ⟨hw, hh, _⟩ := hok
  obtain ⟨⟨r0, r1⟩, ⟨q0, q1⟩, hiq⟩ := rowcol (h := c.h) hw.1 (Int.natCast_nonneg i) (by rw [m2]; exact Int.ofNat_lt.2 hi)
  obtain ⟨⟨n0, n1⟩, ⟨e0, e1⟩, o0, o1⟩ := way_bounds k
  obtain ⟨g0, g1, g2⟩ := tab_get k hk
  have hd : (i : Int).tdiv c.w = (i : Int) / c.w := Int.tdiv_eq_ediv_of_nonneg (Int.natCast_nonneg i)
  have hm : (i : Int).tmod c.w = (i : Int) % c.w := Int.tmod_eq_emod_of_nonneg (Int.natCast_nonneg i)
  have h2 : ((i : Int) / c.w).tmod 2 = (i : Int) / c.w % 2 := Int.tmod_eq_emod_of_nonneg r0
  have hw0 : c.w ≠ 0 := by omega
  have w1 : IntKind.i64.wrap ((i : Int) / c.w) = (i : Int) / c.w := wrap_i64 (by omega) (by omega)
  have w2 : IntKind.i64.wrap ((i : Int) / c.w + wayN k) = nxR c.w i k := wrap_i64 (by omega) (by omega)
  have w5 : IntKind.i64.wrap (c.h - 1) = c.h - 1 := wrap_i64 (by omega) (by omega)
  have w6 : IntKind.i64.wrap (c.w - 1) = c.w - 1 := wrap_i64 (by omega) (by omega)
  have hk6 : (k : Int) < 6 := by omega
  obtain ⟨⟨da, dc, ed, _⟩, ⟨ta, tc, et, _⟩, ⟨sa, sc, es, _⟩, _, _, _⟩ := hc
  have fin : ∀ (pb : Bool), (((i : Int) / c.w % 2 == 0) = pb) → (IntKind.i64.wrap ((i : Int) % c.w + (if pb = true then wayE k else wayO k)) = nxC c.w i k) := fun pb hpb => by
    have eC : nxC c.w i k = (i : Int) % c.w + (if pb = true then wayE k else wayO k) := by
      unfold nxC
      cases pb
      · have : ¬ ((i : Int) / c.w % 2 = 0) := by simpa using hpb
        rw [if_neg this]; rfl
      · have : (i : Int) / c.w % 2 = 0 := by simpa using hpb
        rw [if_pos this]; rfl
    rw [eC]
    exact wrap_i64 (by split <;> omega) (by split <;> omega)
  cases pb : ((i : Int) / c.w % 2 == 0)
  all_goals
    have wC := fin _ pb
    simp only [Bool.false_eq_true, if_false, if_true] at wC
    by_cases a2 : 0 ≤ nxC c.w i k ∧ nxC c.w i k ≤ c.w - 1
    rotate_left
    · have a2b : (decide (0 ≤ nxC c.w i k) && decide (nxC c.w i k ≤ c.w - 1)) = false := by simpa using a2
      have hn : nxt c.w c.h i k = none := by unfold nxt nxIn; rw [a2b, Bool.and_false]; rfl
      simp [sf_cobleref01_Beside, chV, ed, et, es, hd, hm, h2, hw0, w1, w2, w6, hk6, g0, g1, g2, pb, wC, a2b, hn, pf_pure, pureF]
    have a2b : (decide (0 ≤ nxC c.w i k) && decide (nxC c.w i k ≤ c.w - 1)) = true := by simpa using a2
    by_cases a1 : 0 ≤ nxR c.w i k ∧ nxR c.w i k ≤ c.h - 1
    rotate_left
    · have a1b : (decide (0 ≤ nxR c.w i k) && decide (nxR c.w i k ≤ c.h - 1)) = false := by simpa using a1
      have hn : nxt c.w c.h i k = none := by unfold nxt nxIn; rw [a1b, Bool.false_and]; rfl
      simp [sf_cobleref01_Beside, chV, ed, et, es, hd, hm, h2, hw0, w1, w2, w5, w6, hk6, g0, g1, g2, pb, wC, a1b, a2b, hn, pf_pure, pureF]
    have a1b : (decide (0 ≤ nxR c.w i k) && decide (nxR c.w i k ≤ c.h - 1)) = true := by simpa using a1
    have hn : nxt c.w c.h i k = some (nxR c.w i k * c.w + nxC c.w i k) := by unfold nxt nxIn; rw [a2b, a1b]; rfl
    obtain ⟨x0, x1, _⟩ := nxt_some hw.1 hh.1 hn
    have x2 : 0 ≤ nxR c.w i k * c.w := Int.mul_nonneg a1.1 (by omega)
    have w7 : IntKind.i64.wrap (nxR c.w i k * c.w) = nxR c.w i k * c.w := wrap_i64 (by omega) (by omega)
    have w8 : IntKind.i64.wrap (nxR c.w i k * c.w + nxC c.w i k) = nxR c.w i k * c.w + nxC c.w i k := wrap_i64 (by omega) (by omega)
    simp [sf_cobleref01_Beside, chV, ed, et, es, hd, hm, h2, hw0, w1, w2, w5, w6, w7, w8, hk6, g0, g1, g2, pb, wC, a1b, a2b, hn, pf_pure, pureF]

theorem ints_set (l : List Int) (j : Nat) (x : Int) : (ints l).set j (.int .i64 x) = ints (l.set j x) := by simp [ints, List.map_set]
theorem ints_get (l : List Int) (j : Nat) (h : j < l.length) : (ints l)[j]? = some (.int .i64 (l.getD j 0)) := by simp [ints, h]
theorem set_last (H : AH) (x y : ABlk) : (H ++ [x]).set H.length y = H ++ [y] := by simp

theorem minIfY (x y : Int) : (if y < x then y else x) = min x y := by rw [Int.min_def]; split <;> split <;> omega

theorem nxt_ne {w h i : Int} {k : Nat} (hw : 1 ≤ w) (hh : 1 ≤ h) (hk : k < 6) : nxt w h i k ≠ some i := by
  intro e
  obtain ⟨_, _, e1, e2, _⟩ := nxt_some hw hh e
  unfold nxR nxC at *
  generalize i / w = r at *
  generalize i % w = q at *
  match k, hk with
  | 0, _ | 1, _ | 2, _ | 3, _ | 4, _ | 5, _ =>
    simp [wayN, wayE, wayO, wayT] at *
    all_goals (try split at e2)
    all_goals omega
  | n + 6, h => omega

theorem relD_len (w h n : Int) (i : Nat) (l : List Int) (k : Nat) : (relD w h n i l k).length = l.length := by unfold relD; split <;> simp
theorem relD_keep {w h n : Int} {i : Nat} (l : List Int) {k : Nat} (hw : 1 ≤ w) (hh : 1 ≤ h) (hk : k < 6) : (relD w h n i l k).getD i 0 = l.getD i 0 := by
  unfold relD
  split
  · rename_i j hj
    obtain ⟨j0, _, _⟩ := nxt_some hw hh hj
    have : j.toNat ≠ i := fun e => nxt_ne hw hh hk (by rw [hj]; congr 1; omega)
    simp [List.getD_eq_getElem?_getD, List.getElem?_set, this]
  · rfl
theorem foldD {w h n : Int} {i : Nat} (hw : 1 ≤ w) (hh : 1 ≤ h) (l : List Int) : ∀ k, k ≤ 6 → ((List.range k).foldl (relD w h n i) l).length = l.length ∧ ((List.range k).foldl (relD w h n i) l).getD i 0 = l.getD i 0
  | 0, _ => ⟨rfl, rfl⟩
  | k + 1, hk => by
    have ih := foldD (n := n) (i := i) hw hh l k (by omega)
    rw [List.range_succ, List.foldl_append, List.foldl_cons, List.foldl_nil, relD_len, relD_keep _ hw hh (by omega)]
    exact ih

end Go.Proofs.YthobfecblpnnnaaGreatDoor
