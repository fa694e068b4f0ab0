/- Contracts of the functions, in the abstract machine: the reference's water; copies; the law ChartFloats. -/
import Derived.Test.YtjejcbiilimjkaaDoorFunH
set_option linter.all false
namespace Go.Proofs.YtjejcbiilimjkaaDoor
open Go Go.RowKit

theorem run_works (lim : Nat) (H : AH) (hG : H[waysG]? = some (.ro waysV)) : apL Tryd.prog pf (.func (.func 13) #[] #[]) [] lim H = some (.bool true, H) :=
  apL_orc (by rfl) (by
    simp only [pf, tabs, tabsOk, List.all_cons, List.all_nil, Bool.and_true, hG]
    exact by kernel_rfl)

theorem run_Over (c : Ch) (hok : ChOk c) (lim : Nat) (H : AH) (d t s : Value) (hc : ChIn H c d t s) {i k : Nat} (hi : i < c.cells) (hk : k < c.ticks) (h : Int) (h0 : -1000000 ≤ h) (h1 : h ≤ 1000000) :
    apL Tryd.prog pf (.func (.func 44) #[] #[]) [chV c d t s, .int .i64 i, .int .i64 k, .int .i64 h] lim H = some (.int .i64 (c.over i k h), H) := by
  rw [apL_func _ _ _ _ _ _ (by rfl), sf_cobleref01_Over_eq]
  obtain ⟨⟨b1, b2⟩, ⟨b3, b4, b5⟩, b6, b7⟩ := hok.bounds hi hk
  have hsl : k < c.swell.length := by rw [hok.2.2.2.2.1]; exact hk
  obtain ⟨bd, od, kd, rfl, d1⟩ := hc.dep hi
  obtain ⟨bs, os, ks, rfl, s1⟩ := hc.sw hsl
  obtain ⟨ta, tc, et, _⟩ := hc.t
  have hi' : i < c.depth.length := hi
  have w1 : IntKind.i64.wrap (c.dep i + h) = c.dep i + h := wrap_i64 (by omega) (by omega)
  have w2 : IntKind.i64.wrap (c.dep i + h - c.sw k) = c.dep i + h - c.sw k := wrap_i64 (by omega) (by omega)
  have e : c.over i k h = c.dep i + h - c.sw k := by unfold Ch.over; omega
  simp only [hcell] at d1 s1
  simp [sf_cobleref01_Over, chV, hi', hsl, d1, s1, w1, w2, e, et, pf_pure, pureF]

theorem run_IsTick (c : Ch) (x : Int) (lim : Nat) (H : AH) (d t s : Value) (hc : ChIn H c d t s) :
    apL Tryd.prog pf (.func (.func 38) #[] #[]) [chV c d t s, .int .i64 x] lim H = some (.bool (inN c.ticks x), H) := by
  show _ = some (Value.bool (inN c.tide.length x), H)
  rw [apL_func _ _ _ _ _ _ (by rfl), sf_cobleref01_IsTick_eq]
  have hdl := hc.tl
  obtain ⟨⟨da, dc, ed, _⟩, ⟨ta, tc, et, _⟩, ⟨sa, sc, es, _⟩, _, _, _⟩ := hc
  have hw : IntKind.i64.wrap ((c.tide.length : Int) - 1) = (c.tide.length : Int) - 1 := wrap_i64 (by omega) (by omega)
  simp [sf_cobleref01_IsTick, chV, ed, et, es, hw, inN, pf_pure, pureF]

theorem run_IsDraught (x : Int) (lim : Nat) (H : AH) : apL Tryd.prog pf (.func (.func 39) #[] #[]) [.int .i64 x] lim H = some (.bool (decide (1 ≤ x) && decide (x ≤ 100)), H) := by
  rw [apL_func _ _ _ _ _ _ (by rfl), sf_cobleref01_IsDraught_eq]
  simp [sf_cobleref01_IsDraught, pf_pure, pureF]

theorem ChOk.mul {c : Ch} (h : ChOk c) : 0 ≤ c.w * c.h ∧ c.w * c.h ≤ 144 ∧ c.w * c.h = c.cells := by
  have h1 : 0 ≤ c.w * c.h := Int.mul_nonneg (by have := h.1; omega) (by have := h.2.1; omega)
  have h2 : c.w * c.h ≤ 12 * 12 := Int.mul_le_mul h.1.2 h.2.1.2 (by have := h.2.1; omega) (by omega)
  exact ⟨h1, by omega, h.2.2.1.symm⟩

theorem run_IsCellOk (c : Ch) (hok : ChOk c) (x : Int) (lim : Nat) (H : AH) (d t s : Value) (hc : ChIn H c d t s) :
    apL Tryd.prog pf (.func (.func 37) #[] #[]) [chV c d t s, .int .i64 x] lim H = some (.bool (inN c.cells x), H) := by
  obtain ⟨h1, h2, h3⟩ := hok.mul
  rw [run_IsCell c x lim H d t s hc (wrap_i64 (by omega) (by omega)) (wrap_i64 (by omega) (by omega)), h3]
  rfl

theorem openE_eq {c : Ch} (hok : ChOk c) (xs ys : List Int) : openE c xs ys = if xs.all (inN c.cells) && ys.all (inN c.ticks) then 0 else 1 := by
  unfold openE; rw [if_pos hok]; rfl
theorem openE_bad {c : Ch} (hok : ¬ ChOk c) (xs ys : List Int) : openE c xs ys = 10 := by unfold openE; rw [if_neg hok]

theorem run_refWater (c : Ch) (lim : Nat) (H : AH) (d t s : Value) (hc : ChIn H c d t s) (a b : Int) :
    apL Tryd.prog pf (.func (.func 22) #[] #[]) [chV c d t s, .int .i64 a, .int .i64 b] lim H = some (waterR c a b, H) := by
  rw [apL_func _ _ _ _ _ _ (by rfl), sf_cobleref01_Water_eq]
  have hk := fun lim => run_Check c lim H d t s hc
  by_cases hok : ChOk c
  rotate_left
  · obtain ⟨⟨da, dc, ed, _⟩, ⟨ta, tc, et, _⟩, ⟨sa, sc, es, _⟩, _, _, _⟩ := hc
    simp only [chV, ed, et, es, hok, if_false] at hk
    simp [sf_cobleref01_Water, chV, ed, et, es, hk, openE_bad hok, waterR, pf_pure, pureF]
  have hx := fun x lim => run_IsCellOk c hok x lim H d t s hc
  have hy := fun x lim => run_IsTick c x lim H d t s hc
  cases h1 : inN c.cells a
  · obtain ⟨⟨da, dc, ed, _⟩, ⟨ta, tc, et, _⟩, ⟨sa, sc, es, _⟩, _, _, _⟩ := hc
    simp only [chV, ed, et, es, hok, if_true] at hk hx hy
    simp [sf_cobleref01_Water, chV, ed, et, es, hk, hx, hy, h1, openE_eq hok, waterR, pf_pure, pureF]
  cases h2 : inN c.ticks b
  · obtain ⟨⟨da, dc, ed, _⟩, ⟨ta, tc, et, _⟩, ⟨sa, sc, es, _⟩, _, _, _⟩ := hc
    simp only [chV, ed, et, es, hok, if_true] at hk hx hy
    simp [sf_cobleref01_Water, chV, ed, et, es, hk, hx, hy, h1, h2, openE_eq hok, waterR, pf_pure, pureF]
  have h1' := h1
  have h2' := h2
  obtain ⟨i, hi, rfl⟩ := inN_iff.1 h1
  obtain ⟨k, hkk, rfl⟩ := inN_iff.1 h2
  obtain ⟨⟨b1, b2⟩, ⟨b3, b4, b5⟩, b6, b7⟩ := hok.bounds hi hkk
  have ho := fun lim h h0 h1 => run_Over c hok lim H d t s hc hi hkk h h0 h1
  have o1 := fun lim => ho lim (c.lo k) (by omega) (by omega)
  have o2 := fun lim => ho lim (c.hi k) (by omega) (by omega)
  obtain ⟨bt, ot, kt, et, t1, t2⟩ := hc.td hkk
  obtain ⟨⟨da, dc, ed, _⟩, _, ⟨sa, sc, es, _⟩, _, _, _⟩ := hc
  have hk' : k < c.tide.length := hkk
  simp only [chV, ed, et, es, hok, if_true] at hk hx hy o1 o2
  simp only [hcell] at t1 t2
  simp [sf_cobleref01_Water, chV, ed, et, es, hk, hx, hy, h1', h2', hk', t1, t2, o1, o2, openE_eq hok, waterR, pf_pure, pureF]

theorem embE_of {c : Ch} {g : Int} {xs ys : List Int} (h : openE c xs ys ≠ 0) : embE c g xs ys = openE c xs ys := by unfold embE; rw [if_neg h]
theorem embE_of0 {c : Ch} {g : Int} {xs ys : List Int} (h : openE c xs ys = 0) : embE c g xs ys = if 1 ≤ g ∧ g ≤ 100 then 0 else 1 := by unfold embE; rw [if_pos h]

theorem run_refFloats (c : Ch) (lim : Nat) (H : AH) (d t s : Value) (hc : ChIn H c d t s) (g a b : Int) :
    apL Tryd.prog pf (.func (.func 24) #[] #[]) [chV c d t s, .int .i64 g, .int .i64 a, .int .i64 b] lim H = some (floatsR c g a b, H) := by
  rw [apL_func _ _ _ _ _ _ (by rfl), sf_cobleref01_Floats_eq]
  have hw := fun lim => run_refWater c lim H d t s hc a b
  have hd := run_IsDraught g
  obtain ⟨⟨da, dc, ed, _⟩, ⟨ta, tc, et, _⟩, ⟨sa, sc, es, _⟩, _, _, _⟩ := hc
  simp only [chV, ed, et, es, waterR] at hw
  by_cases h0 : openE c [a] [b] = 0
  · by_cases hg : 1 ≤ g ∧ g ≤ 100
    · simp only [h0, if_true] at hw
      simp [sf_cobleref01_Floats, chV, ed, et, es, hw, hd, hg, embE_of0 h0, floatsR, Ch.sure, Ch.may, pf_pure, pureF]
    · have hb : (decide (1 ≤ g) && decide (g ≤ 100)) = false := by simpa using hg
      simp only [h0, if_true] at hw
      simp [sf_cobleref01_Floats, chV, ed, et, es, hw, hd, hg, hb, embE_of0 h0, floatsR, Ch.sure, Ch.may, pf_pure, pureF]
  · have h1 : (openE c [a] [b] != 0) = true := by simpa using h0
    simp only [h0, if_false] at hw
    simp [sf_cobleref01_Floats, chV, ed, et, es, hw, hd, h0, h1, embE_of h0, floatsR, pf_pure, pureF]

theorem cellsAt_of {L : LS} {H : AH} {b : Nat} : ∀ (l : List Value) (o : Nat) (_ : ∀ (j : Nat) x, l[j]? = some x → hcell H b (o + j) = some x), cellsAt L H ⟨b, o, none⟩ l.length = some l
  | [], _, _ => rfl
  | v :: l, o, h => by
    have h1 := h 0 v rfl
    have ih := cellsAt_of (L := L) l (o + 1) (fun j x hx => by rw [show o + 1 + j = o + (j + 1) by omega]; exact h (j + 1) x hx)
    simp only [List.length_cons, cellsAt, cellAt, aadd]
    rw [show o + 0 = o from rfl] at h1
    simp only [h1, ih]

theorem Sl.cells {H : AH} {v : Value} {n : Nat} {cs : List Value} (h : Sl H v n cs) (h0 : 0 < cs.length) : ∃ b o k, v = .slice (some ⟨b, o, none⟩) n k ∧ ∀ L, cellsAt L H ⟨b, o, none⟩ cs.length = some cs := by
  obtain ⟨a, k, e, hk⟩ := h
  obtain ⟨b, o, ea, _⟩ := hk 0 cs[0] (List.getElem?_eq_getElem h0)
  refine ⟨b, o, k, by rw [e, ea], fun L => cellsAt_of cs o fun j x hx => ?_⟩
  obtain ⟨b', o', ea', h'⟩ := hk j x hx
  rw [ea] at ea'
  cases ea'
  exact h'

theorem nlL_ints : ∀ (l : List Int), nlL (ints l) = true
  | [] => by simp [ints, nlL]
  | x :: l => by have := nlL_ints l; simp only [ints, List.map_cons, nlL] at this ⊢; simp [this]
theorem one_ints : ∀ (l : List Int), (ints l).all oneC = true
  | [] => by simp [ints]
  | x :: l => by have := one_ints l; simp only [ints, List.map_cons, List.all_cons] at this ⊢; simp [this, oneC]
theorem nlL_spans : ∀ (l : List (Int × Int)), nlL (spans l) = true
  | [] => by simp [spans, nlL]
  | (x, y) :: l => by have := nlL_spans l; simp only [spans, List.flatMap_cons] at this ⊢; simp [this, nlL]
theorem one_spans : ∀ (l : List (Int × Int)), (spans l).all oneC = true
  | [] => by simp [spans]
  | (x, y) :: l => by have := one_spans l; simp only [spans, List.flatMap_cons] at this ⊢; simp [this, oneC]
theorem ints_length (l : List Int) : (ints l).length = l.length := by simp [ints]
theorem spans_length : ∀ (l : List (Int × Int)), (spans l).length = l.length * 2
  | [] => rfl
  | (x, y) :: l => by have := spans_length l; simp only [spans, List.flatMap_cons, List.length_append, List.length_cons, List.length_nil] at this ⊢; rw [this]; omega
end Go.Proofs.YtjejcbiilimjkaaDoor
