/- Contracts of the functions, in the abstract machine: the water, and what floats. -/
import Derived.Test.YtjejcbiilimjkaaDoorFunG
set_option linter.all false
namespace Go.Proofs.YtjejcbiilimjkaaDoor
open Go Go.RowKit

def Ch.dep (c : Ch) (i : Nat) : Int := c.depth.getD i 0
def Ch.sw (c : Ch) (i : Nat) : Int := c.swell.getD i 0
def Ch.lo (c : Ch) (i : Nat) : Int := (c.tide.getD i (0, 0)).1
def Ch.hi (c : Ch) (i : Nat) : Int := (c.tide.getD i (0, 0)).2
/-- The water over a cell in a tick with a height of the tide. -/
def Ch.over (c : Ch) (i t : Nat) (h : Int) : Int := c.dep i - c.sw t + h
def Ch.cells (c : Ch) : Nat := c.depth.length
def Ch.ticks (c : Ch) : Nat := c.tide.length

theorem ChIn.dep {H : AH} {c : Ch} {d t s : Value} (hc : ChIn H c d t s) {i : Nat} (hi : i < c.cells) : ∃ b o k, d = .slice (some ⟨b, o, none⟩) c.depth.length k ∧ hcell H b (o + i) = some (.int .i64 (c.dep i)) := by
  obtain ⟨a, k, e, hd⟩ := hc.d
  have hi' : i < c.depth.length := hi
  obtain ⟨b, o, ea, h⟩ := hd i (.int .i64 c.depth[i]) (by simp [ints, hi'])
  exact ⟨b, o, k, by rw [e, ea], by rw [h]; simp [Ch.dep, hi']⟩

theorem ChIn.sw {H : AH} {c : Ch} {d t s : Value} (hc : ChIn H c d t s) {i : Nat} (hi : i < c.swell.length) : ∃ b o k, s = .slice (some ⟨b, o, none⟩) c.swell.length k ∧ hcell H b (o + i) = some (.int .i64 (c.sw i)) := by
  obtain ⟨a, k, e, hd⟩ := hc.s
  obtain ⟨b, o, ea, h⟩ := hd i (.int .i64 c.swell[i]) (by simp [ints, hi])
  exact ⟨b, o, k, by rw [e, ea], by rw [h]; simp [Ch.sw, hi]⟩

theorem ChIn.td {H : AH} {c : Ch} {d t s : Value} (hc : ChIn H c d t s) {i : Nat} (hi : i < c.ticks) : ∃ b o k, t = .slice (some ⟨b, o, none⟩) c.tide.length k ∧ hcell H b (o + i * 2) = some (.int .i64 (c.lo i)) ∧ hcell H b (o + i * 2 + 1) = some (.int .i64 (c.hi i)) := by
  obtain ⟨a, k, e, hd⟩ := hc.t
  have hi' : i < c.tide.length := hi
  obtain ⟨b, o, ea, h⟩ := hd _ _ (spans_get hi').1
  obtain ⟨b', o', ea', h'⟩ := hd _ _ (spans_get hi').2
  rw [ea] at ea'
  cases ea'
  rw [show o + (i * 2 + 1) = o + i * 2 + 1 by omega] at h'
  exact ⟨b, o, k, by rw [e, ea], by rw [h]; simp [Ch.lo, hi'], by rw [h']; simp [Ch.hi, hi']⟩

/-- What is so of the numbers of a valid chart. -/
theorem ChOk.bounds {c : Ch} (h : ChOk c) {i t : Nat} (hi : i < c.cells) (ht : t < c.ticks) : (-1000 ≤ c.dep i ∧ c.dep i ≤ 1000) ∧ (0 ≤ c.lo t ∧ c.lo t ≤ c.hi t ∧ c.hi t ≤ 200) ∧ (0 ≤ c.sw t ∧ c.sw t ≤ 100) := by
  have hi' : i < c.depth.length := hi
  have ht' : t < c.tide.length := ht
  have hs : t < c.swell.length := by rw [h.2.2.2.2.1]; exact ht'
  have h1 := h.2.2.2.2.2.1 c.depth[i] (by simp)
  obtain ⟨k1, k2, k3, k4, k5⟩ := h.2.2.2.2.2.2 t ht' hs
  simp only [Ch.dep, Ch.lo, Ch.hi, Ch.sw, List.getD_eq_getElem?_getD, List.getElem?_eq_getElem hi', List.getElem?_eq_getElem ht', List.getElem?_eq_getElem hs, Option.getD_some]
  exact ⟨h1, ⟨k1, k2, k3⟩, k4, k5⟩

def seaV (c : Ch) (d t s : Value) : Value := chV c d t s

theorem run_water (c : Ch) (hok : ChOk c) (lim : Nat) (H : AH) (d t s : Value) (hc : ChIn H c d t s) {i k : Nat} (hi : i < c.cells) (hk : k < c.ticks) :
    apL Tryd.prog pf (.func (.func 59) #[] #[]) [chV c d t s, .int .i64 i, .int .i64 k] lim H = some (.agg #[.int .i64 (c.over i k (c.lo k)), .int .i64 (c.over i k (c.hi k))], H) := by
  rw [apL_func _ _ _ _ _ _ (by rfl), sf_chart_sea_water_eq]
  obtain ⟨⟨b1, b2⟩, ⟨b3, b4, b5⟩, b6, b7⟩ := hok.bounds hi hk
  have hsl : k < c.swell.length := by rw [hok.2.2.2.2.1]; exact hk
  obtain ⟨bd, od, kd, rfl, d1⟩ := hc.dep hi
  obtain ⟨bs, os, ks, rfl, s1⟩ := hc.sw hsl
  obtain ⟨bt, ot, kt, rfl, t1, t2⟩ := hc.td hk
  have hi' : i < c.depth.length := hi
  have hk' : k < c.tide.length := hk
  have w1 : IntKind.i64.wrap (c.dep i - c.sw k) = c.dep i - c.sw k := wrap_i64 (by omega) (by omega)
  have w2 : IntKind.i64.wrap (c.dep i - c.sw k + c.lo k) = c.dep i - c.sw k + c.lo k := wrap_i64 (by omega) (by omega)
  have w3 : IntKind.i64.wrap (c.dep i - c.sw k + c.hi k) = c.dep i - c.sw k + c.hi k := wrap_i64 (by omega) (by omega)
  simp only [hcell] at d1 s1 t1 t2
  simp [sf_chart_sea_water, chV, hi', hk', hsl, d1, s1, t1, t2, w1, w2, w3, Ch.over, pf_pure, pureF]

/-- Whether a boat surely floats; whether it may. -/
def Ch.sure (c : Ch) (g : Int) (i t : Nat) : Bool := decide (g ≤ c.over i t (c.lo t))
def Ch.may (c : Ch) (g : Int) (i t : Nat) : Bool := decide (g ≤ c.over i t (c.hi t))

theorem run_surely (c : Ch) (hok : ChOk c) (lim : Nat) (H : AH) (d t s : Value) (hc : ChIn H c d t s) (g : Int) {i k : Nat} (hi : i < c.cells) (hk : k < c.ticks) :
    apL Tryd.prog pf (.func (.func 61) #[] #[]) [boV c d t s g, .int .i64 i, .int .i64 k] lim H = some (.bool (c.sure g i k), H) := by
  rw [apL_func _ _ _ _ _ _ (by rfl), sf_chart_boat_surelyFloats_eq]
  have hw := fun lim => run_water c hok lim H d t s hc hi hk
  obtain ⟨⟨da, dc, ed, _⟩, ⟨ta, tc, et, _⟩, ⟨sa, sc, es, _⟩, _, _, _⟩ := hc
  simp only [chV, ed, et, es] at hw
  simp [sf_chart_boat_surelyFloats, boV, ed, et, es, hw, Ch.sure, pf_pure, pureF]

theorem run_mayFloat (c : Ch) (hok : ChOk c) (lim : Nat) (H : AH) (d t s : Value) (hc : ChIn H c d t s) (g : Int) {i k : Nat} (hi : i < c.cells) (hk : k < c.ticks) :
    apL Tryd.prog pf (.func (.func 62) #[] #[]) [boV c d t s g, .int .i64 i, .int .i64 k] lim H = some (.bool (c.may g i k), H) := by
  rw [apL_func _ _ _ _ _ _ (by rfl), sf_chart_boat_mayFloat_eq]
  have hw := fun lim => run_water c hok lim H d t s hc hi hk
  obtain ⟨⟨da, dc, ed, _⟩, ⟨ta, tc, et, _⟩, ⟨sa, sc, es, _⟩, _, _, _⟩ := hc
  simp only [chV, ed, et, es] at hw
  simp [sf_chart_boat_mayFloat, boV, ed, et, es, hw, Ch.may, pf_pure, pureF]

theorem inN_iff {n : Nat} {x : Int} : inN n x = true ↔ ∃ i : Nat, i < n ∧ x = i := by
  simp only [inN, Bool.and_eq_true, decide_eq_true_eq]
  constructor
  · rintro ⟨h1, h2⟩; exact ⟨x.toNat, by omega, by omega⟩
  · rintro ⟨i, h, rfl⟩; omega

theorem openE_zero {c : Ch} {xs ys : List Int} (h : openE c xs ys = 0) : ChOk c ∧ xs.all (inN c.cells) = true ∧ ys.all (inN c.ticks) = true := by
  unfold openE at h
  split at h
  · rename_i hok
    split at h
    · rename_i h2; simp only [Bool.and_eq_true] at h2; exact ⟨hok, h2.1, h2.2⟩
    · cases h
  · cases h

theorem Sl.one (H : AH) (x : Int) : Sl (H ++ [.rw 1 [.int .i64 x]]) (.slice (some ⟨H.length, 0, none⟩) 1 1) [x].length (ints [x]) :=
  ⟨_, 1, rfl, fun j v hv => ⟨H.length, 0, rfl, by
    simp only [ints, List.map] at hv
    simp only [hcell, Nat.zero_add, List.getElem?_append_right (Nat.le_refl _), Nat.sub_self, List.getElem?_cons_zero]
    exact hv⟩⟩

/-- A list of numbers that has just been made. -/
theorem Sl.made {H : AH} {b : Nat} {l : List Int} {n k : Nat} (h : H[b]? = some (.rw 1 (ints l))) (hn : n = l.length) : Sl H (.slice (some ⟨b, 0, none⟩) n k) l.length (ints l) :=
  ⟨_, k, by rw [hn], fun j v hv => ⟨b, 0, rfl, by simp only [hcell, h, Nat.zero_add]; exact hv⟩⟩

theorem Sl.nil {H : AH} {k : Nat} : Sl H (.slice none 0 k) ([] : List Int).length (ints []) := ⟨none, k, rfl, fun j v hv => by simp [ints] at hv⟩

/-- What the program says of the water. -/
noncomputable def waterR (c : Ch) (a b : Int) : Value := .tuple #[if openE c [a] [b] = 0 then .agg #[.int .i64 (c.over a.toNat b.toNat (c.lo b.toNat)), .int .i64 (c.over a.toNat b.toNat (c.hi b.toNat))] else .agg #[.int .i64 0, .int .i64 0], .int .i64 (openE c [a] [b])]

theorem run_Water (c : Ch) (lim : Nat) (H : AH) (d t s : Value) (hc : ChIn H c d t s) (a b : Int) :
    apL Tryd.prog pf (.func (.func 21) #[] #[]) [chV c d t s, .int .i64 a, .int .i64 b] lim H = some (waterR c a b, H) := by
  rw [apL_func _ _ _ _ _ _ (by rfl), sf_chart_Water_eq]
  have hE : Ext H (H ++ [.rw 1 (ints [a]), .rw 1 (ints [b])]) := Ext.push H _
  have hc2 : ChIn (H ++ [.rw 1 (ints [a]), .rw 1 (ints [b])]) c d t s := ⟨hc.d.ext hE, hc.t.ext hE, hc.s.ext hE, hc.dl, hc.tl, hc.sl⟩
  have ho := fun lim => run_open c lim _ d t s hc2 [a] [b] (.slice (some ⟨H.length, 0, none⟩) 1 1) (.slice (some ⟨H.length + 1, 0, none⟩) 1 1) (Sl.made (by simp) rfl) (Sl.made (by simp) rfl) (by simp) (by simp)
  by_cases h0 : openE c [a] [b] = 0
  · obtain ⟨hok, h1, h2⟩ := openE_zero h0
    simp only [List.all_cons, List.all_nil, Bool.and_true, inN_iff] at h1 h2
    obtain ⟨i, hi, rfl⟩ := h1
    obtain ⟨k, hk, rfl⟩ := h2
    have hw := fun lim => run_water c hok lim _ d t s hc2 hi hk
    obtain ⟨⟨da, dc, ed, _⟩, ⟨ta, tc, et, _⟩, ⟨sa, sc, es, _⟩, _, _, _⟩ := hc
    simp only [h0, if_true, chV, ed, et, es, ints, List.map] at ho hw
    simp [sf_chart_Water, chV, ed, et, es, ho, hw, h0, waterR, pf_pure, pureF]
  · have h1 : (openE c [a] [b] != 0) = true := by simpa using h0
    obtain ⟨⟨da, dc, ed, _⟩, ⟨ta, tc, et, _⟩, ⟨sa, sc, es, _⟩, _, _, _⟩ := hc
    simp only [h0, if_false, chV, ed, et, es, ints, List.map, noCh] at ho
    simp [sf_chart_Water, chV, ed, et, es, ho, h0, h1, waterR, pf_pure, pureF]

theorem ChIn.ext {H H' : AH} (hE : Ext H H') {c : Ch} {d t s : Value} (hc : ChIn H c d t s) : ChIn H' c d t s := ⟨hc.d.ext hE, hc.t.ext hE, hc.s.ext hE, hc.dl, hc.tl, hc.sl⟩

theorem embE_zero {c : Ch} {g : Int} {xs ys : List Int} (h : embE c g xs ys = 0) : openE c xs ys = 0 ∧ 1 ≤ g ∧ g ≤ 100 := by
  unfold embE at h
  split at h
  · rename_i h0
    split at h
    · rename_i h1; exact ⟨h0, h1⟩
    · cases h
  · rename_i h0; exact absurd h h0

noncomputable def floatsR (c : Ch) (g a b : Int) : Value := .tuple #[.bool (decide (embE c g [a] [b] = 0) && c.sure g a.toNat b.toNat), .bool (decide (embE c g [a] [b] = 0) && c.may g a.toNat b.toNat), .int .i64 (embE c g [a] [b])]

theorem run_Floats (c : Ch) (lim : Nat) (H : AH) (d t s : Value) (hc : ChIn H c d t s) (g a b : Int) :
    apL Tryd.prog pf (.func (.func 23) #[] #[]) [chV c d t s, .int .i64 g, .int .i64 a, .int .i64 b] lim H = some (floatsR c g a b, H) := by
  rw [apL_func _ _ _ _ _ _ (by rfl), sf_chart_Floats_eq]
  have hc2 : ChIn (H ++ [.rw 1 (ints [a]), .rw 1 (ints [b])]) c d t s := hc.ext (Ext.push H _)
  have ho := fun lim => run_embark c lim _ d t s hc2 g [a] [b] (.slice (some ⟨H.length, 0, none⟩) 1 1) (.slice (some ⟨H.length + 1, 0, none⟩) 1 1) (Sl.made (by simp) rfl) (Sl.made (by simp) rfl) (by simp) (by simp)
  by_cases h0 : embE c g [a] [b] = 0
  · obtain ⟨h00, _⟩ := embE_zero h0
    obtain ⟨hok, h1, h2⟩ := openE_zero h00
    simp only [List.all_cons, List.all_nil, Bool.and_true, inN_iff] at h1 h2
    obtain ⟨i, hi, rfl⟩ := h1
    obtain ⟨k, hk, rfl⟩ := h2
    have hw := fun lim => run_surely c hok lim _ d t s hc2 g hi hk
    have hm := fun lim => run_mayFloat c hok lim _ d t s hc2 g hi hk
    obtain ⟨⟨da, dc, ed, _⟩, ⟨ta, tc, et, _⟩, ⟨sa, sc, es, _⟩, _, _, _⟩ := hc
    simp only [h0, if_true, boV, chV, ed, et, es, ints, List.map] at ho hw hm
    simp [sf_chart_Floats, chV, ed, et, es, ho, hw, hm, h0, floatsR, pf_pure, pureF]
  · have h1 : (embE c g [a] [b] != 0) = true := by simpa using h0
    obtain ⟨⟨da, dc, ed, _⟩, ⟨ta, tc, et, _⟩, ⟨sa, sc, es, _⟩, _, _, _⟩ := hc
    simp only [h0, if_false, chV, ed, et, es, ints, List.map, noBo] at ho
    simp [sf_chart_Floats, chV, ed, et, es, ho, h0, h1, floatsR, pf_pure, pureF]
end Go.Proofs.YtjejcbiilimjkaaDoor
