/- Contracts of layer 6, the program: units, cells, ticks, spots. -/
import Derived.Test.YthobfecblpnnnaaGreatDoorLanB
set_option linter.all false
namespace Go.Proofs.YthobfecblpnnnaaGreatDoor
open Go Go.RowKit

theorem apL_bnd6 {f : FuncId} {a : Value} {args : List Value} {lim : Nat} {H : AH} (h1 : orcA pf f #[a] #[] args = none) (h2 : orcA pf f #[] #[] (a :: args) = none) : apL Tryz.prog pf (.func (.func f) #[a] #[]) args lim H = apL Tryz.prog pf (.func (.func f) #[] #[]) (a :: args) lim H := by
  rw [apL_func _ _ _ _ _ _ h1, apL_func _ _ _ _ _ _ h2]
  simp

/-- The traffic of legs on a chart. -/
def trV (c : Ch) (d t s v : Value) : Value := .agg #[.int .i64 c.w, .int .i64 c.h, d, t, s, v]
def noTr : Value := .agg #[.int .i64 0, .int .i64 0, .slice none 0 0, .slice none 0 0, .slice none 0 0, .slice none 0 0]

theorem run_isLevel (x : Int) (lim : Nat) (H : AH) : apL Tryz.prog pf (.func (.func 51) #[] #[]) [.int .i64 x] lim H = some (.bool (decide (0 ≤ x) && decide (x ≤ 3)), H) := by
  rw [apL_func _ _ _ _ _ _ (by rfl), sf_lanes_isLevel_eq]
  have hb := ext_between H 0 3 x
  have hr := run_between
  simp only [betweenV] at hb hr
  simp [sf_lanes_isLevel, hb, hr, pf_pure, pureF]

theorem run_isUnit (lv dr : Int) (lim : Nat) (H : AH) : apL Tryz.prog pf (.func (.func 95) #[] #[]) [.int .i64 lv, .int .i64 dr] lim H = some (.bool (unitB lv dr), H) := by
  rw [apL_func _ _ _ _ _ _ (by rfl), sf_lanes_isUnit_eq]
  by_cases h : lv = 0
  · have hb := ext_between H 1 100 dr
    have hr := run_between
    simp only [betweenV] at hb hr
    have h' : (lv == 0) = true := by simpa using h
    simp [sf_lanes_isUnit, h', hb, hr, unitB, h, pf_pure, pureF]
  · have hl := run_isLevel lv
    have h' : (lv == 0) = false := by simpa using h
    cases hb : (decide (0 ≤ lv) && decide (lv ≤ 3)) with
    | false =>
      rw [hb] at hl
      simp [-Bool.and_eq_false_imp, sf_lanes_isUnit, h', hl, unitB, h, hb, pf_pure, pureF]
    | true =>
      rw [hb] at hl
      simp [-Bool.and_eq_true, sf_lanes_isUnit, h', hl, unitB, h, hb, pf_pure, pureF]

theorem run_trCell (c : Ch) (x : Int) (lim : Nat) (H : AH) (d t s : Value) (hc : ChIn H c d t s) (va : Option Addr) (vn vc : Nat) : apL Tryz.prog pf (.func (.func 52) #[] #[]) [trV c d t s (.slice va vn vc), .int .i64 x] lim H = some (.bool (inN c.depth.length x), H) := by
  rw [apL_func _ _ _ _ _ _ (by rfl), sf_lanes_traffic_isCell_eq]
  have hdl := hc.dl
  obtain ⟨⟨da, dc, ed, _⟩, ⟨ta, tc, et, _⟩, ⟨sa, sc, es, _⟩, _, _, _⟩ := hc
  have hw : IntKind.i64.wrap ((c.depth.length : Int) - 1) = (c.depth.length : Int) - 1 := wrap_i64 (by omega) (by omega)
  have hb := ext_between H 0 ((c.depth.length : Int) - 1) x
  have hr := run_between
  simp only [betweenV] at hb hr
  simp [sf_lanes_traffic_isCell, trV, ed, et, es, hw, hb, hr, inN, pf_pure, pureF]

theorem run_trTick (c : Ch) (x : Int) (lim : Nat) (H : AH) (d t s : Value) (hc : ChIn H c d t s) (va : Option Addr) (vn vc : Nat) : apL Tryz.prog pf (.func (.func 71) #[] #[]) [trV c d t s (.slice va vn vc), .int .i64 x] lim H = some (.bool (inN c.tide.length x), H) := by
  rw [apL_func _ _ _ _ _ _ (by rfl), sf_lanes_traffic_isTick_eq]
  have hdl := hc.tl
  obtain ⟨⟨da, dc, ed, _⟩, ⟨ta, tc, et, _⟩, ⟨sa, sc, es, _⟩, _, _, _⟩ := hc
  have hw : IntKind.i64.wrap ((c.tide.length : Int) - 1) = (c.tide.length : Int) - 1 := wrap_i64 (by omega) (by omega)
  have hb := ext_between H 0 ((c.tide.length : Int) - 1) x
  have hr := run_between
  simp only [betweenV] at hb hr
  simp [sf_lanes_traffic_isTick, trV, ed, et, es, hw, hb, hr, inN, pf_pure, pureF]

def trCellF (c : Ch) (d t s v : Value) : Value := .func (.func 52) #[trV c d t s v] #[]
theorem isP_trCell (c : Ch) (H : AH) (d t s : Value) (hc : ChIn H c d t s) (va : Option Addr) (vn vc : Nat) : IsP H (trCellF c d t s (.slice va vn vc)) (inN c.depth.length) := by
  refine ⟨⟨?_, rfl, rfl⟩, fun H' hH x lim => ?_⟩
  · obtain ⟨⟨da, dc, ed, _⟩, ⟨ta, tc, et, _⟩, ⟨sa, sc, es, _⟩, _, _, _⟩ := hc
    simp [trCellF, trV, ed, et, es]
  · unfold trCellF
    rw [apL_bnd6 (by rfl) (by rfl)]
    exact run_trCell c x lim H' d t s (hc.ext hH) va vn vc

theorem openE_two {c : Ch} (hok : ChOk c) {a b : Nat} (ha : a < c.cells) (hb : b < c.cells) : openE c [(a : Int), (b : Int)] [] = 0 := by
  rw [openE_eq hok]
  simp only [List.all_cons, List.all_nil, Bool.and_true, inN_iff.2 ⟨a, ha, rfl⟩, inN_iff.2 ⟨b, hb, rfl⟩]
  rfl
theorem openE_ct {c : Ch} (hok : ChOk c) {a b : Nat} (ha : a < c.cells) (hb : b < c.ticks) : openE c [(a : Int)] [(b : Int)] = 0 := by
  rw [openE_eq hok]
  simp only [List.all_cons, List.all_nil, Bool.and_true, inN_iff.2 ⟨a, ha, rfl⟩, inN_iff.2 ⟨b, hb, rfl⟩]
  rfl

theorem run_holds (c : Ch) (hok : ChOk c) (lv dr : Int) (hu : unitB lv dr = true) {i k : Nat} (hi : i < c.cells) (hk : k < c.ticks) (lim : Nat) (H : AH) (d t s : Value) (hc : ChIn H c d t s) (va : Option Addr) (vn vc : Nat) :
    apL Tryz.prog pf (.func (.func 103) #[] #[]) [trV c d t s (.slice va vn vc), .int .i64 lv, .int .i64 dr, .int .i64 i, .int .i64 k] lim H = some (.bool (c.can lv dr i k), H) := by
  rw [apL_func _ _ _ _ _ _ (by rfl), sf_lanes_traffic_holds_eq]
  have hF := fun lim => run_Floats c lim H d t s hc dr i k
  obtain ⟨⟨da, dc, ed, _⟩, ⟨ta, tc, et, _⟩, ⟨sa, sc, es, _⟩, _, _, _⟩ := hc
  simp only [chV, ed, et, es, floatsR, Int.toNat_natCast] at hF
  by_cases h : lv = 0
  · have h' : (lv != 0) = false := by simpa using h
    have hdr : 1 ≤ dr ∧ dr ≤ 100 := by
      unfold unitB at hu
      rw [if_pos h] at hu
      simpa using hu
    have h0 : embE c dr [(i : Int)] [(k : Int)] = 0 := by rw [embE_of0 (openE_ct hok hi hk), if_pos hdr]
    simp only [h0, decide_true, Bool.true_and] at hF
    simp [sf_lanes_traffic_holds, trV, ed, et, es, h', hF, Ch.can, pf_pure, pureF]
  · have h' : (lv != 0) = true := by simpa using h
    simp [sf_lanes_traffic_holds, trV, ed, et, es, h', Ch.can, pf_pure, pureF]

theorem run_trApart (c : Ch) (hok : ChOk c) {i k : Nat} (hi : i < c.cells) (hk : k < c.cells) (lim : Nat) (H : AH) (d t s : Value) (hc : ChIn H c d t s) (va : Option Addr) (vn vc : Nat) :
    apL Tryz.prog pf (.func (.func 128) #[] #[]) [trV c d t s (.slice va vn vc), .int .i64 i, .int .i64 k] lim H = some (.int .i64 (apt c.w i k), H) := by
  rw [apL_func _ _ _ _ _ _ (by rfl), sf_lanes_traffic_apart_eq]
  have hA := fun lim => run_Apart c lim H d t s hc i k
  have h0 := openE_two hok hi hk
  obtain ⟨⟨da, dc, ed, _⟩, ⟨ta, tc, et, _⟩, ⟨sa, sc, es, _⟩, _, _, _⟩ := hc
  simp only [chV, ed, et, es, apartN, h0, if_true] at hA
  simp [sf_lanes_traffic_apart, trV, ed, et, es, hA, pf_pure, pureF]

/-! Spots. -/

def spoV (x : Sp) : Value := .agg #[.int .i64 x.now, .int .i64 x.bef, .int .i64 x.rear]

theorem run_spotOf (now bef : Int) (tl : Bool) (lim : Nat) (H : AH) : apL Tryz.prog pf (.func (.func 102) #[] #[]) [.int .i64 now, .int .i64 bef, .bool tl] lim H = some (spoV (spOf now bef tl), H) := by
  rw [apL_func _ _ _ _ _ _ (by rfl), sf_lanes_spotOf_eq]
  cases tl with
  | false => simp [sf_lanes_spotOf, spoV, spOf, pf_pure, pureF]
  | true =>
    by_cases h1 : now = -1
    · have h1' : (now != -1) = false := by simpa using h1
      simp [sf_lanes_spotOf, spoV, spOf, h1', h1, pf_pure, pureF]
    have h1' : (now != -1) = true := by simpa using h1
    by_cases h2 : bef = -1
    · have h2' : (bef != -1) = false := by simpa using h2
      simp [sf_lanes_spotOf, spoV, spOf, h1', h2', h1, h2, pf_pure, pureF]
    · have h2' : (bef != -1) = true := by simpa using h2
      simp [sf_lanes_spotOf, spoV, spOf, h1', h2', h1, h2, pf_pure, pureF]

theorem run_occ (x : Sp) (cell : Int) (lim : Nat) (H : AH) : apL Tryz.prog pf (.func (.func 94) #[] #[]) [spoV x, .int .i64 cell] lim H = some (.bool (x.occ cell), H) := by
  rw [apL_func _ _ _ _ _ _ (by rfl), sf_lanes_spot_occupies_eq]
  cases h1 : (x.now == cell) <;> simp [sf_lanes_spot_occupies, spoV, Sp.occ, h1, pf_pure, pureF]

theorem run_cla (x o : Sp) (lim : Nat) (H : AH) : apL Tryz.prog pf (.func (.func 80) #[] #[]) [spoV x, spoV o] lim H = some (.bool (x.cla o), H) := by
  rw [apL_func _ _ _ _ _ _ (by rfl), sf_lanes_spot_clashes_eq]
  have h1 := fun cell lim => run_occ x cell lim H
  simp only [spoV] at h1
  cases a1 : (x.now == -1)
  rotate_left
  · simp [sf_lanes_spot_clashes, spoV, Sp.cla, a1, pf_pure, pureF]
  cases a2 : (o.now == -1)
  rotate_left
  · simp [sf_lanes_spot_clashes, spoV, Sp.cla, a1, a2, pf_pure, pureF]
  cases a3 : x.occ o.now
  rotate_left
  · simp [sf_lanes_spot_clashes, spoV, Sp.cla, a1, a2, h1, a3, pf_pure, pureF]
  cases a4 : x.occ o.rear
  rotate_left
  · simp [sf_lanes_spot_clashes, spoV, Sp.cla, a1, a2, h1, a3, a4, pf_pure, pureF]
  cases a5 : (x.now == o.bef) <;> simp [sf_lanes_spot_clashes, spoV, Sp.cla, a1, a2, h1, a3, a4, a5, pf_pure, pureF]

theorem run_cellIn (l : Lg) (t : Int) (ht : -1000 ≤ t ∧ t ≤ 1000) (h0 : -1000 ≤ l.t0 ∧ l.t0 ≤ 1000) (lim : Nat) (H : AH) (v : Value) (hv : CsIn H v l) : apL Tryz.prog pf (.func (.func 112) #[] #[]) [lgV l v, .int .i64 t] lim H = some (.int .i64 (l.cel t), H) := by
  rw [apL_func _ _ _ _ _ _ (by rfl), sf_lanes_cellIn_eq]
  have hvB := hv.ext (Ext.push H [ABlk.rw 0 [.int .i64 0], .rw 0 [.int .i64 ((l.cs.length : Int) - 1)]])
  obtain ⟨⟨va, vc, rfl, _⟩, hl⟩ := hv
  obtain ⟨⟨_, _, eB, hd⟩, _⟩ := hvB
  cases eB
  have hw : IntKind.i64.wrap (t - l.t0) = t - l.t0 := wrap_i64 (by omega) (by omega)
  have hw2 : IntKind.i64.wrap ((l.cs.length : Int) - 1) = (l.cs.length : Int) - 1 := wrap_i64 (by omega) (by omega)
  obtain ⟨u, hu⟩ : ∃ u, u = t - l.t0 := ⟨_, rfl⟩
  rw [← hu] at hw
  have hb := ext_between H 0 ((l.cs.length : Int) - 1) u
  have hr := run_between
  simp only [betweenV] at hb hr
  by_cases hin : 0 ≤ u ∧ u ≤ (l.cs.length : Int) - 1
  · have hbb : (decide (0 ≤ u) && decide (u ≤ (l.cs.length : Int) - 1)) = true := by simpa using hin
    obtain ⟨j, hj⟩ : ∃ j : Nat, u = j := ⟨u.toNat, by omega⟩
    have hjl : j < l.cs.length := by omega
    obtain ⟨b1, o1, rfl, c1⟩ := hd j (.int .i64 l.cs[j]) (by simp [ints, hjl])
    have e : l.cel t = l.cs[j] := by
      unfold Lg.cel
      rw [if_pos (by omega), show (t - l.t0).toNat = j by omega]
      simp [hjl]
    rw [hbb] at hb
    subst hj
    simp only [hcell] at c1
    simp [sf_lanes_cellIn, lgV, ← hu, hw, hw2, hb, hr, hjl, c1, e, pf_pure, pureF]
  · have hbb : (decide (0 ≤ u) && decide (u ≤ (l.cs.length : Int) - 1)) = false := by simpa using hin
    have e : l.cel t = -1 := by
      unfold Lg.cel
      rw [if_neg (by omega)]
    rw [hbb] at hb
    simp [sf_lanes_cellIn, lgV, ← hu, hw, hw2, hb, hr, e, pf_pure, pureF]

theorem run_spotIn (l : Lg) (t : Int) (ht : -900 ≤ t ∧ t ≤ 900) (h0 : -1000 ≤ l.t0 ∧ l.t0 ≤ 1000) (lim : Nat) (H : AH) (v : Value) (hv : CsIn H v l) : apL Tryz.prog pf (.func (.func 79) #[] #[]) [lgV l v, .int .i64 t] lim H = some (spoV (l.sp t), H) := by
  rw [apL_func _ _ _ _ _ _ (by rfl), sf_lanes_spotIn_eq]
  have h1 := fun lim => run_cellIn l t (by omega) h0 lim H v hv
  have h2 := fun lim => run_cellIn l (t - 1) (by omega) h0 lim H v hv
  have hs := fun lim => run_spotOf (l.cel t) (l.cel (t - 1)) l.tl lim H
  have hw : IntKind.i64.wrap (t - 1) = t - 1 := wrap_i64 (by omega) (by omega)
  obtain ⟨⟨va, vc, rfl, hd⟩, hl⟩ := hv
  simp only [lgV] at h1 h2
  simp only [spoV] at hs
  simp [sf_lanes_spotIn, lgV, h1, h2, hw, hs, spoV, Lg.sp, pf_pure, pureF]
end Go.Proofs.YthobfecblpnnnaaGreatDoor
