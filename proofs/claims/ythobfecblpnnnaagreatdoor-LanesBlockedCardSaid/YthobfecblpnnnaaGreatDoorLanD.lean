/- Contracts of layer 6, the program: valid legs. -/
import Derived.Test.YthobfecblpnnnaaGreatDoorLanC
set_option linter.all false
namespace Go.Proofs.YthobfecblpnnnaaGreatDoor
open Go Go.RowKit

def wayAt (c : Ch) (l : Lg) (i : Nat) : Bool := c.can l.lv l.dr (l.cs.getD i 0).toNat (l.t0.toNat + i) && (i == 0 || decide (apt c.w (l.cs.getD (i - 1) 0) (l.cs.getD i 0) ≤ 1))
theorem wayB_eq (c : Ch) (l : Lg) : wayB c l = (List.range l.cs.length).all (wayAt c l) := rfl

def iwLoop : SC := sf_lanes_traffic_isWay.body.loops.headD .skip

theorem iw_loop (c : Ch) (hok : ChOk c) (l : Lg) (hu : unitB l.lv l.dr = true) {n0 : Nat} (h0 : l.t0 = n0) (h1 : n0 + l.cs.length ≤ c.ticks) (hin : l.cs.all (inN c.cells) = true) (H : AH) (d t s : Value) (hc : ChIn H c d t s) (va : Option Addr) (vn vc : Nat) (xa : Option Addr) (xc : Nat)
    (hv : Sl H (.slice xa l.cs.length xc) l.cs.length (ints l.cs)) (S : St) (h2 : tget S.t 2 = .pointer (some ⟨2, 0, some 0⟩)) (h3 : tget S.t 3 = .pointer (some ⟨3, 0, some 0⟩)) (h8 : tget S.t 8 = .slice xa l.cs.length xc) (h9 : tget S.t 9 = .int .i64 l.cs.length) (h10 : tget S.t 10 = .int .i64 0)
    (hL : S.L = [(3, 0, .cells [.int .i64 l.t0, .int .i64 l.lv, .int .i64 l.dr, .bool l.tl, .slice xa l.cs.length xc]), (2, 0, .cells [.int .i64 c.w, .int .i64 c.h, d, t, s, .slice va vn vc])]) (hH : S.H = H) :
    ∃ r, exL Tryz.prog pf (.loop iwLoop) S = some r ∧ r.2.H = H ∧ ((r.1 = .exit 0 ∧ ∀ i, i < l.cs.length → wayAt c l i = true) ∨ (r.1 = .ret ∧ tget r.2.t 4 = .bool false ∧ ∃ i, i < l.cs.length ∧ wayAt c l i = false)) := by
  have hT : c.ticks ≤ 60 := hok.2.2.2.1.2
  obtain ⟨aa, ac, e, hd⟩ := hv
  cases e
  have hHo := fun {m k : Nat} (hm : m < c.cells) (hk : k < c.ticks) lim => run_holds c hok l.lv l.dr hu hm hk lim H d t s hc va vn vc
  have hAp := fun {m k : Nat} (hm : m < c.cells) (hk : k < c.cells) lim => run_trApart c hok hm hk lim H d t s hc va vn vc
  obtain ⟨⟨da, dc, ed, _⟩, ⟨ta, tc, et, _⟩, ⟨sa, sc, es, _⟩, _, _, _⟩ := hc
  simp only [trV, ed, et, es] at hHo hAp hL
  refine loop_rule (I := fun n s' => ∃ i, i ≤ l.cs.length ∧ n = l.cs.length - i ∧ tget s'.t 2 = .pointer (some ⟨2, 0, some 0⟩) ∧ tget s'.t 3 = .pointer (some ⟨3, 0, some 0⟩) ∧ tget s'.t 8 = .slice xa l.cs.length xc ∧ tget s'.t 9 = .int .i64 l.cs.length ∧ tget s'.t 10 = .int .i64 i ∧ s'.L = S.L ∧ s'.H = H ∧ ∀ j, j < i → wayAt c l j = true) ?_ l.cs.length S
    ⟨0, by omega, by omega, h2, h3, h8, h9, h10, rfl, hH, by omega⟩
  rintro n s' ⟨i, hi, rfl, e2, e3, e8, e9, e10, eL, eH, et'⟩
  rw [hL] at eL
  by_cases hlt : i < l.cs.length
  rotate_left
  · have : i = l.cs.length := by omega
    subst this
    simp [iwLoop, SC.loops, sf_lanes_traffic_isWay, e8, e9, e10, eH]
    exact et'
  obtain ⟨m, hm, em⟩ := inN_iff.1 (List.all_eq_true.1 hin _ (List.getElem_mem hlt))
  obtain ⟨b1, o1, ea, c1⟩ := hd i (.int .i64 l.cs[i]) (by simp [ints, hlt])
  subst ea
  rw [em] at c1
  have hg : l.cs.getD i 0 = m := by simp [hlt, em]
  have hHo := fun lim => hHo hm (k := n0 + i) (by omega) lim
  have hw0 : IntKind.i64.wrap (l.t0 + (i : Int)) = ((n0 + i : Nat) : Int) := by rw [wrap_i64 (by omega) (by omega)]; omega
  have hw : IntKind.i64.wrap ((i : Int) + 1) = ((i + 1 : Nat) : Int) := by rw [wrap_i64 (by omega) (by omega)]; omega
  have hwa : wayAt c l i = (c.can l.lv l.dr m (n0 + i) && (i == 0 || decide (apt c.w (l.cs.getD (i - 1) 0) m ≤ 1))) := by
    unfold wayAt
    rw [hg, h0, Int.toNat_natCast, Int.toNat_natCast]
  have fin : wayAt c l i = true → ∀ j, j < i + 1 → wayAt c l j = true := fun hh j hj => by
    by_cases e : j = i
    · rw [e]; exact hh
    · exact et' j (by omega)
  simp only [hcell] at c1
  cases hcan : c.can l.lv l.dr m (n0 + i) with
  | false =>
    rw [hcan] at hHo hwa
    simp [-Int.natCast_add, iwLoop, SC.loops, sf_lanes_traffic_isWay, e2, e3, e8, e9, e10, eL, eH, hlt, c1, hw0, hHo]
    exact ⟨i, hlt, by simpa using hwa⟩
  | true =>
    rw [hcan] at hHo hwa
    cases i with
    | zero =>
      simp only [Nat.add_zero, Int.natCast_zero, Int.add_zero] at hw0 c1 hHo e10
      have hw : IntKind.i64.wrap 1 = 1 := by decide
      simp [-Int.natCast_add, iwLoop, SC.loops, sf_lanes_traffic_isWay, e2, e3, e8, e9, e10, eL, eH, hlt, c1, hw0, hHo, hw]
      first
        | exact ⟨_, by omega, 1, by omega, rfl, rfl, hL.symm, fin (by simpa using hwa)⟩
        | exact ⟨_, by omega, 1, by omega, rfl, hL.symm, fin (by simpa using hwa)⟩
        | exact ⟨_, by omega, 1, by omega, rfl, ⟨h2, h3⟩, rfl, hL.symm, fin (by simpa using hwa)⟩
        | exact ⟨_, by omega, 1, by omega, rfl, ⟨h2, h3⟩, hL.symm, fin (by simpa using hwa)⟩
    | succ j =>
      have hjl : j < l.cs.length := by omega
      obtain ⟨m', hm', em'⟩ := inN_iff.1 (List.all_eq_true.1 hin _ (List.getElem_mem hjl))
      obtain ⟨b2, o2, ea2, c2⟩ := hd j (.int .i64 l.cs[j]) (by simp [ints, hjl])
      cases ea2
      rw [em'] at c2
      have hg' : l.cs.getD j 0 = m' := by simp [hjl, em']
      have hAp := fun lim => hAp hm' hm lim
      have hw1 : IntKind.i64.wrap ((j + 1 : Nat) - 1 : Int) = (j : Int) := by rw [wrap_i64 (by omega) (by omega)]; omega
      rw [Nat.add_sub_cancel, hg'] at hwa
      have hpos : (0 : Int) < ((j + 1 : Nat) : Int) := by omega
      have hjl' : (j : Int) < l.cs.length := by omega
      have hj1 : ((j + 1 : Nat) : Int) < l.cs.length := by omega
      simp only [hcell] at c2
      by_cases hap : apt c.w m' m ≤ 1
      · have hap' : ¬ (1 < apt c.w m' m) := by omega
        simp [-Int.natCast_add, iwLoop, SC.loops, sf_lanes_traffic_isWay, e2, e3, e8, e9, e10, eL, eH, hlt, hjl, hjl', hj1, hpos, c1, c2, hw0, hHo, hw, hw1, hAp, hap']
        exact ⟨_, by omega, j + 2, by omega, rfl, rfl, hL.symm, fin (by simpa [hap] using hwa)⟩
      · have hap' : 1 < apt c.w m' m := by omega
        simp [-Int.natCast_add, iwLoop, SC.loops, sf_lanes_traffic_isWay, e2, e3, e8, e9, e10, eL, eH, hlt, hjl, hjl', hj1, hpos, c1, c2, hw0, hHo, hw1, hAp, hap']
        exact ⟨j + 1, hlt, by simpa [hap] using hwa⟩

theorem run_isWay (c : Ch) (hok : ChOk c) (l : Lg) (hu : unitB l.lv l.dr = true) {n0 : Nat} (h0 : l.t0 = n0) (h1 : n0 + l.cs.length ≤ c.ticks) (hin : l.cs.all (inN c.cells) = true) (H : AH) (d t s : Value) (hc : ChIn H c d t s) (va : Option Addr) (vn vc : Nat) (v : Value) (hv : CsIn H v l) (lim : Nat) :
    apL Tryz.prog pf (.func (.func 111) #[] #[]) [trV c d t s (.slice va vn vc), lgV l v] lim H = some (.bool (wayB c l), H) := by
  rw [apL_func _ _ _ _ _ _ (by rfl), sf_lanes_traffic_isWay_eq]
  obtain ⟨hv, _⟩ := hv
  have hv0 := hv
  obtain ⟨xa, xc, rfl, _⟩ := hv0
  have key := iw_loop c hok l hu h0 h1 hin H d t s hc va vn vc xa xc hv
  obtain ⟨⟨da, dc, ed, _⟩, ⟨ta, tc, et, _⟩, ⟨sa, sc, es, _⟩, _, _, _⟩ := hc
  simp [sf_lanes_traffic_isWay, trV, lgV, ed, et, es, pf_pure, pureF]
  generalize hS : ({ t := _, L := _, H := _, lim := _, rd := _ } : St) = S
  obtain ⟨⟨e, s1⟩, hr, q2, q3⟩ := key S (by subst hS; simp) (by subst hS; simp) (by subst hS; simp) (by subst hS; simp) (by subst hS; simp) (by subst hS; simp [ed, et, es]) (by subst hS; rfl)
  simp [iwLoop, SC.loops, sf_lanes_traffic_isWay] at hr
  rw [hr]
  simp only at q2 q3
  rw [wayB_eq]
  rcases q3 with ⟨rfl, h⟩ | ⟨rfl, h4, i, hi, h⟩
  · have : (List.range l.cs.length).all (wayAt c l) = true := List.all_eq_true.2 fun i hi => h i (List.mem_range.1 hi)
    simp [-List.all_eq_true, this, q2]
  · have : (List.range l.cs.length).all (wayAt c l) = false := List.all_eq_false.2 ⟨i, List.mem_range.2 hi, by simp [h]⟩
    simp [-List.all_eq_false, this, h4, q2]

theorem run_isLeg (c : Ch) (hok : ChOk c) (l : Lg) (H : AH) (d t s : Value) (hc : ChIn H c d t s) (va : Option Addr) (vn vc : Nat) (v : Value) (hv : CsIn H v l) (lim : Nat) :
    apL Tryz.prog pf (.func (.func 78) #[] #[]) [trV c d t s (.slice va vn vc), lgV l v] lim H = some (.bool (lgOk c l), H) := by
  rw [apL_func _ _ _ _ _ _ (by rfl), sf_lanes_traffic_isLeg_eq]
  have hT : c.ticks ≤ 60 := hok.2.2.2.1.2
  have hU := fun lim => run_isUnit l.lv l.dr lim H
  have hTk := fun x lim => run_trTick c x lim H d t s hc va vn vc
  have hAll := fun lim => run_all l.cs hv.2 H lim v _ _ hv.1 (isP_trCell c H d t s hc va vn vc)
  have hW := fun hu {n0 : Nat} (h0 : l.t0 = n0) h1 hin lim => run_isWay c hok l hu h0 h1 hin H d t s hc va vn vc v hv lim
  obtain ⟨⟨xa, xc, rfl, _⟩, hl⟩ := hv
  obtain ⟨⟨da, dc, ed, _⟩, ⟨ta, tc, et, _⟩, ⟨sa, sc, es, _⟩, _, _, _⟩ := hc
  simp only [trV, trCellF, lgV, ed, et, es] at hTk hAll hW ⊢
  cases a1 : unitB l.lv l.dr with
  | false =>
    rw [a1] at hU
    simp [sf_lanes_traffic_isLeg, hU, lgOk, a1, pf_pure, pureF]
  | true =>
  rw [a1] at hU
  by_cases a2 : 0 < l.cs.length
  rotate_left
  · have a2' : l.cs.length = 0 := by omega
    simp [sf_lanes_traffic_isLeg, hU, lgOk, a1, a2', pf_pure, pureF]
  cases a3 : inN c.tide.length l.t0 with
  | false =>
    have hTk1 := fun lim => hTk l.t0 lim
    rw [a3] at hTk1
    have a3' : inN c.ticks l.t0 = false := a3
    simp [sf_lanes_traffic_isLeg, hU, lgOk, a1, a2, hTk1, a3', pf_pure, pureF]
  | true =>
  have hTk1 := fun lim => hTk l.t0 lim
  rw [a3] at hTk1
  have a3' : inN c.ticks l.t0 = true := a3
  obtain ⟨n0, hn0, e0⟩ := inN_iff.1 a3'
  by_cases hbig : (l.cs.length : Int) < 9000000000000000
  rotate_left
  · -- a list that is far too long is not a leg either
    have hw : IntKind.i64.wrap (l.t0 + (l.cs.length : Int)) = l.t0 + (l.cs.length : Int) := wrap_i64 (by omega) (by omega)
    have hw2 : IntKind.i64.wrap (l.t0 + (l.cs.length : Int) - 1) = l.t0 + (l.cs.length : Int) - 1 := wrap_i64 (by omega) (by omega)
    have a4 : inN c.tide.length (l.t0 + (l.cs.length : Int) - 1) = false := by
      cases h : inN c.tide.length (l.t0 + (l.cs.length : Int) - 1) with
      | false => rfl
      | true =>
        obtain ⟨y, hy, ey⟩ := inN_iff.1 h
        have : (y : Int) < 60 := by have : c.tide.length ≤ 60 := hT; omega
        omega
    have a4' : ¬ (l.t0 + (l.cs.length : Int) ≤ c.ticks) := by omega
    have hTk2 := fun lim => hTk (l.t0 + (l.cs.length : Int) - 1) lim
    rw [a4] at hTk2
    simp [sf_lanes_traffic_isLeg, hU, lgOk, a1, a2, hTk1, a3', hw, hw2, hTk2, a4', pf_pure, pureF]
  have hw : IntKind.i64.wrap (l.t0 + (l.cs.length : Int)) = l.t0 + (l.cs.length : Int) := wrap_i64 (by omega) (by omega)
  have hw2 : IntKind.i64.wrap (l.t0 + (l.cs.length : Int) - 1) = l.t0 + (l.cs.length : Int) - 1 := wrap_i64 (by omega) (by omega)
  by_cases a4 : l.t0 + (l.cs.length : Int) ≤ c.ticks
  rotate_left
  · have a4' : inN c.tide.length (l.t0 + (l.cs.length : Int) - 1) = false := by
      cases h : inN c.tide.length (l.t0 + (l.cs.length : Int) - 1) with
      | false => rfl
      | true =>
        obtain ⟨y, hy, ey⟩ := inN_iff.1 h
        have hy : y < c.ticks := hy
        omega
    have hTk2 := fun lim => hTk (l.t0 + (l.cs.length : Int) - 1) lim
    rw [a4'] at hTk2
    simp [sf_lanes_traffic_isLeg, hU, lgOk, a1, a2, hTk1, a3', hw, hw2, hTk2, a4, pf_pure, pureF]
  have a4' : inN c.tide.length (l.t0 + (l.cs.length : Int) - 1) = true := inN_iff.2 ⟨n0 + l.cs.length - 1, by show _ < c.ticks; omega, by omega⟩
  have hTk2 := fun lim => hTk (l.t0 + (l.cs.length : Int) - 1) lim
  rw [a4'] at hTk2
  cases a5 : l.cs.all (inN c.depth.length) with
  | false =>
    rw [a5] at hAll
    have a5' : l.cs.all (inN c.cells) = false := a5
    simp [-List.all_eq_false, sf_lanes_traffic_isLeg, hU, lgOk, a1, a2, hTk1, a3', hw, hw2, hTk2, a4, hAll, a5', pf_pure, pureF]
  | true =>
    rw [a5] at hAll
    have a5' : l.cs.all (inN c.cells) = true := a5
    have hW := fun lim => hW a1 e0 (by omega) a5' lim
    simp [-List.all_eq_true, sf_lanes_traffic_isLeg, hU, lgOk, a1, a2, hTk1, a3', hw, hw2, hTk2, a4, hAll, a5', hW, pf_pure, pureF]

def trLegF (c : Ch) (d t s v : Value) : Value := .func (.func 78) #[trV c d t s v] #[]
theorem isG_leg (c : Ch) (hok : ChOk c) (H : AH) (d t s : Value) (hc : ChIn H c d t s) (va : Option Addr) (vn vc : Nat) : IsG H (trLegF c d t s (.slice va vn vc)) (lgOk c) := by
  refine ⟨⟨?_, rfl, rfl⟩, fun H' hH l v hv lim => ?_⟩
  · obtain ⟨⟨da, dc, ed, _⟩, ⟨ta, tc, et, _⟩, ⟨sa, sc, es, _⟩, _, _, _⟩ := hc
    simp [trLegF, trV, ed, et, es]
  · unfold trLegF
    rw [apL_bnd6 (by rfl) (by rfl)]
    exact run_isLeg c hok l H' d t s (hc.ext hH) va vn vc v hv lim

def allLoopG : SC := sf_checks_All_api_Leg.body.loops.headD .skip

theorem allLoopG_run (xs : List Lg) (H : AH) (v f : Value) (p : Lg → Bool) (hv : LgIn H v xs) (hp : IsGo xs H f p) (S : St) (h1 : tget S.t 1 = f) (h7 : tget S.t 7 = v) (h8 : tget S.t 8 = .int .i64 xs.length) (h9 : tget S.t 9 = .int .i64 0) (hH : S.H = H) :
    ∃ r, exL Tryz.prog pf (.loop allLoopG) S = some r ∧ r.2.H = H ∧ ((r.1 = .exit 0 ∧ xs.all p = true) ∨ (r.1 = .ret ∧ tget r.2.t 4 = .bool false ∧ xs.all p = false)) := by
  obtain ⟨aa, ac, ev⟩ := hv.sl.one
  have hlen := hv.n
  obtain ⟨⟨hn, _⟩, hp⟩ := hp
  have hp := fun l hl s hs lim => hp H (Ext.refl H) l hl s hs lim
  refine loop_rule (I := fun n s' => ∃ i, i ≤ xs.length ∧ n = xs.length - i ∧ tget s'.t 1 = f ∧ tget s'.t 7 = .slice aa xs.length ac ∧ tget s'.t 8 = .int .i64 xs.length ∧ tget s'.t 9 = .int .i64 i ∧ s'.H = H ∧ ∀ j (h : j < xs.length), j < i → p xs[j] = true) ?_ xs.length S ⟨0, by omega, by omega, h1, by rw [h7, ev], h8, h9, hH, by omega⟩
  rintro n s' ⟨i, hi, rfl, e1, e7, e8, e9, eH, et⟩
  by_cases hlt : i < xs.length
  · obtain ⟨b1, o1, ac1, ca, cc, e, c0, c1, c2, c3, c4, hsl⟩ := hv.sl.get hlt
    rw [ev] at e
    cases e
    have hps : ∀ lim, apL Tryz.prog pf f [lgV xs[i] (.slice ca xs[i].cs.length cc)] lim H = some (.bool (p xs[i]), H) := fun lim => hp xs[i] (List.getElem_mem hlt) _ ⟨hsl, hv.cl _ (List.getElem_mem hlt)⟩ lim
    have hw : IntKind.i64.wrap ((i : Int) + 1) = (i : Int) + 1 := wrap_i64 (by omega) (by omega)
    generalize hq : xs[i] = q at *
    simp only [hcell, lgV] at c0 c1 c2 c3 c4 hps
    cases hx : p q with
    | true =>
      simp [allLoopG, SC.loops, sf_checks_All_api_Leg, e1, e7, e8, e9, eH, hlt, c0, c1, c2, c3, c4, hw, hn, hps, hx]
      exact ⟨_, by omega, i + 1, by omega, rfl, by omega, fun j h hj => by
        by_cases e : j = i
        · subst e; rw [hq]; exact hx
        · exact et j h (by omega)⟩
    | false =>
      simp [allLoopG, SC.loops, sf_checks_All_api_Leg, e1, e7, e8, e9, eH, hlt, c0, c1, c2, c3, c4, hw, hn, hps, hx]
      exact ⟨q, by rw [← hq]; exact List.getElem_mem hlt, hx⟩
  · have : i = xs.length := by omega
    subst this
    simp [allLoopG, SC.loops, sf_checks_All_api_Leg, e1, e7, e8, e9, eH]
    intro x hx
    obtain ⟨j, h, e⟩ := List.mem_iff_getElem.1 hx
    rw [← e]; exact et j h h

theorem run_allG (xs : List Lg) (H : AH) (lim : Nat) (v f : Value) (p : Lg → Bool) (hv : LgIn H v xs) (hp : IsGo xs H f p) :
    apL Tryz.prog pf (.func (.func 77) #[] #[]) [v, f] lim H = some (.bool (xs.all p), H) := by
  rw [apL_func _ _ _ _ _ _ (by rfl), sf_checks_All_api_Leg_eq]
  obtain ⟨aa, ac, ev⟩ := hv.sl.one
  simp [sf_checks_All_api_Leg, ev]
  generalize hS : ({ t := _, L := _, H := _, lim := _, rd := _ } : St) = S
  obtain ⟨⟨e, s1⟩, hr, q2, q3⟩ := allLoopG_run xs H v f p hv hp S (by subst hS; simp) (by subst hS; simp [ev]) (by subst hS; simp) (by subst hS; simp) (by subst hS; rfl)
  simp [allLoopG, SC.loops, sf_checks_All_api_Leg] at hr
  rw [hr]
  simp only at q2 q3
  rcases q3 with ⟨rfl, h⟩ | ⟨rfl, h4, h⟩
  · simp [h, q2, pf_pure, pureF]
  · simp [h, h4, q2, pf_pure, pureF]

open Classical in
/-- The error of a chart and legs. -/
noncomputable def legE (c : Ch) (ls : List Lg) : Int := if ChOk c then (if ls.length ≤ 12 ∧ ls.all (lgOk c) = true then 0 else 60) else 10
theorem legE_zero {c : Ch} {ls : List Lg} : legE c ls = 0 ↔ ChOk c ∧ ls.length ≤ 12 ∧ ls.all (lgOk c) = true := by
  unfold legE
  split
  · rename_i h
    split
    · rename_i h2; exact ⟨fun _ => ⟨h, h2⟩, fun _ => rfl⟩
    · rename_i h2; exact ⟨fun h' => absurd h' (by decide), fun h' => absurd h'.2 h2⟩
  · rename_i h; exact ⟨fun h' => absurd h' (by decide), fun h' => absurd h'.1 h⟩

theorem run_lopen (c : Ch) (ls : List Lg) (H : AH) (d t s v : Value) (hc : ChIn H c d t s) (hv : LgIn H v ls) (lim : Nat) :
    apL Tryz.prog pf (.func (.func 46) #[] #[]) [chV c d t s, v] lim H = some (.tuple #[if legE c ls = 0 then trV c d t s v else noTr, .int .i64 (legE c ls)], H) := by
  rw [apL_func _ _ _ _ _ _ (by rfl), sf_lanes_open_eq]
  have hK := fun lim => run_chartCheck c lim H d t s hc
  obtain ⟨va, vc, ev⟩ := hv.sl.one
  by_cases hok : ChOk c
  rotate_left
  · have h0 : legE c ls = 10 := by unfold legE; rw [if_neg hok]
    obtain ⟨⟨da, dc, ed, _⟩, ⟨ta, tc, et, _⟩, ⟨sa, sc, es, _⟩, _, _, _⟩ := hc
    simp only [chV, ed, et, es, hok, if_false] at hK
    simp [sf_lanes_open, chV, ed, et, es, ev, hK, h0, noTr, pf_pure, pureF]
  have hA := fun lim => run_allG ls H lim v _ _ hv ((isG_leg c hok H d t s hc va ls.length vc).on ls)
  obtain ⟨⟨da, dc, ed, _⟩, ⟨ta, tc, et, _⟩, ⟨sa, sc, es, _⟩, _, _, _⟩ := hc
  simp only [chV, trLegF, trV, ed, et, es, ev, hok, if_true] at hK hA
  by_cases h1 : ls.length ≤ 12
  rotate_left
  · have h0 : legE c ls = 60 := by unfold legE; rw [if_pos hok, if_neg (fun h => h1 h.1)]
    have h1' : 12 < ls.length := by omega
    have hI1 : ¬ (ls.length : Int) ≤ 12 := by omega
    have hI2 : (12 : Int) < ls.length := by omega
    simp [sf_lanes_open, chV, ed, et, es, ev, hK, h1', hI1, hI2, h0, noTr, pf_pure, pureF]
  have h1' : ¬ 12 < ls.length := by omega
  have hI1 : (ls.length : Int) ≤ 12 := by omega
  have hI2 : ¬ (12 : Int) < ls.length := by omega
  cases h2 : ls.all (lgOk c) with
  | false =>
    have h0 : legE c ls = 60 := by unfold legE; rw [if_pos hok, if_neg (by simp [h2])]
    rw [h2] at hA
    simp [-List.all_eq_false, sf_lanes_open, chV, ed, et, es, ev, hK, h1', hI1, hI2, hA, h0, noTr, pf_pure, pureF]
  | true =>
    have h0 : legE c ls = 0 := legE_zero.2 ⟨hok, h1, h2⟩
    rw [h2] at hA
    simp [-List.all_eq_true, sf_lanes_open, chV, ed, et, es, ev, hK, h1', hI1, hI2, hA, h0, trV, pf_pure, pureF]

theorem run_lCheck (c : Ch) (ls : List Lg) (H : AH) (d t s v : Value) (hc : ChIn H c d t s) (hv : LgIn H v ls) (lim : Nat) :
    apL Tryz.prog pf (.func (.func 30) #[] #[]) [chV c d t s, v] lim H = some (.int .i64 (legE c ls), H) := by
  rw [apL_func _ _ _ _ _ _ (by rfl), sf_lanes_Check_eq]
  have hO := fun lim => run_lopen c ls H d t s v hc hv lim
  obtain ⟨va, vc, ev⟩ := hv.sl.one
  obtain ⟨⟨da, dc, ed, _⟩, ⟨ta, tc, et, _⟩, ⟨sa, sc, es, _⟩, _, _, _⟩ := hc
  simp only [chV, trV, noTr, ed, et, es, ev] at hO
  by_cases h0 : legE c ls = 0
  · simp only [h0, if_true] at hO
    simp [sf_lanes_Check, chV, ed, et, es, ev, hO, h0, pf_pure, pureF]
  · simp only [h0, if_false] at hO
    simp [sf_lanes_Check, chV, ed, et, es, ev, hO, pf_pure, pureF]
end Go.Proofs.YthobfecblpnnnaaGreatDoor
