import Derived.Test.YtmdnpaboaelkeaaGreatDoorWorks
import Derived.Test.YtmdnpaboaelkeaaGreatDoorStep
import Derived.Test.YtmdnpaboaelkeaaGreatDoorBunVA
set_option linter.all false
namespace Go.Proofs.YtmdnpaboaelkeaaGreatDoor
open Go Go.RowKit
theorem pf_pure (f : FuncId) : pf.pure f = pureF f := rfl
theorem wrap_i64 {n : Int} (h0 : -9223372036854775808 ≤ n) (h1 : n < 9223372036854775808) : IntKind.i64.wrap n = n := by rw [IntKind.wrap_i64]; omega
def Sl (H : AH) (v : Value) (n : Nat) (cells : List Value) : Prop := ∃ a c, v = .slice a n c ∧ ∀ (j : Nat) x, cells[j]? = some x → ∃ b o, a = some ⟨b, o, none⟩ ∧ hcell H b (o + j) = some x
def ints (l : List Int) : List Value := l.map (.int .i64)
@[simp] theorem run_from (n l h : Int) (lim : Nat) (H : AH) : apL Tryz.prog pf (.func (.func 74) #[] #[]) [.int .i64 n, .int .i64 l, .int .i64 h] lim H = some (.bool (decide (l ≤ n) && decide (n ≤ h)), H) := by
  rw [apL_func _ _ _ _ _ _ (by rfl), sf_cobleref01_from_eq]
  by_cases h1 : l ≤ n <;> simp [sf_cobleref01_from, h1, pf_pure, pureF]
@[simp] theorem run_Cells (w h : Int) (r : List Value) (lim : Nat) (H : AH) : apL Tryz.prog pf (.func (.func 75) #[] #[]) [.agg (.int .i64 w :: .int .i64 h :: r).toArray] lim H = some (.int .i64 (IntKind.i64.wrap (w * h)), H) := by
  rw [apL_func _ _ _ _ _ _ (by rfl), sf_cobleref01_Cells_eq]
  simp [sf_cobleref01_Cells, pf_pure, pureF]
@[simp] theorem run_distance (a b : Int) (lim : Nat) (H : AH) : apL Tryz.prog pf (.func (.func 147) #[] #[]) [.int .i64 a, .int .i64 b] lim H = some (.int .i64 (if IntKind.i64.wrap (b - a) > IntKind.i64.wrap (a - b) then IntKind.i64.wrap (b - a) else IntKind.i64.wrap (a - b)), H) := by
  rw [apL_func _ _ _ _ _ _ (by rfl), sf_chart_distance_eq]
  simp [sf_chart_distance, pf_pure, pureF]
theorem run_east (x w : Int) (hw : w ≠ 0) (r : List Value) (lim : Nat) (H : AH) : apL Tryz.prog pf (.func (.func 148) #[] #[]) [.agg (.int .i64 w :: r).toArray, .int .i64 x] lim H =
    some (.int .i64 (IntKind.i64.wrap (IntKind.i64.wrap (x.tmod w * 2) + (IntKind.i64.wrap (x.tdiv w)).tmod 2)), H) := by
  rw [apL_func _ _ _ _ _ _ (by rfl), sf_chart_sea_east_eq]
  simp [sf_chart_sea_east, pf, pureF, hw]
end Go.Proofs.YtmdnpaboaelkeaaGreatDoor
namespace Go.Proofs.YtmdnpaboaelkeaaGreatDoor
open Go Go.RowKit
def spans (l : List (Int × Int)) : List Value := l.flatMap fun (a, b) => [.int .i64 a, .int .i64 b]
structure Ch where
  w : Int
  h : Int
  depth : List Int
  tide : List (Int × Int)
  swell : List Int
structure ChIn (H : AH) (c : Ch) (d t s : Value) : Prop where
  d : Sl H d c.depth.length (ints c.depth)
  t : Sl H t c.tide.length (spans c.tide)
  s : Sl H s c.swell.length (ints c.swell)
  dl : c.depth.length < 2 ^ 62
  tl : c.tide.length < 2 ^ 62
  sl : c.swell.length < 2 ^ 62
structure ChSl (A : AH) (c : Ch) (d t s : Value) : Prop where
  d : Sl A d c.depth.length (ints c.depth)
  t : Sl A t c.tide.length (spans c.tide)
  s : Sl A s c.swell.length (ints c.swell)
def chV (c : Ch) (d t s : Value) : Value := .agg #[.int .i64 c.w, .int .i64 c.h, d, t, s]
def checkLoop1 : SC := match sf_cobleref01_Check.body with | .seq _ (.seq _ (.seq (.seq _ (.block _ (.loop b))) _)) => b | _ => .skip
theorem check_loop1 (c : Ch) (H : AH) (d t s : Value) (hc : ChIn H c d t s) (S : St) (h1 : tget S.t 1 = .pointer (some ⟨1, 0, some 0⟩)) (h3 : tget S.t 3 = .int .i64 0) (hL : S.L = [(1, 0, .cells [.int .i64 c.w, .int .i64 c.h, d, t, s])]) (hH : S.H = H) :
    ∃ r, exL Tryz.prog pf (.loop checkLoop1) S = some r ∧ r.2.L = S.L ∧ r.2.H = H ∧ tget r.2.t 1 = tget S.t 1 ∧ ((r.1 = .exit 0 ∧ ∀ x ∈ c.depth, -1000 ≤ x ∧ x ≤ 1000) ∨ (r.1 = .ret ∧ tget r.2.t 2 = .int .i64 10 ∧ ¬ ∀ x ∈ c.depth, -1000 ≤ x ∧ x ≤ 1000)) := by
  obtain ⟨da, dc, rfl, hd⟩ := hc.d
  have hdl := hc.dl
  refine loop_rule (I := fun n s' => ∃ i, i ≤ c.depth.length ∧ n = c.depth.length - i ∧ tget s'.t 1 = .pointer (some ⟨1, 0, some 0⟩) ∧ tget s'.t 3 = .int .i64 i ∧ s'.L = S.L ∧ s'.H = H ∧ ∀ x ∈ c.depth.take i, -1000 ≤ x ∧ x ≤ 1000) ?_ c.depth.length S ⟨0, by omega, by omega, h1, h3, rfl, hH, by simp⟩
  rintro n s' ⟨i, hi, rfl, e1, e3, eL, eH, et⟩
  rw [hL] at eL
  by_cases hlt : i < c.depth.length
  · obtain ⟨b1, o1, rfl, c1⟩ := hd i (.int .i64 c.depth[i]) (by simp [ints, hlt])
    have hw : IntKind.i64.wrap ((i : Int) + 1) = (i : Int) + 1 := wrap_i64 (by omega) (by omega)
    simp only [hcell] at c1
    by_cases hin : -1000 ≤ c.depth[i] ∧ c.depth[i] ≤ 1000
    · simp [checkLoop1, sf_cobleref01_Check, e1, e3, eL, eH, hlt, c1, hw, hin, hL, h1]
      refine ⟨_, by omega, i + 1, by omega, rfl, by omega, ?_⟩
      intro x hx
      rw [List.take_add_one, List.mem_append] at hx
      rcases hx with hx | hx
      · exact et x hx
      · simp [hlt] at hx
        subst hx
        exact hin
    · have hb : (decide (-1000 ≤ c.depth[i]) && decide (c.depth[i] ≤ 1000)) = false := by simpa using hin
      simp [checkLoop1, sf_cobleref01_Check, e1, e3, eL, eH, hlt, c1, hw, hb, hL, h1]
      exact ⟨c.depth[i], by simp, fun h => by omega⟩
  · have : i = c.depth.length := by omega
    subst this
    simp [checkLoop1, sf_cobleref01_Check, e1, e3, eL, eH, hL, h1]
    simpa using et
def checkLoop2 : SC := match sf_cobleref01_Check.body with | .seq _ (.seq _ (.seq _ (.seq (.seq _ (.block _ (.loop b))) _))) => b | _ => .skip
def tickOk (p : Int × Int) (x : Int) : Prop := 0 ≤ p.1 ∧ p.1 ≤ p.2 ∧ p.2 ≤ 200 ∧ 0 ≤ x ∧ x ≤ 100
theorem spans_get {l : List (Int × Int)} {i : Nat} (h : i < l.length) : (spans l)[i * 2]? = some (.int .i64 l[i].1) ∧ (spans l)[i * 2 + 1]? = some (.int .i64 l[i].2) := by
  induction l generalizing i with
  | nil => simp at h
  | cons p l ih =>
    obtain ⟨a, b⟩ := p
    cases i with
    | zero => simp [spans]
    | succ i =>
      have := ih (i := i) (by simpa using h)
      simp only [spans, List.flatMap_cons] at this ⊢
      rw [show (i + 1) * 2 = i * 2 + 2 by omega, show i * 2 + 2 + 1 = (i * 2 + 1) + 2 by omega]
      simpa using this
theorem check_loop2 (c : Ch) (H : AH) (d t s : Value) (hc : ChIn H c d t s) (hts : c.swell.length = c.tide.length) (S : St) (h1 : tget S.t 1 = .pointer (some ⟨1, 0, some 0⟩)) (h4 : tget S.t 4 = .int .i64 0) (hL : S.L = [(1, 0, .cells [.int .i64 c.w, .int .i64 c.h, d, t, s])]) (hH : S.H = H) :
    ∃ r, exL Tryz.prog pf (.loop checkLoop2) S = some r ∧ r.2.L = S.L ∧ r.2.H = H ∧ tget r.2.t 1 = tget S.t 1 ∧ ((r.1 = .exit 2 ∧ ∀ i (h : i < c.tide.length) (h' : i < c.swell.length), tickOk c.tide[i] c.swell[i]) ∨
      (r.1 = .ret ∧ tget r.2.t 2 = .int .i64 10 ∧ ¬ ∀ i (h : i < c.tide.length) (h' : i < c.swell.length), tickOk c.tide[i] c.swell[i])) := by
  obtain ⟨ta, tc, rfl, ht⟩ := hc.t
  obtain ⟨sa, sc, rfl, hs⟩ := hc.s
  have htl := hc.tl
  refine loop_rule (I := fun n s' => ∃ i, i ≤ c.tide.length ∧ n = c.tide.length - i ∧ tget s'.t 1 = .pointer (some ⟨1, 0, some 0⟩) ∧ tget s'.t 4 = .int .i64 i ∧ s'.L = S.L ∧ s'.H = H ∧ ∀ j (h : j < c.tide.length) (h' : j < c.swell.length), j < i → tickOk c.tide[j] c.swell[j]) ?_ c.tide.length S ⟨0, by omega, by omega, h1, h4, rfl, hH, by omega⟩
  rintro n s' ⟨i, hi, rfl, e1, e4, eL, eH, et⟩
  rw [hL] at eL
  by_cases hlt : i < c.tide.length
  · have hlt2 : i < c.swell.length := by omega
    obtain ⟨b1, o1, rfl, c1⟩ := ht (i * 2) _ (spans_get hlt).1
    obtain ⟨b1', o1', e, c1'⟩ := ht (i * 2 + 1) _ (spans_get hlt).2
    cases e
    obtain ⟨b2, o2, rfl, c2⟩ := hs i (.int .i64 c.swell[i]) (by simp [ints, hlt2])
    have hw : IntKind.i64.wrap ((i : Int) + 1) = (i : Int) + 1 := wrap_i64 (by omega) (by omega)
    have e' : o1 + (i * 2 + 1) = o1 + i * 2 + 1 := by omega
    rw [e'] at c1'
    simp only [hcell] at c1 c1' c2
    by_cases ha : (decide (0 ≤ c.tide[i].1) && decide (c.tide[i].1 ≤ c.tide[i].2)) = true
    · by_cases hb : c.tide[i].2 > 200
      · simp [checkLoop2, sf_cobleref01_Check, e1, e4, eL, eH, hlt, hlt2, c1, c1', c2, hw, ha, hb, hL, h1]
        exact ⟨i, hlt, hlt2, fun h => by have := h.2.2.1; omega⟩
      · by_cases hd : (decide (0 ≤ c.swell[i]) && decide (c.swell[i] ≤ 100)) = true
        · simp [checkLoop2, sf_cobleref01_Check, e1, e4, eL, eH, hlt, hlt2, c1, c1', c2, hw, ha, hb, hd, hL, h1]
          simp only [Bool.and_eq_true, decide_eq_true_eq] at ha hd
          refine ⟨_, by omega, i + 1, by omega, rfl, by omega, fun j h h' hj => ?_⟩
          by_cases hji : j = i
          · subst hji; exact ⟨ha.1, ha.2, by omega, hd.1, hd.2⟩
          · exact et j h h' (by omega)
        · simp [checkLoop2, sf_cobleref01_Check, e1, e4, eL, eH, hlt, hlt2, c1, c1', c2, hw, ha, hb, hd, hL, h1]
          exact ⟨i, hlt, hlt2, fun h => hd (by simp [h.2.2.2.1, h.2.2.2.2])⟩
    · simp [checkLoop2, sf_cobleref01_Check, e1, e4, eL, eH, hlt, hlt2, c1, c1', c2, hw, ha, hL, h1]
      exact ⟨i, hlt, hlt2, fun h => ha (by simp [h.1, h.2.1])⟩
  · have : i = c.tide.length := by omega
    subst this
    simp [checkLoop2, sf_cobleref01_Check, e1, e4, eL, eH, hL, h1]
    exact fun j h h' => et j h h' h
def ChOk (c : Ch) : Prop := (1 ≤ c.w ∧ c.w ≤ 12) ∧ (1 ≤ c.h ∧ c.h ≤ 12) ∧ (c.depth.length : Int) = c.w * c.h ∧ (1 ≤ c.tide.length ∧ c.tide.length ≤ 60) ∧ c.swell.length = c.tide.length ∧ (∀ x ∈ c.depth, -1000 ≤ x ∧ x ≤ 1000) ∧
  ∀ i (h : i < c.tide.length) (h' : i < c.swell.length), tickOk c.tide[i] c.swell[i]
open Classical in
theorem run_Check (c : Ch) (lim : Nat) (H : AH) (d t s : Value) (hc : ChIn H c d t s) : apL Tryz.prog pf (.func (.func 57) #[] #[]) [chV c d t s] lim H = some (.int .i64 (if ChOk c then 0 else 10), H) := by
  rw [apL_func _ _ _ _ _ _ (by rfl), sf_cobleref01_Check_eq]
  have hc' := hc
  obtain ⟨⟨da, dc, ed, _⟩, ⟨ta, tc, et, _⟩, ⟨sa, sc, es, _⟩, _, _, _⟩ := hc'
  by_cases a1 : 1 ≤ c.w ∧ c.w ≤ 12
  rotate_left
  · have b1 : (decide (1 ≤ c.w) && decide (c.w ≤ 12)) = false := by simpa using a1
    have : ¬ ChOk c := fun h => a1 h.1
    simp [sf_cobleref01_Check, chV, b1, this, pf_pure, pureF]
  by_cases a2 : 1 ≤ c.h ∧ c.h ≤ 12
  rotate_left
  · have b2 : (decide (1 ≤ c.h) && decide (c.h ≤ 12)) = false := by simpa using a2
    have : ¬ ChOk c := fun h => a2 h.2.1
    simp [sf_cobleref01_Check, chV, a1, b2, this, pf_pure, pureF]
  have hmul : IntKind.i64.wrap (c.w * c.h) = c.w * c.h := by
    have h1 : 0 ≤ c.w * c.h := Int.mul_nonneg (by omega) (by omega)
    have h2 : c.w * c.h ≤ 12 * 12 := Int.mul_le_mul a1.2 a2.2 (by omega) (by omega)
    exact wrap_i64 (by omega) (by omega)
  by_cases a3 : (c.depth.length : Int) = c.w * c.h
  rotate_left
  · have b3 : ((c.depth.length : Int) != c.w * c.h) = true := by simpa using a3
    have : ¬ ChOk c := fun h => a3 h.2.2.1
    simp [sf_cobleref01_Check, chV, a1, a2, ed, hmul, b3, this, pf_pure, pureF]
  have b3 : ((c.depth.length : Int) != c.w * c.h) = false := by simpa using a3
  by_cases a4 : 1 ≤ c.tide.length ∧ c.tide.length ≤ 60
  rotate_left
  · have b4 : (decide (1 ≤ (c.tide.length : Int)) && decide ((c.tide.length : Int) ≤ 60)) = false := by simp; omega
    have : ¬ ChOk c := fun h => a4 h.2.2.2.1
    simp [sf_cobleref01_Check, chV, a1, a2, ed, et, hmul, b3, b4, this, pf_pure, pureF]
  have b4 : (decide (1 ≤ (c.tide.length : Int)) && decide ((c.tide.length : Int) ≤ 60)) = true := by simp; omega
  by_cases a5 : c.swell.length = c.tide.length
  rotate_left
  · have b5 : ((c.swell.length : Int) != c.tide.length) = true := by simp; omega
    have : ¬ ChOk c := fun h => a5 h.2.2.2.2.1
    simp [sf_cobleref01_Check, chV, a1, a2, ed, et, es, hmul, b3, b4, b5, this, pf_pure, pureF]
  have b5 : ((c.swell.length : Int) != c.tide.length) = false := by simp; omega
  simp [sf_cobleref01_Check, chV, a1, a2, ed, et, es, hmul, b3, b4, b5]
  generalize hS : ({ t := _, L := _, H := _, lim := _, rd := _ } : St) = S
  obtain ⟨⟨e, s1⟩, hr, q1, q2, q4, q3⟩ := check_loop1 c H d t s hc S (by subst hS; simp) (by subst hS; simp) (by subst hS; simp [ed, et, es]) (by subst hS; rfl)
  simp only [checkLoop1, sf_cobleref01_Check] at hr
  rw [hr]
  simp only at q1 q2 q3 q4
  have hSL : S.L = [(1, 0, .cells [.int .i64 c.w, .int .i64 c.h, d, t, s])] := by subst hS; simp [ed, et, es]
  have hS1 : tget S.t 1 = .pointer (some ⟨1, 0, some 0⟩) := by subst hS; simp
  rcases q3 with ⟨rfl, h⟩ | ⟨rfl, h4, h⟩
  rotate_left
  · have : ¬ ChOk c := fun k => h k.2.2.2.2.2.1
    simp [h4, q1, q2, this, pf_pure, pureF]
  simp
  generalize hS2 : ({ t := _, L := _, H := _, lim := _, rd := _ } : St) = S2
  obtain ⟨⟨e, s2⟩, hr2, r1, r2, r4, r3⟩ := check_loop2 c H d t s hc a5 S2 (by subst hS2; simp [q4, hS1]) (by subst hS2; simp) (by subst hS2; simp [q1, hSL]) (by subst hS2; simp [q2])
  simp only [checkLoop2, sf_cobleref01_Check] at hr2
  rw [hr2]
  simp only at r1 r2 r3 r4
  rcases r3 with ⟨rfl, k⟩ | ⟨rfl, k4, k⟩
  · have : ChOk c := ⟨a1, a2, a3, a4, a5, h, k⟩
    simp [r1, r2, this, pf_pure, pureF]
  · have : ¬ ChOk c := fun x => k x.2.2.2.2.2.2
    simp [k4, r1, r2, this, pf_pure, pureF]
end Go.Proofs.YtmdnpaboaelkeaaGreatDoor
namespace Go.Proofs.YtmdnpaboaelkeaaGreatDoor
open Go Go.RowKit
theorem run_CellsCh (c : Ch) (lim : Nat) (H : AH) (d t s : Value) : apL Tryz.prog pf (.func (.func 75) #[] #[]) [chV c d t s] lim H = some (.int .i64 (IntKind.i64.wrap (c.w * c.h)), H) := run_Cells c.w c.h [d, t, s] lim H
theorem run_IsCell (c : Ch) (x : Int) (lim : Nat) (H : AH) (d t s : Value) (hc : ChIn H c d t s) (hwh : IntKind.i64.wrap (c.w * c.h) = c.w * c.h) (hwh2 : IntKind.i64.wrap (c.w * c.h - 1) = c.w * c.h - 1) :
    apL Tryz.prog pf (.func (.func 37) #[] #[]) [chV c d t s, .int .i64 x] lim H = some (.bool (decide (0 ≤ x) && decide (x ≤ c.w * c.h - 1)), H) := by
  rw [apL_func _ _ _ _ _ _ (by rfl), sf_cobleref01_IsCell_eq]
  obtain ⟨⟨da, dc, ed, _⟩, ⟨ta, tc, et, _⟩, ⟨sa, sc, es, _⟩, _, _, _⟩ := hc
  have hC := fun lim H => run_CellsCh c lim H d t s
  simp only [chV, ed, et, es] at hC
  simp [sf_cobleref01_IsCell, chV, ed, et, es, hC, hwh, hwh2, pf_pure, pureF]
open Classical in
theorem run_Vast (c : Ch) (lim : Nat) (H : AH) (d t s : Value) (hc : ChIn H c d t s) :
    apL Tryz.prog pf (.func (.func 41) #[] #[]) [chV c d t s] lim H =
      some (.bool (decide (c.depth.length > 146 ∨ c.tide.length > 62 ∨ c.swell.length > 62 ∨ (ChOk c ∧ (c.w * c.h > 40 ∨ c.tide.length > 16)))), H) := by
  rw [apL_func _ _ _ _ _ _ (by rfl), sf_coblelaw01_Vast_eq]
  have hC := fun lim => run_Check c lim H d t s hc
  obtain ⟨⟨da, dc, ed, _⟩, ⟨ta, tc, et, _⟩, ⟨sa, sc, es, _⟩, _, _, _⟩ := hc
  by_cases a1 : c.depth.length > 146
  · have b1 : ((c.depth.length : Int) > 146) := by omega
    simp [sf_coblelaw01_Vast, chV, ed, a1, b1, pf_pure, pureF]
  have b1 : ¬ ((c.depth.length : Int) > 146) := by omega
  by_cases a2 : c.tide.length > 62
  · have b2 : ((c.tide.length : Int) > 62) := by omega
    simp [sf_coblelaw01_Vast, chV, ed, et, a1, b1, a2, b2, pf_pure, pureF]
  have b2 : ¬ ((c.tide.length : Int) > 62) := by omega
  by_cases a3 : c.swell.length > 62
  · have b3 : ((c.swell.length : Int) > 62) := by omega
    simp [sf_coblelaw01_Vast, chV, ed, et, es, a1, b1, a2, b2, a3, b3, pf_pure, pureF]
  have b3 : ¬ ((c.swell.length : Int) > 62) := by omega
  simp only [chV, ed, et, es] at hC
  by_cases hok : ChOk c
  rotate_left
  · simp [sf_coblelaw01_Vast, chV, ed, et, es, a1, b1, a2, b2, a3, b3, hC, hok, pf_pure, pureF]
  have hmul : IntKind.i64.wrap (c.w * c.h) = c.w * c.h := by
    have h1 : 0 ≤ c.w * c.h := Int.mul_nonneg (by have := hok.1; omega) (by have := hok.2.1; omega)
    have h2 : c.w * c.h ≤ 12 * 12 := Int.mul_le_mul hok.1.2 hok.2.1.2 (by have := hok.2.1; omega) (by omega)
    exact wrap_i64 (by omega) (by omega)
  by_cases a4 : c.w * c.h > 40
  · simp [sf_coblelaw01_Vast, chV, ed, et, es, a1, b1, a2, b2, a3, b3, hC, hok, hmul, a4, pf_pure, pureF]
  · by_cases a5 : c.tide.length > 16
    · have b5 : ((c.tide.length : Int) > 16) := by omega
      simp [sf_coblelaw01_Vast, chV, ed, et, es, a1, b1, a2, b2, a3, b3, hC, hok, hmul, a4, a5, b5, pf_pure, pureF]
    · have b5 : ¬ ((c.tide.length : Int) > 16) := by omega
      simp [sf_coblelaw01_Vast, chV, ed, et, es, a1, b1, a2, b2, a3, b3, hC, hok, hmul, a4, a5, b5, pf_pure, pureF]
end Go.Proofs.YtmdnpaboaelkeaaGreatDoor
namespace Go.Proofs.YtmdnpaboaelkeaaGreatDoor
open Go Go.RowKit
def Ext (H H' : AH) : Prop := ∀ (b : Nat) (x : ABlk), H[b]? = some x → H'[b]? = some x
theorem Ext.refl (H : AH) : Ext H H := fun _ _ h => h
theorem Ext.trans {H H' H'' : AH} (h : Ext H H') (k : Ext H' H'') : Ext H H'' := fun b x e => k b x (h b x e)
theorem Ext.push (H : AH) (l : List ABlk) : Ext H (H ++ l) := fun b x h => by
  rw [List.getElem?_append_left (List.getElem?_eq_some_iff.1 h).1]; exact h
theorem Sl.ext {H H' : AH} (h : Ext H H') {v : Value} {n : Nat} {cs : List Value} (k : Sl H v n cs) : Sl H' v n cs := by
  obtain ⟨a, c, e, hk⟩ := k
  refine ⟨a, c, e, fun j x hx => ?_⟩
  obtain ⟨b, o, e1, e2⟩ := hk j x hx
  exact ⟨b, o, e1, hcell_ext (fun x => h b x) e2⟩
def IsP (H : AH) (f : Value) (p : Int → Bool) : Prop := (nl f = true ∧ isU f = false ∧ f.cells = #[f]) ∧ ∀ H', Ext H H' → ∀ x lim, apL Tryz.prog pf f [.int .i64 x] lim H' = some (.bool (p x), H')
def betweenV (n : Nat) : Value := .func (.func 102) #[] #[.pointer (some ⟨n, 0, none⟩), .pointer (some ⟨n + 1, 0, none⟩)]
theorem run_between (l h : Int) (lim : Nat) (H : AH) : apL Tryz.prog pf (.func (.func 63) #[] #[]) [.int .i64 l, .int .i64 h] lim H = some (betweenV H.length, H ++ [.rw 0 [.int .i64 l], .rw 0 [.int .i64 h]]) := by
  rw [apL_func _ _ _ _ _ _ (by rfl), sf_checks_Between_eq]
  simp [sf_checks_Between, pf_pure, pureF, betweenV]
theorem isP_between (l h : Int) (H : AH) (n : Nat) (h1 : H[n]? = some (.rw 0 [.int .i64 l])) (h2 : H[n + 1]? = some (.rw 0 [.int .i64 h])) : IsP H (betweenV n) (fun x => decide (l ≤ x) && decide (x ≤ h)) := by
  refine ⟨⟨by simp [betweenV], rfl, rfl⟩, fun H' hH x lim => ?_⟩
  have k1 := hH _ _ h1
  have k2 := hH _ _ h2
  unfold betweenV
  rw [apL_func _ _ _ _ _ _ (by rfl), sf_checks_Between_1_eq]
  by_cases hx : l ≤ x <;> simp [sf_checks_Between_1, k1, k2, hx, pf_pure, pureF]
def SC.loops : SC → List SC
  | .seq a b => a.loops ++ b.loops
  | .cond _ a b => a.loops ++ b.loops
  | .block _ a => a.loops
  | .loop a => a :: a.loops
  | .rng _ _ a b => a.loops ++ b.loops
  | _ => []
def allLoop : SC := sf_checks_All_int.body.loops.headD .skip
theorem all_loop (xs : List Int) (hlen : xs.length < 2 ^ 62) (H : AH) (v f : Value) (p : Int → Bool) (hv : Sl H v xs.length (ints xs)) (hp : IsP H f p) (S : St) (h1 : tget S.t 1 = f) (h7 : tget S.t 7 = v) (h8 : tget S.t 8 = .int .i64 xs.length) (h9 : tget S.t 9 = .int .i64 0) (hH : S.H = H) :
    ∃ r, exL Tryz.prog pf (.loop allLoop) S = some r ∧ r.2.H = H ∧ ((r.1 = .exit 0 ∧ xs.all p = true) ∨ (r.1 = .ret ∧ tget r.2.t 4 = .bool false ∧ xs.all p = false)) := by
  obtain ⟨aa, ac, rfl, hd⟩ := hv
  obtain ⟨⟨hn, _⟩, hp⟩ := hp
  have hp := fun x lim => hp H (Ext.refl H) x lim
  refine loop_rule (I := fun n s' => ∃ i, i ≤ xs.length ∧ n = xs.length - i ∧ tget s'.t 1 = f ∧ tget s'.t 7 = .slice aa xs.length ac ∧ tget s'.t 8 = .int .i64 xs.length ∧ tget s'.t 9 = .int .i64 i ∧ s'.H = H ∧ ∀ j (h : j < xs.length), j < i → p xs[j] = true) ?_ xs.length S ⟨0, by omega, by omega, h1, h7, h8, h9, hH, by omega⟩
  rintro n s' ⟨i, hi, rfl, e1, e7, e8, e9, eH, et⟩
  by_cases hlt : i < xs.length
  · obtain ⟨b1, o1, rfl, c1⟩ := hd i (.int .i64 xs[i]) (by simp [ints, hlt])
    have hw : IntKind.i64.wrap ((i : Int) + 1) = (i : Int) + 1 := wrap_i64 (by omega) (by omega)
    simp only [hcell] at c1
    cases hx : p xs[i] with
    | true =>
      simp [allLoop, SC.loops, sf_checks_All_int, e1, e7, e8, e9, eH, hlt, c1, hw, hn, hp, hx]
      exact ⟨_, by omega, i + 1, by omega, rfl, by omega, fun j h hj => by
        by_cases e : j = i
        · subst e; exact hx
        · exact et j h (by omega)⟩
    | false =>
      simp [allLoop, SC.loops, sf_checks_All_int, e1, e7, e8, e9, eH, hlt, c1, hw, hn, hp, hx]
      exact ⟨xs[i], by simp, hx⟩
  · have : i = xs.length := by omega
    subst this
    simp [allLoop, SC.loops, sf_checks_All_int, e1, e7, e8, e9, eH]
    intro x hx
    obtain ⟨j, h, rfl⟩ := List.mem_iff_getElem.1 hx
    exact et j h h
theorem run_all (xs : List Int) (hlen : xs.length < 2 ^ 62) (H : AH) (lim : Nat) (v f : Value) (p : Int → Bool) (hv : Sl H v xs.length (ints xs)) (hp : IsP H f p) :
    apL Tryz.prog pf (.func (.func 78) #[] #[]) [v, f] lim H = some (.bool (xs.all p), H) := by
  rw [apL_func _ _ _ _ _ _ (by rfl), sf_checks_All_int_eq]
  have hv0 := hv
  obtain ⟨aa, ac, ev, _⟩ := hv0
  simp [sf_checks_All_int, ev]
  generalize hS : ({ t := _, L := _, H := _, lim := _, rd := _ } : St) = S
  obtain ⟨⟨e, s1⟩, hr, q2, q3⟩ := all_loop xs hlen H v f p hv hp S (by subst hS; simp) (by subst hS; simp [ev]) (by subst hS; simp) (by subst hS; simp) (by subst hS; rfl)
  simp [allLoop, SC.loops, sf_checks_All_int] at hr
  rw [hr]
  simp only at q2 q3
  rcases q3 with ⟨rfl, h⟩ | ⟨rfl, h4, h⟩
  · simp [h, q2, pf_pure, pureF]
  · simp [h, h4, q2, pf_pure, pureF]
end Go.Proofs.YtmdnpaboaelkeaaGreatDoor
namespace Go.Proofs.YtmdnpaboaelkeaaGreatDoor
open Go Go.RowKit
def spV (x : Int × Int) : Value := .agg #[.int .i64 x.1, .int .i64 x.2]
def IsQ (H : AH) (f : Value) (p : Int × Int → Bool) : Prop := (nl f = true ∧ isU f = false ∧ f.cells = #[f]) ∧ ∀ H', Ext H H' → ∀ x lim, apL Tryz.prog pf f [spV x] lim H' = some (.bool (p x), H')
def withinV (n : Nat) : Value := .func (.func 142) #[] #[.pointer (some ⟨n, 0, none⟩), .pointer (some ⟨n + 1, 0, none⟩)]
theorem run_within (l h : Int) (lim : Nat) (H : AH) : apL Tryz.prog pf (.func (.func 119) #[] #[]) [.int .i64 l, .int .i64 h] lim H = some (withinV H.length, H ++ [.rw 0 [.int .i64 l], .rw 0 [.int .i64 h]]) := by
  rw [apL_func _ _ _ _ _ _ (by rfl), sf_checks_Within_eq]
  simp [sf_checks_Within, pf_pure, pureF, withinV]
def spanIn (l h : Int) (x : Int × Int) : Bool := decide (l ≤ x.1) && decide (x.1 ≤ x.2) && decide (x.2 ≤ h)
theorem isQ_within (l h : Int) (H : AH) (n : Nat) (h1 : H[n]? = some (.rw 0 [.int .i64 l])) (h2 : H[n + 1]? = some (.rw 0 [.int .i64 h])) : IsQ H (withinV n) (spanIn l h) := by
  refine ⟨⟨by simp [withinV], rfl, rfl⟩, fun H' hH x lim => ?_⟩
  obtain ⟨x1, x2⟩ := x
  have k1 := hH _ _ h1
  have k2 := hH _ _ h2
  unfold withinV
  simp only [spV]
  rw [apL_func _ _ _ _ _ _ (by rfl), sf_checks_Within_1_eq]
  by_cases hx : l ≤ x1
  · by_cases hy : x1 ≤ x2 <;> simp [sf_checks_Within_1, k1, k2, hx, hy, spanIn, pf_pure, pureF]
  · simp [sf_checks_Within_1, k1, k2, hx, spanIn, pf_pure, pureF]
def allLoop2 : SC := sf_checks_All_api_Span.body.loops.headD .skip
theorem all_loop2 (xs : List (Int × Int)) (hlen : xs.length < 2 ^ 62) (H : AH) (v f : Value) (p : Int × Int → Bool) (hv : Sl H v xs.length (spans xs)) (hp : IsQ H f p) (S : St) (h1 : tget S.t 1 = f) (h7 : tget S.t 7 = v) (h8 : tget S.t 8 = .int .i64 xs.length) (h9 : tget S.t 9 = .int .i64 0) (hH : S.H = H) :
    ∃ r, exL Tryz.prog pf (.loop allLoop2) S = some r ∧ r.2.H = H ∧ ((r.1 = .exit 0 ∧ xs.all p = true) ∨ (r.1 = .ret ∧ tget r.2.t 4 = .bool false ∧ xs.all p = false)) := by
  obtain ⟨aa, ac, rfl, hd⟩ := hv
  obtain ⟨⟨hn, _⟩, hp⟩ := hp
  have hp := fun x lim => hp H (Ext.refl H) x lim
  refine loop_rule (I := fun n s' => ∃ i, i ≤ xs.length ∧ n = xs.length - i ∧ tget s'.t 1 = f ∧ tget s'.t 7 = .slice aa xs.length ac ∧ tget s'.t 8 = .int .i64 xs.length ∧ tget s'.t 9 = .int .i64 i ∧ s'.H = H ∧ ∀ j (h : j < xs.length), j < i → p xs[j] = true) ?_ xs.length S ⟨0, by omega, by omega, h1, h7, h8, h9, hH, by omega⟩
  rintro n s' ⟨i, hi, rfl, e1, e7, e8, e9, eH, et⟩
  by_cases hlt : i < xs.length
  · obtain ⟨b1, o1, rfl, c1⟩ := hd (i * 2) _ (spans_get hlt).1
    obtain ⟨b1', o1', e, c2⟩ := hd (i * 2 + 1) _ (spans_get hlt).2
    cases e
    rw [show o1 + (i * 2 + 1) = o1 + i * 2 + 1 by omega] at c2
    have hps : ∀ lim, apL Tryz.prog pf f [.agg #[.int .i64 xs[i].1, .int .i64 xs[i].2]] lim H = some (.bool (p xs[i]), H) := fun lim => hp xs[i] lim
    have hw : IntKind.i64.wrap ((i : Int) + 1) = (i : Int) + 1 := wrap_i64 (by omega) (by omega)
    simp only [hcell] at c1 c2
    cases hx : p xs[i] with
    | true =>
      simp [allLoop2, SC.loops, sf_checks_All_api_Span, e1, e7, e8, e9, eH, hlt, c1, c2, hw, hn, hps, hx]
      exact ⟨_, by omega, i + 1, by omega, rfl, by omega, fun j h hj => by
        by_cases e : j = i
        · subst e; exact hx
        · exact et j h (by omega)⟩
    | false =>
      simp [allLoop2, SC.loops, sf_checks_All_api_Span, e1, e7, e8, e9, eH, hlt, c1, c2, hw, hn, hps, hx]
      exact ⟨xs[i].1, xs[i].2, List.getElem_mem hlt, hx⟩
  · have : i = xs.length := by omega
    subst this
    simp [allLoop2, SC.loops, sf_checks_All_api_Span, e1, e7, e8, e9, eH]
    intro x1 x2 hx
    obtain ⟨j, h, e⟩ := List.mem_iff_getElem.1 hx
    rw [← e]; exact et j h h
theorem run_all2 (xs : List (Int × Int)) (hlen : xs.length < 2 ^ 62) (H : AH) (lim : Nat) (v f : Value) (p : Int × Int → Bool) (hv : Sl H v xs.length (spans xs)) (hp : IsQ H f p) :
    apL Tryz.prog pf (.func (.func 120) #[] #[]) [v, f] lim H = some (.bool (xs.all p), H) := by
  rw [apL_func _ _ _ _ _ _ (by rfl), sf_checks_All_api_Span_eq]
  have hv0 := hv
  obtain ⟨aa, ac, ev, _⟩ := hv0
  simp [sf_checks_All_api_Span, ev]
  generalize hS : ({ t := _, L := _, H := _, lim := _, rd := _ } : St) = S
  obtain ⟨⟨e, s1⟩, hr, q2, q3⟩ := all_loop2 xs hlen H v f p hv hp S (by subst hS; simp) (by subst hS; simp [ev]) (by subst hS; simp) (by subst hS; simp) (by subst hS; rfl)
  simp [allLoop2, SC.loops, sf_checks_All_api_Span] at hr
  rw [hr]
  simp only at q2 q3
  rcases q3 with ⟨rfl, h⟩ | ⟨rfl, h4, h⟩
  · simp [h, q2, pf_pure, pureF]
  · simp [h, h4, q2, pf_pure, pureF]
end Go.Proofs.YtmdnpaboaelkeaaGreatDoor
namespace Go.Proofs.YtmdnpaboaelkeaaGreatDoor
open Go Go.RowKit
def validH (H : AH) : AH := H ++ [.rw 0 [.int .i64 1], .rw 0 [.int .i64 12], .rw 0 [.int .i64 (-1000)], .rw 0 [.int .i64 1000], .rw 0 [.int .i64 1], .rw 0 [.int .i64 60], .rw 0 [.int .i64 0], .rw 0 [.int .i64 100], .rw 0 [.int .i64 0], .rw 0 [.int .i64 200]]
theorem validH_get (H : AH) (k : Nat) : (validH H)[H.length + k]? = ((validH H).drop H.length)[k]? := by rw [List.getElem?_drop]
theorem validH_drop (H : AH) : (validH H).drop H.length = [.rw 0 [.int .i64 1], .rw 0 [.int .i64 12], .rw 0 [.int .i64 (-1000)], .rw 0 [.int .i64 1000], .rw 0 [.int .i64 1], .rw 0 [.int .i64 60], .rw 0 [.int .i64 0], .rw 0 [.int .i64 100], .rw 0 [.int .i64 0], .rw 0 [.int .i64 200]] := by simp [validH]
open Classical in
theorem run_valid (c : Ch) (lim : Nat) (H : AH) (d t s : Value) (hc : ChIn H c d t s) : apL Tryz.prog pf (.func (.func 97) #[] #[]) [chV c d t s] lim H = some (.bool (decide (ChOk c)), H) := by
  rw [apL_func _ _ _ _ _ _ (by rfl), sf_chart_valid_eq]
  have hE : Ext H (validH H) := Ext.push H _
  have p1 := isP_between 1 12 (validH H) H.length (by simp [validH]) ((validH_get H 1).trans (by rw [validH_drop]; rfl))
  have p2 := isP_between (-1000) 1000 (validH H) (H.length + 2) ((validH_get H 2).trans (by rw [validH_drop]; rfl)) ((validH_get H 3).trans (by rw [validH_drop]; rfl))
  have p3 := isP_between 1 60 (validH H) (H.length + 4) ((validH_get H 4).trans (by rw [validH_drop]; rfl)) ((validH_get H 5).trans (by rw [validH_drop]; rfl))
  have p4 := isP_between 0 100 (validH H) (H.length + 6) ((validH_get H 6).trans (by rw [validH_drop]; rfl)) ((validH_get H 7).trans (by rw [validH_drop]; rfl))
  have q5 := isQ_within 0 200 (validH H) (H.length + 8) ((validH_get H 8).trans (by rw [validH_drop]; rfl)) ((validH_get H 9).trans (by rw [validH_drop]; rfl))
  have r1 := fun x lim => p1.2 (validH H) (Ext.refl _) x lim
  have r3 := fun x lim => p3.2 (validH H) (Ext.refl _) x lim
  have a2 := fun lim => run_all c.depth hc.dl (validH H) lim d _ _ (hc.d.ext hE) p2
  have a4 := fun lim => run_all c.swell hc.sl (validH H) lim s _ _ (hc.s.ext hE) p4
  have a5 := fun lim => run_all2 c.tide hc.tl (validH H) lim t _ _ (hc.t.ext hE) q5
  have hc' := hc
  obtain ⟨⟨da, dc, ed, _⟩, ⟨ta, tc, et, _⟩, ⟨sa, sc, es, _⟩, _, _, _⟩ := hc'
  rw [ed] at a2
  rw [es] at a4
  rw [et] at a5
  have hb := fun l h lim H => run_between l h lim H
  have hw := fun l h lim H => run_within l h lim H
  simp only [betweenV, withinV, validH] at hb hw r1 r3 a2 a4 a5
  by_cases a1 : 1 ≤ c.w ∧ c.w ≤ 12
  rotate_left
  · have b1 : (decide (1 ≤ c.w) && decide (c.w ≤ 12)) = false := by simpa using a1
    have : ¬ ChOk c := fun h => a1 h.1
    simp [sf_chart_valid, chV, ed, et, es, hb, hw, r1, b1, this, pf_pure, pureF]
  have b1 : (decide (1 ≤ c.w) && decide (c.w ≤ 12)) = true := by simpa using a1
  by_cases a2' : 1 ≤ c.h ∧ c.h ≤ 12
  rotate_left
  · have b2 : (decide (1 ≤ c.h) && decide (c.h ≤ 12)) = false := by simpa using a2'
    have : ¬ ChOk c := fun h => a2' h.2.1
    simp [sf_chart_valid, chV, ed, et, es, hb, hw, r1, b1, b2, this, pf_pure, pureF]
  have b2 : (decide (1 ≤ c.h) && decide (c.h ≤ 12)) = true := by simpa using a2'
  have hmul : IntKind.i64.wrap (c.w * c.h) = c.w * c.h := by
    have h1 : 0 ≤ c.w * c.h := Int.mul_nonneg (by omega) (by omega)
    have h2 : c.w * c.h ≤ 12 * 12 := Int.mul_le_mul a1.2 a2'.2 (by omega) (by omega)
    exact wrap_i64 (by omega) (by omega)
  by_cases a3 : (c.depth.length : Int) = c.w * c.h
  rotate_left
  · have b3 : ((c.depth.length : Int) == c.w * c.h) = false := by simpa using a3
    have : ¬ ChOk c := fun h => a3 h.2.2.1
    simp [sf_chart_valid, chV, ed, et, es, hb, hw, r1, b1, b2, b3, hmul, this, pf_pure, pureF]
  have b3 : ((c.depth.length : Int) == c.w * c.h) = true := by simpa using a3
  cases b4 : (c.depth.all fun x => decide (-1000 ≤ x) && decide (x ≤ 1000)) with
  | false =>
    have : ¬ ChOk c := fun h => by
      have : (c.depth.all fun x => decide (-1000 ≤ x) && decide (x ≤ 1000)) = true := List.all_eq_true.2 fun x hx => by simpa using h.2.2.2.2.2.1 x hx
      rw [b4] at this; cases this
    rw [b4] at a2
    simp [sf_chart_valid, chV, ed, et, es, hb, hw, r1, b1, b2, b3, a2, hmul, this, pf_pure, pureF]
  | true =>
  have hdep : ∀ x ∈ c.depth, -1000 ≤ x ∧ x ≤ 1000 := fun x hx => by simpa using List.all_eq_true.1 b4 x hx
  rw [b4] at a2
  by_cases a6 : 1 ≤ c.tide.length ∧ c.tide.length ≤ 60
  rotate_left
  · have b6 : (decide (1 ≤ (c.tide.length : Int)) && decide ((c.tide.length : Int) ≤ 60)) = false := by simp; omega
    have : ¬ ChOk c := fun h => a6 h.2.2.2.1
    simp [sf_chart_valid, chV, ed, et, es, hb, hw, r1, r3, b1, b2, b3, b6, a2, hmul, this, pf_pure, pureF]
  have b6 : (decide (1 ≤ (c.tide.length : Int)) && decide ((c.tide.length : Int) ≤ 60)) = true := by simp; omega
  cases b7 : (c.tide.all (spanIn 0 200)) with
  | false =>
    have : ¬ ChOk c := fun h => by
      have : (c.tide.all (spanIn 0 200)) = true := List.all_eq_true.2 fun x hx => by
        obtain ⟨j, hj, rfl⟩ := List.mem_iff_getElem.1 hx
        have := h.2.2.2.2.2.2 j hj (by rw [h.2.2.2.2.1]; exact hj)
        obtain ⟨u1, u2, u3, _⟩ := this
        simp only [spanIn, Bool.and_eq_true, decide_eq_true_eq]
        omega
      rw [b7] at this; cases this
    rw [b7] at a5
    simp [sf_chart_valid, chV, ed, et, es, hb, hw, r1, r3, b1, b2, b3, b6, a2, a5, hmul, this, pf_pure, pureF]
  | true =>
  rw [b7] at a5
  by_cases a8 : c.swell.length = c.tide.length
  rotate_left
  · have b8 : ((c.swell.length : Int) == c.tide.length) = false := by simp; omega
    have : ¬ ChOk c := fun h => a8 h.2.2.2.2.1
    simp [sf_chart_valid, chV, ed, et, es, hb, hw, r1, r3, b1, b2, b3, b6, b8, a2, a5, hmul, this, pf_pure, pureF]
  have b8 : ((c.swell.length : Int) == c.tide.length) = true := by simp; omega
  cases b9 : (c.swell.all fun x => decide (0 ≤ x) && decide (x ≤ 100)) with
  | false =>
    have : ¬ ChOk c := fun h => by
      have : (c.swell.all fun x => decide (0 ≤ x) && decide (x ≤ 100)) = true := List.all_eq_true.2 fun x hx => by
        obtain ⟨j, hj, rfl⟩ := List.mem_iff_getElem.1 hx
        have := h.2.2.2.2.2.2 j (by omega) hj
        simpa using this.2.2.2
      rw [b9] at this; cases this
    rw [b9] at a4
    simp [sf_chart_valid, chV, ed, et, es, hb, hw, r1, r3, b1, b2, b3, b6, b8, a2, a4, a5, hmul, this, pf_pure, pureF]
  | true =>
    rw [b9] at a4
    have : ChOk c := by
      refine ⟨a1, a2', a3, a6, a8, hdep, fun j hj hj' => ?_⟩
      have h1 := List.all_eq_true.1 b7 _ (List.getElem_mem hj)
      have h2 := List.all_eq_true.1 b9 _ (List.getElem_mem hj')
      simp only [spanIn, Bool.and_eq_true, decide_eq_true_eq] at h1 h2
      exact ⟨h1.1.1, h1.1.2, h1.2, h2.1, h2.2⟩
    simp [sf_chart_valid, chV, ed, et, es, hb, hw, r1, r3, b1, b2, b3, b6, b8, a2, a4, a5, hmul, this, pf_pure, pureF]
end Go.Proofs.YtmdnpaboaelkeaaGreatDoor
namespace Go.Proofs.YtmdnpaboaelkeaaGreatDoor
open Go Go.RowKit
def cellF (c : Ch) (d t s : Value) : Value := .func (.func 135) #[chV c d t s] #[]
def tickF (c : Ch) (d t s : Value) : Value := .func (.func 136) #[chV c d t s] #[]
def inN (n : Nat) (x : Int) : Bool := decide (0 ≤ x) && decide (x ≤ (n : Int) - 1)
theorem ext_between (H : AH) (l h : Int) (x : Int) (lim : Nat) : apL Tryz.prog pf (betweenV H.length) [.int .i64 x] lim (H ++ [.rw 0 [.int .i64 l], .rw 0 [.int .i64 h]]) = some (.bool (decide (l ≤ x) && decide (x ≤ h)), H ++ [.rw 0 [.int .i64 l], .rw 0 [.int .i64 h]]) :=
  (isP_between l h (H ++ [.rw 0 [.int .i64 l], .rw 0 [.int .i64 h]]) H.length (by simp) (by simp)).2 _ (Ext.refl _) x lim
theorem isP_cell (c : Ch) (H : AH) (d t s : Value) (hc : ChIn H c d t s) : IsP H (cellF c d t s) (inN c.depth.length) := by
  have hdl := hc.dl
  obtain ⟨⟨da, dc, ed, _⟩, ⟨ta, tc, et, _⟩, ⟨sa, sc, es, _⟩, _, _, _⟩ := hc
  refine ⟨⟨by simp [cellF, chV, ed, et, es], rfl, rfl⟩, fun H' hH x lim => ?_⟩
  unfold cellF
  rw [apL_func _ _ _ _ _ _ (by rfl), sf_chart_sea_isCell_eq]
  have hw : IntKind.i64.wrap ((c.depth.length : Int) - 1) = (c.depth.length : Int) - 1 := wrap_i64 (by omega) (by omega)
  have hb := ext_between H' 0 ((c.depth.length : Int) - 1) x
  have hr := run_between
  simp only [betweenV] at hb hr
  simp [sf_chart_sea_isCell, chV, ed, et, es, hw, hb, hr, inN, pf_pure, pureF]
theorem isP_tick (c : Ch) (H : AH) (d t s : Value) (hc : ChIn H c d t s) : IsP H (tickF c d t s) (inN c.tide.length) := by
  have hdl := hc.tl
  obtain ⟨⟨da, dc, ed, _⟩, ⟨ta, tc, et, _⟩, ⟨sa, sc, es, _⟩, _, _, _⟩ := hc
  refine ⟨⟨by simp [tickF, chV, ed, et, es], rfl, rfl⟩, fun H' hH x lim => ?_⟩
  unfold tickF
  rw [apL_func _ _ _ _ _ _ (by rfl), sf_chart_sea_isTick_eq]
  have hw : IntKind.i64.wrap ((c.tide.length : Int) - 1) = (c.tide.length : Int) - 1 := wrap_i64 (by omega) (by omega)
  have hb := ext_between H' 0 ((c.tide.length : Int) - 1) x
  have hr := run_between
  simp only [betweenV] at hb hr
  simp [sf_chart_sea_isTick, chV, ed, et, es, hw, hb, hr, inN, pf_pure, pureF]
def noCh : Value := .agg #[.int .i64 0, .int .i64 0, .slice none 0 0, .slice none 0 0, .slice none 0 0]
open Classical in
noncomputable def openE (c : Ch) (cells ticks : List Int) : Int := if ChOk c then (if cells.all (inN c.depth.length) && ticks.all (inN c.tide.length) then 0 else 1) else 10
theorem run_open (c : Ch) (lim : Nat) (H : AH) (d t s : Value) (hc : ChIn H c d t s) (xs ys : List Int) (x y : Value) (hx : Sl H x xs.length (ints xs)) (hy : Sl H y ys.length (ints ys)) (hxl : xs.length < 2 ^ 62) (hyl : ys.length < 2 ^ 62) :
    apL Tryz.prog pf (.func (.func 110) #[] #[]) [chV c d t s, x, y] lim H = some (.tuple #[if openE c xs ys = 0 then chV c d t s else noCh, .int .i64 (openE c xs ys)], H) := by
  rw [apL_func _ _ _ _ _ _ (by rfl), sf_chart_open_eq]
  have hv := fun lim => run_valid c lim H d t s hc
  have a1 := fun lim => run_all xs hxl H lim x _ _ hx (isP_cell c H d t s hc)
  have a2 := fun lim => run_all ys hyl H lim y _ _ hy (isP_tick c H d t s hc)
  obtain ⟨⟨da, dc, ed, _⟩, ⟨ta, tc, et, _⟩, ⟨sa, sc, es, _⟩, _, _, _⟩ := hc
  obtain ⟨xa, xc, ex, _⟩ := hx
  obtain ⟨ya, yc, ey, _⟩ := hy
  simp only [cellF, tickF, chV, ed, et, es, ex, ey] at hv a1 a2
  by_cases hok : ChOk c
  rotate_left
  · simp [sf_chart_open, chV, ed, et, es, ex, ey, hv, hok, openE, noCh, pf_pure, pureF]
  cases b1 : xs.all (inN c.depth.length)
  · simp [sf_chart_open, chV, ed, et, es, ex, ey, hv, hok, a1, b1, openE, noCh, pf_pure, pureF]
  cases b2 : ys.all (inN c.tide.length)
  · simp [sf_chart_open, chV, ed, et, es, ex, ey, hv, hok, a1, b1, a2, b2, openE, noCh, pf_pure, pureF]
  · simp [sf_chart_open, chV, ed, et, es, ex, ey, hv, hok, a1, b1, a2, b2, openE, noCh, pf_pure, pureF]
open Classical in
theorem run_chartCheck (c : Ch) (lim : Nat) (H : AH) (d t s : Value) (hc : ChIn H c d t s) : apL Tryz.prog pf (.func (.func 55) #[] #[]) [chV c d t s] lim H = some (.int .i64 (if ChOk c then 0 else 10), H) := by
  rw [apL_func _ _ _ _ _ _ (by rfl), sf_chart_Check_eq]
  have hv := fun lim => run_valid c lim H d t s hc
  obtain ⟨⟨da, dc, ed, _⟩, ⟨ta, tc, et, _⟩, ⟨sa, sc, es, _⟩, _, _, _⟩ := hc
  simp only [chV, ed, et, es] at hv
  by_cases hok : ChOk c <;> simp [sf_chart_Check, chV, ed, et, es, hv, hok, pf_pure, pureF]
theorem run_isDraught (x : Int) (lim : Nat) (H : AH) : apL Tryz.prog pf (.func (.func 111) #[] #[]) [.int .i64 x] lim H = some (.bool (decide (1 ≤ x) && decide (x ≤ 100)), H) := by
  rw [apL_func _ _ _ _ _ _ (by rfl), sf_chart_isDraught_eq]
  have hb := ext_between H 1 100 x
  have hr := run_between
  simp only [betweenV] at hb hr
  simp [sf_chart_isDraught, hb, hr, pf_pure, pureF]
def boV (c : Ch) (d t s : Value) (g : Int) : Value := .agg #[.int .i64 c.w, .int .i64 c.h, d, t, s, .int .i64 g]
def noBo : Value := .agg #[.int .i64 0, .int .i64 0, .slice none 0 0, .slice none 0 0, .slice none 0 0, .int .i64 0]
noncomputable def embE (c : Ch) (g : Int) (cells ticks : List Int) : Int := if openE c cells ticks = 0 then (if 1 ≤ g ∧ g ≤ 100 then 0 else 1) else openE c cells ticks
theorem run_embark (c : Ch) (lim : Nat) (H : AH) (d t s : Value) (hc : ChIn H c d t s) (g : Int) (xs ys : List Int) (x y : Value) (hx : Sl H x xs.length (ints xs)) (hy : Sl H y ys.length (ints ys)) (hxl : xs.length < 2 ^ 62) (hyl : ys.length < 2 ^ 62) :
    apL Tryz.prog pf (.func (.func 71) #[] #[]) [chV c d t s, .int .i64 g, x, y] lim H = some (.tuple #[if embE c g xs ys = 0 then boV c d t s g else noBo, .int .i64 (embE c g xs ys)], H) := by
  rw [apL_func _ _ _ _ _ _ (by rfl), sf_chart_embark_eq]
  have ho := fun lim => run_open c lim H d t s hc xs ys x y hx hy hxl hyl
  have hd := run_isDraught g
  obtain ⟨⟨da, dc, ed, _⟩, ⟨ta, tc, et, _⟩, ⟨sa, sc, es, _⟩, _, _, _⟩ := hc
  obtain ⟨xa, xc, ex, _⟩ := hx
  obtain ⟨ya, yc, ey, _⟩ := hy
  simp only [chV, ed, et, es, ex, ey] at ho
  by_cases h0 : openE c xs ys = 0
  rotate_left
  · have h1 : (openE c xs ys != 0) = true := by simpa using h0
    simp only [h0, if_false] at ho
    simp [sf_chart_embark, chV, ed, et, es, ex, ey, ho, h0, h1, embE, noBo, noCh, pf_pure, pureF]
  simp only [h0, if_true] at ho
  by_cases hg : 1 ≤ g ∧ g ≤ 100
  · simp [sf_chart_embark, chV, ed, et, es, ex, ey, ho, h0, hd, hg, embE, boV, pf_pure, pureF]
  · have hb : (decide (1 ≤ g) && decide (g ≤ 100)) = false := by simpa using hg
    simp [sf_chart_embark, chV, ed, et, es, ex, ey, ho, h0, hd, hg, hb, embE, noBo, pf_pure, pureF]
end Go.Proofs.YtmdnpaboaelkeaaGreatDoor
namespace Go.Proofs.YtmdnpaboaelkeaaGreatDoor
open Go Go.RowKit
def Ch.dep (c : Ch) (i : Nat) : Int := c.depth.getD i 0
def Ch.sw (c : Ch) (i : Nat) : Int := c.swell.getD i 0
def Ch.lo (c : Ch) (i : Nat) : Int := (c.tide.getD i (0, 0)).1
def Ch.hi (c : Ch) (i : Nat) : Int := (c.tide.getD i (0, 0)).2
def Ch.over (c : Ch) (i t : Nat) (h : Int) : Int := c.dep i - c.sw t + h
def Ch.cells (c : Ch) : Nat := c.depth.length
def Ch.ticks (c : Ch) : Nat := c.tide.length
theorem ChIn.dep {H : AH} {c : Ch} {d t s : Value} (hc : ChIn H c d t s) {i : Nat} (hi : i < c.cells) : ∃ b o k, d = .slice (some ⟨b, o, none⟩) c.depth.length k ∧ hcell H b (o + i) = some (.int .i64 (c.dep i)) := by
  obtain ⟨a, k, e, hd⟩ := hc.d
  have hi' : i < c.depth.length := hi
  obtain ⟨b, o, ea, h⟩ := hd i (.int .i64 c.depth[i]) (by simp [ints, hi'])
  exact ⟨b, o, k, by rw [e, ea], by rw [h]; simp [Ch.dep, hi']⟩
theorem ChIn.sw {H : AH} {c : Ch} {d t s : Value} (hc : ChIn H c d t s) {i : Nat} (hi : i < c.swell.length) : ∃ b o k, s = .slice (some ⟨b, o, none⟩) c.swell.length k ∧ hcell H b (o + i) = some (.int .i64 (c.sw i)) := by
  obtain ⟨a, k, e, hd⟩ := hc.s
  obtain ⟨b, o, ea, h⟩ := hd i (.int .i64 c.swell[i]) (by simp [ints, hi])
  exact ⟨b, o, k, by rw [e, ea], by rw [h]; simp [Ch.sw, hi]⟩
theorem ChIn.td {H : AH} {c : Ch} {d t s : Value} (hc : ChIn H c d t s) {i : Nat} (hi : i < c.ticks) : ∃ b o k, t = .slice (some ⟨b, o, none⟩) c.tide.length k ∧ hcell H b (o + i * 2) = some (.int .i64 (c.lo i)) ∧ hcell H b (o + i * 2 + 1) = some (.int .i64 (c.hi i)) := by
  obtain ⟨a, k, e, hd⟩ := hc.t
  have hi' : i < c.tide.length := hi
  obtain ⟨b, o, ea, h⟩ := hd _ _ (spans_get hi').1
  obtain ⟨b', o', ea', h'⟩ := hd _ _ (spans_get hi').2
  rw [ea] at ea'
  cases ea'
  rw [show o + (i * 2 + 1) = o + i * 2 + 1 by omega] at h'
  exact ⟨b, o, k, by rw [e, ea], by rw [h]; simp [Ch.lo, hi'], by rw [h']; simp [Ch.hi, hi']⟩
theorem ChOk.bounds {c : Ch} (h : ChOk c) {i t : Nat} (hi : i < c.cells) (ht : t < c.ticks) : (-1000 ≤ c.dep i ∧ c.dep i ≤ 1000) ∧ (0 ≤ c.lo t ∧ c.lo t ≤ c.hi t ∧ c.hi t ≤ 200) ∧ (0 ≤ c.sw t ∧ c.sw t ≤ 100) := by
  have hi' : i < c.depth.length := hi
  have ht' : t < c.tide.length := ht
  have hs : t < c.swell.length := by rw [h.2.2.2.2.1]; exact ht'
  have h1 := h.2.2.2.2.2.1 c.depth[i] (by simp)
  obtain ⟨k1, k2, k3, k4, k5⟩ := h.2.2.2.2.2.2 t ht' hs
  simp only [Ch.dep, Ch.lo, Ch.hi, Ch.sw, List.getD_eq_getElem?_getD, List.getElem?_eq_getElem hi', List.getElem?_eq_getElem ht', List.getElem?_eq_getElem hs, Option.getD_some]
  exact ⟨h1, ⟨k1, k2, k3⟩, k4, k5⟩
theorem run_water (c : Ch) (hok : ChOk c) (lim : Nat) (H : AH) (d t s : Value) (hc : ChIn H c d t s) {i k : Nat} (hi : i < c.cells) (hk : k < c.ticks) :
    apL Tryz.prog pf (.func (.func 112) #[] #[]) [chV c d t s, .int .i64 i, .int .i64 k] lim H = some (.agg #[.int .i64 (c.over i k (c.lo k)), .int .i64 (c.over i k (c.hi k))], H) := by
  rw [apL_func _ _ _ _ _ _ (by rfl), sf_chart_sea_water_eq]
  obtain ⟨⟨b1, b2⟩, ⟨b3, b4, b5⟩, b6, b7⟩ := hok.bounds hi hk
  have hsl : k < c.swell.length := by rw [hok.2.2.2.2.1]; exact hk
  obtain ⟨bd, od, kd, rfl, d1⟩ := hc.dep hi
  obtain ⟨bs, os, ks, rfl, s1⟩ := hc.sw hsl
  obtain ⟨bt, ot, kt, rfl, t1, t2⟩ := hc.td hk
  have hi' : i < c.depth.length := hi
  have hk' : k < c.tide.length := hk
  have w1 : IntKind.i64.wrap (c.dep i - c.sw k) = c.dep i - c.sw k := wrap_i64 (by omega) (by omega)
  have w2 : IntKind.i64.wrap (c.dep i - c.sw k + c.lo k) = c.dep i - c.sw k + c.lo k := wrap_i64 (by omega) (by omega)
  have w3 : IntKind.i64.wrap (c.dep i - c.sw k + c.hi k) = c.dep i - c.sw k + c.hi k := wrap_i64 (by omega) (by omega)
  simp only [hcell] at d1 s1 t1 t2
  simp [sf_chart_sea_water, chV, hi', hk', hsl, d1, s1, t1, t2, w1, w2, w3, Ch.over, pf_pure, pureF]
def Ch.sure (c : Ch) (g : Int) (i t : Nat) : Bool := decide (g ≤ c.over i t (c.lo t))
def Ch.may (c : Ch) (g : Int) (i t : Nat) : Bool := decide (g ≤ c.over i t (c.hi t))
theorem run_surely (c : Ch) (hok : ChOk c) (lim : Nat) (H : AH) (d t s : Value) (hc : ChIn H c d t s) (g : Int) {i k : Nat} (hi : i < c.cells) (hk : k < c.ticks) :
    apL Tryz.prog pf (.func (.func 72) #[] #[]) [boV c d t s g, .int .i64 i, .int .i64 k] lim H = some (.bool (c.sure g i k), H) := by
  rw [apL_func _ _ _ _ _ _ (by rfl), sf_chart_boat_surelyFloats_eq]
  have hw := fun lim => run_water c hok lim H d t s hc hi hk
  obtain ⟨⟨da, dc, ed, _⟩, ⟨ta, tc, et, _⟩, ⟨sa, sc, es, _⟩, _, _, _⟩ := hc
  simp only [chV, ed, et, es] at hw
  simp [sf_chart_boat_surelyFloats, boV, ed, et, es, hw, Ch.sure, pf_pure, pureF]
theorem run_mayFloat (c : Ch) (hok : ChOk c) (lim : Nat) (H : AH) (d t s : Value) (hc : ChIn H c d t s) (g : Int) {i k : Nat} (hi : i < c.cells) (hk : k < c.ticks) :
    apL Tryz.prog pf (.func (.func 73) #[] #[]) [boV c d t s g, .int .i64 i, .int .i64 k] lim H = some (.bool (c.may g i k), H) := by
  rw [apL_func _ _ _ _ _ _ (by rfl), sf_chart_boat_mayFloat_eq]
  have hw := fun lim => run_water c hok lim H d t s hc hi hk
  obtain ⟨⟨da, dc, ed, _⟩, ⟨ta, tc, et, _⟩, ⟨sa, sc, es, _⟩, _, _, _⟩ := hc
  simp only [chV, ed, et, es] at hw
  simp [sf_chart_boat_mayFloat, boV, ed, et, es, hw, Ch.may, pf_pure, pureF]
theorem inN_iff {n : Nat} {x : Int} : inN n x = true ↔ ∃ i : Nat, i < n ∧ x = i := by
  simp only [inN, Bool.and_eq_true, decide_eq_true_eq]
  constructor
  · rintro ⟨h1, h2⟩; exact ⟨x.toNat, by omega, by omega⟩
  · rintro ⟨i, h, rfl⟩; omega
theorem openE_zero {c : Ch} {xs ys : List Int} (h : openE c xs ys = 0) : ChOk c ∧ xs.all (inN c.cells) = true ∧ ys.all (inN c.ticks) = true := by
  unfold openE at h
  split at h
  · rename_i hok
    split at h
    · rename_i h2; simp only [Bool.and_eq_true] at h2; exact ⟨hok, h2.1, h2.2⟩
    · cases h
  · cases h
theorem Sl.made {H : AH} {b : Nat} {l : List Int} {n k : Nat} (h : H[b]? = some (.rw 1 (ints l))) (hn : n = l.length) : Sl H (.slice (some ⟨b, 0, none⟩) n k) l.length (ints l) :=
  ⟨_, k, by rw [hn], fun j v hv => ⟨b, 0, rfl, by simp only [hcell, h, Nat.zero_add]; exact hv⟩⟩
theorem Sl.nil {H : AH} {k : Nat} : Sl H (.slice none 0 k) ([] : List Int).length (ints []) := ⟨none, k, rfl, fun j v hv => by simp [ints] at hv⟩
theorem ChIn.ext {H H' : AH} (hE : Ext H H') {c : Ch} {d t s : Value} (hc : ChIn H c d t s) : ChIn H' c d t s := ⟨hc.d.ext hE, hc.t.ext hE, hc.s.ext hE, hc.dl, hc.tl, hc.sl⟩
theorem embE_zero {c : Ch} {g : Int} {xs ys : List Int} (h : embE c g xs ys = 0) : openE c xs ys = 0 ∧ 1 ≤ g ∧ g ≤ 100 := by
  unfold embE at h
  split at h
  · rename_i h0
    split at h
    · rename_i h1; exact ⟨h0, h1⟩
    · cases h
  · rename_i h0; exact absurd h h0
noncomputable def floatsR (c : Ch) (g a b : Int) : Value := .tuple #[.bool (decide (embE c g [a] [b] = 0) && c.sure g a.toNat b.toNat), .bool (decide (embE c g [a] [b] = 0) && c.may g a.toNat b.toNat), .int .i64 (embE c g [a] [b])]
theorem run_Floats (c : Ch) (lim : Nat) (H : AH) (d t s : Value) (hc : ChIn H c d t s) (g a b : Int) :
    apL Tryz.prog pf (.func (.func 34) #[] #[]) [chV c d t s, .int .i64 g, .int .i64 a, .int .i64 b] lim H = some (floatsR c g a b, H) := by
  rw [apL_func _ _ _ _ _ _ (by rfl), sf_chart_Floats_eq]
  have hc2 : ChIn (H ++ [.rw 1 (ints [a]), .rw 1 (ints [b])]) c d t s := hc.ext (Ext.push H _)
  have ho := fun lim => run_embark c lim _ d t s hc2 g [a] [b] (.slice (some ⟨H.length, 0, none⟩) 1 1) (.slice (some ⟨H.length + 1, 0, none⟩) 1 1) (Sl.made (by simp) rfl) (Sl.made (by simp) rfl) (by simp) (by simp)
  by_cases h0 : embE c g [a] [b] = 0
  · obtain ⟨h00, _⟩ := embE_zero h0
    obtain ⟨hok, h1, h2⟩ := openE_zero h00
    simp only [List.all_cons, List.all_nil, Bool.and_true, inN_iff] at h1 h2
    obtain ⟨i, hi, rfl⟩ := h1
    obtain ⟨k, hk, rfl⟩ := h2
    have hw := fun lim => run_surely c hok lim _ d t s hc2 g hi hk
    have hm := fun lim => run_mayFloat c hok lim _ d t s hc2 g hi hk
    obtain ⟨⟨da, dc, ed, _⟩, ⟨ta, tc, et, _⟩, ⟨sa, sc, es, _⟩, _, _, _⟩ := hc
    simp only [h0, if_true, boV, chV, ed, et, es, ints, List.map] at ho hw hm
    simp [sf_chart_Floats, chV, ed, et, es, ho, hw, hm, h0, floatsR, pf_pure, pureF]
  · have h1 : (embE c g [a] [b] != 0) = true := by simpa using h0
    obtain ⟨⟨da, dc, ed, _⟩, ⟨ta, tc, et, _⟩, ⟨sa, sc, es, _⟩, _, _, _⟩ := hc
    simp only [h0, if_false, chV, ed, et, es, ints, List.map, noBo] at ho
    simp [sf_chart_Floats, chV, ed, et, es, ho, h0, h1, floatsR, pf_pure, pureF]
end Go.Proofs.YtmdnpaboaelkeaaGreatDoor
namespace Go.Proofs.YtmdnpaboaelkeaaGreatDoor
open Go Go.RowKit
theorem run_Over (c : Ch) (hok : ChOk c) (lim : Nat) (H : AH) (d t s : Value) (hc : ChIn H c d t s) {i k : Nat} (hi : i < c.cells) (hk : k < c.ticks) (h : Int) (h0 : -1000000 ≤ h) (h1 : h ≤ 1000000) :
    apL Tryz.prog pf (.func (.func 108) #[] #[]) [chV c d t s, .int .i64 i, .int .i64 k, .int .i64 h] lim H = some (.int .i64 (c.over i k h), H) := by
  rw [apL_func _ _ _ _ _ _ (by rfl), sf_cobleref01_Over_eq]
  obtain ⟨⟨b1, b2⟩, ⟨b3, b4, b5⟩, b6, b7⟩ := hok.bounds hi hk
  have hsl : k < c.swell.length := by rw [hok.2.2.2.2.1]; exact hk
  obtain ⟨bd, od, kd, rfl, d1⟩ := hc.dep hi
  obtain ⟨bs, os, ks, rfl, s1⟩ := hc.sw hsl
  obtain ⟨ta, tc, et, _⟩ := hc.t
  have hi' : i < c.depth.length := hi
  have w1 : IntKind.i64.wrap (c.dep i + h) = c.dep i + h := wrap_i64 (by omega) (by omega)
  have w2 : IntKind.i64.wrap (c.dep i + h - c.sw k) = c.dep i + h - c.sw k := wrap_i64 (by omega) (by omega)
  have e : c.over i k h = c.dep i + h - c.sw k := by unfold Ch.over; omega
  simp only [hcell] at d1 s1
  simp [sf_cobleref01_Over, chV, hi', hsl, d1, s1, w1, w2, e, et, pf_pure, pureF]
theorem run_IsTick (c : Ch) (x : Int) (lim : Nat) (H : AH) (d t s : Value) (hc : ChIn H c d t s) :
    apL Tryz.prog pf (.func (.func 36) #[] #[]) [chV c d t s, .int .i64 x] lim H = some (.bool (inN c.ticks x), H) := by
  show _ = some (Value.bool (inN c.tide.length x), H)
  rw [apL_func _ _ _ _ _ _ (by rfl), sf_cobleref01_IsTick_eq]
  have hdl := hc.tl
  obtain ⟨⟨da, dc, ed, _⟩, ⟨ta, tc, et, _⟩, ⟨sa, sc, es, _⟩, _, _, _⟩ := hc
  have hw : IntKind.i64.wrap ((c.tide.length : Int) - 1) = (c.tide.length : Int) - 1 := wrap_i64 (by omega) (by omega)
  simp [sf_cobleref01_IsTick, chV, ed, et, es, hw, inN, pf_pure, pureF]
theorem run_IsDraught (x : Int) (lim : Nat) (H : AH) : apL Tryz.prog pf (.func (.func 58) #[] #[]) [.int .i64 x] lim H = some (.bool (decide (1 ≤ x) && decide (x ≤ 100)), H) := by
  rw [apL_func _ _ _ _ _ _ (by rfl), sf_cobleref01_IsDraught_eq]
  simp [sf_cobleref01_IsDraught, pf_pure, pureF]
theorem ChOk.mul {c : Ch} (h : ChOk c) : 0 ≤ c.w * c.h ∧ c.w * c.h ≤ 144 ∧ c.w * c.h = c.cells := by
  have h1 : 0 ≤ c.w * c.h := Int.mul_nonneg (by have := h.1; omega) (by have := h.2.1; omega)
  have h2 : c.w * c.h ≤ 12 * 12 := Int.mul_le_mul h.1.2 h.2.1.2 (by have := h.2.1; omega) (by omega)
  exact ⟨h1, by omega, h.2.2.1.symm⟩
theorem run_IsCellOk (c : Ch) (hok : ChOk c) (x : Int) (lim : Nat) (H : AH) (d t s : Value) (hc : ChIn H c d t s) :
    apL Tryz.prog pf (.func (.func 37) #[] #[]) [chV c d t s, .int .i64 x] lim H = some (.bool (inN c.cells x), H) := by
  obtain ⟨h1, h2, h3⟩ := hok.mul
  rw [run_IsCell c x lim H d t s hc (wrap_i64 (by omega) (by omega)) (wrap_i64 (by omega) (by omega)), h3]
  rfl
theorem openE_eq {c : Ch} (hok : ChOk c) (xs ys : List Int) : openE c xs ys = if xs.all (inN c.cells) && ys.all (inN c.ticks) then 0 else 1 := by
  unfold openE; rw [if_pos hok]; rfl
theorem embE_of0 {c : Ch} {g : Int} {xs ys : List Int} (h : openE c xs ys = 0) : embE c g xs ys = if 1 ≤ g ∧ g ≤ 100 then 0 else 1 := by unfold embE; rw [if_pos h]
theorem cellsAt_of {L : LS} {H : AH} {b : Nat} : ∀ (l : List Value) (o : Nat) (_ : ∀ (j : Nat) x, l[j]? = some x → hcell H b (o + j) = some x), cellsAt L H ⟨b, o, none⟩ l.length = some l
  | [], _, _ => rfl
  | v :: l, o, h => by
    have h1 := h 0 v rfl
    have ih := cellsAt_of (L := L) l (o + 1) (fun j x hx => by rw [show o + 1 + j = o + (j + 1) by omega]; exact h (j + 1) x hx)
    simp only [List.length_cons, cellsAt, cellAt, aadd]
    rw [show o + 0 = o from rfl] at h1
    simp only [h1, ih]
theorem Sl.cells {H : AH} {v : Value} {n : Nat} {cs : List Value} (h : Sl H v n cs) (h0 : 0 < cs.length) : ∃ b o k, v = .slice (some ⟨b, o, none⟩) n k ∧ ∀ L, cellsAt L H ⟨b, o, none⟩ cs.length = some cs := by
  obtain ⟨a, k, e, hk⟩ := h
  obtain ⟨b, o, ea, _⟩ := hk 0 cs[0] (List.getElem?_eq_getElem h0)
  refine ⟨b, o, k, by rw [e, ea], fun L => cellsAt_of cs o fun j x hx => ?_⟩
  obtain ⟨b', o', ea', h'⟩ := hk j x hx
  rw [ea] at ea'
  cases ea'
  exact h'
theorem nlL_ints : ∀ (l : List Int), nlL (ints l) = true
  | [] => by simp [ints, nlL]
  | x :: l => by have := nlL_ints l; simp only [ints, List.map_cons, nlL] at this ⊢; simp [this]
theorem one_ints : ∀ (l : List Int), (ints l).all oneC = true
  | [] => by simp [ints]
  | x :: l => by have := one_ints l; simp only [ints, List.map_cons, List.all_cons] at this ⊢; simp [this, oneC]
theorem nlL_spans : ∀ (l : List (Int × Int)), nlL (spans l) = true
  | [] => by simp [spans, nlL]
  | (x, y) :: l => by have := nlL_spans l; simp only [spans, List.flatMap_cons] at this ⊢; simp [this, nlL]
theorem one_spans : ∀ (l : List (Int × Int)), (spans l).all oneC = true
  | [] => by simp [spans]
  | (x, y) :: l => by have := one_spans l; simp only [spans, List.flatMap_cons] at this ⊢; simp [this, oneC]
theorem ints_length (l : List Int) : (ints l).length = l.length := by simp [ints]
theorem spans_length : ∀ (l : List (Int × Int)), (spans l).length = l.length * 2
  | [] => rfl
  | (x, y) :: l => by have := spans_length l; simp only [spans, List.flatMap_cons, List.length_append, List.length_cons, List.length_nil] at this ⊢; rw [this]; omega
end Go.Proofs.YtmdnpaboaelkeaaGreatDoor
namespace Go.Proofs.YtmdnpaboaelkeaaGreatDoor
open Go Go.RowKit
def cpB (e : Nat) (cs : List Value) : List ABlk := if cs.length = 0 then [.rw e []] else [.rw e [], .rw e cs]
def cpV (b n : Nat) : Value := if n = 0 then .slice (some ⟨b, 0, none⟩) 0 0 else .slice (some ⟨b + 1, 0, none⟩) n (n + 1)
theorem Sl.cp {H H' : AH} {e n : Nat} {cs : List Value} (hE : Ext (H ++ cpB e cs) H') (hn : cs.length = 0 ↔ n = 0) : Sl H' (cpV H.length n) n cs := by
  unfold cpV
  by_cases h : n = 0
  · have hc := hn.2 h
    rw [if_pos h, h]
    exact ⟨_, 0, rfl, fun j x hx => by rw [List.getElem?_eq_none (by omega)] at hx; cases hx⟩
  · have hc : ¬ cs.length = 0 := fun k => h (hn.1 k)
    rw [if_neg h]
    refine ⟨_, n + 1, rfl, fun j x hx => ⟨H.length + 1, 0, rfl, ?_⟩⟩
    have := hE (H.length + 1) (.rw e cs) (by rw [List.getElem?_append_right (by omega), cpB, if_neg hc, Nat.add_sub_cancel_left]; rfl)
    simp only [hcell, this, Nat.zero_add]
    exact hx
theorem oneC_slice (a : Option Addr) (n c : Nat) : oneC (.slice a n c) = true := by unfold oneC; rfl
theorem oneC_int (k : IntKind) (n : Int) : oneC (.int k n) = true := by unfold oneC; rfl
def copyB (c : Ch) : List ABlk := cpB 1 (ints c.depth) ++ cpB 2 (spans c.tide) ++ cpB 1 (ints c.swell)
set_option maxHeartbeats 2000000 in
theorem run_Copy (c : Ch) (lim : Nat) (H : AH) (d t s : Value) (hc : ChIn H c d t s) (hl : c.depth.length ≤ 1000 ∧ c.tide.length ≤ 1000 ∧ c.swell.length ≤ 1000) :
    ∃ d' t' s', apL Tryz.prog pf (.func (.func 43) #[] #[]) [chV c d t s] lim H = some (chV c d' t' s', H ++ copyB c) ∧ ChIn (H ++ copyB c) c d' t' s' := by
  refine ⟨cpV H.length c.depth.length, cpV (H ++ cpB 1 (ints c.depth)).length c.tide.length, cpV (H ++ cpB 1 (ints c.depth) ++ cpB 2 (spans c.tide)).length c.swell.length, ?_,
    ⟨Sl.cp (H := H) (e := 1) (cs := ints c.depth) ?_ (by rw [ints_length]), Sl.cp (H := H ++ cpB 1 (ints c.depth)) (e := 2) (cs := spans c.tide) ?_ (by rw [spans_length]; omega), Sl.cp (H := H ++ cpB 1 (ints c.depth) ++ cpB 2 (spans c.tide)) (e := 1) (cs := ints c.swell) ?_ (by rw [ints_length]), by omega, by omega, by omega⟩⟩
  rotate_left
  · rw [copyB, ← List.append_assoc, ← List.append_assoc]; exact (Ext.push _ _).trans (Ext.push _ _)
  · rw [copyB, ← List.append_assoc, ← List.append_assoc]; exact Ext.push _ _
  · rw [copyB, ← List.append_assoc, ← List.append_assoc]; exact Ext.refl _
  rw [apL_func _ _ _ _ _ _ (by rfl), sf_cobleref01_Copy_eq]
  obtain ⟨h1, h2, h3⟩ := hl
  have i1 := nlL_ints c.depth
  have i2 := nlL_spans c.tide
  have i3 := nlL_ints c.swell
  have o1 := one_ints c.depth
  have o2 := one_spans c.tide
  have o3 := one_ints c.swell
  have hm1 : c.depth.length ≤ maxA := Nat.le_trans h1 (by decide)
  have hm2 : c.tide.length ≤ maxA := Nat.le_trans h2 (by decide)
  have hm3 : c.swell.length ≤ maxA := Nat.le_trans h3 (by decide)
  have key : ∀ {v : Value} {n : Nat} {cs : List Value}, Sl H v n cs → (0 < cs.length → ∃ b o k, v = .slice (some ⟨b, o, none⟩) n k ∧ ∀ L l, cellsAt L (H ++ l) ⟨b, o, none⟩ cs.length = some cs) ∧ ∃ a k, v = .slice a n k := fun {v n cs} hs => by
    refine ⟨fun h0 => ?_, let ⟨a, k, e, _⟩ := hs; ⟨a, k, e⟩⟩
    obtain ⟨b, o, k, e, _⟩ := hs.cells h0
    refine ⟨b, o, k, e, fun L l => ?_⟩
    obtain ⟨b', o', k', e', hh⟩ := (hs.ext (Ext.push H l)).cells h0
    rw [e] at e'
    cases e'
    exact hh L
  obtain ⟨kd, da, dk, ed⟩ := key hc.d
  obtain ⟨kt, ta, tk, et⟩ := key hc.t
  obtain ⟨ks, sa, sk, es⟩ := key hc.s
  rw [ints_length] at kd ks
  rw [spans_length] at kt
  have D : (c.depth.length = 0 ∧ ∃ a k, d = .slice a 0 k) ∨ 0 < c.depth.length ∧ ∃ b o k, d = .slice (some ⟨b, o, none⟩) c.depth.length k ∧ ∀ L l, cellsAt L (H ++ l) ⟨b, o, none⟩ c.depth.length = some (ints c.depth) := by
    by_cases h : c.depth.length = 0
    · exact .inl ⟨h, da, dk, by rw [ed, h]⟩
    · exact .inr ⟨by omega, kd (by omega)⟩
  have T : (c.tide.length = 0 ∧ ∃ a k, t = .slice a 0 k) ∨ 0 < c.tide.length ∧ ∃ b o k, t = .slice (some ⟨b, o, none⟩) c.tide.length k ∧ ∀ L l, cellsAt L (H ++ l) ⟨b, o, none⟩ (c.tide.length * 2) = some (spans c.tide) := by
    by_cases h : c.tide.length = 0
    · exact .inl ⟨h, ta, tk, by rw [et, h]⟩
    · exact .inr ⟨by omega, kt (by omega)⟩
  have S : (c.swell.length = 0 ∧ ∃ a k, s = .slice a 0 k) ∨ 0 < c.swell.length ∧ ∃ b o k, s = .slice (some ⟨b, o, none⟩) c.swell.length k ∧ ∀ L l, cellsAt L (H ++ l) ⟨b, o, none⟩ c.swell.length = some (ints c.swell) := by
    by_cases h : c.swell.length = 0
    · exact .inl ⟨h, sa, sk, by rw [es, h]⟩
    · exact .inr ⟨by omega, ks (by omega)⟩
  clear kd kt ks ed et es key hc h1 h2 h3
  rcases D with ⟨D, _, _, rfl⟩ | ⟨D, b1, p1, k1, rfl, D'⟩ <;> rcases T with ⟨T, _, _, rfl⟩ | ⟨T, b2, p2, k2, rfl, T'⟩ <;> rcases S with ⟨S, _, _, rfl⟩ | ⟨S, b3, p3, k3, rfl, S'⟩ <;>
    simp [-oneC, oneC_slice, oneC_int, sf_cobleref01_Copy, chV, copyB, cpB, cpV, ints_length, spans_length, pf_pure, pureF, *, Nat.ne_of_gt]
end Go.Proofs.YtmdnpaboaelkeaaGreatDoor
namespace Go.Proofs.YtmdnpaboaelkeaaGreatDoor
open Go Go.RowKit
def Far (c : Ch) : Prop := c.depth.length > 146 ∨ c.tide.length > 62 ∨ c.swell.length > 62 ∨ (ChOk c ∧ (c.w * c.h > 40 ∨ c.tide.length > 16))
theorem run_Vast_long (c : Ch) (lim : Nat) (A : AH) (d t s : Value) (hc : ChSl A c d t s) (hl : c.depth.length > 146 ∨ c.tide.length > 62 ∨ c.swell.length > 62) :
    apL Tryz.prog pf (.func (.func 41) #[] #[]) [chV c d t s] lim A = some (.bool true, A) := by
  rw [apL_func _ _ _ _ _ _ (by rfl), sf_coblelaw01_Vast_eq]
  obtain ⟨⟨da, dc, ed, _⟩, ⟨ta, tc, et, _⟩, ⟨sa, sc, es, _⟩⟩ := hc
  by_cases a1 : c.depth.length > 146
  · have b1 : ((c.depth.length : Int) > 146) := by omega
    simp [sf_coblelaw01_Vast, chV, ed, a1, b1, pf_pure, pureF]
  have b1 : ¬ ((c.depth.length : Int) > 146) := by omega
  by_cases a2 : c.tide.length > 62
  · have b2 : ((c.tide.length : Int) > 62) := by omega
    simp [sf_coblelaw01_Vast, chV, ed, et, a1, b1, a2, b2, pf_pure, pureF]
  have b2 : ¬ ((c.tide.length : Int) > 62) := by omega
  have b3 : ((c.swell.length : Int) > 62) := by omega
  simp [sf_coblelaw01_Vast, chV, ed, et, es, a1, b1, a2, b2, b3, pf_pure, pureF]
theorem ChSl.in {A : AH} {c : Ch} {d t s : Value} (hc : ChSl A c d t s) (hl : ¬ (c.depth.length > 146 ∨ c.tide.length > 62 ∨ c.swell.length > 62)) : ChIn A c d t s := ⟨hc.d, hc.t, hc.s, by omega, by omega, by omega⟩
open Classical in
theorem run_VastT (c : Ch) (lim : Nat) (H : AH) (d t s : Value) (hc : ChIn H c d t s) (hf : Far c) : apL Tryz.prog pf (.func (.func 41) #[] #[]) [chV c d t s] lim H = some (.bool true, H) := by
  rw [run_Vast c lim H d t s hc]
  congr 3
  exact decide_eq_true hf
open Classical in
theorem run_VastF (c : Ch) (lim : Nat) (H : AH) (d t s : Value) (hc : ChIn H c d t s) (hf : ¬ Far c) : apL Tryz.prog pf (.func (.func 41) #[] #[]) [chV c d t s] lim H = some (.bool false, H) := by
  rw [run_Vast c lim H d t s hc]
  congr 3
  exact decide_eq_false hf
theorem ChSl.near {A : AH} {c : Ch} {d t s : Value} (hc : ChSl A c d t s) (hf : ¬ Far c) : ChIn A c d t s := hc.in fun h => hf (by
  unfold Far
  rcases h with h | h | h
  · exact .inl h
  · exact .inr (.inl h)
  · exact .inr (.inr (.inl h)))
theorem run_VastFar (c : Ch) (lim : Nat) (H : AH) (d t s : Value) (hc : ChSl H c d t s) (hf : Far c) : apL Tryz.prog pf (.func (.func 41) #[] #[]) [chV c d t s] lim H = some (.bool true, H) := by
  by_cases hl : c.depth.length > 146 ∨ c.tide.length > 62 ∨ c.swell.length > 62
  · exact run_Vast_long c lim H d t s hc hl
  · exact run_VastT c lim H d t s (hc.in hl) hf
theorem Far.short {c : Ch} (hf : ¬ Far c) : c.depth.length ≤ 1000 ∧ c.tide.length ≤ 1000 ∧ c.swell.length ≤ 1000 := by
  unfold Far at hf
  refine ⟨?_, ?_, ?_⟩ <;> (apply Nat.le_of_not_lt; intro h; apply hf)
  · exact .inl (by omega)
  · exact .inr (.inl (by omega))
  · exact .inr (.inr (.inl (by omega)))
end Go.Proofs.YtmdnpaboaelkeaaGreatDoor
namespace Go.Proofs.YtmdnpaboaelkeaaGreatDoor
open Go Go.RowKit
structure Rep where
  (tick kind cell a b c d : Int)
  sure : Bool
  w : Int
def Rep.vals (r : Rep) : List Value := [.int .i64 r.tick, .int .i64 r.kind, .int .i64 r.cell, .int .i64 r.a, .int .i64 r.b, .int .i64 r.c, .int .i64 r.d, .bool r.sure, .int .i64 r.w]
def repV (r : Rep) : Value := .agg #[.int .i64 r.tick, .int .i64 r.kind, .int .i64 r.cell, .int .i64 r.a, .int .i64 r.b, .int .i64 r.c, .int .i64 r.d, .bool r.sure, .int .i64 r.w]
def repsV (l : List Rep) : List Value := l.flatMap Rep.vals
theorem repsV_length : ∀ (l : List Rep), (repsV l).length = l.length * 9
  | [] => rfl
  | r :: l => by
    have := repsV_length l
    simp only [repsV, List.flatMap_cons, List.length_append, List.length_cons] at this ⊢
    rw [this]
    simp [Rep.vals]
    omega
theorem repsV_get : ∀ {l : List Rep} {i : Nat} (h : i < l.length) (j : Nat) (_ : j < 9), (repsV l)[i * 9 + j]? = l[i].vals[j]?
  | r :: l, 0, h, j, hj => by
    have : j < r.vals.length := by simpa [Rep.vals] using hj
    simp only [repsV, List.flatMap_cons]
    rw [List.getElem?_append_left (by omega)]
    simp
  | r :: l, i + 1, h, j, hj => by
    have := repsV_get (l := l) (i := i) (by simpa using h) j hj
    simp only [repsV, List.flatMap_cons] at this ⊢
    rw [List.getElem?_append_right (by simp [Rep.vals]; omega)]
    simp only [List.getElem_cons_succ]
    rw [← this]
    congr 1
    simp [Rep.vals]
    omega
@[simp] theorem run_from3 (n l h : Int) (lim : Nat) (H : AH) : apL Tryz.prog pf (.func (.func 59) #[] #[]) [.int .i64 n, .int .i64 l, .int .i64 h] lim H = some (.bool (decide (l ≤ n) && decide (n ≤ h)), H) := by
  rw [apL_func _ _ _ _ _ _ (by rfl), sf_cobleref03_from_eq]
  by_cases h1 : l ≤ n <;> simp [sf_cobleref03_from, h1, pf_pure, pureF]
theorem mul_le4 {x y : Int} (hx : -4000 ≤ x ∧ x ≤ 4000) (hy : -4000 ≤ y ∧ y ≤ 4000) : -16000000 ≤ x * y ∧ x * y ≤ 16000000 := by
  have h : (x * y).natAbs ≤ 4000 * 4000 := by
    rw [Int.natAbs_mul]
    exact Nat.mul_le_mul (by omega) (by omega)
  omega
theorem run_Turn (x y u v : Int) (hx : -4000 ≤ x ∧ x ≤ 4000) (hy : -4000 ≤ y ∧ y ≤ 4000) (hu : -4000 ≤ u ∧ u ≤ 4000) (hv : -4000 ≤ v ∧ v ≤ 4000) (lim : Nat) (H : AH) :
    apL Tryz.prog pf (.func (.func 123) #[] #[]) [.int .i64 x, .int .i64 y, .int .i64 u, .int .i64 v] lim H = some (.int .i64 (x * v - y * u), H) := by
  rw [apL_func _ _ _ _ _ _ (by rfl), sf_cobleref03_Turn_eq]
  have m1 := mul_le4 hx hv
  have m2 := mul_le4 hy hu
  simp [sf_cobleref03_Turn, pf_pure, pureF, wrap_i64 (n := x * v) (by omega) (by omega), wrap_i64 (n := y * u) (by omega) (by omega), wrap_i64 (n := x * v - y * u) (by omega) (by omega)]
def arV (x y : Int) : Value := .agg #[.int .i64 x, .int .i64 y]
theorem run_turn (x y u v : Int) (hx : -4000 ≤ x ∧ x ≤ 4000) (hy : -4000 ≤ y ∧ y ≤ 4000) (hu : -4000 ≤ u ∧ u ≤ 4000) (hv : -4000 ≤ v ∧ v ≤ 4000) (lim : Nat) (H : AH) :
    apL Tryz.prog pf (.func (.func 151) #[] #[]) [.agg #[.int .i64 x, .int .i64 y], .agg #[.int .i64 u, .int .i64 v]] lim H = some (.int .i64 (x * v - y * u), H) := by
  rw [apL_func _ _ _ _ _ _ (by rfl), sf_fixes_arrow_turn_eq]
  have m1 := mul_le4 hx hv
  have m2 := mul_le4 hy hu
  simp [sf_fixes_arrow_turn, pf_pure, pureF, wrap_i64 (n := x * v) (by omega) (by omega), wrap_i64 (n := y * u) (by omega) (by omega), wrap_i64 (n := x * v - y * u) (by omega) (by omega)]
theorem run_along (x y u v : Int) (hx : -4000 ≤ x ∧ x ≤ 4000) (hy : -4000 ≤ y ∧ y ≤ 4000) (hu : -4000 ≤ u ∧ u ≤ 4000) (hv : -4000 ≤ v ∧ v ≤ 4000) (lim : Nat) (H : AH) :
    apL Tryz.prog pf (.func (.func 152) #[] #[]) [.agg #[.int .i64 x, .int .i64 y], .agg #[.int .i64 u, .int .i64 v]] lim H = some (.int .i64 (x * u + y * v), H) := by
  rw [apL_func _ _ _ _ _ _ (by rfl), sf_fixes_arrow_along_eq]
  have m1 := mul_le4 hx hu
  have m2 := mul_le4 hy hv
  simp [sf_fixes_arrow_along, pf_pure, pureF, wrap_i64 (n := x * u) (by omega) (by omega), wrap_i64 (n := y * v) (by omega) (by omega), wrap_i64 (n := x * u + y * v) (by omega) (by omega)]
theorem run_edges (r : Rep) (lim : Nat) (H : AH) : apL Tryz.prog pf (.func (.func 149) #[] #[]) [repV r] lim H = some (.tuple #[arV r.a r.b, arV r.c r.d], H) := by
  rw [apL_func _ _ _ _ _ _ (by rfl), sf_fixes_edges_eq]
  simp [sf_fixes_edges, pf_pure, pureF, repV, arV]
def near200 (x : Int) : Bool := decide (-200 ≤ x) && decide (x ≤ 200)
def turnN (r : Rep) : Int := r.a * r.d - r.b * r.c
def alongN (r : Rep) : Int := r.a * r.c + r.b * r.d
def beamOk (r : Rep) : Bool := near200 r.a && near200 r.b && near200 r.c && near200 r.d && (decide (0 < turnN r) || (decide (turnN r = 0) && decide (0 < alongN r)))
def four (r : Rep) : List Int := [r.a, r.b, r.c, r.d]
theorem push3 (H : AH) (a b c : ABlk) : (H ++ [a, b, c])[H.length + 1 + 1]? = some c := by
  rw [Nat.add_assoc, List.getElem?_append_right (by omega)]; simp
theorem all_four (r : Rep) (lim : Nat) (H : AH) : apL Tryz.prog pf (.func (.func 78) #[] #[]) [.slice (some ⟨H.length, 0, none⟩) 4 4, betweenV (H.length + 1)] lim (H ++ [.rw 1 (ints (four r)), .rw 0 [.int .i64 (-200)], .rw 0 [.int .i64 200]]) =
    some (.bool ((four r).all near200), H ++ [.rw 1 (ints (four r)), .rw 0 [.int .i64 (-200)], .rw 0 [.int .i64 200]]) := by
  generalize hH : H ++ [ABlk.rw 1 (ints (four r)), .rw 0 [.int .i64 (-200)], .rw 0 [.int .i64 200]] = H2
  exact run_all (four r) (by simp [four]) H2 lim _ _ _ (Sl.made (by subst hH; simp) rfl) (isP_between (-200) 200 H2 (H.length + 1) (by subst hH; simp) (by subst hH; exact push3 _ _ _ _))
theorem all_four2 (r : Rep) (lim : Nat) (H : AH) : apL Tryz.prog pf (.func (.func 78) #[] #[]) [.slice (some ⟨H.length + 1 + 1, 0, none⟩) 4 4, betweenV H.length] lim (H ++ [.rw 0 [.int .i64 (-200)], .rw 0 [.int .i64 200], .rw 1 (ints (four r))]) =
    some (.bool ((four r).all near200), H ++ [.rw 0 [.int .i64 (-200)], .rw 0 [.int .i64 200], .rw 1 (ints (four r))]) := by
  generalize hH : H ++ [ABlk.rw 0 [.int .i64 (-200)], .rw 0 [.int .i64 200], .rw 1 (ints (four r))] = H2
  exact run_all (four r) (by simp [four]) H2 lim _ _ _ (Sl.made (by subst hH; exact push3 _ _ _ _) rfl) (isP_between (-200) 200 H2 H.length (by subst hH; simp) (by subst hH; simp))
theorem run_fixBeam (r : Rep) (lim : Nat) (H : AH) : apL Tryz.prog pf (.func (.func 143) #[] #[]) [repV r] lim H = some (.bool (beamOk r), H) := by
  rw [apL_func _ _ _ _ _ _ (by rfl), sf_fixes_isBeam_eq]
  have hb := fun l h lim H => run_between l h lim H
  have he := fun lim H => run_edges r lim H
  have h1 := fun lim => all_four r lim H
  have h2 := fun lim => all_four2 r lim H
  simp only [repV, arV, betweenV, ints, four, List.map_cons, List.map_nil] at hb he h1 h2
  cases h4 : [r.a, r.b, r.c, r.d].all near200 with
  | false =>
    rw [h4] at h1 h2
    have hf : beamOk r = false := by
      simp only [List.all_cons, List.all_nil, Bool.and_true] at h4
      unfold beamOk
      rw [show (near200 r.a && near200 r.b && near200 r.c && near200 r.d) = false by simpa [Bool.and_assoc] using h4]
      rfl
    simp [sf_fixes_isBeam, pf_pure, pureF, repV, hb, he, h1, h2, hf]
  | true =>
    rw [h4] at h1 h2
    have hn : near200 r.a = true ∧ near200 r.b = true ∧ near200 r.c = true ∧ near200 r.d = true := by simpa using h4
    have h4' := hn
    simp only [near200, Bool.and_eq_true, decide_eq_true_eq] at hn
    have ht := fun lim H => run_turn r.a r.b r.c r.d (by omega) (by omega) (by omega) (by omega) lim H
    have ha := fun lim H => run_along r.a r.b r.c r.d (by omega) (by omega) (by omega) (by omega) lim H
    have hf : beamOk r = (decide (0 < turnN r) || (decide (turnN r = 0) && decide (0 < alongN r))) := by
      unfold beamOk
      rw [h4'.1, h4'.2.1, h4'.2.2.1, h4'.2.2.2]
      rfl
    change ∀ lim H, apL _ _ _ _ _ _ = some (.int .i64 (turnN r), H) at ht
    change ∀ lim H, apL _ _ _ _ _ _ = some (.int .i64 (alongN r), H) at ha
    by_cases c1 : 0 < turnN r
    · simp [sf_fixes_isBeam, pf_pure, pureF, repV, hb, he, h1, h2, hf, ht, ha, c1]
    · by_cases c2 : turnN r = 0 <;> simp [sf_fixes_isBeam, pf_pure, pureF, repV, hb, he, h1, h2, hf, ht, ha, c1, c2]
theorem beam_zero {r : Rep} (h : r.a = 0 ∧ r.b = 0 ∨ r.c = 0 ∧ r.d = 0) : turnN r = 0 ∧ alongN r = 0 := by
  unfold turnN alongN
  rcases h with ⟨h1, h2⟩ | ⟨h1, h2⟩ <;> rw [h1, h2] <;> constructor <;> omega
set_option maxHeartbeats 2000000 in
theorem run_refBeam (r : Rep) (lim : Nat) (H : AH) : apL Tryz.prog pf (.func (.func 100) #[] #[]) [repV r] lim H = some (.bool (beamOk r), H) := by
  rw [apL_func _ _ _ _ _ _ (by rfl), sf_cobleref03_isBeam_eq]
  by_cases h4 : near200 r.a = true ∧ near200 r.b = true ∧ near200 r.c = true ∧ near200 r.d = true
  rotate_left
  · have hf : beamOk r = false := by
      unfold beamOk
      cases k1 : near200 r.a <;> cases k2 : near200 r.b <;> cases k3 : near200 r.c <;> cases k4 : near200 r.d <;> first | rfl | exact absurd ⟨k1, k2, k3, k4⟩ h4
    cases k1 : near200 r.a with
    | false => simp only [near200] at k1; simp [sf_cobleref03_isBeam, pf_pure, pureF, repV, k1, hf]
    | true =>
    cases k2 : near200 r.b with
    | false => simp only [near200] at k1 k2; simp [sf_cobleref03_isBeam, pf_pure, pureF, repV, k1, k2, hf]
    | true =>
    cases k3 : near200 r.c with
    | false => simp only [near200] at k1 k2 k3; simp [sf_cobleref03_isBeam, pf_pure, pureF, repV, k1, k2, k3, hf]
    | true =>
    cases k4 : near200 r.d with
    | false => simp only [near200] at k1 k2 k3 k4; simp [sf_cobleref03_isBeam, pf_pure, pureF, repV, k1, k2, k3, k4, hf]
    | true => exact absurd ⟨k1, k2, k3, k4⟩ h4
  · have hf : beamOk r = (decide (0 < turnN r) || (decide (turnN r = 0) && decide (0 < alongN r))) := by
      unfold beamOk
      rw [h4.1, h4.2.1, h4.2.2.1, h4.2.2.2]
      rfl
    obtain ⟨k1, k2, k3, k4⟩ := h4
    have hn : (-200 ≤ r.a ∧ r.a ≤ 200) ∧ (-200 ≤ r.b ∧ r.b ≤ 200) ∧ (-200 ≤ r.c ∧ r.c ≤ 200) ∧ (-200 ≤ r.d ∧ r.d ≤ 200) := by
      simp only [near200, Bool.and_eq_true, decide_eq_true_eq] at k1 k2 k3 k4
      exact ⟨k1, k2, k3, k4⟩
    simp only [near200] at k1 k2 k3 k4
    have ht := fun lim H => run_Turn r.a r.b r.c r.d (by omega) (by omega) (by omega) (by omega) lim H
    change ∀ lim H, apL _ _ _ _ _ _ = some (.int .i64 (turnN r), H) at ht
    have m1 := mul_le4 (x := r.a) (y := r.c) (by omega) (by omega)
    have m2 := mul_le4 (x := r.b) (y := r.d) (by omega) (by omega)
    have w1 := wrap_i64 (n := r.a * r.c) (by omega) (by omega)
    have w2 := wrap_i64 (n := r.b * r.d) (by omega) (by omega)
    have w3 : IntKind.i64.wrap (r.a * r.c + r.b * r.d) = alongN r := wrap_i64 (by omega) (by omega)
    have main : (r.a == 0 && r.b == 0) = false → (r.c == 0 && r.d == 0) = false → apL Tryz.prog pf (.func (.func 100) #[] #[]) [repV r] lim H = some (.bool (beamOk r), H) := by
      rw [apL_func _ _ _ _ _ _ (by rfl), sf_cobleref03_isBeam_eq]
      intro y1 y2
      cases z1 : (r.a == 0) with
      | false =>
        cases z3 : (r.c == 0) with
        | false => by_cases c1 : 0 < turnN r <;> by_cases c2 : turnN r = 0 <;> first | (exfalso; omega) | simp [sf_cobleref03_isBeam, pf_pure, pureF, repV, k1, k2, k3, k4, hf, ht, w1, w2, w3, z1, z3, c1, c2]
        | true =>
          have z4 : (r.d == 0) = false := by rw [z3] at y2; exact y2
          by_cases c1 : 0 < turnN r <;> by_cases c2 : turnN r = 0 <;> first | (exfalso; omega) | simp [sf_cobleref03_isBeam, pf_pure, pureF, repV, k1, k2, k3, k4, hf, ht, w1, w2, w3, z1, z3, z4, c1, c2]
      | true =>
        have z2 : (r.b == 0) = false := by rw [z1] at y1; exact y1
        cases z3 : (r.c == 0) with
        | false => by_cases c1 : 0 < turnN r <;> by_cases c2 : turnN r = 0 <;> first | (exfalso; omega) | simp [sf_cobleref03_isBeam, pf_pure, pureF, repV, k1, k2, k3, k4, hf, ht, w1, w2, w3, z1, z2, z3, c1, c2]
        | true =>
          have z4 : (r.d == 0) = false := by rw [z3] at y2; exact y2
          by_cases c1 : 0 < turnN r <;> by_cases c2 : turnN r = 0 <;> first | (exfalso; omega) | simp [sf_cobleref03_isBeam, pf_pure, pureF, repV, k1, k2, k3, k4, hf, ht, w1, w2, w3, z1, z2, z3, z4, c1, c2]
    rw [apL_func _ _ _ _ _ _ (by rfl), sf_cobleref03_isBeam_eq] at main
    cases y1 : (r.a == 0 && r.b == 0) with
    | true =>
      simp only [Bool.and_eq_true] at y1
      have z := beam_zero (r := r) (.inl ⟨by simpa using y1.1, by simpa using y1.2⟩)
      simp [sf_cobleref03_isBeam, pf_pure, pureF, repV, k1, k2, k3, k4, hf, z, y1.1, y1.2]
    | false =>
    cases y2 : (r.c == 0 && r.d == 0) with
    | false => exact main y1 y2
    | true =>
      simp only [Bool.and_eq_true] at y2
      have z := beam_zero (r := r) (.inr ⟨by simpa using y2.1, by simpa using y2.2⟩)
      cases z1 : (r.a == 0) with
      | false => simp [sf_cobleref03_isBeam, pf_pure, pureF, repV, k1, k2, k3, k4, hf, z, z1, y2.1, y2.2]
      | true =>
        have z2 : (r.b == 0) = false := by rw [z1] at y1; exact y1
        simp [sf_cobleref03_isBeam, pf_pure, pureF, repV, k1, k2, k3, k4, hf, z, z1, z2, y2.1, y2.2]
end Go.Proofs.YtmdnpaboaelkeaaGreatDoor
namespace Go.Proofs.YtmdnpaboaelkeaaGreatDoor
open Go Go.RowKit
def weightOk (r : Rep) : Bool := if r.sure then r.w == 0 else decide (1 ≤ r.w) && decide (r.w ≤ 100)
theorem ext_within (H : AH) (l h : Int) (x y : Int) (lim : Nat) : apL Tryz.prog pf (withinV H.length) [.agg #[.int .i64 x, .int .i64 y]] lim (H ++ [.rw 0 [.int .i64 l], .rw 0 [.int .i64 h]]) = some (.bool (spanIn l h (x, y)), H ++ [.rw 0 [.int .i64 l], .rw 0 [.int .i64 h]]) := by
  generalize hH : H ++ [ABlk.rw 0 [.int .i64 l], .rw 0 [.int .i64 h]] = H2
  exact (isQ_within l h H2 H.length (by subst hH; simp) (by subst hH; simp)).2 H2 (Ext.refl _) (x, y) lim
theorem run_hasWeight (r : Rep) (lim : Nat) (H : AH) : apL Tryz.prog pf (.func (.func 121) #[] #[]) [repV r] lim H = some (.bool (weightOk r), H) := by
  rw [apL_func _ _ _ _ _ _ (by rfl), sf_fixes_hasWeight_eq]
  have hb := fun l h lim H => run_between l h lim H
  have h1 := fun x lim => ext_between H 1 100 x lim
  simp only [betweenV] at hb h1
  cases hs : r.sure <;> simp [sf_fixes_hasWeight, pf_pure, pureF, repV, hb, h1, hs, weightOk]
def boundsOk (r : Rep) : Bool :=
  if r.kind = 1 then spanIn 0 200 (r.a, r.b) && r.c == 0 && r.d == 0
  else if r.kind = 2 then beamOk r
  else if r.kind = 3 then spanIn 0 200 (r.a, r.b) && spanIn 0 200 (r.c, r.d) && r.cell == 0
  else if r.kind = 4 then (decide (0 ≤ r.a) && decide (r.a ≤ 200)) && r.b == 0 && r.c == 0 && r.d == 0
  else false
set_option maxHeartbeats 2000000 in
theorem run_hasBounds (r : Rep) (lim : Nat) (H : AH) : apL Tryz.prog pf (.func (.func 122) #[] #[]) [repV r] lim H = some (.bool (boundsOk r), H) := by
  rw [apL_func _ _ _ _ _ _ (by rfl), sf_fixes_hasBounds_eq]
  have hb := fun l h lim H => run_between l h lim H
  have hw := fun l h lim H => run_within l h lim H
  have e1 := fun x y lim => ext_within H 0 200 x y lim
  have hbm := fun lim H => run_fixBeam r lim H
  generalize hH : H ++ [ABlk.rw 0 [.int .i64 0], .rw 0 [.int .i64 200]] = H2 at e1
  have h1 := fun x lim => ext_between H2 0 200 x lim
  simp only [betweenV, withinV, repV] at hb hw e1 h1 hbm
  have ew : apL Tryz.prog pf (.func (.func 119) #[] #[]) [.int .i64 0, .int .i64 200] H.length H = some (.func (.func 142) #[] #[.pointer (some ⟨H.length, 0, none⟩), .pointer (some ⟨H.length + 1, 0, none⟩)], H2) := by rw [hw, hH]
  have hl : H2.length = H.length + 2 := by subst hH; simp
  by_cases k1 : r.kind = 1
  · cases c1 : spanIn 0 200 (r.a, r.b) <;> cases c2 : (r.c == 0) <;> simp [sf_fixes_hasBounds, pf_pure, pureF, repV, ew, e1, boundsOk, k1, c1, c2]
  by_cases k2 : r.kind = 2
  · rw [k2] at hbm
    simp [sf_fixes_hasBounds, pf_pure, pureF, repV, ew, e1, boundsOk, k2, hbm]
  by_cases k3 : r.kind = 3
  · cases c1 : spanIn 0 200 (r.a, r.b) <;> cases c2 : spanIn 0 200 (r.c, r.d) <;> simp [sf_fixes_hasBounds, pf_pure, pureF, repV, ew, e1, boundsOk, k3, c1, c2]
  by_cases k4 : r.kind = 4
  · cases c1 : (decide (0 ≤ r.a) && decide (r.a ≤ 200)) <;> cases c2 : (r.b == 0) <;> cases c3 : (r.c == 0) <;> simp [sf_fixes_hasBounds, pf_pure, pureF, repV, ew, hb, h1, boundsOk, k4, c1, c2, c3]
  · have b1 : (r.kind == 1) = false := by simpa using k1
    have b2 : (r.kind == 2) = false := by simpa using k2
    have b3 : (r.kind == 3) = false := by simpa using k3
    have b4 : (r.kind == 4) = false := by simpa using k4
    simp [sf_fixes_hasBounds, pf_pure, pureF, repV, ew, boundsOk, k1, k2, k3, k4, b1, b2, b3, b4]
structure Ds where
  ch : Ch
  g : Int
  pace : Int
  reps : List Rep
structure DsIn (H : AH) (x : Ds) (d t s r : Value) : Prop where
  c : ChIn H x.ch d t s
  r : Sl H r x.reps.length (repsV x.reps)
  rl : x.reps.length < 2 ^ 62
theorem DsIn.ext {H H' : AH} (hE : Ext H H') {x : Ds} {d t s r : Value} (h : DsIn H x d t s r) : DsIn H' x d t s r := ⟨h.c.ext hE, h.r.ext hE, h.rl⟩
def dsV (x : Ds) (d t s r : Value) : Value := .agg #[.int .i64 x.ch.w, .int .i64 x.ch.h, d, t, s, .int .i64 x.g, .int .i64 x.pace, r]
def srV (x : Ds) (d t s r a b e : Value) : Value := .agg #[.int .i64 x.ch.w, .int .i64 x.ch.h, d, t, s, .int .i64 x.g, .int .i64 x.pace, r, a, b, e]
def Ds.cells (x : Ds) : Nat := x.ch.depth.length
def Ds.ticks (x : Ds) : Nat := x.ch.tide.length
def repOk (n k : Nat) (r : Rep) : Bool := inN k r.tick && inN n r.cell && weightOk r && boundsOk r
def OneS (v : Value) : Prop := ∃ a n c, v = .slice a n c
theorem run_srIsTick (x : Ds) (lim : Nat) (H : AH) (d t s r a b e : Value) (h : DsIn H x d t s r) (ha : OneS a) (hb : OneS b) (he : OneS e) (k : Int) :
    apL Tryz.prog pf (.func (.func 79) #[] #[]) [srV x d t s r a b e, .int .i64 k] lim H = some (.bool (inN x.ticks k), H) := by
  obtain ⟨⟨⟨da, dc, ed, _⟩, ⟨ta, tc, et, _⟩, ⟨sa, sc, es, _⟩, _, htl, _⟩, ⟨ra, rc, er, _⟩, _⟩ := h
  obtain ⟨a1, a2, a3, ea⟩ := ha
  obtain ⟨b1, b2, b3, eb⟩ := hb
  obtain ⟨e1, e2, e3, ee⟩ := he
  have hl : ∀ lim H, apL Tryz.prog pf (.func (.func 88) #[] #[]) [srV x d t s r a b e] lim H = some (.int .i64 ((x.ch.tide.length : Int) - 1), H) := by
    intro lim H
    rw [apL_func _ _ _ _ _ _ (by rfl), sf_fixes_search_lastTick_eq]
    have hw : IntKind.i64.wrap ((x.ch.tide.length : Int) - 1) = (x.ch.tide.length : Int) - 1 := wrap_i64 (by omega) (by omega)
    simp [sf_fixes_search_lastTick, srV, ed, et, es, er, ea, eb, ee, hw, pf_pure, pureF]
  rw [apL_func _ _ _ _ _ _ (by rfl), sf_fixes_search_isTick_eq]
  have hbt := fun l h lim H => run_between l h lim H
  have h1 := fun x lim h => ext_between H 0 h x lim
  simp only [betweenV, srV, ed, et, es, er, ea, eb, ee] at hbt h1 hl ⊢
  simp [sf_fixes_search_isTick, hbt, h1, hl, pf_pure, pureF, inN, Ds.ticks]
  rfl
theorem run_srIsCell (x : Ds) (lim : Nat) (H : AH) (d t s r a b e : Value) (h : DsIn H x d t s r) (ha : OneS a) (hb : OneS b) (he : OneS e) (k : Int) :
    apL Tryz.prog pf (.func (.func 80) #[] #[]) [srV x d t s r a b e, .int .i64 k] lim H = some (.bool (inN x.cells k), H) := by
  obtain ⟨⟨⟨da, dc, ed, _⟩, ⟨ta, tc, et, _⟩, ⟨sa, sc, es, _⟩, hdl, _, _⟩, ⟨ra, rc, er, _⟩, _⟩ := h
  obtain ⟨a1, a2, a3, ea⟩ := ha
  obtain ⟨b1, b2, b3, eb⟩ := hb
  obtain ⟨e1, e2, e3, ee⟩ := he
  rw [apL_func _ _ _ _ _ _ (by rfl), sf_fixes_search_isCell_eq]
  have hbt := fun l h lim H => run_between l h lim H
  have h1 := fun x lim h => ext_between H 0 h x lim
  have hw : IntKind.i64.wrap ((x.ch.depth.length : Int) - 1) = (x.ch.depth.length : Int) - 1 := wrap_i64 (by omega) (by omega)
  simp only [betweenV, srV, ed, et, es, er, ea, eb, ee] at hbt h1 ⊢
  simp [sf_fixes_search_isCell, hbt, h1, hw, pf_pure, pureF, inN, Ds.cells]
  rfl
theorem run_fixIsReport (x : Ds) (lim : Nat) (H : AH) (d t s r a b e : Value) (h : DsIn H x d t s r) (ha : OneS a) (hb : OneS b) (he : OneS e) (q : Rep) :
    apL Tryz.prog pf (.func (.func 99) #[] #[]) [srV x d t s r a b e, repV q] lim H = some (.bool (repOk x.cells x.ticks q), H) := by
  have t1 := fun k lim => run_srIsTick x lim H d t s r a b e h ha hb he k
  have t2 := fun k lim => run_srIsCell x lim H d t s r a b e h ha hb he k
  have t3 := fun lim => run_hasWeight q lim H
  have t4 := fun lim => run_hasBounds q lim H
  obtain ⟨⟨⟨da, dc, ed, _⟩, ⟨ta, tc, et, _⟩, ⟨sa, sc, es, _⟩, _, htl, _⟩, ⟨ra, rc, er, _⟩, _⟩ := h
  obtain ⟨a1, a2, a3, ea⟩ := ha
  obtain ⟨b1, b2, b3, eb⟩ := hb
  obtain ⟨e1, e2, e3, ee⟩ := he
  rw [apL_func _ _ _ _ _ _ (by rfl), sf_fixes_search_isReport_eq]
  simp only [srV, repV, ed, et, es, er, ea, eb, ee] at t1 t2 t3 t4 ⊢
  cases c1 : inN x.ticks q.tick with
  | false => simp [sf_fixes_search_isReport, t1, pf_pure, pureF, repOk, c1]
  | true =>
  cases c2 : inN x.cells q.cell with
  | false => simp [sf_fixes_search_isReport, t1, t2, pf_pure, pureF, repOk, c1, c2]
  | true =>
  cases c3 : weightOk q with
  | false => simp [sf_fixes_search_isReport, t1, t2, t3, pf_pure, pureF, repOk, c1, c2, c3]
  | true => simp [sf_fixes_search_isReport, t1, t2, t3, t4, pf_pure, pureF, repOk, c1, c2, c3]
end Go.Proofs.YtmdnpaboaelkeaaGreatDoor
namespace Go.Proofs.YtmdnpaboaelkeaaGreatDoor
open Go Go.RowKit
def IsR (H : AH) (f : Value) (p : Rep → Bool) : Prop := (nl f = true ∧ isU f = false ∧ f.cells = #[f]) ∧ ∀ H', Ext H H' → ∀ x lim, apL Tryz.prog pf f [repV x] lim H' = some (.bool (p x), H')
def allLoopR : SC := sf_checks_All_api_Report.body.loops.headD .skip
theorem rep_cells {H : AH} {xs : List Rep} {v : Value} (hv : Sl H v xs.length (repsV xs)) {i : Nat} (hi : i < xs.length) : ∃ b o c, v = .slice (some ⟨b, o, none⟩) xs.length c ∧
    hcell H b (o + i * 9) = some (.int .i64 xs[i].tick) ∧ hcell H b (o + i * 9 + 1) = some (.int .i64 xs[i].kind) ∧ hcell H b (o + i * 9 + 2) = some (.int .i64 xs[i].cell) ∧ hcell H b (o + i * 9 + 3) = some (.int .i64 xs[i].a) ∧
    hcell H b (o + i * 9 + 4) = some (.int .i64 xs[i].b) ∧ hcell H b (o + i * 9 + 5) = some (.int .i64 xs[i].c) ∧ hcell H b (o + i * 9 + 6) = some (.int .i64 xs[i].d) ∧ hcell H b (o + i * 9 + 7) = some (.bool xs[i].sure) ∧ hcell H b (o + i * 9 + 8) = some (.int .i64 xs[i].w) := by
  obtain ⟨aa, ac, rfl, hd⟩ := hv
  obtain ⟨b, o, rfl, _⟩ := hd (i * 9) _ (by have := repsV_get hi 0 (by omega); rw [Nat.add_zero] at this; exact this)
  have key : ∀ j (hj : j < 9) x, xs[i].vals[j]? = some x → hcell H b (o + i * 9 + j) = some x := by
    intro j hj x hx
    obtain ⟨b', o', e, c⟩ := hd (i * 9 + j) x ((repsV_get hi j hj).trans hx)
    cases e
    rw [Nat.add_assoc]; exact c
  refine ⟨b, o, ac, rfl, key 0 (by omega) _ rfl, key 1 (by omega) _ rfl, key 2 (by omega) _ rfl, key 3 (by omega) _ rfl, key 4 (by omega) _ rfl, key 5 (by omega) _ rfl, key 6 (by omega) _ rfl, key 7 (by omega) _ rfl, key 8 (by omega) _ rfl⟩
theorem all_loopR (xs : List Rep) (hlen : xs.length < 2 ^ 62) (H : AH) (v f : Value) (p : Rep → Bool) (hv : Sl H v xs.length (repsV xs)) (hp : IsR H f p) (S : St) (h1 : tget S.t 1 = f) (h7 : tget S.t 7 = v) (h8 : tget S.t 8 = .int .i64 xs.length) (h9 : tget S.t 9 = .int .i64 0) (hH : S.H = H) :
    ∃ r, exL Tryz.prog pf (.loop allLoopR) S = some r ∧ r.2.H = H ∧ ((r.1 = .exit 0 ∧ xs.all p = true) ∨ (r.1 = .ret ∧ tget r.2.t 4 = .bool false ∧ xs.all p = false)) := by
  have hv0 := hv
  obtain ⟨aa, ac, rfl, _⟩ := hv0
  obtain ⟨⟨hn, _⟩, hp⟩ := hp
  have hp := fun x lim => hp H (Ext.refl H) x lim
  refine loop_rule (I := fun n s' => ∃ i, i ≤ xs.length ∧ n = xs.length - i ∧ tget s'.t 1 = f ∧ tget s'.t 7 = .slice aa xs.length ac ∧ tget s'.t 8 = .int .i64 xs.length ∧ tget s'.t 9 = .int .i64 i ∧ s'.H = H ∧ ∀ j (h : j < xs.length), j < i → p xs[j] = true) ?_ xs.length S ⟨0, by omega, by omega, h1, h7, h8, h9, hH, by omega⟩
  rintro n s' ⟨i, hi, rfl, e1, e7, e8, e9, eH, et⟩
  by_cases hlt : i < xs.length
  · obtain ⟨b1, o1, ac1, e, c0, c1, c2, c3, c4, c5, c6, c7, c8⟩ := rep_cells hv hlt
    cases e
    have hps : ∀ lim, apL Tryz.prog pf f [repV xs[i]] lim H = some (.bool (p xs[i]), H) := fun lim => hp xs[i] lim
    have hw : IntKind.i64.wrap ((i : Int) + 1) = (i : Int) + 1 := wrap_i64 (by omega) (by omega)
    generalize hq : xs[i] = q at *
    simp only [hcell, repV] at c0 c1 c2 c3 c4 c5 c6 c7 c8 hps
    cases hx : p q with
    | true =>
      simp [allLoopR, SC.loops, sf_checks_All_api_Report, e1, e7, e8, e9, eH, hlt, c0, c1, c2, c3, c4, c5, c6, c7, c8, hw, hn, hps, hx]
      exact ⟨_, by omega, i + 1, by omega, rfl, by omega, fun j h hj => by
        by_cases e : j = i
        · subst e; rw [hq]; exact hx
        · exact et j h (by omega)⟩
    | false =>
      simp [allLoopR, SC.loops, sf_checks_All_api_Report, e1, e7, e8, e9, eH, hlt, c0, c1, c2, c3, c4, c5, c6, c7, c8, hw, hn, hps, hx]
      exact ⟨q, by rw [← hq]; exact List.getElem_mem hlt, hx⟩
  · have : i = xs.length := by omega
    subst this
    simp [allLoopR, SC.loops, sf_checks_All_api_Report, e1, e7, e8, e9, eH]
    intro x hx
    obtain ⟨j, h, e⟩ := List.mem_iff_getElem.1 hx
    rw [← e]; exact et j h h
theorem run_allR (xs : List Rep) (hlen : xs.length < 2 ^ 62) (H : AH) (lim : Nat) (v f : Value) (p : Rep → Bool) (hv : Sl H v xs.length (repsV xs)) (hp : IsR H f p) :
    apL Tryz.prog pf (.func (.func 98) #[] #[]) [v, f] lim H = some (.bool (xs.all p), H) := by
  rw [apL_func _ _ _ _ _ _ (by rfl), sf_checks_All_api_Report_eq]
  have hv0 := hv
  obtain ⟨aa, ac, ev, _⟩ := hv0
  simp [sf_checks_All_api_Report, ev]
  generalize hS : ({ t := _, L := _, H := _, lim := _, rd := _ } : St) = S
  obtain ⟨⟨e, s1⟩, hr, q2, q3⟩ := all_loopR xs hlen H v f p hv hp S (by subst hS; simp) (by subst hS; simp [ev]) (by subst hS; simp) (by subst hS; simp) (by subst hS; rfl)
  simp [allLoopR, SC.loops, sf_checks_All_api_Report] at hr
  rw [hr]
  simp only at q2 q3
  rcases q3 with ⟨rfl, h⟩ | ⟨rfl, h4, h⟩
  · simp [h, q2, pf_pure, pureF]
  · simp [h, h4, q2, pf_pure, pureF]
theorem apL_meth (f : FuncId) (x : Value) (args : List Value) (lim : Nat) (H : AH) (h1 : orcA pf f #[x] #[] args = none) (h2 : orcA pf f #[] #[] (x :: args) = none) :
    apL Tryz.prog pf (.func (.func f) #[x] #[]) args lim H = apL Tryz.prog pf (.func (.func f) #[] #[]) (x :: args) lim H := by
  rw [apL_func _ _ _ _ _ _ h1, apL_func _ _ _ _ _ _ h2]
  have : (#[x] : Array Value).toList ++ args ++ (#[] : Array Value).toList = (#[] : Array Value).toList ++ (x :: args) ++ (#[] : Array Value).toList := by simp
  rw [this]
def nilS : Value := .slice none 0 0
theorem oneS_nil : OneS nilS := ⟨none, 0, 0, rfl⟩
def repF (x : Ds) (d t s r a b e : Value) : Value := .func (.func 99) #[srV x d t s r a b e] #[]
theorem isR_rep (x : Ds) (H : AH) (d t s r a b e : Value) (h : DsIn H x d t s r) (ha : OneS a) (hb : OneS b) (he : OneS e) : IsR H (repF x d t s r a b e) (repOk x.cells x.ticks) := by
  refine ⟨?_, fun H' hH q lim => ?_⟩
  · obtain ⟨⟨⟨da, dc, ed, _⟩, ⟨ta, tc, et, _⟩, ⟨sa, sc, es, _⟩, _, htl, _⟩, ⟨ra, rc, er, _⟩, _⟩ := h
    obtain ⟨a1, a2, a3, ea⟩ := ha
    obtain ⟨b1, b2, b3, eb⟩ := hb
    obtain ⟨e1, e2, e3, ee⟩ := he
    exact ⟨by simp [repF, srV, ed, et, es, er, ea, eb, ee], rfl, rfl⟩
  · unfold repF
    rw [apL_meth _ _ _ _ _ (by rfl) (by rfl)]
    exact run_fixIsReport x lim H' d t s r a b e (h.ext hH) ha hb he q
def dsOk (x : Ds) : Bool := (decide (1 ≤ x.g) && decide (x.g ≤ 100)) && (decide (0 ≤ x.pace) && decide (x.pace ≤ 5)) && decide (x.reps.length ≤ 12) && x.reps.all (repOk x.cells x.ticks)
theorem run_isDistress (x : Ds) (lim : Nat) (H : AH) (d t s r : Value) (h : DsIn H x d t s r) : apL Tryz.prog pf (.func (.func 56) #[] #[]) [dsV x d t s r] lim H = some (.bool (dsOk x), H) := by
  have hrl := h.rl
  rw [apL_func _ _ _ _ _ _ (by rfl), sf_fixes_isDistress_eq]
  have hb := fun l h lim H => run_between l h lim H
  generalize hH2 : H ++ [ABlk.rw 0 [.int .i64 1], .rw 0 [.int .i64 100]] = H2
  generalize hH3 : H2 ++ [ABlk.rw 0 [.int .i64 0], .rw 0 [.int .i64 5]] = H3
  have e1 := fun k lim => ext_between H 1 100 k lim
  have e2 := fun k lim => ext_between H2 0 5 k lim
  have b1 := fun lim => hb 1 100 lim H
  have b2 := fun lim => hb 0 5 lim H2
  rw [hH2] at e1 b1
  rw [hH3] at e2 b2
  have hE : Ext H H3 := by subst hH3; subst hH2; exact (Ext.push _ _).trans (Ext.push _ _)
  have h3 := h.ext hE
  have a3 := fun lim => run_allR x.reps h.rl H3 lim r _ _ h3.r (isR_rep x H3 d t s r _ _ _ h3 oneS_nil oneS_nil oneS_nil)
  obtain ⟨⟨⟨da, dc, ed, _⟩, ⟨ta, tc, et, _⟩, ⟨sa, sc, es, _⟩, _, htl, _⟩, ⟨ra, rc, er, _⟩, _⟩ := h
  simp only [betweenV, repF, srV, nilS, ed, et, es, er] at e1 e2 b1 b2 a3
  simp only [dsV, ed, et, es, er]
  cases c1 : (decide (1 ≤ x.g) && decide (x.g ≤ 100)) with
  | false => simp [sf_fixes_isDistress, b1, e1, c1, dsOk, pf_pure, pureF]
  | true =>
  cases c2 : (decide (0 ≤ x.pace) && decide (x.pace ≤ 5)) with
  | false => simp [sf_fixes_isDistress, b1, e1, c1, b2, e2, c2, dsOk, pf_pure, pureF]
  | true =>
  by_cases c3 : x.reps.length ≤ 12
  · have c3' : (x.reps.length : Int) ≤ 12 := by omega
    simp [sf_fixes_isDistress, b1, e1, c1, b2, e2, c2, c3, c3', a3, dsOk, pf_pure, pureF]
  · have c3' : ¬ (x.reps.length : Int) ≤ 12 := by omega
    simp [sf_fixes_isDistress, b1, e1, c1, b2, e2, c2, c3, c3', dsOk, pf_pure, pureF]
open Classical in
noncomputable def dsE (x : Ds) : Int := if ChOk x.ch then (if dsOk x then 0 else 30) else 10
theorem run_fixCheck (x : Ds) (lim : Nat) (H : AH) (d t s r : Value) (h : DsIn H x d t s r) : apL Tryz.prog pf (.func (.func 20) #[] #[]) [dsV x d t s r] lim H = some (.int .i64 (dsE x), H) := by
  rw [apL_func _ _ _ _ _ _ (by rfl), sf_fixes_Check_eq]
  have hc := fun lim => run_chartCheck x.ch lim H d t s h.c
  have hd := fun lim => run_isDistress x lim H d t s r h
  obtain ⟨⟨⟨da, dc, ed, _⟩, ⟨ta, tc, et, _⟩, ⟨sa, sc, es, _⟩, _, htl, _⟩, ⟨ra, rc, er, _⟩, _⟩ := h
  simp only [chV, dsV, ed, et, es, er] at hc hd ⊢
  by_cases h1 : ChOk x.ch
  · cases h2 : dsOk x <;> simp [sf_fixes_Check, hc, hd, h1, h2, dsE, pf_pure, pureF]
  · simp [sf_fixes_Check, hc, h1, dsE, pf_pure, pureF]
end Go.Proofs.YtmdnpaboaelkeaaGreatDoor
namespace Go.Proofs.YtmdnpaboaelkeaaGreatDoor
open Go Go.RowKit
set_option maxHeartbeats 4000000 in
theorem run_refIsReport (x : Ds) (hok : ChOk x.ch) (lim : Nat) (H : AH) (d t s r : Value) (h : DsIn H x d t s r) (q : Rep) :
    apL Tryz.prog pf (.func (.func 60) #[] #[]) [dsV x d t s r, repV q] lim H = some (.bool (repOk x.cells x.ticks q), H) := by
  have t1 := fun k lim => run_IsTick x.ch k lim H d t s h.c
  have t2 := fun k lim => run_IsCellOk x.ch hok k lim H d t s h.c
  have t3 := fun lim => run_refBeam q lim H
  obtain ⟨⟨⟨da, dc, ed, _⟩, ⟨ta, tc, et, _⟩, ⟨sa, sc, es, _⟩, _, htl, _⟩, ⟨ra, rc, er, _⟩, _⟩ := h
  rw [apL_func _ _ _ _ _ _ (by rfl), sf_cobleref03_isReport_eq]
  simp only [chV, dsV, repV, ed, et, es, er] at t1 t2 t3 ⊢
  change ∀ k lim, _ = some (Value.bool (inN x.ticks k), H) at t1
  change ∀ k lim, _ = some (Value.bool (inN x.cells k), H) at t2
  cases c1 : inN x.ticks q.tick with
  | false => simp [sf_cobleref03_isReport, t1, pf_pure, pureF, repOk, c1]
  | true =>
  cases c2 : inN x.cells q.cell with
  | false => simp [sf_cobleref03_isReport, t1, t2, pf_pure, pureF, repOk, c1, c2]
  | true =>
  cases hs : q.sure with
  | true =>
    cases c3 : (q.w == 0) with
    | false =>
      have c3' : (q.w != 0) = true := by rw [bne, c3]; rfl
      simp [sf_cobleref03_isReport, t1, t2, pf_pure, pureF, repOk, c1, c2, weightOk, hs, c3, c3']
    | true =>
      have c3' : (q.w != 0) = false := by rw [bne, c3]; rfl
      by_cases k1 : q.kind = 1
      · cases d1 : (decide (0 ≤ q.a) && decide (q.a ≤ q.b)) <;> by_cases d2 : q.b ≤ 200 <;> cases d3 : (q.c == 0) <;> simp [sf_cobleref03_isReport, t1, t2, pf_pure, pureF, repOk, c1, c2, weightOk, hs, c3, c3', boundsOk, spanIn, k1, d1, d2, d3]
      by_cases k2 : q.kind = 2
      · rw [k2] at t3
        rw [hs] at t3
        simp [sf_cobleref03_isReport, t1, t2, t3, pf_pure, pureF, repOk, c1, c2, weightOk, hs, c3, c3', boundsOk, k2]
      by_cases k3 : q.kind = 3
      · cases d1 : (decide (0 ≤ q.a) && decide (q.a ≤ q.b)) <;> by_cases d2 : q.b ≤ 200 <;> cases d3 : (decide (0 ≤ q.c) && decide (q.c ≤ q.d)) <;> by_cases d4 : q.d ≤ 200 <;> simp [sf_cobleref03_isReport, t1, t2, pf_pure, pureF, repOk, c1, c2, weightOk, hs, c3, c3', boundsOk, spanIn, k3, d1, d2, d3, d4]
      by_cases k4 : q.kind = 4
      · cases d1 : (decide (0 ≤ q.a) && decide (q.a ≤ 200)) <;> cases d2 : (q.b == 0) <;> cases d3 : (q.c == 0) <;> simp [sf_cobleref03_isReport, t1, t2, pf_pure, pureF, repOk, c1, c2, weightOk, hs, c3, c3', boundsOk, k4, d1, d2, d3]
      · have b1 : (q.kind == 1) = false := by simpa using k1
        have b2 : (q.kind == 2) = false := by simpa using k2
        have b3 : (q.kind == 3) = false := by simpa using k3
        have b4 : (q.kind == 4) = false := by simpa using k4
        simp [sf_cobleref03_isReport, t1, t2, pf_pure, pureF, repOk, c1, c2, weightOk, hs, c3, c3', boundsOk, k1, k2, k3, k4, b1, b2, b3, b4]
  | false =>
    cases c3 : (decide (1 ≤ q.w) && decide (q.w ≤ 100)) with
    | false => simp [sf_cobleref03_isReport, t1, t2, pf_pure, pureF, repOk, c1, c2, weightOk, hs, c3]
    | true =>
      by_cases k1 : q.kind = 1
      · cases d1 : (decide (0 ≤ q.a) && decide (q.a ≤ q.b)) <;> by_cases d2 : q.b ≤ 200 <;> cases d3 : (q.c == 0) <;> simp [sf_cobleref03_isReport, t1, t2, pf_pure, pureF, repOk, c1, c2, weightOk, hs, c3, boundsOk, spanIn, k1, d1, d2, d3]
      by_cases k2 : q.kind = 2
      · rw [k2] at t3
        rw [hs] at t3
        simp [sf_cobleref03_isReport, t1, t2, t3, pf_pure, pureF, repOk, c1, c2, weightOk, hs, c3, boundsOk, k2]
      by_cases k3 : q.kind = 3
      · cases d1 : (decide (0 ≤ q.a) && decide (q.a ≤ q.b)) <;> by_cases d2 : q.b ≤ 200 <;> cases d3 : (decide (0 ≤ q.c) && decide (q.c ≤ q.d)) <;> by_cases d4 : q.d ≤ 200 <;> simp [sf_cobleref03_isReport, t1, t2, pf_pure, pureF, repOk, c1, c2, weightOk, hs, c3, boundsOk, spanIn, k3, d1, d2, d3, d4]
      by_cases k4 : q.kind = 4
      · cases d1 : (decide (0 ≤ q.a) && decide (q.a ≤ 200)) <;> cases d2 : (q.b == 0) <;> cases d3 : (q.c == 0) <;> simp [sf_cobleref03_isReport, t1, t2, pf_pure, pureF, repOk, c1, c2, weightOk, hs, c3, boundsOk, k4, d1, d2, d3]
      · have b1 : (q.kind == 1) = false := by simpa using k1
        have b2 : (q.kind == 2) = false := by simpa using k2
        have b3 : (q.kind == 3) = false := by simpa using k3
        have b4 : (q.kind == 4) = false := by simpa using k4
        simp [sf_cobleref03_isReport, t1, t2, pf_pure, pureF, repOk, c1, c2, weightOk, hs, c3, boundsOk, k1, k2, k3, k4, b1, b2, b3, b4]
end Go.Proofs.YtmdnpaboaelkeaaGreatDoor
namespace Go.Proofs.YtmdnpaboaelkeaaGreatDoor
open Go Go.RowKit
def checkLoopD : SC := sf_cobleref03_Check.body.loops.headD .skip
theorem check_loopD (x : Ds) (hok : ChOk x.ch) (hl12 : x.reps.length ≤ 12) (H : AH) (d t s r : Value) (hx : DsIn H x d t s r) (S : St) (h1 : tget S.t 1 = .pointer (some ⟨1, 0, some 0⟩)) (h3 : tget S.t 3 = .int .i64 0)
    (hL : S.L = [(1, 0, .cells [.int .i64 x.ch.w, .int .i64 x.ch.h, d, t, s, .int .i64 x.g, .int .i64 x.pace, r])]) (hH : S.H = H) :
    ∃ q, exL Tryz.prog pf (.loop checkLoopD) S = some q ∧ q.2.H = H ∧ ((q.1 = .exit 0 ∧ x.reps.all (repOk x.cells x.ticks) = true) ∨ (q.1 = .ret ∧ tget q.2.t 2 = .int .i64 30 ∧ x.reps.all (repOk x.cells x.ticks) = false)) := by
  have hr := fun q lim => run_refIsReport x hok lim H d t s r hx q
  have hv := hx.r
  obtain ⟨⟨⟨da, dc, ed, _⟩, ⟨ta, tc, et, _⟩, ⟨sa, sc, es, _⟩, _, htl, _⟩, ⟨ra, rc, er, _⟩, _⟩ := hx
  rw [er] at hv
  simp only [dsV, ed, et, es, er] at hr hL
  refine loop_rule (I := fun n s' => ∃ i, i ≤ x.reps.length ∧ n = x.reps.length - i ∧ tget s'.t 1 = .pointer (some ⟨1, 0, some 0⟩) ∧ tget s'.t 3 = .int .i64 i ∧ s'.L = S.L ∧ s'.H = H ∧ ∀ j (h : j < x.reps.length), j < i → repOk x.cells x.ticks x.reps[j] = true) ?_ x.reps.length S ⟨0, by omega, by omega, h1, h3, rfl, hH, by omega⟩
  rintro n s' ⟨i, hi, rfl, e1, e3, eL, eH, ep⟩
  rw [hL] at eL
  by_cases hlt : i < x.reps.length
  · obtain ⟨b1, o1, ac1, e, c0, c1, c2, c3, c4, c5, c6, c7, c8⟩ := rep_cells hv hlt
    cases e
    have hw : IntKind.i64.wrap ((i : Int) + 1) = (i : Int) + 1 := wrap_i64 (by omega) (by omega)
    have hps := hr x.reps[i]
    generalize hq : x.reps[i] = q at *
    simp only [hcell, repV] at c0 c1 c2 c3 c4 c5 c6 c7 c8 hps
    cases hxx : repOk x.cells x.ticks q with
    | true =>
      rw [hxx] at hps
      simp [checkLoopD, SC.loops, sf_cobleref03_Check, e1, e3, eL, eH, hlt, c0, c1, c2, c3, c4, c5, c6, c7, c8, hw, hps, hL]
      exact ⟨_, by omega, i + 1, by omega, rfl, by omega, fun j h hj => by
        by_cases e : j = i
        · subst e; rw [hq]; exact hxx
        · exact ep j h (by omega)⟩
    | false =>
      rw [hxx] at hps
      simp [checkLoopD, SC.loops, sf_cobleref03_Check, e1, e3, eL, eH, hlt, c0, c1, c2, c3, c4, c5, c6, c7, c8, hw, hps, hL]
      exact ⟨q, by rw [← hq]; exact List.getElem_mem hlt, hxx⟩
  · have : i = x.reps.length := by omega
    subst this
    simp [checkLoopD, SC.loops, sf_cobleref03_Check, e1, e3, eL, eH, hL]
    intro q hq
    obtain ⟨j, h, e⟩ := List.mem_iff_getElem.1 hq
    rw [← e]; exact ep j h h
theorem run_ref3Check (x : Ds) (lim : Nat) (H : AH) (d t s r : Value) (h : DsIn H x d t s r) : apL Tryz.prog pf (.func (.func 21) #[] #[]) [dsV x d t s r] lim H = some (.int .i64 (dsE x), H) := by
  rw [apL_func _ _ _ _ _ _ (by rfl), sf_cobleref03_Check_eq]
  have hc := fun lim => run_Check x.ch lim H d t s h.c
  have hg := fun lim H => run_IsDraught x.g lim H
  have h0 := h
  obtain ⟨⟨⟨da, dc, ed, _⟩, ⟨ta, tc, et, _⟩, ⟨sa, sc, es, _⟩, _, htl, _⟩, ⟨ra, rc, er, _⟩, _⟩ := h
  simp only [chV, dsV, ed, et, es, er] at hc ⊢
  by_cases h1 : ChOk x.ch
  rotate_left
  · simp [sf_cobleref03_Check, hc, h1, dsE, pf_pure, pureF]
  cases c1 : (decide (1 ≤ x.g) && decide (x.g ≤ 100)) with
  | false =>
    have : dsOk x = false := by simp only [dsOk, c1]; rfl
    simp [sf_cobleref03_Check, hc, h1, hg, c1, this, dsE, pf_pure, pureF]
  | true =>
  cases c2 : (decide (0 ≤ x.pace) && decide (x.pace ≤ 5)) with
  | false =>
    have : dsOk x = false := by simp only [dsOk, c1, c2]; rfl
    simp [sf_cobleref03_Check, hc, h1, hg, c1, c2, this, dsE, pf_pure, pureF]
  | true =>
  by_cases c3 : x.reps.length ≤ 12
  rotate_left
  · have c3' : (12 : Int) < (x.reps.length : Int) := by omega
    have : dsOk x = false := by simp only [dsOk, c1, c2, c3]; rfl
    simp [sf_cobleref03_Check, hc, h1, hg, c1, c2, c3', this, dsE, pf_pure, pureF]
  have c3' : ¬ (12 : Int) < (x.reps.length : Int) := by omega
  have hdo : dsOk x = x.reps.all (repOk x.cells x.ticks) := by simp only [dsOk, c1, c2, c3]; rfl
  simp [sf_cobleref03_Check, hc, h1, hg, c1, c2, c3']
  generalize hS : ({ t := _, L := _, H := _, lim := _, rd := _ } : St) = S
  obtain ⟨⟨e, s1⟩, hr, q2, q3⟩ := check_loopD x h1 c3 H d t s r h0 S (by subst hS; simp) (by subst hS; simp) (by subst hS; simp [ed, et, es, er]) (by subst hS; rfl)
  simp [checkLoopD, SC.loops, sf_cobleref03_Check] at hr
  rw [hr]
  simp only at q2 q3
  rcases q3 with ⟨rfl, k⟩ | ⟨rfl, k4, k⟩
  · simp [q2, dsE, h1, hdo, k, pf_pure, pureF]
  · simp [k4, q2, dsE, h1, hdo, k, pf_pure, pureF]
end Go.Proofs.YtmdnpaboaelkeaaGreatDoor
namespace Go.Proofs.YtmdnpaboaelkeaaGreatDoor
open Go Go.RowKit
def sameInts3Body : SC := match sf_coblelaw03_sameInts.body with | .seq _ (.seq _ (.seq (.seq _ (.block _ (.loop b))) _)) => b | _ => .skip
theorem sameInts3_loop (xs ys : List Int) (hxy : xs.length = ys.length) (hlen : xs.length < 2 ^ 62) (H : AH) (a b : Value) (ha : Sl H a xs.length (ints xs)) (hb : Sl H b ys.length (ints ys)) (s : St) (h0 : tget s.t 0 = a) (h1 : tget s.t 1 = b) (h5 : tget s.t 5 = .int .i64 0) (hL : s.L = []) (hH : s.H = H) :
    ∃ r, exL Tryz.prog pf (.loop sameInts3Body) s = some r ∧ r.2.L = [] ∧ r.2.H = H ∧ ((r.1 = .exit 0 ∧ xs = ys) ∨ (r.1 = .ret ∧ tget r.2.t 4 = .bool false ∧ xs ≠ ys)) := by
  obtain ⟨aa, ac, rfl, ha⟩ := ha
  obtain ⟨ba, bc, rfl, hb⟩ := hb
  refine loop_rule (I := fun n s => ∃ i, i ≤ xs.length ∧ n = xs.length - i ∧ tget s.t 0 = .slice aa xs.length ac ∧ tget s.t 1 = .slice ba ys.length bc ∧ tget s.t 5 = .int .i64 i ∧ s.L = [] ∧ s.H = H ∧ xs.take i = ys.take i) ?_ xs.length s ⟨0, by omega, by omega, h0, h1, h5, hL, hH, rfl⟩
  rintro n s ⟨i, hi, rfl, e0, e1, e5, eL, eH, et⟩
  by_cases hlt : i < xs.length
  · have hlt2 : i < ys.length := by omega
    obtain ⟨b1, o1, rfl, c1⟩ := ha i (.int .i64 xs[i]) (by simp [ints, hlt])
    obtain ⟨b2, o2, rfl, c2⟩ := hb i (.int .i64 ys[i]) (by simp [ints, hlt2])
    have hw : IntKind.i64.wrap ((i : Int) + 1) = (i : Int) + 1 := wrap_i64 (by omega) (by omega)
    simp only [hcell] at c1 c2
    by_cases heq : xs[i] = ys[i]
    · simp [sameInts3Body, sf_coblelaw03_sameInts, e0, e1, e5, eL, eH, hlt, hlt2, c1, c2, hw, heq]
      exact ⟨_, by omega, i + 1, by omega, rfl, by omega, by rw [List.take_add_one, List.take_add_one, et]; simp [hlt, hlt2, heq]⟩
    · have hne : (xs[i] != ys[i]) = true := by simpa using heq
      simp [sameInts3Body, sf_coblelaw03_sameInts, e0, e1, e5, eL, eH, hlt, hlt2, c1, c2, hw, hne]
      exact fun e => heq (by subst e; rfl)
  · have : i = xs.length := by omega
    subst this
    simp [sameInts3Body, sf_coblelaw03_sameInts, e0, e1, e5, eL, eH]
    rw [List.take_length, hxy, List.take_length] at et
    exact et
theorem run_sameInts3 (xs ys : List Int) (hlen : xs.length < 2 ^ 62) (lim : Nat) (H : AH) (a b : Value) (ha : Sl H a xs.length (ints xs)) (hb : Sl H b ys.length (ints ys)) :
    apL Tryz.prog pf (.func (.func 22) #[] #[]) [a, b] lim H = some (.bool (decide (xs = ys)), H) := by
  rw [apL_func _ _ _ _ _ _ (by rfl), sf_coblelaw03_sameInts_eq]
  obtain ⟨aa, ac, ea, ha'⟩ := ha
  obtain ⟨ba, bc, eb, hb'⟩ := hb
  by_cases hxy : xs.length = ys.length
  · have hh : ((xs.length : Int) != ys.length) = false := by simp [hxy]
    simp [sf_coblelaw03_sameInts, ea, eb, hh]
    generalize hS : ({ t := _, L := _, H := _, lim := _, rd := _ } : St) = S
    obtain ⟨⟨e, s'⟩, hr, q1, q2, q3⟩ := sameInts3_loop xs ys hxy hlen H a b ⟨aa, ac, ea, ha'⟩ ⟨ba, bc, eb, hb'⟩ S (by subst hS; simp [ea]) (by subst hS; simp [eb]) (by subst hS; simp) (by subst hS; rfl) (by subst hS; rfl)
    simp only [sameInts3Body, sf_coblelaw03_sameInts] at hr
    rw [hr]
    simp only at q1 q2 q3
    rcases q3 with ⟨rfl, h⟩ | ⟨rfl, h4, h⟩
    · simp [h, q1, q2, pf_pure, pureF]
    · simp [h, h4, q1, q2, pf_pure, pureF]
  · have hne : xs ≠ ys := fun e => hxy (by rw [e])
    have hh : ((xs.length : Int) != ys.length) = true := by simp; omega
    simp [sf_coblelaw03_sameInts, ea, eb, hh, hne, pf_pure, pureF]
structure DsSl (H : AH) (x : Ds) (d t s r : Value) : Prop where
  c : ChSl H x.ch d t s
  r : Sl H r x.reps.length (repsV x.reps)
def Vg (x : Ds) : Prop := Far x.ch ∨ x.reps.length > 14 ∨ (ChOk x.ch ∧ dsOk x = true ∧ (x.ch.w * x.ch.h > 20 ∨ x.ch.tide.length > 6 ∨ x.reps.length > 6))
theorem DsSl.near {H : AH} {x : Ds} {d t s r : Value} (h : DsSl H x d t s r) (hf : ¬ Far x.ch) (hl : ¬ x.reps.length > 14) : DsIn H x d t s r := ⟨h.c.near hf, h.r, by omega⟩
theorem run_Vague (x : Ds) (lim : Nat) (H : AH) (d t s r : Value) (h : DsSl H x d t s r) [Decidable (Vg x)] : apL Tryz.prog pf (.func (.func 13) #[] #[]) [dsV x d t s r] lim H = some (.bool (decide (Vg x)), H) := by
  rw [apL_func _ _ _ _ _ _ (by rfl), sf_coblelaw03_Vague_eq]
  have h0 := h
  by_cases hf : Far x.ch
  · have hV := fun lim => run_VastFar x.ch lim H d t s h.c hf
    obtain ⟨⟨⟨da, dc, ed, _⟩, ⟨ta, tc, et, _⟩, ⟨sa, sc, es, _⟩⟩, ⟨ra, rc, er, _⟩⟩ := h
    simp only [chV, dsV, ed, et, es, er] at hV ⊢
    have hv : Vg x := .inl hf
    simp [sf_coblelaw03_Vague, hV, hv, pf_pure, pureF]
  by_cases hl : x.reps.length > 14
  · have hV := fun lim => run_VastF x.ch lim H d t s (h.c.near hf) hf
    obtain ⟨⟨⟨da, dc, ed, _⟩, ⟨ta, tc, et, _⟩, ⟨sa, sc, es, _⟩⟩, ⟨ra, rc, er, _⟩⟩ := h
    simp only [chV, dsV, ed, et, es, er] at hV ⊢
    have hv : Vg x := .inr (.inl hl)
    have hl' : (14 : Int) < (x.reps.length : Int) := by omega
    simp [sf_coblelaw03_Vague, hV, hv, hl', pf_pure, pureF]
  have hi := h.near hf hl
  have hV := fun lim => run_VastF x.ch lim H d t s hi.c hf
  have hC := fun lim => run_ref3Check x lim H d t s r hi
  obtain ⟨⟨⟨da, dc, ed, _⟩, ⟨ta, tc, et, _⟩, ⟨sa, sc, es, _⟩⟩, ⟨ra, rc, er, _⟩⟩ := h
  simp only [chV, dsV, ed, et, es, er] at hV hC ⊢
  have hl' : ¬ (14 : Int) < (x.reps.length : Int) := by omega
  by_cases hok : ChOk x.ch
  rotate_left
  · have hv : ¬ Vg x := by rintro (h | h | h); exact hf h; exact hl h; exact hok h.1
    simp [sf_coblelaw03_Vague, hV, hC, dsE, hok, hv, hl', pf_pure, pureF]
  cases hdo : dsOk x with
  | false =>
    have hv : ¬ Vg x := by rintro (h | h | h); exact hf h; exact hl h; exact absurd h.2.1 (by rw [hdo]; simp)
    simp [sf_coblelaw03_Vague, hV, hC, dsE, hok, hdo, hv, hl', pf_pure, pureF]
  | true =>
    obtain ⟨m1, m2, m3⟩ := hok.mul
    have hm : IntKind.i64.wrap (x.ch.w * x.ch.h) = x.ch.w * x.ch.h := wrap_i64 (by omega) (by omega)
    have hv : Vg x ↔ (x.ch.w * x.ch.h > 20 ∨ x.ch.tide.length > 6 ∨ x.reps.length > 6) :=
      ⟨fun h => by
        rcases h with h | h | h
        · exact absurd h hf
        · exact absurd h hl
        · exact h.2.2, fun h => .inr (.inr ⟨hok, hdo, h⟩)⟩
    by_cases b1 : x.ch.w * x.ch.h > 20
    · have b1' : (20 : Int) < x.ch.w * x.ch.h := b1
      have hv' : Vg x := hv.2 (.inl b1)
      simp [sf_coblelaw03_Vague, hV, hC, dsE, hok, hdo, hv', hl', hm, b1', pf_pure, pureF]
    by_cases b2 : x.ch.tide.length > 6
    · have b1' : ¬ (20 : Int) < x.ch.w * x.ch.h := b1
      have b2' : (6 : Int) < (x.ch.tide.length : Int) := by omega
      have hv' : Vg x := hv.2 (.inr (.inl b2))
      simp [sf_coblelaw03_Vague, hV, hC, dsE, hok, hdo, hv', hl', hm, b1', b2', pf_pure, pureF]
    have b1' : ¬ (20 : Int) < x.ch.w * x.ch.h := b1
    have b2' : ¬ (6 : Int) < (x.ch.tide.length : Int) := by omega
    by_cases b3 : x.reps.length > 6
    · have b3' : (6 : Int) < (x.reps.length : Int) := by omega
      have hv' : Vg x := hv.2 (.inr (.inr b3))
      simp [sf_coblelaw03_Vague, hV, hC, dsE, hok, hdo, hv', hl', hm, b1', b2', b3', pf_pure, pureF]
    · have b3' : ¬ (6 : Int) < (x.reps.length : Int) := by omega
      have hv' : ¬ Vg x := fun h => by rcases hv.1 h with h | h | h; exact b1 h; exact b2 h; exact b3 h
      simp [sf_coblelaw03_Vague, hV, hC, dsE, hok, hdo, hv', hl', hm, b1', b2', b3', pf_pure, pureF]
theorem nlL_reps : ∀ (l : List Rep), nlL (repsV l) = true
  | [] => by simp [repsV]
  | r :: l => by
    have := nlL_reps l
    simp only [repsV, List.flatMap_cons, Rep.vals] at this ⊢
    simp [this]
theorem one_reps : ∀ (l : List Rep), (repsV l).all oneC = true
  | [] => by simp [repsV]
  | r :: l => by
    have := one_reps l
    simp only [repsV, List.flatMap_cons, Rep.vals, List.all_append] at this ⊢
    rw [this]
    simp
def copyD (x : Ds) : List ABlk := copyB x.ch ++ cpB 9 (repsV x.reps)
set_option maxHeartbeats 2000000 in
theorem run_Copy3 (x : Ds) (lim : Nat) (H : AH) (d t s r : Value) (h : DsIn H x d t s r) (hf : ¬ Far x.ch) (hl : x.reps.length ≤ 14) :
    ∃ d' t' s' r', apL Tryz.prog pf (.func (.func 15) #[] #[]) [dsV x d t s r] lim H = some (dsV x d' t' s' r', H ++ copyD x) ∧ DsIn (H ++ copyD x) x d' t' s' r' := by
  obtain ⟨d', t', s', hC, hc'⟩ := run_Copy x.ch H.length H d t s h.c (Far.short hf)
  have hC2 := hC
  refine ⟨d', t', s', cpV (H ++ copyB x.ch).length x.reps.length, ?_, ⟨hc'.ext ?_, Sl.cp (H := H ++ copyB x.ch) (e := 9) (cs := repsV x.reps) ?_ (by rw [repsV_length]; omega), by omega⟩⟩
  rotate_left
  · rw [copyD, ← List.append_assoc]; exact Ext.push _ _
  · rw [copyD, ← List.append_assoc]; exact Ext.refl _
  rw [apL_func _ _ _ _ _ _ (by rfl), sf_cobleref03_Copy_eq]
  have i1 := nlL_reps x.reps
  have o1 := one_reps x.reps
  have hm1 : x.reps.length ≤ maxA := Nat.le_trans hl (by decide)
  have hr := h.r.ext (Ext.push H (copyB x.ch))
  have hrl := repsV_length x.reps
  obtain ⟨⟨⟨da, dc, ed, _⟩, ⟨ta, tc, et, _⟩, ⟨sa, sc, es, _⟩, _, htl, _⟩, ⟨ra, rc, er, _⟩, _⟩ := h
  obtain ⟨⟨da2, dc2, ed2, _⟩, ⟨ta2, tc2, et2, _⟩, ⟨sa2, sc2, es2, _⟩, _, _, _⟩ := hc'
  simp only [chV, ed, et, es, ed2, et2, es2] at hC2
  simp only [dsV, ed, et, es, er, ed2, et2, es2]
  rw [er] at hr
  rw [copyD, ← List.append_assoc]
  generalize hH2 : H ++ copyB x.ch = H2 at *
  generalize hrs : repsV x.reps = cs at *
  have key : (x.reps.length = 0) ∨ (0 < x.reps.length ∧ ∃ b o, ra = some ⟨b, o, none⟩ ∧ ∀ L l, cellsAt L (H2 ++ l) ⟨b, o, none⟩ (x.reps.length * 9) = some cs) := by
    by_cases h0 : x.reps.length = 0
    · exact .inl h0
    · refine .inr ⟨by omega, ?_⟩
      obtain ⟨b, o, k, e, _⟩ := hr.cells (by omega)
      cases e
      refine ⟨b, o, rfl, fun L l => ?_⟩
      obtain ⟨b', o', k', e', hh⟩ := (hr.ext (Ext.push H2 l)).cells (by omega)
      cases e'
      rw [← hrl]
      exact hh L
  rcases key with h0 | ⟨h0, b, o, rfl, hh⟩
  · have hcs : cs.length = 0 := by omega
    simp [-oneC, oneC_slice, oneC_int, sf_cobleref03_Copy, hC2, h0, cpB, cpV, hcs, pf_pure, pureF]
  · have hcs : cs.length ≠ 0 := by omega
    have h0' : x.reps.length ≠ 0 := by omega
    simp [-oneC, oneC_slice, oneC_int, sf_cobleref03_Copy, hC2, h0, h0', cpB, cpV, hcs, hh, hm1, i1, o1, pf_pure, pureF, Nat.ne_of_gt]
end Go.Proofs.YtmdnpaboaelkeaaGreatDoor
namespace Go.Proofs.YtmdnpaboaelkeaaGreatDoor
open Go Go.RowKit
def wayT : List (Int × Int × Int) := [(0, 1, 1), (1, 0, 1), (1, -1, 0), (0, -1, -1), (-1, -1, 0), (-1, 0, 1)]
def wayN (k : Nat) : Int := (wayT.getD k (0, 0, 0)).1
def wayE (k : Nat) : Int := (wayT.getD k (0, 0, 0)).2.1
def wayO (k : Nat) : Int := (wayT.getD k (0, 0, 0)).2.2
theorem way_bounds : ∀ k : Nat, (-1 ≤ wayN k ∧ wayN k ≤ 1) ∧ (-1 ≤ wayE k ∧ wayE k ≤ 1) ∧ (-1 ≤ wayO k ∧ wayO k ≤ 1)
  | 0 => by decide
  | 1 => by decide
  | 2 => by decide
  | 3 => by decide
  | 4 => by decide
  | 5 => by decide
  | n + 6 => by simp [wayN, wayE, wayO, wayT]
def nxR (w i : Int) (k : Nat) : Int := i / w + wayN k
def nxC (w i : Int) (k : Nat) : Int := i % w + (if i / w % 2 = 0 then wayE k else wayO k)
def nxIn (w h i : Int) (k : Nat) : Bool := decide (0 ≤ nxR w i k) && decide (nxR w i k ≤ h - 1) && (decide (0 ≤ nxC w i k) && decide (nxC w i k ≤ w - 1))
def nxt (w h i : Int) (k : Nat) : Option Int := if nxIn w h i k = true then some (nxR w i k * w + nxC w i k) else none
theorem rowcol {w h i : Int} (hw : 1 ≤ w) (h0 : 0 ≤ i) (h1 : i < w * h) : (0 ≤ i / w ∧ i / w < h) ∧ (0 ≤ i % w ∧ i % w < w) ∧ i = i / w * w + i % w := by
  refine ⟨⟨Int.ediv_nonneg h0 (by omega), Int.ediv_lt_of_lt_mul (by omega) (by rw [Int.mul_comm]; exact h1)⟩, ⟨Int.emod_nonneg _ (by omega), Int.emod_lt_of_pos _ (by omega)⟩, ?_⟩
  have := Int.mul_ediv_add_emod i w
  rw [Int.mul_comm] at this
  exact this.symm
theorem nxt_some {w h i n : Int} {k : Nat} (hw : 1 ≤ w) (hh : 1 ≤ h) (e : nxt w h i k = some n) : 0 ≤ n ∧ n < w * h ∧ n / w = nxR w i k ∧ n % w = nxC w i k ∧ nxIn w h i k = true := by
  unfold nxt at e
  split at e
  · rename_i hin
    have hin' := hin
    simp only [nxIn, Bool.and_eq_true, decide_eq_true_eq] at hin
    obtain ⟨⟨r0, r1⟩, c0, c1⟩ := hin
    have en := Option.some.inj e
    have hm : nxR w i k * w ≤ (h - 1) * w := Int.mul_le_mul_of_nonneg_right r1 (by omega)
    have h0 : 0 ≤ nxR w i k * w := Int.mul_nonneg r0 (by omega)
    have e2 : (h - 1) * w = w * h - w := by rw [Int.sub_mul, Int.mul_comm h w, Int.one_mul]
    have e3 : n = nxC w i k + nxR w i k * w := by omega
    refine ⟨by omega, by omega, ?_, ?_, hin'⟩
    · rw [e3, Int.add_mul_ediv_right _ _ (by omega), Int.ediv_eq_zero_of_lt c0 (by omega), Int.zero_add]
    · rw [e3, Int.add_mul_emod_self_right, Int.emod_eq_of_lt c0 (by omega)]
  · cases e
end Go.Proofs.YtmdnpaboaelkeaaGreatDoor
namespace Go.Proofs.YtmdnpaboaelkeaaGreatDoor
open Go Go.RowKit
def dst (a b : Int) : Int := max (a - b) (b - a)
theorem run_dst (a b : Int) (h : -1000000 ≤ a - b ∧ a - b ≤ 1000000) (lim : Nat) (H : AH) : apL Tryz.prog pf (.func (.func 147) #[] #[]) [.int .i64 a, .int .i64 b] lim H = some (.int .i64 (dst a b), H) := by
  rw [run_distance, wrap_i64 (by omega) (by omega), wrap_i64 (by omega) (by omega)]
  unfold dst
  rw [Int.max_def]
  congr 3
  split <;> split <;> omega
def estN (w i : Int) : Int := i % w * 2 + i / w % 2
theorem run_est (c : Ch) (hok : ChOk c) (lim : Nat) (H : AH) (d t s : Value) (hc : ChIn H c d t s) {i : Nat} (hi : i < c.cells) : apL Tryz.prog pf (.func (.func 148) #[] #[]) [chV c d t s, .int .i64 i] lim H = some (.int .i64 (estN c.w i), H) := by
  obtain ⟨m0, m1, m2⟩ := hok.mul
  obtain ⟨hw, hh, _⟩ := hok
  obtain ⟨⟨r0, r1⟩, ⟨q0, q1⟩, hiq⟩ := rowcol (h := c.h) hw.1 (Int.natCast_nonneg i) (by rw [m2]; exact Int.ofNat_lt.2 hi)
  have := run_east i c.w (by omega) [.int .i64 c.h, d, t, s] lim H
  rw [chV]
  rw [this]
  rw [Int.tdiv_eq_ediv_of_nonneg (Int.natCast_nonneg i), Int.tmod_eq_emod_of_nonneg (Int.natCast_nonneg i), wrap_i64 (n := (i : Int) / c.w) (by omega) (by omega), Int.tmod_eq_emod_of_nonneg r0, wrap_i64 (n := (i : Int) % c.w * 2) (by omega) (by omega), wrap_i64 (by omega) (by omega)]
  rfl
def apt (w a b : Int) : Int := dst (a / w) (b / w) + max 0 (dst (estN w a) (estN w b) - dst (a / w) (b / w)) / 2
theorem run_apart (c : Ch) (hok : ChOk c) (lim : Nat) (H : AH) (d t s : Value) (hc : ChIn H c d t s) {i k : Nat} (hi : i < c.cells) (hk : k < c.cells) :
    apL Tryz.prog pf (.func (.func 137) #[] #[]) [chV c d t s, .int .i64 i, .int .i64 k] lim H = some (.int .i64 (apt c.w i k), H) := by
  rw [apL_func _ _ _ _ _ _ (by rfl), sf_chart_sea_apart_eq]
  have e1 := fun lim => run_est c hok lim H d t s hc hi
  have e2 := fun lim => run_est c hok lim H d t s hc hk
  obtain ⟨m0, m1, m2⟩ := hok.mul
  obtain ⟨hw, hh, _⟩ := hok
  obtain ⟨⟨r0, r1⟩, ⟨q0, q1⟩, hiq⟩ := rowcol (h := c.h) hw.1 (Int.natCast_nonneg i) (by rw [m2]; exact Int.ofNat_lt.2 hi)
  obtain ⟨⟨r0', r1'⟩, ⟨q0', q1'⟩, hiq'⟩ := rowcol (h := c.h) hw.1 (Int.natCast_nonneg k) (by rw [m2]; exact Int.ofNat_lt.2 hk)
  have d1 := run_dst ((i : Int) / c.w) ((k : Int) / c.w) (by omega)
  have ee1 : 0 ≤ estN c.w i ∧ estN c.w i ≤ 1000 := by unfold estN; omega
  have ee2 : 0 ≤ estN c.w k ∧ estN c.w k ≤ 1000 := by unfold estN; omega
  have d2 := run_dst (estN c.w i) (estN c.w k) (by omega)
  have hw0 : c.w ≠ 0 := by omega
  have hd : (i : Int).tdiv c.w = (i : Int) / c.w := Int.tdiv_eq_ediv_of_nonneg (Int.natCast_nonneg i)
  have hd' : (k : Int).tdiv c.w = (k : Int) / c.w := Int.tdiv_eq_ediv_of_nonneg (Int.natCast_nonneg k)
  have w1 : IntKind.i64.wrap ((i : Int) / c.w) = (i : Int) / c.w := wrap_i64 (by omega) (by omega)
  have w1' : IntKind.i64.wrap ((k : Int) / c.w) = (k : Int) / c.w := wrap_i64 (by omega) (by omega)
  have B1 : 0 ≤ dst ((i : Int) / c.w) ((k : Int) / c.w) ∧ dst ((i : Int) / c.w) ((k : Int) / c.w) ≤ 1000 := by unfold dst; omega
  have B2 : 0 ≤ dst (estN c.w i) (estN c.w k) ∧ dst (estN c.w i) (estN c.w k) ≤ 1000 := by unfold dst; omega
  have w2 : IntKind.i64.wrap (dst (estN c.w i) (estN c.w k) - dst ((i : Int) / c.w) ((k : Int) / c.w)) = dst (estN c.w i) (estN c.w k) - dst ((i : Int) / c.w) ((k : Int) / c.w) := wrap_i64 (by omega) (by omega)
  have hmax : (if dst (estN c.w i) (estN c.w k) - dst ((i : Int) / c.w) ((k : Int) / c.w) > 0 then dst (estN c.w i) (estN c.w k) - dst ((i : Int) / c.w) ((k : Int) / c.w) else 0) = max 0 (dst (estN c.w i) (estN c.w k) - dst ((i : Int) / c.w) ((k : Int) / c.w)) := by
    rw [Int.max_def]; split <;> split <;> omega
  have hm0 : 0 ≤ max 0 (dst (estN c.w i) (estN c.w k) - dst ((i : Int) / c.w) ((k : Int) / c.w)) := Int.le_max_left _ _
  have hm1 : max 0 (dst (estN c.w i) (estN c.w k) - dst ((i : Int) / c.w) ((k : Int) / c.w)) ≤ 1000 := by omega
  have ht : (max 0 (dst (estN c.w i) (estN c.w k) - dst ((i : Int) / c.w) ((k : Int) / c.w))).tdiv 2 = max 0 (dst (estN c.w i) (estN c.w k) - dst ((i : Int) / c.w) ((k : Int) / c.w)) / 2 := Int.tdiv_eq_ediv_of_nonneg hm0
  have w3 : IntKind.i64.wrap (max 0 (dst (estN c.w i) (estN c.w k) - dst ((i : Int) / c.w) ((k : Int) / c.w)) / 2) = max 0 (dst (estN c.w i) (estN c.w k) - dst ((i : Int) / c.w) ((k : Int) / c.w)) / 2 := wrap_i64 (by omega) (by omega)
  have w4 : IntKind.i64.wrap (apt c.w i k) = apt c.w i k := by
    have : 0 ≤ apt c.w i k ∧ apt c.w i k ≤ 10000 := by unfold apt; omega
    exact wrap_i64 (by omega) (by omega)
  obtain ⟨⟨da, dc, ed, _⟩, ⟨ta, tc, et, _⟩, ⟨sa, sc, es, _⟩, _, _, _⟩ := hc
  simp only [chV, ed, et, es] at e1 e2
  unfold apt at w4 ⊢
  generalize hD1 : dst ((i : Int) / c.w) ((k : Int) / c.w) = D1 at *
  generalize hD2 : dst (estN c.w i) (estN c.w k) = D2 at *
  simp [-Int.sub_pos, -gt_iff_lt, sf_chart_sea_apart, chV, ed, et, es, hw0, hd, hd', w1, w1', d1, e1, e2, d2, w2, hmax, ht, w3, w4, pf_pure, pureF]
noncomputable def apartN (c : Ch) (a b : Int) : Int := if openE c [a, b] [] = 0 then apt c.w a b else 0
theorem run_Apart (c : Ch) (lim : Nat) (H : AH) (d t s : Value) (hc : ChIn H c d t s) (a b : Int) :
    apL Tryz.prog pf (.func (.func 113) #[] #[]) [chV c d t s, .int .i64 a, .int .i64 b] lim H = some (.tuple #[.int .i64 (apartN c a b), .int .i64 (openE c [a, b] [])], H) := by
  rw [apL_func _ _ _ _ _ _ (by rfl), sf_chart_Apart_eq]
  have hc2 : ChIn (H ++ [.rw 1 (ints [a, b])]) c d t s := hc.ext (Ext.push H _)
  have ho := fun lim => run_open c lim _ d t s hc2 [a, b] [] (.slice (some ⟨H.length, 0, none⟩) 2 2) (.slice none 0 0) (Sl.made (by simp) rfl) Sl.nil (by simp) (by simp)
  by_cases h0 : openE c [a, b] [] = 0
  rotate_left
  · have h1 : (openE c [a, b] [] != 0) = true := by simpa using h0
    obtain ⟨⟨da, dc, ed, _⟩, ⟨ta, tc, et, _⟩, ⟨sa, sc, es, _⟩, _, _, _⟩ := hc
    simp only [h0, if_false, chV, ed, et, es, ints, List.map, noCh] at ho
    simp [sf_chart_Apart, chV, ed, et, es, ho, h0, h1, apartN, pf_pure, pureF]
  obtain ⟨hok, h1, _⟩ := openE_zero h0
  simp only [List.all_cons, List.all_nil, Bool.and_true, Bool.and_eq_true, inN_iff] at h1
  obtain ⟨⟨i, hi, rfl⟩, k, hk, rfl⟩ := h1
  have hn := fun lim => run_apart c hok lim _ d t s hc2 hi hk
  obtain ⟨⟨da, dc, ed, _⟩, ⟨ta, tc, et, _⟩, ⟨sa, sc, es, _⟩, _, _, _⟩ := hc
  simp only [h0, if_true, chV, ed, et, es, ints, List.map] at ho hn
  simp [sf_chart_Apart, chV, ed, et, es, ho, h0, hn, apartN, pf_pure, pureF]
end Go.Proofs.YtmdnpaboaelkeaaGreatDoor
namespace Go.Proofs.YtmdnpaboaelkeaaGreatDoor
open Go Go.RowKit
theorem nxt_iff {w h a b : Int} {k : Nat} (hw : 1 ≤ w) (hh : 1 ≤ h) (b0 : 0 ≤ b) (b1 : b < w * h) : nxt w h a k = some b ↔ b / w = nxR w a k ∧ b % w = nxC w a k := by
  constructor
  · intro e; obtain ⟨_, _, h1, h2, _⟩ := nxt_some hw hh e; exact ⟨h1, h2⟩
  · rintro ⟨h1, h2⟩
    obtain ⟨⟨r0, r1⟩, ⟨q0, q1⟩, e⟩ := rowcol (h := h) hw b0 b1
    have : nxIn w h a k = true := by
      simp only [nxIn, Bool.and_eq_true, decide_eq_true_eq]
      omega
    unfold nxt
    rw [if_pos this, ← h1, ← h2, ← e]
theorem nxt_back {w h a n : Int} (hw : 1 ≤ w) (hh : 1 ≤ h) (a0 : 0 ≤ a) (a1 : a < w * h) : ∀ {k : Nat}, k < 6 → nxt w h a k = some n → nxt w h n ((k + 3) % 6) = some a := by
  intro k hk e
  obtain ⟨n0, n1, e1, e2, _⟩ := nxt_some hw hh e
  refine (nxt_iff hw hh a0 a1).2 ?_
  unfold nxR nxC at *
  rw [e1, e2]
  generalize a / w = r at *
  generalize a % w = q at *
  match k, hk with
  | 0, _ | 1, _ | 2, _ | 3, _ | 4, _ | 5, _ =>
    simp [wayN, wayE, wayO, wayT] at *
    try split
    all_goals (try split)
    all_goals omega
  | n + 6, h => omega
theorem apt_symm (w a b : Int) : apt w a b = apt w b a := by
  unfold apt
  have h : ∀ x y, dst x y = dst y x := fun x y => by unfold dst; exact Int.max_comm _ _
  rw [h (a / w), h (estN w a)]
theorem apt_zero {w h a b : Int} (hw : 1 ≤ w) (a0 : 0 ≤ a) (a1 : a < w * h) (b0 : 0 ≤ b) (b1 : b < w * h) : apt w a b = 0 ↔ a = b := by
  obtain ⟨_, _, ea⟩ := rowcol (h := h) hw a0 a1
  obtain ⟨_, _, eb⟩ := rowcol (h := h) hw b0 b1
  constructor
  · intro e
    have : a / w = b / w ∧ a % w = b % w := by
      unfold apt dst estN at e
      omega
    rw [ea, eb, this.1, this.2]
  · rintro rfl; unfold apt dst; omega
theorem apt_tri (w a b c : Int) : apt w a b ≤ apt w a c + apt w c b := by
  unfold apt estN
  generalize a / w = r1
  generalize b / w = r2
  generalize c / w = r3
  generalize a % w = q1
  generalize b % w = q2
  generalize c % w = q3
  have key : ∀ x y : Int, 0 ≤ x → 0 ≤ y → (x + y) % 2 = 0 → 2 * (x + max 0 (y - x) / 2) = max (2 * x) (x + y) := fun x y _ _ _ => by omega
  have p1 := key (dst r1 r2) (dst (q1 * 2 + r1 % 2) (q2 * 2 + r2 % 2)) (by unfold dst; omega) (by unfold dst; omega) (by unfold dst; omega)
  have p2 := key (dst r1 r3) (dst (q1 * 2 + r1 % 2) (q3 * 2 + r3 % 2)) (by unfold dst; omega) (by unfold dst; omega) (by unfold dst; omega)
  have p3 := key (dst r3 r2) (dst (q3 * 2 + r3 % 2) (q2 * 2 + r2 % 2)) (by unfold dst; omega) (by unfold dst; omega) (by unfold dst; omega)
  have t1 : dst r1 r2 ≤ dst r1 r3 + dst r3 r2 := by unfold dst; omega
  have t2 : dst (q1 * 2 + r1 % 2) (q2 * 2 + r2 % 2) ≤ dst (q1 * 2 + r1 % 2) (q3 * 2 + r3 % 2) + dst (q3 * 2 + r3 % 2) (q2 * 2 + r2 % 2) := by unfold dst; omega
  omega
def nearB (w h a b : Int) (n : Nat) : Bool := (List.range n).any fun k => nxt w h a k == some b
set_option maxHeartbeats 1000000 in
theorem apt_one {w h a b : Int} (hw : 1 ≤ w) (hh : 1 ≤ h) (a0 : 0 ≤ a) (a1 : a < w * h) (b0 : 0 ≤ b) (b1 : b < w * h) : apt w a b = 1 ↔ nearB w h a b 6 = true := by
  have hn : nearB w h a b 6 = true ↔ ∃ k : Nat, k < 6 ∧ b / w = nxR w a k ∧ b % w = nxC w a k := by
    unfold nearB
    rw [List.any_eq_true]
    constructor
    · rintro ⟨k, hk, e⟩; exact ⟨k, by simpa using hk, (nxt_iff hw hh b0 b1).1 (by simpa using e)⟩
    · rintro ⟨k, hk, e⟩; exact ⟨k, by simpa using hk, by simpa using (nxt_iff hw hh b0 b1).2 e⟩
  rw [hn]
  unfold nxR nxC apt estN
  generalize a / w = r1
  generalize b / w = r2
  generalize a % w = q1
  generalize b % w = q2
  have key : ∀ x y : Int, 0 ≤ x → 0 ≤ y → (x + y) % 2 = 0 → (x + max 0 (y - x) / 2 = 1 ↔ (x = 1 ∧ y = 1) ∨ (x = 0 ∧ y = 2)) := fun x y _ _ _ => by omega
  rw [key (dst r1 r2) (dst (q1 * 2 + r1 % 2) (q2 * 2 + r2 % 2)) (by unfold dst; omega) (by unfold dst; omega) (by unfold dst; omega)]
  have ab : ∀ x y n : Int, 0 ≤ n → (dst x y = n ↔ y = x + n ∨ y = x - n) := fun x y n _ => by unfold dst; omega
  rw [ab _ _ 1 (by omega), ab _ _ 1 (by omega), ab _ _ 0 (by omega), ab _ _ 2 (by omega)]
  constructor
  · intro e
    by_cases par : r1 % 2 = 0
    · simp only [par, if_true]
      have : (r2 = r1 ∧ q2 = q1 + 1) ∨ (r2 = r1 + 1 ∧ q2 = q1) ∨ (r2 = r1 + 1 ∧ q2 = q1 - 1) ∨ (r2 = r1 ∧ q2 = q1 - 1) ∨ (r2 = r1 - 1 ∧ q2 = q1 - 1) ∨ (r2 = r1 - 1 ∧ q2 = q1) := by omega
      rcases this with h | h | h | h | h | h
      · exact ⟨0, by omega, by simp [wayN, wayE, wayT]; omega⟩
      · exact ⟨1, by omega, by simp [wayN, wayE, wayT]; omega⟩
      · exact ⟨2, by omega, by simp [wayN, wayE, wayT]; omega⟩
      · exact ⟨3, by omega, by simp [wayN, wayE, wayT]; omega⟩
      · exact ⟨4, by omega, by simp [wayN, wayE, wayT]; omega⟩
      · exact ⟨5, by omega, by simp [wayN, wayE, wayT]; omega⟩
    · simp only [par, if_false]
      have : (r2 = r1 ∧ q2 = q1 + 1) ∨ (r2 = r1 + 1 ∧ q2 = q1 + 1) ∨ (r2 = r1 + 1 ∧ q2 = q1) ∨ (r2 = r1 ∧ q2 = q1 - 1) ∨ (r2 = r1 - 1 ∧ q2 = q1) ∨ (r2 = r1 - 1 ∧ q2 = q1 + 1) := by omega
      rcases this with h | h | h | h | h | h
      · exact ⟨0, by omega, by simp [wayN, wayO, wayT]; omega⟩
      · exact ⟨1, by omega, by simp [wayN, wayO, wayT]; omega⟩
      · exact ⟨2, by omega, by simp [wayN, wayO, wayT]; omega⟩
      · exact ⟨3, by omega, by simp [wayN, wayO, wayT]; omega⟩
      · exact ⟨4, by omega, by simp [wayN, wayO, wayT]; omega⟩
      · exact ⟨5, by omega, by simp [wayN, wayO, wayT]; omega⟩
  · rintro ⟨k, hk, h1, h2⟩
    match k, hk with
    | 0, _ | 1, _ | 2, _ | 3, _ | 4, _ | 5, _ =>
      simp [wayN, wayE, wayO, wayT] at h1 h2
      by_cases par : r1 % 2 = 0
      · (try simp [par] at h2); omega
      · (try simp [par] at h2); omega
    | n + 6, h => omega
end Go.Proofs.YtmdnpaboaelkeaaGreatDoor
namespace Go.Proofs.YtmdnpaboaelkeaaGreatDoor
open Go Go.RowKit
theorem nxt_of {w h a : Int} {k : Nat} (hw : 1 ≤ w) (hh : 1 ≤ h) (h1 : 0 ≤ nxR w a k) (h2 : nxR w a k ≤ h - 1) (h3 : 0 ≤ nxC w a k) (h4 : nxC w a k ≤ w - 1) : ∃ b, nxt w h a k = some b ∧ 0 ≤ b ∧ b < w * h ∧ b / w = nxR w a k ∧ b % w = nxC w a k := by
  have : nxIn w h a k = true := by simp only [nxIn, Bool.and_eq_true, decide_eq_true_eq]; omega
  have e : nxt w h a k = some (nxR w a k * w + nxC w a k) := by unfold nxt; rw [if_pos this]
  obtain ⟨x0, x1, x2, x3, _⟩ := nxt_some hw hh e
  exact ⟨_, e, x0, x1, x2, x3⟩
set_option maxHeartbeats 1000000 in
theorem step_near {w h n ra ea rb qb : Int} (hn : 0 ≤ n) (r0 : 0 ≤ ra) (r1 : ra < h) (r0' : 0 ≤ rb) (r1' : rb < h) (q0' : 0 ≤ qb) (q1' : qb < w) (e0 : 0 ≤ ea) (e1 : ea ≤ 2 * (w - 1) + 1) (e2 : ea % 2 = ra % 2)
    (e : max (2 * dst ra rb) (dst ra rb + dst ea (qb * 2 + rb % 2)) = 2 * (n + 1)) :
    ∃ k : Nat, k < 6 ∧ 0 ≤ rb + wayN k ∧ rb + wayN k ≤ h - 1 ∧ 0 ≤ qb + (if rb % 2 = 0 then wayE k else wayO k) ∧ qb + (if rb % 2 = 0 then wayE k else wayO k) ≤ w - 1 ∧
      max (2 * dst ra (rb + wayN k)) (dst ra (rb + wayN k) + dst ea ((qb + (if rb % 2 = 0 then wayE k else wayO k)) * 2 + (rb + wayN k) % 2)) = 2 * n := by
  have hp : (dst ra rb + dst ea (qb * 2 + rb % 2)) % 2 = 0 := by unfold dst; omega
  have D : ∀ x y : Int, (x ≤ y → dst x y = y - x) ∧ (y ≤ x → dst x y = x - y) := fun x y => by unfold dst; omega
  have X0 : 0 ≤ dst ra rb := by unfold dst; omega
  have Y0 : 0 ≤ dst ea (qb * 2 + rb % 2) := by unfold dst; omega
  have G1 : ∀ X' Y' : Int, X' = dst ra rb - 1 → Y' = dst ea (qb * 2 + rb % 2) - 1 → max (2 * X') (X' + Y') = 2 * n := fun X' Y' h1 h2 => by omega
  have G2 : ∀ X' Y' : Int, X' = dst ra rb - 1 → dst ea (qb * 2 + rb % 2) = 0 → 1 ≤ dst ra rb → Y' = 1 → max (2 * X') (X' + Y') = 2 * n := fun X' Y' h1 h2 h3 h4 => by omega
  have G3 : ∀ X' Y' : Int, X' = 0 → dst ra rb = 0 → Y' = dst ea (qb * 2 + rb % 2) - 2 → max (2 * X') (X' + Y') = 2 * n := fun X' Y' h1 h2 h3 => by omega
  have Y2 : ra = rb → ea ≠ qb * 2 + rb % 2 := fun h1 h2 => by
    have := (D ra rb).1 (by omega)
    have := (D ea (qb * 2 + rb % 2)).1 (by omega)
    omega
  by_cases par : rb % 2 = 0
  · rcases Int.lt_trichotomy ra rb with hr | hr | hr
    · by_cases hc : qb * 2 + rb % 2 > ea
      · skip
        have a1 := (D ra rb).1 (by omega)
        have a2 := (D ea (qb * 2 + rb % 2)).1 (by omega)
        have r1 := (D ra (rb + -1)).1 (by omega)
        have r2 := (D ea ((qb + -1) * 2 + (rb + -1) % 2)).1 (by omega)
        refine ⟨4, by decide, ?_⟩
        simp only [par, if_true, show wayN 4 = -1 from rfl, show wayE 4 = -1 from rfl]
        exact ⟨by clear G1 G2 G3 Y2 D; omega, by clear G1 G2 G3 Y2 D; omega, by clear G1 G2 G3 Y2 D; omega, by clear G1 G2 G3 Y2 D; omega, G1 _ _ (by omega) (by omega)⟩
      · by_cases hz : qb * 2 + rb % 2 = ea
        · skip
          have a1 := (D ra rb).1 (by omega)
          have a2 := (D ea (qb * 2 + rb % 2)).1 (by omega)
          have r1 := (D ra (rb + -1)).1 (by omega)
          have r2 := (D ea ((qb + 0) * 2 + (rb + -1) % 2)).1 (by omega)
          refine ⟨5, by decide, ?_⟩
          simp only [par, if_true, show wayN 5 = -1 from rfl, show wayE 5 = 0 from rfl]
          exact ⟨by clear G1 G2 G3 Y2 D; omega, by clear G1 G2 G3 Y2 D; omega, by clear G1 G2 G3 Y2 D; omega, by clear G1 G2 G3 Y2 D; omega, G2 _ _ (by omega) (by omega) (by omega) (by omega)⟩
        · skip
          have a1 := (D ra rb).1 (by omega)
          have a2 := (D ea (qb * 2 + rb % 2)).2 (by omega)
          have r1 := (D ra (rb + -1)).1 (by omega)
          have r2 := (D ea ((qb + 0) * 2 + (rb + -1) % 2)).2 (by omega)
          refine ⟨5, by decide, ?_⟩
          simp only [par, if_true, show wayN 5 = -1 from rfl, show wayE 5 = 0 from rfl]
          exact ⟨by clear G1 G2 G3 Y2 D; omega, by clear G1 G2 G3 Y2 D; omega, by clear G1 G2 G3 Y2 D; omega, by clear G1 G2 G3 Y2 D; omega, G1 _ _ (by omega) (by omega)⟩
    · have hne := Y2 hr
      by_cases hc : qb * 2 + rb % 2 > ea
      · skip
        have a1 := (D ra rb).1 (by omega)
        have a2 := (D ea (qb * 2 + rb % 2)).1 (by omega)
        have r1 := (D ra (rb + 0)).1 (by omega)
        have r2 := (D ea ((qb + -1) * 2 + (rb + 0) % 2)).1 (by omega)
        refine ⟨3, by decide, ?_⟩
        simp only [par, if_true, show wayN 3 = 0 from rfl, show wayE 3 = -1 from rfl]
        exact ⟨by clear G1 G2 G3 Y2 D; omega, by clear G1 G2 G3 Y2 D; omega, by clear G1 G2 G3 Y2 D; omega, by clear G1 G2 G3 Y2 D; omega, G3 _ _ (by omega) (by omega) (by omega)⟩
      · skip
        have a1 := (D ra rb).1 (by omega)
        have a2 := (D ea (qb * 2 + rb % 2)).2 (by omega)
        have r1 := (D ra (rb + 0)).1 (by omega)
        have r2 := (D ea ((qb + 1) * 2 + (rb + 0) % 2)).2 (by omega)
        refine ⟨0, by decide, ?_⟩
        simp only [par, if_true, show wayN 0 = 0 from rfl, show wayE 0 = 1 from rfl]
        exact ⟨by clear G1 G2 G3 Y2 D; omega, by clear G1 G2 G3 Y2 D; omega, by clear G1 G2 G3 Y2 D; omega, by clear G1 G2 G3 Y2 D; omega, G3 _ _ (by omega) (by omega) (by omega)⟩
    · by_cases hc : qb * 2 + rb % 2 > ea
      · skip
        have a1 := (D ra rb).2 (by omega)
        have a2 := (D ea (qb * 2 + rb % 2)).1 (by omega)
        have r1 := (D ra (rb + 1)).2 (by omega)
        have r2 := (D ea ((qb + -1) * 2 + (rb + 1) % 2)).1 (by omega)
        refine ⟨2, by decide, ?_⟩
        simp only [par, if_true, show wayN 2 = 1 from rfl, show wayE 2 = -1 from rfl]
        exact ⟨by clear G1 G2 G3 Y2 D; omega, by clear G1 G2 G3 Y2 D; omega, by clear G1 G2 G3 Y2 D; omega, by clear G1 G2 G3 Y2 D; omega, G1 _ _ (by omega) (by omega)⟩
      · by_cases hz : qb * 2 + rb % 2 = ea
        · skip
          have a1 := (D ra rb).2 (by omega)
          have a2 := (D ea (qb * 2 + rb % 2)).1 (by omega)
          have r1 := (D ra (rb + 1)).2 (by omega)
          have r2 := (D ea ((qb + 0) * 2 + (rb + 1) % 2)).1 (by omega)
          refine ⟨1, by decide, ?_⟩
          simp only [par, if_true, show wayN 1 = 1 from rfl, show wayE 1 = 0 from rfl]
          exact ⟨by clear G1 G2 G3 Y2 D; omega, by clear G1 G2 G3 Y2 D; omega, by clear G1 G2 G3 Y2 D; omega, by clear G1 G2 G3 Y2 D; omega, G2 _ _ (by omega) (by omega) (by omega) (by omega)⟩
        · skip
          have a1 := (D ra rb).2 (by omega)
          have a2 := (D ea (qb * 2 + rb % 2)).2 (by omega)
          have r1 := (D ra (rb + 1)).2 (by omega)
          have r2 := (D ea ((qb + 0) * 2 + (rb + 1) % 2)).2 (by omega)
          refine ⟨1, by decide, ?_⟩
          simp only [par, if_true, show wayN 1 = 1 from rfl, show wayE 1 = 0 from rfl]
          exact ⟨by clear G1 G2 G3 Y2 D; omega, by clear G1 G2 G3 Y2 D; omega, by clear G1 G2 G3 Y2 D; omega, by clear G1 G2 G3 Y2 D; omega, G1 _ _ (by omega) (by omega)⟩
  · rcases Int.lt_trichotomy ra rb with hr | hr | hr
    · by_cases hc : qb * 2 + rb % 2 > ea
      · skip
        have a1 := (D ra rb).1 (by omega)
        have a2 := (D ea (qb * 2 + rb % 2)).1 (by omega)
        have r1 := (D ra (rb + -1)).1 (by omega)
        have r2 := (D ea ((qb + 0) * 2 + (rb + -1) % 2)).1 (by omega)
        refine ⟨4, by decide, ?_⟩
        simp only [par, if_false, show wayN 4 = -1 from rfl, show wayO 4 = 0 from rfl]
        exact ⟨by clear G1 G2 G3 Y2 D; omega, by clear G1 G2 G3 Y2 D; omega, by clear G1 G2 G3 Y2 D; omega, by clear G1 G2 G3 Y2 D; omega, G1 _ _ (by omega) (by omega)⟩
      · by_cases hz : qb * 2 + rb % 2 = ea
        · skip
          have a1 := (D ra rb).1 (by omega)
          have a2 := (D ea (qb * 2 + rb % 2)).1 (by omega)
          have r1 := (D ra (rb + -1)).1 (by omega)
          have r2 := (D ea ((qb + 0) * 2 + (rb + -1) % 2)).2 (by omega)
          refine ⟨4, by decide, ?_⟩
          simp only [par, if_false, show wayN 4 = -1 from rfl, show wayO 4 = 0 from rfl]
          exact ⟨by clear G1 G2 G3 Y2 D; omega, by clear G1 G2 G3 Y2 D; omega, by clear G1 G2 G3 Y2 D; omega, by clear G1 G2 G3 Y2 D; omega, G2 _ _ (by omega) (by omega) (by omega) (by omega)⟩
        · skip
          have a1 := (D ra rb).1 (by omega)
          have a2 := (D ea (qb * 2 + rb % 2)).2 (by omega)
          have r1 := (D ra (rb + -1)).1 (by omega)
          have r2 := (D ea ((qb + 1) * 2 + (rb + -1) % 2)).2 (by omega)
          refine ⟨5, by decide, ?_⟩
          simp only [par, if_false, show wayN 5 = -1 from rfl, show wayO 5 = 1 from rfl]
          exact ⟨by clear G1 G2 G3 Y2 D; omega, by clear G1 G2 G3 Y2 D; omega, by clear G1 G2 G3 Y2 D; omega, by clear G1 G2 G3 Y2 D; omega, G1 _ _ (by omega) (by omega)⟩
    · have hne := Y2 hr
      by_cases hc : qb * 2 + rb % 2 > ea
      · skip
        have a1 := (D ra rb).1 (by omega)
        have a2 := (D ea (qb * 2 + rb % 2)).1 (by omega)
        have r1 := (D ra (rb + 0)).1 (by omega)
        have r2 := (D ea ((qb + -1) * 2 + (rb + 0) % 2)).1 (by omega)
        refine ⟨3, by decide, ?_⟩
        simp only [par, if_false, show wayN 3 = 0 from rfl, show wayO 3 = -1 from rfl]
        exact ⟨by clear G1 G2 G3 Y2 D; omega, by clear G1 G2 G3 Y2 D; omega, by clear G1 G2 G3 Y2 D; omega, by clear G1 G2 G3 Y2 D; omega, G3 _ _ (by omega) (by omega) (by omega)⟩
      · skip
        have a1 := (D ra rb).1 (by omega)
        have a2 := (D ea (qb * 2 + rb % 2)).2 (by omega)
        have r1 := (D ra (rb + 0)).1 (by omega)
        have r2 := (D ea ((qb + 1) * 2 + (rb + 0) % 2)).2 (by omega)
        refine ⟨0, by decide, ?_⟩
        simp only [par, if_false, show wayN 0 = 0 from rfl, show wayO 0 = 1 from rfl]
        exact ⟨by clear G1 G2 G3 Y2 D; omega, by clear G1 G2 G3 Y2 D; omega, by clear G1 G2 G3 Y2 D; omega, by clear G1 G2 G3 Y2 D; omega, G3 _ _ (by omega) (by omega) (by omega)⟩
    · by_cases hc : qb * 2 + rb % 2 > ea
      · skip
        have a1 := (D ra rb).2 (by omega)
        have a2 := (D ea (qb * 2 + rb % 2)).1 (by omega)
        have r1 := (D ra (rb + 1)).2 (by omega)
        have r2 := (D ea ((qb + 0) * 2 + (rb + 1) % 2)).1 (by omega)
        refine ⟨2, by decide, ?_⟩
        simp only [par, if_false, show wayN 2 = 1 from rfl, show wayO 2 = 0 from rfl]
        exact ⟨by clear G1 G2 G3 Y2 D; omega, by clear G1 G2 G3 Y2 D; omega, by clear G1 G2 G3 Y2 D; omega, by clear G1 G2 G3 Y2 D; omega, G1 _ _ (by omega) (by omega)⟩
      · by_cases hz : qb * 2 + rb % 2 = ea
        · skip
          have a1 := (D ra rb).2 (by omega)
          have a2 := (D ea (qb * 2 + rb % 2)).1 (by omega)
          have r1 := (D ra (rb + 1)).2 (by omega)
          have r2 := (D ea ((qb + 0) * 2 + (rb + 1) % 2)).2 (by omega)
          refine ⟨2, by decide, ?_⟩
          simp only [par, if_false, show wayN 2 = 1 from rfl, show wayO 2 = 0 from rfl]
          exact ⟨by clear G1 G2 G3 Y2 D; omega, by clear G1 G2 G3 Y2 D; omega, by clear G1 G2 G3 Y2 D; omega, by clear G1 G2 G3 Y2 D; omega, G2 _ _ (by omega) (by omega) (by omega) (by omega)⟩
        · skip
          have a1 := (D ra rb).2 (by omega)
          have a2 := (D ea (qb * 2 + rb % 2)).2 (by omega)
          have r1 := (D ra (rb + 1)).2 (by omega)
          have r2 := (D ea ((qb + 1) * 2 + (rb + 1) % 2)).2 (by omega)
          refine ⟨1, by decide, ?_⟩
          simp only [par, if_false, show wayN 1 = 1 from rfl, show wayO 1 = 1 from rfl]
          exact ⟨by clear G1 G2 G3 Y2 D; omega, by clear G1 G2 G3 Y2 D; omega, by clear G1 G2 G3 Y2 D; omega, by clear G1 G2 G3 Y2 D; omega, G1 _ _ (by omega) (by omega)⟩
theorem apt_pred {w h a b : Int} (hw : 1 ≤ w) (hh : 1 ≤ h) (a0 : 0 ≤ a) (a1 : a < w * h) (b0 : 0 ≤ b) (b1 : b < w * h) (n : Int) (hn : 0 ≤ n) (e : apt w a b = n + 1) :
    ∃ (k : Nat) (b' : Int), k < 6 ∧ nxt w h b k = some b' ∧ 0 ≤ b' ∧ b' < w * h ∧ apt w a b' = n := by
  obtain ⟨⟨r0, r1⟩, ⟨q0, q1⟩, ea⟩ := rowcol (h := h) hw a0 a1
  obtain ⟨⟨r0', r1'⟩, ⟨q0', q1'⟩, eb⟩ := rowcol (h := h) hw b0 b1
  have key : ∀ x y : Int, 0 ≤ x → 0 ≤ y → (x + y) % 2 = 0 → 2 * (x + max 0 (y - x) / 2) = max (2 * x) (x + y) := fun x y _ _ _ => by omega
  have A : ∀ r2 q2 : Int, 2 * (dst (a / w) r2 + max 0 (dst (estN w a) (q2 * 2 + r2 % 2) - dst (a / w) r2) / 2) = max (2 * dst (a / w) r2) (dst (a / w) r2 + dst (estN w a) (q2 * 2 + r2 % 2)) := fun r2 q2 =>
    key _ _ (by unfold dst; omega) (by unfold dst; omega) (by unfold dst estN; omega)
  have e2 : max (2 * dst (a / w) (b / w)) (dst (a / w) (b / w) + dst (estN w a) (b % w * 2 + b / w % 2)) = 2 * (n + 1) := by
    have h1 := A (b / w) (b % w)
    have h2 : apt w a b = dst (a / w) (b / w) + max 0 (dst (estN w a) (b % w * 2 + b / w % 2) - dst (a / w) (b / w)) / 2 := rfl
    omega
  obtain ⟨k, hk, x1, x2, x3, x4, x5⟩ := step_near hn r0 r1 r0' r1' q0' q1' (by unfold estN; omega) (by unfold estN; omega) (by unfold estN; omega) e2
  have x1' : 0 ≤ nxR w b k := x1
  obtain ⟨b', y0, y1, y2, y3, y4⟩ := nxt_of (a := b) hw hh x1' x2 x3 x4
  refine ⟨k, b', hk, y0, y1, y2, ?_⟩
  have h1 := A (nxR w b k) (nxC w b k)
  have h2 : apt w a b' = dst (a / w) (b' / w) + max 0 (dst (estN w a) (b' % w * 2 + b' / w % 2) - dst (a / w) (b' / w)) / 2 := rfl
  have x5' : max (2 * dst (a / w) (nxR w b k)) (dst (a / w) (nxR w b k) + dst (estN w a) (nxC w b k * 2 + nxR w b k % 2)) = 2 * n := x5
  rw [y3, y4] at h2
  omega
theorem apt_lt {w h a b : Int} (hw : 1 ≤ w) (hh : 1 ≤ h) (a0 : 0 ≤ a) (a1 : a < w * h) (b0 : 0 ≤ b) (b1 : b < w * h) : apt w a b < w * h := by
  obtain ⟨⟨r0, r1⟩, ⟨q0, q1⟩, ea⟩ := rowcol (h := h) hw a0 a1
  obtain ⟨⟨r0', r1'⟩, ⟨q0', q1'⟩, eb⟩ := rowcol (h := h) hw b0 b1
  have h1 : apt w a b ≤ (h - 1) + (w - 1) := by unfold apt dst estN; omega
  have h2 : 0 ≤ (h - 1) * (w - 1) := Int.mul_nonneg (by omega) (by omega)
  have h3 : (h - 1) * (w - 1) = w * h - h - w + 1 := by rw [Int.sub_mul, Int.mul_sub, Int.one_mul, Int.mul_one, Int.mul_comm h w]; omega
  omega
theorem apt_nonneg (w a b : Int) : 0 ≤ apt w a b := by unfold apt dst; omega
structure Ring (w h : Int) (a : Nat) (n : Int) (N : Nat) (seen : Nat → Prop) (l : List Int) : Prop where
  len : l.length = N
  near : ∀ i, i < N → apt w a i ≤ n → l.getD i 0 = apt w a i
  far : ∀ i, i < N → n + 1 < apt w a i → l.getD i 0 = N
  next : ∀ i, i < N → apt w a i = n + 1 → (l.getD i 0 = n + 1 ∨ l.getD i 0 = N) ∧ (seen i → l.getD i 0 = n + 1)
theorem getD_set (l : List Int) (j i : Nat) (x : Int) (hj : j < l.length) : (l.set j x).getD i 0 = if i = j then x else l.getD i 0 := by
  simp only [List.getD_eq_getElem?_getD, List.getElem?_set]
  by_cases h : j = i
  · subst h; simp [hj]
  · have h' : ¬ i = j := fun e => h e.symm
    simp [h, h']
theorem Ring.set {w h : Int} {a : Nat} {n : Int} {N : Nat} {seen : Nat → Prop} {l : List Int} (H : Ring w h a n N seen l) (hn : n + 1 ≤ N) {j : Nat} (hj : j < N) (hd : apt w a j ≤ n + 1) : Ring w h a n N (fun i => seen i ∨ i = j) (l.set j (min (l.getD j 0) (n + 1))) := by
  have hjl : j < l.length := by rw [H.len]; exact hj
  refine ⟨by rw [List.length_set, H.len], fun i hi h1 => ?_, fun i hi h1 => ?_, fun i hi h1 => ?_⟩
  · rw [getD_set _ _ _ _ hjl]
    split
    · rename_i e; subst e; have := H.near i hi h1; omega
    · exact H.near i hi h1
  · rw [getD_set _ _ _ _ hjl]
    split
    · rename_i e; subst e; omega
    · exact H.far i hi h1
  · rw [getD_set _ _ _ _ hjl]
    split
    · rename_i e; subst e
      have := (H.next i hi h1).1
      refine ⟨.inl (by omega), fun _ => by omega⟩
    · rename_i e
      refine ⟨(H.next i hi h1).1, fun hs => (H.next i hi h1).2 ?_⟩
      rcases hs with hs | hs
      · exact hs
      · exact absurd hs e
def relD (w h n : Int) (i : Nat) (l : List Int) (k : Nat) : List Int := match nxt w h i k with
  | some j => l.set j.toNat (min (l.getD j.toNat 0) (n + 1))
  | none => l
def relI (w h n : Int) (l : List Int) (i : Nat) : List Int := if l.getD i 0 = n then (List.range 6).foldl (relD w h n i) l else l
def relN (w h : Int) (N : Nat) (l : List Int) (n : Nat) : List Int := (List.range N).foldl (relI w h n) l
theorem Ring.weaken {w h : Int} {a : Nat} {n : Int} {N : Nat} {s1 s2 : Nat → Prop} {l : List Int} (H : Ring w h a n N s1 l) (hs : ∀ i, i < N → apt w a i = n + 1 → s2 i → s1 i) : Ring w h a n N s2 l :=
  ⟨H.len, H.near, H.far, fun i hi h1 => ⟨(H.next i hi h1).1, fun h => (H.next i hi h1).2 (hs i hi h1 h)⟩⟩
theorem Ring.dirs {w h : Int} {a : Nat} {n : Int} {N : Nat} {seen : Nat → Prop} (hw : 1 ≤ w) (hh : 1 ≤ h) (hN : w * h = N) (hn : n + 1 ≤ N) {m : Nat} (hm : m < N) (hd : apt w a m = n) : ∀ (k : Nat) (l : List Int), k ≤ 6 → Ring w h a n N seen l →
    Ring w h a n N (fun i => seen i ∨ ∃ k', k' < k ∧ nxt w h m k' = some (i : Int)) ((List.range k).foldl (relD w h n m) l)
  | 0, l, _, H => H.weaken fun i _ _ hs => by
      rcases hs with hs | ⟨k', h, _⟩
      · exact hs
      · omega
  | k + 1, l, hk, H => by
    have ih := Ring.dirs hw hh hN hn hm hd k l (by omega) H
    rw [List.range_succ, List.foldl_append, List.foldl_cons, List.foldl_nil]
    generalize (List.range k).foldl (relD w h n m) l = l1 at *
    unfold relD
    split
    · rename_i j hj
      obtain ⟨j0, j1, _⟩ := nxt_some hw hh hj
      have hone : apt w m j = 1 := (apt_one hw hh (Int.natCast_nonneg m) (by rw [hN]; exact Int.ofNat_lt.2 hm) j0 j1).2 (by
        unfold nearB
        rw [List.any_eq_true]
        exact ⟨k, by simp; omega, by simp [hj]⟩)
      have htri := apt_tri w a j m
      have hjn : (j.toNat : Int) = j := by omega
      refine (ih.set hn (j := j.toNat) (by omega) (by rw [hjn]; omega)).weaken fun i _ _ hs => ?_
      rcases hs with hs | ⟨k', hk', e⟩
      · exact .inl (.inl hs)
      · by_cases ek : k' = k
        · subst ek; rw [hj] at e; right; have := Option.some.inj e; omega
        · exact .inl (.inr ⟨k', by omega, e⟩)
    · rename_i hj
      refine ih.weaken fun i _ _ hs => ?_
      rcases hs with hs | ⟨k', hk', e⟩
      · exact .inl hs
      · by_cases ek : k' = k
        · subst ek; rw [hj] at e; cases e
        · exact .inr ⟨k', by omega, e⟩
theorem Ring.cells {w h : Int} {a : Nat} {n : Nat} {N : Nat} (hw : 1 ≤ w) (hh : 1 ≤ h) (hN : w * h = N) (hn : n < N) : ∀ (m : Nat) (l : List Int), m ≤ N → Ring w h a n N (fun _ => False) l →
    Ring w h a n N (fun i => ∃ m' k, m' < m ∧ k < 6 ∧ apt w a m' = n ∧ nxt w h m' k = some (i : Int)) ((List.range m).foldl (relI w h n) l)
  | 0, l, _, H => H.weaken fun i _ _ ⟨m', k, h, _⟩ => by omega
  | m + 1, l, hm, H => by
    have ih := Ring.cells hw hh hN hn m l (by omega) H
    rw [List.range_succ, List.foldl_append, List.foldl_cons, List.foldl_nil]
    generalize (List.range m).foldl (relI w h n) l = l1 at *
    have hmN : m < N := by omega
    by_cases hd : apt w a m = n
    · have e : l1.getD m 0 = n := by rw [ih.near m hmN (by omega), hd]
      unfold relI
      rw [if_pos e]
      refine (ih.dirs hw hh hN (by omega) hmN hd 6 l1 (by omega)).weaken fun i _ _ hs => ?_
      obtain ⟨m', k, h1, h2, h3, h4⟩ := hs
      by_cases em : m' = m
      · subst em; exact .inr ⟨k, h2, h4⟩
      · exact .inl ⟨m', k, by omega, h2, h3, h4⟩
    · have e : ¬ l1.getD m 0 = n := by
        intro e
        by_cases h1 : apt w a m ≤ n
        · have := ih.near m hmN h1; omega
        · by_cases h2 : apt w a m = n + 1
          · have := (ih.next m hmN h2).1; omega
          · have := ih.far m hmN (by omega); omega
      unfold relI
      rw [if_neg e]
      refine ih.weaken fun i _ _ hs => ?_
      obtain ⟨m', k, h1, h2, h3, h4⟩ := hs
      refine ⟨m', k, ?_, h2, h3, h4⟩
      by_cases em : m' = m
      · subst em; exact absurd h3 hd
      · omega
theorem Ring.round {w h : Int} {a : Nat} {n : Nat} {N : Nat} (hw : 1 ≤ w) (hh : 1 ≤ h) (hN : w * h = N) (ha : a < N) (hn : n < N) {l : List Int} (H : Ring w h a n N (fun _ => False) l) : Ring w h a ((n + 1 : Nat) : Int) N (fun _ => False) (relN w h N l n) := by
  have H1 := Ring.cells hw hh hN hn N l (Nat.le_refl _) H
  have H2 : Ring w h a n N (fun _ => True) (relN w h N l n) := H1.weaken fun i hi h1 _ => by
    have la : (a : Int) < w * h := by rw [hN]; exact Int.ofNat_lt.2 ha
    have li : (i : Int) < w * h := by rw [hN]; exact Int.ofNat_lt.2 hi
    obtain ⟨k, b', hk, e, b0, b1, hd⟩ := apt_pred hw hh (Int.natCast_nonneg a) la (Int.natCast_nonneg i) li n (by omega) h1
    have hb := nxt_back hw hh (Int.natCast_nonneg i) li hk e
    have eb : (b'.toNat : Int) = b' := by omega
    exact ⟨b'.toNat, (k + 3) % 6, by omega, Nat.mod_lt _ (by omega), by rw [eb]; exact hd, by rw [eb]; exact hb⟩
  refine ⟨H2.len, fun i hi h1 => ?_, fun i hi h1 => ?_, fun i hi h1 => ⟨.inr ?_, fun h => h.elim⟩⟩
  · by_cases h2 : apt w a i ≤ n
    · exact H2.near i hi h2
    · have h3 : apt w a i = n + 1 := by omega
      rw [(H2.next i hi h3).2 trivial, h3]
  · exact H2.far i hi (by omega)
  · exact H2.far i hi (by omega)
theorem Ring.first {w h : Int} {a : Nat} {N : Nat} (hw : 1 ≤ w) (hN : w * h = N) (ha : a < N) : Ring w h a ((0 : Nat) : Int) N (fun _ => False) ((List.replicate N (N : Int)).set a 0) := by
  have hz : ∀ i : Nat, i < N → (apt w a i = 0 ↔ a = i) := fun i hi => by
    rw [apt_zero (h := h) hw (Int.natCast_nonneg a) (by rw [hN]; exact Int.ofNat_lt.2 ha) (Int.natCast_nonneg i) (by rw [hN]; exact Int.ofNat_lt.2 hi)]
    omega
  have hg : ∀ i, i < N → ((List.replicate N (N : Int)).set a 0).getD i 0 = if i = a then 0 else (N : Int) := fun i hi => by
    rw [getD_set _ _ _ _ (by simpa using ha)]
    split
    · rfl
    · simp [List.getD_eq_getElem?_getD, hi]
  refine ⟨by simp, fun i hi h1 => ?_, fun i hi h1 => ?_, fun i hi h1 => ⟨.inr ?_, fun h => h.elim⟩⟩
  · have h0 := apt_nonneg w a i
    have : apt w a i = 0 := by simp at h1; omega
    rw [hg i hi, this, if_pos ((hz i hi).1 this).symm]
  · rw [hg i hi, if_neg]
    intro e
    have := (hz i hi).2 e.symm
    omega
  · rw [hg i hi, if_neg]
    intro e
    have := (hz i hi).2 e.symm
    omega
theorem ring_end {w h : Int} {a b : Nat} {N : Nat} (hw : 1 ≤ w) (hh : 1 ≤ h) (hN : w * h = N) (ha : a < N) (hb : b < N) :
    ((List.range N).foldl (relN w h N) ((List.replicate N (N : Int)).set a 0)).getD b 0 = apt w a b := by
  have key : ∀ n, n ≤ N → Ring w h a ((n : Nat) : Int) N (fun _ => False) ((List.range n).foldl (relN w h N) ((List.replicate N (N : Int)).set a 0)) := by
    intro n
    induction n with
    | zero => intro _; exact Ring.first hw hN ha
    | succ n ih =>
      intro hn
      rw [List.range_succ, List.foldl_append, List.foldl_cons, List.foldl_nil]
      exact (ih (by omega)).round hw hh hN ha (by omega)
  have hlt := apt_lt hw hh (Int.natCast_nonneg a) (by rw [hN]; exact Int.ofNat_lt.2 ha) (Int.natCast_nonneg b) (by rw [hN]; exact Int.ofNat_lt.2 hb)
  exact (key N (Nat.le_refl _)).near b hb (by omega)
end Go.Proofs.YtmdnpaboaelkeaaGreatDoor
namespace Go.Proofs.YtmdnpaboaelkeaaGreatDoor
open Go Go.RowKit
end Go.Proofs.YtmdnpaboaelkeaaGreatDoor
namespace Go.Proofs.YtmdnpaboaelkeaaGreatDoor
open Go Go.RowKit
end Go.Proofs.YtmdnpaboaelkeaaGreatDoor
namespace Go.Proofs.YtmdnpaboaelkeaaGreatDoor
open Go Go.RowKit
theorem tab_get : ∀ k : Nat, k < 6 → ([Value.int .i64 0, .int .i64 1, .int .i64 1, .int .i64 0, .int .i64 (-1), .int .i64 (-1)] : List Value)[k]? = some (.int .i64 (wayN k)) ∧
    ([Value.int .i64 1, .int .i64 0, .int .i64 (-1), .int .i64 (-1), .int .i64 (-1), .int .i64 0] : List Value)[k]? = some (.int .i64 (wayE k)) ∧
    ([Value.int .i64 1, .int .i64 1, .int .i64 0, .int .i64 (-1), .int .i64 0, .int .i64 1] : List Value)[k]? = some (.int .i64 (wayO k))
  | 0, _ => ⟨rfl, rfl, rfl⟩
  | 1, _ => ⟨rfl, rfl, rfl⟩
  | 2, _ => ⟨rfl, rfl, rfl⟩
  | 3, _ => ⟨rfl, rfl, rfl⟩
  | 4, _ => ⟨rfl, rfl, rfl⟩
  | 5, _ => ⟨rfl, rfl, rfl⟩
  | n + 6, h => by omega
theorem run_Beside (c : Ch) (hok : ChOk c) (lim : Nat) (H : AH) (d t s : Value) (hc : ChIn H c d t s) {i k : Nat} (hi : i < c.cells) (hk : k < 6) :
    apL Tryz.prog pf (.func (.func 118) #[] #[]) [chV c d t s, .int .i64 i, .int .i64 k] lim H = some (.tuple #[.int .i64 ((nxt c.w c.h i k).getD 0), .bool (nxt c.w c.h i k).isSome], H) := by
  rw [apL_func _ _ _ _ _ _ (by rfl), sf_cobleref01_Beside_eq]
  obtain ⟨m0, m1, m2⟩ := hok.mul
  obtain ⟨hw, hh, _⟩ := hok
  obtain ⟨⟨r0, r1⟩, ⟨q0, q1⟩, hiq⟩ := rowcol (h := c.h) hw.1 (Int.natCast_nonneg i) (by rw [m2]; exact Int.ofNat_lt.2 hi)
  obtain ⟨⟨n0, n1⟩, ⟨e0, e1⟩, o0, o1⟩ := way_bounds k
  obtain ⟨g0, g1, g2⟩ := tab_get k hk
  have hd : (i : Int).tdiv c.w = (i : Int) / c.w := Int.tdiv_eq_ediv_of_nonneg (Int.natCast_nonneg i)
  have hm : (i : Int).tmod c.w = (i : Int) % c.w := Int.tmod_eq_emod_of_nonneg (Int.natCast_nonneg i)
  have h2 : ((i : Int) / c.w).tmod 2 = (i : Int) / c.w % 2 := Int.tmod_eq_emod_of_nonneg r0
  have hw0 : c.w ≠ 0 := by omega
  have w1 : IntKind.i64.wrap ((i : Int) / c.w) = (i : Int) / c.w := wrap_i64 (by omega) (by omega)
  have w2 : IntKind.i64.wrap ((i : Int) / c.w + wayN k) = nxR c.w i k := wrap_i64 (by omega) (by omega)
  have w5 : IntKind.i64.wrap (c.h - 1) = c.h - 1 := wrap_i64 (by omega) (by omega)
  have w6 : IntKind.i64.wrap (c.w - 1) = c.w - 1 := wrap_i64 (by omega) (by omega)
  have hk6 : (k : Int) < 6 := by omega
  obtain ⟨⟨da, dc, ed, _⟩, ⟨ta, tc, et, _⟩, ⟨sa, sc, es, _⟩, _, _, _⟩ := hc
  have fin : ∀ (pb : Bool), (((i : Int) / c.w % 2 == 0) = pb) → (IntKind.i64.wrap ((i : Int) % c.w + (if pb = true then wayE k else wayO k)) = nxC c.w i k) := fun pb hpb => by
    have eC : nxC c.w i k = (i : Int) % c.w + (if pb = true then wayE k else wayO k) := by
      unfold nxC
      cases pb
      · have : ¬ ((i : Int) / c.w % 2 = 0) := by simpa using hpb
        rw [if_neg this]; rfl
      · have : (i : Int) / c.w % 2 = 0 := by simpa using hpb
        rw [if_pos this]; rfl
    rw [eC]
    exact wrap_i64 (by split <;> omega) (by split <;> omega)
  cases pb : ((i : Int) / c.w % 2 == 0)
  all_goals
    have wC := fin _ pb
    simp only [Bool.false_eq_true, if_false, if_true] at wC
    by_cases a2 : 0 ≤ nxC c.w i k ∧ nxC c.w i k ≤ c.w - 1
    rotate_left
    · have a2b : (decide (0 ≤ nxC c.w i k) && decide (nxC c.w i k ≤ c.w - 1)) = false := by simpa using a2
      have hn : nxt c.w c.h i k = none := by unfold nxt nxIn; rw [a2b, Bool.and_false]; rfl
      simp [sf_cobleref01_Beside, chV, ed, et, es, hd, hm, h2, hw0, w1, w2, w6, hk6, g0, g1, g2, pb, wC, a2b, hn, pf_pure, pureF]
    have a2b : (decide (0 ≤ nxC c.w i k) && decide (nxC c.w i k ≤ c.w - 1)) = true := by simpa using a2
    by_cases a1 : 0 ≤ nxR c.w i k ∧ nxR c.w i k ≤ c.h - 1
    rotate_left
    · have a1b : (decide (0 ≤ nxR c.w i k) && decide (nxR c.w i k ≤ c.h - 1)) = false := by simpa using a1
      have hn : nxt c.w c.h i k = none := by unfold nxt nxIn; rw [a1b, Bool.false_and]; rfl
      simp [sf_cobleref01_Beside, chV, ed, et, es, hd, hm, h2, hw0, w1, w2, w5, w6, hk6, g0, g1, g2, pb, wC, a1b, a2b, hn, pf_pure, pureF]
    have a1b : (decide (0 ≤ nxR c.w i k) && decide (nxR c.w i k ≤ c.h - 1)) = true := by simpa using a1
    have hn : nxt c.w c.h i k = some (nxR c.w i k * c.w + nxC c.w i k) := by unfold nxt nxIn; rw [a2b, a1b]; rfl
    obtain ⟨x0, x1, _⟩ := nxt_some hw.1 hh.1 hn
    have x2 : 0 ≤ nxR c.w i k * c.w := Int.mul_nonneg a1.1 (by omega)
    have w7 : IntKind.i64.wrap (nxR c.w i k * c.w) = nxR c.w i k * c.w := wrap_i64 (by omega) (by omega)
    have w8 : IntKind.i64.wrap (nxR c.w i k * c.w + nxC c.w i k) = nxR c.w i k * c.w + nxC c.w i k := wrap_i64 (by omega) (by omega)
    simp [sf_cobleref01_Beside, chV, ed, et, es, hd, hm, h2, hw0, w1, w2, w5, w6, w7, w8, hk6, g0, g1, g2, pb, wC, a1b, a2b, hn, pf_pure, pureF]
theorem ints_set (l : List Int) (j : Nat) (x : Int) : (ints l).set j (.int .i64 x) = ints (l.set j x) := by simp [ints, List.map_set]
theorem ints_get (l : List Int) (j : Nat) (h : j < l.length) : (ints l)[j]? = some (.int .i64 (l.getD j 0)) := by simp [ints, h]
theorem minIfY (x y : Int) : (if y < x then y else x) = min x y := by rw [Int.min_def]; split <;> split <;> omega
def stD : SC := sf_cobleref01_Steps.body.loops.getD 3 .skip
theorem nxt_ne {w h i : Int} {k : Nat} (hw : 1 ≤ w) (hh : 1 ≤ h) (hk : k < 6) : nxt w h i k ≠ some i := by
  intro e
  obtain ⟨_, _, e1, e2, _⟩ := nxt_some hw hh e
  unfold nxR nxC at *
  generalize i / w = r at *
  generalize i % w = q at *
  match k, hk with
  | 0, _ | 1, _ | 2, _ | 3, _ | 4, _ | 5, _ =>
    simp [wayN, wayE, wayO, wayT] at *
    all_goals (try split at e2)
    all_goals omega
  | n + 6, h => omega
theorem relD_len (w h n : Int) (i : Nat) (l : List Int) (k : Nat) : (relD w h n i l k).length = l.length := by unfold relD; split <;> simp
theorem relD_keep {w h n : Int} {i : Nat} (l : List Int) {k : Nat} (hw : 1 ≤ w) (hh : 1 ≤ h) (hk : k < 6) : (relD w h n i l k).getD i 0 = l.getD i 0 := by
  unfold relD
  split
  · rename_i j hj
    obtain ⟨j0, _, _⟩ := nxt_some hw hh hj
    have : j.toNat ≠ i := fun e => nxt_ne hw hh hk (by rw [hj]; congr 1; omega)
    simp [List.getD_eq_getElem?_getD, List.getElem?_set, this]
  · rfl
theorem foldD {w h n : Int} {i : Nat} (hw : 1 ≤ w) (hh : 1 ≤ h) (l : List Int) : ∀ k, k ≤ 6 → ((List.range k).foldl (relD w h n i) l).length = l.length ∧ ((List.range k).foldl (relD w h n i) l).getD i 0 = l.getD i 0
  | 0, _ => ⟨rfl, rfl⟩
  | k + 1, hk => by
    have ih := foldD (n := n) (i := i) hw hh l k (by omega)
    rw [List.range_succ, List.foldl_append, List.foldl_cons, List.foldl_nil, relD_len, relD_keep _ hw hh (by omega)]
    exact ih
theorem st_d (c : Ch) (hok : ChOk c) (H : AH) (d t s : Value) (hc : ChIn H c d t s) (l : List Int) (hl : l.length = c.cells) {n i : Nat} (hn : n ≤ 1000) (hi : i < c.cells) (hln : l.getD i 0 = n) (S : St)
    (h2 : tget S.t 2 = .pointer (some ⟨2, 0, some 0⟩)) (h5 : tget S.t 5 = .slice (some ⟨H.length, 0, none⟩) c.cells c.cells) (h7 : tget S.t 7 = .int .i64 n) (h8 : tget S.t 8 = .int .i64 i) (h9 : tget S.t 9 = .int .i64 0) (hL : S.L = [(2, 0, .cells [.int .i64 c.w, .int .i64 c.h, d, t, s])]) (hH : S.H = H ++ [.rw 1 (ints l)]) (hlim : S.lim = H.length) :
    ∃ q, exL Tryz.prog pf (.loop stD) S = some q ∧ q.1 = .exit 6 ∧ q.2.H = H ++ [.rw 1 (ints ((List.range 6).foldl (relD c.w c.h n i) l))] ∧ q.2.L = S.L ∧ q.2.lim = S.lim ∧ tget q.2.t 1 = tget S.t 1 ∧ tget q.2.t 2 = tget S.t 2 ∧ tget q.2.t 5 = tget S.t 5 ∧ tget q.2.t 7 = tget S.t 7 ∧ tget q.2.t 8 = tget S.t 8 := by
  have hw := hok.1.1
  have hh := hok.2.1.1
  obtain ⟨m0, m1, m2⟩ := hok.mul
  refine loop_rule (I := fun m s' => ∃ k, k ≤ 6 ∧ m = 6 - k ∧ tget s'.t 1 = tget S.t 1 ∧ tget s'.t 2 = .pointer (some ⟨2, 0, some 0⟩) ∧ tget s'.t 5 = .slice (some ⟨H.length, 0, none⟩) c.cells c.cells ∧ tget s'.t 7 = .int .i64 n ∧ tget s'.t 8 = .int .i64 i ∧ tget s'.t 9 = .int .i64 k ∧ s'.L = S.L ∧ s'.lim = H.length ∧ s'.H = H ++ [.rw 1 (ints ((List.range k).foldl (relD c.w c.h n i) l))]) ?_ 6 S
    ⟨0, by omega, by omega, rfl, h2, h5, h7, h8, h9, rfl, hlim, hH⟩
  rintro m s' ⟨k, hk, rfl, e1, e2, e5, e7, e8, e9, eL, el, eH⟩
  obtain ⟨f1, f2⟩ := foldD (n := n) (i := i) hw hh l k hk
  have hsucc : (List.range (k + 1)).foldl (relD c.w c.h n i) l = relD c.w c.h n i ((List.range k).foldl (relD c.w c.h n i) l) k := by rw [List.range_succ, List.foldl_append, List.foldl_cons, List.foldl_nil]
  have hB := fun {k : Nat} (hk : k < 6) lim (l : AH) => run_Beside c hok lim (H ++ l) d t s (hc.ext (Ext.push H l)) hi hk
  obtain ⟨⟨da, dc, ed, _⟩, ⟨ta, tc, et, _⟩, ⟨sa, sc, es, _⟩, _, _, _⟩ := hc
  simp only [chV, ed, et, es] at hB hL
  rw [hL] at eL
  by_cases hlt : k < 6
  rotate_left
  · have : k = 6 := by omega
    subst this
    simp [stD, SC.loops, sf_cobleref01_Steps, e1, e2, e5, e7, e8, e9, eL, el, eH, h2, h5, h7, h8, hL, hlim]
  obtain ⟨l1, hl1⟩ : ∃ l1, l1 = (List.range k).foldl (relD c.w c.h n i) l := ⟨_, rfl⟩
  rw [← hl1] at eH f1 f2 hsucc
  have hll : l1.length = c.cells := by rw [f1, hl]
  have gi : (ints l1)[i]? = some (.int .i64 n) := by rw [ints_get _ _ (by omega), f2, hln]
  have hw1 : IntKind.i64.wrap ((k : Int) + 1) = (k : Int) + 1 := wrap_i64 (by omega) (by omega)
  have hwn : IntKind.i64.wrap ((n : Int) + 1) = (n : Int) + 1 := wrap_i64 (by omega) (by omega)
  have hk6 : (k : Int) < 6 := by omega
  have hB := fun lim => hB hlt lim [.rw 1 (ints l1)]
  cases hx : nxt c.w c.h i k with
  | none =>
    have hs : relD c.w c.h n i l1 k = l1 := by unfold relD; rw [hx]
    simp only [hx] at hB
    simp [stD, SC.loops, sf_cobleref01_Steps, e1, e2, e5, e7, e8, e9, eL, el, eH, h2, h5, h7, h8, hL, hlim, hi, hk6, gi, hB, hw1]
    exact ⟨_, by omega, k + 1, by omega, rfl, by omega, by rw [hsucc, hs]⟩
  | some j =>
    obtain ⟨j0, j1, _⟩ := nxt_some hw hh hx
    obtain ⟨j, rfl⟩ : ∃ k : Nat, j = k := ⟨j.toNat, by omega⟩
    have hj : j < c.cells := by rw [m2] at j1; exact Int.ofNat_lt.1 j1
    have gj : (ints l1)[j]? = some (.int .i64 (l1.getD j 0)) := ints_get _ _ (by omega)
    have hs : relD c.w c.h n i l1 k = l1.set j (min (l1.getD j 0) ((n : Int) + 1)) := by unfold relD; rw [hx]; rfl
    simp only [hx] at hB
    have hset : (ints l1).set j (.int .i64 (min (l1.getD j 0) ((n : Int) + 1))) = ints (l1.set j (min (l1.getD j 0) ((n : Int) + 1))) := ints_set _ _ _
    have hjl : j + 1 ≤ (ints l1).length := by rw [ints_length]; omega
    generalize l1.getD j 0 = X at *
    generalize ints l1 = cs at *
    have gj2 : ∀ h : j < cs.length, cs[j]'h = .int .i64 X := fun h => by rw [List.getElem?_eq_getElem h] at gj; exact Option.some.inj gj
    simp [stD, SC.loops, sf_cobleref01_Steps, e1, e2, e5, e7, e8, e9, eL, el, eH, h2, h5, h7, h8, hL, hlim, hi, hj, hk6, gi, gj, gj2, hB, hw1, hwn, minIfY, hjl, hset]
    exact ⟨_, by omega, k + 1, by omega, rfl, by omega, by rw [hsucc, hs]⟩
end Go.Proofs.YtmdnpaboaelkeaaGreatDoor
namespace Go.Proofs.YtmdnpaboaelkeaaGreatDoor
open Go Go.RowKit
theorem st_d0 (c : Ch) (H : AH) (d t s : Value) (l : List Int) (hl : l.length = c.cells) {n i : Nat} (hi : i < c.cells) (hln : l.getD i 0 ≠ n) (S : St)
    (h5 : tget S.t 5 = .slice (some ⟨H.length, 0, none⟩) c.cells c.cells) (h7 : tget S.t 7 = .int .i64 n) (h8 : tget S.t 8 = .int .i64 i) (h9 : tget S.t 9 = .int .i64 0) (hH : S.H = H ++ [.rw 1 (ints l)]) :
    ∃ q, exL Tryz.prog pf (.loop stD) S = some q ∧ q.1 = .exit 6 ∧ q.2.H = S.H ∧ q.2.L = S.L ∧ q.2.lim = S.lim ∧ tget q.2.t 1 = tget S.t 1 ∧ tget q.2.t 2 = tget S.t 2 ∧ tget q.2.t 5 = tget S.t 5 ∧ tget q.2.t 7 = tget S.t 7 ∧ tget q.2.t 8 = tget S.t 8 := by
  have gi : (ints l)[i]? = some (.int .i64 (l.getD i 0)) := ints_get _ _ (by omega)
  have hb : (l.getD i 0 == (n : Int)) = false := by simpa using hln
  generalize l.getD i 0 = X at *
  rw [exL_loop]
  simp [stD, SC.loops, sf_cobleref01_Steps, h5, h7, h8, h9, hH, hi, gi, hb]
def stI : SC := sf_cobleref01_Steps.body.loops.getD 2 .skip
theorem foldI {w h : Int} (n : Int) (hw : 1 ≤ w) (hh : 1 ≤ h) (l : List Int) : ∀ m : Nat, ((List.range m).foldl (relI w h n) l).length = l.length
  | 0 => rfl
  | m + 1 => by
    rw [List.range_succ, List.foldl_append, List.foldl_cons, List.foldl_nil]
    have ih := foldI n hw hh l m
    generalize (List.range m).foldl (relI w h n) l = l1 at *
    unfold relI
    split
    · rw [(foldD hw hh l1 6 (Nat.le_refl _)).1, ih]
    · exact ih
theorem st_i (c : Ch) (hok : ChOk c) (H : AH) (d t s : Value) (hc : ChIn H c d t s) (l : List Int) (hl : l.length = c.cells) {n : Nat} (hn : n ≤ 1000) (S : St)
    (h2 : tget S.t 2 = .pointer (some ⟨2, 0, some 0⟩)) (h5 : tget S.t 5 = .slice (some ⟨H.length, 0, none⟩) c.cells c.cells) (h7 : tget S.t 7 = .int .i64 n) (h8 : tget S.t 8 = .int .i64 0) (hL : S.L = [(2, 0, .cells [.int .i64 c.w, .int .i64 c.h, d, t, s])]) (hH : S.H = H ++ [.rw 1 (ints l)]) (hlim : S.lim = H.length) :
    ∃ q, exL Tryz.prog pf (.loop stI) S = some q ∧ q.1 = .exit 4 ∧ q.2.H = H ++ [.rw 1 (ints (relN c.w c.h c.cells l n))] ∧ q.2.L = S.L ∧ q.2.lim = S.lim ∧ tget q.2.t 1 = tget S.t 1 ∧ tget q.2.t 2 = tget S.t 2 ∧ tget q.2.t 5 = tget S.t 5 ∧ tget q.2.t 7 = tget S.t 7 := by
  have hw := hok.1.1
  have hh := hok.2.1.1
  obtain ⟨m0, m1, m2⟩ := hok.mul
  refine loop_rule (I := fun m s' => ∃ i, i ≤ c.cells ∧ m = c.cells - i ∧ tget s'.t 1 = tget S.t 1 ∧ tget s'.t 2 = .pointer (some ⟨2, 0, some 0⟩) ∧ tget s'.t 5 = .slice (some ⟨H.length, 0, none⟩) c.cells c.cells ∧ tget s'.t 7 = .int .i64 n ∧ tget s'.t 8 = .int .i64 i ∧ s'.L = S.L ∧ s'.lim = H.length ∧ s'.H = H ++ [.rw 1 (ints ((List.range i).foldl (relI c.w c.h n) l))]) ?_ c.cells S
    ⟨0, by omega, by omega, rfl, h2, h5, h7, h8, rfl, hlim, hH⟩
  rintro m s' ⟨i, hi, rfl, e1, e2, e5, e7, e8, eL, el, eH⟩
  by_cases hlt : i < c.cells
  rotate_left
  · have : i = c.cells := by omega
    subst this
    simp [stI, SC.loops, sf_cobleref01_Steps, e1, e2, e5, e7, e8, eL, el, eH, h2, h5, h7, hlim, relN]
  have hsucc : (List.range (i + 1)).foldl (relI c.w c.h n) l = relI c.w c.h n ((List.range i).foldl (relI c.w c.h n) l) i := by rw [List.range_succ, List.foldl_append, List.foldl_cons, List.foldl_nil]
  have hlen := foldI (n : Int) hw hh l i
  obtain ⟨l1, hl1⟩ : ∃ l1, l1 = (List.range i).foldl (relI c.w c.h n) l := ⟨_, rfl⟩
  rw [← hl1] at eH hsucc hlen
  have hll : l1.length = c.cells := by rw [hlen, hl]
  have hw1 : IntKind.i64.wrap ((i : Int) + 1) = (i : Int) + 1 := wrap_i64 (by omega) (by omega)
  simp [stI, SC.loops, sf_cobleref01_Steps, e1, e2, e5, e7, e8, eL, el, eH, h2, h5, h7, hlt, hlim]
  generalize hS : ({ t := _, L := _, H := _, lim := _, rd := _ } : St) = S2
  have key : ∃ q, exL Tryz.prog pf (.loop stD) S2 = some q ∧ q.1 = .exit 6 ∧ q.2.H = H ++ [.rw 1 (ints (relI c.w c.h n l1 i))] ∧ q.2.L = S2.L ∧ q.2.lim = S2.lim ∧ tget q.2.t 1 = tget S2.t 1 ∧ tget q.2.t 2 = tget S2.t 2 ∧ tget q.2.t 5 = tget S2.t 5 ∧ tget q.2.t 7 = tget S2.t 7 ∧ tget q.2.t 8 = tget S2.t 8 := by
    by_cases hx : l1.getD i 0 = n
    · have := st_d c hok H d t s hc l1 hll hn hlt hx S2 (by subst hS; simp [e2]) (by subst hS; simp [e5]) (by subst hS; simp [e7]) (by subst hS; simp [e8]) (by subst hS; simp) (by subst hS; simp [hL]) (by subst hS; rfl) (by subst hS; rfl)
      unfold relI
      rw [if_pos hx]
      exact this
    · have := st_d0 c H d t s l1 hll hlt hx S2 (by subst hS; simp [e5]) (by subst hS; simp [e7]) (by subst hS; simp [e8]) (by subst hS; simp) (by subst hS; rfl)
      unfold relI
      rw [if_neg hx]
      obtain ⟨q, z1, z2, z3, z4⟩ := this
      exact ⟨q, z1, z2, by rw [z3]; subst hS; rfl, z4⟩
  obtain ⟨⟨e, s1⟩, hr, q1, qH, qL, ql, k1, k2, k5, k7, k8⟩ := key
  simp [stD, SC.loops, sf_cobleref01_Steps] at hr
  rw [hr]
  simp only at q1 qH qL ql k1 k2 k5 k7 k8
  subst q1
  have j1 : tget s1.t 1 = tget S.t 1 := by rw [k1]; subst hS; simp [e1]
  have j2 : tget s1.t 2 = .pointer (some ⟨2, 0, some 0⟩) := by rw [k2]; subst hS; simp [e2]
  have j5 : tget s1.t 5 = .slice (some ⟨H.length, 0, none⟩) c.cells c.cells := by rw [k5]; subst hS; simp [e5]
  have j7 : tget s1.t 7 = .int .i64 n := by rw [k7]; subst hS; simp [e7]
  have j8 : tget s1.t 8 = .int .i64 i := by rw [k8]; subst hS; simp [e8]
  have jL : s1.L = S.L := by rw [qL]; subst hS; rfl
  have jl : s1.lim = H.length := by rw [ql]; subst hS; rfl
  simp [and_assoc, j1, j2, j5, j7, j8, jL, jl, qH, hw1]
  exact ⟨_, by omega, i + 1, by omega, rfl, by omega, by rw [hsucc]⟩
def stN : SC := sf_cobleref01_Steps.body.loops.getD 1 .skip
theorem relN_len {w h : Int} (N : Nat) (hw : 1 ≤ w) (hh : 1 ≤ h) (l : List Int) : ∀ m : Nat, ((List.range m).foldl (relN w h N) l).length = l.length
  | 0 => rfl
  | m + 1 => by
    rw [List.range_succ, List.foldl_append, List.foldl_cons, List.foldl_nil]
    unfold relN
    rw [foldI _ hw hh]
    exact relN_len N hw hh l m
theorem st_n (c : Ch) (hok : ChOk c) (H : AH) (d t s : Value) (hc : ChIn H c d t s) (l : List Int) (hl : l.length = c.cells) (S : St)
    (h2 : tget S.t 2 = .pointer (some ⟨2, 0, some 0⟩)) (h5 : tget S.t 5 = .slice (some ⟨H.length, 0, none⟩) c.cells c.cells) (h7 : tget S.t 7 = .int .i64 0) (hL : S.L = [(2, 0, .cells [.int .i64 c.w, .int .i64 c.h, d, t, s])]) (hH : S.H = H ++ [.rw 1 (ints l)]) (hlim : S.lim = H.length) :
    ∃ q, exL Tryz.prog pf (.loop stN) S = some q ∧ q.1 = .exit 2 ∧ q.2.H = H ++ [.rw 1 (ints ((List.range c.cells).foldl (relN c.w c.h c.cells) l))] ∧ tget q.2.t 5 = tget S.t 5 := by
  have hw := hok.1.1
  have hh := hok.2.1.1
  obtain ⟨m0, m1, m2⟩ := hok.mul
  refine loop_rule (I := fun m s' => ∃ n, n ≤ c.cells ∧ m = c.cells - n ∧ tget s'.t 2 = .pointer (some ⟨2, 0, some 0⟩) ∧ tget s'.t 5 = .slice (some ⟨H.length, 0, none⟩) c.cells c.cells ∧ tget s'.t 7 = .int .i64 n ∧ s'.L = S.L ∧ s'.lim = H.length ∧ s'.H = H ++ [.rw 1 (ints ((List.range n).foldl (relN c.w c.h c.cells) l))]) ?_ c.cells S
    ⟨0, by omega, by omega, h2, h5, h7, rfl, hlim, hH⟩
  rintro m s' ⟨n, hn, rfl, e2, e5, e7, eL, el, eH⟩
  by_cases hlt : n < c.cells
  rotate_left
  · have : n = c.cells := by omega
    subst this
    simp [stN, SC.loops, sf_cobleref01_Steps, e2, e5, e7, eL, el, eH, h2, h5, h7, hlim]
  have hsucc : (List.range (n + 1)).foldl (relN c.w c.h c.cells) l = relN c.w c.h c.cells ((List.range n).foldl (relN c.w c.h c.cells) l) n := by rw [List.range_succ, List.foldl_append, List.foldl_cons, List.foldl_nil]
  have hlen := relN_len c.cells hw hh l n
  obtain ⟨l1, hl1⟩ : ∃ l1, l1 = (List.range n).foldl (relN c.w c.h c.cells) l := ⟨_, rfl⟩
  rw [← hl1] at eH hsucc hlen
  have hll : l1.length = c.cells := by rw [hlen, hl]
  have hw1 : IntKind.i64.wrap ((n : Int) + 1) = (n : Int) + 1 := wrap_i64 (by omega) (by omega)
  simp [stN, SC.loops, sf_cobleref01_Steps, e2, e5, e7, eL, el, eH, h2, h5, h7, hlt, hlim]
  generalize hS : ({ t := _, L := _, H := _, lim := _, rd := _ } : St) = S2
  obtain ⟨⟨e, s1⟩, hr, q1, qH, qL, ql, k1, k2, k5, k7⟩ := st_i c hok H d t s hc l1 hll (n := n) (by omega) S2 (by subst hS; simp [e2]) (by subst hS; simp [e5]) (by subst hS; simp [e7]) (by subst hS; simp) (by subst hS; simp [hL]) (by subst hS; rfl) (by subst hS; rfl)
  simp [stI, SC.loops, sf_cobleref01_Steps] at hr
  rw [hr]
  simp only at q1 qH qL ql k1 k2 k5 k7
  subst q1
  have j2 : tget s1.t 2 = .pointer (some ⟨2, 0, some 0⟩) := by rw [k2]; subst hS; simp [e2]
  have j5 : tget s1.t 5 = .slice (some ⟨H.length, 0, none⟩) c.cells c.cells := by rw [k5]; subst hS; simp [e5]
  have j7 : tget s1.t 7 = .int .i64 n := by rw [k7]; subst hS; simp [e7]
  have jL : s1.L = S.L := by rw [qL]; subst hS; rfl
  have jl : s1.lim = H.length := by rw [ql]; subst hS; rfl
  simp [and_assoc, j2, j5, j7, jL, jl, qH, hw1]
  exact ⟨_, by omega, n + 1, by omega, rfl, by omega, by rw [hsucc]⟩
def stF : SC := sf_cobleref01_Steps.body.loops.getD 0 .skip
def fillT (N i : Nat) : List Int := List.replicate i (N : Int) ++ List.replicate (N - i) 0
theorem rep_cons (i : Nat) (x : Int) (r : List Int) : List.replicate i x ++ x :: r = x :: (List.replicate i x ++ r) := by
  induction i with
  | zero => rfl
  | succ i ih => rw [List.replicate_succ, List.cons_append, ih, List.cons_append]
theorem fillT_set {N i : Nat} (h : i < N) : (fillT N i).set i (N : Int) = fillT N (i + 1) := by
  unfold fillT
  obtain ⟨m, hm⟩ : ∃ m, N - i = m + 1 := ⟨N - i - 1, by omega⟩
  rw [hm, show N - (i + 1) = m by omega, List.set_append_right _ _ (by simp)]
  simp [List.replicate_succ]
  exact rep_cons i _ _
theorem st_f (c : Ch) (hok : ChOk c) (H : AH) (S : St)
    (h5 : tget S.t 5 = .slice (some ⟨H.length, 0, none⟩) c.cells c.cells) (h6 : tget S.t 6 = .int .i64 0) (hH : S.H = H ++ [.rw 1 (ints (fillT c.cells 0))]) (hlim : S.lim = H.length) :
    ∃ q, exL Tryz.prog pf (.loop stF) S = some q ∧ q.1 = .exit 0 ∧ q.2.H = H ++ [.rw 1 (ints (fillT c.cells c.cells))] ∧ q.2.L = S.L ∧ q.2.lim = S.lim ∧ tget q.2.t 1 = tget S.t 1 ∧ tget q.2.t 2 = tget S.t 2 ∧ tget q.2.t 5 = tget S.t 5 := by
  obtain ⟨m0, m1, m2⟩ := hok.mul
  refine loop_rule (I := fun m s' => ∃ i, i ≤ c.cells ∧ m = c.cells - i ∧ tget s'.t 1 = tget S.t 1 ∧ tget s'.t 2 = tget S.t 2 ∧ tget s'.t 5 = .slice (some ⟨H.length, 0, none⟩) c.cells c.cells ∧ tget s'.t 6 = .int .i64 i ∧ s'.L = S.L ∧ s'.lim = H.length ∧ s'.H = H ++ [.rw 1 (ints (fillT c.cells i))]) ?_ c.cells S
    ⟨0, by omega, by omega, rfl, rfl, h5, h6, rfl, hlim, hH⟩
  rintro m s' ⟨i, hi, rfl, e1, e2, e5, e6, eL, el, eH⟩
  by_cases hlt : i < c.cells
  rotate_left
  · have : i = c.cells := by omega
    subst this
    simp [stF, SC.loops, sf_cobleref01_Steps, e1, e2, e5, e6, eL, el, eH, h5, hlim]
  have hw1 : IntKind.i64.wrap ((i : Int) + 1) = (i : Int) + 1 := wrap_i64 (by omega) (by omega)
  have hfl : i + 1 ≤ (fillT c.cells i).length := by simp [fillT]; omega
  have hset := fillT_set hlt
  obtain ⟨l1, hl1⟩ : ∃ l1, l1 = fillT c.cells i := ⟨_, rfl⟩
  rw [← hl1] at eH hfl hset
  simp [stF, SC.loops, sf_cobleref01_Steps, e1, e2, e5, e6, eL, el, eH, h5, hlim, hlt, hw1, ints_length, hfl, ints_set]
  exact ⟨_, by omega, i + 1, by omega, rfl, by omega, by rw [hset]⟩
theorem zeros_ints : ∀ n : Nat, zeros [.int .i64 0] n = ints (List.replicate n 0)
  | 0 => rfl
  | n + 1 => by simp only [zeros, zeros_ints n, List.replicate_succ, ints, List.map_cons]; rfl
def stepsL (c : Ch) (a : Nat) : List Int := (List.range c.cells).foldl (relN c.w c.h c.cells) ((List.replicate c.cells (c.cells : Int)).set a 0)
theorem run_Steps (c : Ch) (hok : ChOk c) (lim : Nat) (H : AH) (d t s : Value) (hc : ChIn H c d t s) {a : Nat} (ha : a < c.cells) :
    apL Tryz.prog pf (.func (.func 94) #[] #[]) [chV c d t s, .int .i64 a] lim H = some (.slice (some ⟨H.length, 0, none⟩) c.cells c.cells, H ++ [.rw 1 (ints (stepsL c a))]) := by
  rw [apL_func _ _ _ _ _ _ (by rfl), sf_cobleref01_Steps_eq]
  obtain ⟨m0, m1, m2⟩ := hok.mul
  have hC := fun lim => run_CellsCh c lim H d t s
  have hwm : IntKind.i64.wrap (c.w * c.h) = (c.cells : Int) := by rw [m2]; exact wrap_i64 (by omega) (by omega)
  have hmx : c.cells ≤ maxA := Nat.le_trans (show c.cells ≤ 144 by omega) (by decide)
  have hc' := hc
  obtain ⟨⟨da, dc, ed, _⟩, ⟨ta, tc, et, _⟩, ⟨sa, sc, es, _⟩, _, _, _⟩ := hc'
  simp only [chV, ed, et, es, hwm] at hC
  simp [sf_cobleref01_Steps, chV, ed, et, es, hC, hmx, zeros_ints, pf_pure, pureF]
  generalize hS : ({ t := _, L := _, H := _, lim := _, rd := _ } : St) = S
  obtain ⟨⟨e, s1⟩, hr, q1, qH, qL, ql, k1, k2, k5⟩ := st_f c hok H S (by subst hS; simp) (by subst hS; simp) (by subst hS; simp [fillT]) (by subst hS; rfl)
  simp [stF, SC.loops, sf_cobleref01_Steps] at hr
  rw [hr]
  simp only at q1 qH qL ql k1 k2 k5
  subst q1
  have j1 : tget s1.t 1 = .int .i64 a := by rw [k1]; subst hS; simp
  have j2 : tget s1.t 2 = .pointer (some ⟨2, 0, some 0⟩) := by rw [k2]; subst hS; simp
  have j5 : tget s1.t 5 = .slice (some ⟨H.length, 0, none⟩) c.cells c.cells := by rw [k5]; subst hS; simp
  have jL : s1.L = [(2, 0, .cells [.int .i64 c.w, .int .i64 c.h, d, t, s])] := by rw [qL]; subst hS; simp [ed, et, es]
  have jl : s1.lim = H.length := by rw [ql]; subst hS; rfl
  have hf : fillT c.cells c.cells = List.replicate c.cells (c.cells : Int) := by simp [fillT]
  rw [hf] at qH
  have hal : a + 1 ≤ (List.replicate c.cells (c.cells : Int)).length := by simp; omega
  obtain ⟨l0, hl0⟩ : ∃ l0, l0 = List.replicate c.cells (c.cells : Int) := ⟨_, rfl⟩
  rw [← hl0] at qH hal
  simp [j1, j2, j5, jL, jl, qH, ha, ints_length, hal, ints_set]
  generalize hS2 : ({ t := _, L := _, H := _, lim := _, rd := _ } : St) = S2
  obtain ⟨⟨e, s2⟩, hr2, y1, yH, y5⟩ := st_n c hok H d t s hc (l0.set a 0) (by rw [List.length_set, hl0]; simp) S2 (by subst hS2; simp [j2]) (by subst hS2; simp [j5]) (by subst hS2; simp) (by subst hS2; simp [ed, et, es]) (by subst hS2; rfl) (by subst hS2; rfl)
  simp [stN, SC.loops, sf_cobleref01_Steps] at hr2
  rw [hr2]
  simp only at y1 yH y5
  subst y1
  have z5 : tget s2.t 5 = .slice (some ⟨H.length, 0, none⟩) c.cells c.cells := by rw [y5]; subst hS2; simp [j5]
  simp [z5, yH, pf_pure, pureF, stepsL, hl0]
end Go.Proofs.YtmdnpaboaelkeaaGreatDoor
namespace Go.Proofs.YtmdnpaboaelkeaaGreatDoor
open Go Go.RowKit
def cenX (w i : Int) : Int := 2 * (i % w) + i / w % 2
def cenY (w i : Int) : Int := 2 * (i / w)
theorem cen_bound {c : Ch} (hok : ChOk c) {i : Nat} (hi : i < c.cells) : (0 ≤ (i : Int) % c.w ∧ (i : Int) % c.w ≤ 11) ∧ (0 ≤ (i : Int) / c.w ∧ (i : Int) / c.w ≤ 11) ∧ (0 ≤ cenX c.w i ∧ cenX c.w i ≤ 23) ∧ (0 ≤ cenY c.w i ∧ cenY c.w i ≤ 22) := by
  obtain ⟨m0, m1, m2⟩ := hok.mul
  obtain ⟨hw, hh, _⟩ := hok
  obtain ⟨⟨r0, r1⟩, ⟨q0, q1⟩, hiq⟩ := rowcol (h := c.h) hw.1 (Int.natCast_nonneg i) (by rw [m2]; exact Int.ofNat_lt.2 hi)
  unfold cenX cenY
  refine ⟨⟨q0, by omega⟩, ⟨r0, by omega⟩, ?_, ?_⟩ <;> omega
theorem run_centre (c : Ch) (hok : ChOk c) (lim : Nat) (H : AH) (d t s : Value) (hc : ChIn H c d t s) {i : Nat} (hi : i < c.cells) :
    apL Tryz.prog pf (.func (.func 134) #[] #[]) [chV c d t s, .int .i64 i] lim H = some (.tuple #[.int .i64 (cenX c.w i), .int .i64 (cenY c.w i)], H) := by
  rw [apL_func _ _ _ _ _ _ (by rfl), sf_cobleref03_centre_eq]
  obtain ⟨r0, q0, x0, y0⟩ := cen_bound hok hi
  have hw0 : c.w ≠ 0 := by have := hok.1; omega
  have hd : (i : Int).tdiv c.w = (i : Int) / c.w := Int.tdiv_eq_ediv_of_nonneg (Int.natCast_nonneg i)
  have hm : (i : Int).tmod c.w = (i : Int) % c.w := Int.tmod_eq_emod_of_nonneg (Int.natCast_nonneg i)
  have w1 : IntKind.i64.wrap ((i : Int) / c.w) = (i : Int) / c.w := wrap_i64 (by omega) (by omega)
  have w2 : IntKind.i64.wrap (2 * ((i : Int) % c.w)) = 2 * ((i : Int) % c.w) := wrap_i64 (by omega) (by omega)
  have h2 : ((i : Int) / c.w).tmod 2 = (i : Int) / c.w % 2 := Int.tmod_eq_emod_of_nonneg q0.1
  have w3 : IntKind.i64.wrap (2 * ((i : Int) % c.w) + (i : Int) / c.w % 2) = cenX c.w i := wrap_i64 (by unfold cenX at x0; omega) (by unfold cenX at x0; omega)
  have w4 : IntKind.i64.wrap (2 * ((i : Int) / c.w)) = cenY c.w i := wrap_i64 (by omega) (by omega)
  obtain ⟨⟨da, dc, ed, _⟩, ⟨ta, tc, et, _⟩, ⟨sa, sc, es, _⟩, _, _, _⟩ := hc
  simp [sf_cobleref03_centre, chV, ed, et, es, hw0, hd, hm, w1, w2, h2, w3, w4, pf_pure, pureF]
def seenM (w : Int) (r : Rep) (i : Int) : Bool :=
  let u := cenX w i - cenX w r.cell
  let v := cenY w i - cenY w r.cell
  if i = r.cell then false else
  if 0 < turnN r then decide (0 ≤ r.a * v - r.b * u) && decide (0 ≤ u * r.d - v * r.c)
  else decide (r.a * v - r.b * u = 0) && decide (0 < r.a * u + r.b * v)
def holdsM (w : Int) (r : Rep) (i : Int) : Bool :=
  if r.kind = 1 then decide (r.a ≤ apt w r.cell i) && decide (apt w r.cell i ≤ r.b)
  else if r.kind = 2 then seenM w r i
  else if r.kind = 3 then (decide (r.a ≤ i / w) && decide (i / w ≤ r.b)) && (decide (r.c ≤ i % w) && decide (i % w ≤ r.d))
  else decide (r.a < apt w r.cell i)
structure BeamB (r : Rep) : Prop where
  a : -200 ≤ r.a ∧ r.a ≤ 200
  b : -200 ≤ r.b ∧ r.b ≤ 200
  c : -200 ≤ r.c ∧ r.c ≤ 200
  d : -200 ≤ r.d ∧ r.d ≤ 200
theorem beamB {r : Rep} (h : beamOk r = true) : BeamB r := by
  unfold beamOk near200 at h
  simp only [Bool.and_eq_true, decide_eq_true_eq] at h
  exact ⟨h.1.1.1.1, h.1.1.1.2, h.1.1.2, h.1.2⟩
set_option maxHeartbeats 1000000 in
theorem run_seen (c : Ch) (hok : ChOk c) (lim : Nat) (H : AH) (d t s : Value) (hc : ChIn H c d t s) (q : Rep) (hb : BeamB q) {k : Nat} (hq : q.cell = k) (hk : k < c.cells) {i : Nat} (hi : i < c.cells) :
    apL Tryz.prog pf (.func (.func 109) #[] #[]) [chV c d t s, repV q, .int .i64 i] lim H = some (.bool (seenM c.w q i), H) := by
  rw [apL_func _ _ _ _ _ _ (by rfl), sf_cobleref03_seen_eq]
  obtain ⟨_, _, x0, y0⟩ := cen_bound hok hi
  obtain ⟨_, _, x1, y1⟩ := cen_bound hok hk
  have c1 := fun lim => run_centre c hok lim H d t s hc hi
  have c2 := fun lim => run_centre c hok lim H d t s hc hk
  obtain ⟨ha, hbb, hcc, hd⟩ := hb
  obtain ⟨⟨da, dc, ed, _⟩, ⟨ta, tc, et, _⟩, ⟨sa, sc, es, _⟩, _, _, _⟩ := hc
  simp only [chV, repV, ed, et, es, hq] at c1 c2 ⊢
  have hs : seenM c.w q i = (if (i : Int) = k then false else if 0 < turnN q then decide (0 ≤ q.a * (cenY c.w i - cenY c.w k) - q.b * (cenX c.w i - cenX c.w k)) && decide (0 ≤ (cenX c.w i - cenX c.w k) * q.d - (cenY c.w i - cenY c.w k) * q.c) else decide (q.a * (cenY c.w i - cenY c.w k) - q.b * (cenX c.w i - cenX c.w k) = 0) && decide (0 < q.a * (cenX c.w i - cenX c.w k) + q.b * (cenY c.w i - cenY c.w k))) := by
    unfold seenM; simp only [hq]
  rw [hs]
  generalize cenX c.w i = X at *
  generalize cenY c.w i = Y at *
  generalize cenX c.w k = X1 at *
  generalize cenY c.w k = Y1 at *
  obtain ⟨u, eu⟩ : ∃ u, u = X - X1 := ⟨_, rfl⟩
  obtain ⟨v, ev⟩ : ∃ v, v = Y - Y1 := ⟨_, rfl⟩
  have w1 : IntKind.i64.wrap (X - X1) = u := by rw [wrap_i64 (by omega) (by omega), eu]
  have w2 : IntKind.i64.wrap (Y - Y1) = v := by rw [wrap_i64 (by omega) (by omega), ev]
  have hu : -4000 ≤ u ∧ u ≤ 4000 := by omega
  have hv : -4000 ≤ v ∧ v ≤ 4000 := by omega
  simp only [← eu, ← ev]
  have t1 := fun lim H => run_Turn q.a q.b q.c q.d (by omega) (by omega) (by omega) (by omega) lim H
  have t2 := fun lim H => run_Turn q.a q.b u v (by omega) (by omega) hu hv lim H
  have t3 := fun lim H => run_Turn u v q.c q.d hu hv (by omega) (by omega) lim H
  change ∀ lim H, apL _ _ _ _ _ _ = some (.int .i64 (turnN q), H) at t1
  have m1 := mul_le4 (x := q.a) (y := u) (by omega) hu
  have m2 := mul_le4 (x := q.b) (y := v) (by omega) hv
  have w3 : IntKind.i64.wrap (q.a * u) = q.a * u := wrap_i64 (by omega) (by omega)
  have w4 : IntKind.i64.wrap (q.b * v) = q.b * v := wrap_i64 (by omega) (by omega)
  have w5 : IntKind.i64.wrap (q.a * u + q.b * v) = q.a * u + q.b * v := wrap_i64 (by omega) (by omega)
  by_cases e : i = k
  · have e' : (i : Int) = k := by omega
    subst e
    simp [sf_cobleref03_seen, c1, w1, w2, pf_pure, pureF]
  have e' : ((i : Int) == (k : Int)) = false := by simp; omega
  have e3 : ¬ (i : Int) = (k : Int) := by omega
  by_cases k1 : 0 < turnN q
  · cases k2 : decide (0 ≤ q.a * v - q.b * u) <;> simp [-Int.sub_nonneg, sf_cobleref03_seen, c1, c2, w1, w2, e3, e', t1, t2, t3, k1, k2, pf_pure, pureF]
  · by_cases k2 : q.a * v - q.b * u = 0
    · have k2' : (q.a * v - q.b * u == 0) = true := by rw [k2]; rfl
      simp [-Int.sub_nonneg, sf_cobleref03_seen, c1, c2, w1, w2, w3, w4, w5, e3, e', t1, t2, t3, k1, k2, k2', pf_pure, pureF]
    · have k2' : (q.a * v - q.b * u == 0) = false := by rw [beq_eq_false_iff_ne]; exact k2
      simp [-Int.sub_nonneg, sf_cobleref03_seen, c1, c2, w1, w2, w3, w4, w5, e3, e', t1, t2, t3, k1, k2, k2', pf_pure, pureF]
theorem run_srCentre (x : Ds) (hok : ChOk x.ch) (lim : Nat) (H : AH) (d t s r a b e : Value) (h : DsIn H x d t s r) (ha : OneS a) (hb : OneS b) (he : OneS e) {i : Nat} (hi : i < x.ch.cells) :
    apL Tryz.prog pf (.func (.func 154) #[] #[]) [srV x d t s r a b e, .int .i64 i] lim H = some (arV (cenX x.ch.w i) (cenY x.ch.w i), H) := by
  rw [apL_func _ _ _ _ _ _ (by rfl), sf_fixes_search_centre_eq]
  obtain ⟨r0, q0, x0, y0⟩ := cen_bound hok hi
  have hw0 : x.ch.w ≠ 0 := by have := hok.1; omega
  have hd : (i : Int).tdiv x.ch.w = (i : Int) / x.ch.w := Int.tdiv_eq_ediv_of_nonneg (Int.natCast_nonneg i)
  have hm : (i : Int).tmod x.ch.w = (i : Int) % x.ch.w := Int.tmod_eq_emod_of_nonneg (Int.natCast_nonneg i)
  have w1 : IntKind.i64.wrap ((i : Int) / x.ch.w) = (i : Int) / x.ch.w := wrap_i64 (by omega) (by omega)
  have w2 : IntKind.i64.wrap (2 * ((i : Int) % x.ch.w)) = 2 * ((i : Int) % x.ch.w) := wrap_i64 (by omega) (by omega)
  have h2 : ((i : Int) / x.ch.w).tmod 2 = (i : Int) / x.ch.w % 2 := Int.tmod_eq_emod_of_nonneg q0.1
  have w3 : IntKind.i64.wrap (2 * ((i : Int) % x.ch.w) + (i : Int) / x.ch.w % 2) = cenX x.ch.w i := wrap_i64 (by unfold cenX at x0; omega) (by unfold cenX at x0; omega)
  have w4 : IntKind.i64.wrap (2 * ((i : Int) / x.ch.w)) = cenY x.ch.w i := wrap_i64 (by omega) (by omega)
  obtain ⟨⟨⟨da, dc, ed, _⟩, ⟨ta, tc, et, _⟩, ⟨sa, sc, es, _⟩, _, htl, _⟩, ⟨ra, rc, er, _⟩, _⟩ := h
  obtain ⟨a1, a2, a3, ea⟩ := ha
  obtain ⟨b1, b2, b3, eb⟩ := hb
  obtain ⟨e1, e2, e3, ee⟩ := he
  simp [sf_fixes_search_centre, srV, arV, ed, et, es, er, ea, eb, ee, hw0, hd, hm, w1, w2, h2, w3, w4, pf_pure, pureF]
theorem run_srArrow (x : Ds) (hok : ChOk x.ch) (lim : Nat) (H : AH) (d t s r a b e : Value) (h : DsIn H x d t s r) (ha : OneS a) (hb : OneS b) (he : OneS e) {i k : Nat} (hi : i < x.ch.cells) (hk : k < x.ch.cells) :
    apL Tryz.prog pf (.func (.func 150) #[] #[]) [srV x d t s r a b e, .int .i64 k, .int .i64 i] lim H = some (arV (cenX x.ch.w i - cenX x.ch.w k) (cenY x.ch.w i - cenY x.ch.w k), H) := by
  rw [apL_func _ _ _ _ _ _ (by rfl), sf_fixes_search_arrow_eq]
  obtain ⟨_, _, x0, y0⟩ := cen_bound hok hi
  obtain ⟨_, _, x1, y1⟩ := cen_bound hok hk
  have c1 := fun lim => run_srCentre x hok lim H d t s r a b e h ha hb he hi
  have c2 := fun lim => run_srCentre x hok lim H d t s r a b e h ha hb he hk
  have w1 : IntKind.i64.wrap (cenX x.ch.w i - cenX x.ch.w k) = cenX x.ch.w i - cenX x.ch.w k := wrap_i64 (by omega) (by omega)
  have w2 : IntKind.i64.wrap (cenY x.ch.w i - cenY x.ch.w k) = cenY x.ch.w i - cenY x.ch.w k := wrap_i64 (by omega) (by omega)
  obtain ⟨⟨⟨da, dc, ed, _⟩, ⟨ta, tc, et, _⟩, ⟨sa, sc, es, _⟩, _, htl, _⟩, ⟨ra, rc, er, _⟩, _⟩ := h
  obtain ⟨a1, a2, a3, ea⟩ := ha
  obtain ⟨b1, b2, b3, eb⟩ := hb
  obtain ⟨e1, e2, e3, ee⟩ := he
  simp only [srV, arV, ed, et, es, er, ea, eb, ee] at c1 c2 ⊢
  simp [-Array.all_toList, sf_fixes_search_arrow, c1, c2, w1, w2, pf_pure, pureF]
set_option maxHeartbeats 1000000 in
theorem run_isInBeam (x : Ds) (hok : ChOk x.ch) (lim : Nat) (H : AH) (d t s r a b e : Value) (h : DsIn H x d t s r) (ha : OneS a) (hb : OneS b) (he : OneS e) (q : Rep) (hbm : BeamB q) {k : Nat} (hq : q.cell = k) (hk : k < x.ch.cells) {i : Nat} (hi : i < x.ch.cells) :
    apL Tryz.prog pf (.func (.func 138) #[] #[]) [srV x d t s r a b e, repV q, .int .i64 i] lim H = some (.bool (seenM x.ch.w q i), H) := by
  rw [apL_func _ _ _ _ _ _ (by rfl), sf_fixes_search_isInBeam_eq]
  obtain ⟨_, _, x0, y0⟩ := cen_bound hok hi
  obtain ⟨_, _, x1, y1⟩ := cen_bound hok hk
  have c1 := fun lim => run_srArrow x hok lim H d t s r a b e h ha hb he hi hk
  have hed := fun lim H => run_edges q lim H
  obtain ⟨ha', hbb, hcc, hd⟩ := hbm
  obtain ⟨⟨⟨da, dc, ed, _⟩, ⟨ta, tc, et, _⟩, ⟨sa, sc, es, _⟩, _, htl, _⟩, ⟨ra, rc, er, _⟩, _⟩ := h
  obtain ⟨a1, a2, a3, ea⟩ := ha
  obtain ⟨b1, b2, b3, eb⟩ := hb
  obtain ⟨e1, e2, e4, ee⟩ := he
  simp only [srV, repV, arV, ed, et, es, er, ea, eb, ee, hq] at c1 hed ⊢
  have hs : seenM x.ch.w q i = (if (i : Int) = k then false else if 0 < turnN q then decide (0 ≤ q.a * (cenY x.ch.w i - cenY x.ch.w k) - q.b * (cenX x.ch.w i - cenX x.ch.w k)) && decide (0 ≤ (cenX x.ch.w i - cenX x.ch.w k) * q.d - (cenY x.ch.w i - cenY x.ch.w k) * q.c) else decide (q.a * (cenY x.ch.w i - cenY x.ch.w k) - q.b * (cenX x.ch.w i - cenX x.ch.w k) = 0) && decide (0 < q.a * (cenX x.ch.w i - cenX x.ch.w k) + q.b * (cenY x.ch.w i - cenY x.ch.w k))) := by
    unfold seenM; simp only [hq]
  rw [hs]
  generalize cenX x.ch.w i = X at *
  generalize cenY x.ch.w i = Y at *
  generalize cenX x.ch.w k = X1 at *
  generalize cenY x.ch.w k = Y1 at *
  have hu : -4000 ≤ X - X1 ∧ X - X1 ≤ 4000 := by omega
  have hv : -4000 ≤ Y - Y1 ∧ Y - Y1 ≤ 4000 := by omega
  generalize X - X1 = u at *
  generalize Y - Y1 = v at *
  have t1 := fun lim H => run_turn q.a q.b q.c q.d (by omega) (by omega) (by omega) (by omega) lim H
  have t2 := fun lim H => run_turn q.a q.b u v (by omega) (by omega) hu hv lim H
  have t3 := fun lim H => run_turn u v q.c q.d hu hv (by omega) (by omega) lim H
  have t4 := fun lim H => run_along q.a q.b u v (by omega) (by omega) hu hv lim H
  change ∀ lim H, apL _ _ _ _ _ _ = some (.int .i64 (turnN q), H) at t1
  by_cases e : i = k
  · subst e
    simp [sf_fixes_search_isInBeam, pf_pure, pureF]
  have e' : ((i : Int) == (k : Int)) = false := by simp; omega
  have e3 : ¬ (i : Int) = (k : Int) := by omega
  by_cases k1 : 0 < turnN q
  · cases k2 : decide (0 ≤ q.a * v - q.b * u) <;> simp [-Int.sub_nonneg, sf_fixes_search_isInBeam, c1, hed, e3, e', t1, t2, t3, k1, k2, pf_pure, pureF]
  · by_cases k2 : q.a * v - q.b * u = 0
    · have k2' : (q.a * v - q.b * u == 0) = true := by rw [k2]; rfl
      simp [-Int.sub_nonneg, sf_fixes_search_isInBeam, c1, hed, e3, e', t1, t2, t3, t4, k1, k2, k2', pf_pure, pureF]
    · have k2' : (q.a * v - q.b * u == 0) = false := by rw [beq_eq_false_iff_ne]; exact k2
      simp [-Int.sub_nonneg, sf_fixes_search_isInBeam, c1, hed, e3, e', t1, t2, t3, t4, k1, k2, k2', pf_pure, pureF]
end Go.Proofs.YtmdnpaboaelkeaaGreatDoor
namespace Go.Proofs.YtmdnpaboaelkeaaGreatDoor
open Go Go.RowKit
theorem inN_of {n i : Nat} (h : i < n) : inN n (i : Int) = true := inN_iff.2 ⟨i, h, rfl⟩
theorem apartN_ok {c : Ch} (hok : ChOk c) {i k : Nat} (hi : i < c.cells) (hk : k < c.cells) : openE c [(i : Int), (k : Int)] [] = 0 ∧ apartN c i k = apt c.w i k := by
  have h : openE c [(i : Int), (k : Int)] [] = 0 := by
    rw [openE_eq hok]
    simp [inN_of hi, inN_of hk]
  exact ⟨h, by unfold apartN; rw [if_pos h]⟩
theorem run_srApart (x : Ds) (hok : ChOk x.ch) (lim : Nat) (H : AH) (d t s r a b e : Value) (h : DsIn H x d t s r) (ha : OneS a) (hb : OneS b) (he : OneS e) {i k : Nat} (hi : i < x.ch.cells) (hk : k < x.ch.cells) :
    apL Tryz.prog pf (.func (.func 83) #[] #[]) [srV x d t s r a b e, .int .i64 i, .int .i64 k] lim H = some (.int .i64 (apt x.ch.w i k), H) := by
  rw [apL_func _ _ _ _ _ _ (by rfl), sf_fixes_search_apart_eq]
  have hA := fun lim => run_Apart x.ch lim H d t s h.c i k
  rw [(apartN_ok hok hi hk).1, (apartN_ok hok hi hk).2] at hA
  obtain ⟨⟨⟨da, dc, ed, _⟩, ⟨ta, tc, et, _⟩, ⟨sa, sc, es, _⟩, _, htl, _⟩, ⟨ra, rc, er, _⟩, _⟩ := h
  obtain ⟨a1, a2, a3, ea⟩ := ha
  obtain ⟨b1, b2, b3, eb⟩ := hb
  obtain ⟨e1, e2, e3, ee⟩ := he
  simp only [chV, srV, ed, et, es, er, ea, eb, ee] at hA ⊢
  simp [sf_fixes_search_apart, hA, pf_pure, pureF]
set_option maxHeartbeats 2000000 in
theorem run_isTrue (x : Ds) (hok : ChOk x.ch) (lim : Nat) (H : AH) (d t s r a b e : Value) (h : DsIn H x d t s r) (ha : OneS a) (hb : OneS b) (he : OneS e) (q : Rep) (hq : repOk x.cells x.ticks q = true) {i : Nat} (hi : i < x.ch.cells) :
    apL Tryz.prog pf (.func (.func 114) #[] #[]) [srV x d t s r a b e, repV q, .int .i64 i] lim H = some (.bool (holdsM x.ch.w q i), H) := by
  have hq0 := hq
  unfold repOk at hq
  simp only [Bool.and_eq_true] at hq
  obtain ⟨⟨⟨hqt, hqc⟩, _⟩, hqb⟩ := hq
  obtain ⟨k, hk, ek⟩ := inN_iff.1 hqc
  change k < x.ch.cells at hk
  rw [apL_func _ _ _ _ _ _ (by rfl), sf_fixes_search_isTrue_eq]
  obtain ⟨⟨r0, r1⟩, ⟨q0, q1⟩, x0, y0⟩ := cen_bound hok hi
  have hw0 : x.ch.w ≠ 0 := by have := hok.1; omega
  have hd : (i : Int).tdiv x.ch.w = (i : Int) / x.ch.w := Int.tdiv_eq_ediv_of_nonneg (Int.natCast_nonneg i)
  have hm : (i : Int).tmod x.ch.w = (i : Int) % x.ch.w := Int.tmod_eq_emod_of_nonneg (Int.natCast_nonneg i)
  have w1 : IntKind.i64.wrap ((i : Int) / x.ch.w) = (i : Int) / x.ch.w := wrap_i64 (by omega) (by omega)
  have hbt := fun l h lim H => run_between l h lim H
  generalize hH2 : H ++ [ABlk.rw 0 [.int .i64 q.a], .rw 0 [.int .i64 q.b]] = H2
  have hE : Ext H H2 := by subst hH2; exact Ext.push _ _
  have b1' := fun lim => hbt q.a q.b lim H
  have x1 := fun y lim => ext_between H q.a q.b y lim
  have x2 := fun y lim => ext_between H2 q.c q.d y lim
  rw [hH2] at b1' x1
  have hA := fun lim => run_srApart x hok lim H d t s r a b e h ha hb he hk hi
  have hA2 := fun lim => run_srApart x hok lim H2 d t s r a b e (h.ext hE) ha hb he hk hi
  by_cases k1 : q.kind = 1
  · obtain ⟨⟨⟨da, dc, ed, _⟩, ⟨ta, tc, et, _⟩, ⟨sa, sc, es, _⟩, _, htl, _⟩, ⟨ra, rc, er, _⟩, _⟩ := h
    obtain ⟨a1, a2, a3, ea⟩ := ha
    obtain ⟨b1, b2, b3, eb⟩ := hb
    obtain ⟨e1, e2, e3, ee⟩ := he
    simp only [betweenV, srV, repV, ed, et, es, er, ea, eb, ee, ek, k1] at b1' x1 hA2 ⊢
    simp [sf_fixes_search_isTrue, b1', x1, hA2, holdsM, k1, ek, pf_pure, pureF]
  by_cases k2 : q.kind = 2
  · have hbb : beamOk q = true := by
      unfold boundsOk at hqb
      rwa [if_neg k1, if_pos k2] at hqb
    have hB := fun lim => run_isInBeam x hok lim H d t s r a b e h ha hb he q (beamB hbb) ek hk hi
    obtain ⟨⟨⟨da, dc, ed, _⟩, ⟨ta, tc, et, _⟩, ⟨sa, sc, es, _⟩, _, htl, _⟩, ⟨ra, rc, er, _⟩, _⟩ := h
    obtain ⟨a1, a2, a3, ea⟩ := ha
    obtain ⟨b1, b2, b3, eb⟩ := hb
    obtain ⟨e1, e2, e3, ee⟩ := he
    simp only [srV, repV, ed, et, es, er, ea, eb, ee, k2] at hB ⊢
    simp [sf_fixes_search_isTrue, hB, holdsM, k2, pf_pure, pureF]
  by_cases k3 : q.kind = 3
  · obtain ⟨⟨⟨da, dc, ed, _⟩, ⟨ta, tc, et, _⟩, ⟨sa, sc, es, _⟩, _, htl, _⟩, ⟨ra, rc, er, _⟩, _⟩ := h
    obtain ⟨a1, a2, a3, ea⟩ := ha
    obtain ⟨b1, b2, b3, eb⟩ := hb
    obtain ⟨e1, e2, e3, ee⟩ := he
    simp only [betweenV, srV, repV, ed, et, es, er, ea, eb, ee, k3] at hbt b1' x1 x2 ⊢
    cases c1 : (decide (q.a ≤ (i : Int) / x.ch.w) && decide ((i : Int) / x.ch.w ≤ q.b)) with
    | false => simp [sf_fixes_search_isTrue, b1', x1, holdsM, k3, hw0, hd, hm, w1, c1, pf_pure, pureF]
    | true => simp [sf_fixes_search_isTrue, b1', hbt, x1, x2, holdsM, k3, hw0, hd, hm, w1, c1, pf_pure, pureF]
  · have k4 : q.kind = 4 := by
      unfold boundsOk at hqb
      rw [if_neg k1, if_neg k2, if_neg k3] at hqb
      by_cases k4 : q.kind = 4
      · exact k4
      · rw [if_neg k4] at hqb; cases hqb
    obtain ⟨⟨⟨da, dc, ed, _⟩, ⟨ta, tc, et, _⟩, ⟨sa, sc, es, _⟩, _, htl, _⟩, ⟨ra, rc, er, _⟩, _⟩ := h
    obtain ⟨a1, a2, a3, ea⟩ := ha
    obtain ⟨b1, b2, b3, eb⟩ := hb
    obtain ⟨e1, e2, e3, ee⟩ := he
    simp only [srV, repV, ed, et, es, er, ea, eb, ee, ek, k4] at hA ⊢
    simp [sf_fixes_search_isTrue, hA, holdsM, k1, k2, k3, k4, ek, pf_pure, pureF]
end Go.Proofs.YtmdnpaboaelkeaaGreatDoor
namespace Go.Proofs.YtmdnpaboaelkeaaGreatDoor
open Go Go.RowKit
def Aft (H A : AH) : Prop := ∃ J, A = H ++ J
theorem Aft.refl (H : AH) : Aft H H := ⟨[], by simp⟩
theorem Aft.push {H A : AH} (h : Aft H A) (l : AH) : Aft H (A ++ l) := by obtain ⟨J, rfl⟩ := h; exact ⟨J ++ l, by simp⟩
theorem Aft.set {H A : AH} (h : Aft H A) {b : Nat} (hb : H.length ≤ b) (x : ABlk) : Aft H (A.set b x) := by obtain ⟨J, rfl⟩ := h; exact ⟨J.set (b - H.length) x, by rw [List.set_append_right _ _ hb]⟩
theorem Aft.ext {H A : AH} (h : Aft H A) : Ext H A := by obtain ⟨J, rfl⟩ := h; exact Ext.push H J
theorem Aft.trans {H A B : AH} (h : Aft H A) (k : Aft A B) : Aft H B := by obtain ⟨J, rfl⟩ := h; obtain ⟨K, rfl⟩ := k; exact ⟨J ++ K, by simp⟩
theorem Aft.le {H A : AH} (h : Aft H A) : H.length ≤ A.length := by obtain ⟨J, rfl⟩ := h; simp
theorem ints_append (l m : List Int) : ints (l ++ m) = ints l ++ ints m := by simp [ints]
def OwnA (n0 : Nat) (A : AH) (v : Value) (l : List Int) : Prop :=
  (l = [] ∧ v = .slice none 0 0) ∨ (l ≠ [] ∧ ∃ b, n0 ≤ b ∧ v = .slice (some ⟨b, 0, none⟩) l.length (l.length + 1) ∧ A[b]? = some (.rw 1 (ints l)))
theorem OwnA.sl {n0 : Nat} {A : AH} {v : Value} {l : List Int} (h : OwnA n0 A v l) : Sl A v l.length (ints l) := by
  rcases h with ⟨rfl, rfl⟩ | ⟨_, b, _, rfl, hb⟩
  · exact Sl.nil
  · exact Sl.made hb rfl
def OwnV (n0 : Nat) (A : AH) (v : Value) (cs : List Value) : Prop :=
  (cs = [] ∧ v = .slice none 0 0) ∨ (cs ≠ [] ∧ ∃ b, n0 ≤ b ∧ v = .slice (some ⟨b, 0, none⟩) cs.length (cs.length + 1) ∧ A[b]? = some (.rw 1 cs))
theorem OwnV.sl {n0 : Nat} {A : AH} {v : Value} {cs : List Value} (h : OwnV n0 A v cs) : Sl A v cs.length cs := by
  rcases h with ⟨rfl, rfl⟩ | ⟨_, b, _, rfl, hb⟩
  · exact ⟨none, 0, rfl, fun j v hv => by simp at hv⟩
  · refine ⟨_, _, rfl, fun j x hx => ⟨b, 0, rfl, ?_⟩⟩
    simp only [hcell, hb, Nat.zero_add]
    exact hx
def RowB (n0 : Nat) (A : AH) (v : Value) (l : List Int) : Prop := ∃ b, n0 ≤ b ∧ v = .slice (some ⟨b, 0, none⟩) l.length l.length ∧ A[b]? = some (.rw 1 (ints l))
def Tab (A : AH) (v : Value) (ls : List (List Int)) : Prop := ∃ rv : List Value, rv.length = ls.length ∧ Sl A v ls.length rv ∧ ∀ i (h : i < ls.length) (h' : i < rv.length), Sl A rv[i] ls[i].length (ints ls[i])
theorem Tab.ext {A B : AH} (hE : Ext A B) {v : Value} {ls : List (List Int)} (h : Tab A v ls) : Tab B v ls := by
  obtain ⟨rv, h1, h2, h3⟩ := h
  exact ⟨rv, h1, h2.ext hE, fun i a b => (h3 i a b).ext hE⟩
theorem own_cells {A : AH} {b : Nat} {cs : List Value} (h : A[b]? = some (.rw 1 cs)) (L : LS) (x : AH) : cellsAt L (A ++ x) ⟨b, 0, none⟩ cs.length = some cs := by
  have hbl : b < A.length := (List.getElem?_eq_some_iff.1 h).1
  refine cellsAt_of cs 0 fun m y hy => ?_
  simp only [hcell, Nat.zero_add]
  rw [List.getElem?_append_left hbl, h]
  exact hy
theorem own_get {A : AH} {b : Nat} {z : ABlk} (h : A[b]? = some z) (x : AH) : (A ++ x)[b]? = some z := by
  rw [List.getElem?_append_left (List.getElem?_eq_some_iff.1 h).1, h]
theorem own_set {A : AH} {b : Nat} {z : ABlk} (h : A[b]? = some z) (x y : AH) : (A ++ x).set b .dead ++ y = A.set b .dead ++ (x ++ y) := by
  rw [List.set_append_left _ _ (List.getElem?_eq_some_iff.1 h).1, List.append_assoc]
end Go.Proofs.YtmdnpaboaelkeaaGreatDoor
namespace Go.Proofs.YtmdnpaboaelkeaaGreatDoor
open Go Go.RowKit
def mapLoop : SC := sf_cobleref03_Map.body.loops.headD .skip
def RowsB (n0 : Nat) (A : AH) (cs : List Value) (l : Nat → List Int) : Prop := ∀ j (h : j < cs.length), RowB n0 A cs[j] (l j)
theorem stepsL_len {c : Ch} (hok : ChOk c) (a : Nat) : (stepsL c a).length = c.cells := by
  unfold stepsL
  rw [relN_len c.cells hok.1.1 hok.2.1.1]
  simp
theorem stepsL_get {c : Ch} (hok : ChOk c) {a b : Nat} (ha : a < c.cells) (hb : b < c.cells) : (stepsL c a).getD b 0 = apt c.w a b := ring_end hok.1.1 hok.2.1.1 hok.mul.2.2 ha hb
theorem map_loop (c : Ch) (hok : ChOk c) (H : AH) (d t s : Value) (hc : ChIn H c d t s) (S : St) (h1 : tget S.t 1 = .pointer (some ⟨1, 0, some 0⟩)) (h3 : tget S.t 3 = .slice none 0 0) (h4 : tget S.t 4 = .int .i64 0) (hL : S.L = [(1, 0, .cells [.int .i64 c.w, .int .i64 c.h, d, t, s])]) (hH : S.H = H) (hlim : S.lim ≤ H.length) :
    ∃ r, exL Tryz.prog pf (.loop mapLoop) S = some r ∧ r.1 = .exit 0 ∧ Aft H r.2.H ∧ ∃ cs, cs.length = c.cells ∧ OwnV H.length r.2.H (tget r.2.t 3) cs ∧ RowsB H.length r.2.H cs (stepsL c) := by
  obtain ⟨m0, m1, m2⟩ := hok.mul
  have hwm : IntKind.i64.wrap (c.w * c.h) = (c.cells : Int) := by rw [m2]; exact wrap_i64 (by omega) (by omega)
  refine loop_rule (I := fun n s' => ∃ i, i ≤ c.cells ∧ n = c.cells - i ∧ tget s'.t 1 = .pointer (some ⟨1, 0, some 0⟩) ∧ tget s'.t 4 = .int .i64 i ∧ s'.L = S.L ∧ s'.lim ≤ H.length ∧ Aft H s'.H ∧ ∃ cs, cs.length = i ∧ OwnV H.length s'.H (tget s'.t 3) cs ∧ RowsB H.length s'.H cs (stepsL c)) ?_ c.cells S
    ⟨0, by omega, by omega, h1, h4, rfl, hlim, by rw [hH]; exact Aft.refl H, [], rfl, .inl ⟨rfl, h3⟩, fun j h => by simp at h⟩
  rintro n s' ⟨i, hi, rfl, e1, e4, eL, el, eA, cs, hcs, eO, eR⟩
  obtain ⟨A, hA⟩ : ∃ A, s'.H = A := ⟨_, rfl⟩
  rw [hA] at eA eO eR
  have hCl := fun lim => run_CellsCh c lim A d t s
  have hS := fun (hlt : i < c.cells) lim => run_Steps c hok lim A d t s (hc.ext eA.ext) hlt
  have hsl := stepsL_len hok i
  rw [hwm] at hCl
  obtain ⟨⟨da, dc, ed, _⟩, ⟨ta, tc, et, _⟩, ⟨sa, sc, es, _⟩, _, _, _⟩ := hc
  simp only [chV, ed, et, es] at hCl hS
  rw [ed, et, es] at hL
  rw [hL] at eL
  by_cases hlt : i < c.cells
  rotate_left
  · have : i = c.cells := by omega
    subst this
    simp [mapLoop, SC.loops, sf_cobleref03_Map, e1, e4, eL, hA, hCl, hL]
    exact ⟨eA, cs, hcs, eO, eR⟩
  have hS := fun lim => hS hlt lim
  have hw : IntKind.i64.wrap ((i : Int) + 1) = (i : Int) + 1 := wrap_i64 (by omega) (by omega)
  have hmx : i + 1 ≤ maxA := Nat.le_trans (show i + 1 ≤ 145 by omega) (by decide)
  generalize hrow : ABlk.rw 1 (ints (stepsL c i)) = R at *
  have hm1 : 1 ≤ maxA := by decide
  have hnl : nlL cs = true := by
    have key : ∀ (l : List Value), (∀ v ∈ l, nl v = true) → nlL l = true := by
      intro l
      induction l with
      | nil => intro _; rfl
      | cons v l ih => intro h; unfold nlL; rw [h v (by simp), ih fun w hw => h w (by simp [hw])]; rfl
    refine key cs fun v hv => ?_
    obtain ⟨j, hj, rfl⟩ := List.mem_iff_getElem.1 hv
    obtain ⟨b, _, e, _⟩ := eR j hj
    rw [e]; simp
  have hR0 : (A ++ [R])[A.length]? = some R := by rw [List.getElem?_append_right (Nat.le_refl _), Nat.sub_self]; rfl
  rcases eO with ⟨rfl, e3⟩ | ⟨hne, b, hb, e3, hbA⟩
  · have hi0 : i = 0 := by simpa using hcs.symm
    simp [-oneC, oneC_slice, mapLoop, SC.loops, sf_cobleref03_Map, e1, e3, e4, eL, hA, hCl, hlt, hS, hw, hL, hm1]
    refine ⟨_, by omega, i + 1, by omega, rfl, by omega, el, eA.push _, [.slice (some ⟨A.length, 0, none⟩) c.cells c.cells], by simp [hi0], .inr ⟨by simp, A.length + 2, by have := eA.le; omega, by simp, ?_⟩, fun j hj => ?_⟩
    · rw [List.getElem?_append_right (by omega), Nat.add_sub_cancel_left]; rfl
    · have : j = 0 := by simpa using hj
      subst this
      subst hi0
      refine ⟨A.length, eA.le, by rw [hsl]; rfl, ?_⟩
      rw [List.getElem?_append_right (Nat.le_refl _), Nat.sub_self, hrow]
      rfl
  · have hbl : b < A.length := (List.getElem?_eq_some_iff.1 hbA).1
    have hn0 : ¬ cs.length = 0 := by simpa using hne
    have hi0 : ¬ i = 0 := by omega
    have hcA := fun L x => own_cells hbA L x
    have hbX := fun x => own_get hbA x
    have hsX := fun x y => own_set hbA x y
    have hlb : s'.lim ≤ b := Nat.le_trans el hb
    rw [hcs] at e3 hcA
    simp [-oneC, oneC_slice, mapLoop, SC.loops, sf_cobleref03_Map, e1, e3, e4, eL, hA, hCl, hlt, hS, hw, hi0, hmx, hcA, hbX, hsX, hcs, hnl, hlb, hL]
    refine ⟨_, by omega, i + 1, by omega, rfl, by omega, el, (eA.set hb _).push _, cs ++ [.slice (some ⟨A.length, 0, none⟩) c.cells c.cells], by simp [hcs], .inr ⟨by simp, A.length + 2, by have := eA.le; omega, by simp [hcs], ?_⟩, fun j hj => ?_⟩
    · rw [List.getElem?_append_right (by simp), List.length_set, Nat.add_sub_cancel_left]; rfl
    · by_cases hjc : j < cs.length
      · obtain ⟨b', h1, h2, h3⟩ := eR j hjc
        have hbb : b' ≠ b := by
          rintro rfl
          rw [hbA] at h3
          simp only [Option.some.injEq, ABlk.rw.injEq, true_and] at h3
          have h4 : cs[j]? = (ints (stepsL c j))[j]? := by rw [h3]
          rw [List.getElem?_eq_getElem hjc, h2] at h4
          simp only [ints, List.getElem?_map] at h4
          cases h5 : (stepsL c j)[j]? <;> rw [h5] at h4 <;> cases h4
        refine ⟨b', h1, by rw [List.getElem_append_left hjc]; exact h2, ?_⟩
        have hb'l : b' < A.length := (List.getElem?_eq_some_iff.1 h3).1
        rw [List.getElem?_append_left (by simpa using hb'l), List.getElem?_set_ne (Ne.symm hbb), h3]
      · have : j = i := by simp at hj; omega
        subst this
        refine ⟨A.length, eA.le, by rw [List.getElem_append_right (by omega)]; simp [hsl], ?_⟩
        rw [List.getElem?_append_right (by simp), List.length_set, Nat.sub_self, hrow]
        rfl
def mapM (c : Ch) : List (List Int) := (List.range c.cells).map (stepsL c)
theorem run_Map (c : Ch) (hok : ChOk c) (lim : Nat) (H : AH) (d t s : Value) (hc : ChIn H c d t s) :
    ∃ v A, apL Tryz.prog pf (.func (.func 52) #[] #[]) [chV c d t s] lim H = some (v, A) ∧ Aft H A ∧ Tab A v (mapM c) := by
  rw [apL_func _ _ _ _ _ _ (by rfl), sf_cobleref03_Map_eq]
  have hc0 := hc
  obtain ⟨⟨da, dc, ed, _⟩, ⟨ta, tc, et, _⟩, ⟨sa, sc, es, _⟩, _, _, _⟩ := hc0
  simp [sf_cobleref03_Map, chV, ed, et, es, pf_pure, pureF]
  generalize hS : ({ t := _, L := _, H := _, lim := _, rd := _ } : St) = S
  obtain ⟨⟨e, s1⟩, hr, q1, q2, cs, q3, q4, q5⟩ := map_loop c hok H d t s hc S (by subst hS; simp) (by subst hS; simp) (by subst hS; simp) (by subst hS; simp [ed, et, es]) (by subst hS; rfl) (by subst hS; simp)
  simp [mapLoop, SC.loops, sf_cobleref03_Map] at hr
  rw [hr]
  simp only at q1 q2 q4 q5
  subst q1
  have hT : Tab s1.H (tget s1.t 3) (mapM c) := by
    refine ⟨cs, by simp [mapM, q3], ?_, fun i h h' => ?_⟩
    · have := q4.sl
      rw [q3] at this
      simpa [mapM] using this
    · obtain ⟨b, _, e, hb⟩ := q5 i h'
      rw [e]
      simp only [mapM, List.getElem_map, List.getElem_range]
      exact ⟨_, _, rfl, fun j x hx => ⟨b, 0, rfl, by simp only [hcell, hb, Nat.zero_add]; exact hx⟩⟩
  rcases q4 with ⟨e0, e3⟩ | ⟨_, b, _, e3, _⟩
  · exfalso
    rw [e0] at q3
    have h1 : 0 < c.w * c.h := Int.mul_pos (by have := hok.1; omega) (by have := hok.2.1; omega)
    have h2 := hok.mul.2.2
    simp at q3
    omega
  · rw [e3] at hT
    simp [e3]
    first | exact ⟨_, _, ⟨rfl, rfl⟩, q2, hT⟩ | exact ⟨_, _, rfl, q2, hT⟩ | (refine ⟨_, _, ?_, q2, hT⟩; simp)
end Go.Proofs.YtmdnpaboaelkeaaGreatDoor
namespace Go.Proofs.YtmdnpaboaelkeaaGreatDoor
open Go Go.RowKit
theorem tab_cell {A : AH} {v : Value} {ls : List (List Int)} (h : Tab A v ls) {k i : Nat} (hk : k < ls.length) (hi : i < ls[k].length) :
    ∃ b o c b' o' c', v = .slice (some ⟨b, o, none⟩) ls.length c ∧ hcell A b (o + k) = some (.slice (some ⟨b', o', none⟩) ls[k].length c') ∧ hcell A b' (o' + i) = some (.int .i64 ls[k][i]) := by
  obtain ⟨rv, h1, ⟨a, c, rfl, h2⟩, h3⟩ := h
  obtain ⟨b, o, rfl, h4⟩ := h2 k rv[k] (List.getElem?_eq_getElem (by omega))
  obtain ⟨a', c', e, h5⟩ := h3 k hk (by omega)
  obtain ⟨b', o', rfl, h6⟩ := h5 i (.int .i64 ls[k][i]) (by simp [ints, hi])
  exact ⟨b, o, c, b', o', c', rfl, by rw [h4, e], h6⟩
theorem map_cell {c : Ch} (hok : ChOk c) {A : AH} {v : Value} (h : Tab A v (mapM c)) {k i : Nat} (hk : k < c.cells) (hi : i < c.cells) :
    ∃ b o cp b' o' c', v = .slice (some ⟨b, o, none⟩) c.cells cp ∧ hcell A b (o + k) = some (.slice (some ⟨b', o', none⟩) c.cells c') ∧ hcell A b' (o' + i) = some (.int .i64 (apt c.w k i)) := by
  have hl : (mapM c).length = c.cells := by simp [mapM]
  have hk' : k < (mapM c).length := by omega
  have hr : (mapM c)[k] = stepsL c k := by simp [mapM]
  have hrl : (mapM c)[k].length = c.cells := by rw [hr, stepsL_len hok]
  obtain ⟨b, o, cp, b', o', c', h1, h2, h3⟩ := tab_cell h hk' (i := i) (by omega)
  refine ⟨b, o, cp, b', o', c', by rw [h1, hl], by rw [h2, hrl], ?_⟩
  rw [h3, ← stepsL_get hok hk hi, List.getD_eq_getElem?_getD]
  have : i < (stepsL c k).length := by rw [stepsL_len hok]; exact hi
  simp [hr, this]
set_option maxHeartbeats 2000000 in
theorem run_Holds (x : Ds) (hok : ChOk x.ch) (lim : Nat) (H : AH) (d t s m : Value) (hc : ChIn H x.ch d t s) (hm : Tab H m (mapM x.ch)) (q : Rep) (hq : repOk x.cells x.ticks q = true) {i : Nat} (hi : i < x.ch.cells) :
    apL Tryz.prog pf (.func (.func 70) #[] #[]) [chV x.ch d t s, m, repV q, .int .i64 i] lim H = some (.bool (holdsM x.ch.w q i), H) := by
  unfold repOk at hq
  simp only [Bool.and_eq_true] at hq
  obtain ⟨⟨⟨hqt, hqc⟩, _⟩, hqb⟩ := hq
  obtain ⟨k, hk, ek⟩ := inN_iff.1 hqc
  change k < x.ch.cells at hk
  rw [apL_func _ _ _ _ _ _ (by rfl), sf_cobleref03_Holds_eq]
  obtain ⟨⟨r0, r1⟩, ⟨q0, q1⟩, x0, y0⟩ := cen_bound hok hi
  have hw0 : x.ch.w ≠ 0 := by have := hok.1; omega
  have hd : (i : Int).tdiv x.ch.w = (i : Int) / x.ch.w := Int.tdiv_eq_ediv_of_nonneg (Int.natCast_nonneg i)
  have hmo : (i : Int).tmod x.ch.w = (i : Int) % x.ch.w := Int.tmod_eq_emod_of_nonneg (Int.natCast_nonneg i)
  have w1 : IntKind.i64.wrap ((i : Int) / x.ch.w) = (i : Int) / x.ch.w := wrap_i64 (by omega) (by omega)
  obtain ⟨b, o, cp, b', o', c', em, g1, g2⟩ := map_cell hok hm hk hi
  simp only [hcell] at g1 g2
  by_cases k1 : q.kind = 1
  · obtain ⟨⟨da, dc, ed, _⟩, ⟨ta, tc, et, _⟩, ⟨sa, sc, es, _⟩, _, _, _⟩ := hc
    simp only [chV, repV, ed, et, es, em, ek, k1]
    simp [sf_cobleref03_Holds, holdsM, k1, ek, hk, hi, g1, g2, pf_pure, pureF]
  by_cases k2 : q.kind = 2
  · have hbb : beamOk q = true := by
      unfold boundsOk at hqb
      rwa [if_neg k1, if_pos k2] at hqb
    have hB := fun lim => run_seen x.ch hok lim H d t s hc q (beamB hbb) ek hk hi
    obtain ⟨⟨da, dc, ed, _⟩, ⟨ta, tc, et, _⟩, ⟨sa, sc, es, _⟩, _, _, _⟩ := hc
    simp only [chV, repV, ed, et, es, em, k2] at hB ⊢
    simp [sf_cobleref03_Holds, hB, holdsM, k2, pf_pure, pureF]
  by_cases k3 : q.kind = 3
  · obtain ⟨⟨da, dc, ed, _⟩, ⟨ta, tc, et, _⟩, ⟨sa, sc, es, _⟩, _, _, _⟩ := hc
    simp only [chV, repV, ed, et, es, em, k3]
    cases c1 : (decide (q.a ≤ (i : Int) / x.ch.w) && decide ((i : Int) / x.ch.w ≤ q.b)) with
    | false => simp [sf_cobleref03_Holds, holdsM, k3, hw0, hd, hmo, w1, c1, pf_pure, pureF]
    | true => simp [sf_cobleref03_Holds, holdsM, k3, hw0, hd, hmo, w1, c1, pf_pure, pureF]
  · have k4 : q.kind = 4 := by
      unfold boundsOk at hqb
      rw [if_neg k1, if_neg k2, if_neg k3] at hqb
      by_cases k4 : q.kind = 4
      · exact k4
      · rw [if_neg k4] at hqb; cases hqb
    obtain ⟨⟨da, dc, ed, _⟩, ⟨ta, tc, et, _⟩, ⟨sa, sc, es, _⟩, _, _, _⟩ := hc
    simp only [chV, repV, ed, et, es, em, ek, k4]
    simp [sf_cobleref03_Holds, holdsM, k4, ek, hk, hi, g1, g2, pf_pure, pureF]
end Go.Proofs.YtmdnpaboaelkeaaGreatDoor
namespace Go.Proofs.YtmdnpaboaelkeaaGreatDoor
open Go Go.RowKit
def bools (l : List Bool) : List Value := l.map .bool
theorem run_May (x : Ds) (hok : ChOk x.ch) (lim : Nat) (H : AH) (d t s r : Value) (h : DsIn H x d t s r) {i k : Nat} (hi : i < x.ch.cells) (hk : k < x.ch.ticks) :
    apL Tryz.prog pf (.func (.func 69) #[] #[]) [dsV x d t s r, .int .i64 i, .int .i64 k] lim H = some (.bool (x.ch.may x.g i k), H) := by
  rw [apL_func _ _ _ _ _ _ (by rfl), sf_cobleref03_May_eq]
  obtain ⟨_, ⟨t0, t1, t2⟩, _⟩ := hok.bounds hi hk
  have hO := fun lim => run_Over x.ch hok lim H d t s h.c hi hk (x.ch.hi k) (by omega) (by omega)
  obtain ⟨bt, ot, kt, et, g1, g2⟩ := h.c.td hk
  have hk' : k < x.ch.tide.length := hk
  obtain ⟨⟨⟨da, dc, ed, _⟩, _, ⟨sa, sc, es, _⟩, _, htl, _⟩, ⟨ra, rc, er, _⟩, _⟩ := h
  simp only [hcell] at g1 g2
  simp only [chV, dsV, ed, et, es, er] at hO ⊢
  simp [sf_cobleref03_May, hO, hk', g1, g2, Ch.may, pf_pure, pureF]
def neverR : Int := 1073741824
def ownGo (w : Int) (i t : Nat) : List Rep → List Bool → List Bool → Int → Int
  | q :: l, c :: cs, m :: ms, n => if c && q.tick == (t : Int) && !holdsM w q i then (if m then neverR else ownGo w i t l cs ms (n + q.w)) else ownGo w i t l cs ms n
  | _, _, _, n => n
def ownM (x : Ds) (cnt mst : List Bool) (i t : Nat) : Int := if x.ch.may x.g i t then ownGo x.ch.w i t x.reps cnt mst 0 else neverR
def ownL3 : SC := sf_cobleref03_own.body.loops.headD .skip
theorem bools_get {l : List Bool} {i : Nat} (h : i < l.length) : (bools l)[i]? = some (.bool l[i]) := by simp [bools, h]
set_option maxHeartbeats 2000000 in
theorem own_loop (x : Ds) (hok : ChOk x.ch) (hdo : dsOk x = true) (H : AH) (d t s r m c3 m3 : Value) (h : DsIn H x d t s r) (hm : Tab H m (mapM x.ch)) (cnt mst : List Bool) (hcl : cnt.length = x.reps.length) (hml : mst.length = x.reps.length) (hc3 : Sl H c3 cnt.length (bools cnt)) (hm3 : Sl H m3 mst.length (bools mst))
    {i k : Nat} (hi : i < x.ch.cells) (hk : k < x.ch.ticks) (S : St) (h1 : tget S.t 1 = m) (h2 : tget S.t 2 = c3) (h3 : tget S.t 3 = m3) (h4 : tget S.t 4 = .int .i64 i) (h5 : tget S.t 5 = .int .i64 k) (h6 : tget S.t 6 = .pointer (some ⟨6, 0, some 0⟩)) (h13 : tget S.t 13 = .int .i64 0) (h14 : tget S.t 14 = .int .i64 0)
    (hL : lget S.L 6 = some (0, .cells [.int .i64 x.ch.w, .int .i64 x.ch.h, d, t, s, .int .i64 x.g, .int .i64 x.pace, r])) (hH : S.H = H) :
    ∃ q, exL Tryz.prog pf (.loop ownL3) S = some q ∧ q.2.H = H ∧ ((q.1 = .exit 0 ∧ tget q.2.t 13 = .int .i64 (ownGo x.ch.w i k x.reps cnt mst 0)) ∨ (q.1 = .ret ∧ tget q.2.t 12 = .int .i64 neverR ∧ ownGo x.ch.w i k x.reps cnt mst 0 = neverR)) := by
  have hd12 : x.reps.length ≤ 12 ∧ ∀ q ∈ x.reps, repOk x.cells x.ticks q = true := by
    unfold dsOk at hdo
    simp only [Bool.and_eq_true, decide_eq_true_eq, List.all_eq_true] at hdo
    exact ⟨hdo.1.2, hdo.2⟩
  have hHo := fun q (hq : q ∈ x.reps) lim => run_Holds x hok lim H d t s m h.c hm q (hd12.2 q hq) hi
  have hv := h.r
  obtain ⟨⟨⟨da, dc, ed, _⟩, ⟨ta, tc, et, _⟩, ⟨sa, sc, es, _⟩, _, htl, _⟩, ⟨ra, rc, er, _⟩, _⟩ := h
  obtain ⟨c3a, c3c, ec3, hc3d⟩ := hc3
  obtain ⟨m3a, m3c, em3, hm3d⟩ := hm3
  rw [er] at hv
  have hm0 := hm
  obtain ⟨ma, mc, em, _⟩ : ∃ a c, m = .slice a x.ch.cells c ∧ True := by
    obtain ⟨rv, _, ⟨a, c, e, _⟩, _⟩ := hm0
    exact ⟨a, c, by rw [e]; simp [mapM], trivial⟩
  simp only [chV, ed, et, es, em] at hHo
  rw [ed, et, es, er] at hL
  refine loop_rule (I := fun n s' => ∃ j, j ≤ x.reps.length ∧ n = x.reps.length - j ∧ tget s'.t 1 = m ∧ tget s'.t 2 = c3 ∧ tget s'.t 3 = m3 ∧ tget s'.t 4 = .int .i64 i ∧ tget s'.t 5 = .int .i64 k ∧ tget s'.t 6 = .pointer (some ⟨6, 0, some 0⟩) ∧ tget s'.t 14 = .int .i64 j ∧ lget s'.L 6 = lget S.L 6 ∧ s'.H = H ∧
    ∃ n : Int, tget s'.t 13 = .int .i64 n ∧ 0 ≤ n ∧ n ≤ j * 100 ∧ ownGo x.ch.w i k (x.reps.drop j) (cnt.drop j) (mst.drop j) n = ownGo x.ch.w i k x.reps cnt mst 0) ?_ x.reps.length S
    ⟨0, by omega, by omega, h1, h2, h3, h4, h5, h6, h14, rfl, hH, 0, h13, by omega, by omega, by simp⟩
  rintro n s' ⟨j, hj, rfl, e1, e2, e3, e4, e5, e6, e14, eL, eH, v, e13, v0, v1, ev⟩
  rw [hL] at eL
  rw [em] at e1
  rw [ec3] at e2
  rw [em3] at e3
  by_cases hlt : j < x.reps.length
  rotate_left
  · have : j = x.reps.length := by omega
    subst this
    have hend : v = ownGo x.ch.w i k x.reps cnt mst 0 := by
      rw [← ev, List.drop_length]
      cases cnt.drop x.reps.length <;> cases mst.drop x.reps.length <;> rfl
    simp [ownL3, SC.loops, sf_cobleref03_own, e1, e2, e3, e4, e5, e6, e13, e14, eL, eH]
    exact hend
  obtain ⟨b1, o1, ac1, e, c0, c1, c2, c3', c4, c5, c6, c7, c8⟩ := rep_cells hv hlt
  cases e
  have hlc : j < cnt.length := by omega
  have hlm : j < mst.length := by omega
  obtain ⟨cb, co, rfl, g1⟩ := hc3d j _ (bools_get hlc)
  obtain ⟨mb, mo, rfl, g2⟩ := hm3d j _ (bools_get hlm)
  have hw : IntKind.i64.wrap ((j : Int) + 1) = (j : Int) + 1 := wrap_i64 (by omega) (by omega)
  have hmem : x.reps[j] ∈ x.reps := List.getElem_mem hlt
  have hps := hHo _ hmem
  have hrw : 0 ≤ x.reps[j].w ∧ x.reps[j].w ≤ 100 := by
    have := hd12.2 _ hmem
    unfold repOk weightOk at this
    simp only [Bool.and_eq_true] at this
    have h := this.1.2
    split at h
    · have : x.reps[j].w = 0 := by simpa using h
      omega
    · simp only [Bool.and_eq_true, decide_eq_true_eq] at h; omega
  have hstep : ownGo x.ch.w i k (x.reps.drop j) (cnt.drop j) (mst.drop j) v = if cnt[j] && x.reps[j].tick == (k : Int) && !holdsM x.ch.w x.reps[j] i then (if mst[j] then neverR else ownGo x.ch.w i k (x.reps.drop (j + 1)) (cnt.drop (j + 1)) (mst.drop (j + 1)) (v + x.reps[j].w)) else ownGo x.ch.w i k (x.reps.drop (j + 1)) (cnt.drop (j + 1)) (mst.drop (j + 1)) v := by
    rw [List.drop_eq_getElem_cons hlt, List.drop_eq_getElem_cons hlc, List.drop_eq_getElem_cons hlm]
    rfl
  generalize hq : x.reps[j] = q at *
  generalize hcj : cnt[j] = cj at *
  generalize hmj : mst[j] = mj at *
  simp only [hcell, repV] at c0 c1 c2 c3' c4 c5 c6 c7 c8 hps g1 g2
  have hv1 : IntKind.i64.wrap (v + q.w) = v + q.w := wrap_i64 (by omega) (by omega)
  cases cj with
  | false =>
    simp [ownL3, SC.loops, sf_cobleref03_own, e1, e2, e3, e4, e5, e6, e13, e14, eL, eH, hlt, hlc, c0, c1, c2, c3', c4, c5, c6, c7, c8, g1, hw]
    exact ⟨_, by omega, j + 1, by omega, rfl, em.symm, ec3.symm, em3.symm, by omega, hL.symm, v0, by omega, by rw [← ev, hstep]; simp⟩
  | true =>
  cases ht : (q.tick == (k : Int)) with
  | false =>
    have ht' : (q.tick != (k : Int)) = true := by rw [bne, ht]; rfl
    simp [ownL3, SC.loops, sf_cobleref03_own, e1, e2, e3, e4, e5, e6, e13, e14, eL, eH, hlt, hlc, c0, c1, c2, c3', c4, c5, c6, c7, c8, g1, hw, ht']
    exact ⟨_, by omega, j + 1, by omega, rfl, em.symm, ec3.symm, em3.symm, by omega, hL.symm, v0, by omega, by rw [← ev, hstep]; rw [ht]; simp⟩
  | true =>
  have ht' : (q.tick != (k : Int)) = false := by rw [bne, ht]; rfl
  cases hh : holdsM x.ch.w q i with
  | true =>
    rw [hh] at hps
    simp [ownL3, SC.loops, sf_cobleref03_own, e1, e2, e3, e4, e5, e6, e13, e14, eL, eH, hlt, hlc, c0, c1, c2, c3', c4, c5, c6, c7, c8, g1, hw, ht', hps]
    exact ⟨_, by omega, j + 1, by omega, rfl, em.symm, ec3.symm, em3.symm, by omega, hL.symm, v0, by omega, by rw [← ev, hstep]; rw [ht, hh]; simp⟩
  | false =>
  rw [hh] at hps
  cases mj with
  | true =>
    simp [ownL3, SC.loops, sf_cobleref03_own, e1, e2, e3, e4, e5, e6, e13, e14, eL, eH, hlt, hlc, hlm, c0, c1, c2, c3', c4, c5, c6, c7, c8, g1, g2, hw, ht', hps]
    exact ⟨rfl, by rw [← ev, hstep, ht, hh]; simp⟩
  | false =>
    simp [ownL3, SC.loops, sf_cobleref03_own, e1, e2, e3, e4, e5, e6, e13, e14, eL, eH, hlt, hlc, hlm, c0, c1, c2, c3', c4, c5, c6, c7, c8, g1, g2, hw, ht', hps, hv1]
    exact ⟨_, by omega, j + 1, by omega, rfl, em.symm, ec3.symm, em3.symm, by omega, hL.symm, by omega, by omega, by rw [← ev, hstep]; rw [ht, hh]; simp⟩
theorem run_own (x : Ds) (hok : ChOk x.ch) (hdo : dsOk x = true) (lim : Nat) (H : AH) (d t s r m c3 m3 : Value) (h : DsIn H x d t s r) (hm : Tab H m (mapM x.ch)) (cnt mst : List Bool) (hcl : cnt.length = x.reps.length) (hml : mst.length = x.reps.length) (hc3 : Sl H c3 cnt.length (bools cnt)) (hm3 : Sl H m3 mst.length (bools mst))
    {i k : Nat} (hi : i < x.ch.cells) (hk : k < x.ch.ticks) :
    apL Tryz.prog pf (.func (.func 93) #[] #[]) [dsV x d t s r, m, c3, m3, .int .i64 i, .int .i64 k] lim H = some (.int .i64 (ownM x cnt mst i k), H) := by
  rw [apL_func _ _ _ _ _ _ (by rfl), sf_cobleref03_own_eq]
  have hM := fun lim => run_May x hok lim H d t s r h hi hk
  have h0 := h
  have hm0 := hm
  have hc0 := hc3
  have hmm := hm3
  obtain ⟨⟨⟨da, dc, ed, _⟩, ⟨ta, tc, et, _⟩, ⟨sa, sc, es, _⟩, _, htl, _⟩, ⟨ra, rc, er, _⟩, _⟩ := h
  obtain ⟨ma, mc, em⟩ : ∃ a c, m = .slice a x.ch.cells c := by
    obtain ⟨rv, _, ⟨a, c, e, _⟩, _⟩ := hm0
    exact ⟨a, c, by rw [e]; simp [mapM]⟩
  obtain ⟨c3a, c3c, ec3, _⟩ := hc0
  obtain ⟨m3a, m3c, em3, _⟩ := hmm
  simp only [dsV, ed, et, es, er] at hM
  cases hy : x.ch.may x.g i k with
  | false => simp [sf_cobleref03_own, dsV, ed, et, es, er, em, ec3, em3, hM, hy, ownM, neverR, pf_pure, pureF]
  | true =>
    simp [sf_cobleref03_own, dsV, ed, et, es, er, em, ec3, em3, hM, hy, ownM]
    generalize hS : ({ t := _, L := _, H := _, lim := _, rd := _ } : St) = S
    obtain ⟨⟨e, s1⟩, hr, q2, q3⟩ := own_loop x hok hdo H d t s r m c3 m3 h0 hm cnt mst hcl hml hc3 hm3 hi hk S (by subst hS; simp [em]) (by subst hS; simp [ec3]) (by subst hS; simp [em3]) (by subst hS; simp) (by subst hS; simp) (by subst hS; simp) (by subst hS; simp) (by subst hS; simp) (by subst hS; simp [ed, et, es, er]) (by subst hS; rfl)
    simp [ownL3, SC.loops, sf_cobleref03_own] at hr
    rw [hr]
    simp only at q2 q3
    rcases q3 with ⟨rfl, k1⟩ | ⟨rfl, k1, k2⟩
    · simp [k1, q2, pf_pure, pureF]
    · simp [k1, k2, q2, pf_pure, pureF]
end Go.Proofs.YtmdnpaboaelkeaaGreatDoor
namespace Go.Proofs.YtmdnpaboaelkeaaGreatDoor
open Go Go.RowKit
def bestOf (p : Nat → Bool) (f : Nat → Int) : Nat → Int
  | 0 => neverR
  | k + 1 => if p k then min (bestOf p f k) (f k) else bestOf p f k
def hops (x : Ds) (i k : Nat) : Bool := decide (apt x.ch.w i k ≤ x.pace)
def rowsLoop2 : SC := sf_cobleref03_rows.body.loops.tail.tail.headD .skip
theorem min_val (a b : Int) : (if b < a then b else a) = min a b := by rw [Int.min_def]; split <;> split <;> omega
set_option maxHeartbeats 1000000 in
theorem rows_inner (x : Ds) (hok : ChOk x.ch) (H : AH) (d t s r m : Value) (hm : Tab H m (mapM x.ch)) (nx : List Int) (hn : nx.length = x.ch.cells) {i k lb rb T lc : Nat} (hi : i < x.ch.cells) (hk : k + 1 < T) (hl : hcell H lb (k + 1) = some (.slice (some ⟨rb, 0, none⟩) x.ch.cells x.ch.cells)) (hr : H[rb]? = some (.rw 1 (ints nx))) (S : St)
    (h1 : tget S.t 1 = m) (h4 : tget S.t 4 = .pointer (some ⟨4, 0, some 0⟩)) (h10 : tget S.t 10 = .slice (some ⟨lb, 0, none⟩) T lc) (h11 : tget S.t 11 = .int .i64 k) (h12 : tget S.t 12 = .int .i64 i) (h14 : tget S.t 14 = .int .i64 neverR) (h15 : tget S.t 15 = .int .i64 0) (hT : T < 2 ^ 62)
    (hL : S.L = [(4, 0, .cells [.int .i64 x.ch.w, .int .i64 x.ch.h, d, t, s, .int .i64 x.g, .int .i64 x.pace, r])]) (hH : S.H = H) :
    ∃ q, exL Tryz.prog pf (.loop rowsLoop2) S = some q ∧ q.1 = .exit 4 ∧ q.2.H = H ∧ q.2.L = S.L ∧ q.2.lim = S.lim ∧ tget q.2.t 14 = .int .i64 (bestOf (hops x i) (fun j => nx.getD j 0) x.ch.cells) ∧
      tget q.2.t 1 = m ∧ tget q.2.t 2 = tget S.t 2 ∧ tget q.2.t 3 = tget S.t 3 ∧ tget q.2.t 4 = tget S.t 4 ∧ tget q.2.t 9 = tget S.t 9 ∧ tget q.2.t 10 = tget S.t 10 ∧ tget q.2.t 11 = tget S.t 11 ∧ tget q.2.t 12 = tget S.t 12 ∧ tget q.2.t 13 = tget S.t 13 := by
  obtain ⟨ma, mc, em⟩ : ∃ a c, m = .slice a x.ch.cells c := by
    obtain ⟨rv, _, ⟨a, c, e, _⟩, _⟩ := hm
    exact ⟨a, c, by rw [e]; simp [mapM]⟩
  obtain ⟨m0, m1, m2⟩ := hok.mul
  refine loop_rule (I := fun n s' => ∃ j, j ≤ x.ch.cells ∧ n = x.ch.cells - j ∧ tget s'.t 15 = .int .i64 j ∧ tget s'.t 14 = .int .i64 (bestOf (hops x i) (fun j => nx.getD j 0) j) ∧ s'.H = H ∧ s'.L = S.L ∧ s'.lim = S.lim ∧
      tget s'.t 1 = m ∧ tget s'.t 2 = tget S.t 2 ∧ tget s'.t 3 = tget S.t 3 ∧ tget s'.t 4 = tget S.t 4 ∧ tget s'.t 9 = tget S.t 9 ∧ tget s'.t 10 = tget S.t 10 ∧ tget s'.t 11 = tget S.t 11 ∧ tget s'.t 12 = tget S.t 12 ∧ tget s'.t 13 = tget S.t 13) ?_ x.ch.cells S
    ⟨0, by omega, by omega, h15, h14, hH, rfl, rfl, h1, rfl, rfl, rfl, rfl, rfl, rfl, rfl, rfl⟩
  rintro n s' ⟨j, hj, rfl, e15, e14, eH, eL, el, e1, e2, e3, e4, e9, e10, e11, e12, e13⟩
  rw [hL] at eL
  rw [h4] at e4
  rw [h10] at e10
  rw [h11] at e11
  rw [h12] at e12
  by_cases hlt : j < x.ch.cells
  rotate_left
  · have : j = x.ch.cells := by omega
    subst this
    rw [em] at e1
    simp [rowsLoop2, SC.loops, sf_cobleref03_rows, e1, e2, e3, e4, e9, e10, e11, e12, e13, e14, e15, eL, eH, el, hL, h4, h10, h11, h12]
    exact em.symm
  obtain ⟨b, o, cp, b', o', c', em2, g1, g2⟩ := map_cell hok hm hi hlt
  rw [em2] at e1
  have hw : IntKind.i64.wrap ((j : Int) + 1) = (j : Int) + 1 := wrap_i64 (by omega) (by omega)
  have hw2 : IntKind.i64.wrap ((k : Int) + 1) = ((k + 1 : Nat) : Int) := wrap_i64 (by omega) (by omega)
  have hrow : hcell H rb j = some (.int .i64 (nx.getD j 0)) := by
    simp only [hcell, hr]
    have : j < nx.length := by omega
    simp [ints, this]
  simp only [hcell] at g1 g2 hl hrow
  have hb : bestOf (hops x i) (fun j => nx.getD j 0) (j + 1) = if hops x i j then min (bestOf (hops x i) (fun j => nx.getD j 0) j) (nx.getD j 0) else bestOf (hops x i) (fun j => nx.getD j 0) j := rfl
  generalize hB : bestOf (hops x i) (fun j => nx.getD j 0) j = B at *
  generalize hN : nx.getD j 0 = N at *
  by_cases hh : apt x.ch.w i j ≤ x.pace
  · have hp : hops x i j = true := by simp [hops, hh]
    rw [hp, if_pos rfl] at hb
    simp [-Int.natCast_add, rowsLoop2, SC.loops, sf_cobleref03_rows, e1, e2, e3, e4, e9, e10, e11, e12, e13, e14, e15, eL, eH, el, hL, h4, h10, h11, h12, hlt, hi, hk, g1, g2, hh, hw, hw2, hl, hrow]
    exact ⟨_, by omega, j + 1, by omega, rfl, by omega, (min_val B N).trans hb.symm, em2.symm⟩
  · have hp : hops x i j = false := by simp [hops, hh]
    rw [hp] at hb
    simp [-Int.natCast_add, rowsLoop2, SC.loops, sf_cobleref03_rows, e1, e2, e3, e4, e9, e10, e11, e12, e13, e14, e15, eL, eH, el, hL, h4, h10, h11, h12, hlt, hi, g1, g2, hh, hw]
    exact ⟨_, by omega, j + 1, by omega, rfl, by omega, hb.symm, em2.symm⟩
end Go.Proofs.YtmdnpaboaelkeaaGreatDoor
namespace Go.Proofs.YtmdnpaboaelkeaaGreatDoor
open Go Go.RowKit
theorem rep_w {x : Ds} (hdo : dsOk x = true) : x.reps.length ≤ 12 ∧ ∀ q ∈ x.reps, 0 ≤ q.w ∧ q.w ≤ 100 := by
  unfold dsOk at hdo
  simp only [Bool.and_eq_true, decide_eq_true_eq, List.all_eq_true] at hdo
  refine ⟨hdo.1.2, fun q hq => ?_⟩
  have := hdo.2 q hq
  unfold repOk weightOk at this
  simp only [Bool.and_eq_true] at this
  have h := this.1.2
  split at h
  · have : q.w = 0 := by simpa using h
    omega
  · simp only [Bool.and_eq_true, decide_eq_true_eq] at h; omega
theorem ownGo_bound (w : Int) (i t : Nat) : ∀ (l : List Rep) (cs ms : List Bool) (n : Int), (∀ q ∈ l, 0 ≤ q.w ∧ q.w ≤ 100) → 0 ≤ n → n + 100 * l.length ≤ neverR → 0 ≤ ownGo w i t l cs ms n ∧ ownGo w i t l cs ms n ≤ neverR
  | q :: l, c :: cs, m :: ms, n, hw, h0, h1 => by
    have hq := hw q (by simp)
    have h2 : n + 100 * l.length + 100 ≤ neverR := by simp only [List.length_cons] at h1; omega
    unfold ownGo
    split
    · split
      · exact ⟨by unfold neverR; omega, Int.le_refl _⟩
      · exact ownGo_bound w i t l cs ms (n + q.w) (fun z hz => hw z (by simp [hz])) (by omega) (by omega)
    · exact ownGo_bound w i t l cs ms n (fun z hz => hw z (by simp [hz])) h0 (by omega)
  | [], cs, ms, n, _, h0, h1 => by
    have : ownGo w i t [] cs ms n = n := by cases cs <;> cases ms <;> rfl
    rw [this]; simp at h1; exact ⟨h0, h1⟩
  | q :: l, [], ms, n, _, h0, h1 => by
    have : ownGo w i t (q :: l) [] ms n = n := by cases ms <;> rfl
    rw [this]; simp only [List.length_cons] at h1; exact ⟨h0, by omega⟩
  | q :: l, c :: cs, [], n, _, h0, h1 => by
    have : ownGo w i t (q :: l) (c :: cs) [] n = n := rfl
    rw [this]; simp only [List.length_cons] at h1; exact ⟨h0, by omega⟩
theorem ownM_bound {x : Ds} (hdo : dsOk x = true) (cnt mst : List Bool) (i t : Nat) : 0 ≤ ownM x cnt mst i t ∧ ownM x cnt mst i t ≤ neverR := by
  obtain ⟨h1, h2⟩ := rep_w hdo
  unfold ownM
  split
  · exact ownGo_bound _ _ _ _ _ _ _ h2 (Int.le_refl _) (by unfold neverR; omega)
  · unfold neverR; omega
theorem bestOf_bound (p : Nat → Bool) (f : Nat → Int) : ∀ k, (∀ j, j < k → 0 ≤ f j) → 0 ≤ bestOf p f k ∧ bestOf p f k ≤ neverR
  | 0, _ => by unfold bestOf neverR; omega
  | k + 1, h => by
    have ih := bestOf_bound p f k fun j hj => h j (by omega)
    have := h k (by omega)
    unfold bestOf
    split <;> omega
def valR (x : Ds) (cnt mst : List Bool) (k : Nat) (nx : List Int) (i : Nat) : Int :=
  if k + 1 < x.ch.ticks ∧ ownM x cnt mst i k < neverR then min neverR (ownM x cnt mst i k + bestOf (hops x i) (fun j => nx.getD j 0) x.ch.cells) else ownM x cnt mst i k
def rowN (x : Ds) (cnt mst : List Bool) (k : Nat) (nx : List Int) : List Int := (List.range x.ch.cells).map (valR x cnt mst k nx)
def partN (f : Nat → Int) (n i : Nat) : List Int := (List.range i).map f ++ List.replicate (n - i) 0
theorem partN_len {f : Nat → Int} {n i : Nat} (h : i ≤ n) : (partN f n i).length = n := by simp [partN]; omega
theorem partN_set {f : Nat → Int} {n i : Nat} (h : i < n) : (partN f n i).set i (f i) = partN f n (i + 1) := by
  unfold partN
  rw [List.set_append_right _ _ (by simp)]
  have : n - i = (n - (i + 1)) + 1 := by omega
  rw [this, List.replicate_succ]
  simp [List.range_succ]
theorem partN_end {f : Nat → Int} {n : Nat} : partN f n n = (List.range n).map f := by simp [partN]
def rowsLoop1 : SC := sf_cobleref03_rows.body.loops.tail.headD .skip
set_option maxHeartbeats 2000000 in
theorem rows_middle (x : Ds) (hok : ChOk x.ch) (hdo : dsOk x = true) (H0 A : AH) (d t s r m c3 m3 : Value) (h : DsIn H0 x d t s r) (hm : Tab H0 m (mapM x.ch)) (cnt mst : List Bool) (hcl : cnt.length = x.reps.length) (hml : mst.length = x.reps.length) (hc3 : Sl H0 c3 cnt.length (bools cnt)) (hm3 : Sl H0 m3 mst.length (bools mst)) (hA : Aft H0 A)
    {k lb rb lc : Nat} (hk : k < x.ch.ticks) (rv : List Value) (hlb : A[lb]? = some (.rw 1 rv)) (hrk : rv[k]? = some (.slice (some ⟨rb, 0, none⟩) x.ch.cells x.ch.cells)) (hrb : A[rb]? = some (.rw 1 (ints (partN (fun _ => 0) x.ch.cells 0)))) (hrb0 : H0.length ≤ rb) (hlr : lb ≠ rb) (nx : List Int)
    (hnx : k + 1 < x.ch.ticks → nx.length = x.ch.cells ∧ (∀ y ∈ nx, 0 ≤ y) ∧ ∃ rb', rb' ≠ rb ∧ rv[k + 1]? = some (.slice (some ⟨rb', 0, none⟩) x.ch.cells x.ch.cells) ∧ A[rb']? = some (.rw 1 (ints nx))) (S : St) (hlim : S.lim ≤ H0.length)
    (h1 : tget S.t 1 = m) (h2 : tget S.t 2 = c3) (h3 : tget S.t 3 = m3) (h4 : tget S.t 4 = .pointer (some ⟨4, 0, some 0⟩)) (h9 : tget S.t 9 = .int .i64 x.ch.ticks) (h10 : tget S.t 10 = .slice (some ⟨lb, 0, none⟩) x.ch.ticks lc) (h11 : tget S.t 11 = .int .i64 k) (h12 : tget S.t 12 = .int .i64 0)
    (hL : S.L = [(4, 0, .cells [.int .i64 x.ch.w, .int .i64 x.ch.h, d, t, s, .int .i64 x.g, .int .i64 x.pace, r])]) (hH : S.H = A) :
    ∃ q, exL Tryz.prog pf (.loop rowsLoop1) S = some q ∧ q.1 = .exit 2 ∧ q.2.L = S.L ∧ q.2.lim = S.lim ∧ q.2.H = A.set rb (.rw 1 (ints (rowN x cnt mst k nx))) ∧ tget q.2.t 1 = m ∧ tget q.2.t 2 = c3 ∧ tget q.2.t 3 = m3 ∧ tget q.2.t 4 = tget S.t 4 ∧ tget q.2.t 9 = tget S.t 9 ∧ tget q.2.t 10 = tget S.t 10 ∧ tget q.2.t 11 = tget S.t 11 := by
  obtain ⟨ma, mc, em⟩ : ∃ a c, m = .slice a x.ch.cells c := by
    obtain ⟨rv, _, ⟨a, c, e, _⟩, _⟩ := hm
    exact ⟨a, c, by rw [e]; simp [mapM]⟩
  obtain ⟨m0, m1, m2⟩ := hok.mul
  have htk : x.ch.ticks ≤ 60 := hok.2.2.2.1.2
  have hrbl : rb < A.length := (List.getElem?_eq_some_iff.1 hrb).1
  have hp0 : partN (fun _ => 0) x.ch.cells 0 = partN (valR x cnt mst k nx) x.ch.cells 0 := by simp [partN]
  refine loop_rule (I := fun n s' => ∃ i, i ≤ x.ch.cells ∧ n = x.ch.cells - i ∧ tget s'.t 12 = .int .i64 i ∧ s'.H = A.set rb (.rw 1 (ints (partN (valR x cnt mst k nx) x.ch.cells i))) ∧ s'.L = S.L ∧ s'.lim = S.lim ∧
      tget s'.t 1 = m ∧ tget s'.t 2 = c3 ∧ tget s'.t 3 = m3 ∧ tget s'.t 4 = tget S.t 4 ∧ tget s'.t 9 = tget S.t 9 ∧ tget s'.t 10 = tget S.t 10 ∧ tget s'.t 11 = tget S.t 11) ?_ x.ch.cells S
    ⟨0, by omega, by omega, h12, by rw [hH, ← hp0]; exact (List.ext_getElem? fun j => by
        by_cases e : rb = j
        · subst e; rw [List.getElem?_set_self hrbl, hrb]
        · rw [List.getElem?_set_ne e]), rfl, rfl, h1, h2, h3, rfl, rfl, rfl, rfl⟩
  rintro n s' ⟨i, hi, rfl, e12, eH, eL, el, e1, e2, e3, e4, e9, e10, e11⟩
  obtain ⟨B, hB⟩ : ∃ B, s'.H = B := ⟨_, rfl⟩
  have eB : B = A.set rb (.rw 1 (ints (partN (valR x cnt mst k nx) x.ch.cells i))) := hB.symm.trans eH
  have hAB : Aft H0 B := by rw [eB]; exact hA.set hrb0 _
  have hO := fun (hlt : i < x.ch.cells) lim => run_own x hok hdo lim B d t s r m c3 m3 (h.ext hAB.ext) (hm.ext hAB.ext) cnt mst hcl hml (hc3.ext hAB.ext) (hm3.ext hAB.ext) hlt hk
  have hob := ownM_bound hdo cnt mst i k
  rw [hL] at eL
  rw [h4] at e4
  rw [h9] at e9
  rw [h10] at e10
  rw [h11] at e11
  have hmB := hm.ext hAB.ext
  obtain ⟨c3a, c3c, ec3, _⟩ := hc3
  obtain ⟨m3a, m3c, em3, _⟩ := hm3
  rw [ec3] at e2
  rw [em3] at e3
  obtain ⟨⟨⟨da, dc, ed, _⟩, ⟨ta, tc, et, _⟩, ⟨sa, sc, es, _⟩, _, htl, _⟩, ⟨ra, rc, er, _⟩, _⟩ := h
  by_cases hlt : i < x.ch.cells
  rotate_left
  · have : i = x.ch.cells := by omega
    subst this
    rw [em] at e1
    simp [rowsLoop1, SC.loops, sf_cobleref03_rows, e1, e2, e3, e4, e9, e10, e11, e12, eL, hB, el, hL, h4, h9, h10, h11]
    exact ⟨by rw [eB, partN_end]; rfl, em.symm, ec3.symm, em3.symm⟩
  have hO := fun lim => hO hlt lim
  have hlbB : B[lb]? = some (.rw 1 rv) := by rw [eB, List.getElem?_set_ne (Ne.symm hlr), hlb]
  have hrbB : B[rb]? = some (.rw 1 (ints (partN (valR x cnt mst k nx) x.ch.cells i))) := by rw [eB, List.getElem?_set_self hrbl]
  have hrvl : k < rv.length := (List.getElem?_eq_some_iff.1 hrk).1
  have hw : IntKind.i64.wrap ((i : Int) + 1) = (i : Int) + 1 := wrap_i64 (by omega) (by omega)
  have hwT : IntKind.i64.wrap ((x.ch.ticks : Int) - 1) = (x.ch.ticks : Int) - 1 := wrap_i64 (by omega) (by omega)
  have hset := partN_set (f := valR x cnt mst k nx) hlt
  have hpl := partN_len (f := valR x cnt mst k nx) hi
  have hlrb : S.lim ≤ rb := by omega
  have hi1 : i + 1 ≤ x.ch.cells := hlt
  have eset : ∀ y, B.set rb y = A.set rb y := fun y => by rw [eB, List.set_set]
  have hv : valR x cnt mst k nx i = if k + 1 < x.ch.ticks ∧ ownM x cnt mst i k < neverR then min neverR (ownM x cnt mst i k + bestOf (hops x i) (fun j => nx.getD j 0) x.ch.cells) else ownM x cnt mst i k := rfl
  rw [em] at e1 hO
  rw [ec3, em3] at hO
  simp only [dsV, ed, et, es, er] at hO
  rw [ed, et, es, er] at eL
  generalize hOM : ownM x cnt mst i k = o at *
  generalize hP : partN (valR x cnt mst k nx) x.ch.cells i = P at *
  have hrvk : rv[k]'hrvl = .slice (some ⟨rb, 0, none⟩) x.ch.cells x.ch.cells := by
    rw [List.getElem?_eq_getElem hrvl] at hrk; exact Option.some.inj hrk
  have hbase : ∀ v, v = valR x cnt mst k nx i → A.set rb (.rw 1 (ints (P.set i v))) = A.set rb (.rw 1 (ints (partN (valR x cnt mst k nx) x.ch.cells (i + 1)))) := fun v e => by rw [e, hset]
  by_cases hc : (k : Int) < (x.ch.ticks : Int) - 1 ∧ o < neverR
  · obtain ⟨hc1, hc2⟩ := hc
    have hkT : k + 1 < x.ch.ticks := by omega
    obtain ⟨hnl, hn0, rb', hne, hrk1, hrb'⟩ := hnx hkT
    have hrb'B : B[rb']? = some (.rw 1 (ints nx)) := by rw [eB, List.getElem?_set_ne (Ne.symm hne), hrb']
    have hcB : hcell B lb (k + 1) = some (.slice (some ⟨rb', 0, none⟩) x.ch.cells x.ch.cells) := by
      simp only [hcell, hlbB]
      exact hrk1
    have hbb := bestOf_bound (hops x i) (fun j => nx.getD j 0) x.ch.cells fun j hj => by
      show 0 ≤ nx.getD j 0
      rw [List.getD_eq_getElem?_getD, List.getElem?_eq_getElem (by omega)]
      exact hn0 _ (List.getElem_mem _)
    have hvo : min neverR (o + bestOf (hops x i) (fun j => nx.getD j 0) x.ch.cells) = valR x cnt mst k nx i := by rw [hv, if_pos ⟨hkT, hc2⟩]
    have hc2' : o < 1073741824 := hc2
    simp [rowsLoop1, SC.loops, sf_cobleref03_rows, e1, e2, e3, e4, e9, e10, e11, e12, eL, hB, el, hL, h4, h9, h10, h11, hlt, hO, hwT, hc1, hc2']
    generalize hS2 : ({ t := _, L := _, H := _, lim := _, rd := _ } : St) = S2
    obtain ⟨⟨e, s2⟩, hr, z1, z2, z3, z4, z5, z6, z7, z8, z9, z10, z11, z12, z13, z14⟩ := rows_inner x hok B d t s r m hmB nx hnl (T := x.ch.ticks) (lc := lc) hlt hkT hcB hrb'B S2 (by subst hS2; simp [e1, em]) (by subst hS2; simp [e4]) (by subst hS2; simp [e10]) (by subst hS2; simp [e11]) (by subst hS2; simp [e12]) (by subst hS2; simp [neverR]) (by subst hS2; simp) (by omega) (by subst hS2; simp [ed, et, es, er]) (by subst hS2; rfl)
    simp [rowsLoop2, SC.loops, sf_cobleref03_rows] at hr
    rw [hr]
    simp only at z1 z2 z3 z4 z5 z6 z7 z8 z9 z10 z11 z12 z13 z14
    subst z1
    have y2 : tget S2.t 2 = .slice c3a cnt.length c3c := by subst hS2; simp [e2]
    have y3 : tget S2.t 3 = .slice m3a mst.length m3c := by subst hS2; simp [e3]
    have y4 : tget S2.t 4 = .pointer (some ⟨4, 0, some 0⟩) := by subst hS2; simp [e4]
    have y9 : tget S2.t 9 = .int .i64 x.ch.ticks := by subst hS2; simp [e9]
    have y10 : tget S2.t 10 = .slice (some ⟨lb, 0, none⟩) x.ch.ticks lc := by subst hS2; simp [e10]
    have y11 : tget S2.t 11 = .int .i64 k := by subst hS2; simp [e11]
    have y12 : tget S2.t 12 = .int .i64 i := by subst hS2; simp [e12]
    have y13 : tget S2.t 13 = .int .i64 o := by subst hS2; simp
    have yL : S2.L = S.L := by subst hS2; simp [hL, ed, et, es, er]
    have yl : S2.lim = S.lim := by subst hS2; simp [el]
    rw [y2] at z7
    rw [y3] at z8
    rw [y4] at z9
    rw [y9] at z10
    rw [y10] at z11
    rw [y11] at z12
    rw [y12] at z13
    rw [y13] at z14
    rw [yL] at z3
    rw [yl] at z4
    rw [em] at z6
    generalize hbst : bestOf (hops x i) (fun j => nx.getD j 0) x.ch.cells = bst at *
    have hwb : IntKind.i64.wrap (o + bst) = o + bst := by unfold neverR at hob hbb; exact wrap_i64 (by omega) (by omega)
    simp [z2, z3, z4, z5, z6, z7, z8, z9, z10, z11, z12, z13, z14, hwb, hlbB, hrbB, hrvk, hrvl, hk, hlt, hw, ints_length, hpl, hlrb, hi1, ints_set, and_assoc]
    exact ⟨_, by omega, i + 1, by omega, rfl, by omega, (eset _).trans (hbase _ ((min_val neverR (o + bst)).trans hvo)), hL, em.symm, ec3.symm, em3.symm⟩
  · have hvo : o = valR x cnt mst k nx i := by
      rw [hv, if_neg]
      intro hh
      exact hc ⟨by omega, hh.2⟩
    by_cases hc1 : (k : Int) < (x.ch.ticks : Int) - 1
    · have hc2 : ¬ o < 1073741824 := fun e => hc ⟨hc1, e⟩
      simp [rowsLoop1, SC.loops, sf_cobleref03_rows, e1, e2, e3, e4, e9, e10, e11, e12, eL, hB, el, hL, h4, h9, h10, h11, hlt, hO, hwT, hc1, hc2, hlbB, hrbB, hrvk, hrvl, hk, hw, ints_length, hpl, hlrb, hi1, ints_set]
      exact ⟨_, by omega, i + 1, by omega, rfl, by omega, (eset _).trans (hbase o hvo), ⟨ed.symm, et.symm, es.symm, er.symm⟩, em.symm, ec3.symm, em3.symm⟩
    · simp [rowsLoop1, SC.loops, sf_cobleref03_rows, e1, e2, e3, e4, e9, e10, e11, e12, eL, hB, el, hL, h4, h9, h10, h11, hlt, hO, hwT, hc1, hlbB, hrbB, hrvk, hrvl, hk, hw, ints_length, hpl, hlrb, hi1, ints_set]
      exact ⟨_, by omega, i + 1, by omega, rfl, by omega, (eset _).trans (hbase o hvo), ⟨ed.symm, et.symm, es.symm, er.symm⟩, em.symm, ec3.symm, em3.symm⟩
end Go.Proofs.YtmdnpaboaelkeaaGreatDoor
namespace Go.Proofs.YtmdnpaboaelkeaaGreatDoor
open Go Go.RowKit
def rowsM (x : Ds) (cnt mst : List Bool) : Nat → List (List Int)
  | 0 => []
  | s + 1 => rowN x cnt mst (x.ch.ticks - 1 - s) ((rowsM x cnt mst s).headD []) :: rowsM x cnt mst s
theorem rowsM_len (x : Ds) (cnt mst : List Bool) : ∀ s, (rowsM x cnt mst s).length = s
  | 0 => rfl
  | s + 1 => by simp [rowsM, rowsM_len x cnt mst s]
theorem rowN_len (x : Ds) (cnt mst : List Bool) (k : Nat) (nx : List Int) : (rowN x cnt mst k nx).length = x.ch.cells := by simp [rowN]
theorem valR_bound {x : Ds} (hdo : dsOk x = true) (cnt mst : List Bool) (k : Nat) (nx : List Int) (hn : ∀ y ∈ nx, 0 ≤ y) (i : Nat) : 0 ≤ valR x cnt mst k nx i ∧ valR x cnt mst k nx i ≤ neverR := by
  have ho := ownM_bound hdo cnt mst i k
  have hb := bestOf_bound (hops x i) (fun j => nx.getD j 0) x.ch.cells fun j hj => by
    show 0 ≤ nx.getD j 0
    rw [List.getD_eq_getElem?_getD]
    cases h : nx[j]? with
    | none => simp
    | some y => exact hn y (List.mem_of_getElem? h)
  unfold valR
  split <;> omega
theorem rowsM_bound {x : Ds} (hdo : dsOk x = true) (cnt mst : List Bool) : ∀ s, ∀ l ∈ rowsM x cnt mst s, l.length = x.ch.cells ∧ ∀ y ∈ l, 0 ≤ y ∧ y ≤ neverR
  | 0, l, h => by simp [rowsM] at h
  | s + 1, l, h => by
    have ih := rowsM_bound hdo cnt mst s
    have hd : ∀ y ∈ (rowsM x cnt mst s).headD [], 0 ≤ y := by
      intro y hy
      cases hr : rowsM x cnt mst s with
      | nil => rw [hr] at hy; simp at hy
      | cons a b => rw [hr] at hy ih; exact ((ih a (by simp)).2 y hy).1
    rw [rowsM] at h
    rcases List.mem_cons.1 h with rfl | h
    · refine ⟨rowN_len .., fun y hy => ?_⟩
      unfold rowN at hy
      obtain ⟨i, _, rfl⟩ := List.mem_map.1 hy
      exact valR_bound hdo cnt mst _ _ hd i
    · exact ih l h
theorem headD_get {l : List (List Int)} (h : 0 < l.length) : l.headD [] = l[0] := by
  cases l with
  | nil => simp at h
  | cons a b => rfl
def rowsLoop0 : SC := sf_cobleref03_rows.body.loops.headD .skip
def RowsA (n0 lb T : Nat) (B : AH) (ls : List (List Int)) (s : Nat) : Prop :=
  ∃ rv : List Value, rv.length = T ∧ B[lb]? = some (.rw 1 rv) ∧ nlL rv = true ∧ ∀ j (h : j < ls.length), ∃ rb, n0 ≤ rb ∧ rb ≠ lb ∧ rv[T - s + j]? = some (.slice (some ⟨rb, 0, none⟩) ls[j].length ls[j].length) ∧ B[rb]? = some (.rw 1 (ints ls[j]))
set_option maxHeartbeats 2000000 in
theorem rows_outer (x : Ds) (hok : ChOk x.ch) (hdo : dsOk x = true) (H0 : AH) (d t s r m c3 m3 : Value) (h : DsIn H0 x d t s r) (hm : Tab H0 m (mapM x.ch)) (cnt mst : List Bool) (hcl : cnt.length = x.reps.length) (hml : mst.length = x.reps.length) (hc3 : Sl H0 c3 cnt.length (bools cnt)) (hm3 : Sl H0 m3 mst.length (bools mst))
    {lc : Nat} (S : St) (hlim : S.lim ≤ H0.length)
    (h1 : tget S.t 1 = m) (h2 : tget S.t 2 = c3) (h3 : tget S.t 3 = m3) (h4 : tget S.t 4 = .pointer (some ⟨4, 0, some 0⟩)) (h9 : tget S.t 9 = .int .i64 x.ch.ticks) (h10 : tget S.t 10 = .slice (some ⟨H0.length, 0, none⟩) x.ch.ticks lc) (h11 : tget S.t 11 = .int .i64 ((x.ch.ticks : Int) - 1))
    (hL : S.L = [(4, 0, .cells [.int .i64 x.ch.w, .int .i64 x.ch.h, d, t, s, .int .i64 x.g, .int .i64 x.pace, r])]) (hH : S.H = H0 ++ [.rw 1 (List.replicate x.ch.ticks (.slice none 0 0))]) :
    ∃ q, exL Tryz.prog pf (.loop rowsLoop0) S = some q ∧ q.1 = .exit 0 ∧ Aft H0 q.2.H ∧ tget q.2.t 10 = tget S.t 10 ∧ RowsA H0.length H0.length x.ch.ticks q.2.H (rowsM x cnt mst x.ch.ticks) x.ch.ticks := by
  obtain ⟨ma, mc, em⟩ : ∃ a c, m = .slice a x.ch.cells c := by
    obtain ⟨rv, _, ⟨a, c, e, _⟩, _⟩ := hm
    exact ⟨a, c, by rw [e]; simp [mapM]⟩
  obtain ⟨m0, m1, m2⟩ := hok.mul
  have htk : x.ch.ticks ≤ 60 := hok.2.2.2.1.2
  have hnlr : ∀ n : Nat, nlL (List.replicate n (Value.slice none 0 0)) = true := by
    intro n
    induction n with
    | zero => rfl
    | succ n ih => rw [List.replicate_succ]; unfold nlL; rw [ih]; simp
  refine loop_rule (I := fun n s' => ∃ i, i ≤ x.ch.ticks ∧ n = x.ch.ticks - i ∧ tget s'.t 11 = .int .i64 ((x.ch.ticks : Int) - 1 - i) ∧ s'.L = S.L ∧ s'.lim = S.lim ∧ Aft H0 s'.H ∧ RowsA H0.length H0.length x.ch.ticks s'.H (rowsM x cnt mst i) i ∧
      tget s'.t 1 = m ∧ tget s'.t 2 = c3 ∧ tget s'.t 3 = m3 ∧ tget s'.t 4 = tget S.t 4 ∧ tget s'.t 9 = tget S.t 9 ∧ tget s'.t 10 = tget S.t 10) ?_ x.ch.ticks S
    ⟨0, by omega, by omega, by rw [h11]; simp, rfl, rfl, by rw [hH]; exact (Aft.refl H0).push _, ⟨List.replicate x.ch.ticks (.slice none 0 0), by simp, by rw [hH, List.getElem?_append_right (Nat.le_refl _), Nat.sub_self]; rfl, hnlr _, fun j hj => by simp [rowsM] at hj⟩, h1, h2, h3, rfl, rfl, rfl⟩
  rintro n s' ⟨i, hi, rfl, e11, eL, el, eA, eR, e1, e2, e3, e4, e9, e10⟩
  obtain ⟨B, hB⟩ : ∃ B, s'.H = B := ⟨_, rfl⟩
  rw [hB] at eA eR
  rw [h4] at e4
  rw [h9] at e9
  rw [h10] at e10
  have h00 := h
  have hm00 := hm
  have hc00 := hc3
  have hmm00 := hm3
  obtain ⟨⟨⟨da, dc, ed, _⟩, ⟨ta, tc, et, _⟩, ⟨sa, sc, es, _⟩, _, htl, _⟩, ⟨ra, rc, er, _⟩, _⟩ := h
  obtain ⟨c3a, c3c, ec3, _⟩ := hc3
  obtain ⟨m3a, m3c, em3, _⟩ := hm3
  by_cases hlt : i < x.ch.ticks
  rotate_left
  · have : i = x.ch.ticks := by omega
    subst this
    have hneg : ¬ (0 : Int) ≤ (x.ch.ticks : Int) - 1 - x.ch.ticks := by omega
    have hneg' : ¬ ((x.ch.ticks : Int) - 1 - x.ch.ticks) ≥ 0 := hneg
    have hdec : decide ((0 : Int) ≤ (x.ch.ticks : Int) - 1 - x.ch.ticks) = false := by simpa using hneg
    simp [-Int.sub_nonneg, rowsLoop0, SC.loops, sf_cobleref03_rows, e11, hdec, h10, e10, hB]
    exact ⟨eA, eR⟩
  obtain ⟨k, hk⟩ : ∃ k : Nat, k = x.ch.ticks - 1 - i := ⟨_, rfl⟩
  have hkT : k < x.ch.ticks := by omega
  have hki : ((x.ch.ticks : Int) - 1 - i) = (k : Int) := by omega
  rw [hki] at e11
  obtain ⟨rv, hrl, hrb, hrn, hrr⟩ := eR
  have hlb : H0.length < B.length := (List.getElem?_eq_some_iff.1 hrb).1
  have hmx : x.ch.cells ≤ maxA := Nat.le_trans (show x.ch.cells ≤ 144 by omega) (by decide)
  have hkr : k + 1 ≤ rv.length := by omega
  have hSl : S.lim ≤ H0.length := hlim
  have hrbX : ∀ y : AH, (B ++ y)[H0.length]? = some (.rw 1 rv) := fun y => own_get hrb y
  rw [em] at e1
  rw [ec3] at e2
  rw [em3] at e3
  rw [hL, ed, et, es, er] at eL
  have hw1 : IntKind.i64.wrap ((k : Int) - 1) = (k : Int) - 1 := wrap_i64 (by omega) (by omega)
  simp [-oneC, oneC_slice, rowsLoop0, SC.loops, sf_cobleref03_rows, e1, e2, e3, e4, e9, e10, e11, eL, hB, el, hmx, zeros_ints, hrbX, hkT, hkr, hSl]
  generalize hS2 : ({ t := _, L := _, H := _, lim := _, rd := _ } : St) = S2
  obtain ⟨A, hA⟩ : ∃ A, A = (B ++ [ABlk.rw 1 (ints (List.replicate x.ch.cells 0))]).set H0.length (.rw 1 (rv.set k (.slice (some ⟨B.length, 0, none⟩) x.ch.cells x.ch.cells))) := ⟨_, rfl⟩
  have yH : S2.H = A := by subst hS2; simp [hA]
  have hAl : A.length = B.length + 1 := by rw [hA]; simp
  have aA : Aft H0 A := by rw [hA]; exact (eA.push _).set (Nat.le_refl _) _
  have alb : A[H0.length]? = some (.rw 1 (rv.set k (.slice (some ⟨B.length, 0, none⟩) x.ch.cells x.ch.cells))) := by rw [hA, List.getElem?_set_self (by simp; omega)]
  have arb : A[B.length]? = some (.rw 1 (ints (partN (fun _ => 0) x.ch.cells 0))) := by
    rw [hA, List.getElem?_set_ne (by omega), List.getElem?_append_right (Nat.le_refl _), Nat.sub_self]
    simp [partN]
  have aoth : ∀ b, b ≠ H0.length → b < B.length → A[b]? = B[b]? := fun b h1 h2 => by rw [hA, List.getElem?_set_ne (Ne.symm h1), List.getElem?_append_left h2]
  have hrk : (rv.set k (Value.slice (some ⟨B.length, 0, none⟩) x.ch.cells x.ch.cells))[k]? = some (.slice (some ⟨B.length, 0, none⟩) x.ch.cells x.ch.cells) := by rw [List.getElem?_set_self (by omega)]
  have hbd := rowsM_bound hdo cnt mst i
  have hlen := rowsM_len x cnt mst i
  obtain ⟨⟨e, s2⟩, hr, z1, z2, z3, z4, z5, z6, z7, z8, z9, z10, z11⟩ := rows_middle x hok hdo H0 A d t s r m c3 m3 h00 hm00 cnt mst hcl hml hc00 hmm00 aA (lc := lc) hkT _ alb hrk arb (by omega) (by omega) ((rowsM x cnt mst i).headD []) (fun hk1 => by
      have hi0 : 0 < i := by omega
      have hl0 : 0 < (rowsM x cnt mst i).length := by omega
      have hhd : (rowsM x cnt mst i).headD [] = (rowsM x cnt mst i)[0] := headD_get hl0
      obtain ⟨rb', q1, q2, q3, q4⟩ := hrr 0 hl0
      have hb := hbd _ (List.getElem_mem hl0)
      have hrb'l : rb' < B.length := (List.getElem?_eq_some_iff.1 q4).1
      rw [hhd]
      refine ⟨hb.1, fun y hy => (hb.2 y hy).1, rb', by omega, ?_, by rw [aoth rb' q2 hrb'l, q4]⟩
      rw [List.getElem?_set_ne (by omega), ← hb.1]
      have : x.ch.ticks - i + 0 = k + 1 := by omega
      rw [this] at q3
      exact q3) S2 (by subst hS2; simp [el]; exact hlim) (by subst hS2; simp [e1, em]) (by subst hS2; simp [e2, ec3]) (by subst hS2; simp [e3, em3]) (by subst hS2; simp [e4]) (by subst hS2; simp [e9]) (by subst hS2; simp [e10]) (by subst hS2; simp [e11]) (by subst hS2; simp) (by subst hS2; simp [ed, et, es, er]) yH
  simp [rowsLoop1, SC.loops, sf_cobleref03_rows] at hr
  rw [hr]
  simp only at z1 z2 z3 z4 z5 z6 z7 z8 z9 z10 z11
  subst z1
  have y4 : tget S2.t 4 = .pointer (some ⟨4, 0, some 0⟩) := by subst hS2; simp [e4]
  have y9 : tget S2.t 9 = .int .i64 x.ch.ticks := by subst hS2; simp [e9]
  have y10 : tget S2.t 10 = .slice (some ⟨H0.length, 0, none⟩) x.ch.ticks lc := by subst hS2; simp [e10]
  have y11 : tget S2.t 11 = .int .i64 k := by subst hS2; simp [e11]
  have yL : S2.L = S.L := by subst hS2; simp [hL, ed, et, es, er]
  have yl : S2.lim = S.lim := by subst hS2; simp [el]
  rw [y4] at z8
  rw [y9] at z9
  rw [y10] at z10
  rw [y11] at z11
  rw [yL] at z2
  rw [yl] at z3
  simp [z2, z3, z4, z5, z6, z7, z8, z9, z10, z11, hw1, h4, h9, h10, and_assoc]
  have hrow : rowsM x cnt mst (i + 1) = rowN x cnt mst k ((rowsM x cnt mst i).headD []) :: rowsM x cnt mst i := by rw [rowsM, ← hk]
  have hhd2 : (rowsM x cnt mst i).head?.getD [] = (rowsM x cnt mst i).headD [] := by cases rowsM x cnt mst i <;> rfl
  rw [hhd2]
  refine ⟨_, by omega, i + 1, by omega, rfl, by omega, aA.set (by omega) _, rv.set k (.slice (some ⟨B.length, 0, none⟩) x.ch.cells x.ch.cells), by simp [hrl], by rw [List.getElem?_set_ne (by omega), alb], ?_, fun j hj => ?_⟩
  · have := nlL_over (ws := [Value.slice (some ⟨B.length, 0, none⟩) x.ch.cells x.ch.cells]) (by simp) hrn k
    exact this
  · simp only [hrow] at hj ⊢
    cases j with
    | zero =>
      refine ⟨B.length, by omega, by omega, ?_, ?_⟩
      · have : x.ch.ticks - (i + 1) + 0 = k := by omega
        rw [this, hrk]
        simp [rowN_len]
      · rw [List.getElem?_set_self (by omega)]
        rfl
    | succ j =>
      have hj' : j < (rowsM x cnt mst i).length := by simpa using hj
      obtain ⟨rb, q1, q2, q3, q4⟩ := hrr j hj'
      have hrbl : rb < B.length := (List.getElem?_eq_some_iff.1 q4).1
      refine ⟨rb, q1, q2, ?_, ?_⟩
      · rw [List.getElem?_set_ne (by omega)]
        have : x.ch.ticks - (i + 1) + (j + 1) = x.ch.ticks - i + j := by omega
        rw [this]
        exact q3
      · rw [List.getElem?_set_ne (by omega), aoth rb q2 hrbl]
        exact q4
theorem RowsA.tab {n0 lb T : Nat} {B : AH} {ls : List (List Int)} (h : RowsA n0 lb T B ls T) (hl : ls.length = T) (c : Nat) : Tab B (.slice (some ⟨lb, 0, none⟩) T c) ls := by
  obtain ⟨rv, h1, h2, _, h4⟩ := h
  refine ⟨rv, by omega, ⟨_, c, by rw [hl], fun j y hy => ⟨lb, 0, rfl, by simp only [hcell, h2, Nat.zero_add]; exact hy⟩⟩, fun i hi hi' => ?_⟩
  obtain ⟨rb, _, _, q3, q4⟩ := h4 i hi
  rw [Nat.sub_self, Nat.zero_add, List.getElem?_eq_getElem hi'] at q3
  rw [Option.some.inj q3]
  exact ⟨_, _, rfl, fun j y hy => ⟨rb, 0, rfl, by simp only [hcell, q4, Nat.zero_add]; exact hy⟩⟩
theorem zeros_nilS : ∀ n : Nat, zeros [Value.slice none 0 0] n = List.replicate n (Value.slice none 0 0)
  | 0 => rfl
  | n + 1 => by simp only [zeros, zeros_nilS n, List.replicate_succ]; rfl
set_option maxHeartbeats 1000000 in
/-- The least doubt of the courses from each cell in each tick on. -/
theorem run_rows (x : Ds) (hok : ChOk x.ch) (hdo : dsOk x = true) (lim : Nat) (H : AH) (d t s r m c3 m3 : Value) (h : DsIn H x d t s r) (hm : Tab H m (mapM x.ch)) (cnt mst : List Bool) (hcl : cnt.length = x.reps.length) (hml : mst.length = x.reps.length) (hc3 : Sl H c3 cnt.length (bools cnt)) (hm3 : Sl H m3 mst.length (bools mst)) :
    ∃ v A, apL Tryz.prog pf (.func (.func 92) #[] #[]) [dsV x d t s r, m, c3, m3] lim H = some (v, A) ∧ Aft H A ∧ Tab A v (rowsM x cnt mst x.ch.ticks) := by
  rw [apL_func _ _ _ _ _ _ (by rfl), sf_cobleref03_rows_eq]
  have h00 := h
  have hm00 := hm
  have hc00 := hc3
  have hmm00 := hm3
  have htk : 1 ≤ x.ch.ticks ∧ x.ch.ticks ≤ 60 := hok.2.2.2.1
  obtain ⟨⟨⟨da, dc, ed, _⟩, ⟨ta, tc, et, _⟩, ⟨sa, sc, es, _⟩, _, htl, _⟩, ⟨ra, rc, er, _⟩, _⟩ := h
  obtain ⟨ma, mc, em⟩ : ∃ a c, m = .slice a x.ch.cells c := by
    obtain ⟨rv, _, ⟨a, c, e, _⟩, _⟩ := hm
    exact ⟨a, c, by rw [e]; simp [mapM]⟩
  obtain ⟨c3a, c3c, ec3, _⟩ := hc3
  obtain ⟨m3a, m3c, em3, _⟩ := hm3
  have hT : x.ch.tide.length = x.ch.ticks := rfl
  have hmx : x.ch.ticks ≤ maxA := Nat.le_trans (show x.ch.ticks ≤ 60 by omega) (by decide)
  have hw : IntKind.i64.wrap ((x.ch.ticks : Int) - 1) = (x.ch.ticks : Int) - 1 := wrap_i64 (by omega) (by omega)
  simp [sf_cobleref03_rows, dsV, ed, et, es, er, em, ec3, em3, hT, hmx, hw, zeros_nilS, pf_pure, pureF]
  generalize hS : ({ t := _, L := _, H := _, lim := _, rd := _ } : St) = S
  obtain ⟨⟨e, s1⟩, hr, q1, q2, q3, q4⟩ := rows_outer x hok hdo H d t s r m c3 m3 h00 hm00 cnt mst hcl hml hc00 hmm00 (lc := x.ch.ticks) S (by subst hS; simp) (by subst hS; simp [em]) (by subst hS; simp [ec3]) (by subst hS; simp [em3]) (by subst hS; simp) (by subst hS; simp) (by subst hS; simp) (by subst hS; simp) (by subst hS; simp [ed, et, es, er, hT]) (by subst hS; simp)
  simp [rowsLoop0, SC.loops, sf_cobleref03_rows] at hr
  rw [hr]
  simp only at q1 q2 q3 q4
  subst q1
  have y10 : tget S.t 10 = .slice (some ⟨H.length, 0, none⟩) x.ch.ticks x.ch.ticks := by subst hS; simp
  rw [y10] at q3
  simp [q3]
  exact ⟨_, _, ⟨rfl, rfl⟩, q2, q4.tab (rowsM_len ..) _⟩
end Go.Proofs.YtmdnpaboaelkeaaGreatDoor
namespace Go.Proofs.YtmdnpaboaelkeaaGreatDoor
open Go Go.RowKit
theorem zeros_bools : ∀ n : Nat, zeros [.bool false] n = bools (List.replicate n false)
  | 0 => rfl
  | n + 1 => by simp only [zeros, zeros_bools n, List.replicate_succ, bools, List.map_cons]; rfl
def fillB (so : Bool) (n i : Nat) : List Bool := List.replicate i so ++ List.replicate (n - i) false
theorem fillB_set {so : Bool} {n i : Nat} (h : i < n) : (fillB so n i).set i so = fillB so n (i + 1) := by
  unfold fillB
  rw [List.set_append_right _ _ (by simp)]
  have : n - i = (n - (i + 1)) + 1 := by omega
  rw [this, List.replicate_succ]
  simp [List.replicate_succ']
theorem fillB_len {so : Bool} {n i : Nat} (h : i ≤ n) : (fillB so n i).length = n := by simp [fillB]; omega
theorem bools_length (l : List Bool) : (bools l).length = l.length := by simp [bools]
theorem bools_set (l : List Bool) (i : Nat) (b : Bool) : (bools l).set i (.bool b) = bools (l.set i b) := by simp [bools, List.map_set]
def everyLoop : SC := sf_cobleref03_every.body.loops.headD .skip
theorem every_loop (n : Nat) (hn : n ≤ 12) (so : Bool) (H : AH) (S : St) (h1 : tget S.t 1 = .bool so) (h5 : tget S.t 5 = .slice (some ⟨H.length, 0, none⟩) n n) (h6 : tget S.t 6 = .int .i64 0) (hH : S.H = H ++ [.rw 1 (bools (fillB so n 0))]) (hlim : S.lim ≤ H.length) :
    ∃ q, exL Tryz.prog pf (.loop everyLoop) S = some q ∧ q.1 = .exit 0 ∧ q.2.H = H ++ [.rw 1 (bools (fillB so n n))] ∧ tget q.2.t 5 = tget S.t 5 := by
  refine loop_rule (I := fun m s' => ∃ i, i ≤ n ∧ m = n - i ∧ tget s'.t 1 = .bool so ∧ tget s'.t 5 = .slice (some ⟨H.length, 0, none⟩) n n ∧ tget s'.t 6 = .int .i64 i ∧ s'.lim = S.lim ∧ s'.H = H ++ [.rw 1 (bools (fillB so n i))]) ?_ n S
    ⟨0, by omega, by omega, h1, h5, h6, rfl, hH⟩
  rintro m s' ⟨i, hi, rfl, e1, e5, e6, el, eH⟩
  by_cases hlt : i < n
  rotate_left
  · have : i = n := by omega
    subst this
    simp [everyLoop, SC.loops, sf_cobleref03_every, e1, e5, e6, el, eH, h5]
  have hw1 : IntKind.i64.wrap ((i : Int) + 1) = (i : Int) + 1 := wrap_i64 (by omega) (by omega)
  have hfl : i + 1 ≤ (fillB so n i).length := by rw [fillB_len hi]; omega
  have hset := fillB_set (so := so) hlt
  obtain ⟨l1, hl1⟩ : ∃ l1, l1 = fillB so n i := ⟨_, rfl⟩
  rw [← hl1] at eH hfl hset
  simp [everyLoop, SC.loops, sf_cobleref03_every, e1, e5, e6, el, eH, h5, hlim, hlt, hw1, bools_length, hfl, bools_set]
  exact ⟨_, by omega, i + 1, by omega, rfl, by omega, by rw [hset]⟩
theorem run_every (x : Ds) (hl : x.reps.length ≤ 12) (so : Bool) (lim : Nat) (H : AH) (d t s r : Value) (h : DsIn H x d t s r) :
    apL Tryz.prog pf (.func (.func 49) #[] #[]) [dsV x d t s r, .bool so] lim H = some (.slice (some ⟨H.length, 0, none⟩) x.reps.length x.reps.length, H ++ [.rw 1 (bools (List.replicate x.reps.length so))]) := by
  rw [apL_func _ _ _ _ _ _ (by rfl), sf_cobleref03_every_eq]
  obtain ⟨⟨⟨da, dc, ed, _⟩, ⟨ta, tc, et, _⟩, ⟨sa, sc, es, _⟩, _, htl, _⟩, ⟨ra, rc, er, _⟩, _⟩ := h
  have hmx : x.reps.length ≤ maxA := Nat.le_trans hl (by decide)
  have hf0 : List.replicate x.reps.length false = fillB so x.reps.length 0 := by simp [fillB]
  have hfn : fillB so x.reps.length x.reps.length = List.replicate x.reps.length so := by simp [fillB]
  simp [sf_cobleref03_every, dsV, ed, et, es, er, hmx, zeros_bools, hf0, pf_pure, pureF]
  generalize hS : ({ t := _, L := _, H := _, lim := _, rd := _ } : St) = S
  obtain ⟨⟨e, s1⟩, hr, q1, q2, q3⟩ := every_loop x.reps.length hl so H S (by subst hS; simp) (by subst hS; simp) (by subst hS; simp) (by subst hS; rfl) (by subst hS; simp)
  simp [everyLoop, SC.loops, sf_cobleref03_every] at hr
  rw [hr]
  simp only at q1 q2 q3
  subst q1
  have y5 : tget S.t 5 = .slice (some ⟨H.length, 0, none⟩) x.reps.length x.reps.length := by subst hS; simp
  rw [y5] at q3
  simp [q3, q2, hfn]
end Go.Proofs.YtmdnpaboaelkeaaGreatDoor
namespace Go.Proofs.YtmdnpaboaelkeaaGreatDoor
open Go Go.RowKit
def amongN (l : List Int) (dbt : Int) (k : Nat) : List Int := ((List.range k).filter fun i => decide (l.getD i 0 ≤ dbt)).map fun (i : Nat) => (i : Int)
theorem amongN_succ (l : List Int) (dbt : Int) (k : Nat) : amongN l dbt (k + 1) = if l.getD k 0 ≤ dbt then amongN l dbt k ++ [(k : Int)] else amongN l dbt k := by
  unfold amongN
  rw [List.range_succ, List.filter_append]
  by_cases h : l.getD k 0 ≤ dbt
  · rw [if_pos h]; simp only [List.filter_cons, h, decide_true, if_true, List.filter_nil, List.map_append, List.map_cons, List.map_nil]
  · rw [if_neg h]; simp only [List.filter_cons, h, decide_false, Bool.false_eq_true, if_false, List.filter_nil, List.append_nil]
theorem amongN_len (l : List Int) (dbt : Int) (k : Nat) : (amongN l dbt k).length ≤ k := by
  unfold amongN
  rw [List.length_map]
  exact Nat.le_trans (List.length_filter_le _ _) (by simp)
def amLoop : SC := sf_cobleref03_among.body.loops.headD .skip
theorem among_loop (l : List Int) (hl : l.length ≤ 1000) (dbt : Int) (H : AH) (row : Value) (hrow : Sl H row l.length (ints l)) (S : St) (h0 : tget S.t 0 = row) (h1 : tget S.t 1 = .int .i64 dbt) (h5 : tget S.t 5 = .slice none 0 0) (h6 : tget S.t 6 = .int .i64 0) (hH : S.H = H) (hlim : S.lim ≤ H.length) :
    ∃ q, exL Tryz.prog pf (.loop amLoop) S = some q ∧ q.1 = .exit 0 ∧ Aft H q.2.H ∧ OwnA H.length q.2.H (tget q.2.t 5) (amongN l dbt l.length) := by
  obtain ⟨ra, rc, er, _⟩ : ∃ a c, row = .slice a l.length c ∧ True := by obtain ⟨a, c, e, _⟩ := hrow; exact ⟨a, c, e, trivial⟩
  refine loop_rule (I := fun n s' => ∃ i, i ≤ l.length ∧ n = l.length - i ∧ tget s'.t 0 = row ∧ tget s'.t 1 = .int .i64 dbt ∧ tget s'.t 6 = .int .i64 i ∧ s'.lim = S.lim ∧ Aft H s'.H ∧ OwnA H.length s'.H (tget s'.t 5) (amongN l dbt i)) ?_ l.length S
    ⟨0, by omega, by omega, h0, h1, h6, rfl, by rw [hH]; exact Aft.refl H, .inl ⟨by simp [amongN], h5⟩⟩
  rintro n s' ⟨i, hi, rfl, e0, e1, e6, el, eA, eO⟩
  obtain ⟨A, hA⟩ : ∃ A, s'.H = A := ⟨_, rfl⟩
  rw [hA] at eA eO
  by_cases hlt : i < l.length
  rotate_left
  · have : i = l.length := by omega
    subst this
    rw [er] at e0
    simp [amLoop, SC.loops, sf_cobleref03_among, e0, e1, e6, hA]
    exact ⟨eA, eO⟩
  obtain ⟨a, c, er2, hd⟩ := hrow.ext eA.ext
  obtain ⟨b, o, rfl, g⟩ := hd i _ (ints_get l i hlt)
  rw [er2] at e0
  simp only [hcell] at g
  have hw : IntKind.i64.wrap ((i : Int) + 1) = (i : Int) + 1 := wrap_i64 (by omega) (by omega)
  have hs := amongN_succ l dbt i
  have hlen := amongN_len l dbt i
  generalize hN : l.getD i 0 = N at *
  by_cases hc : N ≤ dbt
  rotate_left
  · rw [if_neg hc] at hs
    simp [amLoop, SC.loops, sf_cobleref03_among, e0, e1, e6, hA, hlt, g, hc, hw]
    exact ⟨_, by omega, i + 1, by omega, rfl, er2.symm, by omega, el, eA, by rw [hs]; exact eO⟩
  rw [if_pos hc] at hs
  obtain ⟨w, hwl⟩ : ∃ w, w = amongN l dbt i := ⟨_, rfl⟩
  rw [← hwl] at eO hs hlen
  have hm1 : 1 ≤ maxA := by decide
  rcases eO with ⟨hw0, e5⟩ | ⟨hw0, b', hb, e5, hbA⟩
  · simp [-oneC, oneC_int, amLoop, SC.loops, sf_cobleref03_among, e0, e1, e5, e6, hA, hlt, g, hc, hw, hm1]
    refine ⟨_, by omega, i + 1, by omega, rfl, er2.symm, by omega, el, eA.push _, .inr ⟨by rw [hs]; simp, A.length + 1, by have := eA.le; omega, by rw [hs, hw0]; simp, ?_⟩⟩
    rw [hs, hw0, List.getElem?_append_right (by omega), Nat.add_sub_cancel_left]
    rfl
  · have hbl : b' < A.length := (List.getElem?_eq_some_iff.1 hbA).1
    have hl0 : ¬ w.length = 0 := by simpa using hw0
    have hmx : w.length + 1 ≤ maxA := Nat.le_trans (show w.length + 1 ≤ 2000 by omega) (by decide)
    have hcn : nlL (ints w) = true := nlL_ints w
    have hci : (ints w).length = w.length := ints_length w
    have happ : ints w ++ [.int .i64 (i : Int)] = ints (w ++ [(i : Int)]) := by rw [ints_append]; rfl
    have hcA := fun L x => own_cells hbA L x
    have hbX := fun x => own_get hbA x
    have hsX := fun x y => own_set hbA x y
    have hlb : S.lim ≤ b' := by omega
    rw [hci] at hcA
    generalize hcs : ints w = cs at *
    simp [-oneC, oneC_int, amLoop, SC.loops, sf_cobleref03_among, e0, e1, e5, e6, hA, hlt, g, hc, hw, hl0, hmx, hcA, hbX, hsX, hcn, happ, hci, el, hlb]
    refine ⟨_, by omega, i + 1, by omega, rfl, er2.symm, by omega, (eA.set hb _).push _, .inr ⟨by rw [hs]; simp, A.length + 1, by have := eA.le; omega, by rw [hs]; simp, ?_⟩⟩
    rw [hs, List.getElem?_append_right (by simp)]
    simp
theorem run_among (l : List Int) (hl : l.length ≤ 1000) (dbt : Int) (lim : Nat) (H : AH) (row : Value) (hrow : Sl H row l.length (ints l)) :
    ∃ v A, apL Tryz.prog pf (.func (.func 50) #[] #[]) [row, .int .i64 dbt] lim H = some (v, A) ∧ Aft H A ∧ OwnA H.length A v (amongN l dbt l.length) := by
  rw [apL_func _ _ _ _ _ _ (by rfl), sf_cobleref03_among_eq]
  obtain ⟨ra, rc, er, _⟩ : ∃ a c, row = .slice a l.length c ∧ True := by obtain ⟨a, c, e, _⟩ := hrow; exact ⟨a, c, e, trivial⟩
  simp [sf_cobleref03_among, er, pf_pure, pureF]
  generalize hS : ({ t := _, L := _, H := _, lim := _, rd := _ } : St) = S
  obtain ⟨⟨e, s1⟩, hr, q1, q2, q3⟩ := among_loop l hl dbt H row hrow S (by subst hS; simp [er]) (by subst hS; simp) (by subst hS; simp) (by subst hS; simp) (by subst hS; rfl) (by subst hS; simp)
  simp [amLoop, SC.loops, sf_cobleref03_among] at hr
  rw [hr]
  simp only at q1 q2 q3
  subst q1
  rcases q3 with ⟨h0, e5⟩ | ⟨h0, b, hb, e5, hbA⟩
  · simp [e5]
    exact ⟨_, _, ⟨rfl, rfl⟩, Aft.refl H, .inl ⟨h0, rfl⟩⟩
  · simp [e5]
    exact ⟨_, _, ⟨rfl, rfl⟩, q2, .inr ⟨h0, b, hb, rfl, hbA⟩⟩
end Go.Proofs.YtmdnpaboaelkeaaGreatDoor
namespace Go.Proofs.YtmdnpaboaelkeaaGreatDoor
open Go Go.RowKit
def suresM (x : Ds) : List Bool := x.reps.map (·.sure)
theorem nlL_bools : ∀ (l : List Bool), nlL (bools l) = true
  | [] => by simp [bools]
  | b :: l => by have := nlL_bools l; simp only [bools, List.map_cons] at this ⊢; simp [this]
theorem oneC_bool (b : Bool) : oneC (.bool b) = true := by unfold oneC; rfl
def suLoop : SC := sf_cobleref03_sures.body.loops.headD .skip
theorem sures_loop (x : Ds) (hl : x.reps.length ≤ 12) (H : AH) (d t s r : Value) (hx : DsIn H x d t s r) (S : St) (h1 : tget S.t 1 = .pointer (some ⟨1, 0, some 0⟩)) (h3 : tget S.t 3 = .slice none 0 0) (h4 : tget S.t 4 = .int .i64 0)
    (hL : S.L = [(1, 0, .cells [.int .i64 x.ch.w, .int .i64 x.ch.h, d, t, s, .int .i64 x.g, .int .i64 x.pace, r])]) (hH : S.H = H) (hlim : S.lim ≤ H.length) :
    ∃ q, exL Tryz.prog pf (.loop suLoop) S = some q ∧ q.1 = .exit 0 ∧ Aft H q.2.H ∧ OwnV H.length q.2.H (tget q.2.t 3) (bools (suresM x)) := by
  have hv := hx.r
  obtain ⟨⟨⟨da, dc, ed, _⟩, ⟨ta, tc, et, _⟩, ⟨sa, sc, es, _⟩, _, htl, _⟩, ⟨ra, rc, er, _⟩, _⟩ := hx
  rw [er] at hv
  have hend : (suresM x).take x.reps.length = suresM x := by rw [List.take_of_length_le (by simp [suresM])]
  refine loop_rule (I := fun n s' => ∃ i, i ≤ x.reps.length ∧ n = x.reps.length - i ∧ tget s'.t 1 = .pointer (some ⟨1, 0, some 0⟩) ∧ tget s'.t 4 = .int .i64 i ∧ s'.lim = S.lim ∧ s'.L = S.L ∧ Aft H s'.H ∧ OwnV H.length s'.H (tget s'.t 3) (bools ((suresM x).take i))) ?_ x.reps.length S
    ⟨0, by omega, by omega, h1, h4, rfl, rfl, by rw [hH]; exact Aft.refl H, .inl ⟨by simp [bools], h3⟩⟩
  rintro n s' ⟨i, hi, rfl, e1, e4, el, eL, eA, eO⟩
  obtain ⟨A, hA⟩ : ∃ A, s'.H = A := ⟨_, rfl⟩
  rw [hA] at eA eO
  rw [hL, ed, et, es, er] at eL
  by_cases hlt : i < x.reps.length
  rotate_left
  · have : i = x.reps.length := by omega
    subst this
    rw [hend] at eO
    simp [suLoop, SC.loops, sf_cobleref03_sures, e1, e4, eL, hA]
    exact ⟨eA, eO⟩
  obtain ⟨b1, o1, ac1, e, c0, c1, c2, c3, c4, c5, c6, c7, c8⟩ := rep_cells (hv.ext eA.ext) hlt
  cases e
  simp only [hcell] at c7
  have hw : IntKind.i64.wrap ((i : Int) + 1) = (i : Int) + 1 := wrap_i64 (by omega) (by omega)
  have hs : (suresM x).take (i + 1) = (suresM x).take i ++ [x.reps[i].sure] := by
    rw [List.take_add_one]
    congr 1
    simp [suresM, hlt]
  have hlen : ((suresM x).take i).length = i := by simp [suresM]; omega
  have hm1 : 1 ≤ maxA := by decide
  generalize hq : x.reps[i].sure = q at *
  obtain ⟨w, hwl⟩ : ∃ w, w = (suresM x).take i := ⟨_, rfl⟩
  rw [← hwl] at eO hs hlen
  have happ : bools w ++ [.bool q] = bools (w ++ [q]) := by simp [bools]
  rcases eO with ⟨hw0, e5⟩ | ⟨hw0, b', hb, e5, hbA⟩
  · have hw1 : w = [] := by simpa [bools] using hw0
    simp [-oneC, oneC_bool, suLoop, SC.loops, sf_cobleref03_sures, e1, e4, e5, eL, hA, hlt, c7, hw, hm1]
    refine ⟨_, by omega, i + 1, by omega, rfl, by omega, el, by rw [hL, ed, et, es, er], eA.push _, .inr ⟨by rw [hs]; simp [bools], A.length + 1, by have := eA.le; omega, by rw [hs, hw1]; simp [bools], ?_⟩⟩
    rw [hs, hw1, List.getElem?_append_right (by omega), Nat.add_sub_cancel_left]
    rfl
  · have hbl : b' < A.length := (List.getElem?_eq_some_iff.1 hbA).1
    have hci : (bools w).length = w.length := bools_length w
    have hl0 : ¬ w.length = 0 := by intro h; apply hw0; simp [bools]; simpa using h
    have hmx : w.length + 1 ≤ maxA := Nat.le_trans (show w.length + 1 ≤ 2000 by omega) (by decide)
    have hcn : nlL (bools w) = true := nlL_bools w
    have hcA := fun L x => own_cells hbA L x
    have hbX := fun x => own_get hbA x
    have hsX := fun x y => own_set hbA x y
    have hlb : S.lim ≤ b' := by omega
    rw [hci] at hcA e5
    generalize hcs : bools w = cs at *
    simp [-oneC, oneC_bool, suLoop, SC.loops, sf_cobleref03_sures, e1, e4, e5, eL, hA, hlt, c7, hw, hl0, hmx, hcA, hbX, hsX, hcn, happ, hci, el, hlb]
    refine ⟨_, by omega, i + 1, by omega, rfl, by omega, by rw [hL, ed, et, es, er], (eA.set hb _).push _, .inr ⟨by rw [hs]; simp [bools], A.length + 1, by have := eA.le; omega, by rw [hs]; simp [bools], ?_⟩⟩
    rw [hs, List.getElem?_append_right (by simp)]
    simp
theorem run_sures (x : Ds) (hl : x.reps.length ≤ 12) (lim : Nat) (H : AH) (d t s r : Value) (h : DsIn H x d t s r) :
    ∃ v A, apL Tryz.prog pf (.func (.func 62) #[] #[]) [dsV x d t s r] lim H = some (v, A) ∧ Aft H A ∧ Sl A v (suresM x).length (bools (suresM x)) := by
  rw [apL_func _ _ _ _ _ _ (by rfl), sf_cobleref03_sures_eq]
  have h0 := h
  obtain ⟨⟨⟨da, dc, ed, _⟩, ⟨ta, tc, et, _⟩, ⟨sa, sc, es, _⟩, _, htl, _⟩, ⟨ra, rc, er, _⟩, _⟩ := h
  simp [sf_cobleref03_sures, dsV, ed, et, es, er, pf_pure, pureF]
  generalize hS : ({ t := _, L := _, H := _, lim := _, rd := _ } : St) = S
  obtain ⟨⟨e, s1⟩, hr, q1, q2, q3⟩ := sures_loop x hl H d t s r h0 S (by subst hS; simp) (by subst hS; simp) (by subst hS; simp) (by subst hS; simp [ed, et, es, er]) (by subst hS; rfl) (by subst hS; simp)
  simp [suLoop, SC.loops, sf_cobleref03_sures] at hr
  rw [hr]
  simp only at q1 q2 q3
  subst q1
  have hsl := q3.sl
  rw [bools_length] at hsl
  rcases q3 with ⟨k0, e5⟩ | ⟨k0, b, hb, e5, hbA⟩
  · have hw1 : suresM x = [] := by simpa [bools] using k0
    simp [e5]
    exact ⟨_, _, ⟨rfl, rfl⟩, Aft.refl H, by rw [hw1]; exact ⟨none, 0, rfl, fun j v hv => by simp [bools] at hv⟩⟩
  · rw [e5] at hsl
    simp [e5]
    exact ⟨_, _, ⟨rfl, rfl⟩, q2, hsl⟩
end Go.Proofs.YtmdnpaboaelkeaaGreatDoor
namespace Go.Proofs.YtmdnpaboaelkeaaGreatDoor
open Go Go.RowKit
noncomputable def chE (x : Ds) (k i : Int) : Int := if dsE x = 0 then (if inN x.ticks k && inN x.cells i then 0 else 1) else dsE x
theorem dsE_zero {x : Ds} (h : dsE x = 0) : ChOk x.ch ∧ dsOk x = true := by
  unfold dsE at h
  split at h
  · rename_i h1
    split at h
    · rename_i h2; exact ⟨h1, h2⟩
    · cases h
  · cases h
theorem run_check (x : Ds) (lim : Nat) (H : AH) (d t s r : Value) (h : DsIn H x d t s r) (k i : Int) : apL Tryz.prog pf (.func (.func 48) #[] #[]) [dsV x d t s r, .int .i64 k, .int .i64 i] lim H = some (.int .i64 (chE x k i), H) := by
  rw [apL_func _ _ _ _ _ _ (by rfl), sf_cobleref03_check_eq]
  have hC := fun lim => run_ref3Check x lim H d t s r h
  have hT := fun lim => run_IsTick x.ch k lim H d t s h.c
  by_cases h0 : dsE x = 0
  rotate_left
  · have h1 : (dsE x != 0) = true := by simpa using h0
    obtain ⟨⟨⟨da, dc, ed, _⟩, ⟨ta, tc, et, _⟩, ⟨sa, sc, es, _⟩, _, htl, _⟩, ⟨ra, rc, er, _⟩, _⟩ := h
    simp only [chV, dsV, ed, et, es, er] at hC ⊢
    simp [sf_cobleref03_check, hC, h0, h1, chE, pf_pure, pureF]
  have hI := fun lim => run_IsCellOk x.ch (dsE_zero h0).1 i lim H d t s h.c
  obtain ⟨⟨⟨da, dc, ed, _⟩, ⟨ta, tc, et, _⟩, ⟨sa, sc, es, _⟩, _, htl, _⟩, ⟨ra, rc, er, _⟩, _⟩ := h
  simp only [chV, dsV, ed, et, es, er] at hC hT hI ⊢
  change ∀ lim, _ = some (Value.bool (inN x.ticks k), H) at hT
  change ∀ lim, _ = some (Value.bool (inN x.cells i), H) at hI
  cases h1 : inN x.ticks k with
  | false => simp [sf_cobleref03_check, hC, h0, hT, h1, chE, pf_pure, pureF]
  | true => cases h2 : inN x.cells i <;> simp [sf_cobleref03_check, hC, h0, hT, hI, h1, h2, chE, pf_pure, pureF]
theorem wrap_u64 {n : Nat} (h : n < 2 ^ 64) : IntKind.u64.wrap (n : Int) = n := by
  have : IntKind.u64.wrap (n : Int) = (n : Int) % 2 ^ 64 := by unfold IntKind.wrap; rfl
  rw [this]; omega
theorem u64_and {a b : Nat} (ha : a < 2 ^ 64) (hb : b < 2 ^ 64) : IntKind.u64.wrap (((BitVec.ofInt 64 (a : Int) &&& BitVec.ofInt 64 (b : Int)).toNat : Nat) : Int) = ((a &&& b : Nat) : Int) := by
  have h : (BitVec.ofInt 64 (a : Int) &&& BitVec.ofInt 64 (b : Int)).toNat = a &&& b := by
    rw [BitVec.toNat_and, BitVec.ofInt_natCast, BitVec.ofInt_natCast, BitVec.toNat_ofNat, BitVec.toNat_ofNat, Nat.mod_eq_of_lt ha, Nat.mod_eq_of_lt hb]
  rw [h]
  exact wrap_u64 (Nat.lt_of_le_of_lt Nat.and_le_left ha)
theorem u64_or {a b : Nat} (ha : a < 2 ^ 64) (hb : b < 2 ^ 64) : IntKind.u64.wrap (((BitVec.ofInt 64 (a : Int) ||| BitVec.ofInt 64 (b : Int)).toNat : Nat) : Int) = ((a ||| b : Nat) : Int) := by
  have h : (BitVec.ofInt 64 (a : Int) ||| BitVec.ofInt 64 (b : Int)).toNat = a ||| b := by
    rw [BitVec.toNat_or, BitVec.ofInt_natCast, BitVec.ofInt_natCast, BitVec.toNat_ofNat, BitVec.toNat_ofNat, Nat.mod_eq_of_lt ha, Nat.mod_eq_of_lt hb]
  rw [h]
  exact wrap_u64 (Nat.or_lt_two_pow ha hb)
def subM (a b : Nat) : Bool := a &&& b == a
theorem run_isIn {a b : Nat} (ha : a < 2 ^ 64) (hb : b < 2 ^ 64) (lim : Nat) (H : AH) : apL Tryz.prog pf (.func (.func 129) #[] #[]) [.int .u64 a, .int .u64 b] lim H = some (.bool (subM a b), H) := by
  rw [apL_func _ _ _ _ _ _ (by rfl), sf_fixes_set_isIn_eq]
  have hn : (BitVec.ofInt 64 (a : Int) &&& ~~~ BitVec.ofInt 64 (b : Int)).toNat < 2 ^ 64 := (BitVec.ofInt 64 (a : Int) &&& ~~~ BitVec.ofInt 64 (b : Int)).isLt
  have hz : ((BitVec.ofInt 64 (a : Int) &&& ~~~ BitVec.ofInt 64 (b : Int)).toNat = 0) ↔ a &&& b = a := by
    have e : ∀ i, (BitVec.ofInt 64 (a : Int) &&& ~~~ BitVec.ofInt 64 (b : Int)).toNat.testBit i = (a.testBit i && !b.testBit i) := by
      intro i
      rw [← BitVec.getLsbD, BitVec.getLsbD_and, BitVec.getLsbD_not, BitVec.ofInt_natCast, BitVec.ofInt_natCast, BitVec.getLsbD_ofNat, BitVec.getLsbD_ofNat]
      by_cases hi : i < 64
      · simp [hi]
      · have : a.testBit i = false := Nat.testBit_lt_two_pow (Nat.lt_of_lt_of_le ha (Nat.pow_le_pow_right (by omega) (by omega)))
        simp [hi, this]
    constructor
    · intro h
      apply Nat.eq_of_testBit_eq
      intro i
      have := e i
      rw [h] at this
      rw [Nat.testBit_and]
      cases h1 : a.testBit i <;> cases h2 : b.testBit i <;> simp_all
    · intro h
      apply Nat.eq_of_testBit_eq
      intro i
      rw [e i]
      have : (a &&& b).testBit i = a.testBit i := by rw [h]
      rw [Nat.testBit_and] at this
      cases h1 : a.testBit i <;> cases h2 : b.testBit i <;> simp_all
  have hw := wrap_u64 hn
  generalize hq : (BitVec.ofInt 64 (a : Int) &&& ~~~ BitVec.ofInt 64 (b : Int)).toNat = q at *
  have hb2 : subM a b = decide (q = 0) := by
    unfold subM
    by_cases h : q = 0
    · rw [hz.1 h]; simp [h]
    · have : a &&& b ≠ a := fun e => h (hz.2 e)
      simp [h, this]
  have hbits : IntKind.u64.bits = 64 := rfl
  have hq2 : a % 18446744073709551616 &&& 18446744073709551615 - b % 18446744073709551616 = q := by rw [← hq]; simp
  rw [hb2]
  by_cases h : q = 0
  · simp [sf_fixes_set_isIn, hbits, h, pf_pure, pureF]
    rw [hq2, hw, h]
    rfl
  · simp [sf_fixes_set_isIn, hbits, h, pf_pure, pureF]
    rw [hq2, hw]
    omega
end Go.Proofs.YtmdnpaboaelkeaaGreatDoor
