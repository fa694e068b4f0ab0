import Derived.Test.YthobfecblpnnnaaGreatDoorWorks
import Derived.Test.YthobfecblpnnnaaGreatDoorStep
import Derived.Test.YthobfecblpnnnaaGreatDoorTerms

/- Contracts of the functions, in the abstract machine: the small ones; lists of numbers. -/
set_option linter.all false
namespace Go.Proofs.YthobfecblpnnnaaGreatDoor
open Go Go.RowKit

theorem pf_pure (f : FuncId) : pf.pure f = pureF f := rfl

theorem wrap_i64 {n : Int} (h0 : -9223372036854775808 ≤ n) (h1 : n < 9223372036854775808) : IntKind.i64.wrap n = n := by rw [IntKind.wrap_i64]; omega

/-- A slice of n elements, its cells in the heap. -/
def Sl (H : AH) (v : Value) (n : Nat) (cells : List Value) : Prop := ∃ a c, v = .slice a n c ∧ ∀ (j : Nat) x, cells[j]? = some x → ∃ b o, a = some ⟨b, o, none⟩ ∧ hcell H b (o + j) = some x

def ints (l : List Int) : List Value := l.map (.int .i64)

@[simp] theorem run_from (n l h : Int) (lim : Nat) (H : AH) : apL Tryz.prog pf (.func (.func 66) #[] #[]) [.int .i64 n, .int .i64 l, .int .i64 h] lim H = some (.bool (decide (l ≤ n) && decide (n ≤ h)), H) := by
  rw [apL_func _ _ _ _ _ _ (by rfl), sf_cobleref01_from_eq]
  by_cases h1 : l ≤ n <;> simp [sf_cobleref01_from, h1, pf_pure, pureF]

@[simp] theorem run_Cells (w h : Int) (r : List Value) (lim : Nat) (H : AH) : apL Tryz.prog pf (.func (.func 60) #[] #[]) [.agg (.int .i64 w :: .int .i64 h :: r).toArray] lim H = some (.int .i64 (IntKind.i64.wrap (w * h)), H) := by
  rw [apL_func _ _ _ _ _ _ (by rfl), sf_cobleref01_Cells_eq]
  simp [sf_cobleref01_Cells, pf_pure, pureF]

@[simp] theorem run_distance (a b : Int) (lim : Nat) (H : AH) : apL Tryz.prog pf (.func (.func 87) #[] #[]) [.int .i64 a, .int .i64 b] lim H = some (.int .i64 (if IntKind.i64.wrap (b - a) > IntKind.i64.wrap (a - b) then IntKind.i64.wrap (b - a) else IntKind.i64.wrap (a - b)), H) := by
  rw [apL_func _ _ _ _ _ _ (by rfl), sf_chart_distance_eq]
  simp [sf_chart_distance, pf_pure, pureF]

theorem run_east (x w : Int) (hw : w ≠ 0) (r : List Value) (lim : Nat) (H : AH) : apL Tryz.prog pf (.func (.func 88) #[] #[]) [.agg (.int .i64 w :: r).toArray, .int .i64 x] lim H =
    some (.int .i64 (IntKind.i64.wrap (IntKind.i64.wrap (x.tmod w * 2) + (IntKind.i64.wrap (x.tdiv w)).tmod 2)), H) := by
  rw [apL_func _ _ _ _ _ _ (by rfl), sf_chart_sea_east_eq]
  simp [sf_chart_sea_east, pf, pureF, hw]

end Go.Proofs.YthobfecblpnnnaaGreatDoor

/- Contracts of the functions, in the abstract machine: charts that are valid, by the reference. -/
set_option linter.all false
namespace Go.Proofs.YthobfecblpnnnaaGreatDoor
open Go Go.RowKit

def spans (l : List (Int × Int)) : List Value := l.flatMap fun (a, b) => [.int .i64 a, .int .i64 b]

/-- A chart, as it is read. -/
structure Ch where
  w : Int
  h : Int
  depth : List Int
  tide : List (Int × Int)
  swell : List Int

structure ChIn (H : AH) (c : Ch) (d t s : Value) : Prop where
  d : Sl H d c.depth.length (ints c.depth)
  t : Sl H t c.tide.length (spans c.tide)
  s : Sl H s c.swell.length (ints c.swell)
  dl : c.depth.length < 2 ^ 62
  tl : c.tide.length < 2 ^ 62
  sl : c.swell.length < 2 ^ 62

/-- A chart's lists, whatever their lengths. -/
structure ChSl (A : AH) (c : Ch) (d t s : Value) : Prop where
  d : Sl A d c.depth.length (ints c.depth)
  t : Sl A t c.tide.length (spans c.tide)
  s : Sl A s c.swell.length (ints c.swell)

def chV (c : Ch) (d t s : Value) : Value := .agg #[.int .i64 c.w, .int .i64 c.h, d, t, s]

/-- The loop over the depths. -/
def checkLoop1 : SC := match sf_cobleref01_Check.body with | .seq _ (.seq _ (.seq (.seq _ (.block _ (.loop b))) _)) => b | _ => .skip

theorem check_loop1 (c : Ch) (H : AH) (d t s : Value) (hc : ChIn H c d t s) (S : St) (h1 : tget S.t 1 = .pointer (some ⟨1, 0, some 0⟩)) (h3 : tget S.t 3 = .int .i64 0) (hL : S.L = [(1, 0, .cells [.int .i64 c.w, .int .i64 c.h, d, t, s])]) (hH : S.H = H) :
    ∃ r, exL Tryz.prog pf (.loop checkLoop1) S = some r ∧ r.2.L = S.L ∧ r.2.H = H ∧ tget r.2.t 1 = tget S.t 1 ∧ ((r.1 = .exit 0 ∧ ∀ x ∈ c.depth, -1000 ≤ x ∧ x ≤ 1000) ∨ (r.1 = .ret ∧ tget r.2.t 2 = .int .i64 10 ∧ ¬ ∀ x ∈ c.depth, -1000 ≤ x ∧ x ≤ 1000)) := by
  obtain ⟨da, dc, rfl, hd⟩ := hc.d
  have hdl := hc.dl
  refine loop_rule (I := fun n s' => ∃ i, i ≤ c.depth.length ∧ n = c.depth.length - i ∧ tget s'.t 1 = .pointer (some ⟨1, 0, some 0⟩) ∧ tget s'.t 3 = .int .i64 i ∧ s'.L = S.L ∧ s'.H = H ∧ ∀ x ∈ c.depth.take i, -1000 ≤ x ∧ x ≤ 1000) ?_ c.depth.length S ⟨0, by omega, by omega, h1, h3, rfl, hH, by simp⟩
  rintro n s' ⟨i, hi, rfl, e1, e3, eL, eH, et⟩
  rw [hL] at eL
  by_cases hlt : i < c.depth.length
  · obtain ⟨b1, o1, rfl, c1⟩ := hd i (.int .i64 c.depth[i]) (by simp [ints, hlt])
    have hw : IntKind.i64.wrap ((i : Int) + 1) = (i : Int) + 1 := wrap_i64 (by omega) (by omega)
    simp only [hcell] at c1
    by_cases hin : -1000 ≤ c.depth[i] ∧ c.depth[i] ≤ 1000
    · simp [checkLoop1, sf_cobleref01_Check, e1, e3, eL, eH, hlt, c1, hw, hin, hL, h1]
      refine ⟨_, by omega, i + 1, by omega, rfl, by omega, ?_⟩
      intro x hx
      rw [List.take_add_one, List.mem_append] at hx
      rcases hx with hx | hx
      · exact et x hx
      · simp [hlt] at hx
        subst hx
        exact hin
    · have hb : (decide (-1000 ≤ c.depth[i]) && decide (c.depth[i] ≤ 1000)) = false := by simpa using hin
      simp [checkLoop1, sf_cobleref01_Check, e1, e3, eL, eH, hlt, c1, hw, hb, hL, h1]
      exact ⟨c.depth[i], by simp, fun h => by omega⟩
  · have : i = c.depth.length := by omega
    subst this
    simp [checkLoop1, sf_cobleref01_Check, e1, e3, eL, eH, hL, h1]
    simpa using et

/-- The loop over the ticks. -/
def checkLoop2 : SC := match sf_cobleref01_Check.body with | .seq _ (.seq _ (.seq _ (.seq (.seq _ (.block _ (.loop b))) _))) => b | _ => .skip

def tickOk (p : Int × Int) (x : Int) : Prop := 0 ≤ p.1 ∧ p.1 ≤ p.2 ∧ p.2 ≤ 200 ∧ 0 ≤ x ∧ x ≤ 100

theorem spans_get {l : List (Int × Int)} {i : Nat} (h : i < l.length) : (spans l)[i * 2]? = some (.int .i64 l[i].1) ∧ (spans l)[i * 2 + 1]? = some (.int .i64 l[i].2) := by
  induction l generalizing i with
  | nil => simp at h
  | cons p l ih =>
    obtain ⟨a, b⟩ := p
    cases i with
    | zero => simp [spans]
    | succ i =>
      have := ih (i := i) (by simpa using h)
      simp only [spans, List.flatMap_cons] at this ⊢
      rw [show (i + 1) * 2 = i * 2 + 2 by omega, show i * 2 + 2 + 1 = (i * 2 + 1) + 2 by omega]
      simpa using this

theorem check_loop2 (c : Ch) (H : AH) (d t s : Value) (hc : ChIn H c d t s) (hts : c.swell.length = c.tide.length) (S : St) (h1 : tget S.t 1 = .pointer (some ⟨1, 0, some 0⟩)) (h4 : tget S.t 4 = .int .i64 0) (hL : S.L = [(1, 0, .cells [.int .i64 c.w, .int .i64 c.h, d, t, s])]) (hH : S.H = H) :
    ∃ r, exL Tryz.prog pf (.loop checkLoop2) S = some r ∧ r.2.L = S.L ∧ r.2.H = H ∧ tget r.2.t 1 = tget S.t 1 ∧ ((r.1 = .exit 2 ∧ ∀ i (h : i < c.tide.length) (h' : i < c.swell.length), tickOk c.tide[i] c.swell[i]) ∨
      (r.1 = .ret ∧ tget r.2.t 2 = .int .i64 10 ∧ ¬ ∀ i (h : i < c.tide.length) (h' : i < c.swell.length), tickOk c.tide[i] c.swell[i])) := by
  obtain ⟨ta, tc, rfl, ht⟩ := hc.t
  obtain ⟨sa, sc, rfl, hs⟩ := hc.s
  have htl := hc.tl
  refine loop_rule (I := fun n s' => ∃ i, i ≤ c.tide.length ∧ n = c.tide.length - i ∧ tget s'.t 1 = .pointer (some ⟨1, 0, some 0⟩) ∧ tget s'.t 4 = .int .i64 i ∧ s'.L = S.L ∧ s'.H = H ∧ ∀ j (h : j < c.tide.length) (h' : j < c.swell.length), j < i → tickOk c.tide[j] c.swell[j]) ?_ c.tide.length S ⟨0, by omega, by omega, h1, h4, rfl, hH, by omega⟩
  rintro n s' ⟨i, hi, rfl, e1, e4, eL, eH, et⟩
  rw [hL] at eL
  by_cases hlt : i < c.tide.length
  · have hlt2 : i < c.swell.length := by omega
    obtain ⟨b1, o1, rfl, c1⟩ := ht (i * 2) _ (spans_get hlt).1
    obtain ⟨b1', o1', e, c1'⟩ := ht (i * 2 + 1) _ (spans_get hlt).2
    cases e
    obtain ⟨b2, o2, rfl, c2⟩ := hs i (.int .i64 c.swell[i]) (by simp [ints, hlt2])
    have hw : IntKind.i64.wrap ((i : Int) + 1) = (i : Int) + 1 := wrap_i64 (by omega) (by omega)
    have e' : o1 + (i * 2 + 1) = o1 + i * 2 + 1 := by omega
    rw [e'] at c1'
    simp only [hcell] at c1 c1' c2
    by_cases ha : (decide (0 ≤ c.tide[i].1) && decide (c.tide[i].1 ≤ c.tide[i].2)) = true
    · by_cases hb : c.tide[i].2 > 200
      · simp [checkLoop2, sf_cobleref01_Check, e1, e4, eL, eH, hlt, hlt2, c1, c1', c2, hw, ha, hb, hL, h1]
        exact ⟨i, hlt, hlt2, fun h => by have := h.2.2.1; omega⟩
      · by_cases hd : (decide (0 ≤ c.swell[i]) && decide (c.swell[i] ≤ 100)) = true
        · simp [checkLoop2, sf_cobleref01_Check, e1, e4, eL, eH, hlt, hlt2, c1, c1', c2, hw, ha, hb, hd, hL, h1]
          simp only [Bool.and_eq_true, decide_eq_true_eq] at ha hd
          refine ⟨_, by omega, i + 1, by omega, rfl, by omega, fun j h h' hj => ?_⟩
          by_cases hji : j = i
          · subst hji; exact ⟨ha.1, ha.2, by omega, hd.1, hd.2⟩
          · exact et j h h' (by omega)
        · simp [checkLoop2, sf_cobleref01_Check, e1, e4, eL, eH, hlt, hlt2, c1, c1', c2, hw, ha, hb, hd, hL, h1]
          exact ⟨i, hlt, hlt2, fun h => hd (by simp [h.2.2.2.1, h.2.2.2.2])⟩
    · simp [checkLoop2, sf_cobleref01_Check, e1, e4, eL, eH, hlt, hlt2, c1, c1', c2, hw, ha, hL, h1]
      exact ⟨i, hlt, hlt2, fun h => ha (by simp [h.1, h.2.1])⟩
  · have : i = c.tide.length := by omega
    subst this
    simp [checkLoop2, sf_cobleref01_Check, e1, e4, eL, eH, hL, h1]
    exact fun j h h' => et j h h' h

/-- What the document asks of a chart. -/
def ChOk (c : Ch) : Prop := (1 ≤ c.w ∧ c.w ≤ 12) ∧ (1 ≤ c.h ∧ c.h ≤ 12) ∧ (c.depth.length : Int) = c.w * c.h ∧ (1 ≤ c.tide.length ∧ c.tide.length ≤ 60) ∧ c.swell.length = c.tide.length ∧ (∀ x ∈ c.depth, -1000 ≤ x ∧ x ≤ 1000) ∧
  ∀ i (h : i < c.tide.length) (h' : i < c.swell.length), tickOk c.tide[i] c.swell[i]

open Classical in
theorem run_Check (c : Ch) (lim : Nat) (H : AH) (d t s : Value) (hc : ChIn H c d t s) : apL Tryz.prog pf (.func (.func 59) #[] #[]) [chV c d t s] lim H = some (.int .i64 (if ChOk c then 0 else 10), H) := by
  rw [apL_func _ _ _ _ _ _ (by rfl), sf_cobleref01_Check_eq]
  have hc' := hc
  obtain ⟨⟨da, dc, ed, _⟩, ⟨ta, tc, et, _⟩, ⟨sa, sc, es, _⟩, _, _, _⟩ := hc'
  by_cases a1 : 1 ≤ c.w ∧ c.w ≤ 12
  rotate_left
  · have b1 : (decide (1 ≤ c.w) && decide (c.w ≤ 12)) = false := by simpa using a1
    have : ¬ ChOk c := fun h => a1 h.1
    simp [sf_cobleref01_Check, chV, b1, this, pf_pure, pureF]
  by_cases a2 : 1 ≤ c.h ∧ c.h ≤ 12
  rotate_left
  · have b2 : (decide (1 ≤ c.h) && decide (c.h ≤ 12)) = false := by simpa using a2
    have : ¬ ChOk c := fun h => a2 h.2.1
    simp [sf_cobleref01_Check, chV, a1, b2, this, pf_pure, pureF]
  have hmul : IntKind.i64.wrap (c.w * c.h) = c.w * c.h := by
    have h1 : 0 ≤ c.w * c.h := Int.mul_nonneg (by omega) (by omega)
    have h2 : c.w * c.h ≤ 12 * 12 := Int.mul_le_mul a1.2 a2.2 (by omega) (by omega)
    exact wrap_i64 (by omega) (by omega)
  by_cases a3 : (c.depth.length : Int) = c.w * c.h
  rotate_left
  · have b3 : ((c.depth.length : Int) != c.w * c.h) = true := by simpa using a3
    have : ¬ ChOk c := fun h => a3 h.2.2.1
    simp [sf_cobleref01_Check, chV, a1, a2, ed, hmul, b3, this, pf_pure, pureF]
  have b3 : ((c.depth.length : Int) != c.w * c.h) = false := by simpa using a3
  by_cases a4 : 1 ≤ c.tide.length ∧ c.tide.length ≤ 60
  rotate_left
  · have b4 : (decide (1 ≤ (c.tide.length : Int)) && decide ((c.tide.length : Int) ≤ 60)) = false := by simp; omega
    have : ¬ ChOk c := fun h => a4 h.2.2.2.1
    simp [sf_cobleref01_Check, chV, a1, a2, ed, et, hmul, b3, b4, this, pf_pure, pureF]
  have b4 : (decide (1 ≤ (c.tide.length : Int)) && decide ((c.tide.length : Int) ≤ 60)) = true := by simp; omega
  by_cases a5 : c.swell.length = c.tide.length
  rotate_left
  · have b5 : ((c.swell.length : Int) != c.tide.length) = true := by simp; omega
    have : ¬ ChOk c := fun h => a5 h.2.2.2.2.1
    simp [sf_cobleref01_Check, chV, a1, a2, ed, et, es, hmul, b3, b4, b5, this, pf_pure, pureF]
  have b5 : ((c.swell.length : Int) != c.tide.length) = false := by simp; omega
  simp [sf_cobleref01_Check, chV, a1, a2, ed, et, es, hmul, b3, b4, b5]
  generalize hS : ({ t := _, L := _, H := _, lim := _, rd := _ } : St) = S
  obtain ⟨⟨e, s1⟩, hr, q1, q2, q4, q3⟩ := check_loop1 c H d t s hc S (by subst hS; simp) (by subst hS; simp) (by subst hS; simp [ed, et, es]) (by subst hS; rfl)
  simp only [checkLoop1, sf_cobleref01_Check] at hr
  rw [hr]
  simp only at q1 q2 q3 q4
  have hSL : S.L = [(1, 0, .cells [.int .i64 c.w, .int .i64 c.h, d, t, s])] := by subst hS; simp [ed, et, es]
  have hS1 : tget S.t 1 = .pointer (some ⟨1, 0, some 0⟩) := by subst hS; simp
  rcases q3 with ⟨rfl, h⟩ | ⟨rfl, h4, h⟩
  rotate_left
  · have : ¬ ChOk c := fun k => h k.2.2.2.2.2.1
    simp [h4, q1, q2, this, pf_pure, pureF]
  simp
  generalize hS2 : ({ t := _, L := _, H := _, lim := _, rd := _ } : St) = S2
  obtain ⟨⟨e, s2⟩, hr2, r1, r2, r4, r3⟩ := check_loop2 c H d t s hc a5 S2 (by subst hS2; simp [q4, hS1]) (by subst hS2; simp) (by subst hS2; simp [q1, hSL]) (by subst hS2; simp [q2])
  simp only [checkLoop2, sf_cobleref01_Check] at hr2
  rw [hr2]
  simp only at r1 r2 r3 r4
  rcases r3 with ⟨rfl, k⟩ | ⟨rfl, k4, k⟩
  · have : ChOk c := ⟨a1, a2, a3, a4, a5, h, k⟩
    simp [r1, r2, this, pf_pure, pureF]
  · have : ¬ ChOk c := fun x => k x.2.2.2.2.2.2
    simp [k4, r1, r2, this, pf_pure, pureF]
end Go.Proofs.YthobfecblpnnnaaGreatDoor

/- Contracts of the functions, in the abstract machine: the law's own small ones; cells. -/
set_option linter.all false
namespace Go.Proofs.YthobfecblpnnnaaGreatDoor
open Go Go.RowKit

theorem run_CellsCh (c : Ch) (lim : Nat) (H : AH) (d t s : Value) : apL Tryz.prog pf (.func (.func 60) #[] #[]) [chV c d t s] lim H = some (.int .i64 (IntKind.i64.wrap (c.w * c.h)), H) := run_Cells c.w c.h [d, t, s] lim H

theorem run_IsCell (c : Ch) (x : Int) (lim : Nat) (H : AH) (d t s : Value) (hc : ChIn H c d t s) (hwh : IntKind.i64.wrap (c.w * c.h) = c.w * c.h) (hwh2 : IntKind.i64.wrap (c.w * c.h - 1) = c.w * c.h - 1) :
    apL Tryz.prog pf (.func (.func 39) #[] #[]) [chV c d t s, .int .i64 x] lim H = some (.bool (decide (0 ≤ x) && decide (x ≤ c.w * c.h - 1)), H) := by
  rw [apL_func _ _ _ _ _ _ (by rfl), sf_cobleref01_IsCell_eq]
  obtain ⟨⟨da, dc, ed, _⟩, ⟨ta, tc, et, _⟩, ⟨sa, sc, es, _⟩, _, _, _⟩ := hc
  have hC := fun lim H => run_CellsCh c lim H d t s
  simp only [chV, ed, et, es] at hC
  simp [sf_cobleref01_IsCell, chV, ed, et, es, hC, hwh, hwh2, pf_pure, pureF]

end Go.Proofs.YthobfecblpnnnaaGreatDoor

/- Contracts of the functions, in the abstract machine: predicates that are function values. -/
set_option linter.all false
namespace Go.Proofs.YthobfecblpnnnaaGreatDoor
open Go Go.RowKit

/-- A later heap that keeps the blocks. -/
def Ext (H H' : AH) : Prop := ∀ (b : Nat) (x : ABlk), H[b]? = some x → H'[b]? = some x
theorem Ext.refl (H : AH) : Ext H H := fun _ _ h => h
theorem Ext.trans {H H' H'' : AH} (h : Ext H H') (k : Ext H' H'') : Ext H H'' := fun b x e => k b x (h b x e)
theorem Ext.push (H : AH) (l : List ABlk) : Ext H (H ++ l) := fun b x h => by
  rw [List.getElem?_append_left (List.getElem?_eq_some_iff.1 h).1]; exact h

theorem Sl.ext {H H' : AH} (h : Ext H H') {v : Value} {n : Nat} {cs : List Value} (k : Sl H v n cs) : Sl H' v n cs := by
  obtain ⟨a, c, e, hk⟩ := k
  refine ⟨a, c, e, fun j x hx => ?_⟩
  obtain ⟨b, o, e1, e2⟩ := hk j x hx
  exact ⟨b, o, e1, hcell_ext (fun x => h b x) e2⟩

/-- A function value that says of a number whether p holds, and does nothing else. -/
def IsP (H : AH) (f : Value) (p : Int → Bool) : Prop := (nl f = true ∧ isU f = false ∧ f.cells = #[f]) ∧ ∀ H', Ext H H' → ∀ x lim, apL Tryz.prog pf f [.int .i64 x] lim H' = some (.bool (p x), H')

theorem IsP.nl {H : AH} {f : Value} {p : Int → Bool} (k : IsP H f p) : nl f = true := k.1.1
theorem IsP.cells {H : AH} {f : Value} {p : Int → Bool} (k : IsP H f p) : isU f = false ∧ f.cells = #[f] := k.1.2

theorem IsP.ext {H H' : AH} (h : Ext H H') {f : Value} {p : Int → Bool} (k : IsP H f p) : IsP H' f p := ⟨k.1, fun H'' h2 => k.2 H'' (h.trans h2)⟩

def betweenV (n : Nat) : Value := .func (.func 118) #[] #[.pointer (some ⟨n, 0, none⟩), .pointer (some ⟨n + 1, 0, none⟩)]

theorem run_between (l h : Int) (lim : Nat) (H : AH) : apL Tryz.prog pf (.func (.func 89) #[] #[]) [.int .i64 l, .int .i64 h] lim H = some (betweenV H.length, H ++ [.rw 0 [.int .i64 l], .rw 0 [.int .i64 h]]) := by
  rw [apL_func _ _ _ _ _ _ (by rfl), sf_checks_Between_eq]
  simp [sf_checks_Between, pf_pure, pureF, betweenV]

theorem isP_between (l h : Int) (H : AH) (n : Nat) (h1 : H[n]? = some (.rw 0 [.int .i64 l])) (h2 : H[n + 1]? = some (.rw 0 [.int .i64 h])) : IsP H (betweenV n) (fun x => decide (l ≤ x) && decide (x ≤ h)) := by
  refine ⟨⟨by simp [betweenV], rfl, rfl⟩, fun H' hH x lim => ?_⟩
  have k1 := hH _ _ h1
  have k2 := hH _ _ h2
  unfold betweenV
  rw [apL_func _ _ _ _ _ _ (by rfl), sf_checks_Between_1_eq]
  by_cases hx : l ≤ x <;> simp [sf_checks_Between_1, k1, k2, hx, pf_pure, pureF]

/-- The loops of a piece of code, the outer ones first. -/
def SC.loops : SC → List SC
  | .seq a b => a.loops ++ b.loops
  | .cond _ a b => a.loops ++ b.loops
  | .block _ a => a.loops
  | .loop a => a :: a.loops
  | .rng _ _ a b => a.loops ++ b.loops
  | _ => []

def allLoop : SC := sf_checks_All_int.body.loops.headD .skip

theorem all_loop (xs : List Int) (hlen : xs.length < 2 ^ 62) (H : AH) (v f : Value) (p : Int → Bool) (hv : Sl H v xs.length (ints xs)) (hp : IsP H f p) (S : St) (h1 : tget S.t 1 = f) (h7 : tget S.t 7 = v) (h8 : tget S.t 8 = .int .i64 xs.length) (h9 : tget S.t 9 = .int .i64 0) (hH : S.H = H) :
    ∃ r, exL Tryz.prog pf (.loop allLoop) S = some r ∧ r.2.H = H ∧ ((r.1 = .exit 0 ∧ xs.all p = true) ∨ (r.1 = .ret ∧ tget r.2.t 4 = .bool false ∧ xs.all p = false)) := by
  obtain ⟨aa, ac, rfl, hd⟩ := hv
  obtain ⟨⟨hn, _⟩, hp⟩ := hp
  have hp := fun x lim => hp H (Ext.refl H) x lim
  refine loop_rule (I := fun n s' => ∃ i, i ≤ xs.length ∧ n = xs.length - i ∧ tget s'.t 1 = f ∧ tget s'.t 7 = .slice aa xs.length ac ∧ tget s'.t 8 = .int .i64 xs.length ∧ tget s'.t 9 = .int .i64 i ∧ s'.H = H ∧ ∀ j (h : j < xs.length), j < i → p xs[j] = true) ?_ xs.length S ⟨0, by omega, by omega, h1, h7, h8, h9, hH, by omega⟩
  rintro n s' ⟨i, hi, rfl, e1, e7, e8, e9, eH, et⟩
  by_cases hlt : i < xs.length
  · obtain ⟨b1, o1, rfl, c1⟩ := hd i (.int .i64 xs[i]) (by simp [ints, hlt])
    have hw : IntKind.i64.wrap ((i : Int) + 1) = (i : Int) + 1 := wrap_i64 (by omega) (by omega)
    simp only [hcell] at c1
    cases hx : p xs[i] with
    | true =>
      simp [allLoop, SC.loops, sf_checks_All_int, e1, e7, e8, e9, eH, hlt, c1, hw, hn, hp, hx]
      exact ⟨_, by omega, i + 1, by omega, rfl, by omega, fun j h hj => by
        by_cases e : j = i
        · subst e; exact hx
        · exact et j h (by omega)⟩
    | false =>
      simp [allLoop, SC.loops, sf_checks_All_int, e1, e7, e8, e9, eH, hlt, c1, hw, hn, hp, hx]
      exact ⟨xs[i], by simp, hx⟩
  · have : i = xs.length := by omega
    subst this
    simp [allLoop, SC.loops, sf_checks_All_int, e1, e7, e8, e9, eH]
    intro x hx
    obtain ⟨j, h, rfl⟩ := List.mem_iff_getElem.1 hx
    exact et j h h

/-- All: whether p holds of each number. -/
theorem run_all (xs : List Int) (hlen : xs.length < 2 ^ 62) (H : AH) (lim : Nat) (v f : Value) (p : Int → Bool) (hv : Sl H v xs.length (ints xs)) (hp : IsP H f p) :
    apL Tryz.prog pf (.func (.func 84) #[] #[]) [v, f] lim H = some (.bool (xs.all p), H) := by
  rw [apL_func _ _ _ _ _ _ (by rfl), sf_checks_All_int_eq]
  have hv0 := hv
  obtain ⟨aa, ac, ev, _⟩ := hv0
  simp [sf_checks_All_int, ev]
  generalize hS : ({ t := _, L := _, H := _, lim := _, rd := _ } : St) = S
  obtain ⟨⟨e, s1⟩, hr, q2, q3⟩ := all_loop xs hlen H v f p hv hp S (by subst hS; simp) (by subst hS; simp [ev]) (by subst hS; simp) (by subst hS; simp) (by subst hS; rfl)
  simp [allLoop, SC.loops, sf_checks_All_int] at hr
  rw [hr]
  simp only at q2 q3
  rcases q3 with ⟨rfl, h⟩ | ⟨rfl, h4, h⟩
  · simp [h, q2, pf_pure, pureF]
  · simp [h, h4, q2, pf_pure, pureF]
end Go.Proofs.YthobfecblpnnnaaGreatDoor

/- Contracts of the functions, in the abstract machine: predicates of spans. -/
set_option linter.all false
namespace Go.Proofs.YthobfecblpnnnaaGreatDoor
open Go Go.RowKit

def spV (x : Int × Int) : Value := .agg #[.int .i64 x.1, .int .i64 x.2]

/-- A function value that says of a span whether p holds, and does nothing else. -/
def IsQ (H : AH) (f : Value) (p : Int × Int → Bool) : Prop := (nl f = true ∧ isU f = false ∧ f.cells = #[f]) ∧ ∀ H', Ext H H' → ∀ x lim, apL Tryz.prog pf f [spV x] lim H' = some (.bool (p x), H')

theorem IsQ.nl {H : AH} {f : Value} {p : Int × Int → Bool} (k : IsQ H f p) : nl f = true := k.1.1
theorem IsQ.cells {H : AH} {f : Value} {p : Int × Int → Bool} (k : IsQ H f p) : isU f = false ∧ f.cells = #[f] := k.1.2

theorem IsQ.ext {H H' : AH} (h : Ext H H') {f : Value} {p : Int × Int → Bool} (k : IsQ H f p) : IsQ H' f p := ⟨k.1, fun H'' h2 => k.2 H'' (h.trans h2)⟩

def withinV (n : Nat) : Value := .func (.func 129) #[] #[.pointer (some ⟨n, 0, none⟩), .pointer (some ⟨n + 1, 0, none⟩)]

theorem run_within (l h : Int) (lim : Nat) (H : AH) : apL Tryz.prog pf (.func (.func 116) #[] #[]) [.int .i64 l, .int .i64 h] lim H = some (withinV H.length, H ++ [.rw 0 [.int .i64 l], .rw 0 [.int .i64 h]]) := by
  rw [apL_func _ _ _ _ _ _ (by rfl), sf_checks_Within_eq]
  simp [sf_checks_Within, pf_pure, pureF, withinV]

def spanIn (l h : Int) (x : Int × Int) : Bool := decide (l ≤ x.1) && decide (x.1 ≤ x.2) && decide (x.2 ≤ h)

theorem isQ_within (l h : Int) (H : AH) (n : Nat) (h1 : H[n]? = some (.rw 0 [.int .i64 l])) (h2 : H[n + 1]? = some (.rw 0 [.int .i64 h])) : IsQ H (withinV n) (spanIn l h) := by
  refine ⟨⟨by simp [withinV], rfl, rfl⟩, fun H' hH x lim => ?_⟩
  obtain ⟨x1, x2⟩ := x
  have k1 := hH _ _ h1
  have k2 := hH _ _ h2
  unfold withinV
  simp only [spV]
  rw [apL_func _ _ _ _ _ _ (by rfl), sf_checks_Within_1_eq]
  by_cases hx : l ≤ x1
  · by_cases hy : x1 ≤ x2 <;> simp [sf_checks_Within_1, k1, k2, hx, hy, spanIn, pf_pure, pureF]
  · simp [sf_checks_Within_1, k1, k2, hx, spanIn, pf_pure, pureF]

def allLoop2 : SC := sf_checks_All_api_Span.body.loops.headD .skip

theorem all_loop2 (xs : List (Int × Int)) (hlen : xs.length < 2 ^ 62) (H : AH) (v f : Value) (p : Int × Int → Bool) (hv : Sl H v xs.length (spans xs)) (hp : IsQ H f p) (S : St) (h1 : tget S.t 1 = f) (h7 : tget S.t 7 = v) (h8 : tget S.t 8 = .int .i64 xs.length) (h9 : tget S.t 9 = .int .i64 0) (hH : S.H = H) :
    ∃ r, exL Tryz.prog pf (.loop allLoop2) S = some r ∧ r.2.H = H ∧ ((r.1 = .exit 0 ∧ xs.all p = true) ∨ (r.1 = .ret ∧ tget r.2.t 4 = .bool false ∧ xs.all p = false)) := by
  obtain ⟨aa, ac, rfl, hd⟩ := hv
  obtain ⟨⟨hn, _⟩, hp⟩ := hp
  have hp := fun x lim => hp H (Ext.refl H) x lim
  refine loop_rule (I := fun n s' => ∃ i, i ≤ xs.length ∧ n = xs.length - i ∧ tget s'.t 1 = f ∧ tget s'.t 7 = .slice aa xs.length ac ∧ tget s'.t 8 = .int .i64 xs.length ∧ tget s'.t 9 = .int .i64 i ∧ s'.H = H ∧ ∀ j (h : j < xs.length), j < i → p xs[j] = true) ?_ xs.length S ⟨0, by omega, by omega, h1, h7, h8, h9, hH, by omega⟩
  rintro n s' ⟨i, hi, rfl, e1, e7, e8, e9, eH, et⟩
  by_cases hlt : i < xs.length
  · obtain ⟨b1, o1, rfl, c1⟩ := hd (i * 2) _ (spans_get hlt).1
    obtain ⟨b1', o1', e, c2⟩ := hd (i * 2 + 1) _ (spans_get hlt).2
    cases e
    rw [show o1 + (i * 2 + 1) = o1 + i * 2 + 1 by omega] at c2
    have hps : ∀ lim, apL Tryz.prog pf f [.agg #[.int .i64 xs[i].1, .int .i64 xs[i].2]] lim H = some (.bool (p xs[i]), H) := fun lim => hp xs[i] lim
    have hw : IntKind.i64.wrap ((i : Int) + 1) = (i : Int) + 1 := wrap_i64 (by omega) (by omega)
    simp only [hcell] at c1 c2
    cases hx : p xs[i] with
    | true =>
      simp [allLoop2, SC.loops, sf_checks_All_api_Span, e1, e7, e8, e9, eH, hlt, c1, c2, hw, hn, hps, hx]
      exact ⟨_, by omega, i + 1, by omega, rfl, by omega, fun j h hj => by
        by_cases e : j = i
        · subst e; exact hx
        · exact et j h (by omega)⟩
    | false =>
      simp [allLoop2, SC.loops, sf_checks_All_api_Span, e1, e7, e8, e9, eH, hlt, c1, c2, hw, hn, hps, hx]
      exact ⟨xs[i].1, xs[i].2, List.getElem_mem hlt, hx⟩
  · have : i = xs.length := by omega
    subst this
    simp [allLoop2, SC.loops, sf_checks_All_api_Span, e1, e7, e8, e9, eH]
    intro x1 x2 hx
    obtain ⟨j, h, e⟩ := List.mem_iff_getElem.1 hx
    rw [← e]; exact et j h h

/-- All: whether p holds of each span. -/
theorem run_all2 (xs : List (Int × Int)) (hlen : xs.length < 2 ^ 62) (H : AH) (lim : Nat) (v f : Value) (p : Int × Int → Bool) (hv : Sl H v xs.length (spans xs)) (hp : IsQ H f p) :
    apL Tryz.prog pf (.func (.func 117) #[] #[]) [v, f] lim H = some (.bool (xs.all p), H) := by
  rw [apL_func _ _ _ _ _ _ (by rfl), sf_checks_All_api_Span_eq]
  have hv0 := hv
  obtain ⟨aa, ac, ev, _⟩ := hv0
  simp [sf_checks_All_api_Span, ev]
  generalize hS : ({ t := _, L := _, H := _, lim := _, rd := _ } : St) = S
  obtain ⟨⟨e, s1⟩, hr, q2, q3⟩ := all_loop2 xs hlen H v f p hv hp S (by subst hS; simp) (by subst hS; simp [ev]) (by subst hS; simp) (by subst hS; simp) (by subst hS; rfl)
  simp [allLoop2, SC.loops, sf_checks_All_api_Span] at hr
  rw [hr]
  simp only at q2 q3
  rcases q3 with ⟨rfl, h⟩ | ⟨rfl, h4, h⟩
  · simp [h, q2, pf_pure, pureF]
  · simp [h, h4, q2, pf_pure, pureF]
end Go.Proofs.YthobfecblpnnnaaGreatDoor

/- Contracts of the functions, in the abstract machine: chart.valid. -/
set_option linter.all false
namespace Go.Proofs.YthobfecblpnnnaaGreatDoor
open Go Go.RowKit

/-- The blocks that chart.valid makes. -/
def validH (H : AH) : AH := H ++ [.rw 0 [.int .i64 1], .rw 0 [.int .i64 12], .rw 0 [.int .i64 (-1000)], .rw 0 [.int .i64 1000], .rw 0 [.int .i64 1], .rw 0 [.int .i64 60], .rw 0 [.int .i64 0], .rw 0 [.int .i64 100], .rw 0 [.int .i64 0], .rw 0 [.int .i64 200]]

theorem validH_get (H : AH) (k : Nat) : (validH H)[H.length + k]? = ((validH H).drop H.length)[k]? := by rw [List.getElem?_drop]

theorem validH_drop (H : AH) : (validH H).drop H.length = [.rw 0 [.int .i64 1], .rw 0 [.int .i64 12], .rw 0 [.int .i64 (-1000)], .rw 0 [.int .i64 1000], .rw 0 [.int .i64 1], .rw 0 [.int .i64 60], .rw 0 [.int .i64 0], .rw 0 [.int .i64 100], .rw 0 [.int .i64 0], .rw 0 [.int .i64 200]] := by simp [validH]

open Classical in
theorem run_valid (c : Ch) (lim : Nat) (H : AH) (d t s : Value) (hc : ChIn H c d t s) : apL Tryz.prog pf (.func (.func 83) #[] #[]) [chV c d t s] lim H = some (.bool (decide (ChOk c)), H) := by
  rw [apL_func _ _ _ _ _ _ (by rfl), sf_chart_valid_eq]
  have hE : Ext H (validH H) := Ext.push H _
  have p1 := isP_between 1 12 (validH H) H.length (by simp [validH]) ((validH_get H 1).trans (by rw [validH_drop]; rfl))
  have p2 := isP_between (-1000) 1000 (validH H) (H.length + 2) ((validH_get H 2).trans (by rw [validH_drop]; rfl)) ((validH_get H 3).trans (by rw [validH_drop]; rfl))
  have p3 := isP_between 1 60 (validH H) (H.length + 4) ((validH_get H 4).trans (by rw [validH_drop]; rfl)) ((validH_get H 5).trans (by rw [validH_drop]; rfl))
  have p4 := isP_between 0 100 (validH H) (H.length + 6) ((validH_get H 6).trans (by rw [validH_drop]; rfl)) ((validH_get H 7).trans (by rw [validH_drop]; rfl))
  have q5 := isQ_within 0 200 (validH H) (H.length + 8) ((validH_get H 8).trans (by rw [validH_drop]; rfl)) ((validH_get H 9).trans (by rw [validH_drop]; rfl))
  have r1 := fun x lim => p1.2 (validH H) (Ext.refl _) x lim
  have r3 := fun x lim => p3.2 (validH H) (Ext.refl _) x lim
  have a2 := fun lim => run_all c.depth hc.dl (validH H) lim d _ _ (hc.d.ext hE) p2
  have a4 := fun lim => run_all c.swell hc.sl (validH H) lim s _ _ (hc.s.ext hE) p4
  have a5 := fun lim => run_all2 c.tide hc.tl (validH H) lim t _ _ (hc.t.ext hE) q5
  have hc' := hc
  obtain ⟨⟨da, dc, ed, _⟩, ⟨ta, tc, et, _⟩, ⟨sa, sc, es, _⟩, _, _, _⟩ := hc'
  rw [ed] at a2
  rw [es] at a4
  rw [et] at a5
  have hb := fun l h lim H => run_between l h lim H
  have hw := fun l h lim H => run_within l h lim H
  simp only [betweenV, withinV, validH] at hb hw r1 r3 a2 a4 a5
  by_cases a1 : 1 ≤ c.w ∧ c.w ≤ 12
  rotate_left
  · have b1 : (decide (1 ≤ c.w) && decide (c.w ≤ 12)) = false := by simpa using a1
    have : ¬ ChOk c := fun h => a1 h.1
    simp [sf_chart_valid, chV, ed, et, es, hb, hw, r1, b1, this, pf_pure, pureF]
  have b1 : (decide (1 ≤ c.w) && decide (c.w ≤ 12)) = true := by simpa using a1
  by_cases a2' : 1 ≤ c.h ∧ c.h ≤ 12
  rotate_left
  · have b2 : (decide (1 ≤ c.h) && decide (c.h ≤ 12)) = false := by simpa using a2'
    have : ¬ ChOk c := fun h => a2' h.2.1
    simp [sf_chart_valid, chV, ed, et, es, hb, hw, r1, b1, b2, this, pf_pure, pureF]
  have b2 : (decide (1 ≤ c.h) && decide (c.h ≤ 12)) = true := by simpa using a2'
  have hmul : IntKind.i64.wrap (c.w * c.h) = c.w * c.h := by
    have h1 : 0 ≤ c.w * c.h := Int.mul_nonneg (by omega) (by omega)
    have h2 : c.w * c.h ≤ 12 * 12 := Int.mul_le_mul a1.2 a2'.2 (by omega) (by omega)
    exact wrap_i64 (by omega) (by omega)
  by_cases a3 : (c.depth.length : Int) = c.w * c.h
  rotate_left
  · have b3 : ((c.depth.length : Int) == c.w * c.h) = false := by simpa using a3
    have : ¬ ChOk c := fun h => a3 h.2.2.1
    simp [sf_chart_valid, chV, ed, et, es, hb, hw, r1, b1, b2, b3, hmul, this, pf_pure, pureF]
  have b3 : ((c.depth.length : Int) == c.w * c.h) = true := by simpa using a3
  cases b4 : (c.depth.all fun x => decide (-1000 ≤ x) && decide (x ≤ 1000)) with
  | false =>
    have : ¬ ChOk c := fun h => by
      have : (c.depth.all fun x => decide (-1000 ≤ x) && decide (x ≤ 1000)) = true := List.all_eq_true.2 fun x hx => by simpa using h.2.2.2.2.2.1 x hx
      rw [b4] at this; cases this
    rw [b4] at a2
    simp [sf_chart_valid, chV, ed, et, es, hb, hw, r1, b1, b2, b3, a2, hmul, this, pf_pure, pureF]
  | true =>
  have hdep : ∀ x ∈ c.depth, -1000 ≤ x ∧ x ≤ 1000 := fun x hx => by simpa using List.all_eq_true.1 b4 x hx
  rw [b4] at a2
  by_cases a6 : 1 ≤ c.tide.length ∧ c.tide.length ≤ 60
  rotate_left
  · have b6 : (decide (1 ≤ (c.tide.length : Int)) && decide ((c.tide.length : Int) ≤ 60)) = false := by simp; omega
    have : ¬ ChOk c := fun h => a6 h.2.2.2.1
    simp [sf_chart_valid, chV, ed, et, es, hb, hw, r1, r3, b1, b2, b3, b6, a2, hmul, this, pf_pure, pureF]
  have b6 : (decide (1 ≤ (c.tide.length : Int)) && decide ((c.tide.length : Int) ≤ 60)) = true := by simp; omega
  cases b7 : (c.tide.all (spanIn 0 200)) with
  | false =>
    have : ¬ ChOk c := fun h => by
      have : (c.tide.all (spanIn 0 200)) = true := List.all_eq_true.2 fun x hx => by
        obtain ⟨j, hj, rfl⟩ := List.mem_iff_getElem.1 hx
        have := h.2.2.2.2.2.2 j hj (by rw [h.2.2.2.2.1]; exact hj)
        obtain ⟨u1, u2, u3, _⟩ := this
        simp only [spanIn, Bool.and_eq_true, decide_eq_true_eq]
        omega
      rw [b7] at this; cases this
    rw [b7] at a5
    simp [sf_chart_valid, chV, ed, et, es, hb, hw, r1, r3, b1, b2, b3, b6, a2, a5, hmul, this, pf_pure, pureF]
  | true =>
  rw [b7] at a5
  by_cases a8 : c.swell.length = c.tide.length
  rotate_left
  · have b8 : ((c.swell.length : Int) == c.tide.length) = false := by simp; omega
    have : ¬ ChOk c := fun h => a8 h.2.2.2.2.1
    simp [sf_chart_valid, chV, ed, et, es, hb, hw, r1, r3, b1, b2, b3, b6, b8, a2, a5, hmul, this, pf_pure, pureF]
  have b8 : ((c.swell.length : Int) == c.tide.length) = true := by simp; omega
  cases b9 : (c.swell.all fun x => decide (0 ≤ x) && decide (x ≤ 100)) with
  | false =>
    have : ¬ ChOk c := fun h => by
      have : (c.swell.all fun x => decide (0 ≤ x) && decide (x ≤ 100)) = true := List.all_eq_true.2 fun x hx => by
        obtain ⟨j, hj, rfl⟩ := List.mem_iff_getElem.1 hx
        have := h.2.2.2.2.2.2 j (by omega) hj
        simpa using this.2.2.2
      rw [b9] at this; cases this
    rw [b9] at a4
    simp [sf_chart_valid, chV, ed, et, es, hb, hw, r1, r3, b1, b2, b3, b6, b8, a2, a4, a5, hmul, this, pf_pure, pureF]
  | true =>
    rw [b9] at a4
    have : ChOk c := by
      refine ⟨a1, a2', a3, a6, a8, hdep, fun j hj hj' => ?_⟩
      have h1 := List.all_eq_true.1 b7 _ (List.getElem_mem hj)
      have h2 := List.all_eq_true.1 b9 _ (List.getElem_mem hj')
      simp only [spanIn, Bool.and_eq_true, decide_eq_true_eq] at h1 h2
      exact ⟨h1.1.1, h1.1.2, h1.2, h2.1, h2.2⟩
    simp [sf_chart_valid, chV, ed, et, es, hb, hw, r1, r3, b1, b2, b3, b6, b8, a2, a4, a5, hmul, this, pf_pure, pureF]
end Go.Proofs.YthobfecblpnnnaaGreatDoor

/- Contracts of the functions, in the abstract machine: charts that are open. -/
set_option linter.all false
namespace Go.Proofs.YthobfecblpnnnaaGreatDoor
open Go Go.RowKit

def cellF (c : Ch) (d t s : Value) : Value := .func (.func 85) #[chV c d t s] #[]
def tickF (c : Ch) (d t s : Value) : Value := .func (.func 86) #[chV c d t s] #[]

/-- Whether a number is one of n. -/
def inN (n : Nat) (x : Int) : Bool := decide (0 ≤ x) && decide (x ≤ (n : Int) - 1)

theorem ext_between (H : AH) (l h : Int) (x : Int) (lim : Nat) : apL Tryz.prog pf (betweenV H.length) [.int .i64 x] lim (H ++ [.rw 0 [.int .i64 l], .rw 0 [.int .i64 h]]) = some (.bool (decide (l ≤ x) && decide (x ≤ h)), H ++ [.rw 0 [.int .i64 l], .rw 0 [.int .i64 h]]) :=
  (isP_between l h (H ++ [.rw 0 [.int .i64 l], .rw 0 [.int .i64 h]]) H.length (by simp) (by simp)).2 _ (Ext.refl _) x lim

theorem nl_betweenV (n : Nat) : nl (betweenV n) = true := by simp [betweenV]

theorem isP_cell (c : Ch) (H : AH) (d t s : Value) (hc : ChIn H c d t s) : IsP H (cellF c d t s) (inN c.depth.length) := by
  have hdl := hc.dl
  obtain ⟨⟨da, dc, ed, _⟩, ⟨ta, tc, et, _⟩, ⟨sa, sc, es, _⟩, _, _, _⟩ := hc
  refine ⟨⟨by simp [cellF, chV, ed, et, es], rfl, rfl⟩, fun H' hH x lim => ?_⟩
  unfold cellF
  rw [apL_func _ _ _ _ _ _ (by rfl), sf_chart_sea_isCell_eq]
  have hw : IntKind.i64.wrap ((c.depth.length : Int) - 1) = (c.depth.length : Int) - 1 := wrap_i64 (by omega) (by omega)
  have hb := ext_between H' 0 ((c.depth.length : Int) - 1) x
  have hr := run_between
  simp only [betweenV] at hb hr
  simp [sf_chart_sea_isCell, chV, ed, et, es, hw, hb, hr, inN, pf_pure, pureF]

theorem isP_tick (c : Ch) (H : AH) (d t s : Value) (hc : ChIn H c d t s) : IsP H (tickF c d t s) (inN c.tide.length) := by
  have hdl := hc.tl
  obtain ⟨⟨da, dc, ed, _⟩, ⟨ta, tc, et, _⟩, ⟨sa, sc, es, _⟩, _, _, _⟩ := hc
  refine ⟨⟨by simp [tickF, chV, ed, et, es], rfl, rfl⟩, fun H' hH x lim => ?_⟩
  unfold tickF
  rw [apL_func _ _ _ _ _ _ (by rfl), sf_chart_sea_isTick_eq]
  have hw : IntKind.i64.wrap ((c.tide.length : Int) - 1) = (c.tide.length : Int) - 1 := wrap_i64 (by omega) (by omega)
  have hb := ext_between H' 0 ((c.tide.length : Int) - 1) x
  have hr := run_between
  simp only [betweenV] at hb hr
  simp [sf_chart_sea_isTick, chV, ed, et, es, hw, hb, hr, inN, pf_pure, pureF]

def noCh : Value := .agg #[.int .i64 0, .int .i64 0, .slice none 0 0, .slice none 0 0, .slice none 0 0]

open Classical in
/-- The error of a chart, some cells and some ticks. -/
noncomputable def openE (c : Ch) (cells ticks : List Int) : Int := if ChOk c then (if cells.all (inN c.depth.length) && ticks.all (inN c.tide.length) then 0 else 1) else 10

theorem run_open (c : Ch) (lim : Nat) (H : AH) (d t s : Value) (hc : ChIn H c d t s) (xs ys : List Int) (x y : Value) (hx : Sl H x xs.length (ints xs)) (hy : Sl H y ys.length (ints ys)) (hxl : xs.length < 2 ^ 62) (hyl : ys.length < 2 ^ 62) :
    apL Tryz.prog pf (.func (.func 49) #[] #[]) [chV c d t s, x, y] lim H = some (.tuple #[if openE c xs ys = 0 then chV c d t s else noCh, .int .i64 (openE c xs ys)], H) := by
  rw [apL_func _ _ _ _ _ _ (by rfl), sf_chart_open_eq]
  have hv := fun lim => run_valid c lim H d t s hc
  have a1 := fun lim => run_all xs hxl H lim x _ _ hx (isP_cell c H d t s hc)
  have a2 := fun lim => run_all ys hyl H lim y _ _ hy (isP_tick c H d t s hc)
  obtain ⟨⟨da, dc, ed, _⟩, ⟨ta, tc, et, _⟩, ⟨sa, sc, es, _⟩, _, _, _⟩ := hc
  obtain ⟨xa, xc, ex, _⟩ := hx
  obtain ⟨ya, yc, ey, _⟩ := hy
  simp only [cellF, tickF, chV, ed, et, es, ex, ey] at hv a1 a2
  by_cases hok : ChOk c
  rotate_left
  · simp [sf_chart_open, chV, ed, et, es, ex, ey, hv, hok, openE, noCh, pf_pure, pureF]
  cases b1 : xs.all (inN c.depth.length)
  · simp [sf_chart_open, chV, ed, et, es, ex, ey, hv, hok, a1, b1, openE, noCh, pf_pure, pureF]
  cases b2 : ys.all (inN c.tide.length)
  · simp [sf_chart_open, chV, ed, et, es, ex, ey, hv, hok, a1, b1, a2, b2, openE, noCh, pf_pure, pureF]
  · simp [sf_chart_open, chV, ed, et, es, ex, ey, hv, hok, a1, b1, a2, b2, openE, noCh, pf_pure, pureF]

open Classical in
theorem run_chartCheck (c : Ch) (lim : Nat) (H : AH) (d t s : Value) (hc : ChIn H c d t s) : apL Tryz.prog pf (.func (.func 76) #[] #[]) [chV c d t s] lim H = some (.int .i64 (if ChOk c then 0 else 10), H) := by
  rw [apL_func _ _ _ _ _ _ (by rfl), sf_chart_Check_eq]
  have hv := fun lim => run_valid c lim H d t s hc
  obtain ⟨⟨da, dc, ed, _⟩, ⟨ta, tc, et, _⟩, ⟨sa, sc, es, _⟩, _, _, _⟩ := hc
  simp only [chV, ed, et, es] at hv
  by_cases hok : ChOk c <;> simp [sf_chart_Check, chV, ed, et, es, hv, hok, pf_pure, pureF]

theorem run_isDraught (x : Int) (lim : Nat) (H : AH) : apL Tryz.prog pf (.func (.func 153) #[] #[]) [.int .i64 x] lim H = some (.bool (decide (1 ≤ x) && decide (x ≤ 100)), H) := by
  rw [apL_func _ _ _ _ _ _ (by rfl), sf_chart_isDraught_eq]
  have hb := ext_between H 1 100 x
  have hr := run_between
  simp only [betweenV] at hb hr
  simp [sf_chart_isDraught, hb, hr, pf_pure, pureF]

/-- A boat on a chart. -/
def boV (c : Ch) (d t s : Value) (g : Int) : Value := .agg #[.int .i64 c.w, .int .i64 c.h, d, t, s, .int .i64 g]
def noBo : Value := .agg #[.int .i64 0, .int .i64 0, .slice none 0 0, .slice none 0 0, .slice none 0 0, .int .i64 0]

noncomputable def embE (c : Ch) (g : Int) (cells ticks : List Int) : Int := if openE c cells ticks = 0 then (if 1 ≤ g ∧ g ≤ 100 then 0 else 1) else openE c cells ticks

theorem run_embark (c : Ch) (lim : Nat) (H : AH) (d t s : Value) (hc : ChIn H c d t s) (g : Int) (xs ys : List Int) (x y : Value) (hx : Sl H x xs.length (ints xs)) (hy : Sl H y ys.length (ints ys)) (hxl : xs.length < 2 ^ 62) (hyl : ys.length < 2 ^ 62) :
    apL Tryz.prog pf (.func (.func 142) #[] #[]) [chV c d t s, .int .i64 g, x, y] lim H = some (.tuple #[if embE c g xs ys = 0 then boV c d t s g else noBo, .int .i64 (embE c g xs ys)], H) := by
  rw [apL_func _ _ _ _ _ _ (by rfl), sf_chart_embark_eq]
  have ho := fun lim => run_open c lim H d t s hc xs ys x y hx hy hxl hyl
  have hd := run_isDraught g
  obtain ⟨⟨da, dc, ed, _⟩, ⟨ta, tc, et, _⟩, ⟨sa, sc, es, _⟩, _, _, _⟩ := hc
  obtain ⟨xa, xc, ex, _⟩ := hx
  obtain ⟨ya, yc, ey, _⟩ := hy
  simp only [chV, ed, et, es, ex, ey] at ho
  by_cases h0 : openE c xs ys = 0
  rotate_left
  · have h1 : (openE c xs ys != 0) = true := by simpa using h0
    simp only [h0, if_false] at ho
    simp [sf_chart_embark, chV, ed, et, es, ex, ey, ho, h0, h1, embE, noBo, noCh, pf_pure, pureF]
  simp only [h0, if_true] at ho
  by_cases hg : 1 ≤ g ∧ g ≤ 100
  · simp [sf_chart_embark, chV, ed, et, es, ex, ey, ho, h0, hd, hg, embE, boV, pf_pure, pureF]
  · have hb : (decide (1 ≤ g) && decide (g ≤ 100)) = false := by simpa using hg
    simp [sf_chart_embark, chV, ed, et, es, ex, ey, ho, h0, hd, hg, hb, embE, noBo, pf_pure, pureF]
end Go.Proofs.YthobfecblpnnnaaGreatDoor

/- Contracts of the functions, in the abstract machine: the water, and what floats. -/
set_option linter.all false
namespace Go.Proofs.YthobfecblpnnnaaGreatDoor
open Go Go.RowKit

def Ch.dep (c : Ch) (i : Nat) : Int := c.depth.getD i 0
def Ch.sw (c : Ch) (i : Nat) : Int := c.swell.getD i 0
def Ch.lo (c : Ch) (i : Nat) : Int := (c.tide.getD i (0, 0)).1
def Ch.hi (c : Ch) (i : Nat) : Int := (c.tide.getD i (0, 0)).2
/-- The water over a cell in a tick with a height of the tide. -/
def Ch.over (c : Ch) (i t : Nat) (h : Int) : Int := c.dep i - c.sw t + h
def Ch.cells (c : Ch) : Nat := c.depth.length
def Ch.ticks (c : Ch) : Nat := c.tide.length

theorem ChIn.dep {H : AH} {c : Ch} {d t s : Value} (hc : ChIn H c d t s) {i : Nat} (hi : i < c.cells) : ∃ b o k, d = .slice (some ⟨b, o, none⟩) c.depth.length k ∧ hcell H b (o + i) = some (.int .i64 (c.dep i)) := by
  obtain ⟨a, k, e, hd⟩ := hc.d
  have hi' : i < c.depth.length := hi
  obtain ⟨b, o, ea, h⟩ := hd i (.int .i64 c.depth[i]) (by simp [ints, hi'])
  exact ⟨b, o, k, by rw [e, ea], by rw [h]; simp [Ch.dep, hi']⟩

theorem ChIn.sw {H : AH} {c : Ch} {d t s : Value} (hc : ChIn H c d t s) {i : Nat} (hi : i < c.swell.length) : ∃ b o k, s = .slice (some ⟨b, o, none⟩) c.swell.length k ∧ hcell H b (o + i) = some (.int .i64 (c.sw i)) := by
  obtain ⟨a, k, e, hd⟩ := hc.s
  obtain ⟨b, o, ea, h⟩ := hd i (.int .i64 c.swell[i]) (by simp [ints, hi])
  exact ⟨b, o, k, by rw [e, ea], by rw [h]; simp [Ch.sw, hi]⟩

theorem ChIn.td {H : AH} {c : Ch} {d t s : Value} (hc : ChIn H c d t s) {i : Nat} (hi : i < c.ticks) : ∃ b o k, t = .slice (some ⟨b, o, none⟩) c.tide.length k ∧ hcell H b (o + i * 2) = some (.int .i64 (c.lo i)) ∧ hcell H b (o + i * 2 + 1) = some (.int .i64 (c.hi i)) := by
  obtain ⟨a, k, e, hd⟩ := hc.t
  have hi' : i < c.tide.length := hi
  obtain ⟨b, o, ea, h⟩ := hd _ _ (spans_get hi').1
  obtain ⟨b', o', ea', h'⟩ := hd _ _ (spans_get hi').2
  rw [ea] at ea'
  cases ea'
  rw [show o + (i * 2 + 1) = o + i * 2 + 1 by omega] at h'
  exact ⟨b, o, k, by rw [e, ea], by rw [h]; simp [Ch.lo, hi'], by rw [h']; simp [Ch.hi, hi']⟩

/-- What is so of the numbers of a valid chart. -/
theorem ChOk.bounds {c : Ch} (h : ChOk c) {i t : Nat} (hi : i < c.cells) (ht : t < c.ticks) : (-1000 ≤ c.dep i ∧ c.dep i ≤ 1000) ∧ (0 ≤ c.lo t ∧ c.lo t ≤ c.hi t ∧ c.hi t ≤ 200) ∧ (0 ≤ c.sw t ∧ c.sw t ≤ 100) := by
  have hi' : i < c.depth.length := hi
  have ht' : t < c.tide.length := ht
  have hs : t < c.swell.length := by rw [h.2.2.2.2.1]; exact ht'
  have h1 := h.2.2.2.2.2.1 c.depth[i] (by simp)
  obtain ⟨k1, k2, k3, k4, k5⟩ := h.2.2.2.2.2.2 t ht' hs
  simp only [Ch.dep, Ch.lo, Ch.hi, Ch.sw, List.getD_eq_getElem?_getD, List.getElem?_eq_getElem hi', List.getElem?_eq_getElem ht', List.getElem?_eq_getElem hs, Option.getD_some]
  exact ⟨h1, ⟨k1, k2, k3⟩, k4, k5⟩

def seaV (c : Ch) (d t s : Value) : Value := chV c d t s

theorem run_water (c : Ch) (hok : ChOk c) (lim : Nat) (H : AH) (d t s : Value) (hc : ChIn H c d t s) {i k : Nat} (hi : i < c.cells) (hk : k < c.ticks) :
    apL Tryz.prog pf (.func (.func 154) #[] #[]) [chV c d t s, .int .i64 i, .int .i64 k] lim H = some (.agg #[.int .i64 (c.over i k (c.lo k)), .int .i64 (c.over i k (c.hi k))], H) := by
  rw [apL_func _ _ _ _ _ _ (by rfl), sf_chart_sea_water_eq]
  obtain ⟨⟨b1, b2⟩, ⟨b3, b4, b5⟩, b6, b7⟩ := hok.bounds hi hk
  have hsl : k < c.swell.length := by rw [hok.2.2.2.2.1]; exact hk
  obtain ⟨bd, od, kd, rfl, d1⟩ := hc.dep hi
  obtain ⟨bs, os, ks, rfl, s1⟩ := hc.sw hsl
  obtain ⟨bt, ot, kt, rfl, t1, t2⟩ := hc.td hk
  have hi' : i < c.depth.length := hi
  have hk' : k < c.tide.length := hk
  have w1 : IntKind.i64.wrap (c.dep i - c.sw k) = c.dep i - c.sw k := wrap_i64 (by omega) (by omega)
  have w2 : IntKind.i64.wrap (c.dep i - c.sw k + c.lo k) = c.dep i - c.sw k + c.lo k := wrap_i64 (by omega) (by omega)
  have w3 : IntKind.i64.wrap (c.dep i - c.sw k + c.hi k) = c.dep i - c.sw k + c.hi k := wrap_i64 (by omega) (by omega)
  simp only [hcell] at d1 s1 t1 t2
  simp [sf_chart_sea_water, chV, hi', hk', hsl, d1, s1, t1, t2, w1, w2, w3, Ch.over, pf_pure, pureF]

/-- Whether a boat surely floats; whether it may. -/
def Ch.sure (c : Ch) (g : Int) (i t : Nat) : Bool := decide (g ≤ c.over i t (c.lo t))
def Ch.may (c : Ch) (g : Int) (i t : Nat) : Bool := decide (g ≤ c.over i t (c.hi t))

theorem run_surely (c : Ch) (hok : ChOk c) (lim : Nat) (H : AH) (d t s : Value) (hc : ChIn H c d t s) (g : Int) {i k : Nat} (hi : i < c.cells) (hk : k < c.ticks) :
    apL Tryz.prog pf (.func (.func 143) #[] #[]) [boV c d t s g, .int .i64 i, .int .i64 k] lim H = some (.bool (c.sure g i k), H) := by
  rw [apL_func _ _ _ _ _ _ (by rfl), sf_chart_boat_surelyFloats_eq]
  have hw := fun lim => run_water c hok lim H d t s hc hi hk
  obtain ⟨⟨da, dc, ed, _⟩, ⟨ta, tc, et, _⟩, ⟨sa, sc, es, _⟩, _, _, _⟩ := hc
  simp only [chV, ed, et, es] at hw
  simp [sf_chart_boat_surelyFloats, boV, ed, et, es, hw, Ch.sure, pf_pure, pureF]

theorem run_mayFloat (c : Ch) (hok : ChOk c) (lim : Nat) (H : AH) (d t s : Value) (hc : ChIn H c d t s) (g : Int) {i k : Nat} (hi : i < c.cells) (hk : k < c.ticks) :
    apL Tryz.prog pf (.func (.func 144) #[] #[]) [boV c d t s g, .int .i64 i, .int .i64 k] lim H = some (.bool (c.may g i k), H) := by
  rw [apL_func _ _ _ _ _ _ (by rfl), sf_chart_boat_mayFloat_eq]
  have hw := fun lim => run_water c hok lim H d t s hc hi hk
  obtain ⟨⟨da, dc, ed, _⟩, ⟨ta, tc, et, _⟩, ⟨sa, sc, es, _⟩, _, _, _⟩ := hc
  simp only [chV, ed, et, es] at hw
  simp [sf_chart_boat_mayFloat, boV, ed, et, es, hw, Ch.may, pf_pure, pureF]

theorem inN_iff {n : Nat} {x : Int} : inN n x = true ↔ ∃ i : Nat, i < n ∧ x = i := by
  simp only [inN, Bool.and_eq_true, decide_eq_true_eq]
  constructor
  · rintro ⟨h1, h2⟩; exact ⟨x.toNat, by omega, by omega⟩
  · rintro ⟨i, h, rfl⟩; omega

theorem openE_zero {c : Ch} {xs ys : List Int} (h : openE c xs ys = 0) : ChOk c ∧ xs.all (inN c.cells) = true ∧ ys.all (inN c.ticks) = true := by
  unfold openE at h
  split at h
  · rename_i hok
    split at h
    · rename_i h2; simp only [Bool.and_eq_true] at h2; exact ⟨hok, h2.1, h2.2⟩
    · cases h
  · cases h

theorem Sl.one (H : AH) (x : Int) : Sl (H ++ [.rw 1 [.int .i64 x]]) (.slice (some ⟨H.length, 0, none⟩) 1 1) [x].length (ints [x]) :=
  ⟨_, 1, rfl, fun j v hv => ⟨H.length, 0, rfl, by
    simp only [ints, List.map] at hv
    simp only [hcell, Nat.zero_add, List.getElem?_append_right (Nat.le_refl _), Nat.sub_self, List.getElem?_cons_zero]
    exact hv⟩⟩

/-- A list of numbers that has just been made. -/
theorem Sl.made {H : AH} {b : Nat} {l : List Int} {n k : Nat} (h : H[b]? = some (.rw 1 (ints l))) (hn : n = l.length) : Sl H (.slice (some ⟨b, 0, none⟩) n k) l.length (ints l) :=
  ⟨_, k, by rw [hn], fun j v hv => ⟨b, 0, rfl, by simp only [hcell, h, Nat.zero_add]; exact hv⟩⟩

theorem Sl.nil {H : AH} {k : Nat} : Sl H (.slice none 0 k) ([] : List Int).length (ints []) := ⟨none, k, rfl, fun j v hv => by simp [ints] at hv⟩

/-- What the program says of the water. -/
noncomputable def waterR (c : Ch) (a b : Int) : Value := .tuple #[if openE c [a] [b] = 0 then .agg #[.int .i64 (c.over a.toNat b.toNat (c.lo b.toNat)), .int .i64 (c.over a.toNat b.toNat (c.hi b.toNat))] else .agg #[.int .i64 0, .int .i64 0], .int .i64 (openE c [a] [b])]

theorem ChIn.ext {H H' : AH} (hE : Ext H H') {c : Ch} {d t s : Value} (hc : ChIn H c d t s) : ChIn H' c d t s := ⟨hc.d.ext hE, hc.t.ext hE, hc.s.ext hE, hc.dl, hc.tl, hc.sl⟩

theorem embE_zero {c : Ch} {g : Int} {xs ys : List Int} (h : embE c g xs ys = 0) : openE c xs ys = 0 ∧ 1 ≤ g ∧ g ≤ 100 := by
  unfold embE at h
  split at h
  · rename_i h0
    split at h
    · rename_i h1; exact ⟨h0, h1⟩
    · cases h
  · rename_i h0; exact absurd h h0

noncomputable def floatsR (c : Ch) (g a b : Int) : Value := .tuple #[.bool (decide (embE c g [a] [b] = 0) && c.sure g a.toNat b.toNat), .bool (decide (embE c g [a] [b] = 0) && c.may g a.toNat b.toNat), .int .i64 (embE c g [a] [b])]

theorem run_Floats (c : Ch) (lim : Nat) (H : AH) (d t s : Value) (hc : ChIn H c d t s) (g a b : Int) :
    apL Tryz.prog pf (.func (.func 124) #[] #[]) [chV c d t s, .int .i64 g, .int .i64 a, .int .i64 b] lim H = some (floatsR c g a b, H) := by
  rw [apL_func _ _ _ _ _ _ (by rfl), sf_chart_Floats_eq]
  have hc2 : ChIn (H ++ [.rw 1 (ints [a]), .rw 1 (ints [b])]) c d t s := hc.ext (Ext.push H _)
  have ho := fun lim => run_embark c lim _ d t s hc2 g [a] [b] (.slice (some ⟨H.length, 0, none⟩) 1 1) (.slice (some ⟨H.length + 1, 0, none⟩) 1 1) (Sl.made (by simp) rfl) (Sl.made (by simp) rfl) (by simp) (by simp)
  by_cases h0 : embE c g [a] [b] = 0
  · obtain ⟨h00, _⟩ := embE_zero h0
    obtain ⟨hok, h1, h2⟩ := openE_zero h00
    simp only [List.all_cons, List.all_nil, Bool.and_true, inN_iff] at h1 h2
    obtain ⟨i, hi, rfl⟩ := h1
    obtain ⟨k, hk, rfl⟩ := h2
    have hw := fun lim => run_surely c hok lim _ d t s hc2 g hi hk
    have hm := fun lim => run_mayFloat c hok lim _ d t s hc2 g hi hk
    obtain ⟨⟨da, dc, ed, _⟩, ⟨ta, tc, et, _⟩, ⟨sa, sc, es, _⟩, _, _, _⟩ := hc
    simp only [h0, if_true, boV, chV, ed, et, es, ints, List.map] at ho hw hm
    simp [sf_chart_Floats, chV, ed, et, es, ho, hw, hm, h0, floatsR, pf_pure, pureF]
  · have h1 : (embE c g [a] [b] != 0) = true := by simpa using h0
    obtain ⟨⟨da, dc, ed, _⟩, ⟨ta, tc, et, _⟩, ⟨sa, sc, es, _⟩, _, _, _⟩ := hc
    simp only [h0, if_false, chV, ed, et, es, ints, List.map, noBo] at ho
    simp [sf_chart_Floats, chV, ed, et, es, ho, h0, h1, floatsR, pf_pure, pureF]
end Go.Proofs.YthobfecblpnnnaaGreatDoor

/- Contracts of the functions, in the abstract machine: the reference's water; copies; the law ChartFloats. -/
set_option linter.all false
namespace Go.Proofs.YthobfecblpnnnaaGreatDoor
open Go Go.RowKit

theorem run_Over (c : Ch) (hok : ChOk c) (lim : Nat) (H : AH) (d t s : Value) (hc : ChIn H c d t s) {i k : Nat} (hi : i < c.cells) (hk : k < c.ticks) (h : Int) (h0 : -1000000 ≤ h) (h1 : h ≤ 1000000) :
    apL Tryz.prog pf (.func (.func 127) #[] #[]) [chV c d t s, .int .i64 i, .int .i64 k, .int .i64 h] lim H = some (.int .i64 (c.over i k h), H) := by
  rw [apL_func _ _ _ _ _ _ (by rfl), sf_cobleref01_Over_eq]
  obtain ⟨⟨b1, b2⟩, ⟨b3, b4, b5⟩, b6, b7⟩ := hok.bounds hi hk
  have hsl : k < c.swell.length := by rw [hok.2.2.2.2.1]; exact hk
  obtain ⟨bd, od, kd, rfl, d1⟩ := hc.dep hi
  obtain ⟨bs, os, ks, rfl, s1⟩ := hc.sw hsl
  obtain ⟨ta, tc, et, _⟩ := hc.t
  have hi' : i < c.depth.length := hi
  have w1 : IntKind.i64.wrap (c.dep i + h) = c.dep i + h := wrap_i64 (by omega) (by omega)
  have w2 : IntKind.i64.wrap (c.dep i + h - c.sw k) = c.dep i + h - c.sw k := wrap_i64 (by omega) (by omega)
  have e : c.over i k h = c.dep i + h - c.sw k := by unfold Ch.over; omega
  simp only [hcell] at d1 s1
  simp [sf_cobleref01_Over, chV, hi', hsl, d1, s1, w1, w2, e, et, pf_pure, pureF]

theorem run_IsTick (c : Ch) (x : Int) (lim : Nat) (H : AH) (d t s : Value) (hc : ChIn H c d t s) :
    apL Tryz.prog pf (.func (.func 38) #[] #[]) [chV c d t s, .int .i64 x] lim H = some (.bool (inN c.ticks x), H) := by
  show _ = some (Value.bool (inN c.tide.length x), H)
  rw [apL_func _ _ _ _ _ _ (by rfl), sf_cobleref01_IsTick_eq]
  have hdl := hc.tl
  obtain ⟨⟨da, dc, ed, _⟩, ⟨ta, tc, et, _⟩, ⟨sa, sc, es, _⟩, _, _, _⟩ := hc
  have hw : IntKind.i64.wrap ((c.tide.length : Int) - 1) = (c.tide.length : Int) - 1 := wrap_i64 (by omega) (by omega)
  simp [sf_cobleref01_IsTick, chV, ed, et, es, hw, inN, pf_pure, pureF]

theorem ChOk.mul {c : Ch} (h : ChOk c) : 0 ≤ c.w * c.h ∧ c.w * c.h ≤ 144 ∧ c.w * c.h = c.cells := by
  have h1 : 0 ≤ c.w * c.h := Int.mul_nonneg (by have := h.1; omega) (by have := h.2.1; omega)
  have h2 : c.w * c.h ≤ 12 * 12 := Int.mul_le_mul h.1.2 h.2.1.2 (by have := h.2.1; omega) (by omega)
  exact ⟨h1, by omega, h.2.2.1.symm⟩

theorem run_IsCellOk (c : Ch) (hok : ChOk c) (x : Int) (lim : Nat) (H : AH) (d t s : Value) (hc : ChIn H c d t s) :
    apL Tryz.prog pf (.func (.func 39) #[] #[]) [chV c d t s, .int .i64 x] lim H = some (.bool (inN c.cells x), H) := by
  obtain ⟨h1, h2, h3⟩ := hok.mul
  rw [run_IsCell c x lim H d t s hc (wrap_i64 (by omega) (by omega)) (wrap_i64 (by omega) (by omega)), h3]
  rfl

theorem openE_eq {c : Ch} (hok : ChOk c) (xs ys : List Int) : openE c xs ys = if xs.all (inN c.cells) && ys.all (inN c.ticks) then 0 else 1 := by
  unfold openE; rw [if_pos hok]; rfl
theorem openE_bad {c : Ch} (hok : ¬ ChOk c) (xs ys : List Int) : openE c xs ys = 10 := by unfold openE; rw [if_neg hok]

theorem embE_of {c : Ch} {g : Int} {xs ys : List Int} (h : openE c xs ys ≠ 0) : embE c g xs ys = openE c xs ys := by unfold embE; rw [if_neg h]
theorem embE_of0 {c : Ch} {g : Int} {xs ys : List Int} (h : openE c xs ys = 0) : embE c g xs ys = if 1 ≤ g ∧ g ≤ 100 then 0 else 1 := by unfold embE; rw [if_pos h]

theorem cellsAt_of {L : LS} {H : AH} {b : Nat} : ∀ (l : List Value) (o : Nat) (_ : ∀ (j : Nat) x, l[j]? = some x → hcell H b (o + j) = some x), cellsAt L H ⟨b, o, none⟩ l.length = some l
  | [], _, _ => rfl
  | v :: l, o, h => by
    have h1 := h 0 v rfl
    have ih := cellsAt_of (L := L) l (o + 1) (fun j x hx => by rw [show o + 1 + j = o + (j + 1) by omega]; exact h (j + 1) x hx)
    simp only [List.length_cons, cellsAt, cellAt, aadd]
    rw [show o + 0 = o from rfl] at h1
    simp only [h1, ih]

theorem Sl.cells {H : AH} {v : Value} {n : Nat} {cs : List Value} (h : Sl H v n cs) (h0 : 0 < cs.length) : ∃ b o k, v = .slice (some ⟨b, o, none⟩) n k ∧ ∀ L, cellsAt L H ⟨b, o, none⟩ cs.length = some cs := by
  obtain ⟨a, k, e, hk⟩ := h
  obtain ⟨b, o, ea, _⟩ := hk 0 cs[0] (List.getElem?_eq_getElem h0)
  refine ⟨b, o, k, by rw [e, ea], fun L => cellsAt_of cs o fun j x hx => ?_⟩
  obtain ⟨b', o', ea', h'⟩ := hk j x hx
  rw [ea] at ea'
  cases ea'
  exact h'

theorem nlL_ints : ∀ (l : List Int), nlL (ints l) = true
  | [] => by simp [ints, nlL]
  | x :: l => by have := nlL_ints l; simp only [ints, List.map_cons, nlL] at this ⊢; simp [this]
theorem one_ints : ∀ (l : List Int), (ints l).all oneC = true
  | [] => by simp [ints]
  | x :: l => by have := one_ints l; simp only [ints, List.map_cons, List.all_cons] at this ⊢; simp [this, oneC]
theorem nlL_spans : ∀ (l : List (Int × Int)), nlL (spans l) = true
  | [] => by simp [spans, nlL]
  | (x, y) :: l => by have := nlL_spans l; simp only [spans, List.flatMap_cons] at this ⊢; simp [this, nlL]
theorem one_spans : ∀ (l : List (Int × Int)), (spans l).all oneC = true
  | [] => by simp [spans]
  | (x, y) :: l => by have := one_spans l; simp only [spans, List.flatMap_cons] at this ⊢; simp [this, oneC]
theorem ints_length (l : List Int) : (ints l).length = l.length := by simp [ints]
theorem spans_length : ∀ (l : List (Int × Int)), (spans l).length = l.length * 2
  | [] => rfl
  | (x, y) :: l => by have := spans_length l; simp only [spans, List.flatMap_cons, List.length_append, List.length_cons, List.length_nil] at this ⊢; rw [this]; omega
end Go.Proofs.YthobfecblpnnnaaGreatDoor

/- Contracts of the functions, in the abstract machine: copies of charts; the law ChartFloats. -/
set_option linter.all false
namespace Go.Proofs.YthobfecblpnnnaaGreatDoor
open Go Go.RowKit

/-- The blocks of a list that is appended to an empty one, and its slice. -/
def cpB (e : Nat) (cs : List Value) : List ABlk := if cs.length = 0 then [.rw e []] else [.rw e [], .rw e cs]
def cpV (b n : Nat) : Value := if n = 0 then .slice (some ⟨b, 0, none⟩) 0 0 else .slice (some ⟨b + 1, 0, none⟩) n (n + 1)

theorem Sl.cp {H H' : AH} {e n : Nat} {cs : List Value} (hE : Ext (H ++ cpB e cs) H') (hn : cs.length = 0 ↔ n = 0) : Sl H' (cpV H.length n) n cs := by
  unfold cpV
  by_cases h : n = 0
  · have hc := hn.2 h
    rw [if_pos h, h]
    exact ⟨_, 0, rfl, fun j x hx => by rw [List.getElem?_eq_none (by omega)] at hx; cases hx⟩
  · have hc : ¬ cs.length = 0 := fun k => h (hn.1 k)
    rw [if_neg h]
    refine ⟨_, n + 1, rfl, fun j x hx => ⟨H.length + 1, 0, rfl, ?_⟩⟩
    have := hE (H.length + 1) (.rw e cs) (by rw [List.getElem?_append_right (by omega), cpB, if_neg hc, Nat.add_sub_cancel_left]; rfl)
    simp only [hcell, this, Nat.zero_add]
    exact hx

theorem oneC_slice (a : Option Addr) (n c : Nat) : oneC (.slice a n c) = true := by unfold oneC; rfl
theorem oneC_int (k : IntKind) (n : Int) : oneC (.int k n) = true := by unfold oneC; rfl

def copyB (c : Ch) : List ABlk := cpB 1 (ints c.depth) ++ cpB 2 (spans c.tide) ++ cpB 1 (ints c.swell)

set_option maxHeartbeats 2000000 in
theorem run_Copy (c : Ch) (lim : Nat) (H : AH) (d t s : Value) (hc : ChIn H c d t s) (hl : c.depth.length ≤ 1000 ∧ c.tide.length ≤ 1000 ∧ c.swell.length ≤ 1000) :
    ∃ d' t' s', apL Tryz.prog pf (.func (.func 61) #[] #[]) [chV c d t s] lim H = some (chV c d' t' s', H ++ copyB c) ∧ ChIn (H ++ copyB c) c d' t' s' := by
  refine ⟨cpV H.length c.depth.length, cpV (H ++ cpB 1 (ints c.depth)).length c.tide.length, cpV (H ++ cpB 1 (ints c.depth) ++ cpB 2 (spans c.tide)).length c.swell.length, ?_,
    ⟨Sl.cp (H := H) (e := 1) (cs := ints c.depth) ?_ (by rw [ints_length]), Sl.cp (H := H ++ cpB 1 (ints c.depth)) (e := 2) (cs := spans c.tide) ?_ (by rw [spans_length]; omega), Sl.cp (H := H ++ cpB 1 (ints c.depth) ++ cpB 2 (spans c.tide)) (e := 1) (cs := ints c.swell) ?_ (by rw [ints_length]), by omega, by omega, by omega⟩⟩
  rotate_left
  · rw [copyB, ← List.append_assoc, ← List.append_assoc]; exact (Ext.push _ _).trans (Ext.push _ _)
  · rw [copyB, ← List.append_assoc, ← List.append_assoc]; exact Ext.push _ _
  · rw [copyB, ← List.append_assoc, ← List.append_assoc]; exact Ext.refl _
  rw [apL_func _ _ _ _ _ _ (by rfl), sf_cobleref01_Copy_eq]
  obtain ⟨h1, h2, h3⟩ := hl
  have i1 := nlL_ints c.depth
  have i2 := nlL_spans c.tide
  have i3 := nlL_ints c.swell
  have o1 := one_ints c.depth
  have o2 := one_spans c.tide
  have o3 := one_ints c.swell
  have hm1 : c.depth.length ≤ maxA := Nat.le_trans h1 (by decide)
  have hm2 : c.tide.length ≤ maxA := Nat.le_trans h2 (by decide)
  have hm3 : c.swell.length ≤ maxA := Nat.le_trans h3 (by decide)
  have key : ∀ {v : Value} {n : Nat} {cs : List Value}, Sl H v n cs → (0 < cs.length → ∃ b o k, v = .slice (some ⟨b, o, none⟩) n k ∧ ∀ L l, cellsAt L (H ++ l) ⟨b, o, none⟩ cs.length = some cs) ∧ ∃ a k, v = .slice a n k := fun {v n cs} hs => by
    refine ⟨fun h0 => ?_, let ⟨a, k, e, _⟩ := hs; ⟨a, k, e⟩⟩
    obtain ⟨b, o, k, e, _⟩ := hs.cells h0
    refine ⟨b, o, k, e, fun L l => ?_⟩
    obtain ⟨b', o', k', e', hh⟩ := (hs.ext (Ext.push H l)).cells h0
    rw [e] at e'
    cases e'
    exact hh L
  obtain ⟨kd, da, dk, ed⟩ := key hc.d
  obtain ⟨kt, ta, tk, et⟩ := key hc.t
  obtain ⟨ks, sa, sk, es⟩ := key hc.s
  rw [ints_length] at kd ks
  rw [spans_length] at kt
  have D : (c.depth.length = 0 ∧ ∃ a k, d = .slice a 0 k) ∨ 0 < c.depth.length ∧ ∃ b o k, d = .slice (some ⟨b, o, none⟩) c.depth.length k ∧ ∀ L l, cellsAt L (H ++ l) ⟨b, o, none⟩ c.depth.length = some (ints c.depth) := by
    by_cases h : c.depth.length = 0
    · exact .inl ⟨h, da, dk, by rw [ed, h]⟩
    · exact .inr ⟨by omega, kd (by omega)⟩
  have T : (c.tide.length = 0 ∧ ∃ a k, t = .slice a 0 k) ∨ 0 < c.tide.length ∧ ∃ b o k, t = .slice (some ⟨b, o, none⟩) c.tide.length k ∧ ∀ L l, cellsAt L (H ++ l) ⟨b, o, none⟩ (c.tide.length * 2) = some (spans c.tide) := by
    by_cases h : c.tide.length = 0
    · exact .inl ⟨h, ta, tk, by rw [et, h]⟩
    · exact .inr ⟨by omega, kt (by omega)⟩
  have S : (c.swell.length = 0 ∧ ∃ a k, s = .slice a 0 k) ∨ 0 < c.swell.length ∧ ∃ b o k, s = .slice (some ⟨b, o, none⟩) c.swell.length k ∧ ∀ L l, cellsAt L (H ++ l) ⟨b, o, none⟩ c.swell.length = some (ints c.swell) := by
    by_cases h : c.swell.length = 0
    · exact .inl ⟨h, sa, sk, by rw [es, h]⟩
    · exact .inr ⟨by omega, ks (by omega)⟩
  clear kd kt ks ed et es key hc h1 h2 h3
  rcases D with ⟨D, _, _, rfl⟩ | ⟨D, b1, p1, k1, rfl, D'⟩ <;> rcases T with ⟨T, _, _, rfl⟩ | ⟨T, b2, p2, k2, rfl, T'⟩ <;> rcases S with ⟨S, _, _, rfl⟩ | ⟨S, b3, p3, k3, rfl, S'⟩ <;>
    simp [-oneC, oneC_slice, oneC_int, sf_cobleref01_Copy, chV, copyB, cpB, cpV, ints_length, spans_length, pf_pure, pureF, *, Nat.ne_of_gt]
end Go.Proofs.YthobfecblpnnnaaGreatDoor

/- Contracts of the functions, in the abstract machine: the law ChartFloats. -/
set_option linter.all false
namespace Go.Proofs.YthobfecblpnnnaaGreatDoor
open Go Go.RowKit

/-- What the law does not look at. -/
def Far (c : Ch) : Prop := c.depth.length > 146 ∨ c.tide.length > 62 ∨ c.swell.length > 62 ∨ (ChOk c ∧ (c.w * c.h > 40 ∨ c.tide.length > 16))

theorem hG_ext {H : AH} (l : AH) (hG : H[waysG]? = some (.ro waysV)) : (H ++ l)[waysG]? = some (.ro waysV) := Ext.push H l _ _ hG

theorem ChSl.in {A : AH} {c : Ch} {d t s : Value} (hc : ChSl A c d t s) (hl : ¬ (c.depth.length > 146 ∨ c.tide.length > 62 ∨ c.swell.length > 62)) : ChIn A c d t s := ⟨hc.d, hc.t, hc.s, by omega, by omega, by omega⟩

theorem run_CheckT (c : Ch) (lim : Nat) (H : AH) (d t s : Value) (hc : ChIn H c d t s) (hok : ChOk c) : apL Tryz.prog pf (.func (.func 59) #[] #[]) [chV c d t s] lim H = some (.int .i64 0, H) := by
  rw [run_Check c lim H d t s hc, if_pos hok]

theorem run_CheckF (c : Ch) (lim : Nat) (H : AH) (d t s : Value) (hc : ChIn H c d t s) (hok : ¬ ChOk c) : apL Tryz.prog pf (.func (.func 59) #[] #[]) [chV c d t s] lim H = some (.int .i64 10, H) := by
  rw [run_Check c lim H d t s hc, if_neg hok]

theorem ChSl.near {A : AH} {c : Ch} {d t s : Value} (hc : ChSl A c d t s) (hf : ¬ Far c) : ChIn A c d t s := hc.in fun h => hf (by
  unfold Far
  rcases h with h | h | h
  · exact .inl h
  · exact .inr (.inl h)
  · exact .inr (.inr (.inl h)))

theorem Far.short {c : Ch} (hf : ¬ Far c) : c.depth.length ≤ 1000 ∧ c.tide.length ≤ 1000 ∧ c.swell.length ≤ 1000 := by
  unfold Far at hf
  refine ⟨?_, ?_, ?_⟩ <;> (apply Nat.le_of_not_lt; intro h; apply hf)
  · exact .inl (by omega)
  · exact .inr (.inl (by omega))
  · exact .inr (.inr (.inl (by omega)))

end Go.Proofs.YthobfecblpnnnaaGreatDoor
