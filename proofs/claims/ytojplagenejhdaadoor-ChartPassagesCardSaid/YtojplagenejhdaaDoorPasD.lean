/- Contracts of the functions, in the abstract machine: passages that a loop goes through. -/
import Derived.Test.YtojplagenejhdaaDoorPasC
set_option linter.all false
namespace Go.Proofs.YtojplagenejhdaaDoor
open Go Go.RowKit

theorem apL_bound2 {f : FuncId} {a : Value} {args : List Value} {lim : Nat} {H : AH} (h1 : orcA pf f #[a] #[] args = none) (h2 : orcA pf f #[] #[] (a :: args) = none) : apL Tryd.prog pf (.func (.func f) #[a] #[]) args lim H = apL Tryd.prog pf (.func (.func f) #[] #[]) (a :: args) lim H := by
  rw [apL_func _ _ _ _ _ _ h1, apL_func _ _ _ _ _ _ h2]
  rfl

theorem run_isTick (c : Ch) (x : Int) (lim : Nat) (H : AH) (d t s : Value) (hc : ChIn H c d t s) : apL Tryd.prog pf (.func (.func 79) #[] #[]) [chV c d t s, .int .i64 x] lim H = some (.bool (inN c.ticks x), H) := by
  rw [← apL_bound2 (by rfl) (by rfl)]
  exact (isP_tick c H d t s hc).2 H (Ext.refl H) x lim

theorem fewStep_le {w h : Int} {l : List Int} {m : Int} (hm : -1 ≤ m) (hl : ∀ i, -1 ≤ l.getD i 0 ∧ l.getD i 0 ≤ m) (i k : Nat) {x : Int} (hx : -1 ≤ x ∧ x ≤ m + 1) : -1 ≤ fewStep w h l i x k ∧ fewStep w h l i x k ≤ m + 1 := by
  unfold fewStep
  split
  · rename_i j _
    have := hl j.toNat
    split <;> omega
  · exact hx

theorem fewN_le {w h : Int} {l : List Int} {m : Int} (hm : -1 ≤ m) (hl : ∀ i, -1 ≤ l.getD i 0 ∧ l.getD i 0 ≤ m) (i : Nat) : ∀ n, -1 ≤ fewN w h l i n ∧ fewN w h l i n ≤ m + 1
  | 0 => by have := hl i; unfold fewN; simp only [List.range_zero, List.foldl_nil]; omega
  | n + 1 => by rw [fewN_succ]; exact fewStep_le hm hl i n (fewN_le hm hl i n)

/-- The least numbers of moves in the j-th tick that is gone through. -/
def rowP (c : Ch) (g : Int) (cell tick : Nat) (step : Int) : Nat → List Int
  | 0 => if c.sure g cell tick = true then (List.replicate c.cells (-1)).set cell 0 else List.replicate c.cells (-1)
  | j + 1 => aftL c g (rowP c g cell tick step j) ((tick : Int) + ((j + 1 : Nat) : Int) * step).toNat

theorem rowP_len (c : Ch) (g : Int) (cell tick : Nat) (step : Int) : ∀ j, (rowP c g cell tick step j).length = c.cells
  | 0 => by unfold rowP; split <;> simp
  | j + 1 => by simp [rowP, aftL]

theorem aftL_get (c : Ch) (g : Int) (l : List Int) (k i : Nat) (hi : i < c.cells) : (aftL c g l k).getD i 0 = if c.sure g i k = true then fewN c.w c.h l i 6 else -1 := by
  simp [aftL, List.getD_eq_getElem?_getD, hi]

theorem rowP_le (c : Ch) (g : Int) (cell tick : Nat) (step : Int) : ∀ j i, -1 ≤ (rowP c g cell tick step j).getD i 0 ∧ (rowP c g cell tick step j).getD i 0 ≤ j
  | 0, i => by
    unfold rowP
    by_cases hi : i < c.cells
    · split
      · simp only [List.getD_eq_getElem?_getD, List.getElem?_set]
        split
        · split <;> simp
        · simp [hi]
      · simp [List.getD_eq_getElem?_getD, hi]
    · have h1 : ∀ l : List Int, l.length = c.cells → l.getD i 0 = 0 := fun l h => by simp [List.getD_eq_getElem?_getD, List.getElem?_eq_none (show l.length ≤ i by omega)]
      split
      · rw [h1 _ (by simp)]; simp
      · rw [h1 _ (by simp)]; simp
  | j + 1, i => by
    by_cases hi : i < c.cells
    · simp only [rowP]
      rw [aftL_get _ _ _ _ _ hi]
      have := fewN_le (w := c.w) (h := c.h) (l := rowP c g cell tick step j) (m := j) (by omega) (fun i => rowP_le c g cell tick step j i) i 6
      split <;> omega
    · have : (rowP c g cell tick step (j + 1)).getD i 0 = 0 := by
        have hl := rowP_len c g cell tick step (j + 1)
        simp [List.getD_eq_getElem?_getD, List.getElem?_eq_none (show (rowP c g cell tick step (j + 1)).length ≤ i by omega)]
      rw [this]; omega

theorem rowP_mem (c : Ch) (g : Int) (cell tick : Nat) (step : Int) (j : Nat) : ∀ x ∈ rowP c g cell tick step j, -1 ≤ x ∧ x ≤ j := fun x hx => by
  obtain ⟨i, hi, rfl⟩ := List.mem_iff_getElem.1 hx
  have := rowP_le c g cell tick step j i
  simp only [List.getD_eq_getElem?_getD, List.getElem?_eq_getElem hi, Option.getD_some] at this
  exact this

def psV (n : Nat) : Value := .func (.func 86) #[] #[.pointer (some ⟨n, 0, none⟩), .pointer (some ⟨n + 1, 0, none⟩), .pointer (some ⟨n + 2, 0, none⟩), .pointer (some ⟨n + 3, 0, none⟩)]

theorem run_passages (c : Ch) (lim : Nat) (H : AH) (d t s : Value) (hc : ChIn H c d t s) (g a b e : Int) :
    apL Tryd.prog pf (.func (.func 66) #[] #[]) [boV c d t s g, .int .i64 a, .int .i64 b, .int .i64 e] lim H = some (psV H.length, H ++ [.rw 0 [.int .i64 c.w, .int .i64 c.h, d, t, s, .int .i64 g], .rw 0 [.int .i64 a], .rw 0 [.int .i64 b], .rw 0 [.int .i64 e]]) := by
  rw [apL_func _ _ _ _ _ _ (by rfl), sf_chart_boat_passages_eq]
  obtain ⟨⟨da, dc, ed, _⟩, ⟨ta, tc, et, _⟩, ⟨sa, sc, es, _⟩, _, _, _⟩ := hc
  simp [sf_chart_boat_passages, boV, ed, et, es, psV, pf_pure, pureF]

/-- What a consumer of the passages must bear. M: how many ticks there are. -/
structure PsC (c : Ch) (d t s : Value) (g : Int) (cell tick : Nat) (step : Int) (M n lim : Nat) (fv : Value) (Inv : Nat → AH → Prop) (Fin : AH → Prop) : Prop where
  there : ∀ j A, Inv j A → A[n]? = some (.rw 0 [.int .i64 c.w, .int .i64 c.h, d, t, s, .int .i64 g]) ∧ A[n + 1]? = some (.rw 0 [.int .i64 cell]) ∧ A[n + 2]? = some (.rw 0 [.int .i64 tick]) ∧ A[n + 3]? = some (.rw 0 [.int .i64 step]) ∧ ChIn A c d t s ∧ A[waysG]? = some (.ro waysV) ∧ lim ≤ A.length ∧ n + 5 ≤ A.length
  push : ∀ j A X, Inv j A → Inv j (A ++ X)
  yield : ∀ j A b, j < M → Inv j A → n + 4 < b → A[b]? = some (.rw 1 (ints (rowP c g cell tick step j))) →
    ∃ bl A', apL Tryd.prog pf fv [.int .i64 ((tick : Int) + (j : Int) * step), .slice (some ⟨b, 0, none⟩) c.cells c.cells] lim A = some (.bool bl, A') ∧ A'[b]? = A[b]? ∧ (bl = true → Inv (j + 1) A') ∧ (bl = false → Fin A')

def psLoop : SC := sf_chart_boat_passages_1.body.loops.headD .skip

theorem ps_loop (c : Ch) (hok : ChOk c) (d t s : Value) (g : Int) {cell tick : Nat} (step : Int) (hst : step = 1 ∨ step = -1) (M n lim : Nat) (hM : ∀ j : Nat, (inN c.ticks ((tick : Int) + (j : Int) * step) = true ↔ j < M)) (fv : Value) (hn : nl fv = true) (Inv : Nat → AH → Prop) (Fin : AH → Prop) (hC : PsC c d t s g cell tick step M n lim fv Inv Fin) (S : St)
    (h0 : tget S.t 0 = fv) (h1 : tget S.t 1 = .pointer (some ⟨n, 0, none⟩)) (h4 : tget S.t 4 = .pointer (some ⟨n + 3, 0, none⟩)) (h7 : tget S.t 7 = .int .i64 tick) (b : Nat) (hb : n + 4 < b) (h6 : tget S.t 6 = .slice (some ⟨b, 0, none⟩) c.cells c.cells) (hbA : S.H[b]? = some (.rw 1 (ints (rowP c g cell tick step 0)))) (hH : Inv 0 S.H) (hlim : S.lim = lim) (hM0 : 0 < M) :
    ∃ q, exL Tryd.prog pf (.loop psLoop) S = some q ∧ q.1 = .exit 0 ∧ (Inv M q.2.H ∨ Fin q.2.H) := by
  have hT : c.ticks ≤ 60 := hok.2.2.2.1.2
  have hMT : M ≤ 60 := by
    apply Nat.le_of_not_lt
    intro h
    have a0 := (inN_iff.1 ((hM 0).2 (by omega)))
    have a60 := (inN_iff.1 ((hM 60).2 (by omega)))
    obtain ⟨x, x1, x2⟩ := a0
    obtain ⟨y, y1, y2⟩ := a60
    rcases hst with rfl | rfl <;> omega
  refine loop_rule (I := fun m s' => ∃ (j b : Nat), j < M ∧ m = M - j ∧ n + 4 < b ∧ tget s'.t 0 = fv ∧ tget s'.t 1 = .pointer (some ⟨n, 0, none⟩) ∧ tget s'.t 4 = .pointer (some ⟨n + 3, 0, none⟩) ∧ tget s'.t 6 = .slice (some ⟨b, 0, none⟩) c.cells c.cells ∧ tget s'.t 7 = .int .i64 ((tick : Int) + (j : Int) * step) ∧ s'.H[b]? = some (.rw 1 (ints (rowP c g cell tick step j))) ∧ Inv j s'.H ∧ s'.lim = lim) ?_ M S
    ⟨0, b, hM0, by omega, hb, h0, h1, h4, h6, by rw [h7]; simp, hbA, hH, hlim⟩
  rintro m s' ⟨j, b, hj, rfl, hb, e0, e1, e4, e6, e7, ebA, eI, el⟩
  obtain ⟨A, hA⟩ : ∃ A, s'.H = A := ⟨_, rfl⟩
  rw [hA] at eI ebA
  obtain ⟨bl, A', y1, y2, y3, y4⟩ := hC.yield j A b hj eI hb ebA
  cases bl with
  | false =>
    simp [psLoop, SC.loops, sf_chart_boat_passages_1, e0, e1, e4, e6, e7, el, hA, hn, y1]
    exact .inr (y4 rfl)
  | true =>
    have hI' := y3 rfl
    obtain ⟨x1, x2, x3, x4, x5, x6, x7, x8⟩ := hC.there (j + 1) A' hI'
    obtain ⟨tx, hx1, hx2⟩ := inN_iff.1 ((hM j).2 hj)
    have hnx : (tick : Int) + (j : Int) * step + step = (tick : Int) + ((j + 1 : Nat) : Int) * step := by rw [show (((j + 1 : Nat) : Int)) = (j : Int) + 1 by omega, Int.add_mul]; omega
    have hbd : -1 ≤ (tick : Int) + (j : Int) * step + step ∧ (tick : Int) + (j : Int) * step + step ≤ 100 := by rcases hst with rfl | rfl <;> omega
    have hw : IntKind.i64.wrap ((tick : Int) + (j : Int) * step + step) = (tick : Int) + ((j + 1 : Nat) : Int) * step := by rw [wrap_i64 (by omega) (by omega), hnx]
    have hTk := fun lim => run_isTick c ((tick : Int) + ((j + 1 : Nat) : Int) * step) lim A' d t s x5
    have hAf := fun {k : Nat} (hk : k < c.ticks) lim => run_after c hok lim A' x6 d t s (.slice (some ⟨b, 0, none⟩) c.cells c.cells) x5 g (rowP c g cell tick step j) (rowP_len ..) (fun x hx => by have := rowP_mem c g cell tick step j x hx; omega) ⟨_, _, by rw [rowP_len], fun i v hv => ⟨b, 0, rfl, by simp only [hcell, y2, ebA, Nat.zero_add]; exact hv⟩⟩ hk
    obtain ⟨⟨da, dc, ed, _⟩, ⟨ta, tc, et, _⟩, ⟨sa, sc, es, _⟩, _, _, _⟩ := x5
    simp only [chV, boV, ed, et, es] at hTk hAf x1
    by_cases hj2 : j + 1 < M
    · have ht := (hM (j + 1)).2 hj2
      obtain ⟨k, hk, ek⟩ := inN_iff.1 ht
      rw [ht] at hTk
      have hAf := fun lim => hAf hk lim
      have erow : rowP c g cell tick step (j + 1) = aftL c g (rowP c g cell tick step j) k := by
        simp only [rowP]; congr 1; omega
      rw [ek] at hTk hw
      simp [psLoop, SC.loops, sf_chart_boat_passages_1, e0, e1, e4, e6, e7, el, hA, hn, y1, x1, x4, hw, hTk, hAf]
      exact ⟨_, by omega, j + 1, hj2, rfl, A'.length + 1, by omega, rfl, by omega, by rw [List.getElem?_append_right (by omega)]; simp [erow], hC.push _ _ _ hI'⟩
    · have hjM : j + 1 = M := by omega
      have ht : inN c.ticks ((tick : Int) + ((j + 1 : Nat) : Int) * step) = false := by
        cases h : inN c.ticks ((tick : Int) + ((j + 1 : Nat) : Int) * step)
        · rfl
        · exact absurd ((hM (j + 1)).1 h) hj2
      rw [ht] at hTk
      simp [-Int.natCast_add, psLoop, SC.loops, sf_chart_boat_passages_1, e0, e1, e4, e6, e7, el, hA, hn, y1, x1, x4, hw, hTk]
      exact .inl (by rw [← hjM]; exact hI')

/-- Going through the ticks of passages. -/
theorem run_ps (c : Ch) (hok : ChOk c) (d t s : Value) (g : Int) {cell tick : Nat} (hcell : cell < c.cells) (htick : tick < c.ticks) (step : Int) (hst : step = 1 ∨ step = -1) (M n lim : Nat) (hM : ∀ j : Nat, (inN c.ticks ((tick : Int) + (j : Int) * step) = true ↔ j < M)) (fv : Value) (hn : nl fv = true) (Inv : Nat → AH → Prop) (Fin : AH → Prop) (hC : PsC c d t s g cell tick step M n lim fv Inv Fin) (A : AH) (hA : Inv 0 A) :
    ∃ A', apL Tryd.prog pf (psV n) [fv] lim A = some (.tuple #[], A') ∧ (Inv M A' ∨ Fin A') := by
  unfold psV
  rw [apL_func _ _ _ _ _ _ (by rfl), sf_chart_boat_passages_1_eq]
  obtain ⟨x1, x2, x3, x4, x5, x6, x7, x8⟩ := hC.there 0 A hA
  have hM0 : 0 < M := (hM 0).1 (inN_iff.2 ⟨tick, htick, by simp⟩)
  have hNw := fun lim => run_nowhere c hok lim A d t s x5 g
  have hSf := fun lim X => run_surely c hok lim (A ++ X) d t s (x5.ext (Ext.push A X)) g hcell htick
  obtain ⟨p0, p1⟩ := hok.pos
  obtain ⟨⟨da, dc, ed, _⟩, ⟨ta, tc, et, _⟩, ⟨sa, sc, es, _⟩, _, _, _⟩ := x5
  simp only [boV, ed, et, es] at hNw hSf x1
  obtain ⟨cs, hcs⟩ : ∃ cs, cs = ints (List.replicate c.cells (-1)) := ⟨_, rfl⟩
  rw [← hcs] at hNw
  have gx : ∀ (k : Nat) (x : ABlk), A[k]? = some x → ∀ X : AH, (A ++ X)[k]? = some x := fun k x h X => Ext.push A X k x h
  have x1' := gx _ _ x1
  have x2' := gx _ _ x2
  have x3' := gx _ _ x3
  have hset : cs.set cell (.int .i64 0) = ints ((List.replicate c.cells (-1)).set cell 0) := by rw [hcs]; simp [ints, List.map_set]
  have hle : cell + 1 ≤ cs.length := by rw [hcs, ints_length]; simp; omega
  have hsl : (A ++ [ABlk.rw 1 [.int .i64 (-1)], .rw 1 cs]).set (A.length + 1) (.rw 1 (ints ((List.replicate c.cells (-1)).set cell 0))) = A ++ [ABlk.rw 1 [.int .i64 (-1)], .rw 1 (ints ((List.replicate c.cells (-1)).set cell 0))] := by
    rw [List.set_append_right _ _ (by omega), Nat.add_sub_cancel_left]; rfl
  have hl1 : lim ≤ A.length + 1 := by omega
  cases hs : c.sure g cell tick with
  | false =>
    simp [sf_chart_boat_passages_1, x1, x1', x2', x3', hNw, hSf, hs, pf_pure, pureF]
    generalize hS : ({ t := _, L := _, H := _, lim := _, rd := _ } : St) = S
    obtain ⟨⟨e, s1⟩, hr, q1, q2⟩ := ps_loop c hok d t s g (cell := cell) (tick := tick) step hst M n lim hM fv hn Inv Fin hC S (by subst hS; simp) (by subst hS; simp) (by subst hS; simp) (by subst hS; simp) (A.length + 1) (by omega) (by subst hS; simp) (by subst hS; simp only; rw [List.getElem?_append_right (by omega)]; simp [rowP, hs, hcs]) (by subst hS; exact hC.push _ _ _ hA) (by subst hS; rfl) hM0
    simp [psLoop, SC.loops, sf_chart_boat_passages_1] at hr
    rw [hr]
    simp only at q1 q2
    subst q1
    simp
    exact q2
  | true =>
    simp [sf_chart_boat_passages_1, x1, x1', x2', x3', hNw, hSf, hs, hcell, hle, hset, hsl, hl1, pf_pure, pureF]
    generalize hS : ({ t := _, L := _, H := _, lim := _, rd := _ } : St) = S
    obtain ⟨⟨e, s1⟩, hr, q1, q2⟩ := ps_loop c hok d t s g (cell := cell) (tick := tick) step hst M n lim hM fv hn Inv Fin hC S (by subst hS; simp) (by subst hS; simp) (by subst hS; simp) (by subst hS; simp) (A.length + 1) (by omega) (by subst hS; simp) (by subst hS; simp only; rw [List.getElem?_append_right (by omega)]; simp [rowP, hs]) (by subst hS; exact hC.push _ _ _ hA) (by subst hS; rfl) hM0
    simp [psLoop, SC.loops, sf_chart_boat_passages_1] at hr
    rw [hr]
    simp only at q1 q2
    subst q1
    simp
    exact q2
end Go.Proofs.YtojplagenejhdaaDoor
