/- Contracts of the functions, in the abstract machine: the reference's rows of moves, all of them. -/
import Derived.Test.YtojplagenejhdaaDoorRefB
set_option linter.all false
namespace Go.Proofs.YtojplagenejhdaaDoor
open Go Go.RowKit

/-- The first n of a row. -/
def rowT (f : Nat → Int) (N n : Nat) : List Int := (List.range n).map f ++ List.replicate (N - n) 0
theorem rowT_len (f : Nat → Int) {N n : Nat} (h : n ≤ N) : (rowT f N n).length = N := by simp [rowT]; omega
theorem rowT_zero (f : Nat → Int) (N : Nat) : rowT f N 0 = List.replicate N 0 := by simp [rowT]
theorem rowT_all (f : Nat → Int) (N : Nat) : rowT f N N = (List.range N).map f := by simp [rowT]
theorem rowT_set (f : Nat → Int) {N n : Nat} (h : n < N) : (rowT f N n).set n (f n) = rowT f N (n + 1) := by
  unfold rowT
  obtain ⟨m, hm⟩ : ∃ m, N - n = m + 1 := ⟨N - n - 1, by omega⟩
  rw [show N - (n + 1) = m by omega, hm, List.range_succ, List.map_append, List.append_assoc, List.set_append_right _ _ (by simp)]
  simp [List.replicate_succ]

def fiLoop : SC := sf_cobleref01_forth.body.loops.getD 1 .skip

/-- The first row. -/
theorem fi0_loop (c : Ch) (hok : ChOk c) (H : AH) (d t s : Value) (hc : ChIn H c d t s) (g : Int) {cell tick : Nat} (htick : tick < c.ticks) (X : AH) (br : Nat) (hbr : H.length ≤ br) (hA : Aft H X) (hrow : X[br]? = some (.rw 1 (ints (List.replicate c.cells 0)))) (S : St)
    (h1 : tget S.t 1 = .int .i64 g) (h2 : tget S.t 2 = .int .i64 cell) (h3 : tget S.t 3 = .int .i64 tick) (h4 : tget S.t 4 = .pointer (some ⟨4, 0, some 0⟩)) (h10 : tget S.t 10 = .int .i64 tick) (h11 : tget S.t 11 = .slice (some ⟨br, 0, none⟩) c.cells c.cells) (h12 : tget S.t 12 = .int .i64 0) (hL : S.L = [(4, 0, .cells [.int .i64 c.w, .int .i64 c.h, d, t, s])]) (hH : S.H = X) (hlim : S.lim ≤ br) :
    ∃ r, exL Tryd.prog pf (.loop fiLoop) S = some r ∧ r.1 = .exit 2 ∧ r.2.L = S.L ∧ r.2.lim = S.lim ∧ r.2.rd = S.rd ∧ (∀ k, k ∈ [1, 2, 3, 4, 9, 10, 11] → tget r.2.t k = tget S.t k) ∧ Mod br X r.2.H ∧ r.2.H[br]? = some (.rw 1 (ints (rowP c g cell tick 1 0))) := by
  obtain ⟨p0, p1⟩ := hok.pos
  have hbl : br < X.length := (List.getElem?_eq_some_iff.1 hrow).1
  obtain ⟨f, hf⟩ : ∃ f : Nat → Int, f = fun i => if i = cell ∧ c.sure g cell tick = true then 0 else -1 := ⟨_, rfl⟩
  have hend : (List.range c.cells).map f = rowP c g cell tick 1 0 := by
    unfold rowP
    apply List.ext_getElem?
    intro k
    rw [hf]
    by_cases hk : k < c.cells
    · cases hs : c.sure g cell tick with
      | true =>
        simp only [if_true, List.getElem?_set, List.length_replicate]
        by_cases e : cell = k
        · subst e; simp [hk]
        · simp [hk, e, Ne.symm e, show ¬ k = cell from fun h => e h.symm]
      | false => simp [hk]
    · rw [List.getElem?_eq_none (by simp; omega), List.getElem?_eq_none (by split <;> simp <;> omega)]
  rw [← hend, ← rowT_all]
  refine loop_rule (I := fun n s' => ∃ i, i ≤ c.cells ∧ n = c.cells - i ∧ (∀ k, k ∈ [1, 2, 3, 4, 9, 10, 11] → tget s'.t k = tget S.t k) ∧ tget s'.t 12 = .int .i64 i ∧ s'.L = S.L ∧ s'.lim = S.lim ∧ s'.rd = S.rd ∧ Mod br X s'.H ∧ s'.H[br]? = some (.rw 1 (ints (rowT f c.cells i)))) ?_ c.cells S
    ⟨0, by omega, by omega, fun _ _ => rfl, h12, rfl, rfl, rfl, by rw [hH]; exact Mod.refl _ _, by rw [hH, rowT_zero]; exact hrow⟩
  rintro n s' ⟨i, hi, rfl, eK, e12, eL, el, er, eM, eR⟩
  have e1 : tget s'.t 1 = _ := (eK 1 (by simp)).trans h1
  have e2 : tget s'.t 2 = _ := (eK 2 (by simp)).trans h2
  have e3 : tget s'.t 3 = _ := (eK 3 (by simp)).trans h3
  have e4 : tget s'.t 4 = _ := (eK 4 (by simp)).trans h4
  have e9 : tget s'.t 9 = tget S.t 9 := eK 9 (by simp)
  have e10 : tget s'.t 10 = _ := (eK 10 (by simp)).trans h10
  have e11 : tget s'.t 11 = _ := (eK 11 (by simp)).trans h11
  obtain ⟨Y, hY⟩ : ∃ Y, s'.H = Y := ⟨_, rfl⟩
  rw [hY] at eM eR
  by_cases hlt : i < c.cells
  rotate_left
  · have : i = c.cells := by omega
    subst this
    simp [fiLoop, SC.loops, sf_cobleref01_forth, e1, e2, e3, e4, e9, e10, e11, e12, eL, el, er, hY, h1, h2, h3, h4, h10, h11]
    exact ⟨eM, eR⟩
  have hYl : br < Y.length := (List.getElem?_eq_some_iff.1 eR).1
  have hYg : ∀ y, (Y.set br y)[br]? = some y := fun y => List.getElem?_set_self hYl
  have hw1 : IntKind.i64.wrap ((i : Int) + 1) = (i : Int) + 1 := wrap_i64 (by omega) (by omega)
  have hle : i + 1 ≤ (ints (rowT f c.cells i)).length := by rw [ints_length, rowT_len f hi]; omega
  obtain ⟨cs1, hcs1⟩ : ∃ cs1, cs1 = ints ((rowT f c.cells i).set i (-1)) := ⟨_, rfl⟩
  have hset1 : (ints (rowT f c.cells i)).set i (.int .i64 (-1)) = cs1 := by rw [hcs1, ints_set]
  have hle1 : i + 1 ≤ cs1.length := by rw [← hset1]; simpa using hle
  have hset2 : cs1.set i (.int .i64 0) = ints ((rowT f c.cells i).set i 0) := by rw [hcs1, ints_set, List.set_set]
  have hst : ∀ x, f i = x → ints ((rowT f c.cells i).set i x) = ints (rowT f c.cells (i + 1)) := fun x h => by rw [← rowT_set f hlt, h]
  have hM1 : ∀ x, Mod br X (Y.set br x) := fun x => eM.trans (Mod.set br Y x)
  have hA1 : Aft H (Y.set br (.rw 1 cs1)) := Mod.toAft hA (hM1 _) hbr
  have hSu := fun lim => run_Sure c hok lim (Y.set br (.rw 1 cs1)) d t s (hc.ext hA1.ext) g (i := i) hlt htick
  obtain ⟨⟨da, dc, ed, _⟩, ⟨ta, tc, et, _⟩, ⟨sa, sc, es, _⟩, _, _, _⟩ := hc
  simp only [chV, ed, et, es] at hSu
  rw [hL] at eL
  rw [ed, et, es] at eL hL
  have hfi : f i = if i = cell ∧ c.sure g cell tick = true then 0 else -1 := by rw [hf]
  by_cases hic : i = cell
  · subst hic
    cases hs : c.sure g i tick with
    | true =>
      rw [hs] at hSu
      have h0 := hst 0 (by rw [hfi, if_pos ⟨rfl, hs⟩])
      generalize ints (rowT f c.cells i) = cs at *
      simp [fiLoop, SC.loops, sf_cobleref01_forth, e1, e2, e3, e4, e9, e10, e11, e12, eL, el, er, hY, h1, h2, h3, h4, h10, h11, hL, hlt, eR, hle, hlim, hset1, hSu, hYg, hle1, hset2, hw1]
      exact ⟨_, by omega, i + 1, by omega, rfl, by omega, hM1 _, by rw [h0]⟩
    | false =>
      rw [hs] at hSu
      have h0 := hst (-1) (by rw [hfi, if_neg (by rw [hs]; simp)])
      generalize ints (rowT f c.cells i) = cs at *
      simp [fiLoop, SC.loops, sf_cobleref01_forth, e1, e2, e3, e4, e9, e10, e11, e12, eL, el, er, hY, h1, h2, h3, h4, h10, h11, hL, hlt, eR, hle, hlim, hset1, hSu, hw1]
      exact ⟨_, by omega, i + 1, by omega, rfl, by omega, hM1 _, by rw [hcs1, h0]; exact hYg _⟩
  · have hib : ((i : Int) == cell) = false := by rw [beq_eq_false_iff_ne]; omega
    have h0 := hst (-1) (by rw [hfi, if_neg (fun h => hic h.1)])
    generalize ints (rowT f c.cells i) = cs at *
    simp [fiLoop, SC.loops, sf_cobleref01_forth, e1, e2, e3, e4, e9, e10, e11, e12, eL, el, er, hY, h1, h2, h3, h4, h10, h11, hL, hlt, eR, hle, hlim, hset1, hib, hw1]
    exact ⟨_, by omega, i + 1, by omega, rfl, by omega, hM1 _, by rw [hcs1, h0]; exact hYg _⟩

set_option maxHeartbeats 1000000 in
/-- A later row. -/
theorem fi1_loop (c : Ch) (hok : ChOk c) (H : AH) (d t s : Value) (hc : ChIn H c d t s) (g : Int) {tick j : Nat} (hj : tick + (j + 1) < c.ticks) (p : List Int) (hpl : p.length = c.cells) (hp : ∀ i, -1 ≤ p.getD i 0 ∧ p.getD i 0 ≤ 1000) (X : AH) (br : Nat) (hbr : H.length ≤ br) (hA : Aft H X) (hrow : X[br]? = some (.rw 1 (ints (List.replicate c.cells 0))))
    (la : Option Addr) (lk : Nat) (bp : Nat) (hbp : bp ≠ br) (hcl : ∃ b o, la = some ⟨b, o, none⟩ ∧ b ≠ br ∧ hcell X b (o + j) = some (.slice (some ⟨bp, 0, none⟩) c.cells c.cells)) (hbpX : X[bp]? = some (.rw 1 (ints p))) (S : St)
    (h1 : tget S.t 1 = .int .i64 g) (h3 : tget S.t 3 = .int .i64 tick) (h4 : tget S.t 4 = .pointer (some ⟨4, 0, some 0⟩)) (h9 : tget S.t 9 = .slice la (j + 1) lk) (h10 : tget S.t 10 = .int .i64 (tick + (j + 1) : Nat)) (h11 : tget S.t 11 = .slice (some ⟨br, 0, none⟩) c.cells c.cells) (h12 : tget S.t 12 = .int .i64 0) (hL : S.L = [(4, 0, .cells [.int .i64 c.w, .int .i64 c.h, d, t, s])]) (hH : S.H = X) (hlim : S.lim ≤ br) :
    ∃ r, exL Tryd.prog pf (.loop fiLoop) S = some r ∧ r.1 = .exit 2 ∧ r.2.L = S.L ∧ r.2.lim = S.lim ∧ r.2.rd = S.rd ∧ (∀ k, k ∈ [1, 2, 3, 4, 9, 10, 11] → tget r.2.t k = tget S.t k) ∧ Mod br X r.2.H ∧ r.2.H[br]? = some (.rw 1 (ints (aftL c g p (tick + (j + 1))))) := by
  obtain ⟨p0, p1⟩ := hok.pos
  have hT : c.ticks ≤ 60 := hok.2.2.2.1.2
  obtain ⟨lb, lo, hla, hlbr, hlc⟩ := hcl
  have hbl : br < X.length := (List.getElem?_eq_some_iff.1 hrow).1
  obtain ⟨f, hf⟩ : ∃ f : Nat → Int, f = fun i => if c.sure g i (tick + (j + 1)) = true then fewN c.w c.h p i 6 else -1 := ⟨_, rfl⟩
  have hend : (List.range c.cells).map f = aftL c g p (tick + (j + 1)) := by rw [hf]; rfl
  rw [← hend, ← rowT_all]
  refine loop_rule (I := fun n s' => ∃ i, i ≤ c.cells ∧ n = c.cells - i ∧ (∀ k, k ∈ [1, 2, 3, 4, 9, 10, 11] → tget s'.t k = tget S.t k) ∧ tget s'.t 12 = .int .i64 i ∧ s'.L = S.L ∧ s'.lim = S.lim ∧ s'.rd = S.rd ∧ Mod br X s'.H ∧ s'.H[br]? = some (.rw 1 (ints (rowT f c.cells i)))) ?_ c.cells S
    ⟨0, by omega, by omega, fun _ _ => rfl, h12, rfl, rfl, rfl, by rw [hH]; exact Mod.refl _ _, by rw [hH, rowT_zero]; exact hrow⟩
  rintro n s' ⟨i, hi, rfl, eK, e12, eL, el, er, eM, eR⟩
  have e1 : tget s'.t 1 = _ := (eK 1 (by simp)).trans h1
  have e2 : tget s'.t 2 = tget S.t 2 := eK 2 (by simp)
  have e3 : tget s'.t 3 = _ := (eK 3 (by simp)).trans h3
  have e4 : tget s'.t 4 = _ := (eK 4 (by simp)).trans h4
  have e9 : tget s'.t 9 = _ := (eK 9 (by simp)).trans h9
  have e10 : tget s'.t 10 = _ := (eK 10 (by simp)).trans h10
  have e11 : tget s'.t 11 = _ := (eK 11 (by simp)).trans h11
  obtain ⟨Y, hY⟩ : ∃ Y, s'.H = Y := ⟨_, rfl⟩
  rw [hY] at eM eR
  by_cases hlt : i < c.cells
  rotate_left
  · have : i = c.cells := by omega
    subst this
    simp [-Int.natCast_add, fiLoop, SC.loops, sf_cobleref01_forth, e1, e2, e3, e4, e9, e10, e11, e12, eL, el, er, hY, h1, h3, h4, h9, h10, h11]
    exact ⟨eM, eR⟩
  have hYl : br < Y.length := (List.getElem?_eq_some_iff.1 eR).1
  have hw1 : IntKind.i64.wrap ((i : Int) + 1) = (i : Int) + 1 := wrap_i64 (by omega) (by omega)
  have hle : i + 1 ≤ (ints (rowT f c.cells i)).length := by rw [ints_length, rowT_len f hi]; omega
  obtain ⟨row, hrow1⟩ : ∃ row, row = (rowT f c.cells i).set i (-1) := ⟨_, rfl⟩
  have hrl : row.length = c.cells := by rw [hrow1]; simp [rowT_len f hi]
  have hr0 : row.getD i 0 = -1 := by rw [hrow1]; simp [List.getD_eq_getElem?_getD, rowT_len f hi, hlt]
  have hset1 : (ints (rowT f c.cells i)).set i (.int .i64 (-1)) = ints row := by rw [hrow1, ints_set]
  have hM1 : Mod br X (Y.set br (.rw 1 (ints row))) := eM.trans (Mod.set br Y _)
  have hA1 : Aft H (Y.set br (.rw 1 (ints row))) := Mod.toAft hA hM1 hbr
  obtain ⟨nv, A, w1, w2, w3⟩ := run_near c hok (Y.set br (.rw 1 (ints row))) d t s (hc.ext hA1.ext) hlt
  obtain ⟨na, nk, hna, rfl, _, hnA⟩ := w3
  have hna : br < na := by simp at hna; omega
  have hM2 : Mod br X A := hM1.trans (Mod.aft w2)
  have hA2 : Aft H A := hA1.trans w2
  have hrA : A[br]? = some (.rw 1 (ints row)) := w2.ext _ _ (by rw [List.getElem?_set_self hYl])
  have hlc2 : hcell A lb (lo + j) = some (.slice (some ⟨bp, 0, none⟩) c.cells c.cells) := by
    unfold hcell at hlc ⊢
    cases hx : X[lb]? with
    | none => rw [hx] at hlc; simp at hlc
    | some y => rw [hM2.getE hlbr hx]; rw [hx] at hlc; exact hlc
  have hfi : (if c.sure g i (tick + (j + 1)) = true then fewN c.w c.h p i 6 else -1) = f i := by rw [hf]
  have hfin : row.set i (f i) = rowT f c.cells (i + 1) := by rw [hrow1, List.set_set, rowT_set f hlt]
  have htk : (((tick + (j + 1) : Nat) : Int) == (tick : Int)) = false := by rw [beq_eq_false_iff_ne]; omega
  have hfk := fun S => fk_loop c hok d t s g hlt hj p hpl hp A (hc.ext hA2.ext) br row hrl hrA hr0 (.slice la (j + 1) lk) la lk rfl bp hbp ⟨lb, lo, hla, hlbr, hlc2⟩ (hM2.getE hbp hbpX) (.slice (some ⟨na, 0, none⟩) (nearTo c i 6).length nk) na nk (by omega) rfl hnA (fun Z hZ => hc.ext (Mod.toAft hA2 hZ hbr).ext) S
  rw [hfi] at hfk
  obtain ⟨⟨da, dc, ed, _⟩, ⟨ta, tc, et, _⟩, ⟨sa, sc, es, _⟩, _, _, _⟩ := hc
  simp only [chV, ed, et, es] at w1
  rw [hL] at eL
  rw [ed, et, es] at eL hL
  rw [ed, et, es] at hfk
  generalize ints (rowT f c.cells i) = cs at *
  obtain ⟨rs, hrs⟩ : ∃ rs, rs = ints row := ⟨_, rfl⟩
  rw [← hrs] at hset1 w1
  simp [-Int.natCast_add, fiLoop, SC.loops, sf_cobleref01_forth, e1, e2, e3, e4, e9, e10, e11, e12, eL, el, er, hY, h1, h3, h4, h9, h10, h11, hL, hlt, eR, hle, hlim, hset1, htk, w1]
  generalize hS : ({ t := _, L := _, H := _, lim := _, rd := _ } : St) = S2
  obtain ⟨⟨e, s1⟩, hr, q1, qL, ql, qr, qK, qH⟩ := hfk S2 (by subst hS; simp [e1]) (by subst hS; simp [e3]) (by subst hS; simp [e4]) (by subst hS; simp [e9]) (by subst hS; simp [e10]) (by subst hS; simp [e11]) (by subst hS; simp [e12]) (by subst hS; simp) (by subst hS; simp) (by subst hS; simp) (by subst hS; rfl) (by subst hS; exact hlim)
  simp [fkLoop, SC.loops, sf_cobleref01_forth] at hr
  rw [hr]
  simp only at q1 qL ql qr qK qH
  subst q1
  have k1 : tget s1.t 1 = _ := (qK 1 (by simp)).trans (by subst hS; simp [e1]; rfl)
  have k2 : tget s1.t 2 = tget S.t 2 := (qK 2 (by simp)).trans (by subst hS; simp [e2])
  have k3 : tget s1.t 3 = _ := (qK 3 (by simp)).trans (by subst hS; simp [e3]; rfl)
  have k4 : tget s1.t 4 = _ := (qK 4 (by simp)).trans (by subst hS; simp [e4]; rfl)
  have k9 : tget s1.t 9 = _ := (qK 9 (by simp)).trans (by subst hS; simp [e9]; rfl)
  have k10 : tget s1.t 10 = .int .i64 (tick + (j + 1) : Nat) := (qK 10 (by simp)).trans (by subst hS; simp [e10])
  have k11 : tget s1.t 11 = _ := (qK 11 (by simp)).trans (by subst hS; simp [e11]; rfl)
  have k12 : tget s1.t 12 = _ := (qK 12 (by simp)).trans (by subst hS; simp [e12]; rfl)
  have jL : s1.L = [(4, 0, .cells [.int .i64 c.w, .int .i64 c.h, .slice da c.depth.length dc, .slice ta c.tide.length tc, .slice sa c.swell.length sc])] := by rw [qL]; subst hS; rfl
  have jl : s1.lim = S.lim := by rw [ql]; subst hS; rfl
  have jr : s1.rd = S.rd := by rw [qr]; subst hS; rfl
  simp [-Int.natCast_add, k1, k2, k3, k4, k9, k10, k11, k12, jL, jl, jr, hw1, h1, h3, h4, h9, h10, h11, and_assoc]
  refine ⟨_, by omega, i + 1, by omega, rfl, by omega, ?_, ?_⟩
  · rw [qH]; exact hM2.trans (Mod.set br A _)
  · rw [qH, hfin, List.getElem?_set_self (List.getElem?_eq_some_iff.1 hrA).1]
end Go.Proofs.YtojplagenejhdaaDoor
