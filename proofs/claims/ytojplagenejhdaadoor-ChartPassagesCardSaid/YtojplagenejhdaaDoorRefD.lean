/- Contracts of the functions, in the abstract machine: forth. -/
import Derived.Test.YtojplagenejhdaaDoorRefC
set_option linter.all false
namespace Go.Proofs.YtojplagenejhdaaDoor
open Go Go.RowKit

/-- The rows so far: a list of one's own, of lists of one's own. -/
def RowsO (c : Ch) (g : Int) (cell tick : Nat) (A : AH) (n0 n1 j : Nat) (v : Value) (cs : List Value) : Prop :=
  cs.length = j ∧ nlL cs = true ∧ ((j = 0 ∧ v = .slice none 0 0) ∨ (0 < j ∧ ∃ pb, v = .slice (some ⟨pb, 0, none⟩) j (j + 1) ∧ A[pb]? = some (.rw 1 cs) ∧ n0 ≤ pb ∧ pb < n1 ∧
    ∀ m, m < j → ∃ bm, cs[m]? = some (.slice (some ⟨bm, 0, none⟩) c.cells c.cells) ∧ bm ≠ pb ∧ n0 ≤ bm ∧ bm < n1 ∧ A[bm]? = some (.rw 1 (ints (rowP c g cell tick 1 m)))))

theorem RowsO.mod {c : Ch} {g : Int} {cell tick : Nat} {A B : AH} {n0 n1 j br : Nat} {v : Value} {cs : List Value} (h : RowsO c g cell tick A n0 n1 j v cs) (hn : n1 ≤ br) (hM : Mod br A B) : RowsO c g cell tick B n0 n1 j v cs := by
  obtain ⟨h1, h2, h3⟩ := h
  refine ⟨h1, h2, ?_⟩
  rcases h3 with h3 | ⟨h3, pb, h4, h5, h6, h7, h8⟩
  · exact .inl h3
  · refine .inr ⟨h3, pb, h4, hM.getE (by omega) h5, h6, h7, fun m hm => ?_⟩
    obtain ⟨bm, k1, k2, k3, k4, k5⟩ := h8 m hm
    exact ⟨bm, k1, k2, k3, k4, hM.getE (by omega) k5⟩

/-- A row more. -/
theorem RowsO.snoc {c : Ch} {g : Int} {cell tick : Nat} {A B : AH} {n0 n1 j br : Nat} {v : Value} {cs : List Value} (h : RowsO c g cell tick A n0 n1 j v cs) (hn0 : n0 ≤ n1) (hn1 : n1 ≤ br) (hbr : A[br]? = some (.rw 1 (ints (rowP c g cell tick 1 j)))) (hB : ∀ b, (∀ pb n m, v = .slice (some ⟨pb, 0, none⟩) n m → b ≠ pb) → b < A.length → B[b]? = A[b]?) (pb : Nat) (hpb : A.length ≤ pb) (hpB : B[pb]? = some (.rw 1 (cs ++ [.slice (some ⟨br, 0, none⟩) c.cells c.cells]))) (n2 : Nat) (hn2 : pb < n2) :
    RowsO c g cell tick B n0 n2 (j + 1) (.slice (some ⟨pb, 0, none⟩) (j + 1) (j + 2)) (cs ++ [.slice (some ⟨br, 0, none⟩) c.cells c.cells]) := by
  obtain ⟨h1, h2, h3⟩ := h
  have hbl : br < A.length := (List.getElem?_eq_some_iff.1 hbr).1
  refine ⟨by simp [h1], by rw [nlL_append]; simp [h2], .inr ⟨by omega, pb, rfl, hpB, by omega, hn2, fun m hm => ?_⟩⟩
  by_cases e : m = j
  · subst e
    refine ⟨br, by rw [List.getElem?_append_right (by omega), h1]; simp, by omega, by omega, by omega, ?_⟩
    rw [hB br (fun pb' n q hv => ?_) hbl, hbr]
    rcases h3 with ⟨_, h4⟩ | ⟨_, pb', h4, _, _, h7, _⟩
    · rw [h4] at hv; cases hv
    · rw [h4] at hv; cases hv; omega
  · rcases h3 with ⟨h3, _⟩ | ⟨h3, pb', h4, h5, h6, h7, h8⟩
    · omega
    · obtain ⟨bm, k1, k2, k3, k4, k5⟩ := h8 m (by omega)
      have hml : bm < A.length := (List.getElem?_eq_some_iff.1 k5).1
      refine ⟨bm, by rw [List.getElem?_append_left (by omega), k1], by omega, k3, by omega, ?_⟩
      rw [hB bm (fun pb n q hv => ?_) hml, k5]
      rw [h4] at hv; cases hv; exact k2

def ftLoop : SC := sf_cobleref01_forth.body.loops.headD .skip

set_option maxHeartbeats 2000000 in
theorem ft_loop (c : Ch) (hok : ChOk c) (H : AH) (d t s : Value) (hc : ChIn H c d t s) (g : Int) {cell tick : Nat} (htick : tick < c.ticks) (S : St)
    (h1 : tget S.t 1 = .int .i64 g) (h2 : tget S.t 2 = .int .i64 cell) (h3 : tget S.t 3 = .int .i64 tick) (h4 : tget S.t 4 = .pointer (some ⟨4, 0, some 0⟩)) (h9 : tget S.t 9 = .slice none 0 0) (h10 : tget S.t 10 = .int .i64 tick) (hL : S.L = [(4, 0, .cells [.int .i64 c.w, .int .i64 c.h, d, t, s])]) (hH : S.H = H) (hlim : S.lim = H.length) :
    ∃ r, exL Tryd.prog pf (.loop ftLoop) S = some r ∧ r.1 = .exit 0 ∧ Aft H r.2.H ∧ r.2.L = S.L ∧ ∃ cs, RowsO c g cell tick r.2.H H.length r.2.H.length (c.ticks - tick) (tget r.2.t 9) cs := by
  obtain ⟨p0, p1⟩ := hok.pos
  have hT : c.ticks ≤ 60 := hok.2.2.2.1.2
  obtain ⟨m0, m1, m2⟩ := hok.mul
  have hwm : IntKind.i64.wrap (c.w * c.h) = (c.cells : Int) := by rw [m2]; exact wrap_i64 (by omega) (by omega)
  refine loop_rule (I := fun n s' => ∃ j, j ≤ c.ticks - tick ∧ n = c.ticks - tick - j ∧ tget s'.t 1 = .int .i64 g ∧ tget s'.t 2 = .int .i64 cell ∧ tget s'.t 3 = .int .i64 tick ∧ tget s'.t 4 = .pointer (some ⟨4, 0, some 0⟩) ∧ tget s'.t 10 = .int .i64 (tick + j : Nat) ∧ s'.L = S.L ∧ s'.lim = H.length ∧ Aft H s'.H ∧ ∃ cs, RowsO c g cell tick s'.H H.length s'.H.length j (tget s'.t 9) cs) ?_ (c.ticks - tick) S
    ⟨0, by omega, by omega, h1, h2, h3, h4, by rw [h10]; rfl, rfl, hlim, by rw [hH]; exact Aft.refl H, [], rfl, rfl, .inl ⟨rfl, h9⟩⟩
  rintro n s' ⟨j, hj, rfl, e1, e2, e3, e4, e10, eL, el, eA, cs, eR⟩
  obtain ⟨A, hA⟩ : ∃ A, s'.H = A := ⟨_, rfl⟩
  rw [hA] at eA eR
  have hc' := hc
  have hCl := fun lim A => run_CellsCh c lim A d t s
  rw [hwm] at hCl
  obtain ⟨⟨da, dc, ed, _⟩, ⟨ta, tc, et, _⟩, ⟨sa, sc, es, _⟩, _, _, _⟩ := hc
  rw [hL] at eL
  simp only [chV, ed, et, es] at hCl
  rw [ed, et, es] at eL hL
  by_cases hlt : j < c.ticks - tick
  rotate_left
  · have : j = c.ticks - tick := by omega
    subst this
    have hno : ¬ ((tick + (c.ticks - tick) : Nat) : Int) < (c.tide.length : Int) := by unfold Ch.ticks at *; omega
    simp [-Int.natCast_add, ftLoop, SC.loops, sf_cobleref01_forth, e1, e2, e3, e4, e10, eL, el, hA, hno, hL]
    exact ⟨eA, cs, eR⟩
  have hyes : ((tick + j : Nat) : Int) < (c.tide.length : Int) := by unfold Ch.ticks at *; omega
  have hmx : c.cells ≤ maxA := Nat.le_trans (show c.cells ≤ 2000 by omega) (by decide)
  have hw1 : IntKind.i64.wrap (((tick + j : Nat) : Int) + 1) = ((tick + (j + 1) : Nat) : Int) := by rw [wrap_i64 (by omega) (by omega)]; omega
  have hr1 := eR
  obtain ⟨r1, r2, r3⟩ := eR
  -- the row is made
  obtain ⟨X, hX⟩ : ∃ X, X = A ++ [.rw 1 (ints (List.replicate c.cells 0))] := ⟨_, rfl⟩
  have hAX : Aft A X := ⟨_, hX⟩
  have hXr : X[A.length]? = some (.rw 1 (ints (List.replicate c.cells 0))) := by rw [hX, List.getElem?_append_right (Nat.le_refl _)]; simp
  have hle := eA.le
  have hv9 : tget s'.t 9 = tget s'.t 9 := rfl
  have hrow : ∀ S2 : St, tget S2.t 1 = .int .i64 g → tget S2.t 2 = .int .i64 cell → tget S2.t 3 = .int .i64 tick → tget S2.t 4 = .pointer (some ⟨4, 0, some 0⟩) → tget S2.t 9 = tget s'.t 9 → tget S2.t 10 = .int .i64 (tick + j : Nat) → tget S2.t 11 = .slice (some ⟨A.length, 0, none⟩) c.cells c.cells → tget S2.t 12 = .int .i64 0 → S2.L = [(4, 0, .cells [.int .i64 c.w, .int .i64 c.h, d, t, s])] → S2.H = X → S2.lim = H.length →
      ∃ r, exL Tryd.prog pf (.loop fiLoop) S2 = some r ∧ r.1 = .exit 2 ∧ r.2.L = S2.L ∧ r.2.lim = S2.lim ∧ r.2.rd = S2.rd ∧ (∀ k, k ∈ [1, 2, 3, 4, 9, 10, 11] → tget r.2.t k = tget S2.t k) ∧ Mod A.length X r.2.H ∧ r.2.H[A.length]? = some (.rw 1 (ints (rowP c g cell tick 1 j))) := by
    intro S2 k1 k2 k3 k4 k9 k10 k11 k12 kL kH kl
    cases j with
    | zero =>
      exact fi0_loop c hok H d t s hc' g htick X A.length hle (eA.trans hAX) hXr S2 k1 k2 k3 k4 k10 k11 k12 kL kH (by omega)
    | succ j =>
      rcases r3 with ⟨h, _⟩ | ⟨_, pb, q1, q2, q3, q4, q5⟩
      · omega
      · obtain ⟨bm, u1, u2, u3, u4, u5⟩ := q5 j (by omega)
        have e : rowP c g cell tick 1 (j + 1) = aftL c g (rowP c g cell tick 1 j) (tick + (j + 1)) := by
          show aftL c g (rowP c g cell tick 1 j) ((tick : Int) + ((j + 1 : Nat) : Int) * 1).toNat = _
          congr 1
          omega
        rw [e]
        exact fi1_loop c hok H d t s hc' g (by omega) (rowP c g cell tick 1 j) (rowP_len ..) (fun i => by have := rowP_le c g cell tick 1 j i; omega) X A.length hle (eA.trans hAX) hXr (some ⟨pb, 0, none⟩) (j + 1 + 1) bm (by omega) ⟨pb, 0, rfl, by omega, by
            have := hAX.ext _ _ q2
            simp only [hcell, this, Nat.zero_add]
            exact u1⟩ (hAX.ext _ _ u5) S2 k1 k3 k4 (by rw [k9, q1]) k10 k11 k12 kL kH (by omega)
  simp [-Int.natCast_add, ftLoop, SC.loops, sf_cobleref01_forth, e1, e2, e3, e4, e10, eL, el, hA, hyes, hL, hCl, hmx, zeros_ints']
  generalize hS : ({ t := _, L := _, H := _, lim := _, rd := _ } : St) = S2
  obtain ⟨⟨e, s1⟩, hr, q1, qL, ql, qr, qK, qM, qR⟩ := hrow S2 (by subst hS; simp [e1]) (by subst hS; simp [e2]) (by subst hS; simp [e3]) (by subst hS; simp [e4]) (by subst hS; simp) (by subst hS; simp [e10]) (by subst hS; simp) (by subst hS; simp) (by subst hS; simp [ed, et, es]) (by subst hS; rw [hX]) (by subst hS; rfl)
  simp [fiLoop, SC.loops, sf_cobleref01_forth] at hr
  rw [hr]
  simp only at q1 qL ql qr qK qM qR
  subst q1
  have k1 : tget s1.t 1 = .int .i64 g := (qK 1 (by simp)).trans (by subst hS; simp [e1])
  have k2 : tget s1.t 2 = .int .i64 cell := (qK 2 (by simp)).trans (by subst hS; simp [e2])
  have k3 : tget s1.t 3 = .int .i64 tick := (qK 3 (by simp)).trans (by subst hS; simp [e3])
  have k4 : tget s1.t 4 = .pointer (some ⟨4, 0, some 0⟩) := (qK 4 (by simp)).trans (by subst hS; simp [e4])
  have k9 : tget s1.t 9 = tget s'.t 9 := (qK 9 (by simp)).trans (by subst hS; simp)
  have k10 : tget s1.t 10 = .int .i64 (tick + j : Nat) := (qK 10 (by simp)).trans (by subst hS; simp [e10])
  have k11 : tget s1.t 11 = .slice (some ⟨A.length, 0, none⟩) c.cells c.cells := (qK 11 (by simp)).trans (by subst hS; simp)
  have jL : s1.L = [(4, 0, .cells [.int .i64 c.w, .int .i64 c.h, .slice da c.depth.length dc, .slice ta c.tide.length tc, .slice sa c.swell.length sc])] := by rw [qL]; subst hS; rfl
  have jl : s1.lim = H.length := by rw [ql]; subst hS; rfl
  obtain ⟨Y, hY⟩ : ∃ Y, s1.H = Y := ⟨_, rfl⟩
  rw [hY] at qM qR
  have hMA : Mod A.length A Y := (Mod.aft hAX).trans qM
  have hAY : Aft H Y := Mod.toAft (eA.trans hAX) qM hle
  have hR2 := hr1.mod (Nat.le_refl _) hMA
  have hYl := hMA.1
  have hYb : A.length < Y.length := (List.getElem?_eq_some_iff.1 qR).1
  have hmx2 : j + 1 ≤ maxA := Nat.le_trans (show j + 1 ≤ 2000 by omega) (by decide)
  rcases r3 with ⟨rfl, r4⟩ | ⟨hj0, pb, r4, r5, r6, r7, r8⟩
  · have hcs : cs = [] := List.eq_nil_of_length_eq_zero r1
    subst hcs
    have hmx3 : 1 ≤ maxA := by decide
    have hw1' : IntKind.i64.wrap ((tick : Int) + 1) = ((tick + 1 : Nat) : Int) := by rw [wrap_i64 (by omega) (by omega)]; omega
    rw [r4] at k9
    have hsn := hR2.snoc (B := Y ++ [.rw 1 [.slice (some ⟨A.length, 0, none⟩) c.cells c.cells], .rw 1 [.slice (some ⟨A.length, 0, none⟩) c.cells c.cells]]) hle (Nat.le_refl _) qR (fun b _ hb => by rw [List.getElem?_append_left hb]) (Y.length + 1) (by omega) (by rw [List.getElem?_append_right (by omega), Nat.add_sub_cancel_left]; rfl) (Y.length + 2) (by omega)
    simp [-oneC, oneC_slice, -Int.natCast_add, k1, k2, k3, k4, k9, k10, k11, jL, jl, hY, hw1, hw1', hmx3, and_assoc]
    exact ⟨_, by omega, 1, by omega, rfl, rfl, hAY.push _, _, hsn⟩
  · have hpY : Y[pb]? = some (.rw 1 cs) := hMA.getE (by omega) r5
    have hpl : pb < Y.length := (List.getElem?_eq_some_iff.1 hpY).1
    rw [r4] at k9
    have hj1 : ¬ j = 0 := by omega
    have hcA : ∀ L x, cellsAt L (Y ++ x) ⟨pb, 0, none⟩ j = some cs := fun L x => by
      rw [← r1]
      refine cellsAt_of cs 0 fun i y hy => ?_
      simp only [hcell, Nat.zero_add]
      rw [List.getElem?_append_left hpl, hpY]
      exact hy
    have hpX : ∀ x : AH, (Y ++ x)[pb]? = some (.rw 1 cs) := fun x => by rw [List.getElem?_append_left hpl, hpY]
    have hsX : ∀ x y : AH, (Y ++ x).set pb .dead ++ y = Y.set pb .dead ++ (x ++ y) := fun x y => by rw [List.set_append_left _ _ hpl, List.append_assoc]
    have hsn := hR2.snoc (B := Y.set pb .dead ++ [.rw 1 [.slice (some ⟨A.length, 0, none⟩) c.cells c.cells], .rw 1 (cs ++ [.slice (some ⟨A.length, 0, none⟩) c.cells c.cells])]) hle (Nat.le_refl _) qR (fun b hv hb => by
        rw [List.getElem?_append_left (by simpa using hb), List.getElem?_set_ne (fun e => hv pb _ _ r4 e.symm)]) (Y.length + 1) (by omega) (by rw [List.getElem?_append_right (by simp)]; simp) (Y.length + 2) (by omega)
    simp [-oneC, oneC_slice, -Int.natCast_add, k1, k2, k3, k4, k9, k10, k11, jL, jl, hY, hw1, hmx2, hcA, hpX, hj1, r2, r6, r1, hsX, and_assoc]
    exact ⟨_, by omega, j + 1, by omega, rfl, rfl, (hAY.set r6 _).push _, _, by simpa using hsn⟩

theorem run_forth (c : Ch) (hok : ChOk c) (H : AH) (d t s : Value) (hc : ChIn H c d t s) (g : Int) {cell tick : Nat} (htick : tick < c.ticks) :
    ∃ A pb k, (∀ lim, apL Tryd.prog pf (.func (.func 65) #[] #[]) [chV c d t s, .int .i64 g, .int .i64 cell, .int .i64 tick] lim H = some (.slice (some ⟨pb, 0, none⟩) (c.ticks - tick) k, A)) ∧ Aft H A ∧ Past A (some ⟨pb, 0, none⟩) (c.ticks - tick) c.cells (rowP c g cell tick 1) := by
  suffices key : ∃ A pb k, apL Tryd.prog pf (.func (.func 65) #[] #[]) [chV c d t s, .int .i64 g, .int .i64 cell, .int .i64 tick] 0 H = some (.slice (some ⟨pb, 0, none⟩) (c.ticks - tick) k, A) ∧ Aft H A ∧ Past A (some ⟨pb, 0, none⟩) (c.ticks - tick) c.cells (rowP c g cell tick 1) by
    obtain ⟨A, pb, k, h1, h2⟩ := key
    refine ⟨A, pb, k, fun lim => ?_, h2⟩
    rw [← h1, apL_func _ _ _ _ _ _ (by rfl), apL_func _ _ _ _ _ _ (by rfl)]
    simp only [pf_pure, show pureF 65 = true from rfl, if_true]
  rw [apL_func _ _ _ _ _ _ (by rfl), sf_cobleref01_forth_eq]
  obtain ⟨⟨da, dc, ed, _⟩, ⟨ta, tc, et, _⟩, ⟨sa, sc, es, _⟩, _, _, _⟩ := id hc
  simp [sf_cobleref01_forth, chV, ed, et, es, pf_pure, pureF]
  generalize hS : ({ t := _, L := _, H := _, lim := _, rd := _ } : St) = S
  obtain ⟨⟨e, s1⟩, hr, q1, qA, qL, cs, r1, r2, r3⟩ := ft_loop c hok H d t s hc g (cell := cell) htick S (by subst hS; simp) (by subst hS; simp) (by subst hS; simp) (by subst hS; simp) (by subst hS; simp) (by subst hS; simp) (by subst hS; simp [ed, et, es]) (by subst hS; rfl) (by subst hS; rfl)
  simp [ftLoop, SC.loops, sf_cobleref01_forth] at hr
  rw [hr]
  simp only at q1 qA qL r3
  subst q1
  rcases r3 with ⟨h, _⟩ | ⟨hj0, pb, r4, r5, r6, r7, r8⟩
  · omega
  · have hn0 : ¬ c.ticks - tick = 0 := by omega
    refine ⟨s1.H, pb, ⟨c.ticks - tick + 1, ?_⟩, qA, fun m hm => ?_⟩
    · simp [r4, hn0]
    · obtain ⟨bm, u1, u2, u3, u4, u5⟩ := r8 m hm
      exact ⟨pb, 0, bm, rfl, by simp only [hcell, r5, Nat.zero_add]; exact u1, u5⟩
end Go.Proofs.YtojplagenejhdaaDoor
