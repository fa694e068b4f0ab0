/- Contracts of the functions, in the abstract machine: the reference's Depart, a tick. -/
import Derived.Test.YtojplagenejhdaaDoorRefH
set_option linter.all false
namespace Go.Proofs.YtojplagenejhdaaDoor
open Go Go.RowKit

def diLoop : SC := sf_cobleref01_Depart.body.loops.tail.tail.headD .skip

set_option maxHeartbeats 2000000 in
theorem di_loop (c : Ch) (hok : ChOk c) (H : AH) (d t s : Value) (hc : ChIn H c d t s) (g : Int) (X : AH) (hA : Aft H X) (bo bn bc : Nat) (hbo : H.length ≤ bo) (hbn : H.length ≤ bn) (hon : bo ≠ bn) (hcn : bc ≠ bn) (hco : bc ≠ bo) (l0 : List Int) (hl0 : l0.length = c.cells) (hXo : X[bo]? = some (.rw 1 (ints l0))) (hXn : X[bn]? = some (.rw 1 (bools (List.replicate c.cells false)))) (can : List Bool) (hcl : can.length = c.cells) (hXc : X[bc]? = some (.rw 1 (bools can))) (n tick to : Nat) (hnt : n ≤ tick) (hn : n < c.ticks) (row : List Int) (f : Nat → Bool) (hf : ∀ i, i < c.cells → f i = ((nearTo c i 6).any (fun x => if n = tick then decide (i = to) else can.getD x.toNat false) && c.sure g i n)) (hfr : ∀ i, i < c.cells → f i = decide (0 ≤ row.getD i 0)) (S : St)
    (h1 : tget S.t 1 = .int .i64 g) (h2 : tget S.t 2 = .int .i64 to) (h3 : tget S.t 3 = .int .i64 tick) (h4 : tget S.t 4 = .pointer (some ⟨4, 0, some 0⟩)) (h11 : tget S.t 11 = .slice (some ⟨bo, 0, none⟩) c.cells c.cells) (h12 : tget S.t 12 = .slice (some ⟨bc, 0, none⟩) c.cells c.cells) (h14 : tget S.t 14 = .int .i64 n) (h15 : tget S.t 15 = .slice (some ⟨bn, 0, none⟩) c.cells c.cells) (h16 : tget S.t 16 = .int .i64 0) (hL : S.L = [(4, 0, .cells [.int .i64 c.w, .int .i64 c.h, d, t, s])]) (hH : S.H = X) (hlim : S.lim ≤ H.length) :
    ∃ r, exL Tryd.prog pf (.loop diLoop) S = some r ∧ r.1 = .exit 4 ∧ r.2.L = S.L ∧ r.2.lim = S.lim ∧ r.2.rd = S.rd ∧ (∀ k, k ∈ [1, 2, 3, 4, 11, 12, 14, 15] → tget r.2.t k = tget S.t k) ∧ Mod2 bo bn X r.2.H ∧ r.2.H[bn]? = some (.rw 1 (bools (rowB f c.cells c.cells))) ∧ r.2.H[bo]? = some (.rw 1 (ints (nearF row n l0 c.cells))) := by
  obtain ⟨p0, p1⟩ := hok.pos
  refine loop_rule (I := fun m s' => ∃ i, i ≤ c.cells ∧ m = c.cells - i ∧ (∀ k, k ∈ [1, 2, 3, 4, 11, 12, 14, 15] → tget s'.t k = tget S.t k) ∧ tget s'.t 16 = .int .i64 i ∧ s'.L = S.L ∧ s'.lim = S.lim ∧ s'.rd = S.rd ∧ Mod2 bo bn X s'.H ∧ s'.H[bn]? = some (.rw 1 (bools (rowB f c.cells i))) ∧ s'.H[bo]? = some (.rw 1 (ints (nearF row n l0 i)))) ?_ c.cells S
    ⟨0, by omega, by omega, fun _ _ => rfl, h16, rfl, rfl, rfl, by rw [hH]; exact Mod2.refl _ _ _, by rw [hH, rowB_zero]; exact hXn, by rw [hH]; exact hXo⟩
  rintro m s' ⟨i, hi, rfl, eK, e16, eL, el, er, eM, eN, eO⟩
  have e1 : tget s'.t 1 = _ := (eK 1 (by simp)).trans h1
  have e2 : tget s'.t 2 = _ := (eK 2 (by simp)).trans h2
  have e3 : tget s'.t 3 = _ := (eK 3 (by simp)).trans h3
  have e4 : tget s'.t 4 = _ := (eK 4 (by simp)).trans h4
  have e11 : tget s'.t 11 = _ := (eK 11 (by simp)).trans h11
  have e12 : tget s'.t 12 = _ := (eK 12 (by simp)).trans h12
  have e14 : tget s'.t 14 = _ := (eK 14 (by simp)).trans h14
  have e15 : tget s'.t 15 = _ := (eK 15 (by simp)).trans h15
  obtain ⟨Y, hY⟩ : ∃ Y, s'.H = Y := ⟨_, rfl⟩
  rw [hY] at eM eN eO
  by_cases hlt : i < c.cells
  rotate_left
  · have : i = c.cells := by omega
    subst this
    simp [diLoop, SC.loops, sf_cobleref01_Depart, e1, e2, e3, e4, e11, e12, e14, e15, e16, eL, el, er, hY, h1, h2, h3, h4, h11, h12, h14, h15]
    exact ⟨eM, eN, eO⟩
  have hAY : Aft H Y := Mod2.toAft hA eM hbo hbn
  obtain ⟨nv, A, w1, w2, w3⟩ := run_near c hok Y d t s (hc.ext hAY.ext) hlt
  obtain ⟨na, nk, hna, rfl, _, hnA⟩ := w3
  have hYn : bn < Y.length := (List.getElem?_eq_some_iff.1 eN).1
  have hYo : bo < Y.length := (List.getElem?_eq_some_iff.1 eO).1
  have hAn := w2.ext _ _ eN
  have hAo := w2.ext _ _ eO
  have hAc := w2.ext _ _ (eM.getE hco hcn hXc)
  have hrl : (rowB f c.cells i).length = c.cells := rowB_len f hi
  have hr0 := rowB_at f hlt
  have hset := rowB_set f hlt
  have hLl : (nearF row n l0 i).length = c.cells := by rw [nearF_len, hl0]
  have hsucc := nearF_succ row n l0 i
  have hstp : nearStep row n (nearF row n l0 i) i = if 0 ≤ row.getD i 0 ∧ (nearF row n l0 i).getD i 0 < 0 then (nearF row n l0 i).set i n else nearF row n l0 i := rfl
  rw [hstp] at hsucc
  have hfi := hf i hlt
  have hfri := hfr i hlt
  have hdk := fun S => dk_loop c.cells (nearTo c i 6) (nearTo_cell hok hlt 6) (by have := nearTo_len c i 6; omega) A bn (rowB f c.cells i) hrl hAn i hlt hr0 can hcl bc hcn hAc na nk (by omega) hnA n tick to hnt S
  obtain ⟨V, hV⟩ : ∃ V, V = (nearTo c i 6).any (fun x => if n = tick then decide (i = to) else can.getD x.toNat false) := ⟨_, rfl⟩
  rw [← hV] at hfi hdk
  have hM1 : Mod2 bo bn X A := eM.trans (Mod2.aft w2)
  have hSu := fun lim Z (hZ : Aft H Z) => run_Sure c hok lim Z d t s (hc.ext hZ.ext) g hlt hn
  obtain ⟨⟨da, dc, ed, _⟩, ⟨ta, tc, et, _⟩, ⟨sa, sc, es, _⟩, _, _, _⟩ := hc
  simp only [chV, ed, et, es] at w1 hSu
  rw [hL] at eL
  rw [ed, et, es] at eL hL
  have hltI : (i : Int) < c.cells := by omega
  simp [diLoop, SC.loops, sf_cobleref01_Depart, e1, e2, e3, e4, e11, e12, e14, e15, e16, eL, el, er, hY, h1, h2, h3, h4, h11, h12, h14, h15, hL, hlt, w1]
  generalize hS : ({ t := _, L := _, H := _, lim := _, rd := _ } : St) = S2
  obtain ⟨⟨e, s1⟩, hr, q1, qL, ql, qr, qK, qH⟩ := hdk S2 (by subst hS; simp [e2]) (by subst hS; simp [e3]) (by subst hS; simp [e12]) (by subst hS; simp [e14]) (by subst hS; simp [e15]) (by subst hS; simp [e16]) (by subst hS; simp) (by subst hS; simp) (by subst hS; rfl) (by subst hS; exact Nat.le_trans hlim hbn)
  simp [dkLoop, SC.loops, sf_cobleref01_Depart] at hr
  rw [hr]
  simp only at q1 qL ql qr qK qH
  subst q1
  have k1 : tget s1.t 1 = .int .i64 g := (qK 1 (by simp)).trans (by subst hS; simp [e1])
  have k2 : tget s1.t 2 = .int .i64 to := (qK 2 (by simp)).trans (by subst hS; simp [e2])
  have k3 : tget s1.t 3 = .int .i64 tick := (qK 3 (by simp)).trans (by subst hS; simp [e3])
  have k4 : tget s1.t 4 = .pointer (some ⟨4, 0, some 0⟩) := (qK 4 (by simp)).trans (by subst hS; simp [e4])
  have k11 : tget s1.t 11 = .slice (some ⟨bo, 0, none⟩) c.cells c.cells := (qK 11 (by simp)).trans (by subst hS; simp [e11])
  have k12 : tget s1.t 12 = .slice (some ⟨bc, 0, none⟩) c.cells c.cells := (qK 12 (by simp)).trans (by subst hS; simp [e12])
  have k14 : tget s1.t 14 = .int .i64 n := (qK 14 (by simp)).trans (by subst hS; simp [e14])
  have k15 : tget s1.t 15 = .slice (some ⟨bn, 0, none⟩) c.cells c.cells := (qK 15 (by simp)).trans (by subst hS; simp [e15])
  have k16 : tget s1.t 16 = .int .i64 i := (qK 16 (by simp)).trans (by subst hS; simp [e16])
  have jL : s1.L = [(4, 0, .cells [.int .i64 c.w, .int .i64 c.h, .slice da c.depth.length dc, .slice ta c.tide.length tc, .slice sa c.swell.length sc])] := by rw [qL]; subst hS; rfl
  have jl : s1.lim = S.lim := by rw [ql]; subst hS; rfl
  have jr : s1.rd = S.rd := by rw [qr]; subst hS; rfl
  have hw1 : IntKind.i64.wrap ((i : Int) + 1) = (i : Int) + 1 := wrap_i64 (by omega) (by omega)
  have hln : S.lim ≤ bn := Nat.le_trans hlim hbn
  have hlo : S.lim ≤ bo := Nat.le_trans hlim hbo
  -- the heap behind the loop
  have hAl : bn < A.length := (List.getElem?_eq_some_iff.1 hAn).1
  obtain ⟨R1, hR1⟩ : ∃ R, R = (rowB f c.cells i).set i V := ⟨_, rfl⟩
  have hR1l : R1.length = c.cells := by rw [hR1]; simp [hrl]
  rw [← hR1] at qH
  have hZn : (A.set bn (.rw 1 (bools R1)))[bn]? = some (.rw 1 (bools R1)) := List.getElem?_set_self hAl
  have hg1 := bools_get R1 i (by omega)
  have hg1v : R1.getD i false = V := by rw [hR1]; simp [List.getD_eq_getElem?_getD, hrl, hlt]
  rw [hg1v] at hg1
  have hset1 : ∀ y : Bool, (bools R1).set i (.bool y) = bools ((rowB f c.cells i).set i y) := fun y => by rw [bools_set, hR1, List.set_set]
  have hle1 : i + 1 ≤ (bools R1).length := by rw [bools_length]; omega
  have hAZ : Aft H (A.set bn (.rw 1 (bools R1))) := (hAY.trans w2).set hbn _
  have hSu := fun lim => hSu lim _ hAZ
  have hZs : ∀ y, (A.set bn (.rw 1 (bools R1))).set bn y = A.set bn y := fun y => List.set_set ..
  obtain ⟨Z, hZ⟩ : ∃ Z, A.set bn (.rw 1 (bools R1)) = Z := ⟨_, rfl⟩
  rw [hZ] at hZn qH hSu hZs
  obtain ⟨c1, hc1⟩ : ∃ c1, c1 = bools R1 := ⟨_, rfl⟩
  rw [← hc1] at hZn hg1 hset1 hle1
  have hnn : (A.set bn (.rw 1 (bools (rowB f c.cells (i + 1)))))[bn]? = some (.rw 1 (bools (rowB f c.cells (i + 1)))) := List.getElem?_set_self hAl
  have hno : (A.set bn (.rw 1 (bools (rowB f c.cells (i + 1)))))[bo]? = some (.rw 1 (ints (nearF row n l0 i))) := by rw [List.getElem?_set_ne (fun e => hon e.symm), hAo]
  have hMn : Mod2 bo bn X (A.set bn (.rw 1 (bools (rowB f c.cells (i + 1))))) := hM1.trans (Mod2.set2 bo bn A _)
  have hgn : (bools (rowB f c.cells (i + 1)))[i]? = some (.bool (f i)) := by
    rw [bools_get _ _ (by rw [rowB_len f (by omega)]; omega), ← hset]
    simp [List.getD_eq_getElem?_getD, hrl, hlt]
  obtain ⟨W, hW⟩ : ∃ W, A.set bn (.rw 1 (bools (rowB f c.cells (i + 1)))) = W := ⟨_, rfl⟩
  rw [hW] at hnn hno hMn
  have hWo : bo < W.length := (List.getElem?_eq_some_iff.1 hno).1
  have hgo := ints_getE (nearF row n l0 i) i (by omega)
  have hseto : (ints (nearF row n l0 i)).set i (.int .i64 n) = ints ((nearF row n l0 i).set i n) := ints_set _ _ _
  have hleo : i + 1 ≤ (ints (nearF row n l0 i)).length := by rw [ints_length]; omega
  rw [← hset] at hnn hgn hW
  have hfin : bools ((rowB f c.cells i).set i (f i)) = bools (rowB f c.cells (i + 1)) := by rw [hset]
  obtain ⟨c2, hc2⟩ : ∃ c2, c2 = ints (nearF row n l0 i) := ⟨_, rfl⟩
  rw [← hc2] at hno hgo hseto hleo
  generalize hLv : (nearF row n l0 i).getD i 0 = Lv at *
  have hWn2 : ∀ y, (W.set bo y)[bn]? = W[bn]? := fun y => List.getElem?_set_ne hon
  have hWo2 : ∀ y, (W.set bo y)[bo]? = some y := fun y => List.getElem?_set_self hWo
  cases hVV : V
  · have hfF : f i = false := by rw [hfi, hVV]; rfl
    rw [hfF] at hgn hW hnn hfri hfin
    rw [hVV] at hg1
    have hrn : ¬ 0 ≤ row.getD i 0 := by simpa using hfri.symm
    rw [if_neg (fun h => hrn h.1)] at hsucc
    have hset1 := hset1 false
    generalize bools ((rowB f c.cells i).set i false) = c3 at *
    simp [k1, k2, k3, k4, k11, k12, k14, k15, k16, jL, jl, jr, qH, hltI, hlt, hZn, hg1, hset1, hle1, hln, hZs, hW, hnn, hgn, hw1, h1, h2, h3, h4, h11, h12, h14, h15, hfF, and_assoc]
    exact ⟨_, by omega, i + 1, by omega, rfl, by omega, hMn, by first | exact hfin | (rw [← hfin]; exact hnn), by first | (rw [hsucc, ← hc2]; exact hno) | rw [hsucc, hc2]⟩
  · rw [hVV] at hg1
    cases hs : c.sure g i n
    · have hfF : f i = false := by rw [hfi, hVV, hs]; rfl
      rw [hfF] at hgn hW hnn hfri hfin
      rw [hs] at hSu
      have hrn : ¬ 0 ≤ row.getD i 0 := by simpa using hfri.symm
      rw [if_neg (fun h => hrn h.1)] at hsucc
      have hset1 := hset1 false
      generalize bools ((rowB f c.cells i).set i false) = c3 at *
      simp [k1, k2, k3, k4, k11, k12, k14, k15, k16, jL, jl, jr, qH, hltI, hlt, hZn, hg1, hset1, hle1, hln, hZs, hW, hnn, hgn, hSu, hw1, h1, h2, h3, h4, h11, h12, h14, h15, hfF, and_assoc]
      exact ⟨_, by omega, i + 1, by omega, rfl, by omega, hMn, by first | exact hfin | (rw [← hfin]; exact hnn), by first | (rw [hsucc, ← hc2]; exact hno) | rw [hsucc, hc2]⟩
    · have hfF : f i = true := by rw [hfi, hVV, hs]; rfl
      rw [hfF] at hgn hW hnn hfri hfin
      rw [hs] at hSu
      have hrn : 0 ≤ row.getD i 0 := by simpa using hfri.symm
      have hset1 := hset1 true
      by_cases hneg : Lv < 0
      · rw [if_pos ⟨hrn, hneg⟩] at hsucc
        generalize bools ((rowB f c.cells i).set i true) = c3 at *
        simp [k1, k2, k3, k4, k11, k12, k14, k15, k16, jL, jl, jr, qH, hltI, hlt, hZn, hg1, hset1, hle1, hln, hZs, hW, hnn, hgn, hSu, hw1, h1, h2, h3, h4, h11, h12, h14, h15, hfF, hno, hgo, hneg, hseto, hleo, hlo, and_assoc]
        exact ⟨_, by omega, i + 1, by omega, rfl, by omega, hMn.trans (Mod2.set1 bo bn W _), by rw [hWn2, ← hfin]; exact hnn, by rw [hWo2, hsucc]⟩
      · rw [if_neg (fun h => hneg h.2)] at hsucc
        generalize bools ((rowB f c.cells i).set i true) = c3 at *
        simp [k1, k2, k3, k4, k11, k12, k14, k15, k16, jL, jl, jr, qH, hltI, hlt, hZn, hg1, hset1, hle1, hln, hZs, hW, hnn, hgn, hSu, hw1, h1, h2, h3, h4, h11, h12, h14, h15, hfF, hno, hgo, hneg, and_assoc]
        exact ⟨_, by omega, i + 1, by omega, rfl, by omega, hMn, by first | exact hfin | (rw [← hfin]; exact hnn), by first | (rw [hsucc, ← hc2]; exact hno) | rw [hsucc, hc2]⟩
end Go.Proofs.YtojplagenejhdaaDoor
