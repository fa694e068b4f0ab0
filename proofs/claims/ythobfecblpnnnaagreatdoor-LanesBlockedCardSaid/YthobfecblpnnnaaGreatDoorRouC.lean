import Derived.Test.YthobfecblpnnnaaGreatDoorRouB

/- Contracts of layer 6, the program: the next row, cell by cell. -/
set_option linter.all false
namespace Go.Proofs.YthobfecblpnnnaaGreatDoor
open Go Go.RowKit

theorem idxM_find {α : Type} (p : α → Bool) : ∀ xs : List α, xs.find? p = if 0 ≤ idxM p xs then xs[(idxM p xs).toNat]? else none
  | [] => by simp [idxM]
  | x :: xs => by
    have ih := idxM_find p xs
    unfold idxM
    cases hp : p x with
    | true => simp [hp]
    | false =>
      rw [List.find?_cons_of_neg (by simp [hp]), ih]
      cases idxM p xs with
      | ofNat n =>
        simp <;> omega
      | negSucc n => simp <;> omega
theorem idxM_map {α β : Type} (f : α → β) (p : β → Bool) : ∀ xs : List α, idxM p (xs.map f) = idxM (fun x => p (f x)) xs
  | [] => rfl
  | x :: xs => by
    have ih := idxM_map f p xs
    simp only [List.map_cons, idxM, ih]
theorem idxM_lt {α : Type} (p : α → Bool) (xs : List α) (h : 0 ≤ idxM p xs) : (idxM p xs).toNat < xs.length := by
  have h1 := idxM_find p xs
  rw [if_pos h] at h1
  have h2 := idxM_any p xs
  rw [decide_eq_true h] at h2
  cases hx : xs[(idxM p xs).toNat]? with
  | some y => exact (List.getElem?_eq_some_iff.1 hx).1
  | none =>
    rw [hx] at h1
    rw [List.find?_eq_none] at h1
    rw [eq_comm, List.any_eq_true] at h2
    obtain ⟨y, hy, hy2⟩ := h2
    exact absurd hy2 (h1 y hy)

/-- Whether one can come from a cell, if the unit can be there. -/
def askM (row : List Int) (q : Sp → Bool) (tl : Bool) (i : Nat) (b : Int) : Bool := row.getD b.toNat (-1) != -1 && q (spOf i b tl)

theorem from_eq (c : Ch) (ls : List Lg) (p : Tp) (kk : Nat) (row : List Int) (i : Nat) :
    (wyM c ls p).from kk row i = if 0 ≤ idxM (askM row (fun x => freeM ls p.lv x (p.t0 + kk)) p.tl i) (nearI c i) ∧ c.can p.lv p.dr i (p.t0.toNat + kk) = true then (nearI c i).getD (idxM (askM row (fun x => freeM ls p.lv x (p.t0 + kk)) p.tl i) (nearI c i)).toNat 0 else -1 := by
  have e1 : nearI c i = (nearM c i).map Int.ofNat := rfl
  have e2 : ∀ b : Nat, askM row (fun x => freeM ls p.lv x (p.t0 + kk)) p.tl i (Int.ofNat b) = (row.getD b (-1) != -1 && freeM ls p.lv (spOf i (b : Int) p.tl) (p.t0 + kk)) := fun b => rfl
  rw [e1, idxM_map]
  simp only [e2]
  unfold Wy.from
  have hok : (fun b : Nat => row.getD b (-1) != -1 && (wyM c ls p).ok kk b i) = fun b : Nat => (row.getD b (-1) != -1 && freeM ls p.lv (spOf i (b : Int) p.tl) (p.t0 + kk)) && c.can p.lv p.dr i (p.t0.toNat + kk) := by
    funext b
    show (row.getD b (-1) != -1 && (freeM ls p.lv (spOf i (b : Int) p.tl) (p.t0 + kk) && c.can p.lv p.dr i (p.t0.toNat + kk))) = _
    rw [Bool.and_assoc]
  have hne : (wyM c ls p).near i = nearM c i := rfl
  rw [hok, hne]
  cases hc : c.can p.lv p.dr i (p.t0.toNat + kk) with
  | false =>
    simp only [Bool.and_false, Bool.false_eq_true, and_false, if_false]
    rw [show (nearM c i).find? (fun _ => false) = none from by rw [List.find?_eq_none]; simp]
  | true =>
    simp only [Bool.and_true, and_true]
    have hf := idxM_find (fun b : Nat => row.getD b (-1) != -1 && freeM ls p.lv (spOf i (b : Int) p.tl) (p.t0 + kk)) (nearM c i)
    by_cases h : 0 ≤ idxM (fun b : Nat => row.getD b (-1) != -1 && freeM ls p.lv (spOf i (b : Int) p.tl) (p.t0 + kk)) (nearM c i)
    · have hlt := idxM_lt _ _ h
      rw [if_pos h] at hf ⊢
      rw [hf, List.getElem?_eq_getElem hlt, List.getD_eq_getElem?_getD, List.getElem?_map, List.getElem?_eq_getElem hlt]
      rfl
    · rw [if_neg h] at hf ⊢
      rw [hf]

/-- A row up to a cell. -/
def rowTo (W : Wy) (kk : Nat) (row : List Int) (k : Nat) : List Int := (List.range k).map (W.from kk row) ++ List.replicate (W.N - k) (-1)
theorem rowTo_length (W : Wy) (kk : Nat) (row : List Int) {k : Nat} (hk : k ≤ W.N) : (rowTo W kk row k).length = W.N := by simp [rowTo]; omega
theorem rowTo_succ (W : Wy) (kk : Nat) (row : List Int) {k : Nat} (hk : k < W.N) : rowTo W kk row (k + 1) = (rowTo W kk row k).set k (W.from kk row k) := by
  unfold rowTo
  rw [List.set_append_right _ _ (by simp)]
  obtain ⟨m, hm⟩ : ∃ m, W.N - k = m + 1 := ⟨W.N - k - 1, by omega⟩
  rw [hm, show W.N - (k + 1) = m by omega]
  simp [List.range_succ, List.replicate_succ]
theorem rowTo_none (W : Wy) (kk : Nat) (row : List Int) {k : Nat} (hk : k < W.N) (h : W.from kk row k = -1) : rowTo W kk row (k + 1) = rowTo W kk row k := by
  unfold rowTo
  obtain ⟨m, hm⟩ : ∃ m, W.N - k = m + 1 := ⟨W.N - k - 1, by omega⟩
  rw [hm, show W.N - (k + 1) = m by omega]
  simp [List.range_succ, List.replicate_succ, h]
theorem rowTo_zero (W : Wy) (kk : Nat) (row : List Int) : rowTo W kk row 0 = List.replicate W.N (-1) := by simp [rowTo]
theorem rowTo_all (W : Wy) (kk : Nat) (row : List Int) : rowTo W kk row W.N = W.step kk row := by simp [rowTo, Wy.step]

def afLoop : SC := sf_lanes_run_after.body.loops.headD .skip
end Go.Proofs.YthobfecblpnnnaaGreatDoor

/- Contracts of layer 6, the program: one cell of the next row. -/
set_option linter.all false
namespace Go.Proofs.YthobfecblpnnnaaGreatDoor
open Go Go.RowKit

set_option maxHeartbeats 4000000 in
theorem af_stepA (c : Ch) (hok : ChOk c) (ls : List Lg) (H : AH) (d t s : Value) (hc : ChIn H c d t s) (va : Option Addr) (vn vc : Nat) (p : Tp) (hp : tpOk c p = true) (b0 k0 : Nat) (hbs : Tab H (.slice (some ⟨b0, 0, none⟩) c.cells k0) (nearT c)) (row : List Int) (hrl : row.length = c.cells) (rb : Nat) (hrow : H[rb]? = some (.rw 1 (ints row))) (kk : Nat) (hkk : p.t0.toNat + kk < c.ticks) (fb : Nat) (hf : IsCl H (clrV fb) (fun x => freeM ls p.lv x (p.t0 + kk)))
    {k : Nat} (hk : k < c.cells) (s' : St) (A : AH) (hAA : s'.H = A) (fA : Aft H A) (fl : s'.lim = H.length) (br : Nat) (hbr : H.length ≤ br) (hbA : A[br]? = some (.rw 1 (ints (rowTo (wyM c ls p) kk row k))))
    (f2 : tget s'.t 2 = .int .i64 ((p.t0.toNat + kk : Nat) : Int)) (f4 : tget s'.t 4 = .pointer (some ⟨4, 0, some 0⟩)) (f5 : tget s'.t 5 = .pointer (some ⟨5, 0, some 0⟩)) (f7 : tget s'.t 7 = .pointer (some ⟨7, 0, some 0⟩)) (f9 : tget s'.t 9 = .slice (some ⟨br, 0, none⟩) c.cells c.cells) (f16 : tget s'.t 16 = .slice (some ⟨b0, 0, none⟩) c.cells k0) (f17 : tget s'.t 17 = .int .i64 c.cells) (f18 : tget s'.t 18 = .int .i64 k)
    (hL4 : lget s'.L 4 = some (0, .cells (rnC c d t s (.slice va vn vc) p (.slice (some ⟨b0, 0, none⟩) c.cells k0)))) (hL5 : lget s'.L 5 = some (0, .cells [.slice (some ⟨rb, 0, none⟩) c.cells c.cells])) (hL7 : lget s'.L 7 = some (0, .cells [clrV fb])) :
    ∃ s2, exL Tryz.prog pf afLoop s' = some (.normal, s2) ∧ tget s2.t 2 = tget s'.t 2 ∧ tget s2.t 4 = tget s'.t 4 ∧ tget s2.t 5 = tget s'.t 5 ∧ tget s2.t 7 = tget s'.t 7 ∧ tget s2.t 9 = tget s'.t 9 ∧ tget s2.t 16 = tget s'.t 16 ∧ tget s2.t 17 = tget s'.t 17 ∧ tget s2.t 18 = .int .i64 ((k + 1 : Nat) : Int) ∧ s2.lim = s'.lim ∧ s2.H = (A ++ [ABlk.rw 0 [.slice (some ⟨rb, 0, none⟩) c.cells c.cells], .rw 0 [clrV fb], .rw 0 [.int .i64 k], .rw 0 (rnC c d t s (.slice va vn vc) p (.slice (some ⟨b0, 0, none⟩) c.cells k0))]).set br (.rw 1 (ints (rowTo (wyM c ls p) kk row (k + 1)))) ∧ lget s2.L 4 = some (0, .fwd (A.length + 3)) ∧ lget s2.L 5 = some (0, .fwd A.length) ∧ lget s2.L 7 = some (0, .fwd (A.length + 1)) := by
  have hm := hok.mul
  have hp0 := hp
  simp only [tpOk, Bool.and_eq_true] at hp
  obtain ⟨⟨⟨hu, h0⟩, hfr⟩, hto⟩ := hp
  obtain ⟨n0, hn0, e0⟩ := inN_iff.1 h0
  obtain ⟨X, hX⟩ : ∃ X : AH, X = A ++ [ABlk.rw 0 [.slice (some ⟨rb, 0, none⟩) c.cells c.cells], .rw 0 [clrV fb], .rw 0 [.int .i64 k], .rw 0 (rnC c d t s (.slice va vn vc) p (.slice (some ⟨b0, 0, none⟩) c.cells k0))] := ⟨_, rfl⟩
  have hEX : Ext H X := by rw [hX]; exact fA.ext.trans (Ext.push A _)
  have hEA : Ext A X := by rw [hX]; exact Ext.push A _
  obtain ⟨nv, hnl, hns, hnr⟩ := hbs
  have hnk : k < nv.length := by rw [hnl]; simpa [nearT] using hk
  have hnr := hnr k (by simpa [nearT] using hk) hnk
  have hTl : (nearT c).length = c.cells := by simp [nearT]
  have hTk : ∀ h, (nearT c)[k]'h = nearI c k := fun h => by simp [nearT]
  rw [hTk] at hnr
  rw [hTl] at hns
  obtain ⟨xa, xc, ex, hxd⟩ := hns.ext fA.ext
  cases ex
  obtain ⟨b1, o1, ea, c1⟩ := hxd k (nv[k]) (by simp [hnk])
  cases ea
  generalize hnv0 : nv[k] = nvk at *
  have hnX := hnr.ext hEX
  obtain ⟨na, nc, hnv, hnd⟩ := id hnX
  subst hnv
  have hrv : Sl X (.slice (some ⟨rb, 0, none⟩) c.cells c.cells) row.length (ints row) := ⟨some ⟨rb, 0, none⟩, c.cells, by rw [hrl], fun j z hz => ⟨rb, 0, rfl, by simp only [hcell, hEX _ _ hrow, Nat.zero_add]; exact hz⟩⟩
  have hfX : IsCl X (clrV fb) (fun x => freeM ls p.lv x (p.t0 + kk)) := ⟨hf.1, fun H' hE o lim => hf.2 H' (hEX.trans hE) o lim⟩
  have hlenN : (nearI c k).length < 2 ^ 62 := by
    have : (nearI c k).length ≤ c.cells := by
      unfold nearI nearM
      rw [List.length_map]
      exact Nat.le_trans (List.length_filter_le _ _) (by simp)
    omega
  obtain ⟨u, hu0⟩ : ∃ u, u = idxM (askM row (fun x => freeM ls p.lv x (p.t0 + kk)) p.tl k) (nearI c k) := ⟨_, rfl⟩
  have hI : ∀ lim, apL Tryz.prog pf (.func (.func 106) #[] #[]) [.slice na (nearI c k).length nc, askV A.length (A.length + 1) (A.length + 2) (A.length + 3)] lim X = some (.int .i64 u, X) := fun lim => by
    rw [hu0]
    refine run_idxI (nearI c k) hlenN X lim _ _ ⟨by simp [askV], rfl, rfl⟩ _ hnX fun x hx lim => ?_
    obtain ⟨y, hy, rfl⟩ := List.mem_map.1 hx
    exact run_ask c d t s (.slice va vn vc) (.slice (some ⟨b0, 0, none⟩) c.cells k0) p X A.length (A.length + 1) (A.length + 2) (A.length + 3) row hrl _ hrv fb _ hfX k (by rw [hX]; simp) (by rw [hX]; simp) (by rw [hX]; simp) (by rw [hX]; simp) (nearM_lt hy) lim
  have hhold := fun lim => run_holds c hok p.lv p.dr hu hk hkk lim X d t s (hc.ext hEX) va vn vc
  have hfe := from_eq c ls p kk row k
  rw [← hu0] at hfe
  have hWN : (wyM c ls p).N = c.cells := rfl
  have hXr : X[br]? = some (.rw 1 (ints (rowTo (wyM c ls p) kk row k))) := hEA _ _ hbA
  have hsame : ∀ z, X[br]? = some z → X.set br z = X := fun z hz => by
    obtain ⟨h1, h2⟩ := List.getElem?_eq_some_iff.1 hz
    rw [← h2, List.set_getElem_self]
  have hkI : (k : Int) < (c.cells : Int) := by omega
  have hw : IntKind.i64.wrap ((k : Int) + 1) = ((k + 1 : Nat) : Int) := by rw [wrap_i64 (by omega) (by omega)]; omega
  obtain ⟨⟨da, dc, ed, _⟩, ⟨ta, tc, et, _⟩, ⟨sa, sc, es, _⟩, _, _, _⟩ := id hc
  simp only [trV, ed, et, es] at hhold
  simp only [hcell, Nat.zero_add] at c1
  rw [← hX]
  simp only [askV] at hI
  simp only [rnC, clrV, ed, et, es] at *
  by_cases hu1 : 0 ≤ u
  rotate_left
  · rw [if_neg (fun h => hu1 h.1)] at hfe
    have hro := rowTo_none (wyM c ls p) kk row hk hfe
    rw [hro, hsame _ hXr]
    generalize hrw : ints (rowTo (wyM c ls p) kk row k) = rr at *
    rw [hX] at hI ⊢
    simp [-nextG, -Int.natCast_add, -Array.all_toList, -Array.all_eq_false, -oneC, oneC_slice, oneC_int, oneC_boolW, afLoop, SC.loops, sf_lanes_run_after, f2, f4, f5, f7, f9, f16, f17, f18, fl, hAA, hkI, hk, c1, hI, hu1, hw, and_assoc, hL4, hL5, hL7]
  · obtain ⟨j, rfl⟩ : ∃ j : Nat, u = j := ⟨u.toNat, by omega⟩
    have hjl : j < (nearI c k).length := by
      have := idxM_lt (askM row (fun x => freeM ls p.lv x (p.t0 + kk)) p.tl k) (nearI c k) (by rw [← hu0]; exact hu1)
      rw [← hu0] at this
      simpa using this
    have hjI : (j : Int) < ((nearI c k).length : Int) := by omega
    obtain ⟨b2, o2, rfl, d2⟩ := hnd j (.int .i64 ((nearI c k).getD j 0)) (by simp [ints, hjl])
    simp only [hcell] at d2
    cases hcan : c.can p.lv p.dr k (p.t0.toNat + kk) with
    | false =>
      rw [hcan] at hfe hhold
      rw [if_neg (fun h => by cases h.2)] at hfe
      have hro := rowTo_none (wyM c ls p) kk row hk hfe
      rw [hro, hsame _ hXr]
      generalize hrw : ints (rowTo (wyM c ls p) kk row k) = rr at *
      rw [hX] at hI hhold ⊢
      simp [-nextG, -Int.natCast_add, -Array.all_toList, -Array.all_eq_false, -oneC, oneC_slice, oneC_int, oneC_boolW, afLoop, SC.loops, sf_lanes_run_after, f2, f4, f5, f7, f9, f16, f17, f18, fl, hAA, hkI, hk, c1, hI, hhold, hw, and_assoc, hL4, hL5, hL7]
    | true =>
      rw [hcan] at hfe hhold
      rw [if_pos ⟨hu1, rfl⟩, Int.toNat_natCast] at hfe
      have hro := rowTo_succ (wyM c ls p) kk row hk
      rw [hfe] at hro
      have hset : (ints (rowTo (wyM c ls p) kk row k)).set k (.int .i64 ((nearI c k).getD j 0)) = ints (rowTo (wyM c ls p) kk row (k + 1)) := by rw [hro]; simp [ints, List.map_set]
      have hlr : (ints (rowTo (wyM c ls p) kk row k)).length = c.cells := by rw [ints_length, rowTo_length _ _ _ (by rw [hWN]; omega), hWN]
      rw [← hset]
      generalize hrw : ints (rowTo (wyM c ls p) kk row k) = rr at *
      generalize (nearI c k).getD j 0 = y at *
      rw [hX] at hI hhold d2 hXr ⊢
      have hk1 : k + 1 ≤ c.cells := by omega
      simp [-nextG, -Int.natCast_add, -Array.all_toList, -Array.all_eq_false, -oneC, oneC_slice, oneC_int, oneC_boolW, afLoop, SC.loops, sf_lanes_run_after, f2, f4, f5, f7, f9, f16, f17, f18, fl, hAA, hkI, hk, c1, hI, hhold, hw, hjI, hjl, d2, hXr, hlr, hk1, hbr, and_assoc, hL4, hL5, hL7]

set_option maxHeartbeats 4000000 in
theorem af_stepB (c : Ch) (hok : ChOk c) (ls : List Lg) (H : AH) (d t s : Value) (hc : ChIn H c d t s) (va : Option Addr) (vn vc : Nat) (p : Tp) (hp : tpOk c p = true) (b0 k0 : Nat) (hbs : Tab H (.slice (some ⟨b0, 0, none⟩) c.cells k0) (nearT c)) (row : List Int) (hrl : row.length = c.cells) (rb : Nat) (hrow : H[rb]? = some (.rw 1 (ints row))) (kk : Nat) (hkk : p.t0.toNat + kk < c.ticks) (fb : Nat) (hf : IsCl H (clrV fb) (fun x => freeM ls p.lv x (p.t0 + kk)))
    {k : Nat} (hk : k < c.cells) (s' : St) (A : AH) (hAA : s'.H = A) (fA : Aft H A) (fl : s'.lim = H.length) (br : Nat) (hbr : H.length ≤ br) (hbA : A[br]? = some (.rw 1 (ints (rowTo (wyM c ls p) kk row k))))
    (f2 : tget s'.t 2 = .int .i64 ((p.t0.toNat + kk : Nat) : Int)) (f4 : tget s'.t 4 = .pointer (some ⟨4, 0, some 0⟩)) (f5 : tget s'.t 5 = .pointer (some ⟨5, 0, some 0⟩)) (f7 : tget s'.t 7 = .pointer (some ⟨7, 0, some 0⟩)) (f9 : tget s'.t 9 = .slice (some ⟨br, 0, none⟩) c.cells c.cells) (f16 : tget s'.t 16 = .slice (some ⟨b0, 0, none⟩) c.cells k0) (f17 : tget s'.t 17 = .int .i64 c.cells) (f18 : tget s'.t 18 = .int .i64 k)
    (g4 g5 g7 : Nat) (hL4 : lget s'.L 4 = some (0, .fwd g4)) (hL5 : lget s'.L 5 = some (0, .fwd g5)) (hL7 : lget s'.L 7 = some (0, .fwd g7)) (hg4 : A[g4]? = some (.rw 0 (rnC c d t s (.slice va vn vc) p (.slice (some ⟨b0, 0, none⟩) c.cells k0)))) (hg5 : A[g5]? = some (.rw 0 [.slice (some ⟨rb, 0, none⟩) c.cells c.cells])) (hg7 : A[g7]? = some (.rw 0 [clrV fb])) :
    ∃ s2, exL Tryz.prog pf afLoop s' = some (.normal, s2) ∧ tget s2.t 2 = tget s'.t 2 ∧ tget s2.t 4 = tget s'.t 4 ∧ tget s2.t 5 = tget s'.t 5 ∧ tget s2.t 7 = tget s'.t 7 ∧ tget s2.t 9 = tget s'.t 9 ∧ tget s2.t 16 = tget s'.t 16 ∧ tget s2.t 17 = tget s'.t 17 ∧ tget s2.t 18 = .int .i64 ((k + 1 : Nat) : Int) ∧ s2.lim = s'.lim ∧ s2.H = (A ++ [ABlk.rw 0 [.int .i64 k]]).set br (.rw 1 (ints (rowTo (wyM c ls p) kk row (k + 1)))) ∧ lget s2.L 4 = some (0, .fwd g4) ∧ lget s2.L 5 = some (0, .fwd g5) ∧ lget s2.L 7 = some (0, .fwd g7) := by
  have hm := hok.mul
  have hp0 := hp
  simp only [tpOk, Bool.and_eq_true] at hp
  obtain ⟨⟨⟨hu, h0⟩, hfr⟩, hto⟩ := hp
  obtain ⟨n0, hn0, e0⟩ := inN_iff.1 h0
  obtain ⟨X, hX⟩ : ∃ X : AH, X = A ++ [ABlk.rw 0 [.int .i64 k]] := ⟨_, rfl⟩
  have hEX : Ext H X := by rw [hX]; exact fA.ext.trans (Ext.push A _)
  have hEA : Ext A X := by rw [hX]; exact Ext.push A _
  obtain ⟨nv, hnl, hns, hnr⟩ := hbs
  have hnk : k < nv.length := by rw [hnl]; simpa [nearT] using hk
  have hnr := hnr k (by simpa [nearT] using hk) hnk
  have hTl : (nearT c).length = c.cells := by simp [nearT]
  have hTk : ∀ h, (nearT c)[k]'h = nearI c k := fun h => by simp [nearT]
  rw [hTk] at hnr
  rw [hTl] at hns
  obtain ⟨xa, xc, ex, hxd⟩ := hns.ext fA.ext
  cases ex
  obtain ⟨b1, o1, ea, c1⟩ := hxd k (nv[k]) (by simp [hnk])
  cases ea
  generalize hnv0 : nv[k] = nvk at *
  have hnX := hnr.ext hEX
  obtain ⟨na, nc, hnv, hnd⟩ := id hnX
  subst hnv
  have hrv : Sl X (.slice (some ⟨rb, 0, none⟩) c.cells c.cells) row.length (ints row) := ⟨some ⟨rb, 0, none⟩, c.cells, by rw [hrl], fun j z hz => ⟨rb, 0, rfl, by simp only [hcell, hEX _ _ hrow, Nat.zero_add]; exact hz⟩⟩
  have hfX : IsCl X (clrV fb) (fun x => freeM ls p.lv x (p.t0 + kk)) := ⟨hf.1, fun H' hE o lim => hf.2 H' (hEX.trans hE) o lim⟩
  have hlenN : (nearI c k).length < 2 ^ 62 := by
    have : (nearI c k).length ≤ c.cells := by
      unfold nearI nearM
      rw [List.length_map]
      exact Nat.le_trans (List.length_filter_le _ _) (by simp)
    omega
  obtain ⟨u, hu0⟩ : ∃ u, u = idxM (askM row (fun x => freeM ls p.lv x (p.t0 + kk)) p.tl k) (nearI c k) := ⟨_, rfl⟩
  have hI : ∀ lim, apL Tryz.prog pf (.func (.func 106) #[] #[]) [.slice na (nearI c k).length nc, askV g5 g7 A.length g4] lim X = some (.int .i64 u, X) := fun lim => by
    rw [hu0]
    refine run_idxI (nearI c k) hlenN X lim _ _ ⟨by simp [askV], rfl, rfl⟩ _ hnX fun x hx lim => ?_
    obtain ⟨y, hy, rfl⟩ := List.mem_map.1 hx
    exact run_ask c d t s (.slice va vn vc) (.slice (some ⟨b0, 0, none⟩) c.cells k0) p X g5 g7 A.length g4 row hrl _ hrv fb _ hfX k (hEA _ _ hg5) (hEA _ _ hg7) (by rw [hX]; simp) (hEA _ _ hg4) (nearM_lt hy) lim
  have hhold := fun lim => run_holds c hok p.lv p.dr hu hk hkk lim X d t s (hc.ext hEX) va vn vc
  have hx4 : ∀ x : AH, (A ++ x)[g4]? = _ := fun x => own_get hg4 x
  have hx5 : ∀ x : AH, (A ++ x)[g5]? = _ := fun x => own_get hg5 x
  have hx7 : ∀ x : AH, (A ++ x)[g7]? = _ := fun x => own_get hg7 x
  have hfe := from_eq c ls p kk row k
  rw [← hu0] at hfe
  have hWN : (wyM c ls p).N = c.cells := rfl
  have hXr : X[br]? = some (.rw 1 (ints (rowTo (wyM c ls p) kk row k))) := hEA _ _ hbA
  have hsame : ∀ z, X[br]? = some z → X.set br z = X := fun z hz => by
    obtain ⟨h1, h2⟩ := List.getElem?_eq_some_iff.1 hz
    rw [← h2, List.set_getElem_self]
  have hkI : (k : Int) < (c.cells : Int) := by omega
  have hw : IntKind.i64.wrap ((k : Int) + 1) = ((k + 1 : Nat) : Int) := by rw [wrap_i64 (by omega) (by omega)]; omega
  obtain ⟨⟨da, dc, ed, _⟩, ⟨ta, tc, et, _⟩, ⟨sa, sc, es, _⟩, _, _, _⟩ := id hc
  simp only [trV, ed, et, es] at hhold
  simp only [hcell, Nat.zero_add] at c1
  rw [← hX]
  simp only [askV] at hI
  simp only [rnC, clrV, ed, et, es] at *
  by_cases hu1 : 0 ≤ u
  rotate_left
  · rw [if_neg (fun h => hu1 h.1)] at hfe
    have hro := rowTo_none (wyM c ls p) kk row hk hfe
    rw [hro, hsame _ hXr]
    generalize hrw : ints (rowTo (wyM c ls p) kk row k) = rr at *
    rw [hX] at hI ⊢
    simp [-nextG, -Int.natCast_add, -Array.all_toList, -Array.all_eq_false, -oneC, oneC_slice, oneC_int, oneC_boolW, afLoop, SC.loops, sf_lanes_run_after, f2, f4, f5, f7, f9, f16, f17, f18, fl, hAA, hkI, hk, c1, hI, hu1, hw, and_assoc, hL4, hL5, hL7, hg4, hg5, hg7, hx4, hx5, hx7]
  · obtain ⟨j, rfl⟩ : ∃ j : Nat, u = j := ⟨u.toNat, by omega⟩
    have hjl : j < (nearI c k).length := by
      have := idxM_lt (askM row (fun x => freeM ls p.lv x (p.t0 + kk)) p.tl k) (nearI c k) (by rw [← hu0]; exact hu1)
      rw [← hu0] at this
      simpa using this
    have hjI : (j : Int) < ((nearI c k).length : Int) := by omega
    obtain ⟨b2, o2, rfl, d2⟩ := hnd j (.int .i64 ((nearI c k).getD j 0)) (by simp [ints, hjl])
    simp only [hcell] at d2
    cases hcan : c.can p.lv p.dr k (p.t0.toNat + kk) with
    | false =>
      rw [hcan] at hfe hhold
      rw [if_neg (fun h => by cases h.2)] at hfe
      have hro := rowTo_none (wyM c ls p) kk row hk hfe
      rw [hro, hsame _ hXr]
      generalize hrw : ints (rowTo (wyM c ls p) kk row k) = rr at *
      rw [hX] at hI hhold ⊢
      simp [-nextG, -Int.natCast_add, -Array.all_toList, -Array.all_eq_false, -oneC, oneC_slice, oneC_int, oneC_boolW, afLoop, SC.loops, sf_lanes_run_after, f2, f4, f5, f7, f9, f16, f17, f18, fl, hAA, hkI, hk, c1, hI, hhold, hw, and_assoc, hL4, hL5, hL7, hg4, hg5, hg7, hx4, hx5, hx7]
    | true =>
      rw [hcan] at hfe hhold
      rw [if_pos ⟨hu1, rfl⟩, Int.toNat_natCast] at hfe
      have hro := rowTo_succ (wyM c ls p) kk row hk
      rw [hfe] at hro
      have hset : (ints (rowTo (wyM c ls p) kk row k)).set k (.int .i64 ((nearI c k).getD j 0)) = ints (rowTo (wyM c ls p) kk row (k + 1)) := by rw [hro]; simp [ints, List.map_set]
      have hlr : (ints (rowTo (wyM c ls p) kk row k)).length = c.cells := by rw [ints_length, rowTo_length _ _ _ (by rw [hWN]; omega), hWN]
      rw [← hset]
      generalize hrw : ints (rowTo (wyM c ls p) kk row k) = rr at *
      generalize (nearI c k).getD j 0 = y at *
      rw [hX] at hI hhold d2 hXr ⊢
      have hk1 : k + 1 ≤ c.cells := by omega
      simp [-nextG, -Int.natCast_add, -Array.all_toList, -Array.all_eq_false, -oneC, oneC_slice, oneC_int, oneC_boolW, afLoop, SC.loops, sf_lanes_run_after, f2, f4, f5, f7, f9, f16, f17, f18, fl, hAA, hkI, hk, c1, hI, hhold, hw, hjI, hjl, d2, hXr, hlr, hk1, hbr, and_assoc, hL4, hL5, hL7, hg4, hg5, hg7, hx4, hx5, hx7]
end Go.Proofs.YthobfecblpnnnaaGreatDoor

/- Contracts of layer 6, the program: the next row is made. -/
set_option linter.all false
namespace Go.Proofs.YthobfecblpnnnaaGreatDoor
open Go Go.RowKit

theorem run_after6 (c : Ch) (hok : ChOk c) (ls : List Lg) (H : AH) (d t s : Value) (hc : ChIn H c d t s) (va : Option Addr) (vn vc : Nat) (p : Tp) (hp : tpOk c p = true) (b0 k0 : Nat) (hbs : Tab H (.slice (some ⟨b0, 0, none⟩) c.cells k0) (nearT c)) (row : List Int) (hrl : row.length = c.cells) (rb : Nat) (hrow : H[rb]? = some (.rw 1 (ints row))) (kk : Nat) (hkk : p.t0.toNat + kk < c.ticks) (fb : Nat) (hf : IsCl H (clrV fb) (fun x => freeM ls p.lv x (p.t0 + kk))) :
    ∃ r A, (∀ lim, apL Tryz.prog pf (.func (.func 72) #[] #[]) [rnV c d t s (.slice va vn vc) p (.slice (some ⟨b0, 0, none⟩) c.cells k0), .slice (some ⟨rb, 0, none⟩) c.cells c.cells, .int .i64 ((p.t0.toNat + kk : Nat) : Int), clrV fb] lim H = some (r, A)) ∧ Aft H A ∧ RowB H.length A r ((wyM c ls p).step kk row) := by
  have hm := hok.mul
  have hWN : (wyM c ls p).N = c.cells := rfl
  have hNo := fun lim => run_none6 c hok H d t s (.slice va vn vc) (by obtain ⟨⟨da, dc, ed, _⟩, _⟩ := hc; exact ⟨_, _, _, ed⟩) (by obtain ⟨_, ⟨da, dc, ed, _⟩, _⟩ := hc; exact ⟨_, _, _, ed⟩) (by obtain ⟨_, _, ⟨da, dc, ed, _⟩, _⟩ := hc; exact ⟨_, _, _, ed⟩) ⟨_, _, _, rfl⟩ p b0 k0 lim
  have hA := fun {k} (hk : k < c.cells) s' A => af_stepA c hok ls H d t s hc va vn vc p hp b0 k0 hbs row hrl rb hrow kk hkk fb hf hk s' A
  have hB := fun {k} (hk : k < c.cells) s' A => af_stepB c hok ls H d t s hc va vn vc p hp b0 k0 hbs row hrl rb hrow kk hkk fb hf hk s' A
  obtain ⟨⟨da, dc, ed, _⟩, ⟨ta, tc, et, _⟩, ⟨sa, sc, es, _⟩, _, _, _⟩ := id hc
  suffices key : ∀ lim, ∃ r A, apL Tryz.prog pf (.func (.func 72) #[] #[]) [rnV c d t s (.slice va vn vc) p (.slice (some ⟨b0, 0, none⟩) c.cells k0), .slice (some ⟨rb, 0, none⟩) c.cells c.cells, .int .i64 ((p.t0.toNat + kk : Nat) : Int), clrV fb] lim H = some (r, A) ∧ Aft H A ∧ RowB H.length A r ((wyM c ls p).step kk row) by
    obtain ⟨r, A, h1, h2⟩ := key 0
    refine ⟨r, A, fun lim => ?_, h2⟩
    rw [← h1, apL_func _ _ _ _ _ _ (by rfl), apL_func _ _ _ _ _ _ (by rfl)]
    simp only [pf_pure, show pureF 72 = true from rfl, if_true]
  intro lim
  obtain ⟨al, hal⟩ : ∃ al, al = afLoop := ⟨_, rfl⟩
  obtain ⟨tick, htick⟩ : ∃ tick : Int, tick = ((p.t0.toNat + kk : Nat) : Int) := ⟨_, rfl⟩
  rw [← htick]
  rw [apL_func _ _ _ _ _ _ (by rfl), sf_lanes_run_after_eq]
  simp only [rnV, clrV, ed, et, es] at hNo ⊢
  simp [-oneC, -Array.all_eq_false, -Array.all_toList, -Int.natCast_add, oneC_slice, oneC_int, oneC_boolW, sf_lanes_run_after, hNo, pf_pure, pureF]
  generalize hS : ({ t := _, L := _, H := _, lim := _, rd := _ } : St) = S
  have hlp : ∃ q, exL Tryz.prog pf (.loop afLoop) S = some q ∧ (q.1 = .exit 0 ∧ Aft H q.2.H ∧ tget q.2.t 9 = .slice (some ⟨H.length + 1, 0, none⟩) c.cells c.cells ∧ q.2.H[H.length + 1]? = some (.rw 1 (ints (rowTo (wyM c ls p) kk row c.cells)))) := by
    refine loop_rule (I := fun n s' => ∃ k A, k ≤ c.cells ∧ n = c.cells - k ∧ s'.H = A ∧ Aft H A ∧ s'.lim = H.length ∧ A[H.length + 1]? = some (.rw 1 (ints (rowTo (wyM c ls p) kk row k))) ∧ tget s'.t 2 = .int .i64 ((p.t0.toNat + kk : Nat) : Int) ∧ tget s'.t 4 = .pointer (some ⟨4, 0, some 0⟩) ∧ tget s'.t 5 = .pointer (some ⟨5, 0, some 0⟩) ∧ tget s'.t 7 = .pointer (some ⟨7, 0, some 0⟩) ∧ tget s'.t 9 = .slice (some ⟨H.length + 1, 0, none⟩) c.cells c.cells ∧ tget s'.t 16 = .slice (some ⟨b0, 0, none⟩) c.cells k0 ∧ tget s'.t 17 = .int .i64 c.cells ∧ tget s'.t 18 = .int .i64 k ∧
        ((lget s'.L 4 = some (0, .cells (rnC c d t s (.slice va vn vc) p (.slice (some ⟨b0, 0, none⟩) c.cells k0))) ∧ lget s'.L 5 = some (0, .cells [.slice (some ⟨rb, 0, none⟩) c.cells c.cells]) ∧ lget s'.L 7 = some (0, .cells [clrV fb])) ∨
        (∃ g4 g5 g7, lget s'.L 4 = some (0, .fwd g4) ∧ lget s'.L 5 = some (0, .fwd g5) ∧ lget s'.L 7 = some (0, .fwd g7) ∧ A[g4]? = some (.rw 0 (rnC c d t s (.slice va vn vc) p (.slice (some ⟨b0, 0, none⟩) c.cells k0))) ∧ A[g5]? = some (.rw 0 [.slice (some ⟨rb, 0, none⟩) c.cells c.cells]) ∧ A[g7]? = some (.rw 0 [clrV fb])))) ?_ c.cells S
      ⟨0, _, by omega, by omega, rfl, by subst hS; exact (Aft.refl H).push _, by subst hS; rfl, by subst hS; rw [rowTo_zero, hWN]; simp, by subst hS; simp [htick], by subst hS; simp, by subst hS; simp, by subst hS; simp, by subst hS; simp, by subst hS; simp, by subst hS; simp, by subst hS; simp, .inl ⟨by subst hS; simp [rnC, ed, et, es], by subst hS; simp, by subst hS; simp [clrV]⟩⟩
    rintro n s' ⟨k, A, hk, rfl, hAA, fA, fl, fb1, f2, f4, f5, f7, f9, f16, f17, f18, fL⟩
    by_cases hlt : k < c.cells
    rotate_left
    · have : k = c.cells := by omega
      subst this
      simp [afLoop, SC.loops, sf_lanes_run_after, f9, f17, f18, hAA]
      exact ⟨fA, fb1⟩
    have hne : ∀ {X : AH} {g : Nat} {vs : List Value}, X[g]? = some (.rw 0 vs) → X[H.length + 1]? = some (.rw 1 (ints (rowTo (wyM c ls p) kk row k))) → ∀ z, (X.set (H.length + 1) z)[g]? = some (.rw 0 vs) := fun {X g vs} h1 h2 z => by
      have : g ≠ H.length + 1 := by
        rintro rfl
        rw [h1] at h2
        cases h2
      rw [List.getElem?_set_ne (Ne.symm this)]
      exact h1
    have hbl : H.length + 1 < A.length := (List.getElem?_eq_some_iff.1 fb1).1
    rcases fL with ⟨z4, z5, z7⟩ | ⟨g4, g5, g7, z4, z5, z7, w4, w5, w7⟩
    · obtain ⟨s2, hr, r2, r4, r5, r7, r9, r16, r17, r18, rl, rH, rL4, rL5, rL7⟩ := hA hlt s' A hAA fA fl (H.length + 1) (by omega) fb1 f2 f4 f5 f7 f9 f16 f17 f18 z4 z5 z7
      have hX1 := own_get fb1 ([ABlk.rw 0 [.slice (some ⟨rb, 0, none⟩) c.cells c.cells], .rw 0 [clrV fb], .rw 0 [.int .i64 k], .rw 0 (rnC c d t s (.slice va vn vc) p (.slice (some ⟨b0, 0, none⟩) c.cells k0))])
      refine ⟨(.normal, s2), hr, c.cells - (k + 1), by omega, k + 1, s2.H, by omega, rfl, rfl, ?_, by rw [rl, fl], ?_, by rw [r2, f2], by rw [r4, f4], by rw [r5, f5], by rw [r7, f7], by rw [r9, f9], by rw [r16, f16], by rw [r17, f17], r18, .inr ⟨_, _, _, rL4, rL5, rL7, ?_, ?_, ?_⟩⟩
      · rw [rH]; exact (fA.push _).set (by omega) _
      · rw [rH, List.getElem?_set_self (by simp; omega)]
      · rw [rH]; exact hne (by simp) hX1 _
      · rw [rH]; exact hne (by simp) hX1 _
      · rw [rH]; exact hne (by simp) hX1 _
    · obtain ⟨s2, hr, r2, r4, r5, r7, r9, r16, r17, r18, rl, rH, rL4, rL5, rL7⟩ := hB hlt s' A hAA fA fl (H.length + 1) (by omega) fb1 f2 f4 f5 f7 f9 f16 f17 f18 g4 g5 g7 z4 z5 z7 w4 w5 w7
      have hX1 := own_get fb1 ([ABlk.rw 0 [.int .i64 k]])
      refine ⟨(.normal, s2), hr, c.cells - (k + 1), by omega, k + 1, s2.H, by omega, rfl, rfl, ?_, by rw [rl, fl], ?_, by rw [r2, f2], by rw [r4, f4], by rw [r5, f5], by rw [r7, f7], by rw [r9, f9], by rw [r16, f16], by rw [r17, f17], r18, .inr ⟨_, _, _, rL4, rL5, rL7, ?_, ?_, ?_⟩⟩
      · rw [rH]; exact (fA.push _).set (by omega) _
      · rw [rH, List.getElem?_set_self (by simp; omega)]
      · rw [rH]; exact hne (own_get w4 _) hX1 _
      · rw [rH]; exact hne (own_get w5 _) hX1 _
      · rw [rH]; exact hne (own_get w7 _) hX1 _
  obtain ⟨⟨e, s1⟩, hr, g1, g2, g3, g4⟩ := hlp
  simp [afLoop, SC.loops, sf_lanes_run_after] at hr
  rw [hr]
  simp only at g1 g2 g3 g4
  subst g1
  rw [← hWN, rowTo_all] at g4
  have hsl : ((wyM c ls p).step kk row).length = c.cells := by simp [Wy.step, hWN]
  refine ⟨.slice (some ⟨H.length + 1, 0, none⟩) c.cells c.cells, s1.H, by simp [g3], g2, H.length + 1, by omega, by rw [hsl], g4⟩
end Go.Proofs.YthobfecblpnnnaaGreatDoor
