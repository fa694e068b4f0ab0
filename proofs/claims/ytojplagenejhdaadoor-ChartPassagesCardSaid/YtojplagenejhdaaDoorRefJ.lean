/- Contracts of the functions, in the abstract machine: the reference's Depart, the whole. -/
import Derived.Test.YtojplagenejhdaaDoorRefI
set_option linter.all false
namespace Go.Proofs.YtojplagenejhdaaDoor
open Go Go.RowKit

def dfLoop : SC := sf_cobleref01_Depart.body.loops.headD .skip

theorem df_loop (N : Nat) (hN : N ≤ 1000) (X : AH) (br : Nat) (hX : X[br]? = some (.rw 1 (ints (List.replicate N 0)))) (S : St) (h11 : tget S.t 11 = .slice (some ⟨br, 0, none⟩) N N) (h13 : tget S.t 13 = .int .i64 0) (hH : S.H = X) (hlim : S.lim ≤ br) :
    ∃ r, exL Tryd.prog pf (.loop dfLoop) S = some r ∧ r.1 = .exit 0 ∧ r.2.L = S.L ∧ r.2.lim = S.lim ∧ r.2.rd = S.rd ∧ (∀ k, k ∈ [1, 2, 3, 4, 11, 12] → tget r.2.t k = tget S.t k) ∧ r.2.H = X.set br (.rw 1 (ints (List.replicate N (-1)))) := by
  have hbl : br < X.length := (List.getElem?_eq_some_iff.1 hX).1
  have hend : rowT (fun _ => -1) N N = List.replicate N (-1) := by rw [rowT_all, List.map_const', List.length_range]
  have hX0 : X = X.set br (.rw 1 (ints (rowT (fun _ => -1) N 0))) := by rw [rowT_zero, set_self hX]
  rw [← hend]
  refine loop_rule (I := fun n s' => ∃ i, i ≤ N ∧ n = N - i ∧ (∀ k, k ∈ [1, 2, 3, 4, 11, 12] → tget s'.t k = tget S.t k) ∧ tget s'.t 13 = .int .i64 i ∧ s'.L = S.L ∧ s'.lim = S.lim ∧ s'.rd = S.rd ∧ s'.H = X.set br (.rw 1 (ints (rowT (fun _ => -1) N i)))) ?_ N S
    ⟨0, by omega, by omega, fun _ _ => rfl, h13, rfl, rfl, rfl, by rw [hH]; exact hX0⟩
  rintro n s' ⟨i, hi, rfl, eK, e13, eL, el, er, eH⟩
  have e1 : tget s'.t 1 = tget S.t 1 := eK 1 (by simp)
  have e2 : tget s'.t 2 = tget S.t 2 := eK 2 (by simp)
  have e3 : tget s'.t 3 = tget S.t 3 := eK 3 (by simp)
  have e4 : tget s'.t 4 = tget S.t 4 := eK 4 (by simp)
  have e11 : tget s'.t 11 = _ := (eK 11 (by simp)).trans h11
  have e12 : tget s'.t 12 = tget S.t 12 := eK 12 (by simp)
  by_cases hlt : i < N
  rotate_left
  · have : i = N := by omega
    subst this
    simp [dfLoop, SC.loops, sf_cobleref01_Depart, e1, e2, e3, e4, e11, e12, e13, eL, el, er, eH, h11]
  have hw1 : IntKind.i64.wrap ((i : Int) + 1) = (i : Int) + 1 := wrap_i64 (by omega) (by omega)
  have hg : ∀ y, (X.set br y)[br]? = some y := fun y => List.getElem?_set_self hbl
  have hle : i + 1 ≤ (ints (rowT (fun _ => -1) N i)).length := by rw [ints_length, rowT_len _ hi]; omega
  have hset : (ints (rowT (fun _ => -1) N i)).set i (.int .i64 (-1)) = ints (rowT (fun _ => -1) N (i + 1)) := by rw [ints_set, ← rowT_set _ hlt]
  have hlt' : (i : Int) < N := by omega
  generalize ints (rowT (fun _ => -1) N i) = cs at *
  simp [dfLoop, SC.loops, sf_cobleref01_Depart, e1, e2, e3, e4, e11, e12, e13, eL, el, er, eH, h11, hlt, hlt', hw1, hg, hle, hlim, hset]
  exact ⟨_, by omega, i + 1, by omega, rfl, by omega, rfl⟩

def dtLoop : SC := sf_cobleref01_Depart.body.loops.tail.headD .skip

theorem dep_row {c : Ch} (hok : ChOk c) {g : Int} {to tick q : Nat} (hto : to < c.cells) (hq : q ≤ tick) {can : List Bool} (hcan : q ≠ 0 → can = (List.range c.cells).map fun i => decide (0 ≤ (rowP c g to tick (-1) (q - 1)).getD i 0)) {i : Nat} (hi : i < c.cells) :
    decide (0 ≤ (rowP c g to tick (-1) q).getD i 0) = ((nearTo c i 6).any (fun x => if tick - q = tick then decide (i = to) else can.getD x.toNat false) && c.sure g i (tick - q)) := by
  have hR : decide (0 ≤ (rowP c g to tick (-1) q).getD i 0) = true ↔ Reach c g to tick (-1) q i := by
    rw [decide_eq_true_eq]; exact ⟨fun h => ⟨hi, h⟩, fun h => h.2⟩
  rw [Bool.eq_iff_iff, hR, Bool.and_eq_true, List.any_eq_true]
  cases q with
  | zero =>
    rw [reach_zero hto]
    simp only [Nat.sub_zero, if_true, decide_eq_true_eq]
    constructor
    · rintro ⟨rfl, h⟩; exact ⟨⟨_, mem_nearTo.2 (.inl rfl), rfl⟩, h⟩
    · rintro ⟨⟨_, _, rfl⟩, h⟩; exact ⟨rfl, h⟩
  | succ q =>
    rw [reach_succ hok]
    have e : ((tick : Int) + ((q + 1 : Nat) : Int) * (-1)).toNat = tick - (q + 1) := by omega
    rw [e]
    have hc := hcan (by omega)
    simp only [Nat.add_sub_cancel] at hc
    have hg : ∀ y : Nat, y < c.cells → (can.getD y false = true ↔ Reach c g to tick (-1) q y) := fun y hy => by
      rw [hc]
      simp only [List.getD_eq_getElem?_getD, List.getElem?_map, List.getElem?_range hy, Option.map_some, Option.getD_some, decide_eq_true_eq]
      exact ⟨fun h => ⟨hy, h⟩, fun h => h.2⟩
    simp only [if_neg (show ¬ tick - (q + 1) = tick by omega)]
    constructor
    · rintro ⟨_, hs, h⟩
      refine ⟨?_, hs⟩
      rcases h with h | ⟨k, i', hk, e, h⟩
      · exact ⟨i, mem_nearTo.2 (.inl rfl), by rw [Int.toNat_natCast]; exact (hg i hi).2 h⟩
      · exact ⟨i', mem_nearTo.2 (.inr ⟨k, hk, e⟩), by rw [Int.toNat_natCast]; exact (hg i' h.1).2 h⟩
    · rintro ⟨⟨x, hx, h⟩, hs⟩
      refine ⟨hi, hs, ?_⟩
      obtain ⟨y, hy, rfl⟩ := nearTo_cell hok hi 6 x hx
      rw [Int.toNat_natCast] at h
      have := (hg y hy).1 h
      rcases mem_nearTo.1 hx with e | ⟨k, hk, e⟩
      · obtain rfl : y = i := by omega
        exact .inl this
      · exact .inr ⟨k, y, hk, e, this⟩

set_option maxHeartbeats 1000000 in
theorem dt_loop (c : Ch) (hok : ChOk c) (H : AH) (d t s : Value) (hc : ChIn H c d t s) (g : Int) {tick to : Nat} (htick : tick < c.ticks) (hto : to < c.cells) (bo : Nat) (hbo : H.length ≤ bo) (S : St)
    (h1 : tget S.t 1 = .int .i64 g) (h2 : tget S.t 2 = .int .i64 to) (h3 : tget S.t 3 = .int .i64 tick) (h4 : tget S.t 4 = .pointer (some ⟨4, 0, some 0⟩)) (h11 : tget S.t 11 = .slice (some ⟨bo, 0, none⟩) c.cells c.cells) (bc0 : Nat) (hbc0 : bc0 ≠ bo) (h12 : tget S.t 12 = .slice (some ⟨bc0, 0, none⟩) c.cells c.cells) (h14 : tget S.t 14 = .int .i64 tick) (hL : S.L = [(4, 0, .cells [.int .i64 c.w, .int .i64 c.h, d, t, s])]) (hA0 : Aft H S.H) (hXo : S.H[bo]? = some (.rw 1 (ints (nearL c g to tick (-1) 0)))) (hXc : S.H[bc0]? = some (.rw 1 (bools (List.replicate c.cells false)))) (hlim : S.lim = H.length) :
    ∃ r, exL Tryd.prog pf (.loop dtLoop) S = some r ∧ r.1 = .exit 2 ∧ r.2.L = S.L ∧ Aft H r.2.H ∧ tget r.2.t 11 = tget S.t 11 ∧ r.2.H[bo]? = some (.rw 1 (ints (nearL c g to tick (-1) (tick + 1)))) := by
  obtain ⟨p0, p1⟩ := hok.pos
  have hT : c.ticks ≤ 60 := hok.2.2.2.1.2
  obtain ⟨m0, m1, m2⟩ := hok.mul
  have hwm : IntKind.i64.wrap (c.w * c.h) = (c.cells : Int) := by rw [m2]; exact wrap_i64 (by omega) (by omega)
  have hCl := fun lim A => run_CellsCh c lim A d t s
  rw [hwm] at hCl
  refine loop_rule (I := fun n s' => ∃ q, q ≤ tick + 1 ∧ n = tick + 1 - q ∧ tget s'.t 1 = .int .i64 g ∧ tget s'.t 2 = .int .i64 to ∧ tget s'.t 3 = .int .i64 tick ∧ tget s'.t 4 = .pointer (some ⟨4, 0, some 0⟩) ∧ tget s'.t 11 = .slice (some ⟨bo, 0, none⟩) c.cells c.cells ∧ tget s'.t 14 = .int .i64 ((tick : Int) - q) ∧ s'.L = S.L ∧ s'.lim = H.length ∧ Aft H s'.H ∧ s'.H[bo]? = some (.rw 1 (ints (nearL c g to tick (-1) q))) ∧
      ∃ bc can, bc ≠ bo ∧ tget s'.t 12 = .slice (some ⟨bc, 0, none⟩) c.cells c.cells ∧ can.length = c.cells ∧ s'.H[bc]? = some (.rw 1 (bools can)) ∧ (q ≠ 0 → can = (List.range c.cells).map fun i => decide (0 ≤ (rowP c g to tick (-1) (q - 1)).getD i 0))) ?_ (tick + 1) S
    ⟨0, by omega, by omega, h1, h2, h3, h4, h11, by rw [h14]; simp, rfl, hlim, hA0, hXo, bc0, _, hbc0, h12, by simp, hXc, fun h => absurd rfl h⟩
  rintro n s' ⟨q, hq, rfl, e1, e2, e3, e4, e11, e14, eL, el, eA, eO, bc, can, hbc, e12, hcl, eC, hcan⟩
  obtain ⟨Y, hY⟩ : ∃ Y, s'.H = Y := ⟨_, rfl⟩
  rw [hY] at eA eO eC
  by_cases hlt : q ≤ tick
  rotate_left
  · have : q = tick + 1 := by omega
    subst this
    have e14' : tget s'.t 14 = .int .i64 (-1) := by rw [e14]; congr 1; omega
    simp [dtLoop, SC.loops, sf_cobleref01_Depart, e1, e2, e3, e4, e11, e12, e14', eL, hY, h11]
    exact ⟨eA, eO⟩
  obtain ⟨n, hn⟩ : ∃ n, n = tick - q := ⟨_, rfl⟩
  have e14' : tget s'.t 14 = .int .i64 n := by rw [e14]; congr 1; omega
  have hYo : bo < Y.length := (List.getElem?_eq_some_iff.1 eO).1
  have hYc : bc < Y.length := (List.getElem?_eq_some_iff.1 eC).1
  obtain ⟨X, hX⟩ : ∃ X, X = Y ++ [.rw 1 (bools (List.replicate c.cells false))] := ⟨_, rfl⟩
  have hYX : Aft Y X := ⟨_, hX⟩
  have hXn : X[Y.length]? = some (.rw 1 (bools (List.replicate c.cells false))) := by rw [hX, List.getElem?_append_right (Nat.le_refl _)]; simp
  obtain ⟨f, hf⟩ : ∃ f : Nat → Bool, f = fun i => decide (0 ≤ (rowP c g to tick (-1) q).getD i 0) := ⟨_, rfl⟩
  have hdi := fun S => di_loop c hok H d t s hc g X (eA.trans hYX) bo Y.length bc hbo eA.le (by omega) (by omega) hbc (nearL c g to tick (-1) q) (nearL_len ..) (hYX.ext _ _ eO) hXn can hcl (hYX.ext _ _ eC) n tick to (by omega) (by omega) (rowP c g to tick (-1) q) f (fun i hi => by rw [hf, hn]; exact dep_row hok hto hlt hcan hi) (fun i hi => by rw [hf]) S
  have hmx : c.cells ≤ maxA := Nat.le_trans (show c.cells ≤ 2000 by omega) (by decide)
  have hw1 : IntKind.i64.wrap ((n : Int) - 1) = (n : Int) - 1 := wrap_i64 (by omega) (by omega)
  have hn0 : (0 : Int) ≤ n := by omega
  obtain ⟨⟨da, dc, ed, _⟩, ⟨ta, tc, et, _⟩, ⟨sa, sc, es, _⟩, _, _, _⟩ := hc
  rw [hL] at eL
  simp only [chV, ed, et, es] at hCl
  rw [ed, et, es] at eL hL hdi
  simp [dtLoop, SC.loops, sf_cobleref01_Depart, e1, e2, e3, e4, e11, e12, e14', eL, el, hY, hL, hn0, hCl, hmx, zeros_bools]
  generalize hS : ({ t := _, L := _, H := _, lim := _, rd := _ } : St) = S2
  obtain ⟨⟨e, s1⟩, hr, q1, qL, ql, qr, qK, qM, qN, qO⟩ := hdi S2 (by subst hS; simp [e1]) (by subst hS; simp [e2]) (by subst hS; simp [e3]) (by subst hS; simp [e4]) (by subst hS; simp [e11]) (by subst hS; simp [e12]) (by subst hS; simp [e14']) (by subst hS; simp) (by subst hS; simp) (by subst hS; rfl) (by subst hS; rw [hX]) (by subst hS; exact Nat.le_refl _)
  simp [diLoop, SC.loops, sf_cobleref01_Depart] at hr
  rw [hr]
  simp only at q1 qL ql qr qK qM qN qO
  subst q1
  have k1 : tget s1.t 1 = .int .i64 g := (qK 1 (by simp)).trans (by subst hS; simp [e1])
  have k2 : tget s1.t 2 = .int .i64 to := (qK 2 (by simp)).trans (by subst hS; simp [e2])
  have k3 : tget s1.t 3 = .int .i64 tick := (qK 3 (by simp)).trans (by subst hS; simp [e3])
  have k4 : tget s1.t 4 = .pointer (some ⟨4, 0, some 0⟩) := (qK 4 (by simp)).trans (by subst hS; simp [e4])
  have k11 : tget s1.t 11 = .slice (some ⟨bo, 0, none⟩) c.cells c.cells := (qK 11 (by simp)).trans (by subst hS; simp [e11])
  have k14 : tget s1.t 14 = .int .i64 n := (qK 14 (by simp)).trans (by subst hS; simp [e14'])
  have k15 : tget s1.t 15 = .slice (some ⟨Y.length, 0, none⟩) c.cells c.cells := (qK 15 (by simp)).trans (by subst hS; simp)
  have jL : s1.L = [(4, 0, .cells [.int .i64 c.w, .int .i64 c.h, .slice da c.depth.length dc, .slice ta c.tide.length tc, .slice sa c.swell.length sc])] := by rw [qL]; subst hS; rfl
  have jl : s1.lim = H.length := by rw [ql]; subst hS; rfl
  simp [-List.getD_eq_getElem?_getD, k1, k2, k3, k4, k11, k14, k15, jL, jl, hw1, and_assoc]
  have hnl : nearL c g to tick (-1) (q + 1) = nearF (rowP c g to tick (-1) q) n (nearL c g to tick (-1) q) c.cells := by
    show nearF (rowP c g to tick (-1) q) ((tick : Int) + (q : Int) * (-1)) _ _ = _
    congr 1
    omega
  refine ⟨_, by omega, q + 1, by omega, rfl, by omega, ?_, ?_, Y.length, by omega, rfl, rowB f c.cells c.cells, by rw [rowB_len f (Nat.le_refl _)], qN, fun _ => ?_⟩
  · exact Mod2.toAft (eA.trans hYX) qM hbo eA.le
  · rw [qO, hnl]
  · rw [rowB_all, hf, Nat.add_sub_cancel]
    simp only [List.getD_eq_getElem?_getD]

theorem run_refDepart (c : Ch) (H : AH) (d t s : Value) (hc : ChIn H c d t s) (g a b : Int) :
    ∃ v A, (∀ lim, apL Tryd.prog pf (.func (.func 31) #[] #[]) [chV c d t s, .int .i64 g, .int .i64 a, .int .i64 b] lim H = some (.tuple #[v, .int .i64 (embE c g [a] [b])], A)) ∧ Aft H A ∧ Sl A v (depL c g a b).length (ints (depL c g a b)) := by
  suffices key : ∃ v A, apL Tryd.prog pf (.func (.func 31) #[] #[]) [chV c d t s, .int .i64 g, .int .i64 a, .int .i64 b] 0 H = some (.tuple #[v, .int .i64 (embE c g [a] [b])], A) ∧ Aft H A ∧ Sl A v (depL c g a b).length (ints (depL c g a b)) by
    obtain ⟨v, A, h1, h2⟩ := key
    refine ⟨v, A, fun lim => ?_, h2⟩
    rw [← h1, apL_func _ _ _ _ _ _ (by rfl), apL_func _ _ _ _ _ _ (by rfl)]
    simp only [pf_pure, show pureF 31 = true from rfl, if_true]
  rw [apL_func _ _ _ _ _ _ (by rfl), sf_cobleref01_Depart_eq]
  have hK := fun lim => run_check c lim H d t s hc g a b
  by_cases h0 : embE c g [a] [b] = 0
  rotate_left
  · have h1 : (embE c g [a] [b] != 0) = true := by simpa using h0
    have hl : depL c g a b = [] := by unfold depL; rw [if_neg h0]
    rw [hl]
    refine ⟨.slice none 0 0, H, ?_, Aft.refl H, Sl.nil⟩
    obtain ⟨⟨da, dc, ed, _⟩, ⟨ta, tc, et, _⟩, ⟨sa, sc, es, _⟩, _, _, _⟩ := hc
    simp only [chV, ed, et, es] at hK
    simp [sf_cobleref01_Depart, chV, ed, et, es, hK, h1, pf_pure, pureF]
  obtain ⟨hok, hg, i, k, hi, hk, rfl, rfl⟩ := embE_inv h0
  rw [depL_ok hok hg hi hk]
  rw [h0] at hK
  obtain ⟨p0, p1⟩ := hok.pos
  obtain ⟨m0, m1, m2⟩ := hok.mul
  have hwm : IntKind.i64.wrap (c.w * c.h) = (c.cells : Int) := by rw [m2]; exact wrap_i64 (by omega) (by omega)
  have hCl := fun lim A => run_CellsCh c lim A d t s
  rw [hwm] at hCl
  have hmx : c.cells ≤ maxA := Nat.le_trans (show c.cells ≤ 2000 by omega) (by decide)
  have hc' := hc
  obtain ⟨⟨da, dc, ed, _⟩, ⟨ta, tc, et, _⟩, ⟨sa, sc, es, _⟩, _, _, _⟩ := hc
  simp only [chV, ed, et, es] at hK hCl
  simp [sf_cobleref01_Depart, chV, ed, et, es, hK, h0, hCl, hmx, zeros_ints', zeros_bools, pf_pure, pureF]
  generalize hS : ({ t := _, L := _, H := _, lim := _, rd := _ } : St) = S
  obtain ⟨X, hX⟩ : ∃ X, X = H ++ [.rw 1 (ints (List.replicate c.cells 0)), .rw 1 (bools (List.replicate c.cells false))] := ⟨_, rfl⟩
  have hX0 : X[H.length]? = some (.rw 1 (ints (List.replicate c.cells 0))) := by rw [hX, List.getElem?_append_right (Nat.le_refl _)]; simp
  have hX1 : X[H.length + 1]? = some (.rw 1 (bools (List.replicate c.cells false))) := by rw [hX, List.getElem?_append_right (by omega)]; simp
  obtain ⟨⟨e, s1⟩, hr, q1, qL, ql, qr, qK, qH⟩ := df_loop c.cells (by omega) X H.length hX0 S (by subst hS; simp) (by subst hS; simp) (by subst hS; rw [hX]) (by subst hS; exact Nat.le_refl _)
  simp [dfLoop, SC.loops, sf_cobleref01_Depart] at hr
  rw [hr]
  simp only at q1 qL ql qr qK qH
  subst q1
  have k1 : tget s1.t 1 = .int .i64 g := (qK 1 (by simp)).trans (by subst hS; simp)
  have k2 : tget s1.t 2 = .int .i64 i := (qK 2 (by simp)).trans (by subst hS; simp)
  have k3 : tget s1.t 3 = .int .i64 k := (qK 3 (by simp)).trans (by subst hS; simp)
  have k4 : tget s1.t 4 = .pointer (some ⟨4, 0, some 0⟩) := (qK 4 (by simp)).trans (by subst hS; simp)
  have k11 : tget s1.t 11 = .slice (some ⟨H.length, 0, none⟩) c.cells c.cells := (qK 11 (by simp)).trans (by subst hS; simp)
  have k12 : tget s1.t 12 = .slice (some ⟨H.length + 1, 0, none⟩) c.cells c.cells := (qK 12 (by simp)).trans (by subst hS; simp)
  have jL : s1.L = [(4, 0, .cells [.int .i64 c.w, .int .i64 c.h, d, t, s])] := by rw [qL]; subst hS; simp [ed, et, es]
  have jl : s1.lim = H.length := by rw [ql]; subst hS; rfl
  simp [k3]
  generalize hS2 : ({ t := _, L := _, H := _, lim := _, rd := _ } : St) = S2
  obtain ⟨⟨e, s2⟩, hr2, z1, zL, zA, z11, zO⟩ := dt_loop c hok H d t s hc' g hk hi H.length (Nat.le_refl _) S2 (by subst hS2; simp [k1]) (by subst hS2; simp [k2]) (by subst hS2; simp [k3]) (by subst hS2; simp [k4]) (by subst hS2; simp [k11]) (H.length + 1) (by omega) (by subst hS2; simp [k12]) (by subst hS2; simp) (by subst hS2; exact jL) (by subst hS2; simp only; rw [qH, hX]; exact (Aft.push (Aft.refl H) _).set (Nat.le_refl _) _) (by subst hS2; simp only; rw [qH, List.getElem?_set_self (List.getElem?_eq_some_iff.1 hX0).1]; rfl) (by subst hS2; simp only; rw [qH, List.getElem?_set_ne (by omega), hX1]) (by subst hS2; exact jl)
  simp [dtLoop, SC.loops, sf_cobleref01_Depart] at hr2
  rw [hr2]
  simp only at z1 zL zA z11 zO
  subst z1
  have j11 : tget s2.t 11 = .slice (some ⟨H.length, 0, none⟩) c.cells c.cells := by rw [z11]; subst hS2; simp [k11]
  have hSl := Sl.made (n := c.cells) (k := c.cells) zO (by rw [nearL_len])
  refine ⟨.slice (some ⟨H.length, 0, none⟩) c.cells c.cells, s2.H, ?_, zA, hSl⟩
  simp [j11]
end Go.Proofs.YtojplagenejhdaaDoor
