import Derived.Test.YthobfecblpnnnaaGreatDoorRouF
import Derived.Test.YthobfecblpnnnaaGreatDoorLanQ
import Derived.Test.YthobfecblpnnnaaGreatDoorTlLanesClashes
import Derived.Test.YthobfecblpnnnaaGreatDoorDataT

/- Contracts of layer 6, the specification: which legs clash. -/
set_option linter.all false
namespace Go.Proofs.YthobfecblpnnnaaGreatDoor
open Go Go.RowKit

def rcOut : SC := sf_cobleref06_Clashes.body.loops.headD .skip
def rcMid : SC := sf_cobleref06_Clashes.body.loops.getD 1 .skip
def rcIn : SC := sf_cobleref06_Clashes.body.loops.getD 2 .skip

set_option maxHeartbeats 2000000 in
theorem rc_in (c : Ch) (hT : c.tide.length ≤ 60) (ls : List Lg) (hn : ls.length ≤ 12) (hin : LgsIn ls) (hnn : LgsNn ls) (H A : AH) (hA : Aft H A) (d s : Value) (ta : Option Addr) (tc : Nat) (va : Option Addr) (vc : Nat) (hv : LgIn H (.slice va ls.length vc) ls) {i k : Nat} (hi : i < ls.length) (hk : k < ls.length) (l : List (Nat × Nat × Nat)) (hl : l.length ≤ 100000) (v : Value) (hO : OwnW H.length A v l) (S : St)
    (e1 : tget S.t 1 = .slice va ls.length vc) (e2 : tget S.t 2 = .pointer (some ⟨2, 0, some 0⟩)) (e7 : tget S.t 7 = v) (e8 : tget S.t 8 = .int .i64 i) (e9 : tget S.t 9 = .int .i64 k) (e10 : tget S.t 10 = .int .i64 0) (hL : lget S.L 2 = some (0, .cells [.int .i64 c.w, .int .i64 c.h, d, .slice ta c.tide.length tc, s])) (hH : S.H = A) (hlim : S.lim = H.length) :
    ∃ q, exL Tryz.prog pf (.loop rcIn) S = some q ∧ (q.1 = .exit 4 ∧ q.2.L = S.L ∧ q.2.lim = S.lim ∧ Aft H q.2.H ∧ tget q.2.t 1 = tget S.t 1 ∧ tget q.2.t 2 = tget S.t 2 ∧ tget q.2.t 8 = tget S.t 8 ∧ tget q.2.t 9 = tget S.t 9 ∧ OwnW H.length q.2.H (tget q.2.t 7) (l ++ oneM (firstC c.tide.length ls[i] ls[k]) i k)) := by
  unfold oneM
  obtain ⟨b1, o1, ac1, xa, xc, e, c0, c1, c2, c3, c4, hsl1⟩ := (hv.ext hA.ext).sl.get hi
  cases e
  obtain ⟨b2, o2, ac2, ya, yc, e, d0, d1, d2, d3, d4, hsl2⟩ := (hv.ext hA.ext).sl.get hk
  cases e
  have hmi := List.getElem_mem hi
  have hmk := List.getElem_mem hk
  have hC := fun {t : Nat} (ht : t ≤ 800) lim => run_Clash ls[i] ls[k] (hnn _ hmi) (hnn _ hmk) (t : Int) (by omega) (hin _ hmi) (hin _ hmk) A _ _ ⟨hsl1, hv.cl _ hmi⟩ ⟨hsl2, hv.cl _ hmk⟩ lim
  simp only [lgV] at hC
  simp only [hcell] at c0 c1 c2 c3 c4 d0 d1 d2 d3 d4
  refine loop_rule (I := fun n s' => ∃ j, j ≤ c.tide.length ∧ n = c.tide.length - j ∧ tget s'.t 1 = tget S.t 1 ∧ tget s'.t 2 = tget S.t 2 ∧ tget s'.t 7 = v ∧ tget s'.t 8 = tget S.t 8 ∧ tget s'.t 9 = tget S.t 9 ∧ tget s'.t 10 = .int .i64 j ∧ s'.L = S.L ∧ s'.H = A ∧ s'.lim = H.length ∧ ∀ m, m < j → claM ls[i] ls[k] (m : Int) = false) ?_ c.tide.length S
    ⟨0, by omega, by omega, rfl, rfl, e7, rfl, rfl, e10, rfl, hH, hlim, by omega⟩
  rintro n s' ⟨j, hj, rfl, f1, f2, f7, f8, f9, f10, fL, fH, fl, et⟩
  rw [e1] at f1
  rw [e2] at f2
  rw [e8] at f8
  rw [e9] at f9
  have hiI : (i : Int) < (ls.length : Int) := by omega
  have hkI : (k : Int) < (ls.length : Int) := by omega
  by_cases hlt : j < c.tide.length
  rotate_left
  · have : j = c.tide.length := by omega
    subst this
    have hno : firstC c.tide.length ls[i] ls[k] = none := by
      unfold firstC
      rw [List.find?_eq_none]
      intro m hm
      rw [et m (List.mem_range.1 hm)]
      simp
    simp [rcIn, SC.loops, sf_cobleref06_Clashes, f1, f2, f7, f8, f9, f10, fL, fH, fl, hL, e1, e2, e8, e9, hlim, hno]
    exact ⟨hA, hO⟩
  have hltI : (j : Int) < (c.tide.length : Int) := by omega
  have hw : IntKind.i64.wrap ((j : Int) + 1) = (j : Int) + 1 := wrap_i64 (by omega) (by omega)
  have hC := fun lim => hC (t := j) (by omega) lim
  cases hc : claM ls[i] ls[k] (j : Int) with
  | false =>
    rw [hc] at hC
    generalize hq1 : ls[i] = q1 at *
    generalize hq2 : ls[k] = q2 at *
    simp [rcIn, SC.loops, sf_cobleref06_Clashes, f1, f2, f7, f8, f9, f10, fL, fH, fl, hL, hlt, hltI, hi, hiI, hk, hkI, c0, c1, c2, c3, c4, d0, d1, d2, d3, d4, hC, hw, e1, e2, e8, e9]
    exact ⟨_, by omega, j + 1, by omega, rfl, by omega, fun m hm => by
      by_cases e : m = j
      · subst e; exact hc
      · exact et m (by omega)⟩
  | true =>
    rw [hc] at hC
    have hf : firstC c.tide.length ls[i] ls[k] = some j := by
      unfold firstC
      rw [List.find?_eq_some_iff_getElem]
      refine ⟨hc, j, by simpa using hlt, by simp, fun m hm => ?_⟩
      rw [List.getElem_range, et m hm]
      rfl
    have happ : trips l ++ [.int .i64 (i : Nat), .int .i64 (k : Nat), .int .i64 (j : Nat)] = trips (l ++ [(i, k, j)]) := by simp [trips]
    have hle := hA.le
    have hm1 : 1 ≤ maxA := by decide
    rw [hf]
    generalize hq1 : ls[i] = q1 at *
    generalize hq2 : ls[k] = q2 at *
    rcases hO with ⟨rfl, rfl⟩ | ⟨hne, bb, hb0, rfl, hbA⟩
    · simp [-oneC, oneC_slice, oneC_int, rcIn, SC.loops, sf_cobleref06_Clashes, f1, f2, f7, f8, f9, f10, fL, fH, fl, hL, hlt, hltI, hi, hiI, hk, hkI, c0, c1, c2, c3, c4, d0, d1, d2, d3, d4, hC, hm1, e1, e2, e8, e9, hlim]
      refine ⟨hA.push _, .inr ⟨by simp, A.length + 1, by omega, by simp, ?_⟩⟩
      rw [List.getElem?_append_right (by omega), Nat.add_sub_cancel_left]
      simp [trips]
    · have hl0 : ¬ l.length = 0 := by simpa using hne
      have hmx : l.length + 1 ≤ maxA := Nat.le_trans (show _ ≤ 100001 by omega) (by decide)
      have hcA : ∀ L x, cellsAt L (A ++ x) ⟨bb, 0, none⟩ (l.length * 3) = some (trips l) := fun L x => by
        rw [← trips_length]; exact cellsAt_of (trips l) 0 fun m y hy => by simp only [hcell, Nat.zero_add]; rw [own_get hbA x]; exact hy
      have hbX := fun x => own_get hbA x
      have hsX := fun x y => own_set hbA x y
      have hcn : nlL (trips l) = true := nlL_trips l
      have hci := trips_length l
      have hbl : bb < A.length := (List.getElem?_eq_some_iff.1 hbA).1
      generalize hcl2 : trips l = cs at *
      simp [-oneC, oneC_slice, oneC_int, rcIn, SC.loops, sf_cobleref06_Clashes, f1, f2, f7, f8, f9, f10, fL, fH, fl, hL, hlt, hltI, hi, hiI, hk, hkI, c0, c1, c2, c3, c4, d0, d1, d2, d3, d4, hC, hne, hl0, hmx, hcA, hbX, hsX, hcn, hci, hb0, e1, e2, e8, e9, hlim]
      refine ⟨(hA.set hb0 _).push _, .inr ⟨by simp, A.length + 1, by omega, by simp, ?_⟩⟩
      rw [List.getElem?_append_right (by simp)]
      simp [happ]

set_option maxHeartbeats 2000000 in
theorem rc_mid (c : Ch) (hT : c.tide.length ≤ 60) (ls : List Lg) (hn : ls.length ≤ 12) (hin : LgsIn ls) (hnn : LgsNn ls) (H : AH) (d s : Value) (ta : Option Addr) (tc : Nat) (va : Option Addr) (vc : Nat) (hv : LgIn H (.slice va ls.length vc) ls) {i : Nat} (hi : i < ls.length) (l : List (Nat × Nat × Nat)) (hl : l.length ≤ 5000) (S : St)
    (e1 : tget S.t 1 = .slice va ls.length vc) (e2 : tget S.t 2 = .pointer (some ⟨2, 0, some 0⟩)) (e8 : tget S.t 8 = .int .i64 i) (e9 : tget S.t 9 = .int .i64 ((i + 1 : Nat) : Int)) (hL : lget S.L 2 = some (0, .cells [.int .i64 c.w, .int .i64 c.h, d, .slice ta c.tide.length tc, s])) (hA : Aft H S.H) (hO : OwnW H.length S.H (tget S.t 7) l) (hlim : S.lim = H.length) :
    ∃ q, exL Tryz.prog pf (.loop rcMid) S = some q ∧ (q.1 = .exit 2 ∧ q.2.L = S.L ∧ q.2.lim = S.lim ∧ Aft H q.2.H ∧ tget q.2.t 1 = tget S.t 1 ∧ tget q.2.t 2 = tget S.t 2 ∧ tget q.2.t 8 = tget S.t 8 ∧ OwnW H.length q.2.H (tget q.2.t 7) (l ++ clK c.tide.length ls i ls.length)) := by
  refine loop_rule (I := fun n s' => ∃ k, i + 1 ≤ k ∧ k ≤ ls.length ∧ n = ls.length - k ∧ tget s'.t 1 = tget S.t 1 ∧ tget s'.t 2 = tget S.t 2 ∧ tget s'.t 8 = tget S.t 8 ∧ tget s'.t 9 = .int .i64 k ∧ s'.L = S.L ∧ s'.lim = H.length ∧ Aft H s'.H ∧ OwnW H.length s'.H (tget s'.t 7) (l ++ clK c.tide.length ls i k)) ?_ (ls.length - (i + 1)) S
    ⟨i + 1, by omega, by omega, rfl, rfl, rfl, rfl, e9, rfl, hlim, hA, by rw [clK_le _ _ _ _ (Nat.le_refl _), List.append_nil]; exact hO⟩
  rintro n s' ⟨k, hik, hk, rfl, f1, f2, f8, f9, fL, fl, fA, fO⟩
  rw [e1] at f1
  rw [e2] at f2
  rw [e8] at f8
  obtain ⟨A, hAA⟩ : ∃ A, s'.H = A := ⟨_, rfl⟩
  rw [hAA] at fA fO
  by_cases hlt : k < ls.length
  rotate_left
  · have : k = ls.length := by omega
    subst this
    simp [rcMid, SC.loops, sf_cobleref06_Clashes, f1, f2, f8, f9, fL, fl, hAA, hlim, e1, e2, e8]
    exact ⟨fA, fO⟩
  have hltI : (k : Int) < (ls.length : Int) := by omega
  have hw : IntKind.i64.wrap ((k : Int) + 1) = ((k + 1 : Nat) : Int) := by rw [wrap_i64 (by omega) (by omega)]; omega
  have hcl : (l ++ clK c.tide.length ls i k).length ≤ 100000 := by
    have := clK_len c.tide.length ls i k
    simp; omega
  have hkx : l ++ clK c.tide.length ls i (k + 1) = (l ++ clK c.tide.length ls i k) ++ oneM (firstC c.tide.length ls[i] ls[k]) i k := by
    simp only [clK]
    rw [if_pos (by omega), pairC_eq hi hlt, List.append_assoc]
  have hri := rc_in c hT ls hn hin hnn H A fA d s ta tc va vc hv hi hlt (l ++ clK c.tide.length ls i k) hcl (tget s'.t 7) fO
  rw [← hkx] at hri
  have ev7 : ∃ a n q, tget s'.t 7 = .slice a n q := by obtain ⟨a, q, e⟩ := fO.one; exact ⟨_, _, _, e⟩
  simp [rcMid, SC.loops, sf_cobleref06_Clashes, f1, f2, f8, f9, fL, fl, hAA, hltI]
  generalize hS2 : ({ t := _, L := _, H := _, lim := _, rd := _ } : St) = S2
  obtain ⟨⟨e, s2⟩, hr2, g0, g1, g2, g3, g4, g5, g6, g7, g8⟩ := hri S2 (by subst hS2; simp [f1]) (by subst hS2; simp [f2]) (by subst hS2; simp) (by subst hS2; simp [f8]) (by subst hS2; simp [f9]) (by subst hS2; simp) (by subst hS2; simp [fL, hL]) (by subst hS2; simp [hAA]) (by subst hS2; simp [fl])
  simp [rcIn, SC.loops, sf_cobleref06_Clashes] at hr2
  rw [hr2]
  simp only at g0 g1 g2 g3 g4 g5 g6 g7 g8
  subst g0
  have z1 : tget S2.t 1 = .slice va ls.length vc := by subst hS2; simp [f1]
  have z2 : tget S2.t 2 = .pointer (some ⟨2, 0, some 0⟩) := by subst hS2; simp [f2]
  have z8 : tget S2.t 8 = .int .i64 i := by subst hS2; simp [f8]
  have z9 : tget S2.t 9 = .int .i64 k := by subst hS2; simp [f9]
  have zL : S2.L = S.L := by subst hS2; simp [fL]
  have zl : S2.lim = H.length := by subst hS2; simp [fl]
  simp [-Int.natCast_add, g1, g2, g4, g5, g6, g7, z1, z2, z8, z9, zL, zl, e1, e2, e8, hw, hlim, and_assoc]
  exact ⟨ls.length - (k + 1), by omega, k + 1, by omega, by omega, rfl, rfl, g3, g8⟩

/-- Which legs clash, as the specification says. -/
theorem run_refClashes6 (c : Ch) (ls : List Lg) (H : AH) (d t s v : Value) (hc : ChIn H c d t s) (hv : LgIn H v ls) :
    ∃ r A, (∀ lim, apL Tryz.prog pf (.func (.func 32) #[] #[]) [chV c d t s, v] lim H = some (.tuple #[r, .int .i64 (legE c ls)], A)) ∧ Aft H A ∧ OwnW H.length A r (lclS c ls) := by
  have hK := fun lim => run_Check6 c ls H d t s v hc hv lim
  obtain ⟨va, vc, ev⟩ := hv.sl.one
  obtain ⟨⟨da, dc, ed, _⟩, ⟨ta, tc, et, _⟩, ⟨sa, sc, es, _⟩, _⟩ := id hc
  suffices key : ∀ lim, ∃ r A, apL Tryz.prog pf (.func (.func 32) #[] #[]) [chV c d t s, v] lim H = some (.tuple #[r, .int .i64 (legE c ls)], A) ∧ Aft H A ∧ OwnW H.length A r (lclS c ls) by
    obtain ⟨r, A, h1, h2⟩ := key 0
    refine ⟨r, A, fun lim => ?_, h2⟩
    rw [← h1, apL_func _ _ _ _ _ _ (by rfl), apL_func _ _ _ _ _ _ (by rfl)]
    simp only [pf_pure, show pureF 32 = true from rfl, if_true]
  intro lim
  simp only [legE6_eq, chV, ed, et, es, ev] at hK
  rw [apL_func _ _ _ _ _ _ (by rfl), sf_cobleref06_Clashes_eq]
  by_cases h0 : legE c ls = 0
  rotate_left
  · have h0' : (legE c ls != 0) = true := by simpa using h0
    refine ⟨.slice none 0 0, H, ?_, Aft.refl H, ?_⟩
    · simp [sf_cobleref06_Clashes, chV, ed, et, es, ev, hK, h0', pf_pure, pureF]
    · unfold lclS
      rw [if_neg h0]
      exact .inl ⟨rfl, rfl⟩
  obtain ⟨hok, hl12, hall⟩ := legE_zero.1 h0
  have hT : c.tide.length ≤ 60 := hok.2.2.2.1.2
  have hin := lgsIn_of hok hall
  have hnn := lgsNn_of hall
  have hv0 := hv
  rw [ev] at hv0
  have hlc : lclS c ls = clashesM c.tide.length ls := by unfold lclS; rw [if_pos h0]
  rw [hlc]
  rw [h0] at hK ⊢
  simp [sf_cobleref06_Clashes, chV, ed, et, es, ev, hK, pf_pure, pureF]
  generalize hS : ({ t := _, L := _, H := _, lim := _, rd := _ } : St) = S
  have eL : lget S.L 2 = some (0, .cells [.int .i64 c.w, .int .i64 c.h, d, .slice ta c.tide.length tc, s]) := by subst hS; simp [ed, et, es]
  have key : ∃ q, exL Tryz.prog pf (.loop rcOut) S = some q ∧ (q.1 = .exit 0 ∧ Aft H q.2.H ∧ OwnW H.length q.2.H (tget q.2.t 7) (clashesM c.tide.length ls)) := by
    refine loop_rule (I := fun n s' => ∃ i, i ≤ ls.length ∧ n = ls.length - i ∧ tget s'.t 1 = .slice va ls.length vc ∧ tget s'.t 2 = .pointer (some ⟨2, 0, some 0⟩) ∧ tget s'.t 8 = .int .i64 i ∧ s'.L = S.L ∧ s'.lim = H.length ∧ Aft H s'.H ∧ OwnW H.length s'.H (tget s'.t 7) (clI c.tide.length ls i)) ?_ ls.length S
      ⟨0, by omega, by omega, by subst hS; simp [ev], by subst hS; simp, by subst hS; simp, rfl, by subst hS; rfl, by subst hS; exact Aft.refl H, by subst hS; exact .inl ⟨rfl, by simp⟩⟩
    rintro n s' ⟨i, hi, rfl, f1, f2, f8, fL, fl, fA, fO⟩
    obtain ⟨A, hAA⟩ : ∃ A, s'.H = A := ⟨_, rfl⟩
    rw [hAA] at fA fO
    by_cases hlt : i < ls.length
    rotate_left
    · have : i = ls.length := by omega
      subst this
      simp [rcOut, SC.loops, sf_cobleref06_Clashes, f1, f2, f8, fL, fl, hAA]
      exact ⟨fA, fO⟩
    have hltI : (i : Int) < (ls.length : Int) := by omega
    have hw : IntKind.i64.wrap ((i : Int) + 1) = ((i + 1 : Nat) : Int) := by rw [wrap_i64 (by omega) (by omega)]; omega
    have hcl : (clI c.tide.length ls i).length ≤ 5000 := by
      have h1 := clI_len c.tide.length ls i
      have h2 : i * ls.length ≤ 12 * 12 := Nat.mul_le_mul (by omega) hl12
      omega
    have hm := rc_mid c hT ls hl12 hin hnn H d s ta tc va vc hv0 hlt (clI c.tide.length ls i) hcl
    simp [-Int.natCast_add, rcOut, SC.loops, sf_cobleref06_Clashes, f1, f2, f8, fL, fl, hAA, hltI, hw]
    generalize hS2 : ({ t := _, L := _, H := _, lim := _, rd := _ } : St) = S2
    obtain ⟨⟨e, s2⟩, hr2, g0, g1, g2, g3, g4, g5, g6, g7⟩ := hm S2 (by subst hS2; simp [f1]) (by subst hS2; simp [f2]) (by subst hS2; simp [f8]) (by subst hS2; simp) (by subst hS2; simp [fL, eL]) (by subst hS2; simpa [hAA] using fA) (by subst hS2; simpa [hAA] using fO) (by subst hS2; simp [fl])
    simp [rcMid, SC.loops, sf_cobleref06_Clashes] at hr2
    rw [hr2]
    simp only at g0 g1 g2 g3 g4 g5 g6 g7
    subst g0
    have z1 : tget S2.t 1 = .slice va ls.length vc := by subst hS2; simp [f1]
    have z2 : tget S2.t 2 = .pointer (some ⟨2, 0, some 0⟩) := by subst hS2; simp [f2]
    have z8 : tget S2.t 8 = .int .i64 i := by subst hS2; simp [f8]
    have zL : S2.L = S.L := by subst hS2; simp [fL]
    have zl : S2.lim = H.length := by subst hS2; simp [fl]
    simp [-Int.natCast_add, g1, g2, g4, g5, g6, z1, z2, z8, zL, zl, hw, and_assoc]
    exact ⟨ls.length - (i + 1), by omega, i + 1, by omega, rfl, rfl, g3, g7⟩
  obtain ⟨⟨e, s1⟩, hr, q1, q2, q3⟩ := key
  simp [rcOut, SC.loops, sf_cobleref06_Clashes] at hr
  rw [hr]
  simp only at q1 q2 q3
  subst q1
  rcases id q3 with ⟨e1, e2⟩ | ⟨_, b, hb, e2, _⟩
  · refine ⟨.slice none 0 0, H, ?_, Aft.refl H, .inl ⟨e1, rfl⟩⟩
    simp [e2]
  · refine ⟨tget s1.t 7, s1.H, ?_, q2, q3⟩
    rw [e2]
    simp [e2]
end Go.Proofs.YthobfecblpnnnaaGreatDoor

/- Contracts of layer 6, the specification: in which ticks a cell is free. -/
set_option linter.all false
namespace Go.Proofs.YthobfecblpnnnaaGreatDoor
open Go Go.RowKit

def rfLoop6 : SC := sf_cobleref06_Free.body.loops.headD .skip

set_option maxHeartbeats 2000000 in
theorem rf_loop6 (c : Ch) (hT : c.tide.length ≤ 60) (ls : List Lg) (hin : LgsIn ls) (hnn : LgsNn ls) (lv cell : Int) (hcell0 : 0 ≤ cell) (H : AH) (v d s : Value) (ta : Option Addr) (tc : Nat) (hv : LgIn H v ls) (S : St)
    (e1 : tget S.t 1 = v) (e2 : tget S.t 2 = .int .i64 lv) (e3 : tget S.t 3 = .int .i64 cell) (e4 : tget S.t 4 = .pointer (some ⟨4, 0, some 0⟩)) (e11 : tget S.t 11 = .slice none 0 0) (e12 : tget S.t 12 = .int .i64 0) (hL : lget S.L 4 = some (0, .cells [.int .i64 c.w, .int .i64 c.h, d, .slice ta c.tide.length tc, s])) (hH : S.H = H) (hlim : S.lim = H.length) :
    ∃ r, exL Tryz.prog pf (.loop rfLoop6) S = some r ∧ (r.1 = .exit 0 ∧ Aft H r.2.H ∧ OwnS H.length r.2.H (tget r.2.t 11) (spansTo (freeB ls lv cell) c.tide.length)) := by
  obtain ⟨va, vc, ev⟩ := hv.sl.one
  refine loop_rule (I := fun m s' => ∃ i, i ≤ c.tide.length ∧ m = c.tide.length - i ∧ tget s'.t 1 = v ∧ tget s'.t 2 = .int .i64 lv ∧ tget s'.t 3 = .int .i64 cell ∧ tget s'.t 4 = .pointer (some ⟨4, 0, some 0⟩) ∧ tget s'.t 12 = .int .i64 i ∧ s'.L = S.L ∧ s'.lim = H.length ∧ Aft H s'.H ∧ OwnS H.length s'.H (tget s'.t 11) (spansTo (freeB ls lv cell) i)) ?_ c.tide.length S
    ⟨0, by omega, by omega, e1, e2, e3, e4, e12, rfl, hlim, by rw [hH]; exact Aft.refl H, .inl ⟨rfl, e11⟩⟩
  rintro m s' ⟨i, hi, rfl, f1, f2, f3, f4, f12, fL, fl, hpre, hown⟩
  by_cases hlt : i < c.tide.length
  rotate_left
  · have : i = c.tide.length := by omega
    subst this
    simp [rfLoop6, SC.loops, sf_cobleref06_Free, f1, f2, f3, f4, f12, fL, fl, hL]
    exact ⟨hpre, hown⟩
  have hltI : (i : Int) < (c.tide.length : Int) := by omega
  have hw : IntKind.i64.wrap ((i : Int) + 1) = (i : Int) + 1 := wrap_i64 (by omega) (by omega)
  have hwm : IntKind.i64.wrap ((i : Int) - 1) = (i : Int) - 1 := wrap_i64 (by omega) (by omega)
  have hr := fun lim => run_Occupied ls hin hnn lv cell hcell0 i (by omega) s'.H v (hv.ext hpre.ext) lim
  have hlen := spansTo_length (freeB ls lv cell) i
  obtain ⟨l, hl⟩ : ∃ l, l = spansTo (freeB ls lv cell) i := ⟨_, rfl⟩
  rw [← hl] at hown hlen
  have hsucc : spansTo (freeB ls lv cell) (i + 1) = if freeB ls lv cell i then growL l i else l := by rw [hl]; rfl
  obtain ⟨A, hA⟩ : ∃ A, s'.H = A := ⟨_, rfl⟩
  rw [hA] at hpre hown hr
  have hle := hpre.le
  rw [ev] at f1 hr
  cases hpi : freeB ls lv cell i with
  | false =>
    rw [hpi] at hr
    simp only [Bool.not_false] at hr
    rcases hown with ⟨rfl, e5⟩ | ⟨hne, b, hb, e5, hbA⟩
    · simp [rfLoop6, SC.loops, sf_cobleref06_Free, f1, f2, f3, f4, e5, f12, fL, hL, hA, hlt, hltI, hw, hr, fl, ev]
      exact ⟨_, by omega, i + 1, by omega, rfl, by omega, hpre, by rw [hsucc, hpi]; exact .inl ⟨rfl, rfl⟩⟩
    · simp [rfLoop6, SC.loops, sf_cobleref06_Free, f1, f2, f3, f4, e5, f12, fL, hL, hA, hlt, hltI, hw, hr, fl, ev]
      exact ⟨_, by omega, i + 1, by omega, rfl, by omega, hpre, by rw [hsucc, hpi]; exact .inr ⟨hne, b, hb, rfl, hbA⟩⟩
  | true =>
    rw [hpi] at hr
    simp only [Bool.not_true] at hr
    rcases hown with ⟨rfl, e5⟩ | ⟨hne, b, hb, e5, hbA⟩
    · have hmx : 1 ≤ maxA := by decide
      simp [rfLoop6, SC.loops, sf_cobleref06_Free, f1, f2, f3, f4, e5, f12, fL, hL, hA, hlt, hltI, hw, hr, fl, hmx, ev]
      refine ⟨_, by omega, i + 1, by omega, rfl, by omega, hpre.push _, ?_⟩
      rw [hsucc, hpi]
      exact .inr ⟨by simp [growL_nil], A.length + 1, by omega, by simp [growL_nil], by simp [growL_nil, spans]⟩
    · rcases List.eq_nil_or_concat l with rfl | ⟨m, ⟨a, z⟩, hm⟩
      · exact absurd rfl hne
      rw [List.concat_eq_append] at hm
      obtain ⟨cs, hcs⟩ : ∃ cs, cs = spans l := ⟨_, rfl⟩
      have hml : l.length = m.length + 1 := by rw [hm]; simp
      have hcl : cs.length = (m.length + 1) * 2 := by rw [hcs, spans_length, hml]
      have hcz : cs[m.length * 2 + 1]? = some (.int .i64 z) := by
        have := (spans_get (l := l) (i := m.length) (by omega)).2
        rw [hcs, this]
        simp [hm]
      have hcn : nlL cs = true := by rw [hcs]; exact nlL_spans l
      have hA2 : ∀ L x, cellsAt L (A ++ x) ⟨b, 0, none⟩ ((m.length + 1) * 2) = some cs := fun L x => by
        rw [← hcl]
        refine cellsAt_of cs 0 fun j y hy => ?_
        simp only [hcell, Nat.zero_add]
        rw [List.getElem?_append_left (List.getElem?_eq_some_iff.1 hbA).1, hbA, ← hcs]
        exact hy
      rw [← hcs] at hbA
      rw [hml] at e5 hlen
      have hbl : b < A.length := (List.getElem?_eq_some_iff.1 hbA).1
      have hbX : ∀ x : AH, (A ++ x)[b]? = some (.rw 2 cs) := fun x => own_get hbA x
      have hwl : IntKind.i64.wrap (((m.length : Int) + 1) - 1) = (m.length : Int) := by rw [wrap_i64 (by omega) (by omega)]; omega
      have hwl' : IntKind.i64.wrap (m.length : Int) = (m.length : Int) := wrap_i64 (by omega) (by omega)
      have hmx : m.length + 1 + 1 ≤ maxA := Nat.le_trans (show m.length + 1 + 1 ≤ 2000 by omega) (by decide)
      have hmx' : m.length + 2 ≤ maxA := hmx
      have hix : (m.length : Int) < (m.length : Int) + 1 := by omega
      have hi2 : m.length * 2 + 1 + 1 ≤ (m.length + 1) * 2 := by omega
      have hi3 : m.length * 2 + 2 ≤ (m.length + 1) * 2 := by omega
      have hp0 : (0 : Int) < (m.length : Int) + 1 := by omega
      have hg : growL l i = if z = (i : Int) - 1 then m ++ [(a, (i : Int))] else m ++ [(a, z)] ++ [((i : Int), (i : Int))] := by rw [hm, growL_snoc]
      by_cases hz : z = (i : Int) - 1
      · simp [rfLoop6, SC.loops, sf_cobleref06_Free, f1, f2, f3, f4, e5, f12, fL, hL, hA, hlt, hltI, hw, hwm, hwl, hwl', hr, fl, hbA, hcz, hz, hb, hcl, hix, hi2, hi3, hp0, ev]
        refine ⟨_, by omega, i + 1, by omega, rfl, by omega, hpre.set hb _, ?_⟩
        rw [hsucc, hpi]
        simp only [if_true]
        rw [hg, if_pos hz]
        refine .inr ⟨by simp, b, hb, by simp, ?_⟩
        rw [List.getElem?_set_self hbl, hcs, hm, spans_append, spans_append]
        have e2 : m.length * 2 + 1 = (spans m).length + 1 := by rw [spans_length]
        rw [e2, List.set_append_right _ _ (by omega), Nat.add_sub_cancel_left]
        simp [spans]
      · have hzb : (z == (i : Int) - 1) = false := by simpa using hz
        simp [rfLoop6, SC.loops, sf_cobleref06_Free, f1, f2, f3, f4, e5, f12, fL, hL, hA, hlt, hltI, hw, hwm, hwl, hwl', hr, fl, hbA, hcz, hzb, hb, hcl, hix, hA2, hbX, hcn, hmx, hmx', hp0, ev]
        refine ⟨_, by omega, i + 1, by omega, rfl, by omega, ((hpre.push _).set hb _).push _, ?_⟩
        rw [hsucc, hpi]
        simp only [if_true]
        rw [hg, if_neg hz]
        refine .inr ⟨by simp, A.length + 1, by omega, by simp, ?_⟩
        rw [List.getElem?_append_right (by simp), hcs, hm, spans_append (m ++ [(a, z)])]
        simp [spans]

/-- In which ticks a cell is free, as the specification says. -/
theorem run_refFree6 (c : Ch) (ls : List Lg) (lv cell : Int) (H : AH) (d t s v : Value) (hc : ChIn H c d t s) (hv : LgIn H v ls) :
    ∃ r A, (∀ lim, apL Tryz.prog pf (.func (.func 33) #[] #[]) [chV c d t s, v, .int .i64 lv, .int .i64 cell] lim H = some (.tuple #[r, .int .i64 (lfreeE c ls lv cell)], A)) ∧ Aft H A ∧ OwnS H.length A r (lfreeS c ls lv cell) := by
  have hK := fun lim => run_Check6 c ls H d t s v hc hv lim
  obtain ⟨va, vc, ev⟩ := hv.sl.one
  have hw := fun lim => run_within6 lv 0 3 lim H
  have hic := fun (hok : ChOk c) lim => run_IsCellOk c hok cell lim H d t s hc
  obtain ⟨⟨da, dc, ed, _⟩, ⟨ta, tc, et, _⟩, ⟨sa, sc, es, _⟩, _⟩ := id hc
  suffices key : ∀ lim, ∃ r A, apL Tryz.prog pf (.func (.func 33) #[] #[]) [chV c d t s, v, .int .i64 lv, .int .i64 cell] lim H = some (.tuple #[r, .int .i64 (lfreeE c ls lv cell)], A) ∧ Aft H A ∧ OwnS H.length A r (lfreeS c ls lv cell) by
    obtain ⟨r, A, h1, h2⟩ := key 0
    refine ⟨r, A, fun lim => ?_, h2⟩
    rw [← h1, apL_func _ _ _ _ _ _ (by rfl), apL_func _ _ _ _ _ _ (by rfl)]
    simp only [pf_pure, show pureF 33 = true from rfl, if_true]
  intro lim
  simp only [legE6_eq, chV, ed, et, es, ev] at hK hic
  rw [apL_func _ _ _ _ _ _ (by rfl), sf_cobleref06_Free_eq]
  have none_of : lfreeE c ls lv cell ≠ 0 → OwnS H.length H (.slice none 0 0) (lfreeS c ls lv cell) := fun h => by
    unfold lfreeS
    rw [if_neg h]
    exact .inl ⟨rfl, rfl⟩
  by_cases h0 : legE c ls = 0
  rotate_left
  · have h0' : (legE c ls != 0) = true := by simpa using h0
    have hE : lfreeE c ls lv cell = legE c ls := by unfold lfreeE; rw [if_neg h0]
    refine ⟨.slice none 0 0, H, ?_, Aft.refl H, none_of (by rw [hE]; exact h0)⟩
    rw [hE]
    simp [sf_cobleref06_Free, chV, ed, et, es, ev, hK, h0', pf_pure, pureF]
  obtain ⟨hok, hl12, hall⟩ := legE_zero.1 h0
  have hic := fun lim => hic hok lim
  rw [h0] at hK
  by_cases h1 : 0 ≤ lv ∧ lv ≤ 3
  rotate_left
  · have hE : lfreeE c ls lv cell = 1 := by unfold lfreeE; rw [if_pos h0, if_neg (fun h => h1 h.1)]
    have hwb : (decide (0 ≤ lv) && decide (lv ≤ 3)) = false := by simpa using h1
    rw [hwb] at hw
    refine ⟨.slice none 0 0, H, ?_, Aft.refl H, none_of (by rw [hE]; decide)⟩
    rw [hE]
    simp [sf_cobleref06_Free, chV, ed, et, es, ev, hK, hw, pf_pure, pureF]
  have hwb : (decide (0 ≤ lv) && decide (lv ≤ 3)) = true := by simpa using h1
  rw [hwb] at hw
  cases h2 : inN c.cells cell with
  | false =>
    have hE : lfreeE c ls lv cell = 1 := by unfold lfreeE; rw [if_pos h0, if_neg (fun h => by rw [h2] at h; cases h.2)]
    rw [h2] at hic
    refine ⟨.slice none 0 0, H, ?_, Aft.refl H, none_of (by rw [hE]; decide)⟩
    rw [hE]
    simp [sf_cobleref06_Free, chV, ed, et, es, ev, hK, hw, hic, pf_pure, pureF]
  | true =>
  have hE : lfreeE c ls lv cell = 0 := by unfold lfreeE; rw [if_pos h0, if_pos ⟨h1, h2⟩]
  have hSx : lfreeS c ls lv cell = spansTo (freeB ls lv cell) c.tide.length := by unfold lfreeS; rw [if_pos hE]; rfl
  rw [h2] at hic
  rw [hE, hSx]
  have hT : c.tide.length ≤ 60 := hok.2.2.2.1.2
  obtain ⟨cn, hcn, ec⟩ := inN_iff.1 h2
  have hal := rf_loop6 c hT ls (lgsIn_of hok hall) (lgsNn_of hall) lv cell (by omega) H v d s ta tc hv
  simp [sf_cobleref06_Free, chV, ed, et, es, ev, hK, hw, hic, pf_pure, pureF]
  generalize hS : ({ t := _, L := _, H := _, lim := _, rd := _ } : St) = S
  obtain ⟨⟨e, s1⟩, hr, q1, q2, q3⟩ := hal S (by subst hS; simp [ev]) (by subst hS; simp) (by subst hS; simp) (by subst hS; simp) (by subst hS; simp) (by subst hS; simp) (by subst hS; simp [ed, et, es]) (by subst hS; rfl) (by subst hS; rfl)
  simp [rfLoop6, SC.loops, sf_cobleref06_Free] at hr
  rw [hr]
  simp only at q1 q2 q3
  subst q1
  rcases id q3 with ⟨e1, e2⟩ | ⟨_, b, hb, e2, _⟩
  · refine ⟨.slice none 0 0, H, ?_, Aft.refl H, .inl ⟨e1, rfl⟩⟩
    simp [e2]
  · refine ⟨tget s1.t 11, s1.H, ?_, q2, q3⟩
    rw [e2]
    simp [e2]
end Go.Proofs.YthobfecblpnnnaaGreatDoor

/- Layer 6: the law LanesClashes. -/
set_option linter.all false
namespace Go.Proofs.YthobfecblpnnnaaGreatDoor
open Go Go.RowKit

theorem run_ClashesM (c : Ch) (ls : List Lg) (H : AH) (d t s v : Value) (hc : ChIn H c d t s) (hv : LgIn H v ls) :
    ∃ r A, (∀ lim, apL Tryz.prog pf (.func (.func 18) #[] #[]) [chV c d t s, v] lim H = some (.tuple #[r, .int .i64 (legE c ls)], A)) ∧ Aft H A ∧ OwnW H.length A r (lclS c ls) := by
  obtain ⟨r, A, h1, h2⟩ := run_Clashes c ls H d t s v hc hv 0
  refine ⟨r, A, fun lim => ?_, h2⟩
  rw [← h1, apL_func _ _ _ _ _ _ (by rfl), apL_func _ _ _ _ _ _ (by rfl)]
  simp only [pf_pure, show pureF 18 = true from rfl, if_true]
theorem run_FreeM (c : Ch) (ls : List Lg) (lv cell : Int) (H : AH) (d t s v : Value) (hc : ChIn H c d t s) (hv : LgIn H v ls) :
    ∃ r A, (∀ lim, apL Tryz.prog pf (.func (.func 23) #[] #[]) [chV c d t s, v, .int .i64 lv, .int .i64 cell] lim H = some (.tuple #[r, .int .i64 (lfreeE c ls lv cell)], A)) ∧ Aft H A ∧ OwnS H.length A r (lfreeS c ls lv cell) := by
  obtain ⟨r, A, h1, h2⟩ := run_Free c ls lv cell H d t s v hc hv 0
  refine ⟨r, A, fun lim => ?_, h2⟩
  rw [← h1, apL_func _ _ _ _ _ _ (by rfl), apL_func _ _ _ _ _ _ (by rfl)]
  simp only [pf_pure, show pureF 23 = true from rfl, if_true]

def lc1Loop : SC := sf_coblelaw06_LanesClashes.body.loops.headD .skip
def lc2Loop : SC := sf_coblelaw06_LanesClashes.body.loops.getD 1 .skip

theorem lc1_loop (xs : List (Nat × Nat × Nat)) (hlen : xs.length ≤ 100000) (H : AH) (a b : Value) (ha : Sl H a xs.length (trips xs)) (hb : Sl H b xs.length (trips xs)) (S : St) (e9 : tget S.t 9 = a) (e11 : tget S.t 11 = b) (e13 : tget S.t 13 = .int .i64 0) (hH : S.H = H) :
    ∃ q, exL Tryz.prog pf (.loop lc1Loop) S = some q ∧ (q.1 = .exit 0 ∧ q.2.H = H ∧ q.2.L = S.L ∧ q.2.lim = S.lim ∧ tget q.2.t 1 = tget S.t 1 ∧ tget q.2.t 3 = tget S.t 3 ∧ tget q.2.t 5 = tget S.t 5 ∧ tget q.2.t 7 = tget S.t 7 ∧ tget q.2.t 8 = tget S.t 8) := by
  obtain ⟨aa, ac, rfl, ad⟩ := ha
  obtain ⟨ba, bc, rfl, bd⟩ := hb
  refine loop_rule (I := fun n s' => ∃ i, i ≤ xs.length ∧ n = xs.length - i ∧ tget s'.t 9 = .slice aa xs.length ac ∧ tget s'.t 11 = .slice ba xs.length bc ∧ tget s'.t 13 = .int .i64 i ∧ s'.H = H ∧ s'.L = S.L ∧ s'.lim = S.lim ∧ tget s'.t 1 = tget S.t 1 ∧ tget s'.t 3 = tget S.t 3 ∧ tget s'.t 5 = tget S.t 5 ∧ tget s'.t 7 = tget S.t 7 ∧ tget s'.t 8 = tget S.t 8) ?_ xs.length S
    ⟨0, by omega, by omega, e9, e11, e13, hH, rfl, rfl, rfl, rfl, rfl, rfl, rfl⟩
  rintro n s' ⟨i, hi, rfl, f9, f11, f13, fH, fL, fl, f1, f3, f5, f7, f8⟩
  by_cases hlt : i < xs.length
  rotate_left
  · have : i = xs.length := by omega
    subst this
    simp [lc1Loop, SC.loops, sf_coblelaw06_LanesClashes, f9, f11, f13, fH, fL, fl, f1, f3, f5, f7, f8]
  have hltI : (i : Int) < (xs.length : Int) := by omega
  have hw : IntKind.i64.wrap ((i : Int) + 1) = (i : Int) + 1 := wrap_i64 (by omega) (by omega)
  obtain ⟨g0, g1, g2⟩ := trips_get hlt
  obtain ⟨b1, o1, rfl, c0⟩ := ad _ _ g0
  obtain ⟨_, _, e, c1⟩ := ad _ _ g1
  cases e
  obtain ⟨_, _, e, c2⟩ := ad _ _ g2
  cases e
  obtain ⟨b2, o2, rfl, d0⟩ := bd _ _ g0
  obtain ⟨_, _, e, d1⟩ := bd _ _ g1
  cases e
  obtain ⟨_, _, e, d2⟩ := bd _ _ g2
  cases e
  rw [← Nat.add_assoc] at c1 c2 d1 d2
  simp only [hcell] at c0 c1 c2 d0 d1 d2
  simp [lc1Loop, SC.loops, sf_coblelaw06_LanesClashes, f9, f11, f13, fH, fL, fl, f1, f3, f5, f7, f8, hlt, hltI, c0, c1, c2, d0, d1, d2, hw]
  exact ⟨_, by omega, i + 1, by omega, rfl, by omega⟩

theorem lc2_loop (xs : List (Int × Int)) (hlen : xs.length ≤ 100000) (H : AH) (a b : Value) (ha : Sl H a xs.length (spans xs)) (hb : Sl H b xs.length (spans xs)) (S : St) (e14 : tget S.t 14 = a) (e16 : tget S.t 16 = b) (e18 : tget S.t 18 = .int .i64 0) (hH : S.H = H) :
    ∃ q, exL Tryz.prog pf (.loop lc2Loop) S = some q ∧ (q.1 = .exit 2 ∧ q.2.H = H) := by
  obtain ⟨aa, ac, rfl, ad⟩ := ha
  obtain ⟨ba, bc, rfl, bd⟩ := hb
  refine loop_rule (I := fun n s' => ∃ i, i ≤ xs.length ∧ n = xs.length - i ∧ tget s'.t 14 = .slice aa xs.length ac ∧ tget s'.t 16 = .slice ba xs.length bc ∧ tget s'.t 18 = .int .i64 i ∧ s'.H = H) ?_ xs.length S
    ⟨0, by omega, by omega, e14, e16, e18, hH⟩
  rintro n s' ⟨i, hi, rfl, f9, f11, f13, fH⟩
  by_cases hlt : i < xs.length
  rotate_left
  · have : i = xs.length := by omega
    subst this
    simp [lc2Loop, SC.loops, sf_coblelaw06_LanesClashes, f9, f11, f13, fH]
  have hltI : (i : Int) < (xs.length : Int) := by omega
  have hw : IntKind.i64.wrap ((i : Int) + 1) = (i : Int) + 1 := wrap_i64 (by omega) (by omega)
  obtain ⟨g0, g1⟩ := spans_get hlt
  obtain ⟨b1, o1, rfl, c0⟩ := ad _ _ g0
  obtain ⟨_, _, e, c1⟩ := ad _ _ g1
  cases e
  obtain ⟨b2, o2, rfl, d0⟩ := bd _ _ g0
  obtain ⟨_, _, e, d1⟩ := bd _ _ g1
  cases e
  rw [← Nat.add_assoc] at c1 d1
  simp only [hcell] at c0 c1 d0 d1
  simp [lc2Loop, SC.loops, sf_coblelaw06_LanesClashes, f9, f11, f13, fH, hlt, hltI, c0, c1, d0, d1, hw]
  exact ⟨_, by omega, i + 1, by omega, rfl, by omega⟩

/-- What a pure function that answers a scalar leaves behind: nothing. -/
theorem pure_sca {f : FuncId} {args : List Value} {lim : Nat} {H A : AH} {v : Value} (hp : pureF f = true) (ho : orcA pf f #[] #[] args = none) (h : apL Tryz.prog pf (.func (.func f) #[] #[]) args lim H = some (v, A)) (hs : sca v = true) : A = H := by
  rw [apL_func _ _ _ _ _ _ ho] at h
  simp only [pf_pure, hp, Bool.true_and, if_true] at h
  split at h
  · cases h
  · split at h
    · cases h
    · split at h
      · split at h
        · simp only [Option.some.injEq, Prod.mk.injEq] at h
          obtain ⟨h1, h2⟩ := h
          rw [h1, hs] at h2
          simpa using h2.symm
        · cases h
      · cases h
    · cases h

theorem run_copied6 (c : Ch) (H : AH) (d t s : Value) (hc : ChIn H c d t s) (hl : c.depth.length ≤ 1000 ∧ c.tide.length ≤ 1000 ∧ c.swell.length ≤ 1000) :
    ∃ d' t' s', (∀ lim, apL Tryz.prog pf (.func (.func 29) #[] #[]) [chV c d t s] lim H = some (chV c d' t' s', H ++ copyB c)) ∧ ChIn (H ++ copyB c) c d' t' s' := by
  obtain ⟨d', t', s', h1, h2⟩ := run_Copy c 0 H d t s hc hl
  have h1 : ∀ lim, apL Tryz.prog pf (.func (.func 61) #[] #[]) [chV c d t s] lim H = some (chV c d' t' s', H ++ copyB c) := fun lim => by
    rw [← h1, apL_func _ _ _ _ _ _ (by rfl), apL_func _ _ _ _ _ _ (by rfl)]
    simp only [pf_pure, show pureF 61 = true from rfl, if_true]
  refine ⟨d', t', s', fun lim => ?_, h2⟩
  rw [apL_func _ _ _ _ _ _ (by rfl), sf_coblelaw06_copied_eq]
  obtain ⟨⟨da, dn, dc, ed⟩, ⟨ta, tn, tc, et⟩, ⟨sa, sn, sc, es⟩⟩ := hc.vals
  obtain ⟨⟨da', dn', dc', ed'⟩, ⟨ta', tn', tc', et'⟩, ⟨sa', sn', sc', es'⟩⟩ := h2.vals
  simp only [chV, ed, et, es, ed', et', es'] at h1 ⊢
  have hsc : sca (.agg #[.int .i64 c.w, .int .i64 c.h, .slice da' dn' dc', .slice ta' tn' tc', .slice sa' sn' sc']) = true → H ++ copyB c = H := fun hh => pure_sca (by rfl) (by rfl) (h1 0) hh
  cases hz : sca (.agg #[.int .i64 c.w, .int .i64 c.h, .slice da' dn' dc', .slice ta' tn' tc', .slice sa' sn' sc']) with
  | true =>
    have hsc := hsc hz
    rw [hsc] at h1 ⊢
    simp [-oneC, oneC_slice, oneC_int, sf_coblelaw06_copied, h1, pf_pure, pureF]
  | false =>
    simp [-oneC, oneC_slice, oneC_int, sf_coblelaw06_copied, h1, pf_pure, pureF]
    intro e1 e2 e3 e4 e5 e6 e7 e8 e9
    rw [e1, e2, e3, e4, e5, e6, e7, e8, e9] at hz
    simp [sca, scaL] at hz

/-- A level and a cell, as a value. -/
def spV6 (lv cell : Int) : Value := .agg #[.int .i64 lv, .int .i64 cell]

set_option maxHeartbeats 8000000 in
theorem clashes_law (c : Ch) (ls : List Lg) (hn : ls.length < 2 ^ 63) (lv cell : Int) (lim : Nat) (H : AH) (hG : H[waysG]? = some (.ro waysV)) (d t s v : Value) (hs : ChSl H c d t s) (hv : LgSl H v ls) :
    ∃ H', apL Tryz.prog pf (.func (.func 10) #[] #[]) [chV c d t s, v, spV6 lv cell] lim H = some (.bool true, H') := by
  refine ⟨H, ?_⟩
  rw [apL_func _ _ _ _ _ _ (by rfl), sf_coblelaw06_LanesClashes_eq]
  have hF := fun lim => run_Far6 c lim H d t s hs
  have hFL := fun lim => run_FarLegs ls hn lim H v hv
  have hW := fun lim => run_works6 lim H hG
  obtain ⟨va, vc, ev⟩ := hv.one
  obtain ⟨⟨da, dc, ed, _⟩, ⟨ta, tc, et, _⟩, ⟨sa, sc, es, _⟩⟩ := id hs
  by_cases a1 : Far6 c
  · simp only [chV, ed, et, es, ev] at hF
    simp [sf_coblelaw06_LanesClashes, chV, spV6, ed, et, es, ev, hF, a1, hW, pf_pure, pureF]
  cases a2 : FarL ls with
  | true =>
    rw [a2] at hFL
    simp only [chV, ed, et, es, ev] at hF hFL
    simp [sf_coblelaw06_LanesClashes, chV, spV6, ed, et, es, ev, hF, a1, hFL, hW, pf_pure, pureF]
  | false =>
  rw [a2] at hFL
  have hc : ChIn H c d t s := Far6.in hs a1
  have hv' : LgIn H v ls := FarL.in hv a2
  have hcl : c.depth.length ≤ 200 ∧ c.tide.length ≤ 80 ∧ c.swell.length ≤ 80 := by
    unfold Far6 at a1
    omega
  have hll : ls.length ≤ 30 ∧ ∀ l ∈ ls, l.cs.length ≤ 80 := by
    simp only [FarL, Bool.or_eq_false_iff, List.any_eq_false, decide_eq_true_eq, decide_eq_false_iff_not] at a2
    refine ⟨by omega, fun l hl => ?_⟩
    have := a2.1.1 l hl
    omega
  obtain ⟨d', t', s', k0, c0⟩ := run_copied6 c H d t s hc (by omega)
  obtain ⟨H0, hH0⟩ : ∃ H0, H0 = H ++ copyB c := ⟨_, rfl⟩
  rw [← hH0] at k0 c0
  have E0 : Ext H H0 := by rw [hH0]; exact Ext.push _ _
  obtain ⟨m, A, k1, q1, w1⟩ := run_Copy6 ls (by omega) (fun l hl => by have := hll.2 l hl; omega) H0 v (hv'.ext E0)
  have EA := E0.trans q1.ext
  have hm : LgIn A m ls := ⟨w1.sl, fun l hl => by have := hll.2 l hl; omega, by omega⟩
  have cA : ChIn A c d' t' s' := c0.ext q1.ext
  have kC := fun lim => run_lCheck c ls A d' t' s' m cA hm lim
  have kR := fun lim => run_Check6 c ls A d t s v (hc.ext EA) (hv'.ext EA) lim
  obtain ⟨ra, A1, k2, q2, w2⟩ := run_ClashesM c ls A d' t' s' m cA hm
  obtain ⟨rb, A2, k3, q3, w3⟩ := run_refClashes6 c ls A1 d t s v (hc.ext (EA.trans q2.ext)) (hv'.ext (EA.trans q2.ext))
  have E2 := (EA.trans q2.ext).trans q3.ext
  obtain ⟨rs, A3, k4, q4, w4⟩ := run_FreeM c ls lv cell A2 d' t' s' m (cA.ext (q2.trans q3).ext) (hm.ext (q2.trans q3).ext)
  obtain ⟨rt, A4, k5, q5, w5⟩ := run_refFree6 c ls lv cell A3 d t s v (hc.ext (E2.trans q4.ext)) (hv'.ext (E2.trans q4.ext))
  have hW4 := fun lim => run_works6 lim A4 ((((E2.trans q4.ext).trans q5.ext)) _ _ hG)
  have xl : (lclS c ls).length ≤ 100000 := by
    unfold lclS
    split
    · have h1 := clI_len c.tide.length ls ls.length
      have h2 : ls.length * ls.length ≤ 30 * 30 := Nat.mul_le_mul hll.1 hll.1
      show (clI c.tide.length ls ls.length).length ≤ 100000
      omega
    · simp
  have yl : (lfreeS c ls lv cell).length ≤ 100000 := by
    unfold lfreeS
    split
    · have h1 := spansTo_length (freeB ls lv cell) c.ticks
      have h2 : c.ticks = c.tide.length := rfl
      omega
    · simp
  obtain ⟨xs, hxs⟩ : ∃ xs, lclS c ls = xs := ⟨_, rfl⟩
  obtain ⟨ys, hys⟩ : ∃ ys, lfreeS c ls lv cell = ys := ⟨_, rfl⟩
  obtain ⟨e1, he1⟩ : ∃ e1, legE c ls = e1 := ⟨_, rfl⟩
  obtain ⟨e2, he2⟩ : ∃ e2, lfreeE c ls lv cell = e2 := ⟨_, rfl⟩
  rw [hxs] at w2 w3 xl
  rw [hys] at w4 w5 yl
  simp only [legE6_eq] at kR
  rw [he1] at kC kR k2 k3
  rw [he2] at k4 k5
  have s2 := w2.sl.ext q3.ext
  have s3 := w3.sl
  have s4 := w4.sl.ext q5.ext
  have s5 := w5.sl
  obtain ⟨aa, ac, ea⟩ := w2.one
  obtain ⟨ba, bc, eb⟩ := w3.one
  obtain ⟨ca, cc, ecc⟩ := w4.one
  obtain ⟨fa, fc, ef⟩ := w5.one
  obtain ⟨ma, mk, em⟩ := w1.sl.one
  obtain ⟨⟨da', dn', dc', ed'⟩, ⟨ta', tn', tc', et'⟩, ⟨sa', sn', sc', es'⟩⟩ := c0.vals
  rw [ea] at k2 s2
  rw [eb] at k3 s3
  rw [ecc] at k4 s4
  rw [ef] at k5 s5
  rw [em] at k1 kC k2 k4
  simp only [chV, ed, et, es, ev, ed', et', es'] at hF hFL k0 k1 kC kR k2 k3 k4 k5
  simp [-oneC, -Array.all_eq_false, -Array.all_toList, -List.all_eq_true, oneC_slice, oneC_int, oneC_boolW, sf_coblelaw06_LanesClashes, chV, spV6, ed, et, es, ev, hF, a1, hFL, k0, k1, kC, kR, k2, k3, pf_pure, pureF]
  generalize hS : ({ t := _, L := _, H := _, lim := _, rd := _ } : St) = S
  obtain ⟨⟨e, s1⟩, hr, g0, gH, gL, gl, g1, g3, g5, g7, g8⟩ := lc1_loop xs xl A2 _ _ s2 s3 S (by subst hS; simp) (by subst hS; simp) (by subst hS; simp) (by subst hS; rfl)
  simp [lc1Loop, SC.loops, sf_coblelaw06_LanesClashes] at hr
  rw [hr]
  simp only at g0 gH gL gl g1 g3 g5 g7 g8
  subst g0
  have z1 : tget S.t 1 = .slice va ls.length vc := by subst hS; simp [ev]
  have z3 : tget S.t 3 = .pointer (some ⟨3, 0, some 0⟩) := by subst hS; simp
  have z5 : tget S.t 5 = .pointer (some ⟨5, 0, some 0⟩) := by subst hS; simp
  have z7 : tget S.t 7 = .pointer (some ⟨7, 0, some 0⟩) := by subst hS; simp
  have z8 : tget S.t 8 = .slice ma ls.length mk := by subst hS; simp
  have zL3 : lget S.L 3 = some (0, .cells [.int .i64 c.w, .int .i64 c.h, .slice da c.depth.length dc, .slice ta c.tide.length tc, .slice sa c.swell.length sc]) := by subst hS; simp
  have zL5 : lget S.L 5 = some (0, .cells [.int .i64 lv, .int .i64 cell]) := by subst hS; simp
  have zL7 : lget S.L 7 = some (0, .cells [.int .i64 c.w, .int .i64 c.h, .slice da' dn' dc', .slice ta' tn' tc', .slice sa' sn' sc']) := by subst hS; simp
  rw [z1] at g1
  rw [z3] at g3
  rw [z5] at g5
  rw [z7] at g7
  rw [z8] at g8
  rw [← gL] at zL3 zL5 zL7
  simp [-oneC, -Array.all_eq_false, -Array.all_toList, -List.all_eq_true, oneC_slice, oneC_int, oneC_boolW, gH, g1, g3, g5, g7, g8, zL3, zL5, zL7, k4, k5]
  generalize hS2 : ({ t := _, L := _, H := _, lim := _, rd := _ } : St) = S2
  obtain ⟨⟨e', s6⟩, hr2, y1, y2⟩ := lc2_loop ys yl A4 _ _ s4 s5 S2 (by subst hS2; simp) (by subst hS2; simp) (by subst hS2; simp) (by subst hS2; rfl)
  simp [lc2Loop, SC.loops, sf_coblelaw06_LanesClashes] at hr2
  rw [hr2]
  simp only at y1 y2
  subst y1
  simp [y2, hW4]
end Go.Proofs.YthobfecblpnnnaaGreatDoor

/- The law LanesClashes at what was read. -/
set_option linter.all false
namespace Go.Proofs.YthobfecblpnnnaaGreatDoor
open Go Go.RowKit
attribute [local irreducible] tyD

variable {H : Type}

theorem dSpotC {n : Nat} {d : DataW H} (h : tyD Tryz.prog (n + 2) 54 d) : ∃ a b, ∀ k, absD d k = ([.int .i64 a, .int .i64 b], []) := by
  unfold tyD at h
  simp only [Tryz.underlying54] at h
  obtain ⟨parts, rfl, hp⟩ := h
  match parts, hp with
  | [x, y], hp =>
    obtain ⟨a, _, ha⟩ := dInt (n := n) hp.1
    obtain ⟨b, _, hb⟩ := dInt (n := n) hp.2.1
    exact ⟨a, b, fun k => by simp [absD, absDs, ha, hb]⟩
  | [], hp => exact hp.elim
  | [_], hp => exact hp.2.elim
  | _ :: _ :: _ :: _, hp => exact hp.2.2.elim

theorem aggPC : isAggT Tryz.prog 54 = true := by kernel_rfl

theorem lanesClashes_true (ds : List (DataW H)) (h : All2 (tyD Tryz.prog 5) [25, 26, 54] ds) : ∃ H', apL Tryz.prog pf (.func (.func 10) #[] #[]) (absVs Tryz.prog [25, 26, 54] ds Tryz.prog.globals.size).1 0 (globH Tryz.prog tabs ++ (absVs Tryz.prog [25, 26, 54] ds Tryz.prog.globals.size).2) = some (.bool true, H') := by
  match ds, h with
  | [x, y, z], h =>
    obtain ⟨c, _, hc⟩ := dChart (n := 1) h.1
    obtain ⟨ls, hll, hl⟩ := dLegsS (n := 1) h.2.1
    obtain ⟨a, b, hz⟩ := dSpotC (n := 3) h.2.2.1
    obtain ⟨dd, tt, ss, e, hS⟩ := hc (globH Tryz.prog tabs)
    obtain ⟨lv, el, hL⟩ := hl (globH Tryz.prog tabs ++ (absD x (globH Tryz.prog tabs).length).2)
    have hgl : (globH Tryz.prog tabs).length = Tryz.prog.globals.size := by simp [globH]
    rw [List.length_append] at el hL
    rw [hgl] at e hS el hL
    have hG := hG_ext (absD x Tryz.prog.globals.size).2 globGT
    obtain ⟨n2, hn2⟩ : ∃ n2, n2 = Tryz.prog.globals.size + (absD x Tryz.prog.globals.size).2.length := ⟨_, rfl⟩
    rw [← hn2] at el hL
    have ev : (absVs Tryz.prog [25, 26, 54] [x, y, z] Tryz.prog.globals.size) = ([chV c dd tt ss, lv, spV6 a b], (absD x Tryz.prog.globals.size).2 ++ (absD y n2).2) := by
      simp only [absVs, hz, e, List.append_nil, ← hn2, el]
      simp only [absV, aggCT, aggPC, aggLT, if_true]
      rfl
    rw [ev]
    simp only [← List.append_assoc]
    have E : Ext (globH Tryz.prog tabs ++ (absD x Tryz.prog.globals.size).2) (globH Tryz.prog tabs ++ (absD x Tryz.prog.globals.size).2 ++ (absD y n2).2) := Ext.push _ _
    have hml : maxLen < 2 ^ 63 := by decide
    exact clashes_law c ls (by omega) a b 0 _ (hG_ext _ hG) dd tt ss lv ⟨hS.d.ext E, hS.t.ext E, hS.s.ext E⟩ hL
  | [], h => exact h.elim
  | [_], h => exact h.2.elim
  | [_, _], h => exact h.2.2.elim
  | _ :: _ :: _ :: _ :: _, h => exact h.2.2.2.elim
end Go.Proofs.YthobfecblpnnnaaGreatDoor

/- The statement of LanesClashes: its row and its card. For every readable input the law's function returns true, and leaves its arguments as they were. -/
set_option linter.all false
namespace Go.Proofs.YthobfecblpnnnaaGreatDoor.LawLanesClashes
open Go Go.RowKit Go.ChangeShapes Go.WideShapes Go.ChangeAt Go.Proofs.YthobfecblpnnnaaGreatDoor

theorem args {α : Type} {r : TypeId → α → Prop} {ds : List α} (h : All2 r [25, 26, 54] ds) : ∃ d1 d2 d3, ds = [d1, d2, d3] := by
  match ds, h with
  | [d1, d2, d3], _ => exact ⟨d1, d2, d3, rfl⟩
  | [], h => exact h.elim
  | [_], h => exact h.2.elim
  | [_, _], h => exact h.2.2.elim
  | _ :: _ :: _ :: _ :: _, h => exact h.2.2.2.elim

set_option maxRecDepth 100000 in
theorem contract (H : Type) (enc : TypeId × Value → H) (W : World) (base : Nat) (args : Array Value) (ds gs : List (DataW H)) (before : List MemPlace)
    (hval : ∀ (j : Nat) t v, Tryz.f10.params[j]? = some t → args[j]? = some v → Value.okWide Tryz.prog W .any base t v)
    (hW : DataW.Whole enc Tryz.prog Tryz.f10.params.toList Rows.lanesClashesSpec.vars false W args.toList ds gs before) (hL : laidMetH Tryz.prog Rows.lanesClashesRow.laid W) (hS : W.ShapedOpen Tryz.prog) :
    Calls Tryz.prog 10 args W fun e W' => ∃ v, e = .returned v ∧ Rows.lanesClashesSpec.post enc Tryz.prog Tryz.f10 false true false false W args v W' := by
  have hp : Tryz.f10.params.toList = [25, 26, 54] := by rw [Tryz.params10]
  have hsup : ∀ t ∈ Tryz.f10.params.toList, supT Tryz.prog 5 t = true := by
    rw [hp]
    intro t ht
    have := (show ([25, 26, 54] : List TypeId).all (supT Tryz.prog 5) = true by kernel_rfl)
    exact List.all_eq_true.1 this t ht
  have hA : DataW.TrodAll enc Tryz.prog W 0 (fun _ => true) true Tryz.f10.params.toList args.toList ds before := by
    obtain ⟨p, q, h1, h2, rfl, _⟩ := hW
    obtain ⟨rfl, rfl⟩ := trodVars_none h2
    simpa using h1
  have hty := args_ty _ _ _ _ hsup hA
  rw [hp] at hty
  obtain ⟨H', ht⟩ := lanesClashes_true ds hty
  obtain ⟨d1, d2, d3, rfl⟩ := LawLanesClashes.args hty
  rw [← hp] at ht
  obtain ⟨c, hbody⟩ := Option.isSome_iff_exists.1 (show Tryz.f10.body.isSome = true by kernel_rfl)
  refine (law_calls foll pf pf_sound Tryz.func10 hbody (by kernel_rfl) hsup hval hA (globals_there hS) (tabs_there hL) ht).mono ?_
  rintro e W' ⟨rfl, o', hk⟩
  exact ⟨_, rfl, post_true hW rfl ⟨rfl, rfl, rfl⟩ (tb := 4) (by kernel_rfl) Tryz.underlying4 kids (slices_full_of _ full) (by
    rw [hp]
    intro t ht
    have := (show ([25, 26, 54] : List TypeId).all (fun t => decide (t < Tryz.prog.types.size)) = true by kernel_rfl)
    exact of_decide_eq_true (List.all_eq_true.1 this t ht)) hk (fun _ => rfl)⟩

/-- A world for the witness: the table is laid. -/
noncomputable def laidWorld (os : Os) : World :=
  { World.holding Tryz.prog os ⟨#[], #[], []⟩ with heap := (World.holding Tryz.prog os ⟨#[], #[], []⟩).heap.modify waysG fun
      | .cells _ t frozen => .cells waysV.toArray t frozen
      | o => o }
def wit : Array Value := #[.agg #[.int .i64 0, .int .i64 0, .slice none 0 0, .slice none 0 0, .slice none 0 0], .slice none 0 0, .agg #[.int .i64 0, .int .i64 0]]
theorem laid_met (os : Os) : laidMet Tryz.prog Rows.lanesClashesRow.laid ((laidWorld os).forCall (fun _ _ => 0) ⟨#[], wit, []⟩).memory :=
  laidMet_of_run' 8 (by kernel_rfl) (by kernel_rfl)
theorem reads (os : Os) {H : Type} (enc : TypeId × Value → H) : ∃ places, DataW.whole enc Tryz.prog ((laidWorld os).forCall (fun _ _ => 0) ⟨#[], wit, []⟩).memory Tryz.f10.params.toList Rows.lanesClashesSpec.vars false wit.toList 8 =
    some ([.agg [.lit (.int .i64 0), .lit (.int .i64 0), .nil, .nil, .nil], .nil, .agg [.lit (.int .i64 0), .lit (.int .i64 0)]], [], places) :=
  ⟨[], by kernel_rfl⟩

set_option maxRecDepth 100000 in
theorem lifted (os : Os) (started : os.Started) (H : Type) (enc : TypeId × Value → H) (F : Stop.Interp) :
    ReturnsInHanded {} Tryz.checked os 10 .any ((OpenSpec.ofChange Rows.lanesClashesSpec).preRow enc Tryz.prog Tryz.f10 Rows.lanesClashesRow.domain false Rows.lanesClashesRow.laid) (((OpenSpec.ofChange Rows.lanesClashesSpec).at F).post enc Tryz.prog Tryz.f10 false true false false) := by
  obtain ⟨places, hx⟩ := reads os enc
  refine returnsInHanded_of_row (C := Tryz.checked) (s := OpenSpec.ofChange Rows.lanesClashesSpec) own started (by kernel_rfl) Tryz.func10
    (witness_row_at (enc := enc) (C := Tryz.checked) false (laidWorld os) wit rfl (by kernel_rfl) (by kernel_rfl) (by kernel_rfl)
      (OpenSpec.preRow_of_cond 8 hx (by kernel_rfl) (fun k hk => by cases hk) (by kernel_rfl) (laid_met os))) ?_
  intro W base args ds gs before hval hW _ _ _ hL hS _
  exact contract H enc W base args ds gs before hval hW hL hS

theorem said : Rows.LanesClashesSaid :=
  OpenClaim.holds_of_cond 10 Tryz.f10 rfl rfl rfl rfl rfl rfl rfl ⟨rfl, rfl, rfl, rfl, rfl⟩ rfl rfl rfl rfl rfl (by kernel_rfl) Tryz.func10 (by kernel_rfl)
    (of_decide_eq_true (by kernel_rfl)) (by unfold Func.isWrapper; first | (rw [if_pos (by decide +kernel)]; kernel_rfl) | (rw [if_neg (by decide +kernel)]; exact ⟨rfl, rfl⟩))
    (fun os started H enc _ F => by rw [OpenClaim.pre_eq_preRow]; exact lifted os started H enc F)

theorem plain (f : FuncId) (fn : Func) (hf : Tryz.pinned.checked.prog.funcNamed "coble/coblelaw06.LanesClashes" = some f) (hfn : Tryz.pinned.checked.prog.funcs[f]? = some fn) :
    false = Tryz.pinned.checked.prog.looks [] ∧ ∀ (j : Nat) t, fn.params[j]? = some t → Tryz.pinned.checked.prog.wantsStandIn t = false := by
  obtain rfl : f = 10 := Option.some.inj ((show Tryz.prog.funcNamed "coble/coblelaw06.LanesClashes" = some 10 by kernel_rfl).symm.trans hf) |>.symm
  obtain rfl : fn = Tryz.f10 := (Option.some.inj (Tryz.func10.symm.trans hfn)).symm
  refine ⟨by kernel_rfl, fun j t ht => ?_⟩
  rw [Tryz.params10] at ht
  have hm : t ∈ ([25, 26, 54] : List TypeId) := by simpa using Array.mem_of_getElem? ht
  have := (show ([25, 26, 54] : List TypeId).all (fun t => Tryz.prog.wantsStandIn t == false) = true by kernel_rfl)
  have e : Tryz.prog.wantsStandIn t = false := by simpa using List.all_eq_true.1 this t hm
  exact e

/-- The card. -/
theorem card : Rows.LanesClashesCardSaid :=
  Claim7.holds_tied_plain_at .later [] _ _ _ _ said (fun _ h => by cases h) (by kernel_rfl) (fun _ h => by cases h) lanesClashes_row_tie rfl ⟨rfl, rfl⟩ (by kernel_rfl) rfl plain (by kernel_rfl)
end Go.Proofs.YthobfecblpnnnaaGreatDoor.LawLanesClashes
