import Derived.Test.YthobfecblpnnnaaGreatDoorLanS
import Derived.Test.YthobfecblpnnnaaGreatDoorFunY

/- Contracts of layer 6, the program: short lists are sorted; the cells around a cell. -/
set_option linter.all false
namespace Go.Proofs.YthobfecblpnnnaaGreatDoor
open Go Go.RowKit

def len8 (n : Nat) : Int := if n = 0 then 0 else if n < 2 then 1 else if n < 4 then 2 else if n < 8 then 3 else 4

set_option maxRecDepth 20000 in
theorem run_Len64 (n : Nat) (hn : n ≤ 12) (lim : Nat) (H : AH) : apL Tryz.prog pf (.func (.func 140) #[] #[]) [.int .u64 n] lim H = some (.int .i64 (len8 n), H) := by
  rw [apL_func _ _ _ _ _ _ (by rfl), sf_math_bits_Len64_eq]
  have w : ∀ k : Nat, k ≤ 12 → IntKind.u8.wrap (k : Int) = k := by decide
  obtain rfl | rfl | rfl | rfl | rfl | rfl | rfl | rfl | rfl | rfl | rfl | rfl | rfl : n = 0 ∨ n = 1 ∨ n = 2 ∨ n = 3 ∨ n = 4 ∨ n = 5 ∨ n = 6 ∨ n = 7 ∨ n = 8 ∨ n = 9 ∨ n = 10 ∨ n = 11 ∨ n = 12 := by omega
  all_goals
    have h1 := w _ hn
    simp at h1
    simp [sf_math_bits_Len64, h1, len8, pf_pure, pureF] <;> decide

theorem run_Len (n : Nat) (hn : n ≤ 12) (lim : Nat) (H : AH) : apL Tryz.prog pf (.func (.func 122) #[] #[]) [.int .u64 n] lim H = some (.int .i64 (len8 n), H) := by
  have h := fun lim => run_Len64 n hn lim H
  rw [apL_func _ _ _ _ _ _ (by rfl), sf_math_bits_Len_eq]
  simp [sf_math_bits_Len, h, pf_pure, pureF]

def pdLoop : SC := sf_slices_pdqsortOrdered_int.body.loops.headD .skip

theorem run_pdq (A : AH) (b k : Nat) (l : List Int) (hn : l.length ≤ 12) (hb : A[b]? = some (.rw 1 (ints l))) (x : Int) (lim : Nat) (hlim : lim ≤ b) :
    ∃ m : List Int, apL Tryz.prog pf (.func (.func 121) #[] #[]) [.slice (some ⟨b, 0, none⟩) l.length k, .int .i64 0, .int .i64 l.length, .int .i64 x] lim A = some (.tuple #[], A.set b (.rw 1 (ints m))) ∧ m.Perm l ∧ m.length = l.length ∧ m.Pairwise (· ≤ ·) := by
  obtain ⟨m, hr, h2, h3, h4⟩ := run_insSort A b k l (by omega) hb lim hlim
  refine ⟨m, ?_, h2, h3, h4⟩
  rw [apL_func _ _ _ _ _ _ (by rfl), sf_slices_pdqsortOrdered_int_eq]
  have hw1 : IntKind.i64.wrap (l.length : Int) = (l.length : Int) := wrap_i64 (by omega) (by omega)
  have hle : (l.length : Int) ≤ 12 := by omega
  obtain ⟨pl, hpl⟩ : ∃ pl, pl = pdLoop := ⟨_, rfl⟩
  have eb : sf_slices_pdqsortOrdered_int.body = .seq (.ops [⟨some 8, none, .mv (.const (.bool true))⟩]) (.seq (.ops [⟨some 9, none, .mv (.const (.bool true))⟩]) (.block 0 (.loop pl))) := by rw [hpl]; rfl
  have ea : sf_slices_pdqsortOrdered_int.res = [] := rfl
  simp [eb, ea, pf_pure, pureF]
  generalize hS : ({ t := _, L := _, H := _, lim := _, rd := _ } : St) = S
  have key : ∃ q, exL Tryz.prog pf (.loop pdLoop) S = some q ∧ q.1 = .ret ∧ q.2.H = A.set b (.rw 1 (ints m)) := by
    refine loop_rule (I := fun n s' => n = 0 ∧ s' = S) ?_ 0 S ⟨rfl, rfl⟩
    rintro n s' ⟨rfl, rfl⟩
    subst hS
    simp [pdLoop, SC.loops, sf_slices_pdqsortOrdered_int, hw1, hle, hr]
  obtain ⟨⟨e, s1⟩, hr1, q1, q2⟩ := key
  rw [hpl, hr1]
  simp only at q1 q2
  subst q1
  simp [q2]

theorem run_Sort (A : AH) (b k : Nat) (l : List Int) (hn : l.length ≤ 12) (hb : A[b]? = some (.rw 1 (ints l))) (lim : Nat) (hlim : lim ≤ b) :
    ∃ m : List Int, apL Tryz.prog pf (.func (.func 100) #[] #[]) [.slice (some ⟨b, 0, none⟩) l.length k] lim A = some (.tuple #[], A.set b (.rw 1 (ints m))) ∧ m.Perm l ∧ m.length = l.length ∧ m.Pairwise (· ≤ ·) := by
  have hx := fun lim => run_Len l.length hn lim A
  obtain ⟨m, hr, h2, h3, h4⟩ := run_pdq A b k l hn hb (len8 l.length) lim hlim
  refine ⟨m, ?_, h2, h3, h4⟩
  rw [apL_func _ _ _ _ _ _ (by rfl), sf_slices_Sort_int_int_eq]
  have hw : IntKind.u64.wrap (l.length : Int) = (l.length : Int) := by
    have : IntKind.u64.wrap (l.length : Int) = (l.length : Int) % 18446744073709551616 := by
      unfold IntKind.wrap
      simp [IntKind.signed, IntKind.bits]
    rw [this]
    exact Int.emod_eq_of_lt (by omega) (by omega)
  simp [sf_slices_Sort_int_int, hw, hx, hr, pf_pure, pureF]

/-! The cells around a cell. -/

/-- A cell and its neighbours in the first k directions. -/
def nbrs (w h : Int) (i : Nat) : Nat → List Int
  | 0 => [(i : Int)]
  | k + 1 => nbrs w h i k ++ (match nxt w h i k with | some n => [n] | none => [])

theorem nbrs_len (w h : Int) (i : Nat) : ∀ k, (nbrs w h i k).length ≤ k + 1 ∧ 0 < (nbrs w h i k).length
  | 0 => by simp [nbrs]
  | k + 1 => by
    have := nbrs_len w h i k
    simp only [nbrs, List.length_append]
    split <;> simp <;> omega

theorem nbrs_mem (w h : Int) (i : Nat) (x : Int) : ∀ k, x ∈ nbrs w h i k ↔ x = i ∨ ∃ j, j < k ∧ nxt w h i j = some x
  | 0 => by simp [nbrs]
  | k + 1 => by
    have ih := nbrs_mem w h i x k
    simp only [nbrs, List.mem_append, ih]
    constructor
    · rintro ((h1 | ⟨j, hj, e⟩) | h2)
      · exact .inl h1
      · exact .inr ⟨j, by omega, e⟩
      · cases hx : nxt w h i k with
        | none => rw [hx] at h2; simp at h2
        | some n =>
          rw [hx] at h2
          simp at h2
          exact .inr ⟨k, by omega, by rw [hx, h2]⟩
    · rintro (h1 | ⟨j, hj, e⟩)
      · exact .inl (.inl h1)
      · by_cases hjk : j = k
        · subst hjk
          right
          rw [e]
          simp
        · exact .inl (.inr ⟨j, by omega, e⟩)

theorem way_inj : ∀ k : Nat, k < 6 → ∀ j : Nat, j < 6 → wayN k = wayN j → ((wayE k = wayE j → k = j) ∧ (wayO k = wayO j → k = j)) := by decide

theorem nxt_inj {w h i n : Int} (hw : 1 ≤ w) (hh : 1 ≤ h) {k j : Nat} (hk : k < 6) (hj : j < 6) (e1 : nxt w h i k = some n) (e2 : nxt w h i j = some n) : k = j := by
  obtain ⟨_, _, a3, a4, _⟩ := nxt_some hw hh e1
  obtain ⟨_, _, b3, b4, _⟩ := nxt_some hw hh e2
  rw [a3] at b3
  rw [a4] at b4
  have h1 : wayN k = wayN j := by unfold nxR at b3; omega
  obtain ⟨h2, h3⟩ := way_inj k hk j hj h1
  unfold nxC at b4
  split at b4
  · exact h2 (by omega)
  · exact h3 (by omega)

theorem nbrs_nodup {w h : Int} (hw : 1 ≤ w) (hh : 1 ≤ h) (i : Nat) : ∀ k, k ≤ 6 → (nbrs w h i k).Nodup
  | 0, _ => by simp [nbrs]
  | k + 1, hk => by
    have ih := nbrs_nodup hw hh i k (by omega)
    simp only [nbrs]
    cases hx : nxt w h i k with
    | none => simpa using ih
    | some n =>
      rw [List.nodup_append]
      refine ⟨ih, by simp, fun x hx1 y hy => ?_⟩
      simp at hy
      subst hy
      rintro rfl
      rcases (nbrs_mem w h i x k).1 hx1 with rfl | ⟨j, hj, e⟩
      · exact nxt_ne hw hh (by omega) hx
      · have := nxt_inj hw hh (by omega) (by omega) e hx
        omega

theorem nearM_sorted (c : Ch) (i : Nat) : ((nearM c i).map Int.ofNat).Pairwise (· < ·) := by
  unfold nearM
  rw [List.pairwise_map]
  refine List.Pairwise.filter _ ?_
  refine List.Pairwise.imp ?_ (List.pairwise_lt_range)
  intro a b h
  show (a : Int) < b
  omega

theorem near_mem {c : Ch} (hok : ChOk c) {i : Nat} (hi : i < c.cells) (x : Int) : x ∈ (nearM c i).map Int.ofNat ↔ x ∈ nbrs c.w c.h i 6 := by
  have hw := hok.1.1
  have hh := hok.2.1.1
  have hN := hok.mul.2.2
  rw [nbrs_mem, List.mem_map]
  unfold nearM
  constructor
  · rintro ⟨j, hj, rfl⟩
    rw [List.mem_filter, List.mem_range, decide_eq_true_eq] at hj
    have h0 := apt_nonneg c.w i j
    by_cases h1 : apt c.w i j = 0
    · left
      have := (apt_zero hw (by omega) (by rw [hN]; omega) (by omega) (by rw [hN]; omega)).1 h1
      exact this.symm
    · right
      have h2 : apt c.w i j = 1 := by omega
      have := (apt_one hw hh (by omega) (by rw [hN]; omega) (by omega) (by rw [hN]; omega)).1 h2
      unfold nearB at this
      rw [List.any_eq_true] at this
      obtain ⟨k, hk, e⟩ := this
      exact ⟨k, List.mem_range.1 hk, by simpa using e⟩
  · rintro (rfl | ⟨k, hk, e⟩)
    · refine ⟨i, ?_, rfl⟩
      rw [List.mem_filter, List.mem_range, decide_eq_true_eq]
      refine ⟨hi, ?_⟩
      rw [(apt_zero hw (by omega) (by rw [hN]; omega) (by omega) (by rw [hN]; omega)).2 rfl]
      omega
    · obtain ⟨a1, a2, _⟩ := nxt_some hw hh e
      rw [hN] at a2
      refine ⟨x.toNat, ?_, by show ((x.toNat : Nat) : Int) = x; omega⟩
      rw [List.mem_filter, List.mem_range, decide_eq_true_eq]
      refine ⟨by omega, ?_⟩
      have ex : ((x.toNat : Nat) : Int) = x := by omega
      rw [ex, (apt_one hw hh (by omega) (by rw [hN]; omega) (by omega) (by rw [hN]; omega)).2 (by
        unfold nearB
        rw [List.any_eq_true]
        exact ⟨k, List.mem_range.2 hk, by simpa using e⟩)]
      omega

theorem near_eq {c : Ch} (hok : ChOk c) {i : Nat} (hi : i < c.cells) {m : List Int} (hp : m.Perm (nbrs c.w c.h i 6)) (hs : m.Pairwise (· ≤ ·)) : m = (nearM c i).map Int.ofNat := by
  have hn : ((nearM c i).map Int.ofNat).Nodup := (nearM_sorted c i).imp (fun h => by omega)
  have hp2 : m.Perm ((nearM c i).map Int.ofNat) := by
    refine hp.trans ?_
    rw [List.perm_ext_iff_of_nodup (nbrs_nodup hok.1.1 hok.2.1.1 i 6 (Nat.le_refl _)) hn]
    exact fun x => (near_mem hok hi x).symm
  refine hp2.eq_of_pairwise (le := fun a b => a ≤ b) (fun a b _ _ h1 h2 => by omega) hs ((nearM_sorted c i).imp (fun h => by omega))
end Go.Proofs.YthobfecblpnnnaaGreatDoor

/- Contracts of layer 6, the program: around, start. -/
set_option linter.all false
namespace Go.Proofs.YthobfecblpnnnaaGreatDoor
open Go Go.RowKit

def arLoop : SC := sf_lanes_traffic_around.body.loops.headD .skip

set_option maxHeartbeats 1000000 in
theorem ar_loop (c : Ch) (hok : ChOk c) (H : AH) (hG : H[waysG]? = some (.ro waysV)) (d t s : Value) (hc : ChIn H c d t s) (v : Value) {i : Nat} (hi : i < c.cells) (S : St)
    (e1 : tget S.t 1 = .int .i64 i) (e2 : tget S.t 2 = .pointer (some ⟨2, 0, some 0⟩)) (e11 : tget S.t 11 = .int .i64 0) (hO : OwnI H.length S.H (tget S.t 5) [(i : Int)]) (hL : lget S.L 2 = some (0, .cells [.int .i64 c.w, .int .i64 c.h, d, t, s, v])) (hA : Aft H S.H) (hlim : S.lim = H.length) :
    ∃ q, exL Tryz.prog pf (.loop arLoop) S = some q ∧ q.1 = .exit 0 ∧ q.2.lim = S.lim ∧ Aft H q.2.H ∧ OwnI H.length q.2.H (tget q.2.t 5) (nbrs c.w c.h i 6) := by
  refine loop_rule (I := fun n s' => ∃ k, k ≤ 6 ∧ n = 6 - k ∧ tget s'.t 1 = .int .i64 i ∧ tget s'.t 2 = .pointer (some ⟨2, 0, some 0⟩) ∧ tget s'.t 11 = .int .i64 k ∧ lget s'.L 2 = some (0, .cells [.int .i64 c.w, .int .i64 c.h, d, t, s, v]) ∧ s'.lim = H.length ∧ Aft H s'.H ∧ OwnI H.length s'.H (tget s'.t 5) (nbrs c.w c.h i k)) ?_ 6 S
    ⟨0, by omega, by omega, e1, e2, e11, hL, hlim, hA, hO⟩
  rintro n s' ⟨k, hk, rfl, f1, f2, f11, fL, fl, fA, fO⟩
  obtain ⟨A, hAA⟩ : ∃ A, s'.H = A := ⟨_, rfl⟩
  rw [hAA] at fA fO
  by_cases hlt : k < 6
  rotate_left
  · have : k = 6 := by omega
    subst this
    simp [arLoop, SC.loops, sf_lanes_traffic_around, f1, f2, f11, fL, fl, hAA, hlim]
    exact ⟨fA, fO⟩
  have hltI : (k : Int) < 6 := by omega
  have hw : IntKind.i64.wrap ((k : Int) + 1) = ((k + 1 : Nat) : Int) := by rw [wrap_i64 (by omega) (by omega)]; omega
  have hN := fun lim => run_Next c lim A (fA.ext _ _ hG) d t s (hc.ext fA.ext) i k
  obtain ⟨n1, n2⟩ := nextE_ok hok hi hlt
  rw [n1, n2] at hN
  obtain ⟨⟨da, dc, ed, _⟩, ⟨ta, tc, et, _⟩, ⟨sa, sc, es, _⟩, _, _, _⟩ := id hc
  simp only [chV, ed, et, es] at hN
  rw [ed, et, es] at fL
  obtain ⟨hlen, hlen0⟩ := nbrs_len c.w c.h i k
  have hnx : nbrs c.w c.h i (k + 1) = nbrs c.w c.h i k ++ (match nxt c.w c.h i k with | some n => [n] | none => []) := rfl
  cases hx : nxt c.w c.h i k with
  | none =>
    rw [hx] at hN hnx
    simp only [List.append_nil] at hnx
    obtain ⟨b, q, hb, e5, hq, hbA⟩ := id fO
    simp [-Int.natCast_add, arLoop, SC.loops, sf_lanes_traffic_around, f1, f2, e5, f11, fL, fl, hAA, hltI, hN, hw, hlim, and_assoc, ed, et, es]
    exact ⟨_, by omega, k + 1, by omega, rfl, rfl, fA, by rw [hnx]; exact ⟨b, q, hb, rfl, hq, hbA⟩⟩
  | some n =>
    rw [hx] at hN hnx
    simp only at hnx
    obtain ⟨b, q, hb, e5, hq, hbA⟩ := fO
    generalize hl : nbrs c.w c.h i k = l at *
    have hl0 : ¬ l.length = 0 := by omega
    have hmx : l.length + 1 ≤ maxA := Nat.le_trans (show _ ≤ 100001 by omega) (by decide)
    have hcA : ∀ L x, cellsAt L (A ++ x) ⟨b, 0, none⟩ l.length = some (ints l) := fun L x => by
      have := own_cells hbA L x
      rwa [ints_length] at this
    have hbX := fun x => own_get hbA x
    have hsX := fun x y => own_set hbA x y
    have hcn : nlL (ints l) = true := nlL_ints l
    have hci : (ints l).length = l.length := ints_length l
    have hbl : b < A.length := (List.getElem?_eq_some_iff.1 hbA).1
    have happ : ints l ++ [.int .i64 n] = ints (l ++ [n]) := by simp [ints]
    have hone : (ints l).all oneC = true := one_ints l
    generalize hcl2 : ints l = cs at *
    rcases hq with rfl | rfl
    · simp [-oneC, oneC_slice, oneC_int, -Int.natCast_add, arLoop, SC.loops, sf_lanes_traffic_around, f1, f2, e5, f11, fL, fl, hAA, hltI, hN, hw, hlim, hl0, hmx, hcA, hbX, hsX, hcn, hci, hb, hone, and_assoc, ed, et, es]
      refine ⟨_, by omega, k + 1, by omega, rfl, rfl, fA.push _, ?_⟩
      rw [hnx]
      refine ⟨A.length + 1, l.length + 2, by have := fA.le; omega, by simp, by simp, ?_⟩
      rw [List.getElem?_append_right (by simp)]
      simp [happ]
    · simp [-oneC, oneC_slice, oneC_int, -Int.natCast_add, arLoop, SC.loops, sf_lanes_traffic_around, f1, f2, e5, f11, fL, fl, hAA, hltI, hN, hw, hlim, hl0, hmx, hcA, hbX, hsX, hcn, hci, hb, hone, and_assoc, ed, et, es]
      refine ⟨_, by omega, k + 1, by omega, rfl, rfl, (fA.set hb _).push _, ?_⟩
      rw [hnx]
      refine ⟨A.length + 1, l.length + 2, by have := fA.le; omega, by simp, by simp, ?_⟩
      rw [List.getElem?_append_right (by simp)]
      simp [happ]

/-- The cells around a cell, in order. -/
def nearI (c : Ch) (i : Nat) : List Int := (nearM c i).map Int.ofNat

theorem run_around (c : Ch) (hok : ChOk c) (H : AH) (hG : H[waysG]? = some (.ro waysV)) (d t s : Value) (hc : ChIn H c d t s) (v : Value) (hv : ∃ a n k, v = .slice a n k) {i : Nat} (hi : i < c.cells) :
    ∃ r A, (∀ lim, apL Tryz.prog pf (.func (.func 68) #[] #[]) [trV c d t s v, .int .i64 i] lim H = some (r, A)) ∧ Aft H A ∧ OwnI H.length A r (nearI c i) := by
  obtain ⟨va, vn, vc, rfl⟩ := hv
  have hal := ar_loop c hok H hG d t s hc (.slice va vn vc) hi
  obtain ⟨⟨da, dc, ed, _⟩, ⟨ta, tc, et, _⟩, ⟨sa, sc, es, _⟩, _, _, _⟩ := id hc
  suffices key : ∀ lim, ∃ r A, apL Tryz.prog pf (.func (.func 68) #[] #[]) [trV c d t s (.slice va vn vc), .int .i64 i] lim H = some (r, A) ∧ Aft H A ∧ OwnI H.length A r (nearI c i) by
    obtain ⟨r, A, h1, h2⟩ := key 0
    refine ⟨r, A, fun lim => ?_, h2⟩
    rw [← h1, apL_func _ _ _ _ _ _ (by rfl), apL_func _ _ _ _ _ _ (by rfl)]
    simp only [pf_pure, show pureF 68 = true from rfl, if_true]
  intro lim
  rw [apL_func _ _ _ _ _ _ (by rfl), sf_lanes_traffic_around_eq]
  simp [-oneC, oneC_slice, oneC_int, sf_lanes_traffic_around, trV, ed, et, es, pf_pure, pureF]
  generalize hS : ({ t := _, L := _, H := _, lim := _, rd := _ } : St) = S
  obtain ⟨⟨e, s1⟩, hr, g1, g2, g3, g4⟩ := hal S (by subst hS; simp) (by subst hS; simp) (by subst hS; simp) (by subst hS; simp; exact ⟨H.length, 1, by omega, rfl, by simp, by simp [ints]⟩) (by subst hS; simp [ed, et, es]) (by subst hS; simp; exact (Aft.refl H).push _) (by subst hS; rfl)
  simp [arLoop, SC.loops, sf_lanes_traffic_around] at hr
  rw [hr]
  simp only at g1 g2 g3 g4
  subst g1
  obtain ⟨b, k, hb, e5, hk, hbA⟩ := g4
  have gl : s1.lim = H.length := by rw [g2]; subst hS; rfl
  have hlen := (nbrs_len c.w c.h i 6).1
  obtain ⟨m, hm, m1, m2, m3⟩ := run_Sort s1.H b k (nbrs c.w c.h i 6) (by omega) hbA H.length hb
  have hnear : m = nearI c i := near_eq hok hi m1 m3
  have hbl : b < s1.H.length := (List.getElem?_eq_some_iff.1 hbA).1
  refine ⟨.slice (some ⟨b, 0, none⟩) m.length k, s1.H.set b (.rw 1 (ints m)), ?_, g3.set hb _, ?_⟩
  · rw [m2]
    simp [e5, gl, hm]
  · rw [← hnear]
    exact ⟨b, k, hb, rfl, by rw [m2]; exact hk, by rw [List.getElem?_set_self hbl]⟩
end Go.Proofs.YthobfecblpnnnaaGreatDoor

/- Contracts of layer 6, the program: tables that are appended to; start. -/
set_option linter.all false
namespace Go.Proofs.YthobfecblpnnnaaGreatDoor
open Go Go.RowKit

/-- A row of a table of one's own: a list of numbers, in a block between. -/
def RwIn (n0 B : Nat) (A : AH) (x : Value) (l : List Int) : Prop := ∃ b k, n0 ≤ b ∧ b < B ∧ x = .slice (some ⟨b, 0, none⟩) l.length k ∧ A[b]? = some (.rw 1 (ints l))

theorem RwIn.aft {n0 B B' : Nat} {A A' : AH} {x : Value} {l : List Int} (h : RwIn n0 B A x l) (hB : B ≤ B') (hA : Ext A A') : RwIn n0 B' A' x l := by
  obtain ⟨b, k, h1, h2, h3, h4⟩ := h
  exact ⟨b, k, h1, by omega, h3, hA _ _ h4⟩
theorem RwIn.sl {n0 B : Nat} {A : AH} {x : Value} {l : List Int} (h : RwIn n0 B A x l) : Sl A x l.length (ints l) := by
  obtain ⟨b, k, h1, h2, rfl, h4⟩ := h
  exact Sl.made h4 rfl
theorem RwIn.val {n0 B : Nat} {A : AH} {x : Value} {l : List Int} (h : RwIn n0 B A x l) : ∃ a n k, x = .slice a n k := by
  obtain ⟨b, k, h1, h2, rfl, h4⟩ := h
  exact ⟨_, _, _, rfl⟩

/-- A table of one's own that is appended to. -/
def TabO (n0 : Nat) (A : AH) (v : Value) (ls : List (List Int)) : Prop := ∃ rv : List Value, rv.length = ls.length ∧ ((rv = [] ∧ v = .slice none 0 0) ∨ (rv ≠ [] ∧ ∃ b, n0 ≤ b ∧ v = .slice (some ⟨b, 0, none⟩) rv.length (rv.length + 1) ∧ A[b]? = some (.rw 1 rv) ∧ ∀ j (h : j < rv.length) (h' : j < ls.length), RwIn n0 b A rv[j] ls[j]))

theorem TabO.tab {n0 : Nat} {A : AH} {v : Value} {ls : List (List Int)} (h : TabO n0 A v ls) : Tab A v ls := by
  obtain ⟨rv, hl, ⟨rfl, rfl⟩ | ⟨hne, b, hb, rfl, hbA, hr⟩⟩ := h
  · refine ⟨[], hl, ⟨none, 0, ?_, fun j x hx => by simp at hx⟩, fun i h h' => by simp at h'⟩
    rw [← hl]; rfl
  · refine ⟨rv, hl, ⟨some ⟨b, 0, none⟩, rv.length + 1, by rw [hl], fun j x hx => ⟨b, 0, rfl, by simp only [hcell, hbA, Nat.zero_add]; exact hx⟩⟩, fun i h h' => (hr i h' h).sl⟩

theorem slcs_one {rv : List Value} (h : ∀ x ∈ rv, ∃ a n k, x = .slice a n k) : rv.all oneC = true ∧ nlL rv = true := by
  induction rv with
  | nil => exact ⟨rfl, by simp [nlL]⟩
  | cons x rv ih =>
    obtain ⟨h1, h2⟩ := ih (fun y hy => h y (by simp [hy]))
    obtain ⟨a, n, k, rfl⟩ := h x (by simp)
    exact ⟨by rw [List.all_cons, h1, oneC_slice]; rfl, by simp [nlL, h2]⟩

/-- What is appended to such a table. -/
theorem TabO.push {n0 : Nat} {A A' : AH} {v x : Value} {ls : List (List Int)} {l : List Int} (h : TabO n0 A v ls) (h0 : n0 ≤ A.length) (hA : Aft A A') (hx : RwIn n0 A'.length A' x l) :
    (ls = [] ∧ v = .slice none 0 0 ∧ TabO n0 (A' ++ [.rw 1 [x], .rw 1 [x]]) (.slice (some ⟨A'.length + 1, 0, none⟩) 1 2) (ls ++ [l])) ∨
    ∃ b rv, n0 ≤ b ∧ rv ≠ [] ∧ rv.length = ls.length ∧ v = .slice (some ⟨b, 0, none⟩) rv.length (rv.length + 1) ∧ A'[b]? = some (.rw 1 rv) ∧ rv.all oneC = true ∧ nlL rv = true ∧ (∀ l' : List Int, rv ≠ ints l') ∧ TabO n0 (A'.set b .dead ++ [.rw 1 [x], .rw 1 (rv ++ [x])]) (.slice (some ⟨A'.length + 1, 0, none⟩) (rv.length + 1) (rv.length + 1 + 1)) (ls ++ [l]) := by
  have hle := hA.le
  obtain ⟨rv, hl, ⟨rfl, rfl⟩ | ⟨hne, b, hb, rfl, hbA, hr⟩⟩ := h
  · have hls : ls = [] := List.eq_nil_of_length_eq_zero hl.symm
    subst hls
    refine .inl ⟨rfl, rfl, [x], by simp, .inr ⟨by simp, A'.length + 1, by omega, rfl, by rw [List.getElem?_append_right (by omega), Nat.add_sub_cancel_left]; rfl, fun j h h' => ?_⟩⟩
    have : j = 0 := by simp at h; omega
    subst this
    exact hx.aft (by omega) (Ext.push _ _)
  · have hbA' := hA.ext _ _ hbA
    have hvals : ∀ y ∈ rv, ∃ a n k, y = .slice a n k := fun y hy => by
      obtain ⟨j, hj, rfl⟩ := List.mem_iff_getElem.1 hy
      exact (hr j hj (by omega)).val
    obtain ⟨z1, z2⟩ := slcs_one hvals
    have hbl : b < A'.length := (List.getElem?_eq_some_iff.1 hbA').1
    have z3 : ∀ l' : List Int, rv ≠ ints l' := fun l' e => by
      obtain ⟨y, rv', rfl⟩ := List.exists_cons_of_ne_nil hne
      obtain ⟨a, n, k, rfl⟩ := hvals y (by simp)
      cases l' with
      | nil => simp [ints] at e
      | cons i l' => simp [ints] at e
    refine .inr ⟨b, rv, hb, hne, hl, rfl, hbA', z1, z2, z3, rv ++ [x], by simp [hl], .inr ⟨by simp, A'.length + 1, by omega, by simp, by rw [List.getElem?_append_right (by simp)]; simp, fun j h h' => ?_⟩⟩
    by_cases hj : j < rv.length
    · rw [List.getElem_append_left hj, List.getElem_append_left (by omega)]
      obtain ⟨b', k', q1, q2, q3, q4⟩ := (hr j hj (by omega)).aft (Nat.le_refl _) hA.ext
      refine ⟨b', k', q1, by omega, q3, ?_⟩
      rw [List.getElem?_append_left (by simp; omega), List.getElem?_set_ne (by omega)]
      exact q4
    · have hj' : j = rv.length := by simp at h; omega
      subst hj'
      have e2 : (ls ++ [l])[rv.length]'h' = l := by
        rw [List.getElem_append_right (by omega)]
        simp [hl]
      rw [e2]
      simp only [List.getElem_append_right (Nat.le_refl _), Nat.sub_self, List.getElem_cons_zero]
      obtain ⟨b', k', q1, q2, q3, q4⟩ := hx
      by_cases hbb : b' = b
      · subst hbb
        rw [hbA'] at q4
        simp only [Option.some.injEq, ABlk.rw.injEq, true_and] at q4
        obtain ⟨y, rv', rfl⟩ := List.exists_cons_of_ne_nil hne
        cases l with
        | nil => simp [ints] at q4
        | cons i l =>
          obtain ⟨a, n, k, rfl⟩ := hvals y (by simp)
          simp [ints] at q4
      · refine ⟨b', k', q1, by omega, q3, ?_⟩
        rw [List.getElem?_append_left (by simp; omega), List.getElem?_set_ne (by omega)]
        exact q4

/-- A trip in the heap, and as a value. -/
def tpV (t : Tp) : Value := .agg #[.int .i64 t.t0, .int .i64 t.lv, .int .i64 t.dr, .bool t.tl, .int .i64 t.fr, .int .i64 t.to]
/-- The run of a trip. -/
def rnV (c : Ch) (d t s v : Value) (p : Tp) (bs : Value) : Value := .agg #[.int .i64 c.w, .int .i64 c.h, d, t, s, v, .int .i64 p.t0, .int .i64 p.lv, .int .i64 p.dr, .bool p.tl, .int .i64 p.fr, .int .i64 p.to, bs]
def rnC (c : Ch) (d t s v : Value) (p : Tp) (bs : Value) : List Value := [.int .i64 c.w, .int .i64 c.h, d, t, s, v, .int .i64 p.t0, .int .i64 p.lv, .int .i64 p.dr, .bool p.tl, .int .i64 p.fr, .int .i64 p.to, bs]
/-- For each cell those around it. -/
def nearT (c : Ch) : List (List Int) := (List.range c.cells).map (nearI c)
def nearK (c : Ch) (k : Nat) : List (List Int) := (List.range k).map (nearI c)
theorem nearK_succ (c : Ch) (k : Nat) : nearK c (k + 1) = nearK c k ++ [nearI c k] := by simp [nearK, List.range_succ]

theorem oneC_boolW (b : Bool) : oneC (.bool b) = true := by cases b <;> rfl

def stLoop6 : SC := sf_lanes_traffic_start.body.loops.headD .skip

set_option maxHeartbeats 2000000 in
theorem st_loop6 (c : Ch) (hok : ChOk c) (H : AH) (hG : H[waysG]? = some (.ro waysV)) (d t s : Value) (hc : ChIn H c d t s) (va : Option Addr) (vn vc : Nat) (p : Tp) (S : St)
    (e2 : tget S.t 2 = .pointer (some ⟨2, 0, some 0⟩)) (e4 : tget S.t 4 = .pointer (some ⟨4, 0, some 0⟩)) (e5 : tget S.t 5 = .pointer (some ⟨5, 0, some 0⟩)) (e13 : tget S.t 13 = .int .i64 c.cells) (e14 : tget S.t 14 = .int .i64 0)
    (hL2 : lget S.L 2 = some (0, .cells [.int .i64 c.w, .int .i64 c.h, d, t, s, .slice va vn vc])) (zs : List Value) (hL4 : lget S.L 4 = some (0, .cells zs)) (hL5 : lget S.L 5 = some (0, .cells (rnC c d t s (.slice va vn vc) p (.slice none 0 0)))) (hA : Aft H S.H) (hlim : S.lim = H.length) :
    ∃ q, exL Tryz.prog pf (.loop stLoop6) S = some q ∧ q.1 = .exit 0 ∧ Aft H q.2.H ∧ tget q.2.t 4 = .pointer (some ⟨4, 0, some 0⟩) ∧ tget q.2.t 5 = .pointer (some ⟨5, 0, some 0⟩) ∧ lget q.2.L 4 = some (0, .cells zs) ∧ ∃ bs, TabO H.length q.2.H bs (nearT c) ∧ lget q.2.L 5 = some (0, .cells (rnC c d t s (.slice va vn vc) p bs)) := by
  have hN : c.cells ≤ 144 := by have := hok.mul; omega
  refine loop_rule (I := fun n s' => ∃ k bs, k ≤ c.cells ∧ n = c.cells - k ∧ tget s'.t 2 = .pointer (some ⟨2, 0, some 0⟩) ∧ tget s'.t 4 = .pointer (some ⟨4, 0, some 0⟩) ∧ tget s'.t 5 = .pointer (some ⟨5, 0, some 0⟩) ∧ tget s'.t 13 = .int .i64 c.cells ∧ tget s'.t 14 = .int .i64 k ∧ lget s'.L 2 = some (0, .cells [.int .i64 c.w, .int .i64 c.h, d, t, s, .slice va vn vc]) ∧ lget s'.L 4 = some (0, .cells zs) ∧ lget s'.L 5 = some (0, .cells (rnC c d t s (.slice va vn vc) p bs)) ∧ s'.lim = H.length ∧ Aft H s'.H ∧ TabO H.length s'.H bs (nearK c k)) ?_ c.cells S
    ⟨0, _, by omega, by omega, e2, e4, e5, e13, e14, hL2, hL4, hL5, hlim, hA, [], rfl, .inl ⟨rfl, rfl⟩⟩
  rintro n s' ⟨k, bs, hk, rfl, f2, f4, f5, f13, f14, fL2, fL4, fL5, fl, fA, fO⟩
  obtain ⟨A, hAA⟩ : ∃ A, s'.H = A := ⟨_, rfl⟩
  rw [hAA] at fA fO
  by_cases hlt : k < c.cells
  rotate_left
  · have : k = c.cells := by omega
    subst this
    simp [stLoop6, SC.loops, sf_lanes_traffic_start, f2, f4, f5, f13, f14, fL2, fL4, fL5, fl, hAA, hlim]
    exact ⟨fA, bs, fO, rfl⟩
  have hltI : (k : Int) < (c.cells : Int) := by omega
  have hw : IntKind.i64.wrap ((k : Int) + 1) = ((k + 1 : Nat) : Int) := by rw [wrap_i64 (by omega) (by omega)]; omega
  obtain ⟨r, A', hr, hA', hO'⟩ := run_around c hok A (fA.ext _ _ hG) d t s (hc.ext fA.ext) (.slice va vn vc) ⟨_, _, _, rfl⟩ hlt
  obtain ⟨⟨da, dc, ed, _⟩, ⟨ta, tc, et, _⟩, ⟨sa, sc, es, _⟩, _, _, _⟩ := id hc
  simp only [trV, ed, et, es] at hr
  simp only [rnC, ed, et, es] at fL2 fL5 ⊢
  have hle := fA.le
  have hle' := hA'.le
  have hrw : RwIn H.length A'.length A' r (nearI c k) := by
    obtain ⟨b, q, hb, e, _, hbA⟩ := hO'
    exact ⟨b, q, by omega, (List.getElem?_eq_some_iff.1 hbA).1, e, hbA⟩
  obtain ⟨ra, rn, rc, er⟩ := hrw.val
  have hm1 : 1 ≤ maxA := by decide
  have hbx := fO.push hle hA' hrw
  rw [← nearK_succ] at hbx
  rcases hbx with ⟨hls, rfl, hT⟩ | ⟨b, rv, hb, hne, hlen, rfl, hbA, z1, z2, _, hT⟩
  · subst er
    simp [-oneC, oneC_slice, oneC_int, -Int.natCast_add, stLoop6, SC.loops, sf_lanes_traffic_start, f2, f4, f5, f13, f14, fL2, fL4, fL5, fl, hAA, hltI, hr, hw, hm1, hlim, and_assoc, ed, et, es, e2, e4, e5]
    exact ⟨_, by omega, k + 1, by omega, rfl, rfl, (fA.trans hA').push _, hT⟩
  · subst er
    have hnk : rv.length = k := by rw [hlen]; simp [nearK]
    have hl0 : ¬ rv.length = 0 := by simpa using hne
    have hmx : rv.length + 1 ≤ maxA := Nat.le_trans (show _ ≤ 1000 by omega) (by decide)
    have hcA : ∀ L x, cellsAt L (A' ++ x) ⟨b, 0, none⟩ rv.length = some rv := fun L x => own_cells hbA L x
    have hbX := fun x => own_get hbA x
    have hsX := fun x y => own_set hbA x y
    simp [-oneC, oneC_slice, oneC_int, -Int.natCast_add, -List.all_eq_true, stLoop6, SC.loops, sf_lanes_traffic_start, f2, f4, f5, f13, f14, fL2, fL4, fL5, fl, hAA, hltI, hr, hw, hl0, hne, hmx, hcA, hbX, hsX, z1, z2, hb, hlim, and_assoc, ed, et, es, e2, e4, e5]
    exact ⟨_, by omega, k + 1, by omega, rfl, rfl, ((fA.trans hA').set hb _).push _, hT⟩

theorem run_start (c : Ch) (hok : ChOk c) (H : AH) (hG : H[waysG]? = some (.ro waysV)) (d t s : Value) (hc : ChIn H c d t s) (va : Option Addr) (vn vc : Nat) (p : Tp) :
    ∃ bs A, (∀ lim, apL Tryz.prog pf (.func (.func 43) #[] #[]) [trV c d t s (.slice va vn vc), tpV p] lim H = some (rnV c d t s (.slice va vn vc) p bs, A)) ∧ Aft H A ∧ TabO H.length A bs (nearT c) := by
  have hal := st_loop6 c hok H hG d t s hc va vn vc p
  have hdl : c.depth.length = c.cells := rfl
  obtain ⟨⟨da, dc, ed, _⟩, ⟨ta, tc, et, _⟩, ⟨sa, sc, es, _⟩, _, _, _⟩ := id hc
  suffices key : ∀ lim, ∃ bs A, apL Tryz.prog pf (.func (.func 43) #[] #[]) [trV c d t s (.slice va vn vc), tpV p] lim H = some (rnV c d t s (.slice va vn vc) p bs, A) ∧ Aft H A ∧ TabO H.length A bs (nearT c) by
    obtain ⟨r, A, h1, h2⟩ := key 0
    refine ⟨r, A, fun lim => ?_, h2⟩
    rw [← h1, apL_func _ _ _ _ _ _ (by rfl), apL_func _ _ _ _ _ _ (by rfl)]
    simp only [pf_pure, show pureF 43 = true from rfl, if_true]
  intro lim
  rw [apL_func _ _ _ _ _ _ (by rfl), sf_lanes_traffic_start_eq]
  simp [-oneC, -Array.all_eq_false, -Array.all_toList, oneC_slice, oneC_int, oneC_boolW, sf_lanes_traffic_start, trV, tpV, ed, et, es, pf_pure, pureF]
  generalize hS : ({ t := _, L := _, H := _, lim := _, rd := _ } : St) = S
  obtain ⟨⟨e, s1⟩, hr, g1, g2, g4, g5, gL4, bs, gT, gL5⟩ := hal S (by subst hS; simp) (by subst hS; simp) (by subst hS; simp) (by subst hS; simp [hdl]) (by subst hS; simp) (by subst hS; simp [ed, et, es]) [.int .i64 0, .int .i64 0, .slice none 0 0, .slice none 0 0, .slice none 0 0, .slice none 0 0, .int .i64 0, .int .i64 0, .int .i64 0, .bool false, .int .i64 0, .int .i64 0, .slice none 0 0] (by subst hS; simp) (by subst hS; simp [rnC, ed, et, es]) (by subst hS; exact Aft.refl H) (by subst hS; rfl)
  simp [stLoop6, SC.loops, sf_lanes_traffic_start] at hr
  rw [hr]
  simp only at g1 g2 g4 g5 gL4 gT gL5
  subst g1
  refine ⟨bs, s1.H, ?_, g2, gT⟩
  obtain ⟨bb, bn, bc, rfl⟩ : ∃ b n k, bs = .slice (some ⟨b, 0, none⟩) n k := by
    obtain ⟨rv, hl, ⟨rfl, rfl⟩ | ⟨_, b, _, rfl, _⟩⟩ := gT
    · have h1 := hok.1.1
      have h2 := hok.2.1.1
      have h3 := hok.mul.2.2
      have h4 : 0 < c.w * c.h := Int.mul_pos (by omega) (by omega)
      simp [nearT] at hl
      omega
    · exact ⟨_, _, _, rfl⟩
  simp only [rnC, ed, et, es] at gL5
  simp [-oneC, -Array.all_toList, -Array.all_eq_false, -Array.all_eq_true, -List.all_eq_true, -List.all_eq_false, oneC_slice, oneC_int, oneC_boolW, g4, g5, gL4, gL5, rnV, ed, et, es]
end Go.Proofs.YthobfecblpnnnaaGreatDoor
