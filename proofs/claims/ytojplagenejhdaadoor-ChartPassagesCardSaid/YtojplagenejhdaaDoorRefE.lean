/- Contracts of the functions, in the abstract machine: the reference's Arrive and Moves. -/
import Derived.Test.YtojplagenejhdaaDoorRefD
import Derived.Test.YtojplagenejhdaaDoorRetB
set_option linter.all false
namespace Go.Proofs.YtojplagenejhdaaDoor
open Go Go.RowKit

theorem run_check (c : Ch) (lim : Nat) (H : AH) (d t s : Value) (hc : ChIn H c d t s) (g a b : Int) :
    apL Tryd.prog pf (.func (.func 64) #[] #[]) [chV c d t s, .int .i64 g, .int .i64 a, .int .i64 b] lim H = some (.int .i64 (embE c g [a] [b]), H) := by
  rw [apL_func _ _ _ _ _ _ (by rfl), sf_cobleref01_check_eq]
  have hF := fun lim => run_refFloats c lim H d t s hc g a b
  obtain ⟨⟨da, dc, ed, _⟩, ⟨ta, tc, et, _⟩, ⟨sa, sc, es, _⟩, _, _, _⟩ := hc
  simp only [chV, ed, et, es, floatsR] at hF
  simp [sf_cobleref01_check, chV, ed, et, es, hF, pf_pure, pureF]

theorem embE_inv {c : Ch} {g a b : Int} (h : embE c g [a] [b] = 0) : ChOk c ∧ (1 ≤ g ∧ g ≤ 100) ∧ ∃ i k : Nat, i < c.cells ∧ k < c.ticks ∧ a = i ∧ b = k := by
  obtain ⟨h0, hg⟩ := embE_zero h
  obtain ⟨hok, h1, h2⟩ := openE_zero h0
  simp only [List.all_cons, List.all_nil, Bool.and_true, inN_iff] at h1 h2
  obtain ⟨i, hi, rfl⟩ := h1
  obtain ⟨k, hk, rfl⟩ := h2
  exact ⟨hok, hg, i, k, hi, hk, rfl, rfl⟩

/-- A list of numbers that is appended to. -/
def OwnA (n0 : Nat) (A : AH) (v : Value) (l : List Int) : Prop :=
  (l = [] ∧ v = .slice none 0 0) ∨ (l ≠ [] ∧ ∃ b, n0 ≤ b ∧ v = .slice (some ⟨b, 0, none⟩) l.length (l.length + 1) ∧ A[b]? = some (.rw 1 (ints l)))
theorem OwnA.sl {n0 : Nat} {A : AH} {v : Value} {l : List Int} (h : OwnA n0 A v l) : Sl A v l.length (ints l) := by
  rcases h with ⟨rfl, rfl⟩ | ⟨_, b, _, rfl, hb⟩
  · exact Sl.nil
  · exact Sl.made hb rfl

/-! ### Arrive -/

theorem nearL_step (c : Ch) (g : Int) (cell tick : Nat) (i j : Nat) : (nearL c g cell tick 1 (j + 1)).getD i 0 = if i < c.cells ∧ 0 ≤ (rowP c g cell tick 1 j).getD i 0 ∧ (nearL c g cell tick 1 j).getD i 0 < 0 then (tick : Int) + (j : Int) * 1 else (nearL c g cell tick 1 j).getD i 0 := by
  have hg := nearF_get (rowP c g cell tick 1 j) ((tick : Int) + (j : Int) * 1) (nearL c g cell tick 1 j) i c.cells (by rw [nearL_len]; exact Nat.le_refl _)
  exact hg

theorem nearL_keep (c : Ch) (g : Int) (cell tick : Nat) (i j : Nat) (h : 0 ≤ (nearL c g cell tick 1 j).getD i 0) : ∀ k, (nearL c g cell tick 1 (j + k)).getD i 0 = (nearL c g cell tick 1 j).getD i 0
  | 0 => rfl
  | k + 1 => by
    have ih := nearL_keep c g cell tick i j h k
    rw [← Nat.add_assoc, nearL_step, ih, if_neg (by omega)]

theorem nearL_bound (c : Ch) (g : Int) (cell tick : Nat) (i : Nat) (hi : i < c.cells) : ∀ j, -1 ≤ (nearL c g cell tick 1 j).getD i 0 ∧ (nearL c g cell tick 1 j).getD i 0 ≤ tick + j
  | 0 => by simp [nearL, List.getD_eq_getElem?_getD, hi] <;> omega
  | j + 1 => by
    have := nearL_bound c g cell tick i hi j
    rw [nearL_step]
    split <;> omega

def aiLoop : SC := sf_cobleref01_Arrive.body.loops.tail.headD .skip

theorem ai_loop (c : Ch) (hok : ChOk c) (g : Int) {cell tick i : Nat} (htick : tick < c.ticks) (hi : i < c.cells) (X : AH) (pa : Option Addr) (pk M : Nat) (hM : M = c.ticks - tick) (hP : Past X pa M c.cells (rowP c g cell tick 1)) (S : St)
    (h3 : tget S.t 3 = .int .i64 tick) (h11 : tget S.t 11 = .slice pa M pk) (h13 : tget S.t 13 = .int .i64 i) (h14 : tget S.t 14 = .int .i64 (-1)) (h15 : tget S.t 15 = .int .i64 0) (hH : S.H = X) :
    ∃ r, exL Tryd.prog pf (.loop aiLoop) S = some r ∧ r.1 = .exit 2 ∧ r.2.L = S.L ∧ r.2.lim = S.lim ∧ r.2.rd = S.rd ∧ r.2.H = X ∧ (∀ k, k ∈ [3, 4, 11, 12, 13] → tget r.2.t k = tget S.t k) ∧ tget r.2.t 14 = .int .i64 ((nearL c g cell tick 1 M).getD i 0) := by
  have hT : c.ticks ≤ 60 := hok.2.2.2.1.2
  refine loop_rule (I := fun n s' => ∃ j, j ≤ M ∧ n = M - j ∧ (∀ k, k ∈ [3, 4, 11, 12, 13] → tget s'.t k = tget S.t k) ∧ tget s'.t 14 = .int .i64 ((nearL c g cell tick 1 j).getD i 0) ∧ tget s'.t 15 = .int .i64 j ∧ s'.L = S.L ∧ s'.lim = S.lim ∧ s'.rd = S.rd ∧ s'.H = X) ?_ M S
    ⟨0, by omega, by omega, fun _ _ => rfl, by rw [h14]; simp [nearL, List.getD_eq_getElem?_getD, hi], h15, rfl, rfl, rfl, hH⟩
  rintro n s' ⟨j, hj, rfl, eK, e14, e15, eL, el, er, eH⟩
  have e3 : tget s'.t 3 = _ := (eK 3 (by simp)).trans h3
  have e4 : tget s'.t 4 = tget S.t 4 := eK 4 (by simp)
  have e11 : tget s'.t 11 = _ := (eK 11 (by simp)).trans h11
  have e12 : tget s'.t 12 = tget S.t 12 := eK 12 (by simp)
  have e13 : tget s'.t 13 = _ := (eK 13 (by simp)).trans h13
  have hb := nearL_bound c g cell tick i hi j
  have hk := nearL_keep c g cell tick i j
  have hs := nearL_step c g cell tick i j
  by_cases hlt : j < M
  rotate_left
  · have hjM : j = M := by omega
    subst hjM
    generalize (nearL c g cell tick 1 j).getD i 0 = R at *
    simp [-List.getD_eq_getElem?_getD, aiLoop, SC.loops, sf_cobleref01_Arrive, e3, e4, e11, e12, e13, e14, e15, eL, el, er, eH, h3, h11, h13]
  have hlt' : (j : Int) < M := by omega
  by_cases hn : (nearL c g cell tick 1 j).getD i 0 < 0
  rotate_left
  · have hk := hk (by omega) (M - j)
    rw [show j + (M - j) = M by omega] at hk
    generalize (nearL c g cell tick 1 j).getD i 0 = R at *
    simp [-List.getD_eq_getElem?_getD, aiLoop, SC.loops, sf_cobleref01_Arrive, e3, e4, e11, e12, e13, e14, e15, eL, el, er, eH, h3, h11, h13, hlt', hn, hk]
  obtain ⟨b, o, bm, ea, q1, q2⟩ := hP j hlt
  subst ea
  have hgi := ints_getE (rowP c g cell tick 1 j) i (by rw [rowP_len]; exact hi)
  have hw1 : IntKind.i64.wrap ((j : Int) + 1) = (j : Int) + 1 := wrap_i64 (by omega) (by omega)
  have hw2 : IntKind.i64.wrap ((tick : Int) + (j : Int)) = (tick : Int) + j := wrap_i64 (by omega) (by omega)
  have hi' : (i : Int) < c.cells := by omega
  simp only [hcell] at q1
  by_cases hr : 0 ≤ (rowP c g cell tick 1 j).getD i 0
  · rw [if_pos ⟨hi, hr, hn⟩] at hs
    have hs' : (nearL c g cell tick 1 (j + 1)).getD i 0 = (tick : Int) + j := by rw [hs]; omega
    generalize (rowP c g cell tick 1 j).getD i 0 = P at *
    generalize hR : (nearL c g cell tick 1 j).getD i 0 = R at *
    generalize ints (rowP c g cell tick 1 j) = cs at *
    simp [-List.getD_eq_getElem?_getD, aiLoop, SC.loops, sf_cobleref01_Arrive, e3, e4, e11, e12, e13, e14, e15, eL, el, er, eH, h3, h11, h13, hlt, hlt', hn, q1, q2, hi, hi', hgi, hr, hw1, hw2]
    exact ⟨_, by omega, j + 1, by omega, rfl, by rw [hs'], by omega⟩
  · rw [if_neg (fun h => hr h.2.1)] at hs
    generalize (rowP c g cell tick 1 j).getD i 0 = P at *
    generalize hR : (nearL c g cell tick 1 j).getD i 0 = R at *
    generalize ints (rowP c g cell tick 1 j) = cs at *
    simp [-List.getD_eq_getElem?_getD, aiLoop, SC.loops, sf_cobleref01_Arrive, e3, e4, e11, e12, e13, e14, e15, eL, el, er, eH, h3, h11, h13, hlt, hlt', hn, q1, q2, hi, hi', hgi, hr, hw1]
    exact ⟨_, by omega, j + 1, by omega, rfl, by rw [hs], by omega⟩

def aoLoop : SC := sf_cobleref01_Arrive.body.loops.headD .skip

set_option maxHeartbeats 1000000 in
theorem ao_loop (c : Ch) (hok : ChOk c) (d t s : Value) (g : Int) {cell tick : Nat} (htick : tick < c.ticks) (H0 X : AH) (hH0 : Aft H0 X) (hc : ChIn H0 c d t s) (pa : Option Addr) (pk M : Nat) (hM : M = c.ticks - tick) (hP : Past X pa M c.cells (rowP c g cell tick 1)) (S : St)
    (h3 : tget S.t 3 = .int .i64 tick) (h4 : tget S.t 4 = .pointer (some ⟨4, 0, some 0⟩)) (h11 : tget S.t 11 = .slice pa M pk) (h12 : tget S.t 12 = .slice none 0 0) (h13 : tget S.t 13 = .int .i64 0) (hL : S.L = [(4, 0, .cells [.int .i64 c.w, .int .i64 c.h, d, t, s])]) (hH : S.H = X) (hlim : S.lim ≤ X.length) :
    ∃ r, exL Tryd.prog pf (.loop aoLoop) S = some r ∧ r.1 = .exit 0 ∧ r.2.L = S.L ∧ Aft X r.2.H ∧ OwnA X.length r.2.H (tget r.2.t 12) (nearL c g cell tick 1 M) := by
  obtain ⟨p0, p1⟩ := hok.pos
  obtain ⟨m0, m1, m2⟩ := hok.mul
  have hwm : IntKind.i64.wrap (c.w * c.h) = (c.cells : Int) := by rw [m2]; exact wrap_i64 (by omega) (by omega)
  have hCl := fun lim A => run_CellsCh c lim A d t s
  rw [hwm] at hCl
  have hnl : (nearL c g cell tick 1 M).length = c.cells := nearL_len ..
  obtain ⟨⟨da, dc, ed, _⟩, ⟨ta, tc, et, _⟩, ⟨sa, sc, es, _⟩, _, _, _⟩ := hc
  simp only [chV, ed, et, es] at hCl
  rw [ed, et, es] at hL
  have hend : (nearL c g cell tick 1 M).take c.cells = nearL c g cell tick 1 M := by rw [← hnl, List.take_length]
  rw [← hend]
  refine loop_rule (I := fun n s' => ∃ i, i ≤ c.cells ∧ n = c.cells - i ∧ tget s'.t 3 = .int .i64 tick ∧ tget s'.t 4 = .pointer (some ⟨4, 0, some 0⟩) ∧ tget s'.t 11 = .slice pa M pk ∧ tget s'.t 13 = .int .i64 i ∧ s'.L = S.L ∧ s'.lim ≤ X.length ∧ Aft X s'.H ∧ OwnA X.length s'.H (tget s'.t 12) ((nearL c g cell tick 1 M).take i)) ?_ c.cells S
    ⟨0, by omega, by omega, h3, h4, h11, h13, rfl, hlim, by rw [hH]; exact Aft.refl X, .inl ⟨by simp, h12⟩⟩
  rintro n s' ⟨i, hi, rfl, e3, e4, e11, e13, eL, el, eA, eO⟩
  obtain ⟨A, hA⟩ : ∃ A, s'.H = A := ⟨_, rfl⟩
  rw [hA] at eA eO
  rw [hL] at eL
  by_cases hlt : i < c.cells
  rotate_left
  · have : i = c.cells := by omega
    subst this
    simp [aoLoop, SC.loops, sf_cobleref01_Arrive, e3, e4, e11, e13, eL, hA, hCl, hL]
    exact ⟨eA, eO⟩
  have hlt' : (i : Int) < c.cells := by omega
  have hw1 : IntKind.i64.wrap ((i : Int) + 1) = (i : Int) + 1 := wrap_i64 (by omega) (by omega)
  simp [aoLoop, SC.loops, sf_cobleref01_Arrive, e3, e4, e11, e13, eL, hA, hCl, hL, hlt']
  generalize hS : ({ t := _, L := _, H := _, lim := _, rd := _ } : St) = S2
  obtain ⟨⟨e, s1⟩, hr, q1, qL, ql, qr, qH, qK, q14⟩ := ai_loop c hok g (cell := cell) htick hlt A pa pk M hM (hP.ext eA.ext) S2 (by subst hS; simp [e3]) (by subst hS; simp [e11]) (by subst hS; simp [e13]) (by subst hS; simp) (by subst hS; simp) (by subst hS; rfl)
  simp [aiLoop, SC.loops, sf_cobleref01_Arrive] at hr
  rw [hr]
  simp only at q1 qL ql qr qH qK q14
  subst q1
  have k3 : tget s1.t 3 = .int .i64 tick := (qK 3 (by simp)).trans (by subst hS; simp [e3])
  have k4 : tget s1.t 4 = .pointer (some ⟨4, 0, some 0⟩) := (qK 4 (by simp)).trans (by subst hS; simp [e4])
  have k11 : tget s1.t 11 = .slice pa M pk := (qK 11 (by simp)).trans (by subst hS; simp [e11])
  have k12 : tget s1.t 12 = tget s'.t 12 := (qK 12 (by simp)).trans (by subst hS; simp)
  have k13 : tget s1.t 13 = .int .i64 i := (qK 13 (by simp)).trans (by subst hS; simp [e13])
  have jL : s1.L = [(4, 0, .cells [.int .i64 c.w, .int .i64 c.h, .slice da c.depth.length dc, .slice ta c.tide.length tc, .slice sa c.swell.length sc])] := by rw [qL]; subst hS; rfl
  have jl : s1.lim ≤ X.length := by rw [ql]; subst hS; exact el
  have hsucc : (nearL c g cell tick 1 M).take (i + 1) = (nearL c g cell tick 1 M).take i ++ [(nearL c g cell tick 1 M).getD i 0] := by
    rw [List.take_add_one, List.getElem?_eq_getElem (by omega), List.getD_eq_getElem?_getD, List.getElem?_eq_getElem (by omega)]
    rfl
  obtain ⟨l, hl⟩ : ∃ l, l = (nearL c g cell tick 1 M).take i := ⟨_, rfl⟩
  have hll : l.length = i := by rw [hl, List.length_take]; omega
  rw [← hl] at eO hsucc
  generalize (nearL c g cell tick 1 M).getD i 0 = V at *
  have hAX := eA.le
  rcases eO with ⟨rfl, e12⟩ | ⟨hne, b, hb, e12, hbA⟩
  · rw [e12] at k12
    have hmx : 1 ≤ maxA := by decide
    simp [-oneC, oneC_int, k3, k4, k11, k12, k13, q14, jL, qH, hmx, hw1, and_assoc]
    exact ⟨_, by omega, i + 1, by omega, rfl, by omega, jl, eA.push _, by rw [hsucc]; exact .inr ⟨by simp, A.length + 1, by omega, rfl, by rw [List.getElem?_append_right (by omega), Nat.add_sub_cancel_left]; rfl⟩⟩
  · rw [e12] at k12
    have hbl : b < A.length := (List.getElem?_eq_some_iff.1 hbA).1
    have hl0 : ¬ l.length = 0 := fun h => hne (List.eq_nil_of_length_eq_zero h)
    have hmx : l.length + 1 ≤ maxA := Nat.le_trans (show l.length + 1 ≤ 2000 by omega) (by decide)
    have hcn : nlL (ints l) = true := nlL_ints l
    have hci : (ints l).length = l.length := ints_length l
    have happ : ints l ++ [.int .i64 V] = ints (l ++ [V]) := by rw [ints_append]; rfl
    generalize hcs : ints l = cs at *
    have hcA : ∀ L x, cellsAt L (A ++ x) ⟨b, 0, none⟩ l.length = some cs := fun L x => by
      rw [← hci]
      refine cellsAt_of cs 0 fun m y hy => ?_
      simp only [hcell, Nat.zero_add]
      rw [List.getElem?_append_left hbl, hbA]
      exact hy
    have hbX : ∀ x : AH, (A ++ x)[b]? = some (.rw 1 cs) := fun x => by rw [List.getElem?_append_left hbl, hbA]
    have hsX : ∀ x y : AH, (A ++ x).set b .dead ++ y = A.set b .dead ++ (x ++ y) := fun x y => by rw [List.set_append_left _ _ hbl, List.append_assoc]
    have hlb : s1.lim ≤ b := by omega
    simp [-oneC, oneC_int, k3, k4, k11, k12, k13, q14, jL, qH, hmx, hw1, hcA, hbX, hl0, hcn, hlb, hci, hsX, happ, hne, and_assoc]
    exact ⟨_, by omega, i + 1, by omega, rfl, by omega, jl, (eA.set hb _).push _, by rw [hsucc]; exact .inr ⟨by simp, A.length + 1, by omega, by simp, by rw [List.getElem?_append_right (by simp)]; simp⟩⟩

theorem run_refArrive (c : Ch) (H : AH) (d t s : Value) (hc : ChIn H c d t s) (g a b : Int) :
    ∃ v A, (∀ lim, apL Tryd.prog pf (.func (.func 26) #[] #[]) [chV c d t s, .int .i64 g, .int .i64 a, .int .i64 b] lim H = some (.tuple #[v, .int .i64 (embE c g [a] [b])], A)) ∧ Aft H A ∧ Sl A v (arrL c g a b).length (ints (arrL c g a b)) := by
  suffices key : ∃ v A, apL Tryd.prog pf (.func (.func 26) #[] #[]) [chV c d t s, .int .i64 g, .int .i64 a, .int .i64 b] 0 H = some (.tuple #[v, .int .i64 (embE c g [a] [b])], A) ∧ Aft H A ∧ Sl A v (arrL c g a b).length (ints (arrL c g a b)) by
    obtain ⟨v, A, h1, h2⟩ := key
    refine ⟨v, A, fun lim => ?_, h2⟩
    rw [← h1, apL_func _ _ _ _ _ _ (by rfl), apL_func _ _ _ _ _ _ (by rfl)]
    simp only [pf_pure, show pureF 26 = true from rfl, if_true]
  rw [apL_func _ _ _ _ _ _ (by rfl), sf_cobleref01_Arrive_eq]
  have hK := fun lim => run_check c lim H d t s hc g a b
  by_cases h0 : embE c g [a] [b] = 0
  rotate_left
  · have h1 : (embE c g [a] [b] != 0) = true := by simpa using h0
    have hl : arrL c g a b = [] := by unfold arrL; rw [if_neg h0]
    rw [hl]
    refine ⟨.slice none 0 0, H, ?_, Aft.refl H, Sl.nil⟩
    obtain ⟨⟨da, dc, ed, _⟩, ⟨ta, tc, et, _⟩, ⟨sa, sc, es, _⟩, _, _, _⟩ := hc
    simp only [chV, ed, et, es] at hK
    simp [sf_cobleref01_Arrive, chV, ed, et, es, hK, h1, pf_pure, pureF]
  obtain ⟨hok, hg, i, k, hi, hk, rfl, rfl⟩ := embE_inv h0
  rw [arrL_ok hok hg hi hk]
  rw [h0] at hK
  obtain ⟨A, pb, pk, w1, w2, w3⟩ := run_forth c hok H d t s hc g (cell := i) hk
  have hc' := hc
  obtain ⟨⟨da, dc, ed, _⟩, ⟨ta, tc, et, _⟩, ⟨sa, sc, es, _⟩, _, _, _⟩ := hc
  simp only [chV, ed, et, es] at hK w1
  simp [sf_cobleref01_Arrive, chV, ed, et, es, hK, w1, h0, pf_pure, pureF]
  generalize hS : ({ t := _, L := _, H := _, lim := _, rd := _ } : St) = S
  obtain ⟨⟨e, s1⟩, hr, q1, qL, qA, qO⟩ := ao_loop c hok d t s g (cell := i) hk H A w2 hc' (some ⟨pb, 0, none⟩) pk (c.ticks - k) rfl w3 S (by subst hS; simp) (by subst hS; simp) (by subst hS; simp) (by subst hS; simp) (by subst hS; simp) (by subst hS; simp [ed, et, es]) (by subst hS; rfl) (by subst hS; exact w2.le)
  simp [aoLoop, SC.loops, sf_cobleref01_Arrive] at hr
  rw [hr]
  simp only at q1 qL qA qO
  subst q1
  have hne : nearL c g i k 1 (c.ticks - k) ≠ [] := fun h => by
    have := nearL_len c g i k 1 (c.ticks - k)
    rw [h] at this
    have := hok.pos.1
    simp at *
    omega
  rcases id qO with ⟨h, _⟩ | ⟨_, b, _, e12, _⟩
  · exact absurd h hne
  · have hl0 : ¬ (nearL c g i k 1 (c.ticks - k)).length = 0 := fun h => hne (List.eq_nil_of_length_eq_zero h)
    have qS := qO.sl
    rw [e12] at qS
    refine ⟨_, s1.H, ?_, w2.trans qA, qS⟩
    simp [e12, hl0, hne]
end Go.Proofs.YtojplagenejhdaaDoor
