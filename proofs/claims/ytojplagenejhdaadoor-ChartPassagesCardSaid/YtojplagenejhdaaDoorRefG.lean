/- Contracts of the functions, in the abstract machine: the reference's Passage, the whole. -/
import Derived.Test.YtojplagenejhdaaDoorRefF
set_option linter.all false
namespace Go.Proofs.YtojplagenejhdaaDoor
open Go Go.RowKit

/-- A list of numbers in a block of its own. -/
def OwnP (A : AH) (v : Value) (l : List Int) : Prop := ∃ b k, v = .slice (some ⟨b, 0, none⟩) l.length k ∧ A[b]? = some (.rw 1 (ints l))

def poLoop : SC := sf_cobleref01_Passage.body.loops.headD .skip

set_option maxHeartbeats 1000000 in
theorem po_loop (c : Ch) (hok : ChOk c) (d t s : Value) (g : Int) {cell tick j to : Nat} (hj : j < c.ticks - tick) (hr : Reach c g cell tick 1 j to) (H0 X : AH) (hH0 : Aft H0 X) (hc : ChIn H0 c d t s) (pb pk M : Nat) (hM : M = c.ticks - tick) (hP : Past X (some ⟨pb, 0, none⟩) M c.cells (rowP c g cell tick 1)) (S : St)
    (h5 : tget S.t 5 = .pointer (some ⟨5, 0, some 0⟩)) (h14 : tget S.t 14 = .slice (some ⟨pb, 0, none⟩) M pk) (h15 : OwnP X (tget S.t 15) [(to : Int)]) (h16 : tget S.t 16 = .int .i64 ((j : Int) - 1)) (hL : S.L = [(5, 0, .cells [.int .i64 c.w, .int .i64 c.h, d, t, s])]) (hH : S.H = X) :
    ∃ r, exL Tryd.prog pf (.loop poLoop) S = some r ∧ r.1 = .exit 0 ∧ r.2.L = S.L ∧ Aft X r.2.H ∧ OwnP r.2.H (tget r.2.t 15) (trT (psgT c g cell tick j to) (j + 1)) := by
  have hT : c.ticks ≤ 60 := hok.2.2.2.1.2
  refine loop_rule (I := fun n s' => ∃ q, q ≤ j ∧ n = j - q ∧ tget s'.t 5 = .pointer (some ⟨5, 0, some 0⟩) ∧ tget s'.t 14 = .slice (some ⟨pb, 0, none⟩) M pk ∧ tget s'.t 16 = .int .i64 ((j : Int) - 1 - q) ∧ s'.L = S.L ∧ Aft X s'.H ∧ OwnP s'.H (tget s'.t 15) (trT (psgT c g cell tick j to) (q + 1))) ?_ j S
    ⟨0, by omega, by omega, h5, h14, by rw [h16]; congr 1; omega, rfl, by rw [hH]; exact Aft.refl X, by rw [hH]; exact h15⟩
  rintro n s' ⟨q, hq, rfl, e5, e14, e16, eL, eA, eO⟩
  obtain ⟨A, hA⟩ : ∃ A, s'.H = A := ⟨_, rfl⟩
  rw [hA] at eA eO
  rw [hL] at eL
  by_cases hlt : q < j
  rotate_left
  · have : q = j := by omega
    subst this
    have e16' : tget s'.t 16 = .int .i64 (-1) := by rw [e16]; congr 1; omega
    simp [poLoop, SC.loops, sf_cobleref01_Passage, e5, e14, e16', eL, hA, hL]
    exact ⟨eA, eO⟩
  obtain ⟨m, hm⟩ : ∃ m, m = j - 1 - q := ⟨_, rfl⟩
  have e16' : tget s'.t 16 = .int .i64 m := by rw [e16]; congr 1; omega
  have hrq := psgT_reach hok hr q (by omega)
  have hfold := bfold_psg hok hlt hrq
  rw [← hm] at hfold
  obtain ⟨ob, ok, e15, hob⟩ := eO
  have hTq : psgT c g cell tick j to q < c.cells := hrq.1
  have hl0 : (trT (psgT c g cell tick j to) (q + 1)).length = q + 1 := trT_len _ _
  have hg0 := ints_getE (trT (psgT c g cell tick j to) (q + 1)) 0 (by omega)
  have hg1 : (trT (psgT c g cell tick j to) (q + 1)).getD 0 0 = (psgT c g cell tick j to q : Int) := rfl
  rw [hg1] at hg0
  obtain ⟨nv, A2, w1, w2, w3⟩ := run_near c hok A d t s (hc.ext (hH0.trans eA).ext) hTq
  obtain ⟨na, nk, hna, rfl, _, hnA⟩ := w3
  have hA2 : Aft X A2 := eA.trans w2
  obtain ⟨b', o', bm, ea, x1, x2⟩ := hP m (by omega)
  cases ea
  have x1' := hcellE hA2.ext x1
  have x2' := hA2.ext _ _ x2
  have hw1 : IntKind.i64.wrap ((m : Int) - 1) = (m : Int) - 1 := wrap_i64 (by omega) (by omega)
  have hm0 : (0 : Int) ≤ m := by omega
  have hnear := nearTo_cell hok hTq 6
  have hnl := nearTo_len c (psgT c g cell tick j to q) 6
  have hsucc : trT (psgT c g cell tick j to) (q + 1 + 1) = (psgT c g cell tick j to (q + 1) : Int) :: trT (psgT c g cell tick j to) (q + 1) := rfl
  obtain ⟨Q, hQ⟩ : ∃ Q, Q = q + 1 := ⟨_, rfl⟩
  have hq1 : (0 : Int) < (Q : Int) := by omega
  have hq2 : 0 < Q := by omega
  obtain ⟨⟨da, dc, ed, _⟩, ⟨ta, tc, et, _⟩, ⟨sa, sc, es, _⟩, _, _, _⟩ := hc
  simp only [chV, ed, et, es] at w1
  rw [ed, et, es] at eL hL
  rw [hl0, ← hQ] at e15
  have hob2 : ∀ Y, Aft A Y → Y[ob]? = some (.rw 1 (ints (trT (psgT c g cell tick j to) (q + 1)))) := fun Y hY => hY.ext _ _ hob
  have hob3 := hob2 A2 w2
  obtain ⟨V, hV⟩ : ∃ V, V = psgT c g cell tick j to (q + 1) := ⟨_, rfl⟩
  rw [← hV] at hfold hsucc
  generalize hcs : ints (trT (psgT c g cell tick j to) (q + 1)) = cs at *
  have hcl : cs.length = Q := by rw [← hcs, ints_length, hl0, hQ]
  simp [-oneC, -List.all_eq_false, -Int.natCast_add, poLoop, SC.loops, sf_cobleref01_Passage, e5, e14, e15, e16', eL, hA, hL, hm0, hob, hg0, hq1, hq2, w1]
  generalize hS : ({ t := _, L := _, H := _, lim := _, rd := _ } : St) = S2
  obtain ⟨⟨e, s1⟩, hr1, q1, qL, ql, qr, qH, qK, q18⟩ := pk_loop c (nearTo c (psgT c g cell tick j to q) 6) hnear (by omega) (rowP c g cell tick 1 m) (rowP_len ..) A2 pb 0 pk M m bm (by omega) x1' x2' na nk hnA S2 (by subst hS; simp [e14]) (by subst hS; simp [e16']) (by subst hS; simp) (by subst hS; simp) (by subst hS; simp) (by subst hS; rfl)
  simp [pkLoop, SC.loops, sf_cobleref01_Passage] at hr1
  rw [hr1]
  simp only at q1 qL ql qr qH qK q18
  subst q1
  rw [hfold] at q18
  have k5 : tget s1.t 5 = .pointer (some ⟨5, 0, some 0⟩) := (qK 5 (by simp)).trans (by subst hS; simp [e5])
  have k14 : tget s1.t 14 = .slice (some ⟨pb, 0, none⟩) M pk := (qK 14 (by simp)).trans (by subst hS; simp [e14])
  have k15 : tget s1.t 15 = .slice (some ⟨ob, 0, none⟩) Q ok := (qK 15 (by simp)).trans (by subst hS; simp [e15])
  have k16 : tget s1.t 16 = .int .i64 m := (qK 16 (by simp)).trans (by subst hS; simp [e16'])
  have jL : s1.L = [(5, 0, .cells [.int .i64 c.w, .int .i64 c.h, .slice da c.depth.length dc, .slice ta c.tide.length tc, .slice sa c.swell.length sc])] := by rw [qL]; subst hS; rfl
  have hmx : 1 + Q ≤ maxA := Nat.le_trans (show 1 + Q ≤ 2000 by omega) (by decide)
  have hbl : ob < A2.length := (List.getElem?_eq_some_iff.1 hob3).1
  have hcA : ∀ L x, cellsAt L (A2 ++ x) ⟨ob, 0, none⟩ Q = some cs := fun L x => by
    rw [← hcl]
    refine cellsAt_of cs 0 fun m y hy => ?_
    simp only [hcell, Nat.zero_add]
    rw [List.getElem?_append_left hbl, hob3]
    exact hy
  have hone : cs.all oneC = true := by rw [← hcs]; exact one_ints _
  have hnlc : nlL cs = true := by rw [← hcs]; exact nlL_ints _
  simp [-oneC, oneC_int, -List.all_eq_false, -Int.natCast_add, k5, k14, k15, k16, q18, jL, qH, hmx, hw1, hcA, hone, hnlc, show ¬ Q = 0 by omega, and_assoc]
  refine ⟨_, by omega, q + 1, by omega, rfl, by omega, hA2.push _, A2.length + 1, 1 + Q + 1, ?_, ?_⟩
  · rw [trT_len]; simp; omega
  · rw [List.getElem?_append_right (by omega), Nat.add_sub_cancel_left, hsucc]
    simp [← hcs, ints]

theorem run_refPassage (c : Ch) (H : AH) (d t s : Value) (hc : ChIn H c d t s) (g a b u : Int) :
    ∃ v A l e, (∀ lim, apL Tryd.prog pf (.func (.func 29) #[] #[]) [chV c d t s, .int .i64 g, .int .i64 a, .int .i64 b, .int .i64 u] lim H = some (.tuple #[v, .int .i64 e], A)) ∧ Aft H A ∧ Sl A v l.length (ints l) ∧ PsgA c g a b u l e := by
  suffices key : ∃ v A l e, apL Tryd.prog pf (.func (.func 29) #[] #[]) [chV c d t s, .int .i64 g, .int .i64 a, .int .i64 b, .int .i64 u] 0 H = some (.tuple #[v, .int .i64 e], A) ∧ Aft H A ∧ Sl A v l.length (ints l) ∧ PsgA c g a b u l e by
    obtain ⟨v, A, l, e, h1, h2⟩ := key
    refine ⟨v, A, l, e, fun lim => ?_, h2⟩
    rw [← h1, apL_func _ _ _ _ _ _ (by rfl), apL_func _ _ _ _ _ _ (by rfl)]
    simp only [pf_pure, show pureF 29 = true from rfl, if_true]
  rw [apL_func _ _ _ _ _ _ (by rfl), sf_cobleref01_Passage_eq]
  obtain ⟨va, A1, w1, w2, w3⟩ := run_refArrive c H d t s hc g a b
  have hE := embE_two' c g a b u
  by_cases h0 : embE c g [a] [b] = 0
  rotate_left
  · have h1 : (embE c g [a] [b] != 0) = true := by simpa using h0
    rw [if_neg h0] at hE
    refine ⟨.slice none 0 0, H, [], embE c g [a] [b], ?_, Aft.refl H, Sl.nil, .inl ⟨by rw [hE]; exact h0, rfl, hE.symm⟩⟩
    obtain ⟨aa, ac, ea, _⟩ := id w3
    obtain ⟨⟨da, dc, ed, _⟩, ⟨ta, tc, et, _⟩, ⟨sa, sc, es, _⟩, _, _, _⟩ := hc
    simp only [chV, ed, et, es, ea] at w1
    simp [sf_cobleref01_Passage, chV, ed, et, es, w1, h1, pf_pure, pureF]
  rw [if_pos h0] at hE
  obtain ⟨hok, hg, i, k, hi, hk, rfl, rfl⟩ := embE_inv h0
  have hT : c.ticks ≤ 60 := hok.2.2.2.1.2
  rw [h0] at w1
  rw [arrL_ok hok hg hi hk] at w3
  have hc1 : ChIn A1 c d t s := hc.ext w2.ext
  have hI := fun lim => run_IsCellOk c hok u lim A1 d t s hc1
  obtain ⟨aa, ac, ea, hva⟩ := id w3
  rw [nearL_len] at ea
  cases hu : inN c.cells u
  · rw [hu] at hE hI
    refine ⟨.slice none 0 0, H, [], 1, ?_, Aft.refl H, Sl.nil, .inl ⟨by rw [hE]; simp, rfl, by rw [hE]; simp⟩⟩
    obtain ⟨⟨da, dc, ed, _⟩, ⟨ta, tc, et, _⟩, ⟨sa, sc, es, _⟩, _, _, _⟩ := hc
    simp only [chV, ed, et, es, ea] at w1 hI
    simp [sf_cobleref01_Passage, chV, ed, et, es, w1, hI, pf_pure, pureF]
  rw [hu, if_pos rfl] at hE
  rw [hu] at hI
  obtain ⟨to, hto, rfl⟩ := inN_iff.1 hu
  obtain ⟨b3, o3, rfl, c3⟩ := hva to (.int .i64 ((nearL c g i k 1 (c.ticks - k)).getD to 0)) (ints_getE _ to (by rw [nearL_len]; exact hto))
  have hto' : (to : Int) < c.cells := by omega
  have hnear := nearL_get c g i k 1 to hto (c.ticks - k) (fun m _ => by omega)
  obtain ⟨A3, pb, pk, x1, x2, x3⟩ := run_forth c hok A1 d t s hc1 g (cell := i) hk
  simp only [hcell] at c3
  rcases hnear with ⟨m, n1, n2, n3, n4⟩ | ⟨n1, n4⟩
  rotate_left
  · rw [n4] at c3
    refine ⟨.slice none 0 0, H, [], 3, ?_, Aft.refl H, Sl.nil, .inr (.inr ⟨hE, rfl, rfl, fun m hm => by simpa using n1 m (by simpa using hm)⟩)⟩
    obtain ⟨⟨da, dc, ed, _⟩, ⟨ta, tc, et, _⟩, ⟨sa, sc, es, _⟩, _, _, _⟩ := hc
    simp only [chV, ed, et, es, ea] at w1 hI
    simp [sf_cobleref01_Passage, chV, ed, et, es, w1, hI, hto, hto', c3, pf_pure, pureF]
  · rw [n4, show (k : Int) + (m : Int) * 1 = ((k + m : Nat) : Int) by omega] at c3
    have c3' : hcell A3 b3 (o3 + to) = some (.int .i64 ((k + m : Nat) : Int)) := hcellE x2.ext c3
    have c3'' : ∀ y : AH, hcell (A3 ++ y) b3 (o3 + to) = some (.int .i64 ((k + m : Nat) : Int)) := fun y => hcellE (Ext.push A3 y) c3'
    simp only [hcell] at c3''
    have hneg : ¬ ((k + m : Nat) : Int) < 0 := by omega
    have hw1 : IntKind.i64.wrap (((k + m : Nat) : Int) - (k : Int)) = (m : Int) := by rw [wrap_i64 (by omega) (by omega)]; omega
    have hw2 : IntKind.i64.wrap ((m : Int) - 1) = (m : Int) - 1 := wrap_i64 (by omega) (by omega)
    obtain ⟨⟨da, dc, ed, _⟩, ⟨ta, tc, et, _⟩, ⟨sa, sc, es, _⟩, _, _, _⟩ := id hc
    simp only [chV, ed, et, es, ea] at w1 hI
    simp only [chV, ed, et, es] at x1
    simp [-Int.natCast_add, sf_cobleref01_Passage, chV, ed, et, es, w1, hI, hto, hto', c3, hneg, x1, c3'', hw1, hw2, pf_pure, pureF]
    generalize hS : ({ t := _, L := _, H := _, lim := _, rd := _ } : St) = S
    obtain ⟨⟨e, s1⟩, hr, q1, qL, qA, qO⟩ := po_loop c hok d t s g (cell := i) (tick := k) (j := m) (to := to) n1 n2 H (A3 ++ [.rw 1 [.int .i64 to]]) ((w2.trans x2).push _) hc pb pk (c.ticks - k) rfl (x3.ext (Ext.push _ _)) S (by subst hS; simp) (by subst hS; simp) (by subst hS; exact ⟨A3.length, 1, by simp, by simp [ints]⟩) (by subst hS; simp) (by subst hS; simp [ed, et, es]) (by subst hS; rfl)
    simp [poLoop, SC.loops, sf_cobleref01_Passage] at hr
    rw [hr]
    simp only at q1 qL qA qO
    subst q1
    obtain ⟨ob, ok, e15, hob⟩ := qO
    rw [trT_len] at e15
    refine ⟨.slice (some ⟨ob, 0, none⟩) (m + 1) ok, s1.H, trT (psgT c g i k m to) (m + 1), 0, ?_, ((w2.trans x2).push _).trans qA, Sl.made hob (by rw [trT_len]), .inr (.inl ⟨hE, rfl, m, by simpa using n1, fun n hn => by simpa using n3 n hn, by simpa using n2, by simp⟩)⟩
    simp [e15]

theorem PsgA.unique {c : Ch} {g a b u : Int} {l l' : List Int} {e e' : Int} (h : PsgA c g a b u l e) (h' : PsgA c g a b u l' e') : l = l' ∧ e = e' := by
  rcases h with ⟨h1, rfl, rfl⟩ | ⟨h1, rfl, j, h2, h3, h4, rfl⟩ | ⟨h1, rfl, rfl, h2⟩
  · rcases h' with ⟨k1, rfl, rfl⟩ | ⟨k1, _⟩ | ⟨k1, _⟩
    · exact ⟨rfl, rfl⟩
    · exact absurd k1 h1
    · exact absurd k1 h1
  · rcases h' with ⟨k1, _⟩ | ⟨k1, rfl, j', k2, k3, k4, rfl⟩ | ⟨k1, rfl, rfl, k2⟩
    · exact absurd h1 k1
    · have x1 : ¬ j < j' := fun h => k3 _ h h4
      have x2 : ¬ j' < j := fun h => h3 _ h k4
      have : j = j' := by omega
      subst this
      exact ⟨rfl, rfl⟩
    · exact absurd h4 (k2 _ h2)
  · rcases h' with ⟨k1, _⟩ | ⟨k1, rfl, j', k2, k3, k4, rfl⟩ | ⟨k1, rfl, rfl, k2⟩
    · exact absurd h1 k1
    · exact absurd k4 (h2 _ k2)
    · exact ⟨rfl, rfl⟩
end Go.Proofs.YtojplagenejhdaaDoor
