/- Contracts of the functions, in the abstract machine: the reference's Moves and Passage. -/
import Derived.Test.YtojplagenejhdaaDoorRefE
set_option linter.all false
namespace Go.Proofs.YtojplagenejhdaaDoor
open Go Go.RowKit

theorem embE_two (c : Ch) (g a b u : Int) : embE c g [a] [b, u] = if embE c g [a] [b] = 0 then (if inN c.ticks u = true then 0 else 1) else embE c g [a] [b] := by
  unfold embE
  by_cases hok : ChOk c
  · rw [openE_eq hok, openE_eq hok]
    cases h1 : inN c.cells a <;> cases h2 : inN c.ticks b <;> cases h3 : inN c.ticks u <;> by_cases hg : 1 ≤ g ∧ g ≤ 100 <;> simp [h1, h2, h3, hg]
  · rw [openE_bad hok, openE_bad hok]
    simp

theorem embE_two' (c : Ch) (g a b u : Int) : embE c g [a, u] [b] = if embE c g [a] [b] = 0 then (if inN c.cells u = true then 0 else 1) else embE c g [a] [b] := by
  unfold embE
  by_cases hok : ChOk c
  · rw [openE_eq hok, openE_eq hok]
    cases h1 : inN c.cells a <;> cases h2 : inN c.ticks b <;> cases h3 : inN c.cells u <;> by_cases hg : 1 ≤ g ∧ g ≤ 100 <;> simp [h1, h2, h3, hg]
  · rw [openE_bad hok, openE_bad hok]
    simp

def rmLoop : SC := sf_cobleref01_Moves.body.loops.headD .skip

theorem rm_loop (N : Nat) (hN : N ≤ 1000) (X : AH) (br : Nat) (hX : X[br]? = some (.rw 1 (ints (List.replicate N 0)))) (S : St) (h13 : tget S.t 13 = .slice (some ⟨br, 0, none⟩) N N) (h14 : tget S.t 14 = .int .i64 0) (hH : S.H = X) (hlim : S.lim ≤ br) :
    ∃ r, exL Tryd.prog pf (.loop rmLoop) S = some r ∧ r.1 = .exit 0 ∧ r.2.L = S.L ∧ tget r.2.t 13 = tget S.t 13 ∧ r.2.H = X.set br (.rw 1 (ints (List.replicate N (-1)))) := by
  have hbl : br < X.length := (List.getElem?_eq_some_iff.1 hX).1
  have hend : rowT (fun _ => -1) N N = List.replicate N (-1) := by rw [rowT_all, List.map_const', List.length_range]
  have hX0 : X = X.set br (.rw 1 (ints (rowT (fun _ => -1) N 0))) := by
    rw [rowT_zero]
    apply List.ext_getElem?
    intro k
    by_cases e : k = br
    · subst e; rw [List.getElem?_set_self hbl, hX]
    · rw [List.getElem?_set_ne (fun h => e h.symm)]
  rw [← hend]
  refine loop_rule (I := fun n s' => ∃ i, i ≤ N ∧ n = N - i ∧ tget s'.t 13 = .slice (some ⟨br, 0, none⟩) N N ∧ tget s'.t 14 = .int .i64 i ∧ s'.L = S.L ∧ s'.lim ≤ br ∧ s'.H = X.set br (.rw 1 (ints (rowT (fun _ => -1) N i)))) ?_ N S
    ⟨0, by omega, by omega, h13, h14, rfl, hlim, by rw [hH]; exact hX0⟩
  rintro n s' ⟨i, hi, rfl, e13, e14, eL, el, eH⟩
  by_cases hlt : i < N
  rotate_left
  · have : i = N := by omega
    subst this
    simp [rmLoop, SC.loops, sf_cobleref01_Moves, e13, e14, eL, eH, h13]
  have hw1 : IntKind.i64.wrap ((i : Int) + 1) = (i : Int) + 1 := wrap_i64 (by omega) (by omega)
  have hg : ∀ y, (X.set br y)[br]? = some y := fun y => List.getElem?_set_self hbl
  have hle : i + 1 ≤ (ints (rowT (fun _ => -1) N i)).length := by rw [ints_length, rowT_len _ hi]; omega
  have hset : (ints (rowT (fun _ => -1) N i)).set i (.int .i64 (-1)) = ints (rowT (fun _ => -1) N (i + 1)) := by rw [ints_set, ← rowT_set _ hlt]
  have hlt' : (i : Int) < N := by omega
  generalize ints (rowT (fun _ => -1) N i) = cs at *
  simp [rmLoop, SC.loops, sf_cobleref01_Moves, e13, e14, eL, eH, h13, hlt, hlt', hw1, hg, hle, el, hset]
  exact ⟨_, by omega, i + 1, by omega, rfl, by omega, rfl⟩

theorem run_refMoves (c : Ch) (H : AH) (d t s : Value) (hc : ChIn H c d t s) (g a b u : Int) :
    ∃ v A, (∀ lim, apL Tryd.prog pf (.func (.func 33) #[] #[]) [chV c d t s, .int .i64 g, .int .i64 a, .int .i64 b, .int .i64 u] lim H = some (.tuple #[v, .int .i64 (embE c g [a] [b, u])], A)) ∧ Aft H A ∧ Sl A v (movL c g a b u).length (ints (movL c g a b u)) := by
  suffices key : ∃ v A, apL Tryd.prog pf (.func (.func 33) #[] #[]) [chV c d t s, .int .i64 g, .int .i64 a, .int .i64 b, .int .i64 u] 0 H = some (.tuple #[v, .int .i64 (embE c g [a] [b, u])], A) ∧ Aft H A ∧ Sl A v (movL c g a b u).length (ints (movL c g a b u)) by
    obtain ⟨v, A, h1, h2⟩ := key
    refine ⟨v, A, fun lim => ?_, h2⟩
    rw [← h1, apL_func _ _ _ _ _ _ (by rfl), apL_func _ _ _ _ _ _ (by rfl)]
    simp only [pf_pure, show pureF 33 = true from rfl, if_true]
  rw [apL_func _ _ _ _ _ _ (by rfl), sf_cobleref01_Moves_eq]
  have hK := fun lim => run_check c lim H d t s hc g a b
  have hE := embE_two c g a b u
  by_cases h0 : embE c g [a] [b] = 0
  rotate_left
  · have h1 : (embE c g [a] [b] != 0) = true := by simpa using h0
    rw [if_neg h0] at hE
    have hl : movL c g a b u = [] := by unfold movL; rw [if_neg (by rw [hE]; exact h0)]
    rw [hl, hE]
    refine ⟨.slice none 0 0, H, ?_, Aft.refl H, Sl.nil⟩
    obtain ⟨⟨da, dc, ed, _⟩, ⟨ta, tc, et, _⟩, ⟨sa, sc, es, _⟩, _, _, _⟩ := hc
    simp only [chV, ed, et, es] at hK
    simp [sf_cobleref01_Moves, chV, ed, et, es, hK, h1, pf_pure, pureF]
  rw [if_pos h0] at hE
  obtain ⟨hok, hg, i, k, hi, hk, rfl, rfl⟩ := embE_inv h0
  rw [h0] at hK
  have hTk := fun lim => run_IsTick c u lim H d t s hc
  cases hu : inN c.ticks u
  · rw [hu] at hE hTk
    have hl : movL c g i k u = [] := by unfold movL; rw [if_neg (by rw [hE]; simp)]
    rw [hl, hE]
    refine ⟨.slice none 0 0, H, ?_, Aft.refl H, Sl.nil⟩
    obtain ⟨⟨da, dc, ed, _⟩, ⟨ta, tc, et, _⟩, ⟨sa, sc, es, _⟩, _, _, _⟩ := hc
    simp only [chV, ed, et, es] at hK hTk
    simp [sf_cobleref01_Moves, chV, ed, et, es, hK, hTk, pf_pure, pureF]
  rw [hu, if_pos rfl] at hE
  rw [hu] at hTk
  obtain ⟨u, hu2, rfl⟩ := inN_iff.1 hu
  rw [hE, movL_ok hok hg hi hk hu2]
  obtain ⟨p0, p1⟩ := hok.pos
  obtain ⟨m0, m1, m2⟩ := hok.mul
  have hT : c.ticks ≤ 60 := hok.2.2.2.1.2
  have hwm : IntKind.i64.wrap (c.w * c.h) = (c.cells : Int) := by rw [m2]; exact wrap_i64 (by omega) (by omega)
  have hCl := fun lim A => run_CellsCh c lim A d t s
  rw [hwm] at hCl
  have hF := run_forth c hok H d t s hc g (cell := i) hk
  obtain ⟨⟨da, dc, ed, _⟩, ⟨ta, tc, et, _⟩, ⟨sa, sc, es, _⟩, _, _, _⟩ := hc
  simp only [chV, ed, et, es] at hK hTk hCl
  unfold leastL
  by_cases hku : u < k
  · rw [if_pos hku]
    have hku' : (u : Int) < k := by omega
    have hmx : c.cells ≤ maxA := Nat.le_trans (show c.cells ≤ 2000 by omega) (by decide)
    simp [sf_cobleref01_Moves, chV, ed, et, es, hK, hTk, hku', hCl, hmx, zeros_ints', pf_pure, pureF]
    generalize hS : ({ t := _, L := _, H := _, lim := _, rd := _ } : St) = S
    obtain ⟨⟨e, s1⟩, hr, q1, qL, q13, qH⟩ := rm_loop c.cells (by omega) (H ++ [.rw 1 (ints (List.replicate c.cells 0))]) H.length (by rw [List.getElem?_append_right (Nat.le_refl _)]; simp) S (by subst hS; simp) (by subst hS; simp) (by subst hS; rfl) (by subst hS; exact Nat.le_refl _)
    simp [rmLoop, SC.loops, sf_cobleref01_Moves] at hr
    rw [hr]
    simp only at q1 qL q13 qH
    subst q1
    have j13 : tget s1.t 13 = .slice (some ⟨H.length, 0, none⟩) c.cells c.cells := by rw [q13]; subst hS; simp
    refine ⟨.slice (some ⟨H.length, 0, none⟩) c.cells c.cells, s1.H, ?_, by rw [qH]; exact (Aft.push (Aft.refl H) _).set (Nat.le_refl _) _, ?_⟩
    · simp [j13]
    · have := Sl.made (H := s1.H) (b := H.length) (l := List.replicate c.cells (-1)) (n := c.cells) (k := c.cells) (by rw [qH, List.getElem?_set_self (by simp)]) (by simp)
      rw [List.length_replicate] at this
      exact this
  · rw [if_neg hku]
    have hku' : ¬ (u : Int) < k := by omega
    obtain ⟨A, pb, pk, w1, w2, w3⟩ := hF
    obtain ⟨b, o, bm, ea, x1, x2⟩ := w3 (u - k) (by omega)
    cases ea
    have hw1 : IntKind.i64.wrap ((u : Int) - (k : Int)) = ((u - k : Nat) : Int) := by rw [wrap_i64 (by omega) (by omega)]; omega
    have hlt : u - k < c.ticks - k := by omega
    have hlt' : ((u - k : Nat) : Int) < ((c.ticks - k : Nat) : Int) := by omega
    simp only [hcell, Nat.zero_add] at x1
    simp only [chV, ed, et, es] at w1
    refine ⟨.slice (some ⟨bm, 0, none⟩) c.cells c.cells, A, ?_, w2, Sl.made x2 (by rw [rowP_len])⟩
    generalize c.ticks - k = M at *
    generalize u - k = q at *
    simp [sf_cobleref01_Moves, chV, ed, et, es, hK, hTk, hku', w1, hw1, hlt, hlt', x1, pf_pure, pureF]

/-! ### Passage -/

/-- The least cell of those seen so far that is reached. -/
def bstep (p : List Int) (best x : Int) : Int := if 0 ≤ p.getD x.toNat 0 ∧ (best < 0 ∨ x < best) then x else best

theorem bfold_inv (p : List Int) : ∀ (l : List Int) (b : Int), (∀ x ∈ l, 0 ≤ x) → (∀ x ∈ l, 0 ≤ p.getD x.toNat 0 → l.foldl (bstep p) b ≤ x) ∧ (l.foldl (bstep p) b = b ∨ (l.foldl (bstep p) b ∈ l ∧ 0 ≤ p.getD (l.foldl (bstep p) b).toNat 0)) ∧ (0 ≤ b → l.foldl (bstep p) b ≤ b) ∧ (b < 0 → (∃ x ∈ l, 0 ≤ p.getD x.toNat 0) → 0 ≤ l.foldl (bstep p) b)
  | [], b, _ => ⟨by simp, .inl rfl, fun _ => Int.le_refl _, fun _ ⟨x, hx, _⟩ => by simp at hx⟩
  | y :: l, b, h => by
    obtain ⟨i1, i2, i3, i4⟩ := bfold_inv p l (bstep p b y) (fun x hx => h x (by simp [hx]))
    have hy := h y (by simp)
    simp only [List.foldl_cons]
    generalize hR : l.foldl (bstep p) (bstep p b y) = R at *
    have hb : bstep p b y = if 0 ≤ p.getD y.toNat 0 ∧ (b < 0 ∨ y < b) then y else b := rfl
    refine ⟨fun x hx hp => ?_, ?_, fun hb0 => ?_, fun hb0 hex => ?_⟩
    · rcases List.mem_cons.1 hx with rfl | hx
      · by_cases hc : b < 0 ∨ x < b
        · rw [if_pos ⟨hp, hc⟩] at hb
          rw [hb] at i3
          exact i3 hy
        · rw [if_neg (fun h => hc h.2)] at hb
          rw [hb] at i3
          have := i3 (by omega)
          omega
      · exact i1 x hx hp
    · by_cases hc : 0 ≤ p.getD y.toNat 0 ∧ (b < 0 ∨ y < b)
      · rw [if_pos hc] at hb
        rcases i2 with i2 | ⟨i2, i2'⟩
        · rw [i2, hb]; exact .inr ⟨by simp, hc.1⟩
        · exact .inr ⟨by simp [i2], i2'⟩
      · rw [if_neg hc] at hb
        rcases i2 with i2 | ⟨i2, i2'⟩
        · rw [i2, hb]; exact .inl rfl
        · exact .inr ⟨by simp [i2], i2'⟩
    · by_cases hc : 0 ≤ p.getD y.toNat 0 ∧ (b < 0 ∨ y < b)
      · rw [if_pos hc] at hb
        have := i3 (by omega)
        omega
      · rw [if_neg hc] at hb
        have := i3 (by omega)
        omega
    · by_cases hc : 0 ≤ p.getD y.toNat 0 ∧ (b < 0 ∨ y < b)
      · rw [if_pos hc] at hb
        rcases i2 with i2 | ⟨i2, i2'⟩
        · omega
        · exact h _ (by simp [i2])
      · rw [if_neg hc] at hb
        obtain ⟨x, hx, hp⟩ := hex
        rcases List.mem_cons.1 hx with rfl | hx
        · exact absurd ⟨hp, .inl hb0⟩ hc
        · exact i4 (by omega) ⟨x, hx, hp⟩

/-- The cell that the reference takes is that of the passage. -/
theorem bfold_psg {c : Ch} (hok : ChOk c) {g : Int} {cell tick j to q : Nat} (hq : q < j) (h : Reach c g cell tick 1 (j - q) (psgT c g cell tick j to q)) :
    (nearTo c (psgT c g cell tick j to q) 6).foldl (bstep (rowP c g cell tick 1 (j - 1 - q))) (-1) = psgT c g cell tick j to (q + 1) := by
  obtain ⟨_, h2, h3, h4⟩ := psgT_step hok hq h
  have hi := h.1
  have hn := nearTo_cell hok hi 6
  obtain ⟨i1, i2, _, i4⟩ := bfold_inv (rowP c g cell tick 1 (j - 1 - q)) (nearTo c (psgT c g cell tick j to q) 6) (-1) (fun x hx => by obtain ⟨y, _, rfl⟩ := hn x hx; omega)
  have hmem : ∀ y : Nat, (y : Int) ∈ nearTo c (psgT c g cell tick j to q) 6 ↔ nigh c (psgT c g cell tick j to q) y := fun y => by
    rw [mem_nearTo]
    unfold nigh
    constructor
    · rintro (h | ⟨k, hk, h⟩)
      · exact .inl (by omega)
      · exact .inr ⟨k, hk, h⟩
    · rintro (h | ⟨k, hk, h⟩)
      · exact .inl (by omega)
      · exact .inr ⟨k, hk, h⟩
  have hT := (hmem _).2 h2
  have hle := i1 _ hT (by simpa using h3.2)
  have hge0 := i4 (by omega) ⟨_, hT, by simpa using h3.2⟩
  generalize (nearTo c (psgT c g cell tick j to q) 6).foldl (bstep (rowP c g cell tick 1 (j - 1 - q))) (-1) = R at *
  rcases i2 with i2 | ⟨i2, i2'⟩
  · omega
  · obtain ⟨y, hy, rfl⟩ := hn _ i2
    have := h4 y ((hmem y).1 i2) ⟨hy, by simpa using i2'⟩
    omega

def pkLoop : SC := sf_cobleref01_Passage.body.loops.tail.headD .skip

theorem pk_loop (c : Ch) (l : List Int) (hl : ∀ x ∈ l, ∃ y : Nat, y < c.cells ∧ x = y) (hll : l.length ≤ 1000) (p : List Int) (hp : p.length = c.cells) (X : AH) (pb o pk M m bm : Nat) (hm : m < M) (hc : hcell X pb (o + m) = some (.slice (some ⟨bm, 0, none⟩) c.cells c.cells)) (hb : X[bm]? = some (.rw 1 (ints p))) (na nk : Nat) (hna : X[na]? = some (.rw 1 (ints l))) (S : St)
    (h14 : tget S.t 14 = .slice (some ⟨pb, o, none⟩) M pk) (h16 : tget S.t 16 = .int .i64 m) (h17 : tget S.t 17 = .slice (some ⟨na, 0, none⟩) l.length nk) (h18 : tget S.t 18 = .int .i64 (-1)) (h19 : tget S.t 19 = .int .i64 0) (hH : S.H = X) :
    ∃ r, exL Tryd.prog pf (.loop pkLoop) S = some r ∧ r.1 = .exit 2 ∧ r.2.L = S.L ∧ r.2.lim = S.lim ∧ r.2.rd = S.rd ∧ r.2.H = X ∧ (∀ k, k ∈ [5, 14, 15, 16] → tget r.2.t k = tget S.t k) ∧ tget r.2.t 18 = .int .i64 (l.foldl (bstep p) (-1)) := by
  refine loop_rule (I := fun n s' => ∃ k, k ≤ l.length ∧ n = l.length - k ∧ (∀ k, k ∈ [5, 14, 15, 16] → tget s'.t k = tget S.t k) ∧ tget s'.t 17 = .slice (some ⟨na, 0, none⟩) l.length nk ∧ tget s'.t 18 = .int .i64 ((l.take k).foldl (bstep p) (-1)) ∧ tget s'.t 19 = .int .i64 k ∧ s'.L = S.L ∧ s'.lim = S.lim ∧ s'.rd = S.rd ∧ s'.H = X) ?_ l.length S
    ⟨0, by omega, by omega, fun _ _ => rfl, h17, h18, h19, rfl, rfl, rfl, hH⟩
  rintro n s' ⟨k, hk, rfl, eK, e17, e18, e19, eL, el, er, eH⟩
  have e5 : tget s'.t 5 = tget S.t 5 := eK 5 (by simp)
  have e14 : tget s'.t 14 = _ := (eK 14 (by simp)).trans h14
  have e15 : tget s'.t 15 = tget S.t 15 := eK 15 (by simp)
  have e16 : tget s'.t 16 = _ := (eK 16 (by simp)).trans h16
  by_cases hlt : k < l.length
  rotate_left
  · have : k = l.length := by omega
    subst this
    rw [List.take_length] at e18
    simp [pkLoop, SC.loops, sf_cobleref01_Passage, e5, e14, e15, e16, e17, e18, e19, eL, el, er, eH, h14, h16]
  obtain ⟨x, hx, ex⟩ := hl (l.getD k 0) (by rw [List.getD_eq_getElem?_getD, List.getElem?_eq_getElem hlt]; simp)
  have hgn := ints_getE l k hlt
  rw [ex] at hgn
  have hgp := ints_getE p x (by omega)
  have hw1 : IntKind.i64.wrap ((k : Int) + 1) = (k : Int) + 1 := wrap_i64 (by omega) (by omega)
  have hltk : (k : Int) < l.length := by omega
  have hx' : (x : Int) < c.cells := by omega
  have hm' : (m : Int) < M := by omega
  have hstep : (l.take (k + 1)).foldl (bstep p) (-1) = bstep p ((l.take k).foldl (bstep p) (-1)) x := by
    rw [List.take_add_one, List.foldl_append, List.getElem?_eq_getElem hlt]
    have : l[k] = (x : Int) := by rw [← ex, List.getD_eq_getElem?_getD, List.getElem?_eq_getElem hlt]; rfl
    simp [this]
  obtain ⟨bst, hbst⟩ : ∃ b, b = (l.take k).foldl (bstep p) (-1) := ⟨_, rfl⟩
  rw [← hbst] at hstep e18
  have hbs : bstep p bst x = if 0 ≤ p.getD x 0 ∧ (bst < 0 ∨ (x : Int) < bst) then (x : Int) else bst := by unfold bstep; simp only [Int.toNat_natCast]
  rw [hbs] at hstep
  simp only [hcell] at hc
  generalize p.getD x 0 = P at *
  by_cases q1 : 0 ≤ P
  · by_cases q2 : bst < 0
    · rw [if_pos ⟨q1, .inl q2⟩] at hstep
      simp [pkLoop, SC.loops, sf_cobleref01_Passage, e5, e14, e15, e16, e17, e18, e19, eL, el, er, eH, h14, h16, hlt, hltk, hm, hm', hc, hb, hna, hgn, hgp, hx, hx', q1, q2, hw1]
      exact ⟨_, by omega, k + 1, by omega, rfl, hstep.symm, by omega⟩
    · by_cases q3 : (x : Int) < bst
      · rw [if_pos ⟨q1, .inr q3⟩] at hstep
        simp [pkLoop, SC.loops, sf_cobleref01_Passage, e5, e14, e15, e16, e17, e18, e19, eL, el, er, eH, h14, h16, hlt, hltk, hm, hm', hc, hb, hna, hgn, hgp, hx, hx', q1, q2, q3, hw1]
        exact ⟨_, by omega, k + 1, by omega, rfl, hstep.symm, by omega⟩
      · rw [if_neg (by omega)] at hstep
        simp [pkLoop, SC.loops, sf_cobleref01_Passage, e5, e14, e15, e16, e17, e18, e19, eL, el, er, eH, h14, h16, hlt, hltk, hm, hm', hc, hb, hna, hgn, hgp, hx, hx', q1, q2, q3, hw1]
        exact ⟨_, by omega, k + 1, by omega, rfl, hstep.symm, by omega⟩
  · rw [if_neg (by omega)] at hstep
    simp [pkLoop, SC.loops, sf_cobleref01_Passage, e5, e14, e15, e16, e17, e18, e19, eL, el, er, eH, h14, h16, hlt, hltk, hm, hm', hc, hb, hna, hgn, hgp, hx, hx', q1, hw1]
    exact ⟨_, by omega, k + 1, by omega, rfl, hstep.symm, by omega⟩
end Go.Proofs.YtojplagenejhdaaDoor
