/- Contracts of the functions, in the abstract machine: the reference's rows of moves. -/
import Derived.Test.YtojplagenejhdaaDoorRefA
import Derived.Test.YtojplagenejhdaaDoorRetA
set_option linter.all false
namespace Go.Proofs.YtojplagenejhdaaDoor
open Go Go.RowKit

/-- One cell more. -/
def refStep (p : List Int) (i : Nat) (acc x : Int) : Int :=
  if p.getD x.toNat 0 < 0 then acc else
  if acc < 0 ∨ (if x = i then p.getD x.toNat 0 else p.getD x.toNat 0 + 1) < acc then (if x = i then p.getD x.toNat 0 else p.getD x.toNat 0 + 1) else acc

theorem ref_fewN {c : Ch} (hok : ChOk c) {p : List Int} (hp : ∀ i, -1 ≤ p.getD i 0) {i : Nat} : ∀ n, n ≤ 6 → (nearTo c i n).foldl (refStep p i) (-1) = fewN c.w c.h p i n
  | 0, _ => by
    have := hp i
    simp only [nearTo, List.foldl_cons, List.foldl_nil, refStep, fewN, List.range_zero, Int.toNat_natCast, if_true]
    split
    · omega
    · rw [if_pos (by omega)]
  | n + 1, hn => by
    have ih := ref_fewN hok hp (i := i) n (by omega)
    rw [fewN_succ]
    unfold nearTo fewStep
    cases hx : nxt c.w c.h i n with
    | none => exact ih
    | some j =>
      simp only
      rw [List.foldl_append, ih]
      have hne : j ≠ i := fun e => nxt_ne hok.1.1 hok.2.1.1 (show n < 6 by omega) (by rw [hx, e])
      simp only [List.foldl_cons, List.foldl_nil, refStep, if_neg hne]
      by_cases h1 : p.getD j.toNat 0 < 0
      · rw [if_pos h1, if_neg (by omega)]
      · rw [if_neg h1]
        by_cases h2 : fewN c.w c.h p i n < 0 ∨ p.getD j.toNat 0 + 1 < fewN c.w c.h p i n
        · rw [if_pos h2, if_pos ⟨by omega, h2⟩]
        · rw [if_neg h2, if_neg (fun h => h2 h.2)]

theorem refStep_bound {p : List Int} (hp : ∀ i, -1 ≤ p.getD i 0 ∧ p.getD i 0 ≤ 1000) {i : Nat} {acc x : Int} (h : -1 ≤ acc ∧ acc ≤ 1001) : -1 ≤ refStep p i acc x ∧ refStep p i acc x ≤ 1001 := by
  have := hp x.toNat
  unfold refStep
  repeat' split
  all_goals omega
theorem refFold_bound {p : List Int} (hp : ∀ i, -1 ≤ p.getD i 0 ∧ p.getD i 0 ≤ 1000) {i : Nat} : ∀ (l : List Int) (acc : Int), (-1 ≤ acc ∧ acc ≤ 1001) → -1 ≤ l.foldl (refStep p i) acc ∧ l.foldl (refStep p i) acc ≤ 1001
  | [], acc, h => h
  | x :: l, acc, h => refFold_bound hp l _ (refStep_bound hp h)

/-- A heap in which one block has been written to, and others have been added. -/
def Mod (br : Nat) (X Y : AH) : Prop := X.length ≤ Y.length ∧ ∀ b, b ≠ br → b < X.length → Y[b]? = X[b]?
theorem Mod.refl (br : Nat) (X : AH) : Mod br X X := ⟨Nat.le_refl _, fun _ _ _ => rfl⟩
theorem Mod.trans {br : Nat} {X Y Z : AH} (h : Mod br X Y) (k : Mod br Y Z) : Mod br X Z := ⟨Nat.le_trans h.1 k.1, fun b h1 h2 => by rw [k.2 b h1 (Nat.lt_of_lt_of_le h2 h.1), h.2 b h1 h2]⟩
theorem Mod.set (br : Nat) (X : AH) (x : ABlk) : Mod br X (X.set br x) := ⟨by simp, fun b h _ => List.getElem?_set_ne (fun e => h e.symm)⟩
theorem Mod.aft {br : Nat} {X Y : AH} (h : Aft X Y) : Mod br X Y := ⟨h.le, fun b _ hb => by obtain ⟨J, rfl⟩ := h; rw [List.getElem?_append_left hb]⟩
theorem Mod.getE {br : Nat} {X Y : AH} (h : Mod br X Y) {b : Nat} {x : ABlk} (hb : b ≠ br) (hx : X[b]? = some x) : Y[b]? = some x := by rw [h.2 b hb (List.getElem?_eq_some_iff.1 hx).1, hx]
theorem Mod.toAft {br : Nat} {H X Y : AH} (hA : Aft H X) (h : Mod br X Y) (hbr : H.length ≤ br) : Aft H Y := by
  obtain ⟨J, rfl⟩ := hA
  refine ⟨Y.drop H.length, ?_⟩
  apply List.ext_getElem?
  intro k
  by_cases hk : k < H.length
  · rw [List.getElem?_append_left hk, h.2 k (by omega) (by simp; omega), List.getElem?_append_left hk]
  · rw [List.getElem?_append_right (by omega), List.getElem?_drop]
    congr 1; omega

/-! ### the innermost loop -/

def fkLoop : SC := sf_cobleref01_forth.body.loops.getD 2 .skip

set_option maxHeartbeats 2000000 in
theorem fk_loop (c : Ch) (hok : ChOk c) (d t s : Value) (g : Int) {i tick j : Nat} (hi : i < c.cells) (hj : tick + (j + 1) < c.ticks) (p : List Int) (hpl : p.length = c.cells) (hp : ∀ i, -1 ≤ p.getD i 0 ∧ p.getD i 0 ≤ 1000) (X : AH) (hc : ChIn X c d t s) (br : Nat) (row : List Int) (hrl : row.length = c.cells) (hrow : X[br]? = some (.rw 1 (ints row))) (h0 : row.getD i 0 = -1)
    (lv : Value) (la : Option Addr) (lk : Nat) (hlv : lv = .slice la (j + 1) lk) (bp : Nat) (hbp : bp ≠ br) (hcl : ∃ b o, la = some ⟨b, o, none⟩ ∧ b ≠ br ∧ hcell X b (o + j) = some (.slice (some ⟨bp, 0, none⟩) c.cells c.cells)) (hbpX : X[bp]? = some (.rw 1 (ints p)))
    (nv : Value) (na : Nat) (nk : Nat) (hna : na ≠ br) (hnv : nv = .slice (some ⟨na, 0, none⟩) (nearTo c i 6).length nk) (hnX : X[na]? = some (.rw 1 (ints (nearTo c i 6)))) (hcbr : ∀ Y, Mod br X Y → ChIn Y c d t s) (S : St)
    (h1 : tget S.t 1 = .int .i64 g) (h3 : tget S.t 3 = .int .i64 tick) (h4 : tget S.t 4 = .pointer (some ⟨4, 0, some 0⟩)) (h9 : tget S.t 9 = lv) (h10 : tget S.t 10 = .int .i64 (tick + (j + 1) : Nat)) (h11 : tget S.t 11 = .slice (some ⟨br, 0, none⟩) c.cells c.cells) (h12 : tget S.t 12 = .int .i64 i) (h13 : tget S.t 13 = nv) (h14 : tget S.t 14 = .int .i64 0) (hL : S.L = [(4, 0, .cells [.int .i64 c.w, .int .i64 c.h, d, t, s])]) (hH : S.H = X) (hlim : S.lim ≤ br) :
    ∃ r, exL Tryd.prog pf (.loop fkLoop) S = some r ∧ r.1 = .exit 4 ∧ r.2.L = S.L ∧ r.2.lim = S.lim ∧ r.2.rd = S.rd ∧ (∀ k, k ∈ [1, 2, 3, 4, 9, 10, 11, 12] → tget r.2.t k = tget S.t k) ∧ r.2.H = X.set br (.rw 1 (ints (row.set i (if c.sure g i (tick + (j + 1)) = true then fewN c.w c.h p i 6 else -1)))) := by
  obtain ⟨lb, lo, hla, hlbr, hlc⟩ := hcl
  subst hla hlv hnv
  have hT : c.ticks ≤ 60 := hok.2.2.2.1.2
  obtain ⟨p0, p1⟩ := hok.pos
  have hbl : br < X.length := (List.getElem?_eq_some_iff.1 hrow).1
  have hrowset : ∀ x : Int, (row.set i x).getD i 0 = x := fun x => by simp [List.getD_eq_getElem?_getD, hrl, hi]
  have hXr : X = X.set br (.rw 1 (ints (row.set i (-1)))) := by
    have : row.set i (-1) = row := by
      apply List.ext_getElem?
      intro k
      rw [List.getElem?_set]
      split
      · rename_i e
        subst e
        rw [List.getD_eq_getElem?_getD] at h0
        rw [List.getElem?_eq_getElem (by omega : i < row.length)] at h0 ⊢
        simp only [Option.getD_some] at h0
        rw [if_pos (by omega), h0]
      · rfl
    rw [this]
    apply List.ext_getElem?
    intro k
    by_cases e : k = br
    · subst e; rw [List.getElem?_set_self hbl, hrow]
    · rw [List.getElem?_set_ne (fun h => e h.symm)]
  obtain ⟨nr, hnr⟩ : ∃ nr, nr = nearTo c i 6 := ⟨_, rfl⟩
  have hnl : 1 ≤ nr.length ∧ nr.length ≤ 7 := by rw [hnr]; exact nearTo_len c i 6
  have hnc : ∀ x ∈ nr, ∃ y : Nat, y < c.cells ∧ x = y := by rw [hnr]; exact nearTo_cell hok hi 6
  have hfold : nr.foldl (refStep p i) (-1) = fewN c.w c.h p i 6 := by rw [hnr]; exact ref_fewN hok (fun i => (hp i).1) 6 (Nat.le_refl _)
  rw [← hnr] at hnX h13
  have hSu := fun (hi : i < c.cells) lim Y (hY : ChIn Y c d t s) => run_Sure c hok lim Y d t s hY g hi hj
  cases hs : c.sure g i (tick + (j + 1)) with
  | false =>
    have hSu := fun lim => hSu hi lim X hc
    rw [hs] at hSu
    obtain ⟨⟨da, dc, ed, _⟩, ⟨ta, tc, et, _⟩, ⟨sa, sc, es, _⟩, _, _, _⟩ := hc
    simp only [chV, ed, et, es] at hSu
    rw [ed, et, es] at hL
    refine ⟨_, by
      rw [exL_loop]
      simp [-Int.natCast_add, fkLoop, SC.loops, sf_cobleref01_forth, h1, h3, h4, h9, h10, h11, h12, h13, h14, hL, hH, hSu, show 0 < nr.length by omega, show (0 : Int) < nr.length by omega]
      rfl, rfl, ?_, rfl, rfl, ?_, ?_⟩
    · simp [hL]
    · intro k hk
      simp only [List.mem_cons, List.not_mem_nil, or_false] at hk
      rcases hk with rfl | rfl | rfl | rfl | rfl | rfl | rfl | rfl <;> simp [h1, h3, h4, h9, h10, h11, h12]
    · simp only [Bool.false_eq_true, if_false]
      exact hXr
  | true =>
    simp only [if_true]
    rw [← hfold]
    have key : ∃ r, exL Tryd.prog pf (.loop fkLoop) S = some r ∧ (r.1 = .exit 4 ∧ r.2.L = S.L ∧ r.2.lim = S.lim ∧ r.2.rd = S.rd ∧ (∀ k, k ∈ [1, 2, 3, 4, 9, 10, 11, 12] → tget r.2.t k = tget S.t k) ∧ r.2.H = X.set br (.rw 1 (ints (row.set i (nr.foldl (refStep p i) (-1)))))) := by
      refine loop_rule (I := fun n s' => ∃ k, k ≤ nr.length ∧ n = nr.length - k ∧ (∀ k, k ∈ [1, 2, 3, 4, 9, 10, 11, 12] → tget s'.t k = tget S.t k) ∧ tget s'.t 13 = .slice (some ⟨na, 0, none⟩) nr.length nk ∧ tget s'.t 14 = .int .i64 k ∧ s'.L = S.L ∧ s'.lim = S.lim ∧ s'.rd = S.rd ∧ s'.H = X.set br (.rw 1 (ints (row.set i ((nr.take k).foldl (refStep p i) (-1)))))) ?_ nr.length S
        ⟨0, by omega, by omega, fun _ _ => rfl, h13, h14, rfl, rfl, rfl, by rw [hH]; exact hXr⟩
      rintro n s' ⟨k, hk, rfl, eK, e13, e14, eL, el, er, eH⟩
      have e1 : tget s'.t 1 = _ := (eK 1 (by simp)).trans h1
      have e2 : tget s'.t 2 = tget S.t 2 := eK 2 (by simp)
      have e3 : tget s'.t 3 = _ := (eK 3 (by simp)).trans h3
      have e4 : tget s'.t 4 = _ := (eK 4 (by simp)).trans h4
      have e9 : tget s'.t 9 = _ := (eK 9 (by simp)).trans h9
      have e10 : tget s'.t 10 = _ := (eK 10 (by simp)).trans h10
      have e11 : tget s'.t 11 = _ := (eK 11 (by simp)).trans h11
      have e12 : tget s'.t 12 = _ := (eK 12 (by simp)).trans h12
      obtain ⟨acc, hacc⟩ : ∃ acc, acc = (nr.take k).foldl (refStep p i) (-1) := ⟨_, rfl⟩
      rw [← hacc] at eH
      have hab : -1 ≤ acc ∧ acc ≤ 1001 := by rw [hacc]; exact refFold_bound hp _ _ (by omega)
      have hM : Mod br X s'.H := by rw [eH]; exact Mod.set _ _ _
      have hcY := hcbr _ hM
      obtain ⟨Y, hY⟩ : ∃ Y, s'.H = Y := ⟨_, rfl⟩
      rw [hY] at hM hcY eH
      have hYr : Y[br]? = some (.rw 1 (ints (row.set i acc))) := by rw [eH, List.getElem?_set_self hbl]
      have hYp := hM.getE hbp hbpX
      have hYn := hM.getE hna hnX
      have hYl : hcell Y lb (lo + j) = some (.slice (some ⟨bp, 0, none⟩) c.cells c.cells) := by
        unfold hcell at hlc ⊢
        cases hx : X[lb]? with
        | none => rw [hx] at hlc; simp at hlc
        | some y => rw [hM.getE hlbr hx]; rw [hx] at hlc; exact hlc
      have hSu := fun lim => hSu hi lim Y hcY
      rw [hs] at hSu
      have hYset : ∀ x : Int, Y.set br (.rw 1 (ints (row.set i x))) = X.set br (.rw 1 (ints (row.set i x))) := fun x => by rw [eH, List.set_set]
      obtain ⟨⟨da, dc, ed, _⟩, ⟨ta, tc, et, _⟩, ⟨sa, sc, es, _⟩, _, _, _⟩ := hc
      simp only [chV, ed, et, es] at hSu
      rw [hL] at eL
      rw [ed, et, es] at eL hL
      by_cases hlt : k < nr.length
      rotate_left
      · have : k = nr.length := by omega
        subst this
        rw [List.take_length] at hacc
        simp [-Int.natCast_add, fkLoop, SC.loops, sf_cobleref01_forth, e1, e2, e3, e4, e9, e10, e11, e12, e13, e14, eL, el, er, hY, h1, h3, h4, h9, h10, h11, h12, hL]
        rw [eH, hacc]
      obtain ⟨x, hx, ex⟩ := hnc (nr.getD k 0) (by rw [List.getD_eq_getElem?_getD, List.getElem?_eq_getElem hlt]; simp)
      have hgn := ints_getE nr k hlt
      rw [ex] at hgn
      have hgp := ints_getE p x (by omega)
      have hgr := ints_getE (row.set i acc) i (by simp; omega)
      rw [hrowset] at hgr
      have hstep : (nr.take (k + 1)).foldl (refStep p i) (-1) = refStep p i acc x := by
        rw [List.take_add_one, List.foldl_append, ← hacc, List.getElem?_eq_getElem hlt]
        have : nr[k] = (x : Int) := by rw [← ex, List.getD_eq_getElem?_getD, List.getElem?_eq_getElem hlt]; rfl
        simp [this]
      have hpx := hp x
      have hrs : refStep p i acc x = if p.getD x 0 < 0 then acc else if acc < 0 ∨ (if (x : Int) = i then p.getD x 0 else p.getD x 0 + 1) < acc then (if (x : Int) = i then p.getD x 0 else p.getD x 0 + 1) else acc := by unfold refStep; simp only [Int.toNat_natCast]
      have hw1 : IntKind.i64.wrap ((k : Int) + 1) = (k : Int) + 1 := wrap_i64 (by omega) (by omega)
      have hw2 : IntKind.i64.wrap (((tick + (j + 1) : Nat) : Int) - (tick : Int)) = ((j + 1 : Nat) : Int) := by rw [wrap_i64 (by omega) (by omega)]; omega
      have hw3 : IntKind.i64.wrap (((j + 1 : Nat) : Int) - 1) = (j : Int) := by rw [wrap_i64 (by omega) (by omega)]; omega
      have hw4 : IntKind.i64.wrap (p.getD x 0 + 1) = p.getD x 0 + 1 := wrap_i64 (by omega) (by omega)
      have hjj : (j : Int) < ((j + 1 : Nat) : Int) := by omega
      have hx' : (x : Int) < c.cells := by omega
      have hi' : (i : Int) < c.cells := by omega
      have hset : ∀ x : Int, (ints (row.set i acc)).set i (.int .i64 x) = ints (row.set i x) := fun x => by rw [ints_set, List.set_set]
      have hle : i + 1 ≤ (ints (row.set i acc)).length := by rw [ints_length]; simp; omega
      have hll : s'.lim ≤ br := by rw [el]; exact hlim
      have hltk : (k : Int) < nr.length := by omega
      simp only [hcell] at hYl
      rw [← hstep] at hrs
      have fin : ∀ (s2 : St) (v : Int), (nr.take (k + 1)).foldl (refStep p i) (-1) = v → s2.H = Y.set br (.rw 1 (ints (row.set i v))) → s2.H = X.set br (.rw 1 (ints (row.set i ((nr.take (k + 1)).foldl (refStep p i) (-1))))) := fun s2 v h1 h2 => by rw [h2, h1, hYset]
      have fin0 : (nr.take (k + 1)).foldl (refStep p i) (-1) = acc → Y = X.set br (.rw 1 (ints (row.set i ((nr.take (k + 1)).foldl (refStep p i) (-1))))) := fun h1 => by rw [h1, eH]
      generalize hP : p.getD x 0 = P at *
      generalize ints (row.set i acc) = cs at *
      by_cases q1 : P < 0
      · rw [if_pos q1] at hrs
        simp [-Int.natCast_add, fkLoop, SC.loops, sf_cobleref01_forth, e1, e2, e3, e4, e9, e10, e11, e12, e13, e14, eL, el, er, hY, h1, h3, h4, h9, h10, h11, h12, hL, hlt, hltk, hSu, hYl, hYn, hYp, hgn, hgp, hw1, hw2, hw3, hjj, hx, hx', q1]
        exact ⟨_, by omega, k + 1, by omega, rfl, rfl, fin0 hrs⟩
      rw [if_neg q1] at hrs
      by_cases q2 : (x : Int) = i
      · have q2b : ((x : Int) != i) = false := by simp [q2]
        simp only [if_pos q2] at hrs
        by_cases q3 : acc < 0
        · rw [if_pos (.inl q3)] at hrs
          simp [-Int.natCast_add, fkLoop, SC.loops, sf_cobleref01_forth, e1, e2, e3, e4, e9, e10, e11, e12, e13, e14, eL, el, er, hY, h1, h3, h4, h9, h10, h11, h12, hL, hlt, hltk, hSu, hYl, hYn, hYp, hYr, hgn, hgp, hgr, hw1, hw2, hw3, hjj, hx, hx', hi, hi', q1, q2b, q3, hset, hle, hlim]
          exact ⟨_, by omega, k + 1, by omega, rfl, rfl, by rw [hYset, hrs]⟩
        · by_cases q4 : P < acc
          · rw [if_pos (.inr q4)] at hrs
            simp [-Int.natCast_add, fkLoop, SC.loops, sf_cobleref01_forth, e1, e2, e3, e4, e9, e10, e11, e12, e13, e14, eL, el, er, hY, h1, h3, h4, h9, h10, h11, h12, hL, hlt, hltk, hSu, hYl, hYn, hYp, hYr, hgn, hgp, hgr, hw1, hw2, hw3, hjj, hx, hx', hi, hi', q1, q2b, q3, q4, hset, hle, hlim]
            exact ⟨_, by omega, k + 1, by omega, rfl, rfl, by rw [hYset, hrs]⟩
          · rw [if_neg (by omega)] at hrs
            simp [-Int.natCast_add, fkLoop, SC.loops, sf_cobleref01_forth, e1, e2, e3, e4, e9, e10, e11, e12, e13, e14, eL, el, er, hY, h1, h3, h4, h9, h10, h11, h12, hL, hlt, hltk, hSu, hYl, hYn, hYp, hYr, hgn, hgp, hgr, hw1, hw2, hw3, hjj, hx, hx', hi, hi', q1, q2b, q3, q4]
            exact ⟨_, by omega, k + 1, by omega, rfl, rfl, fin0 hrs⟩
      · have q2b : ((x : Int) != i) = true := by simp; omega
        simp only [if_neg q2] at hrs
        by_cases q3 : acc < 0
        · rw [if_pos (.inl q3)] at hrs
          simp [-Int.natCast_add, fkLoop, SC.loops, sf_cobleref01_forth, e1, e2, e3, e4, e9, e10, e11, e12, e13, e14, eL, el, er, hY, h1, h3, h4, h9, h10, h11, h12, hL, hlt, hltk, hSu, hYl, hYn, hYp, hYr, hgn, hgp, hgr, hw1, hw2, hw3, hw4, hjj, hx, hx', hi, hi', q1, q2b, q3, hset, hle, hlim]
          exact ⟨_, by omega, k + 1, by omega, rfl, rfl, by rw [hYset, hrs]⟩
        · by_cases q4 : P + 1 < acc
          · rw [if_pos (.inr q4)] at hrs
            simp [-Int.natCast_add, fkLoop, SC.loops, sf_cobleref01_forth, e1, e2, e3, e4, e9, e10, e11, e12, e13, e14, eL, el, er, hY, h1, h3, h4, h9, h10, h11, h12, hL, hlt, hltk, hSu, hYl, hYn, hYp, hYr, hgn, hgp, hgr, hw1, hw2, hw3, hw4, hjj, hx, hx', hi, hi', q1, q2b, q3, q4, hset, hle, hlim]
            exact ⟨_, by omega, k + 1, by omega, rfl, rfl, by rw [hYset, hrs]⟩
          · rw [if_neg (by omega)] at hrs
            simp [-Int.natCast_add, fkLoop, SC.loops, sf_cobleref01_forth, e1, e2, e3, e4, e9, e10, e11, e12, e13, e14, eL, el, er, hY, h1, h3, h4, h9, h10, h11, h12, hL, hlt, hltk, hSu, hYl, hYn, hYp, hYr, hgn, hgp, hgr, hw1, hw2, hw3, hw4, hjj, hx, hx', hi, hi', q1, q2b, q3, q4]
            exact ⟨_, by omega, k + 1, by omega, rfl, rfl, fin0 hrs⟩
    exact key
end Go.Proofs.YtojplagenejhdaaDoor
