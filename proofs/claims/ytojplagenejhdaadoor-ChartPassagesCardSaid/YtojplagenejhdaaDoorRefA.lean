/- Contracts of the functions, in the abstract machine: the reference's near. -/
import Derived.Test.YtojplagenejhdaaDoorPsgD
import Derived.Test.YtojplagenejhdaaDoorFunY
set_option linter.all false
namespace Go.Proofs.YtojplagenejhdaaDoor
open Go Go.RowKit

/-- A later heap: what was there, and more. -/
def Aft (H A : AH) : Prop := ∃ J, A = H ++ J
theorem Aft.refl (H : AH) : Aft H H := ⟨[], by simp⟩
theorem Aft.push {H A : AH} (h : Aft H A) (l : AH) : Aft H (A ++ l) := by obtain ⟨J, rfl⟩ := h; exact ⟨J ++ l, by simp⟩
theorem Aft.set {H A : AH} (h : Aft H A) {b : Nat} (hb : H.length ≤ b) (x : ABlk) : Aft H (A.set b x) := by obtain ⟨J, rfl⟩ := h; exact ⟨J.set (b - H.length) x, by rw [List.set_append_right _ _ hb]⟩
theorem Aft.ext {H A : AH} (h : Aft H A) : Ext H A := by obtain ⟨J, rfl⟩ := h; exact Ext.push H J
theorem Aft.trans {H A B : AH} (h : Aft H A) (k : Aft A B) : Aft H B := by obtain ⟨J, rfl⟩ := h; obtain ⟨K, rfl⟩ := k; exact ⟨J ++ K, by simp⟩
theorem Aft.le {H A : AH} (h : Aft H A) : H.length ≤ A.length := by obtain ⟨J, rfl⟩ := h; simp
theorem Aft.hG {H A : AH} (h : Aft H A) (hG : H[waysG]? = some (.ro waysV)) : A[waysG]? = some (.ro waysV) := h.ext _ _ hG

/-- A cell, and those of its first n neighbours that there are. -/
def nearTo (c : Ch) (i : Nat) : Nat → List Int
  | 0 => [(i : Int)]
  | n + 1 => match nxt c.w c.h i n with
    | some j => nearTo c i n ++ [j]
    | none => nearTo c i n
theorem nearTo_len (c : Ch) (i : Nat) : ∀ n, 1 ≤ (nearTo c i n).length ∧ (nearTo c i n).length ≤ n + 1
  | 0 => by simp [nearTo]
  | n + 1 => by
    have := nearTo_len c i n
    unfold nearTo
    split
    · simp; omega
    · omega

theorem nearTo_cell {c : Ch} (hok : ChOk c) {i : Nat} (hi : i < c.cells) : ∀ n, ∀ x ∈ nearTo c i n, ∃ y : Nat, y < c.cells ∧ x = y
  | 0, x, hx => by simp [nearTo] at hx; exact ⟨i, hi, hx⟩
  | n + 1, x, hx => by
    obtain ⟨m0, m1, m2⟩ := hok.mul
    unfold nearTo at hx
    split at hx
    · rename_i j hj
      rw [List.mem_append] at hx
      rcases hx with hx | hx
      · exact nearTo_cell hok hi n x hx
      · simp only [List.mem_singleton] at hx
        subst hx
        obtain ⟨j0, j1, _⟩ := nxt_some hok.1.1 hok.2.1.1 hj
        exact ⟨x.toNat, by omega, by omega⟩
    · exact nearTo_cell hok hi n x hx

theorem mem_nearTo {c : Ch} {i : Nat} {x : Int} : ∀ {n}, x ∈ nearTo c i n ↔ x = i ∨ ∃ k, k < n ∧ nxt c.w c.h i k = some x
  | 0 => by simp [nearTo]
  | n + 1 => by
    unfold nearTo
    have ih := mem_nearTo (c := c) (i := i) (x := x) (n := n)
    split
    · rename_i j hj
      rw [List.mem_append, ih, List.mem_singleton]
      constructor
      · rintro ((h | ⟨k, hk, h⟩) | h)
        · exact .inl h
        · exact .inr ⟨k, by omega, h⟩
        · exact .inr ⟨n, by omega, by rw [hj, h]⟩
      · rintro (h | ⟨k, hk, h⟩)
        · exact .inl (.inl h)
        · by_cases e : k = n
          · subst e; rw [hj] at h; exact .inr (Option.some.inj h).symm
          · exact .inl (.inr ⟨k, by omega, h⟩)
    · rename_i hj
      rw [ih]
      constructor
      · rintro (h | ⟨k, hk, h⟩)
        · exact .inl h
        · exact .inr ⟨k, by omega, h⟩
      · rintro (h | ⟨k, hk, h⟩)
        · exact .inl h
        · by_cases e : k = n
          · subst e; rw [hj] at h; cases h
          · exact .inr ⟨k, by omega, h⟩

/-- A list of numbers of one's own, that is not empty. -/
def OwnI (n0 : Nat) (A : AH) (v : Value) (l : List Int) : Prop := ∃ b k, n0 ≤ b ∧ v = .slice (some ⟨b, 0, none⟩) l.length k ∧ (k = l.length ∨ k = l.length + 1) ∧ A[b]? = some (.rw 1 (ints l))
theorem OwnI.sl {n0 : Nat} {A : AH} {v : Value} {l : List Int} (h : OwnI n0 A v l) : Sl A v l.length (ints l) := by
  obtain ⟨b, k, _, rfl, _, hb⟩ := h
  exact Sl.made hb rfl
theorem ints_append (l m : List Int) : ints (l ++ m) = ints l ++ ints m := by simp [ints]

def nrLoop : SC := sf_cobleref01_near.body.loops.headD .skip

theorem nr_loop (c : Ch) (hok : ChOk c) (H : AH) (d t s : Value) (hc : ChIn H c d t s) {i : Nat} (hi : i < c.cells) (S : St) (h1 : tget S.t 1 = .int .i64 i) (h2 : tget S.t 2 = .pointer (some ⟨2, 0, some 0⟩)) (h6 : tget S.t 6 = .int .i64 0) (hL : S.L = [(2, 0, .cells [.int .i64 c.w, .int .i64 c.h, d, t, s])]) (hH : Aft H S.H) (hO : OwnI H.length S.H (tget S.t 5) (nearTo c i 0)) (hlim : S.lim = H.length) :
    ∃ r, exL Tryd.prog pf (.loop nrLoop) S = some r ∧ r.1 = .exit 0 ∧ r.2.L = S.L ∧ Aft H r.2.H ∧ OwnI H.length r.2.H (tget r.2.t 5) (nearTo c i 6) := by
  have hw := hok.1.1
  have hh := hok.2.1.1
  refine loop_rule (I := fun n s' => ∃ k, k ≤ 6 ∧ n = 6 - k ∧ tget s'.t 1 = .int .i64 i ∧ tget s'.t 2 = .pointer (some ⟨2, 0, some 0⟩) ∧ tget s'.t 6 = .int .i64 k ∧ s'.L = S.L ∧ s'.lim = H.length ∧ Aft H s'.H ∧ OwnI H.length s'.H (tget s'.t 5) (nearTo c i k)) ?_ 6 S ⟨0, by omega, by omega, h1, h2, h6, rfl, hlim, hH, hO⟩
  rintro n s' ⟨k, hk, rfl, e1, e2, e6, eL, el, eA, eO⟩
  obtain ⟨A, hA⟩ : ∃ A, s'.H = A := ⟨_, rfl⟩
  rw [hA] at eA eO
  have hB := fun (hk : k < 6) lim => run_Beside c hok lim A d t s (hc.ext eA.ext) hi hk
  obtain ⟨⟨da, dc, ed, _⟩, ⟨ta, tc, et, _⟩, ⟨sa, sc, es, _⟩, _, _, _⟩ := hc
  simp only [chV, ed, et, es] at hB
  rw [hL] at eL
  rw [ed, et, es] at eL hL
  by_cases hlt : k < 6
  rotate_left
  · have : k = 6 := by omega
    subst this
    simp [nrLoop, SC.loops, sf_cobleref01_near, e1, e2, e6, eL, hA, hL]
    exact ⟨eA, eO⟩
  have hB := fun lim => hB hlt lim
  have hk6 : (k : Int) < 6 := by omega
  have hwr : IntKind.i64.wrap ((k : Int) + 1) = (k : Int) + 1 := wrap_i64 (by omega) (by omega)
  have hs : nearTo c i (k + 1) = match nxt c.w c.h i k with
    | some j => nearTo c i k ++ [j]
    | none => nearTo c i k := rfl
  have hlen := nearTo_len c i k
  cases hx : nxt c.w c.h i k with
  | none =>
    rw [hx] at hs
    simp [nrLoop, SC.loops, sf_cobleref01_near, e1, e2, e6, eL, hA, hk6, hB, hx, hwr, hL]
    exact ⟨_, by omega, k + 1, by omega, rfl, by omega, el, eA, by rw [hs]; exact eO⟩
  | some j =>
    rw [hx] at hs
    simp only at hs
    obtain ⟨l, hl⟩ : ∃ l, l = nearTo c i k := ⟨_, rfl⟩
    rw [← hl] at eO hs hlen
    obtain ⟨b, q, hb, e5, hq, hbA⟩ := eO
    have hbl : b < A.length := (List.getElem?_eq_some_iff.1 hbA).1
    have hl0 : ¬ l.length = 0 := by omega
    have hmx : l.length + 1 ≤ maxA := Nat.le_trans (show l.length + 1 ≤ 2000 by omega) (by decide)
    have hcn : nlL (ints l) = true := nlL_ints l
    have hci : (ints l).length = l.length := ints_length l
    have happ : ints l ++ [.int .i64 j] = ints (l ++ [j]) := by rw [ints_append]; rfl
    generalize hcs : ints l = cs at *
    have hcA : ∀ L x, cellsAt L (A ++ x) ⟨b, 0, none⟩ l.length = some cs := fun L x => by
      rw [← hci]
      refine cellsAt_of cs 0 fun m y hy => ?_
      simp only [hcell, Nat.zero_add]
      rw [List.getElem?_append_left hbl, hbA]
      exact hy
    have hbX : ∀ x : AH, (A ++ x)[b]? = some (.rw 1 cs) := fun x => by rw [List.getElem?_append_left hbl, hbA]
    have hsX : ∀ x y : AH, (A ++ x).set b .dead ++ y = A.set b .dead ++ (x ++ y) := fun x y => by rw [List.set_append_left _ _ hbl, List.append_assoc]
    rcases hq with rfl | rfl
    · simp [-oneC, oneC_int, nrLoop, SC.loops, sf_cobleref01_near, e1, e2, e5, e6, eL, el, hA, hk6, hB, hx, hwr, hL, hl0, hmx, hcA, hbX, hcn, happ]
      exact ⟨_, by omega, k + 1, by omega, rfl, by omega, eA.push _, A.length + 1, l.length + 1 + 1, by have := eA.le; omega, by rw [hs]; simp, .inr (by rw [hs]; simp), by rw [hs, List.getElem?_append_right (by omega), Nat.add_sub_cancel_left]; rfl⟩
    · simp [-oneC, oneC_int, nrLoop, SC.loops, sf_cobleref01_near, e1, e2, e5, e6, eL, el, hA, hk6, hB, hx, hwr, hL, hl0, hmx, hcA, hbX, hcn, happ, hb, hci, hsX]
      exact ⟨_, by omega, k + 1, by omega, rfl, by omega, (eA.set hb _).push _, A.length + 1, l.length + 1 + 1, by have := eA.le; omega, by rw [hs]; simp, .inr (by rw [hs]; simp), by rw [hs, List.getElem?_append_right (by simp)]; simp⟩

theorem run_near (c : Ch) (hok : ChOk c) (H : AH) (d t s : Value) (hc : ChIn H c d t s) {i : Nat} (hi : i < c.cells) :
    ∃ v A, (∀ lim, apL Tryd.prog pf (.func (.func 68) #[] #[]) [chV c d t s, .int .i64 i] lim H = some (v, A)) ∧ Aft H A ∧ OwnI H.length A v (nearTo c i 6) := by
  suffices key : ∃ v A, apL Tryd.prog pf (.func (.func 68) #[] #[]) [chV c d t s, .int .i64 i] 0 H = some (v, A) ∧ Aft H A ∧ OwnI H.length A v (nearTo c i 6) by
    obtain ⟨v, A, h1, h2⟩ := key
    refine ⟨v, A, fun lim => ?_, h2⟩
    rw [← h1, apL_func _ _ _ _ _ _ (by rfl), apL_func _ _ _ _ _ _ (by rfl)]
    simp only [pf_pure, show pureF 68 = true from rfl, if_true]
  rw [apL_func _ _ _ _ _ _ (by rfl), sf_cobleref01_near_eq]
  obtain ⟨⟨da, dc, ed, _⟩, ⟨ta, tc, et, _⟩, ⟨sa, sc, es, _⟩, _, _, _⟩ := id hc
  simp [sf_cobleref01_near, chV, ed, et, es, pf_pure, pureF]
  generalize hS : ({ t := _, L := _, H := _, lim := _, rd := _ } : St) = S
  obtain ⟨⟨e, s1⟩, hr, q1, qL, qA, qO⟩ := nr_loop c hok H d t s hc hi S (by subst hS; simp) (by subst hS; simp) (by subst hS; simp) (by subst hS; simp [ed, et, es]) (by subst hS; exact Aft.push (Aft.refl H) _) (by subst hS; exact ⟨H.length, 1, Nat.le_refl _, by simp [nearTo], .inl (by simp [nearTo]), by simp [nearTo, ints]⟩) (by subst hS; rfl)
  simp [nrLoop, SC.loops, sf_cobleref01_near] at hr
  rw [hr]
  simp only at q1 qL qA qO
  subst q1
  obtain ⟨b, k, _, e5, _⟩ := id qO
  refine ⟨_, s1.H, ?_, qA, qO⟩
  have hl := nearTo_len c i 6
  have hl0 : ¬ (nearTo c i 6).length = 0 := by omega
  rw [e5]
  simp [e5, hl0]
end Go.Proofs.YtojplagenejhdaaDoor
