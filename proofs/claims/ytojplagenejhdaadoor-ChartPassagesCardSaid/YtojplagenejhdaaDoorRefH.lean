/- Contracts of the functions, in the abstract machine: the reference's Depart. -/
import Derived.Test.YtojplagenejhdaaDoorRefG
set_option linter.all false
namespace Go.Proofs.YtojplagenejhdaaDoor
open Go Go.RowKit

def bools (l : List Bool) : List Value := l.map .bool
theorem bools_length (l : List Bool) : (bools l).length = l.length := by simp [bools]
theorem bools_get (l : List Bool) (j : Nat) (h : j < l.length) : (bools l)[j]? = some (.bool (l.getD j false)) := by simp [bools, h]
theorem bools_set (l : List Bool) (j : Nat) (x : Bool) : (bools l).set j (.bool x) = bools (l.set j x) := by simp [bools, List.map_set]
theorem zeros_bools : ∀ n : Nat, zeros [.bool false] n = bools (List.replicate n false)
  | 0 => rfl
  | n + 1 => by simp only [zeros, zeros_bools n, List.replicate_succ, bools, List.map_cons]; rfl

/-- The first n of a row of truth values. -/
def rowB (f : Nat → Bool) (N n : Nat) : List Bool := (List.range n).map f ++ List.replicate (N - n) false
theorem rowB_len (f : Nat → Bool) {N n : Nat} (h : n ≤ N) : (rowB f N n).length = N := by simp [rowB]; omega
theorem rowB_zero (f : Nat → Bool) (N : Nat) : rowB f N 0 = List.replicate N false := by simp [rowB]
theorem rowB_all (f : Nat → Bool) (N : Nat) : rowB f N N = (List.range N).map f := by simp [rowB]
theorem rowB_set (f : Nat → Bool) {N n : Nat} (h : n < N) : (rowB f N n).set n (f n) = rowB f N (n + 1) := by
  unfold rowB
  obtain ⟨m, hm⟩ : ∃ m, N - n = m + 1 := ⟨N - n - 1, by omega⟩
  rw [show N - (n + 1) = m by omega, hm, List.range_succ, List.map_append, List.append_assoc, List.set_append_right _ _ (by simp)]
  simp [List.replicate_succ]
theorem rowB_at (f : Nat → Bool) {N n : Nat} (h : n < N) : (rowB f N n).getD n false = false := by
  unfold rowB
  rw [List.getD_eq_getElem?_getD, List.getElem?_append_right (by simp), List.getElem?_replicate]
  split <;> rfl

/-- A heap in which two blocks have been written to, and others have been added. -/
def Mod2 (b1 b2 : Nat) (X Y : AH) : Prop := X.length ≤ Y.length ∧ ∀ b, b ≠ b1 → b ≠ b2 → b < X.length → Y[b]? = X[b]?
theorem Mod2.refl (b1 b2 : Nat) (X : AH) : Mod2 b1 b2 X X := ⟨Nat.le_refl _, fun _ _ _ _ => rfl⟩
theorem Mod2.trans {b1 b2 : Nat} {X Y Z : AH} (h : Mod2 b1 b2 X Y) (k : Mod2 b1 b2 Y Z) : Mod2 b1 b2 X Z := ⟨Nat.le_trans h.1 k.1, fun b h1 h2 h3 => by rw [k.2 b h1 h2 (Nat.lt_of_lt_of_le h3 h.1), h.2 b h1 h2 h3]⟩
theorem Mod2.set1 (b1 b2 : Nat) (X : AH) (x : ABlk) : Mod2 b1 b2 X (X.set b1 x) := ⟨by simp, fun b h _ _ => List.getElem?_set_ne (fun e => h e.symm)⟩
theorem Mod2.set2 (b1 b2 : Nat) (X : AH) (x : ABlk) : Mod2 b1 b2 X (X.set b2 x) := ⟨by simp, fun b _ h _ => List.getElem?_set_ne (fun e => h e.symm)⟩
theorem Mod2.aft {b1 b2 : Nat} {X Y : AH} (h : Aft X Y) : Mod2 b1 b2 X Y := ⟨h.le, fun b _ _ hb => by obtain ⟨J, rfl⟩ := h; rw [List.getElem?_append_left hb]⟩
theorem Mod2.getE {b1 b2 : Nat} {X Y : AH} (h : Mod2 b1 b2 X Y) {b : Nat} {x : ABlk} (h1 : b ≠ b1) (h2 : b ≠ b2) (hx : X[b]? = some x) : Y[b]? = some x := by rw [h.2 b h1 h2 (List.getElem?_eq_some_iff.1 hx).1, hx]
theorem Mod2.toAft {b1 b2 : Nat} {H X Y : AH} (hA : Aft H X) (h : Mod2 b1 b2 X Y) (h1 : H.length ≤ b1) (h2 : H.length ≤ b2) : Aft H Y := by
  obtain ⟨J, rfl⟩ := hA
  refine ⟨Y.drop H.length, ?_⟩
  apply List.ext_getElem?
  intro k
  by_cases hk : k < H.length
  · rw [List.getElem?_append_left hk, h.2 k (by omega) (by omega) (by simp; omega), List.getElem?_append_left hk]
  · rw [List.getElem?_append_right (by omega), List.getElem?_drop]
    congr 1; omega

theorem set_self {X : AH} {b : Nat} {x : ABlk} (h : X[b]? = some x) : X.set b x = X := by
  apply List.ext_getElem?
  intro k
  by_cases e : k = b
  · subst e; rw [List.getElem?_set_self (List.getElem?_eq_some_iff.1 h).1, h]
  · rw [List.getElem?_set_ne (fun h => e h.symm)]
theorem list_set_self {l : List Bool} {i : Nat} {x : Bool} (hi : i < l.length) (h : l.getD i false = x) : l.set i x = l := by
  apply List.ext_getElem?
  intro k
  rw [List.getElem?_set]
  split
  · rename_i e
    subst e
    rw [List.getD_eq_getElem?_getD, List.getElem?_eq_getElem hi] at h
    simp only [Option.getD_some] at h
    simp [hi, h]
  · rfl

/-! ### the innermost loop -/

def dkLoop : SC := sf_cobleref01_Depart.body.loops.tail.tail.tail.headD .skip

theorem dk_loop (N : Nat) (l : List Int) (hl : ∀ x ∈ l, ∃ y : Nat, y < N ∧ x = y) (hll : l.length ≤ 1000) (X : AH) (bn : Nat) (row : List Bool) (hrl : row.length = N) (hX : X[bn]? = some (.rw 1 (bools row))) (i : Nat) (hi : i < N) (h0 : row.getD i false = false) (can : List Bool) (hcl : can.length = N) (bc : Nat) (hbc : bc ≠ bn) (hXc : X[bc]? = some (.rw 1 (bools can))) (na nk : Nat) (hna : na ≠ bn) (hXn : X[na]? = some (.rw 1 (ints l))) (n tick to : Nat) (hnt : n ≤ tick) (S : St)
    (h2 : tget S.t 2 = .int .i64 to) (h3 : tget S.t 3 = .int .i64 tick) (h12 : tget S.t 12 = .slice (some ⟨bc, 0, none⟩) N N) (h14 : tget S.t 14 = .int .i64 n) (h15 : tget S.t 15 = .slice (some ⟨bn, 0, none⟩) N N) (h16 : tget S.t 16 = .int .i64 i) (h17 : tget S.t 17 = .slice (some ⟨na, 0, none⟩) l.length nk) (h18 : tget S.t 18 = .int .i64 0) (hH : S.H = X) (hlim : S.lim ≤ bn) :
    ∃ r, exL Tryd.prog pf (.loop dkLoop) S = some r ∧ r.1 = .exit 6 ∧ r.2.L = S.L ∧ r.2.lim = S.lim ∧ r.2.rd = S.rd ∧ (∀ k, k ∈ [1, 2, 3, 4, 11, 12, 14, 15, 16] → tget r.2.t k = tget S.t k) ∧ r.2.H = X.set bn (.rw 1 (bools (row.set i (l.any fun x => if n = tick then decide (i = to) else can.getD x.toNat false)))) := by
  have hbl : bn < X.length := (List.getElem?_eq_some_iff.1 hX).1
  obtain ⟨F, hF⟩ : ∃ F : Int → Bool, F = fun x => if n = tick then decide (i = to) else can.getD x.toNat false := ⟨_, rfl⟩
  rw [← hF]
  have hX0 : X = X.set bn (.rw 1 (bools (row.set i ((l.take 0).any F)))) := by
    rw [List.take_zero, List.any_nil, list_set_self (by omega) h0, set_self hX]
  refine loop_rule (I := fun m s' => ∃ k, k ≤ l.length ∧ m = l.length - k ∧ (∀ k, k ∈ [1, 2, 3, 4, 11, 12, 14, 15, 16] → tget s'.t k = tget S.t k) ∧ tget s'.t 17 = .slice (some ⟨na, 0, none⟩) l.length nk ∧ tget s'.t 18 = .int .i64 k ∧ s'.L = S.L ∧ s'.lim = S.lim ∧ s'.rd = S.rd ∧ s'.H = X.set bn (.rw 1 (bools (row.set i ((l.take k).any F))))) ?_ l.length S
    ⟨0, by omega, by omega, fun _ _ => rfl, h17, h18, rfl, rfl, rfl, by rw [hH]; exact hX0⟩
  rintro m s' ⟨k, hk, rfl, eK, e17, e18, eL, el, er, eH⟩
  have e1 : tget s'.t 1 = tget S.t 1 := eK 1 (by simp)
  have e2 : tget s'.t 2 = _ := (eK 2 (by simp)).trans h2
  have e3 : tget s'.t 3 = _ := (eK 3 (by simp)).trans h3
  have e4 : tget s'.t 4 = tget S.t 4 := eK 4 (by simp)
  have e11 : tget s'.t 11 = tget S.t 11 := eK 11 (by simp)
  have e12 : tget s'.t 12 = _ := (eK 12 (by simp)).trans h12
  have e14 : tget s'.t 14 = _ := (eK 14 (by simp)).trans h14
  have e15 : tget s'.t 15 = _ := (eK 15 (by simp)).trans h15
  have e16 : tget s'.t 16 = _ := (eK 16 (by simp)).trans h16
  by_cases hlt : k < l.length
  rotate_left
  · have : k = l.length := by omega
    subst this
    rw [List.take_length] at eH
    simp [dkLoop, SC.loops, sf_cobleref01_Depart, e1, e2, e3, e4, e11, e12, e14, e15, e16, e17, e18, eL, el, er, eH, h2, h3, h12, h14, h15, h16]
  obtain ⟨x, hx, ex⟩ := hl (l.getD k 0) (by rw [List.getD_eq_getElem?_getD, List.getElem?_eq_getElem hlt]; simp)
  have hgn := ints_getE l k hlt
  rw [ex] at hgn
  have hgc := bools_get can x (by omega)
  obtain ⟨acc, hacc⟩ : ∃ a, a = (l.take k).any F := ⟨_, rfl⟩
  rw [← hacc] at eH
  have hstep : (l.take (k + 1)).any F = (acc || F x) := by
    rw [List.take_add_one, List.any_append, ← hacc, List.getElem?_eq_getElem hlt]
    have : l[k] = (x : Int) := by rw [← ex, List.getD_eq_getElem?_getD, List.getElem?_eq_getElem hlt]; rfl
    simp [this]
  have hFx : F x = if n = tick then decide (i = to) else can.getD x false := by rw [hF]; simp only [Int.toNat_natCast]
  rw [hFx] at hstep
  have hgr := bools_get (row.set i acc) i (by simp; omega)
  have hga : (row.set i acc).getD i false = acc := by simp [List.getD_eq_getElem?_getD, hrl, hi]
  rw [hga] at hgr
  have hM := Mod.set bn X (.rw 1 (bools (row.set i acc)))
  have hYc := hM.getE hbc hXc
  have hYn := hM.getE hna hXn
  have hYr : (X.set bn (.rw 1 (bools (row.set i acc))))[bn]? = some (.rw 1 (bools (row.set i acc))) := List.getElem?_set_self hbl
  have hset : ∀ y : Bool, (bools (row.set i acc)).set i (.bool y) = bools (row.set i y) := fun y => by rw [bools_set, List.set_set]
  have hle : i + 1 ≤ (bools (row.set i acc)).length := by rw [bools_length]; simp; omega
  have hYs : ∀ y, (X.set bn (.rw 1 (bools (row.set i acc)))).set bn y = X.set bn y := fun y => List.set_set ..
  obtain ⟨Y, hY⟩ : ∃ Y, X.set bn (.rw 1 (bools (row.set i acc))) = Y := ⟨_, rfl⟩
  rw [hY] at hYc hYn hYr eH hYs
  have hw1 : IntKind.i64.wrap ((k : Int) + 1) = (k : Int) + 1 := wrap_i64 (by omega) (by omega)
  have hltk : (k : Int) < l.length := by omega
  have hx' : (x : Int) < N := by omega
  have hi' : (i : Int) < N := by omega
  obtain ⟨cs, hcs⟩ : ∃ cs, cs = bools (row.set i acc) := ⟨_, rfl⟩
  rw [← hcs] at hYr hgr hset hle
  generalize can.getD x false = P at *
  cases hac : acc
  · rw [hac] at hstep hgr
    simp only [Bool.false_or] at hstep
    by_cases hz : n = tick
    · rw [if_pos hz] at hstep
      have hzb : ((n : Int) == (tick : Int)) = true := by rw [beq_iff_eq]; omega
      have hzl : ¬ (n : Int) < tick := by omega
      by_cases hto : i = to
      · have htb : ((i : Int) == (to : Int)) = true := by rw [beq_iff_eq]; omega
        rw [decide_eq_true hto] at hstep
        simp [dkLoop, SC.loops, sf_cobleref01_Depart, e1, e2, e3, e4, e11, e12, e14, e15, e16, e17, e18, eL, el, er, eH, h2, h3, h12, h14, h15, h16, hltk, hi, hi', hYr, hgr, hzb, htb, hset, hle, hlim, hYs, hw1]
        exact ⟨_, by omega, k + 1, by omega, rfl, by omega, by rw [hstep]⟩
      · have htb : ((i : Int) == (to : Int)) = false := by rw [beq_eq_false_iff_ne]; omega
        rw [decide_eq_false hto] at hstep
        simp [dkLoop, SC.loops, sf_cobleref01_Depart, e1, e2, e3, e4, e11, e12, e14, e15, e16, e17, e18, eL, el, er, eH, h2, h3, h12, h14, h15, h16, hltk, hi, hi', hYr, hgr, hzb, htb, hzl, hset, hle, hlim, hYs, hw1]
        exact ⟨_, by omega, k + 1, by omega, rfl, by omega, by rw [hstep]⟩
    · rw [if_neg hz] at hstep
      have hzb : ((n : Int) == (tick : Int)) = false := by rw [beq_eq_false_iff_ne]; omega
      have hzl : (n : Int) < tick := by omega
      simp [dkLoop, SC.loops, sf_cobleref01_Depart, e1, e2, e3, e4, e11, e12, e14, e15, e16, e17, e18, eL, el, er, eH, h2, h3, h12, h14, h15, h16, hltk, hlt, hi, hi', hYr, hYc, hYn, hgn, hgc, hgr, hx, hx', hzb, hzl, hset, hle, hlim, hYs, hw1]
      exact ⟨_, by omega, k + 1, by omega, rfl, by omega, by rw [hstep]⟩
  · rw [hac] at hstep hgr
    simp only [Bool.true_or] at hstep
    simp [dkLoop, SC.loops, sf_cobleref01_Depart, e1, e2, e3, e4, e11, e12, e14, e15, e16, e17, e18, eL, el, er, eH, h2, h3, h12, h14, h15, h16, hltk, hi, hi', hYr, hgr, hset, hle, hlim, hYs, hw1]
    exact ⟨_, by omega, k + 1, by omega, rfl, by omega, by rw [hstep]⟩
end Go.Proofs.YtojplagenejhdaaDoor
