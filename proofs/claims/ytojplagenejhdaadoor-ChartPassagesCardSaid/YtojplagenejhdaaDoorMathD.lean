/- What is so of passages: they can be read backwards; no passage needs fewer moves. -/
import Derived.Test.YtojplagenejhdaaDoorMathC
set_option linter.all false
namespace Go.Proofs.YtojplagenejhdaaDoor
open Go Go.RowKit

/-- The same cell, or a neighbour. -/
def nigh (c : Ch) (a b : Nat) : Prop := a = b ∨ ∃ k, k < 6 ∧ nxt c.w c.h a k = some (b : Int)

theorem nigh_comm {c : Ch} (hok : ChOk c) {a b : Nat} (ha : a < c.cells) (h : nigh c a b) : nigh c b a := by
  have hw := hok.1.1
  have hh := hok.2.1.1
  obtain ⟨m0, m1, m2⟩ := hok.mul
  rcases h with h | ⟨k, hk, h⟩
  · exact .inl h.symm
  · exact .inr ⟨(k + 3) % 6, Nat.mod_lt _ (by omega), nxt_back hw hh (Int.natCast_nonneg a) (by rw [m2]; exact Int.ofNat_lt.2 ha) hk h⟩

/-- Cells that a boat goes through, tick by tick. -/
def PathF (c : Ch) (g : Int) (tick : Nat) (step : Int) (f : Nat → Nat) (j : Nat) : Prop :=
  (∀ m, m ≤ j → f m < c.cells ∧ c.sure g (f m) ((tick : Int) + (m : Int) * step).toNat = true) ∧ ∀ m, m < j → nigh c (f m) (f (m + 1))

theorem reach_lt {c : Ch} {g : Int} {cell tick : Nat} {step : Int} {j i : Nat} (h : Reach c g cell tick step j i) : i < c.cells := h.1

theorem path_reach {c : Ch} (hok : ChOk c) {g : Int} {tick : Nat} {step : Int} {f : Nat → Nat} : ∀ {j : Nat}, PathF c g tick step f j → Reach c g (f 0) tick step j (f j)
  | 0, h => by
    have := h.1 0 (by omega)
    exact (reach_zero this.1).2 ⟨rfl, by simpa using this.2⟩
  | j + 1, h => by
    have h1 := h.1 (j + 1) (by omega)
    have hp : PathF c g tick step f j := ⟨fun m hm => h.1 m (by omega), fun m hm => h.2 m (by omega)⟩
    have ih := path_reach hok hp
    refine (reach_succ hok).2 ⟨h1.1, h1.2, ?_⟩
    rcases nigh_comm hok (h.1 j (by omega)).1 (h.2 j (by omega)) with e | ⟨k, hk, e⟩
    · rw [e]; exact .inl ih
    · exact .inr ⟨k, f j, hk, e, ih⟩

theorem reach_path {c : Ch} (hok : ChOk c) {g : Int} {cell tick : Nat} (hcell : cell < c.cells) {step : Int} : ∀ {j i : Nat}, Reach c g cell tick step j i → ∃ f : Nat → Nat, f 0 = cell ∧ f j = i ∧ PathF c g tick step f j
  | 0, i, h => by
    obtain ⟨rfl, hs⟩ := (reach_zero hcell).1 h
    exact ⟨fun _ => i, rfl, rfl, fun m hm => ⟨hcell, by
      obtain rfl : m = 0 := by omega
      simpa using hs⟩, fun m hm => .inl rfl⟩
  | j + 1, i, h => by
    obtain ⟨hi, hs, h⟩ := (reach_succ hok).1 h
    have key : ∃ i', i' < c.cells ∧ nigh c i' i ∧ Reach c g cell tick step j i' := by
      rcases h with h | ⟨k, i', hk, e, h⟩
      · exact ⟨i, hi, .inl rfl, h⟩
      · exact ⟨i', h.1, nigh_comm hok hi (.inr ⟨k, hk, e⟩), h⟩
    obtain ⟨i', hi', hn, hr⟩ := key
    obtain ⟨f, f0, fj, h1, h2⟩ := reach_path hok hcell hr
    refine ⟨fun m => if m ≤ j then f m else i, by simp [f0], by simp [show ¬ j + 1 ≤ j by omega], fun m hm => ?_, fun m hm => ?_⟩
    · by_cases e : m ≤ j
      · simp only [e, if_true]; exact h1 m e
      · obtain rfl : m = j + 1 := by omega
        simp only [e, if_false]; exact ⟨hi, hs⟩
    · by_cases e : m + 1 ≤ j
      · simp only [show m ≤ j by omega, e, if_true]; exact h2 m (by omega)
      · obtain rfl : m = j := by omega
        simp only [Nat.le_refl, if_true, show ¬ m + 1 ≤ m by omega, if_false]
        rw [fj]; exact hn

/-- The way back. -/
theorem reach_rev {c : Ch} (hok : ChOk c) {g : Int} {a b t m : Nat} (ha : a < c.cells) (hb : b < c.cells) : Reach c g a t 1 m b ↔ Reach c g b (t + m) (-1) m a := by
  constructor
  · intro h
    obtain ⟨f, f0, fj, h1, h2⟩ := reach_path hok ha h
    have hp : PathF c g (t + m) (-1) (fun n => f (m - n)) m := by
      refine ⟨fun n hn => ?_, fun n hn => ?_⟩
      · have := h1 (m - n) (by omega)
        rw [show (((t + m : Nat) : Int) + (n : Int) * -1).toNat = ((t : Int) + ((m - n : Nat) : Int) * 1).toNat by omega]
        exact this
      · have := nigh_comm hok (h1 (m - n - 1) (by omega)).1 (h2 (m - n - 1) (by omega))
        rw [show m - n - 1 + 1 = m - n by omega] at this
        simpa [Nat.sub_sub] using this
    have := path_reach hok hp
    simp only [Nat.sub_zero, Nat.sub_self, f0, fj] at this
    exact this
  · intro h
    obtain ⟨f, f0, fj, h1, h2⟩ := reach_path hok hb h
    have hp : PathF c g t 1 (fun n => f (m - n)) m := by
      refine ⟨fun n hn => ?_, fun n hn => ?_⟩
      · have := h1 (m - n) (by omega)
        rw [show (((t + m : Nat) : Int) + ((m - n : Nat) : Int) * -1).toNat = ((t : Int) + (n : Int) * 1).toNat by omega] at this
        exact this
      · have := nigh_comm hok (h1 (m - n - 1) (by omega)).1 (h2 (m - n - 1) (by omega))
        rw [show m - n - 1 + 1 = m - n by omega] at this
        simpa [Nat.sub_sub] using this
    have := path_reach hok hp
    simp only [Nat.sub_zero, Nat.sub_self, f0, fj] at this
    exact this

/-! ### how few moves -/

theorem fewStep_keep {w h : Int} {l : List Int} {i k : Nat} {x least : Int} (hx : 0 ≤ least ∧ least ≤ x) : 0 ≤ fewStep w h l i least k ∧ fewStep w h l i least k ≤ x := by
  unfold fewStep
  split
  · split <;> omega
  · exact hx

theorem fewStep_hit {w h : Int} {l : List Int} {i k : Nat} {least j : Int} (hj : nxt w h i k = some j) (h0 : 0 ≤ l.getD j.toNat 0) : 0 ≤ fewStep w h l i least k ∧ fewStep w h l i least k ≤ l.getD j.toNat 0 + 1 := by
  unfold fewStep
  rw [hj]
  simp only
  split <;> omega

theorem fewN_keep {w h : Int} {l : List Int} {i m : Nat} {x : Int} (hx : 0 ≤ fewN w h l i m ∧ fewN w h l i m ≤ x) : ∀ n, 0 ≤ fewN w h l i (m + n) ∧ fewN w h l i (m + n) ≤ x
  | 0 => hx
  | n + 1 => by rw [← Nat.add_assoc, fewN_succ]; exact fewStep_keep (fewN_keep hx n)

theorem fewN_self {w h : Int} {l : List Int} {i : Nat} (h0 : 0 ≤ l.getD i 0) (n : Nat) : 0 ≤ fewN w h l i n ∧ fewN w h l i n ≤ l.getD i 0 := by
  have := fewN_keep (w := w) (h := h) (l := l) (i := i) (m := 0) (x := l.getD i 0) ⟨h0, Int.le_refl _⟩ n
  rwa [Nat.zero_add] at this

theorem fewN_hit {w h : Int} {l : List Int} {i k n : Nat} {j : Int} (hk : k < n) (hj : nxt w h i k = some j) (h0 : 0 ≤ l.getD j.toNat 0) : 0 ≤ fewN w h l i n ∧ fewN w h l i n ≤ l.getD j.toNat 0 + 1 := by
  have h1 := fewStep_hit (least := fewN w h l i k) hj h0
  rw [← fewN_succ] at h1
  have := fewN_keep h1 (n - (k + 1))
  rwa [show k + 1 + (n - (k + 1)) = n by omega] at this

/-- How many moves there are up to the j-th tick. -/
def movN (f : Nat → Nat) : Nat → Nat
  | 0 => 0
  | j + 1 => if f (j + 1) = f j then movN f j else movN f j + 1

theorem path_moves {c : Ch} (hok : ChOk c) {g : Int} {tick : Nat} {step : Int} {f : Nat → Nat} : ∀ {j : Nat}, PathF c g tick step f j → 0 ≤ (rowP c g (f 0) tick step j).getD (f j) 0 ∧ (rowP c g (f 0) tick step j).getD (f j) 0 ≤ movN f j
  | 0, h => by
    have h0 := h.1 0 (by omega)
    have hs : c.sure g (f 0) tick = true := by simpa using h0.2
    unfold rowP
    rw [if_pos hs]
    simp [List.getD_eq_getElem?_getD, List.getElem?_set, h0.1, movN]
  | j + 1, h => by
    have h1 := h.1 (j + 1) (by omega)
    have hp : PathF c g tick step f j := ⟨fun m hm => h.1 m (by omega), fun m hm => h.2 m (by omega)⟩
    obtain ⟨i0, i1⟩ := path_moves hok hp
    have hg : (rowP c g (f 0) tick step (j + 1)).getD (f (j + 1)) 0 = fewN c.w c.h (rowP c g (f 0) tick step j) (f (j + 1)) 6 := by
      simp only [rowP]
      rw [aftL_get _ _ _ _ _ h1.1, if_pos h1.2]
    rw [hg]
    by_cases e : f (j + 1) = f j
    · have := fewN_self (w := c.w) (h := c.h) (l := rowP c g (f 0) tick step j) (i := f (j + 1)) (by rw [e]; exact i0) 6
      simp only [movN, e, if_true] at this ⊢
      omega
    · rcases nigh_comm hok (h.1 j (by omega)).1 (h.2 j (by omega)) with e' | ⟨k, hk, e'⟩
      · exact absurd e' e
      · have := fewN_hit (l := rowP c g (f 0) tick step j) hk e' (by simpa using i0)
        simp only [Int.toNat_natCast] at this
        simp only [movN, e, if_false]
        omega
end Go.Proofs.YtojplagenejhdaaDoor
