/- What is so of passages: who can be where, and when first. -/
import Derived.Test.YtojplagenejhdaaDoorPasF
set_option linter.all false
namespace Go.Proofs.YtojplagenejhdaaDoor
open Go Go.RowKit

theorem fewN_iff {w h : Int} {l : List Int} (hl : ∀ i, -1 ≤ l.getD i 0) (i : Nat) : ∀ n, 0 ≤ fewN w h l i n ↔ 0 ≤ l.getD i 0 ∨ ∃ k j, k < n ∧ nxt w h i k = some j ∧ 0 ≤ l.getD j.toNat 0
  | 0 => by
    unfold fewN
    simp
  | n + 1 => by
    rw [fewN_succ]
    have ih := fewN_iff (w := w) (h := h) hl i n
    unfold fewStep
    split
    · rename_i j hj
      split
      · rename_i hc
        have : 0 ≤ l.getD j.toNat 0 + 1 := by omega
        refine ⟨fun _ => .inr ⟨n, j, by omega, hj, hc.1⟩, fun _ => this⟩
      · rename_i hc
        rw [ih]
        constructor
        · rintro (h | ⟨k, j', h1, h2, h3⟩)
          · exact .inl h
          · exact .inr ⟨k, j', by omega, h2, h3⟩
        · rintro (h | ⟨k, j', h1, h2, h3⟩)
          · exact .inl h
          · by_cases e : k = n
            · subst e
              rw [hj] at h2
              obtain rfl := Option.some.inj h2
              refine ih.1 ?_
              omega
            · exact .inr ⟨k, j', by omega, h2, h3⟩
    · rename_i hj
      rw [ih]
      constructor
      · rintro (h | ⟨k, j', h1, h2, h3⟩)
        · exact .inl h
        · exact .inr ⟨k, j', by omega, h2, h3⟩
      · rintro (h | ⟨k, j', h1, h2, h3⟩)
        · exact .inl h
        · by_cases e : k = n
          · subst e; rw [hj] at h2; cases h2
          · exact .inr ⟨k, j', by omega, h2, h3⟩

/-- A boat can surely be in a cell in the j-th tick that is gone through. -/
def Reach (c : Ch) (g : Int) (cell tick : Nat) (step : Int) (j i : Nat) : Prop := i < c.cells ∧ 0 ≤ (rowP c g cell tick step j).getD i 0

theorem reach_zero {c : Ch} {g : Int} {cell tick : Nat} {step : Int} {i : Nat} (hcell : cell < c.cells) : Reach c g cell tick step 0 i ↔ i = cell ∧ c.sure g cell tick = true := by
  unfold Reach rowP
  constructor
  · rintro ⟨hi, h⟩
    split at h
    · rename_i hs
      refine ⟨?_, hs⟩
      by_cases e : i = cell
      · exact e
      · exfalso
        rw [List.getD_eq_getElem?_getD, List.getElem?_set_ne (fun h => e h.symm)] at h
        simp [hi] at h
    · simp [List.getD_eq_getElem?_getD, hi] at h
  · rintro ⟨rfl, hs⟩
    rw [if_pos hs]
    refine ⟨hcell, ?_⟩
    simp [List.getD_eq_getElem?_getD, List.getElem?_set, hcell]

theorem reach_succ {c : Ch} (hok : ChOk c) {g : Int} {cell tick : Nat} {step : Int} {j i : Nat} : Reach c g cell tick step (j + 1) i ↔ i < c.cells ∧ c.sure g i ((tick : Int) + ((j + 1 : Nat) : Int) * step).toNat = true ∧ (Reach c g cell tick step j i ∨ ∃ (k i' : Nat), k < 6 ∧ nxt c.w c.h i k = some (i' : Int) ∧ Reach c g cell tick step j i') := by
  have hw := hok.1.1
  have hh := hok.2.1.1
  obtain ⟨m0, m1, m2⟩ := hok.mul
  have hb := rowP_le c g cell tick step j
  unfold Reach
  constructor
  · rintro ⟨hi, h⟩
    simp only [rowP] at h
    rw [aftL_get _ _ _ _ _ hi] at h
    split at h
    · rename_i hs
      refine ⟨hi, hs, ?_⟩
      rcases (fewN_iff (fun i => (hb i).1) i 6).1 h with h | ⟨k, j', h1, h2, h3⟩
      · exact .inl ⟨hi, h⟩
      · obtain ⟨x0, x1, _⟩ := nxt_some hw hh h2
        exact .inr ⟨k, j'.toNat, h1, by rw [h2]; congr 1; omega, by omega, h3⟩
    · omega
  · rintro ⟨hi, hs, h⟩
    refine ⟨hi, ?_⟩
    simp only [rowP]
    rw [aftL_get _ _ _ _ _ hi, if_pos hs]
    refine (fewN_iff (fun i => (hb i).1) i 6).2 ?_
    rcases h with ⟨_, h⟩ | ⟨k, i', h1, h2, _, h3⟩
    · exact .inl h
    · exact .inr ⟨k, i', h1, h2, by simpa using h3⟩

/-- Where more floats, more is reached. -/
theorem reach_mono {c q : Ch} (hok : ChOk c) (hoq : ChOk q) (ew : q.w = c.w) (eh : q.h = c.h) {g g' : Int} {cell tick : Nat} {step : Int} (hcell : cell < c.cells) (hs : ∀ i k, i < c.cells → c.sure g i k = true → q.sure g' i k = true) : ∀ j i, Reach c g cell tick step j i → Reach q g' cell tick step j i := by
  have hc : c.cells = q.cells := by
    have h1 := hok.mul.2.2
    have h2 := hoq.mul.2.2
    rw [ew, eh] at h2
    omega
  intro j
  induction j with
  | zero =>
    intro i h
    obtain ⟨rfl, h⟩ := (reach_zero hcell).1 h
    exact (reach_zero (by omega)).2 ⟨rfl, hs _ _ hcell h⟩
  | succ j ih =>
    intro i h
    obtain ⟨hi, h1, h2⟩ := (reach_succ hok).1 h
    refine (reach_succ hoq).2 ⟨by omega, hs _ _ hi h1, ?_⟩
    rcases h2 with h2 | ⟨k, i', h3, h4, h5⟩
    · exact .inl (ih _ h2)
    · exact .inr ⟨k, i', h3, by rw [ew, eh]; exact h4, ih _ h5⟩

theorem nearF_get (row : List Int) (tk : Int) (l : List Int) (i : Nat) : ∀ n, n ≤ l.length → (nearF row tk l n).getD i 0 = if i < n ∧ 0 ≤ row.getD i 0 ∧ l.getD i 0 < 0 then tk else l.getD i 0
  | 0, _ => by unfold nearF; simp
  | n + 1, hn => by
    have ih := nearF_get row tk l i n (by omega)
    have ihn := nearF_get row tk l n n (by omega)
    have hlen := nearF_len row tk l n
    rw [nearF_succ]
    unfold nearStep
    rw [if_neg (by omega)] at ihn
    rw [ihn]
    split
    · rename_i hc
      by_cases e : i = n
      · subst e
        rw [if_pos ⟨by omega, hc⟩]
        simp only [List.getD_eq_getElem?_getD, List.getElem?_set_self (show i < (nearF row tk l i).length by omega), Option.getD_some]
      · rw [List.getD_eq_getElem?_getD, List.getElem?_set_ne (fun h => e h.symm), ← List.getD_eq_getElem?_getD, ih]
        by_cases h1 : i < n
        · simp [h1, show i < n + 1 by omega]
        · simp [h1, show ¬ i < n + 1 by omega]
    · rename_i hc
      rw [ih]
      by_cases e : i = n
      · subst e
        rw [if_neg (by omega), if_neg (fun h => hc h.2)]
      · by_cases h1 : i < n
        · simp [h1, show i < n + 1 by omega]
        · simp [h1, show ¬ i < n + 1 by omega]

/-- What nearest says: the first tick gone through in which a boat can be there. -/
theorem nearL_get (c : Ch) (g : Int) (cell tick : Nat) (step : Int) (i : Nat) (hi : i < c.cells) : ∀ j, (∀ m : Nat, m < j → 0 ≤ (tick : Int) + (m : Int) * step) →
    (∃ m, m < j ∧ Reach c g cell tick step m i ∧ (∀ m', m' < m → ¬ Reach c g cell tick step m' i) ∧ (nearL c g cell tick step j).getD i 0 = (tick : Int) + (m : Int) * step) ∨
    ((∀ m, m < j → ¬ Reach c g cell tick step m i) ∧ (nearL c g cell tick step j).getD i 0 = -1)
  | 0, _ => .inr ⟨fun m h => by omega, by simp [nearL, List.getD_eq_getElem?_getD, hi]⟩
  | j + 1, hp => by
    have ih := nearL_get c g cell tick step i hi j (fun m h => hp m (by omega))
    have hg := nearF_get (rowP c g cell tick step j) ((tick : Int) + (j : Int) * step) (nearL c g cell tick step j) i c.cells (by rw [nearL_len]; exact Nat.le_refl _)
    have e : nearL c g cell tick step (j + 1) = nearF (rowP c g cell tick step j) ((tick : Int) + (j : Int) * step) (nearL c g cell tick step j) c.cells := rfl
    rw [e, hg]
    rcases ih with ⟨m, h1, h2, h3, h4⟩ | ⟨h1, h2⟩
    · left
      have := hp m (by omega)
      refine ⟨m, by omega, h2, h3, ?_⟩
      rw [if_neg (by omega), h4]
    · rw [h2]
      by_cases hr : 0 ≤ (rowP c g cell tick step j).getD i 0
      · left
        exact ⟨j, by omega, ⟨hi, hr⟩, h1, by rw [if_pos ⟨hi, hr, by omega⟩]⟩
      · right
        refine ⟨fun m hm => ?_, by rw [if_neg (fun h => hr h.2.1)]⟩
        by_cases e : m = j
        · subst e; exact fun h => hr h.2
        · exact h1 m (by omega)
end Go.Proofs.YtojplagenejhdaaDoor
