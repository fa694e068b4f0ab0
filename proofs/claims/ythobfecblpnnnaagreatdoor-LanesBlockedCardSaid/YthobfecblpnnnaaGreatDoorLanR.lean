/- The earliest way, tick by tick, when each step may be allowed or not (mathematics). -/
import Derived.Test.YthobfecblpnnnaaGreatDoorLanA
set_option linter.all false
namespace Go.Proofs.YthobfecblpnnnaaGreatDoor
open Go Go.RowKit

/-- What a way must keep: how many cells, where it begins, whether it may, from which cells one comes to a cell, and whether the step k may be made. -/
structure Wy where
  N : Nat
  fr : Nat
  ok0 : Bool
  near : Nat → List Nat
  ok : Nat → Nat → Nat → Bool

def Wy.row0 (W : Wy) : List Int := (List.replicate W.N (-1)).set W.fr (if W.ok0 then (W.fr : Int) else -1)
def Wy.from (W : Wy) (k : Nat) (r : List Int) (i : Nat) : Int := match (W.near i).find? (fun b => r.getD b (-1) != -1 && W.ok k b i) with
  | some b => b
  | none => -1
def Wy.step (W : Wy) (k : Nat) (r : List Int) : List Int := (List.range W.N).map (W.from k r)
def Wy.row (W : Wy) : Nat → List Int
  | 0 => W.row0
  | k + 1 => W.step (k + 1) (W.row k)

theorem Wy.row_length (W : Wy) : ∀ k, (W.row k).length = W.N
  | 0 => by simp [Wy.row, Wy.row0]
  | k + 1 => by simp [Wy.row, Wy.step]

theorem Wy.row_succ (W : Wy) {k i : Nat} (hi : i < W.N) : (W.row (k + 1)).getD i (-1) = W.from (k + 1) (W.row k) i := by
  simp [Wy.row, Wy.step, hi]

theorem Wy.from_some {W : Wy} {k i : Nat} {r : List Int} (h : W.from k r i ≠ -1) : ∃ b : Nat, W.from k r i = b ∧ b ∈ W.near i ∧ r.getD b (-1) ≠ -1 ∧ W.ok k b i = true := by
  unfold Wy.from at h ⊢
  split at h
  · rename_i b hb
    have h1 := List.find?_some hb
    simp only [Bool.and_eq_true, bne_iff_ne] at h1
    exact ⟨b, rfl, List.mem_of_find?_eq_some hb, h1.1, h1.2⟩
  · exact absurd rfl h

theorem Wy.from_of {W : Wy} {k i b : Nat} {r : List Int} (h1 : b ∈ W.near i) (h2 : r.getD b (-1) ≠ -1) (h3 : W.ok k b i = true) : W.from k r i ≠ -1 := by
  unfold Wy.from
  cases hf : (W.near i).find? (fun b => r.getD b (-1) != -1 && W.ok k b i) with
  | some b => simp only []; omega
  | none =>
    have := List.find?_eq_none.1 hf b h1
    simp [h3] at this
    exact absurd this h2

/-- A way: its cells. -/
structure Wy.Way (W : Wy) (cs : List Nat) : Prop where
  ok0 : W.ok0 = true
  hd : cs.head? = some W.fr
  lt : ∀ x ∈ cs, x < W.N
  st : ∀ j, j + 1 < cs.length → cs.getD j 0 ∈ W.near (cs.getD (j + 1) 0) ∧ W.ok (j + 1) (cs.getD j 0) (cs.getD (j + 1) 0) = true

theorem Wy.Way.front {W : Wy} {cs : List Nat} {i : Nat} (h : W.Way (cs ++ [i])) (hne : cs ≠ []) : W.Way cs := by
  refine ⟨h.ok0, ?_, fun x hx => h.lt x (by simp [hx]), fun j hj => ?_⟩
  · have := h.hd
    cases cs with
    | nil => exact absurd rfl hne
    | cons a l => simpa using this
  · have := h.st j (by simp; omega)
    have e : ∀ m, m < cs.length → (cs ++ [i]).getD m 0 = cs.getD m 0 := fun m hm => by
      rw [List.getD_eq_getElem?_getD, List.getElem?_append_left hm, ← List.getD_eq_getElem?_getD]
    rw [e j (by omega), e (j + 1) hj] at this
    exact this

theorem getD_last (cs : List Nat) (i : Nat) : (cs ++ [i]).getD cs.length 0 = i := by simp

theorem Wy.row_of_way {W : Wy} : ∀ (k : Nat) (cs : List Nat) (i : Nat), cs.length = k → W.Way (cs ++ [i]) → (W.row k).getD i (-1) ≠ -1
  | 0, cs, i, hk, h => by
    obtain rfl : cs = [] := List.eq_nil_of_length_eq_zero hk
    have h1 : i = W.fr := by simpa using h.hd
    have h2 : i < W.N := h.lt i (by simp)
    subst h1
    simp [Wy.row, Wy.row0, h2, h.ok0]
  | k + 1, cs, i, hk, h => by
    have hne : cs ≠ [] := by rintro rfl; simp at hk
    obtain ⟨m, b, rfl⟩ : ∃ m b, cs = m ++ [b] := ⟨_, _, (List.dropLast_concat_getLast hne).symm⟩
    have hmk : m.length = k := by simpa using hk
    have ih := row_of_way k m b hmk (h.front hne)
    have hs := h.st k (by simp; omega)
    have e1 : (m ++ [b] ++ [i]).getD k 0 = b := by rw [← hmk, List.append_assoc, List.getD_eq_getElem?_getD, List.getElem?_append_right (Nat.le_refl _)]; simp
    have e2 : (m ++ [b] ++ [i]).getD (k + 1) 0 = i := by
      have := getD_last (m ++ [b]) i
      rw [← hk]; exact this
    rw [e1, e2] at hs
    rw [W.row_succ (h.lt i (by simp))]
    exact Wy.from_of hs.1 ih hs.2

/-- Back along what the rows say. -/
def Wy.back (W : Wy) : Nat → Nat → List Nat
  | 0, i => [i]
  | k + 1, i => W.back k ((W.row (k + 1)).getD i (-1)).toNat ++ [i]

theorem Wy.back_length (W : Wy) : ∀ k i, (W.back k i).length = k + 1
  | 0, i => rfl
  | k + 1, i => by simp [Wy.back, W.back_length k]
theorem Wy.back_last (W : Wy) (k i : Nat) : ∃ m, W.back k i = m ++ [i] ∧ m.length = k := by
  cases k with
  | zero => exact ⟨[], rfl, rfl⟩
  | succ k => exact ⟨_, rfl, W.back_length k _⟩

theorem Wy.way_of_row {W : Wy} (hn : ∀ i, i < W.N → ∀ b ∈ W.near i, b < W.N) (hfr : W.fr < W.N) : ∀ (k i : Nat), i < W.N → (W.row k).getD i (-1) ≠ -1 → W.Way (W.back k i)
  | 0, i, hi, h => by
    simp only [Wy.row, Wy.row0] at h
    have h0 : i = W.fr ∧ W.ok0 = true := by
      by_cases e : W.fr = i
      · subst e
        refine ⟨rfl, ?_⟩
        cases ho : W.ok0 with
        | true => rfl
        | false => simp [ho, hi] at h
      · rw [List.getD_eq_getElem?_getD, List.getElem?_set_ne e] at h
        simp [hi] at h
    refine ⟨h0.2, by simp [Wy.back, h0.1], fun x hx => ?_, fun j hj => ?_⟩
    · simp [Wy.back] at hx; omega
    · simp [Wy.back] at hj
  | k + 1, i, hi, h => by
    have hr := W.row_succ (k := k) hi
    rw [hr] at h
    obtain ⟨b, e, hb, h1, h2⟩ := Wy.from_some h
    have hbN := hn i hi b hb
    have ih := way_of_row hn hfr k b hbN h1
    have eb : W.back (k + 1) i = W.back k b ++ [i] := by
      simp only [Wy.back]
      rw [hr, e]
      rfl
    rw [eb]
    obtain ⟨m, em, hm⟩ := W.back_last k b
    refine ⟨ih.ok0, ?_, fun x hx => ?_, fun j hj => ?_⟩
    · have := ih.hd
      have hne : W.back k b ≠ [] := by rw [em]; simp
      cases hc : W.back k b with
      | nil => exact absurd hc hne
      | cons a l => rw [hc] at this; simpa using this
    · rw [List.mem_append] at hx
      rcases hx with hx | hx
      · exact ih.lt x hx
      · simp at hx; omega
    · have hl := W.back_length k b
      by_cases e : j + 1 < (W.back k b).length
      · have e' : ∀ m, m < (W.back k b).length → (W.back k b ++ [i]).getD m 0 = (W.back k b).getD m 0 := fun m hm => by
          rw [List.getD_eq_getElem?_getD, List.getElem?_append_left hm, ← List.getD_eq_getElem?_getD]
        rw [e' j (by omega), e' (j + 1) e]
        exact ih.st j e
      · have hj' : j = k := by simp at hj; omega
        subst hj'
        have e1 : (W.back j b ++ [i]).getD j 0 = b := by
          rw [em, List.append_assoc, ← hm, List.getD_eq_getElem?_getD, List.getElem?_append_right (Nat.le_refl _)]; simp
        have e2 : (W.back j b ++ [i]).getD (j + 1) 0 = i := by
          have := getD_last (W.back j b) i
          rw [hl] at this; exact this
        rw [e1, e2]
        exact ⟨hb, h2⟩

/-- The earliest way to a cell, of at most T cells. -/
def Wy.first (W : Wy) (T to : Nat) : Option Nat := (List.range T).find? fun k => (W.row k).getD to (-1) != -1
def Wy.route (W : Wy) (T to : Nat) : Option (List Nat) := (W.first T to).map fun k => W.back k to

theorem Wy.route_some {W : Wy} (hn : ∀ i, i < W.N → ∀ b ∈ W.near i, b < W.N) (hfr : W.fr < W.N) {T to : Nat} (hto : to < W.N) {cs : List Nat} (h : W.route T to = some cs) :
    W.Way cs ∧ (∃ m, cs = m ++ [to]) ∧ cs.length ≤ T ∧ 0 < cs.length ∧ ∀ m, W.Way (m ++ [to]) → (m ++ [to]).length ≤ T → cs.length ≤ (m ++ [to]).length := by
  unfold Wy.route Wy.first at h
  cases hf : (List.range T).find? fun k => (W.row k).getD to (-1) != -1 with
  | none => rw [hf] at h; cases h
  | some k =>
    rw [hf] at h
    simp only [Option.map_some, Option.some.injEq] at h
    subst h
    obtain ⟨h1, hh⟩ := List.find?_eq_some_iff_getElem.1 hf
    obtain ⟨i, hi, e, hlt⟩ := hh
    simp only [List.getElem_range] at e
    subst e
    simp only [List.length_range] at hi
    obtain ⟨m, em, hm⟩ := W.back_last i to
    refine ⟨Wy.way_of_row hn hfr i to hto (by simpa using h1), ⟨m, em⟩, by rw [W.back_length]; omega, by rw [W.back_length]; omega, fun m' hw hl => ?_⟩
    rw [W.back_length]
    apply Nat.le_of_not_lt
    intro hlt'
    simp only [List.length_append, List.length_cons, List.length_nil] at hlt' hl
    have := hlt m'.length (by omega)
    simp only [List.getElem_range] at this
    have hr := Wy.row_of_way m'.length m' to rfl hw
    rw [bne_iff_ne.2 hr] at this
    cases this

theorem Wy.route_none {W : Wy} {T to : Nat} (h : W.route T to = none) : ∀ m, W.Way (m ++ [to]) → ¬ (m ++ [to]).length ≤ T := by
  intro m hw hl
  unfold Wy.route Wy.first at h
  rw [Option.map_eq_none_iff, List.find?_eq_none] at h
  simp only [List.length_append, List.length_cons, List.length_nil] at hl
  have := h m.length (by simp; omega)
  have hr := Wy.row_of_way m.length m to rfl hw
  rw [bne_iff_ne.2 hr] at this
  exact this rfl
end Go.Proofs.YthobfecblpnnnaaGreatDoor
