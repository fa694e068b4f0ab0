import Derived.Test.YtnpifaanhofonaaGreatDoorLauE
set_option linter.all false

/- Contracts of layer 5: seats; Board of the program. -/
namespace Go.Proofs.YtnpifaanhofonaaGreatDoor
open Go Go.RowKit

theorem clV_seats {H : AH} {xs : List Cl} {v : Value} (hv : Sl H v xs.length (clsV xs)) {i : Nat} (hi : i < xs.length) : ∃ b o c, v = .slice (some ⟨b, o, none⟩) xs.length c ∧ hcell H b (o + i * 7 + 5) = some (.int .i64 xs[i].seats) := by
  obtain ⟨b, o, c, e, h⟩ := clV_cells hv hi
  exact ⟨b, o, c, e, h.2.2.2.2.2.1⟩

/-- How many seats some boats have. -/
def seatsM (cs : List Cl) (l : List Nat) : Int := (l.map fun i => match cs[i]? with | some c => c.seats | none => 0).foldl (· + ·) 0
theorem seatsM_snoc (cs : List Cl) (l : List Nat) {i : Nat} (hi : i < cs.length) : seatsM cs (l ++ [i]) = seatsM cs l + cs[i].seats := by
  simp [seatsM, List.foldl_append, hi]
/-- The seats of each class are few. -/
def SeatsOk (cs : List Cl) : Prop := ∀ c ∈ cs, 0 ≤ c.seats ∧ c.seats ≤ 40
theorem seatsM_le {cs : List Cl} (h : SeatsOk cs) : ∀ (k : Nat) (l : List Nat), l.length = k → 0 ≤ seatsM cs l ∧ seatsM cs l ≤ 40 * (k : Int)
  | 0, l, e => by
    have : l = [] := List.eq_nil_of_length_eq_zero e
    subst this
    simp [seatsM]
  | k + 1, l, e => by
    have hne : l ≠ [] := by rintro rfl; simp at e
    obtain ⟨m, i, rfl⟩ : ∃ m i, l = m ++ [i] := ⟨_, _, (List.dropLast_concat_getLast hne).symm⟩
    have ih := seatsM_le h k m (by simpa using e)
    have key : seatsM cs (m ++ [i]) = seatsM cs m + (match cs[i]? with | some c => c.seats | none => 0) := by simp [seatsM, List.foldl_append]
    rw [key]
    cases hc : cs[i]? with
    | none => simp only []; omega
    | some c =>
      have := h c (List.mem_of_getElem? hc)
      simp only []; omega

open Classical in
/-- Board: the list and its error. -/
noncomputable def boardD (cs : List Cl) (people : Int) : List Nat × Int :=
  if 10 < cs.length then ([], 2) else if cs.all clOk = false then ([], 50) else if people < 0 then ([], 1) else
    match (listsM cs.length).find? (fun l => decide (people ≤ seatsM cs l)) with | some l => (l, 0) | none => ([], 3)

theorem seats_of {cs : List Cl} (h : cs.all clOk = true) : SeatsOk cs := fun c hc => by
  have := List.all_eq_true.1 h c hc
  unfold clOk at this
  simp only [Bool.and_eq_true, decide_eq_true_eq] at this
  omega

end Go.Proofs.YtnpifaanhofonaaGreatDoor
