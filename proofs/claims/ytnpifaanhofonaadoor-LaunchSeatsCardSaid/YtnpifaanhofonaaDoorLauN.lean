import Derived.Test.YtnpifaanhofonaaDoorLauM
set_option linter.all false

/- Contracts of layer 5: the law LaunchSeats. -/
namespace Go.Proofs.YtnpifaanhofonaaDoor
open Go Go.RowKit

theorem asc_get : ∀ (l : List Nat) (j : Nat) (h : j + 1 < l.length), Asc l → l[j] < l[j + 1]
  | a :: b :: l, 0, _, ha => ha.1
  | a :: b :: l, j + 1, h, ha => by
    have := asc_get (b :: l) j (by simpa using h) ha.2
    simpa using this
  | [a], j, h, _ => by simp at h
  | [], j, h, _ => by simp at h

set_option maxHeartbeats 2000000 in
theorem ls_own (cs : List Cl) (hn : cs.length ≤ 10) (hs : SeatsOk cs) (l : List Nat) (hasc : Asc l) (hlt : ∀ i ∈ l, i < cs.length) (H : AH) (cv v : Value) (hc : Sl H cv cs.length (clsV cs)) (hv : Sl H v l.length (ints (natI l))) (S : St) (hH : S.H = H) (h0 : tget S.t 0 = cv) (h12 : tget S.t 12 = v) (h7 : tget S.t 7 = .int .i64 0) (h14 : tget S.t 14 = .int .i64 0) :
    ∃ q, exL Tryd.prog pf (.loop lsLoop1) S = some q ∧ (q.1 = .exit 2 ∧ q.2.H = H ∧ q.2.lim = S.lim ∧ q.2.L = S.L ∧ tget q.2.t 7 = .int .i64 (seatsM cs l) ∧ tget q.2.t 1 = tget S.t 1 ∧ tget q.2.t 9 = tget S.t 9 ∧ tget q.2.t 10 = tget S.t 10 ∧ tget q.2.t 12 = v) := by
  have hll := asc_len hasc hlt
  have hc0 := hc
  obtain ⟨ca, cc, ec, _⟩ := hc0
  obtain ⟨va, vc, rfl, hd⟩ := hv
  refine loop_rule (I := fun m s' => ∃ j, j ≤ l.length ∧ m = l.length - j ∧ tget s'.t 0 = cv ∧ tget s'.t 12 = .slice va l.length vc ∧ tget s'.t 14 = .int .i64 j ∧ s'.H = H ∧ s'.lim = S.lim ∧ s'.L = S.L ∧ tget s'.t 7 = .int .i64 (seatsM cs (l.take j)) ∧ tget s'.t 1 = tget S.t 1 ∧ tget s'.t 9 = tget S.t 9 ∧ tget s'.t 10 = tget S.t 10) ?_ l.length S
    ⟨0, by omega, by omega, h0, h12, h14, hH, rfl, rfl, by simpa [seatsM] using h7, rfl, rfl, rfl⟩
  rintro m s' ⟨j, hj, rfl, e0, e12, e14, eH, el, eL, e7, e1, e9, e10⟩
  by_cases hlt' : j < l.length
  rotate_left
  · have : j = l.length := by omega
    subst this
    rw [List.take_length] at e7
    simp [lsLoop1, SC.loops, sf_coblelaw05_LaunchSeats, e0, e12, e14, eH, el, eL, e7, e1, e9, e10]
  have hm := hlt l[j] (List.getElem_mem hlt')
  obtain ⟨b, o, c, e, hcell5⟩ := clV_seats hc hm
  obtain ⟨b1, o1, rfl, hc1⟩ := hd j _ (natI_get hlt')
  have hprev : ∀ k, j = k + 1 → ∃ p : Nat, hcell H b1 (o1 + k) = some (.int .i64 (p : Nat)) ∧ p < l[j] := fun k hk => by
    subst hk
    obtain ⟨b2, o2, e2, h2⟩ := hd k _ (natI_get (show k < l.length by omega))
    cases e2
    exact ⟨_, h2, asc_get l k hlt' hasc⟩
  have hts : l.take (j + 1) = l.take j ++ [l[j]] := by rw [List.take_add_one]; simp [hlt']
  have hsm := seatsM_snoc cs (l.take j) hm
  rw [← hts] at hsm
  have hb := seatsM_le hs _ (l.take (j + 1)) rfl
  have hlen : (l.take (j + 1)).length ≤ 1000 := by simp; omega
  have hw2 : IntKind.i64.wrap (seatsM cs (l.take j) + cs[l[j]].seats) = seatsM cs (l.take (j + 1)) := by rw [← hsm]; exact wrap_i64 (by omega) (by omega)
  have hw : IntKind.i64.wrap ((j : Int) + 1) = (j : Int) + 1 := wrap_i64 (by omega) (by omega)
  subst e
  generalize hlj : l[j] = i at *
  have hi0 : ¬ ((i : Nat) : Int) < 0 := by omega
  have hi1 : ¬ ((cs.length : Nat) : Int) ≤ (i : Nat) := by omega
  simp only [hcell] at hc1 hcell5
  by_cases hj0 : 0 < j
  rotate_left
  · have hg : ¬ (0 : Int) < (j : Int) := by omega
    simp [lsLoop1, SC.loops, sf_coblelaw05_LaunchSeats, e0, e12, e14, eH, el, eL, e7, e1, e9, e10, hlt', hc1, hm, hcell5, hw, hw2, hi0, hi1, hg, hj0]
    exact ⟨_, by omega, j + 1, by omega, rfl, by omega, rfl⟩
  · obtain ⟨k, hk⟩ : ∃ k, j = k + 1 := ⟨j - 1, by omega⟩
    obtain ⟨p, hp1, hp2⟩ := hprev k hk
    have hg : (0 : Int) < (j : Int) := by omega
    have hwk : IntKind.i64.wrap ((j : Int) - 1) = (k : Int) := by rw [wrap_i64 (by omega) (by omega)]; omega
    have hip : ¬ ((i : Nat) : Int) ≤ (p : Nat) := by omega
    have hkl : k < l.length := by omega
    simp only [hcell] at hp1
    simp [lsLoop1, SC.loops, sf_coblelaw05_LaunchSeats, e0, e12, e14, eH, el, eL, e7, e1, e9, e10, hlt', hc1, hm, hcell5, hw, hw2, hi0, hi1, hg, hj0, hwk, hp1, hip, hkl, hp2]
    exact ⟨_, by omega, j + 1, by omega, rfl, by omega, rfl⟩
end Go.Proofs.YtnpifaanhofonaaDoor
