import Derived.Test.YtnpifaanhofonaaDoorLauH
set_option linter.all false

/- Contracts of layer 5: the reference's Board. -/
namespace Go.Proofs.YtnpifaanhofonaaDoor
open Go Go.RowKit

def rbLoop0 : SC := sf_cobleref05_Board.body.loops.headD .skip
def rbLoop1 : SC := sf_cobleref05_Board.body.loops.tail.headD .skip
def rbLoop2 : SC := sf_cobleref05_Board.body.loops.tail.tail.headD .skip

theorem rb_check (cs : List Cl) (hcl : cs.length < 2 ^ 62) (H : AH) (cv : Value) (hc : Sl H cv cs.length (clsV cs)) (S : St) (h0 : tget S.t 0 = cv) (h6 : tget S.t 6 = .int .i64 0) (hH : S.H = H) :
    ∃ q, exL Tryd.prog pf (.loop rbLoop0) S = some q ∧ (q.2.H = H ∧ q.2.lim = S.lim ∧ q.2.L = S.L ∧ tget q.2.t 0 = cv ∧ tget q.2.t 1 = tget S.t 1 ∧ ((q.1 = .exit 0 ∧ cs.all clOk = true) ∨ (q.1 = .ret ∧ tget q.2.t 4 = .slice none 0 0 ∧ tget q.2.t 5 = .int .i64 50 ∧ cs.all clOk = false))) := by
  have hc0 := hc
  obtain ⟨aa, ac, rfl, _⟩ := hc0
  refine loop_rule (I := fun k s' => ∃ i, i ≤ cs.length ∧ k = cs.length - i ∧ tget s'.t 0 = .slice aa cs.length ac ∧ tget s'.t 1 = tget S.t 1 ∧ tget s'.t 6 = .int .i64 i ∧ s'.H = H ∧ s'.lim = S.lim ∧ s'.L = S.L ∧ ∀ j (h : j < cs.length), j < i → clOk cs[j] = true) ?_ cs.length S ⟨0, by omega, by omega, h0, rfl, h6, hH, rfl, rfl, by omega⟩
  rintro k s' ⟨i, hi, rfl, e0, e1, e6, eH, el, eL, et⟩
  by_cases hlt : i < cs.length
  · obtain ⟨b1, o1, ac1, e, c0, c1, c2, c3, c4, c5, c6⟩ := clV_cells hc hlt
    cases e
    have hk := fun lim => run_Check5 cs[i] lim H
    have hw : IntKind.i64.wrap ((i : Int) + 1) = (i : Int) + 1 := wrap_i64 (by omega) (by omega)
    generalize hq : cs[i] = q at *
    simp only [hcell] at c0 c1 c2 c3 c4 c5 c6
    simp only [clV] at hk
    cases hx : clOk q with
    | true =>
      rw [hx] at hk
      simp [rbLoop0, SC.loops, sf_cobleref05_Board, e0, e1, e6, eH, el, eL, hlt, c0, c1, c2, c3, c4, c5, c6, hk, hw]
      exact ⟨_, by omega, i + 1, by omega, rfl, by omega, fun j h hj => by
        by_cases e : j = i
        · subst e; rw [hq]; exact hx
        · exact et j h (by omega)⟩
    | false =>
      rw [hx] at hk
      simp [rbLoop0, SC.loops, sf_cobleref05_Board, e0, e1, e6, eH, el, eL, hlt, c0, c1, c2, c3, c4, c5, c6, hk, hw]
      exact ⟨q, by rw [← hq]; exact List.getElem_mem hlt, hx⟩
  · have : i = cs.length := by omega
    subst this
    simp [rbLoop0, SC.loops, sf_cobleref05_Board, e0, e1, e6, eH, el, eL]
    intro x hx
    obtain ⟨j, h, e⟩ := List.mem_iff_getElem.1 hx
    rw [← e]; exact et j h h

theorem rb_seats (cs : List Cl) (hcl : cs.length < 2 ^ 62) (hs : SeatsOk cs) (l : List Nat) (hl : l.length ≤ 1000) (hlt : ∀ i ∈ l, i < cs.length) (H : AH) (cv v : Value) (hc : Sl H cv cs.length (clsV cs)) (hv : Sl H v l.length (ints (natI l))) (S : St) (hH : S.H = H) (h0 : tget S.t 0 = cv) (h10 : tget S.t 10 = v) (h11 : tget S.t 11 = .int .i64 0) (h12 : tget S.t 12 = .int .i64 0) :
    ∃ q, exL Tryd.prog pf (.loop rbLoop2) S = some q ∧ (q.1 = .exit 4 ∧ q.2.H = H ∧ q.2.lim = S.lim ∧ tget q.2.t 11 = .int .i64 (seatsM cs l) ∧ tget q.2.t 0 = cv ∧ tget q.2.t 10 = v ∧ tget q.2.t 1 = tget S.t 1 ∧ tget q.2.t 7 = tget S.t 7 ∧ tget q.2.t 8 = tget S.t 8 ∧ tget q.2.t 9 = tget S.t 9) := by
  obtain ⟨va, vc, rfl, hd⟩ := hv
  refine loop_rule (I := fun m s' => ∃ j, j ≤ l.length ∧ m = l.length - j ∧ tget s'.t 0 = cv ∧ tget s'.t 10 = .slice va l.length vc ∧ tget s'.t 12 = .int .i64 j ∧ s'.H = H ∧ s'.lim = S.lim ∧ tget s'.t 11 = .int .i64 (seatsM cs (l.take j)) ∧ tget s'.t 1 = tget S.t 1 ∧ tget s'.t 7 = tget S.t 7 ∧ tget s'.t 8 = tget S.t 8 ∧ tget s'.t 9 = tget S.t 9) ?_ l.length S
    ⟨0, by omega, by omega, h0, h10, h12, hH, rfl, by simpa [seatsM] using h11, rfl, rfl, rfl, rfl⟩
  rintro m s' ⟨j, hj, rfl, e0, e10, e12, eH, el, e11, e1, e7, e8, e9⟩
  by_cases hlt' : j < l.length
  rotate_left
  · have : j = l.length := by omega
    subst this
    rw [List.take_length] at e11
    simp [rbLoop2, SC.loops, sf_cobleref05_Board, e0, e10, e11, e12, eH, el, e1, e7, e8, e9]
  have hm := hlt l[j] (List.getElem_mem hlt')
  obtain ⟨b, o, c, e, hcell5⟩ := clV_seats hc hm
  subst e
  obtain ⟨b1, o1, rfl, hc1⟩ := hd j _ (natI_get hlt')
  have hts : l.take (j + 1) = l.take j ++ [l[j]] := by rw [List.take_add_one]; simp [hlt']
  have hsm := seatsM_snoc cs (l.take j) hm
  rw [← hts] at hsm
  have hb := seatsM_le hs _ (l.take (j + 1)) rfl
  have hw : IntKind.i64.wrap ((j : Int) + 1) = (j : Int) + 1 := wrap_i64 (by omega) (by omega)
  have hlen : (l.take (j + 1)).length ≤ 1000 := by simp; omega
  have hw2 : IntKind.i64.wrap (seatsM cs (l.take j) + cs[l[j]].seats) = seatsM cs (l.take (j + 1)) := by rw [← hsm]; exact wrap_i64 (by omega) (by omega)
  generalize hlj : l[j] = i at *
  simp only [hcell] at hc1 hcell5
  simp [rbLoop2, SC.loops, sf_cobleref05_Board, e0, e10, e11, e12, eH, el, e1, e7, e8, e9, hlt', hc1, hm, hcell5, hw, hw2]
  exact ⟨_, by omega, j + 1, by omega, rfl, by omega, rfl⟩
end Go.Proofs.YtnpifaanhofonaaDoor
