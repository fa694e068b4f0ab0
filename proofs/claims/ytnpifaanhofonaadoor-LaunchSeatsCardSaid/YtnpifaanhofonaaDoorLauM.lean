import Derived.Test.YtnpifaanhofonaaDoorLauK
set_option linter.all false

/- Contracts of layer 5: the loops of the law LaunchSeats. -/
namespace Go.Proofs.YtnpifaanhofonaaDoor
open Go Go.RowKit

def bitB (set : Int) (i : Nat) : Bool := (set.fdiv (2 ^ i)) % 2 == 1
/-- The numbers of the bits of any number. -/
def someM (set : Int) (n : Nat) : List Nat := (List.range n).filter (bitB set)
theorem someM_succ (set : Int) (n : Nat) : someM set (n + 1) = someM set n ++ (if bitB set n then [n] else []) := by
  unfold someM
  rw [List.range_succ, List.filter_append]
  congr 1
  cases h : bitB set n <;> simp [h]
theorem someM_asc (set : Int) (n : Nat) : Asc (someM set n) := asc_pair _ (List.pairwise_lt_range.filter _)
theorem someM_lt (set : Int) (n : Nat) : ∀ i ∈ someM set n, i < n := fun i hi => List.mem_range.1 (List.mem_filter.1 hi).1

def lsLoop0 : SC := sf_coblelaw05_LaunchSeats.body.loops.headD .skip
def lsLoop1 : SC := sf_coblelaw05_LaunchSeats.body.loops.tail.headD .skip
def lsLoop2 : SC := sf_coblelaw05_LaunchSeats.body.loops.tail.tail.headD .skip

set_option maxHeartbeats 2000000 in
theorem ls_pick (cs : List Cl) (hn : cs.length ≤ 10) (people set : Int) (H : AH) (hG : H[waysG]? = some (.ro waysV)) (cv : Value) (hc : Sl H cv cs.length (clsV cs)) (S : St) (hH : S.H = H) (hlim : S.lim = H.length) (h0 : tget S.t 0 = cv) (h1 : tget S.t 1 = .int .i64 people) (h2 : tget S.t 2 = .int .i64 set)
    (h7 : tget S.t 7 = .int .i64 0) (h8 : tget S.t 8 = .int .i64 0) (h9 : tget S.t 9 = .int .i64 0) (h10 : tget S.t 10 = .slice none 0 0) (h11 : tget S.t 11 = .int .i64 0) :
    ∃ q, exL Tryd.prog pf (.loop lsLoop0) S = some q ∧ (q.2.lim = S.lim ∧ Aft H q.2.H ∧ ((q.1 = .ret ∧ tget q.2.t 6 = .bool true) ∨ (q.1 = .exit 0 ∧ cs.all clOk = true ∧ tget q.2.t 0 = cv ∧ tget q.2.t 1 = .int .i64 people ∧ tget q.2.t 7 = .int .i64 0 ∧ tget q.2.t 8 = .int .i64 (seatsM cs (List.range cs.length)) ∧ tget q.2.t 9 = .int .i64 (seatsM cs (someM set cs.length)) ∧ LstO H.length q.2.H (tget q.2.t 10) (someM set cs.length)))) := by
  have hc0 := hc
  obtain ⟨aa, ac, ec, _⟩ := hc0
  refine loop_rule (I := fun m s' => ∃ i, i ≤ cs.length ∧ m = cs.length - i ∧ tget s'.t 0 = .slice aa cs.length ac ∧ tget s'.t 1 = .int .i64 people ∧ tget s'.t 2 = .int .i64 set ∧ tget s'.t 7 = .int .i64 0 ∧ tget s'.t 8 = .int .i64 (seatsM cs (List.range i)) ∧ tget s'.t 9 = .int .i64 (seatsM cs (someM set i)) ∧ tget s'.t 11 = .int .i64 i ∧ s'.lim = S.lim ∧ Aft H s'.H ∧ LstO H.length s'.H (tget s'.t 10) (someM set i) ∧ ∀ j (h : j < cs.length), j < i → clOk cs[j] = true) ?_ cs.length S
    ⟨0, by omega, by omega, by rw [h0, ec], h1, h2, h7, h8, h9, h11, rfl, by rw [hH]; exact Aft.refl H, .inl ⟨rfl, h10⟩, by omega⟩
  rintro m s' ⟨i, hi, rfl, e0, e1, e2, e7, e8, e9, e11, el, eA, eL, et⟩
  obtain ⟨A, hA⟩ : ∃ A, s'.H = A := ⟨_, rfl⟩
  rw [hA] at eA eL
  have hcA := hc.ext eA.ext
  have hwk := fun lim => run_works5 lim A (eA.ext _ _ hG)
  by_cases hlt : i < cs.length
  rotate_left
  · have : i = cs.length := by omega
    subst this
    simp [-List.all_eq_true, lsLoop0, SC.loops, sf_coblelaw05_LaunchSeats, e0, e1, e2, e7, e8, e9, e11, hA, ec]
    refine ⟨el, eA, ?_, eL⟩
    rw [List.all_eq_true]
    intro x hx
    obtain ⟨j, h, e⟩ := List.mem_iff_getElem.1 hx
    rw [← e]; exact et j h h
  rw [ec] at hcA
  obtain ⟨b1, o1, ac1, e, c0, c1, c2, c3, c4, c5, c6⟩ := clV_cells hcA hlt
  cases e
  have h5 : ∀ B : AH, Ext H B → hcell B b1 (o1 + i * 7 + 5) = some (.int .i64 cs[i].seats) := fun B hE => by
    have hB := hc.ext hE
    rw [ec] at hB
    obtain ⟨b', o', c', e', h'⟩ := clV_seats hB hlt
    cases e'
    exact h'
  have hk := fun lim => run_Check5 cs[i] lim A
  have hw : IntKind.i64.wrap ((i : Int) + 1) = (i : Int) + 1 := wrap_i64 (by omega) (by omega)
  have hu : IntKind.u64.wrap (i : Int) = (i : Int) := wrap_u64j (by omega)
  have hmin : min i IntKind.i64.bits = i := by have e : IntKind.i64.bits = 64 := rfl; omega
  have hand := and_one (set.fdiv (2 ^ min i IntKind.i64.bits))
  rw [hmin] at hand
  have hall := seatsM_snoc cs (List.range i) hlt
  rw [← List.range_succ] at hall
  have hcs := someM_succ set i
  have hmany := seatsM_snoc cs (someM set i) hlt
  generalize hq : cs[i] = q at *
  simp only [hcell] at c0 c1 c2 c3 c4 c5 c6
  simp only [clV] at hk
  cases hx : clOk q with
  | false =>
    rw [hx] at hk
    simp [lsLoop0, SC.loops, sf_coblelaw05_LaunchSeats, e0, e1, e2, e7, e8, e9, e11, hA, el, hlt, c0, c1, c2, c3, c4, c5, c6, hk, hwk]
    exact eA
  | true =>
  rw [hx] at hk
  have hq40 : 0 ≤ q.seats ∧ q.seats ≤ 40 := by
    unfold clOk at hx
    simp only [Bool.and_eq_true, decide_eq_true_eq] at hx
    omega
  have hbound : ∀ (l : List Nat), (∀ j ∈ l, j < i) → l.length ≤ i → 0 ≤ seatsM cs l ∧ seatsM cs l ≤ 40 * (i : Int) := by
    intro l hl hll
    have key : ∀ (k : Nat) (l : List Nat), l.length = k → (∀ j ∈ l, j < i) → 0 ≤ seatsM cs l ∧ seatsM cs l ≤ 40 * (k : Int) := by
      intro k
      induction k with
      | zero => intro l e _; have : l = [] := List.eq_nil_of_length_eq_zero e; subst this; simp [seatsM]
      | succ k ih =>
        intro l e hl
        have hne : l ≠ [] := by rintro rfl; simp at e
        obtain ⟨m, j, rfl⟩ : ∃ m j, l = m ++ [j] := ⟨_, _, (List.dropLast_concat_getLast hne).symm⟩
        have hj := hl j (by simp)
        have ih' := ih m (by simpa using e) fun x hx => hl x (by simp [hx])
        have hjl : j < cs.length := by omega
        rw [seatsM_snoc cs m hjl]
        have hok := et j hjl hj
        unfold clOk at hok
        simp only [Bool.and_eq_true, decide_eq_true_eq] at hok
        omega
    have := key l.length l rfl hl
    omega
  have hbA := hbound (List.range i) (fun j hj => List.mem_range.1 hj) (by simp)
  have hsl : (someM set i).length ≤ i := asc_len (someM_asc set i) (someM_lt set i)
  have hbS := hbound (someM set i) (someM_lt set i) hsl
  have hwA : IntKind.i64.wrap (seatsM cs (List.range i) + q.seats) = seatsM cs (List.range (i + 1)) := by rw [hall]; exact wrap_i64 (by omega) (by omega)
  have hwS : IntKind.i64.wrap (seatsM cs (someM set i) + q.seats) = seatsM cs (someM set i) + q.seats := wrap_i64 (by omega) (by omega)
  have et' : ∀ j (h : j < cs.length), j < i + 1 → clOk cs[j] = true := fun j h hj => by
    by_cases e : j = i
    · subst e; rw [hq]; exact hx
    · exact et j h (by omega)
  have hm1 : 1 ≤ maxA := by decide
  cases hb : bitB set i with
  | false =>
    have hb' : (set.fdiv (2 ^ i) % 2 == 1) = false := hb
    rw [hb] at hcs
    simp only [if_false, Bool.false_eq_true, List.append_nil] at hcs
    simp [lsLoop0, SC.loops, sf_coblelaw05_LaunchSeats, e0, e1, e2, e7, e8, e9, e11, hA, el, hlt, c0, c1, c2, c3, c4, c5, c6, hk, hw, hu, hmin, hand, hb', hwA]
    exact ⟨_, by omega, i + 1, by omega, rfl, rfl, by rw [hcs], by omega, eA, by rw [hcs]; exact eL, et'⟩
  | true =>
    have hb' : (set.fdiv (2 ^ i) % 2 == 1) = true := hb
    rw [hb] at hcs
    simp only [if_true] at hcs
    rw [← hcs] at hmany
    have happ : ints (natI (someM set i)) ++ [.int .i64 (i : Int)] = ints (natI (someM set (i + 1))) := by rw [hcs]; simp [natI, ints]
    have hne : someM set (i + 1) ≠ [] := by rw [hcs]; simp
    have hlen : (someM set (i + 1)).length = (someM set i).length + 1 := by rw [hcs]; simp
    have hlA := eA.le
    have hwS2 := hwS.trans hmany.symm
    rcases eL with ⟨hs0, e10⟩ | ⟨hs0, b, hb0, e10, hbA'⟩
    · rw [hs0] at happ hlen
      have hE5 := h5 (A ++ [.rw 1 [.int .i64 i], .rw 1 [.int .i64 i]]) ((eA.push _).ext)
      simp only [hcell] at hE5
      simp [-oneC, oneC_slice, oneC_int, lsLoop0, SC.loops, sf_coblelaw05_LaunchSeats, e0, e1, e2, e7, e8, e9, e10, e11, hA, el, hlt, c0, c1, c2, c3, c4, c5, c6, hk, hw, hu, hmin, hand, hb', hwA, hm1, hE5, hwS2]
      refine ⟨_, by omega, i + 1, by omega, rfl, rfl, rfl, by omega, eA.push _, .inr ⟨hne, A.length + 1, by omega, by rw [hlen]; rfl, ?_⟩, et'⟩
      rw [List.getElem?_append_right (by omega), Nat.add_sub_cancel_left, ← happ]
      rfl
    · have hl0 : ¬ (someM set i).length = 0 := by simpa using hs0
      have hmx : (someM set i).length + 1 ≤ maxA := Nat.le_trans (show _ ≤ 100 by omega) (by decide)
      have hcA2 := fun L x => own_cells hbA' L x
      have hci : (ints (natI (someM set i))).length = (someM set i).length := by rw [ints_length, natI_len]
      rw [hci] at hcA2
      have hbX := fun x => own_get hbA' x
      have hsX := fun x y => own_set hbA' x y
      have hcn : nlL (ints (natI (someM set i))) = true := nlL_ints _
      have hbl : b < A.length := (List.getElem?_eq_some_iff.1 hbA').1
      have hlb : S.lim ≤ b := by omega
      generalize hcl2 : ints (natI (someM set i)) = cl at *
      have hE5 := h5 (A.set b .dead ++ [.rw 1 [.int .i64 i], .rw 1 (cl ++ [.int .i64 i])]) (((eA.set hb0 _).push _).ext)
      simp only [hcell] at hE5
      simp [-oneC, oneC_slice, oneC_int, lsLoop0, SC.loops, sf_coblelaw05_LaunchSeats, e0, e1, e2, e7, e8, e9, e10, e11, hA, el, hlt, c0, c1, c2, c3, c4, c5, c6, hk, hw, hu, hmin, hand, hb', hwA, hm1, hs0, hl0, hmx, hcA2, hbX, hsX, hcn, hci, hlb, hE5, hwS2]
      refine ⟨_, by omega, i + 1, by omega, rfl, rfl, rfl, by omega, (eA.set hb0 _).push _, .inr ⟨hne, A.length + 1, by omega, by rw [hlen], ?_⟩, et'⟩
      rw [List.getElem?_append_right (by simp)]
      simp [happ]
end Go.Proofs.YtnpifaanhofonaaDoor
