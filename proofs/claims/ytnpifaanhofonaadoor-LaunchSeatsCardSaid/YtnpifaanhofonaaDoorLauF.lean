import Derived.Test.YtnpifaanhofonaaDoorLauE
set_option linter.all false

/- Contracts of layer 5: seats; Board of the program. -/
namespace Go.Proofs.YtnpifaanhofonaaDoor
open Go Go.RowKit

theorem clV_seats {H : AH} {xs : List Cl} {v : Value} (hv : Sl H v xs.length (clsV xs)) {i : Nat} (hi : i < xs.length) : ∃ b o c, v = .slice (some ⟨b, o, none⟩) xs.length c ∧ hcell H b (o + i * 7 + 5) = some (.int .i64 xs[i].seats) := by
  obtain ⟨b, o, c, e, h⟩ := clV_cells hv hi
  exact ⟨b, o, c, e, h.2.2.2.2.2.1⟩

/-- How many seats some boats have. -/
def seatsM (cs : List Cl) (l : List Nat) : Int := (l.map fun i => match cs[i]? with | some c => c.seats | none => 0).foldl (· + ·) 0
theorem seatsM_snoc (cs : List Cl) (l : List Nat) {i : Nat} (hi : i < cs.length) : seatsM cs (l ++ [i]) = seatsM cs l + cs[i].seats := by
  simp [seatsM, List.foldl_append, hi]
/-- The seats of each class are few. -/
def SeatsOk (cs : List Cl) : Prop := ∀ c ∈ cs, 0 ≤ c.seats ∧ c.seats ≤ 40
theorem seatsM_le {cs : List Cl} (h : SeatsOk cs) : ∀ (k : Nat) (l : List Nat), l.length = k → 0 ≤ seatsM cs l ∧ seatsM cs l ≤ 40 * (k : Int)
  | 0, l, e => by
    have : l = [] := List.eq_nil_of_length_eq_zero e
    subst this
    simp [seatsM]
  | k + 1, l, e => by
    have hne : l ≠ [] := by rintro rfl; simp at e
    obtain ⟨m, i, rfl⟩ : ∃ m i, l = m ++ [i] := ⟨_, _, (List.dropLast_concat_getLast hne).symm⟩
    have ih := seatsM_le h k m (by simpa using e)
    have key : seatsM cs (m ++ [i]) = seatsM cs m + (match cs[i]? with | some c => c.seats | none => 0) := by simp [seatsM, List.foldl_append]
    rw [key]
    cases hc : cs[i]? with
    | none => simp only []; omega
    | some c =>
      have := h c (List.mem_of_getElem? hc)
      simp only []; omega

def seLoop : SC := sf_launch_seatsIn.body.loops.headD .skip

theorem run_seatsIn (cs : List Cl) (hcl : cs.length < 2 ^ 62) (hs : SeatsOk cs) (l : List Nat) (hl : l.length ≤ 1000) (hlt : ∀ i ∈ l, i < cs.length) (lim : Nat) (H : AH) (cv v : Value) (hc : Sl H cv cs.length (clsV cs)) (hv : Sl H v l.length (ints (natI l))) :
    apL Tryd.prog pf (.func (.func 26) #[] #[]) [cv, v] lim H = some (.int .i64 (seatsM cs l), H) := by
  rw [apL_func _ _ _ _ _ _ (by rfl), sf_launch_seatsIn_eq]
  obtain ⟨va, vc, rfl, hd⟩ := hv
  simp [sf_launch_seatsIn, pf_pure, pureF]
  generalize hS : ({ t := _, L := _, H := _, lim := _, rd := _ } : St) = S
  have key : ∃ q, exL Tryd.prog pf (.loop seLoop) S = some q ∧ (q.1 = .exit 0 ∧ q.2.H = H ∧ tget q.2.t 5 = .int .i64 (seatsM cs l)) := by
    refine loop_rule (I := fun m s' => ∃ j, j ≤ l.length ∧ m = l.length - j ∧ tget s'.t 0 = cv ∧ tget s'.t 8 = .slice va l.length vc ∧ tget s'.t 9 = .int .i64 l.length ∧ tget s'.t 10 = .int .i64 j ∧ s'.H = H ∧ tget s'.t 5 = .int .i64 (seatsM cs (l.take j))) ?_ l.length S
      ⟨0, by omega, by omega, by subst hS; simp, by subst hS; simp, by subst hS; simp, by subst hS; simp, by subst hS; rfl, by subst hS; simp [seatsM]⟩
    rintro m s' ⟨j, hj, rfl, e0, e8, e9, e10, eH, e5⟩
    by_cases hlt' : j < l.length
    rotate_left
    · have : j = l.length := by omega
      subst this
      rw [List.take_length] at e5
      simp [seLoop, SC.loops, sf_launch_seatsIn, e8, e9, e10, eH, e5]
    have hm := hlt l[j] (List.getElem_mem hlt')
    obtain ⟨b, o, c, e, hcell5⟩ := clV_seats hc hm
    subst e
    obtain ⟨b1, o1, rfl, hc1⟩ := hd j (.int .i64 (l[j] : Nat)) (by simp [ints, natI, hlt'])
    have hts : l.take (j + 1) = l.take j ++ [l[j]] := by rw [List.take_add_one]; simp [hlt']
    have hsm := seatsM_snoc cs (l.take j) hm
    rw [← hts] at hsm
    have hb := seatsM_le hs _ (l.take (j + 1)) rfl
    have hb0 := seatsM_le hs _ (l.take j) rfl
    have hw : IntKind.i64.wrap ((j : Int) + 1) = (j : Int) + 1 := wrap_i64 (by omega) (by omega)
    have hlen : (l.take (j + 1)).length ≤ 1000 := by simp; omega
    have hw2 : IntKind.i64.wrap (seatsM cs (l.take j) + cs[l[j]].seats) = seatsM cs (l.take (j + 1)) := by rw [← hsm]; exact wrap_i64 (by omega) (by omega)
    generalize hlj : l[j] = i at *
    simp only [hcell] at hc1 hcell5
    simp [seLoop, SC.loops, sf_launch_seatsIn, e0, e8, e9, e10, eH, e5, hlt', hc1, hm, hcell5, hw, hw2]
    exact ⟨_, by omega, j + 1, by omega, rfl, by omega, rfl⟩
  obtain ⟨⟨q, s1⟩, hr, q1, q2, q3⟩ := key
  simp [seLoop, SC.loops, sf_launch_seatsIn] at hr
  rw [hr]
  simp only at q1 q2 q3
  subst q1
  simp [q2, q3]

def bdV (n : Nat) : Value := .func (.func 25) #[] #[.pointer (some ⟨n, 0, none⟩), .pointer (some ⟨n + 1, 0, none⟩)]

theorem isT_board (cs : List Cl) (hcl : cs.length ≤ 1000) (hs : SeatsOk cs) (people : Int) (H : AH) (k : Nat) (cv : Value) (hc : Sl H cv cs.length (clsV cs)) (b0 : H[k]? = some (.rw 0 [cv])) (b1 : H[k + 1]? = some (.rw 0 [.int .i64 people])) :
    IsT cs.length H (bdV k) fun l => decide (people ≤ seatsM cs l) := by
  refine ⟨⟨by simp [bdV], rfl, rfl, rfl⟩, fun H' hE l v lim hl hlt hv => ?_⟩
  have hc' := hc.ext hE
  have k0 := hE _ _ b0
  have k1 := hE _ _ b1
  have hse := fun lim => run_seatsIn cs (by omega) hs l (by omega) hlt lim H' cv v hc' hv
  obtain ⟨ca, cc, rfl, _⟩ := hc
  obtain ⟨va, vc, rfl, _⟩ := hv
  unfold bdV
  rw [apL_func _ _ _ _ _ _ (by rfl), sf_launch_Board_1_eq]
  simp [sf_launch_Board_1, k0, k1, hse, pf_pure, pureF]

open Classical in
/-- Board: the list and its error. -/
noncomputable def boardD (cs : List Cl) (people : Int) : List Nat × Int :=
  if 10 < cs.length then ([], 2) else if cs.all clOk = false then ([], 50) else if people < 0 then ([], 1) else
    match (listsM cs.length).find? (fun l => decide (people ≤ seatsM cs l)) with | some l => (l, 0) | none => ([], 3)

theorem seats_of {cs : List Cl} (h : cs.all clOk = true) : SeatsOk cs := fun c hc => by
  have := List.all_eq_true.1 h c hc
  unfold clOk at this
  simp only [Bool.and_eq_true, decide_eq_true_eq] at this
  omega

set_option maxHeartbeats 1000000 in
theorem run_Board (cs : List Cl) (hcl : cs.length < 2 ^ 62) (people : Int) (H : AH) (cv : Value) (hc : Sl H cv cs.length (clsV cs)) (lim : Nat) :
    ∃ v A, apL Tryd.prog pf (.func (.func 8) #[] #[]) [cv, .int .i64 people] lim H = some (.tuple #[v, .int .i64 (boardD cs people).2], A) ∧ Aft H A ∧ LstO H.length A v (boardD cs people).1 := by
  rw [apL_func _ _ _ _ _ _ (by rfl), sf_launch_Board_eq]
  have hall := fun lim => run_allK cs hcl H lim cv classF clOk hc (isK_class H)
  have hc0 := hc
  obtain ⟨ca, cc, ec, _⟩ := hc0
  simp only [classF, ec] at hall
  by_cases h1 : 10 < cs.length
  · have h1' : (10 : Int) < cs.length := by omega
    refine ⟨.slice none 0 0, H, ?_, Aft.refl H, by simp [boardD, h1]; exact .inl ⟨rfl, rfl⟩⟩
    simp [sf_launch_Board, ec, h1, h1', boardD, pf_pure, pureF]
  have h1' : ¬ (10 : Int) < cs.length := by omega
  cases h2 : cs.all clOk with
  | false =>
    rw [h2] at hall
    refine ⟨.slice none 0 0, H, ?_, Aft.refl H, by simp [boardD, h1, h2]; exact .inl ⟨rfl, rfl⟩⟩
    simp [-List.all_eq_false, sf_launch_Board, ec, h1, h1', hall, h2, boardD, pf_pure, pureF]
  | true =>
  rw [h2] at hall
  by_cases h3 : people < 0
  · refine ⟨.slice none 0 0, H, ?_, Aft.refl H, by simp [boardD, h1, h2, h3]; exact .inl ⟨rfl, rfl⟩⟩
    simp [-List.all_eq_true, sf_launch_Board, ec, h1, h1', hall, h2, h3, boardD, pf_pure, pureF]
  obtain ⟨H2, hH2⟩ : ∃ H2, H2 = H ++ [ABlk.rw 0 [cv], .rw 0 [.int .i64 people]] := ⟨_, rfl⟩
  have hE2 : Ext H H2 := by rw [hH2]; exact Ext.push H _
  obtain ⟨v, A, hF, hA, hv⟩ := run_fewestL cs.length (by omega) _ H2 (bdV H.length) (isT_board cs (by omega) (seats_of h2) people H2 H.length cv (hc.ext hE2) (by rw [hH2]; simp) (by rw [hH2]; simp)) H.length
  have hA2 : Aft H A := by rw [hH2] at hA; exact ((Aft.refl H).push _).trans hA
  have hl2 : H.length ≤ H2.length := by rw [hH2]; simp
  rw [hH2] at hF
  simp only [bdV, ec] at hF
  have hd : boardD cs people = (match (listsM cs.length).find? (fun l => decide (people ≤ seatsM cs l)) with | some l => (l, 0) | none => ([], 3)) := by
    unfold boardD
    rw [if_neg h1, if_neg (by simp [h2]), if_neg h3]
  rw [hd]
  cases hx : (listsM cs.length).find? (fun l => decide (people ≤ seatsM cs l)) with
  | none =>
    rw [hx] at hF hv
    refine ⟨.slice none 0 0, H, ?_, Aft.refl H, .inl ⟨rfl, rfl⟩⟩
    obtain ⟨u1, u2, u3, u4, _⟩ := hv.one
    simp [-isU, -Value.cells, -oneC, oneC_slice, oneC_int, isU_sl, cells_sl, isU_i, cells_i, isU_b, -List.all_eq_true, sf_launch_Board, ec, h1, h1', hall, h3, hF, u1, u2, u3, u4, pf_pure, pureF]
  | some l =>
    rw [hx] at hF hv
    rcases hv with ⟨e, rfl⟩ | ⟨h4, b', h5, rfl, h6⟩
    · refine ⟨.slice none 0 0, H, ?_, Aft.refl H, .inl ⟨e, rfl⟩⟩
      simp [-isU, -Value.cells, -oneC, oneC_slice, oneC_int, isU_sl, cells_sl, isU_i, cells_i, isU_b, -List.all_eq_true, sf_launch_Board, ec, h1, h1', hall, h3, hF, pf_pure, pureF]
    · refine ⟨_, A, ?_, hA2, .inr ⟨h4, b', by omega, rfl, h6⟩⟩
      simp [-isU, -Value.cells, -oneC, oneC_slice, oneC_int, isU_sl, cells_sl, isU_i, cells_i, isU_b, -List.all_eq_true, sf_launch_Board, ec, h1, h1', hall, h3, hF, pf_pure, pureF]
end Go.Proofs.YtnpifaanhofonaaDoor
