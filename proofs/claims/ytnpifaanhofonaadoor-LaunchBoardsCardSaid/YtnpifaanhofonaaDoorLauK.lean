import Derived.Test.YtnpifaanhofonaaDoorLauJ
set_option linter.all false

/- Contracts of layer 5: the reference's Board, the whole; the look at two lists; the look at the examples; the law LaunchBoards. -/
namespace Go.Proofs.YtnpifaanhofonaaDoor
open Go Go.RowKit

/-- The body of the loop of sameInts. -/
def sameIntsBody5 : SC := match sf_coblelaw05_sameInts.body with | .seq _ (.seq _ (.seq (.seq _ (.block _ (.loop b))) _)) => b | _ => .skip

theorem sameInts_loop5 (xs ys : List Int) (hxy : xs.length = ys.length) (hlen : xs.length < 2 ^ 62) (H : AH) (a b : Value) (ha : Sl H a xs.length (ints xs)) (hb : Sl H b ys.length (ints ys)) (s : St) (h0 : tget s.t 0 = a) (h1 : tget s.t 1 = b) (h5 : tget s.t 5 = .int .i64 0) (hL : s.L = []) (hH : s.H = H) :
    ∃ r, exL Tryd.prog pf (.loop sameIntsBody5) s = some r ∧ r.2.L = [] ∧ r.2.H = H ∧ ((r.1 = .exit 0 ∧ xs = ys) ∨ (r.1 = .ret ∧ tget r.2.t 4 = .bool false ∧ xs ≠ ys)) := by
  obtain ⟨aa, ac, rfl, ha⟩ := ha
  obtain ⟨ba, bc, rfl, hb⟩ := hb
  refine loop_rule (I := fun n s => ∃ i, i ≤ xs.length ∧ n = xs.length - i ∧ tget s.t 0 = .slice aa xs.length ac ∧ tget s.t 1 = .slice ba ys.length bc ∧ tget s.t 5 = .int .i64 i ∧ s.L = [] ∧ s.H = H ∧ xs.take i = ys.take i) ?_ xs.length s ⟨0, by omega, by omega, h0, h1, h5, hL, hH, rfl⟩
  rintro n s ⟨i, hi, rfl, e0, e1, e5, eL, eH, et⟩
  by_cases hlt : i < xs.length
  · have hlt2 : i < ys.length := by omega
    obtain ⟨b1, o1, rfl, c1⟩ := ha i (.int .i64 xs[i]) (by simp [ints, hlt])
    obtain ⟨b2, o2, rfl, c2⟩ := hb i (.int .i64 ys[i]) (by simp [ints, hlt2])
    have hw : IntKind.i64.wrap ((i : Int) + 1) = (i : Int) + 1 := wrap_i64 (by omega) (by omega)
    simp only [hcell] at c1 c2
    by_cases heq : xs[i] = ys[i]
    · simp [sameIntsBody5, sf_coblelaw05_sameInts, e0, e1, e5, eL, eH, hlt, hlt2, c1, c2, hw, heq]
      exact ⟨_, by omega, i + 1, by omega, rfl, by omega, by rw [List.take_add_one, List.take_add_one, et]; simp [hlt, hlt2, heq]⟩
    · have hne : (xs[i] != ys[i]) = true := by simpa using heq
      simp [sameIntsBody5, sf_coblelaw05_sameInts, e0, e1, e5, eL, eH, hlt, hlt2, c1, c2, hw, hne]
      exact fun e => heq (by subst e; rfl)
  · have : i = xs.length := by omega
    subst this
    simp [sameIntsBody5, sf_coblelaw05_sameInts, e0, e1, e5, eL, eH]
    rw [List.take_length, hxy, List.take_length] at et
    exact et

/-- sameInts: whether two lists are the same. A pattern for a function with a loop. -/
theorem run_sameInts5 (xs ys : List Int) (hlen : xs.length < 2 ^ 62) (lim : Nat) (H : AH) (a b : Value) (ha : Sl H a xs.length (ints xs)) (hb : Sl H b ys.length (ints ys)) :
    apL Tryd.prog pf (.func (.func 10) #[] #[]) [a, b] lim H = some (.bool (decide (xs = ys)), H) := by
  rw [apL_func _ _ _ _ _ _ (by rfl), sf_coblelaw05_sameInts_eq]
  obtain ⟨aa, ac, ea, ha'⟩ := ha
  obtain ⟨ba, bc, eb, hb'⟩ := hb
  by_cases hxy : xs.length = ys.length
  · have hh : ((xs.length : Int) != ys.length) = false := by simp [hxy]
    simp [sf_coblelaw05_sameInts, ea, eb, hh]
    generalize hS : ({ t := _, L := _, H := _, lim := _, rd := _ } : St) = S
    obtain ⟨⟨e, s'⟩, hr, q1, q2, q3⟩ := sameInts_loop5 xs ys hxy hlen H a b ⟨aa, ac, ea, ha'⟩ ⟨ba, bc, eb, hb'⟩ S (by subst hS; simp [ea]) (by subst hS; simp [eb]) (by subst hS; simp) (by subst hS; rfl) (by subst hS; rfl)
    simp only [sameIntsBody5, sf_coblelaw05_sameInts] at hr
    rw [hr]
    simp only at q1 q2 q3
    rcases q3 with ⟨rfl, h⟩ | ⟨rfl, h4, h⟩
    · simp [h, q1, q2, pf_pure, pureF]
    · simp [h, h4, q1, q2, pf_pure, pureF]
  · have hne : xs ≠ ys := fun e => hxy (by rw [e])
    have hh : ((xs.length : Int) != ys.length) = true := by simp; omega
    simp [sf_coblelaw05_sameInts, ea, eb, hh, hne, pf_pure, pureF]

theorem run_works5 (lim : Nat) (H : AH) (hG : H[waysG]? = some (.ro waysV)) : apL Tryd.prog pf (.func (.func 7) #[] #[]) [] lim H = some (.bool true, H) :=
  apL_orc (by rfl) (by
    simp only [pf, tabs, tabsOk, List.all_cons, List.all_nil, Bool.and_true, hG]
    exact by kernel_rfl)

set_option maxHeartbeats 1000000 in
theorem run_refBoard (cs : List Cl) (hcl : cs.length < 2 ^ 62) (people : Int) (H : AH) (cv : Value) (hc : Sl H cv cs.length (clsV cs)) (lim : Nat) :
    ∃ v A, apL Tryd.prog pf (.func (.func 9) #[] #[]) [cv, .int .i64 people] lim H = some (.tuple #[v, .int .i64 (boardD cs people).2], A) ∧ Aft H A ∧ LstO H.length A v (boardD cs people).1 := by
  rw [apL_func _ _ _ _ _ _ (by rfl), sf_cobleref05_Board_eq]
  have hc0 := hc
  obtain ⟨ca, cc, ec, _⟩ := hc0
  by_cases h1 : 10 < cs.length
  · have h1' : (10 : Int) < cs.length := by omega
    refine ⟨.slice none 0 0, H, ?_, Aft.refl H, by simp [boardD, h1]; exact .inl ⟨rfl, rfl⟩⟩
    simp [sf_cobleref05_Board, ec, h1, h1', boardD, pf_pure, pureF]
  have h1' : ¬ (10 : Int) < cs.length := by omega
  simp [-oneC, oneC_slice, oneC_int, sf_cobleref05_Board, ec, h1', pf_pure, pureF]
  generalize hS : ({ t := _, L := _, H := _, lim := _, rd := _ } : St) = S
  obtain ⟨⟨q, s1⟩, hr, q1, q2, q3, q4, q5, q6⟩ := rb_check cs hcl H cv hc S (by subst hS; simp [ec]) (by subst hS; simp) (by subst hS; rfl)
  simp [rbLoop0, SC.loops, sf_cobleref05_Board] at hr
  rw [hr]
  simp only at q1 q2 q3 q4 q5 q6
  have x1 : tget S.t 1 = .int .i64 people := by subst hS; simp
  have xl : S.lim = H.length := by subst hS; rfl
  have xL : S.L = [] := by subst hS; rfl
  rw [x1] at q5
  rw [xl] at q2
  rw [xL] at q3
  rcases q6 with ⟨rfl, h2⟩ | ⟨rfl, e4, e5, h2⟩
  rotate_left
  · refine ⟨.slice none 0 0, H, ?_, Aft.refl H, by simp only [boardD, if_neg h1, h2]; exact .inl ⟨rfl, rfl⟩⟩
    simp [e4, e5, q1, boardD, h1, h2]
  by_cases h3 : people < 0
  · refine ⟨.slice none 0 0, H, ?_, Aft.refl H, by simp only [boardD, if_neg h1, h2, h3]; exact .inl ⟨rfl, rfl⟩⟩
    simp [q1, q5, h3, boardD, h1, h2]
  have hd : boardD cs people = (match (listsM cs.length).find? (fun l => decide (people ≤ seatsM cs l)) with | some l => (l, 0) | none => ([], 3)) := by
    unfold boardD
    rw [if_neg h1, if_neg (by simp [h2]), if_neg h3]
    rfl
  rw [hd]
  simp [q1, q5, h3]
  generalize hS2 : ({ t := _, L := _, H := _, lim := _, rd := _ } : St) = S2
  obtain ⟨⟨q', s2⟩, hr2, z1, z2, z3, z4, z5⟩ := rb_sets cs (by omega) (seats_of h2) people H cv hc S2 (by subst hS2; rfl) (by subst hS2; simp [q2]) (by subst hS2; simp [q4]) (by subst hS2; simp [q5]) (by subst hS2; simp) (by subst hS2; simp) (by subst hS2; simp)
  simp [rbLoop1, SC.loops, sf_cobleref05_Board] at hr2
  rw [hr2]
  simp only at z1 z2 z3 z4 z5
  subst z1
  cases hx : (listsM cs.length).find? (fun l => decide (people ≤ seatsM cs l)) with
  | none =>
    rw [hx] at z4
    simp at z4
    refine ⟨.slice none 0 0, H, ?_, Aft.refl H, .inl ⟨rfl, rfl⟩⟩
    simp [z4]
  | some l =>
    rw [hx] at z4 z5
    simp at z4
    simp only [Option.getD_some] at z5
    rcases z5 with ⟨e, hv⟩ | ⟨h4, b', h5, hv, h6⟩
    · refine ⟨.slice none 0 0, H, ?_, Aft.refl H, .inl ⟨e, rfl⟩⟩
      simp [z4, hv]
    · refine ⟨_, s2.H, ?_, z3, .inr ⟨h4, b', h5, rfl, h6⟩⟩
      simp [z4, hv]

theorem clsV_copy {H : AH} {cs : List Cl} {ca : Option Addr} {cc : Nat} (hc : Sl H (.slice ca cs.length cc) cs.length (clsV cs)) (hne : cs ≠ []) (L : LS) (X : AH) : ca.bind (cellsAt L (H ++ X) · (cs.length * 7)) = some (clsV cs) := by
  obtain ⟨a, c, e, hd⟩ := hc
  cases e
  have hpos : 0 < (clsV cs).length := by
    rw [clsV_length]
    have := List.length_pos_iff.2 hne
    omega
  obtain ⟨b, o, rfl, _⟩ := hd 0 _ (List.getElem?_eq_getElem hpos)
  rw [← clsV_length]
  simp only [Option.bind_some]
  refine cellsAt_of (clsV cs) o fun j y hy => ?_
  obtain ⟨b', o', e', hb⟩ := hd j y hy
  cases e'
  exact hcell_ext (fun x => own_get (x := X) (z := x)) hb

theorem oneC_cls (cs : List Cl) : (clsV cs).all oneC = true ∧ nlL (clsV cs) = true := by
  have key : ∀ cs : List Cl, ∀ y ∈ clsV cs, ∃ n, y = Value.int .i64 n := fun cs y hy => by
    unfold clsV at hy
    obtain ⟨r, _, hr⟩ := List.mem_flatMap.1 hy
    simp only [Cl.vals, List.mem_cons, List.not_mem_nil, or_false] at hr
    rcases hr with h | h | h | h | h | h | h <;> exact ⟨_, h⟩
  refine ⟨List.all_eq_true.2 fun y hy => ?_, nlL_all fun y hy => ?_⟩
  · obtain ⟨n, rfl⟩ := key cs y hy; rfl
  · obtain ⟨n, rfl⟩ := key cs y hy; simp

set_option maxHeartbeats 1000000 in
theorem boards_law (cs : List Cl) (people : Int) (lim : Nat) (H : AH) (hG : H[waysG]? = some (.ro waysV)) (cv : Value) (hc : Sl H cv cs.length (clsV cs)) :
    apL Tryd.prog pf (.func (.func 3) #[] #[]) [cv, .int .i64 people] lim H = some (.bool true, H) := by
  rw [apL_func _ _ _ _ _ _ (by rfl), sf_coblelaw05_LaunchBoards_eq]
  have hw := fun lim H hG => run_works5 lim H hG
  have hc0 := hc
  obtain ⟨ca, cc, rfl, _⟩ := hc0
  by_cases h12 : 12 < cs.length
  · have h12' : (12 : Int) < cs.length := by omega
    simp [sf_coblelaw05_LaunchBoards, h12', hw _ _ hG, pf_pure, pureF]
  have h12' : ¬ (12 : Int) < cs.length := by omega
  have hcl : cs.length < 2 ^ 62 := by omega
  obtain ⟨xv, H1, hH1, hE1, hx, hrun⟩ : ∃ xv H1, Aft H H1 ∧ Ext H H1 ∧ Sl H1 xv cs.length (clsV cs) ∧ ((cs = [] ∧ xv = .slice (some ⟨H.length, 0, none⟩) 0 0 ∧ H1 = H ++ [.rw 7 []]) ∨ (cs ≠ [] ∧ xv = .slice (some ⟨H.length + 1, 0, none⟩) cs.length (cs.length + 1) ∧ H1 = H ++ [.rw 7 [], .rw 7 (clsV cs)])) := by
    by_cases he : cs = []
    · subst he
      exact ⟨_, _, (Aft.refl H).push _, Ext.push H _, ⟨_, _, rfl, fun j x hx => by simp [clsV] at hx⟩, .inl ⟨rfl, rfl, rfl⟩⟩
    · refine ⟨_, _, (Aft.refl H).push _, Ext.push H _, ⟨_, _, rfl, fun j x hx => ⟨H.length + 1, 0, rfl, ?_⟩⟩, .inr ⟨he, rfl, rfl⟩⟩
      simp only [hcell, Nat.zero_add]
      rw [List.getElem?_append_right (by omega), Nat.add_sub_cancel_left]
      exact hx
  obtain ⟨v, A, hB, hA, hv⟩ := run_Board cs hcl people H1 xv hx H.length
  have hcA := (hc.ext hE1).ext hA.ext
  obtain ⟨w, B, hR, hBB, hwv⟩ := run_refBoard cs hcl people A _ hcA H.length
  have hlen : (boardD cs people).1.length < 2 ^ 62 := by
    unfold boardD
    split
    · simp
    · split
      · simp
      · split
        · simp
        · split
          · rename_i l hl
            have := find_first hl
            have := asc_len this.1.2.1 this.1.2.2
            simp only []; omega
          · simp
  have hGA := (hE1.trans hA.ext).trans hBB.ext _ _ hG
  have hsame := fun lim => run_sameInts5 (natI (boardD cs people).1) (natI (boardD cs people).1) (by rw [natI_len]; exact hlen) lim B v w (by rw [natI_len]; exact (hv.ext hBB.ext).sl) (by rw [natI_len]; exact hwv.sl)
  have hwB := fun lim => run_works5 lim B hGA
  obtain ⟨u1, u2, u3, u4, ua, un, uk, u5⟩ := hv.one
  obtain ⟨w1, w2, w3, w4, wa, wn, wk, w5⟩ := hwv.one
  obtain ⟨o1, o2⟩ := oneC_cls cs
  rw [u5] at hB hsame
  rw [w5] at hR hsame
  simp at hsame
  rcases hrun with ⟨rfl, rfl, rfl⟩ | ⟨he, rfl, rfl⟩
  · simp at hB hR
    simp [-oneC, oneC_slice, sf_coblelaw05_LaunchBoards, hB, hR, hsame, hwB, pf_pure, pureF]
  · have he' : ¬ cs.length = 0 := by simpa using he
    have hmx : cs.length ≤ maxA := Nat.le_trans (show cs.length ≤ 12 by omega) (by decide)
    have hcp := fun L X => clsV_copy hc he L X
    generalize clsV cs = cl at *
    simp [-oneC, oneC_slice, sf_coblelaw05_LaunchBoards, h12', he, he', hmx, hcp, o1, o2, hB, hR, hsame, hwB, pf_pure, pureF]
end Go.Proofs.YtnpifaanhofonaaDoor
