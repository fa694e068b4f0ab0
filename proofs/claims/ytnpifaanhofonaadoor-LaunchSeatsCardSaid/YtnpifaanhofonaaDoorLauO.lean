import Derived.Test.YtnpifaanhofonaaDoorLauN
set_option linter.all false

/- Contracts of layer 5: the law LaunchSeats, the whole. -/
namespace Go.Proofs.YtnpifaanhofonaaDoor
open Go Go.RowKit

set_option maxHeartbeats 1000000 in
theorem ls_cmp (l m : List Nat) (hlen : l.length = m.length) (hl : l.length ≤ 1000) (hlm : m = l ∨ lexB l m = true) (H : AH) (hG : H[waysG]? = some (.ro waysV)) (a b : Value) (ha : Sl H a l.length (ints (natI l))) (hb : Sl H b m.length (ints (natI m))) (S : St) (hH : S.H = H) (h12 : tget S.t 12 = a) (h10 : tget S.t 10 = b) (h15 : tget S.t 15 = .int .i64 0) :
    ∃ q, exL Tryd.prog pf (.loop lsLoop2) S = some q ∧ (q.2.H = H ∧ q.2.lim = S.lim ∧ q.2.L = S.L ∧ (q.1 = .exit 4 ∨ (q.1 = .ret ∧ tget q.2.t 6 = .bool true))) := by
  obtain ⟨aa, ac, rfl, hda⟩ := ha
  obtain ⟨ba, bc, rfl, hdb⟩ := hb
  have hwk := fun lim => run_works5 lim H hG
  refine loop_rule (I := fun k s' => ∃ j, j ≤ l.length ∧ k = l.length - j ∧ tget s'.t 12 = .slice aa l.length ac ∧ tget s'.t 10 = .slice ba m.length bc ∧ tget s'.t 15 = .int .i64 j ∧ s'.H = H ∧ s'.lim = S.lim ∧ s'.L = S.L ∧ ∀ i (h : i < l.length) (h' : i < m.length), i < j → l[i] = m[i]) ?_ l.length S
    ⟨0, by omega, by omega, h12, h10, h15, hH, rfl, rfl, fun i h h' h0 => by omega⟩
  rintro k s' ⟨j, hj, rfl, e12, e10, e15, eH, el, eL, eq⟩
  by_cases hlt : j < l.length
  rotate_left
  · have : j = l.length := by omega
    subst this
    simp [lsLoop2, SC.loops, sf_coblelaw05_LaunchSeats, e12, e10, e15, eH, el, eL]
  have hltm : j < m.length := by omega
  obtain ⟨b1, o1, rfl, c1⟩ := hda j _ (natI_get hlt)
  obtain ⟨b2, o2, rfl, c2⟩ := hdb j _ (natI_get hltm)
  have hw : IntKind.i64.wrap ((j : Int) + 1) = (j : Int) + 1 := wrap_i64 (by omega) (by omega)
  simp only [hcell] at c1 c2
  by_cases hx : l[j] = m[j]
  · have hx2 : (((l[j] : Nat) : Int) != (m[j] : Nat)) = false := by simp [hx]
    generalize hlj : l[j] = p at *
    generalize hmj : m[j] = q at *
    simp [lsLoop2, SC.loops, sf_coblelaw05_LaunchSeats, e12, e10, e15, eH, el, eL, hlt, hltm, c1, c2, hw, hx2]
    refine ⟨_, by omega, j + 1, by omega, rfl, by omega, fun i h h' hi => ?_⟩
    by_cases e : i = j
    · subst e; rw [hlj, hmj]; exact hx
    · exact eq i h h' (by omega)
  · have hle : l[j] < m[j] := by
      rcases hlm with rfl | hlm
      · exact absurd rfl hx
      · rw [lexB_drop l m j hlen eq, List.drop_eq_getElem_cons hlt, List.drop_eq_getElem_cons hltm, lexB, if_neg hx] at hlm
        simpa using hlm
    have hx2 : (((l[j] : Nat) : Int) != (m[j] : Nat)) = true := by simpa using (by omega : ¬ ((l[j] : Nat) : Int) = (m[j] : Nat))
    generalize l[j] = p at *
    generalize m[j] = q at *
    have hle' : ((p : Nat) : Int) < (q : Nat) := by omega
    simp [lsLoop2, SC.loops, sf_coblelaw05_LaunchSeats, e12, e10, e15, eH, el, eL, hlt, hltm, c1, c2, hx2, hle, hle', hwk]

set_option maxHeartbeats 2000000 in
theorem seats_law (cs : List Cl) (people set : Int) (lim : Nat) (H : AH) (hG : H[waysG]? = some (.ro waysV)) (cv : Value) (hc : Sl H cv cs.length (clsV cs)) :
    apL Tryd.prog pf (.func (.func 6) #[] #[]) [cv, .int .i64 people, .int .i64 set] lim H = some (.bool true, H) := by
  rw [apL_func _ _ _ _ _ _ (by rfl), sf_coblelaw05_LaunchSeats_eq]
  have hw := fun lim => run_works5 lim H hG
  have hc0 := hc
  obtain ⟨ca, cc, ec, _⟩ := hc0
  by_cases h10 : 10 < cs.length
  · have h10' : (10 : Int) < cs.length := by omega
    simp [sf_coblelaw05_LaunchSeats, ec, h10', hw, pf_pure, pureF]
  have h10' : ¬ (10 : Int) < cs.length := by omega
  by_cases hp0 : people < 0
  · simp [sf_coblelaw05_LaunchSeats, ec, h10', hp0, hw, pf_pure, pureF]
  simp [-oneC, oneC_slice, sf_coblelaw05_LaunchSeats, ec, h10', hp0, pf_pure, pureF]
  generalize hS : ({ t := _, L := _, H := _, lim := _, rd := _ } : St) = S
  obtain ⟨⟨q, s1⟩, hr, q1, q2, q3⟩ := ls_pick cs (by omega) people set H hG cv hc S (by subst hS; rfl) (by subst hS; rfl) (by subst hS; simp [ec]) (by subst hS; simp) (by subst hS; simp) (by subst hS; simp) (by subst hS; simp) (by subst hS; simp) (by subst hS; simp) (by subst hS; simp)
  simp [lsLoop0, SC.loops, sf_coblelaw05_LaunchSeats] at hr
  rw [hr]
  simp only at q1 q2 q3
  rcases q3 with ⟨rfl, e6⟩ | ⟨rfl, hok, e0, e1, e7, e8, e9, e10⟩
  · simp [e6]
  obtain ⟨A, hA⟩ : ∃ A, s1.H = A := ⟨_, rfl⟩
  rw [hA] at q2 e10
  have hcA := hc.ext q2.ext
  obtain ⟨v, B, hB, hAB, hv⟩ := run_Board cs (by omega) people A cv hcA s1.lim
  have hGA := q2.ext _ _ hG
  have hGB := hAB.ext _ _ hGA
  have hd : boardD cs people = (match (listsM cs.length).find? (fun l => decide (people ≤ seatsM cs l)) with | some l => (l, 0) | none => ([], 3)) := by
    unfold boardD
    rw [if_neg h10, if_neg (by simp [hok]), if_neg hp0]
    rfl
  rw [hd] at hB hv
  have hwA := fun lim => run_works5 lim A hGA
  have hwB := fun lim => run_works5 lim B hGB
  rw [ec] at hB e0
  obtain ⟨u1, u2, u3, u4, ua, un, uk, u5⟩ := hv.one
  cases hx : (listsM cs.length).find? (fun l => decide (people ≤ seatsM cs l)) with
  | none =>
    rw [hx] at hB hv
    have hnone := find_none hx (List.range cs.length) (asc_pair _ List.pairwise_lt_range) (fun i hi => List.mem_range.1 hi)
    have hlt : seatsM cs (List.range cs.length) < people := by simpa using hnone
    rw [u5] at hB
    simp [hA, e0, e1, e8, hB, hlt, hwB]
  | some l =>
    rw [hx] at hB hv
    simp only at hB hv
    obtain ⟨⟨g1, g2, g3⟩, g4⟩ := find_first hx
    have g1' : people ≤ seatsM cs l := by simpa using g1
    have hcB := hcA.ext hAB.ext
    have hsl := e10.ext hAB.ext
    have hll := asc_len g2 g3
    have hml := asc_len (someM_asc set cs.length) (someM_lt set cs.length)
    rw [u5] at hB
    obtain ⟨w1, w2, w3, w4, wa, wn, wk, w5⟩ := e10.one
    simp [-oneC, oneC_slice, hA, e0, e1, e7, e8, e9, hB]
    generalize hS2 : ({ t := _, L := _, H := _, lim := _, rd := _ } : St) = S2
    obtain ⟨⟨q', s2⟩, hr2, z1, z2, z3, z4, z5, z6, z7, z8, z9⟩ := ls_own cs (by omega) (seats_of hok) l g2 g3 B cv v hcB hv.sl S2 (by subst hS2; rfl) (by subst hS2; simp [e0, ec]) (by subst hS2; simp [u5]) (by subst hS2; simp [e7]) (by subst hS2; simp)
    simp [lsLoop1, SC.loops, sf_coblelaw05_LaunchSeats] at hr2
    rw [hr2]
    simp only at z1 z2 z3 z4 z5 z6 z7 z8 z9
    have x1 : tget S2.t 1 = .int .i64 people := by subst hS2; simp [e1]
    have x9 : tget S2.t 9 = .int .i64 (seatsM cs (someM set cs.length)) := by subst hS2; simp [e9]
    have x10 : tget S2.t 10 = tget s1.t 10 := by subst hS2; simp
    rw [x1] at z6
    rw [x9] at z7
    rw [x10] at z8
    subst z1
    have hng : ¬ seatsM cs l < people := by omega
    by_cases hmany : seatsM cs (someM set cs.length) < people
    · simp [z2, z5, z6, z7, z8, z9, hng, hmany, hwB]
    have hsome := g4 (someM set cs.length) (someM_asc set cs.length) (someM_lt set cs.length) (by simpa using (by omega : people ≤ seatsM cs (someM set cs.length)))
    have hsl' := hsl.sl
    have hvl := hv.sl
    obtain ⟨va, vc, ev, _⟩ := hvl
    obtain ⟨sa, sc, es, _⟩ := hsl'
    rw [ev] at z9
    rw [es] at z8
    by_cases hle : (someM set cs.length).length = l.length
    rotate_left
    · have hgt : l.length < (someM set cs.length).length := by
        rcases hsome with e | e
        · rw [e] at hle; exact absurd rfl hle
        · unfold befB at e
          rw [if_neg (fun x => hle x.symm)] at e
          simpa using e
      have hne : (((someM set cs.length).length : Int) != (l.length : Int)) = true := by simpa using (by omega : ¬ ((someM set cs.length).length : Int) = l.length)
      have hgt' : (l.length : Int) < ((someM set cs.length).length : Int) := by omega
      simp [z2, z5, z6, z7, z8, z9, hng, hmany, hne, hgt, hgt', hwB]
    · have hne : (((someM set cs.length).length : Int) != (l.length : Int)) = false := by rw [hle]; simp
      simp [z2, z5, z6, z7, z8, z9, hng, hmany, hne]
      generalize hS3 : ({ t := _, L := _, H := _, lim := _, rd := _ } : St) = S3
      obtain ⟨⟨q3, s3⟩, hr3, y1, y2, y3, y4⟩ := ls_cmp l (someM set cs.length) hle.symm (by omega) (by
        rcases hsome with e | e
        · exact .inl e
        · right
          unfold befB at e
          rwa [if_pos hle.symm] at e) B hGB v (tget s1.t 10) hv.sl hsl.sl S3 (by subst hS3; simp [z2]) (by subst hS3; simp [z9, ev]) (by subst hS3; simp [z8, es]) (by subst hS3; simp)
      simp [lsLoop2, SC.loops, sf_coblelaw05_LaunchSeats] at hr3
      rw [hr3]
      simp only at y1 y2 y3 y4
      rcases y4 with rfl | ⟨rfl, y5⟩
      · simp [y1, hwB]
      · simp [y1, y5]
end Go.Proofs.YtnpifaanhofonaaDoor
