import Derived.Test.YtmdnpaboaelkeaaGreatDoorBunVC
import Derived.Test.YtmdnpaboaelkeaaGreatDoorBunVB
set_option linter.all false
namespace Go.Proofs.YtmdnpaboaelkeaaGreatDoor
open Go Go.RowKit
theorem first_least (x : Ds) (hok : ChOk x.ch) (H0 : AH) (m rw9 : Value) (hm : Tab H0 m (mapM x.ch)) (cnt mst : List Bool) (h9T : Tab H0 rw9 (rowsM x cnt mst x.ch.ticks)) (S : St) (h8 : tget S.t 8 = m) (h9 : tget S.t 9 = rw9) (h10 : tget S.t 10 = .int .i64 neverR) (h11 : tget S.t 11 = .int .i64 0) (hH : S.H = H0) :
    ∃ q, exL Tryz.prog pf (.loop fiLoop0) S = some q ∧ q.1 = .exit 0 ∧ q.2.H = H0 ∧ q.2.L = S.L ∧ q.2.lim = S.lim ∧ tget q.2.t 10 = .int .i64 (leastM (rowAt x cnt mst 0) x.ch.cells) ∧ tget q.2.t 1 = tget S.t 1 ∧ tget q.2.t 2 = tget S.t 2 ∧ tget q.2.t 3 = tget S.t 3 ∧ tget q.2.t 8 = tget S.t 8 ∧ tget q.2.t 9 = tget S.t 9 := by
  obtain ⟨m0, m1, m2⟩ := hok.mul
  have htk0 : 0 < x.ch.ticks := hok.2.2.2.1.1
  obtain ⟨ma, mc, em⟩ : ∃ a c, m = .slice a x.ch.cells c := by
    obtain ⟨rv, _, ⟨a, c, e, _⟩, _⟩ := hm
    exact ⟨a, c, by rw [e]; simp [mapM]⟩
  refine loop_rule (I := fun n s' => ∃ i, i ≤ x.ch.cells ∧ n = x.ch.cells - i ∧ tget s'.t 11 = .int .i64 i ∧ s'.H = H0 ∧ s'.L = S.L ∧ s'.lim = S.lim ∧ tget s'.t 10 = .int .i64 (leastM (rowAt x cnt mst 0) i) ∧ tget s'.t 1 = tget S.t 1 ∧ tget s'.t 2 = tget S.t 2 ∧ tget s'.t 3 = tget S.t 3 ∧ tget s'.t 8 = tget S.t 8 ∧ tget s'.t 9 = tget S.t 9) ?_ x.ch.cells S
    ⟨0, by omega, by omega, h11, hH, rfl, rfl, h10, rfl, rfl, rfl, rfl, rfl⟩
  rintro n s' ⟨i, hi, rfl, e11, eH, eL, el, e10, e1, e2, e3, e8, e9⟩
  rw [h8, em] at e8
  rw [h9] at e9
  by_cases hlt : i < x.ch.cells
  rotate_left
  · have : i = x.ch.cells := by omega
    subst this
    simp [fiLoop0, SC.loops, sf_cobleref03_first, e1, e2, e3, e8, e9, e10, e11, eH, eL, el, h8, h9, em]
  obtain ⟨qb, qo, qc, qb', qo', qc', e9', g1, g2⟩ := row_cell h9T htk0 hlt
  have hw1 : IntKind.i64.wrap ((i : Int) + 1) = (i : Int) + 1 := wrap_i64 (by omega) (by omega)
  have hs : leastM (rowAt x cnt mst 0) (i + 1) = min (leastM (rowAt x cnt mst 0) i) ((rowAt x cnt mst 0).getD i 0) := rfl
  rw [e9'] at e9
  simp only [hcell, Nat.add_zero] at g1 g2
  generalize (rowAt x cnt mst 0).getD i 0 = N at *
  generalize leastM (rowAt x cnt mst 0) i = M at *
  simp [fiLoop0, SC.loops, sf_cobleref03_first, e1, e2, e3, e8, e9, e10, e11, eH, eL, el, hlt, htk0, g1, g2, hw1]
  exact ⟨_, by omega, i + 1, by omega, rfl, by omega, (min_val M N).trans hs.symm, by rw [h8, em], by rw [h9, e9']⟩
def Walk (x : Ds) (cnt mst : List Bool) (C : Nat → Nat) (L : Nat → Int) : Prop :=
  ∀ k, k < x.ch.ticks → C (k - 1) < x.ch.cells ∧ (List.range x.ch.cells).find? (fun i => fromP x (C (k - 1)) k i && (rowAt x cnt mst k).getD i 0 == L k) = some (C k) ∧ L (k + 1) = L k - ownM x cnt mst (C k) k
theorem first_outer (x : Ds) (hok : ChOk x.ch) (hdo : dsOk x = true) (H0 : AH) (d t s r m c3 m3 rw9 : Value) (h : DsIn H0 x d t s r) (hm : Tab H0 m (mapM x.ch)) (cnt mst : List Bool) (hcl : cnt.length = x.reps.length) (hml : mst.length = x.reps.length) (hc3 : Sl H0 c3 cnt.length (bools cnt)) (hm3 : Sl H0 m3 mst.length (bools mst)) (h9T : Tab H0 rw9 (rowsM x cnt mst x.ch.ticks))
    (C : Nat → Nat) (L : Nat → Int) (hW : Walk x cnt mst C L)
    (S : St) (hlim : S.lim ≤ H0.length) (h1 : tget S.t 1 = c3) (h2 : tget S.t 2 = m3) (h3 : tget S.t 3 = .pointer (some ⟨3, 0, some 0⟩)) (h8 : tget S.t 8 = m) (h9 : tget S.t 9 = rw9) (h12 : tget S.t 12 = .int .i64 (L 0)) (h13 : tget S.t 13 = .slice none 0 0) (h14 : tget S.t 14 = .int .i64 0)
    (hL : S.L = [(3, 0, .cells [.int .i64 x.ch.w, .int .i64 x.ch.h, d, t, s, .int .i64 x.g, .int .i64 x.pace, r])]) (hH : S.H = H0) :
    ∃ q, exL Tryz.prog pf (.loop fiLoop1) S = some q ∧ q.1 = .exit 2 ∧ Aft H0 q.2.H ∧ OwnA H0.length q.2.H (tget q.2.t 13) (upC C x.ch.ticks) ∧ tget q.2.t 10 = tget S.t 10 := by
  have htk : x.ch.ticks ≤ 60 := hok.2.2.2.1.2
  obtain ⟨na, nc, e9'⟩ : ∃ a c, rw9 = .slice a x.ch.ticks c := by
    obtain ⟨rv, _, ⟨a, c, e, _⟩, _⟩ := h9T
    exact ⟨a, c, by rw [e, rowsM_len]⟩
  refine loop_rule (I := fun n s' => ∃ k, k ≤ x.ch.ticks ∧ n = x.ch.ticks - k ∧ tget s'.t 14 = .int .i64 k ∧ s'.L = S.L ∧ s'.lim = S.lim ∧ Aft H0 s'.H ∧ OwnA H0.length s'.H (tget s'.t 13) (upC C k) ∧ tget s'.t 12 = .int .i64 (L k) ∧ tget s'.t 1 = c3 ∧ tget s'.t 2 = m3 ∧ tget s'.t 3 = tget S.t 3 ∧ tget s'.t 8 = m ∧ tget s'.t 9 = tget S.t 9 ∧ tget s'.t 10 = tget S.t 10) ?_ x.ch.ticks S
    ⟨0, by omega, by omega, h14, rfl, rfl, by rw [hH]; exact Aft.refl H0, .inl ⟨rfl, h13⟩, h12, h1, h2, rfl, h8, rfl, rfl⟩
  rintro n s' ⟨k, hk, rfl, e14, eL, el, eA, eO, e12, e1, e2, e3, e8, e9, e10⟩
  by_cases hlt : k < x.ch.ticks
  rotate_left
  · have : k = x.ch.ticks := by omega
    subst this
    rw [h9, e9'] at e9
    simp [fiLoop1, SC.loops, sf_cobleref03_first, e9, e14, e10]
    exact ⟨eA, eO⟩
  obtain ⟨w1, w2, w3⟩ := hW k hlt
  have hw1 : IntKind.i64.wrap ((k : Int) + 1) = (k : Int) + 1 := wrap_i64 (by omega) (by omega)
  have e99 := e9
  rw [h9, e9'] at e9
  simp [fiLoop1, SC.loops, sf_cobleref03_first, e9, e14, hlt]
  generalize hS2 : ({ t := _, L := _, H := _, lim := _, rd := _ } : St) = S2
  have y13 : tget S2.t 13 = tget s'.t 13 := by subst hS2; simp
  have y3 : tget S2.t 3 = .pointer (some ⟨3, 0, some 0⟩) := by subst hS2; simp [e3, h3]
  have y9 : tget S2.t 9 = rw9 := by subst hS2; simp [e9, e9']
  have y10 : tget S2.t 10 = tget S.t 10 := by subst hS2; simp [e10]
  have y14 : tget S2.t 14 = .int .i64 k := by subst hS2; simp [e14]
  have yL : S2.L = S.L := by subst hS2; simp [eL]
  have yl : S2.lim = S.lim := by subst hS2; simp [el]
  obtain ⟨⟨q, s2⟩, hr, z1, z2, z3, z4, z5, z6, z7, z8, z9, z10, z11, z12, z13⟩ := first_inner x hok hdo H0 s'.H d t s r m c3 m3 rw9 h hm cnt mst hcl hml hc3 hm3 h9T eA C L hlt w1 w2 w3 S2 (by omega) (by subst hS2; simp [e1]) (by subst hS2; simp [e2]) y3 (by subst hS2; simp [e8]) y9 (by subst hS2; simp [e12]) (by rw [y13]; exact eO) y14 (by subst hS2; simp) (by rw [yL, hL]) (by subst hS2; rfl)
  simp [fiLoop2, SC.loops, sf_cobleref03_first] at hr
  rw [hr]
  simp only at z1 z2 z3 z4 z5 z6 z7 z8 z9 z10 z11 z12 z13
  subst z1
  simp [and_assoc, z2, z3, z6, z7, z8, z9, z10, z11, z12, z13, y3, y9, y10, y14, yL, yl, hw1]
  exact ⟨_, by omega, k + 1, by omega, rfl, by omega, z4, z5, rfl, h3.symm, h9.symm⟩
set_option maxHeartbeats 1000000 in
theorem run_first (x : Ds) (hok : ChOk x.ch) (hdo : dsOk x = true) (lim : Nat) (H : AH) (d t s r c3 m3 : Value) (h : DsIn H x d t s r) (cnt mst : List Bool) (hcl : cnt.length = x.reps.length) (hml : mst.length = x.reps.length) (hc3 : Sl H c3 cnt.length (bools cnt)) (hm3 : Sl H m3 mst.length (bools mst)) :
    (neverR ≤ leastM (rowAt x cnt mst 0) x.ch.cells → apL Tryz.prog pf (.func (.func 54) #[] #[]) [dsV x d t s r, c3, m3] lim H = some (.tuple #[.int .i64 neverR, .slice none 0 0], H)) ∧
    (leastM (rowAt x cnt mst 0) x.ch.cells < neverR → ∀ C L, Walk x cnt mst C L → L 0 = leastM (rowAt x cnt mst 0) x.ch.cells → ∃ v A, apL Tryz.prog pf (.func (.func 54) #[] #[]) [dsV x d t s r, c3, m3] lim H = some (.tuple #[.int .i64 (leastM (rowAt x cnt mst 0) x.ch.cells), v], A) ∧ Aft H A ∧ OwnA H.length A v (upC C x.ch.ticks)) := by
  rw [apL_func _ _ _ _ _ _ (by rfl), sf_cobleref03_first_eq]
  obtain ⟨m, H1, hM, hH1, hm⟩ := run_Map x.ch hok H.length H d t s h.c
  obtain ⟨rw9, H2, hR, hH2, h9T⟩ := run_rows x hok hdo H.length H1 d t s r m c3 m3 (h.ext hH1.ext) hm cnt mst hcl hml (hc3.ext hH1.ext) (hm3.ext hH1.ext)
  have hHH2 := hH1.trans hH2
  have h00 := h
  have hc00 := hc3
  have hmm00 := hm3
  have hm2 := hm.ext hH2.ext
  have htk0 : 0 < x.ch.ticks := hok.2.2.2.1.1
  obtain ⟨⟨⟨da, dc, ed, _⟩, ⟨ta, tc, et, _⟩, ⟨sa, sc, es, _⟩, _, htl, _⟩, ⟨ra, rc, er, _⟩, _⟩ := h
  obtain ⟨ma, mc, em⟩ : ∃ a c, m = .slice a x.ch.cells c := by
    obtain ⟨rv, _, ⟨a, c, e, _⟩, _⟩ := hm
    exact ⟨a, c, by rw [e]; simp [mapM]⟩
  obtain ⟨na, nc, e9'⟩ : ∃ a c, rw9 = .slice a x.ch.ticks c := by
    obtain ⟨rv, _, ⟨a, c, e, _⟩, _⟩ := h9T
    exact ⟨a, c, by rw [e, rowsM_len]⟩
  obtain ⟨c3a, c3c, ec3, _⟩ := hc3
  obtain ⟨m3a, m3c, em3, _⟩ := hm3
  simp only [chV, ed, et, es] at hM
  simp only [dsV, ed, et, es, er, em, ec3, em3] at hR
  rw [em] at hM
  rw [e9'] at hR
  simp [sf_cobleref03_first, dsV, ed, et, es, er, ec3, em3, hM, hR, pf_pure, pureF]
  generalize hS : ({ t := _, L := _, H := _, lim := _, rd := _ } : St) = S
  have y1 : tget S.t 1 = c3 := by subst hS; simp [ec3]
  have y2 : tget S.t 2 = m3 := by subst hS; simp [em3]
  have y3 : tget S.t 3 = .pointer (some ⟨3, 0, some 0⟩) := by subst hS; simp
  have y8 : tget S.t 8 = m := by subst hS; simp [em]
  have y9 : tget S.t 9 = rw9 := by subst hS; simp [e9']
  have yL : S.L = [(3, 0, .cells [.int .i64 x.ch.w, .int .i64 x.ch.h, d, t, s, .int .i64 x.g, .int .i64 x.pace, r])] := by subst hS; simp [ed, et, es, er]
  have yl : S.lim = H.length := by subst hS; rfl
  obtain ⟨⟨q, s1⟩, hr, q1, q2, q3, q4, q5, q6, q7, q8, q9, q10⟩ := first_least x hok H2 m rw9 hm2 cnt mst h9T S y8 y9 (by subst hS; simp [neverR]) (by subst hS; simp) (by subst hS; rfl)
  simp [fiLoop0, SC.loops, sf_cobleref03_first] at hr
  rw [hr]
  simp only at q1 q2 q3 q4 q5 q6 q7 q8 q9 q10
  subst q1
  have hN : neverR = 1073741824 := rfl
  generalize hD : leastM (rowAt x cnt mst 0) x.ch.cells = D at *
  constructor
  · intro hD1
    have hd : (1073741824 : Int) ≤ D := hD1
    simp [q5, hd, hN]
  · intro hD1 C L hW hL0
    have hd : ¬ (1073741824 : Int) ≤ D := by rw [hN] at hD1; omega
    simp [q5, hd]
    generalize hS2 : ({ t := _, L := _, H := _, lim := _, rd := _ } : St) = S2
    obtain ⟨⟨q', s3⟩, hr2, u1, u2, u3, u4⟩ := first_outer x hok hdo H2 d t s r m c3 m3 rw9 (h00.ext hHH2.ext) hm2 cnt mst hcl hml (hc00.ext hHH2.ext) (hmm00.ext hHH2.ext) h9T C L hW S2 (by subst hS2; simp only; rw [q4, yl]; exact hHH2.le) (by subst hS2; simp [q6, y1]) (by subst hS2; simp [q7, y2]) (by subst hS2; simp [q8, y3]) (by subst hS2; simp [q9, y8]) (by subst hS2; simp [q10, y9]) (by subst hS2; simp [q5, hL0]) (by subst hS2; simp) (by subst hS2; simp) (by subst hS2; simp only; rw [q3, yL]) (by subst hS2; simp only; exact q2)
    simp [fiLoop1, SC.loops, sf_cobleref03_first] at hr2
    rw [hr2]
    simp only at u1 u2 u3 u4
    subst u1
    have v10 : tget S2.t 10 = .int .i64 D := by subst hS2; simp [q5]
    rw [v10] at u4
    rcases u3 with ⟨e0, _⟩ | ⟨e0, b', z1, z2, z3⟩
    · exfalso
      have := upC_len C x.ch.ticks
      rw [e0] at this
      simp at this
      omega
    · simp [u4, z2]
      refine ⟨_, _, ⟨rfl, rfl⟩, hHH2.trans u2, .inr ⟨e0, b', by have := hHH2.le; omega, rfl, z3⟩⟩
end Go.Proofs.YtmdnpaboaelkeaaGreatDoor
namespace Go.Proofs.YtmdnpaboaelkeaaGreatDoor
open Go Go.RowKit
theorem least_cut {x : Ds} (hok : ChOk x.ch) (hdo : dsOk x = true) {fl : Nat → Nat → Bool} {p : Nat → Nat → Int} {cnt mst : List Bool} (hA : Agree x fl p (fun i k => ownM x cnt mst i k)) :
    leastM (backN x fl p x.ch.ticks) x.ch.cells = min topN (leastM (rowAt x cnt mst 0) x.ch.cells) := by
  have htk0 : 0 < x.ch.ticks := hok.2.2.2.1.1
  obtain ⟨p0, p1⟩ := hok.pos
  obtain ⟨s, hs⟩ : ∃ s, x.ch.ticks = s + 1 := ⟨x.ch.ticks - 1, by omega⟩
  have hb := rows_back (hops_self hdo) hA s (by omega)
  unfold leastM rowAt
  rw [Nat.sub_zero, hs] at *
  rw [bestOf_congr (fun _ => true) fun j hj => hb j hj]
  have h1 := bestOf_min (fun _ => true) (fun j => ((rowsM x cnt mst (s + 1)).headD []).getD j 0) x.ch.cells
  have h2 := bestOf_le (fun _ => true) (fun j => min topN (((rowsM x cnt mst (s + 1)).headD []).getD j 0)) x.ch.cells 0 p0 rfl
  have h3 : min topN (((rowsM x cnt mst (s + 1)).headD []).getD 0 0) ≤ topN := Int.min_le_left _ _
  omega
theorem least_small {x : Ds} (hok : ChOk x.ch) (hdo : dsOk x = true) (cnt mst : List Bool) : leastM (rowAt x cnt mst 0) x.ch.cells = neverR ∨ leastM (rowAt x cnt mst 0) x.ch.cells ≤ 1200 := by
  have htk0 : 0 < x.ch.ticks := hok.2.2.2.1.1
  obtain ⟨s, hs⟩ : ∃ s, x.ch.ticks = s + 1 := ⟨x.ch.ticks - 1, by omega⟩
  obtain ⟨h1, h2⟩ := rep_w hdo
  have hO0 : ∀ i k, 0 ≤ ownM x cnt mst i k := fun i k => (ownM_bound hdo cnt mst i k).1
  unfold leastM
  rcases bestOf_mem (fun _ => true) (fun j => (rowAt x cnt mst 0).getD j 0) x.ch.cells with h | ⟨j, j1, _, j3⟩
  · exact .inl h
  · rw [j3]
    have hr := rows_small h1 h2 cnt mst hO0 s (by omega) j j1
    have hw := wFrom_le x.reps (x.ch.ticks - 1 - s) h2
    have e : (rowAt x cnt mst 0).getD j 0 = ((rowsM x cnt mst (s + 1)).headD []).getD j 0 := by unfold rowAt; rw [Nat.sub_zero, hs]
    rw [e]
    rcases hr with hr | hr
    · exact .inl hr
    · right; omega
theorem walk_best {x : Ds} (hok : ChOk x.ch) (hdo : dsOk x = true) {fl : Nat → Nat → Bool} {p : Nat → Nat → Int} {cnt mst : List Bool} (hA : Agree x fl p (fun i k => ownM x cnt mst i k)) (h0 : leastM (rowAt x cnt mst 0) x.ch.cells < topN) :
    Walk x cnt mst (cP x fl p) (leftP x cnt mst (cP x fl p)) ∧ leftP x cnt mst (cP x fl p) 0 = leastM (rowAt x cnt mst 0) x.ch.cells := by
  have htk0 : 0 < x.ch.ticks := hok.2.2.2.1.1
  obtain ⟨p0, p1⟩ := hok.pos
  refine ⟨fun k hk => ?_, rfl⟩
  obtain ⟨q, q1, q2, q3, q4, q5⟩ := cP_find (hops_self hdo) p0 htk0 hA h0 k hk
  have hq : (fun i => q i && (rowAt x cnt mst k).getD i 0 == leftP x cnt mst (cP x fl p) k) = fun i => fromP x (cP x fl p (k - 1)) k i && (rowAt x cnt mst k).getD i 0 == leftP x cnt mst (cP x fl p) k := funext fun i => by rw [q1 i]
  rw [hq] at q5
  refine ⟨?_, q5, rfl⟩
  by_cases hk0 : k = 0
  · subst hk0; exact q4
  · obtain ⟨_, _, _, _, z4, _⟩ := cP_find (hops_self hdo) p0 htk0 hA h0 (k - 1) (by omega)
    exact z4
theorem those_among {x : Ds} (p : Int → Bool) (l : List Int) (hl : l.length = x.ch.cells) (dbt : Int) (h : ∀ i, i < x.ch.cells → p (i : Nat) = decide (l.getD i 0 ≤ dbt)) : thoseN p x.cells = amongN l dbt l.length := by
  unfold thoseN amongN
  rw [hl]
  congr 1
  exact List.filter_congr fun i hi => h i (List.mem_range.1 hi)
end Go.Proofs.YtmdnpaboaelkeaaGreatDoor
namespace Go.Proofs.YtmdnpaboaelkeaaGreatDoor
open Go Go.RowKit
def membL (n : Nat) : List Nat := (List.range 12).filter fun j => n.testBit j
theorem membL_zero : membL 0 = [] := by decide
theorem membL_step (n : Nat) (hn : n < 4096) : n ≠ 0 → membL n = lowN n 12 :: membL (n &&& (n - 1)) ∧ n &&& (n - 1) < n := by
  revert hn
  revert n
  refine split64 ?_
  decide +kernel
def mbV (n : Nat) : Value := .func (.func 124) #[] #[.pointer (some ⟨n, 0, none⟩)]
theorem run_members (n : Nat) (lim : Nat) (H : AH) : apL Tryz.prog pf (.func (.func 101) #[] #[]) [.int .u64 n] lim H = some (mbV H.length, H ++ [.rw 0 [.int .u64 n]]) := by
  rw [apL_func _ _ _ _ _ _ (by rfl), sf_fixes_set_members_eq]
  simp [sf_fixes_set_members, mbV, pf_pure, pureF]
structure MbC (lim : Nat) (fv : Value) (Inv : List Nat → AH → Prop) (Done : AH → Prop) : Prop where
  there : ∀ l A, Inv l A → A[bitsG]? = some (.ro bitsV)
  yield : ∀ (j : Nat) l A, Inv (j :: l) A → ∃ ok A2, apL Tryz.prog pf fv [.int .i64 j] lim A = some (.bool ok, A2) ∧ (ok = true → Inv l A2) ∧ (ok = false → Done A2)
  fin : ∀ A, Inv [] A → Done A
def mbLoop : SC := sf_fixes_set_members_1.body.loops.headD .skip
theorem mb_loop (lim : Nat) (fv : Value) (hn : nl fv = true) (Inv : List Nat → AH → Prop) (Done : AH → Prop) (hC : MbC lim fv Inv Done) (n0 : Nat) (hn0 : n0 < 4096) (S : St) (h0 : tget S.t 0 = fv) (h3 : tget S.t 3 = .int .u64 n0) (hI : Inv (membL n0) S.H) (hlim : S.lim = lim) :
    ∃ q, exL Tryz.prog pf (.loop mbLoop) S = some q ∧ (q.1 = .exit 0 ∨ q.1 = .ret) ∧ Done q.2.H := by
  refine loop_rule (I := fun m s' => ∃ n : Nat, n < 4096 ∧ m = n ∧ tget s'.t 0 = fv ∧ tget s'.t 3 = .int .u64 n ∧ s'.lim = lim ∧ Inv (membL n) s'.H) ?_ n0 S ⟨n0, hn0, rfl, h0, h3, hlim, hI⟩
  rintro n s' ⟨n', hn4, rfl, e0, e3, el, eI⟩
  by_cases hz : n = 0
  · subst hz
    have hb : (((0 : Nat) : Int) != 0) = false := by decide
    rw [membL_zero] at eI
    simp [mbLoop, SC.loops, sf_fixes_set_members_1, e0, e3]
    exact hC.fin _ eI
  obtain ⟨A, hA⟩ : ∃ A, s'.H = A := ⟨_, rfl⟩
  rw [hA] at eI
  obtain ⟨hm, hlt⟩ := membL_step n hn4 hz
  rw [hm] at eI
  have hG := hC.there _ A eI
  have hT := fun lim => run_TZ0 hn4 hz lim A hG
  obtain ⟨ok, A2, y1, y2, y3⟩ := hC.yield _ _ A eI
  have hb : ((n : Int) != 0) = true := by simpa using hz
  have hw1 : IntKind.u64.wrap ((n : Int) - 1) = ((n - 1 : Nat) : Int) := by
    rw [show ((n : Int) - 1) = ((n - 1 : Nat) : Int) by omega]
    exact wrap_u64 (by omega)
  have hand := u64_and (a := n) (b := n - 1) (by omega) (by omega)
  have hbits : IntKind.u64.bits = 64 := rfl
  have hnm : n % 18446744073709551616 = n := Nat.mod_eq_of_lt (by omega)
  have hnm1 : (n - 1) % 18446744073709551616 = n - 1 := Nat.mod_eq_of_lt (by omega)
  have hw : IntKind.u64.wrap ((n &&& (n - 1) : Nat) : Int) = ((n &&& (n - 1) : Nat) : Int) := wrap_u64 (by omega)
  generalize lowN n 12 = j at *
  cases ok with
  | false =>
    simp [mbLoop, SC.loops, sf_fixes_set_members_1, e0, e3, hA, el, hb, hT, hn, y1]
    exact y3 rfl
  | true =>
    obtain ⟨p, hp⟩ : ∃ p, p = n - 1 := ⟨_, rfl⟩
    rw [← hp] at hw1 hand hnm1 hw hlt y2
    simp [mbLoop, SC.loops, sf_fixes_set_members_1, e0, e3, hA, el, hb, hT, hn, y1, hw1, hbits, hnm, hnm1, hw]
    exact ⟨n &&& p, hlt, n &&& p, Nat.lt_trans hlt hn4, rfl, rfl, y2 rfl⟩
theorem run_mb (lim : Nat) (fv : Value) (hn : nl fv = true) (Inv : List Nat → AH → Prop) (Done : AH → Prop) (hC : MbC lim fv Inv Done) (n0 b : Nat) (hn0 : n0 < 4096) (A : AH) (hb : A[b]? = some (.rw 0 [.int .u64 n0])) (hI : Inv (membL n0) A) :
    ∃ A', apL Tryz.prog pf (mbV b) [fv] lim A = some (.tuple #[], A') ∧ Done A' := by
  unfold mbV
  rw [apL_func _ _ _ _ _ _ (by rfl), sf_fixes_set_members_1_eq]
  simp [sf_fixes_set_members_1, hb, pf_pure, pureF]
  generalize hS : ({ t := _, L := _, H := _, lim := _, rd := _ } : St) = S
  obtain ⟨⟨q, s1⟩, hr, q1, q2⟩ := mb_loop lim fv hn Inv Done hC n0 hn0 S (by subst hS; simp) (by subst hS; simp) (by subst hS; simpa using hI) (by subst hS; rfl)
  simp [mbLoop, SC.loops, sf_fixes_set_members_1] at hr
  rw [hr]
  simp only at q1 q2
  rcases q1 with rfl | rfl
  · simp; exact q2
  · simp; exact q2
def dbGo (x : Ds) : List Nat → Int → Int
  | [], n => n
  | j :: l, n => match x.reps[j]? with
    | some q => if q.sure then 1201 else dbGo x l (n + q.w)
    | none => n
def doubtP (x : Ds) (k i : Nat) : Int := dbGo x (membL (denyM x k i x.reps.length)) 0
def doAsg : SC := match sf_fixes_search_doubt.body with | .seq _ (.seq _ (.seq (.seq _ (.block _ (.rng _ _ a _))) _)) => a | _ => .skip
def doBody : SC := match sf_fixes_search_doubt.body with | .seq _ (.seq _ (.seq (.seq _ (.block _ (.rng _ _ _ b))) _)) => b | _ => .skip
def doR (T : TS) (L : LS) (lim : Nat) : ARec := ⟨0, none, T, L, lim, [18], doAsg, doBody⟩
end Go.Proofs.YtmdnpaboaelkeaaGreatDoor
namespace Go.Proofs.YtmdnpaboaelkeaaGreatDoor
open Go Go.RowKit
theorem set_last2 (H : AH) (a x y : ABlk) : (H ++ [a, x]).set (H.length + 1) y = H ++ [a, y] := by
  rw [List.set_append_right _ _ (by omega), Nat.add_sub_cancel_left]; rfl
theorem get_last2 (H : AH) (a x : ABlk) : (H ++ [a, x])[H.length + 1]? = some x := by
  rw [List.getElem?_append_right (by omega), Nat.add_sub_cancel_left]; rfl
def DoI (x : Ds) (H : AH) (d t s r a b e : Value) (T : TS) (n : Nat) (D : Int) (l : List Nat) (A : AH) : Prop :=
  ∃ L sum, A = H ++ [.rw 0 [.int .u64 n], .loop (doR T L H.length)] ∧ lget L 3 = some (0, .cells (sV x d t s r a b e)) ∧ lget L 6 = some (0, .cells [.int .i64 0]) ∧ lget L 7 = some (0, .cells [.int .i64 sum]) ∧ dbGo x l sum = D ∧ 0 ≤ sum ∧ sum + 100 * l.length ≤ 1200 ∧ ∀ j ∈ l, j < x.reps.length
def DoD (x : Ds) (H : AH) (T : TS) (n : Nat) (D : Int) (A : AH) : Prop :=
  ∃ L, (A = H ++ [.rw 0 [.int .u64 n], .loop (doR T L H.length)] ∧ (∃ c, lget L 6 = some (0, .cells [c])) ∧ lget L 7 = some (0, .cells [.int .i64 D])) ∨ (A = H ++ [.rw 0 [.int .u64 n], .loop { doR T L H.length with st := 2, pend := some .ret }] ∧ lget L 6 = some (0, .cells [.int .i64 1201]) ∧ D = 1201)
set_option maxHeartbeats 1000000 in
theorem do_C (x : Ds) (hdo : dsOk x = true) (H : AH) (hG : H[bitsG]? = some (.ro bitsV)) (d t s r a b e : Value) (h : DsIn H x d t s r) (oa : OneS a) (ob : OneS b) (oe : OneS e) (T : TS) (n : Nat) (D : Int) (h3 : tget T 3 = .pointer (some ⟨3, 0, some 0⟩)) (h6 : tget T 6 = .pointer (some ⟨6, 0, some 0⟩)) (h7 : tget T 7 = .pointer (some ⟨7, 0, some 0⟩)) :
    MbC H.length (.func (.yield (H.length + 1)) #[] #[]) (DoI x H d t s r a b e T n D) (DoD x H T n D) := by
  have hl12 := fx_reps hdo
  obtain ⟨_, hw⟩ := rep_w hdo
  refine ⟨fun l A hI => ?_, fun j l A hI => ?_, fun A hI => ?_⟩
  · obtain ⟨L, sum, rfl, _⟩ := hI
    exact own_get hG _
  · obtain ⟨L, sum, rfl, g3, g6, g7, gD, g0, gb, gl⟩ := hI
    have hj := gl j (by simp)
    have hv := h.r.ext (Ext.push H [.rw 0 [.int .u64 n], .loop { doR T L H.length with st := 1, L := [] }])
    obtain ⟨rb, ro, rc', erc, c0, c1, c2, c3, c4, c5, c6, c7, c8⟩ := rep_cells hv hj
    have hwq := hw _ (List.getElem_mem hj)
    have hrj : x.reps[j]? = some x.reps[j] := List.getElem?_eq_getElem hj
    obtain ⟨⟨⟨da, dc, ed, _⟩, ⟨ta, tc, et, _⟩, ⟨sa, sc, es, _⟩, _, htl, _⟩, ⟨ra, rc, er, _⟩, _⟩ := h
    obtain ⟨a1, a2, a3, ea⟩ := oa
    obtain ⟨b1, b2, b3, eb⟩ := ob
    obtain ⟨e1, e2, e3, ee⟩ := oe
    have g3' := g3
    rw [show sV x d t s r a b e = [Value.int IntKind.i64 x.ch.w, Value.int IntKind.i64 x.ch.h, d, t, s, Value.int IntKind.i64 x.g, Value.int IntKind.i64 x.pace, r, a, b, e] from rfl, ed, et, es, erc, ea, eb, ee] at g3'
    simp only [hcell] at c7 c8
    have ha : ∀ Y, exL Tryz.prog pf doAsg ⟨([18].zip [Value.int .i64 j]).reverse ++ T, L, Y, H.length, some (H.length + 1)⟩ = some (.normal, ⟨(8, .int .i64 j) :: (18, .int .i64 j) :: T, L, Y, H.length, some (H.length + 1)⟩) := fun Y => by
      simp [doAsg, sf_fixes_search_doubt]
    have gD' : dbGo x (j :: l) sum = if x.reps[j].sure then 1201 else dbGo x l (sum + x.reps[j].w) := by
      show (match x.reps[j]? with | some q => if q.sure then 1201 else dbGo x l (sum + q.w) | none => sum) = _
      rw [hrj]
    rw [gD'] at gD
    generalize hq : x.reps[j] = q at *
    have hlen : (j :: l).length = l.length + 1 := rfl
    rw [hlen] at gb
    cases hsu : q.sure with
    | true =>
      rw [hsu] at gD c7
      rw [if_pos rfl] at gD
      have key : ∃ s', exL Tryz.prog pf doBody ⟨(8, .int .i64 j) :: (18, .int .i64 j) :: T, L, H ++ [.rw 0 [.int .u64 n], .loop { doR T L H.length with st := 1, L := [] }], H.length, some (H.length + 1)⟩ = some (.ret, s') ∧ s'.H = H ++ [.rw 0 [.int .u64 n], .loop { doR T L H.length with st := 1, L := [] }] ∧ lget s'.L 6 = some (0, .cells [.int .i64 1201]) := by
        simp [doBody, sf_fixes_search_doubt, h3, h6, h7, g3', g6, g7, hj, c7]
      obtain ⟨s', z1, z2, z3⟩ := key
      have hy := yield_round (l := H.length + 1) (B := H ++ [.rw 0 [.int .u64 n], .loop (doR T L H.length)]) (r := doR T L H.length) (args := [.int .i64 j]) (lim := H.length) (get_last2 _ _ _) rfl (Nat.le_refl _) (by omega) rfl ha (e := .ret) (s' := s') (by rw [set_last2]; exact z1) (r2 := { doR T L H.length with st := 1, L := [] }) (by rw [z2, get_last2])
      refine ⟨false, _, hy, (fun h => by cases h), fun _ => ⟨s'.L, .inr ⟨?_, z3, gD.symm⟩⟩⟩
      rw [z2, set_last2]
      rfl
    | false =>
      rw [hsu] at gD c7
      rw [if_neg (by simp)] at gD
      have hws : IntKind.i64.wrap (sum + q.w) = sum + q.w := wrap_i64 (by omega) (by omega)
      have key : ∃ s', exL Tryz.prog pf doBody ⟨(8, .int .i64 j) :: (18, .int .i64 j) :: T, L, H ++ [.rw 0 [.int .u64 n], .loop { doR T L H.length with st := 1, L := [] }], H.length, some (H.length + 1)⟩ = some (.normal, s') ∧ s'.H = H ++ [.rw 0 [.int .u64 n], .loop { doR T L H.length with st := 1, L := [] }] ∧ lget s'.L 3 = lget L 3 ∧ lget s'.L 6 = lget L 6 ∧ lget s'.L 7 = some (0, .cells [.int .i64 (sum + q.w)]) := by
        simp [doBody, sf_fixes_search_doubt, h3, h6, h7, g3', g6, g7, hj, c7, c8, hws]
      obtain ⟨s', z1, z2, z3, z4, z5⟩ := key
      have hy := yield_round (l := H.length + 1) (B := H ++ [.rw 0 [.int .u64 n], .loop (doR T L H.length)]) (r := doR T L H.length) (args := [.int .i64 j]) (lim := H.length) (get_last2 _ _ _) rfl (Nat.le_refl _) (by omega) rfl ha (e := .normal) (s' := s') (by rw [set_last2]; exact z1) (r2 := { doR T L H.length with st := 1, L := [] }) (by rw [z2, get_last2])
      refine ⟨true, _, hy, (fun _ => ⟨s'.L, sum + q.w, ?_, by rw [z3, g3], by rw [z4, g6], z5, gD, by omega, by omega, fun i hi => gl i (by simp [hi])⟩), fun h => by cases h⟩
      rw [z2, set_last2]
      rfl
  · obtain ⟨L, sum, rfl, g3, g6, g7, gD, g0, gb, gl⟩ := hI
    exact ⟨L, .inl ⟨rfl, ⟨_, g6⟩, by rw [g7]; congr 5⟩⟩
end Go.Proofs.YtmdnpaboaelkeaaGreatDoor
namespace Go.Proofs.YtmdnpaboaelkeaaGreatDoor
open Go Go.RowKit
theorem memb_len (n : Nat) : (membL n).length ≤ 12 := by
  have := List.length_filter_le (fun j => n.testBit j) (List.range 12)
  simpa [membL] using this
theorem memb_lt {x : Ds} {k i j : Nat} (h : j ∈ membL (denyM x k i x.reps.length)) : j < x.reps.length := by
  have := (List.mem_filter.1 h).2
  rw [deny_bit] at this
  simp only [Bool.and_eq_true, decide_eq_true_eq] at this
  exact this.1
set_option maxHeartbeats 1000000 in
theorem run_doubt (x : Ds) (hdo : dsOk x = true) (lim : Nat) (H : AH) (hG : H[bitsG]? = some (.ro bitsV)) (d t s r a b e : Value) (h : DsIn H x d t s r) (fl : Nat → Nat → Bool) (hsr : SrIn H x fl a b e) {k i : Nat} (hk : k < x.ch.ticks) (hi : i < x.ch.cells) :
    apL Tryz.prog pf (.func (.func 61) #[] #[]) [srV x d t s r a b e, .int .i64 k, .int .i64 i] lim H = some (.int .i64 (doubtP x k i), H) := by
  rw [apL_func _ _ _ _ _ _ (by rfl), sf_fixes_search_doubt_eq]
  have hl12 := fx_reps hdo
  have h00 := h
  have oa := hsr.near.one
  have ob := hsr.flo.one
  have oe := hsr.unt.one
  have hM := fun lim => run_members (denyM x k i x.reps.length) lim H
  obtain ⟨eb, eo, ec, eb', eo', ec', ee, g1, g2⟩ := unt_cell hsr hk hi
  have hn4 := denyM_lt x k i hl12
  have hml := memb_len (denyM x k i x.reps.length)
  have hlt := fun j (h : j ∈ membL (denyM x k i x.reps.length)) => memb_lt h
  have hdp : doubtP x k i = dbGo x (membL (denyM x k i x.reps.length)) 0 := rfl
  obtain ⟨⟨⟨da, dc, ed, _⟩, ⟨ta, tc, et, _⟩, ⟨sa, sc, es, _⟩, _, htl, _⟩, ⟨ra, rc, er, _⟩, _⟩ := h
  obtain ⟨a1, a2, a3, ea⟩ := oa
  obtain ⟨b1, b2, b3, ebb⟩ := ob
  simp only [hcell] at g1 g2
  rw [hdp]
  simp only [mbV] at hM
  generalize hnn : denyM x k i x.reps.length = n at *
  generalize hD : dbGo x (membL n) 0 = D at *
  simp [sf_fixes_search_doubt, srV, ed, et, es, er, ea, ebb, ee, g1, g2, hk, hi, hM, pf_pure, pureF]
  generalize hS : ({ t := _, L := _, H := _, lim := _, rd := _ } : St) = S
  have eH : S.H = H ++ [.rw 0 [.int .u64 n]] := by subst hS; rfl
  have el : S.lim = H.length := by subst hS; rfl
  have eLen : S.H.length = H.length + 1 := by rw [eH]; simp
  have eHx : ∀ y : ABlk, S.H ++ [y] = H ++ [.rw 0 [.int .u64 n], y] := fun y => by rw [eH, List.append_assoc]; rfl
  have t3 : tget S.t 3 = .pointer (some ⟨3, 0, some 0⟩) := by subst hS; simp
  have t6 : tget S.t 6 = .pointer (some ⟨6, 0, some 0⟩) := by subst hS; simp
  have t7 : tget S.t 7 = .pointer (some ⟨7, 0, some 0⟩) := by subst hS; simp
  obtain ⟨A', y1, L, y2⟩ := run_mb H.length (.func (.yield (H.length + 1)) #[] #[]) (by simp) _ _ (do_C x hdo H hG d t s r a b e h00 hsr.near.one hsr.flo.one hsr.unt.one S.t n D t3 t6 t7) n H.length (by omega) (H ++ [.rw 0 [.int .u64 n], .loop (doR S.t S.L H.length)]) (by rw [List.getElem?_append_right (Nat.le_refl _), Nat.sub_self]; rfl)
    ⟨S.L, 0, rfl, by subst hS; simp [sV, ed, et, es, er, ea, ebb, ee], by subst hS; simp, by subst hS; simp, hD, by omega, by omega, hlt⟩
  have hx := fun (r : ARec) (hr : A'[H.length + 1]? = some (.loop r)) (hst : r.st = 0 ∨ r.st = 2) => exL_range (f := .tmp 17) (ps := [18]) (asg := doAsg) (body := doBody) (S := S) (fv := mbV H.length) (by subst hS; simp [mbV]) (by simp [mbV]) rfl (by subst hS; rfl) (A' := A') (v := .tuple #[]) (r := r)
    (by rw [eLen, el, eHx]; exact y1) (by rw [eLen]; exact hr) hst
  simp only [doAsg, doBody, sf_fixes_search_doubt] at hx
  rcases y2 with ⟨rfl, ⟨c6, y6⟩, y7⟩ | ⟨rfl, y6, rfl⟩
  · have hx := hx _ (get_last2 _ _ _) (.inl rfl)
    rw [hx]
    simp [doR, t3, t6, t7, y6, y7]
  · have hx := hx _ (get_last2 _ _ _) (.inr rfl)
    rw [hx]
    simp [doR, t3, t6, t7, y6]
def doubtF (x : Ds) (d t s r a b e : Value) : Value := .func (.func 61) #[srV x d t s r a b e] #[]
theorem isPr_doubt (x : Ds) (hdo : dsOk x = true) (H : AH) (hG : H[bitsG]? = some (.ro bitsV)) (d t s r a b e : Value) (h : DsIn H x d t s r) (fl : Nat → Nat → Bool) (hsr : SrIn H x fl a b e) : IsPr H (doubtF x d t s r a b e) x.ch.ticks x.ch.cells (doubtP x) := by
  refine ⟨?_, fun H' hH k i hk hi lim => ?_⟩
  · obtain ⟨⟨⟨da, dc, ed, _⟩, ⟨ta, tc, et, _⟩, ⟨sa, sc, es, _⟩, _, htl, _⟩, ⟨ra, rc, er, _⟩, _⟩ := h
    obtain ⟨a1, a2, a3, ea⟩ := hsr.near.one
    obtain ⟨b1, b2, b3, eb⟩ := hsr.flo.one
    obtain ⟨e1, e2, e3, ee⟩ := hsr.unt.one
    exact ⟨by simp [doubtF, srV, ed, et, es, er, ea, eb, ee], rfl, rfl⟩
  · unfold doubtF
    rw [apL_meth _ _ _ _ _ (by rfl) (by rfl)]
    exact run_doubt x hdo lim H' (hH _ _ hG) d t s r a b e (h.ext hH) fl (hsr.ext hH) hk hi
theorem dbGo_bound (x : Ds) (hw : ∀ q ∈ x.reps, 0 ≤ q.w ∧ q.w ≤ 100) : ∀ (l : List Nat) (n : Int), 0 ≤ n → n + 100 * l.length ≤ 1200 → 0 ≤ dbGo x l n ∧ dbGo x l n ≤ topN
  | [], n, h0, h1 => by
    have hT : topN = 1201 := rfl
    unfold dbGo
    simp at h1
    omega
  | j :: l, n, h0, h1 => by
    have hT : topN = 1201 := rfl
    simp only [List.length_cons] at h1
    unfold dbGo
    split
    · rename_i q hq
      have := hw q (List.mem_of_getElem? hq)
      split
      · omega
      · exact dbGo_bound x hw l (n + q.w) (by omega) (by omega)
    · omega
theorem doubt_bound {x : Ds} (hdo : dsOk x = true) (k i : Nat) : 0 ≤ doubtP x k i ∧ doubtP x k i ≤ topN := by
  have := memb_len (denyM x k i x.reps.length)
  exact dbGo_bound x (rep_w hdo).2 _ 0 (by omega) (by omega)
noncomputable def doubtD (x : Ds) : Int × List Int × Int := if dsE x = 0 then ((if leastM (backN x (mayF x) (doubtP x) x.ch.ticks) x.ch.cells = topN then 0 else leastM (backN x (mayF x) (doubtP x) x.ch.ticks) x.ch.cells), bestE x (mayF x) (doubtP x)) else (0, [], dsE x)
set_option maxHeartbeats 1000000 in
theorem run_fDoubt (x : Ds) (lim : Nat) (H : AH) (hG : H[bitsG]? = some (.ro bitsV)) (d t s r : Value) (h : DsIn H x d t s r) :
    ∃ v A, apL Tryz.prog pf (.func (.func 23) #[] #[]) [dsV x d t s r] lim H = some (.tuple #[.int .i64 (doubtD x).1, v, .int .i64 (doubtD x).2.2], A) ∧ Aft H A ∧ OwnA H.length A v (doubtD x).2.1 := by
  rw [apL_func _ _ _ _ _ _ (by rfl), sf_fixes_Doubt_eq]
  have h0 := h
  by_cases he : dsE x = 0
  rotate_left
  · have hO := fun lim => run_fopen_bad x lim H d t s r h (.slice none 0 0) (.slice none 0 0) oneS_nil oneS_nil he
    have hdd : doubtD x = (0, [], dsE x) := by simp [doubtD, he]
    rw [hdd]
    refine ⟨.slice none 0 0, H, ?_, Aft.refl H, .inl ⟨rfl, rfl⟩⟩
    have hne : (dsE x != 0) = true := by simpa using he
    obtain ⟨⟨⟨da, dc, ed, _⟩, ⟨ta, tc, et, _⟩, ⟨sa, sc, es, _⟩, _, htl, _⟩, ⟨ra, rc, er, _⟩, _⟩ := h
    simp only [dsV, srZ, nilS, ed, et, es, er] at hO
    generalize dsE x = z at *
    simp [sf_fixes_Doubt, dsV, ed, et, es, er, hO, hne, pf_pure, pureF]
  obtain ⟨hok, hdo⟩ := dsE_zero he
  obtain ⟨a, b, e, A, hO, hA, hsr⟩ := run_fopen x H.length H d t s r h (.slice none 0 0) (.slice none 0 0) [] [] (by simp) (by simp) Sl.nil Sl.nil he rfl rfl
  have hx := h.ext hA.ext
  have oa := hsr.near.one
  have ob := hsr.flo.one
  have oe := hsr.unt.one
  have hpr := isPr_doubt x hdo A (hA.ext _ _ hG) d t s r a b e hx (mayF x) hsr
  obtain ⟨hB1, hB2⟩ := run_best x hok hdo H.length A d t s r a b e _ hx (mayF x) hsr (doubtP x) hpr (fun k i _ _ => (doubt_bound hdo k i).1)
  have hdd : doubtD x = ((if leastM (backN x (mayF x) (doubtP x) x.ch.ticks) x.ch.cells = topN then 0 else leastM (backN x (mayF x) (doubtP x) x.ch.ticks) x.ch.cells), bestE x (mayF x) (doubtP x)) := by simp [doubtD, he]
  rw [hdd]
  unfold bestE
  obtain ⟨⟨⟨da, dc, ed, _⟩, ⟨ta, tc, et, _⟩, ⟨sa, sc, es, _⟩, _, htl, _⟩, ⟨ra, rc, er, _⟩, _⟩ := h
  obtain ⟨a1, a2, a3, ea⟩ := oa
  obtain ⟨b1, b2, b3, eb⟩ := ob
  obtain ⟨e1, e2, e3, ee⟩ := oe
  simp only [dsV, srV, doubtF, ed, et, es, er, ea, eb, ee] at hO hB1 hB2
  have hml := courseM_len x (mayF x) (doubtP x) x.ch.ticks
  generalize leastM (backN x (mayF x) (doubtP x) x.ch.ticks) x.ch.cells = M at *
  by_cases hm : M = topN
  · have hB := hB1 hm
    simp only [if_pos hm]
    refine ⟨.slice none 0 0, H, ?_, Aft.refl H, .inl ⟨rfl, rfl⟩⟩
    simp [-oneC, oneC_slice, oneC_int, -Array.all_toList, sf_fixes_Doubt, dsV, ed, et, es, er, hO, hB, pf_pure, pureF]
  · obtain ⟨v, F, hB, hF, hOw⟩ := hB2 hm
    simp only [if_neg hm]
    have hAF := hA.trans hF
    rcases hOw with ⟨z1, rfl⟩ | ⟨z1, b', z2, rfl, z3⟩
    · exfalso
      rw [z1] at hml
      have := hok.2.2.2.1.1
      simp [Ch.ticks] at *
      omega
    · refine ⟨_, F, ?_, hAF, .inr ⟨z1, b', Nat.le_trans hA.le z2, rfl, z3⟩⟩
      simp [-oneC, oneC_slice, oneC_int, -Array.all_toList, sf_fixes_Doubt, dsV, ed, et, es, er, hO, hB, pf_pure, pureF]
end Go.Proofs.YtmdnpaboaelkeaaGreatDoor
namespace Go.Proofs.YtmdnpaboaelkeaaGreatDoor
open Go Go.RowKit
structure Way (x : Ds) (c : Nat → Nat) : Prop where
  lt : ∀ t, t < x.ch.ticks → c t < x.ch.cells
  may : ∀ t, t < x.ch.ticks → x.ch.may x.g (c t) t = true
  hop : ∀ t, t + 1 < x.ch.ticks → hops x (c t) (c (t + 1)) = true
def fitM (x : Ds) (l : Nat) : Bool := decide (leastM (backN x (mayF x) (demP x l) x.ch.ticks) x.ch.cells < topN)
theorem payV_le {x : Ds} {fl : Nat → Bool} {p : Nat → Int} {prev : List Int} {i j : Nat} (hi : i < x.ch.cells) (hs : hops x i i = true) (hf : fl i = true) (hp : p i < topN) (hj : j < x.ch.cells) (hij : hops x i j = true) : payV x fl p prev i ≤ p i + prev.getD j 0 := by
  have h0 := upto_pos hi hs
  have hl := (cheapM_le (fun j => prev.getD j 0) (upto (hops x i) x.ch.cells) ((upto (hops x i) x.ch.cells).headD 0)).2 j (upto_mem.2 ⟨hj, hij⟩)
  have hl2 : prev.getD (cheapM (fun j => prev.getD j 0) ((upto (hops x i) x.ch.cells).headD 0) (upto (hops x i) x.ch.cells)) 0 ≤ prev.getD j 0 := hl
  unfold payV
  rw [hf]
  simp only [Bool.true_and, decide_eq_true_eq]
  rw [if_pos hp]
  generalize prev.getD (cheapM (fun j => prev.getD j 0) ((upto (hops x i) x.ch.cells).headD 0) (upto (hops x i) x.ch.cells)) 0 = V at *
  omega
theorem way_back {x : Ds} (hdo : dsOk x = true) {c : Nat → Nat} (hc : Way x c) {l : Nat} (hl : ∀ t, t < x.ch.ticks → denyM x t (c t) x.reps.length &&& l = 0) : ∀ s, s < x.ch.ticks → (backN x (mayF x) (demP x l) (s + 1)).getD (c (x.ch.ticks - 1 - s)) 0 ≤ 12 * (s + 1 : Nat)
  | 0, hs => by
    have hlt := hc.lt (x.ch.ticks - 1 - 0) (by omega)
    have hd : demP x l (x.ch.ticks - 1 - 0) (c (x.ch.ticks - 1 - 0)) ≤ 12 := by
      unfold demP; rw [if_pos (hl _ (by omega))]
      have := bitsN_le (denyM x (x.ch.ticks - 1 - 0) (c (x.ch.ticks - 1 - 0)) x.reps.length) 12
      omega
    have hT : topN = 1201 := rfl
    show (payN x (mayF x (x.ch.ticks - 1 - 0)) (demP x l (x.ch.ticks - 1 - 0)) (backN x (mayF x) (demP x l) 0)).getD _ 0 ≤ _
    rw [payN_get _ _ _ _ hlt]
    have h1 := payV_le (prev := backN x (mayF x) (demP x l) 0) hlt (hops_self hdo _) (fl := mayF x (x.ch.ticks - 1 - 0)) (hc.may _ (by omega)) (p := demP x l (x.ch.ticks - 1 - 0)) (by omega) hlt (hops_self hdo _)
    have hz : (backN x (mayF x) (demP x l) 0).getD (c (x.ch.ticks - 1 - 0)) 0 = 0 := by
      show (List.replicate x.ch.cells (0 : Int)).getD _ 0 = 0
      rw [List.getD_eq_getElem?_getD, List.getElem?_replicate]
      split <;> rfl
    rw [hz] at h1
    omega
  | s + 1, hs => by
    have ih := way_back hdo hc hl s (by omega)
    have hlt := hc.lt (x.ch.ticks - 1 - (s + 1)) (by omega)
    have hlt2 := hc.lt (x.ch.ticks - 1 - s) (by omega)
    have hd : demP x l (x.ch.ticks - 1 - (s + 1)) (c (x.ch.ticks - 1 - (s + 1))) ≤ 12 := by
      unfold demP; rw [if_pos (hl _ (by omega))]
      have := bitsN_le (denyM x (x.ch.ticks - 1 - (s + 1)) (c (x.ch.ticks - 1 - (s + 1))) x.reps.length) 12
      omega
    have hT : topN = 1201 := rfl
    have hh := hc.hop (x.ch.ticks - 1 - (s + 1)) (by omega)
    rw [show x.ch.ticks - 1 - (s + 1) + 1 = x.ch.ticks - 1 - s by omega] at hh
    show (payN x (mayF x (x.ch.ticks - 1 - (s + 1))) (demP x l (x.ch.ticks - 1 - (s + 1))) (backN x (mayF x) (demP x l) (s + 1))).getD _ 0 ≤ _
    rw [payN_get _ _ _ _ hlt]
    have h1 := payV_le (prev := backN x (mayF x) (demP x l) (s + 1)) hlt (hops_self hdo _) (fl := mayF x (x.ch.ticks - 1 - (s + 1))) (hc.may _ (by omega)) (p := demP x l (x.ch.ticks - 1 - (s + 1))) (by omega) hlt2 hh
    omega
theorem fit_of_way {x : Ds} (hok : ChOk x.ch) (hdo : dsOk x = true) {c : Nat → Nat} (hc : Way x c) {l : Nat} (hl : ∀ t, t < x.ch.ticks → denyM x t (c t) x.reps.length &&& l = 0) : fitM x l = true := by
  have htk : x.ch.ticks ≤ 60 := hok.2.2.2.1.2
  have htk0 : 0 < x.ch.ticks := hok.2.2.2.1.1
  have h := way_back hdo hc hl (x.ch.ticks - 1) (by omega)
  rw [show x.ch.ticks - 1 + 1 = x.ch.ticks by omega, show x.ch.ticks - 1 - (x.ch.ticks - 1) = 0 by omega] at h
  have hm := bestOf_le (fun _ => true) (fun j => (backN x (mayF x) (demP x l) x.ch.ticks).getD j 0) x.ch.cells (c 0) (hc.lt 0 htk0) rfl
  have hT : topN = 1201 := rfl
  have hm2 : leastM (backN x (mayF x) (demP x l) x.ch.ticks) x.ch.cells ≤ (backN x (mayF x) (demP x l) x.ch.ticks).getD (c 0) 0 := hm
  unfold fitM
  rw [decide_eq_true_eq]
  omega
theorem pay_fin {x : Ds} (hdo : dsOk x = true) (l s : Nat) {i : Nat} (hi : i < x.ch.cells) (h : (backN x (mayF x) (demP x l) (s + 1)).getD i 0 < topN) :
    x.ch.may x.g i (x.ch.ticks - 1 - s) = true ∧ denyM x (x.ch.ticks - 1 - s) i x.reps.length &&& l = 0 ∧ (backN x (mayF x) (demP x l) s).getD (cheapM (fun j => (backN x (mayF x) (demP x l) s).getD j 0) ((upto (hops x i) x.ch.cells).headD 0) (upto (hops x i) x.ch.cells)) 0 < topN := by
  have e : (backN x (mayF x) (demP x l) (s + 1)).getD i 0 = payV x (mayF x (x.ch.ticks - 1 - s)) (demP x l (x.ch.ticks - 1 - s)) (backN x (mayF x) (demP x l) s) i := payN_get _ _ _ _ hi
  rw [e] at h
  unfold payV at h
  have hd := dem_bound x l (x.ch.ticks - 1 - s) i
  have hT : topN = 1201 := rfl
  split at h
  · rename_i hc
    simp only [Bool.and_eq_true, decide_eq_true_eq] at hc
    refine ⟨hc.1, ?_, by omega⟩
    unfold demP at hc
    by_cases hz : denyM x (x.ch.ticks - 1 - s) i x.reps.length &&& l = 0
    · exact hz
    · rw [if_neg hz] at hc; omega
  · omega
theorem way_of_fit {x : Ds} (hok : ChOk x.ch) (hdo : dsOk x = true) {l : Nat} (h : fitM x l = true) : Way x (cP x (mayF x) (demP x l)) ∧ ∀ t, t < x.ch.ticks → denyM x t (cP x (mayF x) (demP x l) t) x.reps.length &&& l = 0 := by
  obtain ⟨p0, p1⟩ := hok.pos
  have htk0 : 0 < x.ch.ticks := hok.2.2.2.1.1
  have hlt := fun t => (cP_lt hdo p0 (mayF x) (demP x l) t).2
  have hT : topN = 1201 := rfl
  have hbb := fun s hs => backN_bound (x := x) (fl := mayF x) (p := demP x l) (fun k i _ _ => (dem_bound x l k i).1) s hs
  have h0 : (backN x (mayF x) (demP x l) x.ch.ticks).getD (cP x (mayF x) (demP x l) 0) 0 < topN := by
    unfold fitM at h
    rw [decide_eq_true_eq] at h
    have hup : 0 < (upto (fun _ => true) x.ch.cells).length := List.length_pos_of_mem (upto_mem.2 ⟨p0, rfl⟩)
    have := cheap_best (fun _ => true) (fun j => (backN x (mayF x) (demP x l) x.ch.ticks).getD j 0) x.ch.cells hup (fun j _ => Int.le_trans (hbb _ (Nat.le_refl _) j).2 (by decide))
    have e : cP x (mayF x) (demP x l) 0 = cheapM (fun j => (backN x (mayF x) (demP x l) x.ch.ticks).getD j 0) ((upto (fun _ => true) x.ch.cells)[0]) (upto (fun _ => true) x.ch.cells) := by
      show cheapM _ ((upto (fun _ => true) x.ch.cells).headD 0) _ = _
      rw [headD_zero hup]
    rw [e]
    have e2 : leastM (backN x (mayF x) (demP x l) x.ch.ticks) x.ch.cells = bestOf (fun _ => true) (fun j => (backN x (mayF x) (demP x l) x.ch.ticks).getD j 0) x.ch.cells := rfl
    rw [e2, ← this] at h
    exact h
  have fin : ∀ t, t < x.ch.ticks → (backN x (mayF x) (demP x l) (x.ch.ticks - t)).getD (cP x (mayF x) (demP x l) t) 0 < topN := by
    intro t
    induction t with
    | zero => intro _; exact h0
    | succ t ih =>
      intro ht
      have := ih (by omega)
      rw [show x.ch.ticks - t = (x.ch.ticks - (t + 1)) + 1 by omega] at this
      exact (pay_fin hdo l _ (hlt t) this).2.2
  refine ⟨⟨fun t _ => hlt t, fun t ht => ?_, fun t ht => ?_⟩, fun t ht => ?_⟩
  · have := fin t ht
    rw [show x.ch.ticks - t = (x.ch.ticks - 1 - t) + 1 by omega] at this
    have := (pay_fin hdo l _ (hlt t) this).1
    rwa [show x.ch.ticks - 1 - (x.ch.ticks - 1 - t) = t by omega] at this
  · have hp := cP_lt hdo p0 (mayF x) (demP x l) (t + 1)
    have e := cP_eq x (mayF x) (demP x l) (t + 1)
    rw [headD_zero hp.1] at e
    have hm : cP x (mayF x) (demP x l) (t + 1) ∈ nextL x (mayF x) (demP x l) (t + 1) := by
      rw [e]
      rcases cheapM_mem (fun j => (backN x (mayF x) (demP x l) (x.ch.ticks - (t + 1))).getD j 0) (nextL x (mayF x) (demP x l) (t + 1)) (nextL x (mayF x) (demP x l) (t + 1))[0] with h | h
      · rw [h]; exact List.getElem_mem _
      · exact h
    exact (upto_mem.1 hm).2
  · have := fin t ht
    rw [show x.ch.ticks - t = (x.ch.ticks - 1 - t) + 1 by omega] at this
    have := (pay_fin hdo l _ (hlt t) this).2.1
    rwa [show x.ch.ticks - 1 - (x.ch.ticks - 1 - t) = t by omega] at this
theorem sub_bit {a b : Nat} : subM a b = true ↔ ∀ j, a.testBit j = true → b.testBit j = true := by
  unfold subM
  rw [beq_iff_eq]
  constructor
  · intro h j hj
    rw [← h, Nat.testBit_and] at hj
    simp only [Bool.and_eq_true] at hj
    exact hj.2
  · intro h
    apply Nat.eq_of_testBit_eq
    intro j
    rw [Nat.testBit_and]
    cases ha : a.testBit j
    · simp
    · simp [h j ha]
theorem fit_mono {x : Ds} (hok : ChOk x.ch) (hdo : dsOk x = true) {a b : Nat} (hab : subM a b = true) (h : fitM x b = true) : fitM x a = true := by
  obtain ⟨h1, h2⟩ := way_of_fit hok hdo h
  refine fit_of_way hok hdo h1 fun t ht => ?_
  apply Nat.eq_of_testBit_eq
  intro j
  have h3 : (denyM x t (cP x (mayF x) (demP x b) t) x.reps.length &&& b).testBit j = false := by rw [h2 t ht]; simp
  rw [Nat.testBit_and] at h3 ⊢
  rw [Nat.zero_testBit]
  cases ha : a.testBit j
  · simp
  · rw [sub_bit.1 hab j ha] at h3; simpa using h3
end Go.Proofs.YtmdnpaboaelkeaaGreatDoor
namespace Go.Proofs.YtmdnpaboaelkeaaGreatDoor
open Go Go.RowKit
def IsU (H : AH) (f : Value) (p : Nat → Bool) : Prop := (nl f = true ∧ isU f = false ∧ f.cells = #[f]) ∧ ∀ H', Ext H H' → ∀ n : Nat, n < 4096 → ∀ lim, apL Tryz.prog pf f [.int .u64 n] lim H' = some (.bool (p n), H')
theorem isU_in (H : AH) (a : Nat) (ha : a < 4096) : IsU H (.func (.func 129) #[.int .u64 a] #[]) (subM a) := by
  refine ⟨⟨by simp, rfl, rfl⟩, fun H' _ n hn lim => ?_⟩
  rw [apL_meth _ _ _ _ _ (by rfl) (by rfl)]
  exact run_isIn (by omega) (by omega) lim H'
theorem isU_holds (H : AH) (a : Nat) (ha : a < 4096) : IsU H (.func (.func 130) #[.int .u64 a] #[]) (fun b => subM b a) := by
  refine ⟨⟨by simp, rfl, rfl⟩, fun H' _ n hn lim => ?_⟩
  rw [apL_meth _ _ _ _ _ (by rfl) (by rfl)]
  exact run_holds (by omega) (by omega) lim H'
def ixLoop : SC := sf_slices_IndexFunc_fixes_set_fixes_set.body.loops.headD .skip
theorem ix_loop (l : List Nat) (hl : l.length < 2 ^ 62) (h4 : ∀ n ∈ l, n < 4096) (H : AH) (v f : Value) (p : Nat → Bool) (hv : Sl H v l.length (u64s l)) (hp : IsU H f p) (S : St) (h0 : tget S.t 0 = v) (h1 : tget S.t 1 = f) (h6 : tget S.t 6 = v) (h7 : tget S.t 7 = .int .i64 l.length) (h8 : tget S.t 8 = .int .i64 0) (hH : S.H = H) :
    ∃ q, exL Tryz.prog pf (.loop ixLoop) S = some q ∧ q.2.H = H ∧ ((q.1 = .exit 0 ∧ l.any p = false) ∨ (q.1 = .ret ∧ l.any p = true ∧ ∃ i : Nat, tget q.2.t 4 = .int .i64 i)) := by
  obtain ⟨aa, ac, rfl, hd⟩ := hv
  obtain ⟨hnf, huf, hcf⟩ := hp.1
  refine loop_rule (I := fun m s' => ∃ i, i ≤ l.length ∧ m = l.length - i ∧ tget s'.t 0 = .slice aa l.length ac ∧ tget s'.t 1 = f ∧ tget s'.t 7 = .int .i64 l.length ∧ tget s'.t 8 = .int .i64 i ∧ s'.H = H ∧ (l.take i).any p = false) ?_ l.length S
    ⟨0, by omega, by omega, h0, h1, h7, h8, hH, rfl⟩
  rintro m s' ⟨i, hi, rfl, e0, e1, e7, e8, eH, eN⟩
  by_cases hlt : i < l.length
  rotate_left
  · have : i = l.length := by omega
    subst this
    rw [List.take_length] at eN
    simp [ixLoop, SC.loops, sf_slices_IndexFunc_fixes_set_fixes_set, e0, e1, e7, e8, eH]
    simpa using eN
  obtain ⟨b, o, rfl, g⟩ := hd i _ (u64s_get hlt)
  have hps := fun lim => hp.2 H (Ext.refl H) l[i] (h4 _ (List.getElem_mem hlt)) lim
  have hw : IntKind.i64.wrap ((i : Int) + 1) = (i : Int) + 1 := wrap_i64 (by omega) (by omega)
  have hs : (l.take (i + 1)).any p = ((l.take i).any p || p l[i]) := by rw [List.take_add_one, List.any_append]; simp [hlt]
  have hmem : l[i] ∈ l := List.getElem_mem hlt
  generalize hq : l[i] = q at *
  simp only [hcell] at g
  cases hc : p q with
  | false =>
    rw [hc] at hps hs
    simp [ixLoop, SC.loops, sf_slices_IndexFunc_fixes_set_fixes_set, e0, e1, e7, e8, eH, hlt, g, hps, hnf, hw]
    exact ⟨_, by omega, i + 1, by omega, rfl, by omega, by simpa [eN] using hs⟩
  | true =>
    rw [hc] at hps
    simp [ixLoop, SC.loops, sf_slices_IndexFunc_fixes_set_fixes_set, e0, e1, e7, e8, eH, hlt, g, hps, hnf, hw]
    exact ⟨⟨q, hmem, hc⟩, i, rfl⟩
theorem run_anyU (l : List Nat) (hl : l.length < 2 ^ 62) (h4 : ∀ n ∈ l, n < 4096) (lim : Nat) (H : AH) (v f : Value) (p : Nat → Bool) (hv : Sl H v l.length (u64s l)) (hp : IsU H f p) :
    apL Tryz.prog pf (.func (.func 128) #[] #[]) [v, f] lim H = some (.bool (l.any p), H) := by
  have hI : ∀ lim, ∃ i : Int, apL Tryz.prog pf (.func (.func 146) #[] #[]) [v, f] lim H = some (.int .i64 i, H) ∧ decide (0 ≤ i) = l.any p := by
    intro lim
    rw [apL_func _ _ _ _ _ _ (by rfl), sf_slices_IndexFunc_fixes_set_fixes_set_eq]
    have hv0 := hv
    obtain ⟨aa, ac, ev, _⟩ := hv
    simp [sf_slices_IndexFunc_fixes_set_fixes_set, ev, pf_pure, pureF]
    generalize hS : ({ t := _, L := _, H := _, lim := _, rd := _ } : St) = S
    obtain ⟨⟨q, s1⟩, hr, q1, q2⟩ := ix_loop l hl h4 H v f p hv0 hp S (by subst hS; simp [ev]) (by subst hS; simp) (by subst hS; simp [ev]) (by subst hS; simp) (by subst hS; simp) (by subst hS; rfl)
    simp [ixLoop, SC.loops, sf_slices_IndexFunc_fixes_set_fixes_set] at hr
    rw [hr]
    simp only at q1 q2
    rcases q2 with ⟨rfl, h⟩ | ⟨rfl, h, i, hi⟩
    · rw [h]
      simp [q1]
    · rw [h]
      simp [q1, hi]
  rw [apL_func _ _ _ _ _ _ (by rfl), sf_slices_ContainsFunc_fixes_set_fixes_set_eq]
  obtain ⟨i, hr, hi⟩ := hI H.length
  obtain ⟨aa, ac, ev, _⟩ := hv
  obtain ⟨hnf, huf, hcf⟩ := hp.1
  rw [ev] at hr
  simp [sf_slices_ContainsFunc_fixes_set_fixes_set, ev, hnf, hr, pf_pure, pureF]
  simpa using hi
def clearM (a b : Nat) : Nat := (BitVec.ofInt 64 (a : Int) &&& ~~~ BitVec.ofInt 64 (b : Int)).toNat
theorem clear_bit {a : Nat} (ha : a < 2 ^ 64) (b i : Nat) : (clearM a b).testBit i = (a.testBit i && !b.testBit i) := by
  unfold clearM
  rw [← BitVec.getLsbD, BitVec.getLsbD_and, BitVec.getLsbD_not, BitVec.ofInt_natCast, BitVec.ofInt_natCast, BitVec.getLsbD_ofNat, BitVec.getLsbD_ofNat]
  by_cases hi : i < 64
  · simp [hi]
  · have : a.testBit i = false := Nat.testBit_lt_two_pow (Nat.lt_of_lt_of_le ha (Nat.pow_le_pow_right (by omega) (by omega)))
    simp [hi, this]
theorem clear_lt {a : Nat} (ha : a < 2 ^ 12) (b : Nat) : clearM a b < 2 ^ 12 := by
  refine Nat.lt_pow_two_of_testBit _ fun i hi => ?_
  rw [clear_bit (by omega)]
  have : a.testBit i = false := Nat.testBit_lt_two_pow (Nat.lt_of_lt_of_le ha (Nat.pow_le_pow_right (by omega) hi))
  rw [this]; rfl
theorem clear_wrap {a : Nat} (ha : a < 2 ^ 12) (b : Nat) : IntKind.u64.wrap (((BitVec.ofInt 64 (a : Int) &&& ~~~ BitVec.ofInt 64 (b : Int)).toNat : Nat) : Int) = ((clearM a b : Nat) : Int) := wrap_u64 (by have := clear_lt ha b; unfold clearM at this; omega)
def trueM (x : Ds) (c : Nat → Nat) : Nat → Nat
  | 0 => 2 ^ x.reps.length - 1
  | k + 1 => clearM (trueM x c k) (denyM x k (c k) x.reps.length)
theorem trueM_lt {x : Ds} (hl : x.reps.length ≤ 12) (c : Nat → Nat) : ∀ k, trueM x c k < 2 ^ 12
  | 0 => by
    have : 2 ^ x.reps.length ≤ 2 ^ 12 := Nat.pow_le_pow_right (by omega) hl
    unfold trueM; omega
  | k + 1 => clear_lt (trueM_lt hl c k) _
theorem trueM_none {x : Ds} (hl : x.reps.length ≤ 12) (c : Nat → Nat) : ∀ k t, t < k → denyM x t (c t) x.reps.length &&& trueM x c k = 0
  | k + 1, t, ht => by
    have hb := trueM_lt hl c k
    apply Nat.eq_of_testBit_eq
    intro j
    rw [Nat.testBit_and, Nat.zero_testBit]
    show (_ && (clearM (trueM x c k) _).testBit j) = false
    rw [clear_bit (by omega)]
    by_cases h : t = k
    · subst h
      cases (denyM x t (c t) x.reps.length).testBit j <;> simp
    · have ih := trueM_none hl c k t (by omega)
      have h2 : (denyM x t (c t) x.reps.length &&& trueM x c k).testBit j = false := by rw [ih]; simp
      rw [Nat.testBit_and] at h2
      cases h3 : (denyM x t (c t) x.reps.length).testBit j
      · simp
      · rw [h3] at h2; simp at h2; simp [h2]
def trLoop : SC := sf_fixes_search_trueOf.body.loops.headD .skip
theorem run_trueOf (x : Ds) (hok : ChOk x.ch) (hl12 : x.reps.length ≤ 12) (lim : Nat) (H : AH) (d t s r a b e v : Value) (h : DsIn H x d t s r) (fl : Nat → Nat → Bool) (hsr : SrIn H x fl a b e) (c : Nat → Nat) (hc : ∀ t, t < x.ch.ticks → c t < x.ch.cells) (hv : Sl H v x.ch.ticks (ints (upC c x.ch.ticks))) :
    apL Tryz.prog pf (.func (.func 131) #[] #[]) [srV x d t s r a b e, v] lim H = some (.int .u64 (trueM x c x.ch.ticks : Nat), H) := by
  rw [apL_func _ _ _ _ _ _ (by rfl), sf_fixes_search_trueOf_eq]
  have htk : x.ch.ticks ≤ 60 := hok.2.2.2.1.2
  have hAl := fun lim => run_all3 x hl12 lim H d t s r a b e h hsr.near.one hsr.flo.one hsr.unt.one
  have hsr0 := hsr
  obtain ⟨⟨⟨da, dc, ed, _⟩, ⟨ta, tc, et, _⟩, ⟨sa, sc, es, _⟩, _, htl, _⟩, ⟨ra, rc, er, _⟩, _⟩ := h
  obtain ⟨a1, a2, a3, ea⟩ := hsr.near.one
  obtain ⟨b1, b2, b3, eb⟩ := hsr.flo.one
  obtain ⟨e1', e2', e3', ee⟩ := hsr.unt.one
  obtain ⟨va, vc, ev, hd⟩ := hv
  simp only [srV, ed, et, es, er, ea, eb, ee] at hAl
  have ht0 : trueM x c 0 = 2 ^ x.reps.length - 1 := rfl
  rw [← ht0] at hAl
  simp [sf_fixes_search_trueOf, srV, ed, et, es, er, ea, eb, ee, ev, hAl, pf_pure, pureF]
  generalize hS : ({ t := _, L := _, H := _, lim := _, rd := _ } : St) = S
  have key : ∃ q, exL Tryz.prog pf (.loop trLoop) S = some q ∧ q.1 = .exit 0 ∧ q.2.H = H ∧ tget q.2.t 5 = .int .u64 (trueM x c x.ch.ticks : Nat) := by
    refine loop_rule (I := fun m s' => ∃ k, k ≤ x.ch.ticks ∧ m = x.ch.ticks - k ∧ tget s'.t 2 = .pointer (some ⟨2, 0, some 0⟩) ∧ tget s'.t 10 = .slice va x.ch.ticks vc ∧ tget s'.t 11 = .int .i64 x.ch.ticks ∧ tget s'.t 12 = .int .i64 k ∧ s'.L = S.L ∧ s'.H = H ∧ tget s'.t 5 = .int .u64 (trueM x c k : Nat)) ?_ x.ch.ticks S
      ⟨0, by omega, by omega, by subst hS; simp, by subst hS; simp, by subst hS; simp, by subst hS; simp, rfl, by subst hS; rfl, by subst hS; simp⟩
    rintro m s' ⟨k, hk, rfl, e2, e10, e11, e12, eL, eH, e5⟩
    have hL : S.L = [(2, 0, .cells [Value.int IntKind.i64 x.ch.w, Value.int IntKind.i64 x.ch.h, .slice da x.ch.depth.length dc, .slice ta x.ch.tide.length tc, .slice sa x.ch.swell.length sc, Value.int IntKind.i64 x.g, Value.int IntKind.i64 x.pace, .slice ra x.reps.length rc, .slice a1 a2 a3, .slice b1 b2 b3, .slice e1' e2' e3'])] := by subst hS; simp
    by_cases hlt : k < x.ch.ticks
    rotate_left
    · have : k = x.ch.ticks := by omega
      subst this
      simp [trLoop, SC.loops, sf_fixes_search_trueOf, e2, e10, e11, e12, e5, eH]
    have hck := hc k hlt
    obtain ⟨eb', eo, ec, eb2, eo', ec', ee2, g1, g2⟩ := unt_cell hsr0 hlt hck
    obtain ⟨vb, vo, rfl, g⟩ := hd k _ (ints_get (upC c x.ch.ticks) k (by rw [upC_len]; exact hlt))
    rw [upC_get c hlt] at g
    have hw : IntKind.i64.wrap ((k : Int) + 1) = (k : Int) + 1 := wrap_i64 (by omega) (by omega)
    have hcw := clear_wrap (trueM_lt hl12 c k) (denyM x k (c k) x.reps.length)
    have hts : trueM x c (k + 1) = clearM (trueM x c k) (denyM x k (c k) x.reps.length) := rfl
    rw [← hts] at hcw
    have hdl := denyM_lt x k (c k) hl12
    have htl := trueM_lt hl12 c k
    simp only [hcell] at g g1 g2
    rw [ee] at ee2
    rw [ee2] at hL
    generalize denyM x k (c k) x.reps.length = dn at *
    generalize trueM x c k = tn at *
    have hcw' : IntKind.u64.wrap ↑(BitVec.ofInt IntKind.u64.bits (tn : Int) &&& ~~~BitVec.ofInt IntKind.u64.bits (dn : Int)).toNat = ((trueM x c (k + 1) : Nat) : Int) := hcw
    simp [-BitVec.ofInt_natCast, -BitVec.toNat_and, -BitVec.toNat_ofInt, trLoop, SC.loops, sf_fixes_search_trueOf, e2, e10, e11, e12, e5, eL, hL, eH, hlt, g, g1, g2, hck, hw, hcw']
    exact ⟨_, by omega, k + 1, by omega, rfl, by omega, rfl⟩
  obtain ⟨⟨q, s1⟩, hr, q1, q2, q3⟩ := key
  simp [trLoop, SC.loops, sf_fixes_search_trueOf] at hr
  rw [hr]
  simp only at q1 q2 q3
  subst q1
  simp [q2, q3]
end Go.Proofs.YtmdnpaboaelkeaaGreatDoor
namespace Go.Proofs.YtmdnpaboaelkeaaGreatDoor
open Go Go.RowKit
theorem u64s_inj : ∀ {a b : List Nat}, u64s a = u64s b → a = b
  | [], [], _ => rfl
  | x :: a, y :: b, h => by
    simp only [u64s, List.map_cons] at h
    injection h with h1 h2
    injection h1 with _ h3
    have : x = y := Int.ofNat_inj.1 h3
    rw [this, u64s_inj h2]
  | [], _ :: _, h => by simp [u64s] at h
  | _ :: _, [], h => by simp [u64s] at h
theorem u64s_append (a b : List Nat) : u64s (a ++ b) = u64s a ++ u64s b := by simp [u64s]
theorem nlL_u64s (l : List Nat) : nlL (u64s l) = true := nlL_of _ fun v hv => by
  unfold u64s at hv
  obtain ⟨z, _, rfl⟩ := List.mem_map.1 hv
  simp
structure Found (x : Ds) (H : AH) (d t s r a b e : Value) (fb : Nat) (A : AH) (tv ov : Value) (tl ol : List Nat) : Prop where
  cell : A[fb]? = some (.rw 0 (sV x d t s r a b e ++ [tv, ov]))
  tog : OwnV H.length A tv (u64s tl)
  opp : OwnV H.length A ov (u64s ol)
  tfit : ∀ g ∈ tl, g < 4096 ∧ fitM x g = true
  ofit : ∀ g ∈ ol, g < 4096 ∧ fitM x g = false
theorem Found.other {x : Ds} {tl ol : List Nat} (ht : ∀ g ∈ tl, g < 4096 ∧ fitM x g = true) (ho : ∀ g ∈ ol, g < 4096 ∧ fitM x g = false) (h : tl ≠ []) : tl ≠ ol := by
  rintro rfl
  obtain ⟨g, t, e⟩ : ∃ g t, tl = g :: t := by cases tl with | nil => exact absurd rfl h | cons g t => exact ⟨g, t, rfl⟩
  have h1 := (ht g (by rw [e]; simp)).2
  have h2 := (ho g (by rw [e]; simp)).2
  rw [h1] at h2
  cases h2
def Kept (fb : Nat) (A A' : AH) : Prop := ∀ c z, A[c]? = some z → c ≠ fb → (∀ w : List Nat, w ≠ [] → z ≠ .rw 1 (u64s w)) → A'[c]? = some z
theorem Kept.refl (fb : Nat) (A : AH) : Kept fb A A := fun _ _ h _ _ => h
theorem Aft.ext' {A B : AH} (h : Aft A B) {c : Nat} {z : ABlk} (hz : A[c]? = some z) : B[c]? = some z := by
  obtain ⟨K, rfl⟩ := h
  exact own_get hz K
theorem ownV_push {n0 : Nat} {A : AH} {v : Value} {cs : List Value} (h : OwnV n0 A v cs) (y : AH) : OwnV n0 (A ++ y) v cs := by
  rcases h with h | ⟨h1, b, h2, h3, h4⟩
  · exact .inl h
  · exact .inr ⟨h1, b, h2, h3, own_get h4 y⟩
theorem ownV_aft {n0 : Nat} {A B : AH} {v : Value} {cs : List Value} (h : OwnV n0 A v cs) (hA : Aft A B) : OwnV n0 B v cs := by
  obtain ⟨K, rfl⟩ := hA
  exact ownV_push h K
theorem found_app {n0 fb g : Nat} {F : AH} {v w : Value} {l m : List Nat} {vs ws : List Value} (hfb : F[fb]? = some (.rw 0 vs)) (hfb0 : n0 ≤ fb) (hv : OwnV n0 F v (u64s l)) (hw : OwnV n0 F w (u64s m)) (hne : l ≠ [] → l ≠ m) {F' : AH} {v' : Value}
    (hF : (l = [] ∧ F' = (F ++ [ABlk.rw 1 [.int .u64 (g : Int)], ABlk.rw 1 (u64s (l ++ [g]))]).set fb (.rw 0 ws) ∧ v' = .slice (some ⟨F.length + 1, 0, none⟩) 1 2) ∨ (∃ b, v = .slice (some ⟨b, 0, none⟩) l.length (l.length + 1) ∧ n0 ≤ b ∧ F[b]? = some (.rw 1 (u64s l)) ∧ l ≠ [] ∧ F' = (F.set b .dead ++ [ABlk.rw 1 [.int .u64 (g : Int)], ABlk.rw 1 (u64s (l ++ [g]))]).set fb (.rw 0 ws) ∧ v' = .slice (some ⟨F.length + 1, 0, none⟩) (l.length + 1) (l.length + 1 + 1))) (hn0 : n0 ≤ F.length) :
    F'[fb]? = some (.rw 0 ws) ∧ OwnV n0 F' v' (u64s (l ++ [g])) ∧ OwnV n0 F' w (u64s m) ∧ Kept fb F F' := by
  have hfl : fb < F.length := (List.getElem?_eq_some_iff.1 hfb).1
  rcases hF with ⟨rfl, rfl, rfl⟩ | ⟨b, rfl, hb0, hb, hl, rfl, rfl⟩
  · refine ⟨by rw [List.getElem?_set_self (by simp; omega)], .inr ⟨by simp [u64s], F.length + 1, by omega, by simp [u64s], ?_⟩, ?_, fun c z hz hc _ => ?_⟩
    · rw [List.getElem?_set_ne (by omega), List.getElem?_append_right (by omega), Nat.add_sub_cancel_left]; rfl
    · rcases hw with h | ⟨h1, b, h2, h3, h4⟩
      · exact .inl h
      · refine .inr ⟨h1, b, h2, h3, ?_⟩
        have : b ≠ fb := by rintro rfl; rw [hfb] at h4; cases h4
        rw [List.getElem?_set_ne (Ne.symm this)]; exact own_get h4 _
    · rw [List.getElem?_set_ne (Ne.symm hc)]; exact own_get hz _
  · have hbl : b < F.length := (List.getElem?_eq_some_iff.1 hb).1
    have hbf : b ≠ fb := by rintro rfl; rw [hfb] at hb; cases hb
    refine ⟨by rw [List.getElem?_set_self (by simp; omega)], .inr ⟨by simp [u64s], F.length + 1, by omega, by simp [u64s], ?_⟩, ?_, fun c z hz hc hzw => ?_⟩
    · rw [List.getElem?_set_ne (by omega), List.getElem?_append_right (by simp), List.length_set, Nat.add_sub_cancel_left]; rfl
    · rcases hw with h | ⟨h1, b2, h2, h3, h4⟩
      · exact .inl h
      · refine .inr ⟨h1, b2, h2, h3, ?_⟩
        have h5 : b2 ≠ fb := by rintro rfl; rw [hfb] at h4; cases h4
        have h6 : b2 ≠ b := by
          rintro rfl
          rw [hb] at h4
          simp only [Option.some.injEq, ABlk.rw.injEq, true_and] at h4
          exact hne hl (u64s_inj h4)
        have h7 : b2 < F.length := (List.getElem?_eq_some_iff.1 h4).1
        rw [List.getElem?_set_ne (Ne.symm h5), List.getElem?_append_left (by simpa using h7), List.getElem?_set_ne (Ne.symm h6), h4]
    · have h6 : c ≠ b := by
        rintro rfl
        rw [hb] at hz
        exact hzw l hl (Option.some.inj hz).symm
      have h7 : c < F.length := (List.getElem?_eq_some_iff.1 hz).1
      rw [List.getElem?_set_ne (Ne.symm hc), List.getElem?_append_left (by simpa using h7), List.getElem?_set_ne (Ne.symm h6), hz]
set_option maxHeartbeats 4000000 in
theorem run_fit (x : Ds) (hok : ChOk x.ch) (hdo : dsOk x = true) (lim : Nat) (H A : AH) (hlim : lim ≤ H.length) (hA : Aft H A) (d t s r a b e tv ov : Value) (h : DsIn H x d t s r) (hsr : SrIn H x (mayF x) a b e) {fb : Nat} (hfb : H.length ≤ fb) (tl ol : List Nat) (hF : Found x H d t s r a b e fb A tv ov tl ol) (hlen : tl.length ≤ 10000 ∧ ol.length ≤ 10000) (l : Nat) (hl : l < 4096) :
    ∃ A' tv' ov' tl' ol', apL Tryz.prog pf (.func (.func 104) #[] #[]) [.pointer (some ⟨fb, 0, none⟩), .int .u64 l] lim A = some (.bool (fitM x l), A') ∧ Aft H A' ∧ Found x H d t s r a b e fb A' tv' ov' tl' ol' ∧ tl'.length ≤ tl.length + 1 ∧ ol'.length ≤ ol.length + 1 ∧ Kept fb A A' := by
  rw [apL_func _ _ _ _ _ _ (by rfl), sf_fixes_sharing_fit_eq]
  have hl12 := fx_reps hdo
  have hx := h.ext hA.ext
  have hsx := hsr.ext hA.ext
  have oa := hsr.near.one
  have ob := hsr.flo.one
  have oe := hsr.unt.one
  have hF0 := hF
  obtain ⟨hc, htog, hopp, htf, hof⟩ := hF
  have hfl : fb < A.length := (List.getElem?_eq_some_iff.1 hc).1
  have hsT := htog.sl
  have hsO := hopp.sl
  rw [u64s_length] at hsT hsO
  have hAT := fun lim => run_anyU tl (by omega) (fun g hg => (htf g hg).1) lim A tv _ _ hsT (isU_in A l hl)
  have hAO := fun lim => run_anyU ol (by omega) (fun g hg => (hof g hg).1) lim A ov _ _ hsO (isU_holds A l hl)
  have hDm := fun lim => run_demands x lim A d t s r a b e hx oa ob oe l
  obtain ⟨A1, hA1⟩ : ∃ A1, A1 = A ++ [ABlk.rw 0 (sV x d t s r a b e), ABlk.rw 0 [.int .u64 (l : Int)]] := ⟨_, rfl⟩
  rw [← hA1] at hDm
  have hAA1 : Aft A A1 := by rw [hA1]; exact (Aft.refl A).push _
  have hHA1 := hA.trans hAA1
  have hpr := isPr_dem x A1 d t s r a b e (h.ext hHA1.ext) hl12 (mayF x) (hsr.ext hHA1.ext) A.length (A.length + 1) l (by omega) (by rw [hA1, List.getElem?_append_right (Nat.le_refl _), Nat.sub_self]; rfl) (by rw [hA1, List.getElem?_append_right (by omega), Nat.add_sub_cancel_left]; rfl)
  obtain ⟨hB1, hB2⟩ := run_best x hok hdo lim A1 d t s r a b e _ (h.ext hHA1.ext) (mayF x) (hsr.ext hHA1.ext) (demP x l) hpr (fun k i _ _ => (dem_bound x l k i).1)
  have hlm : leastM (backN x (mayF x) (demP x l) x.ch.ticks) x.ch.cells ≤ topN := by
    have h1 := bestOf_le (fun _ => true) (fun j => (backN x (mayF x) (demP x l) x.ch.ticks).getD j 0) x.ch.cells 0 hok.pos.1 rfl
    have h2 := (backN_bound (x := x) (fl := mayF x) (p := demP x l) (fun k i _ _ => (dem_bound x l k i).1) x.ch.ticks (Nat.le_refl _) 0).2
    exact Int.le_trans h1 h2
  have hfit : fitM x l = decide (leastM (backN x (mayF x) (demP x l) x.ch.ticks) x.ch.cells < topN) := rfl
  have hT : topN = 1201 := rfl
  obtain ⟨ta', tc', etv⟩ : ∃ a c, tv = .slice a tl.length c := by obtain ⟨a, c, e, _⟩ := hsT; exact ⟨a, c, e⟩
  obtain ⟨oa', oc', eov⟩ : ∃ a c, ov = .slice a ol.length c := by obtain ⟨a, c, e, _⟩ := hsO; exact ⟨a, c, e⟩
  have hcc := hc
  have hh := h
  obtain ⟨⟨⟨da, dc, ed, _⟩, ⟨ta, tc, et, _⟩, ⟨sa, sc, es, _⟩, _, htl, _⟩, ⟨ra, rc, er, _⟩, _⟩ := h
  obtain ⟨a1, a2, a3, ea⟩ := oa
  obtain ⟨b1, b2, b3, eb⟩ := ob
  obtain ⟨e1, e2, e3, ee⟩ := oe
  simp only [sV, ed, et, es, er, ea, eb, ee, etv, eov, List.cons_append, List.nil_append] at hcc
  rw [etv] at hAT
  rw [eov] at hAO
  simp only [srV, demF, ed, et, es, er, ea, eb, ee] at hDm hB1 hB2
  by_cases hany : tl.any (subM l) = true
  · rw [hany] at hAT
    have hft : fitM x l = true := by
      obtain ⟨g, hg, hs⟩ := List.any_eq_true.1 hany
      exact fit_mono hok hdo hs (htf g hg).2
    refine ⟨A, tv, ov, tl, ol, ?_, hA, hF0, by omega, by omega, Kept.refl fb A⟩
    simp [sf_fixes_sharing_fit, hcc, hAT, hft, pf_pure, pureF]
  have hany' : tl.any (subM l) = false := by simpa using hany
  rw [hany'] at hAT
  by_cases hanyO : (ol.any fun b => subM b l) = true
  · rw [hanyO] at hAO
    have hft : fitM x l = false := by
      obtain ⟨g, hg, hs⟩ := List.any_eq_true.1 hanyO
      cases hfl' : fitM x l with
      | false => rfl
      | true => have := fit_mono hok hdo hs hfl'; rw [(hof g hg).2] at this; cases this
    refine ⟨A, tv, ov, tl, ol, ?_, hA, hF0, by omega, by omega, Kept.refl fb A⟩
    simp [sf_fixes_sharing_fit, hcc, hAT, hAO, hft, pf_pure, pureF]
  have hanyO' : (ol.any fun b => subM b l) = false := by simpa using hanyO
  rw [hanyO'] at hAO
  have hA1f : A1[fb]? = some (.rw 0 (sV x d t s r a b e ++ [tv, ov])) := by rw [hA1]; exact own_get hc _
  have hm1 : 1 ≤ maxA := by decide
  have hlfb : lim ≤ fb := by omega
  by_cases hm : leastM (backN x (mayF x) (demP x l) x.ch.ticks) x.ch.cells = topN
  · have hft : fitM x l = false := by rw [hfit, hm]; simp
    have hB := hB1 hm
    have hA1c := hA1f
    simp only [sV, ed, et, es, er, ea, eb, ee, etv, eov, List.cons_append, List.nil_append] at hA1c
    have hA1X : ∀ y : AH, (A1 ++ y)[fb]? = some (.rw 0 _) := fun y => own_get hA1c y
    have htog1 := ownV_aft htog hAA1
    have hopp1 := ownV_aft hopp hAA1
    have hone : ol ≠ [] → ol ≠ tl := fun h e => by
      have h2 : tl ≠ [] := by rw [← e]; exact h
      exact Found.other htf hof h2 e.symm
    have hof' : ∀ g ∈ ol ++ [l], g < 4096 ∧ fitM x g = false := fun g hg => by
      rcases List.mem_append.1 hg with h | h
      · exact hof g h
      · simp at h; subst h; exact ⟨hl, hft⟩
    rcases hopp1 with ⟨z1, z2⟩ | ⟨z1, b', z2, z3, z4⟩
    · have ho0 : ol = [] := by cases ol with | nil => rfl | cons _ _ => simp [u64s] at z1
      rw [eov] at z2
      simp only [Value.slice.injEq] at z2
      obtain ⟨rfl, _, rfl⟩ := z2
      have hr := found_app (g := l) (ws := sV x d t s r a b e ++ [tv, .slice (some ⟨A1.length + 1, 0, none⟩) 1 2]) hA1f hfb (ownV_aft hopp hAA1) htog1 hone (.inl ⟨ho0, rfl, rfl⟩) hHA1.le
      obtain ⟨k1, k2, k3, k4⟩ := hr
      refine ⟨_, tv, _, tl, ol ++ [l], ?_, (hHA1.push _).set hfb _, ⟨k1, k3, k2, htf, hof'⟩, by omega, by simp, fun c z hz hc' hw => k4 c z (hAA1.ext' hz) hc' hw⟩
      subst ho0
      simp only [List.length_nil] at hAO hcc hA1c hA1X
      simp [-oneC, oneC_int, oneC_slice, -Array.all_toList, sf_fixes_sharing_fit, hcc, hAT, hAO, hDm, hB, hA1c, hA1X, hm1, hlfb, hft, sV, ed, et, es, er, ea, eb, ee, etv, u64s, pf_pure, pureF]
    · rw [eov] at z3
      simp only [Value.slice.injEq, u64s_length] at z3
      obtain ⟨rfl, _, rfl⟩ := z3
      have ho0 : ol ≠ [] := fun e => z1 (by rw [e]; rfl)
      have hr := found_app (g := l) (ws := sV x d t s r a b e ++ [tv, .slice (some ⟨A1.length + 1, 0, none⟩) (ol.length + 1) (ol.length + 1 + 1)]) hA1f hfb (ownV_aft hopp hAA1) htog1 hone (.inr ⟨b', eov, z2, z4, ho0, rfl, rfl⟩) hHA1.le
      obtain ⟨k1, k2, k3, k4⟩ := hr
      refine ⟨_, tv, _, tl, ol ++ [l], ?_, (((hHA1.set z2 _).push _).set hfb _), ⟨k1, k3, k2, htf, hof'⟩, by omega, by simp, fun c z hz hc' hw => k4 c z (hAA1.ext' hz) hc' hw⟩
      have hbl' : b' < A1.length := (List.getElem?_eq_some_iff.1 z4).1
      have hl0 : ¬ ol.length = 0 := by simpa using ho0
      have hmx : ol.length + 1 ≤ maxA := Nat.le_trans (show ol.length + 1 ≤ 20000 by omega) (by decide)
      have hcn : nlL (u64s ol) = true := nlL_u64s ol
      have hci : (u64s ol).length = ol.length := u64s_length ol
      have happ : u64s ol ++ [.int .u64 (l : Int)] = u64s (ol ++ [l]) := by rw [u64s_append]; rfl
      have hcA := fun L x => own_cells z4 L x
      have hbX := fun x => own_get z4 x
      have hsX := fun x y => own_set z4 x y
      have hlb : lim ≤ b' := by omega
      have hbf : b' ≠ fb := by rintro rfl; rw [hA1f] at z4; cases z4
      have hA1s : ∀ y : AH, (A1.set b' .dead ++ y)[fb]? = A1[fb]? := fun y => by rw [List.getElem?_append_left (by simpa using (List.getElem?_eq_some_iff.1 hA1f).1), List.getElem?_set_ne hbf]
      rw [hA1c] at hA1s
      rw [hci] at hcA
      generalize hcs : u64s ol = cs at *
      simp [-oneC, oneC_int, oneC_slice, -Array.all_toList, sf_fixes_sharing_fit, hcc, hAT, hAO, hDm, hB, hA1c, hA1X, hm1, hlfb, hft, sV, ed, et, es, er, ea, eb, ee, etv, hl0, ho0, hmx, hcn, hci, happ, hcA, hbX, hsX, hlb, hA1s, pf_pure, pureF]
  · have hft : fitM x l = true := by rw [hfit]; simp; omega
    obtain ⟨v, F, hB, hAF, hO⟩ := hB2 hm
    obtain ⟨hway, hnone⟩ := way_of_fit hok hdo hft
    have hclen := courseM_len x (mayF x) (demP x l) x.ch.ticks
    have hsv : Sl F v x.ch.ticks (ints (upC (cP x (mayF x) (demP x l)) x.ch.ticks)) := by
      have := hO.sl
      rw [hclen] at this
      exact this
    have hHF := hHA1.trans hAF
    have hTr := fun lim => run_trueOf x hok hl12 lim F d t s r a b e v (hh.ext hHF.ext) (mayF x) (hsr.ext hHF.ext) (cP x (mayF x) (demP x l)) hway.lt hsv
    have hglt := trueM_lt hl12 (cP x (mayF x) (demP x l)) x.ch.ticks
    have hgfit : fitM x (trueM x (cP x (mayF x) (demP x l)) x.ch.ticks) = true := fit_of_way hok hdo hway fun t ht => trueM_none hl12 _ _ _ ht
    generalize trueM x (cP x (mayF x) (demP x l)) x.ch.ticks = g at *
    have hFf : F[fb]? = some (.rw 0 (sV x d t s r a b e ++ [tv, ov])) := hAF.ext' hA1f
    have hFc := hFf
    simp only [sV, ed, et, es, er, ea, eb, ee, etv, eov, List.cons_append, List.nil_append] at hFc
    have hFX : ∀ y : AH, (F ++ y)[fb]? = some (.rw 0 _) := fun y => own_get hFc y
    have htogF := ownV_aft htog (hAA1.trans hAF)
    have hoppF := ownV_aft hopp (hAA1.trans hAF)
    have hone : tl ≠ [] → tl ≠ ol := fun h => Found.other htf hof h
    have htf' : ∀ q ∈ tl ++ [g], q < 4096 ∧ fitM x q = true := fun q hq => by
      rcases List.mem_append.1 hq with h | h
      · exact htf q h
      · simp at h; subst h; exact ⟨hglt, hgfit⟩
    obtain ⟨va, vc, ev, _⟩ := hsv
    rw [ev] at hB hTr
    simp only [srV, ed, et, es, er, ea, eb, ee] at hTr
    rcases htogF with ⟨z1, z2⟩ | ⟨z1, b', z2, z3, z4⟩
    · have ho0 : tl = [] := by cases tl with | nil => rfl | cons _ _ => simp [u64s] at z1
      rw [etv] at z2
      simp only [Value.slice.injEq] at z2
      obtain ⟨rfl, _, rfl⟩ := z2
      have hr := found_app (g := g) (ws := sV x d t s r a b e ++ [.slice (some ⟨F.length + 1, 0, none⟩) 1 2, ov]) hFf hfb (ownV_aft htog (hAA1.trans hAF)) hoppF hone (.inl ⟨ho0, rfl, rfl⟩) hHF.le
      obtain ⟨k1, k2, k3, k4⟩ := hr
      refine ⟨_, _, ov, tl ++ [g], ol, ?_, (hHF.push _).set hfb _, ⟨k1, k2, k3, htf', hof⟩, by simp, by omega, fun c z hz hc' hw => k4 c z ((hAA1.trans hAF).ext' hz) hc' hw⟩
      subst ho0
      simp only [List.length_nil] at hAT hcc hFc hFX
      simp [-oneC, oneC_int, oneC_slice, -Array.all_toList, sf_fixes_sharing_fit, hcc, hAT, hAO, hDm, hB, hTr, hFc, hFX, hm1, hlfb, hft, sV, ed, et, es, er, ea, eb, ee, eov, u64s, pf_pure, pureF]
    · rw [etv] at z3
      simp only [Value.slice.injEq, u64s_length] at z3
      obtain ⟨rfl, _, rfl⟩ := z3
      have ho0 : tl ≠ [] := fun e => z1 (by rw [e]; rfl)
      have hr := found_app (g := g) (ws := sV x d t s r a b e ++ [.slice (some ⟨F.length + 1, 0, none⟩) (tl.length + 1) (tl.length + 1 + 1), ov]) hFf hfb (ownV_aft htog (hAA1.trans hAF)) hoppF hone (.inr ⟨b', etv, z2, z4, ho0, rfl, rfl⟩) hHF.le
      obtain ⟨k1, k2, k3, k4⟩ := hr
      refine ⟨_, _, ov, tl ++ [g], ol, ?_, (((hHF.set z2 _).push _).set hfb _), ⟨k1, k2, k3, htf', hof⟩, by simp, by omega, fun c z hz hc' hw => k4 c z ((hAA1.trans hAF).ext' hz) hc' hw⟩
      have hbl' : b' < F.length := (List.getElem?_eq_some_iff.1 z4).1
      have hl0 : ¬ tl.length = 0 := by simpa using ho0
      have hmx : tl.length + 1 ≤ maxA := Nat.le_trans (show tl.length + 1 ≤ 20000 by omega) (by decide)
      have hcn : nlL (u64s tl) = true := nlL_u64s tl
      have hci : (u64s tl).length = tl.length := u64s_length tl
      have happ : u64s tl ++ [.int .u64 (g : Int)] = u64s (tl ++ [g]) := by rw [u64s_append]; rfl
      have hcA := fun L x => own_cells z4 L x
      have hbX := fun x => own_get z4 x
      have hsX := fun x y => own_set z4 x y
      have hlb : lim ≤ b' := by omega
      have hbf : b' ≠ fb := by rintro rfl; rw [hFf] at z4; cases z4
      have hFs : ∀ y : AH, (F.set b' .dead ++ y)[fb]? = F[fb]? := fun y => by rw [List.getElem?_append_left (by simpa using (List.getElem?_eq_some_iff.1 hFf).1), List.getElem?_set_ne hbf]
      rw [hFc] at hFs
      rw [hci] at hcA
      generalize hcs : u64s tl = cs at *
      simp [-oneC, oneC_int, oneC_slice, -Array.all_toList, sf_fixes_sharing_fit, hcc, hAT, hAO, hDm, hB, hTr, hFc, hFX, hm1, hlfb, hft, sV, ed, et, es, er, ea, eb, ee, eov, hl0, ho0, hmx, hcn, hci, happ, hcA, hbX, hsX, hlb, hFs, pf_pure, pureF]
end Go.Proofs.YtmdnpaboaelkeaaGreatDoor
namespace Go.Proofs.YtmdnpaboaelkeaaGreatDoor
open Go Go.RowKit
def firstN (l : List Nat) : Nat := match l.getLast? with | some j => j + 1 | none => 0
def extM (n : Nat) (l : List Nat) : List (List Nat) := (List.range (n - firstN l)).map fun i => l ++ [firstN l + i]
def longM (n : Nat) (ls : List (List Nat)) : List (List Nat) := ls.flatMap (extM n)
def levelM (n : Nat) : Nat → List (List Nat)
  | 0 => [[]]
  | k + 1 => longM n (levelM n k)
def prefL (n k : Nat) : List (List Nat) := (List.range k).flatMap (levelM n)
def listsM (n : Nat) : List (List Nat) := prefL n (n + 1)
theorem prefL_succ (n k : Nat) : prefL n (k + 1) = prefL n k ++ levelM n k := by simp [prefL, List.range_succ]
theorem extM_spec {n : Nat} {l m : List Nat} (h : m ∈ extM n l) : ∃ i, firstN l ≤ i ∧ i < n ∧ m = l ++ [i] := by
  unfold extM at h
  obtain ⟨i, hi, rfl⟩ := List.mem_map.1 h
  rw [List.mem_range] at hi
  exact ⟨firstN l + i, by omega, by omega, rfl⟩
theorem first_snoc (l : List Nat) (i : Nat) : firstN (l ++ [i]) = i + 1 := by simp [firstN]
theorem level_spec (n : Nat) : ∀ k, ∀ l ∈ levelM n k, l.length = k ∧ k ≤ firstN l ∧ ∀ i ∈ l, i < n
  | 0, l, h => by
    have : l = [] := by simpa [levelM] using h
    subst this
    exact ⟨rfl, by simp, by simp⟩
  | k + 1, l, h => by
    unfold levelM longM at h
    obtain ⟨m, hm, hl⟩ := List.mem_flatMap.1 h
    obtain ⟨h1, h2, h3⟩ := level_spec n k m hm
    obtain ⟨i, i1, i2, rfl⟩ := extM_spec hl
    refine ⟨by simp [h1], by rw [first_snoc]; omega, fun j hj => ?_⟩
    rcases List.mem_append.1 hj with hj | hj
    · exact h3 j hj
    · simp at hj; omega
theorem level_end (n k : Nat) (hk : n < k) : levelM n k = [] := by
  obtain ⟨k, rfl⟩ : ∃ m, k = m + 1 := ⟨k - 1, by omega⟩
  unfold levelM longM
  rw [List.flatMap_eq_nil_iff]
  intro l hl
  obtain ⟨h1, h2, h3⟩ := level_spec n k l hl
  unfold extM
  rw [show n - firstN l = 0 by omega]
  rfl
theorem level_nil {n k : Nat} (h : levelM n k = []) : ∀ j, k ≤ j → levelM n j = [] := by
  intro j hj
  obtain ⟨m, rfl⟩ : ∃ m, j = k + m := ⟨j - k, by omega⟩
  induction m with
  | zero => exact h
  | succ m ih =>
    show longM n (levelM n (k + m)) = []
    rw [ih (by omega)]; rfl
theorem pref_end {n k : Nat} (h : levelM n k = []) (hk : k ≤ n + 1) : prefL n k = listsM n := by
  unfold listsM
  obtain ⟨m, hm⟩ : ∃ m, n + 1 = k + m := ⟨n + 1 - k, by omega⟩
  rw [hm]
  clear hm hk
  induction m with
  | zero => rfl
  | succ m ih => rw [← Nat.add_assoc, prefL_succ, ← ih, level_nil h (k + m) (by omega), List.append_nil]
theorem lists_len : ∀ n, n < 13 → (listsM n).length ≤ 4096 := by decide +kernel
def natI (l : List Nat) : List Int := l.map fun (i : Nat) => (i : Int)
theorem natI_len (l : List Nat) : (natI l).length = l.length := by simp [natI]
def LstIn (A : AH) (v : Value) (l : List Nat) : Prop := (l = [] ∧ v = .slice none 0 0) ∨ (l ≠ [] ∧ ∃ b, v = .slice (some ⟨b, 0, none⟩) l.length (l.length + 1) ∧ A[b]? = some (.rw 1 (ints (natI l))))
theorem LstIn.sl {A : AH} {v : Value} {l : List Nat} (h : LstIn A v l) : Sl A v l.length (ints (natI l)) := by
  rcases h with ⟨rfl, rfl⟩ | ⟨_, b, rfl, hb⟩
  · exact Sl.nil
  · have := Sl.made (n := l.length) (k := l.length + 1) hb (natI_len l).symm
    rw [natI_len] at this
    exact this
theorem LstIn.nl {A : AH} {v : Value} {l : List Nat} (h : LstIn A v l) : nl v = true := by
  rcases h with ⟨rfl, rfl⟩ | ⟨_, b, rfl, hb⟩ <;> simp
theorem run_extended (l : List Nat) (hl : l.length ≤ 1000) (i : Nat) (lim : Nat) (A : AH) (v : Value) (hv : LstIn A v l) :
    apL Tryz.prog pf (.func (.func 132) #[] #[]) [v, .int .i64 i] lim A = some (.slice (some ⟨A.length + 1, 0, none⟩) (l.length + 1) (l.length + 1 + 1), A ++ [.rw 1 [.int .i64 i], .rw 1 (ints (natI (l ++ [i])))]) := by
  rw [apL_func _ _ _ _ _ _ (by rfl), sf_fixes_extended_eq]
  have hmx : l.length + 1 ≤ maxA := Nat.le_trans (show l.length + 1 ≤ 2000 by omega) (by decide)
  have hm1 : 1 ≤ maxA := by decide
  have happ : ints (natI l) ++ [.int .i64 (i : Int)] = ints (natI (l ++ [i])) := by simp [natI, ints]
  rcases hv with ⟨rfl, rfl⟩ | ⟨hn, b, rfl, hb⟩
  · simp [-oneC, oneC_int, fitA, sf_fixes_extended, hm1, pf_pure, pureF]
    rfl
  · have hl0 : ¬ l.length = 0 := by simpa using hn
    have hcA := fun L x => own_cells hb L x
    have hbX := fun x => own_get hb x
    have hci : (ints (natI l)).length = l.length := by rw [ints_length, natI_len]
    have hcn : nlL (ints (natI l)) = true := nlL_ints _
    rw [hci] at hcA
    generalize hcs : ints (natI l) = cs at *
    simp [-oneC, oneC_int, fitA, bndA, sf_fixes_extended, hm1, hl0, hn, hmx, hcA, hb, hbX, hcn, happ, pf_pure, pureF]
end Go.Proofs.YtmdnpaboaelkeaaGreatDoor
namespace Go.Proofs.YtmdnpaboaelkeaaGreatDoor
open Go Go.RowKit
theorem LstIn.aft {A B : AH} {v : Value} {l : List Nat} (h : LstIn A v l) (hA : Aft A B) : LstIn B v l := by
  rcases h with h | ⟨h1, b, h2, h3⟩
  · exact .inl h
  · exact .inr ⟨h1, b, h2, hA.ext' h3⟩
structure OutIn (n0 : Nat) (A : AH) (v : Value) (os : List (List Nat)) (cs : List Value) : Prop where
  len : cs.length = os.length
  own : OwnV n0 A v cs
  rows : ∀ j (h : j < cs.length) (h' : j < os.length), LstIn A cs[j] os[j] ∧ os[j] ≠ []
theorem OutIn.nl {n0 : Nat} {A : AH} {v : Value} {os : List (List Nat)} {cs : List Value} (h : OutIn n0 A v os cs) : nlL cs = true := nlL_of cs fun w hw => by
  obtain ⟨j, hj, rfl⟩ := List.mem_iff_getElem.1 hw
  exact (h.rows j hj (by rw [← h.len]; exact hj)).1.nl
theorem lst_keep {A F : AH} {b : Nat} {cs : List Value} {v : Value} {l : List Nat} (h : LstIn A v l) (hl : l ≠ []) (hb : A[b]? = some (.rw 1 cs)) (hcs : ∀ y ∈ cs, ∃ a n k, y = Value.slice a n k) (hF : ∀ (c : Nat) (z : ABlk), c ≠ b → A[c]? = some z → F[c]? = some z) : LstIn F v l := by
  rcases h with h | ⟨h1, b', h2, h3⟩
  · exact .inl h
  · refine .inr ⟨h1, b', h2, hF b' _ ?_ h3⟩
    rintro rfl
    rw [hb] at h3
    simp only [Option.some.injEq, ABlk.rw.injEq, true_and] at h3
    obtain ⟨y, t, e⟩ : ∃ y t, l = y :: t := by cases l with | nil => exact absurd rfl h1 | cons y t => exact ⟨y, t, rfl⟩
    obtain ⟨a, n, k, e2⟩ := hcs (.int .i64 (y : Nat)) (by rw [h3, e]; simp [natI, ints])
    cases e2
theorem out_snoc {n0 : Nat} {A F : AH} {v v' w : Value} {os : List (List Nat)} {cs : List Value} {l : List Nat} (h : OutIn n0 A v os cs) (hl : l ≠ []) (hw : LstIn F w l) (hn0 : n0 ≤ A.length)
    (hF : (cs = [] ∧ Aft A F ∧ ∃ b : Nat, A.length ≤ b ∧ v' = .slice (some ⟨b, 0, none⟩) 1 2 ∧ F[b]? = some (ABlk.rw 1 [w])) ∨ (cs ≠ [] ∧ ∃ b : Nat, A[b]? = some (ABlk.rw 1 cs) ∧ (∀ (c : Nat) (z : ABlk), c ≠ b → A[c]? = some z → F[c]? = some z) ∧ ∃ b' : Nat, A.length ≤ b' ∧ v' = .slice (some ⟨b', 0, none⟩) (cs.length + 1) (cs.length + 1 + 1) ∧ F[b']? = some (ABlk.rw 1 (cs ++ [w])))) :
    OutIn n0 F v' (os ++ [l]) (cs ++ [w]) := by
  have hlen := h.len
  have rows' : (∀ j (h : j < cs.length) (h' : j < os.length), LstIn F cs[j] os[j] ∧ os[j] ≠ []) → ∀ j (h : j < (cs ++ [w]).length) (h' : j < (os ++ [l]).length), LstIn F (cs ++ [w])[j] (os ++ [l])[j] ∧ (os ++ [l])[j] ≠ [] := fun hr j hj hj' => by
    by_cases hjc : j < cs.length
    · rw [List.getElem_append_left hjc, List.getElem_append_left (by omega)]
      exact hr j hjc (by omega)
    · have : j = cs.length := by simp at hj; omega
      subst this
      rw [List.getElem_append_right (Nat.le_refl _), List.getElem_append_right (by omega)]
      simp [hw, hl]
  rcases hF with ⟨rfl, hA, b, hb, rfl, hFb⟩ | ⟨hc, b, hb, hF, b', hb', rfl, hFb⟩
  · exact ⟨by simp [← hlen], .inr ⟨by simp, b, by omega, rfl, hFb⟩, rows' fun j hj => by simp at hj⟩
  · refine ⟨by simp [hlen], .inr ⟨by simp, b', by omega, by simp, hFb⟩, rows' fun j hj hj' => ?_⟩
    obtain ⟨h1, h2⟩ := h.rows j hj hj'
    refine ⟨lst_keep h1 h2 hb (fun y hy => ?_) hF, h2⟩
    obtain ⟨i, hi, rfl⟩ := List.mem_iff_getElem.1 hy
    obtain ⟨h3, h4⟩ := h.rows i hi (by omega)
    rcases h3 with ⟨e, _⟩ | ⟨_, b2, e, _⟩
    · exact absurd e h4
    · exact ⟨_, _, _, e⟩
def loLoop1 : SC := sf_fixes_longer.body.loops.tail.headD .skip
set_option maxHeartbeats 1000000 in
theorem lo_inner (n : Nat) (hn : n ≤ 12) (n0 : Nat) (A0 : AH) (l : List Nat) (lv : Value) (hl : LstIn A0 lv l) (hll : l.length ≤ 12) (hf : firstN l ≤ 12) (os : List (List Nat)) (hos : os.length ≤ 100000) (cs : List Value) (S : St) (hA0 : Aft A0 S.H) (hn0 : n0 = A0.length) (hlim : S.lim ≤ n0)
    (h1 : tget S.t 1 = .int .i64 n) (h7 : tget S.t 7 = lv) (h9 : tget S.t 9 = .int .i64 (firstN l : Nat)) (hO : OutIn n0 S.H (tget S.t 5) os cs) :
    ∃ q cs', exL Tryz.prog pf (.loop loLoop1) S = some q ∧ q.1 = .exit 2 ∧ q.2.lim = S.lim ∧ Aft A0 q.2.H ∧ OutIn n0 q.2.H (tget q.2.t 5) (os ++ extM n l) cs' ∧ tget q.2.t 1 = tget S.t 1 ∧ tget q.2.t 10 = tget S.t 10 ∧ tget q.2.t 11 = tget S.t 11 ∧ tget q.2.t 12 = tget S.t 12 := by
  have key : ∃ q, exL Tryz.prog pf (.loop loLoop1) S = some q ∧ (q.1 = .exit 2 ∧ q.2.lim = S.lim ∧ Aft A0 q.2.H ∧ (∃ cs', OutIn n0 q.2.H (tget q.2.t 5) (os ++ extM n l) cs') ∧ tget q.2.t 1 = tget S.t 1 ∧ tget q.2.t 10 = tget S.t 10 ∧ tget q.2.t 11 = tget S.t 11 ∧ tget q.2.t 12 = tget S.t 12) := by
    refine loop_rule (I := fun m' s' => ∃ m, m ≤ n - firstN l ∧ m' = n - firstN l - m ∧ tget s'.t 1 = .int .i64 n ∧ tget s'.t 7 = lv ∧ tget s'.t 9 = .int .i64 (firstN l + m : Nat) ∧ s'.lim = S.lim ∧ Aft A0 s'.H ∧ (∃ cs', OutIn n0 s'.H (tget s'.t 5) (os ++ (List.range m).map fun i => l ++ [firstN l + i]) cs') ∧ tget s'.t 10 = tget S.t 10 ∧ tget s'.t 11 = tget S.t 11 ∧ tget s'.t 12 = tget S.t 12) ?_ (n - firstN l) S
      ⟨0, by omega, by omega, h1, h7, h9, rfl, hA0, ⟨cs, by simpa using hO⟩, rfl, rfl, rfl⟩
    rintro m' s' ⟨m, hm, rfl, e1, e7, e9, el, eA, ⟨cs', eO⟩, e10, e11, e12⟩
    obtain ⟨A, hA⟩ : ∃ A, s'.H = A := ⟨_, rfl⟩
    rw [hA] at eA eO
    by_cases hlt : firstN l + m < n
    rotate_left
    · have hme : m = n - firstN l := by omega
      subst hme
      have hge : ¬ ((firstN l + (n - firstN l) : Nat) : Int) < n := by omega
      simp [-Int.natCast_add, loLoop1, SC.loops, sf_fixes_longer, e1, e7, e9, hA, hge, h1, e10, e11, e12]
      exact ⟨el, eA, cs', eO⟩
    have hltI : ((firstN l + m : Nat) : Int) < n := by omega
    have hEx := fun lim => run_extended l (by omega) (firstN l + m) lim A lv (hl.aft eA)
    have hw : IntKind.i64.wrap (((firstN l + m : Nat) : Int) + 1) = ((firstN l + (m + 1) : Nat) : Int) := by rw [wrap_i64 (by omega) (by omega)]; omega
    have hos' : os ++ (List.range (m + 1)).map (fun i => l ++ [firstN l + i]) = (os ++ (List.range m).map fun i => l ++ [firstN l + i]) ++ [l ++ [firstN l + m]] := by rw [List.range_succ]; simp
    have hcl := eO.len
    have hcl2 : cs'.length = os.length + m := by rw [hcl]; simp
    have hnl := hl.nl
    have hm1 : 1 ≤ maxA := by decide
    have hls : LstIn (A ++ [.rw 1 [.int .i64 (firstN l + m : Nat)], .rw 1 (ints (natI (l ++ [firstN l + m])))]) (.slice (some ⟨A.length + 1, 0, none⟩) (l.length + 1) (l.length + 1 + 1)) (l ++ [firstN l + m]) := .inr ⟨by simp, A.length + 1, by simp, by rw [List.getElem?_append_right (by omega), Nat.add_sub_cancel_left]; rfl⟩
    obtain ⟨j, hj⟩ : ∃ j, j = firstN l + m := ⟨_, rfl⟩
    rw [← hj] at hltI hEx hw hls e9 hos'
    have huse : isU lv = false ∧ lv.cells = #[lv] := by rcases hl with ⟨_, rfl⟩ | ⟨_, b, rfl, _⟩ <;> exact ⟨rfl, rfl⟩
    rcases eO.own with ⟨hc0, e5⟩ | ⟨hc0, b, hb, e5, hbA⟩
    · subst hc0
      simp [-oneC, oneC_slice, -Int.natCast_add, loLoop1, SC.loops, sf_fixes_longer, e1, e5, e7, e9, hA, hltI, hEx, hnl, hm1, hw]
      refine ⟨_, by omega, m + 1, by omega, rfl, rfl, el, eA.push _, ⟨[] ++ [.slice (some ⟨A.length + 1, 0, none⟩) (l.length + 1) (l.length + 1 + 1)], ?_⟩, e10, e11, e12⟩
      rw [hos']
      refine out_snoc eO (by simp) ?_ (by have := eA.le; omega) (.inl ⟨rfl, (Aft.refl A).push _, A.length + 3, by omega, rfl, ?_⟩)
      · exact .inr ⟨by simp, A.length + 1, by simp, by rw [List.getElem?_append_right (by omega), Nat.add_sub_cancel_left]; rfl⟩
      · rw [List.getElem?_append_right (by omega), Nat.add_sub_cancel_left]; rfl
    · have hbl' : b < A.length := (List.getElem?_eq_some_iff.1 hbA).1
      have hl0 : ¬ cs'.length = 0 := by simpa using hc0
      have hmx : cs'.length + 1 ≤ maxA := Nat.le_trans (show cs'.length + 1 ≤ 200000 by omega) (by decide)
      have hcn : nlL cs' = true := eO.nl
      have hcA := fun L x => own_cells hbA L x
      have hbX := fun x => own_get hbA x
      have hsX := fun x y => own_set hbA x y
      have hlb : S.lim ≤ b := by omega
      simp [-oneC, oneC_slice, -Int.natCast_add, loLoop1, SC.loops, sf_fixes_longer, e1, e5, e7, e9, hA, hltI, hEx, hnl, hm1, hw, hl0, hc0, hmx, hcn, hcA, hbX, hsX, el, hlb]
      refine ⟨_, by omega, m + 1, by omega, rfl, rfl, ?_, ⟨cs' ++ [.slice (some ⟨A.length + 1, 0, none⟩) (l.length + 1) (l.length + 1 + 1)], ?_⟩, e10, e11, e12⟩
      · exact (eA.set (by omega) _).push _
      rw [hos']
      refine out_snoc eO (by simp) ?_ (by have := eA.le; omega) (.inr ⟨hc0, b, hbA, fun c z hc hz => ?_, A.length + 3, by omega, rfl, ?_⟩)
      · exact .inr ⟨by simp, A.length + 1, by simp, by rw [List.getElem?_append_right (by simp)]; simp⟩
      · have hcl' : c < A.length := (List.getElem?_eq_some_iff.1 hz).1
        rw [List.getElem?_append_left (by simpa using hcl'), List.getElem?_set_ne (Ne.symm hc), hz]
      · rw [List.getElem?_append_right (by simp)]; simp
  obtain ⟨q, h1, h2, h3, h4, ⟨cs', h5⟩, h6⟩ := key
  exact ⟨q, cs', h1, h2, h3, h4, h5, h6⟩
def AllIn (A : AH) (v : Value) (ls : List (List Nat)) : Prop := ∃ cs : List Value, cs.length = ls.length ∧ Sl A v ls.length cs ∧ ∀ j (_ : j < cs.length) (_ : j < ls.length), LstIn A cs[j] ls[j]
def loLoop0 : SC := sf_fixes_longer.body.loops.headD .skip
set_option maxHeartbeats 1000000 in
theorem run_longer (n : Nat) (hn : n ≤ 12) (lim : Nat) (A0 : AH) (v : Value) (ls : List (List Nat)) (hls : ls.length ≤ 5000) (hl : ∀ l ∈ ls, l.length ≤ 12 ∧ firstN l ≤ 12) (hall : AllIn A0 v ls) :
    ∃ w A, apL Tryz.prog pf (.func (.func 127) #[] #[]) [v, .int .i64 n] lim A0 = some (w, A) ∧ Aft A0 A ∧ (∃ cs, OutIn A0.length A w (longM n ls) cs) := by
  rw [apL_func _ _ _ _ _ _ (by rfl), sf_fixes_longer_eq]
  obtain ⟨cs0, c1, c2, c3⟩ := hall
  obtain ⟨va, vc, rfl, hd⟩ := c2
  simp [sf_fixes_longer, pf_pure, pureF]
  generalize hS : ({ t := _, L := _, H := _, lim := _, rd := _ } : St) = S
  have hlen : ∀ j, j ≤ ls.length → (longM n (ls.take j)).length ≤ 12 * j := by
    intro j
    induction j with
    | zero => intro _; simp [longM]
    | succ j ih =>
      intro hj
      have h1 := ih (by omega)
      have h2 : ls.take (j + 1) = ls.take j ++ [ls[j]] := by rw [List.take_add_one]; simp [show j < ls.length by omega]
      rw [h2]
      have h3 : (extM n ls[j]).length ≤ 12 := by simp [extM]; omega
      simp only [longM, List.flatMap_append, List.flatMap_cons, List.flatMap_nil, List.append_nil, List.length_append] at h1 ⊢
      omega
  have key : ∃ q, exL Tryz.prog pf (.loop loLoop0) S = some q ∧ (q.1 = .exit 0 ∧ Aft A0 q.2.H ∧ ∃ cs, OutIn A0.length q.2.H (tget q.2.t 5) (longM n ls) cs) := by
    refine loop_rule (I := fun m s' => ∃ j, j ≤ ls.length ∧ m = ls.length - j ∧ tget s'.t 1 = .int .i64 n ∧ tget s'.t 10 = .slice va ls.length vc ∧ tget s'.t 11 = .int .i64 ls.length ∧ tget s'.t 12 = .int .i64 j ∧ s'.lim = A0.length ∧ Aft A0 s'.H ∧ ∃ cs, OutIn A0.length s'.H (tget s'.t 5) (longM n (ls.take j)) cs) ?_ ls.length S
      ⟨0, by omega, by omega, by subst hS; simp, by subst hS; simp, by subst hS; simp, by subst hS; simp, by subst hS; rfl, by subst hS; exact Aft.refl A0, [], rfl, .inl ⟨rfl, by subst hS; simp⟩, fun j hj => by simp at hj⟩
    rintro m s' ⟨j, hj, rfl, e1, e10, e11, e12, el, eA, cs, eO⟩
    by_cases hlt : j < ls.length
    rotate_left
    · have : j = ls.length := by omega
      subst this
      rw [List.take_length] at eO
      simp [loLoop0, SC.loops, sf_fixes_longer, e1, e10, e11, e12]
      exact ⟨eA, cs, eO⟩
    obtain ⟨A, hA⟩ : ∃ A, s'.H = A := ⟨_, rfl⟩
    rw [hA] at eA eO
    have hjc : j < cs0.length := by omega
    obtain ⟨b, o, rfl, g⟩ := hd j _ (List.getElem?_eq_getElem hjc)
    have gA := hcell_aft g eA
    have hl0 := c3 j hjc hlt
    have hlb := hl _ (List.getElem_mem hlt)
    have hw : IntKind.i64.wrap ((j : Int) + 1) = (j : Int) + 1 := wrap_i64 (by omega) (by omega)
    have htk : ls.take (j + 1) = ls.take j ++ [ls[j]] := by rw [List.take_add_one]; simp [hlt]
    have hlm : longM n (ls.take (j + 1)) = longM n (ls.take j) ++ extM n ls[j] := by unfold longM; rw [htk, List.flatMap_append, List.flatMap_cons, List.flatMap_nil, List.append_nil]
    have hos := hlen j (by omega)
    simp only [hcell] at gA
    generalize hq : ls[j] = q at *
    generalize hqv : cs0[j] = qv at *
    have hqA := hl0.aft eA
    have hfin : ∀ S2 : St, S2.H = A → S2.lim = A0.length → tget S2.t 1 = .int .i64 n → tget S2.t 7 = qv → tget S2.t 9 = .int .i64 (firstN q : Nat) → tget S2.t 5 = tget s'.t 5 → ∃ q' cs', exL Tryz.prog pf (.loop loLoop1) S2 = some q' ∧ q'.1 = .exit 2 ∧ q'.2.lim = S2.lim ∧ Aft A0 q'.2.H ∧ OutIn A0.length q'.2.H (tget q'.2.t 5) (longM n (ls.take j) ++ extM n q) cs' ∧ tget q'.2.t 1 = tget S2.t 1 ∧ tget q'.2.t 10 = tget S2.t 10 ∧ tget q'.2.t 11 = tget S2.t 11 ∧ tget q'.2.t 12 = tget S2.t 12 := fun S2 h1 h2 h3 h4 h5 h6 =>
      lo_inner n hn A0.length A0 q qv hl0 hlb.1 hlb.2 _ (by omega) cs S2 (by rw [h1]; exact eA) rfl (by omega) h3 h4 h5 (by rw [h1, h6]; exact eO)
    rcases hqA with ⟨rfl, rfl⟩ | ⟨hq0, qb, rfl, hqb⟩
    · simp [loLoop0, SC.loops, sf_fixes_longer, e1, e10, e11, e12, hA, hlt, gA]
      generalize hS2 : ({ t := _, L := _, H := _, lim := _, rd := _ } : St) = S2
      obtain ⟨⟨q', s2⟩, cs', hr, z1, z2, z3, z4, z5, z6, z7, z8⟩ := hfin S2 (by subst hS2; rfl) (by subst hS2; simp [el]) (by subst hS2; simp [e1]) (by subst hS2; simp) (by subst hS2; simp [firstN]) (by subst hS2; simp)
      simp [loLoop1, SC.loops, sf_fixes_longer] at hr
      rw [hr]
      simp only at z1 z2 z3 z4 z5 z6 z7 z8
      have y1 : tget S2.t 1 = .int .i64 n := by subst hS2; simp [e1]
      have y10 : tget S2.t 10 = .slice (some ⟨b, o, none⟩) ls.length vc := by subst hS2; simp [e10]
      have y11 : tget S2.t 11 = .int .i64 ls.length := by subst hS2; simp [e11]
      have y12 : tget S2.t 12 = .int .i64 j := by subst hS2; simp [e12]
      have yl : S2.lim = A0.length := by subst hS2; simp [el]
      subst z1
      simp [and_assoc, z2, z5, z6, z7, z8, y1, y10, y11, y12, yl, hw]
      exact ⟨_, by omega, j + 1, by omega, rfl, by omega, z3, cs', by rw [hlm]; exact z4⟩
    · have hq1 : 0 < q.length := List.length_pos_iff.2 hq0
      have hq1' : (0 : Int) < q.length := by omega
      have hlast : (natI q)[q.length - 1]? = some ((firstN q - 1 : Nat) : Int) ∧ 1 ≤ firstN q := by
        unfold firstN natI
        rw [List.getLast?_eq_getElem?]
        have : q.length - 1 < q.length := by omega
        rw [List.getElem?_eq_getElem this]
        simp [this]
      have hcl : (ints (natI q))[q.length - 1]? = some (.int .i64 ((firstN q - 1 : Nat) : Int)) := by
        unfold ints
        rw [List.getElem?_map, hlast.1]; rfl
      have hw2 : IntKind.i64.wrap ((q.length : Int) - 1) = ((q.length - 1 : Nat) : Int) := by rw [wrap_i64 (by omega) (by omega)]; omega
      have hw3 : IntKind.i64.wrap (((firstN q - 1 : Nat) : Int) + 1) = ((firstN q : Nat) : Int) := by rw [wrap_i64 (by omega) (by omega)]; omega
      have hlt2 : q.length - 1 < q.length := by omega
      obtain ⟨qm, hqm⟩ : ∃ qm, qm = q.length - 1 := ⟨_, rfl⟩
      rw [← hqm] at hw2 hcl hlt2
      obtain ⟨fm, hfm⟩ : ∃ fm, fm = firstN q - 1 := ⟨_, rfl⟩
      rw [← hfm] at hw3 hcl
      simp [-Int.natCast_add, loLoop0, SC.loops, sf_fixes_longer, e1, e10, e11, e12, hA, hlt, gA, hq1, hq1', hw2, hlt2, hqb, hcl, hw3]
      generalize hS2 : ({ t := _, L := _, H := _, lim := _, rd := _ } : St) = S2
      obtain ⟨⟨q', s2⟩, cs', hr, z1, z2, z3, z4, z5, z6, z7, z8⟩ := hfin S2 (by subst hS2; rfl) (by subst hS2; simp [el]) (by subst hS2; simp [e1]) (by subst hS2; simp) (by subst hS2; simp) (by subst hS2; simp)
      simp [loLoop1, SC.loops, sf_fixes_longer] at hr
      rw [hr]
      simp only at z1 z2 z3 z4 z5 z6 z7 z8
      have y1 : tget S2.t 1 = .int .i64 n := by subst hS2; simp [e1]
      have y10 : tget S2.t 10 = .slice (some ⟨b, o, none⟩) ls.length vc := by subst hS2; simp [e10]
      have y11 : tget S2.t 11 = .int .i64 ls.length := by subst hS2; simp [e11]
      have y12 : tget S2.t 12 = .int .i64 j := by subst hS2; simp [e12]
      have yl : S2.lim = A0.length := by subst hS2; simp [el]
      subst z1
      simp [and_assoc, z2, z5, z6, z7, z8, y1, y10, y11, y12, yl, hw]
      exact ⟨_, by omega, j + 1, by omega, rfl, by omega, z3, cs', by rw [hlm]; exact z4⟩
  obtain ⟨⟨q, s1⟩, hr, q1, q2, cs, q3⟩ := key
  simp [loLoop0, SC.loops, sf_fixes_longer] at hr
  rw [hr]
  simp only at q1 q2 q3
  subst q1
  have ow := q3.own
  rcases ow with ⟨h1, h2⟩ | ⟨h1, b, h2, h3, h4⟩
  · have hl0 : longM n ls = [] := by
      have := q3.len
      rw [h1] at this
      simpa using this.symm
    simp [h2]
    exact ⟨_, _, ⟨rfl, rfl⟩, Aft.refl A0, [], by rw [hl0]; exact ⟨rfl, .inl ⟨rfl, rfl⟩, fun j hj => by simp at hj⟩⟩
  · have h3' := h3
    rw [h3'] at q3
    simp [h3]
    exact ⟨_, _, ⟨rfl, rfl⟩, q2, cs, q3⟩
end Go.Proofs.YtmdnpaboaelkeaaGreatDoor
namespace Go.Proofs.YtmdnpaboaelkeaaGreatDoor
open Go Go.RowKit
def lsV (b : Nat) : Value := .func (.func 126) #[] #[.pointer (some ⟨b, 0, none⟩)]
theorem run_lists (n : Nat) (lim : Nat) (H : AH) : apL Tryz.prog pf (.func (.func 103) #[] #[]) [.int .i64 n] lim H = some (lsV H.length, H ++ [.rw 0 [.int .i64 n]]) := by
  rw [apL_func _ _ _ _ _ _ (by rfl), sf_fixes_lists_eq]
  simp [sf_fixes_lists, lsV, pf_pure, pureF]
structure LsC (n nb lim : Nat) (fv : Value) (Inv : List (List Nat) → AH → Prop) (Done : AH → Prop) : Prop where
  nbox : ∀ P A, Inv P A → A[nb]? = some (.rw 0 [.int .i64 n])
  add : ∀ P A B, Inv P A → Aft A B → Inv P B
  yield : ∀ P A l v, Inv P A → LstIn A v l → (∃ R, P ++ l :: R = listsM n) → ∃ ok A2, apL Tryz.prog pf fv [v] lim A = some (.bool ok, A2) ∧ (∀ (c : Nat) (cs : List Value), A[c]? = some (.rw 1 cs) → (∀ w : List Nat, w ≠ [] → cs ≠ u64s w) → A2[c]? = some (.rw 1 cs)) ∧ (ok = true → Inv (P ++ [l]) A2) ∧ (ok = false → Done A2)
  fin : ∀ A, Inv (listsM n) A → Done A
theorem natI_u64 {l w : List Nat} (hl : l ≠ []) : ints (natI l) ≠ u64s w := by
  intro e
  cases l with
  | nil => exact hl rfl
  | cons a l =>
    cases w with
    | nil => simp [natI, ints, u64s] at e
    | cons b w =>
      simp only [natI, ints, u64s, List.map_cons] at e
      injection e with e1 _
      injection e1 with e2 _
      cases e2
structure LevIn (A : AH) (v : Value) (ls : List (List Nat)) (cs : List Value) : Prop where
  len : cs.length = ls.length
  at_ : (ls = [] ∧ v = .slice none 0 0) ∨ (ls ≠ [] ∧ ∃ b c, v = .slice (some ⟨b, 0, none⟩) ls.length c ∧ A[b]? = some (.rw 1 cs))
  rows : ∀ j (h : j < cs.length) (h' : j < ls.length), LstIn A cs[j] ls[j]
theorem LevIn.keep {A B : AH} {v : Value} {ls : List (List Nat)} {cs : List Value} (h : LevIn A v ls cs) (hk : ∀ (c : Nat) (cs : List Value), A[c]? = some (.rw 1 cs) → (∀ w : List Nat, w ≠ [] → cs ≠ u64s w) → B[c]? = some (.rw 1 cs)) : LevIn B v ls cs := by
  refine ⟨h.len, ?_, fun j a b => ?_⟩
  · rcases h.at_ with h1 | ⟨h1, b, c, h2, h3⟩
    · exact .inl h1
    · refine .inr ⟨h1, b, c, h2, hk _ _ h3 fun w hw e => ?_⟩
      obtain ⟨y, t, hy⟩ : ∃ y t, w = y :: t := by cases w with | nil => exact absurd rfl hw | cons y t => exact ⟨y, t, rfl⟩
      have hl := h.len
      have h0 : 0 < cs.length := by rw [e, hy]; simp [u64s]
      have h4 := h.rows 0 h0 (by omega)
      have h5 : cs[0] = .int .u64 (y : Nat) := by
        have : cs[0]? = (u64s w)[0]? := by rw [e]
        rw [List.getElem?_eq_getElem h0, hy] at this
        simpa [u64s] using this
      rw [h5] at h4
      rcases h4 with ⟨_, e2⟩ | ⟨_, _, e2, _⟩ <;> cases e2
  · rcases h.rows j a b with h1 | ⟨h1, b', h2, h3⟩
    · exact .inl h1
    · exact .inr ⟨h1, b', h2, hk _ _ h3 fun w hw => natI_u64 h1⟩
theorem LevIn.all {A : AH} {v : Value} {ls : List (List Nat)} {cs : List Value} (h : LevIn A v ls cs) : AllIn A v ls := by
  refine ⟨cs, h.len, ?_, h.rows⟩
  rcases h.at_ with ⟨rfl, rfl⟩ | ⟨_, b, c, rfl, hb⟩
  · exact ⟨none, 0, rfl, fun j y hy => by have := h.len; simp at this; subst this; simp at hy⟩
  · exact ⟨_, _, rfl, fun j y hy => ⟨b, 0, rfl, by simp only [hcell, hb, Nat.zero_add]; exact hy⟩⟩
theorem OutIn.lev {n0 : Nat} {A : AH} {v : Value} {os : List (List Nat)} {cs : List Value} (h : OutIn n0 A v os cs) : LevIn A v os cs := by
  refine ⟨h.len, ?_, fun j a b => (h.rows j a b).1⟩
  have hl := h.len
  rcases h.own with ⟨h1, h2⟩ | ⟨h1, b, h2, h3, h4⟩
  · left; subst h1; exact ⟨by simpa using hl.symm, h2⟩
  · right
    rw [hl] at h3
    exact ⟨fun e => h1 (by rw [e] at hl; simpa using hl), b, _, h3, h4⟩
theorem pref_split {n k : Nat} (hk : k ≤ n) : ∃ R, listsM n = prefL n (k + 1) ++ R := by
  obtain ⟨m, rfl⟩ : ∃ m, n = k + m := ⟨n - k, by omega⟩
  unfold listsM
  have : ∀ N j, ∃ R, prefL N (k + j + 1) = prefL N (k + 1) ++ R := by
    intro N j
    induction j with
    | zero => exact ⟨[], by simp⟩
    | succ j ih =>
      obtain ⟨R, hR⟩ := ih
      exact ⟨R ++ levelM N (k + j + 1), by rw [show k + (j + 1) + 1 = (k + j + 1) + 1 by omega, prefL_succ, hR, List.append_assoc]⟩
  exact this (k + m) m
def liLoop0 : SC := sf_fixes_lists_1.body.loops.headD .skip
def liLoop1 : SC := sf_fixes_lists_1.body.loops.tail.headD .skip
set_option maxHeartbeats 1000000 in
theorem li_inner (n nb lim : Nat) (fv : Value) (hn : nl fv = true) (Inv : List (List Nat) → AH → Prop) (Done : AH → Prop) (hC : LsC n nb lim fv Inv Done) {k : Nat} (hk : k ≤ n) (hlen : (levelM n k).length ≤ 5000) (v : Value) (cs : List Value) (hne : levelM n k ≠ []) (S : St) (h0 : tget S.t 0 = fv) (h13 : tget S.t 13 = v) (h14 : tget S.t 14 = .int .i64 (levelM n k).length) (h15 : tget S.t 15 = .int .i64 0) (hlim : S.lim = lim) (hL : LevIn S.H v (levelM n k) cs) (hI : Inv (prefL n k) S.H) :
    ∃ q, exL Tryz.prog pf (.loop liLoop1) S = some q ∧ ((q.1 = .exit 2 ∧ q.2.lim = lim ∧ LevIn q.2.H v (levelM n k) cs ∧ Inv (prefL n (k + 1)) q.2.H ∧ tget q.2.t 0 = fv ∧ tget q.2.t 1 = tget S.t 1 ∧ tget q.2.t 3 = tget S.t 3) ∨ (q.1 = .ret ∧ Done q.2.H)) := by
  obtain ⟨R0, hR0⟩ := pref_split hk
  refine loop_rule (I := fun m s' => ∃ j, j ≤ (levelM n k).length ∧ m = (levelM n k).length - j ∧ tget s'.t 0 = fv ∧ tget s'.t 13 = v ∧ tget s'.t 14 = .int .i64 (levelM n k).length ∧ tget s'.t 15 = .int .i64 j ∧ s'.lim = lim ∧ LevIn s'.H v (levelM n k) cs ∧ Inv (prefL n k ++ (levelM n k).take j) s'.H ∧ tget s'.t 1 = tget S.t 1 ∧ tget s'.t 3 = tget S.t 3) ?_ (levelM n k).length S
    ⟨0, by omega, by omega, h0, h13, h14, h15, hlim, hL, by simpa using hI, rfl, rfl⟩
  rintro m s' ⟨j, hj, rfl, e0, e13, e14, e15, el, eL, eI, e1, e3⟩
  by_cases hlt : j < (levelM n k).length
  rotate_left
  · have : j = (levelM n k).length := by omega
    subst this
    rw [List.take_length, ← prefL_succ] at eI
    simp [liLoop1, SC.loops, sf_fixes_lists_1, e0, e13, e14, e15, e1, e3]
    exact ⟨el, eL, eI⟩
  obtain ⟨A, hA⟩ : ∃ A, s'.H = A := ⟨_, rfl⟩
  rw [hA] at eL eI
  have hjc : j < cs.length := by rw [eL.len]; exact hlt
  have hrow := eL.rows j hjc hlt
  obtain ⟨b, c, ev, hb⟩ : ∃ b c, v = .slice (some ⟨b, 0, none⟩) (levelM n k).length c ∧ A[b]? = some (.rw 1 cs) := by
    rcases eL.at_ with ⟨h, _⟩ | ⟨_, b, c, h1, h2⟩
    · exact absurd h hne
    · exact ⟨b, c, h1, h2⟩
  have hcj : cs[j]? = some cs[j] := List.getElem?_eq_getElem hjc
  have hts : (levelM n k).take (j + 1) = (levelM n k).take j ++ [(levelM n k)[j]] := by rw [List.take_add_one]; simp [hlt]
  have hsplit : ∃ R, (prefL n k ++ (levelM n k).take j) ++ (levelM n k)[j] :: R = listsM n := by
    refine ⟨(levelM n k).drop (j + 1) ++ R0, ?_⟩
    rw [hR0, prefL_succ]
    have : levelM n k = (levelM n k).take j ++ (levelM n k)[j] :: (levelM n k).drop (j + 1) := by rw [← List.drop_eq_getElem_cons hlt, List.take_append_drop]
    have e : ((levelM n k).take j ++ (levelM n k)[j] :: (levelM n k).drop (j + 1)) ++ R0 = levelM n k ++ R0 := by rw [← this]
    rw [List.append_assoc, List.append_assoc, ← e, List.append_assoc]
    rfl
  obtain ⟨ok, A2, y1, y2, y3, y4⟩ := hC.yield _ A _ _ eI hrow hsplit
  have hw : IntKind.i64.wrap ((j : Int) + 1) = (j : Int) + 1 := wrap_i64 (by omega) (by omega)
  have hnq := hrow.nl
  rw [ev] at e13
  generalize hq : cs[j] = q at *
  have hcje : ∀ hh : j < cs.length, cs[j]'hh = q := fun hh => hq
  cases ok with
  | false =>
    simp [liLoop1, SC.loops, sf_fixes_lists_1, e0, e13, e14, e15, el, hA, hlt, hb, hjc, hcje, hcj, hn, hnq, y1]
    exact y4 rfl
  | true =>
    simp [liLoop1, SC.loops, sf_fixes_lists_1, e0, e13, e14, e15, el, hA, hlt, hb, hjc, hcje, hcj, hn, hnq, y1, hw]
    exact ⟨_, by omega, j + 1, by omega, rfl, ev.symm, by omega, eL.keep y2, by rw [hts, ← List.append_assoc]; exact y3 rfl, e1, e3⟩
set_option maxHeartbeats 1000000 in
theorem run_ls (n nb lim : Nat) (hn12 : n ≤ 12) (fv : Value) (hn : nl fv = true) (Inv : List (List Nat) → AH → Prop) (Done : AH → Prop) (hC : LsC n nb lim fv Inv Done) (A : AH) (hI : Inv [] A) :
    ∃ A', apL Tryz.prog pf (lsV nb) [fv] lim A = some (.tuple #[], A') ∧ Done A' := by
  unfold lsV
  rw [apL_func _ _ _ _ _ _ (by rfl), sf_fixes_lists_1_eq]
  simp [-oneC, oneC_slice, sf_fixes_lists_1, pf_pure, pureF]
  generalize hS : ({ t := _, L := _, H := _, lim := _, rd := _ } : St) = S
  have hlv : ∀ k, k ≤ n → (levelM n k).length ≤ 4096 := fun k hk => by
    obtain ⟨R, hR⟩ := pref_split hk
    have := lists_len n (by omega)
    rw [hR, prefL_succ] at this
    simp only [List.length_append] at this
    omega
  have key : ∃ q, exL Tryz.prog pf (.loop liLoop0) S = some q ∧ ((q.1 = .exit 0 ∨ q.1 = .ret) ∧ Done q.2.H) := by
    refine loop_rule (I := fun m s' => ∃ k, k ≤ n + 1 ∧ m = n + 1 - k ∧ tget s'.t 0 = fv ∧ tget s'.t 1 = .pointer (some ⟨nb, 0, none⟩) ∧ s'.lim = lim ∧ Inv (prefL n k) s'.H ∧ ∃ cs, LevIn s'.H (tget s'.t 3) (levelM n k) cs) ?_ (n + 1) S
      ⟨0, by omega, by omega, by subst hS; simp, by subst hS; simp, by subst hS; rfl, by subst hS; exact hC.add _ _ _ hI ((Aft.refl A).push _), [.slice none 0 0], rfl, .inr ⟨by simp [levelM], A.length, 1, by subst hS; simp [levelM], by subst hS; simp⟩, fun j a b => by
        have : j = 0 := by simp at a; omega
        subst this
        exact .inl ⟨rfl, rfl⟩⟩
    rintro m s' ⟨k, hk, rfl, e0, e1, el, eI, cs, eL⟩
    obtain ⟨v, hv⟩ : ∃ v, tget s'.t 3 = v := ⟨_, rfl⟩
    rw [hv] at eL
    obtain ⟨a, c, ev⟩ : ∃ a c, v = .slice a (levelM n k).length c := by
      rcases eL.at_ with ⟨h1, h2⟩ | ⟨_, b, c, h1, _⟩
      · rw [h1]; exact ⟨_, _, h2⟩
      · exact ⟨_, _, h1⟩
    have hv0 := hv
    rw [ev] at hv
    by_cases hne : levelM n k = []
    · have hpe := pref_end hne hk
      rw [hpe] at eI
      rw [hne] at hv
      simp [liLoop0, SC.loops, sf_fixes_lists_1, hv]
      exact hC.fin _ eI
    have hkn : k ≤ n := by
      by_cases h : k ≤ n
      · exact h
      · exact absurd (level_end n k (by omega)) hne
    have hl5 := hlv k hkn
    have hpos : 0 < (levelM n k).length := List.length_pos_iff.2 hne
    have hpos' : (0 : Int) < (levelM n k).length := by omega
    simp [liLoop0, SC.loops, sf_fixes_lists_1, e0, hv, hpos, hpos']
    generalize hS2 : ({ t := _, L := _, H := _, lim := _, rd := _ } : St) = S2
    obtain ⟨⟨q, s2⟩, hr, hq⟩ := li_inner n nb lim fv hn Inv Done hC hkn (by omega) v cs hne S2 (by subst hS2; simp [e0]) (by subst hS2; simp [ev]) (by subst hS2; simp) (by subst hS2; simp) (by subst hS2; simp [el]) (by subst hS2; exact eL) (by subst hS2; exact eI)
    simp [liLoop1, SC.loops, sf_fixes_lists_1] at hr
    rw [hr]
    have y1 : tget S2.t 1 = .pointer (some ⟨nb, 0, none⟩) := by subst hS2; simp [e1]
    have y3 : tget S2.t 3 = v := by subst hS2; simp [hv0]
    simp only at hq
    rcases hq with ⟨rfl, z2, z3, z4, z5, z6, z7⟩ | ⟨rfl, z2⟩
    rotate_left
    · simp
      exact ⟨_, _, ⟨rfl, rfl⟩, .inr rfl, z2⟩
    obtain ⟨B, hB⟩ : ∃ B, s2.H = B := ⟨_, rfl⟩
    rw [hB] at z3 z4
    have hnb := hC.nbox _ _ z4
    obtain ⟨w, B2, hLo, hBB, cs2, hOut⟩ := run_longer n hn12 lim B v (levelM n k) (by omega) (fun l hl => by
      obtain ⟨h1, h2, h3⟩ := level_spec n k l hl
      refine ⟨by omega, ?_⟩
      unfold firstN
      cases hx : l.getLast? with
      | none => simp
      | some j => have := h3 j (List.mem_of_getLast? hx); simp; omega) z3.all
    have hwn : nl w = true ∧ isU w = false := by
      rcases hOut.own with ⟨_, rfl⟩ | ⟨_, b, _, rfl, _⟩ <;> exact ⟨by simp, rfl⟩
    rw [ev] at hLo y3
    rw [y1] at z6
    rw [y3] at z7
    have hLV : LevIn B2 w (levelM n (k + 1)) cs2 := hOut.lev
    simp [and_assoc, z2, z5, z6, z7, hB, hnb, hLo]
    exact ⟨_, by omega, k + 1, by omega, rfl, hC.add _ _ _ z4 hBB, cs2, hLV⟩
  obtain ⟨⟨q, s1⟩, hr, q1, q2⟩ := key
  simp [liLoop0, SC.loops, sf_fixes_lists_1] at hr
  rw [hr]
  simp only at q1 q2
  rcases q1 with rfl | rfl
  · simp; exact q2
  · simp; exact q2
end Go.Proofs.YtmdnpaboaelkeaaGreatDoor
namespace Go.Proofs.YtmdnpaboaelkeaaGreatDoor
open Go Go.RowKit
def coAsg : SC := match sf_fixes_search_contradiction.body with | .seq _ (.seq _ (.seq (.seq _ (.block _ (.rng _ _ a _))) _)) => a | _ => .skip
def coBody : SC := match sf_fixes_search_contradiction.body with | .seq _ (.seq _ (.seq (.seq _ (.block _ (.rng _ _ _ b))) _)) => b | _ => .skip
def coR (T : TS) (L : LS) (lim : Nat) : ARec := ⟨0, none, T, L, lim, [13], coAsg, coBody⟩
def conflictM (x : Ds) : Option (List Nat) := (listsM x.reps.length).find? fun l => !fitM x (setM l)
theorem ownV_set {n0 l : Nat} {A : AH} {v : Value} {cs : List Value} {r : ARec} {z : ABlk} (hl : A[l]? = some (.loop r)) (h : OwnV n0 A v cs) : OwnV n0 (A.set l z) v cs := by
  rcases h with h | ⟨h1, b, h2, h3, h4⟩
  · exact .inl h
  · refine .inr ⟨h1, b, h2, h3, ?_⟩
    have : l ≠ b := by rintro rfl; rw [hl] at h4; cases h4
    rw [List.getElem?_set_ne this, h4]
theorem Found.set {x : Ds} {H : AH} {d t s r a b e tv ov : Value} {fb l : Nat} {A : AH} {tl ol : List Nat} {rc : ARec} {z : ABlk} (hl : A[l]? = some (.loop rc)) (h : Found x H d t s r a b e fb A tv ov tl ol) : Found x H d t s r a b e fb (A.set l z) tv ov tl ol := by
  refine ⟨?_, ownV_set hl h.tog, ownV_set hl h.opp, h.tfit, h.ofit⟩
  have : l ≠ fb := by rintro rfl; have := h.cell; rw [hl] at this; cases this
  rw [List.getElem?_set_ne this, h.cell]
theorem Found.aft {x : Ds} {H : AH} {d t s r a b e tv ov : Value} {fb : Nat} {A B : AH} {tl ol : List Nat} (h : Found x H d t s r a b e fb A tv ov tl ol) (hA : Aft A B) : Found x H d t s r a b e fb B tv ov tl ol :=
  ⟨hA.ext' h.cell, ownV_aft h.tog hA, ownV_aft h.opp hA, h.tfit, h.ofit⟩
theorem LstIn.set {A : AH} {v : Value} {l : List Nat} {k : Nat} {rc : ARec} {z : ABlk} (hk : A[k]? = some (.loop rc)) (h : LstIn A v l) : LstIn (A.set k z) v l := by
  rcases h with h | ⟨h1, b, h2, h3⟩
  · exact .inl h
  · refine .inr ⟨h1, b, h2, ?_⟩
    have : k ≠ b := by rintro rfl; rw [hk] at h3; cases h3
    rw [List.getElem?_set_ne this, h3]
def CoI (x : Ds) (H : AH) (d t s r a b e : Value) (T : TS) (P : List (List Nat)) (A : AH) : Prop :=
  Aft H A ∧ A[H.length]? = some (.rw 0 [.int .i64 x.reps.length]) ∧ (∀ l ∈ P, fitM x (setM l) = true) ∧ ∃ L, A[H.length + 1]? = some (.loop (coR T L H.length)) ∧ (∃ c2, lget L 2 = some (0, .cells [c2])) ∧ (∃ c3, lget L 3 = some (0, .cells [c3])) ∧
    ((P = [] ∧ lget L 4 = some (0, .cells (sV x d t s r a b e ++ [nilS, nilS]))) ∨ (∃ fb tv ov tl ol, lget L 4 = some (0, .fwd fb) ∧ H.length + 1 < fb ∧ Found x H d t s r a b e fb A tv ov tl ol ∧ tl.length ≤ P.length ∧ ol.length ≤ P.length))
def CoD (x : Ds) (H : AH) (T : TS) (A : AH) : Prop :=
  Aft H A ∧ ∃ L, (A[H.length + 1]? = some (.loop (coR T L H.length)) ∧ conflictM x = none ∧ (∃ c2, lget L 2 = some (0, .cells [c2])) ∧ (∃ c3, lget L 3 = some (0, .cells [c3]))) ∨
    (∃ v l, A[H.length + 1]? = some (.loop { coR T L H.length with st := 2, pend := some .ret }) ∧ conflictM x = some l ∧ lget L 2 = some (0, .cells [v]) ∧ lget L 3 = some (0, .cells [.int .i64 0]) ∧ LstIn A v l)
theorem lists_lt (n : Nat) : ∀ l ∈ listsM n, ∀ i ∈ l, i < n := by
  intro l hl i hi
  unfold listsM prefL at hl
  obtain ⟨k, _, hk⟩ := List.mem_flatMap.1 hl
  exact (level_spec n k l hk).2.2 i hi
set_option maxHeartbeats 2000000 in
theorem co_C (x : Ds) (hok : ChOk x.ch) (hdo : dsOk x = true) (H : AH) (d t s r a b e : Value) (h : DsIn H x d t s r) (hsr : SrIn H x (mayF x) a b e) (T : TS) (h2 : tget T 2 = .pointer (some ⟨2, 0, some 0⟩)) (h3 : tget T 3 = .pointer (some ⟨3, 0, some 0⟩)) (h4 : tget T 4 = .pointer (some ⟨4, 0, some 0⟩)) :
    LsC x.reps.length H.length H.length (.func (.yield (H.length + 1)) #[] #[]) (CoI x H d t s r a b e T) (CoD x H T) := by
  have hl12 := fx_reps hdo
  refine ⟨fun P A hI => hI.2.1, fun P A B hI hAB => ?_, fun P A l v hI hv hR => ?_, fun A hI => ?_⟩
  · obtain ⟨i1, i2, i3, L, i4, i5, i6, i7⟩ := hI
    refine ⟨i1.trans hAB, hAB.ext' i2, i3, L, hAB.ext' i4, i5, i6, ?_⟩
    rcases i7 with h | ⟨fb, tv, ov, tl, ol, k1, k2, k3, k4⟩
    · exact .inl h
    · exact .inr ⟨fb, tv, ov, tl, ol, k1, k2, k3.aft hAB, k4⟩
  · obtain ⟨i1, i2, i3, L, i4, ⟨c2, i5⟩, ⟨c3, i6⟩, i7⟩ := hI
    obtain ⟨R, hR⟩ := hR
    have hPl : P.length ≤ 4096 := by
      have := lists_len x.reps.length (by omega)
      rw [← hR] at this
      simp at this
      omega
    have hlm : ∀ i ∈ l, i < 12 := fun i hi => by
      have := lists_lt x.reps.length l (by rw [← hR]; simp) i hi
      omega
    have hll : l.length ≤ 100 := by
      have hmem : l ∈ listsM x.reps.length := by rw [← hR]; simp
      unfold listsM prefL at hmem
      obtain ⟨k, hk1, hk⟩ := List.mem_flatMap.1 hmem
      rw [List.mem_range] at hk1
      have := (level_spec _ k l hk).1
      omega
    have hg := setM_lt l hlm
    have hll1 : H.length + 1 < A.length := (List.getElem?_eq_some_iff.1 i4).1
    obtain ⟨B, hB⟩ : ∃ B, B = A.set (H.length + 1) (.loop { coR T L H.length with st := 1, L := [] }) := ⟨_, rfl⟩
    have hBl : B[H.length + 1]? = some (.loop { coR T L H.length with st := 1, L := [] }) := by rw [hB, List.getElem?_set_self hll1]
    have hHB : Aft H B := by rw [hB]; exact i1.set (by omega) _
    have hvB : LstIn B v l := by rw [hB]; exact hv.set i4
    have hBn : B[H.length]? = some (.rw 0 [.int .i64 x.reps.length]) := by rw [hB, List.getElem?_set_ne (by omega), i2]
    have hnv := hv.nl
    have huv : isU v = false ∧ v.cells = #[v] ∧ oneC v = true := by rcases hv with ⟨_, rfl⟩ | ⟨_, _, rfl, _⟩ <;> exact ⟨rfl, rfl, by unfold oneC; rfl⟩
    have ha : ∀ Y, exL Tryz.prog pf coAsg ⟨([13].zip [v]).reverse ++ T, L, Y, H.length, some (H.length + 1)⟩ = some (.normal, ⟨(5, v) :: (13, v) :: T, L, Y, H.length, some (H.length + 1)⟩) := fun Y => by
      simp [coAsg, sf_fixes_search_contradiction]
    obtain ⟨fb, B2, L2, tv, ov, tl, ol, f1, f2, f3, f4, f5, f6, f7, f8, f9, f10⟩ : ∃ fb B2 L2 tv ov tl ol, glob L B (.pointer (some ⟨4, 0, some 0⟩)) = some (.pointer (some ⟨fb, 0, none⟩), L2, B2) ∧ Aft B B2 ∧ H.length + 1 < fb ∧ Found x H d t s r a b e fb B2 tv ov tl ol ∧ tl.length ≤ P.length ∧ ol.length ≤ P.length ∧ lget L2 4 = some (0, .fwd fb) ∧ lget L2 2 = some (0, .cells [c2]) ∧ lget L2 3 = some (0, .cells [c3]) ∧ B2[H.length + 1]? = B[H.length + 1]? := by
      rcases i7 with ⟨hP, i7⟩ | ⟨fb, tv, ov, tl, ol, k1, k2, k3, k4, k5⟩
      · have hnl : nlL (sV x d t s r a b e ++ [nilS, nilS]) = true := by
          obtain ⟨⟨⟨da, dc, ed, _⟩, ⟨ta, tc, et, _⟩, ⟨sa, sc, es, _⟩, _, htl, _⟩, ⟨ra, rc, er, _⟩, _⟩ := h
          obtain ⟨a1, a2, a3, ea⟩ := hsr.near.one
          obtain ⟨b1, b2, b3, eb⟩ := hsr.flo.one
          obtain ⟨e1, e2, e3, ee⟩ := hsr.unt.one
          simp [sV, nilS, ed, et, es, er, ea, eb, ee]
        have hbl : B.length = A.length := by rw [hB]; simp
        refine ⟨B.length, B ++ [.rw 0 (sV x d t s r a b e ++ [nilS, nilS])], (4, 0, .fwd B.length) :: L, nilS, nilS, [], [], ?_, (Aft.refl B).push _, by omega, ⟨by rw [List.getElem?_append_right (Nat.le_refl _), Nat.sub_self]; rfl, .inl ⟨rfl, rfl⟩, .inl ⟨rfl, rfl⟩, by simp, by simp⟩, by simp, by simp, by simp [lget], by simp [lget, i5], by simp [lget, i6], by rw [List.getElem?_append_left (by omega)]⟩
        unfold glob
        simp only [i7]
        rw [if_pos ⟨trivial, hnl⟩]
      · refine ⟨fb, B, L, tv, ov, tl, ol, ?_, Aft.refl B, k2, by rw [hB]; exact k3.set i4, k4, k5, k1, i5, i6, rfl⟩
        unfold glob
        simp only [k1]
        rw [if_pos trivial]
    have hHB2 := hHB.trans f2
    have hvB2 := hvB.aft f2
    have hSo := fun lim => run_setOf l hll hlm lim B v (by rw [show (l.map fun (i : Nat) => (i : Int)) = natI l from rfl]; exact hvB.sl)
    obtain ⟨A', tv', ov', tl', ol', q1, q2, q3, q4, q5, q6⟩ := run_fit x hok hdo H.length H B2 (Nat.le_refl _) hHB2 d t s r a b e tv ov h hsr (fb := fb) (by omega) tl ol f4 ⟨by omega, by omega⟩ (setM l) (by omega)
    have hA'l : A'[H.length + 1]? = some (.loop { coR T L H.length with st := 1, L := [] }) := q6 _ _ (by rw [f10, hBl]) (by omega) (fun w _ e => by cases e)
    have hA'n : A'[H.length]? = some (.rw 0 [.int .i64 x.reps.length]) := q6 _ _ (f2.ext' hBn) (by omega) (fun w _ e => by cases e)
    have keepR : ∀ (c : Nat) (cs : List Value), A[c]? = some (.rw 1 cs) → (∀ w : List Nat, w ≠ [] → cs ≠ u64s w) → ∀ z, (A'.set (H.length + 1) z)[c]? = some (.rw 1 cs) := fun c cs hc hw z => by
      have h1 : c ≠ H.length + 1 := by rintro rfl; rw [i4] at hc; cases hc
      have h2 : B2[c]? = some (.rw 1 cs) := f2.ext' (by rw [hB, List.getElem?_set_ne (Ne.symm h1), hc])
      have h3 : c ≠ fb := by rintro rfl; rw [f4.cell] at h2; cases h2
      rw [List.getElem?_set_ne (Ne.symm h1)]
      exact q6 c _ h2 h3 fun w hw' e => by injection e with _ e2; exact hw w hw' e2
    have hvA' : ∀ z, LstIn (A'.set (H.length + 1) z) v l := fun z => by
      rcases hv with h' | ⟨h1, b', h2', h3'⟩
      · exact .inl h'
      · exact .inr ⟨h1, b', h2', keepR _ _ h3' (fun w _ => natI_u64 h1) z⟩
    cases hft : fitM x (setM l) with
    | false =>
      rw [hft] at q1
      have key : ∃ s', exL Tryz.prog pf coBody ⟨(5, v) :: (13, v) :: T, L, B, H.length, some (H.length + 1)⟩ = some (.ret, s') ∧ s'.H = A' ∧ lget s'.L 2 = some (0, .cells [v]) ∧ lget s'.L 3 = some (0, .cells [.int .i64 0]) := by
        simp [-isU, -Value.cells, -oneC, oneC_int, isU_i, cells_i, huv, coBody, sf_fixes_search_contradiction, h2, h3, h4, hnv, hSo, f1, f8, f9, q1]
      obtain ⟨s', z1, z2, z3, z4⟩ := key
      have hy := yield_round (l := H.length + 1) (B := A) (r := coR T L H.length) (args := [v]) (lim := H.length) i4 rfl (Nat.le_refl _) (by omega) rfl ha (e := .ret) (s' := s') (by rw [← hB]; exact z1) (r2 := { coR T L H.length with st := 1, L := [] }) (by rw [z2, hA'l])
      rw [z2] at hy
      refine ⟨false, _, hy, fun c cs hc hw => keepR c cs hc hw _, (fun h => by cases h), fun _ => ⟨q2.set (by omega) _, s'.L, .inr ⟨v, l, ?_, ?_, z3, z4, hvA' _⟩⟩⟩
      · rw [List.getElem?_set_self (List.getElem?_eq_some_iff.1 hA'l).1]; rfl
      · unfold conflictM
        rw [← hR, List.find?_append]
        have hnone : P.find? (fun l => !fitM x (setM l)) = none := by
          rw [List.find?_eq_none]
          intro m hm
          simp [i3 m hm]
        rw [hnone, List.find?_cons, hft]
        rfl
    | true =>
      rw [hft] at q1
      have key : ∃ s', exL Tryz.prog pf coBody ⟨(5, v) :: (13, v) :: T, L, B, H.length, some (H.length + 1)⟩ = some (.normal, s') ∧ s'.H = A' ∧ lget s'.L 2 = some (0, .cells [c2]) ∧ lget s'.L 3 = some (0, .cells [c3]) ∧ lget s'.L 4 = some (0, .fwd fb) := by
        simp [-isU, -Value.cells, coBody, sf_fixes_search_contradiction, h2, h3, h4, hnv, hSo, f1, f7, f8, f9, q1]
      obtain ⟨s', z1, z2, z3, z4, z5⟩ := key
      have hy := yield_round (l := H.length + 1) (B := A) (r := coR T L H.length) (args := [v]) (lim := H.length) i4 rfl (Nat.le_refl _) (by omega) rfl ha (e := .normal) (s' := s') (by rw [← hB]; exact z1) (r2 := { coR T L H.length with st := 1, L := [] }) (by rw [z2, hA'l])
      rw [z2] at hy
      refine ⟨true, _, hy, fun c cs hc hw => keepR c cs hc hw _, (fun _ => ⟨q2.set (by omega) _, by rw [List.getElem?_set_ne (by omega), hA'n], fun m hm => ?_, s'.L, by rw [List.getElem?_set_self (List.getElem?_eq_some_iff.1 hA'l).1]; rfl, ⟨_, z3⟩, ⟨_, z4⟩, .inr ⟨fb, tv', ov', tl', ol', z5, f3, q3.set hA'l, by simp; omega, by simp; omega⟩⟩), fun h => by cases h⟩
      rcases List.mem_append.1 hm with h | h
      · exact i3 m h
      · simp at h; subst h; exact hft
  · obtain ⟨i1, i2, i3, L, i4, i5, i6, i7⟩ := hI
    refine ⟨i1, L, .inl ⟨i4, ?_, i5, i6⟩⟩
    unfold conflictM
    rw [List.find?_eq_none]
    intro m hm
    simp [i3 m hm]
end Go.Proofs.YtmdnpaboaelkeaaGreatDoor
namespace Go.Proofs.YtmdnpaboaelkeaaGreatDoor
open Go Go.RowKit
set_option maxHeartbeats 1000000 in
theorem run_contradiction (x : Ds) (hok : ChOk x.ch) (hdo : dsOk x = true) (lim : Nat) (H : AH) (d t s r a b e : Value) (h : DsIn H x d t s r) (hsr : SrIn H x (mayF x) a b e) :
    ∃ v A, apL Tryz.prog pf (.func (.func 64) #[] #[]) [srV x d t s r a b e] lim H = some (.tuple #[v, .int .i64 (match conflictM x with | some _ => 0 | none => 3)], A) ∧ Aft H A ∧ LstIn A v ((conflictM x).getD []) := by
  rw [apL_func _ _ _ _ _ _ (by rfl), sf_fixes_search_contradiction_eq]
  have hl12 := fx_reps hdo
  have h00 := h
  have hLi := fun lim => run_lists x.reps.length lim H
  simp only [lsV] at hLi
  obtain ⟨⟨⟨da, dc, ed, _⟩, ⟨ta, tc, et, _⟩, ⟨sa, sc, es, _⟩, _, htl, _⟩, ⟨ra, rc, er, _⟩, _⟩ := h
  obtain ⟨a1, a2, a3, ea⟩ := hsr.near.one
  obtain ⟨b1, b2, b3, eb⟩ := hsr.flo.one
  obtain ⟨e1, e2, e3, ee⟩ := hsr.unt.one
  simp [-oneC, oneC_slice, oneC_int, -Array.all_toList, sf_fixes_search_contradiction, srV, ed, et, es, er, ea, eb, ee, hLi, pf_pure, pureF]
  generalize hS : ({ t := _, L := _, H := _, lim := _, rd := _ } : St) = S
  have eH : S.H = H ++ [.rw 0 [.int .i64 x.reps.length]] := by subst hS; rfl
  have el : S.lim = H.length := by subst hS; rfl
  have eLen : S.H.length = H.length + 1 := by rw [eH]; simp
  have eHx : ∀ y : ABlk, S.H ++ [y] = H ++ [.rw 0 [.int .i64 x.reps.length], y] := fun y => by rw [eH, List.append_assoc]; rfl
  have t2 : tget S.t 2 = .pointer (some ⟨2, 0, some 0⟩) := by subst hS; simp
  have t3 : tget S.t 3 = .pointer (some ⟨3, 0, some 0⟩) := by subst hS; simp
  have t4 : tget S.t 4 = .pointer (some ⟨4, 0, some 0⟩) := by subst hS; simp
  obtain ⟨A', y1, y2, L, y3⟩ := run_ls x.reps.length H.length H.length hl12 (.func (.yield (H.length + 1)) #[] #[]) (by simp) _ _ (co_C x hok hdo H d t s r a b e h00 hsr S.t t2 t3 t4) (H ++ [.rw 0 [.int .i64 x.reps.length], .loop (coR S.t S.L H.length)])
    ⟨(Aft.refl H).push _, by rw [List.getElem?_append_right (Nat.le_refl _), Nat.sub_self]; rfl, by simp, S.L, get_last2 _ _ _, ⟨.slice none 0 0, by subst hS; simp⟩, ⟨.int .i64 0, by subst hS; simp⟩, .inl ⟨rfl, by subst hS; simp [sV, nilS, ed, et, es, er, ea, eb, ee]⟩⟩
  have hx := fun (r : ARec) (hr : A'[H.length + 1]? = some (.loop r)) (hst : r.st = 0 ∨ r.st = 2) => exL_range (f := .tmp 12) (ps := [13]) (asg := coAsg) (body := coBody) (S := S) (fv := lsV H.length) (by subst hS; simp [lsV]) (by simp [lsV]) rfl (by subst hS; rfl) (A' := A') (v := .tuple #[]) (r := r)
    (by rw [eLen, el, eHx]; exact y1) (by rw [eLen]; exact hr) hst
  simp only [coAsg, coBody, sf_fixes_search_contradiction] at hx
  rcases y3 with ⟨y3, y4, ⟨c2, y5⟩, ⟨c3, y6⟩⟩ | ⟨v, l, y3, y4, y5, y6, y7⟩
  · have hx := hx _ y3 (.inl rfl)
    rw [hx, y4]
    refine ⟨.slice none 0 0, H, ?_, Aft.refl H, .inl ⟨rfl, rfl⟩⟩
    simp [-isU, -Value.cells, -oneC, oneC_int, oneC_slice, isU_i, cells_i, isU_sl, cells_sl, coR, t2, t3, t4, y5, y6]
  · have hx := hx _ y3 (.inr rfl)
    rw [hx, y4]
    rcases y7 with ⟨h1, rfl⟩ | ⟨h1, b', rfl, h3⟩
    · refine ⟨.slice none 0 0, H, ?_, Aft.refl H, .inl ⟨by simp [h1], rfl⟩⟩
      simp [coR, t2, t3, t4, y5, y6]
    · refine ⟨.slice (some ⟨b', 0, none⟩) l.length (l.length + 1), A'.set (H.length + 1) .dead, ?_, y2.set (by omega) _, .inr ⟨by simpa using h1, b', rfl, ?_⟩⟩
      · simp [coR, t2, t3, t4, y5, y6, eLen]
      · have : H.length + 1 ≠ b' := by rintro rfl; rw [y3] at h3; cases h3
        rw [List.getElem?_set_ne this, h3]
        rfl
noncomputable def conflictD (x : Ds) : List Nat × Int := if dsE x = 0 then ((conflictM x).getD [], match conflictM x with | some _ => 0 | none => 3) else ([], dsE x)
set_option maxHeartbeats 1000000 in
theorem run_fConflict (x : Ds) (lim : Nat) (H : AH) (d t s r : Value) (h : DsIn H x d t s r) :
    ∃ v A, apL Tryz.prog pf (.func (.func 27) #[] #[]) [dsV x d t s r] lim H = some (.tuple #[v, .int .i64 (conflictD x).2], A) ∧ Aft H A ∧ LstIn A v (conflictD x).1 := by
  rw [apL_func _ _ _ _ _ _ (by rfl), sf_fixes_Conflict_eq]
  by_cases he : dsE x = 0
  rotate_left
  · have hO := fun lim => run_fopen_bad x lim H d t s r h (.slice none 0 0) (.slice none 0 0) oneS_nil oneS_nil he
    have hdd : conflictD x = ([], dsE x) := by simp [conflictD, he]
    rw [hdd]
    refine ⟨.slice none 0 0, H, ?_, Aft.refl H, .inl ⟨rfl, rfl⟩⟩
    have hne : (dsE x != 0) = true := by simpa using he
    obtain ⟨⟨⟨da, dc, ed, _⟩, ⟨ta, tc, et, _⟩, ⟨sa, sc, es, _⟩, _, htl, _⟩, ⟨ra, rc, er, _⟩, _⟩ := h
    simp only [dsV, srZ, nilS, ed, et, es, er] at hO
    generalize dsE x = z at *
    simp [sf_fixes_Conflict, dsV, ed, et, es, er, hO, hne, pf_pure, pureF]
  obtain ⟨hok, hdo⟩ := dsE_zero he
  obtain ⟨a, b, e, A, hO, hA, hsr⟩ := run_fopen x H.length H d t s r h (.slice none 0 0) (.slice none 0 0) [] [] (by simp) (by simp) Sl.nil Sl.nil he rfl rfl
  obtain ⟨v, F, hC, hF, hv⟩ := run_contradiction x hok hdo H.length A d t s r a b e (h.ext hA.ext) hsr
  have hdd : conflictD x = ((conflictM x).getD [], match conflictM x with | some _ => 0 | none => 3) := by simp [conflictD, he]
  rw [hdd]
  have oa := hsr.near.one
  have ob := hsr.flo.one
  have oe := hsr.unt.one
  obtain ⟨⟨⟨da, dc, ed, _⟩, ⟨ta, tc, et, _⟩, ⟨sa, sc, es, _⟩, _, htl, _⟩, ⟨ra, rc, er, _⟩, _⟩ := h
  obtain ⟨a1, a2, a3, ea⟩ := oa
  obtain ⟨b1, b2, b3, eb⟩ := ob
  obtain ⟨e1, e2, e3, ee⟩ := oe
  simp only [dsV, srV, ed, et, es, er, ea, eb, ee] at hO hC
  generalize (match conflictM x with | some _ => (0 : Int) | none => 3) = z at *
  generalize (conflictM x).getD [] = l at *
  rcases hv with ⟨h1, rfl⟩ | ⟨h1, b', rfl, h3⟩
  · refine ⟨.slice none 0 0, H, ?_, Aft.refl H, .inl ⟨h1, rfl⟩⟩
    simp [-oneC, oneC_slice, oneC_int, -Array.all_toList, sf_fixes_Conflict, dsV, ed, et, es, er, hO, hC, pf_pure, pureF]
  · refine ⟨_, F, ?_, hA.trans hF, .inr ⟨h1, b', rfl, h3⟩⟩
    simp [-oneC, oneC_slice, oneC_int, -Array.all_toList, sf_fixes_Conflict, dsV, ed, et, es, er, hO, hC, pf_pure, pureF]
end Go.Proofs.YtmdnpaboaelkeaaGreatDoor
namespace Go.Proofs.YtmdnpaboaelkeaaGreatDoor
open Go Go.RowKit
def exC : Ch := ⟨4, 3, [0, 0, -50, -90, 30, 20, 10, -20, 60, 60, 40, 30], [(10, 14), (20, 26), (30, 36), (20, 26), (10, 14)], [5, 5, 5, 5, 5]⟩
def exRs : List Rep := [⟨0, 1, 0, 1, 2, 0, 0, false, 2⟩, ⟨1, 2, 8, 1, -1, 1, 0, false, 4⟩, ⟨2, 3, 0, 2, 2, 0, 3, false, 1⟩]
def exR : Rep := ⟨1, 1, 11, 0, 0, 0, 0, false, 3⟩
def exD : Ds := ⟨exC, 5, 1, exRs⟩
def exD2 : Ds := ⟨exC, 5, 1, exRs ++ [exR]⟩
theorem exC_ok : ChOk exC := by
  refine ⟨by decide, by decide, by decide, by decide, by decide, by decide, fun i h h' => ?_⟩
  have hi : i < 5 := h
  match i, hi with
  | 0, _ => exact (show tickOk (10, 14) 5 from by unfold tickOk; decide)
  | 1, _ => exact (show tickOk (20, 26) 5 from by unfold tickOk; decide)
  | 2, _ => exact (show tickOk (30, 36) 5 from by unfold tickOk; decide)
  | 3, _ => exact (show tickOk (20, 26) 5 from by unfold tickOk; decide)
  | 4, _ => exact (show tickOk (10, 14) 5 from by unfold tickOk; decide)
theorem exD_ok : dsOk exD = true := by decide +kernel
theorem exD2_ok : dsOk exD2 = true := by decide +kernel
theorem ex_course : courseM exD (mayF exD) (allP exD) 5 = [1, 5, 9, 4, 0] := by decide +kernel
theorem ex_least : leastM (backN exD (mayF exD) (allP exD) 5) 12 ≠ topN := by decide +kernel
theorem ex_doubt : leastM (backN exD2 (mayF exD2) (doubtP exD2) 5) 12 = 2 := by decide +kernel
theorem ex_conflict : conflictM exD2 = some [0, 3] := by decide +kernel
end Go.Proofs.YtmdnpaboaelkeaaGreatDoor
namespace Go.Proofs.YtmdnpaboaelkeaaGreatDoor
open Go Go.RowKit
theorem dsE_of {x : Ds} (h1 : ChOk x.ch) (h2 : dsOk x = true) : dsE x = 0 := by unfold dsE; rw [if_pos h1, if_pos h2]
theorem exD_c : courseD exD = ([1, 5, 9, 4, 0], 0) := by
  unfold courseD bestE
  rw [if_pos (dsE_of exC_ok exD_ok)]
  have h : exD.ch.ticks = 5 := rfl
  have h2 : exD.ch.cells = 12 := rfl
  rw [h, h2, if_neg ex_least, ex_course]
theorem exD2_c : conflictD exD2 = ([0, 3], 0) := by
  unfold conflictD
  rw [if_pos (dsE_of exC_ok exD2_ok), ex_conflict]
  rfl
theorem exD2_d : (doubtD exD2).1 = 2 ∧ (doubtD exD2).2.2 = 0 := by
  unfold doubtD bestE
  rw [if_pos (dsE_of exC_ok exD2_ok)]
  have h : exD2.ch.ticks = 5 := rfl
  have h2 : exD2.ch.cells = 12 := rfl
  rw [h, h2, ex_doubt]
  have h3 : ¬ (2 : Int) = topN := by decide
  rw [if_neg h3, if_neg h3]
  exact ⟨rfl, rfl⟩
theorem run_Ex1 (lim : Nat) (H : AH) : apL Tryz.prog pf (.func (.func 77) #[] #[]) [] lim H = some (chV exC (.slice (some ⟨H.length, 0, none⟩) 12 12) (.slice (some ⟨H.length + 1, 0, none⟩) 5 5) (.slice (some ⟨H.length + 2, 0, none⟩) 5 5), H ++ [.rw 1 (ints exC.depth), .rw 2 (spans exC.tide), .rw 1 (ints exC.swell)]) := by
  rw [apL_func _ _ _ _ _ _ (by rfl), sf_coblelaw01_Example_eq]
  simp [sf_coblelaw01_Example, chV, exC, ints, spans, pf_pure, pureF]
theorem run_Ex3 (lim : Nat) (H : AH) : apL Tryz.prog pf (.func (.func 42) #[] #[]) [] lim H = some (.tuple #[dsV exD (.slice (some ⟨H.length, 0, none⟩) 12 12) (.slice (some ⟨H.length + 1, 0, none⟩) 5 5) (.slice (some ⟨H.length + 2, 0, none⟩) 5 5) (.slice (some ⟨H.length + 3, 0, none⟩) 3 3), repV exR], H ++ [.rw 1 (ints exC.depth), .rw 2 (spans exC.tide), .rw 1 (ints exC.swell), .rw 9 (repsV exRs)]) := by
  rw [apL_func _ _ _ _ _ _ (by rfl), sf_coblelaw03_Example_eq]
  have h := fun lim => run_Ex1 lim H
  simp only [chV, exC] at h
  simp [sf_coblelaw03_Example, h, dsV, repV, exD, exC, exR, exRs, repsV, Rep.vals, pf_pure, pureF]
end Go.Proofs.YtmdnpaboaelkeaaGreatDoor
namespace Go.Proofs.YtmdnpaboaelkeaaGreatDoor
open Go Go.RowKit
theorem sl_rw {A : AH} {b e : Nat} {cs : List Value} {n k : Nat} (h : A[b]? = some (.rw e cs)) : Sl A (.slice (some ⟨b, 0, none⟩) n k) n cs :=
  ⟨_, _, rfl, fun j x hx => ⟨b, 0, rfl, by simp only [hcell, h, Nat.zero_add]; exact hx⟩⟩
set_option maxHeartbeats 4000000 in
theorem run_works (lim : Nat) (H : AH) (hG : H[bitsG]? = some (.ro bitsV)) : apL Tryz.prog pf (.func (.func 14) #[] #[]) [] lim H = some (.bool true, H) := by
  rw [apL_func _ _ _ _ _ _ (by rfl), sf_coblelaw03_works_eq]
  have hEx := fun lim => run_Ex3 lim H
  obtain ⟨H1, hH1⟩ : ∃ H1, H1 = H ++ [ABlk.rw 1 (ints exC.depth), ABlk.rw 2 (spans exC.tide), ABlk.rw 1 (ints exC.swell), ABlk.rw 9 (repsV exRs)] := ⟨_, rfl⟩
  have hA1 : Aft H H1 := by rw [hH1]; exact (Aft.refl H).push _
  have b0 : H1[H.length]? = some (.rw 1 (ints exC.depth)) := by rw [hH1, List.getElem?_append_right (Nat.le_refl _), Nat.sub_self]; rfl
  have b1 : H1[H.length + 1]? = some (.rw 2 (spans exC.tide)) := by rw [hH1, List.getElem?_append_right (by omega), Nat.add_sub_cancel_left]; rfl
  have b2 : H1[H.length + 2]? = some (.rw 1 (ints exC.swell)) := by rw [hH1, List.getElem?_append_right (by omega), Nat.add_sub_cancel_left]; rfl
  have b3 : H1[H.length + 3]? = some (.rw 9 (repsV exRs)) := by rw [hH1, List.getElem?_append_right (by omega), Nat.add_sub_cancel_left]; rfl
  have hch : ChIn H1 exC (.slice (some ⟨H.length, 0, none⟩) 12 12) (.slice (some ⟨H.length + 1, 0, none⟩) 5 5) (.slice (some ⟨H.length + 2, 0, none⟩) 5 5) := ⟨sl_rw b0, sl_rw b1, sl_rw b2, by decide, by decide, by decide⟩
  have hD1 : DsIn H1 exD (.slice (some ⟨H.length, 0, none⟩) 12 12) (.slice (some ⟨H.length + 1, 0, none⟩) 5 5) (.slice (some ⟨H.length + 2, 0, none⟩) 5 5) (.slice (some ⟨H.length + 3, 0, none⟩) 3 3) := ⟨hch, sl_rw b3, by decide⟩
  obtain ⟨v1, A1, hC1, hAA1, hO1⟩ := run_fCourse exD H.length H1 _ _ _ _ hD1
  rw [exD_c] at hC1 hO1
  obtain ⟨p1, rfl, hp1⟩ : ∃ p1, v1 = .slice (some ⟨p1, 0, none⟩) 5 6 ∧ A1[p1]? = some (.rw 1 (ints [1, 5, 9, 4, 0])) := by
    rcases hO1 with ⟨e, _⟩ | ⟨_, b, _, h2, h3⟩
    · cases e
    · exact ⟨b, h2, h3⟩
  have c3 : A1[H.length + 3]? = some (.rw 9 (repsV exRs)) := hAA1.ext' b3
  obtain ⟨A2, hA2⟩ : ∃ A2, A2 = A1 ++ [ABlk.rw 9 exR.vals, ABlk.rw 9 (repsV (exRs ++ [exR]))] := ⟨_, rfl⟩
  have hAA2 : Aft A1 A2 := by rw [hA2]; exact (Aft.refl A1).push _
  have d4 : A2[A1.length + 1]? = some (.rw 9 (repsV (exRs ++ [exR]))) := by rw [hA2, List.getElem?_append_right (by omega), Nat.add_sub_cancel_left]; rfl
  have hD2 : DsIn A2 exD2 (.slice (some ⟨H.length, 0, none⟩) 12 12) (.slice (some ⟨H.length + 1, 0, none⟩) 5 5) (.slice (some ⟨H.length + 2, 0, none⟩) 5 5) (.slice (some ⟨A1.length + 1, 0, none⟩) 4 5) := ⟨hch.ext (hAA1.trans hAA2).ext, sl_rw d4, by decide⟩
  obtain ⟨v2, A3, hC2, hAA3, hO2⟩ := run_fConflict exD2 H.length A2 _ _ _ _ hD2
  rw [exD2_c] at hC2 hO2
  obtain ⟨p2, rfl, hp2⟩ : ∃ p2, v2 = .slice (some ⟨p2, 0, none⟩) 2 3 ∧ A3[p2]? = some (.rw 1 (ints [0, 3])) := by
    rcases hO2 with ⟨e, _⟩ | ⟨_, b, h2, h3⟩
    · cases e
    · exact ⟨b, h2, h3⟩
  have hHA3 := ((hA1.trans hAA1).trans hAA2).trans hAA3
  obtain ⟨v3, A4, hC3, hAA4, hO3⟩ := run_fDoubt exD2 H.length A3 (hHA3.ext _ _ hG) _ _ _ _ (hD2.ext hAA3.ext)
  obtain ⟨hd1, hd2⟩ := exD2_d
  rw [hd1, hd2] at hC3
  obtain ⟨xa, xn, xc, rfl, hv3⟩ : ∃ xa xn xc, v3 = .slice xa xn xc ∧ nl v3 = true := by
    rcases hO3 with ⟨_, rfl⟩ | ⟨_, b, _, rfl, _⟩
    · exact ⟨_, _, _, rfl, by simp⟩
    · exact ⟨_, _, _, rfl, by simp⟩
  have q1 : A4[p1]? = some (.rw 1 (ints [1, 5, 9, 4, 0])) := (hAA2.trans (hAA3.trans hAA4)).ext' hp1
  have q2 : A4[p2]? = some (.rw 1 (ints [0, 3])) := hAA4.ext' hp2
  have hs1 := fun lim => run_sameInts3 [1, 5, 9, 4, 0] [1, 5, 9, 4, 0] (by decide) lim (A4 ++ [.rw 1 (ints [1, 5, 9, 4, 0])]) (.slice (some ⟨p1, 0, none⟩) 5 6) (.slice (some ⟨A4.length, 0, none⟩) 5 5) (Sl.made (own_get q1 _) rfl) (Sl.made (by rw [List.getElem?_append_right (Nat.le_refl _), Nat.sub_self]; rfl) rfl)
  have hs2 := fun lim => run_sameInts3 [0, 3] [0, 3] (by decide) lim (A4 ++ [.rw 1 (ints [1, 5, 9, 4, 0]), .rw 1 (ints [0, 3])]) (.slice (some ⟨p2, 0, none⟩) 2 3) (.slice (some ⟨A4.length + 1, 0, none⟩) 2 2) (Sl.made (own_get q2 _) rfl) (Sl.made (by rw [List.getElem?_append_right (by omega), Nat.add_sub_cancel_left]; rfl) rfl)
  have c3X : ∀ y : AH, (A1 ++ y)[H.length + 3]? = some (.rw 9 (repsV exRs)) := fun y => own_get c3 y
  have hrs : repsV exRs = [Value.int .i64 0, Value.int .i64 1, Value.int .i64 0, Value.int .i64 1, Value.int .i64 2, Value.int .i64 0, Value.int .i64 0, .bool false, Value.int .i64 2, Value.int .i64 1, Value.int .i64 2, Value.int .i64 8, Value.int .i64 1, Value.int .i64 (-1), Value.int .i64 1, Value.int .i64 0, .bool false, Value.int .i64 4, Value.int .i64 2, Value.int .i64 3, Value.int .i64 0, Value.int .i64 2, Value.int .i64 2, Value.int .i64 0, Value.int .i64 3, .bool false, Value.int .i64 1] := rfl
  have hrv : repsV (exRs ++ [exR]) = repsV exRs ++ exR.vals := by simp [repsV]
  have hvals : exR.vals = [Value.int .i64 1, .int .i64 1, .int .i64 11, .int .i64 0, .int .i64 0, .int .i64 0, .int .i64 0, .bool false, .int .i64 3] := rfl
  have hm4 : 4 ≤ maxA := by decide
  rw [hrv, hvals, hrs] at hA2
  rw [← hH1] at hEx
  rw [hA2] at hC2
  simp only [hrs] at c3 c3X
  simp only [dsV, repV, exD, exD2, exC, exR, List.cons_append, List.nil_append] at hEx hC1 hC2 hC3
  simp only [ints, List.map_cons, List.map_nil] at hs1 hs2
  simp [-oneC, oneC_int, oneC_slice, sf_coblelaw03_works, hEx, hC1, c3, c3X, hm4, hC2, hC3, hs1, hs2, hv3, oneC_bool, pf_pure, pureF]
end Go.Proofs.YtmdnpaboaelkeaaGreatDoor
namespace Go.Proofs.YtmdnpaboaelkeaaGreatDoor
open Go Go.RowKit
theorem ownA_slice {n0 : Nat} {A : AH} {v : Value} {l : List Int} (h : OwnA n0 A v l) : ∃ a c, v = .slice a l.length c ∧ nl v = true := by
  rcases h with ⟨rfl, rfl⟩ | ⟨_, b, _, rfl, _⟩
  · exact ⟨_, _, rfl, by simp⟩
  · exact ⟨_, _, rfl, by simp⟩
end Go.Proofs.YtmdnpaboaelkeaaGreatDoor
namespace Go.Proofs.YtmdnpaboaelkeaaGreatDoor
open Go Go.RowKit
theorem dbGo_own (x : Ds) (k i : Nat) : ∀ (l : List Rep) (m : Nat), x.reps.drop m = l → ∀ n : Int,
    min topN (ownGo x.ch.w i k l (List.replicate l.length true) (l.map (·.sure)) n) = min topN (dbGo x ((List.range' m l.length).filter (denyB x k i)) n)
  | [], m, _, n => rfl
  | q :: l, m, h, n => by
    have hq : x.reps[m]? = some q := by
      have : (x.reps.drop m)[0]? = some q := by rw [h]; rfl
      simpa using this
    have ih := dbGo_own x k i l (m + 1) (by rw [← List.drop_drop, h]; rfl)
    have hd : denyB x k i m = (q.tick == (k : Int) && !holdsM x.ch.w q i) := by
      unfold denyB
      rw [hq]
      rfl
    have hT : topN = 1201 := rfl
    have hN : neverR = 1073741824 := rfl
    rw [List.length_cons, List.replicate_succ, List.map_cons, List.range'_succ, List.filter_cons, hd]
    unfold ownGo
    rw [Bool.true_and]
    cases hc : (q.tick == (k : Int) && !holdsM x.ch.w q i) with
    | false =>
      simp only [Bool.false_eq_true, if_false]
      exact ih n
    | true =>
      simp only [if_true]
      have e : dbGo x (m :: (List.range' (m + 1) l.length).filter (denyB x k i)) n = if q.sure then 1201 else dbGo x ((List.range' (m + 1) l.length).filter (denyB x k i)) (n + q.w) := by
        show (match x.reps[m]? with | some q => if q.sure then 1201 else dbGo x _ (n + q.w) | none => n) = _
        rw [hq]
      rw [e]
      cases q.sure with
      | true => simp only [if_true]; omega
      | false => simp only [Bool.false_eq_true, if_false]; exact ih (n + q.w)
theorem membL_deny (x : Ds) (k i : Nat) (h : x.reps.length ≤ 12) : membL (denyM x k i x.reps.length) = (List.range' 0 x.reps.length).filter (denyB x k i) := by
  obtain ⟨b, hb⟩ : ∃ b, 12 = x.reps.length + b := ⟨12 - x.reps.length, by omega⟩
  unfold membL
  rw [hb, List.range_add, List.filter_append, ← List.range_eq_range']
  have h1 : (List.range x.reps.length).filter (fun j => (denyM x k i x.reps.length).testBit j) = (List.range x.reps.length).filter (denyB x k i) :=
    List.filter_congr fun j hj => by rw [deny_bit, decide_eq_true (List.mem_range.1 hj), Bool.true_and]
  have h2 : ((List.range b).map (x.reps.length + ·)).filter (fun j => (denyM x k i x.reps.length).testBit j) = [] := by
    rw [List.filter_eq_nil_iff]
    intro j hj
    obtain ⟨z, _, rfl⟩ := List.mem_map.1 hj
    rw [deny_bit, decide_eq_false (by omega), Bool.false_and]
    simp
  rw [h1, h2, List.append_nil]
theorem agree_doubt {x : Ds} (hdo : dsOk x = true) : Agree x (mayF x) (doubtP x) (fun i k => ownM x (List.replicate x.reps.length true) (suresM x) i k) := by
  intro k i hk hi
  have hb := doubt_bound hdo k i
  have ho := ownM_bound hdo (List.replicate x.reps.length true) (suresM x) i k
  have hT : topN = 1201 := rfl
  have hN : neverR = 1073741824 := rfl
  refine ⟨hb.1, ho.1, ho.2, ?_⟩
  have key := dbGo_own x k i x.reps 0 rfl 0
  rw [← membL_deny x k i (fx_reps hdo)] at key
  show (if x.ch.may x.g i k = true then min topN (doubtP x k i) else topN) = min topN (ownM x (List.replicate x.reps.length true) (suresM x) i k)
  clear ho
  unfold ownM
  cases hm : x.ch.may x.g i k with
  | false => simp only [Bool.false_eq_true, if_false]; omega
  | true =>
    simp only [if_true]
    exact key.symm
set_option maxHeartbeats 1000000 in
theorem run_rDoubt (x : Ds) (lim : Nat) (H : AH) (d t s r : Value) (h : DsIn H x d t s r) :
    ∃ v A, apL Tryz.prog pf (.func (.func 24) #[] #[]) [dsV x d t s r] lim H = some (.tuple #[.int .i64 (doubtD x).1, v, .int .i64 (doubtD x).2.2], A) ∧ Aft H A ∧ OwnA H.length A v (doubtD x).2.1 := by
  rw [apL_func _ _ _ _ _ _ (by rfl), sf_cobleref03_Doubt_eq]
  have hCk := fun lim => run_ref3Check x lim H d t s r h
  by_cases he : dsE x = 0
  rotate_left
  · have hdd : doubtD x = (0, [], dsE x) := by simp [doubtD, he]
    rw [hdd]
    refine ⟨.slice none 0 0, H, ?_, Aft.refl H, .inl ⟨rfl, rfl⟩⟩
    have hne : (dsE x != 0) = true := by simpa using he
    obtain ⟨⟨⟨da, dc, ed, _⟩, ⟨ta, tc, et, _⟩, ⟨sa, sc, es, _⟩, _, htl, _⟩, ⟨ra, rc, er, _⟩, _⟩ := h
    simp only [dsV, ed, et, es, er] at hCk
    generalize dsE x = z at *
    simp [sf_cobleref03_Doubt, dsV, ed, et, es, er, hCk, hne, pf_pure, pureF]
  obtain ⟨hok, hdo⟩ := dsE_zero he
  have hl12 := fx_reps hdo
  have hE := fun lim => run_every x hl12 true lim H d t s r h
  obtain ⟨H1, hH1⟩ : ∃ H1, H1 = H ++ [ABlk.rw 1 (bools (List.replicate x.reps.length true))] := ⟨_, rfl⟩
  have hA1 : Aft H H1 := by rw [hH1]; exact (Aft.refl H).push _
  have hbl : (List.replicate x.reps.length true).length = x.reps.length := by simp
  have hsl : Sl H1 (.slice (some ⟨H.length, 0, none⟩) x.reps.length x.reps.length) (List.replicate x.reps.length true).length (bools (List.replicate x.reps.length true)) := by
    rw [hbl]
    exact ⟨_, _, rfl, fun j y hy => ⟨H.length, 0, rfl, by simp only [hcell, hH1, List.getElem?_append_right (Nat.le_refl _), Nat.sub_self, List.getElem?_cons_zero, Nat.zero_add]; exact hy⟩⟩
  have hml : (suresM x).length = x.reps.length := by simp [suresM]
  obtain ⟨sv, H2, hSu, hA2, hss⟩ := run_sures x hl12 H1.length H1 d t s r (h.ext hA1.ext)
  have hHH2 := hA1.trans hA2
  obtain ⟨hF1, hF2⟩ := run_first x hok hdo H.length H2 d t s r _ sv (h.ext hHH2.ext) (List.replicate x.reps.length true) (suresM x) hbl hml (hsl.ext hA2.ext) hss
  have hag := agree_doubt hdo
  have hcut := least_cut hok hdo hag
  have hsm := least_small hok hdo (List.replicate x.reps.length true) (suresM x)
  have hN : neverR = 1073741824 := rfl
  have hT : topN = 1201 := rfl
  have hdd : doubtD x = ((if leastM (backN x (mayF x) (doubtP x) x.ch.ticks) x.ch.cells = topN then 0 else leastM (backN x (mayF x) (doubtP x) x.ch.ticks) x.ch.cells), bestE x (mayF x) (doubtP x)) := by simp [doubtD, he]
  rw [hdd]
  unfold bestE
  have hl1 : H1.length = H.length + 1 := by rw [hH1]; simp
  rw [hl1, hH1] at hSu
  have hwb := walk_best hok hdo hag
  obtain ⟨⟨⟨da, dc, ed, _⟩, ⟨ta, tc, et, _⟩, ⟨sa, sc, es, _⟩, _, htl, _⟩, ⟨ra, rc, er, _⟩, _⟩ := h
  obtain ⟨va, vc, ev, _⟩ := hss
  simp only [dsV, ed, et, es, er, ev, hml] at hCk hE hF1 hF2 hSu
  rw [he] at hCk
  generalize leastM (rowAt x (List.replicate x.reps.length true) (suresM x) 0) x.ch.cells = D at *
  by_cases hm : leastM (backN x (mayF x) (doubtP x) x.ch.ticks) x.ch.cells = topN
  · simp only [if_pos hm]
    have hF := hF1 (by omega)
    refine ⟨.slice none 0 0, H, ?_, Aft.refl H, .inl ⟨rfl, rfl⟩⟩
    simp [sf_cobleref03_Doubt, dsV, ed, et, es, er, hCk, hE, hSu, hF, hN, pf_pure, pureF]
  · simp only [if_neg hm]
    have hD : D < topN := by omega
    have hDe : leastM (backN x (mayF x) (doubtP x) x.ch.ticks) x.ch.cells = D := by omega
    rw [hDe]
    obtain ⟨hW, hW0⟩ := hwb hD
    obtain ⟨v, A, hF, hA, hO⟩ := hF2 (by omega) _ _ hW hW0
    have hHA : Aft H A := hHH2.trans hA
    have hdn : ¬ (1073741824 : Int) ≤ D := by omega
    rcases hO with ⟨z1, rfl⟩ | ⟨z1, b', z2, rfl, z3⟩
    · exfalso
      have := upC_len (cP x (mayF x) (doubtP x)) x.ch.ticks
      rw [z1] at this
      have := hok.2.2.2.1.1
      simp [Ch.ticks] at *
      omega
    · refine ⟨_, A, ?_, hHA, .inr ⟨z1, b', Nat.le_trans hHH2.le z2, rfl, z3⟩⟩
      simp [sf_cobleref03_Doubt, dsV, ed, et, es, er, hCk, hE, hSu, hF, hdn, upC_len, courseM_len, pf_pure, pureF]
end Go.Proofs.YtmdnpaboaelkeaaGreatDoor
namespace Go.Proofs.YtmdnpaboaelkeaaGreatDoor
open Go Go.RowKit
def dbtB (q : Int) : Bool := decide (0 ≤ q) && decide (q ≤ 1200)
noncomputable def withinD (x : Ds) (k q : Int) : List Int × Int :=
  if dsE x = 0 then (if inN x.ticks k = true ∧ dbtB q = true then (withM x (mayF x) (doubtP x) k.toNat q, 0) else ([], 1)) else ([], dsE x)
set_option maxHeartbeats 1000000 in
theorem run_rWithin (x : Ds) (lim : Nat) (H : AH) (d t s r : Value) (h : DsIn H x d t s r) (k q : Int) :
    ∃ v A, apL Tryz.prog pf (.func (.func 26) #[] #[]) [dsV x d t s r, .int .i64 k, .int .i64 q] lim H = some (.tuple #[v, .int .i64 (withinD x k q).2], A) ∧ Aft H A ∧ OwnA H.length A v (withinD x k q).1 := by
  rw [apL_func _ _ _ _ _ _ (by rfl), sf_cobleref03_Within_eq]
  have hCk := fun lim => run_check x lim H d t s r h k 0
  by_cases hce : chE x k 0 = 0
  rotate_left
  · have hwd : withinD x k q = ([], chE x k 0) := by
      unfold chE at hce ⊢
      unfold withinD
      by_cases he : dsE x = 0
      · rw [if_pos he] at hce ⊢
        rw [if_pos he]
        have hc0 : inN x.cells 0 = true := inN_iff.2 ⟨0, (dsE_zero he).1.pos.1, rfl⟩
        rw [hc0] at hce ⊢
        by_cases hk : inN x.ticks k = true
        · rw [hk] at hce; simp at hce
        · have hk' : inN x.ticks k = false := by simpa using hk
          rw [hk']; simp
      · rw [if_neg he, if_neg he]
    rw [hwd]
    refine ⟨.slice none 0 0, H, ?_, Aft.refl H, .inl ⟨rfl, rfl⟩⟩
    have hne : (chE x k 0 != 0) = true := by simpa using hce
    obtain ⟨⟨⟨da, dc, ed, _⟩, ⟨ta, tc, et, _⟩, ⟨sa, sc, es, _⟩, _, htl, _⟩, ⟨ra, rc, er, _⟩, _⟩ := h
    simp only [dsV, ed, et, es, er] at hCk
    generalize chE x k 0 = z at *
    simp [sf_cobleref03_Within, dsV, ed, et, es, er, hCk, hne, pf_pure, pureF]
  obtain ⟨he, hk⟩ : dsE x = 0 ∧ inN x.ticks k = true := by
    unfold chE at hce
    by_cases he : dsE x = 0
    · rw [if_pos he] at hce
      refine ⟨he, ?_⟩
      by_cases hk : inN x.ticks k = true
      · exact hk
      · have hk' : inN x.ticks k = false := by simpa using hk
        rw [hk'] at hce; simp at hce
    · rw [if_neg he] at hce; exact absurd hce he
  rw [hce] at hCk
  by_cases hq : dbtB q = true
  rotate_left
  · have hwd : withinD x k q = ([], 1) := by simp [withinD, he, hq]
    rw [hwd]
    refine ⟨.slice none 0 0, H, ?_, Aft.refl H, .inl ⟨rfl, rfl⟩⟩
    have hq' : (decide (0 ≤ q) && decide (q ≤ 1200)) = false := by simpa [dbtB] using hq
    have hF := fun lim => run_from3 q 0 1200 lim H
    rw [hq'] at hF
    obtain ⟨⟨⟨da, dc, ed, _⟩, ⟨ta, tc, et, _⟩, ⟨sa, sc, es, _⟩, _, htl, _⟩, ⟨ra, rc, er, _⟩, _⟩ := h
    simp only [dsV, ed, et, es, er] at hCk
    simp [-run_from3, sf_cobleref03_Within, dsV, ed, et, es, er, hCk, hF, pf_pure, pureF]
  have hq' : (decide (0 ≤ q) && decide (q ≤ 1200)) = true := hq
  have hq2 : q ≤ 1200 := by simp at hq'; omega
  have hFr := fun lim => run_from3 q 0 1200 lim H
  rw [hq'] at hFr
  obtain ⟨j, hj, rfl⟩ := inN_iff.1 hk
  obtain ⟨hok, hdo⟩ := dsE_zero he
  have hl12 := fx_reps hdo
  obtain ⟨m, H1, hM, hH1, hm⟩ := run_Map x.ch hok H.length H d t s h.c
  have hE := fun lim => run_every x hl12 true lim H1 d t s r (h.ext hH1.ext)
  obtain ⟨H2, hH2⟩ : ∃ H2, H2 = H1 ++ [ABlk.rw 1 (bools (List.replicate x.reps.length true))] := ⟨_, rfl⟩
  have hA2 : Aft H1 H2 := by rw [hH2]; exact (Aft.refl H1).push _
  have hHH2 := hH1.trans hA2
  have hbl : (List.replicate x.reps.length true).length = x.reps.length := by simp
  have hsl : Sl H2 (.slice (some ⟨H1.length, 0, none⟩) x.reps.length x.reps.length) (List.replicate x.reps.length true).length (bools (List.replicate x.reps.length true)) := by
    rw [hbl]
    exact ⟨_, _, rfl, fun j y hy => ⟨H1.length, 0, rfl, by simp only [hcell, hH2, List.getElem?_append_right (Nat.le_refl _), Nat.sub_self, List.getElem?_cons_zero, Nat.zero_add]; exact hy⟩⟩
  have hml : (suresM x).length = x.reps.length := by simp [suresM]
  obtain ⟨sv, H3, hSu, hA3, hss⟩ := run_sures x hl12 H2.length H2 d t s r (h.ext hHH2.ext)
  have hHH3 := hHH2.trans hA3
  obtain ⟨lb, lc, H4, hTh, hH4, rv, r1, r2, r3⟩ := run_through x hok hdo H.length H3 d t s r m _ sv (h.ext hHH3.ext) (hm.ext (hA2.trans hA3).ext) (List.replicate x.reps.length true) (suresM x) hbl hml (hsl.ext hA3.ext) hss
  have hHH4 := hHH3.trans hH4
  obtain ⟨ob, o1, o2, o3⟩ := r3 j hj
  have htl2 := thrM_len x (List.replicate x.reps.length true) (suresM x) j
  obtain ⟨v, A, hAm, hA, hO⟩ := run_among (thrM x (List.replicate x.reps.length true) (suresM x) j) (by have := hok.pos.2; omega) q H.length H4 (.slice (some ⟨ob, 0, none⟩) x.ch.cells x.ch.cells) (Sl.made o3 htl2.symm)
  have hag := agree_doubt hdo
  have hO0 : ∀ i k, 0 ≤ ownM x (List.replicate x.reps.length true) (suresM x) i k := fun i k => (ownM_bound hdo _ _ i k).1
  have hW : withM x (mayF x) (doubtP x) j q = amongN (thrM x (List.replicate x.reps.length true) (suresM x) j) q (thrM x (List.replicate x.reps.length true) (suresM x) j).length :=
    those_among _ _ htl2 q fun i hi => within_eq (hops_self hdo) (hops_symm x) hag hO0 hj hi hq2
  rw [← hW] at hO
  have hwd : withinD x j q = (withM x (mayF x) (doubtP x) j q, 0) := by simp [withinD, he, hk, hq]
  rw [hwd]
  generalize withM x (mayF x) (doubtP x) j q = W at *
  obtain ⟨⟨⟨da, dc, ed, _⟩, ⟨ta, tc, et, _⟩, ⟨sa, sc, es, _⟩, _, htl, _⟩, ⟨ra, rc, er, _⟩, _⟩ := h
  obtain ⟨ma, mc, em⟩ : ∃ a c, m = .slice a x.ch.cells c := by
    obtain ⟨rv, _, ⟨a, c, e, _⟩, _⟩ := hm
    exact ⟨a, c, by rw [e]; simp [mapM]⟩
  obtain ⟨va, vc, ev, _⟩ := hss
  have hl2 : H2.length = H1.length + 1 := by rw [hH2]; simp
  rw [hl2, hH2] at hSu
  simp only [dsV, chV, ed, et, es, er, em, ev, hml] at hCk hE hM hTh hSu
  have hrvl : j < rv.length := by rw [r1]; exact hj
  have hj' : j < x.ch.ticks := hj
  have hrve : ∀ hh : j < rv.length, rv[j]'hh = .slice (some ⟨ob, 0, none⟩) x.ch.cells x.ch.cells := fun hh => by rw [List.getElem?_eq_getElem hh] at o2; exact Option.some.inj o2
  have hHA := hHH4.trans hA
  rcases hO with ⟨z1, rfl⟩ | ⟨z1, b', z2, rfl, z3⟩
  · refine ⟨.slice none 0 0, H, ?_, Aft.refl H, .inl ⟨z1, rfl⟩⟩
    simp [-run_from3, sf_cobleref03_Within, dsV, ed, et, es, er, hCk, hFr, hE, hM, hSu, hTh, hj', r2, hrvl, hrve, o2, hAm, pf_pure, pureF]
  · refine ⟨_, A, ?_, hHA, .inr ⟨z1, b', Nat.le_trans hHH4.le z2, rfl, z3⟩⟩
    simp [-run_from3, sf_cobleref03_Within, dsV, ed, et, es, er, hCk, hFr, hE, hM, hSu, hTh, hj', r2, hrvl, hrve, o2, hAm, pf_pure, pureF]
end Go.Proofs.YtmdnpaboaelkeaaGreatDoor
namespace Go.Proofs.YtmdnpaboaelkeaaGreatDoor
open Go Go.RowKit
set_option maxHeartbeats 1000000 in
theorem run_fWithin (x : Ds) (lim : Nat) (H : AH) (hG : H[bitsG]? = some (.ro bitsV)) (d t s r : Value) (h : DsIn H x d t s r) (k q : Int) :
    ∃ v A, apL Tryz.prog pf (.func (.func 25) #[] #[]) [dsV x d t s r, .int .i64 k, .int .i64 q] lim H = some (.tuple #[v, .int .i64 (withinD x k q).2], A) ∧ Aft H A ∧ OwnA H.length A v (withinD x k q).1 := by
  rw [apL_func _ _ _ _ _ _ (by rfl), sf_fixes_Within_eq]
  have h0 := h
  obtain ⟨H0, hH0⟩ : ∃ H0, H0 = H ++ [.rw 1 [.int .i64 k]] := ⟨_, rfl⟩
  have hHH0 : Aft H H0 := by rw [hH0]; exact (Aft.refl H).push _
  have hx0 := h.ext hHH0.ext
  have htv : Sl H0 (.slice (some ⟨H.length, 0, none⟩) 1 1) [k].length (ints [k]) := Sl.made (l := [k]) (by rw [hH0, List.getElem?_append_right (Nat.le_refl _), Nat.sub_self]; rfl) rfl
  by_cases he : dsE x = 0
  rotate_left
  · have hO := fun lim => run_fopen_bad x lim H0 d t s r hx0 (.slice (some ⟨H.length, 0, none⟩) 1 1) (.slice none 0 0) ⟨_, _, _, rfl⟩ oneS_nil he
    refine ⟨.slice none 0 0, H, ?_, Aft.refl H, .inl ⟨by simp [withinD, he], rfl⟩⟩
    have hne : (dsE x != 0) = true := by simpa using he
    obtain ⟨⟨⟨da, dc, ed, _⟩, ⟨ta, tc, et, _⟩, ⟨sa, sc, es, _⟩, _, htl, _⟩, ⟨ra, rc, er, _⟩, _⟩ := h
    simp only [dsV, srZ, nilS, ed, et, es, er] at hO
    rw [hH0] at hO
    have hd : (withinD x k q).2 = dsE x := by simp [withinD, he]
    rw [hd]
    generalize dsE x = z at *
    simp [sf_fixes_Within, dsV, ed, et, es, er, hO, hne, pf_pure, pureF]
  by_cases hk : inN x.ticks k = true
  rotate_left
  · have hk' : inN x.ticks k = false := by simpa using hk
    have hO := fun lim => run_fopen_arg x lim H0 d t s r hx0 (.slice (some ⟨H.length, 0, none⟩) 1 1) (.slice none 0 0) [k] [] (by simp) (by simp) htv Sl.nil he (by simp [hk'])
    refine ⟨.slice none 0 0, H, ?_, Aft.refl H, .inl ⟨by simp [withinD, he, hk'], rfl⟩⟩
    obtain ⟨⟨⟨da, dc, ed, _⟩, ⟨ta, tc, et, _⟩, ⟨sa, sc, es, _⟩, _, htl, _⟩, ⟨ra, rc, er, _⟩, _⟩ := h
    simp only [dsV, srZ, nilS, ed, et, es, er] at hO
    rw [hH0] at hO
    have hd : (withinD x k q).2 = 1 := by simp [withinD, he, hk']
    rw [hd]
    simp [sf_fixes_Within, dsV, ed, et, es, er, hO, pf_pure, pureF]
  obtain ⟨hok, hdo⟩ := dsE_zero he
  obtain ⟨j, hj, rfl⟩ := inN_iff.1 hk
  obtain ⟨a, b, e, A, hO, hA0, hsr⟩ := run_fopen x H.length H0 d t s r hx0 (.slice (some ⟨H.length, 0, none⟩) 1 1) (.slice none 0 0) [(j : Int)] [] (by simp) (by simp) htv Sl.nil he (by simp [hk]) rfl
  have hA := hHH0.trans hA0
  have hl12 := fx_reps hdo
  have hx := h.ext hA.ext
  have oa := hsr.near.one
  have ob := hsr.flo.one
  have oe := hsr.unt.one
  obtain ⟨A1, hA1⟩ : ∃ A1, A1 = A ++ [.rw 0 [.int .i64 0], .rw 0 [.int .i64 1200]] := ⟨_, rfl⟩
  have hAA1 : Aft A A1 := by rw [hA1]; exact (Aft.refl A).push _
  have hHA1 := hA.trans hAA1
  have hBt := fun lim => run_between 0 1200 lim A
  have hBx := fun lim => ext_between A 0 1200 q lim
  rw [← hA1] at hBt hBx
  by_cases hq : dbtB q = true
  rotate_left
  · have hq' : (decide (0 ≤ q) && decide (q ≤ 1200)) = false := by simpa [dbtB] using hq
    have hwd : withinD x j q = ([], 1) := by simp [withinD, he, hq]
    rw [hwd]
    rw [hq'] at hBx
    refine ⟨.slice none 0 0, H, ?_, Aft.refl H, .inl ⟨rfl, rfl⟩⟩
    obtain ⟨⟨⟨da, dc, ed, _⟩, ⟨ta, tc, et, _⟩, ⟨sa, sc, es, _⟩, _, htl, _⟩, ⟨ra, rc, er, _⟩, _⟩ := h
    obtain ⟨a1, a2, a3, ea⟩ := oa
    obtain ⟨b1, b2, b3, eb⟩ := ob
    obtain ⟨e1, e2, e3, ee⟩ := oe
    simp only [dsV, srV, betweenV, ed, et, es, er, ea, eb, ee] at hO hBt hBx
    rw [hH0] at hO
    simp [sf_fixes_Within, dsV, ed, et, es, er, hO, hBt, hBx, pf_pure, pureF]
  have hq' : (decide (0 ≤ q) && decide (q ≤ 1200)) = true := hq
  rw [hq'] at hBx
  have hpr := isPr_doubt x hdo A1 (hHA1.ext _ _ hG) d t s r a b e (h.ext hHA1.ext) (mayF x) (hsr.ext hAA1.ext)
  obtain ⟨v, F, hB, hF, hOw⟩ := run_swithin x hok hdo H.length A1 d t s r a b e _ (h.ext hHA1.ext) (mayF x) (hsr.ext hAA1.ext) (doubtP x) hpr (fun k i _ _ => doubt_bound hdo k i) (k := j) hj q
  have hwd : withinD x j q = (withM x (mayF x) (doubtP x) j q, 0) := by simp [withinD, he, hk, hq]
  have hap : withM x (mayF x) (doubtP x) j q = thoseN (fun i => withinB x (mayF x) (doubtP x) j q i.toNat) x.cells := rfl
  rw [← hap] at hOw
  rw [hwd]
  generalize withM x (mayF x) (doubtP x) j q = W at *
  obtain ⟨⟨⟨da, dc, ed, _⟩, ⟨ta, tc, et, _⟩, ⟨sa, sc, es, _⟩, _, htl, _⟩, ⟨ra, rc, er, _⟩, _⟩ := h
  obtain ⟨a1, a2, a3, ea⟩ := oa
  obtain ⟨b1, b2, b3, eb⟩ := ob
  obtain ⟨e1, e2, e3, ee⟩ := oe
  simp only [dsV, srV, doubtF, betweenV, ed, et, es, er, ea, eb, ee] at hO hB hBt hBx
  rw [hH0] at hO
  have hAF := hHA1.trans hF
  rcases hOw with ⟨z1, rfl⟩ | ⟨z1, b', z2, rfl, z3⟩
  · refine ⟨.slice none 0 0, H, ?_, Aft.refl H, .inl ⟨z1, rfl⟩⟩
    simp [-oneC, oneC_slice, oneC_int, -Array.all_toList, sf_fixes_Within, dsV, ed, et, es, er, hO, hBt, hBx, hB, pf_pure, pureF]
  · refine ⟨_, F, ?_, hAF, .inr ⟨z1, b', Nat.le_trans hHA1.le z2, rfl, z3⟩⟩
    simp [-oneC, oneC_slice, oneC_int, -Array.all_toList, sf_fixes_Within, dsV, ed, et, es, er, hO, hBt, hBx, hB, pf_pure, pureF]
end Go.Proofs.YtmdnpaboaelkeaaGreatDoor
namespace Go.Proofs.YtmdnpaboaelkeaaGreatDoor
open Go Go.RowKit
theorem within_len (x : Ds) (k q : Int) : (withinD x k q).1.length < 2 ^ 62 := by
  unfold withinD
  split
  · rename_i he
    split
    · have h1 := thoseN_len (fun i => withinB x (mayF x) (doubtP x) k.toNat q i.toNat) x.cells
      have h2 : x.cells ≤ 144 := (dsE_zero he).1.pos.2
      have h3 : (withM x (mayF x) (doubtP x) k.toNat q).length ≤ x.cells := h1
      show (withM x (mayF x) (doubtP x) k.toNat q).length < _
      omega
    · simp
  · simp
theorem doubt_len (x : Ds) : (doubtD x).2.1.length < 2 ^ 62 := by
  unfold doubtD bestE
  split
  · rename_i he
    simp only
    split
    · simp
    · have h1 := courseM_len x (mayF x) (doubtP x) x.ch.ticks
      have h2 : x.ch.ticks ≤ 60 := (dsE_zero he).1.2.2.2.1.2
      show (courseM x (mayF x) (doubtP x) x.ch.ticks).length < _
      omega
  · simp
open Classical in
set_option maxHeartbeats 4000000 in
theorem doubts_law (x : Ds) (lim : Nat) (H : AH) (hG : H[bitsG]? = some (.ro bitsV)) (d t s r : Value) (h : DsSl H x d t s r) (k q : Int) :
    apL Tryz.prog pf (.func (.func 4) #[] #[]) [dsV x d t s r, .int .i64 k, .int .i64 q] lim H = some (.bool true, H) := by
  rw [apL_func _ _ _ _ _ _ (by rfl), sf_coblelaw03_FixesDoubts_eq]
  have hV := fun lim => run_Vague x lim H d t s r h
  have h00 := h
  by_cases hv : Vg x
  · have hW := fun lim => run_works lim H hG
    obtain ⟨⟨⟨da, dc, ed, _⟩, ⟨ta, tc, et, _⟩, ⟨sa, sc, es, _⟩⟩, ⟨ra, rc, er, _⟩⟩ := h
    simp only [dsV, ed, et, es, er] at hV
    simp [sf_coblelaw03_FixesDoubts, dsV, ed, et, es, er, hV, hv, hW, pf_pure, pureF]
  have hf : ¬ Far x.ch := fun e => hv (.inl e)
  have hl : ¬ x.reps.length > 14 := fun e => hv (.inr (.inl e))
  have hD := h.near hf hl
  obtain ⟨d', t', s', r', hC, hD'⟩ := run_Copy3 x H.length H d t s r hD hf (by omega)
  obtain ⟨H1, hH1⟩ : ∃ H1, H1 = H ++ copyD x := ⟨_, rfl⟩
  rw [← hH1] at hC hD'
  have hA1 : Aft H H1 := by rw [hH1]; exact (Aft.refl H).push _
  obtain ⟨v1, B1, hw1, hB1, hO1⟩ := run_fDoubt x H.length H1 (hA1.ext _ _ hG) d' t' s' r' hD'
  have hHB1 := hA1.trans hB1
  obtain ⟨v2, B2, hw2, hB2, hO2⟩ := run_rDoubt x H.length B1 d t s r (hD.ext hHB1.ext)
  have hHB2 := hHB1.trans hB2
  obtain ⟨v3, B3, hw3, hB3, hO3⟩ := run_fWithin x H.length B2 (hHB2.ext _ _ hG) d' t' s' r' (hD'.ext (hB1.trans hB2).ext) k q
  have hHB3 := hHB2.trans hB3
  obtain ⟨v4, B4, hw4, hB4, hO4⟩ := run_rWithin x H.length B3 d t s r (hD.ext hHB3.ext) k q
  have hHB4 := hHB3.trans hB4
  have hS1 := fun lim => run_sameInts3 (doubtD x).2.1 (doubtD x).2.1 (doubt_len x) lim B4 v1 v2 (hO1.sl.ext (hB2.trans (hB3.trans hB4)).ext) (hO2.sl.ext (hB3.trans hB4).ext)
  have hS2 := fun lim => run_sameInts3 (withinD x k q).1 (withinD x k q).1 (within_len x k q) lim B4 v3 v4 (hO3.sl.ext hB4.ext) hO4.sl
  have hW := fun lim => run_works lim B4 (hHB4.ext _ _ hG)
  obtain ⟨a1, c1, e1, n1⟩ := ownA_slice hO1
  obtain ⟨a2, c2, e2, n2⟩ := ownA_slice hO2
  obtain ⟨a3, c3, e3, n3⟩ := ownA_slice hO3
  obtain ⟨a4, c4, e4, n4⟩ := ownA_slice hO4
  obtain ⟨⟨⟨da, dc, ed, _⟩, ⟨ta, tc, et, _⟩, ⟨sa, sc, es, _⟩⟩, ⟨ra, rc, er, _⟩⟩ := h
  obtain ⟨⟨⟨da', dc', ed', _⟩, ⟨ta', tc', et', _⟩, ⟨sa', sc', es', _⟩, _, _, _⟩, ⟨ra', rc', er', _⟩, _⟩ := hD'
  rw [e1] at hw1 hS1 n1
  rw [e2] at hw2 hS1 n2
  rw [e3] at hw3 hS2 n3
  rw [e4] at hw4 hS2 n4
  simp only [dsV, ed, et, es, er, ed', et', es', er'] at hV hC hw1 hw2 hw3 hw4
  generalize (withinD x k q).2 = z1 at *
  generalize (doubtD x).2.2 = z2 at *
  generalize (doubtD x).1 = z3 at *
  generalize (withinD x k q).1 = l1 at *
  generalize (doubtD x).2.1 = l2 at *
  simp [-oneC, oneC_slice, oneC_int, -Array.all_toList, -List.all_eq_false, sf_coblelaw03_FixesDoubts, dsV, ed, et, es, er, hV, hv, hC, hw1, hw2, hw3, hw4, hS1, hS2, hW, n1, n2, n3, n4, pf_pure, pureF]
end Go.Proofs.YtmdnpaboaelkeaaGreatDoor
namespace Go.Proofs.YtmdnpaboaelkeaaGreatDoor
open Go Go.RowKit
attribute [local irreducible] tyD
variable {H : Type}
def i64R (x : Int) : Prop := -9223372036854775808 ≤ x ∧ x < 9223372036854775808
theorem dInt {n : Nat} {d : DataW H} (h : tyD Tryz.prog (n + 1) 3 d) : ∃ i, i64R i ∧ ∀ k, absD d k = ([.int .i64 i], []) := by
  unfold tyD at h
  simp only [Tryz.underlying3] at h
  obtain ⟨i, rfl, hw⟩ := h
  refine ⟨i, ?_, fun k => rfl⟩
  simp only [Lit.wf, Bool.and_eq_true, decide_eq_true_eq] at hw
  have e1 : IntKind.i64.min = -9223372036854775808 := by decide
  have e2 : IntKind.i64.max = 9223372036854775807 := by decide
  unfold i64R
  omega
theorem dInts {n : Nat} : ∀ (ds : List (DataW H)) (_ : ∀ p ∈ ds, tyD Tryz.prog (n + 1) 3 p), ∃ l : List Int, l.length = ds.length ∧ (∀ x ∈ l, i64R x) ∧ ∀ k, absDs ds k = (ints l, [])
  | [], _ => ⟨[], rfl, by simp, fun k => rfl⟩
  | d :: ds, h => by
    obtain ⟨i, hr, hi⟩ := dInt (n := n) (h d (by simp))
    obtain ⟨l, hl, hx, hk⟩ := dInts (n := n) ds (fun p hp => h p (by simp [hp]))
    exact ⟨i :: l, by simp [hl], by simpa using ⟨hr, hx⟩, fun k => by simp [absDs, hi, hk, ints]⟩
theorem dSpan {n : Nat} {d : DataW H} (h : tyD Tryz.prog (n + 2) 53 d) : ∃ a b, i64R a ∧ i64R b ∧ ∀ k, absD d k = ([.int .i64 a, .int .i64 b], []) := by
  unfold tyD at h
  simp only [Tryz.underlying53] at h
  obtain ⟨parts, rfl, hp⟩ := h
  match parts, hp with
  | [x, y], hp =>
    obtain ⟨a, ra, ha⟩ := dInt (n := n) hp.1
    obtain ⟨b, rb, hb⟩ := dInt (n := n) hp.2.1
    exact ⟨a, b, ra, rb, fun k => by simp [absD, absDs, ha, hb]⟩
  | [], hp => exact hp.elim
  | [_], hp => exact hp.2.elim
  | _ :: _ :: _ :: _, hp => exact hp.2.2.elim
theorem dSpans {n : Nat} : ∀ (ds : List (DataW H)) (_ : ∀ p ∈ ds, tyD Tryz.prog (n + 2) 53 p), ∃ l : List (Int × Int), l.length = ds.length ∧ (∀ x ∈ l, i64R x.1 ∧ i64R x.2) ∧ ∀ k, absDs ds k = (spans l, [])
  | [], _ => ⟨[], rfl, by simp, fun k => rfl⟩
  | d :: ds, h => by
    obtain ⟨a, b, ra, rb, hi⟩ := dSpan (n := n) (h d (by simp))
    obtain ⟨l, hl, hx, hk⟩ := dSpans (n := n) ds (fun p hp => h p (by simp [hp]))
    exact ⟨(a, b) :: l, by simp [hl], fun x hx' => by
      rcases List.mem_cons.1 hx' with rfl | h'
      · exact ⟨ra, rb⟩
      · exact hx _ h', fun k => by simp [absDs, hi, hk, spans]⟩
def Lay (d : DataW H) (R : AH → List Value → Prop) : Prop := ∀ H0 : AH, R (H0 ++ (absD d H0.length).2) (absD d H0.length).1
def SlD (n : Nat) (cs : List Value) (A : AH) (vs : List Value) : Prop := ∃ v, vs = [v] ∧ Sl A v n cs
theorem SlD.of {ds : List (DataW H)} {sp : List (DataW H)} {cs : List Value} (h : ∀ k, absDs ds k = (cs, [])) : Lay (.slice ds sp) (SlD ds.length (if ds = [] then [] else cs)) := by
  intro H0
  match ds, h with
  | [], _ => exact ⟨_, rfl, none, 1, rfl, fun j x hx => by simp at hx⟩
  | d :: ds, h =>
    refine ⟨_, rfl, _, _, rfl, fun j x hx => ⟨H0.length, 0, rfl, ?_⟩⟩
    simp only [absD, h]
    simp only [hcell, Nat.zero_add, List.getElem?_append_right (Nat.le_refl _), Nat.sub_self, List.getElem?_cons_zero]
    simpa using hx
theorem dIntsS {n : Nat} {d : DataW H} (h : tyD Tryz.prog (n + 2) 22 d) : ∃ l : List Int, l.length ≤ maxLen ∧ (∀ x ∈ l, i64R x) ∧ Lay d (SlD l.length (ints l)) := by
  unfold tyD at h
  simp only [Tryz.underlying22] at h
  rcases h with rfl | ⟨elems, spare, rfl, hl, hp⟩
  · exact ⟨[], by simp, by simp, fun H0 => ⟨_, rfl, none, 1, rfl, fun j x hx => by simp [ints] at hx⟩⟩
  · obtain ⟨l, h1, h2, h3⟩ := dInts (n := n) elems hp
    refine ⟨l, by omega, h2, ?_⟩
    have := SlD.of (sp := spare) h3
    rw [h1]
    by_cases he : elems = []
    · subst he
      obtain rfl : l = [] := List.eq_nil_of_length_eq_zero h1
      simpa [ints] using this
    · simpa [he] using this
theorem dSpansS {n : Nat} {d : DataW H} (h : tyD Tryz.prog (n + 3) 23 d) : ∃ l : List (Int × Int), l.length ≤ maxLen ∧ (∀ x ∈ l, i64R x.1 ∧ i64R x.2) ∧ Lay d (SlD l.length (spans l)) := by
  unfold tyD at h
  simp only [Tryz.underlying23] at h
  rcases h with rfl | ⟨elems, spare, rfl, hl, hp⟩
  · exact ⟨[], by simp, by simp, fun H0 => ⟨_, rfl, none, 1, rfl, fun j x hx => by simp [spans] at hx⟩⟩
  · obtain ⟨l, h1, h2, h3⟩ := dSpans (n := n) elems hp
    refine ⟨l, by omega, h2, ?_⟩
    have := SlD.of (sp := spare) h3
    rw [h1]
    by_cases he : elems = []
    · subst he
      obtain rfl : l = [] := List.eq_nil_of_length_eq_zero h1
      simpa [spans] using this
    · simpa [he] using this
theorem dChart {n : Nat} {d : DataW H} (h : tyD Tryz.prog (n + 4) 25 d) : ∃ c : Ch, (i64R c.w ∧ i64R c.h) ∧ Lay d fun A vs => ∃ dd tt ss, vs = [.int .i64 c.w, .int .i64 c.h, dd, tt, ss] ∧ ChSl A c dd tt ss := by
  unfold tyD at h
  simp only [Tryz.underlying25] at h
  obtain ⟨parts, rfl, hp⟩ := h
  match parts, hp with
  | [x1, x2, x3, x4, x5], hp =>
    obtain ⟨w, rw, hw⟩ := dInt (n := n + 2) hp.1
    obtain ⟨hh, rh, hhh⟩ := dInt (n := n + 2) hp.2.1
    obtain ⟨dep, ld, _, kd⟩ := dIntsS (n := n + 1) hp.2.2.1
    obtain ⟨tid, lt, _, kt⟩ := dSpansS (n := n) hp.2.2.2.1
    obtain ⟨swe, ls, _, ks⟩ := dIntsS (n := n + 1) hp.2.2.2.2.1
    refine ⟨⟨w, hh, dep, tid, swe⟩, ⟨rw, rh⟩, fun H0 => ?_⟩
    obtain ⟨vd, ed, sd⟩ := kd H0
    obtain ⟨vt, et, st⟩ := kt (H0 ++ (absD x3 H0.length).2)
    obtain ⟨vs, es, ss⟩ := ks (H0 ++ (absD x3 H0.length).2 ++ (absD x4 (H0 ++ (absD x3 H0.length).2).length).2)
    simp only [List.length_append] at ed et es sd st ss
    refine ⟨vd, vt, vs, ?_, ?_⟩
    · simp only [absD, absDs, hw, hhh, List.nil_append, List.length_nil, Nat.add_zero, ed, et, List.length_append, es, List.append_nil, List.cons_append]
    · have e : H0 ++ (absD (DataW.agg [x1, x2, x3, x4, x5]) H0.length).2 = H0 ++ (absD x3 H0.length).2 ++ (absD x4 (H0.length + (absD x3 H0.length).2.length)).2 ++ (absD x5 (H0.length + (absD x3 H0.length).2.length + (absD x4 (H0.length + (absD x3 H0.length).2.length)).2.length)).2 := by
        simp only [absD, absDs, hw, hhh, List.nil_append, List.length_nil, Nat.add_zero, List.append_nil, List.append_assoc]
      rw [e]
      have E : ∀ (X l : AH) {v : Value} {k : Nat} {cs : List Value}, Sl X v k cs → Sl (X ++ l) v k cs := fun X l v k cs h => by
        obtain ⟨a, c, e, hk⟩ := h
        refine ⟨a, c, e, fun j x hx => ?_⟩
        obtain ⟨b, o, e1, e2⟩ := hk j x hx
        refine ⟨b, o, e1, ?_⟩
        unfold hcell at e2 ⊢
        cases hb : X[b]? with
        | none => simp [hb] at e2
        | some y => rw [List.getElem?_append_left (List.getElem?_eq_some_iff.1 hb).1]; exact e2
      exact ⟨E _ _ (E _ _ sd), E _ _ st, ss⟩
  | [], hp => exact hp.elim
  | [_], hp => exact hp.2.elim
  | [_, _], hp => exact hp.2.2.elim
  | [_, _, _], hp => exact hp.2.2.2.elim
  | [_, _, _, _], hp => exact hp.2.2.2.2.elim
  | _ :: _ :: _ :: _ :: _ :: _ :: _, hp => exact hp.2.2.2.2.2.elim
end Go.Proofs.YtmdnpaboaelkeaaGreatDoor
namespace Go.Proofs.YtmdnpaboaelkeaaGreatDoor
open Go Go.RowKit
attribute [local irreducible] tyD
variable {H : Type}
theorem dBool {n : Nat} {d : DataW H} (h : tyD Tryz.prog (n + 1) 4 d) : ∃ b, ∀ k, absD d k = ([.bool b], []) := by
  unfold tyD at h
  simp only [Tryz.underlying4] at h
  obtain ⟨b, rfl⟩ := h
  exact ⟨b, fun k => rfl⟩
theorem dReport {n : Nat} {d : DataW H} (h : tyD Tryz.prog (n + 2) 44 d) : ∃ q : Rep, ∀ k, absD d k = (q.vals, []) := by
  unfold tyD at h
  simp only [Tryz.underlying44] at h
  obtain ⟨parts, rfl, hp⟩ := h
  match parts, hp with
  | [x1, x2, x3, x4, x5, x6, x7, x8, x9], hp =>
    obtain ⟨a1, _, h1⟩ := dInt (n := n) hp.1
    obtain ⟨a2, _, h2⟩ := dInt (n := n) hp.2.1
    obtain ⟨a3, _, h3⟩ := dInt (n := n) hp.2.2.1
    obtain ⟨a4, _, h4⟩ := dInt (n := n) hp.2.2.2.1
    obtain ⟨a5, _, h5⟩ := dInt (n := n) hp.2.2.2.2.1
    obtain ⟨a6, _, h6⟩ := dInt (n := n) hp.2.2.2.2.2.1
    obtain ⟨a7, _, h7⟩ := dInt (n := n) hp.2.2.2.2.2.2.1
    obtain ⟨a8, h8⟩ := dBool (n := n) hp.2.2.2.2.2.2.2.1
    obtain ⟨a9, _, h9⟩ := dInt (n := n) hp.2.2.2.2.2.2.2.2.1
    exact ⟨⟨a1, a2, a3, a4, a5, a6, a7, a8, a9⟩, fun k => by simp [absD, absDs, h1, h2, h3, h4, h5, h6, h7, h8, h9, Rep.vals]⟩
  | [], hp => exact hp.elim
  | [_], hp => exact hp.2.elim
  | [_, _], hp => exact hp.2.2.elim
  | [_, _, _], hp => exact hp.2.2.2.elim
  | [_, _, _, _], hp => exact hp.2.2.2.2.elim
  | [_, _, _, _, _], hp => exact hp.2.2.2.2.2.elim
  | [_, _, _, _, _, _], hp => exact hp.2.2.2.2.2.2.elim
  | [_, _, _, _, _, _, _], hp => exact hp.2.2.2.2.2.2.2.elim
  | [_, _, _, _, _, _, _, _], hp => exact hp.2.2.2.2.2.2.2.2.elim
  | _ :: _ :: _ :: _ :: _ :: _ :: _ :: _ :: _ :: _ :: _, hp => exact hp.2.2.2.2.2.2.2.2.2.elim
theorem dReports {n : Nat} : ∀ (ds : List (DataW H)) (_ : ∀ p ∈ ds, tyD Tryz.prog (n + 2) 44 p), ∃ l : List Rep, l.length = ds.length ∧ ∀ k, absDs ds k = (repsV l, [])
  | [], _ => ⟨[], rfl, fun k => rfl⟩
  | d :: ds, h => by
    obtain ⟨q, hi⟩ := dReport (n := n) (h d (by simp))
    obtain ⟨l, hl, hk⟩ := dReports (n := n) ds (fun p hp => h p (by simp [hp]))
    exact ⟨q :: l, by simp [hl], fun k => by simp [absDs, hi, hk, repsV]⟩
theorem dReportsS {n : Nat} {d : DataW H} (h : tyD Tryz.prog (n + 3) 26 d) : ∃ l : List Rep, l.length ≤ maxLen ∧ Lay d (SlD l.length (repsV l)) := by
  unfold tyD at h
  simp only [Tryz.underlying26] at h
  rcases h with rfl | ⟨elems, spare, rfl, hl, hp⟩
  · exact ⟨[], by simp, fun H0 => ⟨_, rfl, none, 1, rfl, fun j x hx => by simp [repsV] at hx⟩⟩
  · obtain ⟨l, h1, h3⟩ := dReports (n := n) elems hp
    refine ⟨l, by omega, ?_⟩
    have := SlD.of (sp := spare) h3
    rw [h1]
    by_cases he : elems = []
    · subst he
      obtain rfl : l = [] := List.eq_nil_of_length_eq_zero h1
      simpa [repsV] using this
    · simpa [he] using this
theorem dDistress {n : Nat} {d : DataW H} (h : tyD Tryz.prog (n + 5) 28 d) : ∃ x : Ds, Lay d fun A vs => ∃ dd tt ss rr, vs = [.int .i64 x.ch.w, .int .i64 x.ch.h, dd, tt, ss, .int .i64 x.g, .int .i64 x.pace, rr] ∧ DsSl A x dd tt ss rr := by
  unfold tyD at h
  simp only [Tryz.underlying28] at h
  obtain ⟨parts, rfl, hp⟩ := h
  match parts, hp with
  | [x1, x2, x3, x4], hp =>
    obtain ⟨c, _, hc⟩ := dChart (n := n) hp.1
    obtain ⟨g, _, hg⟩ := dInt (n := n + 3) hp.2.1
    obtain ⟨p, _, hpp⟩ := dInt (n := n + 3) hp.2.2.1
    obtain ⟨l, _, hl⟩ := dReportsS (n := n + 1) hp.2.2.2.1
    refine ⟨⟨c, g, p, l⟩, fun H0 => ?_⟩
    obtain ⟨dd, tt, ss, ec, sc⟩ := hc H0
    obtain ⟨rr, er, sr⟩ := hl (H0 ++ (absD x1 H0.length).2)
    simp only [List.length_append] at er sr
    refine ⟨dd, tt, ss, rr, ?_, ?_⟩
    · simp only [absD, absDs, hg, hpp, ec, er, List.nil_append, List.length_nil, Nat.add_zero, List.append_nil, List.cons_append]
    · have e : H0 ++ (absD (DataW.agg [x1, x2, x3, x4]) H0.length).2 = H0 ++ (absD x1 H0.length).2 ++ (absD x4 (H0.length + (absD x1 H0.length).2.length)).2 := by
        simp only [absD, absDs, hg, hpp, List.nil_append, List.length_nil, Nat.add_zero, List.append_nil, List.append_assoc]
      rw [e]
      exact ⟨⟨sc.d.ext (Ext.push _ _), sc.t.ext (Ext.push _ _), sc.s.ext (Ext.push _ _)⟩, sr⟩
  | [], hp => exact hp.elim
  | [_], hp => exact hp.2.elim
  | [_, _], hp => exact hp.2.2.elim
  | [_, _, _], hp => exact hp.2.2.2.elim
  | _ :: _ :: _ :: _ :: _ :: _, hp => exact hp.2.2.2.2.elim
end Go.Proofs.YtmdnpaboaelkeaaGreatDoor
namespace Go.Proofs.YtmdnpaboaelkeaaGreatDoor
open Go Go.RowKit
attribute [local irreducible] tyD
variable {H : Type}
theorem globB : (globH Tryz.prog tabs)[bitsG]? = some (.ro bitsV) := by
  have hg : bitsG < Tryz.prog.globals.size := by decide +kernel
  rw [globH, List.getElem?_map, List.getElem?_range hg]
  rfl
theorem hB_ext {A : AH} (l : AH) (hG : A[bitsG]? = some (.ro bitsV)) : (A ++ l)[bitsG]? = some (.ro bitsV) := Ext.push A l _ _ hG
end Go.Proofs.YtmdnpaboaelkeaaGreatDoor
namespace Go.Proofs.YtmdnpaboaelkeaaGreatDoor
open Go Go.RowKit
attribute [local irreducible] tyD
variable {H : Type}
theorem fixesDoubts_true (ds : List (DataW H)) (h : All2 (tyD Tryz.prog 5) [28, 3, 3] ds) : ∃ H', apL Tryz.prog pf (.func (.func 4) #[] #[]) (absVs Tryz.prog [28, 3, 3] ds Tryz.prog.globals.size).1 0 (globH Tryz.prog tabs ++ (absVs Tryz.prog [28, 3, 3] ds Tryz.prog.globals.size).2) = some (.bool true, H') := by
  match ds, h with
  | [x, y, z], h =>
    obtain ⟨c, hc⟩ := dDistress (n := 0) h.1
    obtain ⟨a, _, ha⟩ := dInt (n := 4) h.2.1
    obtain ⟨b, _, hb⟩ := dInt (n := 4) h.2.2.1
    obtain ⟨dd, tt, ss, rr, e, hS⟩ := hc (globH Tryz.prog tabs)
    rw [show (globH Tryz.prog tabs).length = Tryz.prog.globals.size by simp [globH]] at e hS
    have hG := hB_ext (absD x Tryz.prog.globals.size).2 globB
    have ev : (absVs Tryz.prog [28, 3, 3] [x, y, z] Tryz.prog.globals.size) = ([dsV c dd tt ss rr, .int .i64 a, .int .i64 b], (absD x Tryz.prog.globals.size).2) := by
      simp only [absVs, ha, hb, e, List.append_nil]
      have a1 : isAggT Tryz.prog 28 = true := by kernel_rfl
      have a2 : isAggT Tryz.prog 3 = false := by kernel_rfl
      simp only [absV, a1, a2, if_true]
      rfl
    rw [ev]
    exact ⟨_, doubts_law c 0 _ hG dd tt ss rr hS a b⟩
  | [], h => exact h.elim
  | [_], h => exact h.2.elim
  | [_, _], h => exact h.2.2.elim
  | _ :: _ :: _ :: _ :: _, h => exact h.2.2.2.elim
end Go.Proofs.YtmdnpaboaelkeaaGreatDoor
