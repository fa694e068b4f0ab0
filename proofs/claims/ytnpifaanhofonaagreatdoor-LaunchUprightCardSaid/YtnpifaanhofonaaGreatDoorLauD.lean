import Derived.Test.YtnpifaanhofonaaGreatDoorLauC
set_option linter.all false

/- Contracts of layer 5: the loop over all lists; the first one of which something is so. -/
namespace Go.Proofs.YtnpifaanhofonaaGreatDoor
open Go Go.RowKit

theorem lists_short {n : Nat} {P R : List (List Nat)} {l : List Nat} (h : P ++ l :: R = listsM n) : l.length ≤ n ∧ firstN l ≤ n ∧ ∀ i ∈ l, i < n := by
  have hl : l ∈ listsM n := by rw [← h]; simp
  obtain ⟨h1, h2⟩ := (lists_mem n l).1 hl
  have h3 := asc_first _ l rfl h1
  have h4 : firstN l ≤ n := by
    unfold firstN
    cases hx : l.getLast? with
    | none => simp
    | some j => have := h2 j (List.mem_of_getLast? hx); simp; omega
  exact ⟨by omega, h4, h2⟩

set_option maxHeartbeats 2000000 in
theorem run_ls (n nb lim : Nat) (hn12 : n ≤ 12) (fv : Value) (hn : nl fv = true) (Inv : List (List Nat) → AH → Prop) (Done : AH → Prop) (A : AH) (hnb : nb < A.length) (hlim : lim ≤ A.length) (hC : LsC n A.length nb lim fv Inv Done) (hI : Inv [] A) :
    ∃ A', apL Tryz.prog pf (lsV nb) [fv] lim A = some (.tuple #[], A') ∧ Done A' := by
  unfold lsV
  rw [apL_func _ _ _ _ _ _ (by rfl), sf_launch_lists_1_eq]
  simp [-oneC, oneC_slice, sf_launch_lists_1, pf_pure, pureF]
  generalize hS : ({ t := _, L := _, H := _, lim := _, rd := _ } : St) = S
  obtain ⟨n0, hn0⟩ : ∃ n0, n0 = A.length := ⟨_, rfl⟩
  rw [← hn0] at hC hnb hlim
  have hlen := lists_len n (by omega)
  have key : ∃ q, exL Tryz.prog pf (.loop liLoop0) S = some q ∧ ((q.1 = .exit 0 ∨ q.1 = .ret) ∧ Done q.2.H) := by
    refine loop_rule (I := fun m s' => ∃ P Q, m = (listsM n).length - P.length ∧ Bfs n P Q ∧ tget s'.t 0 = fv ∧ tget s'.t 1 = .pointer (some ⟨nb, 0, none⟩) ∧ s'.lim = lim ∧ n0 ≤ s'.H.length ∧ Inv P s'.H ∧ QIn n0 s'.H (tget s'.t 3) Q) ?_ ((listsM n).length) S
      ⟨[], [[]], by simp, bfs_start n, by subst hS; simp, by subst hS; simp, by subst hS; rfl, by subst hS; simp; omega, by subst hS; exact hC.add _ _ _ hI (by simp) fun c hc => by rw [List.getElem?_append_left (by omega)], .inr ⟨by simp, A.length, 0, 1, [.slice none 0 0], by subst hS; simp, by simp, by omega, by subst hS; simp, by simp, by simp [oneC_slice], fun j hj => by
        have : j = 0 := by simp at hj; omega
        subst this
        exact ⟨_, rfl, .inl ⟨rfl, rfl⟩⟩⟩⟩
    rintro m s' ⟨P, Q, rfl, hB, e0, e1, el, eH, eI, eQ⟩
    obtain ⟨B, hBe⟩ : ∃ B, s'.H = B := ⟨_, rfl⟩
    rw [hBe] at eH eI eQ
    rcases eQ with ⟨rfl, c, e3⟩ | ⟨hQ0, b, o, c, cs, e3, hc, hb0, hbA, hcl, hcs, hrows⟩
    · have hP := bfs_end hB
      subst hP
      simp [liLoop0, SC.loops, sf_launch_lists_1, e3, hBe]
      exact hC.fin _ eI
    obtain ⟨l, Q2, rfl⟩ : ∃ l Q2, Q = l :: Q2 := by cases Q with | nil => exact absurd rfl hQ0 | cons l Q2 => exact ⟨l, Q2, rfl⟩
    obtain ⟨hsp, hB2⟩ := bfs_next hB
    obtain ⟨R, hR⟩ := hsp
    obtain ⟨s1, s2, s3⟩ := lists_short hR
    obtain ⟨w, w1, w2⟩ := hrows 0 (by simp)
    rw [Nat.add_zero] at w1
    simp only [List.getElem_cons_zero] at w2
    obtain ⟨u1, u2, u3, u4, ua, un, uk, u5⟩ := w2.one
    have hPl : P.length < (listsM n).length := by rw [← hR]; simp
    obtain ⟨ok, A2, y1, y2, y3, y4⟩ := hC.yield P B l w eI w2 eH ⟨R, hR⟩
    have hpos : (0 : Int) < (Q2.length : Int) + 1 := by omega
    have hQin : QIn n0 B (.slice (some ⟨b, o, none⟩) (l :: Q2).length c) (l :: Q2) := .inr ⟨by simp, b, o, c, cs, rfl, hc, hb0, hbA, hcl, hcs, hrows⟩
    have y0 := y1
    rw [u5] at y1
    cases ok with
    | false =>
      simp [-isU, -Value.cells, -oneC, oneC_slice, isU_sl, cells_sl, liLoop0, SC.loops, sf_launch_lists_1, e0, e1, e3, hBe, el, hbA, w1, u5, hn, y1, hpos]
      exact y4 rfl
    | true =>
    have w2' := w2.keep y2
    have hBh := fun lim => run_behind l (by omega) (by omega) lim A2 w w2'
    have hI2 := y3 rfl
    rw [u5] at hBh
    simp [-isU, -Value.cells, -oneC, oneC_slice, isU_sl, cells_sl, liLoop0, SC.loops, sf_launch_lists_1, e0, e1, e3, hBe, el, hbA, w1, u5, hn, y1, hpos, hBh]
    generalize hS2 : ({ t := _, L := _, H := _, lim := _, rd := _ } : St) = S2
    obtain ⟨⟨q, s3'⟩, hr, z1, z2, z3, z4, z5, z6, z7⟩ := li_inner n nb hn12 n0 A2 l w w2' (by omega) (by omega) (l :: Q2) (by simp) (by
        have : (l :: Q2).length ≤ (listsM n).length := by
          obtain ⟨R', r1, r2⟩ := bfs_rest hB
          rw [r1, r2]; simp; omega
        omega) S2 (by subst hS2; rfl) (by have := y2.1; omega) (by subst hS2; simp [el]; exact hlim) hnb (hC.nbox _ _ hI2) (by subst hS2; simp [e1]) (by subst hS2; simp [u5]) (by subst hS2; simp) (by subst hS2; simpa [e3] using hQin.keep y2)
    simp [liLoop1, SC.loops, sf_launch_lists_1] at hr
    rw [hr]
    simp only at z1 z2 z3 z4 z5 z6 z7
    have x0 : tget S2.t 0 = fv := by subst hS2; simp [e0]
    have x1 : tget S2.t 1 = .pointer (some ⟨nb, 0, none⟩) := by subst hS2; simp [e1]
    have xl : S2.lim = lim := by subst hS2; simp [el]
    subst z1
    rw [x0] at z6
    rw [x1] at z7
    rw [xl] at z2
    obtain ⟨B3, hB3⟩ : ∃ B3, s3'.H = B3 := ⟨_, rfl⟩
    rw [hB3] at z3 z4 z5
    have hI3 := hC.add _ _ _ hI2 z3 z4
    rw [List.cons_append] at z5
    obtain ⟨RR, hRR⟩ : ∃ RR, RR = Q2 ++ extM n l := ⟨_, rfl⟩
    rw [← hRR] at z5 hB2
    rcases z5 with ⟨h, _⟩ | ⟨_, b3, o3, c3, cs3, f3, fc, fb0, fbA, fcl, fcs, frows⟩
    · cases h
    have hA2l := y2.1
    have hm : (listsM n).length - (P ++ [l]).length < (listsM n).length - P.length := by simp; omega
    by_cases hR0 : RR = []
    · subst hR0
      simp [and_assoc, z2, z6, z7, f3, hB3, fbA, fitA, bndA]
      exact ⟨_, hm, P ++ [l], rfl, [], hB2, by omega, hI3, .inl ⟨rfl, _, rfl⟩⟩
    · have hRl : ¬ RR.length = 0 := by simpa using hR0
      have hRl' : ¬ (1 : Int) = (RR.length : Int) + 1 := by omega
      have hRl2 : (1 : Int) ≤ (RR.length : Int) + 1 := by omega
      have tl : ∀ cc, (cc = RR.length ∨ cc = RR.length + 1) → QIn n0 B3 (.slice (some ⟨b3, o3 + 1, none⟩) RR.length cc) RR := fun cc hcc => by
        refine .inr ⟨hR0, b3, o3 + 1, cc, cs3, rfl, hcc, fb0, fbA, by rw [fcl]; simp; omega, fcs, fun j hj => ?_⟩
        obtain ⟨w', k1, k2⟩ := frows (j + 1) (by simp; omega)
        exact ⟨w', by rw [← k1]; congr 1; omega, by simpa using k2⟩
      rcases fc with rfl | rfl
      · simp [and_assoc, z2, z6, z7, f3, hB3, fbA, fitA, bndA, hRl, hRl', hRl2]
        exact ⟨_, hm, P ++ [l], rfl, RR, hB2, by omega, hI3, tl _ (.inl rfl)⟩
      · simp [and_assoc, z2, z6, z7, f3, hB3, fbA, fitA, bndA, hRl, hRl', hRl2]
        exact ⟨_, hm, P ++ [l], rfl, RR, hB2, by omega, hI3, tl _ (.inr rfl)⟩
  obtain ⟨⟨q, s1⟩, hr, q1, q2⟩ := key
  simp [liLoop0, SC.loops, sf_launch_lists_1] at hr
  rw [hr]
  simp only at q1 q2
  rcases q1 with rfl | rfl
  · simp; exact q2
  · simp; exact q2
end Go.Proofs.YtnpifaanhofonaaGreatDoor
