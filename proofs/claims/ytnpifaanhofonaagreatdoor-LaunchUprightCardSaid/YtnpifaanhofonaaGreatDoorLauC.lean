import Derived.Test.YtnpifaanhofonaaGreatDoorLauB
set_option linter.all false

/- Contracts of layer 5: the lists, one after the other. -/
namespace Go.Proofs.YtnpifaanhofonaaGreatDoor
open Go Go.RowKit

def liLoop0 : SC := sf_launch_lists_1.body.loops.headD .skip
def liLoop1 : SC := sf_launch_lists_1.body.loops.tail.headD .skip

/-- One more that waits. -/
theorem q_snoc {n0 : Nat} {A F : AH} {v v' w : Value} {Q : List (List Nat)} {l : List Nat} (hw : LstO n0 F w l)
    (hQ : Q ≠ [] ∧ ∃ b o c cs, v = .slice (some ⟨b, o, none⟩) Q.length c ∧ (c = Q.length ∨ c = Q.length + 1) ∧ n0 ≤ b ∧ A[b]? = some (.rw 1 cs) ∧ cs.length = o + Q.length ∧ (∀ y ∈ cs, nl y = true ∧ oneC y = true ∧ ∃ a n k, y = Value.slice a n k) ∧
      (∀ j (h : j < Q.length), ∃ w, cs[o + j]? = some w ∧ LstO n0 A w Q[j]) ∧ (∀ (c : Nat) (z : ABlk), c ≠ b → A[c]? = some z → F[c]? = some z) ∧ ∃ b', n0 ≤ b' ∧ v' = .slice (some ⟨b', 0, none⟩) (Q.length + 1) (Q.length + 1 + 1) ∧ F[b']? = some (.rw 1 (cs.drop o ++ [w]))) :
    QIn n0 F v' (Q ++ [l]) := by
  obtain ⟨h1, b, o, c, cs, h2, h3, h4, h5, h6, h7, h8, h9, b', k1, k2, k3⟩ := hQ
  refine .inr ⟨by simp, b', 0, Q.length + 1 + 1, cs.drop o ++ [w], by simp [k2], by simp, k1, k3, by simp [h6], fun y hy => ?_, fun j hj => ?_⟩
  · rcases List.mem_append.1 hy with hy | hy
    · exact h7 y (List.mem_of_mem_drop hy)
    · have : y = w := by simpa using hy
      subst this
      have := hw.one
      exact ⟨this.1, this.2.2.2.1, this.2.2.2.2⟩
  · rw [Nat.zero_add]
    by_cases hjc : j < Q.length
    · obtain ⟨x, x1, x2⟩ := h8 j hjc
      refine ⟨x, ?_, ?_⟩
      · rw [List.getElem?_append_left (by simp [h6]; omega), List.getElem?_drop, x1]
      · rw [List.getElem_append_left hjc]
        exact x2.past h5 (fun y hy => (h7 y hy).2.2) h9
    · have : j = Q.length := by simp at hj; omega
      subst this
      refine ⟨w, ?_, ?_⟩
      · rw [List.getElem?_append_right (by simp [h6])]; simp [h6]
      · rw [List.getElem_append_right (Nat.le_refl _)]
        simpa using hw

theorem nlL_all {cs : List Value} (h : ∀ y ∈ cs, nl y = true) : nlL cs = true := by
  rw [nlL_iff]
  intro i hi
  exact h _ (List.getElem_mem hi)

set_option maxHeartbeats 1000000 in
theorem li_inner (n nb : Nat) (hn : n ≤ 12) (n0 : Nat) (A0 : AH) (l : List Nat) (lv : Value) (hl : LstO n0 A0 lv l) (hll : l.length ≤ 12) (hf : firstN l ≤ 12) (Q : List (List Nat)) (hQ0 : Q ≠ []) (hQl : Q.length ≤ 100000) (S : St) (hSH : S.H = A0) (hn0 : n0 ≤ A0.length) (hlim : S.lim ≤ n0) (hnb : nb < n0) (hbx : A0[nb]? = some (.rw 0 [.int .i64 n]))
    (h1 : tget S.t 1 = .pointer (some ⟨nb, 0, none⟩)) (h4 : tget S.t 4 = lv) (h5 : tget S.t 5 = .int .i64 (firstN l : Nat)) (hQ : QIn n0 A0 (tget S.t 3) Q) :
    ∃ q, exL Tryz.prog pf (.loop liLoop1) S = some q ∧ q.1 = .exit 2 ∧ q.2.lim = S.lim ∧ A0.length ≤ q.2.H.length ∧ (∀ c, c < n0 → q.2.H[c]? = A0[c]?) ∧ QIn n0 q.2.H (tget q.2.t 3) (Q ++ extM n l) ∧ tget q.2.t 0 = tget S.t 0 ∧ tget q.2.t 1 = tget S.t 1 := by
  refine loop_rule (I := fun m' s' => ∃ m, m ≤ n - firstN l ∧ m' = n - firstN l - m ∧ tget s'.t 0 = tget S.t 0 ∧ tget s'.t 1 = .pointer (some ⟨nb, 0, none⟩) ∧ tget s'.t 4 = lv ∧ tget s'.t 5 = .int .i64 (firstN l + m : Nat) ∧ s'.lim = S.lim ∧ A0.length ≤ s'.H.length ∧ (∀ c, c < n0 → s'.H[c]? = A0[c]?) ∧ LstO n0 s'.H lv l ∧ QIn n0 s'.H (tget s'.t 3) (Q ++ (List.range m).map fun i => l ++ [firstN l + i])) ?_ (n - firstN l) S
    ⟨0, by omega, by omega, rfl, h1, h4, h5, rfl, by rw [hSH]; exact Nat.le_refl _, fun c _ => by rw [hSH], by rw [hSH]; exact hl, by rw [hSH]; simpa using hQ⟩
  rintro m' s' ⟨m, hm, rfl, e0, e1, e4, e5, el, eA, eB, eL, eQ⟩
  obtain ⟨A, hA⟩ : ∃ A, s'.H = A := ⟨_, rfl⟩
  rw [hA] at eA eB eL eQ
  have hbxA : A[nb]? = some (.rw 0 [.int .i64 n]) := by rw [eB nb hnb, hbx]
  by_cases hlt : firstN l + m < n
  rotate_left
  · have hme : m = n - firstN l := by omega
    subst hme
    have hge : ¬ ((firstN l + (n - firstN l) : Nat) : Int) < n := by omega
    simp [-Int.natCast_add, liLoop1, SC.loops, sf_launch_lists_1, e0, e1, e4, e5, hA, hbxA, hge, h1]
    exact ⟨el, eA, eB, eQ⟩
  have hltI : ((firstN l + m : Nat) : Int) < n := by omega
  have hw : IntKind.i64.wrap (((firstN l + m : Nat) : Int) + 1) = ((firstN l + (m + 1) : Nat) : Int) := by rw [wrap_i64 (by omega) (by omega)]; omega
  have hos' : Q ++ (List.range (m + 1)).map (fun i => l ++ [firstN l + i]) = (Q ++ (List.range m).map fun i => l ++ [firstN l + i]) ++ [l ++ [firstN l + m]] := by rw [List.range_succ]; simp
  have hm1 : 1 ≤ maxA := by decide
  obtain ⟨Q', hQ'⟩ : ∃ Q', Q' = Q ++ (List.range m).map fun i => l ++ [firstN l + i] := ⟨_, rfl⟩
  have hQ'l : Q'.length ≤ 100012 := by rw [hQ']; simp; omega
  have hQ'0 : Q' ≠ [] := by rw [hQ']; simp [hQ0]
  rw [← hQ'] at eQ hos'
  rcases eQ with ⟨e, _⟩ | ⟨_, b, o, c, cs, e3, hc, hb0, hbA, hcl, hcs, hrows⟩
  · exact absurd e hQ'0
  have hbl : b < A.length := (List.getElem?_eq_some_iff.1 hbA).1
  have hQ0' : ¬ Q'.length = 0 := by simpa using hQ'0
  have hmx : Q'.length + 1 ≤ maxA := Nat.le_trans (show Q'.length + 1 ≤ 200000 by omega) (by decide)
  have hcn : nlL (cs.drop o) = true := nlL_all fun y hy => (hcs y (List.mem_of_mem_drop hy)).1
  have hcA := fun L x => cellsAt_off (L := L) (x := x) hbA o Q'.length hcl
  have hbX := fun x => own_get hbA x
  have hsX := fun x y => own_set hbA x y
  have hlb : S.lim ≤ b := by omega
  have happ : ints (natI l) ++ [.int .i64 ((firstN l + m : Nat) : Int)] = ints (natI (l ++ [firstN l + m])) := by simp [natI, ints]
  obtain ⟨j, hj⟩ : ∃ j, j = firstN l + m := ⟨_, rfl⟩
  rw [← hj] at hltI hw e5 hos' happ
  have hmxl : l.length + 1 ≤ maxA := Nat.le_trans (show l.length + 1 ≤ 2000 by omega) (by decide)
  have past : ∀ X : AH, ∀ c', c' < n0 → ((A.set b .dead) ++ X)[c']? = A0[c']? := fun X c' hc' => by
    rw [List.getElem?_append_left (by simp; omega), List.getElem?_set_ne (by omega)]; exact eB c' hc'
  have past' : ∀ X : AH, ∀ c', c' < n0 → (A ++ X)[c']? = A0[c']? := fun X c' hc' => by
    rw [List.getElem?_append_left (by omega)]; exact eB c' hc'
  have hge : ∀ X : AH, ∀ (c' : Nat) (z : ABlk), c' ≠ b → A[c']? = some z → (A ++ X)[c']? = some z := fun X c' z _ hz => own_get hz X
  have hge2 : ∀ X : AH, ∀ (c' : Nat) (z : ABlk), c' ≠ b → A[c']? = some z → (A.set b .dead ++ X)[c']? = some z := fun X c' z hc' hz => by
    have hl' : c' < A.length := (List.getElem?_eq_some_iff.1 hz).1
    rw [List.getElem?_append_left (by simpa using hl'), List.getElem?_set_ne (Ne.symm hc'), hz]
  have newS : ∀ (B : AH), B.length = A.length → ∀ x0 x1 x2 x3 : ABlk, (B ++ [x0, x1, x2, x3])[A.length + 1]? = some x1 ∧ (B ++ [x0, x1, x2, x3])[A.length + 3]? = some x3 := fun B hB x0 x1 x2 x3 => by
    rw [List.getElem?_append_right (by omega), List.getElem?_append_right (by omega), hB, Nat.add_sub_cancel_left, Nat.add_sub_cancel_left]
    exact ⟨rfl, rfl⟩
  have hsnoc : ∀ (B : AH), B.length = A.length → (∀ X : AH, ∀ (c' : Nat) (z : ABlk), c' ≠ b → A[c']? = some z → (B ++ X)[c']? = some z) → ∀ x0 x2 : ABlk, ∀ w, w = Value.slice (some ⟨A.length + 1, 0, none⟩) (l.length + 1) (l.length + 1 + 1) →
      QIn n0 (B ++ [x0, .rw 1 (ints (natI (l ++ [j]))), x2, .rw 1 (cs.drop o ++ [w])]) (.slice (some ⟨A.length + 3, 0, none⟩) (Q'.length + 1) (Q'.length + 1 + 1)) (Q' ++ [l ++ [j]]) := fun B hB hk x0 x2 w ew => by
    obtain ⟨k1, k2⟩ := newS B hB x0 (.rw 1 (ints (natI (l ++ [j])))) x2 (.rw 1 (cs.drop o ++ [w]))
    refine q_snoc (A := A) (v := .slice (some ⟨b, o, none⟩) Q'.length c) (w := w) (.inr ⟨by simp, A.length + 1, by omega, by rw [ew]; simp, k1⟩) ⟨hQ'0, b, o, c, cs, rfl, hc, hb0, hbA, hcl, hcs, hrows, hk _, A.length + 3, by omega, rfl, k2⟩
  rcases eL with ⟨rfl, rfl⟩ | ⟨hln, b2, hb2, rfl, hb2A⟩
  · have hos2 : Q ++ (List.range (m + 1)).map (fun i => [firstN [] + i]) = Q' ++ [[j]] := by simpa using hos'
    rcases hc with rfl | rfl
    · simp [-oneC, oneC_slice, oneC_int, -Int.natCast_add, liLoop1, SC.loops, sf_launch_lists_1, e0, e1, e3, e4, e5, hA, hltI, hbxA, hm1, hw, hQ0', hQ'0, hmx, hcn, hcA, hbX, fitA, bndA]
      refine ⟨_, by omega, m + 1, by omega, rfl, rfl, el, by omega, past' _, .inl ⟨rfl, rfl⟩, ?_⟩
      rw [hos2]
      exact hsnoc A rfl hge _ _ _ rfl
    · simp [-oneC, oneC_slice, oneC_int, -Int.natCast_add, liLoop1, SC.loops, sf_launch_lists_1, e0, e1, e3, e4, e5, hA, hltI, hbxA, hm1, hw, hQ0', hQ'0, hmx, hcn, hcA, hbX, hsX, hcl, el, hlb, fitA, bndA]
      refine ⟨_, by omega, m + 1, by omega, rfl, rfl, by omega, past _, .inl ⟨rfl, rfl⟩, ?_⟩
      rw [hos2]
      exact hsnoc (A.set b .dead) (by simp) hge2 _ _ _ rfl
  · have hl0 : ¬ l.length = 0 := by simpa using hln
    have hb2l : b2 < A.length := (List.getElem?_eq_some_iff.1 hb2A).1
    have hci : (ints (natI l)).length = l.length := by rw [ints_length, natI_len]
    have hcA2 := fun L x => own_cells hb2A L x
    rw [hci] at hcA2
    have hbX2 := fun x => own_get hb2A x
    have hcn2 : nlL (ints (natI l)) = true := nlL_ints _
    have hne : b ≠ b2 := by
      rintro rfl
      rw [hb2A] at hbA
      simp only [Option.some.injEq, ABlk.rw.injEq, true_and] at hbA
      obtain ⟨y, t, e⟩ : ∃ y t, l = y :: t := by cases l with | nil => exact absurd rfl hln | cons y t => exact ⟨y, t, rfl⟩
      obtain ⟨_, _, a, k, k2, e2⟩ := hcs (.int .i64 (y : Nat)) (by rw [← hbA, e]; simp [natI, ints])
      cases e2
    have keep : ∀ X, LstO n0 (A ++ X) (.slice (some ⟨b2, 0, none⟩) l.length (l.length + 1)) l := fun X => .inr ⟨hln, b2, hb2, rfl, hbX2 X⟩
    have keep2 : ∀ X, LstO n0 (A.set b .dead ++ X) (.slice (some ⟨b2, 0, none⟩) l.length (l.length + 1)) l := fun X => .inr ⟨hln, b2, hb2, rfl, hge2 X b2 _ (Ne.symm hne) hb2A⟩
    generalize hcsl : ints (natI l) = cl at *
    rcases hc with rfl | rfl
    · simp [-oneC, oneC_slice, oneC_int, -Int.natCast_add, liLoop1, SC.loops, sf_launch_lists_1, e0, e1, e3, e4, e5, hA, hltI, hbxA, hm1, hw, hQ0', hQ'0, hmx, hcn, hcA, hbX, fitA, bndA, hl0, hln, hmxl, hb2A, hcA2, hbX2, hcn2, happ]
      refine ⟨_, by omega, m + 1, by omega, rfl, rfl, el, by omega, past' _, keep _, ?_⟩
      rw [hos']
      exact hsnoc A rfl hge _ _ _ rfl
    · simp [-oneC, oneC_slice, oneC_int, -Int.natCast_add, liLoop1, SC.loops, sf_launch_lists_1, e0, e1, e3, e4, e5, hA, hltI, hbxA, hm1, hw, hQ0', hQ'0, hmx, hcn, hcA, hbX, hsX, hcl, el, hlb, fitA, bndA, hl0, hln, hmxl, hb2A, hcA2, hbX2, hcn2, happ]
      refine ⟨_, by omega, m + 1, by omega, rfl, rfl, by omega, past _, keep2 _, ?_⟩
      rw [hos']
      exact hsnoc (A.set b .dead) (by simp) hge2 _ _ _ rfl
end Go.Proofs.YtnpifaanhofonaaGreatDoor
