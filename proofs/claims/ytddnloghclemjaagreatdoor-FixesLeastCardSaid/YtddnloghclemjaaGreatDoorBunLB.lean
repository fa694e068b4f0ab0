import Derived.Test.YtddnloghclemjaaGreatDoorBunLA
set_option linter.all false
namespace Go.Proofs.YtddnloghclemjaaGreatDoor
open Go Go.RowKit
structure Rep where
  (tick kind cell a b c d : Int)
  sure : Bool
  w : Int
def Rep.vals (r : Rep) : List Value := [.int .i64 r.tick, .int .i64 r.kind, .int .i64 r.cell, .int .i64 r.a, .int .i64 r.b, .int .i64 r.c, .int .i64 r.d, .bool r.sure, .int .i64 r.w]
def repV (r : Rep) : Value := .agg #[.int .i64 r.tick, .int .i64 r.kind, .int .i64 r.cell, .int .i64 r.a, .int .i64 r.b, .int .i64 r.c, .int .i64 r.d, .bool r.sure, .int .i64 r.w]
def repsV (l : List Rep) : List Value := l.flatMap Rep.vals
theorem repsV_get : ∀ {l : List Rep} {i : Nat} (h : i < l.length) (j : Nat) (_ : j < 9), (repsV l)[i * 9 + j]? = l[i].vals[j]?
  | r :: l, 0, h, j, hj => by
    have : j < r.vals.length := by simpa [Rep.vals] using hj
    simp only [repsV, List.flatMap_cons]
    rw [List.getElem?_append_left (by omega)]
    simp
  | r :: l, i + 1, h, j, hj => by
    have := repsV_get (l := l) (i := i) (by simpa using h) j hj
    simp only [repsV, List.flatMap_cons] at this ⊢
    rw [List.getElem?_append_right (by simp [Rep.vals]; omega)]
    simp only [List.getElem_cons_succ]
    rw [← this]
    congr 1
    simp [Rep.vals]
    omega
@[simp] theorem run_from3 (n l h : Int) (lim : Nat) (H : AH) : apL Tryz.prog pf (.func (.func 59) #[] #[]) [.int .i64 n, .int .i64 l, .int .i64 h] lim H = some (.bool (decide (l ≤ n) && decide (n ≤ h)), H) := by
  rw [apL_func _ _ _ _ _ _ (by rfl), sf_cobleref03_from_eq]
  by_cases h1 : l ≤ n <;> simp [sf_cobleref03_from, h1, pf_pure, pureF]
theorem mul_le4 {x y : Int} (hx : -4000 ≤ x ∧ x ≤ 4000) (hy : -4000 ≤ y ∧ y ≤ 4000) : -16000000 ≤ x * y ∧ x * y ≤ 16000000 := by
  have h : (x * y).natAbs ≤ 4000 * 4000 := by
    rw [Int.natAbs_mul]
    exact Nat.mul_le_mul (by omega) (by omega)
  omega
theorem run_Turn (x y u v : Int) (hx : -4000 ≤ x ∧ x ≤ 4000) (hy : -4000 ≤ y ∧ y ≤ 4000) (hu : -4000 ≤ u ∧ u ≤ 4000) (hv : -4000 ≤ v ∧ v ≤ 4000) (lim : Nat) (H : AH) :
    apL Tryz.prog pf (.func (.func 123) #[] #[]) [.int .i64 x, .int .i64 y, .int .i64 u, .int .i64 v] lim H = some (.int .i64 (x * v - y * u), H) := by
  rw [apL_func _ _ _ _ _ _ (by rfl), sf_cobleref03_Turn_eq]
  have m1 := mul_le4 hx hv
  have m2 := mul_le4 hy hu
  simp [sf_cobleref03_Turn, pf_pure, pureF, wrap_i64 (n := x * v) (by omega) (by omega), wrap_i64 (n := y * u) (by omega) (by omega), wrap_i64 (n := x * v - y * u) (by omega) (by omega)]
def arV (x y : Int) : Value := .agg #[.int .i64 x, .int .i64 y]
theorem run_turn (x y u v : Int) (hx : -4000 ≤ x ∧ x ≤ 4000) (hy : -4000 ≤ y ∧ y ≤ 4000) (hu : -4000 ≤ u ∧ u ≤ 4000) (hv : -4000 ≤ v ∧ v ≤ 4000) (lim : Nat) (H : AH) :
    apL Tryz.prog pf (.func (.func 151) #[] #[]) [.agg #[.int .i64 x, .int .i64 y], .agg #[.int .i64 u, .int .i64 v]] lim H = some (.int .i64 (x * v - y * u), H) := by
  rw [apL_func _ _ _ _ _ _ (by rfl), sf_fixes_arrow_turn_eq]
  have m1 := mul_le4 hx hv
  have m2 := mul_le4 hy hu
  simp [sf_fixes_arrow_turn, pf_pure, pureF, wrap_i64 (n := x * v) (by omega) (by omega), wrap_i64 (n := y * u) (by omega) (by omega), wrap_i64 (n := x * v - y * u) (by omega) (by omega)]
theorem run_along (x y u v : Int) (hx : -4000 ≤ x ∧ x ≤ 4000) (hy : -4000 ≤ y ∧ y ≤ 4000) (hu : -4000 ≤ u ∧ u ≤ 4000) (hv : -4000 ≤ v ∧ v ≤ 4000) (lim : Nat) (H : AH) :
    apL Tryz.prog pf (.func (.func 152) #[] #[]) [.agg #[.int .i64 x, .int .i64 y], .agg #[.int .i64 u, .int .i64 v]] lim H = some (.int .i64 (x * u + y * v), H) := by
  rw [apL_func _ _ _ _ _ _ (by rfl), sf_fixes_arrow_along_eq]
  have m1 := mul_le4 hx hu
  have m2 := mul_le4 hy hv
  simp [sf_fixes_arrow_along, pf_pure, pureF, wrap_i64 (n := x * u) (by omega) (by omega), wrap_i64 (n := y * v) (by omega) (by omega), wrap_i64 (n := x * u + y * v) (by omega) (by omega)]
theorem run_edges (r : Rep) (lim : Nat) (H : AH) : apL Tryz.prog pf (.func (.func 149) #[] #[]) [repV r] lim H = some (.tuple #[arV r.a r.b, arV r.c r.d], H) := by
  rw [apL_func _ _ _ _ _ _ (by rfl), sf_fixes_edges_eq]
  simp [sf_fixes_edges, pf_pure, pureF, repV, arV]
def near200 (x : Int) : Bool := decide (-200 ≤ x) && decide (x ≤ 200)
def turnN (r : Rep) : Int := r.a * r.d - r.b * r.c
def alongN (r : Rep) : Int := r.a * r.c + r.b * r.d
def beamOk (r : Rep) : Bool := near200 r.a && near200 r.b && near200 r.c && near200 r.d && (decide (0 < turnN r) || (decide (turnN r = 0) && decide (0 < alongN r)))
def four (r : Rep) : List Int := [r.a, r.b, r.c, r.d]
theorem push3 (H : AH) (a b c : ABlk) : (H ++ [a, b, c])[H.length + 1 + 1]? = some c := by
  rw [Nat.add_assoc, List.getElem?_append_right (by omega)]; simp
theorem all_four (r : Rep) (lim : Nat) (H : AH) : apL Tryz.prog pf (.func (.func 78) #[] #[]) [.slice (some ⟨H.length, 0, none⟩) 4 4, betweenV (H.length + 1)] lim (H ++ [.rw 1 (ints (four r)), .rw 0 [.int .i64 (-200)], .rw 0 [.int .i64 200]]) =
    some (.bool ((four r).all near200), H ++ [.rw 1 (ints (four r)), .rw 0 [.int .i64 (-200)], .rw 0 [.int .i64 200]]) := by
  generalize hH : H ++ [ABlk.rw 1 (ints (four r)), .rw 0 [.int .i64 (-200)], .rw 0 [.int .i64 200]] = H2
  exact run_all (four r) (by simp [four]) H2 lim _ _ _ (Sl.made (by subst hH; simp) rfl) (isP_between (-200) 200 H2 (H.length + 1) (by subst hH; simp) (by subst hH; exact push3 _ _ _ _))
theorem all_four2 (r : Rep) (lim : Nat) (H : AH) : apL Tryz.prog pf (.func (.func 78) #[] #[]) [.slice (some ⟨H.length + 1 + 1, 0, none⟩) 4 4, betweenV H.length] lim (H ++ [.rw 0 [.int .i64 (-200)], .rw 0 [.int .i64 200], .rw 1 (ints (four r))]) =
    some (.bool ((four r).all near200), H ++ [.rw 0 [.int .i64 (-200)], .rw 0 [.int .i64 200], .rw 1 (ints (four r))]) := by
  generalize hH : H ++ [ABlk.rw 0 [.int .i64 (-200)], .rw 0 [.int .i64 200], .rw 1 (ints (four r))] = H2
  exact run_all (four r) (by simp [four]) H2 lim _ _ _ (Sl.made (by subst hH; exact push3 _ _ _ _) rfl) (isP_between (-200) 200 H2 H.length (by subst hH; simp) (by subst hH; simp))
theorem run_fixBeam (r : Rep) (lim : Nat) (H : AH) : apL Tryz.prog pf (.func (.func 143) #[] #[]) [repV r] lim H = some (.bool (beamOk r), H) := by
  rw [apL_func _ _ _ _ _ _ (by rfl), sf_fixes_isBeam_eq]
  have hb := fun l h lim H => run_between l h lim H
  have he := fun lim H => run_edges r lim H
  have h1 := fun lim => all_four r lim H
  have h2 := fun lim => all_four2 r lim H
  simp only [repV, arV, betweenV, ints, four, List.map_cons, List.map_nil] at hb he h1 h2
  cases h4 : [r.a, r.b, r.c, r.d].all near200 with
  | false =>
    rw [h4] at h1 h2
    have hf : beamOk r = false := by
      simp only [List.all_cons, List.all_nil, Bool.and_true] at h4
      unfold beamOk
      rw [show (near200 r.a && near200 r.b && near200 r.c && near200 r.d) = false by simpa [Bool.and_assoc] using h4]
      rfl
    simp [sf_fixes_isBeam, pf_pure, pureF, repV, hb, he, h1, h2, hf]
  | true =>
    rw [h4] at h1 h2
    have hn : near200 r.a = true ∧ near200 r.b = true ∧ near200 r.c = true ∧ near200 r.d = true := by simpa using h4
    have h4' := hn
    simp only [near200, Bool.and_eq_true, decide_eq_true_eq] at hn
    have ht := fun lim H => run_turn r.a r.b r.c r.d (by omega) (by omega) (by omega) (by omega) lim H
    have ha := fun lim H => run_along r.a r.b r.c r.d (by omega) (by omega) (by omega) (by omega) lim H
    have hf : beamOk r = (decide (0 < turnN r) || (decide (turnN r = 0) && decide (0 < alongN r))) := by
      unfold beamOk
      rw [h4'.1, h4'.2.1, h4'.2.2.1, h4'.2.2.2]
      rfl
    change ∀ lim H, apL _ _ _ _ _ _ = some (.int .i64 (turnN r), H) at ht
    change ∀ lim H, apL _ _ _ _ _ _ = some (.int .i64 (alongN r), H) at ha
    by_cases c1 : 0 < turnN r
    · simp [sf_fixes_isBeam, pf_pure, pureF, repV, hb, he, h1, h2, hf, ht, ha, c1]
    · by_cases c2 : turnN r = 0 <;> simp [sf_fixes_isBeam, pf_pure, pureF, repV, hb, he, h1, h2, hf, ht, ha, c1, c2]
theorem beam_zero {r : Rep} (h : r.a = 0 ∧ r.b = 0 ∨ r.c = 0 ∧ r.d = 0) : turnN r = 0 ∧ alongN r = 0 := by
  unfold turnN alongN
  rcases h with ⟨h1, h2⟩ | ⟨h1, h2⟩ <;> rw [h1, h2] <;> constructor <;> omega
set_option maxHeartbeats 2000000 in
theorem run_refBeam (r : Rep) (lim : Nat) (H : AH) : apL Tryz.prog pf (.func (.func 100) #[] #[]) [repV r] lim H = some (.bool (beamOk r), H) := by
  rw [apL_func _ _ _ _ _ _ (by rfl), sf_cobleref03_isBeam_eq]
  by_cases h4 : near200 r.a = true ∧ near200 r.b = true ∧ near200 r.c = true ∧ near200 r.d = true
  rotate_left
  · have hf : beamOk r = false := by
      unfold beamOk
      cases k1 : near200 r.a <;> cases k2 : near200 r.b <;> cases k3 : near200 r.c <;> cases k4 : near200 r.d <;> first | rfl | exact absurd ⟨k1, k2, k3, k4⟩ h4
    cases k1 : near200 r.a with
    | false => simp only [near200] at k1; simp [sf_cobleref03_isBeam, pf_pure, pureF, repV, k1, hf]
    | true =>
    cases k2 : near200 r.b with
    | false => simp only [near200] at k1 k2; simp [sf_cobleref03_isBeam, pf_pure, pureF, repV, k1, k2, hf]
    | true =>
    cases k3 : near200 r.c with
    | false => simp only [near200] at k1 k2 k3; simp [sf_cobleref03_isBeam, pf_pure, pureF, repV, k1, k2, k3, hf]
    | true =>
    cases k4 : near200 r.d with
    | false => simp only [near200] at k1 k2 k3 k4; simp [sf_cobleref03_isBeam, pf_pure, pureF, repV, k1, k2, k3, k4, hf]
    | true => exact absurd ⟨k1, k2, k3, k4⟩ h4
  · have hf : beamOk r = (decide (0 < turnN r) || (decide (turnN r = 0) && decide (0 < alongN r))) := by
      unfold beamOk
      rw [h4.1, h4.2.1, h4.2.2.1, h4.2.2.2]
      rfl
    obtain ⟨k1, k2, k3, k4⟩ := h4
    have hn : (-200 ≤ r.a ∧ r.a ≤ 200) ∧ (-200 ≤ r.b ∧ r.b ≤ 200) ∧ (-200 ≤ r.c ∧ r.c ≤ 200) ∧ (-200 ≤ r.d ∧ r.d ≤ 200) := by
      simp only [near200, Bool.and_eq_true, decide_eq_true_eq] at k1 k2 k3 k4
      exact ⟨k1, k2, k3, k4⟩
    simp only [near200] at k1 k2 k3 k4
    have ht := fun lim H => run_Turn r.a r.b r.c r.d (by omega) (by omega) (by omega) (by omega) lim H
    change ∀ lim H, apL _ _ _ _ _ _ = some (.int .i64 (turnN r), H) at ht
    have m1 := mul_le4 (x := r.a) (y := r.c) (by omega) (by omega)
    have m2 := mul_le4 (x := r.b) (y := r.d) (by omega) (by omega)
    have w1 := wrap_i64 (n := r.a * r.c) (by omega) (by omega)
    have w2 := wrap_i64 (n := r.b * r.d) (by omega) (by omega)
    have w3 : IntKind.i64.wrap (r.a * r.c + r.b * r.d) = alongN r := wrap_i64 (by omega) (by omega)
    have main : (r.a == 0 && r.b == 0) = false → (r.c == 0 && r.d == 0) = false → apL Tryz.prog pf (.func (.func 100) #[] #[]) [repV r] lim H = some (.bool (beamOk r), H) := by
      rw [apL_func _ _ _ _ _ _ (by rfl), sf_cobleref03_isBeam_eq]
      intro y1 y2
      cases z1 : (r.a == 0) with
      | false =>
        cases z3 : (r.c == 0) with
        | false => by_cases c1 : 0 < turnN r <;> by_cases c2 : turnN r = 0 <;> first | (exfalso; omega) | simp [sf_cobleref03_isBeam, pf_pure, pureF, repV, k1, k2, k3, k4, hf, ht, w1, w2, w3, z1, z3, c1, c2]
        | true =>
          have z4 : (r.d == 0) = false := by rw [z3] at y2; exact y2
          by_cases c1 : 0 < turnN r <;> by_cases c2 : turnN r = 0 <;> first | (exfalso; omega) | simp [sf_cobleref03_isBeam, pf_pure, pureF, repV, k1, k2, k3, k4, hf, ht, w1, w2, w3, z1, z3, z4, c1, c2]
      | true =>
        have z2 : (r.b == 0) = false := by rw [z1] at y1; exact y1
        cases z3 : (r.c == 0) with
        | false => by_cases c1 : 0 < turnN r <;> by_cases c2 : turnN r = 0 <;> first | (exfalso; omega) | simp [sf_cobleref03_isBeam, pf_pure, pureF, repV, k1, k2, k3, k4, hf, ht, w1, w2, w3, z1, z2, z3, c1, c2]
        | true =>
          have z4 : (r.d == 0) = false := by rw [z3] at y2; exact y2
          by_cases c1 : 0 < turnN r <;> by_cases c2 : turnN r = 0 <;> first | (exfalso; omega) | simp [sf_cobleref03_isBeam, pf_pure, pureF, repV, k1, k2, k3, k4, hf, ht, w1, w2, w3, z1, z2, z3, z4, c1, c2]
    rw [apL_func _ _ _ _ _ _ (by rfl), sf_cobleref03_isBeam_eq] at main
    cases y1 : (r.a == 0 && r.b == 0) with
    | true =>
      simp only [Bool.and_eq_true] at y1
      have z := beam_zero (r := r) (.inl ⟨by simpa using y1.1, by simpa using y1.2⟩)
      simp [sf_cobleref03_isBeam, pf_pure, pureF, repV, k1, k2, k3, k4, hf, z, y1.1, y1.2]
    | false =>
    cases y2 : (r.c == 0 && r.d == 0) with
    | false => exact main y1 y2
    | true =>
      simp only [Bool.and_eq_true] at y2
      have z := beam_zero (r := r) (.inr ⟨by simpa using y2.1, by simpa using y2.2⟩)
      cases z1 : (r.a == 0) with
      | false => simp [sf_cobleref03_isBeam, pf_pure, pureF, repV, k1, k2, k3, k4, hf, z, z1, y2.1, y2.2]
      | true =>
        have z2 : (r.b == 0) = false := by rw [z1] at y1; exact y1
        simp [sf_cobleref03_isBeam, pf_pure, pureF, repV, k1, k2, k3, k4, hf, z, z1, z2, y2.1, y2.2]
end Go.Proofs.YtddnloghclemjaaGreatDoor
namespace Go.Proofs.YtddnloghclemjaaGreatDoor
open Go Go.RowKit
def weightOk (r : Rep) : Bool := if r.sure then r.w == 0 else decide (1 ≤ r.w) && decide (r.w ≤ 100)
theorem ext_within (H : AH) (l h : Int) (x y : Int) (lim : Nat) : apL Tryz.prog pf (withinV H.length) [.agg #[.int .i64 x, .int .i64 y]] lim (H ++ [.rw 0 [.int .i64 l], .rw 0 [.int .i64 h]]) = some (.bool (spanIn l h (x, y)), H ++ [.rw 0 [.int .i64 l], .rw 0 [.int .i64 h]]) := by
  generalize hH : H ++ [ABlk.rw 0 [.int .i64 l], .rw 0 [.int .i64 h]] = H2
  exact (isQ_within l h H2 H.length (by subst hH; simp) (by subst hH; simp)).2 H2 (Ext.refl _) (x, y) lim
theorem run_hasWeight (r : Rep) (lim : Nat) (H : AH) : apL Tryz.prog pf (.func (.func 121) #[] #[]) [repV r] lim H = some (.bool (weightOk r), H) := by
  rw [apL_func _ _ _ _ _ _ (by rfl), sf_fixes_hasWeight_eq]
  have hb := fun l h lim H => run_between l h lim H
  have h1 := fun x lim => ext_between H 1 100 x lim
  simp only [betweenV] at hb h1
  cases hs : r.sure <;> simp [sf_fixes_hasWeight, pf_pure, pureF, repV, hb, h1, hs, weightOk]
def boundsOk (r : Rep) : Bool :=
  if r.kind = 1 then spanIn 0 200 (r.a, r.b) && r.c == 0 && r.d == 0
  else if r.kind = 2 then beamOk r
  else if r.kind = 3 then spanIn 0 200 (r.a, r.b) && spanIn 0 200 (r.c, r.d) && r.cell == 0
  else if r.kind = 4 then (decide (0 ≤ r.a) && decide (r.a ≤ 200)) && r.b == 0 && r.c == 0 && r.d == 0
  else false
set_option maxHeartbeats 2000000 in
theorem run_hasBounds (r : Rep) (lim : Nat) (H : AH) : apL Tryz.prog pf (.func (.func 122) #[] #[]) [repV r] lim H = some (.bool (boundsOk r), H) := by
  rw [apL_func _ _ _ _ _ _ (by rfl), sf_fixes_hasBounds_eq]
  have hb := fun l h lim H => run_between l h lim H
  have hw := fun l h lim H => run_within l h lim H
  have e1 := fun x y lim => ext_within H 0 200 x y lim
  have hbm := fun lim H => run_fixBeam r lim H
  generalize hH : H ++ [ABlk.rw 0 [.int .i64 0], .rw 0 [.int .i64 200]] = H2 at e1
  have h1 := fun x lim => ext_between H2 0 200 x lim
  simp only [betweenV, withinV, repV] at hb hw e1 h1 hbm
  have ew : apL Tryz.prog pf (.func (.func 119) #[] #[]) [.int .i64 0, .int .i64 200] H.length H = some (.func (.func 142) #[] #[.pointer (some ⟨H.length, 0, none⟩), .pointer (some ⟨H.length + 1, 0, none⟩)], H2) := by rw [hw, hH]
  have hl : H2.length = H.length + 2 := by subst hH; simp
  by_cases k1 : r.kind = 1
  · cases c1 : spanIn 0 200 (r.a, r.b) <;> cases c2 : (r.c == 0) <;> simp [sf_fixes_hasBounds, pf_pure, pureF, repV, ew, e1, boundsOk, k1, c1, c2]
  by_cases k2 : r.kind = 2
  · rw [k2] at hbm
    simp [sf_fixes_hasBounds, pf_pure, pureF, repV, ew, e1, boundsOk, k2, hbm]
  by_cases k3 : r.kind = 3
  · cases c1 : spanIn 0 200 (r.a, r.b) <;> cases c2 : spanIn 0 200 (r.c, r.d) <;> simp [sf_fixes_hasBounds, pf_pure, pureF, repV, ew, e1, boundsOk, k3, c1, c2]
  by_cases k4 : r.kind = 4
  · cases c1 : (decide (0 ≤ r.a) && decide (r.a ≤ 200)) <;> cases c2 : (r.b == 0) <;> cases c3 : (r.c == 0) <;> simp [sf_fixes_hasBounds, pf_pure, pureF, repV, ew, hb, h1, boundsOk, k4, c1, c2, c3]
  · have b1 : (r.kind == 1) = false := by simpa using k1
    have b2 : (r.kind == 2) = false := by simpa using k2
    have b3 : (r.kind == 3) = false := by simpa using k3
    have b4 : (r.kind == 4) = false := by simpa using k4
    simp [sf_fixes_hasBounds, pf_pure, pureF, repV, ew, boundsOk, k1, k2, k3, k4, b1, b2, b3, b4]
structure Ds where
  ch : Ch
  g : Int
  pace : Int
  reps : List Rep
structure DsIn (H : AH) (x : Ds) (d t s r : Value) : Prop where
  c : ChIn H x.ch d t s
  r : Sl H r x.reps.length (repsV x.reps)
  rl : x.reps.length < 2 ^ 62
theorem DsIn.ext {H H' : AH} (hE : Ext H H') {x : Ds} {d t s r : Value} (h : DsIn H x d t s r) : DsIn H' x d t s r := ⟨h.c.ext hE, h.r.ext hE, h.rl⟩
def dsV (x : Ds) (d t s r : Value) : Value := .agg #[.int .i64 x.ch.w, .int .i64 x.ch.h, d, t, s, .int .i64 x.g, .int .i64 x.pace, r]
def srV (x : Ds) (d t s r a b e : Value) : Value := .agg #[.int .i64 x.ch.w, .int .i64 x.ch.h, d, t, s, .int .i64 x.g, .int .i64 x.pace, r, a, b, e]
def Ds.cells (x : Ds) : Nat := x.ch.depth.length
def Ds.ticks (x : Ds) : Nat := x.ch.tide.length
def repOk (n k : Nat) (r : Rep) : Bool := inN k r.tick && inN n r.cell && weightOk r && boundsOk r
def OneS (v : Value) : Prop := ∃ a n c, v = .slice a n c
theorem run_srIsTick (x : Ds) (lim : Nat) (H : AH) (d t s r a b e : Value) (h : DsIn H x d t s r) (ha : OneS a) (hb : OneS b) (he : OneS e) (k : Int) :
    apL Tryz.prog pf (.func (.func 79) #[] #[]) [srV x d t s r a b e, .int .i64 k] lim H = some (.bool (inN x.ticks k), H) := by
  obtain ⟨⟨⟨da, dc, ed, _⟩, ⟨ta, tc, et, _⟩, ⟨sa, sc, es, _⟩, _, htl, _⟩, ⟨ra, rc, er, _⟩, _⟩ := h
  obtain ⟨a1, a2, a3, ea⟩ := ha
  obtain ⟨b1, b2, b3, eb⟩ := hb
  obtain ⟨e1, e2, e3, ee⟩ := he
  have hl : ∀ lim H, apL Tryz.prog pf (.func (.func 88) #[] #[]) [srV x d t s r a b e] lim H = some (.int .i64 ((x.ch.tide.length : Int) - 1), H) := by
    intro lim H
    rw [apL_func _ _ _ _ _ _ (by rfl), sf_fixes_search_lastTick_eq]
    have hw : IntKind.i64.wrap ((x.ch.tide.length : Int) - 1) = (x.ch.tide.length : Int) - 1 := wrap_i64 (by omega) (by omega)
    simp [sf_fixes_search_lastTick, srV, ed, et, es, er, ea, eb, ee, hw, pf_pure, pureF]
  rw [apL_func _ _ _ _ _ _ (by rfl), sf_fixes_search_isTick_eq]
  have hbt := fun l h lim H => run_between l h lim H
  have h1 := fun x lim h => ext_between H 0 h x lim
  simp only [betweenV, srV, ed, et, es, er, ea, eb, ee] at hbt h1 hl ⊢
  simp [sf_fixes_search_isTick, hbt, h1, hl, pf_pure, pureF, inN, Ds.ticks]
  rfl
theorem run_srIsCell (x : Ds) (lim : Nat) (H : AH) (d t s r a b e : Value) (h : DsIn H x d t s r) (ha : OneS a) (hb : OneS b) (he : OneS e) (k : Int) :
    apL Tryz.prog pf (.func (.func 80) #[] #[]) [srV x d t s r a b e, .int .i64 k] lim H = some (.bool (inN x.cells k), H) := by
  obtain ⟨⟨⟨da, dc, ed, _⟩, ⟨ta, tc, et, _⟩, ⟨sa, sc, es, _⟩, hdl, _, _⟩, ⟨ra, rc, er, _⟩, _⟩ := h
  obtain ⟨a1, a2, a3, ea⟩ := ha
  obtain ⟨b1, b2, b3, eb⟩ := hb
  obtain ⟨e1, e2, e3, ee⟩ := he
  rw [apL_func _ _ _ _ _ _ (by rfl), sf_fixes_search_isCell_eq]
  have hbt := fun l h lim H => run_between l h lim H
  have h1 := fun x lim h => ext_between H 0 h x lim
  have hw : IntKind.i64.wrap ((x.ch.depth.length : Int) - 1) = (x.ch.depth.length : Int) - 1 := wrap_i64 (by omega) (by omega)
  simp only [betweenV, srV, ed, et, es, er, ea, eb, ee] at hbt h1 ⊢
  simp [sf_fixes_search_isCell, hbt, h1, hw, pf_pure, pureF, inN, Ds.cells]
  rfl
theorem run_fixIsReport (x : Ds) (lim : Nat) (H : AH) (d t s r a b e : Value) (h : DsIn H x d t s r) (ha : OneS a) (hb : OneS b) (he : OneS e) (q : Rep) :
    apL Tryz.prog pf (.func (.func 99) #[] #[]) [srV x d t s r a b e, repV q] lim H = some (.bool (repOk x.cells x.ticks q), H) := by
  have t1 := fun k lim => run_srIsTick x lim H d t s r a b e h ha hb he k
  have t2 := fun k lim => run_srIsCell x lim H d t s r a b e h ha hb he k
  have t3 := fun lim => run_hasWeight q lim H
  have t4 := fun lim => run_hasBounds q lim H
  obtain ⟨⟨⟨da, dc, ed, _⟩, ⟨ta, tc, et, _⟩, ⟨sa, sc, es, _⟩, _, htl, _⟩, ⟨ra, rc, er, _⟩, _⟩ := h
  obtain ⟨a1, a2, a3, ea⟩ := ha
  obtain ⟨b1, b2, b3, eb⟩ := hb
  obtain ⟨e1, e2, e3, ee⟩ := he
  rw [apL_func _ _ _ _ _ _ (by rfl), sf_fixes_search_isReport_eq]
  simp only [srV, repV, ed, et, es, er, ea, eb, ee] at t1 t2 t3 t4 ⊢
  cases c1 : inN x.ticks q.tick with
  | false => simp [sf_fixes_search_isReport, t1, pf_pure, pureF, repOk, c1]
  | true =>
  cases c2 : inN x.cells q.cell with
  | false => simp [sf_fixes_search_isReport, t1, t2, pf_pure, pureF, repOk, c1, c2]
  | true =>
  cases c3 : weightOk q with
  | false => simp [sf_fixes_search_isReport, t1, t2, t3, pf_pure, pureF, repOk, c1, c2, c3]
  | true => simp [sf_fixes_search_isReport, t1, t2, t3, t4, pf_pure, pureF, repOk, c1, c2, c3]
end Go.Proofs.YtddnloghclemjaaGreatDoor
namespace Go.Proofs.YtddnloghclemjaaGreatDoor
open Go Go.RowKit
def IsR (H : AH) (f : Value) (p : Rep → Bool) : Prop := (nl f = true ∧ isU f = false ∧ f.cells = #[f]) ∧ ∀ H', Ext H H' → ∀ x lim, apL Tryz.prog pf f [repV x] lim H' = some (.bool (p x), H')
def allLoopR : SC := sf_checks_All_api_Report.body.loops.headD .skip
theorem rep_cells {H : AH} {xs : List Rep} {v : Value} (hv : Sl H v xs.length (repsV xs)) {i : Nat} (hi : i < xs.length) : ∃ b o c, v = .slice (some ⟨b, o, none⟩) xs.length c ∧
    hcell H b (o + i * 9) = some (.int .i64 xs[i].tick) ∧ hcell H b (o + i * 9 + 1) = some (.int .i64 xs[i].kind) ∧ hcell H b (o + i * 9 + 2) = some (.int .i64 xs[i].cell) ∧ hcell H b (o + i * 9 + 3) = some (.int .i64 xs[i].a) ∧
    hcell H b (o + i * 9 + 4) = some (.int .i64 xs[i].b) ∧ hcell H b (o + i * 9 + 5) = some (.int .i64 xs[i].c) ∧ hcell H b (o + i * 9 + 6) = some (.int .i64 xs[i].d) ∧ hcell H b (o + i * 9 + 7) = some (.bool xs[i].sure) ∧ hcell H b (o + i * 9 + 8) = some (.int .i64 xs[i].w) := by
  obtain ⟨aa, ac, rfl, hd⟩ := hv
  obtain ⟨b, o, rfl, _⟩ := hd (i * 9) _ (by have := repsV_get hi 0 (by omega); rw [Nat.add_zero] at this; exact this)
  have key : ∀ j (hj : j < 9) x, xs[i].vals[j]? = some x → hcell H b (o + i * 9 + j) = some x := by
    intro j hj x hx
    obtain ⟨b', o', e, c⟩ := hd (i * 9 + j) x ((repsV_get hi j hj).trans hx)
    cases e
    rw [Nat.add_assoc]; exact c
  refine ⟨b, o, ac, rfl, key 0 (by omega) _ rfl, key 1 (by omega) _ rfl, key 2 (by omega) _ rfl, key 3 (by omega) _ rfl, key 4 (by omega) _ rfl, key 5 (by omega) _ rfl, key 6 (by omega) _ rfl, key 7 (by omega) _ rfl, key 8 (by omega) _ rfl⟩
theorem all_loopR (xs : List Rep) (hlen : xs.length < 2 ^ 62) (H : AH) (v f : Value) (p : Rep → Bool) (hv : Sl H v xs.length (repsV xs)) (hp : IsR H f p) (S : St) (h1 : tget S.t 1 = f) (h7 : tget S.t 7 = v) (h8 : tget S.t 8 = .int .i64 xs.length) (h9 : tget S.t 9 = .int .i64 0) (hH : S.H = H) :
    ∃ r, exL Tryz.prog pf (.loop allLoopR) S = some r ∧ r.2.H = H ∧ ((r.1 = .exit 0 ∧ xs.all p = true) ∨ (r.1 = .ret ∧ tget r.2.t 4 = .bool false ∧ xs.all p = false)) := by
  have hv0 := hv
  obtain ⟨aa, ac, rfl, _⟩ := hv0
  obtain ⟨⟨hn, _⟩, hp⟩ := hp
  have hp := fun x lim => hp H (Ext.refl H) x lim
  refine loop_rule (I := fun n s' => ∃ i, i ≤ xs.length ∧ n = xs.length - i ∧ tget s'.t 1 = f ∧ tget s'.t 7 = .slice aa xs.length ac ∧ tget s'.t 8 = .int .i64 xs.length ∧ tget s'.t 9 = .int .i64 i ∧ s'.H = H ∧ ∀ j (h : j < xs.length), j < i → p xs[j] = true) ?_ xs.length S ⟨0, by omega, by omega, h1, h7, h8, h9, hH, by omega⟩
  rintro n s' ⟨i, hi, rfl, e1, e7, e8, e9, eH, et⟩
  by_cases hlt : i < xs.length
  · obtain ⟨b1, o1, ac1, e, c0, c1, c2, c3, c4, c5, c6, c7, c8⟩ := rep_cells hv hlt
    cases e
    have hps : ∀ lim, apL Tryz.prog pf f [repV xs[i]] lim H = some (.bool (p xs[i]), H) := fun lim => hp xs[i] lim
    have hw : IntKind.i64.wrap ((i : Int) + 1) = (i : Int) + 1 := wrap_i64 (by omega) (by omega)
    generalize hq : xs[i] = q at *
    simp only [hcell, repV] at c0 c1 c2 c3 c4 c5 c6 c7 c8 hps
    cases hx : p q with
    | true =>
      simp [allLoopR, SC.loops, sf_checks_All_api_Report, e1, e7, e8, e9, eH, hlt, c0, c1, c2, c3, c4, c5, c6, c7, c8, hw, hn, hps, hx]
      exact ⟨_, by omega, i + 1, by omega, rfl, by omega, fun j h hj => by
        by_cases e : j = i
        · subst e; rw [hq]; exact hx
        · exact et j h (by omega)⟩
    | false =>
      simp [allLoopR, SC.loops, sf_checks_All_api_Report, e1, e7, e8, e9, eH, hlt, c0, c1, c2, c3, c4, c5, c6, c7, c8, hw, hn, hps, hx]
      exact ⟨q, by rw [← hq]; exact List.getElem_mem hlt, hx⟩
  · have : i = xs.length := by omega
    subst this
    simp [allLoopR, SC.loops, sf_checks_All_api_Report, e1, e7, e8, e9, eH]
    intro x hx
    obtain ⟨j, h, e⟩ := List.mem_iff_getElem.1 hx
    rw [← e]; exact et j h h
theorem run_allR (xs : List Rep) (hlen : xs.length < 2 ^ 62) (H : AH) (lim : Nat) (v f : Value) (p : Rep → Bool) (hv : Sl H v xs.length (repsV xs)) (hp : IsR H f p) :
    apL Tryz.prog pf (.func (.func 98) #[] #[]) [v, f] lim H = some (.bool (xs.all p), H) := by
  rw [apL_func _ _ _ _ _ _ (by rfl), sf_checks_All_api_Report_eq]
  have hv0 := hv
  obtain ⟨aa, ac, ev, _⟩ := hv0
  simp [sf_checks_All_api_Report, ev]
  generalize hS : ({ t := _, L := _, H := _, lim := _, rd := _ } : St) = S
  obtain ⟨⟨e, s1⟩, hr, q2, q3⟩ := all_loopR xs hlen H v f p hv hp S (by subst hS; simp) (by subst hS; simp [ev]) (by subst hS; simp) (by subst hS; simp) (by subst hS; rfl)
  simp [allLoopR, SC.loops, sf_checks_All_api_Report] at hr
  rw [hr]
  simp only at q2 q3
  rcases q3 with ⟨rfl, h⟩ | ⟨rfl, h4, h⟩
  · simp [h, q2, pf_pure, pureF]
  · simp [h, h4, q2, pf_pure, pureF]
theorem apL_meth (f : FuncId) (x : Value) (args : List Value) (lim : Nat) (H : AH) (h1 : orcA pf f #[x] #[] args = none) (h2 : orcA pf f #[] #[] (x :: args) = none) :
    apL Tryz.prog pf (.func (.func f) #[x] #[]) args lim H = apL Tryz.prog pf (.func (.func f) #[] #[]) (x :: args) lim H := by
  rw [apL_func _ _ _ _ _ _ h1, apL_func _ _ _ _ _ _ h2]
  have : (#[x] : Array Value).toList ++ args ++ (#[] : Array Value).toList = (#[] : Array Value).toList ++ (x :: args) ++ (#[] : Array Value).toList := by simp
  rw [this]
def nilS : Value := .slice none 0 0
theorem oneS_nil : OneS nilS := ⟨none, 0, 0, rfl⟩
def repF (x : Ds) (d t s r a b e : Value) : Value := .func (.func 99) #[srV x d t s r a b e] #[]
theorem isR_rep (x : Ds) (H : AH) (d t s r a b e : Value) (h : DsIn H x d t s r) (ha : OneS a) (hb : OneS b) (he : OneS e) : IsR H (repF x d t s r a b e) (repOk x.cells x.ticks) := by
  refine ⟨?_, fun H' hH q lim => ?_⟩
  · obtain ⟨⟨⟨da, dc, ed, _⟩, ⟨ta, tc, et, _⟩, ⟨sa, sc, es, _⟩, _, htl, _⟩, ⟨ra, rc, er, _⟩, _⟩ := h
    obtain ⟨a1, a2, a3, ea⟩ := ha
    obtain ⟨b1, b2, b3, eb⟩ := hb
    obtain ⟨e1, e2, e3, ee⟩ := he
    exact ⟨by simp [repF, srV, ed, et, es, er, ea, eb, ee], rfl, rfl⟩
  · unfold repF
    rw [apL_meth _ _ _ _ _ (by rfl) (by rfl)]
    exact run_fixIsReport x lim H' d t s r a b e (h.ext hH) ha hb he q
def dsOk (x : Ds) : Bool := (decide (1 ≤ x.g) && decide (x.g ≤ 100)) && (decide (0 ≤ x.pace) && decide (x.pace ≤ 5)) && decide (x.reps.length ≤ 12) && x.reps.all (repOk x.cells x.ticks)
theorem run_isDistress (x : Ds) (lim : Nat) (H : AH) (d t s r : Value) (h : DsIn H x d t s r) : apL Tryz.prog pf (.func (.func 56) #[] #[]) [dsV x d t s r] lim H = some (.bool (dsOk x), H) := by
  have hrl := h.rl
  rw [apL_func _ _ _ _ _ _ (by rfl), sf_fixes_isDistress_eq]
  have hb := fun l h lim H => run_between l h lim H
  generalize hH2 : H ++ [ABlk.rw 0 [.int .i64 1], .rw 0 [.int .i64 100]] = H2
  generalize hH3 : H2 ++ [ABlk.rw 0 [.int .i64 0], .rw 0 [.int .i64 5]] = H3
  have e1 := fun k lim => ext_between H 1 100 k lim
  have e2 := fun k lim => ext_between H2 0 5 k lim
  have b1 := fun lim => hb 1 100 lim H
  have b2 := fun lim => hb 0 5 lim H2
  rw [hH2] at e1 b1
  rw [hH3] at e2 b2
  have hE : Ext H H3 := by subst hH3; subst hH2; exact (Ext.push _ _).trans (Ext.push _ _)
  have h3 := h.ext hE
  have a3 := fun lim => run_allR x.reps h.rl H3 lim r _ _ h3.r (isR_rep x H3 d t s r _ _ _ h3 oneS_nil oneS_nil oneS_nil)
  obtain ⟨⟨⟨da, dc, ed, _⟩, ⟨ta, tc, et, _⟩, ⟨sa, sc, es, _⟩, _, htl, _⟩, ⟨ra, rc, er, _⟩, _⟩ := h
  simp only [betweenV, repF, srV, nilS, ed, et, es, er] at e1 e2 b1 b2 a3
  simp only [dsV, ed, et, es, er]
  cases c1 : (decide (1 ≤ x.g) && decide (x.g ≤ 100)) with
  | false => simp [sf_fixes_isDistress, b1, e1, c1, dsOk, pf_pure, pureF]
  | true =>
  cases c2 : (decide (0 ≤ x.pace) && decide (x.pace ≤ 5)) with
  | false => simp [sf_fixes_isDistress, b1, e1, c1, b2, e2, c2, dsOk, pf_pure, pureF]
  | true =>
  by_cases c3 : x.reps.length ≤ 12
  · have c3' : (x.reps.length : Int) ≤ 12 := by omega
    simp [sf_fixes_isDistress, b1, e1, c1, b2, e2, c2, c3, c3', a3, dsOk, pf_pure, pureF]
  · have c3' : ¬ (x.reps.length : Int) ≤ 12 := by omega
    simp [sf_fixes_isDistress, b1, e1, c1, b2, e2, c2, c3, c3', dsOk, pf_pure, pureF]
open Classical in
/-- The error of a distress. -/
noncomputable def dsE (x : Ds) : Int := if ChOk x.ch then (if dsOk x then 0 else 30) else 10
theorem run_fixCheck (x : Ds) (lim : Nat) (H : AH) (d t s r : Value) (h : DsIn H x d t s r) : apL Tryz.prog pf (.func (.func 20) #[] #[]) [dsV x d t s r] lim H = some (.int .i64 (dsE x), H) := by
  rw [apL_func _ _ _ _ _ _ (by rfl), sf_fixes_Check_eq]
  have hc := fun lim => run_chartCheck x.ch lim H d t s h.c
  have hd := fun lim => run_isDistress x lim H d t s r h
  obtain ⟨⟨⟨da, dc, ed, _⟩, ⟨ta, tc, et, _⟩, ⟨sa, sc, es, _⟩, _, htl, _⟩, ⟨ra, rc, er, _⟩, _⟩ := h
  simp only [chV, dsV, ed, et, es, er] at hc hd ⊢
  by_cases h1 : ChOk x.ch
  · cases h2 : dsOk x <;> simp [sf_fixes_Check, hc, hd, h1, h2, dsE, pf_pure, pureF]
  · simp [sf_fixes_Check, hc, h1, dsE, pf_pure, pureF]
end Go.Proofs.YtddnloghclemjaaGreatDoor
namespace Go.Proofs.YtddnloghclemjaaGreatDoor
open Go Go.RowKit
set_option maxHeartbeats 4000000 in
theorem run_refIsReport (x : Ds) (hok : ChOk x.ch) (lim : Nat) (H : AH) (d t s r : Value) (h : DsIn H x d t s r) (q : Rep) :
    apL Tryz.prog pf (.func (.func 60) #[] #[]) [dsV x d t s r, repV q] lim H = some (.bool (repOk x.cells x.ticks q), H) := by
  have t1 := fun k lim => run_IsTick x.ch k lim H d t s h.c
  have t2 := fun k lim => run_IsCellOk x.ch hok k lim H d t s h.c
  have t3 := fun lim => run_refBeam q lim H
  obtain ⟨⟨⟨da, dc, ed, _⟩, ⟨ta, tc, et, _⟩, ⟨sa, sc, es, _⟩, _, htl, _⟩, ⟨ra, rc, er, _⟩, _⟩ := h
  rw [apL_func _ _ _ _ _ _ (by rfl), sf_cobleref03_isReport_eq]
  simp only [chV, dsV, repV, ed, et, es, er] at t1 t2 t3 ⊢
  change ∀ k lim, _ = some (Value.bool (inN x.ticks k), H) at t1
  change ∀ k lim, _ = some (Value.bool (inN x.cells k), H) at t2
  cases c1 : inN x.ticks q.tick with
  | false => simp [sf_cobleref03_isReport, t1, pf_pure, pureF, repOk, c1]
  | true =>
  cases c2 : inN x.cells q.cell with
  | false => simp [sf_cobleref03_isReport, t1, t2, pf_pure, pureF, repOk, c1, c2]
  | true =>
  cases hs : q.sure with
  | true =>
    cases c3 : (q.w == 0) with
    | false =>
      have c3' : (q.w != 0) = true := by rw [bne, c3]; rfl
      simp [sf_cobleref03_isReport, t1, t2, pf_pure, pureF, repOk, c1, c2, weightOk, hs, c3, c3']
    | true =>
      have c3' : (q.w != 0) = false := by rw [bne, c3]; rfl
      by_cases k1 : q.kind = 1
      · cases d1 : (decide (0 ≤ q.a) && decide (q.a ≤ q.b)) <;> by_cases d2 : q.b ≤ 200 <;> cases d3 : (q.c == 0) <;> simp [sf_cobleref03_isReport, t1, t2, pf_pure, pureF, repOk, c1, c2, weightOk, hs, c3, c3', boundsOk, spanIn, k1, d1, d2, d3]
      by_cases k2 : q.kind = 2
      · rw [k2] at t3
        rw [hs] at t3
        simp [sf_cobleref03_isReport, t1, t2, t3, pf_pure, pureF, repOk, c1, c2, weightOk, hs, c3, c3', boundsOk, k2]
      by_cases k3 : q.kind = 3
      · cases d1 : (decide (0 ≤ q.a) && decide (q.a ≤ q.b)) <;> by_cases d2 : q.b ≤ 200 <;> cases d3 : (decide (0 ≤ q.c) && decide (q.c ≤ q.d)) <;> by_cases d4 : q.d ≤ 200 <;> simp [sf_cobleref03_isReport, t1, t2, pf_pure, pureF, repOk, c1, c2, weightOk, hs, c3, c3', boundsOk, spanIn, k3, d1, d2, d3, d4]
      by_cases k4 : q.kind = 4
      · cases d1 : (decide (0 ≤ q.a) && decide (q.a ≤ 200)) <;> cases d2 : (q.b == 0) <;> cases d3 : (q.c == 0) <;> simp [sf_cobleref03_isReport, t1, t2, pf_pure, pureF, repOk, c1, c2, weightOk, hs, c3, c3', boundsOk, k4, d1, d2, d3]
      · have b1 : (q.kind == 1) = false := by simpa using k1
        have b2 : (q.kind == 2) = false := by simpa using k2
        have b3 : (q.kind == 3) = false := by simpa using k3
        have b4 : (q.kind == 4) = false := by simpa using k4
        simp [sf_cobleref03_isReport, t1, t2, pf_pure, pureF, repOk, c1, c2, weightOk, hs, c3, c3', boundsOk, k1, k2, k3, k4, b1, b2, b3, b4]
  | false =>
    cases c3 : (decide (1 ≤ q.w) && decide (q.w ≤ 100)) with
    | false => simp [sf_cobleref03_isReport, t1, t2, pf_pure, pureF, repOk, c1, c2, weightOk, hs, c3]
    | true =>
      by_cases k1 : q.kind = 1
      · cases d1 : (decide (0 ≤ q.a) && decide (q.a ≤ q.b)) <;> by_cases d2 : q.b ≤ 200 <;> cases d3 : (q.c == 0) <;> simp [sf_cobleref03_isReport, t1, t2, pf_pure, pureF, repOk, c1, c2, weightOk, hs, c3, boundsOk, spanIn, k1, d1, d2, d3]
      by_cases k2 : q.kind = 2
      · rw [k2] at t3
        rw [hs] at t3
        simp [sf_cobleref03_isReport, t1, t2, t3, pf_pure, pureF, repOk, c1, c2, weightOk, hs, c3, boundsOk, k2]
      by_cases k3 : q.kind = 3
      · cases d1 : (decide (0 ≤ q.a) && decide (q.a ≤ q.b)) <;> by_cases d2 : q.b ≤ 200 <;> cases d3 : (decide (0 ≤ q.c) && decide (q.c ≤ q.d)) <;> by_cases d4 : q.d ≤ 200 <;> simp [sf_cobleref03_isReport, t1, t2, pf_pure, pureF, repOk, c1, c2, weightOk, hs, c3, boundsOk, spanIn, k3, d1, d2, d3, d4]
      by_cases k4 : q.kind = 4
      · cases d1 : (decide (0 ≤ q.a) && decide (q.a ≤ 200)) <;> cases d2 : (q.b == 0) <;> cases d3 : (q.c == 0) <;> simp [sf_cobleref03_isReport, t1, t2, pf_pure, pureF, repOk, c1, c2, weightOk, hs, c3, boundsOk, k4, d1, d2, d3]
      · have b1 : (q.kind == 1) = false := by simpa using k1
        have b2 : (q.kind == 2) = false := by simpa using k2
        have b3 : (q.kind == 3) = false := by simpa using k3
        have b4 : (q.kind == 4) = false := by simpa using k4
        simp [sf_cobleref03_isReport, t1, t2, pf_pure, pureF, repOk, c1, c2, weightOk, hs, c3, boundsOk, k1, k2, k3, k4, b1, b2, b3, b4]
end Go.Proofs.YtddnloghclemjaaGreatDoor
namespace Go.Proofs.YtddnloghclemjaaGreatDoor
open Go Go.RowKit
def checkLoopD : SC := sf_cobleref03_Check.body.loops.headD .skip
theorem check_loopD (x : Ds) (hok : ChOk x.ch) (hl12 : x.reps.length ≤ 12) (H : AH) (d t s r : Value) (hx : DsIn H x d t s r) (S : St) (h1 : tget S.t 1 = .pointer (some ⟨1, 0, some 0⟩)) (h3 : tget S.t 3 = .int .i64 0)
    (hL : S.L = [(1, 0, .cells [.int .i64 x.ch.w, .int .i64 x.ch.h, d, t, s, .int .i64 x.g, .int .i64 x.pace, r])]) (hH : S.H = H) :
    ∃ q, exL Tryz.prog pf (.loop checkLoopD) S = some q ∧ q.2.H = H ∧ ((q.1 = .exit 0 ∧ x.reps.all (repOk x.cells x.ticks) = true) ∨ (q.1 = .ret ∧ tget q.2.t 2 = .int .i64 30 ∧ x.reps.all (repOk x.cells x.ticks) = false)) := by
  have hr := fun q lim => run_refIsReport x hok lim H d t s r hx q
  have hv := hx.r
  obtain ⟨⟨⟨da, dc, ed, _⟩, ⟨ta, tc, et, _⟩, ⟨sa, sc, es, _⟩, _, htl, _⟩, ⟨ra, rc, er, _⟩, _⟩ := hx
  rw [er] at hv
  simp only [dsV, ed, et, es, er] at hr hL
  refine loop_rule (I := fun n s' => ∃ i, i ≤ x.reps.length ∧ n = x.reps.length - i ∧ tget s'.t 1 = .pointer (some ⟨1, 0, some 0⟩) ∧ tget s'.t 3 = .int .i64 i ∧ s'.L = S.L ∧ s'.H = H ∧ ∀ j (h : j < x.reps.length), j < i → repOk x.cells x.ticks x.reps[j] = true) ?_ x.reps.length S ⟨0, by omega, by omega, h1, h3, rfl, hH, by omega⟩
  rintro n s' ⟨i, hi, rfl, e1, e3, eL, eH, ep⟩
  rw [hL] at eL
  by_cases hlt : i < x.reps.length
  · obtain ⟨b1, o1, ac1, e, c0, c1, c2, c3, c4, c5, c6, c7, c8⟩ := rep_cells hv hlt
    cases e
    have hw : IntKind.i64.wrap ((i : Int) + 1) = (i : Int) + 1 := wrap_i64 (by omega) (by omega)
    have hps := hr x.reps[i]
    generalize hq : x.reps[i] = q at *
    simp only [hcell, repV] at c0 c1 c2 c3 c4 c5 c6 c7 c8 hps
    cases hxx : repOk x.cells x.ticks q with
    | true =>
      rw [hxx] at hps
      simp [checkLoopD, SC.loops, sf_cobleref03_Check, e1, e3, eL, eH, hlt, c0, c1, c2, c3, c4, c5, c6, c7, c8, hw, hps, hL]
      exact ⟨_, by omega, i + 1, by omega, rfl, by omega, fun j h hj => by
        by_cases e : j = i
        · subst e; rw [hq]; exact hxx
        · exact ep j h (by omega)⟩
    | false =>
      rw [hxx] at hps
      simp [checkLoopD, SC.loops, sf_cobleref03_Check, e1, e3, eL, eH, hlt, c0, c1, c2, c3, c4, c5, c6, c7, c8, hw, hps, hL]
      exact ⟨q, by rw [← hq]; exact List.getElem_mem hlt, hxx⟩
  · have : i = x.reps.length := by omega
    subst this
    simp [checkLoopD, SC.loops, sf_cobleref03_Check, e1, e3, eL, eH, hL]
    intro q hq
    obtain ⟨j, h, e⟩ := List.mem_iff_getElem.1 hq
    rw [← e]; exact ep j h h
theorem run_ref3Check (x : Ds) (lim : Nat) (H : AH) (d t s r : Value) (h : DsIn H x d t s r) : apL Tryz.prog pf (.func (.func 21) #[] #[]) [dsV x d t s r] lim H = some (.int .i64 (dsE x), H) := by
  rw [apL_func _ _ _ _ _ _ (by rfl), sf_cobleref03_Check_eq]
  have hc := fun lim => run_Check x.ch lim H d t s h.c
  have hg := fun lim H => run_IsDraught x.g lim H
  have h0 := h
  obtain ⟨⟨⟨da, dc, ed, _⟩, ⟨ta, tc, et, _⟩, ⟨sa, sc, es, _⟩, _, htl, _⟩, ⟨ra, rc, er, _⟩, _⟩ := h
  simp only [chV, dsV, ed, et, es, er] at hc ⊢
  by_cases h1 : ChOk x.ch
  rotate_left
  · simp [sf_cobleref03_Check, hc, h1, dsE, pf_pure, pureF]
  cases c1 : (decide (1 ≤ x.g) && decide (x.g ≤ 100)) with
  | false =>
    have : dsOk x = false := by simp only [dsOk, c1]; rfl
    simp [sf_cobleref03_Check, hc, h1, hg, c1, this, dsE, pf_pure, pureF]
  | true =>
  cases c2 : (decide (0 ≤ x.pace) && decide (x.pace ≤ 5)) with
  | false =>
    have : dsOk x = false := by simp only [dsOk, c1, c2]; rfl
    simp [sf_cobleref03_Check, hc, h1, hg, c1, c2, this, dsE, pf_pure, pureF]
  | true =>
  by_cases c3 : x.reps.length ≤ 12
  rotate_left
  · have c3' : (12 : Int) < (x.reps.length : Int) := by omega
    have : dsOk x = false := by simp only [dsOk, c1, c2, c3]; rfl
    simp [sf_cobleref03_Check, hc, h1, hg, c1, c2, c3', this, dsE, pf_pure, pureF]
  have c3' : ¬ (12 : Int) < (x.reps.length : Int) := by omega
  have hdo : dsOk x = x.reps.all (repOk x.cells x.ticks) := by simp only [dsOk, c1, c2, c3]; rfl
  simp [sf_cobleref03_Check, hc, h1, hg, c1, c2, c3']
  generalize hS : ({ t := _, L := _, H := _, lim := _, rd := _ } : St) = S
  obtain ⟨⟨e, s1⟩, hr, q2, q3⟩ := check_loopD x h1 c3 H d t s r h0 S (by subst hS; simp) (by subst hS; simp) (by subst hS; simp [ed, et, es, er]) (by subst hS; rfl)
  simp [checkLoopD, SC.loops, sf_cobleref03_Check] at hr
  rw [hr]
  simp only at q2 q3
  rcases q3 with ⟨rfl, k⟩ | ⟨rfl, k4, k⟩
  · simp [q2, dsE, h1, hdo, k, pf_pure, pureF]
  · simp [k4, q2, dsE, h1, hdo, k, pf_pure, pureF]
end Go.Proofs.YtddnloghclemjaaGreatDoor
namespace Go.Proofs.YtddnloghclemjaaGreatDoor
open Go Go.RowKit
def sameInts3Body : SC := match sf_coblelaw03_sameInts.body with | .seq _ (.seq _ (.seq (.seq _ (.block _ (.loop b))) _)) => b | _ => .skip
theorem sameInts3_loop (xs ys : List Int) (hxy : xs.length = ys.length) (hlen : xs.length < 2 ^ 62) (H : AH) (a b : Value) (ha : Sl H a xs.length (ints xs)) (hb : Sl H b ys.length (ints ys)) (s : St) (h0 : tget s.t 0 = a) (h1 : tget s.t 1 = b) (h5 : tget s.t 5 = .int .i64 0) (hL : s.L = []) (hH : s.H = H) :
    ∃ r, exL Tryz.prog pf (.loop sameInts3Body) s = some r ∧ r.2.L = [] ∧ r.2.H = H ∧ ((r.1 = .exit 0 ∧ xs = ys) ∨ (r.1 = .ret ∧ tget r.2.t 4 = .bool false ∧ xs ≠ ys)) := by
  obtain ⟨aa, ac, rfl, ha⟩ := ha
  obtain ⟨ba, bc, rfl, hb⟩ := hb
  refine loop_rule (I := fun n s => ∃ i, i ≤ xs.length ∧ n = xs.length - i ∧ tget s.t 0 = .slice aa xs.length ac ∧ tget s.t 1 = .slice ba ys.length bc ∧ tget s.t 5 = .int .i64 i ∧ s.L = [] ∧ s.H = H ∧ xs.take i = ys.take i) ?_ xs.length s ⟨0, by omega, by omega, h0, h1, h5, hL, hH, rfl⟩
  rintro n s ⟨i, hi, rfl, e0, e1, e5, eL, eH, et⟩
  by_cases hlt : i < xs.length
  · have hlt2 : i < ys.length := by omega
    obtain ⟨b1, o1, rfl, c1⟩ := ha i (.int .i64 xs[i]) (by simp [ints, hlt])
    obtain ⟨b2, o2, rfl, c2⟩ := hb i (.int .i64 ys[i]) (by simp [ints, hlt2])
    have hw : IntKind.i64.wrap ((i : Int) + 1) = (i : Int) + 1 := wrap_i64 (by omega) (by omega)
    simp only [hcell] at c1 c2
    by_cases heq : xs[i] = ys[i]
    · simp [sameInts3Body, sf_coblelaw03_sameInts, e0, e1, e5, eL, eH, hlt, hlt2, c1, c2, hw, heq]
      exact ⟨_, by omega, i + 1, by omega, rfl, by omega, by rw [List.take_add_one, List.take_add_one, et]; simp [hlt, hlt2, heq]⟩
    · have hne : (xs[i] != ys[i]) = true := by simpa using heq
      simp [sameInts3Body, sf_coblelaw03_sameInts, e0, e1, e5, eL, eH, hlt, hlt2, c1, c2, hw, hne]
      exact fun e => heq (by subst e; rfl)
  · have : i = xs.length := by omega
    subst this
    simp [sameInts3Body, sf_coblelaw03_sameInts, e0, e1, e5, eL, eH]
    rw [List.take_length, hxy, List.take_length] at et
    exact et
theorem run_sameInts3 (xs ys : List Int) (hlen : xs.length < 2 ^ 62) (lim : Nat) (H : AH) (a b : Value) (ha : Sl H a xs.length (ints xs)) (hb : Sl H b ys.length (ints ys)) :
    apL Tryz.prog pf (.func (.func 22) #[] #[]) [a, b] lim H = some (.bool (decide (xs = ys)), H) := by
  rw [apL_func _ _ _ _ _ _ (by rfl), sf_coblelaw03_sameInts_eq]
  obtain ⟨aa, ac, ea, ha'⟩ := ha
  obtain ⟨ba, bc, eb, hb'⟩ := hb
  by_cases hxy : xs.length = ys.length
  · have hh : ((xs.length : Int) != ys.length) = false := by simp [hxy]
    simp [sf_coblelaw03_sameInts, ea, eb, hh]
    generalize hS : ({ t := _, L := _, H := _, lim := _, rd := _ } : St) = S
    obtain ⟨⟨e, s'⟩, hr, q1, q2, q3⟩ := sameInts3_loop xs ys hxy hlen H a b ⟨aa, ac, ea, ha'⟩ ⟨ba, bc, eb, hb'⟩ S (by subst hS; simp [ea]) (by subst hS; simp [eb]) (by subst hS; simp) (by subst hS; rfl) (by subst hS; rfl)
    simp only [sameInts3Body, sf_coblelaw03_sameInts] at hr
    rw [hr]
    simp only at q1 q2 q3
    rcases q3 with ⟨rfl, h⟩ | ⟨rfl, h4, h⟩
    · simp [h, q1, q2, pf_pure, pureF]
    · simp [h, h4, q1, q2, pf_pure, pureF]
  · have hne : xs ≠ ys := fun e => hxy (by rw [e])
    have hh : ((xs.length : Int) != ys.length) = true := by simp; omega
    simp [sf_coblelaw03_sameInts, ea, eb, hh, hne, pf_pure, pureF]
structure DsSl (H : AH) (x : Ds) (d t s r : Value) : Prop where
  c : ChSl H x.ch d t s
  r : Sl H r x.reps.length (repsV x.reps)
def Vg (x : Ds) : Prop := Far x.ch ∨ x.reps.length > 14 ∨ (ChOk x.ch ∧ dsOk x = true ∧ (x.ch.w * x.ch.h > 20 ∨ x.ch.tide.length > 6 ∨ x.reps.length > 6))
theorem DsSl.near {H : AH} {x : Ds} {d t s r : Value} (h : DsSl H x d t s r) (hf : ¬ Far x.ch) (hl : ¬ x.reps.length > 14) : DsIn H x d t s r := ⟨h.c.near hf, h.r, by omega⟩
theorem run_Vague (x : Ds) (lim : Nat) (H : AH) (d t s r : Value) (h : DsSl H x d t s r) [Decidable (Vg x)] : apL Tryz.prog pf (.func (.func 13) #[] #[]) [dsV x d t s r] lim H = some (.bool (decide (Vg x)), H) := by
  rw [apL_func _ _ _ _ _ _ (by rfl), sf_coblelaw03_Vague_eq]
  have h0 := h
  by_cases hf : Far x.ch
  · have hV := fun lim => run_VastFar x.ch lim H d t s h.c hf
    obtain ⟨⟨⟨da, dc, ed, _⟩, ⟨ta, tc, et, _⟩, ⟨sa, sc, es, _⟩⟩, ⟨ra, rc, er, _⟩⟩ := h
    simp only [chV, dsV, ed, et, es, er] at hV ⊢
    have hv : Vg x := .inl hf
    simp [sf_coblelaw03_Vague, hV, hv, pf_pure, pureF]
  by_cases hl : x.reps.length > 14
  · have hV := fun lim => run_VastF x.ch lim H d t s (h.c.near hf) hf
    obtain ⟨⟨⟨da, dc, ed, _⟩, ⟨ta, tc, et, _⟩, ⟨sa, sc, es, _⟩⟩, ⟨ra, rc, er, _⟩⟩ := h
    simp only [chV, dsV, ed, et, es, er] at hV ⊢
    have hv : Vg x := .inr (.inl hl)
    have hl' : (14 : Int) < (x.reps.length : Int) := by omega
    simp [sf_coblelaw03_Vague, hV, hv, hl', pf_pure, pureF]
  have hi := h.near hf hl
  have hV := fun lim => run_VastF x.ch lim H d t s hi.c hf
  have hC := fun lim => run_ref3Check x lim H d t s r hi
  obtain ⟨⟨⟨da, dc, ed, _⟩, ⟨ta, tc, et, _⟩, ⟨sa, sc, es, _⟩⟩, ⟨ra, rc, er, _⟩⟩ := h
  simp only [chV, dsV, ed, et, es, er] at hV hC ⊢
  have hl' : ¬ (14 : Int) < (x.reps.length : Int) := by omega
  by_cases hok : ChOk x.ch
  rotate_left
  · have hv : ¬ Vg x := by rintro (h | h | h); exact hf h; exact hl h; exact hok h.1
    simp [sf_coblelaw03_Vague, hV, hC, dsE, hok, hv, hl', pf_pure, pureF]
  cases hdo : dsOk x with
  | false =>
    have hv : ¬ Vg x := by rintro (h | h | h); exact hf h; exact hl h; exact absurd h.2.1 (by rw [hdo]; simp)
    simp [sf_coblelaw03_Vague, hV, hC, dsE, hok, hdo, hv, hl', pf_pure, pureF]
  | true =>
    obtain ⟨m1, m2, m3⟩ := hok.mul
    have hm : IntKind.i64.wrap (x.ch.w * x.ch.h) = x.ch.w * x.ch.h := wrap_i64 (by omega) (by omega)
    have hv : Vg x ↔ (x.ch.w * x.ch.h > 20 ∨ x.ch.tide.length > 6 ∨ x.reps.length > 6) :=
      ⟨fun h => by
        rcases h with h | h | h
        · exact absurd h hf
        · exact absurd h hl
        · exact h.2.2, fun h => .inr (.inr ⟨hok, hdo, h⟩)⟩
    by_cases b1 : x.ch.w * x.ch.h > 20
    · have b1' : (20 : Int) < x.ch.w * x.ch.h := b1
      have hv' : Vg x := hv.2 (.inl b1)
      simp [sf_coblelaw03_Vague, hV, hC, dsE, hok, hdo, hv', hl', hm, b1', pf_pure, pureF]
    by_cases b2 : x.ch.tide.length > 6
    · have b1' : ¬ (20 : Int) < x.ch.w * x.ch.h := b1
      have b2' : (6 : Int) < (x.ch.tide.length : Int) := by omega
      have hv' : Vg x := hv.2 (.inr (.inl b2))
      simp [sf_coblelaw03_Vague, hV, hC, dsE, hok, hdo, hv', hl', hm, b1', b2', pf_pure, pureF]
    have b1' : ¬ (20 : Int) < x.ch.w * x.ch.h := b1
    have b2' : ¬ (6 : Int) < (x.ch.tide.length : Int) := by omega
    by_cases b3 : x.reps.length > 6
    · have b3' : (6 : Int) < (x.reps.length : Int) := by omega
      have hv' : Vg x := hv.2 (.inr (.inr b3))
      simp [sf_coblelaw03_Vague, hV, hC, dsE, hok, hdo, hv', hl', hm, b1', b2', b3', pf_pure, pureF]
    · have b3' : ¬ (6 : Int) < (x.reps.length : Int) := by omega
      have hv' : ¬ Vg x := fun h => by rcases hv.1 h with h | h | h; exact b1 h; exact b2 h; exact b3 h
      simp [sf_coblelaw03_Vague, hV, hC, dsE, hok, hdo, hv', hl', hm, b1', b2', b3', pf_pure, pureF]
end Go.Proofs.YtddnloghclemjaaGreatDoor
namespace Go.Proofs.YtddnloghclemjaaGreatDoor
open Go Go.RowKit
def wayT : List (Int × Int × Int) := [(0, 1, 1), (1, 0, 1), (1, -1, 0), (0, -1, -1), (-1, -1, 0), (-1, 0, 1)]
def wayN (k : Nat) : Int := (wayT.getD k (0, 0, 0)).1
def wayE (k : Nat) : Int := (wayT.getD k (0, 0, 0)).2.1
def wayO (k : Nat) : Int := (wayT.getD k (0, 0, 0)).2.2
theorem way_bounds : ∀ k : Nat, (-1 ≤ wayN k ∧ wayN k ≤ 1) ∧ (-1 ≤ wayE k ∧ wayE k ≤ 1) ∧ (-1 ≤ wayO k ∧ wayO k ≤ 1)
  | 0 => by decide
  | 1 => by decide
  | 2 => by decide
  | 3 => by decide
  | 4 => by decide
  | 5 => by decide
  | n + 6 => by simp [wayN, wayE, wayO, wayT]
def nxR (w i : Int) (k : Nat) : Int := i / w + wayN k
def nxC (w i : Int) (k : Nat) : Int := i % w + (if i / w % 2 = 0 then wayE k else wayO k)
def nxIn (w h i : Int) (k : Nat) : Bool := decide (0 ≤ nxR w i k) && decide (nxR w i k ≤ h - 1) && (decide (0 ≤ nxC w i k) && decide (nxC w i k ≤ w - 1))
def nxt (w h i : Int) (k : Nat) : Option Int := if nxIn w h i k = true then some (nxR w i k * w + nxC w i k) else none
theorem rowcol {w h i : Int} (hw : 1 ≤ w) (h0 : 0 ≤ i) (h1 : i < w * h) : (0 ≤ i / w ∧ i / w < h) ∧ (0 ≤ i % w ∧ i % w < w) ∧ i = i / w * w + i % w := by
  refine ⟨⟨Int.ediv_nonneg h0 (by omega), Int.ediv_lt_of_lt_mul (by omega) (by rw [Int.mul_comm]; exact h1)⟩, ⟨Int.emod_nonneg _ (by omega), Int.emod_lt_of_pos _ (by omega)⟩, ?_⟩
  have := Int.mul_ediv_add_emod i w
  rw [Int.mul_comm] at this
  exact this.symm
theorem nxt_some {w h i n : Int} {k : Nat} (hw : 1 ≤ w) (hh : 1 ≤ h) (e : nxt w h i k = some n) : 0 ≤ n ∧ n < w * h ∧ n / w = nxR w i k ∧ n % w = nxC w i k ∧ nxIn w h i k = true := by
  unfold nxt at e
  split at e
  · rename_i hin
    have hin' := hin
    simp only [nxIn, Bool.and_eq_true, decide_eq_true_eq] at hin
    obtain ⟨⟨r0, r1⟩, c0, c1⟩ := hin
    have en := Option.some.inj e
    have hm : nxR w i k * w ≤ (h - 1) * w := Int.mul_le_mul_of_nonneg_right r1 (by omega)
    have h0 : 0 ≤ nxR w i k * w := Int.mul_nonneg r0 (by omega)
    have e2 : (h - 1) * w = w * h - w := by rw [Int.sub_mul, Int.mul_comm h w, Int.one_mul]
    have e3 : n = nxC w i k + nxR w i k * w := by omega
    refine ⟨by omega, by omega, ?_, ?_, hin'⟩
    · rw [e3, Int.add_mul_ediv_right _ _ (by omega), Int.ediv_eq_zero_of_lt c0 (by omega), Int.zero_add]
    · rw [e3, Int.add_mul_emod_self_right, Int.emod_eq_of_lt c0 (by omega)]
  · cases e
end Go.Proofs.YtddnloghclemjaaGreatDoor
namespace Go.Proofs.YtddnloghclemjaaGreatDoor
open Go Go.RowKit
def dst (a b : Int) : Int := max (a - b) (b - a)
theorem run_dst (a b : Int) (h : -1000000 ≤ a - b ∧ a - b ≤ 1000000) (lim : Nat) (H : AH) : apL Tryz.prog pf (.func (.func 147) #[] #[]) [.int .i64 a, .int .i64 b] lim H = some (.int .i64 (dst a b), H) := by
  rw [run_distance, wrap_i64 (by omega) (by omega), wrap_i64 (by omega) (by omega)]
  unfold dst
  rw [Int.max_def]
  congr 3
  split <;> split <;> omega
def estN (w i : Int) : Int := i % w * 2 + i / w % 2
theorem run_est (c : Ch) (hok : ChOk c) (lim : Nat) (H : AH) (d t s : Value) (hc : ChIn H c d t s) {i : Nat} (hi : i < c.cells) : apL Tryz.prog pf (.func (.func 148) #[] #[]) [chV c d t s, .int .i64 i] lim H = some (.int .i64 (estN c.w i), H) := by
  obtain ⟨m0, m1, m2⟩ := hok.mul
  obtain ⟨hw, hh, _⟩ := hok
  obtain ⟨⟨r0, r1⟩, ⟨q0, q1⟩, hiq⟩ := rowcol (h := c.h) hw.1 (Int.natCast_nonneg i) (by rw [m2]; exact Int.ofNat_lt.2 hi)
  have := run_east i c.w (by omega) [.int .i64 c.h, d, t, s] lim H
  rw [chV]
  rw [this]
  rw [Int.tdiv_eq_ediv_of_nonneg (Int.natCast_nonneg i), Int.tmod_eq_emod_of_nonneg (Int.natCast_nonneg i), wrap_i64 (n := (i : Int) / c.w) (by omega) (by omega), Int.tmod_eq_emod_of_nonneg r0, wrap_i64 (n := (i : Int) % c.w * 2) (by omega) (by omega), wrap_i64 (by omega) (by omega)]
  rfl
def apt (w a b : Int) : Int := dst (a / w) (b / w) + max 0 (dst (estN w a) (estN w b) - dst (a / w) (b / w)) / 2
theorem run_apart (c : Ch) (hok : ChOk c) (lim : Nat) (H : AH) (d t s : Value) (hc : ChIn H c d t s) {i k : Nat} (hi : i < c.cells) (hk : k < c.cells) :
    apL Tryz.prog pf (.func (.func 137) #[] #[]) [chV c d t s, .int .i64 i, .int .i64 k] lim H = some (.int .i64 (apt c.w i k), H) := by
  rw [apL_func _ _ _ _ _ _ (by rfl), sf_chart_sea_apart_eq]
  have e1 := fun lim => run_est c hok lim H d t s hc hi
  have e2 := fun lim => run_est c hok lim H d t s hc hk
  obtain ⟨m0, m1, m2⟩ := hok.mul
  obtain ⟨hw, hh, _⟩ := hok
  obtain ⟨⟨r0, r1⟩, ⟨q0, q1⟩, hiq⟩ := rowcol (h := c.h) hw.1 (Int.natCast_nonneg i) (by rw [m2]; exact Int.ofNat_lt.2 hi)
  obtain ⟨⟨r0', r1'⟩, ⟨q0', q1'⟩, hiq'⟩ := rowcol (h := c.h) hw.1 (Int.natCast_nonneg k) (by rw [m2]; exact Int.ofNat_lt.2 hk)
  have d1 := run_dst ((i : Int) / c.w) ((k : Int) / c.w) (by omega)
  have ee1 : 0 ≤ estN c.w i ∧ estN c.w i ≤ 1000 := by unfold estN; omega
  have ee2 : 0 ≤ estN c.w k ∧ estN c.w k ≤ 1000 := by unfold estN; omega
  have d2 := run_dst (estN c.w i) (estN c.w k) (by omega)
  have hw0 : c.w ≠ 0 := by omega
  have hd : (i : Int).tdiv c.w = (i : Int) / c.w := Int.tdiv_eq_ediv_of_nonneg (Int.natCast_nonneg i)
  have hd' : (k : Int).tdiv c.w = (k : Int) / c.w := Int.tdiv_eq_ediv_of_nonneg (Int.natCast_nonneg k)
  have w1 : IntKind.i64.wrap ((i : Int) / c.w) = (i : Int) / c.w := wrap_i64 (by omega) (by omega)
  have w1' : IntKind.i64.wrap ((k : Int) / c.w) = (k : Int) / c.w := wrap_i64 (by omega) (by omega)
  have B1 : 0 ≤ dst ((i : Int) / c.w) ((k : Int) / c.w) ∧ dst ((i : Int) / c.w) ((k : Int) / c.w) ≤ 1000 := by unfold dst; omega
  have B2 : 0 ≤ dst (estN c.w i) (estN c.w k) ∧ dst (estN c.w i) (estN c.w k) ≤ 1000 := by unfold dst; omega
  have w2 : IntKind.i64.wrap (dst (estN c.w i) (estN c.w k) - dst ((i : Int) / c.w) ((k : Int) / c.w)) = dst (estN c.w i) (estN c.w k) - dst ((i : Int) / c.w) ((k : Int) / c.w) := wrap_i64 (by omega) (by omega)
  have hmax : (if dst (estN c.w i) (estN c.w k) - dst ((i : Int) / c.w) ((k : Int) / c.w) > 0 then dst (estN c.w i) (estN c.w k) - dst ((i : Int) / c.w) ((k : Int) / c.w) else 0) = max 0 (dst (estN c.w i) (estN c.w k) - dst ((i : Int) / c.w) ((k : Int) / c.w)) := by
    rw [Int.max_def]; split <;> split <;> omega
  have hm0 : 0 ≤ max 0 (dst (estN c.w i) (estN c.w k) - dst ((i : Int) / c.w) ((k : Int) / c.w)) := Int.le_max_left _ _
  have hm1 : max 0 (dst (estN c.w i) (estN c.w k) - dst ((i : Int) / c.w) ((k : Int) / c.w)) ≤ 1000 := by omega
  have ht : (max 0 (dst (estN c.w i) (estN c.w k) - dst ((i : Int) / c.w) ((k : Int) / c.w))).tdiv 2 = max 0 (dst (estN c.w i) (estN c.w k) - dst ((i : Int) / c.w) ((k : Int) / c.w)) / 2 := Int.tdiv_eq_ediv_of_nonneg hm0
  have w3 : IntKind.i64.wrap (max 0 (dst (estN c.w i) (estN c.w k) - dst ((i : Int) / c.w) ((k : Int) / c.w)) / 2) = max 0 (dst (estN c.w i) (estN c.w k) - dst ((i : Int) / c.w) ((k : Int) / c.w)) / 2 := wrap_i64 (by omega) (by omega)
  have w4 : IntKind.i64.wrap (apt c.w i k) = apt c.w i k := by
    have : 0 ≤ apt c.w i k ∧ apt c.w i k ≤ 10000 := by unfold apt; omega
    exact wrap_i64 (by omega) (by omega)
  obtain ⟨⟨da, dc, ed, _⟩, ⟨ta, tc, et, _⟩, ⟨sa, sc, es, _⟩, _, _, _⟩ := hc
  simp only [chV, ed, et, es] at e1 e2
  unfold apt at w4 ⊢
  generalize hD1 : dst ((i : Int) / c.w) ((k : Int) / c.w) = D1 at *
  generalize hD2 : dst (estN c.w i) (estN c.w k) = D2 at *
  simp [-Int.sub_pos, -gt_iff_lt, sf_chart_sea_apart, chV, ed, et, es, hw0, hd, hd', w1, w1', d1, e1, e2, d2, w2, hmax, ht, w3, w4, pf_pure, pureF]
noncomputable def apartN (c : Ch) (a b : Int) : Int := if openE c [a, b] [] = 0 then apt c.w a b else 0
theorem run_Apart (c : Ch) (lim : Nat) (H : AH) (d t s : Value) (hc : ChIn H c d t s) (a b : Int) :
    apL Tryz.prog pf (.func (.func 113) #[] #[]) [chV c d t s, .int .i64 a, .int .i64 b] lim H = some (.tuple #[.int .i64 (apartN c a b), .int .i64 (openE c [a, b] [])], H) := by
  rw [apL_func _ _ _ _ _ _ (by rfl), sf_chart_Apart_eq]
  have hc2 : ChIn (H ++ [.rw 1 (ints [a, b])]) c d t s := hc.ext (Ext.push H _)
  have ho := fun lim => run_open c lim _ d t s hc2 [a, b] [] (.slice (some ⟨H.length, 0, none⟩) 2 2) (.slice none 0 0) (Sl.made (by simp) rfl) Sl.nil (by simp) (by simp)
  by_cases h0 : openE c [a, b] [] = 0
  rotate_left
  · have h1 : (openE c [a, b] [] != 0) = true := by simpa using h0
    obtain ⟨⟨da, dc, ed, _⟩, ⟨ta, tc, et, _⟩, ⟨sa, sc, es, _⟩, _, _, _⟩ := hc
    simp only [h0, if_false, chV, ed, et, es, ints, List.map, noCh] at ho
    simp [sf_chart_Apart, chV, ed, et, es, ho, h0, h1, apartN, pf_pure, pureF]
  obtain ⟨hok, h1, _⟩ := openE_zero h0
  simp only [List.all_cons, List.all_nil, Bool.and_true, Bool.and_eq_true, inN_iff] at h1
  obtain ⟨⟨i, hi, rfl⟩, k, hk, rfl⟩ := h1
  have hn := fun lim => run_apart c hok lim _ d t s hc2 hi hk
  obtain ⟨⟨da, dc, ed, _⟩, ⟨ta, tc, et, _⟩, ⟨sa, sc, es, _⟩, _, _, _⟩ := hc
  simp only [h0, if_true, chV, ed, et, es, ints, List.map] at ho hn
  simp [sf_chart_Apart, chV, ed, et, es, ho, h0, hn, apartN, pf_pure, pureF]
end Go.Proofs.YtddnloghclemjaaGreatDoor
namespace Go.Proofs.YtddnloghclemjaaGreatDoor
open Go Go.RowKit
theorem nxt_iff {w h a b : Int} {k : Nat} (hw : 1 ≤ w) (hh : 1 ≤ h) (b0 : 0 ≤ b) (b1 : b < w * h) : nxt w h a k = some b ↔ b / w = nxR w a k ∧ b % w = nxC w a k := by
  constructor
  · intro e; obtain ⟨_, _, h1, h2, _⟩ := nxt_some hw hh e; exact ⟨h1, h2⟩
  · rintro ⟨h1, h2⟩
    obtain ⟨⟨r0, r1⟩, ⟨q0, q1⟩, e⟩ := rowcol (h := h) hw b0 b1
    have : nxIn w h a k = true := by
      simp only [nxIn, Bool.and_eq_true, decide_eq_true_eq]
      omega
    unfold nxt
    rw [if_pos this, ← h1, ← h2, ← e]
theorem nxt_back {w h a n : Int} (hw : 1 ≤ w) (hh : 1 ≤ h) (a0 : 0 ≤ a) (a1 : a < w * h) : ∀ {k : Nat}, k < 6 → nxt w h a k = some n → nxt w h n ((k + 3) % 6) = some a := by
  intro k hk e
  obtain ⟨n0, n1, e1, e2, _⟩ := nxt_some hw hh e
  refine (nxt_iff hw hh a0 a1).2 ?_
  unfold nxR nxC at *
  rw [e1, e2]
  generalize a / w = r at *
  generalize a % w = q at *
  match k, hk with
  | 0, _ | 1, _ | 2, _ | 3, _ | 4, _ | 5, _ =>
    simp [wayN, wayE, wayO, wayT] at *
    try split
    all_goals (try split)
    all_goals omega
  | n + 6, h => omega
theorem apt_symm (w a b : Int) : apt w a b = apt w b a := by
  unfold apt
  have h : ∀ x y, dst x y = dst y x := fun x y => by unfold dst; exact Int.max_comm _ _
  rw [h (a / w), h (estN w a)]
theorem apt_zero {w h a b : Int} (hw : 1 ≤ w) (a0 : 0 ≤ a) (a1 : a < w * h) (b0 : 0 ≤ b) (b1 : b < w * h) : apt w a b = 0 ↔ a = b := by
  obtain ⟨_, _, ea⟩ := rowcol (h := h) hw a0 a1
  obtain ⟨_, _, eb⟩ := rowcol (h := h) hw b0 b1
  constructor
  · intro e
    have : a / w = b / w ∧ a % w = b % w := by
      unfold apt dst estN at e
      omega
    rw [ea, eb, this.1, this.2]
  · rintro rfl; unfold apt dst; omega
theorem apt_tri (w a b c : Int) : apt w a b ≤ apt w a c + apt w c b := by
  unfold apt estN
  generalize a / w = r1
  generalize b / w = r2
  generalize c / w = r3
  generalize a % w = q1
  generalize b % w = q2
  generalize c % w = q3
  have key : ∀ x y : Int, 0 ≤ x → 0 ≤ y → (x + y) % 2 = 0 → 2 * (x + max 0 (y - x) / 2) = max (2 * x) (x + y) := fun x y _ _ _ => by omega
  have p1 := key (dst r1 r2) (dst (q1 * 2 + r1 % 2) (q2 * 2 + r2 % 2)) (by unfold dst; omega) (by unfold dst; omega) (by unfold dst; omega)
  have p2 := key (dst r1 r3) (dst (q1 * 2 + r1 % 2) (q3 * 2 + r3 % 2)) (by unfold dst; omega) (by unfold dst; omega) (by unfold dst; omega)
  have p3 := key (dst r3 r2) (dst (q3 * 2 + r3 % 2) (q2 * 2 + r2 % 2)) (by unfold dst; omega) (by unfold dst; omega) (by unfold dst; omega)
  have t1 : dst r1 r2 ≤ dst r1 r3 + dst r3 r2 := by unfold dst; omega
  have t2 : dst (q1 * 2 + r1 % 2) (q2 * 2 + r2 % 2) ≤ dst (q1 * 2 + r1 % 2) (q3 * 2 + r3 % 2) + dst (q3 * 2 + r3 % 2) (q2 * 2 + r2 % 2) := by unfold dst; omega
  omega
def nearB (w h a b : Int) (n : Nat) : Bool := (List.range n).any fun k => nxt w h a k == some b
set_option maxHeartbeats 1000000 in
theorem apt_one {w h a b : Int} (hw : 1 ≤ w) (hh : 1 ≤ h) (a0 : 0 ≤ a) (a1 : a < w * h) (b0 : 0 ≤ b) (b1 : b < w * h) : apt w a b = 1 ↔ nearB w h a b 6 = true := by
  have hn : nearB w h a b 6 = true ↔ ∃ k : Nat, k < 6 ∧ b / w = nxR w a k ∧ b % w = nxC w a k := by
    unfold nearB
    rw [List.any_eq_true]
    constructor
    · rintro ⟨k, hk, e⟩; exact ⟨k, by simpa using hk, (nxt_iff hw hh b0 b1).1 (by simpa using e)⟩
    · rintro ⟨k, hk, e⟩; exact ⟨k, by simpa using hk, by simpa using (nxt_iff hw hh b0 b1).2 e⟩
  rw [hn]
  unfold nxR nxC apt estN
  generalize a / w = r1
  generalize b / w = r2
  generalize a % w = q1
  generalize b % w = q2
  have key : ∀ x y : Int, 0 ≤ x → 0 ≤ y → (x + y) % 2 = 0 → (x + max 0 (y - x) / 2 = 1 ↔ (x = 1 ∧ y = 1) ∨ (x = 0 ∧ y = 2)) := fun x y _ _ _ => by omega
  rw [key (dst r1 r2) (dst (q1 * 2 + r1 % 2) (q2 * 2 + r2 % 2)) (by unfold dst; omega) (by unfold dst; omega) (by unfold dst; omega)]
  have ab : ∀ x y n : Int, 0 ≤ n → (dst x y = n ↔ y = x + n ∨ y = x - n) := fun x y n _ => by unfold dst; omega
  rw [ab _ _ 1 (by omega), ab _ _ 1 (by omega), ab _ _ 0 (by omega), ab _ _ 2 (by omega)]
  constructor
  · intro e
    by_cases par : r1 % 2 = 0
    · simp only [par, if_true]
      have : (r2 = r1 ∧ q2 = q1 + 1) ∨ (r2 = r1 + 1 ∧ q2 = q1) ∨ (r2 = r1 + 1 ∧ q2 = q1 - 1) ∨ (r2 = r1 ∧ q2 = q1 - 1) ∨ (r2 = r1 - 1 ∧ q2 = q1 - 1) ∨ (r2 = r1 - 1 ∧ q2 = q1) := by omega
      rcases this with h | h | h | h | h | h
      · exact ⟨0, by omega, by simp [wayN, wayE, wayT]; omega⟩
      · exact ⟨1, by omega, by simp [wayN, wayE, wayT]; omega⟩
      · exact ⟨2, by omega, by simp [wayN, wayE, wayT]; omega⟩
      · exact ⟨3, by omega, by simp [wayN, wayE, wayT]; omega⟩
      · exact ⟨4, by omega, by simp [wayN, wayE, wayT]; omega⟩
      · exact ⟨5, by omega, by simp [wayN, wayE, wayT]; omega⟩
    · simp only [par, if_false]
      have : (r2 = r1 ∧ q2 = q1 + 1) ∨ (r2 = r1 + 1 ∧ q2 = q1 + 1) ∨ (r2 = r1 + 1 ∧ q2 = q1) ∨ (r2 = r1 ∧ q2 = q1 - 1) ∨ (r2 = r1 - 1 ∧ q2 = q1) ∨ (r2 = r1 - 1 ∧ q2 = q1 + 1) := by omega
      rcases this with h | h | h | h | h | h
      · exact ⟨0, by omega, by simp [wayN, wayO, wayT]; omega⟩
      · exact ⟨1, by omega, by simp [wayN, wayO, wayT]; omega⟩
      · exact ⟨2, by omega, by simp [wayN, wayO, wayT]; omega⟩
      · exact ⟨3, by omega, by simp [wayN, wayO, wayT]; omega⟩
      · exact ⟨4, by omega, by simp [wayN, wayO, wayT]; omega⟩
      · exact ⟨5, by omega, by simp [wayN, wayO, wayT]; omega⟩
  · rintro ⟨k, hk, h1, h2⟩
    match k, hk with
    | 0, _ | 1, _ | 2, _ | 3, _ | 4, _ | 5, _ =>
      simp [wayN, wayE, wayO, wayT] at h1 h2
      by_cases par : r1 % 2 = 0
      · (try simp [par] at h2); omega
      · (try simp [par] at h2); omega
    | n + 6, h => omega
end Go.Proofs.YtddnloghclemjaaGreatDoor
namespace Go.Proofs.YtddnloghclemjaaGreatDoor
open Go Go.RowKit
theorem nxt_of {w h a : Int} {k : Nat} (hw : 1 ≤ w) (hh : 1 ≤ h) (h1 : 0 ≤ nxR w a k) (h2 : nxR w a k ≤ h - 1) (h3 : 0 ≤ nxC w a k) (h4 : nxC w a k ≤ w - 1) : ∃ b, nxt w h a k = some b ∧ 0 ≤ b ∧ b < w * h ∧ b / w = nxR w a k ∧ b % w = nxC w a k := by
  have : nxIn w h a k = true := by simp only [nxIn, Bool.and_eq_true, decide_eq_true_eq]; omega
  have e : nxt w h a k = some (nxR w a k * w + nxC w a k) := by unfold nxt; rw [if_pos this]
  obtain ⟨x0, x1, x2, x3, _⟩ := nxt_some hw hh e
  exact ⟨_, e, x0, x1, x2, x3⟩
set_option maxHeartbeats 1000000 in
theorem step_near {w h n ra ea rb qb : Int} (hn : 0 ≤ n) (r0 : 0 ≤ ra) (r1 : ra < h) (r0' : 0 ≤ rb) (r1' : rb < h) (q0' : 0 ≤ qb) (q1' : qb < w) (e0 : 0 ≤ ea) (e1 : ea ≤ 2 * (w - 1) + 1) (e2 : ea % 2 = ra % 2)
    (e : max (2 * dst ra rb) (dst ra rb + dst ea (qb * 2 + rb % 2)) = 2 * (n + 1)) :
    ∃ k : Nat, k < 6 ∧ 0 ≤ rb + wayN k ∧ rb + wayN k ≤ h - 1 ∧ 0 ≤ qb + (if rb % 2 = 0 then wayE k else wayO k) ∧ qb + (if rb % 2 = 0 then wayE k else wayO k) ≤ w - 1 ∧
      max (2 * dst ra (rb + wayN k)) (dst ra (rb + wayN k) + dst ea ((qb + (if rb % 2 = 0 then wayE k else wayO k)) * 2 + (rb + wayN k) % 2)) = 2 * n := by
  have hp : (dst ra rb + dst ea (qb * 2 + rb % 2)) % 2 = 0 := by unfold dst; omega
  have D : ∀ x y : Int, (x ≤ y → dst x y = y - x) ∧ (y ≤ x → dst x y = x - y) := fun x y => by unfold dst; omega
  have X0 : 0 ≤ dst ra rb := by unfold dst; omega
  have Y0 : 0 ≤ dst ea (qb * 2 + rb % 2) := by unfold dst; omega
  have G1 : ∀ X' Y' : Int, X' = dst ra rb - 1 → Y' = dst ea (qb * 2 + rb % 2) - 1 → max (2 * X') (X' + Y') = 2 * n := fun X' Y' h1 h2 => by omega
  have G2 : ∀ X' Y' : Int, X' = dst ra rb - 1 → dst ea (qb * 2 + rb % 2) = 0 → 1 ≤ dst ra rb → Y' = 1 → max (2 * X') (X' + Y') = 2 * n := fun X' Y' h1 h2 h3 h4 => by omega
  have G3 : ∀ X' Y' : Int, X' = 0 → dst ra rb = 0 → Y' = dst ea (qb * 2 + rb % 2) - 2 → max (2 * X') (X' + Y') = 2 * n := fun X' Y' h1 h2 h3 => by omega
  have Y2 : ra = rb → ea ≠ qb * 2 + rb % 2 := fun h1 h2 => by
    have := (D ra rb).1 (by omega)
    have := (D ea (qb * 2 + rb % 2)).1 (by omega)
    omega
  by_cases par : rb % 2 = 0
  · rcases Int.lt_trichotomy ra rb with hr | hr | hr
    · by_cases hc : qb * 2 + rb % 2 > ea
      · skip
        have a1 := (D ra rb).1 (by omega)
        have a2 := (D ea (qb * 2 + rb % 2)).1 (by omega)
        have r1 := (D ra (rb + -1)).1 (by omega)
        have r2 := (D ea ((qb + -1) * 2 + (rb + -1) % 2)).1 (by omega)
        refine ⟨4, by decide, ?_⟩
        simp only [par, if_true, show wayN 4 = -1 from rfl, show wayE 4 = -1 from rfl]
        exact ⟨by clear G1 G2 G3 Y2 D; omega, by clear G1 G2 G3 Y2 D; omega, by clear G1 G2 G3 Y2 D; omega, by clear G1 G2 G3 Y2 D; omega, G1 _ _ (by omega) (by omega)⟩
      · by_cases hz : qb * 2 + rb % 2 = ea
        · skip
          have a1 := (D ra rb).1 (by omega)
          have a2 := (D ea (qb * 2 + rb % 2)).1 (by omega)
          have r1 := (D ra (rb + -1)).1 (by omega)
          have r2 := (D ea ((qb + 0) * 2 + (rb + -1) % 2)).1 (by omega)
          refine ⟨5, by decide, ?_⟩
          simp only [par, if_true, show wayN 5 = -1 from rfl, show wayE 5 = 0 from rfl]
          exact ⟨by clear G1 G2 G3 Y2 D; omega, by clear G1 G2 G3 Y2 D; omega, by clear G1 G2 G3 Y2 D; omega, by clear G1 G2 G3 Y2 D; omega, G2 _ _ (by omega) (by omega) (by omega) (by omega)⟩
        · skip
          have a1 := (D ra rb).1 (by omega)
          have a2 := (D ea (qb * 2 + rb % 2)).2 (by omega)
          have r1 := (D ra (rb + -1)).1 (by omega)
          have r2 := (D ea ((qb + 0) * 2 + (rb + -1) % 2)).2 (by omega)
          refine ⟨5, by decide, ?_⟩
          simp only [par, if_true, show wayN 5 = -1 from rfl, show wayE 5 = 0 from rfl]
          exact ⟨by clear G1 G2 G3 Y2 D; omega, by clear G1 G2 G3 Y2 D; omega, by clear G1 G2 G3 Y2 D; omega, by clear G1 G2 G3 Y2 D; omega, G1 _ _ (by omega) (by omega)⟩
    · have hne := Y2 hr
      by_cases hc : qb * 2 + rb % 2 > ea
      · skip
        have a1 := (D ra rb).1 (by omega)
        have a2 := (D ea (qb * 2 + rb % 2)).1 (by omega)
        have r1 := (D ra (rb + 0)).1 (by omega)
        have r2 := (D ea ((qb + -1) * 2 + (rb + 0) % 2)).1 (by omega)
        refine ⟨3, by decide, ?_⟩
        simp only [par, if_true, show wayN 3 = 0 from rfl, show wayE 3 = -1 from rfl]
        exact ⟨by clear G1 G2 G3 Y2 D; omega, by clear G1 G2 G3 Y2 D; omega, by clear G1 G2 G3 Y2 D; omega, by clear G1 G2 G3 Y2 D; omega, G3 _ _ (by omega) (by omega) (by omega)⟩
      · skip
        have a1 := (D ra rb).1 (by omega)
        have a2 := (D ea (qb * 2 + rb % 2)).2 (by omega)
        have r1 := (D ra (rb + 0)).1 (by omega)
        have r2 := (D ea ((qb + 1) * 2 + (rb + 0) % 2)).2 (by omega)
        refine ⟨0, by decide, ?_⟩
        simp only [par, if_true, show wayN 0 = 0 from rfl, show wayE 0 = 1 from rfl]
        exact ⟨by clear G1 G2 G3 Y2 D; omega, by clear G1 G2 G3 Y2 D; omega, by clear G1 G2 G3 Y2 D; omega, by clear G1 G2 G3 Y2 D; omega, G3 _ _ (by omega) (by omega) (by omega)⟩
    · by_cases hc : qb * 2 + rb % 2 > ea
      · skip
        have a1 := (D ra rb).2 (by omega)
        have a2 := (D ea (qb * 2 + rb % 2)).1 (by omega)
        have r1 := (D ra (rb + 1)).2 (by omega)
        have r2 := (D ea ((qb + -1) * 2 + (rb + 1) % 2)).1 (by omega)
        refine ⟨2, by decide, ?_⟩
        simp only [par, if_true, show wayN 2 = 1 from rfl, show wayE 2 = -1 from rfl]
        exact ⟨by clear G1 G2 G3 Y2 D; omega, by clear G1 G2 G3 Y2 D; omega, by clear G1 G2 G3 Y2 D; omega, by clear G1 G2 G3 Y2 D; omega, G1 _ _ (by omega) (by omega)⟩
      · by_cases hz : qb * 2 + rb % 2 = ea
        · skip
          have a1 := (D ra rb).2 (by omega)
          have a2 := (D ea (qb * 2 + rb % 2)).1 (by omega)
          have r1 := (D ra (rb + 1)).2 (by omega)
          have r2 := (D ea ((qb + 0) * 2 + (rb + 1) % 2)).1 (by omega)
          refine ⟨1, by decide, ?_⟩
          simp only [par, if_true, show wayN 1 = 1 from rfl, show wayE 1 = 0 from rfl]
          exact ⟨by clear G1 G2 G3 Y2 D; omega, by clear G1 G2 G3 Y2 D; omega, by clear G1 G2 G3 Y2 D; omega, by clear G1 G2 G3 Y2 D; omega, G2 _ _ (by omega) (by omega) (by omega) (by omega)⟩
        · skip
          have a1 := (D ra rb).2 (by omega)
          have a2 := (D ea (qb * 2 + rb % 2)).2 (by omega)
          have r1 := (D ra (rb + 1)).2 (by omega)
          have r2 := (D ea ((qb + 0) * 2 + (rb + 1) % 2)).2 (by omega)
          refine ⟨1, by decide, ?_⟩
          simp only [par, if_true, show wayN 1 = 1 from rfl, show wayE 1 = 0 from rfl]
          exact ⟨by clear G1 G2 G3 Y2 D; omega, by clear G1 G2 G3 Y2 D; omega, by clear G1 G2 G3 Y2 D; omega, by clear G1 G2 G3 Y2 D; omega, G1 _ _ (by omega) (by omega)⟩
  · rcases Int.lt_trichotomy ra rb with hr | hr | hr
    · by_cases hc : qb * 2 + rb % 2 > ea
      · skip
        have a1 := (D ra rb).1 (by omega)
        have a2 := (D ea (qb * 2 + rb % 2)).1 (by omega)
        have r1 := (D ra (rb + -1)).1 (by omega)
        have r2 := (D ea ((qb + 0) * 2 + (rb + -1) % 2)).1 (by omega)
        refine ⟨4, by decide, ?_⟩
        simp only [par, if_false, show wayN 4 = -1 from rfl, show wayO 4 = 0 from rfl]
        exact ⟨by clear G1 G2 G3 Y2 D; omega, by clear G1 G2 G3 Y2 D; omega, by clear G1 G2 G3 Y2 D; omega, by clear G1 G2 G3 Y2 D; omega, G1 _ _ (by omega) (by omega)⟩
      · by_cases hz : qb * 2 + rb % 2 = ea
        · skip
          have a1 := (D ra rb).1 (by omega)
          have a2 := (D ea (qb * 2 + rb % 2)).1 (by omega)
          have r1 := (D ra (rb + -1)).1 (by omega)
          have r2 := (D ea ((qb + 0) * 2 + (rb + -1) % 2)).2 (by omega)
          refine ⟨4, by decide, ?_⟩
          simp only [par, if_false, show wayN 4 = -1 from rfl, show wayO 4 = 0 from rfl]
          exact ⟨by clear G1 G2 G3 Y2 D; omega, by clear G1 G2 G3 Y2 D; omega, by clear G1 G2 G3 Y2 D; omega, by clear G1 G2 G3 Y2 D; omega, G2 _ _ (by omega) (by omega) (by omega) (by omega)⟩
        · skip
          have a1 := (D ra rb).1 (by omega)
          have a2 := (D ea (qb * 2 + rb % 2)).2 (by omega)
          have r1 := (D ra (rb + -1)).1 (by omega)
          have r2 := (D ea ((qb + 1) * 2 + (rb + -1) % 2)).2 (by omega)
          refine ⟨5, by decide, ?_⟩
          simp only [par, if_false, show wayN 5 = -1 from rfl, show wayO 5 = 1 from rfl]
          exact ⟨by clear G1 G2 G3 Y2 D; omega, by clear G1 G2 G3 Y2 D; omega, by clear G1 G2 G3 Y2 D; omega, by clear G1 G2 G3 Y2 D; omega, G1 _ _ (by omega) (by omega)⟩
    · have hne := Y2 hr
      by_cases hc : qb * 2 + rb % 2 > ea
      · skip
        have a1 := (D ra rb).1 (by omega)
        have a2 := (D ea (qb * 2 + rb % 2)).1 (by omega)
        have r1 := (D ra (rb + 0)).1 (by omega)
        have r2 := (D ea ((qb + -1) * 2 + (rb + 0) % 2)).1 (by omega)
        refine ⟨3, by decide, ?_⟩
        simp only [par, if_false, show wayN 3 = 0 from rfl, show wayO 3 = -1 from rfl]
        exact ⟨by clear G1 G2 G3 Y2 D; omega, by clear G1 G2 G3 Y2 D; omega, by clear G1 G2 G3 Y2 D; omega, by clear G1 G2 G3 Y2 D; omega, G3 _ _ (by omega) (by omega) (by omega)⟩
      · skip
        have a1 := (D ra rb).1 (by omega)
        have a2 := (D ea (qb * 2 + rb % 2)).2 (by omega)
        have r1 := (D ra (rb + 0)).1 (by omega)
        have r2 := (D ea ((qb + 1) * 2 + (rb + 0) % 2)).2 (by omega)
        refine ⟨0, by decide, ?_⟩
        simp only [par, if_false, show wayN 0 = 0 from rfl, show wayO 0 = 1 from rfl]
        exact ⟨by clear G1 G2 G3 Y2 D; omega, by clear G1 G2 G3 Y2 D; omega, by clear G1 G2 G3 Y2 D; omega, by clear G1 G2 G3 Y2 D; omega, G3 _ _ (by omega) (by omega) (by omega)⟩
    · by_cases hc : qb * 2 + rb % 2 > ea
      · skip
        have a1 := (D ra rb).2 (by omega)
        have a2 := (D ea (qb * 2 + rb % 2)).1 (by omega)
        have r1 := (D ra (rb + 1)).2 (by omega)
        have r2 := (D ea ((qb + 0) * 2 + (rb + 1) % 2)).1 (by omega)
        refine ⟨2, by decide, ?_⟩
        simp only [par, if_false, show wayN 2 = 1 from rfl, show wayO 2 = 0 from rfl]
        exact ⟨by clear G1 G2 G3 Y2 D; omega, by clear G1 G2 G3 Y2 D; omega, by clear G1 G2 G3 Y2 D; omega, by clear G1 G2 G3 Y2 D; omega, G1 _ _ (by omega) (by omega)⟩
      · by_cases hz : qb * 2 + rb % 2 = ea
        · skip
          have a1 := (D ra rb).2 (by omega)
          have a2 := (D ea (qb * 2 + rb % 2)).1 (by omega)
          have r1 := (D ra (rb + 1)).2 (by omega)
          have r2 := (D ea ((qb + 0) * 2 + (rb + 1) % 2)).2 (by omega)
          refine ⟨2, by decide, ?_⟩
          simp only [par, if_false, show wayN 2 = 1 from rfl, show wayO 2 = 0 from rfl]
          exact ⟨by clear G1 G2 G3 Y2 D; omega, by clear G1 G2 G3 Y2 D; omega, by clear G1 G2 G3 Y2 D; omega, by clear G1 G2 G3 Y2 D; omega, G2 _ _ (by omega) (by omega) (by omega) (by omega)⟩
        · skip
          have a1 := (D ra rb).2 (by omega)
          have a2 := (D ea (qb * 2 + rb % 2)).2 (by omega)
          have r1 := (D ra (rb + 1)).2 (by omega)
          have r2 := (D ea ((qb + 1) * 2 + (rb + 1) % 2)).2 (by omega)
          refine ⟨1, by decide, ?_⟩
          simp only [par, if_false, show wayN 1 = 1 from rfl, show wayO 1 = 1 from rfl]
          exact ⟨by clear G1 G2 G3 Y2 D; omega, by clear G1 G2 G3 Y2 D; omega, by clear G1 G2 G3 Y2 D; omega, by clear G1 G2 G3 Y2 D; omega, G1 _ _ (by omega) (by omega)⟩
theorem apt_pred {w h a b : Int} (hw : 1 ≤ w) (hh : 1 ≤ h) (a0 : 0 ≤ a) (a1 : a < w * h) (b0 : 0 ≤ b) (b1 : b < w * h) (n : Int) (hn : 0 ≤ n) (e : apt w a b = n + 1) :
    ∃ (k : Nat) (b' : Int), k < 6 ∧ nxt w h b k = some b' ∧ 0 ≤ b' ∧ b' < w * h ∧ apt w a b' = n := by
  obtain ⟨⟨r0, r1⟩, ⟨q0, q1⟩, ea⟩ := rowcol (h := h) hw a0 a1
  obtain ⟨⟨r0', r1'⟩, ⟨q0', q1'⟩, eb⟩ := rowcol (h := h) hw b0 b1
  have key : ∀ x y : Int, 0 ≤ x → 0 ≤ y → (x + y) % 2 = 0 → 2 * (x + max 0 (y - x) / 2) = max (2 * x) (x + y) := fun x y _ _ _ => by omega
  have A : ∀ r2 q2 : Int, 2 * (dst (a / w) r2 + max 0 (dst (estN w a) (q2 * 2 + r2 % 2) - dst (a / w) r2) / 2) = max (2 * dst (a / w) r2) (dst (a / w) r2 + dst (estN w a) (q2 * 2 + r2 % 2)) := fun r2 q2 =>
    key _ _ (by unfold dst; omega) (by unfold dst; omega) (by unfold dst estN; omega)
  have e2 : max (2 * dst (a / w) (b / w)) (dst (a / w) (b / w) + dst (estN w a) (b % w * 2 + b / w % 2)) = 2 * (n + 1) := by
    have h1 := A (b / w) (b % w)
    have h2 : apt w a b = dst (a / w) (b / w) + max 0 (dst (estN w a) (b % w * 2 + b / w % 2) - dst (a / w) (b / w)) / 2 := rfl
    omega
  obtain ⟨k, hk, x1, x2, x3, x4, x5⟩ := step_near hn r0 r1 r0' r1' q0' q1' (by unfold estN; omega) (by unfold estN; omega) (by unfold estN; omega) e2
  have x1' : 0 ≤ nxR w b k := x1
  obtain ⟨b', y0, y1, y2, y3, y4⟩ := nxt_of (a := b) hw hh x1' x2 x3 x4
  refine ⟨k, b', hk, y0, y1, y2, ?_⟩
  have h1 := A (nxR w b k) (nxC w b k)
  have h2 : apt w a b' = dst (a / w) (b' / w) + max 0 (dst (estN w a) (b' % w * 2 + b' / w % 2) - dst (a / w) (b' / w)) / 2 := rfl
  have x5' : max (2 * dst (a / w) (nxR w b k)) (dst (a / w) (nxR w b k) + dst (estN w a) (nxC w b k * 2 + nxR w b k % 2)) = 2 * n := x5
  rw [y3, y4] at h2
  omega
theorem apt_lt {w h a b : Int} (hw : 1 ≤ w) (hh : 1 ≤ h) (a0 : 0 ≤ a) (a1 : a < w * h) (b0 : 0 ≤ b) (b1 : b < w * h) : apt w a b < w * h := by
  obtain ⟨⟨r0, r1⟩, ⟨q0, q1⟩, ea⟩ := rowcol (h := h) hw a0 a1
  obtain ⟨⟨r0', r1'⟩, ⟨q0', q1'⟩, eb⟩ := rowcol (h := h) hw b0 b1
  have h1 : apt w a b ≤ (h - 1) + (w - 1) := by unfold apt dst estN; omega
  have h2 : 0 ≤ (h - 1) * (w - 1) := Int.mul_nonneg (by omega) (by omega)
  have h3 : (h - 1) * (w - 1) = w * h - h - w + 1 := by rw [Int.sub_mul, Int.mul_sub, Int.one_mul, Int.mul_one, Int.mul_comm h w]; omega
  omega
theorem apt_nonneg (w a b : Int) : 0 ≤ apt w a b := by unfold apt dst; omega
structure Ring (w h : Int) (a : Nat) (n : Int) (N : Nat) (seen : Nat → Prop) (l : List Int) : Prop where
  len : l.length = N
  near : ∀ i, i < N → apt w a i ≤ n → l.getD i 0 = apt w a i
  far : ∀ i, i < N → n + 1 < apt w a i → l.getD i 0 = N
  next : ∀ i, i < N → apt w a i = n + 1 → (l.getD i 0 = n + 1 ∨ l.getD i 0 = N) ∧ (seen i → l.getD i 0 = n + 1)
theorem getD_set (l : List Int) (j i : Nat) (x : Int) (hj : j < l.length) : (l.set j x).getD i 0 = if i = j then x else l.getD i 0 := by
  simp only [List.getD_eq_getElem?_getD, List.getElem?_set]
  by_cases h : j = i
  · subst h; simp [hj]
  · have h' : ¬ i = j := fun e => h e.symm
    simp [h, h']
theorem Ring.set {w h : Int} {a : Nat} {n : Int} {N : Nat} {seen : Nat → Prop} {l : List Int} (H : Ring w h a n N seen l) (hn : n + 1 ≤ N) {j : Nat} (hj : j < N) (hd : apt w a j ≤ n + 1) : Ring w h a n N (fun i => seen i ∨ i = j) (l.set j (min (l.getD j 0) (n + 1))) := by
  have hjl : j < l.length := by rw [H.len]; exact hj
  refine ⟨by rw [List.length_set, H.len], fun i hi h1 => ?_, fun i hi h1 => ?_, fun i hi h1 => ?_⟩
  · rw [getD_set _ _ _ _ hjl]
    split
    · rename_i e; subst e; have := H.near i hi h1; omega
    · exact H.near i hi h1
  · rw [getD_set _ _ _ _ hjl]
    split
    · rename_i e; subst e; omega
    · exact H.far i hi h1
  · rw [getD_set _ _ _ _ hjl]
    split
    · rename_i e; subst e
      have := (H.next i hi h1).1
      refine ⟨.inl (by omega), fun _ => by omega⟩
    · rename_i e
      refine ⟨(H.next i hi h1).1, fun hs => (H.next i hi h1).2 ?_⟩
      rcases hs with hs | hs
      · exact hs
      · exact absurd hs e
def relD (w h n : Int) (i : Nat) (l : List Int) (k : Nat) : List Int := match nxt w h i k with
  | some j => l.set j.toNat (min (l.getD j.toNat 0) (n + 1))
  | none => l
def relI (w h n : Int) (l : List Int) (i : Nat) : List Int := if l.getD i 0 = n then (List.range 6).foldl (relD w h n i) l else l
def relN (w h : Int) (N : Nat) (l : List Int) (n : Nat) : List Int := (List.range N).foldl (relI w h n) l
theorem Ring.weaken {w h : Int} {a : Nat} {n : Int} {N : Nat} {s1 s2 : Nat → Prop} {l : List Int} (H : Ring w h a n N s1 l) (hs : ∀ i, i < N → apt w a i = n + 1 → s2 i → s1 i) : Ring w h a n N s2 l :=
  ⟨H.len, H.near, H.far, fun i hi h1 => ⟨(H.next i hi h1).1, fun h => (H.next i hi h1).2 (hs i hi h1 h)⟩⟩
theorem Ring.dirs {w h : Int} {a : Nat} {n : Int} {N : Nat} {seen : Nat → Prop} (hw : 1 ≤ w) (hh : 1 ≤ h) (hN : w * h = N) (hn : n + 1 ≤ N) {m : Nat} (hm : m < N) (hd : apt w a m = n) : ∀ (k : Nat) (l : List Int), k ≤ 6 → Ring w h a n N seen l →
    Ring w h a n N (fun i => seen i ∨ ∃ k', k' < k ∧ nxt w h m k' = some (i : Int)) ((List.range k).foldl (relD w h n m) l)
  | 0, l, _, H => H.weaken fun i _ _ hs => by
      rcases hs with hs | ⟨k', h, _⟩
      · exact hs
      · omega
  | k + 1, l, hk, H => by
    have ih := Ring.dirs hw hh hN hn hm hd k l (by omega) H
    rw [List.range_succ, List.foldl_append, List.foldl_cons, List.foldl_nil]
    generalize (List.range k).foldl (relD w h n m) l = l1 at *
    unfold relD
    split
    · rename_i j hj
      obtain ⟨j0, j1, _⟩ := nxt_some hw hh hj
      have hone : apt w m j = 1 := (apt_one hw hh (Int.natCast_nonneg m) (by rw [hN]; exact Int.ofNat_lt.2 hm) j0 j1).2 (by
        unfold nearB
        rw [List.any_eq_true]
        exact ⟨k, by simp; omega, by simp [hj]⟩)
      have htri := apt_tri w a j m
      have hjn : (j.toNat : Int) = j := by omega
      refine (ih.set hn (j := j.toNat) (by omega) (by rw [hjn]; omega)).weaken fun i _ _ hs => ?_
      rcases hs with hs | ⟨k', hk', e⟩
      · exact .inl (.inl hs)
      · by_cases ek : k' = k
        · subst ek; rw [hj] at e; right; have := Option.some.inj e; omega
        · exact .inl (.inr ⟨k', by omega, e⟩)
    · rename_i hj
      refine ih.weaken fun i _ _ hs => ?_
      rcases hs with hs | ⟨k', hk', e⟩
      · exact .inl hs
      · by_cases ek : k' = k
        · subst ek; rw [hj] at e; cases e
        · exact .inr ⟨k', by omega, e⟩
theorem Ring.cells {w h : Int} {a : Nat} {n : Nat} {N : Nat} (hw : 1 ≤ w) (hh : 1 ≤ h) (hN : w * h = N) (hn : n < N) : ∀ (m : Nat) (l : List Int), m ≤ N → Ring w h a n N (fun _ => False) l →
    Ring w h a n N (fun i => ∃ m' k, m' < m ∧ k < 6 ∧ apt w a m' = n ∧ nxt w h m' k = some (i : Int)) ((List.range m).foldl (relI w h n) l)
  | 0, l, _, H => H.weaken fun i _ _ ⟨m', k, h, _⟩ => by omega
  | m + 1, l, hm, H => by
    have ih := Ring.cells hw hh hN hn m l (by omega) H
    rw [List.range_succ, List.foldl_append, List.foldl_cons, List.foldl_nil]
    generalize (List.range m).foldl (relI w h n) l = l1 at *
    have hmN : m < N := by omega
    by_cases hd : apt w a m = n
    · have e : l1.getD m 0 = n := by rw [ih.near m hmN (by omega), hd]
      unfold relI
      rw [if_pos e]
      refine (ih.dirs hw hh hN (by omega) hmN hd 6 l1 (by omega)).weaken fun i _ _ hs => ?_
      obtain ⟨m', k, h1, h2, h3, h4⟩ := hs
      by_cases em : m' = m
      · subst em; exact .inr ⟨k, h2, h4⟩
      · exact .inl ⟨m', k, by omega, h2, h3, h4⟩
    · have e : ¬ l1.getD m 0 = n := by
        intro e
        by_cases h1 : apt w a m ≤ n
        · have := ih.near m hmN h1; omega
        · by_cases h2 : apt w a m = n + 1
          · have := (ih.next m hmN h2).1; omega
          · have := ih.far m hmN (by omega); omega
      unfold relI
      rw [if_neg e]
      refine ih.weaken fun i _ _ hs => ?_
      obtain ⟨m', k, h1, h2, h3, h4⟩ := hs
      refine ⟨m', k, ?_, h2, h3, h4⟩
      by_cases em : m' = m
      · subst em; exact absurd h3 hd
      · omega
theorem Ring.round {w h : Int} {a : Nat} {n : Nat} {N : Nat} (hw : 1 ≤ w) (hh : 1 ≤ h) (hN : w * h = N) (ha : a < N) (hn : n < N) {l : List Int} (H : Ring w h a n N (fun _ => False) l) : Ring w h a ((n + 1 : Nat) : Int) N (fun _ => False) (relN w h N l n) := by
  have H1 := Ring.cells hw hh hN hn N l (Nat.le_refl _) H
  have H2 : Ring w h a n N (fun _ => True) (relN w h N l n) := H1.weaken fun i hi h1 _ => by
    have la : (a : Int) < w * h := by rw [hN]; exact Int.ofNat_lt.2 ha
    have li : (i : Int) < w * h := by rw [hN]; exact Int.ofNat_lt.2 hi
    obtain ⟨k, b', hk, e, b0, b1, hd⟩ := apt_pred hw hh (Int.natCast_nonneg a) la (Int.natCast_nonneg i) li n (by omega) h1
    have hb := nxt_back hw hh (Int.natCast_nonneg i) li hk e
    have eb : (b'.toNat : Int) = b' := by omega
    exact ⟨b'.toNat, (k + 3) % 6, by omega, Nat.mod_lt _ (by omega), by rw [eb]; exact hd, by rw [eb]; exact hb⟩
  refine ⟨H2.len, fun i hi h1 => ?_, fun i hi h1 => ?_, fun i hi h1 => ⟨.inr ?_, fun h => h.elim⟩⟩
  · by_cases h2 : apt w a i ≤ n
    · exact H2.near i hi h2
    · have h3 : apt w a i = n + 1 := by omega
      rw [(H2.next i hi h3).2 trivial, h3]
  · exact H2.far i hi (by omega)
  · exact H2.far i hi (by omega)
theorem Ring.first {w h : Int} {a : Nat} {N : Nat} (hw : 1 ≤ w) (hN : w * h = N) (ha : a < N) : Ring w h a ((0 : Nat) : Int) N (fun _ => False) ((List.replicate N (N : Int)).set a 0) := by
  have hz : ∀ i : Nat, i < N → (apt w a i = 0 ↔ a = i) := fun i hi => by
    rw [apt_zero (h := h) hw (Int.natCast_nonneg a) (by rw [hN]; exact Int.ofNat_lt.2 ha) (Int.natCast_nonneg i) (by rw [hN]; exact Int.ofNat_lt.2 hi)]
    omega
  have hg : ∀ i, i < N → ((List.replicate N (N : Int)).set a 0).getD i 0 = if i = a then 0 else (N : Int) := fun i hi => by
    rw [getD_set _ _ _ _ (by simpa using ha)]
    split
    · rfl
    · simp [List.getD_eq_getElem?_getD, hi]
  refine ⟨by simp, fun i hi h1 => ?_, fun i hi h1 => ?_, fun i hi h1 => ⟨.inr ?_, fun h => h.elim⟩⟩
  · have h0 := apt_nonneg w a i
    have : apt w a i = 0 := by simp at h1; omega
    rw [hg i hi, this, if_pos ((hz i hi).1 this).symm]
  · rw [hg i hi, if_neg]
    intro e
    have := (hz i hi).2 e.symm
    omega
  · rw [hg i hi, if_neg]
    intro e
    have := (hz i hi).2 e.symm
    omega
theorem ring_end {w h : Int} {a b : Nat} {N : Nat} (hw : 1 ≤ w) (hh : 1 ≤ h) (hN : w * h = N) (ha : a < N) (hb : b < N) :
    ((List.range N).foldl (relN w h N) ((List.replicate N (N : Int)).set a 0)).getD b 0 = apt w a b := by
  have key : ∀ n, n ≤ N → Ring w h a ((n : Nat) : Int) N (fun _ => False) ((List.range n).foldl (relN w h N) ((List.replicate N (N : Int)).set a 0)) := by
    intro n
    induction n with
    | zero => intro _; exact Ring.first hw hN ha
    | succ n ih =>
      intro hn
      rw [List.range_succ, List.foldl_append, List.foldl_cons, List.foldl_nil]
      exact (ih (by omega)).round hw hh hN ha (by omega)
  have hlt := apt_lt hw hh (Int.natCast_nonneg a) (by rw [hN]; exact Int.ofNat_lt.2 ha) (Int.natCast_nonneg b) (by rw [hN]; exact Int.ofNat_lt.2 hb)
  exact (key N (Nat.le_refl _)).near b hb (by omega)
end Go.Proofs.YtddnloghclemjaaGreatDoor
namespace Go.Proofs.YtddnloghclemjaaGreatDoor
open Go Go.RowKit
end Go.Proofs.YtddnloghclemjaaGreatDoor
namespace Go.Proofs.YtddnloghclemjaaGreatDoor
open Go Go.RowKit
end Go.Proofs.YtddnloghclemjaaGreatDoor
namespace Go.Proofs.YtddnloghclemjaaGreatDoor
open Go Go.RowKit
theorem tab_get : ∀ k : Nat, k < 6 → ([Value.int .i64 0, .int .i64 1, .int .i64 1, .int .i64 0, .int .i64 (-1), .int .i64 (-1)] : List Value)[k]? = some (.int .i64 (wayN k)) ∧
    ([Value.int .i64 1, .int .i64 0, .int .i64 (-1), .int .i64 (-1), .int .i64 (-1), .int .i64 0] : List Value)[k]? = some (.int .i64 (wayE k)) ∧
    ([Value.int .i64 1, .int .i64 1, .int .i64 0, .int .i64 (-1), .int .i64 0, .int .i64 1] : List Value)[k]? = some (.int .i64 (wayO k))
  | 0, _ => ⟨rfl, rfl, rfl⟩
  | 1, _ => ⟨rfl, rfl, rfl⟩
  | 2, _ => ⟨rfl, rfl, rfl⟩
  | 3, _ => ⟨rfl, rfl, rfl⟩
  | 4, _ => ⟨rfl, rfl, rfl⟩
  | 5, _ => ⟨rfl, rfl, rfl⟩
  | n + 6, h => by omega
theorem run_Beside (c : Ch) (hok : ChOk c) (lim : Nat) (H : AH) (d t s : Value) (hc : ChIn H c d t s) {i k : Nat} (hi : i < c.cells) (hk : k < 6) :
    apL Tryz.prog pf (.func (.func 118) #[] #[]) [chV c d t s, .int .i64 i, .int .i64 k] lim H = some (.tuple #[.int .i64 ((nxt c.w c.h i k).getD 0), .bool (nxt c.w c.h i k).isSome], H) := by
  rw [apL_func _ _ _ _ _ _ (by rfl), sf_cobleref01_Beside_eq]
  obtain ⟨m0, m1, m2⟩ := hok.mul
  obtain ⟨hw, hh, _⟩ := hok
  obtain ⟨⟨r0, r1⟩, ⟨q0, q1⟩, hiq⟩ := rowcol (h := c.h) hw.1 (Int.natCast_nonneg i) (by rw [m2]; exact Int.ofNat_lt.2 hi)
  obtain ⟨⟨n0, n1⟩, ⟨e0, e1⟩, o0, o1⟩ := way_bounds k
  obtain ⟨g0, g1, g2⟩ := tab_get k hk
  have hd : (i : Int).tdiv c.w = (i : Int) / c.w := Int.tdiv_eq_ediv_of_nonneg (Int.natCast_nonneg i)
  have hm : (i : Int).tmod c.w = (i : Int) % c.w := Int.tmod_eq_emod_of_nonneg (Int.natCast_nonneg i)
  have h2 : ((i : Int) / c.w).tmod 2 = (i : Int) / c.w % 2 := Int.tmod_eq_emod_of_nonneg r0
  have hw0 : c.w ≠ 0 := by omega
  have w1 : IntKind.i64.wrap ((i : Int) / c.w) = (i : Int) / c.w := wrap_i64 (by omega) (by omega)
  have w2 : IntKind.i64.wrap ((i : Int) / c.w + wayN k) = nxR c.w i k := wrap_i64 (by omega) (by omega)
  have w5 : IntKind.i64.wrap (c.h - 1) = c.h - 1 := wrap_i64 (by omega) (by omega)
  have w6 : IntKind.i64.wrap (c.w - 1) = c.w - 1 := wrap_i64 (by omega) (by omega)
  have hk6 : (k : Int) < 6 := by omega
  obtain ⟨⟨da, dc, ed, _⟩, ⟨ta, tc, et, _⟩, ⟨sa, sc, es, _⟩, _, _, _⟩ := hc
  have fin : ∀ (pb : Bool), (((i : Int) / c.w % 2 == 0) = pb) → (IntKind.i64.wrap ((i : Int) % c.w + (if pb = true then wayE k else wayO k)) = nxC c.w i k) := fun pb hpb => by
    have eC : nxC c.w i k = (i : Int) % c.w + (if pb = true then wayE k else wayO k) := by
      unfold nxC
      cases pb
      · have : ¬ ((i : Int) / c.w % 2 = 0) := by simpa using hpb
        rw [if_neg this]; rfl
      · have : (i : Int) / c.w % 2 = 0 := by simpa using hpb
        rw [if_pos this]; rfl
    rw [eC]
    exact wrap_i64 (by split <;> omega) (by split <;> omega)
  cases pb : ((i : Int) / c.w % 2 == 0)
  all_goals
    have wC := fin _ pb
    simp only [Bool.false_eq_true, if_false, if_true] at wC
    by_cases a2 : 0 ≤ nxC c.w i k ∧ nxC c.w i k ≤ c.w - 1
    rotate_left
    · have a2b : (decide (0 ≤ nxC c.w i k) && decide (nxC c.w i k ≤ c.w - 1)) = false := by simpa using a2
      have hn : nxt c.w c.h i k = none := by unfold nxt nxIn; rw [a2b, Bool.and_false]; rfl
      simp [sf_cobleref01_Beside, chV, ed, et, es, hd, hm, h2, hw0, w1, w2, w6, hk6, g0, g1, g2, pb, wC, a2b, hn, pf_pure, pureF]
    have a2b : (decide (0 ≤ nxC c.w i k) && decide (nxC c.w i k ≤ c.w - 1)) = true := by simpa using a2
    by_cases a1 : 0 ≤ nxR c.w i k ∧ nxR c.w i k ≤ c.h - 1
    rotate_left
    · have a1b : (decide (0 ≤ nxR c.w i k) && decide (nxR c.w i k ≤ c.h - 1)) = false := by simpa using a1
      have hn : nxt c.w c.h i k = none := by unfold nxt nxIn; rw [a1b, Bool.false_and]; rfl
      simp [sf_cobleref01_Beside, chV, ed, et, es, hd, hm, h2, hw0, w1, w2, w5, w6, hk6, g0, g1, g2, pb, wC, a1b, a2b, hn, pf_pure, pureF]
    have a1b : (decide (0 ≤ nxR c.w i k) && decide (nxR c.w i k ≤ c.h - 1)) = true := by simpa using a1
    have hn : nxt c.w c.h i k = some (nxR c.w i k * c.w + nxC c.w i k) := by unfold nxt nxIn; rw [a2b, a1b]; rfl
    obtain ⟨x0, x1, _⟩ := nxt_some hw.1 hh.1 hn
    have x2 : 0 ≤ nxR c.w i k * c.w := Int.mul_nonneg a1.1 (by omega)
    have w7 : IntKind.i64.wrap (nxR c.w i k * c.w) = nxR c.w i k * c.w := wrap_i64 (by omega) (by omega)
    have w8 : IntKind.i64.wrap (nxR c.w i k * c.w + nxC c.w i k) = nxR c.w i k * c.w + nxC c.w i k := wrap_i64 (by omega) (by omega)
    simp [sf_cobleref01_Beside, chV, ed, et, es, hd, hm, h2, hw0, w1, w2, w5, w6, w7, w8, hk6, g0, g1, g2, pb, wC, a1b, a2b, hn, pf_pure, pureF]
theorem ints_set (l : List Int) (j : Nat) (x : Int) : (ints l).set j (.int .i64 x) = ints (l.set j x) := by simp [ints, List.map_set]
theorem ints_get (l : List Int) (j : Nat) (h : j < l.length) : (ints l)[j]? = some (.int .i64 (l.getD j 0)) := by simp [ints, h]
theorem minIfY (x y : Int) : (if y < x then y else x) = min x y := by rw [Int.min_def]; split <;> split <;> omega
def stD : SC := sf_cobleref01_Steps.body.loops.getD 3 .skip
theorem nxt_ne {w h i : Int} {k : Nat} (hw : 1 ≤ w) (hh : 1 ≤ h) (hk : k < 6) : nxt w h i k ≠ some i := by
  intro e
  obtain ⟨_, _, e1, e2, _⟩ := nxt_some hw hh e
  unfold nxR nxC at *
  generalize i / w = r at *
  generalize i % w = q at *
  match k, hk with
  | 0, _ | 1, _ | 2, _ | 3, _ | 4, _ | 5, _ =>
    simp [wayN, wayE, wayO, wayT] at *
    all_goals (try split at e2)
    all_goals omega
  | n + 6, h => omega
theorem relD_len (w h n : Int) (i : Nat) (l : List Int) (k : Nat) : (relD w h n i l k).length = l.length := by unfold relD; split <;> simp
theorem relD_keep {w h n : Int} {i : Nat} (l : List Int) {k : Nat} (hw : 1 ≤ w) (hh : 1 ≤ h) (hk : k < 6) : (relD w h n i l k).getD i 0 = l.getD i 0 := by
  unfold relD
  split
  · rename_i j hj
    obtain ⟨j0, _, _⟩ := nxt_some hw hh hj
    have : j.toNat ≠ i := fun e => nxt_ne hw hh hk (by rw [hj]; congr 1; omega)
    simp [List.getD_eq_getElem?_getD, List.getElem?_set, this]
  · rfl
theorem foldD {w h n : Int} {i : Nat} (hw : 1 ≤ w) (hh : 1 ≤ h) (l : List Int) : ∀ k, k ≤ 6 → ((List.range k).foldl (relD w h n i) l).length = l.length ∧ ((List.range k).foldl (relD w h n i) l).getD i 0 = l.getD i 0
  | 0, _ => ⟨rfl, rfl⟩
  | k + 1, hk => by
    have ih := foldD (n := n) (i := i) hw hh l k (by omega)
    rw [List.range_succ, List.foldl_append, List.foldl_cons, List.foldl_nil, relD_len, relD_keep _ hw hh (by omega)]
    exact ih
theorem st_d (c : Ch) (hok : ChOk c) (H : AH) (d t s : Value) (hc : ChIn H c d t s) (l : List Int) (hl : l.length = c.cells) {n i : Nat} (hn : n ≤ 1000) (hi : i < c.cells) (hln : l.getD i 0 = n) (S : St)
    (h2 : tget S.t 2 = .pointer (some ⟨2, 0, some 0⟩)) (h5 : tget S.t 5 = .slice (some ⟨H.length, 0, none⟩) c.cells c.cells) (h7 : tget S.t 7 = .int .i64 n) (h8 : tget S.t 8 = .int .i64 i) (h9 : tget S.t 9 = .int .i64 0) (hL : S.L = [(2, 0, .cells [.int .i64 c.w, .int .i64 c.h, d, t, s])]) (hH : S.H = H ++ [.rw 1 (ints l)]) (hlim : S.lim = H.length) :
    ∃ q, exL Tryz.prog pf (.loop stD) S = some q ∧ q.1 = .exit 6 ∧ q.2.H = H ++ [.rw 1 (ints ((List.range 6).foldl (relD c.w c.h n i) l))] ∧ q.2.L = S.L ∧ q.2.lim = S.lim ∧ tget q.2.t 1 = tget S.t 1 ∧ tget q.2.t 2 = tget S.t 2 ∧ tget q.2.t 5 = tget S.t 5 ∧ tget q.2.t 7 = tget S.t 7 ∧ tget q.2.t 8 = tget S.t 8 := by
  have hw := hok.1.1
  have hh := hok.2.1.1
  obtain ⟨m0, m1, m2⟩ := hok.mul
  refine loop_rule (I := fun m s' => ∃ k, k ≤ 6 ∧ m = 6 - k ∧ tget s'.t 1 = tget S.t 1 ∧ tget s'.t 2 = .pointer (some ⟨2, 0, some 0⟩) ∧ tget s'.t 5 = .slice (some ⟨H.length, 0, none⟩) c.cells c.cells ∧ tget s'.t 7 = .int .i64 n ∧ tget s'.t 8 = .int .i64 i ∧ tget s'.t 9 = .int .i64 k ∧ s'.L = S.L ∧ s'.lim = H.length ∧ s'.H = H ++ [.rw 1 (ints ((List.range k).foldl (relD c.w c.h n i) l))]) ?_ 6 S
    ⟨0, by omega, by omega, rfl, h2, h5, h7, h8, h9, rfl, hlim, hH⟩
  rintro m s' ⟨k, hk, rfl, e1, e2, e5, e7, e8, e9, eL, el, eH⟩
  obtain ⟨f1, f2⟩ := foldD (n := n) (i := i) hw hh l k hk
  have hsucc : (List.range (k + 1)).foldl (relD c.w c.h n i) l = relD c.w c.h n i ((List.range k).foldl (relD c.w c.h n i) l) k := by rw [List.range_succ, List.foldl_append, List.foldl_cons, List.foldl_nil]
  have hB := fun {k : Nat} (hk : k < 6) lim (l : AH) => run_Beside c hok lim (H ++ l) d t s (hc.ext (Ext.push H l)) hi hk
  obtain ⟨⟨da, dc, ed, _⟩, ⟨ta, tc, et, _⟩, ⟨sa, sc, es, _⟩, _, _, _⟩ := hc
  simp only [chV, ed, et, es] at hB hL
  rw [hL] at eL
  by_cases hlt : k < 6
  rotate_left
  · have : k = 6 := by omega
    subst this
    simp [stD, SC.loops, sf_cobleref01_Steps, e1, e2, e5, e7, e8, e9, eL, el, eH, h2, h5, h7, h8, hL, hlim]
  obtain ⟨l1, hl1⟩ : ∃ l1, l1 = (List.range k).foldl (relD c.w c.h n i) l := ⟨_, rfl⟩
  rw [← hl1] at eH f1 f2 hsucc
  have hll : l1.length = c.cells := by rw [f1, hl]
  have gi : (ints l1)[i]? = some (.int .i64 n) := by rw [ints_get _ _ (by omega), f2, hln]
  have hw1 : IntKind.i64.wrap ((k : Int) + 1) = (k : Int) + 1 := wrap_i64 (by omega) (by omega)
  have hwn : IntKind.i64.wrap ((n : Int) + 1) = (n : Int) + 1 := wrap_i64 (by omega) (by omega)
  have hk6 : (k : Int) < 6 := by omega
  have hB := fun lim => hB hlt lim [.rw 1 (ints l1)]
  cases hx : nxt c.w c.h i k with
  | none =>
    have hs : relD c.w c.h n i l1 k = l1 := by unfold relD; rw [hx]
    simp only [hx] at hB
    simp [stD, SC.loops, sf_cobleref01_Steps, e1, e2, e5, e7, e8, e9, eL, el, eH, h2, h5, h7, h8, hL, hlim, hi, hk6, gi, hB, hw1]
    exact ⟨_, by omega, k + 1, by omega, rfl, by omega, by rw [hsucc, hs]⟩
  | some j =>
    obtain ⟨j0, j1, _⟩ := nxt_some hw hh hx
    obtain ⟨j, rfl⟩ : ∃ k : Nat, j = k := ⟨j.toNat, by omega⟩
    have hj : j < c.cells := by rw [m2] at j1; exact Int.ofNat_lt.1 j1
    have gj : (ints l1)[j]? = some (.int .i64 (l1.getD j 0)) := ints_get _ _ (by omega)
    have hs : relD c.w c.h n i l1 k = l1.set j (min (l1.getD j 0) ((n : Int) + 1)) := by unfold relD; rw [hx]; rfl
    simp only [hx] at hB
    have hset : (ints l1).set j (.int .i64 (min (l1.getD j 0) ((n : Int) + 1))) = ints (l1.set j (min (l1.getD j 0) ((n : Int) + 1))) := ints_set _ _ _
    have hjl : j + 1 ≤ (ints l1).length := by rw [ints_length]; omega
    generalize l1.getD j 0 = X at *
    generalize ints l1 = cs at *
    have gj2 : ∀ h : j < cs.length, cs[j]'h = .int .i64 X := fun h => by rw [List.getElem?_eq_getElem h] at gj; exact Option.some.inj gj
    simp [stD, SC.loops, sf_cobleref01_Steps, e1, e2, e5, e7, e8, e9, eL, el, eH, h2, h5, h7, h8, hL, hlim, hi, hj, hk6, gi, gj, gj2, hB, hw1, hwn, minIfY, hjl, hset]
    exact ⟨_, by omega, k + 1, by omega, rfl, by omega, by rw [hsucc, hs]⟩
end Go.Proofs.YtddnloghclemjaaGreatDoor
namespace Go.Proofs.YtddnloghclemjaaGreatDoor
open Go Go.RowKit
theorem st_d0 (c : Ch) (H : AH) (d t s : Value) (l : List Int) (hl : l.length = c.cells) {n i : Nat} (hi : i < c.cells) (hln : l.getD i 0 ≠ n) (S : St)
    (h5 : tget S.t 5 = .slice (some ⟨H.length, 0, none⟩) c.cells c.cells) (h7 : tget S.t 7 = .int .i64 n) (h8 : tget S.t 8 = .int .i64 i) (h9 : tget S.t 9 = .int .i64 0) (hH : S.H = H ++ [.rw 1 (ints l)]) :
    ∃ q, exL Tryz.prog pf (.loop stD) S = some q ∧ q.1 = .exit 6 ∧ q.2.H = S.H ∧ q.2.L = S.L ∧ q.2.lim = S.lim ∧ tget q.2.t 1 = tget S.t 1 ∧ tget q.2.t 2 = tget S.t 2 ∧ tget q.2.t 5 = tget S.t 5 ∧ tget q.2.t 7 = tget S.t 7 ∧ tget q.2.t 8 = tget S.t 8 := by
  have gi : (ints l)[i]? = some (.int .i64 (l.getD i 0)) := ints_get _ _ (by omega)
  have hb : (l.getD i 0 == (n : Int)) = false := by simpa using hln
  generalize l.getD i 0 = X at *
  rw [exL_loop]
  simp [stD, SC.loops, sf_cobleref01_Steps, h5, h7, h8, h9, hH, hi, gi, hb]
def stI : SC := sf_cobleref01_Steps.body.loops.getD 2 .skip
theorem foldI {w h : Int} (n : Int) (hw : 1 ≤ w) (hh : 1 ≤ h) (l : List Int) : ∀ m : Nat, ((List.range m).foldl (relI w h n) l).length = l.length
  | 0 => rfl
  | m + 1 => by
    rw [List.range_succ, List.foldl_append, List.foldl_cons, List.foldl_nil]
    have ih := foldI n hw hh l m
    generalize (List.range m).foldl (relI w h n) l = l1 at *
    unfold relI
    split
    · rw [(foldD hw hh l1 6 (Nat.le_refl _)).1, ih]
    · exact ih
theorem st_i (c : Ch) (hok : ChOk c) (H : AH) (d t s : Value) (hc : ChIn H c d t s) (l : List Int) (hl : l.length = c.cells) {n : Nat} (hn : n ≤ 1000) (S : St)
    (h2 : tget S.t 2 = .pointer (some ⟨2, 0, some 0⟩)) (h5 : tget S.t 5 = .slice (some ⟨H.length, 0, none⟩) c.cells c.cells) (h7 : tget S.t 7 = .int .i64 n) (h8 : tget S.t 8 = .int .i64 0) (hL : S.L = [(2, 0, .cells [.int .i64 c.w, .int .i64 c.h, d, t, s])]) (hH : S.H = H ++ [.rw 1 (ints l)]) (hlim : S.lim = H.length) :
    ∃ q, exL Tryz.prog pf (.loop stI) S = some q ∧ q.1 = .exit 4 ∧ q.2.H = H ++ [.rw 1 (ints (relN c.w c.h c.cells l n))] ∧ q.2.L = S.L ∧ q.2.lim = S.lim ∧ tget q.2.t 1 = tget S.t 1 ∧ tget q.2.t 2 = tget S.t 2 ∧ tget q.2.t 5 = tget S.t 5 ∧ tget q.2.t 7 = tget S.t 7 := by
  have hw := hok.1.1
  have hh := hok.2.1.1
  obtain ⟨m0, m1, m2⟩ := hok.mul
  refine loop_rule (I := fun m s' => ∃ i, i ≤ c.cells ∧ m = c.cells - i ∧ tget s'.t 1 = tget S.t 1 ∧ tget s'.t 2 = .pointer (some ⟨2, 0, some 0⟩) ∧ tget s'.t 5 = .slice (some ⟨H.length, 0, none⟩) c.cells c.cells ∧ tget s'.t 7 = .int .i64 n ∧ tget s'.t 8 = .int .i64 i ∧ s'.L = S.L ∧ s'.lim = H.length ∧ s'.H = H ++ [.rw 1 (ints ((List.range i).foldl (relI c.w c.h n) l))]) ?_ c.cells S
    ⟨0, by omega, by omega, rfl, h2, h5, h7, h8, rfl, hlim, hH⟩
  rintro m s' ⟨i, hi, rfl, e1, e2, e5, e7, e8, eL, el, eH⟩
  by_cases hlt : i < c.cells
  rotate_left
  · have : i = c.cells := by omega
    subst this
    simp [stI, SC.loops, sf_cobleref01_Steps, e1, e2, e5, e7, e8, eL, el, eH, h2, h5, h7, hlim, relN]
  have hsucc : (List.range (i + 1)).foldl (relI c.w c.h n) l = relI c.w c.h n ((List.range i).foldl (relI c.w c.h n) l) i := by rw [List.range_succ, List.foldl_append, List.foldl_cons, List.foldl_nil]
  have hlen := foldI (n : Int) hw hh l i
  obtain ⟨l1, hl1⟩ : ∃ l1, l1 = (List.range i).foldl (relI c.w c.h n) l := ⟨_, rfl⟩
  rw [← hl1] at eH hsucc hlen
  have hll : l1.length = c.cells := by rw [hlen, hl]
  have hw1 : IntKind.i64.wrap ((i : Int) + 1) = (i : Int) + 1 := wrap_i64 (by omega) (by omega)
  simp [stI, SC.loops, sf_cobleref01_Steps, e1, e2, e5, e7, e8, eL, el, eH, h2, h5, h7, hlt, hlim]
  generalize hS : ({ t := _, L := _, H := _, lim := _, rd := _ } : St) = S2
  have key : ∃ q, exL Tryz.prog pf (.loop stD) S2 = some q ∧ q.1 = .exit 6 ∧ q.2.H = H ++ [.rw 1 (ints (relI c.w c.h n l1 i))] ∧ q.2.L = S2.L ∧ q.2.lim = S2.lim ∧ tget q.2.t 1 = tget S2.t 1 ∧ tget q.2.t 2 = tget S2.t 2 ∧ tget q.2.t 5 = tget S2.t 5 ∧ tget q.2.t 7 = tget S2.t 7 ∧ tget q.2.t 8 = tget S2.t 8 := by
    by_cases hx : l1.getD i 0 = n
    · have := st_d c hok H d t s hc l1 hll hn hlt hx S2 (by subst hS; simp [e2]) (by subst hS; simp [e5]) (by subst hS; simp [e7]) (by subst hS; simp [e8]) (by subst hS; simp) (by subst hS; simp [hL]) (by subst hS; rfl) (by subst hS; rfl)
      unfold relI
      rw [if_pos hx]
      exact this
    · have := st_d0 c H d t s l1 hll hlt hx S2 (by subst hS; simp [e5]) (by subst hS; simp [e7]) (by subst hS; simp [e8]) (by subst hS; simp) (by subst hS; rfl)
      unfold relI
      rw [if_neg hx]
      obtain ⟨q, z1, z2, z3, z4⟩ := this
      exact ⟨q, z1, z2, by rw [z3]; subst hS; rfl, z4⟩
  obtain ⟨⟨e, s1⟩, hr, q1, qH, qL, ql, k1, k2, k5, k7, k8⟩ := key
  simp [stD, SC.loops, sf_cobleref01_Steps] at hr
  rw [hr]
  simp only at q1 qH qL ql k1 k2 k5 k7 k8
  subst q1
  have j1 : tget s1.t 1 = tget S.t 1 := by rw [k1]; subst hS; simp [e1]
  have j2 : tget s1.t 2 = .pointer (some ⟨2, 0, some 0⟩) := by rw [k2]; subst hS; simp [e2]
  have j5 : tget s1.t 5 = .slice (some ⟨H.length, 0, none⟩) c.cells c.cells := by rw [k5]; subst hS; simp [e5]
  have j7 : tget s1.t 7 = .int .i64 n := by rw [k7]; subst hS; simp [e7]
  have j8 : tget s1.t 8 = .int .i64 i := by rw [k8]; subst hS; simp [e8]
  have jL : s1.L = S.L := by rw [qL]; subst hS; rfl
  have jl : s1.lim = H.length := by rw [ql]; subst hS; rfl
  simp [and_assoc, j1, j2, j5, j7, j8, jL, jl, qH, hw1]
  exact ⟨_, by omega, i + 1, by omega, rfl, by omega, by rw [hsucc]⟩
def stN : SC := sf_cobleref01_Steps.body.loops.getD 1 .skip
theorem relN_len {w h : Int} (N : Nat) (hw : 1 ≤ w) (hh : 1 ≤ h) (l : List Int) : ∀ m : Nat, ((List.range m).foldl (relN w h N) l).length = l.length
  | 0 => rfl
  | m + 1 => by
    rw [List.range_succ, List.foldl_append, List.foldl_cons, List.foldl_nil]
    unfold relN
    rw [foldI _ hw hh]
    exact relN_len N hw hh l m
theorem st_n (c : Ch) (hok : ChOk c) (H : AH) (d t s : Value) (hc : ChIn H c d t s) (l : List Int) (hl : l.length = c.cells) (S : St)
    (h2 : tget S.t 2 = .pointer (some ⟨2, 0, some 0⟩)) (h5 : tget S.t 5 = .slice (some ⟨H.length, 0, none⟩) c.cells c.cells) (h7 : tget S.t 7 = .int .i64 0) (hL : S.L = [(2, 0, .cells [.int .i64 c.w, .int .i64 c.h, d, t, s])]) (hH : S.H = H ++ [.rw 1 (ints l)]) (hlim : S.lim = H.length) :
    ∃ q, exL Tryz.prog pf (.loop stN) S = some q ∧ q.1 = .exit 2 ∧ q.2.H = H ++ [.rw 1 (ints ((List.range c.cells).foldl (relN c.w c.h c.cells) l))] ∧ tget q.2.t 5 = tget S.t 5 := by
  have hw := hok.1.1
  have hh := hok.2.1.1
  obtain ⟨m0, m1, m2⟩ := hok.mul
  refine loop_rule (I := fun m s' => ∃ n, n ≤ c.cells ∧ m = c.cells - n ∧ tget s'.t 2 = .pointer (some ⟨2, 0, some 0⟩) ∧ tget s'.t 5 = .slice (some ⟨H.length, 0, none⟩) c.cells c.cells ∧ tget s'.t 7 = .int .i64 n ∧ s'.L = S.L ∧ s'.lim = H.length ∧ s'.H = H ++ [.rw 1 (ints ((List.range n).foldl (relN c.w c.h c.cells) l))]) ?_ c.cells S
    ⟨0, by omega, by omega, h2, h5, h7, rfl, hlim, hH⟩
  rintro m s' ⟨n, hn, rfl, e2, e5, e7, eL, el, eH⟩
  by_cases hlt : n < c.cells
  rotate_left
  · have : n = c.cells := by omega
    subst this
    simp [stN, SC.loops, sf_cobleref01_Steps, e2, e5, e7, eL, el, eH, h2, h5, h7, hlim]
  have hsucc : (List.range (n + 1)).foldl (relN c.w c.h c.cells) l = relN c.w c.h c.cells ((List.range n).foldl (relN c.w c.h c.cells) l) n := by rw [List.range_succ, List.foldl_append, List.foldl_cons, List.foldl_nil]
  have hlen := relN_len c.cells hw hh l n
  obtain ⟨l1, hl1⟩ : ∃ l1, l1 = (List.range n).foldl (relN c.w c.h c.cells) l := ⟨_, rfl⟩
  rw [← hl1] at eH hsucc hlen
  have hll : l1.length = c.cells := by rw [hlen, hl]
  have hw1 : IntKind.i64.wrap ((n : Int) + 1) = (n : Int) + 1 := wrap_i64 (by omega) (by omega)
  simp [stN, SC.loops, sf_cobleref01_Steps, e2, e5, e7, eL, el, eH, h2, h5, h7, hlt, hlim]
  generalize hS : ({ t := _, L := _, H := _, lim := _, rd := _ } : St) = S2
  obtain ⟨⟨e, s1⟩, hr, q1, qH, qL, ql, k1, k2, k5, k7⟩ := st_i c hok H d t s hc l1 hll (n := n) (by omega) S2 (by subst hS; simp [e2]) (by subst hS; simp [e5]) (by subst hS; simp [e7]) (by subst hS; simp) (by subst hS; simp [hL]) (by subst hS; rfl) (by subst hS; rfl)
  simp [stI, SC.loops, sf_cobleref01_Steps] at hr
  rw [hr]
  simp only at q1 qH qL ql k1 k2 k5 k7
  subst q1
  have j2 : tget s1.t 2 = .pointer (some ⟨2, 0, some 0⟩) := by rw [k2]; subst hS; simp [e2]
  have j5 : tget s1.t 5 = .slice (some ⟨H.length, 0, none⟩) c.cells c.cells := by rw [k5]; subst hS; simp [e5]
  have j7 : tget s1.t 7 = .int .i64 n := by rw [k7]; subst hS; simp [e7]
  have jL : s1.L = S.L := by rw [qL]; subst hS; rfl
  have jl : s1.lim = H.length := by rw [ql]; subst hS; rfl
  simp [and_assoc, j2, j5, j7, jL, jl, qH, hw1]
  exact ⟨_, by omega, n + 1, by omega, rfl, by omega, by rw [hsucc]⟩
def stF : SC := sf_cobleref01_Steps.body.loops.getD 0 .skip
def fillT (N i : Nat) : List Int := List.replicate i (N : Int) ++ List.replicate (N - i) 0
theorem rep_cons (i : Nat) (x : Int) (r : List Int) : List.replicate i x ++ x :: r = x :: (List.replicate i x ++ r) := by
  induction i with
  | zero => rfl
  | succ i ih => rw [List.replicate_succ, List.cons_append, ih, List.cons_append]
theorem fillT_set {N i : Nat} (h : i < N) : (fillT N i).set i (N : Int) = fillT N (i + 1) := by
  unfold fillT
  obtain ⟨m, hm⟩ : ∃ m, N - i = m + 1 := ⟨N - i - 1, by omega⟩
  rw [hm, show N - (i + 1) = m by omega, List.set_append_right _ _ (by simp)]
  simp [List.replicate_succ]
  exact rep_cons i _ _
theorem st_f (c : Ch) (hok : ChOk c) (H : AH) (S : St)
    (h5 : tget S.t 5 = .slice (some ⟨H.length, 0, none⟩) c.cells c.cells) (h6 : tget S.t 6 = .int .i64 0) (hH : S.H = H ++ [.rw 1 (ints (fillT c.cells 0))]) (hlim : S.lim = H.length) :
    ∃ q, exL Tryz.prog pf (.loop stF) S = some q ∧ q.1 = .exit 0 ∧ q.2.H = H ++ [.rw 1 (ints (fillT c.cells c.cells))] ∧ q.2.L = S.L ∧ q.2.lim = S.lim ∧ tget q.2.t 1 = tget S.t 1 ∧ tget q.2.t 2 = tget S.t 2 ∧ tget q.2.t 5 = tget S.t 5 := by
  obtain ⟨m0, m1, m2⟩ := hok.mul
  refine loop_rule (I := fun m s' => ∃ i, i ≤ c.cells ∧ m = c.cells - i ∧ tget s'.t 1 = tget S.t 1 ∧ tget s'.t 2 = tget S.t 2 ∧ tget s'.t 5 = .slice (some ⟨H.length, 0, none⟩) c.cells c.cells ∧ tget s'.t 6 = .int .i64 i ∧ s'.L = S.L ∧ s'.lim = H.length ∧ s'.H = H ++ [.rw 1 (ints (fillT c.cells i))]) ?_ c.cells S
    ⟨0, by omega, by omega, rfl, rfl, h5, h6, rfl, hlim, hH⟩
  rintro m s' ⟨i, hi, rfl, e1, e2, e5, e6, eL, el, eH⟩
  by_cases hlt : i < c.cells
  rotate_left
  · have : i = c.cells := by omega
    subst this
    simp [stF, SC.loops, sf_cobleref01_Steps, e1, e2, e5, e6, eL, el, eH, h5, hlim]
  have hw1 : IntKind.i64.wrap ((i : Int) + 1) = (i : Int) + 1 := wrap_i64 (by omega) (by omega)
  have hfl : i + 1 ≤ (fillT c.cells i).length := by simp [fillT]; omega
  have hset := fillT_set hlt
  obtain ⟨l1, hl1⟩ : ∃ l1, l1 = fillT c.cells i := ⟨_, rfl⟩
  rw [← hl1] at eH hfl hset
  simp [stF, SC.loops, sf_cobleref01_Steps, e1, e2, e5, e6, eL, el, eH, h5, hlim, hlt, hw1, ints_length, hfl, ints_set]
  exact ⟨_, by omega, i + 1, by omega, rfl, by omega, by rw [hset]⟩
theorem zeros_ints : ∀ n : Nat, zeros [.int .i64 0] n = ints (List.replicate n 0)
  | 0 => rfl
  | n + 1 => by simp only [zeros, zeros_ints n, List.replicate_succ, ints, List.map_cons]; rfl
def stepsL (c : Ch) (a : Nat) : List Int := (List.range c.cells).foldl (relN c.w c.h c.cells) ((List.replicate c.cells (c.cells : Int)).set a 0)
theorem run_Steps (c : Ch) (hok : ChOk c) (lim : Nat) (H : AH) (d t s : Value) (hc : ChIn H c d t s) {a : Nat} (ha : a < c.cells) :
    apL Tryz.prog pf (.func (.func 94) #[] #[]) [chV c d t s, .int .i64 a] lim H = some (.slice (some ⟨H.length, 0, none⟩) c.cells c.cells, H ++ [.rw 1 (ints (stepsL c a))]) := by
  rw [apL_func _ _ _ _ _ _ (by rfl), sf_cobleref01_Steps_eq]
  obtain ⟨m0, m1, m2⟩ := hok.mul
  have hC := fun lim => run_CellsCh c lim H d t s
  have hwm : IntKind.i64.wrap (c.w * c.h) = (c.cells : Int) := by rw [m2]; exact wrap_i64 (by omega) (by omega)
  have hmx : c.cells ≤ maxA := Nat.le_trans (show c.cells ≤ 144 by omega) (by decide)
  have hc' := hc
  obtain ⟨⟨da, dc, ed, _⟩, ⟨ta, tc, et, _⟩, ⟨sa, sc, es, _⟩, _, _, _⟩ := hc'
  simp only [chV, ed, et, es, hwm] at hC
  simp [sf_cobleref01_Steps, chV, ed, et, es, hC, hmx, zeros_ints, pf_pure, pureF]
  generalize hS : ({ t := _, L := _, H := _, lim := _, rd := _ } : St) = S
  obtain ⟨⟨e, s1⟩, hr, q1, qH, qL, ql, k1, k2, k5⟩ := st_f c hok H S (by subst hS; simp) (by subst hS; simp) (by subst hS; simp [fillT]) (by subst hS; rfl)
  simp [stF, SC.loops, sf_cobleref01_Steps] at hr
  rw [hr]
  simp only at q1 qH qL ql k1 k2 k5
  subst q1
  have j1 : tget s1.t 1 = .int .i64 a := by rw [k1]; subst hS; simp
  have j2 : tget s1.t 2 = .pointer (some ⟨2, 0, some 0⟩) := by rw [k2]; subst hS; simp
  have j5 : tget s1.t 5 = .slice (some ⟨H.length, 0, none⟩) c.cells c.cells := by rw [k5]; subst hS; simp
  have jL : s1.L = [(2, 0, .cells [.int .i64 c.w, .int .i64 c.h, d, t, s])] := by rw [qL]; subst hS; simp [ed, et, es]
  have jl : s1.lim = H.length := by rw [ql]; subst hS; rfl
  have hf : fillT c.cells c.cells = List.replicate c.cells (c.cells : Int) := by simp [fillT]
  rw [hf] at qH
  have hal : a + 1 ≤ (List.replicate c.cells (c.cells : Int)).length := by simp; omega
  obtain ⟨l0, hl0⟩ : ∃ l0, l0 = List.replicate c.cells (c.cells : Int) := ⟨_, rfl⟩
  rw [← hl0] at qH hal
  simp [j1, j2, j5, jL, jl, qH, ha, ints_length, hal, ints_set]
  generalize hS2 : ({ t := _, L := _, H := _, lim := _, rd := _ } : St) = S2
  obtain ⟨⟨e, s2⟩, hr2, y1, yH, y5⟩ := st_n c hok H d t s hc (l0.set a 0) (by rw [List.length_set, hl0]; simp) S2 (by subst hS2; simp [j2]) (by subst hS2; simp [j5]) (by subst hS2; simp) (by subst hS2; simp [ed, et, es]) (by subst hS2; rfl) (by subst hS2; rfl)
  simp [stN, SC.loops, sf_cobleref01_Steps] at hr2
  rw [hr2]
  simp only at y1 yH y5
  subst y1
  have z5 : tget s2.t 5 = .slice (some ⟨H.length, 0, none⟩) c.cells c.cells := by rw [y5]; subst hS2; simp [j5]
  simp [z5, yH, pf_pure, pureF, stepsL, hl0]
end Go.Proofs.YtddnloghclemjaaGreatDoor
namespace Go.Proofs.YtddnloghclemjaaGreatDoor
open Go Go.RowKit
def cenX (w i : Int) : Int := 2 * (i % w) + i / w % 2
def cenY (w i : Int) : Int := 2 * (i / w)
theorem cen_bound {c : Ch} (hok : ChOk c) {i : Nat} (hi : i < c.cells) : (0 ≤ (i : Int) % c.w ∧ (i : Int) % c.w ≤ 11) ∧ (0 ≤ (i : Int) / c.w ∧ (i : Int) / c.w ≤ 11) ∧ (0 ≤ cenX c.w i ∧ cenX c.w i ≤ 23) ∧ (0 ≤ cenY c.w i ∧ cenY c.w i ≤ 22) := by
  obtain ⟨m0, m1, m2⟩ := hok.mul
  obtain ⟨hw, hh, _⟩ := hok
  obtain ⟨⟨r0, r1⟩, ⟨q0, q1⟩, hiq⟩ := rowcol (h := c.h) hw.1 (Int.natCast_nonneg i) (by rw [m2]; exact Int.ofNat_lt.2 hi)
  unfold cenX cenY
  refine ⟨⟨q0, by omega⟩, ⟨r0, by omega⟩, ?_, ?_⟩ <;> omega
theorem run_centre (c : Ch) (hok : ChOk c) (lim : Nat) (H : AH) (d t s : Value) (hc : ChIn H c d t s) {i : Nat} (hi : i < c.cells) :
    apL Tryz.prog pf (.func (.func 134) #[] #[]) [chV c d t s, .int .i64 i] lim H = some (.tuple #[.int .i64 (cenX c.w i), .int .i64 (cenY c.w i)], H) := by
  rw [apL_func _ _ _ _ _ _ (by rfl), sf_cobleref03_centre_eq]
  obtain ⟨r0, q0, x0, y0⟩ := cen_bound hok hi
  have hw0 : c.w ≠ 0 := by have := hok.1; omega
  have hd : (i : Int).tdiv c.w = (i : Int) / c.w := Int.tdiv_eq_ediv_of_nonneg (Int.natCast_nonneg i)
  have hm : (i : Int).tmod c.w = (i : Int) % c.w := Int.tmod_eq_emod_of_nonneg (Int.natCast_nonneg i)
  have w1 : IntKind.i64.wrap ((i : Int) / c.w) = (i : Int) / c.w := wrap_i64 (by omega) (by omega)
  have w2 : IntKind.i64.wrap (2 * ((i : Int) % c.w)) = 2 * ((i : Int) % c.w) := wrap_i64 (by omega) (by omega)
  have h2 : ((i : Int) / c.w).tmod 2 = (i : Int) / c.w % 2 := Int.tmod_eq_emod_of_nonneg q0.1
  have w3 : IntKind.i64.wrap (2 * ((i : Int) % c.w) + (i : Int) / c.w % 2) = cenX c.w i := wrap_i64 (by unfold cenX at x0; omega) (by unfold cenX at x0; omega)
  have w4 : IntKind.i64.wrap (2 * ((i : Int) / c.w)) = cenY c.w i := wrap_i64 (by omega) (by omega)
  obtain ⟨⟨da, dc, ed, _⟩, ⟨ta, tc, et, _⟩, ⟨sa, sc, es, _⟩, _, _, _⟩ := hc
  simp [sf_cobleref03_centre, chV, ed, et, es, hw0, hd, hm, w1, w2, h2, w3, w4, pf_pure, pureF]
def seenM (w : Int) (r : Rep) (i : Int) : Bool :=
  let u := cenX w i - cenX w r.cell
  let v := cenY w i - cenY w r.cell
  if i = r.cell then false else
  if 0 < turnN r then decide (0 ≤ r.a * v - r.b * u) && decide (0 ≤ u * r.d - v * r.c)
  else decide (r.a * v - r.b * u = 0) && decide (0 < r.a * u + r.b * v)
def holdsM (w : Int) (r : Rep) (i : Int) : Bool :=
  if r.kind = 1 then decide (r.a ≤ apt w r.cell i) && decide (apt w r.cell i ≤ r.b)
  else if r.kind = 2 then seenM w r i
  else if r.kind = 3 then (decide (r.a ≤ i / w) && decide (i / w ≤ r.b)) && (decide (r.c ≤ i % w) && decide (i % w ≤ r.d))
  else decide (r.a < apt w r.cell i)
structure BeamB (r : Rep) : Prop where
  a : -200 ≤ r.a ∧ r.a ≤ 200
  b : -200 ≤ r.b ∧ r.b ≤ 200
  c : -200 ≤ r.c ∧ r.c ≤ 200
  d : -200 ≤ r.d ∧ r.d ≤ 200
theorem beamB {r : Rep} (h : beamOk r = true) : BeamB r := by
  unfold beamOk near200 at h
  simp only [Bool.and_eq_true, decide_eq_true_eq] at h
  exact ⟨h.1.1.1.1, h.1.1.1.2, h.1.1.2, h.1.2⟩
set_option maxHeartbeats 1000000 in
theorem run_seen (c : Ch) (hok : ChOk c) (lim : Nat) (H : AH) (d t s : Value) (hc : ChIn H c d t s) (q : Rep) (hb : BeamB q) {k : Nat} (hq : q.cell = k) (hk : k < c.cells) {i : Nat} (hi : i < c.cells) :
    apL Tryz.prog pf (.func (.func 109) #[] #[]) [chV c d t s, repV q, .int .i64 i] lim H = some (.bool (seenM c.w q i), H) := by
  rw [apL_func _ _ _ _ _ _ (by rfl), sf_cobleref03_seen_eq]
  obtain ⟨_, _, x0, y0⟩ := cen_bound hok hi
  obtain ⟨_, _, x1, y1⟩ := cen_bound hok hk
  have c1 := fun lim => run_centre c hok lim H d t s hc hi
  have c2 := fun lim => run_centre c hok lim H d t s hc hk
  obtain ⟨ha, hbb, hcc, hd⟩ := hb
  obtain ⟨⟨da, dc, ed, _⟩, ⟨ta, tc, et, _⟩, ⟨sa, sc, es, _⟩, _, _, _⟩ := hc
  simp only [chV, repV, ed, et, es, hq] at c1 c2 ⊢
  have hs : seenM c.w q i = (if (i : Int) = k then false else if 0 < turnN q then decide (0 ≤ q.a * (cenY c.w i - cenY c.w k) - q.b * (cenX c.w i - cenX c.w k)) && decide (0 ≤ (cenX c.w i - cenX c.w k) * q.d - (cenY c.w i - cenY c.w k) * q.c) else decide (q.a * (cenY c.w i - cenY c.w k) - q.b * (cenX c.w i - cenX c.w k) = 0) && decide (0 < q.a * (cenX c.w i - cenX c.w k) + q.b * (cenY c.w i - cenY c.w k))) := by
    unfold seenM; simp only [hq]
  rw [hs]
  generalize cenX c.w i = X at *
  generalize cenY c.w i = Y at *
  generalize cenX c.w k = X1 at *
  generalize cenY c.w k = Y1 at *
  obtain ⟨u, eu⟩ : ∃ u, u = X - X1 := ⟨_, rfl⟩
  obtain ⟨v, ev⟩ : ∃ v, v = Y - Y1 := ⟨_, rfl⟩
  have w1 : IntKind.i64.wrap (X - X1) = u := by rw [wrap_i64 (by omega) (by omega), eu]
  have w2 : IntKind.i64.wrap (Y - Y1) = v := by rw [wrap_i64 (by omega) (by omega), ev]
  have hu : -4000 ≤ u ∧ u ≤ 4000 := by omega
  have hv : -4000 ≤ v ∧ v ≤ 4000 := by omega
  simp only [← eu, ← ev]
  have t1 := fun lim H => run_Turn q.a q.b q.c q.d (by omega) (by omega) (by omega) (by omega) lim H
  have t2 := fun lim H => run_Turn q.a q.b u v (by omega) (by omega) hu hv lim H
  have t3 := fun lim H => run_Turn u v q.c q.d hu hv (by omega) (by omega) lim H
  change ∀ lim H, apL _ _ _ _ _ _ = some (.int .i64 (turnN q), H) at t1
  have m1 := mul_le4 (x := q.a) (y := u) (by omega) hu
  have m2 := mul_le4 (x := q.b) (y := v) (by omega) hv
  have w3 : IntKind.i64.wrap (q.a * u) = q.a * u := wrap_i64 (by omega) (by omega)
  have w4 : IntKind.i64.wrap (q.b * v) = q.b * v := wrap_i64 (by omega) (by omega)
  have w5 : IntKind.i64.wrap (q.a * u + q.b * v) = q.a * u + q.b * v := wrap_i64 (by omega) (by omega)
  by_cases e : i = k
  · have e' : (i : Int) = k := by omega
    subst e
    simp [sf_cobleref03_seen, c1, w1, w2, pf_pure, pureF]
  have e' : ((i : Int) == (k : Int)) = false := by simp; omega
  have e3 : ¬ (i : Int) = (k : Int) := by omega
  by_cases k1 : 0 < turnN q
  · cases k2 : decide (0 ≤ q.a * v - q.b * u) <;> simp [-Int.sub_nonneg, sf_cobleref03_seen, c1, c2, w1, w2, e3, e', t1, t2, t3, k1, k2, pf_pure, pureF]
  · by_cases k2 : q.a * v - q.b * u = 0
    · have k2' : (q.a * v - q.b * u == 0) = true := by rw [k2]; rfl
      simp [-Int.sub_nonneg, sf_cobleref03_seen, c1, c2, w1, w2, w3, w4, w5, e3, e', t1, t2, t3, k1, k2, k2', pf_pure, pureF]
    · have k2' : (q.a * v - q.b * u == 0) = false := by rw [beq_eq_false_iff_ne]; exact k2
      simp [-Int.sub_nonneg, sf_cobleref03_seen, c1, c2, w1, w2, w3, w4, w5, e3, e', t1, t2, t3, k1, k2, k2', pf_pure, pureF]
theorem run_srCentre (x : Ds) (hok : ChOk x.ch) (lim : Nat) (H : AH) (d t s r a b e : Value) (h : DsIn H x d t s r) (ha : OneS a) (hb : OneS b) (he : OneS e) {i : Nat} (hi : i < x.ch.cells) :
    apL Tryz.prog pf (.func (.func 154) #[] #[]) [srV x d t s r a b e, .int .i64 i] lim H = some (arV (cenX x.ch.w i) (cenY x.ch.w i), H) := by
  rw [apL_func _ _ _ _ _ _ (by rfl), sf_fixes_search_centre_eq]
  obtain ⟨r0, q0, x0, y0⟩ := cen_bound hok hi
  have hw0 : x.ch.w ≠ 0 := by have := hok.1; omega
  have hd : (i : Int).tdiv x.ch.w = (i : Int) / x.ch.w := Int.tdiv_eq_ediv_of_nonneg (Int.natCast_nonneg i)
  have hm : (i : Int).tmod x.ch.w = (i : Int) % x.ch.w := Int.tmod_eq_emod_of_nonneg (Int.natCast_nonneg i)
  have w1 : IntKind.i64.wrap ((i : Int) / x.ch.w) = (i : Int) / x.ch.w := wrap_i64 (by omega) (by omega)
  have w2 : IntKind.i64.wrap (2 * ((i : Int) % x.ch.w)) = 2 * ((i : Int) % x.ch.w) := wrap_i64 (by omega) (by omega)
  have h2 : ((i : Int) / x.ch.w).tmod 2 = (i : Int) / x.ch.w % 2 := Int.tmod_eq_emod_of_nonneg q0.1
  have w3 : IntKind.i64.wrap (2 * ((i : Int) % x.ch.w) + (i : Int) / x.ch.w % 2) = cenX x.ch.w i := wrap_i64 (by unfold cenX at x0; omega) (by unfold cenX at x0; omega)
  have w4 : IntKind.i64.wrap (2 * ((i : Int) / x.ch.w)) = cenY x.ch.w i := wrap_i64 (by omega) (by omega)
  obtain ⟨⟨⟨da, dc, ed, _⟩, ⟨ta, tc, et, _⟩, ⟨sa, sc, es, _⟩, _, htl, _⟩, ⟨ra, rc, er, _⟩, _⟩ := h
  obtain ⟨a1, a2, a3, ea⟩ := ha
  obtain ⟨b1, b2, b3, eb⟩ := hb
  obtain ⟨e1, e2, e3, ee⟩ := he
  simp [sf_fixes_search_centre, srV, arV, ed, et, es, er, ea, eb, ee, hw0, hd, hm, w1, w2, h2, w3, w4, pf_pure, pureF]
theorem run_srArrow (x : Ds) (hok : ChOk x.ch) (lim : Nat) (H : AH) (d t s r a b e : Value) (h : DsIn H x d t s r) (ha : OneS a) (hb : OneS b) (he : OneS e) {i k : Nat} (hi : i < x.ch.cells) (hk : k < x.ch.cells) :
    apL Tryz.prog pf (.func (.func 150) #[] #[]) [srV x d t s r a b e, .int .i64 k, .int .i64 i] lim H = some (arV (cenX x.ch.w i - cenX x.ch.w k) (cenY x.ch.w i - cenY x.ch.w k), H) := by
  rw [apL_func _ _ _ _ _ _ (by rfl), sf_fixes_search_arrow_eq]
  obtain ⟨_, _, x0, y0⟩ := cen_bound hok hi
  obtain ⟨_, _, x1, y1⟩ := cen_bound hok hk
  have c1 := fun lim => run_srCentre x hok lim H d t s r a b e h ha hb he hi
  have c2 := fun lim => run_srCentre x hok lim H d t s r a b e h ha hb he hk
  have w1 : IntKind.i64.wrap (cenX x.ch.w i - cenX x.ch.w k) = cenX x.ch.w i - cenX x.ch.w k := wrap_i64 (by omega) (by omega)
  have w2 : IntKind.i64.wrap (cenY x.ch.w i - cenY x.ch.w k) = cenY x.ch.w i - cenY x.ch.w k := wrap_i64 (by omega) (by omega)
  obtain ⟨⟨⟨da, dc, ed, _⟩, ⟨ta, tc, et, _⟩, ⟨sa, sc, es, _⟩, _, htl, _⟩, ⟨ra, rc, er, _⟩, _⟩ := h
  obtain ⟨a1, a2, a3, ea⟩ := ha
  obtain ⟨b1, b2, b3, eb⟩ := hb
  obtain ⟨e1, e2, e3, ee⟩ := he
  simp only [srV, arV, ed, et, es, er, ea, eb, ee] at c1 c2 ⊢
  simp [-Array.all_toList, sf_fixes_search_arrow, c1, c2, w1, w2, pf_pure, pureF]
set_option maxHeartbeats 1000000 in
theorem run_isInBeam (x : Ds) (hok : ChOk x.ch) (lim : Nat) (H : AH) (d t s r a b e : Value) (h : DsIn H x d t s r) (ha : OneS a) (hb : OneS b) (he : OneS e) (q : Rep) (hbm : BeamB q) {k : Nat} (hq : q.cell = k) (hk : k < x.ch.cells) {i : Nat} (hi : i < x.ch.cells) :
    apL Tryz.prog pf (.func (.func 138) #[] #[]) [srV x d t s r a b e, repV q, .int .i64 i] lim H = some (.bool (seenM x.ch.w q i), H) := by
  rw [apL_func _ _ _ _ _ _ (by rfl), sf_fixes_search_isInBeam_eq]
  obtain ⟨_, _, x0, y0⟩ := cen_bound hok hi
  obtain ⟨_, _, x1, y1⟩ := cen_bound hok hk
  have c1 := fun lim => run_srArrow x hok lim H d t s r a b e h ha hb he hi hk
  have hed := fun lim H => run_edges q lim H
  obtain ⟨ha', hbb, hcc, hd⟩ := hbm
  obtain ⟨⟨⟨da, dc, ed, _⟩, ⟨ta, tc, et, _⟩, ⟨sa, sc, es, _⟩, _, htl, _⟩, ⟨ra, rc, er, _⟩, _⟩ := h
  obtain ⟨a1, a2, a3, ea⟩ := ha
  obtain ⟨b1, b2, b3, eb⟩ := hb
  obtain ⟨e1, e2, e4, ee⟩ := he
  simp only [srV, repV, arV, ed, et, es, er, ea, eb, ee, hq] at c1 hed ⊢
  have hs : seenM x.ch.w q i = (if (i : Int) = k then false else if 0 < turnN q then decide (0 ≤ q.a * (cenY x.ch.w i - cenY x.ch.w k) - q.b * (cenX x.ch.w i - cenX x.ch.w k)) && decide (0 ≤ (cenX x.ch.w i - cenX x.ch.w k) * q.d - (cenY x.ch.w i - cenY x.ch.w k) * q.c) else decide (q.a * (cenY x.ch.w i - cenY x.ch.w k) - q.b * (cenX x.ch.w i - cenX x.ch.w k) = 0) && decide (0 < q.a * (cenX x.ch.w i - cenX x.ch.w k) + q.b * (cenY x.ch.w i - cenY x.ch.w k))) := by
    unfold seenM; simp only [hq]
  rw [hs]
  generalize cenX x.ch.w i = X at *
  generalize cenY x.ch.w i = Y at *
  generalize cenX x.ch.w k = X1 at *
  generalize cenY x.ch.w k = Y1 at *
  have hu : -4000 ≤ X - X1 ∧ X - X1 ≤ 4000 := by omega
  have hv : -4000 ≤ Y - Y1 ∧ Y - Y1 ≤ 4000 := by omega
  generalize X - X1 = u at *
  generalize Y - Y1 = v at *
  have t1 := fun lim H => run_turn q.a q.b q.c q.d (by omega) (by omega) (by omega) (by omega) lim H
  have t2 := fun lim H => run_turn q.a q.b u v (by omega) (by omega) hu hv lim H
  have t3 := fun lim H => run_turn u v q.c q.d hu hv (by omega) (by omega) lim H
  have t4 := fun lim H => run_along q.a q.b u v (by omega) (by omega) hu hv lim H
  change ∀ lim H, apL _ _ _ _ _ _ = some (.int .i64 (turnN q), H) at t1
  by_cases e : i = k
  · subst e
    simp [sf_fixes_search_isInBeam, pf_pure, pureF]
  have e' : ((i : Int) == (k : Int)) = false := by simp; omega
  have e3 : ¬ (i : Int) = (k : Int) := by omega
  by_cases k1 : 0 < turnN q
  · cases k2 : decide (0 ≤ q.a * v - q.b * u) <;> simp [-Int.sub_nonneg, sf_fixes_search_isInBeam, c1, hed, e3, e', t1, t2, t3, k1, k2, pf_pure, pureF]
  · by_cases k2 : q.a * v - q.b * u = 0
    · have k2' : (q.a * v - q.b * u == 0) = true := by rw [k2]; rfl
      simp [-Int.sub_nonneg, sf_fixes_search_isInBeam, c1, hed, e3, e', t1, t2, t3, t4, k1, k2, k2', pf_pure, pureF]
    · have k2' : (q.a * v - q.b * u == 0) = false := by rw [beq_eq_false_iff_ne]; exact k2
      simp [-Int.sub_nonneg, sf_fixes_search_isInBeam, c1, hed, e3, e', t1, t2, t3, t4, k1, k2, k2', pf_pure, pureF]
end Go.Proofs.YtddnloghclemjaaGreatDoor
namespace Go.Proofs.YtddnloghclemjaaGreatDoor
open Go Go.RowKit
theorem inN_of {n i : Nat} (h : i < n) : inN n (i : Int) = true := inN_iff.2 ⟨i, h, rfl⟩
theorem apartN_ok {c : Ch} (hok : ChOk c) {i k : Nat} (hi : i < c.cells) (hk : k < c.cells) : openE c [(i : Int), (k : Int)] [] = 0 ∧ apartN c i k = apt c.w i k := by
  have h : openE c [(i : Int), (k : Int)] [] = 0 := by
    rw [openE_eq hok]
    simp [inN_of hi, inN_of hk]
  exact ⟨h, by unfold apartN; rw [if_pos h]⟩
theorem run_srApart (x : Ds) (hok : ChOk x.ch) (lim : Nat) (H : AH) (d t s r a b e : Value) (h : DsIn H x d t s r) (ha : OneS a) (hb : OneS b) (he : OneS e) {i k : Nat} (hi : i < x.ch.cells) (hk : k < x.ch.cells) :
    apL Tryz.prog pf (.func (.func 83) #[] #[]) [srV x d t s r a b e, .int .i64 i, .int .i64 k] lim H = some (.int .i64 (apt x.ch.w i k), H) := by
  rw [apL_func _ _ _ _ _ _ (by rfl), sf_fixes_search_apart_eq]
  have hA := fun lim => run_Apart x.ch lim H d t s h.c i k
  rw [(apartN_ok hok hi hk).1, (apartN_ok hok hi hk).2] at hA
  obtain ⟨⟨⟨da, dc, ed, _⟩, ⟨ta, tc, et, _⟩, ⟨sa, sc, es, _⟩, _, htl, _⟩, ⟨ra, rc, er, _⟩, _⟩ := h
  obtain ⟨a1, a2, a3, ea⟩ := ha
  obtain ⟨b1, b2, b3, eb⟩ := hb
  obtain ⟨e1, e2, e3, ee⟩ := he
  simp only [chV, srV, ed, et, es, er, ea, eb, ee] at hA ⊢
  simp [sf_fixes_search_apart, hA, pf_pure, pureF]
set_option maxHeartbeats 2000000 in
theorem run_isTrue (x : Ds) (hok : ChOk x.ch) (lim : Nat) (H : AH) (d t s r a b e : Value) (h : DsIn H x d t s r) (ha : OneS a) (hb : OneS b) (he : OneS e) (q : Rep) (hq : repOk x.cells x.ticks q = true) {i : Nat} (hi : i < x.ch.cells) :
    apL Tryz.prog pf (.func (.func 114) #[] #[]) [srV x d t s r a b e, repV q, .int .i64 i] lim H = some (.bool (holdsM x.ch.w q i), H) := by
  have hq0 := hq
  unfold repOk at hq
  simp only [Bool.and_eq_true] at hq
  obtain ⟨⟨⟨hqt, hqc⟩, _⟩, hqb⟩ := hq
  obtain ⟨k, hk, ek⟩ := inN_iff.1 hqc
  change k < x.ch.cells at hk
  rw [apL_func _ _ _ _ _ _ (by rfl), sf_fixes_search_isTrue_eq]
  obtain ⟨⟨r0, r1⟩, ⟨q0, q1⟩, x0, y0⟩ := cen_bound hok hi
  have hw0 : x.ch.w ≠ 0 := by have := hok.1; omega
  have hd : (i : Int).tdiv x.ch.w = (i : Int) / x.ch.w := Int.tdiv_eq_ediv_of_nonneg (Int.natCast_nonneg i)
  have hm : (i : Int).tmod x.ch.w = (i : Int) % x.ch.w := Int.tmod_eq_emod_of_nonneg (Int.natCast_nonneg i)
  have w1 : IntKind.i64.wrap ((i : Int) / x.ch.w) = (i : Int) / x.ch.w := wrap_i64 (by omega) (by omega)
  have hbt := fun l h lim H => run_between l h lim H
  generalize hH2 : H ++ [ABlk.rw 0 [.int .i64 q.a], .rw 0 [.int .i64 q.b]] = H2
  have hE : Ext H H2 := by subst hH2; exact Ext.push _ _
  have b1' := fun lim => hbt q.a q.b lim H
  have x1 := fun y lim => ext_between H q.a q.b y lim
  have x2 := fun y lim => ext_between H2 q.c q.d y lim
  rw [hH2] at b1' x1
  have hA := fun lim => run_srApart x hok lim H d t s r a b e h ha hb he hk hi
  have hA2 := fun lim => run_srApart x hok lim H2 d t s r a b e (h.ext hE) ha hb he hk hi
  by_cases k1 : q.kind = 1
  · obtain ⟨⟨⟨da, dc, ed, _⟩, ⟨ta, tc, et, _⟩, ⟨sa, sc, es, _⟩, _, htl, _⟩, ⟨ra, rc, er, _⟩, _⟩ := h
    obtain ⟨a1, a2, a3, ea⟩ := ha
    obtain ⟨b1, b2, b3, eb⟩ := hb
    obtain ⟨e1, e2, e3, ee⟩ := he
    simp only [betweenV, srV, repV, ed, et, es, er, ea, eb, ee, ek, k1] at b1' x1 hA2 ⊢
    simp [sf_fixes_search_isTrue, b1', x1, hA2, holdsM, k1, ek, pf_pure, pureF]
  by_cases k2 : q.kind = 2
  · have hbb : beamOk q = true := by
      unfold boundsOk at hqb
      rwa [if_neg k1, if_pos k2] at hqb
    have hB := fun lim => run_isInBeam x hok lim H d t s r a b e h ha hb he q (beamB hbb) ek hk hi
    obtain ⟨⟨⟨da, dc, ed, _⟩, ⟨ta, tc, et, _⟩, ⟨sa, sc, es, _⟩, _, htl, _⟩, ⟨ra, rc, er, _⟩, _⟩ := h
    obtain ⟨a1, a2, a3, ea⟩ := ha
    obtain ⟨b1, b2, b3, eb⟩ := hb
    obtain ⟨e1, e2, e3, ee⟩ := he
    simp only [srV, repV, ed, et, es, er, ea, eb, ee, k2] at hB ⊢
    simp [sf_fixes_search_isTrue, hB, holdsM, k2, pf_pure, pureF]
  by_cases k3 : q.kind = 3
  · obtain ⟨⟨⟨da, dc, ed, _⟩, ⟨ta, tc, et, _⟩, ⟨sa, sc, es, _⟩, _, htl, _⟩, ⟨ra, rc, er, _⟩, _⟩ := h
    obtain ⟨a1, a2, a3, ea⟩ := ha
    obtain ⟨b1, b2, b3, eb⟩ := hb
    obtain ⟨e1, e2, e3, ee⟩ := he
    simp only [betweenV, srV, repV, ed, et, es, er, ea, eb, ee, k3] at hbt b1' x1 x2 ⊢
    cases c1 : (decide (q.a ≤ (i : Int) / x.ch.w) && decide ((i : Int) / x.ch.w ≤ q.b)) with
    | false => simp [sf_fixes_search_isTrue, b1', x1, holdsM, k3, hw0, hd, hm, w1, c1, pf_pure, pureF]
    | true => simp [sf_fixes_search_isTrue, b1', hbt, x1, x2, holdsM, k3, hw0, hd, hm, w1, c1, pf_pure, pureF]
  · have k4 : q.kind = 4 := by
      unfold boundsOk at hqb
      rw [if_neg k1, if_neg k2, if_neg k3] at hqb
      by_cases k4 : q.kind = 4
      · exact k4
      · rw [if_neg k4] at hqb; cases hqb
    obtain ⟨⟨⟨da, dc, ed, _⟩, ⟨ta, tc, et, _⟩, ⟨sa, sc, es, _⟩, _, htl, _⟩, ⟨ra, rc, er, _⟩, _⟩ := h
    obtain ⟨a1, a2, a3, ea⟩ := ha
    obtain ⟨b1, b2, b3, eb⟩ := hb
    obtain ⟨e1, e2, e3, ee⟩ := he
    simp only [srV, repV, ed, et, es, er, ea, eb, ee, ek, k4] at hA ⊢
    simp [sf_fixes_search_isTrue, hA, holdsM, k1, k2, k3, k4, ek, pf_pure, pureF]
end Go.Proofs.YtddnloghclemjaaGreatDoor
namespace Go.Proofs.YtddnloghclemjaaGreatDoor
open Go Go.RowKit
def Aft (H A : AH) : Prop := ∃ J, A = H ++ J
theorem Aft.refl (H : AH) : Aft H H := ⟨[], by simp⟩
theorem Aft.push {H A : AH} (h : Aft H A) (l : AH) : Aft H (A ++ l) := by obtain ⟨J, rfl⟩ := h; exact ⟨J ++ l, by simp⟩
theorem Aft.set {H A : AH} (h : Aft H A) {b : Nat} (hb : H.length ≤ b) (x : ABlk) : Aft H (A.set b x) := by obtain ⟨J, rfl⟩ := h; exact ⟨J.set (b - H.length) x, by rw [List.set_append_right _ _ hb]⟩
theorem Aft.ext {H A : AH} (h : Aft H A) : Ext H A := by obtain ⟨J, rfl⟩ := h; exact Ext.push H J
theorem Aft.trans {H A B : AH} (h : Aft H A) (k : Aft A B) : Aft H B := by obtain ⟨J, rfl⟩ := h; obtain ⟨K, rfl⟩ := k; exact ⟨J ++ K, by simp⟩
theorem Aft.le {H A : AH} (h : Aft H A) : H.length ≤ A.length := by obtain ⟨J, rfl⟩ := h; simp
theorem ints_append (l m : List Int) : ints (l ++ m) = ints l ++ ints m := by simp [ints]
def OwnA (n0 : Nat) (A : AH) (v : Value) (l : List Int) : Prop :=
  (l = [] ∧ v = .slice none 0 0) ∨ (l ≠ [] ∧ ∃ b, n0 ≤ b ∧ v = .slice (some ⟨b, 0, none⟩) l.length (l.length + 1) ∧ A[b]? = some (.rw 1 (ints l)))
theorem OwnA.sl {n0 : Nat} {A : AH} {v : Value} {l : List Int} (h : OwnA n0 A v l) : Sl A v l.length (ints l) := by
  rcases h with ⟨rfl, rfl⟩ | ⟨_, b, _, rfl, hb⟩
  · exact Sl.nil
  · exact Sl.made hb rfl
def OwnV (n0 : Nat) (A : AH) (v : Value) (cs : List Value) : Prop :=
  (cs = [] ∧ v = .slice none 0 0) ∨ (cs ≠ [] ∧ ∃ b, n0 ≤ b ∧ v = .slice (some ⟨b, 0, none⟩) cs.length (cs.length + 1) ∧ A[b]? = some (.rw 1 cs))
theorem OwnV.sl {n0 : Nat} {A : AH} {v : Value} {cs : List Value} (h : OwnV n0 A v cs) : Sl A v cs.length cs := by
  rcases h with ⟨rfl, rfl⟩ | ⟨_, b, _, rfl, hb⟩
  · exact ⟨none, 0, rfl, fun j v hv => by simp at hv⟩
  · refine ⟨_, _, rfl, fun j x hx => ⟨b, 0, rfl, ?_⟩⟩
    simp only [hcell, hb, Nat.zero_add]
    exact hx
def RowB (n0 : Nat) (A : AH) (v : Value) (l : List Int) : Prop := ∃ b, n0 ≤ b ∧ v = .slice (some ⟨b, 0, none⟩) l.length l.length ∧ A[b]? = some (.rw 1 (ints l))
def Tab (A : AH) (v : Value) (ls : List (List Int)) : Prop := ∃ rv : List Value, rv.length = ls.length ∧ Sl A v ls.length rv ∧ ∀ i (h : i < ls.length) (h' : i < rv.length), Sl A rv[i] ls[i].length (ints ls[i])
theorem own_cells {A : AH} {b : Nat} {cs : List Value} (h : A[b]? = some (.rw 1 cs)) (L : LS) (x : AH) : cellsAt L (A ++ x) ⟨b, 0, none⟩ cs.length = some cs := by
  have hbl : b < A.length := (List.getElem?_eq_some_iff.1 h).1
  refine cellsAt_of cs 0 fun m y hy => ?_
  simp only [hcell, Nat.zero_add]
  rw [List.getElem?_append_left hbl, h]
  exact hy
theorem own_get {A : AH} {b : Nat} {z : ABlk} (h : A[b]? = some z) (x : AH) : (A ++ x)[b]? = some z := by
  rw [List.getElem?_append_left (List.getElem?_eq_some_iff.1 h).1, h]
theorem own_set {A : AH} {b : Nat} {z : ABlk} (h : A[b]? = some z) (x y : AH) : (A ++ x).set b .dead ++ y = A.set b .dead ++ (x ++ y) := by
  rw [List.set_append_left _ _ (List.getElem?_eq_some_iff.1 h).1, List.append_assoc]
end Go.Proofs.YtddnloghclemjaaGreatDoor
namespace Go.Proofs.YtddnloghclemjaaGreatDoor
open Go Go.RowKit
def mapLoop : SC := sf_cobleref03_Map.body.loops.headD .skip
def RowsB (n0 : Nat) (A : AH) (cs : List Value) (l : Nat → List Int) : Prop := ∀ j (h : j < cs.length), RowB n0 A cs[j] (l j)
theorem stepsL_len {c : Ch} (hok : ChOk c) (a : Nat) : (stepsL c a).length = c.cells := by
  unfold stepsL
  rw [relN_len c.cells hok.1.1 hok.2.1.1]
  simp
theorem stepsL_get {c : Ch} (hok : ChOk c) {a b : Nat} (ha : a < c.cells) (hb : b < c.cells) : (stepsL c a).getD b 0 = apt c.w a b := ring_end hok.1.1 hok.2.1.1 hok.mul.2.2 ha hb
theorem map_loop (c : Ch) (hok : ChOk c) (H : AH) (d t s : Value) (hc : ChIn H c d t s) (S : St) (h1 : tget S.t 1 = .pointer (some ⟨1, 0, some 0⟩)) (h3 : tget S.t 3 = .slice none 0 0) (h4 : tget S.t 4 = .int .i64 0) (hL : S.L = [(1, 0, .cells [.int .i64 c.w, .int .i64 c.h, d, t, s])]) (hH : S.H = H) (hlim : S.lim ≤ H.length) :
    ∃ r, exL Tryz.prog pf (.loop mapLoop) S = some r ∧ r.1 = .exit 0 ∧ Aft H r.2.H ∧ ∃ cs, cs.length = c.cells ∧ OwnV H.length r.2.H (tget r.2.t 3) cs ∧ RowsB H.length r.2.H cs (stepsL c) := by
  obtain ⟨m0, m1, m2⟩ := hok.mul
  have hwm : IntKind.i64.wrap (c.w * c.h) = (c.cells : Int) := by rw [m2]; exact wrap_i64 (by omega) (by omega)
  refine loop_rule (I := fun n s' => ∃ i, i ≤ c.cells ∧ n = c.cells - i ∧ tget s'.t 1 = .pointer (some ⟨1, 0, some 0⟩) ∧ tget s'.t 4 = .int .i64 i ∧ s'.L = S.L ∧ s'.lim ≤ H.length ∧ Aft H s'.H ∧ ∃ cs, cs.length = i ∧ OwnV H.length s'.H (tget s'.t 3) cs ∧ RowsB H.length s'.H cs (stepsL c)) ?_ c.cells S
    ⟨0, by omega, by omega, h1, h4, rfl, hlim, by rw [hH]; exact Aft.refl H, [], rfl, .inl ⟨rfl, h3⟩, fun j h => by simp at h⟩
  rintro n s' ⟨i, hi, rfl, e1, e4, eL, el, eA, cs, hcs, eO, eR⟩
  obtain ⟨A, hA⟩ : ∃ A, s'.H = A := ⟨_, rfl⟩
  rw [hA] at eA eO eR
  have hCl := fun lim => run_CellsCh c lim A d t s
  have hS := fun (hlt : i < c.cells) lim => run_Steps c hok lim A d t s (hc.ext eA.ext) hlt
  have hsl := stepsL_len hok i
  rw [hwm] at hCl
  obtain ⟨⟨da, dc, ed, _⟩, ⟨ta, tc, et, _⟩, ⟨sa, sc, es, _⟩, _, _, _⟩ := hc
  simp only [chV, ed, et, es] at hCl hS
  rw [ed, et, es] at hL
  rw [hL] at eL
  by_cases hlt : i < c.cells
  rotate_left
  · have : i = c.cells := by omega
    subst this
    simp [mapLoop, SC.loops, sf_cobleref03_Map, e1, e4, eL, hA, hCl, hL]
    exact ⟨eA, cs, hcs, eO, eR⟩
  have hS := fun lim => hS hlt lim
  have hw : IntKind.i64.wrap ((i : Int) + 1) = (i : Int) + 1 := wrap_i64 (by omega) (by omega)
  have hmx : i + 1 ≤ maxA := Nat.le_trans (show i + 1 ≤ 145 by omega) (by decide)
  generalize hrow : ABlk.rw 1 (ints (stepsL c i)) = R at *
  have hm1 : 1 ≤ maxA := by decide
  have hnl : nlL cs = true := by
    have key : ∀ (l : List Value), (∀ v ∈ l, nl v = true) → nlL l = true := by
      intro l
      induction l with
      | nil => intro _; rfl
      | cons v l ih => intro h; unfold nlL; rw [h v (by simp), ih fun w hw => h w (by simp [hw])]; rfl
    refine key cs fun v hv => ?_
    obtain ⟨j, hj, rfl⟩ := List.mem_iff_getElem.1 hv
    obtain ⟨b, _, e, _⟩ := eR j hj
    rw [e]; simp
  have hR0 : (A ++ [R])[A.length]? = some R := by rw [List.getElem?_append_right (Nat.le_refl _), Nat.sub_self]; rfl
  rcases eO with ⟨rfl, e3⟩ | ⟨hne, b, hb, e3, hbA⟩
  · have hi0 : i = 0 := by simpa using hcs.symm
    simp [-oneC, oneC_slice, mapLoop, SC.loops, sf_cobleref03_Map, e1, e3, e4, eL, hA, hCl, hlt, hS, hw, hL, hm1]
    refine ⟨_, by omega, i + 1, by omega, rfl, by omega, el, eA.push _, [.slice (some ⟨A.length, 0, none⟩) c.cells c.cells], by simp [hi0], .inr ⟨by simp, A.length + 2, by have := eA.le; omega, by simp, ?_⟩, fun j hj => ?_⟩
    · rw [List.getElem?_append_right (by omega), Nat.add_sub_cancel_left]; rfl
    · have : j = 0 := by simpa using hj
      subst this
      subst hi0
      refine ⟨A.length, eA.le, by rw [hsl]; rfl, ?_⟩
      rw [List.getElem?_append_right (Nat.le_refl _), Nat.sub_self, hrow]
      rfl
  · have hbl : b < A.length := (List.getElem?_eq_some_iff.1 hbA).1
    have hn0 : ¬ cs.length = 0 := by simpa using hne
    have hi0 : ¬ i = 0 := by omega
    have hcA := fun L x => own_cells hbA L x
    have hbX := fun x => own_get hbA x
    have hsX := fun x y => own_set hbA x y
    have hlb : s'.lim ≤ b := Nat.le_trans el hb
    rw [hcs] at e3 hcA
    simp [-oneC, oneC_slice, mapLoop, SC.loops, sf_cobleref03_Map, e1, e3, e4, eL, hA, hCl, hlt, hS, hw, hi0, hmx, hcA, hbX, hsX, hcs, hnl, hlb, hL]
    refine ⟨_, by omega, i + 1, by omega, rfl, by omega, el, (eA.set hb _).push _, cs ++ [.slice (some ⟨A.length, 0, none⟩) c.cells c.cells], by simp [hcs], .inr ⟨by simp, A.length + 2, by have := eA.le; omega, by simp [hcs], ?_⟩, fun j hj => ?_⟩
    · rw [List.getElem?_append_right (by simp), List.length_set, Nat.add_sub_cancel_left]; rfl
    · by_cases hjc : j < cs.length
      · obtain ⟨b', h1, h2, h3⟩ := eR j hjc
        have hbb : b' ≠ b := by
          rintro rfl
          rw [hbA] at h3
          simp only [Option.some.injEq, ABlk.rw.injEq, true_and] at h3
          have h4 : cs[j]? = (ints (stepsL c j))[j]? := by rw [h3]
          rw [List.getElem?_eq_getElem hjc, h2] at h4
          simp only [ints, List.getElem?_map] at h4
          cases h5 : (stepsL c j)[j]? <;> rw [h5] at h4 <;> cases h4
        refine ⟨b', h1, by rw [List.getElem_append_left hjc]; exact h2, ?_⟩
        have hb'l : b' < A.length := (List.getElem?_eq_some_iff.1 h3).1
        rw [List.getElem?_append_left (by simpa using hb'l), List.getElem?_set_ne (Ne.symm hbb), h3]
      · have : j = i := by simp at hj; omega
        subst this
        refine ⟨A.length, eA.le, by rw [List.getElem_append_right (by omega)]; simp [hsl], ?_⟩
        rw [List.getElem?_append_right (by simp), List.length_set, Nat.sub_self, hrow]
        rfl
def mapM (c : Ch) : List (List Int) := (List.range c.cells).map (stepsL c)
theorem run_Map (c : Ch) (hok : ChOk c) (lim : Nat) (H : AH) (d t s : Value) (hc : ChIn H c d t s) :
    ∃ v A, apL Tryz.prog pf (.func (.func 52) #[] #[]) [chV c d t s] lim H = some (v, A) ∧ Aft H A ∧ Tab A v (mapM c) := by
  rw [apL_func _ _ _ _ _ _ (by rfl), sf_cobleref03_Map_eq]
  have hc0 := hc
  obtain ⟨⟨da, dc, ed, _⟩, ⟨ta, tc, et, _⟩, ⟨sa, sc, es, _⟩, _, _, _⟩ := hc0
  simp [sf_cobleref03_Map, chV, ed, et, es, pf_pure, pureF]
  generalize hS : ({ t := _, L := _, H := _, lim := _, rd := _ } : St) = S
  obtain ⟨⟨e, s1⟩, hr, q1, q2, cs, q3, q4, q5⟩ := map_loop c hok H d t s hc S (by subst hS; simp) (by subst hS; simp) (by subst hS; simp) (by subst hS; simp [ed, et, es]) (by subst hS; rfl) (by subst hS; simp)
  simp [mapLoop, SC.loops, sf_cobleref03_Map] at hr
  rw [hr]
  simp only at q1 q2 q4 q5
  subst q1
  have hT : Tab s1.H (tget s1.t 3) (mapM c) := by
    refine ⟨cs, by simp [mapM, q3], ?_, fun i h h' => ?_⟩
    · have := q4.sl
      rw [q3] at this
      simpa [mapM] using this
    · obtain ⟨b, _, e, hb⟩ := q5 i h'
      rw [e]
      simp only [mapM, List.getElem_map, List.getElem_range]
      exact ⟨_, _, rfl, fun j x hx => ⟨b, 0, rfl, by simp only [hcell, hb, Nat.zero_add]; exact hx⟩⟩
  rcases q4 with ⟨e0, e3⟩ | ⟨_, b, _, e3, _⟩
  · exfalso
    rw [e0] at q3
    have h1 : 0 < c.w * c.h := Int.mul_pos (by have := hok.1; omega) (by have := hok.2.1; omega)
    have h2 := hok.mul.2.2
    simp at q3
    omega
  · rw [e3] at hT
    simp [e3]
    first | exact ⟨_, _, ⟨rfl, rfl⟩, q2, hT⟩ | exact ⟨_, _, rfl, q2, hT⟩ | (refine ⟨_, _, ?_, q2, hT⟩; simp)
end Go.Proofs.YtddnloghclemjaaGreatDoor
namespace Go.Proofs.YtddnloghclemjaaGreatDoor
open Go Go.RowKit
theorem tab_cell {A : AH} {v : Value} {ls : List (List Int)} (h : Tab A v ls) {k i : Nat} (hk : k < ls.length) (hi : i < ls[k].length) :
    ∃ b o c b' o' c', v = .slice (some ⟨b, o, none⟩) ls.length c ∧ hcell A b (o + k) = some (.slice (some ⟨b', o', none⟩) ls[k].length c') ∧ hcell A b' (o' + i) = some (.int .i64 ls[k][i]) := by
  obtain ⟨rv, h1, ⟨a, c, rfl, h2⟩, h3⟩ := h
  obtain ⟨b, o, rfl, h4⟩ := h2 k rv[k] (List.getElem?_eq_getElem (by omega))
  obtain ⟨a', c', e, h5⟩ := h3 k hk (by omega)
  obtain ⟨b', o', rfl, h6⟩ := h5 i (.int .i64 ls[k][i]) (by simp [ints, hi])
  exact ⟨b, o, c, b', o', c', rfl, by rw [h4, e], h6⟩
theorem map_cell {c : Ch} (hok : ChOk c) {A : AH} {v : Value} (h : Tab A v (mapM c)) {k i : Nat} (hk : k < c.cells) (hi : i < c.cells) :
    ∃ b o cp b' o' c', v = .slice (some ⟨b, o, none⟩) c.cells cp ∧ hcell A b (o + k) = some (.slice (some ⟨b', o', none⟩) c.cells c') ∧ hcell A b' (o' + i) = some (.int .i64 (apt c.w k i)) := by
  have hl : (mapM c).length = c.cells := by simp [mapM]
  have hk' : k < (mapM c).length := by omega
  have hr : (mapM c)[k] = stepsL c k := by simp [mapM]
  have hrl : (mapM c)[k].length = c.cells := by rw [hr, stepsL_len hok]
  obtain ⟨b, o, cp, b', o', c', h1, h2, h3⟩ := tab_cell h hk' (i := i) (by omega)
  refine ⟨b, o, cp, b', o', c', by rw [h1, hl], by rw [h2, hrl], ?_⟩
  rw [h3, ← stepsL_get hok hk hi, List.getD_eq_getElem?_getD]
  have : i < (stepsL c k).length := by rw [stepsL_len hok]; exact hi
  simp [hr, this]
set_option maxHeartbeats 2000000 in
theorem run_Holds (x : Ds) (hok : ChOk x.ch) (lim : Nat) (H : AH) (d t s m : Value) (hc : ChIn H x.ch d t s) (hm : Tab H m (mapM x.ch)) (q : Rep) (hq : repOk x.cells x.ticks q = true) {i : Nat} (hi : i < x.ch.cells) :
    apL Tryz.prog pf (.func (.func 70) #[] #[]) [chV x.ch d t s, m, repV q, .int .i64 i] lim H = some (.bool (holdsM x.ch.w q i), H) := by
  unfold repOk at hq
  simp only [Bool.and_eq_true] at hq
  obtain ⟨⟨⟨hqt, hqc⟩, _⟩, hqb⟩ := hq
  obtain ⟨k, hk, ek⟩ := inN_iff.1 hqc
  change k < x.ch.cells at hk
  rw [apL_func _ _ _ _ _ _ (by rfl), sf_cobleref03_Holds_eq]
  obtain ⟨⟨r0, r1⟩, ⟨q0, q1⟩, x0, y0⟩ := cen_bound hok hi
  have hw0 : x.ch.w ≠ 0 := by have := hok.1; omega
  have hd : (i : Int).tdiv x.ch.w = (i : Int) / x.ch.w := Int.tdiv_eq_ediv_of_nonneg (Int.natCast_nonneg i)
  have hmo : (i : Int).tmod x.ch.w = (i : Int) % x.ch.w := Int.tmod_eq_emod_of_nonneg (Int.natCast_nonneg i)
  have w1 : IntKind.i64.wrap ((i : Int) / x.ch.w) = (i : Int) / x.ch.w := wrap_i64 (by omega) (by omega)
  obtain ⟨b, o, cp, b', o', c', em, g1, g2⟩ := map_cell hok hm hk hi
  simp only [hcell] at g1 g2
  by_cases k1 : q.kind = 1
  · obtain ⟨⟨da, dc, ed, _⟩, ⟨ta, tc, et, _⟩, ⟨sa, sc, es, _⟩, _, _, _⟩ := hc
    simp only [chV, repV, ed, et, es, em, ek, k1]
    simp [sf_cobleref03_Holds, holdsM, k1, ek, hk, hi, g1, g2, pf_pure, pureF]
  by_cases k2 : q.kind = 2
  · have hbb : beamOk q = true := by
      unfold boundsOk at hqb
      rwa [if_neg k1, if_pos k2] at hqb
    have hB := fun lim => run_seen x.ch hok lim H d t s hc q (beamB hbb) ek hk hi
    obtain ⟨⟨da, dc, ed, _⟩, ⟨ta, tc, et, _⟩, ⟨sa, sc, es, _⟩, _, _, _⟩ := hc
    simp only [chV, repV, ed, et, es, em, k2] at hB ⊢
    simp [sf_cobleref03_Holds, hB, holdsM, k2, pf_pure, pureF]
  by_cases k3 : q.kind = 3
  · obtain ⟨⟨da, dc, ed, _⟩, ⟨ta, tc, et, _⟩, ⟨sa, sc, es, _⟩, _, _, _⟩ := hc
    simp only [chV, repV, ed, et, es, em, k3]
    cases c1 : (decide (q.a ≤ (i : Int) / x.ch.w) && decide ((i : Int) / x.ch.w ≤ q.b)) with
    | false => simp [sf_cobleref03_Holds, holdsM, k3, hw0, hd, hmo, w1, c1, pf_pure, pureF]
    | true => simp [sf_cobleref03_Holds, holdsM, k3, hw0, hd, hmo, w1, c1, pf_pure, pureF]
  · have k4 : q.kind = 4 := by
      unfold boundsOk at hqb
      rw [if_neg k1, if_neg k2, if_neg k3] at hqb
      by_cases k4 : q.kind = 4
      · exact k4
      · rw [if_neg k4] at hqb; cases hqb
    obtain ⟨⟨da, dc, ed, _⟩, ⟨ta, tc, et, _⟩, ⟨sa, sc, es, _⟩, _, _, _⟩ := hc
    simp only [chV, repV, ed, et, es, em, ek, k4]
    simp [sf_cobleref03_Holds, holdsM, k4, ek, hk, hi, g1, g2, pf_pure, pureF]
end Go.Proofs.YtddnloghclemjaaGreatDoor
namespace Go.Proofs.YtddnloghclemjaaGreatDoor
open Go Go.RowKit
def bools (l : List Bool) : List Value := l.map .bool
theorem run_May (x : Ds) (hok : ChOk x.ch) (lim : Nat) (H : AH) (d t s r : Value) (h : DsIn H x d t s r) {i k : Nat} (hi : i < x.ch.cells) (hk : k < x.ch.ticks) :
    apL Tryz.prog pf (.func (.func 69) #[] #[]) [dsV x d t s r, .int .i64 i, .int .i64 k] lim H = some (.bool (x.ch.may x.g i k), H) := by
  rw [apL_func _ _ _ _ _ _ (by rfl), sf_cobleref03_May_eq]
  obtain ⟨_, ⟨t0, t1, t2⟩, _⟩ := hok.bounds hi hk
  have hO := fun lim => run_Over x.ch hok lim H d t s h.c hi hk (x.ch.hi k) (by omega) (by omega)
  obtain ⟨bt, ot, kt, et, g1, g2⟩ := h.c.td hk
  have hk' : k < x.ch.tide.length := hk
  obtain ⟨⟨⟨da, dc, ed, _⟩, _, ⟨sa, sc, es, _⟩, _, htl, _⟩, ⟨ra, rc, er, _⟩, _⟩ := h
  simp only [hcell] at g1 g2
  simp only [chV, dsV, ed, et, es, er] at hO ⊢
  simp [sf_cobleref03_May, hO, hk', g1, g2, Ch.may, pf_pure, pureF]
def neverR : Int := 1073741824
end Go.Proofs.YtddnloghclemjaaGreatDoor
namespace Go.Proofs.YtddnloghclemjaaGreatDoor
open Go Go.RowKit
def bestOf (p : Nat → Bool) (f : Nat → Int) : Nat → Int
  | 0 => neverR
  | k + 1 => if p k then min (bestOf p f k) (f k) else bestOf p f k
def hops (x : Ds) (i k : Nat) : Bool := decide (apt x.ch.w i k ≤ x.pace)
theorem min_val (a b : Int) : (if b < a then b else a) = min a b := by rw [Int.min_def]; split <;> split <;> omega
end Go.Proofs.YtddnloghclemjaaGreatDoor
namespace Go.Proofs.YtddnloghclemjaaGreatDoor
open Go Go.RowKit
theorem rep_w {x : Ds} (hdo : dsOk x = true) : x.reps.length ≤ 12 ∧ ∀ q ∈ x.reps, 0 ≤ q.w ∧ q.w ≤ 100 := by
  unfold dsOk at hdo
  simp only [Bool.and_eq_true, decide_eq_true_eq, List.all_eq_true] at hdo
  refine ⟨hdo.1.2, fun q hq => ?_⟩
  have := hdo.2 q hq
  unfold repOk weightOk at this
  simp only [Bool.and_eq_true] at this
  have h := this.1.2
  split at h
  · have : q.w = 0 := by simpa using h
    omega
  · simp only [Bool.and_eq_true, decide_eq_true_eq] at h; omega
end Go.Proofs.YtddnloghclemjaaGreatDoor
namespace Go.Proofs.YtddnloghclemjaaGreatDoor
open Go Go.RowKit
end Go.Proofs.YtddnloghclemjaaGreatDoor
namespace Go.Proofs.YtddnloghclemjaaGreatDoor
open Go Go.RowKit
theorem zeros_bools : ∀ n : Nat, zeros [.bool false] n = bools (List.replicate n false)
  | 0 => rfl
  | n + 1 => by simp only [zeros, zeros_bools n, List.replicate_succ, bools, List.map_cons]; rfl
theorem bools_length (l : List Bool) : (bools l).length = l.length := by simp [bools]
theorem bools_set (l : List Bool) (i : Nat) (b : Bool) : (bools l).set i (.bool b) = bools (l.set i b) := by simp [bools, List.map_set]
end Go.Proofs.YtddnloghclemjaaGreatDoor
namespace Go.Proofs.YtddnloghclemjaaGreatDoor
open Go Go.RowKit
end Go.Proofs.YtddnloghclemjaaGreatDoor
namespace Go.Proofs.YtddnloghclemjaaGreatDoor
open Go Go.RowKit
theorem oneC_bool (b : Bool) : oneC (.bool b) = true := by unfold oneC; rfl
end Go.Proofs.YtddnloghclemjaaGreatDoor
namespace Go.Proofs.YtddnloghclemjaaGreatDoor
open Go Go.RowKit
theorem dsE_zero {x : Ds} (h : dsE x = 0) : ChOk x.ch ∧ dsOk x = true := by
  unfold dsE at h
  split at h
  · rename_i h1
    split at h
    · rename_i h2; exact ⟨h1, h2⟩
    · cases h
  · cases h
theorem wrap_u64 {n : Nat} (h : n < 2 ^ 64) : IntKind.u64.wrap (n : Int) = n := by
  have : IntKind.u64.wrap (n : Int) = (n : Int) % 2 ^ 64 := by unfold IntKind.wrap; rfl
  rw [this]; omega
theorem u64_and {a b : Nat} (ha : a < 2 ^ 64) (hb : b < 2 ^ 64) : IntKind.u64.wrap (((BitVec.ofInt 64 (a : Int) &&& BitVec.ofInt 64 (b : Int)).toNat : Nat) : Int) = ((a &&& b : Nat) : Int) := by
  have h : (BitVec.ofInt 64 (a : Int) &&& BitVec.ofInt 64 (b : Int)).toNat = a &&& b := by
    rw [BitVec.toNat_and, BitVec.ofInt_natCast, BitVec.ofInt_natCast, BitVec.toNat_ofNat, BitVec.toNat_ofNat, Nat.mod_eq_of_lt ha, Nat.mod_eq_of_lt hb]
  rw [h]
  exact wrap_u64 (Nat.lt_of_le_of_lt Nat.and_le_left ha)
theorem u64_or {a b : Nat} (ha : a < 2 ^ 64) (hb : b < 2 ^ 64) : IntKind.u64.wrap (((BitVec.ofInt 64 (a : Int) ||| BitVec.ofInt 64 (b : Int)).toNat : Nat) : Int) = ((a ||| b : Nat) : Int) := by
  have h : (BitVec.ofInt 64 (a : Int) ||| BitVec.ofInt 64 (b : Int)).toNat = a ||| b := by
    rw [BitVec.toNat_or, BitVec.ofInt_natCast, BitVec.ofInt_natCast, BitVec.toNat_ofNat, BitVec.toNat_ofNat, Nat.mod_eq_of_lt ha, Nat.mod_eq_of_lt hb]
  rw [h]
  exact wrap_u64 (Nat.or_lt_two_pow ha hb)
def subM (a b : Nat) : Bool := a &&& b == a
theorem run_isIn {a b : Nat} (ha : a < 2 ^ 64) (hb : b < 2 ^ 64) (lim : Nat) (H : AH) : apL Tryz.prog pf (.func (.func 129) #[] #[]) [.int .u64 a, .int .u64 b] lim H = some (.bool (subM a b), H) := by
  rw [apL_func _ _ _ _ _ _ (by rfl), sf_fixes_set_isIn_eq]
  have hn : (BitVec.ofInt 64 (a : Int) &&& ~~~ BitVec.ofInt 64 (b : Int)).toNat < 2 ^ 64 := (BitVec.ofInt 64 (a : Int) &&& ~~~ BitVec.ofInt 64 (b : Int)).isLt
  have hz : ((BitVec.ofInt 64 (a : Int) &&& ~~~ BitVec.ofInt 64 (b : Int)).toNat = 0) ↔ a &&& b = a := by
    have e : ∀ i, (BitVec.ofInt 64 (a : Int) &&& ~~~ BitVec.ofInt 64 (b : Int)).toNat.testBit i = (a.testBit i && !b.testBit i) := by
      intro i
      rw [← BitVec.getLsbD, BitVec.getLsbD_and, BitVec.getLsbD_not, BitVec.ofInt_natCast, BitVec.ofInt_natCast, BitVec.getLsbD_ofNat, BitVec.getLsbD_ofNat]
      by_cases hi : i < 64
      · simp [hi]
      · have : a.testBit i = false := Nat.testBit_lt_two_pow (Nat.lt_of_lt_of_le ha (Nat.pow_le_pow_right (by omega) (by omega)))
        simp [hi, this]
    constructor
    · intro h
      apply Nat.eq_of_testBit_eq
      intro i
      have := e i
      rw [h] at this
      rw [Nat.testBit_and]
      cases h1 : a.testBit i <;> cases h2 : b.testBit i <;> simp_all
    · intro h
      apply Nat.eq_of_testBit_eq
      intro i
      rw [e i]
      have : (a &&& b).testBit i = a.testBit i := by rw [h]
      rw [Nat.testBit_and] at this
      cases h1 : a.testBit i <;> cases h2 : b.testBit i <;> simp_all
  have hw := wrap_u64 hn
  generalize hq : (BitVec.ofInt 64 (a : Int) &&& ~~~ BitVec.ofInt 64 (b : Int)).toNat = q at *
  have hb2 : subM a b = decide (q = 0) := by
    unfold subM
    by_cases h : q = 0
    · rw [hz.1 h]; simp [h]
    · have : a &&& b ≠ a := fun e => h (hz.2 e)
      simp [h, this]
  have hbits : IntKind.u64.bits = 64 := rfl
  have hq2 : a % 18446744073709551616 &&& 18446744073709551615 - b % 18446744073709551616 = q := by rw [← hq]; simp
  rw [hb2]
  by_cases h : q = 0
  · simp [sf_fixes_set_isIn, hbits, h, pf_pure, pureF]
    rw [hq2, hw, h]
    rfl
  · simp [sf_fixes_set_isIn, hbits, h, pf_pure, pureF]
    rw [hq2, hw]
    omega
end Go.Proofs.YtddnloghclemjaaGreatDoor
namespace Go.Proofs.YtddnloghclemjaaGreatDoor
open Go Go.RowKit
theorem run_holds {a b : Nat} (ha : a < 2 ^ 64) (hb : b < 2 ^ 64) (lim : Nat) (H : AH) : apL Tryz.prog pf (.func (.func 130) #[] #[]) [.int .u64 a, .int .u64 b] lim H = some (.bool (subM b a), H) := by
  rw [apL_func _ _ _ _ _ _ (by rfl), sf_fixes_set_holds_eq]
  have h := fun lim => run_isIn hb ha lim H
  simp [sf_fixes_set_holds, h, pf_pure, pureF]
theorem run_all3 (x : Ds) (hl : x.reps.length ≤ 12) (lim : Nat) (H : AH) (d t s r a b e : Value) (h : DsIn H x d t s r) (ha : OneS a) (hb : OneS b) (he : OneS e) :
    apL Tryz.prog pf (.func (.func 47) #[] #[]) [srV x d t s r a b e] lim H = some (.int .u64 ((2 ^ x.reps.length - 1 : Nat) : Int), H) := by
  rw [apL_func _ _ _ _ _ _ (by rfl), sf_fixes_search_all_eq]
  obtain ⟨⟨⟨da, dc, ed, _⟩, ⟨ta, tc, et, _⟩, ⟨sa, sc, es, _⟩, _, htl, _⟩, ⟨ra, rc, er, _⟩, _⟩ := h
  obtain ⟨a1, a2, a3, ea⟩ := ha
  obtain ⟨b1, b2, b3, eb⟩ := hb
  obtain ⟨e1, e2, e3, ee⟩ := he
  have hbits : IntKind.u64.bits = 64 := rfl
  have hmin : min x.reps.length 64 = x.reps.length := by omega
  have hp : 1 ≤ 2 ^ x.reps.length := Nat.one_le_two_pow
  have hp2 : 2 ^ x.reps.length ≤ 2 ^ 12 := Nat.pow_le_pow_right (by omega) hl
  have w1 : IntKind.u64.wrap ((2 : Int) ^ x.reps.length) = ((2 ^ x.reps.length : Nat) : Int) := by
    have : ((2 : Int) ^ x.reps.length) = ((2 ^ x.reps.length : Nat) : Int) := by simp
    rw [this]; exact wrap_u64 (by omega)
  have w2 : IntKind.u64.wrap (((2 ^ x.reps.length : Nat) : Int) - 1) = ((2 ^ x.reps.length - 1 : Nat) : Int) := by
    have : (((2 ^ x.reps.length : Nat) : Int) - 1) = ((2 ^ x.reps.length - 1 : Nat) : Int) := by omega
    rw [this]; exact wrap_u64 (by omega)
  simp only [srV, ed, et, es, er, ea, eb, ee]
  simp [-Int.natCast_pow, sf_fixes_search_all, hbits, hmin, w1, w2, pf_pure, pureF]
def setM (l : List Nat) : Nat := l.foldl (fun a i => a ||| 2 ^ i) 0
theorem setM_snoc (l : List Nat) (i : Nat) : setM (l ++ [i]) = setM l ||| 2 ^ i := by simp [setM]
theorem setM_lt : ∀ (l : List Nat), (∀ i ∈ l, i < 12) → setM l < 2 ^ 12 := by
  intro l
  have key : ∀ (l : List Nat) (a : Nat), a < 2 ^ 12 → (∀ i ∈ l, i < 12) → l.foldl (fun a i => a ||| 2 ^ i) a < 2 ^ 12 := by
    intro l
    induction l with
    | nil => intro a h _; exact h
    | cons j l ih => intro a h hi; exact ih _ (Nat.or_lt_two_pow h (Nat.pow_lt_pow_right (by omega) (hi j (by simp)))) fun i h' => hi i (by simp [h'])
  exact key l 0 (by omega)
def soLoop : SC := sf_fixes_setOf.body.loops.headD .skip
theorem setOf_loop (l : List Nat) (hl : l.length ≤ 100) (hi : ∀ i ∈ l, i < 12) (H : AH) (v : Value) (hv : Sl H v l.length (ints (l.map fun (i : Nat) => (i : Int)))) (S : St) (h3 : tget S.t 3 = .int .u64 0) (h6 : tget S.t 6 = v) (h7 : tget S.t 7 = .int .i64 l.length) (h8 : tget S.t 8 = .int .i64 0) (hH : S.H = H) :
    ∃ q, exL Tryz.prog pf (.loop soLoop) S = some q ∧ q.1 = .exit 0 ∧ q.2.H = H ∧ tget q.2.t 3 = .int .u64 (setM l) := by
  obtain ⟨aa, ac, rfl, hd⟩ := hv
  refine loop_rule (I := fun n s' => ∃ i, i ≤ l.length ∧ n = l.length - i ∧ tget s'.t 6 = .slice aa l.length ac ∧ tget s'.t 7 = .int .i64 l.length ∧ tget s'.t 8 = .int .i64 i ∧ s'.H = H ∧ tget s'.t 3 = .int .u64 (setM (l.take i))) ?_ l.length S ⟨0, by omega, by omega, h6, h7, h8, hH, by simpa [setM] using h3⟩
  rintro n s' ⟨i, hii, rfl, e6, e7, e8, eH, e3⟩
  by_cases hlt : i < l.length
  rotate_left
  · have : i = l.length := by omega
    subst this
    rw [List.take_length] at e3
    simp [soLoop, SC.loops, sf_fixes_setOf, e3, e6, e7, e8, eH]
  obtain ⟨b, o, rfl, g⟩ := hd i (.int .i64 (l[i] : Nat)) (by simp [ints, hlt])
  simp only [hcell] at g
  have hw : IntKind.i64.wrap ((i : Int) + 1) = (i : Int) + 1 := wrap_i64 (by omega) (by omega)
  have hs : l.take (i + 1) = l.take i ++ [l[i]] := by rw [List.take_add_one]; simp [hlt]
  have hlti : l[i] < 12 := hi _ (List.getElem_mem hlt)
  have hb0 := setM_lt (l.take i) fun j hj => hi j (List.mem_of_mem_take hj)
  have hset : setM (l.take (i + 1)) = setM (l.take i) ||| 2 ^ l[i] := by rw [hs, setM_snoc]
  generalize hq : l[i] = q at *
  generalize hm : setM (l.take i) = m at *
  have hbits : IntKind.u64.bits = 64 := rfl
  have hmin : min q 64 = q := by omega
  have hp2 : 2 ^ q ≤ 2 ^ 12 := Nat.pow_le_pow_right (by omega) (by omega)
  have w1 : IntKind.u64.wrap ((2 : Int) ^ q) = ((2 ^ q : Nat) : Int) := by
    have : ((2 : Int) ^ q) = ((2 ^ q : Nat) : Int) := by simp
    rw [this]; exact wrap_u64 (by omega)
  have w2 := u64_or (a := m) (b := 2 ^ q) (by omega) (by omega)
  obtain ⟨p, hp⟩ : ∃ p : Nat, p = 2 ^ q := ⟨_, rfl⟩
  rw [← hp] at w1 w2 hset hp2
  have hpm : p % 18446744073709551616 = p := Nat.mod_eq_of_lt (by omega)
  have hmm : m % 18446744073709551616 = m := Nat.mod_eq_of_lt (by omega)
  have w3 : IntKind.u64.wrap ((m ||| p : Nat) : Int) = ((m ||| p : Nat) : Int) := wrap_u64 (Nat.or_lt_two_pow (n := 64) (by omega) (by omega))
  simp [soLoop, SC.loops, sf_fixes_setOf, e3, e6, e7, e8, eH, hlt, g, hw, hbits, hmin, w1, hpm, hmm, w3]
  exact ⟨_, by omega, i + 1, by omega, rfl, by omega, by rw [hset]⟩
theorem run_setOf (l : List Nat) (hl : l.length ≤ 100) (hi : ∀ i ∈ l, i < 12) (lim : Nat) (H : AH) (v : Value) (hv : Sl H v l.length (ints (l.map fun (i : Nat) => (i : Int)))) :
    apL Tryz.prog pf (.func (.func 105) #[] #[]) [v] lim H = some (.int .u64 (setM l), H) := by
  rw [apL_func _ _ _ _ _ _ (by rfl), sf_fixes_setOf_eq]
  obtain ⟨aa, ac, ev, _⟩ : ∃ a c, v = .slice a l.length c ∧ True := by obtain ⟨a, c, e, _⟩ := hv; exact ⟨a, c, e, trivial⟩
  simp [sf_fixes_setOf, ev, pf_pure, pureF]
  generalize hS : ({ t := _, L := _, H := _, lim := _, rd := _ } : St) = S
  obtain ⟨⟨e, s1⟩, hr, q1, q2, q3⟩ := setOf_loop l hl hi H v hv S (by subst hS; simp) (by subst hS; simp [ev]) (by subst hS; simp) (by subst hS; simp) (by subst hS; rfl)
  simp [soLoop, SC.loops, sf_fixes_setOf] at hr
  rw [hr]
  simp only at q1 q2 q3
  subst q1
  simp [q2, q3]
end Go.Proofs.YtddnloghclemjaaGreatDoor
namespace Go.Proofs.YtddnloghclemjaaGreatDoor
open Go Go.RowKit
def cheapM (f : Nat → Int) (first : Nat) (l : List Nat) : Nat := l.foldl (fun a c => if f c < f a then c else a) first
theorem cheapM_mem (f : Nat → Int) : ∀ (l : List Nat) (a : Nat), cheapM f a l = a ∨ cheapM f a l ∈ l
  | [], a => .inl rfl
  | c :: l, a => by
    have := cheapM_mem f l (if f c < f a then c else a)
    show cheapM f _ l = a ∨ cheapM f _ l ∈ c :: l
    rcases this with h | h
    · rw [h]; split <;> simp
    · exact .inr (by simp [h])
theorem cheapM_le (f : Nat → Int) : ∀ (l : List Nat) (a : Nat), f (cheapM f a l) ≤ f a ∧ ∀ c ∈ l, f (cheapM f a l) ≤ f c
  | [], a => ⟨Int.le_refl _, by simp⟩
  | c :: l, a => by
    have ih := cheapM_le f l (if f c < f a then c else a)
    show f (cheapM f (if f c < f a then c else a) l) ≤ f a ∧ ∀ d ∈ c :: l, f (cheapM f (if f c < f a then c else a) l) ≤ f d
    split at ih
    · rename_i h
      rw [if_pos h]
      exact ⟨by omega, fun d hd => by rcases List.mem_cons.1 hd with rfl | hd; exact ih.1; exact ih.2 d hd⟩
    · rename_i h
      rw [if_neg h]
      exact ⟨ih.1, fun d hd => by rcases List.mem_cons.1 hd with rfl | hd; omega; exact ih.2 d hd⟩
def chLoop : SC := sf_fixes_search_cheapest.body.loops.headD .skip
theorem cheap_loop (l : List Nat) (hl : l.length ≤ 1000) (ps : List Int) (hi : ∀ i ∈ l, i < ps.length) (h0l : 0 < l.length) (H : AH) (v p : Value) (hv : Sl H v l.length (ints (l.map fun (i : Nat) => (i : Int)))) (hp : Sl H p ps.length (ints ps)) (S : St)
    (h2 : tget S.t 2 = p) (h7 : tget S.t 7 = .int .i64 (l[0] : Nat)) (h13 : tget S.t 13 = v) (h14 : tget S.t 14 = .int .i64 l.length) (h15 : tget S.t 15 = .int .i64 0) (hH : S.H = H) :
    ∃ q, exL Tryz.prog pf (.loop chLoop) S = some q ∧ q.1 = .exit 0 ∧ q.2.H = H ∧ tget q.2.t 7 = .int .i64 (cheapM (fun i => ps.getD i 0) l[0] l : Nat) := by
  obtain ⟨pa, pc, rfl, hpd⟩ := hp
  obtain ⟨aa, ac, rfl, hd⟩ := hv
  refine loop_rule (I := fun n s' => ∃ i, i ≤ l.length ∧ n = l.length - i ∧ tget s'.t 2 = .slice pa ps.length pc ∧ tget s'.t 13 = .slice aa l.length ac ∧ tget s'.t 14 = .int .i64 l.length ∧ tget s'.t 15 = .int .i64 i ∧ s'.H = H ∧ tget s'.t 7 = .int .i64 (cheapM (fun i => ps.getD i 0) l[0] (l.take i) : Nat)) ?_ l.length S
    ⟨0, by omega, by omega, h2, h13, h14, h15, hH, by simpa [cheapM] using h7⟩
  rintro n s' ⟨i, hii, rfl, e2, e13, e14, e15, eH, e7⟩
  by_cases hlt : i < l.length
  rotate_left
  · have : i = l.length := by omega
    subst this
    rw [List.take_length] at e7
    simp [chLoop, SC.loops, sf_fixes_search_cheapest, e2, e7, e13, e14, e15, eH]
  obtain ⟨b, o, rfl, g⟩ := hd i (.int .i64 (l[i] : Nat)) (by simp [ints, hlt])
  have hs : l.take (i + 1) = l.take i ++ [l[i]] := by rw [List.take_add_one]; simp [hlt]
  have hw : IntKind.i64.wrap ((i : Int) + 1) = (i : Int) + 1 := wrap_i64 (by omega) (by omega)
  have hc : cheapM (fun i => ps.getD i 0) l[0] (l.take (i + 1)) = if ps.getD l[i] 0 < ps.getD (cheapM (fun i => ps.getD i 0) l[0] (l.take i)) 0 then l[i] else cheapM (fun i => ps.getD i 0) l[0] (l.take i) := by
    rw [hs]; unfold cheapM; rw [List.foldl_append]; rfl
  have hq := hi _ (List.getElem_mem hlt)
  have hk : cheapM (fun i => ps.getD i 0) l[0] (l.take i) < ps.length := by
    rcases cheapM_mem (fun i => ps.getD i 0) (l.take i) l[0] with h | h
    · rw [h]; exact hi _ (List.getElem_mem h0l)
    · exact hi _ (List.mem_of_mem_take h)
  generalize hqq : l[i] = q at *
  generalize hkk : cheapM (fun i => ps.getD i 0) l[0] (l.take i) = k at *
  obtain ⟨pb, po, rfl, g1⟩ := hpd q _ (ints_get ps q hq)
  obtain ⟨pb', po', e, g2⟩ := hpd k _ (ints_get ps k hk)
  cases e
  simp only [hcell] at g g1 g2
  generalize hN1 : ps.getD q 0 = N1 at *
  generalize hN2 : ps.getD k 0 = N2 at *
  by_cases hlt2 : N1 < N2
  · rw [if_pos hlt2] at hc
    simp [chLoop, SC.loops, sf_fixes_search_cheapest, e2, e7, e13, e14, e15, eH, hlt, g, g1, g2, hq, hk, hlt2, hw]
    exact ⟨_, by omega, i + 1, by omega, rfl, by omega, by rw [← hc]; rfl⟩
  · rw [if_neg hlt2] at hc
    simp [chLoop, SC.loops, sf_fixes_search_cheapest, e2, e7, e13, e14, e15, eH, hlt, g, g1, g2, hq, hk, hlt2, hw]
    exact ⟨_, by omega, i + 1, by omega, rfl, by omega, by rw [← hc]; rfl⟩
theorem run_cheapest (x : Ds) (l : List Nat) (hl : l.length ≤ 1000) (ps : List Int) (hi : ∀ i ∈ l, i < ps.length) (h0l : 0 < l.length) (lim : Nat) (H : AH) (d t s r a b e v p : Value) (h : DsIn H x d t s r) (ha : OneS a) (hb : OneS b) (he : OneS e) (hv : Sl H v l.length (ints (l.map fun (i : Nat) => (i : Int)))) (hp : Sl H p ps.length (ints ps)) :
    apL Tryz.prog pf (.func (.func 96) #[] #[]) [srV x d t s r a b e, v, p] lim H = some (.int .i64 (cheapM (fun i => ps.getD i 0) l[0] l : Nat), H) := by
  rw [apL_func _ _ _ _ _ _ (by rfl), sf_fixes_search_cheapest_eq]
  obtain ⟨⟨⟨da, dc, ed, _⟩, ⟨ta, tc, et, _⟩, ⟨sa, sc, es, _⟩, _, htl, _⟩, ⟨ra, rc, er, _⟩, _⟩ := h
  obtain ⟨a1, a2, a3, ea⟩ := ha
  obtain ⟨b1, b2, b3, eb⟩ := hb
  obtain ⟨e1, e2, e3, ee⟩ := he
  have hp0 := hp
  have hv0 := hv
  obtain ⟨pa, pc, ep, _⟩ := hp
  obtain ⟨va, vc, ev, hvd⟩ := hv
  obtain ⟨vb, vo, rfl, g⟩ := hvd 0 (.int .i64 (l[0] : Nat)) (by simp [ints, h0l])
  simp only [hcell, Nat.add_zero] at g
  simp [sf_fixes_search_cheapest, srV, ed, et, es, er, ea, eb, ee, ep, ev, h0l, g, pf_pure, pureF]
  generalize hS : ({ t := _, L := _, H := _, lim := _, rd := _ } : St) = S
  obtain ⟨⟨e, s1⟩, hr, q1, q2, q3⟩ := cheap_loop l hl ps hi h0l H v p hv0 hp0 S (by subst hS; simp [ep]) (by subst hS; simp) (by subst hS; simp [ev]) (by subst hS; simp) (by subst hS; simp) (by subst hS; rfl)
  simp [chLoop, SC.loops, sf_fixes_search_cheapest] at hr
  rw [hr]
  simp only at q1 q2 q3
  subst q1
  simp [q2, q3]
end Go.Proofs.YtddnloghclemjaaGreatDoor
namespace Go.Proofs.YtddnloghclemjaaGreatDoor
open Go Go.RowKit
def thoseN (p : Int → Bool) (k : Nat) : List Int := ((List.range k).filter fun (i : Nat) => p (i : Int)).map fun (i : Nat) => (i : Int)
theorem thoseN_succ (p : Int → Bool) (k : Nat) : thoseN p (k + 1) = if p (k : Int) then thoseN p k ++ [(k : Int)] else thoseN p k := by
  unfold thoseN
  rw [List.range_succ, List.filter_append]
  cases h : p (k : Int) with
  | true => rw [if_pos rfl]; simp only [List.filter_cons, h, if_true, List.filter_nil, List.map_append, List.map_cons, List.map_nil]
  | false => rw [if_neg (by simp)]; simp only [List.filter_cons, h, Bool.false_eq_true, if_false, List.filter_nil, List.append_nil]
theorem thoseN_len (p : Int → Bool) (k : Nat) : (thoseN p k).length ≤ k := by
  unfold thoseN
  rw [List.length_map]
  exact Nat.le_trans (List.length_filter_le _ _) (by simp)
def IsPn (H : AH) (f : Value) (n : Nat) (p : Int → Bool) : Prop := (nl f = true ∧ isU f = false ∧ f.cells = #[f]) ∧ ∀ H', Ext H H' → ∀ i : Nat, i < n → ∀ lim, apL Tryz.prog pf f [.int .i64 i] lim H' = some (.bool (p i), H')
theorem IsP.n {H : AH} {f : Value} {p : Int → Bool} (n : Nat) (k : IsP H f p) : IsPn H f n p := ⟨k.1, fun H' h i _ lim => k.2 H' h i lim⟩
def ceLoop : SC := sf_fixes_search_cells.body.loops.headD .skip
theorem cells_loop (n : Nat) (hn : n ≤ 1000) (p : Int → Bool) (H : AH) (f : Value) (hp : IsPn H f n p) (S : St) (h1 : tget S.t 1 = f) (h5 : tget S.t 5 = .slice none 0 0) (h11 : tget S.t 11 = .int .i64 n) (h12 : tget S.t 12 = .int .i64 0) (hH : S.H = H) (hlim : S.lim ≤ H.length) :
    ∃ q, exL Tryz.prog pf (.loop ceLoop) S = some q ∧ q.1 = .exit 0 ∧ Aft H q.2.H ∧ OwnA H.length q.2.H (tget q.2.t 5) (thoseN p n) := by
  refine loop_rule (I := fun m s' => ∃ i, i ≤ n ∧ m = n - i ∧ tget s'.t 1 = f ∧ tget s'.t 11 = .int .i64 n ∧ tget s'.t 12 = .int .i64 i ∧ s'.lim = S.lim ∧ Aft H s'.H ∧ OwnA H.length s'.H (tget s'.t 5) (thoseN p i)) ?_ n S
    ⟨0, by omega, by omega, h1, h11, h12, rfl, by rw [hH]; exact Aft.refl H, .inl ⟨by simp [thoseN], h5⟩⟩
  rintro m s' ⟨i, hi, rfl, e1, e11, e12, el, eA, eO⟩
  obtain ⟨A, hA⟩ : ∃ A, s'.H = A := ⟨_, rfl⟩
  rw [hA] at eA eO
  have hnf := hp.1.1
  have hcf := hp.1.2
  have hps := fun (hlt : i < n) lim => hp.2 A eA.ext i hlt lim
  by_cases hlt : i < n
  rotate_left
  · have : i = n := by omega
    subst this
    simp [ceLoop, SC.loops, sf_fixes_search_cells, e1, e11, e12, hA]
    exact ⟨eA, eO⟩
  have hps := fun lim => hps hlt lim
  have hw : IntKind.i64.wrap ((i : Int) + 1) = (i : Int) + 1 := wrap_i64 (by omega) (by omega)
  have hs := thoseN_succ p i
  have hlen := thoseN_len p i
  cases hc : p (i : Int) with
  | false =>
    rw [hc] at hs hps
    rw [if_neg (by simp)] at hs
    simp [-isU, -Value.cells, ceLoop, SC.loops, sf_fixes_search_cells, e1, e11, e12, hA, hlt, hps, hnf, hcf, hw]
    exact ⟨_, by omega, i + 1, by omega, rfl, by omega, el, eA, by rw [hs]; exact eO⟩
  | true =>
  rw [hc] at hs hps
  rw [if_pos rfl] at hs
  obtain ⟨w, hwl⟩ : ∃ w, w = thoseN p i := ⟨_, rfl⟩
  rw [← hwl] at eO hs hlen
  have hm1 : 1 ≤ maxA := by decide
  rcases eO with ⟨hw0, e5⟩ | ⟨hw0, b', hb, e5, hbA⟩
  · simp [-oneC, oneC_int, ceLoop, SC.loops, sf_fixes_search_cells, e1, e5, e11, e12, hA, hlt, hps, hnf, hw, hm1]
    refine ⟨_, by omega, i + 1, by omega, rfl, by omega, el, eA.push _, .inr ⟨by rw [hs]; simp, A.length + 1, by have := eA.le; omega, by rw [hs, hw0]; simp, ?_⟩⟩
    rw [hs, hw0, List.getElem?_append_right (by omega), Nat.add_sub_cancel_left]
    rfl
  · have hbl : b' < A.length := (List.getElem?_eq_some_iff.1 hbA).1
    have hl0 : ¬ w.length = 0 := by simpa using hw0
    have hmx : w.length + 1 ≤ maxA := Nat.le_trans (show w.length + 1 ≤ 2000 by omega) (by decide)
    have hcn : nlL (ints w) = true := nlL_ints w
    have hci : (ints w).length = w.length := ints_length w
    have happ : ints w ++ [.int .i64 (i : Int)] = ints (w ++ [(i : Int)]) := by rw [ints_append]; rfl
    have hcA := fun L x => own_cells hbA L x
    have hbX := fun x => own_get hbA x
    have hsX := fun x y => own_set hbA x y
    have hlb : S.lim ≤ b' := by omega
    rw [hci] at hcA
    generalize hcs : ints w = cs at *
    simp [-oneC, oneC_int, ceLoop, SC.loops, sf_fixes_search_cells, e1, e5, e11, e12, hA, hlt, hps, hnf, hw, hl0, hmx, hcA, hbX, hsX, hcn, happ, hci, el, hlb]
    refine ⟨_, by omega, i + 1, by omega, rfl, by omega, (eA.set hb _).push _, .inr ⟨by rw [hs]; simp, A.length + 1, by have := eA.le; omega, by rw [hs]; simp, ?_⟩⟩
    rw [hs, List.getElem?_append_right (by simp)]
    simp
end Go.Proofs.YtddnloghclemjaaGreatDoor
namespace Go.Proofs.YtddnloghclemjaaGreatDoor
open Go Go.RowKit
theorem run_cells (x : Ds) (hx : x.cells ≤ 1000) (p : Int → Bool) (lim : Nat) (H : AH) (d t s r a b e f : Value) (h : DsIn H x d t s r) (ha : OneS a) (hb : OneS b) (he : OneS e) (hp : IsPn H f x.cells p) :
    ∃ v A, apL Tryz.prog pf (.func (.func 81) #[] #[]) [srV x d t s r a b e, f] lim H = some (v, A) ∧ Aft H A ∧ OwnA H.length A v (thoseN p x.cells) := by
  rw [apL_func _ _ _ _ _ _ (by rfl), sf_fixes_search_cells_eq]
  obtain ⟨⟨⟨da, dc, ed, _⟩, ⟨ta, tc, et, _⟩, ⟨sa, sc, es, _⟩, _, htl, _⟩, ⟨ra, rc, er, _⟩, _⟩ := h
  obtain ⟨a1, a2, a3, ea⟩ := ha
  obtain ⟨b1, b2, b3, eb⟩ := hb
  obtain ⟨e1, e2, e3, ee⟩ := he
  simp [sf_fixes_search_cells, srV, ed, et, es, er, ea, eb, ee, pf_pure, pureF]
  generalize hS : ({ t := _, L := _, H := _, lim := _, rd := _ } : St) = S
  obtain ⟨⟨q, s1⟩, hr, q1, q2, q3⟩ := cells_loop x.cells hx p H f hp S (by subst hS; simp) (by subst hS; simp) (by subst hS; simp [Ds.cells]) (by subst hS; simp) (by subst hS; rfl) (by subst hS; simp)
  simp [ceLoop, SC.loops, sf_fixes_search_cells] at hr
  rw [hr]
  simp only at q1 q2 q3
  subst q1
  rcases q3 with ⟨h0, e5⟩ | ⟨h0, b', hb', e5, hbA⟩
  · simp [e5]
    exact ⟨_, _, ⟨rfl, rfl⟩, Aft.refl H, .inl ⟨h0, rfl⟩⟩
  · simp [e5]
    exact ⟨_, _, ⟨rfl, rfl⟩, q2, .inr ⟨h0, b', hb', rfl, hbA⟩⟩
theorem run_srApartN (x : Ds) (lim : Nat) (H : AH) (d t s r a b e : Value) (h : DsIn H x d t s r) (ha : OneS a) (hb : OneS b) (he : OneS e) (i k : Int) :
    apL Tryz.prog pf (.func (.func 83) #[] #[]) [srV x d t s r a b e, .int .i64 i, .int .i64 k] lim H = some (.int .i64 (apartN x.ch i k), H) := by
  rw [apL_func _ _ _ _ _ _ (by rfl), sf_fixes_search_apart_eq]
  have hA := fun lim => run_Apart x.ch lim H d t s h.c i k
  obtain ⟨⟨⟨da, dc, ed, _⟩, ⟨ta, tc, et, _⟩, ⟨sa, sc, es, _⟩, _, htl, _⟩, ⟨ra, rc, er, _⟩, _⟩ := h
  obtain ⟨a1, a2, a3, ea⟩ := ha
  obtain ⟨b1, b2, b3, eb⟩ := hb
  obtain ⟨e1, e2, e3, ee⟩ := he
  simp only [chV, srV, ed, et, es, er, ea, eb, ee] at hA ⊢
  simp [sf_fixes_search_apart, hA, pf_pure, pureF]
def nearF (sb cb db : Nat) : Value := .func (.func 82) #[] #[.pointer (some ⟨sb, 0, none⟩), .pointer (some ⟨cb, 0, none⟩), .pointer (some ⟨db, 0, none⟩)]
theorem isP_near (x : Ds) (H : AH) (d t s r a b e : Value) (h : DsIn H x d t s r) (ha : OneS a) (hb : OneS b) (he : OneS e) (i : Int) (sb cb db : Nat)
    (h1 : H[sb]? = some (.rw 0 [.int .i64 x.ch.w, .int .i64 x.ch.h, d, t, s, .int .i64 x.g, .int .i64 x.pace, r, a, b, e])) (h2 : H[cb]? = some (.rw 0 [.int .i64 i])) (h3 : H[db]? = some (.rw 0 [.int .i64 x.ch.w, .int .i64 x.ch.h, d, t, s, .int .i64 x.g, .int .i64 x.pace, r])) :
    IsP H (nearF sb cb db) (fun n => decide (apartN x.ch i n ≤ x.pace)) := by
  refine ⟨⟨by simp [nearF], rfl, rfl⟩, fun H' hH n lim => ?_⟩
  have k1 := hH _ _ h1
  have k2 := hH _ _ h2
  have k3 := hH _ _ h3
  have hA := fun lim => run_srApartN x lim H' d t s r a b e (h.ext hH) ha hb he i n
  unfold nearF
  rw [apL_func _ _ _ _ _ _ (by rfl), sf_fixes_open_1_eq]
  obtain ⟨⟨⟨da, dc, ed, _⟩, ⟨ta, tc, et, _⟩, ⟨sa, sc, es, _⟩, _, htl, _⟩, ⟨ra, rc, er, _⟩, _⟩ := h
  obtain ⟨a1, a2, a3, ea⟩ := ha
  obtain ⟨b1, b2, b3, eb⟩ := hb
  obtain ⟨e1, e2, e3, ee⟩ := he
  simp only [srV, ed, et, es, er, ea, eb, ee] at hA k1 k3
  simp [sf_fixes_open_1, k1, k2, k3, hA, pf_pure, pureF]
end Go.Proofs.YtddnloghclemjaaGreatDoor
namespace Go.Proofs.YtddnloghclemjaaGreatDoor
open Go Go.RowKit
theorem floats_ok {x : Ds} (hok : ChOk x.ch) (hdo : dsOk x = true) {i k : Nat} (hi : i < x.ch.cells) (hk : k < x.ch.ticks) : floatsR x.ch x.g i k = .tuple #[.bool (x.ch.sure x.g i k), .bool (x.ch.may x.g i k), .int .i64 0] := by
  have hg : 1 ≤ x.g ∧ x.g ≤ 100 := by
    unfold dsOk at hdo
    simp only [Bool.and_eq_true, decide_eq_true_eq] at hdo
    exact hdo.1.1.1
  have h0 : embE x.ch x.g [(i : Int)] [(k : Int)] = 0 := by
    rw [embE_of0 (by rw [openE_eq hok]; simp [inN_of hi, inN_of hk]), if_pos hg]
  unfold floatsR
  rw [h0]
  simp
def partB (f : Nat → Bool) (n i : Nat) : List Bool := (List.range i).map f ++ List.replicate (n - i) false
theorem partB_len {f : Nat → Bool} {n i : Nat} (h : i ≤ n) : (partB f n i).length = n := by simp [partB]; omega
theorem partB_set {f : Nat → Bool} {n i : Nat} (h : i < n) : (partB f n i).set i (f i) = partB f n (i + 1) := by
  unfold partB
  rw [List.set_append_right _ _ (by simp)]
  have : n - i = (n - (i + 1)) + 1 := by omega
  rw [this, List.replicate_succ]
  simp [List.range_succ]
theorem partB_end {f : Nat → Bool} {n : Nat} : partB f n n = (List.range n).map f := by simp [partB]
def afLoop : SC := sf_fixes_search_afloat.body.loops.headD .skip
theorem af_loop (x : Ds) (hok : ChOk x.ch) (hdo : dsOk x = true) (H : AH) (d t s r a b e : Value) (h : DsIn H x d t s r) (ha : OneS a) (hb : OneS b) (he : OneS e) {k : Nat} (hk : k < x.ch.ticks) (S : St) (h1 : tget S.t 1 = .int .i64 k) (h2 : tget S.t 2 = .pointer (some ⟨2, 0, some 0⟩)) (h5 : tget S.t 5 = .slice (some ⟨H.length, 0, none⟩) x.ch.cells x.ch.cells) (h14 : tget S.t 14 = .int .i64 x.ch.cells) (h15 : tget S.t 15 = .int .i64 0)
    (hL : S.L = [(2, 0, .cells [.int .i64 x.ch.w, .int .i64 x.ch.h, d, t, s, .int .i64 x.g, .int .i64 x.pace, r, a, b, e])]) (hH : S.H = H ++ [.rw 1 (bools (partB (fun i => x.ch.may x.g i k) x.ch.cells 0))]) (hlim : S.lim ≤ H.length) :
    ∃ q, exL Tryz.prog pf (.loop afLoop) S = some q ∧ q.1 = .exit 0 ∧ q.2.H = H ++ [.rw 1 (bools ((List.range x.ch.cells).map fun i => x.ch.may x.g i k))] ∧ tget q.2.t 5 = tget S.t 5 := by
  obtain ⟨m0, m1, m2⟩ := hok.mul
  obtain ⟨a1, a2, a3, ea⟩ := ha
  obtain ⟨b1, b2, b3, eb⟩ := hb
  obtain ⟨e1', e2', e3', ee⟩ := he
  refine loop_rule (I := fun m s' => ∃ i, i ≤ x.ch.cells ∧ m = x.ch.cells - i ∧ tget s'.t 1 = .int .i64 k ∧ tget s'.t 2 = .pointer (some ⟨2, 0, some 0⟩) ∧ tget s'.t 5 = .slice (some ⟨H.length, 0, none⟩) x.ch.cells x.ch.cells ∧ tget s'.t 14 = .int .i64 x.ch.cells ∧ tget s'.t 15 = .int .i64 i ∧ s'.L = S.L ∧ s'.lim = S.lim ∧ s'.H = H ++ [.rw 1 (bools (partB (fun i => x.ch.may x.g i k) x.ch.cells i))]) ?_ x.ch.cells S
    ⟨0, by omega, by omega, h1, h2, h5, h14, h15, rfl, rfl, hH⟩
  rintro m s' ⟨i, hi, rfl, e1, e2, e5, e14, e15, eL, el, eH⟩
  have hF := fun (hlt : i < x.ch.cells) lim => run_Floats x.ch lim (H ++ [.rw 1 (bools (partB (fun i => x.ch.may x.g i k) x.ch.cells i))]) d t s (h.c.ext (Ext.push H _)) x.g i k
  obtain ⟨⟨⟨da, dc, ed, _⟩, ⟨ta, tc, et, _⟩, ⟨sa, sc, es, _⟩, _, htl, _⟩, ⟨ra, rc, er, _⟩, _⟩ := h
  rw [hL, ed, et, es, er, ea, eb, ee] at eL
  by_cases hlt : i < x.ch.cells
  rotate_left
  · have : i = x.ch.cells := by omega
    subst this
    rw [partB_end] at eH
    simp [afLoop, SC.loops, sf_fixes_search_afloat, e1, e2, e5, e14, e15, eL, el, eH, h5]
  have hF := fun lim => hF hlt lim
  rw [floats_ok hok hdo hlt hk] at hF
  simp only [chV, ed, et, es] at hF
  have hw1 : IntKind.i64.wrap ((i : Int) + 1) = (i : Int) + 1 := wrap_i64 (by omega) (by omega)
  have hfl : i + 1 ≤ (partB (fun i => x.ch.may x.g i k) x.ch.cells i).length := by rw [partB_len hi]; omega
  have hset := partB_set (f := fun i => x.ch.may x.g i k) hlt
  obtain ⟨l1, hl1⟩ : ∃ l1, l1 = partB (fun i => x.ch.may x.g i k) x.ch.cells i := ⟨_, rfl⟩
  rw [← hl1] at eH hfl hset hF
  have hLs := hL
  rw [ed, et, es, er, ea, eb, ee] at hLs
  simp [afLoop, SC.loops, sf_fixes_search_afloat, e1, e2, e5, e14, e15, eL, el, eH, h5, hF, hlim, hlt, hw1, bools_length, hfl, bools_set, hLs]
  exact ⟨_, by omega, i + 1, by omega, rfl, by omega, by rw [← hset]⟩
theorem run_afloat (x : Ds) (hok : ChOk x.ch) (hdo : dsOk x = true) (lim : Nat) (H : AH) (d t s r a b e : Value) (h : DsIn H x d t s r) (ha : OneS a) (hb : OneS b) (he : OneS e) {k : Nat} (hk : k < x.ch.ticks) :
    apL Tryz.prog pf (.func (.func 84) #[] #[]) [srV x d t s r a b e, .int .i64 k] lim H = some (.slice (some ⟨H.length, 0, none⟩) x.ch.cells x.ch.cells, H ++ [.rw 1 (bools ((List.range x.ch.cells).map fun i => x.ch.may x.g i k))]) := by
  rw [apL_func _ _ _ _ _ _ (by rfl), sf_fixes_search_afloat_eq]
  have h0 := h
  have ha0 := ha
  have hb0 := hb
  have he0 := he
  obtain ⟨m0, m1, m2⟩ := hok.mul
  obtain ⟨⟨⟨da, dc, ed, _⟩, ⟨ta, tc, et, _⟩, ⟨sa, sc, es, _⟩, _, htl, _⟩, ⟨ra, rc, er, _⟩, _⟩ := h
  obtain ⟨a1, a2, a3, ea⟩ := ha
  obtain ⟨b1, b2, b3, eb⟩ := hb
  obtain ⟨e1, e2, e3, ee⟩ := he
  have hmx : x.ch.cells ≤ maxA := Nat.le_trans (show x.ch.cells ≤ 144 by omega) (by decide)
  have hdl : x.ch.depth.length = x.ch.cells := rfl
  have hf0 : List.replicate x.ch.cells false = partB (fun i => x.ch.may x.g i k) x.ch.cells 0 := by simp [partB]
  simp [sf_fixes_search_afloat, srV, ed, et, es, er, ea, eb, ee, hdl, hmx, zeros_bools, hf0, pf_pure, pureF]
  generalize hS : ({ t := _, L := _, H := _, lim := _, rd := _ } : St) = S
  obtain ⟨⟨q, s1⟩, hr, q1, q2, q3⟩ := af_loop x hok hdo H d t s r a b e h0 ha0 hb0 he0 hk S (by subst hS; simp) (by subst hS; simp) (by subst hS; simp) (by subst hS; simp) (by subst hS; simp) (by subst hS; simp [ed, et, es, er, ea, eb, ee, hdl]) (by subst hS; rfl) (by subst hS; simp)
  simp [afLoop, SC.loops, sf_fixes_search_afloat] at hr
  rw [hr]
  simp only at q1 q2 q3
  subst q1
  have y5 : tget S.t 5 = .slice (some ⟨H.length, 0, none⟩) x.ch.cells x.ch.cells := by subst hS; simp
  rw [y5] at q3
  simp [q3, q2]
end Go.Proofs.YtddnloghclemjaaGreatDoor
namespace Go.Proofs.YtddnloghclemjaaGreatDoor
open Go Go.RowKit
def u64s (l : List Nat) : List Value := l.map fun (n : Nat) => .int .u64 n
theorem u64s_length (l : List Nat) : (u64s l).length = l.length := by simp [u64s]
theorem u64s_set (l : List Nat) (i n : Nat) : (u64s l).set i (.int .u64 n) = u64s (l.set i n) := by simp [u64s, List.map_set]
theorem u64s_get {l : List Nat} {i : Nat} (h : i < l.length) : (u64s l)[i]? = some (.int .u64 (l[i] : Nat)) := by simp [u64s, h]
def denies (x : Ds) (k : Nat) (q : Rep) (i : Nat) : Bool := q.tick == (k : Int) && !holdsM x.ch.w q i
def denyM (x : Ds) (k i : Nat) (j : Nat) : Nat := setM ((List.range j).filter fun n => match x.reps[n]? with | some q => denies x k q i | none => false)
theorem denyM_succ (x : Ds) (k i : Nat) {j : Nat} (hj : j < x.reps.length) : denyM x k i (j + 1) = if denies x k x.reps[j] i then denyM x k i j ||| 2 ^ j else denyM x k i j := by
  unfold denyM
  rw [List.range_succ, List.filter_append]
  cases h : denies x k x.reps[j] i with
  | true =>
    rw [if_pos rfl, ← setM_snoc]
    congr 1
    simp [hj, h]
  | false =>
    rw [if_neg (by simp)]
    congr 1
    simp [hj, h]
theorem denyM_lt (x : Ds) (k i : Nat) {j : Nat} (hj : j ≤ 12) : denyM x k i j < 2 ^ 12 := setM_lt _ fun n hn => by
  have := (List.mem_filter.1 hn).1
  rw [List.mem_range] at this
  omega
def partD (x : Ds) (k j n i : Nat) : List Nat := ((List.range i).map fun c => denyM x k c (j + 1)) ++ ((List.range (n - i)).map fun c => denyM x k (i + c) j)
theorem partD_len {x : Ds} {k j n i : Nat} (h : i ≤ n) : (partD x k j n i).length = n := by simp [partD]; omega
theorem partD_get {x : Ds} {k j n i : Nat} (h : i < n) : (partD x k j n i)[i]? = some (denyM x k i j) := by
  unfold partD
  rw [List.getElem?_append_right (by simp)]
  simp only [List.length_map, List.length_range, Nat.sub_self, List.getElem?_map]
  rw [List.getElem?_range (by omega)]
  rfl
theorem partD_set {x : Ds} {k j n i : Nat} (h : i < n) : (partD x k j n i).set i (denyM x k i (j + 1)) = partD x k j n (i + 1) := by
  apply List.ext_getElem?
  intro c
  unfold partD
  rw [List.set_append_right _ _ (by simp)]
  by_cases hc : c < i
  · rw [List.getElem?_append_left (by simpa using hc), List.getElem?_append_left (by simp; omega)]
    simp [hc, show c < i + 1 by omega]
  · rw [List.getElem?_append_right (by simp; omega)]
    simp only [List.length_map, List.length_range, Nat.sub_self]
    by_cases e : c = i
    · subst e
      rw [Nat.sub_self, List.getElem?_append_left (by simp)]
      rw [List.getElem?_set_self (by simp; omega)]
      simp
    · rw [List.getElem?_set_ne (by omega), List.getElem?_append_right (by simp; omega)]
      simp only [List.length_map, List.length_range, List.getElem?_map]
      by_cases h2 : c < n
      · rw [List.getElem?_range (by omega), List.getElem?_range (by omega)]
        simp only [Option.map_some]
        rw [show i + (c - i) = i + 1 + (c - (i + 1)) by omega]
      · rw [List.getElem?_eq_none (by simp; omega), List.getElem?_eq_none (by simp; omega)]
        rfl
theorem partD_end {x : Ds} {k j n : Nat} : partD x k j n n = partD x k (j + 1) n 0 := by simp [partD]
def deLoop1 : SC := sf_fixes_search_denied.body.loops.tail.headD .skip
end Go.Proofs.YtddnloghclemjaaGreatDoor
namespace Go.Proofs.YtddnloghclemjaaGreatDoor
open Go Go.RowKit
set_option maxHeartbeats 1000000 in
theorem de_inner (x : Ds) (hok : ChOk x.ch) (hdo : dsOk x = true) (H0 A : AH) (d t s r a b e : Value) (h : DsIn H0 x d t s r) (ha : OneS a) (hb : OneS b) (he : OneS e) (hA : Aft H0 A) {k j lb : Nat} (hj : j < x.reps.length) (hlb0 : H0.length ≤ lb) (hlb : A[lb]? = some (.rw 1 (u64s (partD x k j x.ch.cells 0)))) (g : Nat) (S : St) (hlim : S.lim ≤ H0.length)
    (h1 : tget S.t 1 = .int .i64 k) (h2 : tget S.t 2 = .pointer (some ⟨2, 0, some 0⟩)) (h5 : tget S.t 5 = .slice (some ⟨lb, 0, none⟩) x.ch.cells x.ch.cells) (h6 : tget S.t 6 = .int .i64 j) (h7 : tget S.t 7 = .pointer (some ⟨7, 0, some g⟩)) (h25 : tget S.t 25 = .int .i64 x.ch.cells) (h26 : tget S.t 26 = .int .i64 0)
    (hL2 : lget S.L 2 = some (0, .cells [.int .i64 x.ch.w, .int .i64 x.ch.h, d, t, s, .int .i64 x.g, .int .i64 x.pace, r, a, b, e])) (hL7 : lget S.L 7 = some (g, .cells x.reps[j].vals)) (hH : S.H = A) :
    ∃ q, exL Tryz.prog pf (.loop deLoop1) S = some q ∧ q.1 = .exit 2 ∧ q.2.L = S.L ∧ q.2.lim = S.lim ∧ Aft H0 q.2.H ∧ q.2.H[lb]? = some (.rw 1 (u64s (partD x k (j + 1) x.ch.cells 0))) ∧ tget q.2.t 1 = tget S.t 1 ∧ tget q.2.t 2 = tget S.t 2 ∧ tget q.2.t 5 = tget S.t 5 ∧ tget q.2.t 17 = tget S.t 17 ∧ tget q.2.t 18 = tget S.t 18 ∧ tget q.2.t 19 = tget S.t 19 := by
  obtain ⟨m0, m1, m2⟩ := hok.mul
  have hd12 : x.reps.length ≤ 12 ∧ ∀ q ∈ x.reps, repOk x.cells x.ticks q = true := by
    unfold dsOk at hdo
    simp only [Bool.and_eq_true, decide_eq_true_eq, List.all_eq_true] at hdo
    exact ⟨hdo.1.2, hdo.2⟩
  have hrep := hd12.2 _ (List.getElem_mem hj)
  refine loop_rule (I := fun m s' => ∃ i, i ≤ x.ch.cells ∧ m = x.ch.cells - i ∧ tget s'.t 26 = .int .i64 i ∧ tget s'.t 25 = .int .i64 x.ch.cells ∧ tget s'.t 6 = .int .i64 j ∧ tget s'.t 7 = .pointer (some ⟨7, 0, some g⟩) ∧ s'.L = S.L ∧ s'.lim = S.lim ∧ Aft H0 s'.H ∧ s'.H[lb]? = some (.rw 1 (u64s (partD x k j x.ch.cells i))) ∧ tget s'.t 1 = tget S.t 1 ∧ tget s'.t 2 = tget S.t 2 ∧ tget s'.t 5 = tget S.t 5 ∧ tget s'.t 17 = tget S.t 17 ∧ tget s'.t 18 = tget S.t 18 ∧ tget s'.t 19 = tget S.t 19) ?_ x.ch.cells S
    ⟨0, by omega, by omega, h26, h25, h6, h7, rfl, rfl, by rw [hH]; exact hA, by rw [hH]; exact hlb, rfl, rfl, rfl, rfl, rfl, rfl⟩
  rintro m s' ⟨i, hi, rfl, e26, e25, e6, e7, eL, el, eA, eB, e1, e2, e5, e17, e18, e19⟩
  obtain ⟨B, hB⟩ : ∃ B, s'.H = B := ⟨_, rfl⟩
  rw [hB] at eA eB
  rw [h1] at e1
  rw [h2] at e2
  rw [h5] at e5
  have hT := fun (hlt : i < x.ch.cells) lim => run_isTrue x hok lim B d t s r a b e (h.ext eA.ext) ha hb he x.reps[j] hrep hlt
  have hden := fun i => denyM_succ x k i hj
  have hgt : denies x k x.reps[j] i = (x.reps[j].tick == (k : Int) && !holdsM x.ch.w x.reps[j] i) := rfl
  obtain ⟨⟨⟨da, dc, ed, _⟩, ⟨ta, tc, et, _⟩, ⟨sa, sc, es, _⟩, _, htl, _⟩, ⟨ra, rc, er, _⟩, _⟩ := h
  obtain ⟨a1, a2, a3, ea⟩ := ha
  obtain ⟨b1, b2, b3, eb⟩ := hb
  obtain ⟨e1', e2', e3', ee⟩ := he
  rw [ed, et, es, er, ea, eb, ee] at hL2
  by_cases hlt : i < x.ch.cells
  rotate_left
  · have : i = x.ch.cells := by omega
    subst this
    simp [deLoop1, SC.loops, sf_fixes_search_denied, e1, e2, e5, e6, e7, e17, e18, e19, e25, e26, eL, el, hB, h1, h2, h5]
    exact ⟨eA, by rw [eB, partD_end]⟩
  have hT := fun lim => hT hlt lim
  generalize hq : x.reps[j] = q at *
  simp only [srV, repV, ed, et, es, er, ea, eb, ee] at hT
  have hw1 : IntKind.i64.wrap ((i : Int) + 1) = (i : Int) + 1 := wrap_i64 (by omega) (by omega)
  have hbl : lb < B.length := (List.getElem?_eq_some_iff.1 eB).1
  have hset := partD_set (x := x) (k := k) (j := j) hlt
  have hget := partD_get (x := x) (k := k) (j := j) hlt
  have hplen := partD_len (x := x) (k := k) (j := j) hi
  rw [hden, hgt] at hset
  have same : denyM x k i j = denyM x k i (j + 1) → partD x k j x.ch.cells (i + 1) = partD x k j x.ch.cells i := fun e => by
    rw [← partD_set (x := x) (k := k) (j := j) hlt, ← e]
    exact List.ext_getElem? fun c => by
      by_cases hc : i = c
      · subst hc; rw [List.getElem?_set_self (by omega), hget]
      · rw [List.getElem?_set_ne hc]
  have hdi := hden i
  rw [hgt] at hdi
  simp only [Rep.vals] at hL7
  cases ht : (q.tick == (k : Int)) with
  | false =>
    have hsame := same (by rw [hdi, ht]; simp)
    simp [deLoop1, SC.loops, sf_fixes_search_denied, e1, e2, e5, e6, e7, e17, e18, e19, e25, e26, eL, el, hB, h1, h2, h5, hlt, hL2, hL7, ht, hw1]
    exact ⟨_, by omega, i + 1, by omega, rfl, by omega, eA, by rw [hsame]; exact eB⟩
  | true =>
  cases hh : holdsM x.ch.w q i with
  | true =>
    rw [hh] at hT
    have hsame := same (by rw [hdi, ht, hh]; simp)
    simp [deLoop1, SC.loops, sf_fixes_search_denied, e1, e2, e5, e6, e7, e17, e18, e19, e25, e26, eL, el, hB, h1, h2, h5, hlt, hL2, hL7, ht, hT, hw1]
    exact ⟨_, by omega, i + 1, by omega, rfl, by omega, eA, by rw [hsame]; exact eB⟩
  | false =>
    rw [hh] at hT
    rw [ht, hh] at hset
    have hj12 : j < 12 := by omega
    have hSo := fun lim => run_setOf [j] (by simp) (by simpa using hj12) lim (B ++ [.rw 1 [.int .i64 (j : Int)]]) (.slice (some ⟨B.length, 0, none⟩) 1 1) (Sl.made (l := [(j : Int)]) (by simp [ints]) rfl)
    have hs1 : setM [j] = 2 ^ j := by simp [setM]
    rw [hs1] at hSo
    have hp2 : 2 ^ j ≤ 2 ^ 12 := Nat.pow_le_pow_right (by omega) (by omega)
    obtain ⟨p, hp⟩ : ∃ p : Nat, p = 2 ^ j := ⟨_, rfl⟩
    rw [← hp] at hSo hset hp2
    have ho12 := denyM_lt x k i (j := j) (by omega)
    obtain ⟨o, ho⟩ : ∃ o, o = denyM x k i j := ⟨_, rfl⟩
    rw [← ho] at hset ho12 hget
    have hpm : p % 18446744073709551616 = p := Nat.mod_eq_of_lt (by omega)
    have hmm : o % 18446744073709551616 = o := Nat.mod_eq_of_lt (by omega)
    have w3 : IntKind.u64.wrap ((o ||| p : Nat) : Int) = ((o ||| p : Nat) : Int) := wrap_u64 (Nat.or_lt_two_pow (n := 64) (by omega) (by omega))
    have hbits : IntKind.u64.bits = 64 := rfl
    obtain ⟨P, hP⟩ : ∃ P, P = partD x k j x.ch.cells i := ⟨_, rfl⟩
    rw [← hP] at eB hset hget hplen
    have hgu : (u64s P)[i]? = some (.int .u64 (o : Nat)) := by
      have hPl : i < P.length := by omega
      rw [u64s_get hPl]
      rw [List.getElem?_eq_getElem hPl] at hget
      rw [Option.some.inj hget]
    have hBX : ∀ y : AH, (B ++ y)[lb]? = some (.rw 1 (u64s P)) := fun y => own_get eB y
    have hul : (u64s P).length = x.ch.cells := by rw [u64s_length, hplen]
    have hi1 : i + 1 ≤ x.ch.cells := hlt
    have hSl : S.lim ≤ lb := by omega
    have hus := u64s_set P i (o ||| p)
    simp only [Bool.not_false, Bool.and_true, if_true] at hset
    rw [hset] at hus
    generalize hU : u64s P = U at *
    have hgu2 : ∀ hh : i < U.length, U[i]'hh = .int .u64 (o : Nat) := fun hh => by rw [List.getElem?_eq_getElem hh] at hgu; exact Option.some.inj hgu
    simp [deLoop1, SC.loops, sf_fixes_search_denied, e1, e2, e5, e6, e7, e17, e18, e19, e25, e26, eL, el, hB, h1, h2, h5, hlt, hL2, hL7, ht, hT, hw1, eB, hBX, hgu2, hSo, hbits, hpm, hmm, w3, hul, hi1, hSl, hus]
    exact ⟨_, by omega, i + 1, by omega, rfl, by omega, (eA.push _).set hlb0 _, by rw [List.getElem?_set_self (by simp; omega)]⟩
end Go.Proofs.YtddnloghclemjaaGreatDoor
namespace Go.Proofs.YtddnloghclemjaaGreatDoor
open Go Go.RowKit
def topN : Int := 1201
theorem bestOf_le (p : Nat → Bool) (f : Nat → Int) : ∀ n j, j < n → p j = true → bestOf p f n ≤ f j
  | n + 1, j, hj, hp => by
    unfold bestOf
    by_cases e : j = n
    · subst e; rw [if_pos hp]; omega
    · have ih := bestOf_le p f n j (by omega) hp
      split <;> omega
theorem bestOf_never (p : Nat → Bool) (f : Nat → Int) : ∀ n, bestOf p f n ≤ neverR
  | 0 => Int.le_refl _
  | n + 1 => by
    have ih := bestOf_never p f n
    unfold bestOf
    split <;> omega
theorem bestOf_mem (p : Nat → Bool) (f : Nat → Int) : ∀ n, bestOf p f n = neverR ∨ ∃ j, j < n ∧ p j = true ∧ bestOf p f n = f j
  | 0 => .inl rfl
  | n + 1 => by
    have ih := bestOf_mem p f n
    unfold bestOf
    by_cases hp : p n = true
    · rw [if_pos hp]
      by_cases h : bestOf p f n ≤ f n
      · rw [Int.min_eq_left h]
        rcases ih with ih | ⟨j, h1, h2, h3⟩
        · exact .inl ih
        · exact .inr ⟨j, by omega, h2, h3⟩
      · rw [Int.min_eq_right (by omega)]
        exact .inr ⟨n, by omega, hp, rfl⟩
    · rw [if_neg hp]
      rcases ih with ih | ⟨j, h1, h2, h3⟩
      · exact .inl ih
      · exact .inr ⟨j, by omega, h2, h3⟩
def upto (p : Nat → Bool) (n : Nat) : List Nat := (List.range n).filter p
theorem upto_mem {p : Nat → Bool} {n j : Nat} : j ∈ upto p n ↔ j < n ∧ p j = true := by simp [upto]
theorem cheap_best (p : Nat → Bool) (f : Nat → Int) (n : Nat) (h0 : 0 < (upto p n).length) (hf : ∀ j, j < n → f j ≤ neverR) : f (cheapM f ((upto p n)[0]) (upto p n)) = bestOf p f n := by
  have hm0 : (upto p n)[0] ∈ upto p n := List.getElem_mem h0
  have hm : cheapM f ((upto p n)[0]) (upto p n) ∈ upto p n := by
    rcases cheapM_mem f (upto p n) ((upto p n)[0]) with h | h
    · rw [h]; exact hm0
    · exact h
  have hl := (cheapM_le f (upto p n) ((upto p n)[0])).2
  obtain ⟨a, b⟩ := upto_mem.1 hm
  have h1 := bestOf_le p f n _ a b
  rcases bestOf_mem p f n with h | ⟨j, j1, j2, j3⟩
  · have := hf _ a; omega
  · have := hl j (upto_mem.2 ⟨j1, j2⟩); omega
def payV (x : Ds) (fl : Nat → Bool) (p : Nat → Int) (prev : List Int) (i : Nat) : Int :=
  if fl i && decide (p i < topN) then min topN (p i + prev.getD (cheapM (fun j => prev.getD j 0) ((upto (hops x i) x.ch.cells).headD 0) (upto (hops x i) x.ch.cells)) 0) else topN
def payN (x : Ds) (fl : Nat → Bool) (p : Nat → Int) (prev : List Int) : List Int := (List.range x.ch.cells).map (payV x fl p prev)
theorem payN_len (x : Ds) (fl : Nat → Bool) (p : Nat → Int) (prev : List Int) : (payN x fl p prev).length = x.ch.cells := by simp [payN]
theorem payN_get (x : Ds) (fl : Nat → Bool) (p : Nat → Int) (prev : List Int) {i : Nat} (hi : i < x.ch.cells) : (payN x fl p prev).getD i 0 = payV x fl p prev i := by
  simp [payN, hi]
def backN (x : Ds) (fl : Nat → Nat → Bool) (p : Nat → Nat → Int) : Nat → List Int
  | 0 => List.replicate x.ch.cells 0
  | s + 1 => payN x (fl (x.ch.ticks - 1 - s)) (p (x.ch.ticks - 1 - s)) (backN x fl p s)
def foreN (x : Ds) (fl : Nat → Nat → Bool) (p : Nat → Nat → Int) : Nat → List Int
  | 0 => List.replicate x.ch.cells 0
  | s + 1 => payN x (fl s) (p s) (foreN x fl p s)
theorem upto_pos {x : Ds} {i : Nat} (hi : i < x.ch.cells) (hs : hops x i i = true) : 0 < (upto (hops x i) x.ch.cells).length :=
  List.length_pos_of_mem (upto_mem.2 ⟨hi, hs⟩)
theorem payV_bound {x : Ds} {fl : Nat → Bool} {p : Nat → Int} {prev : List Int} {i : Nat} (hp : 0 ≤ p i) (hf : ∀ j, 0 ≤ prev.getD j 0) : 0 ≤ payV x fl p prev i ∧ payV x fl p prev i ≤ topN := by
  unfold payV
  have hT0 : topN = 1201 := rfl
  have h1 := hf (cheapM (fun j => prev.getD j 0) ((upto (hops x i) x.ch.cells).headD 0) (upto (hops x i) x.ch.cells))
  generalize prev.getD _ 0 = B at *
  split <;> omega
theorem payN_bound {x : Ds} {fl : Nat → Bool} {p : Nat → Int} {prev : List Int} (hp : ∀ i, i < x.ch.cells → 0 ≤ p i) (hf : ∀ j, 0 ≤ prev.getD j 0) (j : Nat) : 0 ≤ (payN x fl p prev).getD j 0 ∧ (payN x fl p prev).getD j 0 ≤ topN := by
  by_cases hj : j < x.ch.cells
  · rw [payN_get _ _ _ _ hj]; exact payV_bound (hp j hj) hf
  · rw [List.getD_eq_getElem?_getD, List.getElem?_eq_none (by rw [payN_len]; omega)]
    exact ⟨Int.le_refl _, by decide⟩
theorem zeros_bound (n j : Nat) : 0 ≤ (List.replicate n (0 : Int)).getD j 0 ∧ (List.replicate n (0 : Int)).getD j 0 ≤ topN := by
  rw [List.getD_eq_getElem?_getD, List.getElem?_replicate]
  split <;> exact ⟨Int.le_refl _, by decide⟩
theorem backN_len (x : Ds) (fl : Nat → Nat → Bool) (p : Nat → Nat → Int) (s : Nat) : (backN x fl p s).length = x.ch.cells := by
  cases s with
  | zero => simp [backN]
  | succ s => exact payN_len ..
theorem foreN_len (x : Ds) (fl : Nat → Nat → Bool) (p : Nat → Nat → Int) (s : Nat) : (foreN x fl p s).length = x.ch.cells := by
  cases s with
  | zero => simp [foreN]
  | succ s => exact payN_len ..
theorem backN_bound {x : Ds} {fl : Nat → Nat → Bool} {p : Nat → Nat → Int} (hp : ∀ k i, k < x.ch.ticks → i < x.ch.cells → 0 ≤ p k i) : ∀ s, s ≤ x.ch.ticks → ∀ j, 0 ≤ (backN x fl p s).getD j 0 ∧ (backN x fl p s).getD j 0 ≤ topN
  | 0, _, j => zeros_bound _ j
  | s + 1, hs, j => payN_bound (fun i hi => hp _ i (by omega) hi) (fun j => (backN_bound hp s (by omega) j).1) j
theorem foreN_bound {x : Ds} {fl : Nat → Nat → Bool} {p : Nat → Nat → Int} (hp : ∀ k i, k < x.ch.ticks → i < x.ch.cells → 0 ≤ p k i) : ∀ s, s ≤ x.ch.ticks → ∀ j, 0 ≤ (foreN x fl p s).getD j 0 ∧ (foreN x fl p s).getD j 0 ≤ topN
  | 0, _, j => zeros_bound _ j
  | s + 1, hs, j => payN_bound (fun i hi => hp _ i (by omega) hi) (fun j => (foreN_bound hp s (by omega) j).1) j
def cP (x : Ds) (fl : Nat → Nat → Bool) (p : Nat → Nat → Int) : Nat → Nat
  | 0 => cheapM (fun j => (backN x fl p x.ch.ticks).getD j 0) ((upto (fun _ => true) x.ch.cells).headD 0) (upto (fun _ => true) x.ch.cells)
  | t + 1 => cheapM (fun j => (backN x fl p (x.ch.ticks - (t + 1))).getD j 0) ((upto (hops x (cP x fl p t)) x.ch.cells).headD 0) (upto (hops x (cP x fl p t)) x.ch.cells)
theorem headD_zero {l : List Nat} (h : 0 < l.length) : l.headD 0 = l[0] := by
  cases l with
  | nil => simp at h
  | cons a b => rfl
def withinB (x : Ds) (fl : Nat → Nat → Bool) (p : Nat → Nat → Int) (t : Nat) (most : Int) (i : Nat) : Bool :=
  decide (max ((foreN x fl p (t + 1)).getD i 0) ((backN x fl p (x.ch.ticks - t)).getD i 0) < topN) && decide ((foreN x fl p (t + 1)).getD i 0 + (backN x fl p (x.ch.ticks - t)).getD i 0 - p t i ≤ most)
end Go.Proofs.YtddnloghclemjaaGreatDoor
namespace Go.Proofs.YtddnloghclemjaaGreatDoor
open Go Go.RowKit
def deLoop0 : SC := sf_fixes_search_denied.body.loops.headD .skip
set_option maxHeartbeats 1000000 in
theorem de_outer (x : Ds) (hok : ChOk x.ch) (hdo : dsOk x = true) (H0 A0 : AH) (d t s r a b e : Value) (h : DsIn H0 x d t s r) (ha : OneS a) (hb : OneS b) (he : OneS e) (hA0 : Aft H0 A0) {k lb : Nat} (hlb0 : H0.length ≤ lb) (hlb : A0[lb]? = some (.rw 1 (u64s (partD x k 0 x.ch.cells 0)))) (S : St) (hlim : S.lim ≤ H0.length)
    (h1 : tget S.t 1 = .int .i64 k) (h2 : tget S.t 2 = .pointer (some ⟨2, 0, some 0⟩)) (h5 : tget S.t 5 = .slice (some ⟨lb, 0, none⟩) x.ch.cells x.ch.cells) (h17 : tget S.t 17 = r) (h18 : tget S.t 18 = .int .i64 x.reps.length) (h19 : tget S.t 19 = .int .i64 0)
    (hL2 : lget S.L 2 = some (0, .cells [.int .i64 x.ch.w, .int .i64 x.ch.h, d, t, s, .int .i64 x.g, .int .i64 x.pace, r, a, b, e])) (hH : S.H = A0) :
    ∃ q, exL Tryz.prog pf (.loop deLoop0) S = some q ∧ q.1 = .exit 0 ∧ Aft H0 q.2.H ∧ q.2.H[lb]? = some (.rw 1 (u64s (partD x k x.reps.length x.ch.cells 0))) ∧ tget q.2.t 5 = tget S.t 5 := by
  have hd12 : x.reps.length ≤ 12 ∧ ∀ q ∈ x.reps, repOk x.cells x.ticks q = true := by
    unfold dsOk at hdo
    simp only [Bool.and_eq_true, decide_eq_true_eq, List.all_eq_true] at hdo
    exact ⟨hdo.1.2, hdo.2⟩
  refine loop_rule (I := fun m s' => ∃ j, j ≤ x.reps.length ∧ m = x.reps.length - j ∧ tget s'.t 19 = .int .i64 j ∧ tget s'.t 18 = .int .i64 x.reps.length ∧ tget s'.t 17 = r ∧ lget s'.L 2 = lget S.L 2 ∧ s'.lim = S.lim ∧ Aft H0 s'.H ∧ s'.H[lb]? = some (.rw 1 (u64s (partD x k j x.ch.cells 0))) ∧ tget s'.t 1 = tget S.t 1 ∧ tget s'.t 2 = tget S.t 2 ∧ tget s'.t 5 = tget S.t 5) ?_ x.reps.length S
    ⟨0, by omega, by omega, h19, h18, h17, rfl, rfl, by rw [hH]; exact hA0, by rw [hH]; exact hlb, rfl, rfl, rfl⟩
  rintro m s' ⟨j, hj, rfl, e19, e18, e17, eL, el, eA, eB, e1, e2, e5⟩
  obtain ⟨B, hB⟩ : ∃ B, s'.H = B := ⟨_, rfl⟩
  rw [hB] at eA eB
  rw [h1] at e1
  rw [h2] at e2
  rw [h5] at e5
  rw [hL2] at eL
  have hv := h.r.ext eA.ext
  have h0 := h
  have ha0 := ha
  have hb0 := hb
  have he0 := he
  obtain ⟨⟨⟨da, dc, ed, _⟩, ⟨ta, tc, et, _⟩, ⟨sa, sc, es, _⟩, _, htl, _⟩, ⟨ra, rc, er, _⟩, _⟩ := h
  obtain ⟨a1, a2, a3, ea⟩ := ha
  obtain ⟨b1, b2, b3, eb⟩ := hb
  obtain ⟨e1', e2', e3', ee⟩ := he
  have eL0 := eL
  rw [ed, et, es, er, ea, eb, ee] at eL
  by_cases hlt : j < x.reps.length
  rotate_left
  · have : j = x.reps.length := by omega
    subst this
    rw [er] at e17
    simp [deLoop0, SC.loops, sf_fixes_search_denied, e1, e2, e5, e17, e18, e19, eL, el, hB, h5]
    exact ⟨eA, eB⟩
  have hw1 : IntKind.i64.wrap ((j : Int) + 1) = (j : Int) + 1 := wrap_i64 (by omega) (by omega)
  obtain ⟨rb, ro, rc', erc, c0, c1, c2, c3', c4, c5, c6, c7, c8⟩ := rep_cells hv hlt
  rw [erc] at e17
  have hvals : x.reps[j].vals = [.int .i64 x.reps[j].tick, .int .i64 x.reps[j].kind, .int .i64 x.reps[j].cell, .int .i64 x.reps[j].a, .int .i64 x.reps[j].b, .int .i64 x.reps[j].c, .int .i64 x.reps[j].d, .bool x.reps[j].sure, .int .i64 x.reps[j].w] := rfl
  have hin := de_inner x hok hdo H0 B d t s r a b e h0 ha0 hb0 he0 eA hlt hlb0 eB
  generalize hq : x.reps[j] = q at *
  simp only [hcell] at c0 c1 c2 c3' c4 c5 c6 c7 c8
  simp [deLoop0, SC.loops, sf_fixes_search_denied, e1, e2, e5, e17, e18, e19, eL, el, hB, hlt, c0, c1, c2, c3', c4, c5, c6, c7, c8]
  generalize hS2 : ({ t := _, L := _, H := _, lim := _, rd := _ } : St) = S2
  obtain ⟨⟨e, s2⟩, hr, z1, z2, z3, z4, z5, z6, z7, z8, z9, z10, z11⟩ := hin (nextG s'.L 7) S2 (by subst hS2; simp [el]; exact hlim) (by subst hS2; simp [e1]) (by subst hS2; simp [e2]) (by subst hS2; simp [e5]) (by subst hS2; simp) (by subst hS2; simp) (by subst hS2; simp) (by subst hS2; simp) (by subst hS2; simp [eL, ed, et, es, er, ea, eb, ee]) (by subst hS2; simp [hvals]) (by subst hS2; simp)
  simp [deLoop1, SC.loops, sf_fixes_search_denied] at hr
  rw [hr]
  simp only at z1 z2 z3 z4 z5 z6 z7 z8 z9 z10 z11
  have y19 : tget S2.t 19 = .int .i64 j := by subst hS2; simp [e19]
  have y18 : tget S2.t 18 = .int .i64 x.reps.length := by subst hS2; simp [e18]
  have y17 : tget S2.t 17 = r := by subst hS2; simp [e17, erc]
  have y1 : tget S2.t 1 = .int .i64 k := by subst hS2; simp [e1]
  have y2 : tget S2.t 2 = .pointer (some ⟨2, 0, some 0⟩) := by subst hS2; simp [e2]
  have y5 : tget S2.t 5 = .slice (some ⟨lb, 0, none⟩) x.ch.cells x.ch.cells := by subst hS2; simp [e5]
  have yL : lget S2.L 2 = lget s'.L 2 := by subst hS2; simp
  have yl : S2.lim = S.lim := by subst hS2; simp [el]
  subst z1
  simp [and_assoc, z2, z3, z4, z6, z7, z8, z9, z10, z11, y19, y18, y17, y1, y2, y5, yL, yl, hw1, eL0, hL2]
  exact ⟨_, by omega, j + 1, by omega, rfl, by omega, z5, h1.symm, h2.symm, h5.symm⟩
theorem run_denied (x : Ds) (hok : ChOk x.ch) (hdo : dsOk x = true) (lim : Nat) (H : AH) (d t s r a b e : Value) (h : DsIn H x d t s r) (ha : OneS a) (hb : OneS b) (he : OneS e) (k : Nat) :
    ∃ A lb, apL Tryz.prog pf (.func (.func 85) #[] #[]) [srV x d t s r a b e, .int .i64 k] lim H = some (.slice (some ⟨lb, 0, none⟩) x.ch.cells x.ch.cells, A) ∧ Aft H A ∧ H.length ≤ lb ∧ A[lb]? = some (.rw 1 (u64s ((List.range x.ch.cells).map fun i => denyM x k i x.reps.length))) := by
  rw [apL_func _ _ _ _ _ _ (by rfl), sf_fixes_search_denied_eq]
  have h0 := h
  have ha0 := ha
  have hb0 := hb
  have he0 := he
  obtain ⟨m0, m1, m2⟩ := hok.mul
  obtain ⟨⟨⟨da, dc, ed, _⟩, ⟨ta, tc, et, _⟩, ⟨sa, sc, es, _⟩, _, htl, _⟩, ⟨ra, rc, er, _⟩, _⟩ := h
  obtain ⟨a1, a2, a3, ea⟩ := ha
  obtain ⟨b1, b2, b3, eb⟩ := hb
  obtain ⟨e1, e2, e3, ee⟩ := he
  have hmx : x.ch.cells ≤ maxA := Nat.le_trans (show x.ch.cells ≤ 144 by omega) (by decide)
  have hdl : x.ch.depth.length = x.ch.cells := rfl
  have hz : ∀ n, zeros [.int .u64 0] n = u64s (List.replicate n 0) := by
    intro n
    induction n with
    | zero => rfl
    | succ n ih => simp only [zeros, ih, List.replicate_succ, u64s, List.map_cons]; rfl
  have hf0 : List.replicate x.ch.cells 0 = partD x k 0 x.ch.cells 0 := by
    unfold partD
    simp only [List.range_zero, List.map_nil, List.nil_append, Nat.sub_zero, denyM, setM, List.filter_nil, List.foldl_nil, Nat.zero_add]
    induction x.ch.cells with
    | zero => rfl
    | succ n ih => rw [List.replicate_succ', ih, List.range_succ, List.map_append]; rfl
  simp [sf_fixes_search_denied, srV, ed, et, es, er, ea, eb, ee, hdl, hmx, hz, hf0, pf_pure, pureF]
  generalize hS : ({ t := _, L := _, H := _, lim := _, rd := _ } : St) = S
  obtain ⟨⟨q, s1⟩, hr, q1, q2, q3, q4⟩ := de_outer x hok hdo H (H ++ [.rw 1 (u64s (partD x k 0 x.ch.cells 0))]) d t s r a b e h0 ha0 hb0 he0 ((Aft.refl H).push _) (Nat.le_refl _) (by rw [List.getElem?_append_right (Nat.le_refl _), Nat.sub_self]; rfl) S (by subst hS; simp) (by subst hS; simp) (by subst hS; simp) (by subst hS; simp) (by subst hS; simp [er]) (by subst hS; simp) (by subst hS; simp) (by subst hS; simp [ed, et, es, er, ea, eb, ee, hdl]) (by subst hS; rfl)
  simp [deLoop0, SC.loops, sf_fixes_search_denied] at hr
  rw [hr]
  simp only at q1 q2 q3 q4
  subst q1
  have y5 : tget S.t 5 = .slice (some ⟨H.length, 0, none⟩) x.ch.cells x.ch.cells := by subst hS; simp
  rw [y5] at q4
  have hend : partD x k x.reps.length x.ch.cells 0 = (List.range x.ch.cells).map fun i => denyM x k i x.reps.length := by simp [partD]
  rw [hend] at q3
  simp [q4]
  exact ⟨_, _, ⟨rfl, rfl⟩, q2, Nat.le_refl _, q3⟩
end Go.Proofs.YtddnloghclemjaaGreatDoor
namespace Go.Proofs.YtddnloghclemjaaGreatDoor
open Go Go.RowKit
theorem split64 {P : Nat → Prop} (h : ∀ a, a < 64 → ∀ b, b < 64 → P (64 * a + b)) (n : Nat) (hn : n < 4096) : P n := by
  have := h (n / 64) (by omega) (n % 64) (by omega)
  rwa [show 64 * (n / 64) + n % 64 = n by omega] at this
def bitsN (n : Nat) : Nat → Nat
  | 0 => 0
  | k + 1 => bitsN n k + (n / 2 ^ k) % 2
theorem run_OnesCount64 (n : Nat) (hn : n < 4096) (lim : Nat) (H : AH) : apL Tryz.prog pf (.func (.func 141) #[] #[]) [.int .u64 n] lim H = some (.int .i64 (bitsN n 12 : Nat), H) := by
  obtain ⟨v, hv, hr⟩ : ∃ v : Int, v = (bitsN n 12 : Nat) ∧ apL Tryz.prog pf (.func (.func 141) #[] #[]) [.int .u64 n] lim H = some (.int .i64 v, H) := by
    refine ⟨?v, ?p, ?r⟩
    case r =>
      rw [apL_func _ _ _ _ _ _ (by rfl), sf_math_bits_OnesCount64_eq]
      simp [sf_math_bits_OnesCount64, pf_pure, pureF]
      rfl
    case p =>
      clear H lim
      revert hn
      revert n
      refine split64 ?_
      decide +kernel
  rw [hr, hv]
theorem bitsN_le (n : Nat) : ∀ k, bitsN n k ≤ k
  | 0 => Nat.le_refl _
  | k + 1 => by have := bitsN_le n k; unfold bitsN; omega
theorem run_OnesCount {n : Nat} (hn : n < 4096) (lim : Nat) (H : AH) : apL Tryz.prog pf (.func (.func 117) #[] #[]) [.int .u64 n] lim H = some (.int .i64 (bitsN n 12 : Nat), H) := by
  rw [apL_func _ _ _ _ _ _ (by rfl), sf_math_bits_OnesCount_eq]
  have h := fun lim => run_OnesCount64 n hn lim H
  simp [sf_math_bits_OnesCount, h, pf_pure, pureF]
theorem run_size {n : Nat} (hn : n < 4096) (lim : Nat) (H : AH) : apL Tryz.prog pf (.func (.func 91) #[] #[]) [.int .u64 n] lim H = some (.int .i64 (bitsN n 12 : Nat), H) := by
  rw [apL_func _ _ _ _ _ _ (by rfl), sf_fixes_set_size_eq]
  have h := fun lim => run_OnesCount hn lim H
  simp [sf_fixes_set_size, h, pf_pure, pureF]
def lowN (n : Nat) : Nat → Nat
  | 0 => 0
  | k + 1 => if n % 2 = 1 then 0 else lowN (n / 2) k + 1
theorem lowN_le : ∀ (k n : Nat), lowN n k ≤ k
  | 0, n => Nat.le_refl _
  | k + 1, n => by have := lowN_le k (n / 2); unfold lowN; split <;> omega
def tzI (M : Int) (n : Nat) : Int := (IntKind.u64.wrap (IntKind.u64.wrap ((n % 2 ^ IntKind.u64.bits &&& (IntKind.u64.wrap (-(n : Int)) % 2 ^ IntKind.u64.bits).toNat : Nat) : Int) * M)).fdiv (2 ^ min 58 IntKind.u64.bits)
theorem tzI_def (M : Int) (n : Nat) : (IntKind.u64.wrap (IntKind.u64.wrap ((n % 2 ^ IntKind.u64.bits &&& (IntKind.u64.wrap (-(n : Int)) % 2 ^ IntKind.u64.bits).toNat : Nat) : Int) * M)).fdiv (2 ^ min 58 IntKind.u64.bits) = tzI M n := rfl
theorem tzI_eq (n : Nat) (hn : n < 4096) (hn0 : ¬ n = 0) : 0 ≤ tzI 285870213051353865 n ∧ tzI 285870213051353865 n < 64 ∧ bitsV[(tzI 285870213051353865 n).toNat]? = some (.int .u8 (lowN n 12 : Nat)) := by
  have h1 : n ≠ 0 → (0 ≤ tzI 285870213051353865 n ∧ tzI 285870213051353865 n < 64 ∧ (bitsV[(tzI 285870213051353865 n).toNat]?.map fun v => match v with | .int .u8 m => decide (m = (lowN n 12 : Nat)) | _ => false) = some true) := by
    clear hn0
    revert hn
    revert n
    refine split64 ?_
    decide +kernel
  obtain ⟨a, b, c⟩ := h1 hn0
  refine ⟨a, b, ?_⟩
  cases hb : bitsV[(tzI 285870213051353865 n).toNat]? with
  | none => rw [hb] at c; cases c
  | some v =>
    rw [hb] at c
    simp only [Option.map_some, Option.some.injEq] at c
    split at c
    · rw [of_decide_eq_true c]
    · cases c
theorem run_TZ {n : Nat} (hn : n < 4096) (hn0 : ¬ n = 0) (lim : Nat) (H : AH) (hG : H[bitsG]? = some (.ro bitsV)) : apL Tryz.prog pf (.func (.func 145) #[] #[]) [.int .u64 n] lim H = some (.int .i64 (lowN n 12 : Nat), H) := by
  have h0 : ((n : Int) == 0) = false := by simpa using hn0
  obtain ⟨i0, i1, i2⟩ := tzI_eq n hn hn0
  have hi01 := And.intro i0 i1
  rw [apL_func _ _ _ _ _ _ (by rfl), sf_math_bits_TrailingZeros64_eq]
  have hw : IntKind.i64.wrap ((lowN n 12 : Nat) : Int) = (lowN n 12 : Nat) := wrap_i64 (by omega) (by have := lowN_le 12 n; omega)
  have hg : bitsG = 1 := rfl
  rw [hg] at hG
  simp only [sf_math_bits_TrailingZeros64]
  generalize bitsV = V at *
  obtain ⟨M, hM⟩ : ∃ M : Int, M = 285870213051353865 := ⟨_, rfl⟩
  rw [← hM] at hi01 i2 ⊢
  simp [pf_pure, pureF, h0, hG, tzI_def, hi01, i2, hw]
theorem run_TZ0 {n : Nat} (hn : n < 4096) (hn0 : ¬ n = 0) (lim : Nat) (H : AH) (hG : H[bitsG]? = some (.ro bitsV)) : apL Tryz.prog pf (.func (.func 125) #[] #[]) [.int .u64 n] lim H = some (.int .i64 (lowN n 12 : Nat), H) := by
  rw [apL_func _ _ _ _ _ _ (by rfl), sf_math_bits_TrailingZeros_eq]
  have h := fun lim => run_TZ hn hn0 lim H hG
  simp [sf_math_bits_TrailingZeros, h, pf_pure, pureF]
end Go.Proofs.YtddnloghclemjaaGreatDoor
namespace Go.Proofs.YtddnloghclemjaaGreatDoor
open Go Go.RowKit
def RowA (n0 : Nat) (A : AH) (v : Value) (l : List Int) : Prop := ∃ b k, n0 ≤ b ∧ v = .slice (some ⟨b, 0, none⟩) l.length k ∧ A[b]? = some (.rw 1 (ints l))
theorem RowA.nl {n0 : Nat} {A : AH} {v : Value} {l : List Int} (h : RowA n0 A v l) : nl v = true := by
  obtain ⟨b, k, _, rfl, hb⟩ := h
  simp
theorem nlL_of : ∀ (l : List Value), (∀ v ∈ l, nl v = true) → nlL l = true := by
  intro l
  induction l with
  | nil => intro _; rfl
  | cons v l ih => intro h; unfold nlL; rw [h v (by simp), ih fun w hw => h w (by simp [hw])]; rfl
def nearI (x : Ds) (i : Nat) : List Int := (upto (hops x i) x.ch.cells).map fun (j : Nat) => (j : Int)
theorem apt_self (w a : Int) : apt w a a = 0 := by
  have := apt_tri w a a a
  have h2 := apt_nonneg w a a
  unfold apt dst at *
  omega
theorem hops_self {x : Ds} (hdo : dsOk x = true) (i : Nat) : hops x i i = true := by
  unfold dsOk at hdo
  simp only [Bool.and_eq_true, decide_eq_true_eq] at hdo
  unfold hops
  rw [apt_self]
  simp
  omega
theorem hops_symm (x : Ds) (i k : Nat) : hops x i k = hops x k i := by unfold hops; rw [apt_symm]
theorem near_those {x : Ds} (hok : ChOk x.ch) {i : Nat} (hi : i < x.ch.cells) : thoseN (fun n => decide (apartN x.ch i n ≤ x.pace)) x.cells = nearI x i := by
  unfold thoseN nearI upto
  congr 1
  refine List.filter_congr fun j hj => ?_
  show decide (apartN x.ch i j ≤ x.pace) = hops x i j
  rw [(apartN_ok hok hi (List.mem_range.1 hj)).2]
  rfl
theorem nearI_ne {x : Ds} (hdo : dsOk x = true) {i : Nat} (hi : i < x.ch.cells) : nearI x i ≠ [] := by
  have h0 := upto_pos hi (hops_self hdo i)
  unfold nearI
  intro e
  rw [List.map_eq_nil_iff] at e
  rw [e] at h0
  simp at h0
def RowsC (n0 : Nat) (A : AH) (cs : List Value) (l : Nat → List Int) : Prop := ∀ j (h : j < cs.length), RowA n0 A cs[j] (l j)
theorem RowsC.nl {n0 : Nat} {A : AH} {cs : List Value} {l : Nat → List Int} (h : RowsC n0 A cs l) : nlL cs = true :=
  nlL_of cs fun v hv => by obtain ⟨j, hj, rfl⟩ := List.mem_iff_getElem.1 hv; exact (h j hj).nl
theorem RowsC.keep {n0 : Nat} {A F : AH} {cs : List Value} {l : Nat → List Int} (h : RowsC n0 A cs l) (hF : ∀ j, j < cs.length → ∀ b, n0 ≤ b → A[b]? = some (.rw 1 (ints (l j))) → F[b]? = A[b]?) : RowsC n0 F cs l := fun j hj => by
  obtain ⟨b, k, h1, h2, h3⟩ := h j hj
  exact ⟨b, k, h1, h2, by rw [hF j hj b h1 h3, h3]⟩
theorem RowsC.snoc {n0 : Nat} {A : AH} {cs : List Value} {l : Nat → List Int} {v : Value} (h : RowsC n0 A cs l) (hv : RowA n0 A v (l cs.length)) : RowsC n0 A (cs ++ [v]) l := fun j hj => by
  by_cases hjc : j < cs.length
  · rw [List.getElem_append_left hjc]; exact h j hjc
  · have : j = cs.length := by simp at hj; omega
    subst this
    rw [List.getElem_append_right (Nat.le_refl _)]
    simpa using hv
theorem RowsC.other {n0 : Nat} {A : AH} {cs : List Value} {l : Nat → List Int} (h : RowsC n0 A cs l) {b j : Nat} (hj : j < cs.length) (hb : A[b]? = some (.rw 1 cs)) (w : List Int) (hw : A[b]? = some (.rw 1 (ints w))) : False := by
  rw [hb] at hw
  simp only [Option.some.injEq, ABlk.rw.injEq, true_and] at hw
  obtain ⟨_, _, _, e, _⟩ := h j hj
  have h4 : cs[j]? = (ints w)[j]? := by rw [← hw]
  rw [List.getElem?_eq_getElem hj, e] at h4
  simp only [ints, List.getElem?_map] at h4
  cases h5 : w[j]? <;> rw [h5] at h4 <;> cases h4
def opDraw0 : SC := match sf_fixes_open.body.loops.headD .skip with | .seq _ (.seq _ (.seq (.block _ (.seq _ (.pre _ d))) _)) => d | _ => .skip
def dV (x : Ds) (d t s r : Value) : List Value := [.int .i64 x.ch.w, .int .i64 x.ch.h, d, t, s, .int .i64 x.g, .int .i64 x.pace, r]
def sV (x : Ds) (d t s r a b e : Value) : List Value := [.int .i64 x.ch.w, .int .i64 x.ch.h, d, t, s, .int .i64 x.g, .int .i64 x.pace, r, a, b, e]
theorem OwnV.one {n0 : Nat} {A : AH} {v : Value} {cs : List Value} (h : OwnV n0 A v cs) : OneS v := by
  rcases h with ⟨_, rfl⟩ | ⟨_, b, _, rfl, _⟩
  · exact oneS_nil
  · exact ⟨_, _, _, rfl⟩
set_option maxHeartbeats 1000000 in
theorem op_draw0 (x : Ds) (hok : ChOk x.ch) (hdo : dsOk x = true) (H0 : AH) (d t s r av : Value) (h : DsIn H0 x d t s r) {i b9 b10 b3 : Nat} (hi : i < x.ch.cells) (cs : List Value) (hcs : cs.length = i) (S : St) (hlim : S.lim ≤ H0.length) (hA : Aft H0 S.H) (hb9 : H0.length ≤ b9)
    (h9 : tget S.t 9 = .pointer (some ⟨b9, 0, none⟩)) (h10 : tget S.t 10 = .pointer (some ⟨b10, 0, none⟩)) (h3 : tget S.t 3 = .pointer (some ⟨b3, 0, none⟩))
    (hB9 : S.H[b9]? = some (.rw 0 (sV x d t s r av nilS nilS))) (hB10 : S.H[b10]? = some (.rw 0 [.int .i64 i])) (hB3 : S.H[b3]? = some (.rw 0 (dV x d t s r)))
    (hO : OwnV H0.length S.H av cs) (hR : RowsC H0.length S.H cs (nearI x)) :
    ∃ S' av' v, exL Tryz.prog pf opDraw0 S = some (.normal, S') ∧ S'.L = S.L ∧ S'.lim = S.lim ∧ Aft H0 S'.H ∧ S'.H[b9]? = some (.rw 0 (sV x d t s r av' nilS nilS)) ∧ S'.H[b3]? = some (.rw 0 (dV x d t s r)) ∧ OwnV H0.length S'.H av' (cs ++ [v]) ∧ RowsC H0.length S'.H (cs ++ [v]) (nearI x) ∧
      tget S'.t 3 = tget S.t 3 ∧ tget S'.t 6 = tget S.t 6 ∧ tget S'.t 9 = tget S.t 9 ∧ tget S'.t 36 = tget S.t 36 ∧ tget S'.t 37 = tget S.t 37 := by
  obtain ⟨A, hAA⟩ : ∃ A, S.H = A := ⟨_, rfl⟩
  rw [hAA] at hA hB9 hB10 hB3 hO hR
  obtain ⟨m0, m1, m2⟩ := hok.mul
  have hP := isP_near x A d t s r av nilS nilS (h.ext hA.ext) hO.one oneS_nil oneS_nil i b9 b10 b3 hB9 hB10 hB3
  obtain ⟨v, A1, hce, hA1, hv⟩ := run_cells x (by show x.ch.cells ≤ 1000; omega) _ A.length A d t s r av nilS nilS _ (h.ext hA.ext) hO.one oneS_nil oneS_nil (hP.n _)
  rw [near_those hok hi] at hv
  have hne := nearI_ne hdo hi
  obtain ⟨bv, hbv, rfl, hBv⟩ : ∃ bv, A.length ≤ bv ∧ v = .slice (some ⟨bv, 0, none⟩) (nearI x i).length ((nearI x i).length + 1) ∧ A1[bv]? = some (.rw 1 (ints (nearI x i))) := by
    rcases hv with ⟨e, _⟩ | ⟨_, b, h1, h2, h3⟩
    · exact absurd e hne
    · exact ⟨b, h1, h2, h3⟩
  obtain ⟨⟨⟨da, dc, ed, _⟩, ⟨ta, tc, et, _⟩, ⟨sa, sc, es, _⟩, _, htl, _⟩, ⟨ra, rc, er, _⟩, _⟩ := h
  obtain ⟨J, rfl⟩ := hA1
  have hB9' : ∀ y : AH, (A ++ y)[b9]? = some (.rw 0 (sV x d t s r av nilS nilS)) := fun y => own_get hB9 y
  have hB9'' : (A ++ J)[b9]? = some (.rw 0 (sV x d t s r av nilS nilS)) := own_get hB9 J
  have hB3'' : (A ++ J)[b3]? = some (.rw 0 (dV x d t s r)) := own_get hB3 J
  have hB3' : ∀ y : AH, (A ++ y)[b3]? = some (.rw 0 (dV x d t s r)) := fun y => own_get hB3 y
  have hm1 : 1 ≤ maxA := by decide
  have hbv9 : bv ≠ b9 := by
    rintro rfl
    rw [hB9''] at hBv
    cases hBv
  have h39 : b3 ≠ b9 := by
    rintro rfl
    rw [hB9] at hB3
    simp [dV, sV] at hB3
  have hSl : S.lim ≤ b9 := by omega
  have hbvl : bv < (A ++ J).length := (List.getElem?_eq_some_iff.1 hBv).1
  have hb9l : b9 < A.length := (List.getElem?_eq_some_iff.1 hB9).1
  have hb3l : b3 < A.length := (List.getElem?_eq_some_iff.1 hB3).1
  have hn9 : ∀ (y : List Int) (b : Nat), A[b]? = some (.rw 1 (ints y)) → b ≠ b9 := by
    rintro y b hb rfl
    rw [hB9] at hb
    cases hb
  simp only [sV, dV, nearF, srV, nilS, ed, et, es, er] at hce hB9 hB9' hB10 hB3
  rcases hO with ⟨rfl, eav⟩ | ⟨hc0, b, hb, eav, hbA⟩
  · rw [eav] at hce hB9 hB9'
    simp [-oneC, oneC_slice, opDraw0, SC.loops, sf_fixes_open, h9, h10, h3, hAA, hB9, hB9', hB10, hB3, hce, hm1, hSl]
    have hi0 : i = 0 := by simpa using hcs.symm
    refine ⟨(hA.push _).set hb9 _, .slice (some ⟨A.length + (J.length + 1), 0, none⟩) 1 2, ?_, ?_, .slice (some ⟨bv, 0, none⟩) (nearI x i).length ((nearI x i).length + 1), ?_, ?_⟩
    · rw [List.getElem?_set_self (by simp; omega)]
      simp [sV, nilS, ed, et, es, er]
    · rw [List.getElem?_set_ne (Ne.symm h39)]
      exact (hB3' _).trans (by simp [dV, ed, et, es, er])
    · refine .inr ⟨by simp, _, ?_, rfl, ?_⟩
      · have := hA.le; omega
      · rw [List.getElem?_set_ne (by omega), List.getElem?_append_right (by omega), List.getElem?_append_right (by omega)]
        simp
    · refine RowsC.snoc (cs := []) (fun j hj => by simp at hj) ⟨bv, (nearI x i).length + 1, by have := hA.le; omega, by simp [hi0], ?_⟩
      rw [List.getElem?_set_ne (Ne.symm hbv9), ← List.append_assoc, own_get hBv]
      simp [hi0]
  · rw [eav, hcs] at hce hB9 hB9'
    have hbl : b < A.length := (List.getElem?_eq_some_iff.1 hbA).1
    have hl0 : ¬ cs.length = 0 := by simpa using hc0
    have hl0' : ¬ i = 0 := by omega
    have hmx : i + 1 ≤ maxA := Nat.le_trans (show i + 1 ≤ 2000 by omega) (by decide)
    have hcn : nlL cs = true := hR.nl
    have hcA := fun L x => own_cells hbA L x
    have hbX := fun x => own_get hbA x
    have hsX := fun x y => own_set hbA x y
    have hlb : S.lim ≤ b := by omega
    have hb99 : b ≠ b9 := by
      rintro rfl
      rw [hbA] at hB9
      cases hB9
    have hb33 : b ≠ b3 := by
      rintro rfl
      rw [hbA] at hB3
      cases hB3
    have hB9s : ∀ y : AH, (A.set b .dead ++ y)[b9]? = A[b9]? := fun y => by rw [List.getElem?_append_left (by simpa using hb9l), List.getElem?_set_ne hb99]
    rw [hB9] at hB9s
    rw [hcs] at hcA
    simp [-oneC, oneC_slice, opDraw0, SC.loops, sf_fixes_open, h9, h10, h3, hAA, hB9, hB9', hB10, hB3, hce, hm1, hSl, hcs, hl0', hmx, hcn, hcA, hbX, hsX, hlb, hB9s]
    refine ⟨(((hA.set hb _).push _).set hb9 _), .slice (some ⟨A.length + (J.length + 1), 0, none⟩) (i + 1) (i + 1 + 1), ?_, ?_, .slice (some ⟨bv, 0, none⟩) (nearI x i).length ((nearI x i).length + 1), ?_, ?_⟩
    · rw [List.getElem?_set_self (by simp; omega)]
      simp [sV, nilS, ed, et, es, er]
    · rw [List.getElem?_set_ne (Ne.symm h39), List.getElem?_append_left (by simpa using hb3l), List.getElem?_set_ne hb33, hB3]
      simp [dV, ed, et, es, er]
    · refine .inr ⟨by simp, A.length + (J.length + 1), ?_, by simp [hcs], ?_⟩
      · have := hA.le; omega
      · rw [List.getElem?_set_ne (by omega), List.getElem?_append_right (by simp), List.getElem?_append_right (by simp)]
        simp
    · have hbvb : bv ≠ b := by
        have : A.length ≤ bv := hbv
        omega
      refine RowsC.snoc (RowsC.keep hR fun j hj b' h0 h' => ?_) ⟨bv, _, by have := hA.le; omega, by rw [hcs], ?_⟩
      · have hb'l : b' < A.length := (List.getElem?_eq_some_iff.1 h').1
        have h1 : b' ≠ b := by
          rintro rfl
          exact hR.other hj hbA _ h'
        rw [List.getElem?_set_ne (Ne.symm (hn9 _ _ h')), List.getElem?_append_left (by simpa using hb'l), List.getElem?_set_ne (Ne.symm h1)]
      · rw [List.getElem?_set_ne (Ne.symm hbv9)]
        have e : A.set b ABlk.dead ++ (J ++ [ABlk.rw 1 [Value.slice (some ⟨bv, 0, none⟩) (nearI x i).length ((nearI x i).length + 1)], ABlk.rw 1 (cs ++ [Value.slice (some ⟨bv, 0, none⟩) (nearI x i).length ((nearI x i).length + 1)])]) = (A ++ J).set b .dead ++ [ABlk.rw 1 [Value.slice (some ⟨bv, 0, none⟩) (nearI x i).length ((nearI x i).length + 1)], ABlk.rw 1 (cs ++ [Value.slice (some ⟨bv, 0, none⟩) (nearI x i).length ((nearI x i).length + 1)])] := by
          rw [List.set_append_left _ _ hbl, List.append_assoc]
        rw [e, List.getElem?_append_left (by simpa using hbvl), List.getElem?_set_ne (Ne.symm hbvb), hBv, hcs]
end Go.Proofs.YtddnloghclemjaaGreatDoor
namespace Go.Proofs.YtddnloghclemjaaGreatDoor
open Go Go.RowKit
theorem ChOk.pos {c : Ch} (hok : ChOk c) : 0 < c.cells ∧ c.cells ≤ 144 := by
  obtain ⟨m0, m1, m2⟩ := hok.mul
  have h : 0 < c.w * c.h := Int.mul_pos (by have := hok.1.1; omega) (by have := hok.2.1.1; omega)
  omega
def opLoop0 : SC := sf_fixes_open.body.loops.headD .skip
theorem opLoop0_eq : opLoop0 = .seq (.ops [⟨some 38, none, .bin .lss (.tmp 37) (.tmp 36)⟩]) (.seq (.cond (.tmp 38) .skip (.exit 0)) (.seq (.block 1 (.seq (.ops [⟨some 39, none, .mv (.tmp 37)⟩, ⟨some 10, none, .box (.const (.int .i64 0))⟩, ⟨none, none, .st 1 (.tmp 10) (.tmp 39)⟩]) (.pre [9, 10, 3] opDraw0))) (.ops [⟨some 48, none, .bin .add (.tmp 37) (.const (.int .i64 1))⟩, ⟨some 37, none, .mv (.tmp 48)⟩]))) := rfl
set_option maxHeartbeats 1000000 in
theorem op_loop0 (x : Ds) (hok : ChOk x.ch) (hdo : dsOk x = true) (H0 : AH) (d t s r : Value) (h : DsIn H0 x d t s r) (S : St) (hlim : S.lim ≤ H0.length)
    (h3 : tget S.t 3 = .pointer (some ⟨3, 0, some 0⟩)) (h9 : tget S.t 9 = .pointer (some ⟨9, 0, some 0⟩)) (h36 : tget S.t 36 = .int .i64 x.ch.cells) (h37 : tget S.t 37 = .int .i64 0)
    (hL3 : lget S.L 3 = some (0, .cells (dV x d t s r))) (hL9 : lget S.L 9 = some (0, .cells (sV x d t s r nilS nilS nilS))) (hH : S.H = H0) :
    ∃ q, exL Tryz.prog pf (.loop opLoop0) S = some q ∧ q.1 = .exit 0 ∧ Aft H0 q.2.H ∧ q.2.lim = S.lim ∧ tget q.2.t 6 = tget S.t 6 ∧ lget q.2.L 6 = lget S.L 6 ∧ ∃ b9 b3 av cs, H0.length ≤ b9 ∧ tget q.2.t 9 = .pointer (some ⟨b9, 0, none⟩) ∧ tget q.2.t 3 = .pointer (some ⟨b3, 0, none⟩) ∧ q.2.H[b9]? = some (.rw 0 (sV x d t s r av nilS nilS)) ∧ q.2.H[b3]? = some (.rw 0 (dV x d t s r)) ∧ cs.length = x.ch.cells ∧ OwnV H0.length q.2.H av cs ∧ RowsC H0.length q.2.H cs (nearI x) := by
  obtain ⟨m0, m1, m2⟩ := hok.mul
  have hpos := hok.pos.1
  refine loop_rule (I := fun m s' => ∃ i, i ≤ x.ch.cells ∧ m = x.ch.cells - i ∧ tget s'.t 37 = .int .i64 i ∧ tget s'.t 36 = .int .i64 x.ch.cells ∧ s'.lim = S.lim ∧ tget s'.t 6 = tget S.t 6 ∧ lget s'.L 6 = lget S.L 6 ∧ Aft H0 s'.H ∧
      ((i = 0 ∧ s'.H = H0 ∧ tget s'.t 3 = .pointer (some ⟨3, 0, some 0⟩) ∧ tget s'.t 9 = .pointer (some ⟨9, 0, some 0⟩) ∧ lget s'.L 3 = some (0, .cells (dV x d t s r)) ∧ lget s'.L 9 = some (0, .cells (sV x d t s r nilS nilS nilS))) ∨
       ∃ b9 b3 av cs, H0.length ≤ b9 ∧ tget s'.t 9 = .pointer (some ⟨b9, 0, none⟩) ∧ tget s'.t 3 = .pointer (some ⟨b3, 0, none⟩) ∧ s'.H[b9]? = some (.rw 0 (sV x d t s r av nilS nilS)) ∧ s'.H[b3]? = some (.rw 0 (dV x d t s r)) ∧ cs.length = i ∧ OwnV H0.length s'.H av cs ∧ RowsC H0.length s'.H cs (nearI x))) ?_ x.ch.cells S
    ⟨0, by omega, by omega, h37, h36, rfl, rfl, rfl, by rw [hH]; exact Aft.refl H0, .inl ⟨rfl, hH, h3, h9, hL3, hL9⟩⟩
  rintro m s' ⟨i, hi, rfl, e37, e36, el, e6, eL6, eA, hcase⟩
  obtain ⟨A, hA⟩ : ∃ A, s'.H = A := ⟨_, rfl⟩
  rw [hA] at eA hcase
  by_cases hlt : i < x.ch.cells
  rotate_left
  · have : i = x.ch.cells := by omega
    subst this
    rcases hcase with ⟨h0, _⟩ | hcase
    · omega
    simp [opLoop0, SC.loops, sf_fixes_open, e36, e37, hA]
    obtain ⟨b9, b3, av, cs, c1, c2, c3, c4, c5, c6, c7, c8⟩ := hcase
    exact ⟨eA, el, e6, eL6, b9, c1, c2, b3, c3, av, c4, c5, cs, c6, c7, c8⟩
  have hw : IntKind.i64.wrap ((i : Int) + 1) = (i : Int) + 1 := wrap_i64 (by omega) (by omega)
  have hnd : nlL (dV x d t s r) = true ∧ nlL (sV x d t s r nilS nilS nilS) = true := by
    obtain ⟨⟨⟨da, dc, ed, _⟩, ⟨ta, tc, et, _⟩, ⟨sa, sc, es, _⟩, _, htl, _⟩, ⟨ra, rc, er, _⟩, _⟩ := h
    simp [dV, sV, nilS, ed, et, es, er]
  have hn1 : ∀ z : Int, nlL [.int .i64 z] = true := fun z => by simp
  have hn0 : nlL [.int .i64 0] = true := by simp
  rcases hcase with ⟨rfl, hA0, f3, f9, fL3, fL9⟩ | ⟨b9, b3, av, cs, c1, c2, c3, c4, c5, c6, c7, c8⟩
  · subst hA0
    simp [-nlL, opLoop0_eq, e36, e37, hA, hlt, f3, f9, fL3, fL9, hnd, hn0]
    generalize hS2 : ({ t := _, L := _, H := _, lim := _, rd := _ } : St) = S2
    have yH : S2.H = A ++ [.rw 0 (sV x d t s r nilS nilS nilS), .rw 0 [.int .i64 ((0 : Nat) : Int)], .rw 0 (dV x d t s r)] := by subst hS2; simp
    obtain ⟨S', av', v, hr, z1, z2, z3, z4, z5, z6, z7, z8, z9, z10, z11, z12⟩ := op_draw0 x hok hdo A d t s r nilS h (b9 := A.length) (b10 := A.length + 1) (b3 := A.length + 2) hlt [] rfl S2 (by subst hS2; simp [el]; exact hlim) (by rw [yH]; exact (Aft.refl A).push _) (Nat.le_refl _)
      (by subst hS2; simp) (by subst hS2; simp) (by subst hS2; simp) (by rw [yH]; simp) (by rw [yH, List.getElem?_append_right (by omega)]; simp) (by rw [yH, List.getElem?_append_right (by omega)]; simp) (.inl ⟨rfl, rfl⟩) (fun j hj => by simp at hj)
    rw [hr]
    have y37 : tget S2.t 37 = .int .i64 0 := by subst hS2; simp [e37]
    have y36 : tget S2.t 36 = .int .i64 x.ch.cells := by subst hS2; simp [e36]
    have y9 : tget S2.t 9 = .pointer (some ⟨A.length, 0, none⟩) := by subst hS2; simp
    have y3 : tget S2.t 3 = .pointer (some ⟨A.length + 2, 0, none⟩) := by subst hS2; simp
    have y6 : tget S2.t 6 = tget S.t 6 := by subst hS2; simp [e6]
    have yL : lget S2.L 6 = lget S.L 6 := by subst hS2; simp [eL6]
    have yl : S2.lim = S.lim := by subst hS2; simp [el]
    simp [and_assoc, z1, z2, z8, z9, z10, z11, z12, y37, y36, y9, y3, y6, yL, yl]
    exact ⟨_, by omega, 1, by omega, rfl, rfl, z3, A.length, Nat.le_refl _, rfl, av', z4, z5, [] ++ [v], rfl, z6, z7⟩
  · simp [-nlL, opLoop0_eq, e36, e37, hA, hlt, c2, c3, hn1]
    generalize hS2 : ({ t := _, L := _, H := _, lim := _, rd := _ } : St) = S2
    have yH : S2.H = A ++ [.rw 0 [.int .i64 (i : Int)]] := by subst hS2; simp
    obtain ⟨S', av', v, hr, z1, z2, z3, z4, z5, z6, z7, z8, z9, z10, z11, z12⟩ := op_draw0 x hok hdo H0 d t s r av h (b9 := b9) (b10 := A.length) (b3 := b3) hlt cs c6 S2 (by subst hS2; simp [el]; exact hlim) (by rw [yH]; exact eA.push _) c1
      (by subst hS2; simp [c2]) (by subst hS2; simp) (by subst hS2; simp [c3]) (by rw [yH]; exact own_get c4 _) (by rw [yH, List.getElem?_append_right (by omega)]; simp) (by rw [yH]; exact own_get c5 _) (by
        rw [yH]
        rcases c7 with h | ⟨h1, b, h2, h3, h4⟩
        · exact .inl h
        · exact .inr ⟨h1, b, h2, h3, own_get h4 _⟩) (by rw [yH]; exact RowsC.keep c8 fun j _ b _ hb => by rw [own_get hb, hb])
    rw [hr]
    have y37 : tget S2.t 37 = .int .i64 i := by subst hS2; simp [e37]
    have y36 : tget S2.t 36 = .int .i64 x.ch.cells := by subst hS2; simp [e36]
    have y9 : tget S2.t 9 = .pointer (some ⟨b9, 0, none⟩) := by subst hS2; simp [c2]
    have y3 : tget S2.t 3 = .pointer (some ⟨b3, 0, none⟩) := by subst hS2; simp [c3]
    have y6 : tget S2.t 6 = tget S.t 6 := by subst hS2; simp [e6]
    have yL : lget S2.L 6 = lget S.L 6 := by subst hS2; simp [eL6]
    have yl : S2.lim = S.lim := by subst hS2; simp [el]
    simp [and_assoc, z1, z2, z8, z9, z10, z11, z12, y37, y36, y9, y3, y6, yL, yl, hw]
    exact ⟨_, by omega, i + 1, by omega, rfl, by omega, z3, b9, c1, rfl, av', z4, z5, cs ++ [v], by simp [c6], z6, z7⟩
end Go.Proofs.YtddnloghclemjaaGreatDoor
namespace Go.Proofs.YtddnloghclemjaaGreatDoor
open Go Go.RowKit
def RowV (n0 : Nat) (A : AH) (v : Value) (vs : List Value) : Prop := ∃ b k, n0 ≤ b ∧ v = .slice (some ⟨b, 0, none⟩) vs.length k ∧ A[b]? = some (.rw 1 vs)
theorem RowV.sl {n0 : Nat} {A : AH} {v : Value} {vs : List Value} (h : RowV n0 A v vs) : Sl A v vs.length vs := by
  obtain ⟨b, k, _, rfl, hb⟩ := h
  exact ⟨_, _, rfl, fun j x hx => ⟨b, 0, rfl, by simp only [hcell, hb, Nat.zero_add]; exact hx⟩⟩
theorem RowA.v {n0 : Nat} {A : AH} {v : Value} {l : List Int} (h : RowA n0 A v l) : RowV n0 A v (ints l) := by
  obtain ⟨b, k, h1, rfl, hb⟩ := h
  exact ⟨b, k, h1, by rw [ints_length], hb⟩
def RowsV (n0 : Nat) (A : AH) (cs : List Value) (l : Nat → List Value) : Prop := ∀ j (h : j < cs.length), RowV n0 A cs[j] (l j)
theorem RowsV.nl {n0 : Nat} {A : AH} {cs : List Value} {l : Nat → List Value} (h : RowsV n0 A cs l) : nlL cs = true :=
  nlL_of cs fun v hv => by
    obtain ⟨j, hj, rfl⟩ := List.mem_iff_getElem.1 hv
    obtain ⟨b, k, _, e, _⟩ := h j hj
    rw [e]; simp
theorem RowsV.snoc {n0 : Nat} {A : AH} {cs : List Value} {l : Nat → List Value} {v : Value} (h : RowsV n0 A cs l) (hv : RowV n0 A v (l cs.length)) : RowsV n0 A (cs ++ [v]) l := fun j hj => by
  by_cases hjc : j < cs.length
  · rw [List.getElem_append_left hjc]; exact h j hjc
  · have : j = cs.length := by simp at hj; omega
    subst this
    rw [List.getElem_append_right (Nat.le_refl _)]
    simpa using hv
def FlatL (l : Nat → List Value) : Prop := ∀ j, ∀ y ∈ l j, ∀ a n c, y ≠ .slice a n c
structure Tbl (n0 : Nat) (A : AH) (v : Value) (cs : List Value) (l : Nat → List Value) : Prop where
  own : OwnV n0 A v cs
  rows : RowsV n0 A cs l
theorem Tbl.keep {n0 : Nat} {A F : AH} {v : Value} {cs ds : List Value} {l m : Nat → List Value} (h : Tbl n0 A v cs l) (hl : FlatL l) (hds : RowsV n0 A ds m) (hlm : l 0 ≠ m 0) (hF : ∀ c w, n0 ≤ c → A[c]? = some (.rw 1 w) → (ds ≠ [] → w ≠ ds) → F[c]? = A[c]?) : Tbl n0 F v cs l := by
  have hrow : ∀ j (hj : j < cs.length), RowV n0 F cs[j] (l j) := fun j hj => by
    obtain ⟨b, k, h1, h2, h3⟩ := h.rows j hj
    refine ⟨b, k, h1, h2, ?_⟩
    rw [hF b _ h1 h3 fun hd e => ?_, h3]
    obtain ⟨y, t, hy⟩ : ∃ y t, ds = y :: t := by cases hd' : ds with | nil => exact absurd hd' hd | cons y t => exact ⟨y, t, rfl⟩
    obtain ⟨_, _, _, e2, _⟩ := hds 0 (by rw [hy]; simp)
    have : ds[0]'(by rw [hy]; simp) ∈ l j := by rw [e]; exact List.getElem_mem _
    exact hl j _ this _ _ _ e2
  refine ⟨?_, hrow⟩
  rcases h.own with h1 | ⟨h1, b, h2, h3, h4⟩
  · exact .inl h1
  · refine .inr ⟨h1, b, h2, h3, ?_⟩
    rw [hF b _ h2 h4 fun hd e => ?_, h4]
    subst e
    obtain ⟨y, t, hy⟩ : ∃ y t, cs = y :: t := by cases hd' : cs with | nil => exact absurd hd' hd | cons y t => exact ⟨y, t, rfl⟩
    obtain ⟨b1, k1, _, e1, g1⟩ := h.rows 0 (by rw [hy]; simp)
    obtain ⟨b2, k2, _, e2, g2⟩ := hds 0 (by rw [hy]; simp)
    rw [e1] at e2
    simp only [Value.slice.injEq, Option.some.injEq, Addr.mk.injEq] at e2
    obtain ⟨⟨rfl, _⟩, _⟩ := e2
    rw [g1] at g2
    simp only [Option.some.injEq, ABlk.rw.injEq, true_and] at g2
    exact hlm g2
def opLoop2 : SC := sf_fixes_open.body.loops.tail.headD .skip
def floV (x : Ds) (k : Nat) : List Value := bools ((List.range x.ch.cells).map fun i => x.ch.may x.g i k)
def untV (x : Ds) (k : Nat) : List Value := u64s ((List.range x.ch.cells).map fun i => denyM x k i x.reps.length)
def op_floD : SC := match opLoop2 with | .seq _ (.seq _ (.seq (.block _ (.seq _ (.seq d _))) _)) => d | _ => .skip
set_option maxHeartbeats 1000000 in
theorem op_flo (x : Ds) (hok : ChOk x.ch) (hdo : dsOk x = true) (H0 : AH) (d t s r av bv ev : Value) (h : DsIn H0 x d t s r) (ha : OneS av) (hbo : OneS bv) (heo : OneS ev) {k b9 : Nat} (hk : k < x.ch.ticks) (cs : List Value) (hcs : cs.length = k) (S : St) (hlim : S.lim ≤ H0.length) (hA : Aft H0 S.H) (hb9 : H0.length ≤ b9)
    (h9 : tget S.t 9 = .pointer (some ⟨b9, 0, none⟩)) (h11 : tget S.t 11 = .int .i64 k) (hB9 : S.H[b9]? = some (.rw 0 (sV x d t s r av bv ev)))
    (hT : Tbl H0.length S.H bv cs (floV x)) :
    ∃ S' v' v, exL Tryz.prog pf op_floD S = some (.normal, S') ∧ S'.L = S.L ∧ S'.lim = S.lim ∧ Aft H0 S'.H ∧ S'.H[b9]? = some (.rw 0 (sV x d t s r av v' ev)) ∧ Tbl H0.length S'.H v' (cs ++ [v]) (floV x) ∧ OneS v' ∧
      (∀ c w, H0.length ≤ c → S.H[c]? = some (.rw 1 w) → (cs ≠ [] → w ≠ cs) → S'.H[c]? = S.H[c]?) ∧
      tget S'.t 6 = tget S.t 6 ∧ tget S'.t 9 = tget S.t 9 ∧ tget S'.t 11 = tget S.t 11 ∧ tget S'.t 52 = tget S.t 52 ∧ tget S'.t 53 = tget S.t 53 := by
  obtain ⟨A, hAA⟩ : ∃ A, S.H = A := ⟨_, rfl⟩
  rw [hAA] at hA hB9 hT
  obtain ⟨m0, m1, m2⟩ := hok.mul
  have htk : x.ch.ticks ≤ 60 := hok.2.2.2.1.2
  obtain ⟨bw, A1, hce, hA1, hbw, hBw⟩ : ∃ bw A1, apL Tryz.prog pf (.func (.func 84) #[] #[]) [srV x d t s r av bv ev, .int .i64 k] A.length A = some (.slice (some ⟨bw, 0, none⟩) x.ch.cells x.ch.cells, A1) ∧ Aft A A1 ∧ A.length ≤ bw ∧ A1[bw]? = some (.rw 1 (floV x k)) :=
    ⟨_, _, run_afloat x hok hdo A.length A d t s r av bv ev (h.ext hA.ext) ha hbo heo hk, (Aft.refl A).push _, Nat.le_refl _, by rw [List.getElem?_append_right (Nat.le_refl _), Nat.sub_self]; rfl⟩
  obtain ⟨⟨⟨da, dc, ed, _⟩, ⟨ta, tc, et, _⟩, ⟨sa, sc, es, _⟩, _, htl, _⟩, ⟨ra, rc, er, _⟩, _⟩ := h
  obtain ⟨a1, a2, a3, ea⟩ := ha
  obtain ⟨b1, b2, b3, eb⟩ := hbo
  obtain ⟨e1, e2, e3, ee⟩ := heo
  obtain ⟨J, rfl⟩ := hA1
  have hB9' : ∀ y : AH, (A ++ y)[b9]? = some (.rw 0 (sV x d t s r av bv ev)) := fun y => own_get hB9 y
  have hm1 : 1 ≤ maxA := by decide
  have hbv9 : bw ≠ b9 := by
    rintro rfl
    rw [hB9'] at hBw
    cases hBw
  have hSl : S.lim ≤ b9 := by omega
  have hbwl : bw < (A ++ J).length := (List.getElem?_eq_some_iff.1 hBw).1
  have hb9l : b9 < A.length := (List.getElem?_eq_some_iff.1 hB9).1
  have hn9 : ∀ (y : List Value) (b : Nat), A[b]? = some (.rw 1 y) → b ≠ b9 := by
    rintro y b hb rfl
    rw [hB9] at hb
    cases hb
  simp only [sV, srV, ed, et, es, er, ea, eb, ee] at hce hB9 hB9'
  rcases hT with ⟨⟨rfl, eov⟩ | ⟨hc0, b, hb, eov, hbA⟩, hR⟩
  · rw [eb] at eov
    rw [eov] at hce hB9 hB9'
    have key : ∃ S', exL Tryz.prog pf op_floD S = some (.normal, S') ∧ S'.L = S.L ∧ S'.lim = S.lim ∧ S'.H = (A ++ (J ++ [ABlk.rw 1 [.slice (some ⟨bw, 0, none⟩) x.ch.cells x.ch.cells], ABlk.rw 1 [.slice (some ⟨bw, 0, none⟩) x.ch.cells x.ch.cells]])).set b9 (ABlk.rw 0 (sV x d t s r av (.slice (some ⟨A.length + (J.length + 1), 0, none⟩) 1 2) ev)) ∧
        tget S'.t 6 = tget S.t 6 ∧ tget S'.t 9 = tget S.t 9 ∧ tget S'.t 11 = tget S.t 11 ∧ tget S'.t 52 = tget S.t 52 ∧ tget S'.t 53 = tget S.t 53 := by
      simp [-oneC, oneC_slice, op_floD, opLoop2, SC.loops, sf_fixes_open, h9, h11, hAA, hB9, hB9', hce, hm1, hSl, sV, ed, et, es, er, ea, eb, ee]
    obtain ⟨S', hr, hL, hl, hF, ht⟩ := key
    have hk0 : k = 0 := by simpa using hcs.symm
    refine ⟨S', .slice (some ⟨A.length + (J.length + 1), 0, none⟩) 1 2, .slice (some ⟨bw, 0, none⟩) x.ch.cells x.ch.cells, hr, hL, hl, by rw [hF]; exact (hA.push _).set hb9 _, ?_, ?_, ⟨_, _, _, rfl⟩, ?_, ht⟩
    all_goals rw [hF]
    · rw [List.getElem?_set_self (by simp; omega)]
    · refine ⟨.inr ⟨by simp, A.length + (J.length + 1), by have := hA.le; omega, by simp, ?_⟩, RowsV.snoc (cs := []) (fun j hj => by simp at hj) ⟨bw, x.ch.cells, by have := hA.le; omega, by simp [floV, bools_length], ?_⟩⟩
      · rw [List.getElem?_set_ne (by omega), List.getElem?_append_right (by omega), List.getElem?_append_right (by omega)]
        simp
      · rw [List.getElem?_set_ne (Ne.symm hbv9), ← List.append_assoc, own_get hBw]
        simp [hk0]
    · intro c w _ hw _
      rw [hAA] at hw ⊢
      rw [List.getElem?_set_ne (Ne.symm (hn9 _ _ hw)), own_get hw, hw]
  · rw [eb, hcs] at eov
    rw [eov] at hce hB9 hB9'
    have hbl : b < A.length := (List.getElem?_eq_some_iff.1 hbA).1
    have hl0 : ¬ cs.length = 0 := by simpa using hc0
    have hl0' : ¬ k = 0 := by omega
    have hmx : k + 1 ≤ maxA := Nat.le_trans (show k + 1 ≤ 2000 by omega) (by decide)
    have hcn : nlL cs = true := hR.nl
    have hcA := fun L x => own_cells hbA L x
    have hbX := fun x => own_get hbA x
    have hsX := fun x y => own_set hbA x y
    have hlb : S.lim ≤ b := by omega
    have hb99 : b ≠ b9 := by
      rintro rfl
      rw [hbA] at hB9
      cases hB9
    have hB9s : ∀ y : AH, (A.set b .dead ++ y)[b9]? = A[b9]? := fun y => by rw [List.getElem?_append_left (by simpa using hb9l), List.getElem?_set_ne hb99]
    rw [hB9] at hB9s
    rw [hcs] at hcA
    have key : ∃ S', exL Tryz.prog pf op_floD S = some (.normal, S') ∧ S'.L = S.L ∧ S'.lim = S.lim ∧ S'.H = (A.set b .dead ++ (J ++ [ABlk.rw 1 [.slice (some ⟨bw, 0, none⟩) x.ch.cells x.ch.cells], ABlk.rw 1 (cs ++ [.slice (some ⟨bw, 0, none⟩) x.ch.cells x.ch.cells])])).set b9 (ABlk.rw 0 (sV x d t s r av (.slice (some ⟨A.length + (J.length + 1), 0, none⟩) (k + 1) (k + 1 + 1)) ev)) ∧
        tget S'.t 6 = tget S.t 6 ∧ tget S'.t 9 = tget S.t 9 ∧ tget S'.t 11 = tget S.t 11 ∧ tget S'.t 52 = tget S.t 52 ∧ tget S'.t 53 = tget S.t 53 := by
      simp [-oneC, oneC_slice, op_floD, opLoop2, SC.loops, sf_fixes_open, h9, h11, hAA, hB9, hB9', hce, hm1, hSl, hcs, hl0', hmx, hcn, hcA, hbX, hsX, hlb, hB9s, sV, ed, et, es, er, ea, eb, ee]
    obtain ⟨S', hr, hL, hl, hF, ht⟩ := key
    have hkeep : ∀ (Y : AH) (z : ABlk) (c : Nat) (w : List Value), A[c]? = some (ABlk.rw 1 w) → w ≠ cs → ((A.set b ABlk.dead ++ Y).set b9 z)[c]? = A[c]? := fun Y z c w hw hne => by
      have hcl : c < A.length := (List.getElem?_eq_some_iff.1 hw).1
      have h1 : c ≠ b := by
        rintro rfl
        rw [hbA] at hw
        simp only [Option.some.injEq, ABlk.rw.injEq, true_and] at hw
        exact hne hw.symm
      rw [List.getElem?_set_ne (Ne.symm (hn9 _ _ hw)), List.getElem?_append_left (by simpa using hcl), List.getElem?_set_ne (Ne.symm h1)]
    have hnot : ∀ j, j < cs.length → floV x j ≠ cs := fun j hj e => by
      obtain ⟨_, _, _, e2, _⟩ := hR 0 (by omega)
      have hmem : cs[0]'(by omega) ∈ floV x j := by rw [e]; exact List.getElem_mem _
      rw [e2] at hmem
      simp [floV, bools, u64s] at hmem
    refine ⟨S', .slice (some ⟨A.length + (J.length + 1), 0, none⟩) (k + 1) (k + 1 + 1), .slice (some ⟨bw, 0, none⟩) x.ch.cells x.ch.cells, hr, hL, hl, by rw [hF]; exact (((hA.set hb _).push _).set hb9 _), ?_, ?_, ⟨_, _, _, rfl⟩, ?_, ht⟩
    all_goals rw [hF]
    · rw [List.getElem?_set_self (by simp; omega)]
    · refine ⟨.inr ⟨by simp, A.length + (J.length + 1), by have := hA.le; omega, by simp [hcs], ?_⟩, RowsV.snoc (fun j hj => ?_) ⟨bw, x.ch.cells, by have := hA.le; omega, by simp [floV, bools_length], ?_⟩⟩
      · rw [List.getElem?_set_ne (by omega), List.getElem?_append_right (by simp), List.getElem?_append_right (by simp)]
        simp
      · obtain ⟨b', k', g1, g2, g3⟩ := hR j hj
        exact ⟨b', k', g1, g2, by rw [hkeep _ _ _ _ g3 (hnot j hj), g3]⟩
      · have hbwb : bw ≠ b := by omega
        rw [List.getElem?_set_ne (Ne.symm hbv9), ← List.append_assoc, List.getElem?_append_left (by simp at hbwl ⊢; omega)]
        rw [← List.set_append_left _ _ hbl, List.getElem?_set_ne (Ne.symm hbwb), hBw, hcs]
    · intro c w _ hw hne
      rw [hAA] at hw ⊢
      rw [hkeep _ _ _ _ hw (hne hc0)]
end Go.Proofs.YtddnloghclemjaaGreatDoor
namespace Go.Proofs.YtddnloghclemjaaGreatDoor
open Go Go.RowKit
def op_untD : SC := match opLoop2 with | .seq _ (.seq _ (.seq (.block _ (.seq _ (.seq _ d))) _)) => d | _ => .skip
set_option maxHeartbeats 1000000 in
theorem op_unt (x : Ds) (hok : ChOk x.ch) (hdo : dsOk x = true) (H0 : AH) (d t s r av bv ev : Value) (h : DsIn H0 x d t s r) (ha : OneS av) (hbo : OneS bv) (heo : OneS ev) {k b9 : Nat} (hk : k < x.ch.ticks) (cs : List Value) (hcs : cs.length = k) (S : St) (hlim : S.lim ≤ H0.length) (hA : Aft H0 S.H) (hb9 : H0.length ≤ b9)
    (h9 : tget S.t 9 = .pointer (some ⟨b9, 0, none⟩)) (h11 : tget S.t 11 = .int .i64 k) (hB9 : S.H[b9]? = some (.rw 0 (sV x d t s r av bv ev)))
    (hT : Tbl H0.length S.H ev cs (untV x)) :
    ∃ S' v' v, exL Tryz.prog pf op_untD S = some (.normal, S') ∧ S'.L = S.L ∧ S'.lim = S.lim ∧ Aft H0 S'.H ∧ S'.H[b9]? = some (.rw 0 (sV x d t s r av bv v')) ∧ Tbl H0.length S'.H v' (cs ++ [v]) (untV x) ∧ OneS v' ∧
      (∀ c w, H0.length ≤ c → S.H[c]? = some (.rw 1 w) → (cs ≠ [] → w ≠ cs) → S'.H[c]? = S.H[c]?) ∧
      tget S'.t 6 = tget S.t 6 ∧ tget S'.t 9 = tget S.t 9 ∧ tget S'.t 11 = tget S.t 11 ∧ tget S'.t 52 = tget S.t 52 ∧ tget S'.t 53 = tget S.t 53 := by
  obtain ⟨A, hAA⟩ : ∃ A, S.H = A := ⟨_, rfl⟩
  rw [hAA] at hA hB9 hT
  obtain ⟨m0, m1, m2⟩ := hok.mul
  have htk : x.ch.ticks ≤ 60 := hok.2.2.2.1.2
  obtain ⟨A1, bw, hce, hA1, hbw, hBw⟩ := run_denied x hok hdo A.length A d t s r av bv ev (h.ext hA.ext) ha hbo heo k
  replace hBw : A1[bw]? = some (.rw 1 (untV x k)) := hBw
  obtain ⟨⟨⟨da, dc, ed, _⟩, ⟨ta, tc, et, _⟩, ⟨sa, sc, es, _⟩, _, htl, _⟩, ⟨ra, rc, er, _⟩, _⟩ := h
  obtain ⟨a1, a2, a3, ea⟩ := ha
  obtain ⟨b1, b2, b3, eb⟩ := hbo
  obtain ⟨e1, e2, e3, ee⟩ := heo
  obtain ⟨J, rfl⟩ := hA1
  have hB9' : ∀ y : AH, (A ++ y)[b9]? = some (.rw 0 (sV x d t s r av bv ev)) := fun y => own_get hB9 y
  have hm1 : 1 ≤ maxA := by decide
  have hbv9 : bw ≠ b9 := by
    rintro rfl
    rw [hB9'] at hBw
    cases hBw
  have hSl : S.lim ≤ b9 := by omega
  have hbwl : bw < (A ++ J).length := (List.getElem?_eq_some_iff.1 hBw).1
  have hb9l : b9 < A.length := (List.getElem?_eq_some_iff.1 hB9).1
  have hn9 : ∀ (y : List Value) (b : Nat), A[b]? = some (.rw 1 y) → b ≠ b9 := by
    rintro y b hb rfl
    rw [hB9] at hb
    cases hb
  simp only [sV, srV, ed, et, es, er, ea, eb, ee] at hce hB9 hB9'
  rcases hT with ⟨⟨rfl, eov⟩ | ⟨hc0, b, hb, eov, hbA⟩, hR⟩
  · rw [ee] at eov
    rw [eov] at hce hB9 hB9'
    have key : ∃ S', exL Tryz.prog pf op_untD S = some (.normal, S') ∧ S'.L = S.L ∧ S'.lim = S.lim ∧ S'.H = (A ++ (J ++ [ABlk.rw 1 [.slice (some ⟨bw, 0, none⟩) x.ch.cells x.ch.cells], ABlk.rw 1 [.slice (some ⟨bw, 0, none⟩) x.ch.cells x.ch.cells]])).set b9 (ABlk.rw 0 (sV x d t s r av bv (.slice (some ⟨A.length + (J.length + 1), 0, none⟩) 1 2))) ∧
        tget S'.t 6 = tget S.t 6 ∧ tget S'.t 9 = tget S.t 9 ∧ tget S'.t 11 = tget S.t 11 ∧ tget S'.t 52 = tget S.t 52 ∧ tget S'.t 53 = tget S.t 53 := by
      simp [-oneC, oneC_slice, op_untD, opLoop2, SC.loops, sf_fixes_open, h9, h11, hAA, hB9, hB9', hce, hm1, hSl, sV, ed, et, es, er, ea, eb, ee]
    obtain ⟨S', hr, hL, hl, hF, ht⟩ := key
    have hk0 : k = 0 := by simpa using hcs.symm
    refine ⟨S', .slice (some ⟨A.length + (J.length + 1), 0, none⟩) 1 2, .slice (some ⟨bw, 0, none⟩) x.ch.cells x.ch.cells, hr, hL, hl, by rw [hF]; exact (hA.push _).set hb9 _, ?_, ?_, ⟨_, _, _, rfl⟩, ?_, ht⟩
    all_goals rw [hF]
    · rw [List.getElem?_set_self (by simp; omega)]
    · refine ⟨.inr ⟨by simp, A.length + (J.length + 1), by have := hA.le; omega, by simp, ?_⟩, RowsV.snoc (cs := []) (fun j hj => by simp at hj) ⟨bw, x.ch.cells, by have := hA.le; omega, by simp [untV, u64s_length], ?_⟩⟩
      · rw [List.getElem?_set_ne (by omega), List.getElem?_append_right (by omega), List.getElem?_append_right (by omega)]
        simp
      · rw [List.getElem?_set_ne (Ne.symm hbv9), ← List.append_assoc, own_get hBw]
        simp [hk0]
    · intro c w _ hw _
      rw [hAA] at hw ⊢
      rw [List.getElem?_set_ne (Ne.symm (hn9 _ _ hw)), own_get hw, hw]
  · rw [ee, hcs] at eov
    rw [eov] at hce hB9 hB9'
    have hbl : b < A.length := (List.getElem?_eq_some_iff.1 hbA).1
    have hl0 : ¬ cs.length = 0 := by simpa using hc0
    have hl0' : ¬ k = 0 := by omega
    have hmx : k + 1 ≤ maxA := Nat.le_trans (show k + 1 ≤ 2000 by omega) (by decide)
    have hcn : nlL cs = true := hR.nl
    have hcA := fun L x => own_cells hbA L x
    have hbX := fun x => own_get hbA x
    have hsX := fun x y => own_set hbA x y
    have hlb : S.lim ≤ b := by omega
    have hb99 : b ≠ b9 := by
      rintro rfl
      rw [hbA] at hB9
      cases hB9
    have hB9s : ∀ y : AH, (A.set b .dead ++ y)[b9]? = A[b9]? := fun y => by rw [List.getElem?_append_left (by simpa using hb9l), List.getElem?_set_ne hb99]
    rw [hB9] at hB9s
    rw [hcs] at hcA
    have key : ∃ S', exL Tryz.prog pf op_untD S = some (.normal, S') ∧ S'.L = S.L ∧ S'.lim = S.lim ∧ S'.H = (A.set b .dead ++ (J ++ [ABlk.rw 1 [.slice (some ⟨bw, 0, none⟩) x.ch.cells x.ch.cells], ABlk.rw 1 (cs ++ [.slice (some ⟨bw, 0, none⟩) x.ch.cells x.ch.cells])])).set b9 (ABlk.rw 0 (sV x d t s r av bv (.slice (some ⟨A.length + (J.length + 1), 0, none⟩) (k + 1) (k + 1 + 1)))) ∧
        tget S'.t 6 = tget S.t 6 ∧ tget S'.t 9 = tget S.t 9 ∧ tget S'.t 11 = tget S.t 11 ∧ tget S'.t 52 = tget S.t 52 ∧ tget S'.t 53 = tget S.t 53 := by
      simp [-oneC, oneC_slice, op_untD, opLoop2, SC.loops, sf_fixes_open, h9, h11, hAA, hB9, hB9', hce, hm1, hSl, hcs, hl0', hmx, hcn, hcA, hbX, hsX, hlb, hB9s, sV, ed, et, es, er, ea, eb, ee]
    obtain ⟨S', hr, hL, hl, hF, ht⟩ := key
    have hkeep : ∀ (Y : AH) (z : ABlk) (c : Nat) (w : List Value), A[c]? = some (ABlk.rw 1 w) → w ≠ cs → ((A.set b ABlk.dead ++ Y).set b9 z)[c]? = A[c]? := fun Y z c w hw hne => by
      have hcl : c < A.length := (List.getElem?_eq_some_iff.1 hw).1
      have h1 : c ≠ b := by
        rintro rfl
        rw [hbA] at hw
        simp only [Option.some.injEq, ABlk.rw.injEq, true_and] at hw
        exact hne hw.symm
      rw [List.getElem?_set_ne (Ne.symm (hn9 _ _ hw)), List.getElem?_append_left (by simpa using hcl), List.getElem?_set_ne (Ne.symm h1)]
    have hnot : ∀ j, j < cs.length → untV x j ≠ cs := fun j hj e => by
      obtain ⟨_, _, _, e2, _⟩ := hR 0 (by omega)
      have hmem : cs[0]'(by omega) ∈ untV x j := by rw [e]; exact List.getElem_mem _
      rw [e2] at hmem
      simp [untV, bools, u64s] at hmem
    refine ⟨S', .slice (some ⟨A.length + (J.length + 1), 0, none⟩) (k + 1) (k + 1 + 1), .slice (some ⟨bw, 0, none⟩) x.ch.cells x.ch.cells, hr, hL, hl, by rw [hF]; exact (((hA.set hb _).push _).set hb9 _), ?_, ?_, ⟨_, _, _, rfl⟩, ?_, ht⟩
    all_goals rw [hF]
    · rw [List.getElem?_set_self (by simp; omega)]
    · refine ⟨.inr ⟨by simp, A.length + (J.length + 1), by have := hA.le; omega, by simp [hcs], ?_⟩, RowsV.snoc (fun j hj => ?_) ⟨bw, x.ch.cells, by have := hA.le; omega, by simp [untV, u64s_length], ?_⟩⟩
      · rw [List.getElem?_set_ne (by omega), List.getElem?_append_right (by simp), List.getElem?_append_right (by simp)]
        simp
      · obtain ⟨b', k', g1, g2, g3⟩ := hR j hj
        exact ⟨b', k', g1, g2, by rw [hkeep _ _ _ _ g3 (hnot j hj), g3]⟩
      · have hbwb : bw ≠ b := by omega
        rw [List.getElem?_set_ne (Ne.symm hbv9), ← List.append_assoc, List.getElem?_append_left (by simp at hbwl ⊢; omega)]
        rw [← List.set_append_left _ _ hbl, List.getElem?_set_ne (Ne.symm hbwb), hBw, hcs]
    · intro c w _ hw hne
      rw [hAA] at hw ⊢
      rw [hkeep _ _ _ _ hw (hne hc0)]
end Go.Proofs.YtddnloghclemjaaGreatDoor
namespace Go.Proofs.YtddnloghclemjaaGreatDoor
open Go Go.RowKit
def nearV (x : Ds) (i : Nat) : List Value := ints (nearI x i)
theorem flat_near (x : Ds) : FlatL (nearV x) := fun j y hy a n c e => by
  unfold nearV ints at hy
  obtain ⟨z, _, rfl⟩ := List.mem_map.1 hy
  cases e
theorem flat_flo (x : Ds) : FlatL (floV x) := fun j y hy a n c e => by
  unfold floV bools at hy
  obtain ⟨z, _, rfl⟩ := List.mem_map.1 hy
  cases e
theorem flat_unt (x : Ds) : FlatL (untV x) := fun j y hy a n c e => by
  unfold untV u64s at hy
  obtain ⟨z, _, rfl⟩ := List.mem_map.1 hy
  cases e
theorem range_head {n : Nat} (h : 0 < n) : ∃ t, List.range n = 0 :: t := by
  obtain ⟨m, rfl⟩ : ∃ m, n = m + 1 := ⟨n - 1, by omega⟩
  exact ⟨_, List.range_succ_eq_map⟩
theorem flo_unt {x : Ds} (h : 0 < x.ch.cells) : floV x 0 ≠ untV x 0 := by
  obtain ⟨t, ht⟩ := range_head h
  unfold floV untV bools u64s
  rw [ht]
  simp
theorem near_flo {x : Ds} (hdo : dsOk x = true) (h : 0 < x.ch.cells) : nearV x 0 ≠ floV x 0 := by
  obtain ⟨t, ht⟩ := range_head h
  have hne := nearI_ne hdo h
  unfold nearV floV bools ints
  rw [ht]
  cases hn : nearI x 0 with
  | nil => exact absurd hn hne
  | cons a b => simp
theorem near_unt {x : Ds} (hdo : dsOk x = true) (h : 0 < x.ch.cells) : nearV x 0 ≠ untV x 0 := by
  obtain ⟨t, ht⟩ := range_head h
  have hne := nearI_ne hdo h
  unfold nearV untV u64s ints
  rw [ht]
  cases hn : nearI x 0 with
  | nil => exact absurd hn hne
  | cons a b =>
    simp only [List.map_cons]
    intro e
    injection e with e1 _
    cases e1
theorem opLoop2_eq : opLoop2 = .seq (.ops [⟨some 54, none, .bin .lss (.tmp 53) (.tmp 52)⟩]) (.seq (.cond (.tmp 54) .skip (.exit 2)) (.seq (.block 3 (.seq (.ops [⟨some 55, none, .mv (.tmp 53)⟩, ⟨some 11, none, .mv (.tmp 55)⟩]) (.seq op_floD op_untD))) (.ops [⟨some 72, none, .bin .add (.tmp 53) (.const (.int .i64 1))⟩, ⟨some 53, none, .mv (.tmp 72)⟩]))) := rfl
set_option maxHeartbeats 1000000 in
theorem op_loop2 (x : Ds) (hok : ChOk x.ch) (hdo : dsOk x = true) (H0 : AH) (d t s r av : Value) (h : DsIn H0 x d t s r) (ha : OneS av) {b9 : Nat} (hb9 : H0.length ≤ b9) (csn : List Value) (S : St) (hlim : S.lim ≤ H0.length) (hA : Aft H0 S.H)
    (h9 : tget S.t 9 = .pointer (some ⟨b9, 0, none⟩)) (h52 : tget S.t 52 = .int .i64 x.ch.ticks) (h53 : tget S.t 53 = .int .i64 0) (hB9 : S.H[b9]? = some (.rw 0 (sV x d t s r av nilS nilS))) (hN : Tbl H0.length S.H av csn (nearV x)) :
    ∃ q, exL Tryz.prog pf (.loop opLoop2) S = some q ∧ q.1 = .exit 2 ∧ Aft H0 q.2.H ∧ q.2.lim = S.lim ∧ q.2.L = S.L ∧ tget q.2.t 6 = tget S.t 6 ∧ tget q.2.t 9 = tget S.t 9 ∧ ∃ bv ev csb cse, q.2.H[b9]? = some (.rw 0 (sV x d t s r av bv ev)) ∧ OneS bv ∧ OneS ev ∧ csb.length = x.ch.ticks ∧ cse.length = x.ch.ticks ∧ Tbl H0.length q.2.H av csn (nearV x) ∧ Tbl H0.length q.2.H bv csb (floV x) ∧ Tbl H0.length q.2.H ev cse (untV x) := by
  have hpos := hok.pos.1
  have htk : x.ch.ticks ≤ 60 := hok.2.2.2.1.2
  refine loop_rule (I := fun m s' => ∃ k, k ≤ x.ch.ticks ∧ m = x.ch.ticks - k ∧ tget s'.t 53 = .int .i64 k ∧ tget s'.t 52 = .int .i64 x.ch.ticks ∧ s'.lim = S.lim ∧ s'.L = S.L ∧ tget s'.t 6 = tget S.t 6 ∧ tget s'.t 9 = tget S.t 9 ∧ Aft H0 s'.H ∧ 
      ∃ bv ev csb cse, s'.H[b9]? = some (.rw 0 (sV x d t s r av bv ev)) ∧ OneS bv ∧ OneS ev ∧ csb.length = k ∧ cse.length = k ∧ Tbl H0.length s'.H av csn (nearV x) ∧ Tbl H0.length s'.H bv csb (floV x) ∧ Tbl H0.length s'.H ev cse (untV x)) ?_ x.ch.ticks S
    ⟨0, by omega, by omega, h53, h52, rfl, rfl, rfl, rfl, hA, nilS, nilS, [], [], hB9, oneS_nil, oneS_nil, rfl, rfl, hN, ⟨.inl ⟨rfl, rfl⟩, fun j hj => by simp at hj⟩, ⟨.inl ⟨rfl, rfl⟩, fun j hj => by simp at hj⟩⟩
  rintro m s' ⟨k, hk, rfl, e53, e52, el, eL, e6, e9, eA, bv, ev, csb, cse, c1, c2, c3, c4, c5, c6, c7, c8⟩
  rw [h9] at e9
  by_cases hlt : k < x.ch.ticks
  rotate_left
  · have : k = x.ch.ticks := by omega
    subst this
    simp [opLoop2_eq, e52, e53, h9, e9]
    exact ⟨eA, el, eL, e6, bv, ev, c1, c2, c3, csb, c4, cse, c5, c6, c7, c8⟩
  have hw : IntKind.i64.wrap ((k : Int) + 1) = (k : Int) + 1 := wrap_i64 (by omega) (by omega)
  simp [opLoop2_eq, e52, e53, hlt]
  generalize hS2 : ({ t := _, L := _, H := _, lim := _, rd := _ } : St) = S2
  have yH : S2.H = s'.H := by subst hS2; rfl
  have yl : S2.lim = S.lim := by subst hS2; simp [el]
  have yL : S2.L = S.L := by subst hS2; simp [eL]
  have y9 : tget S2.t 9 = .pointer (some ⟨b9, 0, none⟩) := by subst hS2; simp [e9]
  have y6 : tget S2.t 6 = tget S.t 6 := by subst hS2; simp [e6]
  have y52 : tget S2.t 52 = .int .i64 x.ch.ticks := by subst hS2; simp [e52]
  have y53 : tget S2.t 53 = .int .i64 k := by subst hS2; simp [e53]
  have y11 : tget S2.t 11 = .int .i64 k := by subst hS2; simp
  rw [← yH] at c1 c6 c7 c8 eA
  obtain ⟨S3, bv', v1, r1, z1, z2, z3, z4, z5, z6, z7, z8, z9, z10, z11, z12⟩ := op_flo x hok hdo H0 d t s r av bv ev h ha c2 c3 hlt csb c4 S2 (by omega) eA hb9 y9 y11 c1 c7
  rw [r1]
  have n1 := c6.keep (flat_near x) c7.rows (near_flo hdo hpos) z7
  have n2 := c8.keep (flat_unt x) c7.rows (flo_unt hpos).symm z7
  obtain ⟨S4, ev', v2, r2, w1, w2, w3, w4, w5, w6, w7, w8, w9, w10, w11, w12⟩ := op_unt x hok hdo H0 d t s r av bv' ev h ha z6 c3 hlt cse c5 S3 (by omega) z3 hb9 (by rw [z9, y9]) (by rw [z10, y11]) z4 n2
  have n3 := n1.keep (flat_near x) n2.rows (near_unt hdo hpos) w7
  have n4 := z5.keep (flat_flo x) n2.rows (flo_unt hpos) w7
  simp [and_assoc, r2, w1, w2, w8, w9, w11, w12, z1, z2, z8, z9, z11, z12, y6, y9, y52, y53, yL, yl, hw]
  exact ⟨_, by omega, k + 1, by omega, rfl, by omega, h9.symm, w3, bv', ev', w4, z6, w6, csb ++ [v1], by simp [c4], cse ++ [v2], by simp [c5], n3, n4, w5⟩
def Tb (A : AH) (v : Value) (n : Nat) (l : Nat → List Value) : Prop := ∃ rv : List Value, rv.length = n ∧ Sl A v n rv ∧ ∀ i (h : i < rv.length), Sl A rv[i] (l i).length (l i)
theorem Tb.ext {A B : AH} (hE : Ext A B) {v : Value} {n : Nat} {l : Nat → List Value} (h : Tb A v n l) : Tb B v n l := by
  obtain ⟨rv, h1, h2, h3⟩ := h
  exact ⟨rv, h1, h2.ext hE, fun i a => (h3 i a).ext hE⟩
theorem Tbl.tb {n0 : Nat} {A : AH} {v : Value} {cs : List Value} {l : Nat → List Value} (h : Tbl n0 A v cs l) : Tb A v cs.length l := ⟨cs, rfl, h.own.sl, fun i hi => (h.rows i hi).sl⟩
theorem Tb.one {A : AH} {v : Value} {n : Nat} {l : Nat → List Value} (h : Tb A v n l) : OneS v := by
  obtain ⟨rv, _, ⟨a, c, e, _⟩, _⟩ := h
  exact ⟨a, n, c, e⟩
structure SrIn (H : AH) (x : Ds) (fl : Nat → Nat → Bool) (a b e : Value) : Prop where
  near : Tb H a x.ch.cells (nearV x)
  flo : Tb H b x.ch.ticks (fun k => bools ((List.range x.ch.cells).map (fl k)))
  unt : Tb H e x.ch.ticks (untV x)
theorem SrIn.ext {H H' : AH} (hE : Ext H H') {x : Ds} {fl : Nat → Nat → Bool} {a b e : Value} (h : SrIn H x fl a b e) : SrIn H' x fl a b e := ⟨h.near.ext hE, h.flo.ext hE, h.unt.ext hE⟩
def mayF (x : Ds) (k i : Nat) : Bool := x.ch.may x.g i k
def srZ : Value := .agg #[.int .i64 0, .int .i64 0, nilS, nilS, nilS, .int .i64 0, .int .i64 0, nilS, nilS, nilS, nilS]
theorem isP_srTick (x : Ds) (H : AH) (d t s r a b e : Value) (h : DsIn H x d t s r) (ha : OneS a) (hb : OneS b) (he : OneS e) : IsP H (.func (.func 79) #[srV x d t s r a b e] #[]) (inN x.ticks) := by
  refine ⟨?_, fun H' hH q lim => ?_⟩
  · obtain ⟨⟨⟨da, dc, ed, _⟩, ⟨ta, tc, et, _⟩, ⟨sa, sc, es, _⟩, _, htl, _⟩, ⟨ra, rc, er, _⟩, _⟩ := h
    obtain ⟨a1, a2, a3, ea⟩ := ha
    obtain ⟨b1, b2, b3, eb⟩ := hb
    obtain ⟨e1, e2, e3, ee⟩ := he
    exact ⟨by simp [srV, ed, et, es, er, ea, eb, ee], rfl, rfl⟩
  · rw [apL_meth _ _ _ _ _ (by rfl) (by rfl)]
    exact run_srIsTick x lim H' d t s r a b e (h.ext hH) ha hb he q
theorem isP_srCell (x : Ds) (H : AH) (d t s r a b e : Value) (h : DsIn H x d t s r) (ha : OneS a) (hb : OneS b) (he : OneS e) : IsP H (.func (.func 80) #[srV x d t s r a b e] #[]) (inN x.cells) := by
  refine ⟨?_, fun H' hH q lim => ?_⟩
  · obtain ⟨⟨⟨da, dc, ed, _⟩, ⟨ta, tc, et, _⟩, ⟨sa, sc, es, _⟩, _, htl, _⟩, ⟨ra, rc, er, _⟩, _⟩ := h
    obtain ⟨a1, a2, a3, ea⟩ := ha
    obtain ⟨b1, b2, b3, eb⟩ := hb
    obtain ⟨e1, e2, e3, ee⟩ := he
    exact ⟨by simp [srV, ed, et, es, er, ea, eb, ee], rfl, rfl⟩
  · rw [apL_meth _ _ _ _ _ (by rfl) (by rfl)]
    exact run_srIsCell x lim H' d t s r a b e (h.ext hH) ha hb he q
end Go.Proofs.YtddnloghclemjaaGreatDoor
namespace Go.Proofs.YtddnloghclemjaaGreatDoor
open Go Go.RowKit
theorem run_fopen_bad (x : Ds) (lim : Nat) (H : AH) (d t s r : Value) (h : DsIn H x d t s r) (tv cv : Value) (ht : OneS tv) (hc : OneS cv) (he : dsE x ≠ 0) :
    apL Tryz.prog pf (.func (.func 44) #[] #[]) [dsV x d t s r, tv, cv] lim H = some (.tuple #[srZ, .int .i64 (dsE x)], H) := by
  rw [apL_func _ _ _ _ _ _ (by rfl), sf_fixes_open_eq]
  have hC := fun lim => run_fixCheck x lim H d t s r h
  obtain ⟨⟨⟨da, dc, ed, _⟩, ⟨ta, tc, et, _⟩, ⟨sa, sc, es, _⟩, _, htl, _⟩, ⟨ra, rc, er, _⟩, _⟩ := h
  obtain ⟨t1, t2, t3, etv⟩ := ht
  obtain ⟨c1, c2, c3, ecv⟩ := hc
  simp only [dsV, ed, et, es, er] at hC
  obtain ⟨z, hz⟩ : ∃ z, dsE x = z := ⟨_, rfl⟩
  rw [hz] at he hC
  have hne : (z != 0) = true := by simpa using he
  simp [sf_fixes_open, dsV, srZ, nilS, ed, et, es, er, etv, ecv, hC, hz, hne, pf_pure, pureF]
theorem run_fopen_arg (x : Ds) (lim : Nat) (H : AH) (d t s r : Value) (h : DsIn H x d t s r) (tv cv : Value) (ts cs : List Int) (htl : ts.length < 2 ^ 62) (hcl : cs.length < 2 ^ 62) (ht : Sl H tv ts.length (ints ts)) (hc : Sl H cv cs.length (ints cs)) (he : dsE x = 0) (hx : (ts.all (inN x.ticks) && cs.all (inN x.cells)) = false) :
    apL Tryz.prog pf (.func (.func 44) #[] #[]) [dsV x d t s r, tv, cv] lim H = some (.tuple #[srZ, .int .i64 1], H) := by
  rw [apL_func _ _ _ _ _ _ (by rfl), sf_fixes_open_eq]
  have hC := fun lim => run_fixCheck x lim H d t s r h
  have hT := fun lim => run_all ts htl H lim tv _ _ ht (isP_srTick x H d t s r nilS nilS nilS h oneS_nil oneS_nil oneS_nil)
  have hCe := fun lim => run_all cs hcl H lim cv _ _ hc (isP_srCell x H d t s r nilS nilS nilS h oneS_nil oneS_nil oneS_nil)
  obtain ⟨⟨⟨da, dc, ed, _⟩, ⟨ta, tc, et, _⟩, ⟨sa, sc, es, _⟩, _, htl, _⟩, ⟨ra, rc, er, _⟩, _⟩ := h
  obtain ⟨t1, t3, etv, _⟩ := ht
  obtain ⟨c1, c3, ecv, _⟩ := hc
  rw [he] at hC
  simp only [dsV, srV, nilS, ed, et, es, er, etv, ecv] at hC hT hCe
  cases h1 : ts.all (inN x.ticks) with
  | false =>
    rw [h1] at hT
    simp [sf_fixes_open, dsV, srZ, nilS, ed, et, es, er, etv, ecv, hC, hT, pf_pure, pureF]
  | true =>
    rw [h1] at hx hT
    have h2 : cs.all (inN x.cells) = false := by simpa using hx
    rw [h2] at hCe
    simp [sf_fixes_open, dsV, srZ, nilS, ed, et, es, er, etv, ecv, hC, hT, hCe, pf_pure, pureF]
end Go.Proofs.YtddnloghclemjaaGreatDoor
namespace Go.Proofs.YtddnloghclemjaaGreatDoor
open Go Go.RowKit
set_option maxHeartbeats 1000000 in
theorem run_fopen (x : Ds) (lim : Nat) (H : AH) (d t s r : Value) (h : DsIn H x d t s r) (tv cv : Value) (ts cs : List Int) (htl : ts.length < 2 ^ 62) (hcl : cs.length < 2 ^ 62) (ht : Sl H tv ts.length (ints ts)) (hc : Sl H cv cs.length (ints cs)) (he : dsE x = 0) (hx1 : ts.all (inN x.ticks) = true) (hx2 : cs.all (inN x.cells) = true) :
    ∃ a b e A, apL Tryz.prog pf (.func (.func 44) #[] #[]) [dsV x d t s r, tv, cv] lim H = some (.tuple #[srV x d t s r a b e, .int .i64 0], A) ∧ Aft H A ∧ SrIn A x (mayF x) a b e := by
  rw [apL_func _ _ _ _ _ _ (by rfl), sf_fixes_open_eq]
  obtain ⟨hok, hdo⟩ := dsE_zero he
  have hC := fun lim => run_fixCheck x lim H d t s r h
  have hT := fun lim => run_all ts htl H lim tv _ _ ht (isP_srTick x H d t s r nilS nilS nilS h oneS_nil oneS_nil oneS_nil)
  have hCe := fun lim => run_all cs hcl H lim cv _ _ hc (isP_srCell x H d t s r nilS nilS nilS h oneS_nil oneS_nil oneS_nil)
  have h0 := h
  obtain ⟨⟨⟨da, dc, ed, _⟩, ⟨ta, tc, et, _⟩, ⟨sa, sc, es, _⟩, _, htl, _⟩, ⟨ra, rc, er, _⟩, _⟩ := h
  obtain ⟨t1, t3, etv, _⟩ := ht
  obtain ⟨c1, c3, ecv, _⟩ := hc
  rw [he] at hC
  simp only [dsV, srV, nilS, ed, et, es, er, etv, ecv, hx1, hx2] at hC hT hCe
  simp [-oneC, oneC_slice, oneC_int, -Array.all_toList, -List.all_eq_false, sf_fixes_open, dsV, nilS, ed, et, es, er, etv, ecv, hC, hT, hCe, pf_pure, pureF]
  generalize hS : ({ t := _, L := _, H := _, lim := _, rd := _ } : St) = S
  obtain ⟨⟨q, s1⟩, hr, q1, q2, q3, q4, q5, b9, b3, av, csn, c1, c2, c3, c4, c5, c6, c7, c8⟩ := op_loop0 x hok hdo H d t s r h0 S (by subst hS; simp) (by subst hS; simp) (by subst hS; simp) (by subst hS; simp [Ch.cells]) (by subst hS; simp) (by subst hS; simp [dV, ed, et, es, er]) (by subst hS; simp [sV, nilS, ed, et, es, er]) (by subst hS; rfl)
  simp [opLoop0, SC.loops, sf_fixes_open] at hr
  rw [hr]
  simp only at q1 q2 q3 q4 q5 c2 c3 c4 c5 c7 c8
  subst q1
  have hc5 : s1.H[b3]? = some (.rw 0 (dV x d t s r)) := c5
  simp only [dV, ed, et, es, er] at hc5
  simp [-oneC, oneC_slice, oneC_int, -Array.all_toList, -List.all_eq_false, c3, hc5]
  generalize hS2 : ({ t := _, L := _, H := _, lim := _, rd := _ } : St) = S2
  have yH : S2.H = s1.H := by subst hS2; rfl
  have yL : S2.L = s1.L := by subst hS2; rfl
  have y9 : tget S2.t 9 = .pointer (some ⟨b9, 0, none⟩) := by subst hS2; simp [c2]
  have y6 : tget S2.t 6 = tget s1.t 6 := by subst hS2; simp
  have yl : S2.lim = S.lim := by subst hS2; simp [q3]
  have hSl : S.lim = H.length := by subst hS; rfl
  obtain ⟨⟨q', s2⟩, hr2, p1, p2, p3, p4, p5, p6, bv, ev, csb, cse, k1, k2, k3, k4, k5, k6, k7, k8⟩ := op_loop2 x hok hdo H d t s r av h0 c7.one c1 csn S2 (by omega) (by rw [yH]; exact q2) y9 (by subst hS2; simp [Ch.ticks]) (by subst hS2; simp) (by rw [yH]; exact c4) (by rw [yH]; exact ⟨c7, fun j hj => (c8 j hj).v⟩)
  simp [opLoop2, SC.loops, sf_fixes_open] at hr2
  rw [hr2]
  simp only at p1 p2 p3 p4 p5 p6 k1 k6 k7 k8
  subst p1
  have z6 : tget S.t 6 = .pointer (some ⟨6, 0, some 0⟩) := by subst hS; simp
  have zL : lget S.L 6 = some (0, .cells [.int .i64 0, .int .i64 0, nilS, nilS, nilS, .int .i64 0, .int .i64 0, nilS, nilS, nilS, nilS]) := by subst hS; simp [nilS]
  have kk := k1
  obtain ⟨a1, a2, a3, ea⟩ := c7.one
  obtain ⟨b1, b2, b3', eb⟩ := k2
  obtain ⟨e1, e2, e3, ee⟩ := k3
  simp only [sV, ed, et, es, er, ea, eb, ee] at kk
  simp only [nilS] at zL
  simp [-oneC, oneC_slice, oneC_int, p5, p6, y6, y9, q4, z6, p4, yL, q5, zL, kk]
  refine ⟨av, bv, ev, s2.H, ?_, p2, ?_, ?_, ?_⟩
  · simp [srV, ed, et, es, er, ea, eb, ee]
    intro _ e
    have := hok.pos.1
    unfold Ch.cells at this
    rw [e] at this
    simp at this
  · have := k6.tb; rw [c6] at this; exact this
  · have := k7.tb; rw [k4] at this; exact this
  · have := k8.tb; rw [k5] at this; exact this
end Go.Proofs.YtddnloghclemjaaGreatDoor
namespace Go.Proofs.YtddnloghclemjaaGreatDoor
open Go Go.RowKit
theorem u64_wrap {n : Int} (h0 : 0 ≤ n) (h1 : n < 18446744073709551616) : IntKind.u64.wrap n = n := by
  have : IntKind.u64.wrap n = n % 18446744073709551616 := by
    unfold IntKind.wrap
    simp [IntKind.signed, IntKind.bits]
  rw [this]
  exact Int.emod_eq_of_lt h0 h1
theorem u64_lo {n : Nat} (h : n < 4294967296) : (BitVec.ofInt IntKind.u64.bits (n : Int) &&& BitVec.ofInt IntKind.u64.bits 4294967295).toNat = n := by
  have e1 : BitVec.ofInt IntKind.u64.bits (n : Int) = BitVec.ofNat 64 n := BitVec.ofInt_natCast 64 n
  have e2 : BitVec.ofInt IntKind.u64.bits 4294967295 = BitVec.ofNat 64 4294967295 := rfl
  rw [e1, e2]
  show (BitVec.ofNat 64 n &&& BitVec.ofNat 64 4294967295).toNat = n
  rw [BitVec.toNat_and, BitVec.toNat_ofNat, BitVec.toNat_ofNat, Nat.mod_eq_of_lt (by omega), show 4294967295 % 2 ^ 64 = 2 ^ 32 - 1 from rfl, Nat.and_two_pow_sub_one_eq_mod]
  exact Nat.mod_eq_of_lt h
theorem u64_shr {n : Int} (h0 : 0 ≤ n) (h1 : n < 4294967296) : n.fdiv (2 ^ min (32 : Int).toNat IntKind.u64.bits) = 0 := by
  have : (2 : Int) ^ min (32 : Int).toNat IntKind.u64.bits = 4294967296 := by decide
  rw [this, Int.fdiv_eq_ediv_of_nonneg _ (by omega)]
  exact Int.ediv_eq_zero_of_lt h0 h1
theorem run_Mul64 (n : Nat) (hn : n ≤ 1000) (lim : Nat) (H : AH) : apL Tryz.prog pf (.func (.func 156) #[] #[]) [.int .u64 1, .int .u64 n] lim H = some (.tuple #[.int .u64 0, .int .u64 n], H) := by
  rw [apL_func _ _ _ _ _ _ (by rfl), sf_math_bits_Mul64_eq]
  have a1 : (1#IntKind.u64.bits &&& 4294967295#IntKind.u64.bits).toNat = 1 := u64_lo (n := 1) (by omega)
  have a2 : (BitVec.ofInt IntKind.u64.bits ↑n &&& 4294967295#IntKind.u64.bits).toNat = n := u64_lo (n := n) (by omega)
  have a0 : (0#IntKind.u64.bits &&& 4294967295#IntKind.u64.bits).toNat = 0 := u64_lo (n := 0) (by omega)
  have s1 : Int.fdiv 1 (2 ^ min 32 IntKind.u64.bits) = 0 := u64_shr (n := 1) (by omega) (by omega)
  have s2 : (n : Int).fdiv (2 ^ min 32 IntKind.u64.bits) = 0 := u64_shr (n := (n : Int)) (by omega) (by omega)
  have s0 : Int.fdiv 0 (2 ^ min 32 IntKind.u64.bits) = 0 := u64_shr (n := 0) (by omega) (by omega)
  have w2 : IntKind.u64.wrap (n : Int) = n := u64_wrap (by omega) (by omega)
  have w1 : IntKind.u64.wrap 1 = 1 := u64_wrap (by omega) (by omega)
  have w0 : IntKind.u64.wrap 0 = 0 := u64_wrap (by omega) (by omega)
  simp [-BitVec.toNat_and, -BitVec.ofInt_natCast, -BitVec.toNat_ofInt, sf_math_bits_Mul64, a0, a1, a2, s0, s1, s2, w0, w1, w2, pf_pure, pureF]
theorem run_Mul (n : Nat) (hn : n ≤ 1000) (lim : Nat) (H : AH) : apL Tryz.prog pf (.func (.func 153) #[] #[]) [.int .u64 1, .int .u64 n] lim H = some (.tuple #[.int .u64 0, .int .u64 n], H) := by
  rw [apL_func _ _ _ _ _ _ (by rfl), sf_math_bits_Mul_eq]
  have h := run_Mul64 n hn
  simp [sf_math_bits_Mul, h, pf_pure, pureF]
theorem zeros_intsJ : ∀ n : Nat, zeros [.int .i64 0] n = ints (List.replicate n 0)
  | 0 => rfl
  | n + 1 => by simp only [zeros, zeros_intsJ n, List.replicate_succ, ints, List.map_cons]; rfl
def rpLoop : SC := sf_slices_Repeat_int_int.body.loops.headD .skip
theorem repV_cons (i : Nat) (x : Value) (r : List Value) : List.replicate i x ++ x :: r = x :: (List.replicate i x ++ r) := by
  induction i with
  | zero => rfl
  | succ i ih => rw [List.replicate_succ, List.cons_append, ih, List.cons_append]
theorem over_rep {a b k : Nat} (x y : Int) (hk : k ≤ b) : over (ints (List.replicate a x ++ List.replicate b y)) a (ints (List.replicate k x)) = ints (List.replicate (a + k) x ++ List.replicate (b - k) y) := by
  induction k generalizing a b with
  | zero => simp [over, ints]
  | succ k ih =>
    obtain ⟨b, rfl⟩ : ∃ m, b = m + 1 := ⟨b - 1, by omega⟩
    have e : (ints (List.replicate a x ++ List.replicate (b + 1) y)).set a (.int .i64 x) = ints (List.replicate (a + 1) x ++ List.replicate b y) := by
      simp only [ints, List.map_append, List.map_replicate]
      rw [List.set_append_right _ _ (by simp)]
      simp only [List.length_replicate, Nat.sub_self, List.replicate_succ, List.set_cons_zero, List.cons_append]
      exact repV_cons a _ _
    rw [show ints (List.replicate (k + 1) x) = .int .i64 x :: ints (List.replicate k x) by simp [ints, List.replicate_succ]]
    simp only [over]
    rw [e, ih (by omega)]
    congr 3 <;> omega
theorem rp_loop (y0 : Int) (N : Nat) (hN0 : 0 < N) (hN : N ≤ 1000) (H : AH) (S : St) (h7 : tget S.t 7 = .slice (some ⟨H.length, 0, none⟩) N N) (h8 : tget S.t 8 = .int .i64 1) (hH : S.H = H ++ [.rw 1 (ints (List.replicate 1 y0 ++ List.replicate (N - 1) 0))]) (hlim : S.lim ≤ H.length) :
    ∃ q, exL Tryz.prog pf (.loop rpLoop) S = some q ∧ q.1 = .exit 0 ∧ tget q.2.t 7 = .slice (some ⟨H.length, 0, none⟩) N N ∧ q.2.H = H ++ [.rw 1 (ints (List.replicate N y0))] := by
  refine loop_rule (I := fun m s' => ∃ k, 0 < k ∧ k ≤ N ∧ m = N - k ∧ tget s'.t 7 = .slice (some ⟨H.length, 0, none⟩) N N ∧ tget s'.t 8 = .int .i64 k ∧ s'.lim = S.lim ∧ s'.H = H ++ [.rw 1 (ints (List.replicate k y0 ++ List.replicate (N - k) 0))]) ?_ (N - 1) S
    ⟨1, by omega, by omega, rfl, h7, h8, rfl, hH⟩
  rintro m s' ⟨k, k0, k1, rfl, e7, e8, el, eH⟩
  by_cases hlt : k < N
  rotate_left
  · have : k = N := by omega
    subst this
    simp [rpLoop, SC.loops, sf_slices_Repeat_int_int, e7, e8, eH]
  obtain ⟨q, hq⟩ : ∃ q, q = min k (N - k) := ⟨_, rfl⟩
  have hq0 : ¬ q = 0 := by omega
  have hov := over_rep (a := k) (b := N - k) y0 0 (show q ≤ N - k by omega)
  obtain ⟨cs, hcs⟩ : ∃ cs, cs = ints (List.replicate k y0 ++ List.replicate (N - k) 0) := ⟨_, rfl⟩
  obtain ⟨ws, hws⟩ : ∃ ws, ws = ints (List.replicate q y0) := ⟨_, rfl⟩
  have hcl : cs.length = N := by rw [hcs, ints_length]; simp; omega
  have hwl : ws.length = q := by rw [hws, ints_length]; simp
  have hcells : ∀ L, cellsAt L (H ++ [.rw 1 cs]) ⟨H.length, 0, none⟩ q = some ws := fun L => by
    rw [← hwl]
    refine cellsAt_of ws 0 fun j x hx => ?_
    have hj : j < q := by rw [← hwl]; exact (List.getElem?_eq_some_iff.1 hx).1
    simp only [hcell, Nat.zero_add, List.getElem?_append_right (Nat.le_refl _), Nat.sub_self, List.getElem?_cons_zero]
    rw [← hx, hcs, hws]
    simp only [ints, List.map_append, List.map_replicate]
    rw [List.getElem?_append_left (by simp; omega), List.getElem?_replicate, List.getElem?_replicate]
    simp [show j < k by omega, hj]
  have hone : ws.all oneC = true := by rw [hws]; exact one_ints _
  have hnl : nlL ws = true := by rw [hws]; exact nlL_ints _
  rw [← hcs, ← hws] at hov
  rw [← hcs] at eH
  have hle : k + ws.length ≤ cs.length := by omega
  have hle' : k + ws.length ≤ N := by omega
  have hkq : k + q ≤ N := by omega
  have hkN : (k : Int) < N := by omega
  have hkN' : (k : Int) ≤ N := by omega
  have hkN2 : ¬ (k : Int) = N := by omega
  have hkN3 : ¬ k = N := by omega
  have hts : ((N : Int) - (k : Int)).toNat = N - k := by omega
  have hwr : IntKind.i64.wrap ((k : Int) + (q : Int)) = ((k + q : Nat) : Int) := by rw [wrap_i64 (by omega) (by omega)]; omega
  have hls : s'.lim ≤ H.length := by rw [el]; exact hlim
  have hq' : min k (N - k) = q := hq.symm
  simp [-oneC, -Int.natCast_add, rpLoop, SC.loops, sf_slices_Repeat_int_int, e7, e8, eH, hkN, hkN', hkN2, hkN3, hts, hq', hq0, hcells, hone, hnl, hle, hle', hov, hwr, hls, hcl, hwl, hkq]
  exact ⟨_, by omega, k + q, by omega, by omega, rfl, rfl, el, by rw [show N - k - q = N - (k + q) by omega]⟩
theorem run_Repeat (y0 : Int) (N : Nat) (hN0 : 0 < N) (hN : N ≤ 1000) (lim : Nat) (H : AH) (b : Nat) (hb : H[b]? = some (.rw 1 [.int .i64 y0])) :
    apL Tryz.prog pf (.func (.func 139) #[] #[]) [.slice (some ⟨b, 0, none⟩) 1 1, .int .i64 N] lim H = some (.slice (some ⟨H.length, 0, none⟩) N N, H ++ [.rw 1 (ints (List.replicate N y0))]) := by
  rw [apL_func _ _ _ _ _ _ (by rfl), sf_slices_Repeat_int_int_eq]
  have hM := run_Mul N hN
  have hbl : b < H.length := (List.getElem?_eq_some_iff.1 hb).1
  have hmx : N ≤ maxA := Nat.le_trans hN (by decide)
  have u1 : IntKind.u64.wrap 1 = 1 := u64_wrap (by omega) (by omega)
  have uN : IntKind.u64.wrap (N : Int) = N := u64_wrap (by omega) (by omega)
  have iN : IntKind.i64.wrap (N : Int) = N := wrap_i64 (by omega) (by omega)
  have hbig : ¬ ((N : Int) > 9223372036854775807) := by omega
  have hbig' : ¬ (9223372036854775807 < (N : Int)) := by omega
  have hmin : min 1 N = 1 := by omega
  have hbX : ∀ X : AH, (H ++ X)[b]? = some (.rw 1 [.int .i64 y0]) := fun X => by rw [List.getElem?_append_left hbl, hb]
  have hN1 : ¬ N = 0 := by omega
  have hz : 1 ≤ (ints (List.replicate N 0)).length := by rw [ints_length]; simp; omega
  have hset : (ints (List.replicate N 0)).set 0 (.int .i64 y0) = ints (List.replicate 1 y0 ++ List.replicate (N - 1) 0) := by
    obtain ⟨m, rfl⟩ : ∃ m, N = m + 1 := ⟨N - 1, by omega⟩
    simp [ints, List.replicate_succ]
  have hN0' : ¬ (N : Int) < 0 := by omega
  generalize hzz : ints (List.replicate N 0) = zz at *
  simp [sf_slices_Repeat_int_int, hM, hmx, u1, uN, iN, hbig', hmin, hbX, hN1, zeros_intsJ, hzz, hz, hset, hN0', pf_pure, pureF]
  generalize hS : ({ t := _, L := _, H := _, lim := _, rd := _ } : St) = S
  obtain ⟨⟨e, s1⟩, hr, q1, q7, qH⟩ := rp_loop y0 N hN0 hN H S (by subst hS; simp) (by subst hS; simp) (by subst hS; rfl) (by subst hS; simp)
  simp [rpLoop, SC.loops, sf_slices_Repeat_int_int] at hr
  rw [hr]
  simp only at q1 q7 qH
  subst q1
  simp [q7, qH]
end Go.Proofs.YtddnloghclemjaaGreatDoor
