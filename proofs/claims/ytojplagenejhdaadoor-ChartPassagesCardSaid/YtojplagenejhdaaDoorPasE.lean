/- Contracts of the functions, in the abstract machine: the first tick in which passages are in each cell. -/
import Derived.Test.YtojplagenejhdaaDoorPasD
set_option linter.all false
namespace Go.Proofs.YtojplagenejhdaaDoor
open Go Go.RowKit

def nearStep (row : List Int) (tk : Int) (l : List Int) (i : Nat) : List Int := if 0 ≤ row.getD i 0 ∧ l.getD i 0 < 0 then l.set i tk else l
def nearF (row : List Int) (tk : Int) (l : List Int) (n : Nat) : List Int := (List.range n).foldl (nearStep row tk) l
theorem nearF_succ (row : List Int) (tk : Int) (l : List Int) (n : Nat) : nearF row tk l (n + 1) = nearStep row tk (nearF row tk l n) n := by unfold nearF; rw [List.range_succ, List.foldl_append]; rfl
theorem nearF_len (row : List Int) (tk : Int) (l : List Int) : ∀ n, (nearF row tk l n).length = l.length
  | 0 => rfl
  | n + 1 => by rw [nearF_succ]; unfold nearStep; split <;> simp [nearF_len row tk l n]

theorem ints_getE (l : List Int) (j : Nat) (h : j < l.length) : (ints l)[j]? = some (.int .i64 (l.getD j 0)) := by simp [ints, h]

def nearLoop : SC := sf_chart_boat_nearest.body.loops.headD .skip

theorem near_loop (N : Nat) (hN : N ≤ 1000) (row : List Int) (hr : row.length = N) (l0 : List Int) (hl0 : l0.length = N) (tk : Int) (X : AH) (b lb : Nat) (hbl : b ≠ lb) (hXb : X[b]? = some (.rw 1 (ints row))) (hXl : X[lb]? = some (.rw 1 (ints l0))) (S : St)
    (h9 : tget S.t 9 = .pointer (some ⟨9, 0, some 0⟩)) (h10 : tget S.t 10 = .int .i64 tk) (h23 : tget S.t 23 = .slice (some ⟨b, 0, none⟩) N N) (h24 : tget S.t 24 = .int .i64 N) (h25 : tget S.t 25 = .int .i64 0) (hL : lget S.L 9 = some (0, .cells [.slice (some ⟨lb, 0, none⟩) N N])) (hH : S.H = X) (hlim : S.lim ≤ lb) :
    ∃ q, exL Tryd.prog pf (.loop nearLoop) S = some q ∧ q.1 = .exit 2 ∧ q.2.L = S.L ∧ q.2.H = X.set lb (.rw 1 (ints (nearF row tk l0 N))) := by
  have hbX : lb < X.length := (List.getElem?_eq_some_iff.1 hXl).1
  have gb : ∀ y, (X.set lb y)[b]? = some (.rw 1 (ints row)) := fun y => by rw [List.getElem?_set_ne (fun e => hbl e.symm), hXb]
  have gl : ∀ y, (X.set lb y)[lb]? = some y := fun y => List.getElem?_set_self hbX
  have hX0 : X = X.set lb (.rw 1 (ints (nearF row tk l0 0))) := by
    apply List.ext_getElem?
    intro k
    by_cases e : k = lb
    · subst e; rw [gl, hXl]; rfl
    · rw [List.getElem?_set_ne (fun h => e h.symm)]
  refine loop_rule (I := fun m s' => ∃ i, i ≤ N ∧ m = N - i ∧ tget s'.t 9 = .pointer (some ⟨9, 0, some 0⟩) ∧ tget s'.t 10 = .int .i64 tk ∧ tget s'.t 23 = .slice (some ⟨b, 0, none⟩) N N ∧ tget s'.t 24 = .int .i64 N ∧ tget s'.t 25 = .int .i64 i ∧ s'.L = S.L ∧ s'.lim ≤ lb ∧ s'.H = X.set lb (.rw 1 (ints (nearF row tk l0 i)))) ?_ N S
    ⟨0, by omega, by omega, h9, h10, h23, h24, h25, rfl, hlim, by rw [hH]; exact hX0⟩
  rintro m s' ⟨i, hi, rfl, e9, e10, e23, e24, e25, eL, el, eH⟩
  by_cases hlt : i < N
  rotate_left
  · have : i = N := by omega
    subst this
    simp [nearLoop, SC.loops, sf_chart_boat_nearest, e24, e25, eL, eH]
  have hsucc := nearF_succ row tk l0 i
  have hlen := nearF_len row tk l0 i
  obtain ⟨l1, hl1⟩ : ∃ l1, l1 = nearF row tk l0 i := ⟨_, rfl⟩
  rw [← hl1] at eH hsucc hlen
  have hw1 : IntKind.i64.wrap ((i : Int) + 1) = (i : Int) + 1 := wrap_i64 (by omega) (by omega)
  have gi := ints_getE row i (by omega)
  have gj := ints_getE l1 i (by omega)
  have hset : (ints l1).set i (.int .i64 tk) = ints (l1.set i tk) := by simp [ints, List.map_set]
  have hle : i + 1 ≤ (ints l1).length := by rw [ints_length]; omega
  have hst : nearStep row tk l1 i = if 0 ≤ row.getD i 0 ∧ l1.getD i 0 < 0 then l1.set i tk else l1 := rfl
  rw [hst] at hsucc
  have hL' := hL
  rw [← eL] at hL
  generalize row.getD i 0 = R at *
  generalize l1.getD i 0 = Y at *
  generalize hcs : ints l1 = cs at *
  have gj2 : ∀ h : i < cs.length, cs[i]'h = .int .i64 Y := fun h => by rw [List.getElem?_eq_getElem h] at gj; exact Option.some.inj gj
  by_cases p1 : 0 ≤ R
  · by_cases p2 : Y < 0
    · simp [nearLoop, SC.loops, sf_chart_boat_nearest, e9, e10, e23, e24, e25, eH, el, hlt, gb, gl, gi, gj, gj2, p1, p2, hw1, hL, hle, hset]
      exact ⟨_, by omega, i + 1, by omega, rfl, by omega, eL, by rw [hsucc, if_pos ⟨p1, p2⟩]⟩
    · simp [nearLoop, SC.loops, sf_chart_boat_nearest, e9, e10, e23, e24, e25, eH, el, hlt, gb, gl, gi, gj, gj2, p1, p2, hw1, hL, hle, hset]
      exact ⟨_, by omega, i + 1, by omega, rfl, by omega, eL, by rw [hsucc, if_neg (fun h => p2 h.2), hcs]⟩
  · simp [nearLoop, SC.loops, sf_chart_boat_nearest, e9, e10, e23, e24, e25, eH, el, hlt, gb, gl, gi, p1, hw1, hL]
    exact ⟨_, by omega, i + 1, by omega, rfl, by omega, eL, by rw [hsucc, if_neg (fun h => p1 h.1), hcs]⟩

/-- For each cell the first tick of those gone through, up to the j-th, in which passages are there. -/
def nearL (c : Ch) (g : Int) (cell tick : Nat) (step : Int) : Nat → List Int
  | 0 => List.replicate c.cells (-1)
  | j + 1 => nearF (rowP c g cell tick step j) ((tick : Int) + (j : Int) * step) (nearL c g cell tick step j) c.cells
theorem nearL_len (c : Ch) (g : Int) (cell tick : Nat) (step : Int) : ∀ j, (nearL c g cell tick step j).length = c.cells
  | 0 => by simp [nearL]
  | j + 1 => by simp only [nearL]; rw [nearF_len, nearL_len c g cell tick step j]

def nearAsg : SC := match sf_chart_boat_nearest.body with | .seq _ (.seq _ (.seq (.seq _ (.block _ (.rng _ _ a _))) _)) => a | _ => .skip
def nearBody : SC := match sf_chart_boat_nearest.body with | .seq _ (.seq _ (.seq (.seq _ (.block _ (.rng _ _ _ b))) _)) => b | _ => .skip
def nearR (T : TS) (L : LS) (lim : Nat) : ARec := ⟨0, none, T, L, lim, [21, 22], nearAsg, nearBody⟩

/-- The blocks that nearest lays before its loop, and the loop's record. -/
def nsB (c : Ch) (d t s : Value) (g : Int) (cell tick : Nat) (step : Int) (l : List Int) (r : ABlk) : AH :=
  [.rw 1 [.int .i64 (-1)], .rw 1 (ints l), .rw 0 [.int .i64 c.w, .int .i64 c.h, d, t, s, .int .i64 g], .rw 0 [.int .i64 cell], .rw 0 [.int .i64 tick], .rw 0 [.int .i64 step], r]

def NearI (c : Ch) (H : AH) (d t s : Value) (g : Int) (cell tick : Nat) (step : Int) (T : TS) (L : LS) (j : Nat) (A : AH) : Prop :=
  ∃ J, A = H ++ (nsB c d t s g cell tick step (nearL c g cell tick step j) (.loop (nearR T L H.length)) ++ J)

theorem near_get (H : AH) (B : AH) (J : AH) (k : Nat) (hk : k < B.length) : (H ++ (B ++ J))[H.length + k]? = B[k]? := by
  rw [List.getElem?_append_right (by omega), Nat.add_sub_cancel_left, List.getElem?_append_left hk]
theorem near_set (H : AH) (B : AH) (J : AH) (k : Nat) (hk : k < B.length) (x : ABlk) : (H ++ (B ++ J)).set (H.length + k) x = H ++ (B.set k x ++ J) := by
  rw [List.set_append_right _ _ (by omega), Nat.add_sub_cancel_left, List.set_append_left _ _ hk]

theorem near_get2 (H B J : AH) (n m : Nat) (hB : B.length = n) : (H ++ (B ++ J))[H.length + (n + m)]? = J[m]? := by
  rw [List.getElem?_append_right (by omega), Nat.add_sub_cancel_left, List.getElem?_append_right (by omega)]
  congr 1
  omega

theorem near_C (c : Ch) (hok : ChOk c) (H : AH) (hG : H[waysG]? = some (.ro waysV)) (d t s : Value) (hc : ChIn H c d t s) (g : Int) {cell tick : Nat} (step : Int) (M : Nat) (T : TS) (L : LS)
    (h9 : tget T 9 = .pointer (some ⟨9, 0, some 0⟩)) (hL : lget L 9 = some (0, .cells [.slice (some ⟨H.length + 1, 0, none⟩) c.cells c.cells])) :
    PsC c d t s g cell tick step M (H.length + 2) H.length (.func (.yield (H.length + 6)) #[] #[]) (NearI c H d t s g cell tick step T L) (fun _ => False) := by
  obtain ⟨p0, p1⟩ := hok.pos
  refine ⟨fun j A hA => ?_, fun j A X hA => ?_, fun j A b hj hA hb hbA => ?_⟩
  · obtain ⟨J, rfl⟩ := hA
    have gg := fun k hk => near_get H (nsB c d t s g cell tick step (nearL c g cell tick step j) (.loop (nearR T L H.length))) J k hk
    exact ⟨gg 2 (by simp [nsB]), gg 3 (by simp [nsB]), gg 4 (by simp [nsB]), gg 5 (by simp [nsB]), hc.ext (Ext.push H _), hG_ext _ hG, by simp, by simp [nsB]; omega⟩
  · obtain ⟨J, rfl⟩ := hA
    exact ⟨J ++ X, by simp [List.append_assoc]⟩
  · obtain ⟨J, rfl⟩ := hA
    obtain ⟨B, hB⟩ : ∃ B, B = nsB c d t s g cell tick step (nearL c g cell tick step j) (.loop (nearR T L H.length)) := ⟨_, rfl⟩
    have hBl : B.length = 7 := by rw [hB]; rfl
    rw [← hB] at hbA ⊢
    have g6 : (H ++ (B ++ J))[H.length + 6]? = some (.loop (nearR T L H.length)) := by rw [near_get _ _ _ _ (by omega), hB]; rfl
    have ha : ∀ Y, exL Tryd.prog pf nearAsg ⟨([21, 22].zip [Value.int .i64 ((tick : Int) + (j : Int) * step), .slice (some ⟨b, 0, none⟩) c.cells c.cells]).reverse ++ T, L, Y, H.length, some (H.length + 6)⟩ = some (.normal, ⟨(11, .slice (some ⟨b, 0, none⟩) c.cells c.cells) :: (10, .int .i64 ((tick : Int) + (j : Int) * step)) :: (22, .slice (some ⟨b, 0, none⟩) c.cells c.cells) :: (21, .int .i64 ((tick : Int) + (j : Int) * step)) :: T, L, Y, H.length, some (H.length + 6)⟩) := fun Y => by
      simp [nearAsg, sf_chart_boat_nearest]
    obtain ⟨X, hX⟩ : ∃ X, X = H ++ (B.set 6 (.loop { nearR T L H.length with st := 1, L := [] }) ++ J) := ⟨_, rfl⟩
    have hXb : X[b]? = some (.rw 1 (ints (rowP c g cell tick step j))) := by
      rw [← hbA, hX]
      obtain ⟨m, rfl⟩ : ∃ m, b = H.length + (7 + m) := ⟨b - H.length - 7, by omega⟩
      rw [near_get2 _ _ _ 7 m (by simp [hBl]), near_get2 _ _ _ 7 m hBl]
    have hXl : X[H.length + 1]? = some (.rw 1 (ints (nearL c g cell tick step j))) := by rw [hX, near_get _ _ _ _ (by simp; omega), hB]; rfl
    have key : ∃ s', exL Tryd.prog pf nearBody ⟨(11, .slice (some ⟨b, 0, none⟩) c.cells c.cells) :: (10, .int .i64 ((tick : Int) + (j : Int) * step)) :: (22, .slice (some ⟨b, 0, none⟩) c.cells c.cells) :: (21, .int .i64 ((tick : Int) + (j : Int) * step)) :: T, L, X, H.length, some (H.length + 6)⟩ = some (.normal, s') ∧ s'.L = L ∧ s'.H = X.set (H.length + 1) (.rw 1 (ints (nearL c g cell tick step (j + 1)))) := by
      simp [nearBody, sf_chart_boat_nearest]
      generalize hS : ({ t := _, L := _, H := _, lim := _, rd := _ } : St) = S
      obtain ⟨⟨e, s1⟩, hr, q1, qL, qH⟩ := near_loop c.cells (by omega) (rowP c g cell tick step j) (rowP_len ..) (nearL c g cell tick step j) (nearL_len ..) ((tick : Int) + (j : Int) * step) X b (H.length + 1) (by omega) hXb hXl S (by subst hS; simp [h9]) (by subst hS; simp) (by subst hS; simp) (by subst hS; simp) (by subst hS; simp) (by subst hS; exact hL) (by subst hS; rfl) (by subst hS; simp)
      simp [nearLoop, SC.loops, sf_chart_boat_nearest] at hr
      rw [hr]
      simp only at q1 qL qH
      subst q1
      have jL : s1.L = L := by rw [qL]; subst hS; rfl
      simp [jL, qH, nearL]
    obtain ⟨s', z1, z2, z3⟩ := key
    have z3' : s'.H = H ++ ((B.set 6 (.loop { nearR T L H.length with st := 1, L := [] })).set 1 (.rw 1 (ints (nearL c g cell tick step (j + 1)))) ++ J) := by rw [z3, hX, near_set _ _ _ _ (by simp; omega)]
    have hy := yield_round (l := H.length + 6) (B := H ++ (B ++ J)) (r := nearR T L H.length) (args := [.int .i64 ((tick : Int) + (j : Int) * step), .slice (some ⟨b, 0, none⟩) c.cells c.cells]) (lim := H.length) g6 rfl (Nat.le_refl _) (by omega) rfl ha (e := .normal) (s' := s') (by rw [near_set _ _ _ _ (by omega), ← hX]; exact z1) (r2 := { nearR T L H.length with st := 1, L := [] }) (by rw [z3', near_get _ _ _ _ (by simp; omega), hB]; rfl)
    refine ⟨true, _, hy, ?_, fun _ => ?_, fun h => by cases h⟩
    · rw [z3', hbA]
      obtain ⟨m, rfl⟩ : ∃ m, b = H.length + (7 + m) := ⟨b - H.length - 7, by omega⟩
      rw [List.getElem?_set_ne (by omega), ← hbA, near_get2 _ _ _ 7 m (by simp [hBl]), near_get2 _ _ _ 7 m hBl]
    · refine ⟨J, ?_⟩
      rw [z3', near_set _ _ _ _ (by simp; omega), hB, z2]
      rfl

theorem run_nearest (c : Ch) (hok : ChOk c) (H : AH) (hG : H[waysG]? = some (.ro waysV)) (d t s : Value) (hc : ChIn H c d t s) (g : Int) {cell tick : Nat} (hcell : cell < c.cells) (htick : tick < c.ticks) (step : Int) (hst : step = 1 ∨ step = -1) (M : Nat) (hM : ∀ j : Nat, (inN c.ticks ((tick : Int) + (j : Int) * step) = true ↔ j < M)) :
    ∃ A, (∀ lim, apL Tryd.prog pf (.func (.func 63) #[] #[]) [boV c d t s g, .int .i64 cell, .int .i64 tick, .int .i64 step] lim H = some (.slice (some ⟨H.length + 1, 0, none⟩) c.cells c.cells, A)) ∧ (∃ J, A = H ++ J) ∧ A[H.length + 1]? = some (.rw 1 (ints (nearL c g cell tick step M))) := by
  have key : ∃ A, apL Tryd.prog pf (.func (.func 63) #[] #[]) [boV c d t s g, .int .i64 cell, .int .i64 tick, .int .i64 step] 0 H = some (.slice (some ⟨H.length + 1, 0, none⟩) c.cells c.cells, A) ∧ (∃ J, A = H ++ J) ∧ A[H.length + 1]? = some (.rw 1 (ints (nearL c g cell tick step M))) := by
    rw [apL_func _ _ _ _ _ _ (by rfl), sf_chart_boat_nearest_eq]
    have hNw := fun lim => run_nowhere c hok lim H d t s hc g
    have hPs := fun lim X => run_passages c lim (H ++ X) d t s (hc.ext (Ext.push H X)) g cell tick step
    have hc' := hc
    obtain ⟨⟨da, dc, ed, _⟩, ⟨ta, tc, et, _⟩, ⟨sa, sc, es, _⟩, _, _, _⟩ := hc'
    have hPs := fun lim => hPs lim [.rw 1 [.int .i64 (-1)], .rw 1 (ints (List.replicate c.cells (-1)))]
    simp only [boV, psV, ed, et, es, List.append_assoc, List.length_append, List.length_cons, List.length_nil, List.cons_append, List.nil_append] at hNw hPs
    simp [sf_chart_boat_nearest, boV, ed, et, es, hNw, hPs, pf_pure, pureF]
    generalize hS : ({ t := _, L := _, H := _, lim := _, rd := _ } : St) = S
    have eH : S.H = H ++ [.rw 1 [.int .i64 (-1)], .rw 1 (ints (nearL c g cell tick step 0)), .rw 0 [.int .i64 c.w, .int .i64 c.h, d, t, s, .int .i64 g], .rw 0 [.int .i64 cell], .rw 0 [.int .i64 tick], .rw 0 [.int .i64 step]] := by subst hS; simp [ed, et, es, nearL]
    have el : S.lim = H.length := by subst hS; rfl
    have eLen : S.H.length = H.length + 6 := by rw [eH]; simp
    have t9 : tget S.t 9 = .pointer (some ⟨9, 0, some 0⟩) := by subst hS; simp
    have l9 : lget S.L 9 = some (0, .cells [.slice (some ⟨H.length + 1, 0, none⟩) c.cells c.cells]) := by subst hS; simp
    obtain ⟨A', y1, y2⟩ := run_ps c hok d t s g hcell htick step hst M (H.length + 2) H.length hM _ (by simp) _ _ (near_C c hok H hG d t s hc g (cell := cell) (tick := tick) step M S.t S.L t9 l9) (H ++ (nsB c d t s g cell tick step (nearL c g cell tick step 0) (.loop (nearR S.t S.L H.length)) ++ [])) ⟨[], rfl⟩
    rcases y2 with ⟨J, hJ⟩ | h
    rotate_left
    · exact h.elim
    have hx := exL_range (f := .tmp 20) (ps := [21, 22]) (asg := nearAsg) (body := nearBody) (S := S) (fv := psV (H.length + 2)) (by subst hS; simp [psV]) (by simp [psV]) rfl (by subst hS; rfl) (A' := A') (v := .tuple #[]) (r := nearR S.t S.L H.length)
      (by rw [eLen, el, ← y1]; congr 1; rw [eH]; simp [nsB, nearR]) (by rw [eLen, hJ, near_get _ _ _ _ (by simp [nsB])]; rfl) (.inl rfl)
    simp only [nearAsg, nearBody, sf_chart_boat_nearest] at hx
    rw [hx]
    have hB : A'.set (H.length + 6) .dead = H ++ ((nsB c d t s g cell tick step (nearL c g cell tick step M) (.loop (nearR S.t S.L H.length))).set 6 .dead ++ J) := by rw [hJ, near_set _ _ _ _ (by simp [nsB])]
    refine ⟨A'.set (H.length + 6) .dead, ?_, ⟨_, hB⟩, by rw [hB, near_get _ _ _ _ (by simp [nsB])]; rfl⟩
    simp [nearR, t9, l9, eLen]
  obtain ⟨A, h1, h2⟩ := key
  refine ⟨A, fun lim => ?_, h2⟩
  rw [← h1, apL_func _ _ _ _ _ _ (by rfl), apL_func _ _ _ _ _ _ (by rfl)]
  simp only [pf_pure, show pureF 63 = true from rfl, if_true]
end Go.Proofs.YtojplagenejhdaaDoor
