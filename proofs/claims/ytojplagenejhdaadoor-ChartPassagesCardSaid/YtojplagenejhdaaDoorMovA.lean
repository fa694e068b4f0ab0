/- Contracts of the functions, in the abstract machine: Moves. -/
import Derived.Test.YtojplagenejhdaaDoorMathC
set_option linter.all false
namespace Go.Proofs.YtojplagenejhdaaDoor
open Go Go.RowKit

def movAsg : SC := match sf_chart_Moves.body with | .seq _ (.seq _ (.seq _ (.seq (.seq _ (.block _ (.rng _ _ a _))) _))) => a | _ => .skip
def movBody : SC := match sf_chart_Moves.body with | .seq _ (.seq _ (.seq _ (.seq (.seq _ (.block _ (.rng _ _ _ b))) _))) => b | _ => .skip
def movR (T : TS) (L : LS) (lim : Nat) : ARec := ⟨0, none, T, L, lim, [34, 35], movAsg, movBody⟩

/-- The blocks that passages lays, and the record of the loop over them. -/
def psB (c : Ch) (d t s : Value) (g : Int) (cell tick : Nat) (step : Int) (r : ABlk) : AH :=
  [.rw 0 [.int .i64 c.w, .int .i64 c.h, d, t, s, .int .i64 g], .rw 0 [.int .i64 cell], .rw 0 [.int .i64 tick], .rw 0 [.int .i64 step], r]

def MovI (c : Ch) (H : AH) (d t s : Value) (g : Int) (cell tick : Nat) (u : Int) (lim : Nat) (T : TS) (L : LS) (j : Nat) (A : AH) : Prop :=
  (∀ m : Nat, m < j → (tick : Int) + (m : Int) * 1 ≠ u) ∧ ∃ J, A = H ++ (psB c d t s g cell tick 1 (.loop (movR T L lim)) ++ J)
def MovF (c : Ch) (H : AH) (d t s : Value) (g : Int) (cell tick : Nat) (u : Int) (lim : Nat) (T : TS) (A : AH) : Prop :=
  ∃ (m b : Nat) (L' : LS) (J : AH), (tick : Int) + (m : Int) * 1 = u ∧ A = H ++ (psB c d t s g cell tick 1 (.loop { movR T L' lim with st := 2, pend := some .ret }) ++ J) ∧ H.length + 4 < b ∧ A[b]? = some (.rw 1 (ints (rowP c g cell tick 1 m))) ∧
    lget L' 10 = some (0, .cells [.slice (some ⟨b, 0, none⟩) c.cells c.cells]) ∧ lget L' 11 = some (0, .cells [.int .i64 0])

theorem mov_C (c : Ch) (hok : ChOk c) (H : AH) (hG : H[waysG]? = some (.ro waysV)) (d t s : Value) (hc : ChIn H c d t s) (g : Int) {cell tick : Nat} (u : Int) (M lim : Nat) (hlim : lim ≤ H.length) (T : TS) (L : LS)
    (h9 : tget T 9 = .pointer (some ⟨9, 0, some 0⟩)) (h10 : tget T 10 = .pointer (some ⟨10, 0, some 0⟩)) (h11 : tget T 11 = .pointer (some ⟨11, 0, some 0⟩))
    (l9 : lget L 9 = some (0, .cells [.int .i64 u])) (l10 : lget L 10 = some (0, .cells [.slice none 0 0])) (l11 : lget L 11 = some (0, .cells [.int .i64 0])) :
    PsC c d t s g cell tick 1 M H.length lim (.func (.yield (H.length + 4)) #[] #[]) (MovI c H d t s g cell tick u lim T L) (MovF c H d t s g cell tick u lim T) := by
  refine ⟨fun j A hA => ?_, fun j A X hA => ?_, fun j A b hj hA hb hbA => ?_⟩
  · obtain ⟨_, J, rfl⟩ := hA
    have gg := fun k hk => near_get H (psB c d t s g cell tick 1 (.loop (movR T L lim))) J k hk
    exact ⟨gg 0 (by simp [psB]), gg 1 (by simp [psB]), gg 2 (by simp [psB]), gg 3 (by simp [psB]), hc.ext (Ext.push H _), hG_ext _ hG, by simp [psB] <;> omega, by simp [psB] <;> omega⟩
  · obtain ⟨hu, J, rfl⟩ := hA
    exact ⟨hu, J ++ X, by simp [List.append_assoc]⟩
  · obtain ⟨hu, J, rfl⟩ := hA
    obtain ⟨B, hB⟩ : ∃ B, B = psB c d t s g cell tick 1 (.loop (movR T L lim)) := ⟨_, rfl⟩
    have hBl : B.length = 5 := by rw [hB]; rfl
    rw [← hB] at hbA ⊢
    have g4 : (H ++ (B ++ J))[H.length + 4]? = some (.loop (movR T L lim)) := by rw [near_get _ _ _ _ (by omega), hB]; rfl
    obtain ⟨tk, htk⟩ : ∃ tk : Int, (tick : Int) + (j : Int) * 1 = tk := ⟨_, rfl⟩
    have ha : ∀ Y, exL Tryd.prog pf movAsg ⟨([34, 35].zip [Value.int .i64 tk, .slice (some ⟨b, 0, none⟩) c.cells c.cells]).reverse ++ T, L, Y, lim, some (H.length + 4)⟩ = some (.normal, ⟨(15, .slice (some ⟨b, 0, none⟩) c.cells c.cells) :: (14, .int .i64 tk) :: (35, .slice (some ⟨b, 0, none⟩) c.cells c.cells) :: (34, .int .i64 tk) :: T, L, Y, lim, some (H.length + 4)⟩) := fun Y => by
      simp [movAsg, sf_chart_Moves]
    obtain ⟨X, hX⟩ : ∃ X, X = H ++ (B.set 4 (.loop { movR T L lim with st := 1, L := [] }) ++ J) := ⟨_, rfl⟩
    obtain ⟨m, rfl⟩ : ∃ m, b = H.length + (5 + m) := ⟨b - H.length - 5, by omega⟩
    have hXb : X[H.length + (5 + m)]? = some (.rw 1 (ints (rowP c g cell tick 1 j))) := by
      rw [← hbA, hX, near_get2 _ _ _ 5 m (by simp [hBl]), near_get2 _ _ _ 5 m hBl]
    have g4' : X[H.length + 4]? = some (.loop { movR T L lim with st := 1, L := [] }) := by rw [hX, near_get _ _ _ _ (by simp [hBl]), List.getElem?_set_self (by omega)]
    have hset : (H ++ (B ++ J)).set (H.length + 4) (.loop { movR T L lim with st := 1, L := [] }) = X := by rw [near_set _ _ _ _ (by omega), hX]
    rw [htk]
    by_cases hu2 : tk = u
    · have key : ∃ s', exL Tryd.prog pf movBody ⟨(15, .slice (some ⟨H.length + (5 + m), 0, none⟩) c.cells c.cells) :: (14, .int .i64 tk) :: (35, .slice (some ⟨H.length + (5 + m), 0, none⟩) c.cells c.cells) :: (34, .int .i64 tk) :: T, L, X, lim, some (H.length + 4)⟩ = some (.ret, s') ∧ s'.H = X ∧ lget s'.L 10 = some (0, .cells [.slice (some ⟨H.length + (5 + m), 0, none⟩) c.cells c.cells]) ∧ lget s'.L 11 = some (0, .cells [.int .i64 0]) := by
        simp [movBody, sf_chart_Moves, h9, h10, h11, l9, l10, l11, hu2]
      obtain ⟨s', z1, z2, z3, z4⟩ := key
      have hy := yield_round (l := H.length + 4) (B := H ++ (B ++ J)) (r := movR T L lim) (args := [.int .i64 tk, .slice (some ⟨H.length + (5 + m), 0, none⟩) c.cells c.cells]) (lim := lim) g4 rfl (Nat.le_refl _) (by omega) rfl ha (e := .ret) (s' := s') (by rw [hset]; exact z1) (r2 := { movR T L lim with st := 1, L := [] }) (by rw [z2]; exact g4')
      refine ⟨_, _, hy, ?_, fun h => by simp at h, fun _ => ?_⟩
      · rw [z2, List.getElem?_set_ne (by omega), hXb, hbA]
      · refine ⟨j, H.length + (5 + m), s'.L, J, by omega, ?_, by omega, ?_, z3, z4⟩
        · rw [z2, hX, near_set _ _ _ _ (by simp [hBl]), List.set_set, hB]
          rfl
        · rw [z2, List.getElem?_set_ne (by omega), hXb]
    · have hu3 : (tk == u) = false := by simp [hu2]
      have key : ∃ s', exL Tryd.prog pf movBody ⟨(15, .slice (some ⟨H.length + (5 + m), 0, none⟩) c.cells c.cells) :: (14, .int .i64 tk) :: (35, .slice (some ⟨H.length + (5 + m), 0, none⟩) c.cells c.cells) :: (34, .int .i64 tk) :: T, L, X, lim, some (H.length + 4)⟩ = some (.normal, s') ∧ s'.H = X ∧ s'.L = L := by
        simp [movBody, sf_chart_Moves, h9, h10, h11, l9, l10, l11, hu3]
      obtain ⟨s', z1, z2, z3⟩ := key
      have hy := yield_round (l := H.length + 4) (B := H ++ (B ++ J)) (r := movR T L lim) (args := [.int .i64 tk, .slice (some ⟨H.length + (5 + m), 0, none⟩) c.cells c.cells]) (lim := lim) g4 rfl (Nat.le_refl _) (by omega) rfl ha (e := .normal) (s' := s') (by rw [hset]; exact z1) (r2 := { movR T L lim with st := 1, L := [] }) (by rw [z2]; exact g4')
      refine ⟨_, _, hy, ?_, fun _ => ⟨fun q hq => ?_, J, ?_⟩, fun h => by simp at h⟩
      · rw [z2, List.getElem?_set_ne (by omega), hXb, hbA]
      · by_cases e : q = j
        · subst e; omega
        · exact hu q (by omega)
      · rw [z2, z3, hX, near_set _ _ _ _ (by simp [hBl]), List.set_set, hB]
        rfl

noncomputable def movL (c : Ch) (g a b u : Int) : List Int := if embE c g [a] [b, u] = 0 then (if u < b then List.replicate c.cells (-1) else rowP c g a.toNat b.toNat 1 (u - b).toNat) else []

theorem run_Moves (c : Ch) (H : AH) (hG : H[waysG]? = some (.ro waysV)) (d t s : Value) (hc : ChIn H c d t s) (g a b u : Int) :
    ∃ v A, (∀ lim, apL Tryd.prog pf (.func (.func 32) #[] #[]) [chV c d t s, .int .i64 g, .int .i64 a, .int .i64 b, .int .i64 u] lim H = some (.tuple #[v, .int .i64 (embE c g [a] [b, u])], A)) ∧ (∃ J, A = H ++ J) ∧ Sl A v (movL c g a b u).length (ints (movL c g a b u)) := by
  suffices key : ∃ v A, apL Tryd.prog pf (.func (.func 32) #[] #[]) [chV c d t s, .int .i64 g, .int .i64 a, .int .i64 b, .int .i64 u] 0 H = some (.tuple #[v, .int .i64 (embE c g [a] [b, u])], A) ∧ (∃ J, A = H ++ J) ∧ Sl A v (movL c g a b u).length (ints (movL c g a b u)) by
    obtain ⟨v, A, h1, h2⟩ := key
    refine ⟨v, A, fun lim => ?_, h2⟩
    rw [← h1, apL_func _ _ _ _ _ _ (by rfl), apL_func _ _ _ _ _ _ (by rfl)]
    simp only [pf_pure, show pureF 32 = true from rfl, if_true]
  have hc2 : ChIn (H ++ [.rw 1 (ints [a]), .rw 1 (ints [b, u])]) c d t s := hc.ext (Ext.push H _)
  have ho := fun lim => run_embark c lim _ d t s hc2 g [a] [b, u] (.slice (some ⟨H.length, 0, none⟩) 1 1) (.slice (some ⟨H.length + 1, 0, none⟩) 2 2) (Sl.made (by simp) rfl) (Sl.made (by simp) rfl) (by simp) (by simp)
  by_cases h0 : embE c g [a] [b, u] = 0
  · obtain ⟨h00, _⟩ := embE_zero h0
    obtain ⟨hok, h1, h2⟩ := openE_zero h00
    simp only [List.all_cons, List.all_nil, Bool.and_true, inN_iff, Bool.and_eq_true] at h1 h2
    obtain ⟨i, hi, rfl⟩ := h1
    obtain ⟨⟨k, hk, rfl⟩, ⟨u, hu, rfl⟩⟩ := h2
    have hPs := fun lim => run_passages c lim (H ++ [.rw 1 (ints [(i : Int)]), .rw 1 (ints [(k : Int), (u : Int)])]) d t s hc2 g i k 1
    have hl : movL c g i k u = if (u : Int) < k then List.replicate c.cells (-1) else rowP c g i k 1 (u - k) := by unfold movL; rw [if_pos h0]; simp [show ((u : Int) - (k : Int)).toNat = u - k by omega]
    rw [apL_func _ _ _ _ _ _ (by rfl), sf_chart_Moves_eq]
    have hNw := fun lim X => run_nowhere c hok lim (H ++ X) d t s (hc.ext (Ext.push H X)) g
    obtain ⟨⟨da, dc, ed, _⟩, ⟨ta, tc, et, _⟩, ⟨sa, sc, es, _⟩, _, _, _⟩ := id hc
    simp only [h0, if_true, boV, psV, chV, ed, et, es, ints, List.map, List.length_append, List.length_cons, List.length_nil, List.append_assoc, List.cons_append, List.nil_append] at ho hPs hNw
    simp [sf_chart_Moves, chV, ed, et, es, ho, hPs, h0, pf_pure, pureF]
    generalize hS : ({ t := _, L := _, H := _, lim := _, rd := _ } : St) = S
    obtain ⟨H0, hH0⟩ : ∃ H0, H0 = H ++ [.rw 1 (ints [(i : Int)]), .rw 1 (ints [(k : Int), (u : Int)])] := ⟨_, rfl⟩
    have hH0l : H0.length = H.length + 2 := by rw [hH0]; simp
    have hcH0 : ChIn H0 c d t s := by rw [hH0]; exact hc2
    have hGH0 : H0[waysG]? = some (.ro waysV) := by rw [hH0]; exact hG_ext _ hG
    have eH : S.H = H0 ++ (psB c d t s g i k 1 .dead).take 4 := by subst hS; simp [hH0, psB, ed, et, es, ints]
    have el : S.lim = H.length := by subst hS; rfl
    have eLen : S.H.length = H.length + 6 := by rw [eH]; simp [psB, hH0l]
    have t9 : tget S.t 9 = .pointer (some ⟨9, 0, some 0⟩) := by subst hS; simp
    have t10 : tget S.t 10 = .pointer (some ⟨10, 0, some 0⟩) := by subst hS; simp
    have t11 : tget S.t 11 = .pointer (some ⟨11, 0, some 0⟩) := by subst hS; simp
    have l9 : lget S.L 9 = some (0, .cells [.int .i64 u]) := by subst hS; simp
    have l10 : lget S.L 10 = some (0, .cells [.slice none 0 0]) := by subst hS; simp
    have l11 : lget S.L 11 = some (0, .cells [.int .i64 0]) := by subst hS; simp
    have t12 : tget S.t 12 = .pointer (some ⟨12, 0, some 0⟩) := by subst hS; simp
    have l12 : lget S.L 12 = some (0, .cells [.int .i64 c.w, .int .i64 c.h, d, t, s, .int .i64 g]) := by subst hS; simp [ed, et, es]
    obtain ⟨A', y1, y2⟩ := run_ps c hok d t s g hi hk 1 (.inl rfl) (c.ticks - k) H0.length H.length (ticks_on hk) _ (by simp) _ _ (mov_C c hok H0 hGH0 d t s hcH0 g (cell := i) (tick := k) u (c.ticks - k) H.length (by omega) S.t S.L t9 t10 t11 l9 l10 l11) (H0 ++ (psB c d t s g i k 1 (.loop (movR S.t S.L H.length)) ++ [])) ⟨fun m hm => by omega, [], rfl⟩
    have hcall : apL Tryd.prog pf (psV H0.length) [.func (.yield S.H.length) #[] #[]] S.lim (S.H ++ [.loop ⟨0, none, S.t, S.L, S.lim, [34, 35], movAsg, movBody⟩]) = some (.tuple #[], A') := by
      rw [eLen, el, ← y1, hH0l]; congr 1; rw [eH]; simp [psB, movR]
    rcases y2 with ⟨hno, J, hJ⟩ | ⟨m, bb, L', J, hm, hJ, hb, hbA, k10, k11⟩
    · have hx := exL_range (f := .tmp 33) (ps := [34, 35]) (asg := movAsg) (body := movBody) (S := S) (fv := psV H0.length) (by subst hS; simp [psV, hH0l]) (by simp [psV]) rfl (by subst hS; rfl) (A' := A') (v := .tuple #[]) (r := movR S.t S.L H.length) hcall
        (by rw [eLen, hJ, show H.length + 6 = H0.length + 4 by omega, near_get _ _ _ _ (by simp [psB])]; rfl) (.inl rfl)
      simp only [movAsg, movBody, sf_chart_Moves] at hx
      rw [hx]
      have hlt : (u : Int) < k := by
        apply Int.lt_of_not_ge
        intro h
        exact hno (u - k) (by omega) (by omega)
      have hB : A'.set (H.length + 6) .dead = H0 ++ (psB c d t s g i k 1 .dead ++ J) := by
        rw [hJ, show H.length + 6 = H0.length + 4 by omega, near_set _ _ _ _ (by simp [psB])]
        simp [psB]
      have hB2 : A'.set (H.length + 6) .dead = H ++ ([.rw 1 (ints [(i : Int)]), .rw 1 (ints [(k : Int), (u : Int)])] ++ (psB c d t s g i k 1 .dead ++ J)) := by rw [hB, hH0]; simp
      obtain ⟨X, hX⟩ : ∃ X, X = [.rw 1 (ints [(i : Int)]), .rw 1 (ints [(k : Int), (u : Int)])] ++ (psB c d t s g i k 1 .dead ++ J) := ⟨_, rfl⟩
      rw [← hX] at hB2
      have hNw := fun lim => hNw lim X
      refine ⟨.slice (some ⟨(H ++ X).length + 1, 0, none⟩) c.cells c.cells, (H ++ X) ++ [.rw 1 [.int .i64 (-1)], .rw 1 (ints (List.replicate c.cells (-1)))], ?_, ⟨X ++ [.rw 1 [.int .i64 (-1)], .rw 1 (ints (List.replicate c.cells (-1)))], by simp⟩, ?_⟩
      · simp [movR, t9, t10, t11, t12, l10, l11, l12, eLen, hB2, ed, et, es, hNw, ints]
      · rw [hl, if_pos hlt]
        exact Sl.made (by rw [List.getElem?_append_right (by omega), Nat.add_sub_cancel_left]; rfl) (by simp)
    · have hx := exL_range (f := .tmp 33) (ps := [34, 35]) (asg := movAsg) (body := movBody) (S := S) (fv := psV H0.length) (by subst hS; simp [psV, hH0l]) (by simp [psV]) rfl (by subst hS; rfl) (A' := A') (v := .tuple #[]) (r := { movR S.t L' H.length with st := 2, pend := some .ret }) hcall
        (by rw [eLen, hJ, show H.length + 6 = H0.length + 4 by omega, near_get _ _ _ _ (by simp [psB])]; rfl) (.inr rfl)
      simp only [movAsg, movBody, sf_chart_Moves] at hx
      rw [hx]
      have hB : A'.set (H.length + 6) .dead = H0 ++ (psB c d t s g i k 1 .dead ++ J) := by
        rw [hJ, show H.length + 6 = H0.length + 4 by omega, near_set _ _ _ _ (by simp [psB])]
        simp [psB]
      refine ⟨.slice (some ⟨bb, 0, none⟩) c.cells c.cells, A'.set (H.length + 6) .dead, ?_, ⟨_, by rw [hB, hH0, List.append_assoc]⟩, ?_⟩
      · simp [movR, t10, t11, k10, k11, eLen]
      · rw [hl, if_neg (by omega), show u - k = m by omega]
        exact Sl.made (by rw [List.getElem?_set_ne (by omega), hbA]) (by rw [rowP_len])
  · have h1 : (embE c g [a] [b, u] != 0) = true := by simpa using h0
    have hl : movL c g a b u = [] := by unfold movL; rw [if_neg h0]
    rw [hl]
    refine ⟨.slice none 0 0, H ++ if sca (.tuple #[.slice none 0 0, .int .i64 (embE c g [a] [b, u])]) = true then [] else [], ?_, ⟨_, rfl⟩, Sl.nil⟩
    rw [apL_func _ _ _ _ _ _ (by rfl), sf_chart_Moves_eq]
    obtain ⟨⟨da, dc, ed, _⟩, ⟨ta, tc, et, _⟩, ⟨sa, sc, es, _⟩, _, _, _⟩ := hc
    simp only [h0, if_false, chV, ed, et, es, ints, List.map, noBo] at ho
    simp [sf_chart_Moves, chV, ed, et, es, ho, h0, h1, pf_pure, pureF]
end Go.Proofs.YtojplagenejhdaaDoor
