/- Contracts of the functions, in the abstract machine: the cell before. -/
import Derived.Test.YtojplagenejhdaaDoorMathD
set_option linter.all false
namespace Go.Proofs.YtojplagenejhdaaDoor
open Go Go.RowKit

/-- The least cell from which a boat can come. -/
def befStep (w h : Int) (l : List Int) (i : Nat) (least : Int) (k : Nat) : Int := match nxt w h i k with
  | some j => if 0 ≤ l.getD j.toNat 0 ∧ j < least then j else least
  | none => least
def befN (w h : Int) (l : List Int) (i n : Nat) : Int := (List.range n).foldl (befStep w h l i) (if 0 ≤ l.getD i 0 then (i : Int) else l.length)
theorem befN_succ (w h : Int) (l : List Int) (i n : Nat) : befN w h l i (n + 1) = befStep w h l i (befN w h l i n) n := by unfold befN; rw [List.range_succ, List.foldl_append]; rfl

def befAsg : SC := match sf_chart_boat_before.body with | .seq _ (.seq _ (.seq _ (.seq (.seq _ (.block _ (.rng _ _ a _))) _))) => a | _ => .skip
def befBody : SC := match sf_chart_boat_before.body with | .seq _ (.seq _ (.seq _ (.seq (.seq _ (.block _ (.rng _ _ _ b))) _))) => b | _ => .skip
def befR (T : TS) (L : LS) (lim : Nat) : ARec := ⟨0, none, T, L, lim, [21], befAsg, befBody⟩

def BefI (c : Ch) (H : AH) (d t s mv : Value) (g : Int) (l : List Int) (i : Nat) (T : TS) (k : Nat) (A : AH) : Prop :=
  ∃ L, A = H ++ [.rw 0 [.int .i64 c.w, .int .i64 c.h, d, t, s], .rw 0 [.int .i64 i], .loop (befR T L H.length)] ∧ lget L 7 = some (0, .cells [.int .i64 (befN c.w c.h l i k)]) ∧ lget L 4 = some (0, .cells [mv]) ∧ lget L 3 = some (0, .cells [.int .i64 c.w, .int .i64 c.h, d, t, s, .int .i64 g])

theorem bef_C (c : Ch) (hok : ChOk c) (H : AH) (hG : H[waysG]? = some (.ro waysV)) (d t s mv : Value) (hc : ChIn H c d t s) (g : Int) (l : List Int) (hl : l.length = c.cells) (hmv : Sl H mv l.length (ints l)) {i : Nat} (hi : i < c.cells) (T : TS)
    (h4 : tget T 4 = .pointer (some ⟨4, 0, some 0⟩)) (h7 : tget T 7 = .pointer (some ⟨7, 0, some 0⟩)) :
    NbC c d t s i H.length (H.length + 1) H.length (.func (.yield (H.length + 2)) #[] #[]) (BefI c H d t s mv g l i T) := by
  have hw := hok.1.1
  have hh := hok.2.1.1
  obtain ⟨m0, m1, m2⟩ := hok.mul
  refine ⟨fun k A hA => ?_, fun k j A hk hx hA => ?_, fun k A hk hx hA => ?_⟩
  · obtain ⟨L, rfl, _⟩ := hA
    exact ⟨by simp, by rw [List.getElem?_append_right (by omega)]; simp, hc.ext (Ext.push H _), hG_ext _ hG⟩
  · obtain ⟨L, rfl, e7, e4, e3⟩ := hA
    obtain ⟨j0, j1, _⟩ := nxt_some hw hh hx
    have hj : j < l.length := by rw [hl]; rw [m2] at j1; exact Int.ofNat_lt.1 j1
    obtain ⟨ma, mc, em, hm⟩ := hmv
    obtain ⟨b1, o1, rfl, c1⟩ := hm j (.int .i64 (l.getD j 0)) (ints_getE l j hj)
    have hbl : b1 < H.length := by
      unfold hcell at c1
      cases hx : H[b1]? with
      | none => rw [hx] at c1; simp at c1
      | some y => exact (List.getElem?_eq_some_iff.1 hx).1
    have hst := befN_succ c.w c.h l i k
    have hfs : befStep c.w c.h l i (befN c.w c.h l i k) k = if 0 ≤ l.getD j 0 ∧ (j : Int) < befN c.w c.h l i k then (j : Int) else befN c.w c.h l i k := by unfold befStep; rw [hx]; rfl
    rw [hfs] at hst
    have hj' : (j : Int) < l.length := by omega
    have cA : ∀ X : AH, hcell (H ++ X) b1 (o1 + j) = some (.int .i64 (l.getD j 0)) := fun X => by
      unfold hcell at c1 ⊢
      rw [List.getElem?_append_left hbl]
      exact c1
    simp only [hcell] at cA
    generalize l.getD j 0 = X at *
    obtain ⟨F, hF⟩ : ∃ F, befN c.w c.h l i k = F := ⟨_, rfl⟩
    rw [hF] at e7 hst
    have ha : ∀ Y, exL Tryd.prog pf befAsg ⟨([21].zip [Value.int .i64 j]).reverse ++ T, L, Y, H.length, some (H.length + 2)⟩ = some (.normal, ⟨(8, .int .i64 j) :: (21, .int .i64 j) :: T, L, Y, H.length, some (H.length + 2)⟩) := fun Y => by
      simp [befAsg, sf_chart_boat_before]
    have key : ∃ L', exL Tryd.prog pf befBody ⟨(8, .int .i64 j) :: (21, .int .i64 j) :: T, L, H ++ [.rw 0 [.int .i64 c.w, .int .i64 c.h, d, t, s], .rw 0 [.int .i64 i], .loop { befR T L H.length with st := 1, L := [] }], H.length, some (H.length + 2)⟩ = some (.normal, L') ∧
        L'.H = H ++ [.rw 0 [.int .i64 c.w, .int .i64 c.h, d, t, s], .rw 0 [.int .i64 i], .loop { befR T L H.length with st := 1, L := [] }] ∧ lget L'.L 7 = some (0, .cells [.int .i64 (befN c.w c.h l i (k + 1))]) ∧ lget L'.L 4 = lget L 4 ∧ lget L'.L 3 = lget L 3 := by
      rw [hst]
      by_cases p1 : 0 ≤ X
      · by_cases p2 : (j : Int) < F
        · simp [befBody, sf_chart_boat_before, h4, h7, e7, e4, em, hj, hj', cA, p1, p2]
        · simp [befBody, sf_chart_boat_before, h4, h7, e7, e4, em, hj, hj', cA, p1, p2]
      · simp [befBody, sf_chart_boat_before, h4, h7, e7, e4, em, hj, hj', cA, p1]
    obtain ⟨s', z1, z2, z3, z4, z5⟩ := key
    have hy := yield_round (l := H.length + 2) (B := H ++ [.rw 0 [.int .i64 c.w, .int .i64 c.h, d, t, s], .rw 0 [.int .i64 i], .loop (befR T L H.length)]) (r := befR T L H.length) (args := [.int .i64 j]) (lim := H.length) (get_last3 _ _ _ _) rfl (Nat.le_refl _) (by omega) rfl ha (e := .normal) (s' := s') (by rw [set_last3]; exact z1) (r2 := { befR T L H.length with st := 1, L := [] }) (by rw [z2, get_last3])
    refine ⟨_, hy, s'.L, ?_, z3, by rw [z4, e4], by rw [z5, e3]⟩
    rw [z2, set_last3]
    rfl
  · obtain ⟨L, rfl, e7, e4, e3⟩ := hA
    refine ⟨L, rfl, ?_, e4, e3⟩
    rw [befN_succ]
    unfold befStep
    rw [hx]
    exact e7

theorem run_before (c : Ch) (hok : ChOk c) (lim : Nat) (H : AH) (hG : H[waysG]? = some (.ro waysV)) (d t s mv : Value) (hc : ChIn H c d t s) (g : Int) (l : List Int) (hl : l.length = c.cells) (hmv : Sl H mv l.length (ints l)) {i : Nat} (hi : i < c.cells) :
    apL Tryd.prog pf (.func (.func 89) #[] #[]) [boV c d t s g, mv, .int .i64 i] lim H = some (.int .i64 (befN c.w c.h l i 6), H) := by
  rw [apL_func _ _ _ _ _ _ (by rfl), sf_chart_boat_before_eq]
  have hNb := fun lim => run_neighbours c lim H d t s hc i
  have hmv' := hmv
  have hc' := hc
  obtain ⟨ma, mc, em, hm⟩ := hmv
  have hil : i < l.length := by omega
  obtain ⟨b1, o1, ea, c1⟩ := hm i (.int .i64 (l.getD i 0)) (ints_getE l i hil)
  subst ea
  have hi' : (i : Int) < l.length := by omega
  have f0 : befN c.w c.h l i 0 = if 0 ≤ l.getD i 0 then (i : Int) else l.length := rfl
  obtain ⟨⟨da, dc, ed, _⟩, ⟨ta, tc, et, _⟩, ⟨sa, sc, es, _⟩, _, _, _⟩ := hc
  simp only [hcell] at c1
  simp only [chV, nbV, ed, et, es] at hNb
  generalize l.getD i 0 = X at *
  by_cases hX : 0 ≤ X
  all_goals
    simp only [hX, if_true, if_false] at f0
    simp [sf_chart_boat_before, boV, ed, et, es, em, hi', c1, hX, hNb, pf_pure, pureF]
    generalize hS : ({ t := _, L := _, H := _, lim := _, rd := _ } : St) = S
    have t4 : tget S.t 4 = .pointer (some ⟨4, 0, some 0⟩) := by subst hS; simp
    have t7 : tget S.t 7 = .pointer (some ⟨7, 0, some 0⟩) := by subst hS; simp
    have eH : S.H = H ++ [.rw 0 [.int .i64 c.w, .int .i64 c.h, d, t, s], .rw 0 [.int .i64 i]] := by subst hS; simp [ed, et, es]
    have el : S.lim = H.length := by subst hS; rfl
    have eLen : S.H.length = H.length + 2 := by rw [eH]; simp
    have eHx : ∀ x : ABlk, S.H ++ [x] = H ++ [.rw 0 [.int .i64 c.w, .int .i64 c.h, d, t, s], .rw 0 [.int .i64 i], x] := fun x => by rw [eH, List.append_assoc]; rfl
    obtain ⟨A', y1, L, y2, y3, y4, y5⟩ := run_nb c hok d t s hi H.length H.length _ (by simp) _ (bef_C c hok H hG d t s (.slice (some ⟨b1, o1, none⟩) l.length mc) hc' g l hl (by rw [← em]; exact hmv') hi S.t t4 t7) (H ++ [.rw 0 [.int .i64 c.w, .int .i64 c.h, d, t, s], .rw 0 [.int .i64 i], .loop (befR S.t S.L H.length)])
      ⟨S.L, rfl, by subst hS; simp [f0], by subst hS; simp, by subst hS; simp [ed, et, es]⟩
    have hx := exL_range (f := .tmp 20) (ps := [21]) (asg := befAsg) (body := befBody) (S := S) (fv := nbV H.length) (by subst hS; simp [nbV]) (by simp [nbV]) rfl (by subst hS; rfl) (A' := A') (v := .tuple #[]) (r := befR S.t L H.length)
      (by rw [eLen, el, eHx]; exact y1) (by rw [eLen, y2, get_last3]) (.inl rfl)
    simp only [befAsg, befBody, sf_chart_boat_before] at hx
    rw [hx]
    have j7 : tget S.t 7 = .pointer (some ⟨7, 0, some 0⟩) := t7
    simp [befR, j7, y3]

/-! ### what it is -/

theorem befStep_inv {c : Ch} (hok : ChOk c) {l : List Int} (hl : l.length = c.cells) {i k : Nat} (hi : i < c.cells) (hk : k < 6) {x : Int} (h : (x = l.length ∨ ∃ n : Nat, x = n ∧ n < c.cells ∧ nigh c i n ∧ 0 ≤ l.getD n 0)) :
    (befStep c.w c.h l i x k = l.length ∨ ∃ n : Nat, befStep c.w c.h l i x k = n ∧ n < c.cells ∧ nigh c i n ∧ 0 ≤ l.getD n 0) ∧ befStep c.w c.h l i x k ≤ x ∧ (∀ n : Nat, nxt c.w c.h i k = some (n : Int) → 0 ≤ l.getD n 0 → befStep c.w c.h l i x k ≤ n) := by
  have hw := hok.1.1
  have hh := hok.2.1.1
  obtain ⟨m0, m1, m2⟩ := hok.mul
  unfold befStep
  split
  · rename_i j hj
    obtain ⟨x0, x1, _⟩ := nxt_some hw hh hj
    obtain ⟨n, rfl⟩ : ∃ n : Nat, j = n := ⟨j.toNat, by omega⟩
    simp only [Int.toNat_natCast]
    split
    · rename_i hc
      refine ⟨.inr ⟨n, rfl, by omega, .inr ⟨k, hk, hj⟩, hc.1⟩, by omega, fun n' hn' _ => ?_⟩
      rw [hj] at hn'
      have := Option.some.inj hn'
      omega
    · rename_i hc
      refine ⟨h, Int.le_refl _, fun n' hn' h0 => ?_⟩
      rw [hj] at hn'
      have := Option.some.inj hn'
      obtain rfl : n = n' := by omega
      omega
  · rename_i hj
    exact ⟨h, Int.le_refl _, fun n hn => by rw [hj] at hn; cases hn⟩

theorem befN_inv {c : Ch} (hok : ChOk c) {l : List Int} (hl : l.length = c.cells) {i : Nat} (hi : i < c.cells) : ∀ m, m ≤ 6 →
    (befN c.w c.h l i m = l.length ∨ ∃ n : Nat, befN c.w c.h l i m = n ∧ n < c.cells ∧ nigh c i n ∧ 0 ≤ l.getD n 0) ∧ (0 ≤ l.getD i 0 → befN c.w c.h l i m ≤ i) ∧ (∀ (k n : Nat), k < m → nxt c.w c.h i k = some (n : Int) → 0 ≤ l.getD n 0 → befN c.w c.h l i m ≤ n)
  | 0, _ => by
    unfold befN
    simp only [List.range_zero, List.foldl_nil]
    split
    · rename_i h
      exact ⟨.inr ⟨i, rfl, hi, .inl rfl, h⟩, fun _ => Int.le_refl _, fun k n hk => by omega⟩
    · rename_i h
      exact ⟨.inl rfl, fun h' => absurd h' h, fun k n hk => by omega⟩
  | m + 1, hm => by
    obtain ⟨h1, h2, h3⟩ := befN_inv hok hl hi m (by omega)
    obtain ⟨k1, k2, k3⟩ := befStep_inv hok hl hi (show m < 6 by omega) h1
    rw [befN_succ]
    refine ⟨k1, fun h => by have := h2 h; omega, fun k n hk hn h0 => ?_⟩
    by_cases e : k = m
    · subst e; exact k3 n hn h0
    · have := h3 k n (by omega) hn h0; omega

/-- If a boat can come from somewhere, it is a cell from which it can, and the least one. -/
theorem befN_get {c : Ch} (hok : ChOk c) {l : List Int} (hl : l.length = c.cells) {i : Nat} (hi : i < c.cells) {y : Nat} (hy : y < c.cells) (hn : nigh c i y) (h0 : 0 ≤ l.getD y 0) : ∃ n : Nat, befN c.w c.h l i 6 = n ∧ n < c.cells ∧ nigh c i n ∧ 0 ≤ l.getD n 0 ∧ n ≤ y := by
  obtain ⟨h1, h2, h3⟩ := befN_inv hok hl hi 6 (Nat.le_refl _)
  have hle : befN c.w c.h l i 6 ≤ y := by
    rcases hn with rfl | ⟨k, hk, e⟩
    · exact h2 h0
    · exact h3 k y hk e h0
  rcases h1 with h1 | ⟨n, e, a, b, d⟩
  · rw [h1, hl] at hle; omega
  · exact ⟨n, e, a, b, d, by omega⟩
end Go.Proofs.YtojplagenejhdaaDoor
