/- Contracts of the functions, in the abstract machine: neighbours that a loop goes through. -/
import Derived.Test.YtojplagenejhdaaDoorFunO
set_option linter.all false
namespace Go.Proofs.YtojplagenejhdaaDoor
open Go Go.RowKit

def nbV (n : Nat) : Value := .func (.func 97) #[] #[.pointer (some ⟨n, 0, none⟩), .pointer (some ⟨n + 1, 0, none⟩)]

theorem run_neighbours (c : Ch) (lim : Nat) (H : AH) (d t s : Value) (hc : ChIn H c d t s) (i : Nat) :
    apL Tryd.prog pf (.func (.func 95) #[] #[]) [chV c d t s, .int .i64 i] lim H = some (nbV H.length, H ++ [.rw 0 [.int .i64 c.w, .int .i64 c.h, d, t, s], .rw 0 [.int .i64 i]]) := by
  rw [apL_func _ _ _ _ _ _ (by rfl), sf_chart_sea_neighbours_eq]
  obtain ⟨⟨da, dc, ed, _⟩, ⟨ta, tc, et, _⟩, ⟨sa, sc, es, _⟩, _, _, _⟩ := hc
  simp [sf_chart_sea_neighbours, chV, ed, et, es, nbV, pf_pure, pureF]

/-- What a consumer of the neighbours must bear: Inv k holds of the heap before the k-th direction. -/
structure NbC (c : Ch) (d t s : Value) (i bc bi lim : Nat) (fv : Value) (Inv : Nat → AH → Prop) : Prop where
  there : ∀ k A, Inv k A → A[bc]? = some (.rw 0 [.int .i64 c.w, .int .i64 c.h, d, t, s]) ∧ A[bi]? = some (.rw 0 [.int .i64 i]) ∧ ChIn A c d t s ∧ A[waysG]? = some (.ro waysV)
  some : ∀ k (j : Nat) A, k < 6 → nxt c.w c.h i k = some (j : Int) → Inv k A → ∃ A', apL Tryd.prog pf fv [.int .i64 j] lim A = some (.bool true, A') ∧ Inv (k + 1) A'
  none : ∀ k A, k < 6 → nxt c.w c.h i k = none → Inv k A → Inv (k + 1) A

def nbLoop : SC := sf_chart_sea_neighbours_1.body.loops.headD .skip

theorem nb_loop (c : Ch) (hok : ChOk c) (d t s : Value) {i : Nat} (hi : i < c.cells) (bc bi lim : Nat) (fv : Value) (hn : nl fv = true) (Inv : Nat → AH → Prop) (hC : NbC c d t s i bc bi lim fv Inv) (S : St)
    (h0 : tget S.t 0 = fv) (h1 : tget S.t 1 = .pointer (some ⟨bc, 0, none⟩)) (h2 : tget S.t 2 = .pointer (some ⟨bi, 0, none⟩)) (h7 : tget S.t 7 = .int .i64 0) (hH : Inv 0 S.H) (hlim : S.lim = lim) :
    ∃ q, exL Tryd.prog pf (.loop nbLoop) S = some q ∧ q.1 = .exit 0 ∧ Inv 6 q.2.H := by
  have hw := hok.1.1
  have hh := hok.2.1.1
  refine loop_rule (I := fun m s' => ∃ k, k ≤ 6 ∧ m = 6 - k ∧ tget s'.t 0 = fv ∧ tget s'.t 1 = .pointer (some ⟨bc, 0, none⟩) ∧ tget s'.t 2 = .pointer (some ⟨bi, 0, none⟩) ∧ tget s'.t 7 = .int .i64 k ∧ s'.lim = lim ∧ Inv k s'.H) ?_ 6 S
    ⟨0, by omega, by omega, h0, h1, h2, h7, hlim, hH⟩
  rintro m s' ⟨k, hk, rfl, e0, e1, e2, e7, el, eH⟩
  obtain ⟨A, hA⟩ : ∃ A, s'.H = A := ⟨_, rfl⟩
  rw [hA] at eH
  by_cases hlt : k < 6
  rotate_left
  · have : k = 6 := by omega
    subst this
    simp [nbLoop, SC.loops, sf_chart_sea_neighbours_1, e0, e1, e2, e7, hA]
    exact eH
  obtain ⟨x1, x2, x3, x4⟩ := hC.there k A eH
  have hN := fun lim => run_next c hok lim A x4 d t s x3 hi hlt
  have hk6 : (k : Int) < 6 := by omega
  have hw1 : IntKind.i64.wrap ((k : Int) + 1) = (k : Int) + 1 := wrap_i64 (by omega) (by omega)
  obtain ⟨⟨da, dc, ed, _⟩, ⟨ta, tc, et, _⟩, ⟨sa, sc, es, _⟩, _, _, _⟩ := x3
  simp only [chV, ed, et, es] at hN x1
  cases hx : nxt c.w c.h i k with
  | none =>
    simp only [hx] at hN
    have hI := hC.none k A hlt hx eH
    simp [nbLoop, SC.loops, sf_chart_sea_neighbours_1, e0, e1, e2, e7, el, hA, x1, x2, hk6, hN, hw1]
    exact ⟨_, by omega, k + 1, by omega, rfl, by omega, hI⟩
  | some j =>
    obtain ⟨j0, j1, _⟩ := nxt_some hw hh hx
    obtain ⟨j, rfl⟩ : ∃ k : Nat, j = k := ⟨j.toNat, by omega⟩
    obtain ⟨A', y1, y2⟩ := hC.some k j A hlt hx eH
    simp only [hx] at hN
    simp [nbLoop, SC.loops, sf_chart_sea_neighbours_1, e0, e1, e2, e7, el, hA, x1, x2, hk6, hN, hw1, hn, y1]
    exact ⟨_, by omega, k + 1, by omega, rfl, by omega, y2⟩

/-- Going through the neighbours. -/
theorem run_nb (c : Ch) (hok : ChOk c) (d t s : Value) {i : Nat} (hi : i < c.cells) (n lim : Nat) (fv : Value) (hn : nl fv = true) (Inv : Nat → AH → Prop) (hC : NbC c d t s i n (n + 1) lim fv Inv) (A : AH) (hA : Inv 0 A) :
    ∃ A', apL Tryd.prog pf (nbV n) [fv] lim A = some (.tuple #[], A') ∧ Inv 6 A' := by
  unfold nbV
  rw [apL_func _ _ _ _ _ _ (by rfl), sf_chart_sea_neighbours_1_eq]
  simp [sf_chart_sea_neighbours_1, pf_pure, pureF]
  generalize hS : ({ t := _, L := _, H := _, lim := _, rd := _ } : St) = S
  obtain ⟨⟨e, s1⟩, hr, q1, q2⟩ := nb_loop c hok d t s hi n (n + 1) lim fv hn Inv hC S (by subst hS; simp) (by subst hS; simp) (by subst hS; simp) (by subst hS; simp) (by subst hS; exact hA) (by subst hS; rfl)
  simp [nbLoop, SC.loops, sf_chart_sea_neighbours_1] at hr
  rw [hr]
  simp only at q1 q2
  subst q1
  simp
  exact q2

theorem yield_round {l : Nat} {B : AH} {r : ARec} {args : List Value} {lim : Nat} (hl : B[l]? = some (.loop r)) (h0 : r.st = 0) (hlim : lim ≤ r.lim) (hlim2 : lim ≤ l) (hlen : args.length = r.ps.length) {t1 : TS}
    (ha : ∀ X, exL Tryd.prog pf r.asg ⟨(r.ps.zip args).reverse ++ r.t, r.L, X, r.lim, some l⟩ = some (.normal, ⟨t1, r.L, X, r.lim, some l⟩)) {e : Ex} {s' : St}
    (hb : exL Tryd.prog pf r.body ⟨t1, r.L, B.set l (.loop { r with st := 1, L := [] }), r.lim, some l⟩ = some (e, s')) {r2 : ARec} (h4 : s'.H[l]? = some (.loop r2)) :
    apL Tryd.prog pf (.func (.yield l) #[] #[]) args lim B = some (.bool (decide (e = .normal)), s'.H.set l (.loop { r with st := if e = .normal then 0 else 2, pend := if e = .normal then none else some e, L := s'.L })) := by
  have hll : l < B.length := (List.getElem?_eq_some_iff.1 hl).1
  refine apL_yield (r := r) (r1 := { r with st := 4, L := [] }) hl ⟨rfl, h0, hlim, hlim2, hlen⟩ (ha _) (by simp [hll]) rfl (s' := s') ?_ h4
  simp only [List.set_set]
  exact hb

theorem exL_range {f : Operand} {ps : List Tmp} {asg body : SC} {S : St} {fv : Value} (hf : S.ev f = fv) (hn : nl fv = true) (hi : isFn fv = true) (hrd : S.rd = none) {A' : AH} {v : Value} {r : ARec}
    (hcall : apL Tryd.prog pf fv [.func (.yield S.H.length) #[] #[]] S.lim (S.H ++ [.loop ⟨0, none, S.t, S.L, S.lim, ps, asg, body⟩]) = some (v, A')) (hr : A'[S.H.length]? = some (.loop r)) (hst : r.st = 0 ∨ r.st = 2) :
    exL Tryd.prog pf (.rng f ps asg body) S = some (r.pend.getD .normal, { S with L := r.L, H := A'.set S.H.length .dead }) := by
  have hg : ¬ (rdOk S = false ∨ nl (S.ev f) = false ∨ isFn (S.ev f) = false) := by
    have h1 : rdOk S = true := by unfold rdOk; rw [hrd]
    rw [hf, h1, hn, hi]; simp
  rw [exL_rng, if_neg hg, hf, hcall]
  simp only [hr]
  rw [if_neg (by omega)]

/-! ### fewest -/

/-- With how few moves a boat comes to a cell from those that it was in or next to. -/
def fewStep (w h : Int) (l : List Int) (i : Nat) (least : Int) (k : Nat) : Int := match nxt w h i k with
  | some j => if 0 ≤ l.getD j.toNat 0 ∧ (least < 0 ∨ l.getD j.toNat 0 + 1 < least) then l.getD j.toNat 0 + 1 else least
  | none => least
def fewN (w h : Int) (l : List Int) (i n : Nat) : Int := (List.range n).foldl (fewStep w h l i) (l.getD i 0)
theorem fewN_succ (w h : Int) (l : List Int) (i n : Nat) : fewN w h l i (n + 1) = fewStep w h l i (fewN w h l i n) n := by unfold fewN; rw [List.range_succ, List.foldl_append]; rfl

def fewAsg : SC := match sf_chart_boat_fewest.body with | .seq _ (.seq _ (.seq (.seq _ (.block _ (.rng _ _ a _))) _)) => a | _ => .skip
def fewBody : SC := match sf_chart_boat_fewest.body with | .seq _ (.seq _ (.seq (.seq _ (.block _ (.rng _ _ _ b))) _)) => b | _ => .skip

/-- The record of the loop in fewest. -/
def fewR (T : TS) (L : LS) (lim : Nat) : ARec := ⟨0, none, T, L, lim, [17], fewAsg, fewBody⟩

theorem set_last3 (H : AH) (a b x y : ABlk) : (H ++ [a, b, x]).set (H.length + 2) y = H ++ [a, b, y] := by
  rw [List.set_append_right _ _ (by omega), Nat.add_sub_cancel_left]; rfl
theorem get_last3 (H : AH) (a b x : ABlk) : (H ++ [a, b, x])[H.length + 2]? = some x := by
  rw [List.getElem?_append_right (by omega), Nat.add_sub_cancel_left]; rfl

def FewI (c : Ch) (H : AH) (d t s mv : Value) (g : Int) (l : List Int) (i : Nat) (T : TS) (k : Nat) (A : AH) : Prop :=
  ∃ L, A = H ++ [.rw 0 [.int .i64 c.w, .int .i64 c.h, d, t, s], .rw 0 [.int .i64 i], .loop (fewR T L H.length)] ∧ lget L 7 = some (0, .cells [.int .i64 (fewN c.w c.h l i k)]) ∧ lget L 4 = some (0, .cells [mv]) ∧ lget L 3 = some (0, .cells [.int .i64 c.w, .int .i64 c.h, d, t, s, .int .i64 g])

theorem few_C (c : Ch) (hok : ChOk c) (H : AH) (hG : H[waysG]? = some (.ro waysV)) (d t s mv : Value) (hc : ChIn H c d t s) (g : Int) (l : List Int) (hl : l.length = c.cells) (hb : ∀ x ∈ l, -1 ≤ x ∧ x ≤ 1000) (hmv : Sl H mv l.length (ints l)) {i : Nat} (hi : i < c.cells) (T : TS)
    (h4 : tget T 4 = .pointer (some ⟨4, 0, some 0⟩)) (h7 : tget T 7 = .pointer (some ⟨7, 0, some 0⟩)) :
    NbC c d t s i H.length (H.length + 1) H.length (.func (.yield (H.length + 2)) #[] #[]) (FewI c H d t s mv g l i T) := by
  have hw := hok.1.1
  have hh := hok.2.1.1
  obtain ⟨m0, m1, m2⟩ := hok.mul
  refine ⟨fun k A hA => ?_, fun k j A hk hx hA => ?_, fun k A hk hx hA => ?_⟩
  · obtain ⟨L, rfl, _⟩ := hA
    exact ⟨by simp, by rw [List.getElem?_append_right (by omega)]; simp, hc.ext (Ext.push H _), hG_ext _ hG⟩
  · obtain ⟨L, rfl, e7, e4, e3⟩ := hA
    obtain ⟨j0, j1, _⟩ := nxt_some hw hh hx
    have hj : j < l.length := by rw [hl]; rw [m2] at j1; exact Int.ofNat_lt.1 j1
    obtain ⟨ma, mc, em, hm⟩ := hmv
    obtain ⟨b1, o1, rfl, c1⟩ := hm j (.int .i64 (l.getD j 0)) (by simp [ints, hj])
    have hbl : b1 < H.length := by
      unfold hcell at c1
      cases hx : H[b1]? with
      | none => rw [hx] at c1; simp at c1
      | some y => exact (List.getElem?_eq_some_iff.1 hx).1
    have hval := hb (l.getD j 0) (by simp [List.getD_eq_getElem?_getD, hj])
    have hst := fewN_succ c.w c.h l i k
    have hfs : fewStep c.w c.h l i (fewN c.w c.h l i k) k = if 0 ≤ l.getD j 0 ∧ (fewN c.w c.h l i k < 0 ∨ l.getD j 0 + 1 < fewN c.w c.h l i k) then l.getD j 0 + 1 else fewN c.w c.h l i k := by unfold fewStep; rw [hx]; rfl
    rw [hfs] at hst
    have hw1 : IntKind.i64.wrap (l.getD j 0 + 1) = l.getD j 0 + 1 := wrap_i64 (by omega) (by omega)
    have hj' : (j : Int) < l.length := by omega
    have cA : ∀ X : AH, hcell (H ++ X) b1 (o1 + j) = some (.int .i64 (l.getD j 0)) := fun X => by
      unfold hcell at c1 ⊢
      rw [List.getElem?_append_left hbl]
      exact c1
    simp only [hcell] at cA
    generalize l.getD j 0 = X at *
    obtain ⟨F, hF⟩ : ∃ F, fewN c.w c.h l i k = F := ⟨_, rfl⟩
    rw [hF] at e7 hst
    have ha : ∀ Y, exL Tryd.prog pf fewAsg ⟨([17].zip [Value.int .i64 j]).reverse ++ T, L, Y, H.length, some (H.length + 2)⟩ = some (.normal, ⟨(8, .int .i64 j) :: (17, .int .i64 j) :: T, L, Y, H.length, some (H.length + 2)⟩) := fun Y => by
      simp [fewAsg, sf_chart_boat_fewest]
    have key : ∃ L', exL Tryd.prog pf fewBody ⟨(8, .int .i64 j) :: (17, .int .i64 j) :: T, L, H ++ [.rw 0 [.int .i64 c.w, .int .i64 c.h, d, t, s], .rw 0 [.int .i64 i], .loop { fewR T L H.length with st := 1, L := [] }], H.length, some (H.length + 2)⟩ = some (.normal, L') ∧
        L'.H = H ++ [.rw 0 [.int .i64 c.w, .int .i64 c.h, d, t, s], .rw 0 [.int .i64 i], .loop { fewR T L H.length with st := 1, L := [] }] ∧ lget L'.L 7 = some (0, .cells [.int .i64 (fewN c.w c.h l i (k + 1))]) ∧ lget L'.L 4 = lget L 4 ∧ lget L'.L 3 = lget L 3 := by
      rw [hst]
      by_cases p1 : 0 ≤ X
      · by_cases p2 : F < 0
        · simp [fewBody, sf_chart_boat_fewest, h4, h7, e7, e4, em, hj, hj', cA, p1, p2, hw1]
        · by_cases p3 : X + 1 < F
          · simp [fewBody, sf_chart_boat_fewest, h4, h7, e7, e4, em, hj, hj', cA, p1, p2, p3, hw1]
          · simp [fewBody, sf_chart_boat_fewest, h4, h7, e7, e4, em, hj, hj', cA, p1, p2, p3, hw1]
      · simp [fewBody, sf_chart_boat_fewest, h4, h7, e7, e4, em, hj, hj', cA, p1, hw1]
    obtain ⟨s', z1, z2, z3, z4, z5⟩ := key
    have hy := yield_round (l := H.length + 2) (B := H ++ [.rw 0 [.int .i64 c.w, .int .i64 c.h, d, t, s], .rw 0 [.int .i64 i], .loop (fewR T L H.length)]) (r := fewR T L H.length) (args := [.int .i64 j]) (lim := H.length) (get_last3 _ _ _ _) rfl (Nat.le_refl _) (by omega) rfl ha (e := .normal) (s' := s') (by rw [set_last3]; exact z1) (r2 := { fewR T L H.length with st := 1, L := [] }) (by rw [z2, get_last3])
    refine ⟨_, hy, s'.L, ?_, z3, by rw [z4, e4], by rw [z5, e3]⟩
    rw [z2, set_last3]
    rfl
  · obtain ⟨L, rfl, e7, e4, e3⟩ := hA
    refine ⟨L, rfl, ?_, e4, e3⟩
    rw [fewN_succ]
    unfold fewStep
    rw [hx]
    exact e7

theorem run_fewest (c : Ch) (hok : ChOk c) (lim : Nat) (H : AH) (hG : H[waysG]? = some (.ro waysV)) (d t s mv : Value) (hc : ChIn H c d t s) (g : Int) (l : List Int) (hl : l.length = c.cells) (hb : ∀ x ∈ l, -1 ≤ x ∧ x ≤ 1000) (hmv : Sl H mv l.length (ints l)) {i : Nat} (hi : i < c.cells) :
    apL Tryd.prog pf (.func (.func 93) #[] #[]) [boV c d t s g, mv, .int .i64 i] lim H = some (.int .i64 (fewN c.w c.h l i 6), H) := by
  rw [apL_func _ _ _ _ _ _ (by rfl), sf_chart_boat_fewest_eq]
  have hNb := fun lim => run_neighbours c lim H d t s hc i
  have hmv' := hmv
  have hc' := hc
  obtain ⟨ma, mc, em, hm⟩ := hmv
  have hil : i < l.length := by omega
  obtain ⟨b1, o1, ea, c1⟩ := hm i (.int .i64 (l.getD i 0)) (by simp [ints, hil])
  subst ea
  have hi' : (i : Int) < l.length := by omega
  have f0 : fewN c.w c.h l i 0 = l.getD i 0 := rfl
  obtain ⟨⟨da, dc, ed, _⟩, ⟨ta, tc, et, _⟩, ⟨sa, sc, es, _⟩, _, _, _⟩ := hc
  simp only [hcell] at c1
  generalize l.getD i 0 = X at *
  simp only [chV, nbV, ed, et, es] at hNb
  simp [sf_chart_boat_fewest, boV, ed, et, es, em, hi', c1, hNb, pf_pure, pureF]
  generalize hS : ({ t := _, L := _, H := _, lim := _, rd := _ } : St) = S
  have t4 : tget S.t 4 = .pointer (some ⟨4, 0, some 0⟩) := by subst hS; simp
  have t7 : tget S.t 7 = .pointer (some ⟨7, 0, some 0⟩) := by subst hS; simp
  have eH : S.H = H ++ [.rw 0 [.int .i64 c.w, .int .i64 c.h, d, t, s], .rw 0 [.int .i64 i]] := by subst hS; simp [ed, et, es]
  have el : S.lim = H.length := by subst hS; rfl
  have eLen : S.H.length = H.length + 2 := by rw [eH]; simp
  have eHx : ∀ x : ABlk, S.H ++ [x] = H ++ [.rw 0 [.int .i64 c.w, .int .i64 c.h, d, t, s], .rw 0 [.int .i64 i], x] := fun x => by rw [eH, List.append_assoc]; rfl
  obtain ⟨A', y1, L, y2, y3, y4, y5⟩ := run_nb c hok d t s hi H.length H.length _ (by simp) _ (few_C c hok H hG d t s (.slice (some ⟨b1, o1, none⟩) l.length mc) hc' g l hl hb (by rw [← em]; exact hmv') hi S.t t4 t7) (H ++ [.rw 0 [.int .i64 c.w, .int .i64 c.h, d, t, s], .rw 0 [.int .i64 i], .loop (fewR S.t S.L H.length)])
    ⟨S.L, rfl, by subst hS; simp [f0], by subst hS; simp, by subst hS; simp [ed, et, es]⟩
  have hx := exL_range (f := .tmp 16) (ps := [17]) (asg := fewAsg) (body := fewBody) (S := S) (fv := nbV H.length) (by subst hS; simp [nbV]) (by simp [nbV]) rfl (by subst hS; rfl) (A' := A') (v := .tuple #[]) (r := fewR S.t L H.length)
    (by rw [eLen, el, eHx]; exact y1) (by rw [eLen, y2, get_last3]) (.inl rfl)
  simp only [fewAsg, fewBody, sf_chart_boat_fewest] at hx
  rw [hx]
  have j7 : tget S.t 7 = .pointer (some ⟨7, 0, some 0⟩) := t7
  simp [fewR, j7, y3]
end Go.Proofs.YtojplagenejhdaaDoor
