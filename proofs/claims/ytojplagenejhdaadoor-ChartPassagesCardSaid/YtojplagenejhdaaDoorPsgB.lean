/- Contracts of the functions, in the abstract machine: a passage traced back. -/
import Derived.Test.YtojplagenejhdaaDoorPsgA
set_option linter.all false
namespace Go.Proofs.YtojplagenejhdaaDoor
open Go Go.RowKit

def bkV (b : Nat) : Value := .func (.func 94) #[] #[.pointer (some ⟨b, 0, none⟩)]

theorem run_Backward (a : Option Addr) (n k : Nat) (hn : nl (.slice a n k) = true) (lim : Nat) (H : AH) : apL Tryd.prog pf (.func (.func 88) #[] #[]) [.slice a n k] lim H = some (bkV H.length, H ++ [.rw 0 [.slice a n k]]) := by
  rw [apL_func _ _ _ _ _ _ (by rfl), sf_slices_Backward_int_int_eq]
  simp [sf_slices_Backward_int_int, bkV, hn, pf_pure, pureF]

def bkLoop : SC := sf_slices_Backward_int_int_1.body.loops.headD .skip

/-- Going through a list from its end. -/
theorem run_bk (n : Nat) (hn : n ≤ 1000) (hn0 : 0 < n) (pb lim : Nat) (a : Option Addr) (k : Nat) (fv : Value) (hfv : nl fv = true) (Inv : Nat → AH → Prop)
    (hC : ∀ q i A, q + i + 1 = n → Inv q A → A[pb]? = some (.rw 0 [.slice a n k]) ∧ ∃ b o x, a = some ⟨b, o, none⟩ ∧ hcell A b (o + i) = some x ∧ nl x = true ∧ isU x = false ∧ x.cells = #[x] ∧ ∃ A', apL Tryd.prog pf fv [.int .i64 i, x] lim A = some (.bool true, A') ∧ Inv (q + 1) A') (A : AH) (hA : Inv 0 A) :
    ∃ A', apL Tryd.prog pf (bkV pb) [fv] lim A = some (.tuple #[], A') ∧ Inv n A' := by
  unfold bkV
  rw [apL_func _ _ _ _ _ _ (by rfl), sf_slices_Backward_int_int_1_eq]
  obtain ⟨x1, _⟩ := hC 0 (n - 1) A (by omega) hA
  have hw0 : IntKind.i64.wrap ((n : Int) - 1) = (n : Int) - 1 := wrap_i64 (by omega) (by omega)
  simp [sf_slices_Backward_int_int_1, x1, hw0, pf_pure, pureF]
  generalize hS : ({ t := _, L := _, H := _, lim := _, rd := _ } : St) = S
  have key : ∃ q, exL Tryd.prog pf (.loop bkLoop) S = some q ∧ q.1 = .exit 0 ∧ Inv n q.2.H := by
    refine loop_rule (I := fun m s' => ∃ q : Nat, q ≤ n ∧ m = n - q ∧ tget s'.t 0 = fv ∧ tget s'.t 1 = .pointer (some ⟨pb, 0, none⟩) ∧ tget s'.t 3 = .int .i64 ((n : Int) - 1 - q) ∧ s'.lim = lim ∧ Inv q s'.H) ?_ n S
      ⟨0, by omega, by omega, by subst hS; simp, by subst hS; simp, by subst hS; simp, by subst hS; rfl, by subst hS; exact hA⟩
    rintro m s' ⟨q, hq, rfl, e0, e1, e3, el, eI⟩
    obtain ⟨X, hX⟩ : ∃ X, s'.H = X := ⟨_, rfl⟩
    rw [hX] at eI
    by_cases hlt : q < n
    rotate_left
    · have : q = n := by omega
      subst this
      have e3' : tget s'.t 3 = .int .i64 (-1) := by rw [e3]; congr 1; omega
      simp [bkLoop, SC.loops, sf_slices_Backward_int_int_1, e0, e1, e3', hX]
      exact eI
    obtain ⟨i, hi⟩ : ∃ i, q + i + 1 = n := ⟨n - q - 1, by omega⟩
    have e3' : tget s'.t 3 = .int .i64 i := by rw [e3]; congr 1; omega
    obtain ⟨x1, b, o, x, rfl, x2, x3, x3b, x3c, A', x4, x5⟩ := hC q i X hi eI
    have hin : i < n := by omega
    have hin' : (i : Int) < n := by omega
    have hw1 : IntKind.i64.wrap ((i : Int) - 1) = (i : Int) - 1 := wrap_i64 (by omega) (by omega)
    simp only [hcell] at x2
    simp [-isU, -Value.cells, bkLoop, SC.loops, sf_slices_Backward_int_int_1, e0, e1, e3', el, hX, x1, x2, x3, x3b, x3c, hfv, hin, hin', x4, hw1]
    exact ⟨_, by omega, q + 1, by omega, rfl, by omega, x5⟩
  obtain ⟨⟨e, s1⟩, hr, q1, q2⟩ := key
  simp [bkLoop, SC.loops, sf_slices_Backward_int_int_1] at hr
  rw [hr]
  simp only at q1 q2
  subst q1
  simp
  exact q2

/-- The last q cells of a passage. -/
def trT (T : Nat → Nat) : Nat → List Int
  | 0 => []
  | q + 1 => (T q : Int) :: trT T q
theorem trT_len (T : Nat → Nat) : ∀ q, (trT T q).length = q
  | 0 => rfl
  | q + 1 => by simp [trT, trT_len T q]
theorem trT_get (T : Nat → Nat) : ∀ q m, m < q → (trT T q).getD m 0 = T (q - 1 - m)
  | 0, m, h => by omega
  | q + 1, 0, _ => by simp [trT]
  | q + 1, m + 1, h => by
    have := trT_get T q m (by omega)
    simp only [trT, List.getD_cons_succ, this]
    congr 2
    omega
def trL (T : Nat → Nat) (n q : Nat) : List Int := List.replicate (n - q) 0 ++ trT T q
theorem trL_len (T : Nat → Nat) {n q : Nat} (h : q ≤ n) : (trL T n q).length = n := by simp [trL, trT_len]; omega
theorem trL_set (T : Nat → Nat) {n q i : Nat} (h : q + i + 1 = n) : (ints (trL T n q)).set i (.int .i64 (T q)) = ints (trL T n (q + 1)) := by
  have : (ints (trL T n q)).set i (.int .i64 (T q)) = ints ((trL T n q).set i (T q)) := by simp [ints, List.map_set]
  rw [this]
  congr 1
  unfold trL
  rw [show n - q = i + 1 by omega, show n - (q + 1) = i by omega, List.replicate_succ', List.append_assoc, List.set_append_right _ _ (by simp)]
  simp [trT]

def trAsg : SC := match sf_chart_boat_trace.body with | .seq _ (.seq _ (.seq (.seq _ (.block _ (.rng _ _ a _))) _)) => a | _ => .skip
def trBody : SC := match sf_chart_boat_trace.body with | .seq _ (.seq _ (.seq (.seq _ (.block _ (.rng _ _ _ b))) _)) => b | _ => .skip
def trR (T : TS) (L : LS) (lim : Nat) : ARec := ⟨0, none, T, L, lim, [15, 16], trAsg, trBody⟩

/-- A list of rows. -/
def Past (A : AH) (a : Option Addr) (n N : Nat) (rows : Nat → List Int) : Prop := ∀ m, m < n → ∃ b o bm, a = some ⟨b, o, none⟩ ∧ hcell A b (o + m) = some (.slice (some ⟨bm, 0, none⟩) N N) ∧ A[bm]? = some (.rw 1 (ints (rows m)))

theorem hcellE {A B : AH} (h : Ext A B) {b k : Nat} {x : Value} (hx : hcell A b k = some x) : hcell B b k = some x := by
  unfold hcell at hx ⊢
  cases hb : A[b]? with
  | none => rw [hb] at hx; simp at hx
  | some y => rw [h b y hb]; rw [hb] at hx; exact hx

theorem Past.ext {A B : AH} (h : Ext A B) {a : Option Addr} {n N : Nat} {rows : Nat → List Int} (hp : Past A a n N rows) : Past B a n N rows := fun m hm => by
  obtain ⟨b, o, bm, h1, h2, h3⟩ := hp m hm
  exact ⟨b, o, bm, h1, hcellE h h2, h _ _ h3⟩

theorem run_trace (c : Ch) (hok : ChOk c) (lim : Nat) (H : AH) (hG : H[waysG]? = some (.ro waysV)) (d t s : Value) (hc : ChIn H c d t s) (g : Int) (a : Option Addr) (n k : Nat) (hn : n ≤ 1000) (hn0 : 0 < n) (rows : Nat → List Int) (hr : ∀ m, m < n → (rows m).length = c.cells) (hP : Past H a n c.cells rows)
    (T : Nat → Nat) (hT : ∀ q, q < n → T q < c.cells) (hB : ∀ q i, q + i + 2 = n → befN c.w c.h (rows i) (T q) 6 = T (q + 1)) :
    ∃ A, (∀ lim, apL Tryd.prog pf (.func (.func 67) #[] #[]) [boV c d t s g, .slice a n k, .int .i64 (T 0)] lim H = some (.slice (some ⟨H.length, 0, none⟩) n n, A)) ∧ (∃ J, A = H ++ J) ∧ A[H.length]? = some (.rw 1 (ints (trT T n))) := by
  suffices key : ∃ A, apL Tryd.prog pf (.func (.func 67) #[] #[]) [boV c d t s g, .slice a n k, .int .i64 (T 0)] 0 H = some (.slice (some ⟨H.length, 0, none⟩) n n, A) ∧ (∃ J, A = H ++ J) ∧ A[H.length]? = some (.rw 1 (ints (trT T n))) by
    obtain ⟨A, h1, h2⟩ := key
    refine ⟨A, fun lim => ?_, h2⟩
    rw [← h1, apL_func _ _ _ _ _ _ (by rfl), apL_func _ _ _ _ _ _ (by rfl)]
    simp only [pf_pure, show pureF 67 = true from rfl, if_true]
  rw [apL_func _ _ _ _ _ _ (by rfl), sf_chart_boat_trace_eq]
  have hnl : nl (.slice a n k) = true := by simp
  have hBk := fun lim H => run_Backward a n k hnl lim H
  have hmx : n ≤ maxA := Nat.le_trans hn (by decide)
  obtain ⟨⟨da, dc, ed, _⟩, ⟨ta, tc, et, _⟩, ⟨sa, sc, es, _⟩, _, _, _⟩ := id hc
  simp only [bkV] at hBk
  simp [sf_chart_boat_trace, boV, ed, et, es, hBk, hmx, zeros_ints', pf_pure, pureF]
  generalize hS : ({ t := _, L := _, H := _, lim := _, rd := _ } : St) = S
  have eH : S.H = H ++ [.rw 1 (ints (trL T n 0)), .rw 0 [.slice a n k]] := by subst hS; simp [trL, trT]
  have el : S.lim = H.length := by subst hS; rfl
  have eLen : S.H.length = H.length + 2 := by rw [eH]; simp
  have t3 : tget S.t 3 = .pointer (some ⟨3, 0, some 0⟩) := by subst hS; simp
  have t4 : tget S.t 4 = .pointer (some ⟨4, 0, some 0⟩) := by subst hS; simp
  have t5 : tget S.t 5 = .pointer (some ⟨5, 0, some 0⟩) := by subst hS; simp
  have t7 : tget S.t 7 = .pointer (some ⟨7, 0, some 0⟩) := by subst hS; simp
  have l3 : lget S.L 3 = some (0, .cells [.int .i64 c.w, .int .i64 c.h, d, t, s, .int .i64 g]) := by subst hS; simp [ed, et, es]
  have l4 : lget S.L 4 = some (0, .cells [.slice a n k]) := by subst hS; simp
  have l5 : lget S.L 5 = some (0, .cells [.int .i64 (T 0)]) := by subst hS; simp
  have l7 : lget S.L 7 = some (0, .cells [.slice (some ⟨H.length, 0, none⟩) n n]) := by subst hS; simp
  obtain ⟨Inv, hInv⟩ : ∃ Inv : Nat → AH → Prop, Inv = fun q A => ∃ L, A = H ++ [.rw 1 (ints (trL T n q)), .rw 0 [.slice a n k], .loop (trR S.t L H.length)] ∧ lget L 3 = some (0, .cells [.int .i64 c.w, .int .i64 c.h, d, t, s, .int .i64 g]) ∧ lget L 4 = some (0, .cells [.slice a n k]) ∧ lget L 5 = some (0, .cells [.int .i64 (T (q - 1))]) ∧ lget L 7 = some (0, .cells [.slice (some ⟨H.length, 0, none⟩) n n]) := ⟨_, rfl⟩
  have hC : ∀ q i A, q + i + 1 = n → Inv q A → A[H.length + 1]? = some (.rw 0 [.slice a n k]) ∧ ∃ b o x, a = some ⟨b, o, none⟩ ∧ hcell A b (o + i) = some x ∧ nl x = true ∧ isU x = false ∧ x.cells = #[x] ∧ ∃ A', apL Tryd.prog pf (.func (.yield (H.length + 2)) #[] #[]) [.int .i64 i, x] H.length A = some (.bool true, A') ∧ Inv (q + 1) A' := by
    intro q i A hqi hA
    rw [hInv] at hA
    obtain ⟨L, rfl, k3, k4, k5, k7⟩ := hA
    have hE : Ext H (H ++ [.rw 1 (ints (trL T n q)), .rw 0 [.slice a n k], .loop (trR S.t L H.length)]) := Ext.push H _
    obtain ⟨b, o, bm, ea, p1, p2⟩ := hP.ext hE i (by omega)
    refine ⟨by rw [List.getElem?_append_right (by omega)]; simp, b, o, .slice (some ⟨bm, 0, none⟩) c.cells c.cells, ea, p1, by simp, rfl, rfl, ?_⟩
    have ha : ∀ Y, exL Tryd.prog pf trAsg ⟨([15, 16].zip [Value.int .i64 i, .slice (some ⟨bm, 0, none⟩) c.cells c.cells]).reverse ++ S.t, L, Y, H.length, some (H.length + 2)⟩ = some (.normal, ⟨(9, .slice (some ⟨bm, 0, none⟩) c.cells c.cells) :: (8, .int .i64 i) :: (16, .slice (some ⟨bm, 0, none⟩) c.cells c.cells) :: (15, .int .i64 i) :: S.t, L, Y, H.length, some (H.length + 2)⟩) := fun Y => by
      simp [trAsg, sf_chart_boat_trace]
    obtain ⟨X, hX⟩ : ∃ X, X = H ++ [.rw 1 (ints (trL T n q)), .rw 0 [.slice a n k], .loop { trR S.t L H.length with st := 1, L := [] }] := ⟨_, rfl⟩
    have hXE : Ext H X := by rw [hX]; exact Ext.push H _
    have hXb : X[H.length]? = some (.rw 1 (ints (trL T n q))) := by rw [hX, List.getElem?_append_right (by omega)]; simp
    obtain ⟨_, _, bm', e', _, p2'⟩ := hP.ext hXE i (by omega)
    have hbm : X[bm]? = some (.rw 1 (ints (rows i))) := by
      obtain ⟨b2, o2, bm2, e2, q1, q2⟩ := hP i (by omega)
      have h1 := hcellE hE q1
      rw [ea] at e2
      cases e2
      rw [h1] at p1
      have : bm2 = bm := by simpa using p1
      subst this
      exact hXE _ _ q2
    have hmv : Sl X (.slice (some ⟨bm, 0, none⟩) c.cells c.cells) (rows i).length (ints (rows i)) := Sl.made hbm (by rw [hr i (by omega)])
    have hset := trL_set T hqi
    have hlen : i + 1 ≤ (ints (trL T n q)).length := by rw [ints_length, trL_len T (by omega)]; omega
    have hXs : X.set H.length (.rw 1 (ints (trL T n (q + 1)))) = H ++ [.rw 1 (ints (trL T n (q + 1))), .rw 0 [.slice a n k], .loop { trR S.t L H.length with st := 1, L := [] }] := by
      rw [hX, List.set_append_right _ _ (by omega), Nat.sub_self]; rfl
    have hin : i < n := by omega
    have hin' : (i : Int) < n := by omega
    have hw1 : IntKind.i64.wrap ((n : Int) - 1) = (n : Int) - 1 := wrap_i64 (by omega) (by omega)
    have hbe := fun lim {x : Nat} (hx : x < c.cells) => run_before c hok lim X (by rw [hX]; exact hG_ext _ hG) d t s (.slice (some ⟨bm, 0, none⟩) c.cells c.cells) (hc.ext hXE) g (rows i) (hr i (by omega)) hmv hx
    simp only [boV] at hbe
    have key : ∃ s', exL Tryd.prog pf trBody ⟨(9, .slice (some ⟨bm, 0, none⟩) c.cells c.cells) :: (8, .int .i64 i) :: (16, .slice (some ⟨bm, 0, none⟩) c.cells c.cells) :: (15, .int .i64 i) :: S.t, L, X, H.length, some (H.length + 2)⟩ = some (.normal, s') ∧
        s'.H = X.set H.length (.rw 1 (ints (trL T n (q + 1)))) ∧ lget s'.L 3 = lget L 3 ∧ lget s'.L 4 = lget L 4 ∧ lget s'.L 5 = some (0, .cells [.int .i64 (T q)]) ∧ lget s'.L 7 = lget L 7 := by
      by_cases hq : q = 0
      · subst hq
        have hnlt : ¬ (i : Int) < (n : Int) - 1 := by omega
        generalize ints (trL T n 0) = cs at *
        simp [trBody, sf_chart_boat_trace, t3, t4, t5, t7, k3, k4, k5, k7, hw1, hnlt, hin, hin', hXb, hlen, hset]
      · have hlt : (i : Int) < (n : Int) - 1 := by omega
        have hTq : T (q - 1) < c.cells := hT _ (by omega)
        have hbe := fun lim => hbe lim hTq
        rw [hB (q - 1) i (by omega), show q - 1 + 1 = q by omega] at hbe
        simp only [ed, et, es] at hbe k3
        generalize ints (trL T n q) = cs at *
        simp [trBody, sf_chart_boat_trace, t3, t4, t5, t7, k3, k4, k5, k7, hw1, hlt, hin, hin', hXb, hlen, hset, hbe]
    obtain ⟨s', z1, z2, z3, z4, z5, z7⟩ := key
    have hy := yield_round (l := H.length + 2) (B := H ++ [.rw 1 (ints (trL T n q)), .rw 0 [.slice a n k], .loop (trR S.t L H.length)]) (r := trR S.t L H.length) (args := [.int .i64 i, .slice (some ⟨bm, 0, none⟩) c.cells c.cells]) (lim := H.length) (get_last3 _ _ _ _) rfl (Nat.le_refl _) (by omega) rfl ha (e := .normal) (s' := s') (by rw [set_last3, ← hX]; exact z1) (r2 := { trR S.t L H.length with st := 1, L := [] }) (by rw [z2, hXs, get_last3])
    refine ⟨_, hy, ?_⟩
    rw [hInv]
    refine ⟨s'.L, ?_, by rw [z3, k3], by rw [z4, k4], by rw [z5]; rfl, by rw [z7, k7]⟩
    rw [z2, hXs, set_last3]
    rfl
  obtain ⟨A', y1, y2⟩ := run_bk n hn hn0 (H.length + 1) H.length a k _ (by simp) Inv hC (H ++ [.rw 1 (ints (trL T n 0)), .rw 0 [.slice a n k], .loop (trR S.t S.L H.length)]) (by rw [hInv]; exact ⟨S.L, rfl, l3, l4, l5, l7⟩)
  rw [hInv] at y2
  obtain ⟨L, y2, k3, k4, k5, k7⟩ := y2
  have hx := exL_range (f := .tmp 14) (ps := [15, 16]) (asg := trAsg) (body := trBody) (S := S) (fv := bkV (H.length + 1)) (by subst hS; simp [bkV]) (by simp [bkV]) rfl (by subst hS; rfl) (A' := A') (v := .tuple #[]) (r := trR S.t L H.length)
    (by rw [eLen, el, ← y1, eH]; congr 1; simp [trR]) (by rw [eLen, y2, get_last3]) (.inl rfl)
  simp only [trAsg, trBody, sf_chart_boat_trace] at hx
  rw [hx]
  refine ⟨A'.set (H.length + 2) .dead, ?_, ⟨_, by rw [y2, set_last3]⟩, ?_⟩
  · simp [trR, t7, k7, eLen]
  · rw [y2, set_last3, List.getElem?_append_right (by omega)]
    simp [trL]
end Go.Proofs.YtojplagenejhdaaDoor
