import Derived.Test.YthobfecblpnnnaaGreatDoorRouC
import Derived.Test.YthobfecblpnnnaaGreatDoorYld

/- Contracts of layer 6, the program: a route traced back. -/
set_option linter.all false
namespace Go.Proofs.YthobfecblpnnnaaGreatDoor
open Go Go.RowKit

theorem set_last3 (H : AH) (a b x y : ABlk) : (H ++ [a, b, x]).set (H.length + 2) y = H ++ [a, b, y] := by
  rw [List.set_append_right _ _ (by omega), Nat.add_sub_cancel_left]; rfl
theorem get_last3 (H : AH) (a b x : ABlk) : (H ++ [a, b, x])[H.length + 2]? = some x := by
  rw [List.getElem?_append_right (by omega), Nat.add_sub_cancel_left]; rfl

def bkV (b : Nat) : Value := .func (.func 126) #[] #[.pointer (some ⟨b, 0, none⟩)]

theorem run_Backward (a : Option Addr) (n k : Nat) (hn : nl (.slice a n k) = true) (lim : Nat) (H : AH) : apL Tryz.prog pf (.func (.func 108) #[] #[]) [.slice a n k] lim H = some (bkV H.length, H ++ [.rw 0 [.slice a n k]]) := by
  rw [apL_func _ _ _ _ _ _ (by rfl), sf_slices_Backward_int_int_eq]
  simp [sf_slices_Backward_int_int, bkV, hn, pf_pure, pureF]

def bkLoop : SC := sf_slices_Backward_int_int_1.body.loops.headD .skip

/-- Going through a list from its end. -/
theorem run_bk (n : Nat) (hn : n ≤ 1000) (hn0 : 0 < n) (pb lim : Nat) (a : Option Addr) (k : Nat) (fv : Value) (hfv : nl fv = true) (Inv : Nat → AH → Prop)
    (hC : ∀ q i A, q + i + 1 = n → Inv q A → A[pb]? = some (.rw 0 [.slice a n k]) ∧ ∃ b o x, a = some ⟨b, o, none⟩ ∧ hcell A b (o + i) = some x ∧ nl x = true ∧ isU x = false ∧ x.cells = #[x] ∧ ∃ A', apL Tryz.prog pf fv [.int .i64 i, x] lim A = some (.bool true, A') ∧ Inv (q + 1) A') (A : AH) (hA : Inv 0 A) :
    ∃ A', apL Tryz.prog pf (bkV pb) [fv] lim A = some (.tuple #[], A') ∧ Inv n A' := by
  unfold bkV
  rw [apL_func _ _ _ _ _ _ (by rfl), sf_slices_Backward_int_int_1_eq]
  obtain ⟨x1, _⟩ := hC 0 (n - 1) A (by omega) hA
  have hw0 : IntKind.i64.wrap ((n : Int) - 1) = (n : Int) - 1 := wrap_i64 (by omega) (by omega)
  simp [sf_slices_Backward_int_int_1, x1, hw0, pf_pure, pureF]
  generalize hS : ({ t := _, L := _, H := _, lim := _, rd := _ } : St) = S
  have key : ∃ q, exL Tryz.prog pf (.loop bkLoop) S = some q ∧ q.1 = .exit 0 ∧ Inv n q.2.H := by
    refine loop_rule (I := fun m s' => ∃ q : Nat, q ≤ n ∧ m = n - q ∧ tget s'.t 0 = fv ∧ tget s'.t 1 = .pointer (some ⟨pb, 0, none⟩) ∧ tget s'.t 3 = .int .i64 ((n : Int) - 1 - q) ∧ s'.lim = lim ∧ Inv q s'.H) ?_ n S
      ⟨0, by omega, by omega, by subst hS; simp, by subst hS; simp, by subst hS; simp, by subst hS; rfl, by subst hS; exact hA⟩
    rintro m s' ⟨q, hq, rfl, e0, e1, e3, el, eI⟩
    obtain ⟨X, hX⟩ : ∃ X, s'.H = X := ⟨_, rfl⟩
    rw [hX] at eI
    by_cases hlt : q < n
    rotate_left
    · have : q = n := by omega
      subst this
      have e3' : tget s'.t 3 = .int .i64 (-1) := by rw [e3]; congr 1; omega
      simp [bkLoop, SC.loops, sf_slices_Backward_int_int_1, e0, e1, e3', hX]
      exact eI
    obtain ⟨i, hi⟩ : ∃ i, q + i + 1 = n := ⟨n - q - 1, by omega⟩
    have e3' : tget s'.t 3 = .int .i64 i := by rw [e3]; congr 1; omega
    obtain ⟨x1, b, o, x, rfl, x2, x3, x3b, x3c, A', x4, x5⟩ := hC q i X hi eI
    have hin : i < n := by omega
    have hin' : (i : Int) < n := by omega
    have hw1 : IntKind.i64.wrap ((i : Int) - 1) = (i : Int) - 1 := wrap_i64 (by omega) (by omega)
    simp only [hcell] at x2
    simp [-isU, -Value.cells, bkLoop, SC.loops, sf_slices_Backward_int_int_1, e0, e1, e3', el, hX, x1, x2, x3, x3b, x3c, hfv, hin, hin', x4, hw1]
    exact ⟨_, by omega, q + 1, by omega, rfl, by omega, x5⟩
  obtain ⟨⟨e, s1⟩, hr, q1, q2⟩ := key
  simp [bkLoop, SC.loops, sf_slices_Backward_int_int_1] at hr
  rw [hr]
  simp only at q1 q2
  subst q1
  simp
  exact q2

/-- The last q cells of a passage. -/
def trT (T : Nat → Nat) : Nat → List Int
  | 0 => []
  | q + 1 => (T q : Int) :: trT T q
theorem trT_len (T : Nat → Nat) : ∀ q, (trT T q).length = q
  | 0 => rfl
  | q + 1 => by simp [trT, trT_len T q]
theorem trT_get (T : Nat → Nat) : ∀ q m, m < q → (trT T q).getD m 0 = T (q - 1 - m)
  | 0, m, h => by omega
  | q + 1, 0, _ => by simp [trT]
  | q + 1, m + 1, h => by
    have := trT_get T q m (by omega)
    simp only [trT, List.getD_cons_succ, this]
    congr 2
    omega
def trL (T : Nat → Nat) (n q : Nat) : List Int := List.replicate (n - q) 0 ++ trT T q
theorem trL_len (T : Nat → Nat) {n q : Nat} (h : q ≤ n) : (trL T n q).length = n := by simp [trL, trT_len]; omega
theorem trL_set (T : Nat → Nat) {n q i : Nat} (h : q + i + 1 = n) : (ints (trL T n q)).set i (.int .i64 (T q)) = ints (trL T n (q + 1)) := by
  have : (ints (trL T n q)).set i (.int .i64 (T q)) = ints ((trL T n q).set i (T q)) := by simp [ints, List.map_set]
  rw [this]
  congr 1
  unfold trL
  rw [show n - q = i + 1 by omega, show n - (q + 1) = i by omega, List.replicate_succ', List.append_assoc, List.set_append_right _ _ (by simp)]
  simp [trT]


def tr6Asg : SC := match sf_lanes_trace.body with | .seq _ (.seq _ (.seq (.seq _ (.block _ (.rng _ _ a _))) _)) => a | _ => .skip
def tr6Body : SC := match sf_lanes_trace.body with | .seq _ (.seq _ (.seq (.seq _ (.block _ (.rng _ _ _ b))) _)) => b | _ => .skip
def tr6R (T : TS) (L : LS) (lim : Nat) : ARec := ⟨0, none, T, L, lim, [13, 14], tr6Asg, tr6Body⟩

theorem run_trace6 (N : Nat) (H : AH) (a : Option Addr) (n k : Nat) (hn : n ≤ 1000) (hn0 : 0 < n) (rs : List (List Int)) (hrn : rs.length = n) (hr : ∀ m (h : m < rs.length), rs[m].length = N) (hP : Tab H (.slice a n k) rs)
    (T : Nat → Nat) (hT : ∀ q, q < n → T q < N) (hB : ∀ q i (h : i < rs.length), q + i + 1 = n → 0 < i → rs[i].getD (T q) 0 = T (q + 1)) :
    ∃ A, (∀ lim, apL Tryz.prog pf (.func (.func 73) #[] #[]) [.slice a n k, .int .i64 (T 0)] lim H = some (.slice (some ⟨H.length, 0, none⟩) n n, A)) ∧ Aft H A ∧ A[H.length]? = some (.rw 1 (ints (trT T n))) := by
  suffices key : ∃ A, apL Tryz.prog pf (.func (.func 73) #[] #[]) [.slice a n k, .int .i64 (T 0)] 0 H = some (.slice (some ⟨H.length, 0, none⟩) n n, A) ∧ Aft H A ∧ A[H.length]? = some (.rw 1 (ints (trT T n))) by
    obtain ⟨A, h1, h2⟩ := key
    refine ⟨A, fun lim => ?_, h2⟩
    rw [← h1, apL_func _ _ _ _ _ _ (by rfl), apL_func _ _ _ _ _ _ (by rfl)]
    simp only [pf_pure, show pureF 73 = true from rfl, if_true]
  rw [apL_func _ _ _ _ _ _ (by rfl), sf_lanes_trace_eq]
  have hnl : nl (.slice a n k) = true := by simp
  have hBk := fun lim H => run_Backward a n k hnl lim H
  have hmx : n ≤ maxA := Nat.le_trans hn (by decide)
  simp only [bkV] at hBk
  simp [sf_lanes_trace, hBk, hmx, zeros_ints', pf_pure, pureF]
  generalize hS : ({ t := _, L := _, H := _, lim := _, rd := _ } : St) = S
  have eH : S.H = H ++ [.rw 1 (ints (trL T n 0)), .rw 0 [.slice a n k]] := by subst hS; simp [trL, trT]
  have el : S.lim = H.length := by subst hS; rfl
  have eLen : S.H.length = H.length + 2 := by rw [eH]; simp
  have t3 : tget S.t 3 = .pointer (some ⟨3, 0, some 0⟩) := by subst hS; simp
  have t5 : tget S.t 5 = .pointer (some ⟨5, 0, some 0⟩) := by subst hS; simp
  have l3 : lget S.L 3 = some (0, .cells [.int .i64 (T 0)]) := by subst hS; simp
  have l5 : lget S.L 5 = some (0, .cells [.slice (some ⟨H.length, 0, none⟩) n n]) := by subst hS; simp
  obtain ⟨Inv, hInv⟩ : ∃ Inv : Nat → AH → Prop, Inv = fun q A => ∃ L z, A = H ++ [.rw 1 (ints (trL T n q)), .rw 0 [.slice a n k], .loop (tr6R S.t L H.length)] ∧ lget L 3 = some (0, .cells [.int .i64 z]) ∧ (q < n → z = T q) ∧ lget L 5 = some (0, .cells [.slice (some ⟨H.length, 0, none⟩) n n]) := ⟨_, rfl⟩
  have hC : ∀ q i A, q + i + 1 = n → Inv q A → A[H.length + 1]? = some (.rw 0 [.slice a n k]) ∧ ∃ b o x, a = some ⟨b, o, none⟩ ∧ hcell A b (o + i) = some x ∧ nl x = true ∧ isU x = false ∧ x.cells = #[x] ∧ ∃ A', apL Tryz.prog pf (.func (.yield (H.length + 2)) #[] #[]) [.int .i64 i, x] H.length A = some (.bool true, A') ∧ Inv (q + 1) A' := by
    intro q i A hqi hA
    rw [hInv] at hA
    obtain ⟨L, z, rfl, k3, kz, k5⟩ := hA
    have kz := kz (by omega)
    subst kz
    have hE : Ext H (H ++ [.rw 1 (ints (trL T n q)), .rw 0 [.slice a n k], .loop (tr6R S.t L H.length)]) := Ext.push H _
    obtain ⟨rv, hrl, hrs, hrr⟩ := hP
    have hir : i < rs.length := by omega
    have hiv : i < rv.length := by omega
    have hrow := hrr i hir hiv
    obtain ⟨xa, xc, ex, hxd⟩ := hrs.ext hE
    rw [hrn] at ex
    cases ex
    obtain ⟨b, o, ea, p1⟩ := hxd i rv[i] (by simp [hiv])
    obtain ⟨ya, yc, ey, _⟩ := id hrow
    rw [hr i hir] at ey
    rw [ey] at p1 hrow
    refine ⟨by rw [List.getElem?_append_right (by omega)]; simp, b, o, .slice ya N yc, ea, p1, by simp, rfl, rfl, ?_⟩
    have ha : ∀ Y, exL Tryz.prog pf tr6Asg ⟨([13, 14].zip [Value.int .i64 i, .slice ya N yc]).reverse ++ S.t, L, Y, H.length, some (H.length + 2)⟩ = some (.normal, ⟨(7, .slice ya N yc) :: (6, .int .i64 i) :: (14, .slice ya N yc) :: (13, .int .i64 i) :: S.t, L, Y, H.length, some (H.length + 2)⟩) := fun Y => by
      simp [tr6Asg, sf_lanes_trace]
    obtain ⟨X, hX⟩ : ∃ X, X = H ++ [.rw 1 (ints (trL T n q)), .rw 0 [.slice a n k], .loop { tr6R S.t L H.length with st := 1, L := [] }] := ⟨_, rfl⟩
    have hXb : X[H.length]? = some (.rw 1 (ints (trL T n q))) := by rw [hX, List.getElem?_append_right (by omega)]; simp
    have hset := trL_set T hqi
    have hlen : i + 1 ≤ (ints (trL T n q)).length := by rw [ints_length, trL_len T (by omega)]; omega
    obtain ⟨X2, hX2⟩ : ∃ X2, X2 = X.set H.length (.rw 1 (ints (trL T n (q + 1)))) := ⟨_, rfl⟩
    have hXs : X2 = H ++ [.rw 1 (ints (trL T n (q + 1))), .rw 0 [.slice a n k], .loop { tr6R S.t L H.length with st := 1, L := [] }] := by
      rw [hX2, hX, List.set_append_right _ _ (by omega), Nat.sub_self]; rfl
    have hXE : Ext H X2 := by rw [hXs]; exact Ext.push H _
    have hin : i < n := by omega
    have hin' : (i : Int) < n := by omega
    have hTq := hT q (by omega)
    have hTq' : ((T q : Nat) : Int) < (N : Int) := by omega
    obtain ⟨y0, y1, y2, hyd⟩ := hrow.ext hXE
    rw [hr i hir] at y2
    cases y2
    obtain ⟨b2, o2, rfl, d2⟩ := hyd (T q) (.int .i64 (rs[i].getD (T q) 0)) (by rw [ints, List.getElem?_map, List.getD_eq_getElem?_getD, List.getElem?_eq_getElem (by rw [hr i hir]; exact hTq)]; rfl)
    simp only [hcell] at d2
    have key : ∃ s', exL Tryz.prog pf tr6Body ⟨(7, .slice (some ⟨b2, o2, none⟩) N yc) :: (6, .int .i64 i) :: (14, .slice (some ⟨b2, o2, none⟩) N yc) :: (13, .int .i64 i) :: S.t, L, X, H.length, some (H.length + 2)⟩ = some (.normal, s') ∧
        s'.H = X2 ∧ lget s'.L 3 = some (0, .cells [.int .i64 (rs[i].getD (T q) 0)]) ∧ lget s'.L 5 = lget L 5 := by
      rw [← hset] at hX2
      generalize rs[i].getD (T q) 0 = y at *
      generalize ints (trL T n q) = cs at *
      rw [hX2] at d2 ⊢
      simp [tr6Body, sf_lanes_trace, t3, t5, k3, k5, hin, hin', hXb, hlen, hTq, hTq', d2]
    obtain ⟨s', z1, z2, z3, z5⟩ := key
    have hy := yield_round (l := H.length + 2) (B := H ++ [.rw 1 (ints (trL T n q)), .rw 0 [.slice a n k], .loop (tr6R S.t L H.length)]) (r := tr6R S.t L H.length) (args := [.int .i64 i, .slice (some ⟨b2, o2, none⟩) N yc]) (lim := H.length) (get_last3 _ _ _ _) rfl (Nat.le_refl _) (by omega) rfl ha (e := .normal) (s' := s') (by rw [set_last3, ← hX]; exact z1) (r2 := { tr6R S.t L H.length with st := 1, L := [] }) (by rw [z2, hXs, get_last3])
    refine ⟨_, hy, ?_⟩
    rw [hInv]
    refine ⟨s'.L, _, ?_, z3, fun hq => ?_, by rw [z5, k5]⟩
    · rw [z2, hXs, set_last3]
      rfl
    · exact hB q i hir hqi (by omega)
  obtain ⟨A', y1, y2⟩ := run_bk n hn hn0 (H.length + 1) H.length a k _ (by simp) Inv hC (H ++ [.rw 1 (ints (trL T n 0)), .rw 0 [.slice a n k], .loop (tr6R S.t S.L H.length)]) (by rw [hInv]; exact ⟨S.L, _, rfl, l3, fun _ => rfl, l5⟩)
  rw [hInv] at y2
  obtain ⟨L, z, y2, k3, _, k5⟩ := y2
  have hx := exL_range (f := .tmp 12) (ps := [13, 14]) (asg := tr6Asg) (body := tr6Body) (S := S) (fv := bkV (H.length + 1)) (by subst hS; simp [bkV]) (by simp [bkV]) rfl (by subst hS; rfl) (A' := A') (v := .tuple #[]) (r := tr6R S.t L H.length)
    (by rw [eLen, el, ← y1, eH]; congr 1; simp [tr6R]) (by rw [eLen, y2, get_last3]) (.inl rfl)
  simp only [tr6Asg, tr6Body, sf_lanes_trace] at hx
  rw [hx]
  refine ⟨A'.set (H.length + 2) .dead, ?_, ⟨_, by rw [y2, set_last3], rfl⟩, ?_⟩
  · simp [tr6R, t5, k5, eLen]
  · rw [y2, set_last3, List.getElem?_append_right (by omega)]
    simp [trL]
end Go.Proofs.YthobfecblpnnnaaGreatDoor

/- Contracts of layer 6, the program: a route is searched. -/
set_option linter.all false
namespace Go.Proofs.YthobfecblpnnnaaGreatDoor
open Go Go.RowKit

/-- Back along the rows, from the last one on. -/
def bkT (W : Wy) (k to : Nat) : Nat → Nat
  | 0 => to
  | q + 1 => ((W.row (k - q)).getD (bkT W k to q) (-1)).toNat

theorem bkT_ok {W : Wy} (hn : ∀ i, i < W.N → ∀ b ∈ W.near i, b < W.N) {k to : Nat} (hto : to < W.N) (h : (W.row k).getD to (-1) ≠ -1) : ∀ q, q ≤ k → bkT W k to q < W.N ∧ (W.row (k - q)).getD (bkT W k to q) (-1) ≠ -1
  | 0, _ => ⟨hto, h⟩
  | q + 1, hq => by
    obtain ⟨h1, h2⟩ := bkT_ok hn hto h q (by omega)
    obtain ⟨m, hm⟩ : ∃ m, k - q = m + 1 := ⟨k - q - 1, by omega⟩
    rw [hm, W.row_succ h1] at h2
    obtain ⟨b, e, hb, h3, _⟩ := Wy.from_some h2
    have e2 : bkT W k to (q + 1) = b := by
      show ((W.row (k - q)).getD (bkT W k to q) (-1)).toNat = b
      rw [hm, W.row_succ h1, e]
      rfl
    rw [e2, show k - (q + 1) = m by omega]
    exact ⟨hn _ h1 b hb, h3⟩

theorem bkT_val {W : Wy} (hn : ∀ i, i < W.N → ∀ b ∈ W.near i, b < W.N) {k to : Nat} (hto : to < W.N) (h : (W.row k).getD to (-1) ≠ -1) {q : Nat} (hq : q < k) : (W.row (k - q)).getD (bkT W k to q) 0 = (bkT W k to (q + 1) : Nat) := by
  obtain ⟨h1, h2⟩ := bkT_ok hn hto h q (by omega)
  obtain ⟨m, hm⟩ : ∃ m, k - q = m + 1 := ⟨k - q - 1, by omega⟩
  rw [hm] at h2 ⊢
  have hl : bkT W k to q < (W.row (m + 1)).length := by rw [W.row_length]; exact h1
  have e0 : (W.row (m + 1)).getD (bkT W k to q) 0 = (W.row (m + 1)).getD (bkT W k to q) (-1) := by
    rw [List.getD_eq_getElem?_getD, List.getD_eq_getElem?_getD, List.getElem?_eq_getElem hl]; rfl
  have h2' := h2
  rw [W.row_succ h1] at h2'
  obtain ⟨b, e, _⟩ := Wy.from_some h2'
  rw [e0]
  show _ = ((((W.row (k - q)).getD (bkT W k to q) (-1)).toNat : Nat) : Int)
  rw [hm, W.row_succ h1, e]
  rfl

theorem bkT_shift (W : Wy) (k to : Nat) : ∀ q, bkT W (k + 1) to (q + 1) = bkT W k ((W.row (k + 1)).getD to (-1)).toNat q
  | 0 => rfl
  | q + 1 => by
    have ih := bkT_shift W k to q
    show ((W.row (k + 1 - (q + 1))).getD (bkT W (k + 1) to (q + 1)) (-1)).toNat = ((W.row (k - q)).getD (bkT W k ((W.row (k + 1)).getD to (-1)).toNat q) (-1)).toNat
    rw [ih, show k + 1 - (q + 1) = k - q by omega]

theorem trT_shift (T : Nat → Nat) : ∀ n, trT T (n + 1) = trT (fun q => T (q + 1)) n ++ [(T 0 : Int)]
  | 0 => rfl
  | n + 1 => by
    have ih := trT_shift T n
    show (T (n + 1) : Int) :: trT T (n + 1) = _
    rw [ih]
    rfl

theorem trT_back (W : Wy) : ∀ k to, trT (bkT W k to) (k + 1) = (W.back k to).map Int.ofNat
  | 0, to => rfl
  | k + 1, to => by
    have ih := trT_back W k ((W.row (k + 1)).getD to (-1)).toNat
    rw [trT_shift, show (fun q => bkT W (k + 1) to (q + 1)) = bkT W k ((W.row (k + 1)).getD to (-1)).toNat from funext (bkT_shift W k to), ih]
    simp [Wy.back, bkT]

/-- The first rows. -/
def rowsL (W : Wy) (k : Nat) : List (List Int) := (List.range k).map W.row
theorem rowsL_succ (W : Wy) (k : Nat) : rowsL W (k + 1) = rowsL W k ++ [W.row k] := by simp [rowsL, List.range_succ]
theorem rowsL_length (W : Wy) (k : Nat) : (rowsL W k).length = k := by simp [rowsL]
theorem rowsL_get (W : Wy) {k i : Nat} (h : i < (rowsL W k).length) : (rowsL W k)[i] = W.row i := by simp [rowsL]

theorem Wy.first_some {W : Wy} {T to k : Nat} (hk : k < T) (h : (W.row k).getD to (-1) ≠ -1) (hl : ∀ j, j < k → (W.row j).getD to (-1) = -1) : W.first T to = some k := by
  unfold Wy.first
  rw [List.find?_eq_some_iff_getElem]
  refine ⟨by simpa using h, k, by simpa using hk, by simp, fun j hj => ?_⟩
  rw [List.getElem_range, hl j hj]
  rfl
theorem Wy.first_none {W : Wy} {T to : Nat} (hl : ∀ j, j < T → (W.row j).getD to (-1) = -1) : W.first T to = none := by
  unfold Wy.first
  rw [List.find?_eq_none]
  intro j hj
  rw [hl j (List.mem_range.1 hj)]
  simp
end Go.Proofs.YthobfecblpnnnaaGreatDoor

/- Contracts of layer 6, the program: the rows of a route. -/
set_option linter.all false
namespace Go.Proofs.YthobfecblpnnnaaGreatDoor
open Go Go.RowKit

def rtLoop6 : SC := sf_lanes_run_route.body.loops.headD .skip

/-- What is fixed while a route is searched. -/
structure RtC (c : Ch) (ls : List Lg) (H : AH) (d t s : Value) (va : Option Addr) (vn vc : Nat) (p : Tp) (b0 k0 : Nat) (w : Value) : Prop where
  ok : ChOk c
  len : ls.length ≤ 1000
  lin : LgsIn ls
  ch : ChIn H c d t s
  tp : tpOk c p = true
  tab : Tab H (.slice (some ⟨b0, 0, none⟩) c.cells k0) (nearT c)
  lg : LgIn H w ls

theorem RtC.ext {c : Ch} {ls : List Lg} {H A : AH} {d t s : Value} {va : Option Addr} {vn vc : Nat} {p : Tp} {b0 k0 : Nat} {w : Value} (h : RtC c ls H d t s va vn vc p b0 k0 w) (hE : Ext H A) : RtC c ls A d t s va vn vc p b0 k0 w :=
  ⟨h.ok, h.len, h.lin, h.ch.ext hE, h.tp, h.tab.ext hE, h.lg.ext hE⟩

theorem ChIn.vals {H : AH} {c : Ch} {d t s : Value} (hc : ChIn H c d t s) : (∃ a n k, d = .slice a n k) ∧ (∃ a n k, t = .slice a n k) ∧ (∃ a n k, s = .slice a n k) := by
  obtain ⟨⟨da, dc, ed, _⟩, ⟨ta, tc, et, _⟩, ⟨sa, sc, es, _⟩, _⟩ := hc
  exact ⟨⟨_, _, _, ed⟩, ⟨_, _, _, et⟩, ⟨_, _, _, es⟩⟩

theorem RtC.t0 {c : Ch} {ls : List Lg} {H : AH} {d t s : Value} {va : Option Addr} {vn vc : Nat} {p : Tp} {b0 k0 : Nat} {w : Value} (h : RtC c ls H d t s va vn vc p b0 k0 w) : 0 ≤ p.t0 ∧ p.t0.toNat < c.ticks ∧ c.ticks ≤ 60 ∧ c.cells ≤ 144 ∧ 0 < c.cells ∧ (∃ to : Nat, p.to = to ∧ to < c.cells) := by
  have hp := h.tp
  have hm := h.ok.mul
  have h1 := h.ok.1.1
  have h2 := h.ok.2.1.1
  have h4 : 0 < c.w * c.h := Int.mul_pos (by omega) (by omega)
  have hT : c.tide.length ≤ 60 := h.ok.2.2.2.1.2
  simp only [tpOk, Bool.and_eq_true] at hp
  obtain ⟨⟨⟨hu, h0⟩, hfr⟩, hto⟩ := hp
  obtain ⟨n0, hn0, e0⟩ := inN_iff.1 h0
  obtain ⟨nt, hnt, et⟩ := inN_iff.1 hto
  exact ⟨by omega, by omega, hT, by omega, by omega, nt, et, hnt⟩

/-- The first row, and the next one: what the two calls together do. -/
theorem run_firstT {c : Ch} {ls : List Lg} {H : AH} {d t s : Value} {va : Option Addr} {vn vc : Nat} {p : Tp} {b0 k0 : Nat} {w : Value} (h : RtC c ls H d t s va vn vc p b0 k0 w) :
    ∃ fb A1 rb A2, (∀ lim, apL Tryz.prog pf (.func (.func 70) #[] #[]) [rnV c d t s (.slice va vn vc) p (.slice (some ⟨b0, 0, none⟩) c.cells k0), w, .int .i64 p.t0] lim H = some (clrV fb, A1)) ∧ (∀ lim, apL Tryz.prog pf (.func (.func 69) #[] #[]) [rnV c d t s (.slice va vn vc) p (.slice (some ⟨b0, 0, none⟩) c.cells k0), clrV fb] lim A1 = some (.slice (some ⟨rb, 0, none⟩) c.cells c.cells, A2)) ∧ Aft H A1 ∧ Aft H A2 ∧ H.length ≤ rb ∧ A2[rb]? = some (.rw 1 (ints ((wyM c ls p).row 0))) := by
  obtain ⟨q0, q1, q2, _, _, _⟩ := h.t0
  obtain ⟨v1, v2, v3⟩ := h.ch.vals
  obtain ⟨fb, A1, r1, a1, c1⟩ := run_clear c ls h.len h.lin H d t s (.slice va vn vc) v1 v2 v3 ⟨_, _, _, rfl⟩ p (.slice (some ⟨b0, 0, none⟩) c.cells k0) ⟨_, _, _, rfl⟩ w h.lg p.t0 (by omega)
  obtain ⟨r, A2, r2, a2, rb, hrb, er, hb⟩ := run_first6 c h.ok ls A1 d t s (h.ch.ext a1.ext) va vn vc p h.tp b0 k0 fb c1
  have hl : (wyM c ls p).row0.length = c.cells := (wyM c ls p).row_length 0
  rw [hl] at er
  subst er
  have := a1.le
  exact ⟨fb, A1, rb, A2, r1, r2, a1, a1.trans a2, by omega, hb⟩

theorem run_nextT {c : Ch} {ls : List Lg} {H : AH} {d t s : Value} {va : Option Addr} {vn vc : Nat} {p : Tp} {b0 k0 : Nat} {w : Value} (h : RtC c ls H d t s va vn vc p b0 k0 w) (kk : Nat) (hkk : p.t0.toNat + (kk + 1) < c.ticks) (r0 : Nat) (hr0 : H[r0]? = some (.rw 1 (ints ((wyM c ls p).row kk)))) :
    ∃ fb A1 rb A2, (∀ lim, apL Tryz.prog pf (.func (.func 70) #[] #[]) [rnV c d t s (.slice va vn vc) p (.slice (some ⟨b0, 0, none⟩) c.cells k0), w, .int .i64 ((p.t0.toNat + (kk + 1) : Nat) : Int)] lim H = some (clrV fb, A1)) ∧ (∀ lim, apL Tryz.prog pf (.func (.func 72) #[] #[]) [rnV c d t s (.slice va vn vc) p (.slice (some ⟨b0, 0, none⟩) c.cells k0), .slice (some ⟨r0, 0, none⟩) c.cells c.cells, .int .i64 ((p.t0.toNat + (kk + 1) : Nat) : Int), clrV fb] lim A1 = some (.slice (some ⟨rb, 0, none⟩) c.cells c.cells, A2)) ∧ Aft H A1 ∧ Aft H A2 ∧ H.length ≤ rb ∧ A2[rb]? = some (.rw 1 (ints ((wyM c ls p).row (kk + 1)))) := by
  obtain ⟨q0, q1, q2, _, _, _⟩ := h.t0
  obtain ⟨v1, v2, v3⟩ := h.ch.vals
  have et : ((p.t0.toNat + (kk + 1) : Nat) : Int) = p.t0 + ((kk + 1 : Nat) : Int) := by omega
  obtain ⟨fb, A1, r1, a1, c1⟩ := run_clear c ls h.len h.lin H d t s (.slice va vn vc) v1 v2 v3 ⟨_, _, _, rfl⟩ p (.slice (some ⟨b0, 0, none⟩) c.cells k0) ⟨_, _, _, rfl⟩ w h.lg ((p.t0.toNat + (kk + 1) : Nat) : Int) (by omega)
  rw [et] at c1
  obtain ⟨r, A2, r2, a2, rb, hrb, er, hb⟩ := run_after6 c h.ok ls A1 d t s (h.ch.ext a1.ext) va vn vc p h.tp b0 k0 (h.tab.ext a1.ext) ((wyM c ls p).row kk) ((wyM c ls p).row_length kk) r0 (a1.ext _ _ hr0) (kk + 1) hkk fb c1
  have hl : ((wyM c ls p).step (kk + 1) ((wyM c ls p).row kk)).length = c.cells := (wyM c ls p).row_length (kk + 1)
  rw [hl] at er
  subst er
  have := a1.le
  exact ⟨fb, A1, rb, A2, r1, r2, a1, a1.trans a2, by omega, hb⟩

set_option maxHeartbeats 4000000 in
theorem rt_loop6 {c : Ch} {ls : List Lg} {H : AH} {d t s : Value} {va : Option Addr} {vn vc : Nat} {p : Tp} {b0 k0 : Nat} {w : Value} (h : RtC c ls H d t s va vn vc p b0 k0 w) (S : St)
    (e1 : tget S.t 1 = w) (e2 : tget S.t 2 = .pointer (some ⟨2, 0, some 0⟩)) (e6 : tget S.t 6 = .slice none 0 0) (rb0 : Nat) (hrb0 : H.length ≤ rb0) (e7 : tget S.t 7 = .slice (some ⟨rb0, 0, none⟩) c.cells c.cells) (hr0 : S.H[rb0]? = some (.rw 1 (ints ((wyM c ls p).row 0)))) (hL2 : lget S.L 2 = some (0, .cells (rnC c d t s (.slice va vn vc) p (.slice (some ⟨b0, 0, none⟩) c.cells k0)))) (hA : Aft H S.H) (hlim : S.lim = H.length) :
    ∃ q, exL Tryz.prog pf (.loop rtLoop6) S = some q ∧ (
      (q.1 = .ret ∧ tget q.2.t 4 = .slice none 0 0 ∧ tget q.2.t 5 = .bool false ∧ ∀ j, j < c.ticks - p.t0.toNat → ((wyM c ls p).row j).getD p.to.toNat (-1) = -1) ∨
      (q.1 = .exit 0 ∧ q.2.lim = H.length ∧ q.2.rd = S.rd ∧ tget q.2.t 2 = .pointer (some ⟨2, 0, some 0⟩) ∧ lget q.2.L 2 = some (0, .cells (rnC c d t s (.slice va vn vc) p (.slice (some ⟨b0, 0, none⟩) c.cells k0))) ∧ Aft H q.2.H ∧ ∃ k rb, k < c.ticks - p.t0.toNat ∧ (∀ j, j < k → ((wyM c ls p).row j).getD p.to.toNat (-1) = -1) ∧ ((wyM c ls p).row k).getD p.to.toNat (-1) ≠ -1 ∧ H.length ≤ rb ∧ tget q.2.t 7 = .slice (some ⟨rb, 0, none⟩) c.cells c.cells ∧ q.2.H[rb]? = some (.rw 1 (ints ((wyM c ls p).row k))) ∧ TabO H.length q.2.H (tget q.2.t 6) (rowsL (wyM c ls p) k))) := by
  obtain ⟨q0, q1, q2, q3, q4, to, eto, hto⟩ := h.t0
  have hwl : ∃ wa wn wc, w = .slice wa wn wc := by obtain ⟨a, k, e⟩ := h.lg.sl.one; exact ⟨_, _, _, e⟩
  obtain ⟨wa, wn, wc, ew⟩ := hwl
  have hto' : p.to.toNat = to := by omega
  rw [hto']
  refine loop_rule (I := fun n s' => ∃ k rb, k < c.ticks - p.t0.toNat ∧ n = c.ticks - k ∧ (∀ j, j < k → ((wyM c ls p).row j).getD to (-1) = -1) ∧ tget s'.t 1 = w ∧ tget s'.t 2 = .pointer (some ⟨2, 0, some 0⟩) ∧ H.length ≤ rb ∧ tget s'.t 7 = .slice (some ⟨rb, 0, none⟩) c.cells c.cells ∧ s'.H[rb]? = some (.rw 1 (ints ((wyM c ls p).row k))) ∧ TabO H.length s'.H (tget s'.t 6) (rowsL (wyM c ls p) k) ∧ lget s'.L 2 = some (0, .cells (rnC c d t s (.slice va vn vc) p (.slice (some ⟨b0, 0, none⟩) c.cells k0))) ∧ s'.lim = H.length ∧ s'.rd = S.rd ∧ Aft H s'.H) ?_ c.ticks S
    ⟨0, rb0, by omega, by omega, by omega, e1, e2, hrb0, e7, hr0, ⟨[], rfl, .inl ⟨rfl, e6⟩⟩, hL2, hlim, rfl, hA⟩
  rintro n s' ⟨k, rb, hk, rfl, hno, f1, f2, hrb, f7, fr, fO, fL, fl, frd, fA⟩
  obtain ⟨A, hAA⟩ : ∃ A, s'.H = A := ⟨_, rfl⟩
  rw [hAA] at fr fO fA
  have hrl : ((wyM c ls p).row k).length = c.cells := (wyM c ls p).row_length k
  have htoI : (to : Int) < (c.cells : Int) := by omega
  have hcl : (ints ((wyM c ls p).row k))[to]? = some (.int .i64 (((wyM c ls p).row k).getD to (-1))) := by simp [ints, show to < ((wyM c ls p).row k).length by omega]
  obtain ⟨⟨da, dn, dc, ed⟩, ⟨ta, tn, tc, et⟩, ⟨sa, sn, sc, es⟩⟩ := h.ch.vals
  by_cases hy : ((wyM c ls p).row k).getD to (-1) = -1
  rotate_left
  · have hy' : (((wyM c ls p).row k).getD to (-1) == -1) = false := by simpa using hy
    have fO' := fO
    obtain ⟨rv, hrvl, hrv⟩ := id fO
    obtain ⟨pa, pn, pc, e6'⟩ : ∃ a n k, tget s'.t 6 = .slice a n k := by
      rcases hrv with ⟨_, e⟩ | ⟨_, b, _, e, _⟩
      · exact ⟨_, _, _, e⟩
      · exact ⟨_, _, _, e⟩
    generalize hcs : ints ((wyM c ls p).row k) = cs at *
    generalize hyy : ((wyM c ls p).row k).getD to (-1) = y at *
    simp only [rnC, ed, et, es] at fL ⊢
    simp [-oneC, -Array.all_eq_false, -Array.all_toList, oneC_slice, oneC_int, oneC_boolW, rtLoop6, SC.loops, sf_lanes_run_route, f2, f7, fL, fl, hAA, eto, fr, hcl, htoI, hto, hy', frd]
    exact ⟨fA, k, hk, by simpa using hno, by rw [← hyy] at hy; simpa using hy, rb, hrb, rfl, by rw [hcs]; exact fr, fO⟩
  have hy' : (((wyM c ls p).row k).getD to (-1) == -1) = true := by simpa using hy
  have hrw : RwIn H.length A.length A (.slice (some ⟨rb, 0, none⟩) c.cells c.cells) ((wyM c ls p).row k) := ⟨rb, c.cells, hrb, (List.getElem?_eq_some_iff.1 fr).1, by rw [hrl], fr⟩
  have hbx := fO.push fA.le (Aft.refl A) hrw
  rw [← rowsL_succ] at hbx
  have htk : ∀ A2, Aft H A2 → ∀ lim, apL Tryz.prog pf (.func (.func 71) #[] #[]) [trV c d t s (.slice va vn vc), .int .i64 (p.t0 + ((k + 1 : Nat) : Int))] lim A2 = some (.bool (inN c.tide.length (p.t0 + ((k + 1 : Nat) : Int))), A2) := fun A2 hA2 lim => run_trTick c _ lim A2 d t s (h.ch.ext hA2.ext) va vn vc
  have hm1 : 1 ≤ maxA := by decide
  have hw : IntKind.i64.wrap (p.t0 + ((k + 1 : Nat) : Int)) = p.t0 + ((k + 1 : Nat) : Int) := wrap_i64 (by omega) (by omega)
  have hnoS : ∀ j, j < k + 1 → ((wyM c ls p).row j).getD to (-1) = -1 := fun j hj => by
    by_cases e : j = k
    · subst e; exact hy
    · exact hno j (by omega)
  have hmm : c.ticks - (k + 1) < c.ticks - k := by omega
  have etk : p.t0 + ((k + 1 : Nat) : Int) = ((p.t0.toNat + (k + 1) : Nat) : Int) := by omega
  -- what the rest of the round does at a heap A2
  have rest : ∀ A2, Aft H A2 → A2[rb]? = some (.rw 1 (ints ((wyM c ls p).row k))) → k + 1 < c.ticks - p.t0.toNat → ∃ fb A3 rb3 A4, (∀ lim, apL Tryz.prog pf (.func (.func 70) #[] #[]) [rnV c d t s (.slice va vn vc) p (.slice (some ⟨b0, 0, none⟩) c.cells k0), w, .int .i64 (p.t0 + ((k + 1 : Nat) : Int))] lim A2 = some (clrV fb, A3)) ∧ (∀ lim, apL Tryz.prog pf (.func (.func 72) #[] #[]) [rnV c d t s (.slice va vn vc) p (.slice (some ⟨b0, 0, none⟩) c.cells k0), .slice (some ⟨rb, 0, none⟩) c.cells c.cells, .int .i64 (p.t0 + ((k + 1 : Nat) : Int)), clrV fb] lim A3 = some (.slice (some ⟨rb3, 0, none⟩) c.cells c.cells, A4)) ∧ Aft A2 A3 ∧ Aft A2 A4 ∧ A2.length ≤ rb3 ∧ A4[rb3]? = some (.rw 1 (ints ((wyM c ls p).row (k + 1)))) := fun A2 hA2 hx hkk => by
    obtain ⟨fb, A3, rb3, A4, r1, r2, r3, r4, r5, r6⟩ := run_nextT (h.ext hA2.ext) k (by omega) rb hx
    rw [etk]
    exact ⟨fb, A3, rb3, A4, r1, r2, r3, r4, r5, r6⟩
  have tabx : ∀ {A2 A4 v}, TabO H.length A2 v (rowsL (wyM c ls p) (k + 1)) → Aft A2 A4 → TabO H.length A4 v (rowsL (wyM c ls p) (k + 1)) := fun {A2 A4 v} hT hE => by
    obtain ⟨rv, hl, hT⟩ := hT
    refine ⟨rv, hl, ?_⟩
    rcases hT with hT | ⟨hne, b, hb, ev, hbA, hr⟩
    · exact .inl hT
    · exact .inr ⟨hne, b, hb, ev, hE.ext _ _ hbA, fun j h1 h2 => (hr j h1 h2).aft (Nat.le_refl _) hE.ext⟩
  simp only [trV, rnV, clrV, ed, et, es] at htk rest
  simp only [rnC, ed, et, es] at fL
  obtain ⟨tick, htick⟩ : ∃ tick, p.t0 + ((k + 1 : Nat) : Int) = tick := ⟨_, rfl⟩
  rcases hbx with ⟨hls, e6, hT⟩ | ⟨b, rv, hb, hne, hlen, e6, hbA, z1, z2, z3, hT⟩
  · have hk0 : k = 0 := by
      have := congrArg List.length hls
      simpa [rowsL] using this
    obtain ⟨A2, hA2⟩ : ∃ A2 : AH, A2 = A ++ [ABlk.rw 1 [.slice (some ⟨rb, 0, none⟩) c.cells c.cells], .rw 1 [.slice (some ⟨rb, 0, none⟩) c.cells c.cells]] := ⟨_, rfl⟩
    have a2 : Aft H A2 := by rw [hA2]; exact fA.push _
    have x2 : A2[rb]? = some (.rw 1 (ints ((wyM c ls p).row k))) := by rw [hA2]; exact own_get fr _
    rw [← hA2] at hT
    have htk2 := htk A2 a2
    have rst := rest A2 a2 x2
    have hlt2 : p.t0 + 1 = tick := by rw [← htick, hk0]; rfl
    rw [htick] at htk2 rst hw
    clear htk rest
    generalize hcs : ints ((wyM c ls p).row k) = cs at *
    generalize hyy : ((wyM c ls p).row k).getD to (-1) = y at *
    rw [hA2] at htk2
    cases hin : inN c.tide.length tick with
    | false =>
      rw [hin] at htk2
      simp [-Int.natCast_add, -oneC, -Array.all_eq_false, -Array.all_toList, oneC_slice, oneC_int, oneC_boolW, rtLoop6, SC.loops, sf_lanes_run_route, f1, f2, e6, f7, fL, fl, hAA, eto, fr, hcl, htoI, hto, hy', frd, ew, hm1, hlt2, hw, htk2]
      intro j hj
      have hge : ¬ k + 1 < c.ticks - p.t0.toNat := fun hlt => by
        have : inN c.tide.length tick = true := inN_iff.2 ⟨p.t0.toNat + (k + 1), by show p.t0.toNat + (k + 1) < c.ticks; omega, by omega⟩
        rw [hin] at this; cases this
      simpa using hnoS j (by omega)
    | true =>
      rw [hin] at htk2
      have hlt : k + 1 < c.ticks - p.t0.toNat := by
        obtain ⟨y, hy1, hy2⟩ := inN_iff.1 hin
        have hy1 : y < c.ticks := hy1
        omega
      obtain ⟨fb, A3, rb3, A4, r1, r2, r3, r4, r5, r6⟩ := rst hlt
      rw [hA2] at r1
      simp only [eto, ew] at r1 r2
      simp [-Int.natCast_add, -oneC, -Array.all_eq_false, -Array.all_toList, oneC_slice, oneC_int, oneC_boolW, rtLoop6, SC.loops, sf_lanes_run_route, f1, f2, e6, f7, fL, fl, hAA, eto, fr, hcl, htoI, hto, hy', frd, ew, hm1, hlt2, hw, htk2, r1, r2, and_assoc]
      exact ⟨c.ticks - (k + 1), hmm, k + 1, hlt, rfl, fun j hj => by simpa using hnoS j hj, rb3, Nat.le_trans a2.le r5, rfl, r6, tabx hT r4, by simp [rnC, eto, ed, et, es], a2.trans r4⟩
  · have hk0 : rv.length = k := by rw [hlen, rowsL_length]
    rw [hk0] at e6 hT
    have hrbb : rb ≠ b := fun e => by
      rw [e] at fr
      rw [hbA] at fr
      simp only [Option.some.injEq, ABlk.rw.injEq, true_and] at fr
      exact z3 _ fr
    obtain ⟨A2, hA2⟩ : ∃ A2 : AH, A2 = A.set b .dead ++ [ABlk.rw 1 [.slice (some ⟨rb, 0, none⟩) c.cells c.cells], .rw 1 (rv ++ [.slice (some ⟨rb, 0, none⟩) c.cells c.cells])] := ⟨_, rfl⟩
    have a2 : Aft H A2 := by rw [hA2]; exact (fA.set hb _).push _
    have x2 : A2[rb]? = some (.rw 1 (ints ((wyM c ls p).row k))) := by
      rw [hA2]
      refine own_get ?_ _
      rw [List.getElem?_set_ne (Ne.symm hrbb)]
      exact fr
    rw [← hA2] at hT
    have htk2 := htk A2 a2
    have rst := rest A2 a2 x2
    rw [htick] at htk2 rst hw
    clear htk rest
    have hl0 : ¬ k = 0 := by
      have : rv.length ≠ 0 := by simpa using hne
      omega
    have hl0' : ¬ rv.length = 0 := by omega
    have hmx : k + 1 ≤ maxA := Nat.le_trans (show _ ≤ 1000 by omega) (by decide)
    have hcA : ∀ L x, cellsAt L (A ++ x) ⟨b, 0, none⟩ k = some rv := fun L x => by rw [← hk0]; exact own_cells hbA L x
    have hbX := fun x => own_get hbA x
    have hsX := fun x y => own_set hbA x y
    generalize hcs : ints ((wyM c ls p).row k) = cs at *
    generalize hyy : ((wyM c ls p).row k).getD to (-1) = y at *
    rw [hA2] at htk2
    cases hin : inN c.tide.length tick with
    | false =>
      rw [hin] at htk2
      simp [-Int.natCast_add, -oneC, -Array.all_eq_false, -Array.all_toList, -List.all_eq_true, oneC_slice, oneC_int, oneC_boolW, rtLoop6, SC.loops, sf_lanes_run_route, f1, f2, e6, f7, fL, fl, hAA, eto, fr, hcl, htoI, hto, hy', frd, ew, hl0, hl0', hk0, hne, hmx, hcA, hbX, hsX, z1, z2, hb, htick, hw, htk2]
      intro j hj
      have hge : ¬ k + 1 < c.ticks - p.t0.toNat := fun hlt => by
        have : inN c.tide.length tick = true := inN_iff.2 ⟨p.t0.toNat + (k + 1), by show p.t0.toNat + (k + 1) < c.ticks; omega, by omega⟩
        rw [hin] at this; cases this
      simpa using hnoS j (by omega)
    | true =>
      rw [hin] at htk2
      have hlt : k + 1 < c.ticks - p.t0.toNat := by
        obtain ⟨y, hy1, hy2⟩ := inN_iff.1 hin
        have hy1 : y < c.ticks := hy1
        omega
      obtain ⟨fb, A3, rb3, A4, r1, r2, r3, r4, r5, r6⟩ := rst hlt
      rw [hA2] at r1
      simp only [eto, ew] at r1 r2
      simp [-Int.natCast_add, -oneC, -Array.all_eq_false, -Array.all_toList, -List.all_eq_true, oneC_slice, oneC_int, oneC_boolW, rtLoop6, SC.loops, sf_lanes_run_route, f1, f2, e6, f7, fL, fl, hAA, eto, fr, hcl, htoI, hto, hy', frd, ew, hl0, hl0', hk0, hne, hmx, hcA, hbX, hsX, z1, z2, hb, htick, hw, htk2, r1, r2, and_assoc]
      exact ⟨c.ticks - (k + 1), hmm, k + 1, hlt, rfl, fun j hj => by simpa using hnoS j hj, rb3, Nat.le_trans a2.le r5, rfl, r6, tabx hT r4, by simp [rnC, eto, ed, et, es], a2.trans r4⟩
end Go.Proofs.YthobfecblpnnnaaGreatDoor

/- Contracts of layer 6, the program: a route is found. -/
set_option linter.all false
namespace Go.Proofs.YthobfecblpnnnaaGreatDoor
open Go Go.RowKit

/-- The route that is found, in the heap; or none. -/
def RtR (H A : AH) (v : Value) (o : Option (List Nat)) : Prop := match o with
  | some ns => ∃ b, H.length ≤ b ∧ v = .tuple #[.slice (some ⟨b, 0, none⟩) ns.length ns.length, .bool true] ∧ A[b]? = some (.rw 1 (ints (ns.map Int.ofNat)))
  | none => v = .tuple #[.slice none 0 0, .bool false] ∧ A = H

set_option maxHeartbeats 4000000 in
theorem run_route {c : Ch} {ls : List Lg} {H : AH} (hH : noLp H = true) {d t s : Value} {va : Option Addr} {vn vc : Nat} {p : Tp} {b0 k0 : Nat} {w : Value} (h : RtC c ls H d t s va vn vc p b0 k0 w) :
    ∃ v A, (∀ lim, apL Tryz.prog pf (.func (.func 44) #[] #[]) [rnV c d t s (.slice va vn vc) p (.slice (some ⟨b0, 0, none⟩) c.cells k0), w] lim H = some (v, A)) ∧ Aft H A ∧ RtR H A v (routeM c ls p) := by
  suffices key : ∀ lim, ∃ v A, apL Tryz.prog pf (.func (.func 44) #[] #[]) [rnV c d t s (.slice va vn vc) p (.slice (some ⟨b0, 0, none⟩) c.cells k0), w] lim H = some (v, A) ∧ Aft H A ∧ RtR H A v (routeM c ls p) by
    obtain ⟨r, A, h1, h2⟩ := key 0
    refine ⟨r, A, fun lim => ?_, h2⟩
    rw [← h1, apL_func _ _ _ _ _ _ (by rfl), apL_func _ _ _ _ _ _ (by rfl)]
    simp only [pf_pure, show pureF 44 = true from rfl, if_true]
  intro lim
  obtain ⟨fb, A1, rb0, A2, r1, r2, a1, a2, hrb0, hr0⟩ := run_firstT h
  obtain ⟨q0, q1, q2, q3, q4, to, eto, hto⟩ := h.t0
  have hto' : p.to.toNat = to := by omega
  obtain ⟨⟨da, dn, dc, ed⟩, ⟨ta, tn, tc, et⟩, ⟨sa, sn, sc, es⟩⟩ := h.ch.vals
  obtain ⟨wa, wc, ew⟩ := h.lg.sl.one
  have hal := fun S => rt_loop6 h S
  rw [apL_func _ _ _ _ _ _ (by rfl), sf_lanes_run_route_eq]
  simp only [rnV, clrV, ed, et, es, ew] at r1 r2 ⊢
  simp [-oneC, -Array.all_eq_false, -Array.all_toList, -List.all_eq_true, oneC_slice, oneC_int, oneC_boolW, lsEq_self, vEq_self, sf_lanes_run_route, r1, r2, pf_pure, pureF]
  generalize hS : ({ t := _, L := _, H := _, lim := _, rd := _ } : St) = S
  obtain ⟨⟨e, s1⟩, hr, g⟩ := hal S (by subst hS; simp [ew]) (by subst hS; simp) (by subst hS; simp) rb0 hrb0 (by subst hS; simp) (by subst hS; exact hr0) (by subst hS; simp [rnC, ed, et, es]) (by subst hS; exact a2) (by subst hS; rfl)
  simp [rtLoop6, SC.loops, sf_lanes_run_route] at hr
  rw [hr]
  simp only at g
  have hrm : routeM c ls p = ((wyM c ls p).first (c.ticks - p.t0.toNat) to).map fun k => (wyM c ls p).back k to := by
    unfold routeM Wy.route
    rw [hto']
  rw [hto'] at g
  rcases g with ⟨rfl, g4, g5, gno⟩ | ⟨rfl, gl, grd, g2, gL, gA, k, rb, hk, hno, hy, hrb, g7, gr, gO⟩
  · rw [hrm, Wy.first_none gno]
    refine ⟨.tuple #[.slice none 0 0, .bool false], H, ?_, Aft.refl H, rfl, rfl⟩
    simp [g4, g5]
  · rw [hrm, Wy.first_some hk hy hno]
    have hrl : ((wyM c ls p).row k).length = c.cells := (wyM c ls p).row_length k
    obtain ⟨A, hAA⟩ : ∃ A, s1.H = A := ⟨_, rfl⟩
    rw [hAA] at gA gr gO
    have hrw : RwIn H.length A.length A (.slice (some ⟨rb, 0, none⟩) c.cells c.cells) ((wyM c ls p).row k) := ⟨rb, c.cells, hrb, (List.getElem?_eq_some_iff.1 gr).1, by rw [hrl], gr⟩
    have hbx := gO.push gA.le (Aft.refl A) hrw
    rw [← rowsL_succ] at hbx
    have hm1 : 1 ≤ maxA := by decide
    have hnear : ∀ i, i < (wyM c ls p).N → ∀ b ∈ (wyM c ls p).near i, b < (wyM c ls p).N := fun i hi b hb => nearM_lt hb
    have htr : ∀ A2 pb pc, TabO H.length A2 (.slice (some ⟨pb, 0, none⟩) (k + 1) pc) (rowsL (wyM c ls p) (k + 1)) → ∃ A3, (∀ lim, apL Tryz.prog pf (.func (.func 73) #[] #[]) [.slice (some ⟨pb, 0, none⟩) (k + 1) pc, .int .i64 to] lim A2 = some (.slice (some ⟨A2.length, 0, none⟩) (k + 1) (k + 1), A3)) ∧ Aft A2 A3 ∧ A3[A2.length]? = some (.rw 1 (ints (((wyM c ls p).back k to).map Int.ofNat))) := fun A2 pb pc hT => by
      have := run_trace6 c.cells A2 (some ⟨pb, 0, none⟩) (k + 1) pc (by omega) (by omega) (rowsL (wyM c ls p) (k + 1)) (rowsL_length _ _) (fun m hm => by rw [rowsL_get]; exact (wyM c ls p).row_length m) hT.tab (bkT (wyM c ls p) k to) (fun q hq => (bkT_ok hnear hto hy q (by omega)).1) (fun q i hi hqi hi0 => by
        rw [rowsL_get, show i = k - q by omega]
        exact bkT_val hnear hto hy (by omega))
      rw [trT_back] at this
      exact this
    have hbl : ((wyM c ls p).back k to).length = k + 1 := (wyM c ls p).back_length k to
    simp only [rnC, ed, et, es] at gL
    rcases hbx with ⟨hls, e6, hT⟩ | ⟨b, rv, hb, hne, hlen, e6, hbA, z1, z2, z3, hT⟩
    · have hk0 : k = 0 := by
        have := congrArg List.length hls
        simpa [rowsL] using this
      subst hk0
      obtain ⟨A3, r3, a3, b3⟩ := htr _ _ _ hT
      have hq := hpEq_self (a3.nlp ((gA.push [ABlk.rw 1 [.slice (some ⟨rb, 0, none⟩) c.cells c.cells], .rw 1 [.slice (some ⟨rb, 0, none⟩) c.cells c.cells]]).nlp hH))
      refine ⟨.tuple #[.slice (some ⟨A.length + 2, 0, none⟩) 1 1, .bool true], A3, ?_, (gA.push _).trans a3, A.length + 2, by have := gA.le; omega, by rw [hbl], by simpa using b3⟩
      simp [-oneC, -Array.all_eq_false, -Array.all_toList, -List.all_eq_true, -hpEq, -lsEq, -vEq, -lcEq, -vEqL, oneC_slice, oneC_int, oneC_boolW, lsEq_self, vEq_self, g2, e6, g7, gL, gl, hAA, eto, hm1, r3, hq]
    · have hk0 : rv.length = k := by rw [hlen, rowsL_length]
      rw [hk0] at e6 hT
      obtain ⟨A3, r3, a3, b3⟩ := htr _ _ _ hT
      have hq := hpEq_self (a3.nlp (((gA.set hb .dead).push [ABlk.rw 1 [.slice (some ⟨rb, 0, none⟩) c.cells c.cells], .rw 1 (rv ++ [.slice (some ⟨rb, 0, none⟩) c.cells c.cells])]).nlp hH))
      have hl0 : ¬ k = 0 := by
        have : rv.length ≠ 0 := by simpa using hne
        omega
      have hl0' : ¬ rv.length = 0 := by omega
      have hmx : k + 1 ≤ maxA := Nat.le_trans (show _ ≤ 1000 by omega) (by decide)
      have hcA : ∀ L x, cellsAt L (A ++ x) ⟨b, 0, none⟩ k = some rv := fun L x => by rw [← hk0]; exact own_cells hbA L x
      have hbX := fun x => own_get hbA x
      have hsX := fun x y => own_set hbA x y
      have e2 : (A.set b .dead ++ [ABlk.rw 1 [.slice (some ⟨rb, 0, none⟩) c.cells c.cells], .rw 1 (rv ++ [.slice (some ⟨rb, 0, none⟩) c.cells c.cells])]).length = A.length + 2 := by simp
      rw [e2] at r3 b3
      refine ⟨.tuple #[.slice (some ⟨A.length + 2, 0, none⟩) (k + 1) (k + 1), .bool true], A3, ?_, ((gA.set hb _).push _).trans a3, A.length + 2, by have := gA.le; omega, by rw [hbl], b3⟩
      simp [-oneC, -Array.all_eq_false, -Array.all_toList, -List.all_eq_true, -hpEq, -lsEq, -vEq, -lcEq, -vEqL, oneC_slice, oneC_int, oneC_boolW, lsEq_self, vEq_self, g2, e6, g7, gL, gl, hAA, eto, hl0, hl0', hk0, hne, hmx, hcA, hbX, hsX, z1, z2, hb, r3, hq]
end Go.Proofs.YthobfecblpnnnaaGreatDoor
