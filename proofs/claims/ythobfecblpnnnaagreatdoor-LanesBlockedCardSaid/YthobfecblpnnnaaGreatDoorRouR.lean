import Derived.Test.YthobfecblpnnnaaGreatDoorRouF

/- Contracts of the functions: numbers cloned, deleted; what is needed. -/
set_option linter.all false
namespace Go.Proofs.YthobfecblpnnnaaGreatDoor
open Go Go.RowKit

/-- The first cells of a block of one's own. -/
def LV (A : AH) (v : Value) (l : List Int) : Prop := ∃ b k rest, v = .slice (some ⟨b, 0, none⟩) l.length k ∧ A[b]? = some (.rw 1 (ints l ++ rest))
theorem LV.sl {A : AH} {v : Value} {l : List Int} (h : LV A v l) : Sl A v l.length (ints l) := by
  obtain ⟨b, k, rest, rfl, hb⟩ := h
  exact ⟨_, _, rfl, fun j x hx => ⟨b, 0, rfl, by simp only [hcell, hb, Nat.zero_add]; rw [List.getElem?_append_left (List.getElem?_eq_some_iff.1 hx).1]; exact hx⟩⟩

theorem run_Clone6 (l : List Int) (hl : l.length ≤ 1000) (A : AH) (v : Value) (hv : LV A v l) (lim : Nat) :
    ∃ b k X, apL Tryz.prog pf (.func (.func 114) #[] #[]) [v] lim A = some (.slice (some ⟨b, 0, none⟩) l.length k, A ++ X) ∧ noLp X = true ∧ A.length ≤ b ∧ (A ++ X)[b]? = some (.rw 1 (ints l)) := by
  obtain ⟨vb, vk, rest, rfl, hb⟩ := hv
  rw [apL_func _ _ _ _ _ _ (by rfl), sf_slices_Clone_int_int_eq]
  have hbl : vb < A.length := (List.getElem?_eq_some_iff.1 hb).1
  by_cases h0 : l.length = 0
  · refine ⟨A.length, 0, [.rw 1 []], ?_, rfl, Nat.le_refl _, ?_⟩
    · simp [sf_slices_Clone_int_int, h0, pf_pure, pureF]
    · rw [List.eq_nil_of_length_eq_zero h0, List.getElem?_append_right (Nat.le_refl _), Nat.sub_self]
      rfl
  · have hcA : ∀ L x, cellsAt L (A ++ x) ⟨vb, 0, none⟩ l.length = some (ints l) := fun L x => by
      have hil := ints_length l
      rw [← hil]
      refine cellsAt_of _ 0 fun m y hy => ?_
      simp only [hcell, Nat.zero_add]
      rw [own_get hb x]
      simp only
      rw [List.getElem?_append_left (List.getElem?_eq_some_iff.1 hy).1]
      exact hy
    have i1 := nlL_ints l
    have o1 := one_ints l
    have hmx : l.length ≤ maxA := Nat.le_trans hl (by decide)
    refine ⟨A.length + 1, l.length + 1, [.rw 1 [], .rw 1 (ints l)], ?_, rfl, by omega, ?_⟩
    · generalize ints l = cs at *
      simp [-oneC, -List.all_eq_true, oneC_slice, oneC_int, sf_slices_Clone_int_int, h0, hcA, i1, o1, hmx, pf_pure, pureF]
    · rw [List.getElem?_append_right (by omega), Nat.add_sub_cancel_left]
      rfl

theorem over_tk6 : ∀ (ws : List Value) (k : Nat) (cs : List Value), (over cs k ws).take k = cs.take k
  | [], k, cs => rfl
  | w :: ws, k, cs => by
    have ih := over_tk6 ws (k + 1) (cs.set k w)
    have h2 := congrArg (List.take k) ih
    rw [List.take_take, List.take_take, Nat.min_eq_left (by omega)] at h2
    show (over (cs.set k w) (k + 1) ws).take k = cs.take k
    rw [h2, List.take_set_of_le (Nat.le_refl _)]

def dlLoop : SC := sf_slices_DeleteFunc_int_int.body.loops.headD .skip

theorem take_set_succ (c : List Int) (m : Nat) (x : Int) (hm : m < c.length) : (c.set m x).take (m + 1) = c.take m ++ [x] := by
  rw [List.take_succ_eq_append_getElem (by simpa using hm), List.take_set_of_le (Nat.le_refl _)]
  simp

set_option maxHeartbeats 1000000 in
theorem dl_loop (l : List Int) (hl : l.length ≤ 1000) (p : Int → Bool) (A : AH) (b q : Nat) (hb : b < A.length) (f : Value) (hfn : nl f = true) (hf : ∀ z x lim, apL Tryz.prog pf f [.int .i64 x] lim (A.set b (.rw 1 z)) = some (.bool (p x), A.set b (.rw 1 z))) (m0 : Nat) (hm0 : m0 < l.length) (h0 : l.take m0 = (l.take (m0 + 1)).filter (fun x => !p x)) (S : St)
    (e0 : tget S.t 0 = .slice (some ⟨b, 0, none⟩) l.length q) (e1 : tget S.t 1 = f) (e5 : tget S.t 5 = .int .i64 m0) (e6 : tget S.t 6 = .int .i64 ((m0 + 1 : Nat) : Int)) (hH : S.H = A.set b (.rw 1 (ints l))) (hlim : S.lim ≤ b) :
    ∃ r, exL Tryz.prog pf (.loop dlLoop) S = some r ∧ (r.1 = .exit 0 ∧ tget r.2.t 0 = tget S.t 0 ∧ r.2.lim = S.lim ∧ ∃ (m : Nat) (c : List Int), m < l.length ∧ c.length = l.length ∧ c.take m = l.filter (fun x => !p x) ∧ tget r.2.t 5 = .int .i64 m ∧ r.2.H = A.set b (.rw 1 (ints c))) := by
  refine loop_rule (I := fun n s' => ∃ (j m : Nat) (c : List Int), j ≤ l.length ∧ n = l.length - j ∧ m < j ∧ c.length = l.length ∧ c.take m = (l.take j).filter (fun x => !p x) ∧ c.drop j = l.drop j ∧ tget s'.t 0 = tget S.t 0 ∧ tget s'.t 1 = f ∧ tget s'.t 5 = .int .i64 m ∧ tget s'.t 6 = .int .i64 j ∧ s'.lim = S.lim ∧ s'.H = A.set b (.rw 1 (ints c))) ?_ (l.length - (m0 + 1)) S
    ⟨m0 + 1, m0, l, by omega, rfl, by omega, rfl, h0, rfl, rfl, e1, e5, e6, rfl, hH⟩
  rintro n s' ⟨j, m, c, hj, rfl, hmj, hcl, hct, hcd, f0, f1, f5, f6, fl, fH⟩
  rw [e0] at f0
  by_cases hlt : j < l.length
  rotate_left
  · have : j = l.length := by omega
    subst this
    rw [List.take_length] at hct
    simp [dlLoop, SC.loops, sf_slices_DeleteFunc_int_int, f0, f1, f5, f6, fl, fH, e0]
    exact ⟨m, hmj, c, hcl, hct, rfl, rfl⟩
  have hltI : (j : Int) < (l.length : Int) := by omega
  have hw : IntKind.i64.wrap ((j : Int) + 1) = ((j + 1 : Nat) : Int) := by rw [wrap_i64 (by omega) (by omega)]; omega
  have hwm : IntKind.i64.wrap ((m : Int) + 1) = ((m + 1 : Nat) : Int) := by rw [wrap_i64 (by omega) (by omega)]; omega
  obtain ⟨x, hx⟩ : ∃ x, l[j] = x := ⟨_, rfl⟩
  have hcj : c[j]'(by omega) = x := by
    have h1 : (c.drop j)[0]? = (l.drop j)[0]? := by rw [hcd]
    rw [List.getElem?_drop, List.getElem?_drop, List.getElem?_eq_getElem (by omega), List.getElem?_eq_getElem (by omega)] at h1
    simp at h1
    rw [h1, hx]
  have hcx : (ints c)[j]? = some (.int .i64 x) := by simp [ints, show j < c.length by omega, hcj]
  have hgb : (A.set b (.rw 1 (ints c)))[b]? = some (.rw 1 (ints c)) := List.getElem?_set_self hb
  have hset : ∀ y z, (A.set b y).set b z = A.set b z := fun y z => List.set_set ..
  have hfx := fun lim => hf (ints c) x lim
  have htk : l.take (j + 1) = l.take j ++ [x] := by rw [List.take_succ_eq_append_getElem hlt, hx]
  have hd1 : ∀ c' : List Int, c'.drop j = l.drop j → c'.drop (j + 1) = l.drop (j + 1) := fun c' h => by
    have := congrArg (List.drop 1) h
    rw [List.drop_drop, List.drop_drop] at this
    exact this
  have hil : (ints c).length = l.length := by rw [ints_length, hcl]
  cases hp : p x with
  | true =>
    rw [hp] at hfx
    have hc2 : c.take m = (l.take (j + 1)).filter (fun x => !p x) := by rw [htk, List.filter_append, hct]; simp [hp]
    have hcd2 := hd1 c hcd
    have d1 : ∀ h : j < (ints c).length, (ints c)[j]'h = .int .i64 x := fun h => by rw [List.getElem?_eq_getElem h] at hcx; exact Option.some.inj hcx
    generalize hcs : ints c = cs at *
    simp [-Int.natCast_add, dlLoop, SC.loops, sf_slices_DeleteFunc_int_int, f0, f1, f5, f6, fl, fH, e0, hltI, hlt, hgb, hcx, d1, hil, hfn, hfx, hw, and_assoc]
    exact ⟨l.length - (j + 1), by omega, j + 1, by omega, rfl, m, by omega, c, hcl, hc2, hcd2, rfl, rfl, by rw [hcs]⟩
  | false =>
    rw [hp] at hfx
    have hc2 : (c.set m x).take (m + 1) = (l.take (j + 1)).filter (fun x => !p x) := by
      rw [take_set_succ _ _ _ (by omega), htk, List.filter_append, hct]
      simp [hp]
    have hcd2 : (c.set m x).drop (j + 1) = l.drop (j + 1) := by
      rw [List.drop_set_of_lt (by omega)]
      exact hd1 c hcd
    have hse : (ints c).set m (.int .i64 x) = ints (c.set m x) := by simp [ints, List.map_set]
    have hmI : (m : Int) < (l.length : Int) := by omega
    have hml : m < l.length := by omega
    have hm1 : m + 1 ≤ l.length := by omega
    have d1 : ∀ h : j < (ints c).length, (ints c)[j]'h = .int .i64 x := fun h => by rw [List.getElem?_eq_getElem h] at hcx; exact Option.some.inj hcx
    generalize hcs : ints c = cs at *
    simp [-Int.natCast_add, dlLoop, SC.loops, sf_slices_DeleteFunc_int_int, f0, f1, f5, f6, fl, fH, e0, hltI, hlt, hgb, hcx, d1, hfn, hfx, hw, hwm, hmI, hml, hm1, hil, hset, hse, hlim, and_assoc]
    exact ⟨l.length - (j + 1), by omega, j + 1, by omega, rfl, m + 1, by omega, c.set m x, by simp [hcl], hc2, hcd2, rfl, rfl, rfl⟩

theorem idxM_ok {α : Type} (p : α → Bool) : ∀ xs : List α, (idxM p xs = -1 ∧ ∀ x ∈ xs, p x = false) ∨ ∃ m : Nat, ∃ h : m < xs.length, idxM p xs = m ∧ p xs[m] = true ∧ ∀ j (hj : j < xs.length), j < m → p xs[j] = false
  | [] => .inl ⟨rfl, fun x hx => by simp at hx⟩
  | x :: xs => by
    cases hp : p x with
    | true => exact .inr ⟨0, by simp, by simp [idxM, hp], hp, fun j hj h => by omega⟩
    | false =>
      rcases idxM_ok p xs with ⟨h1, h2⟩ | ⟨m, h, h1, h2, h3⟩
      · refine .inl ⟨by simp [idxM, hp, h1]; rfl, fun y hy => ?_⟩
        rcases List.mem_cons.1 hy with rfl | hy
        · exact hp
        · exact h2 y hy
      · refine .inr ⟨m + 1, by simpa using h, ?_, by simpa using h2, fun j hj hjm => ?_⟩
        · simp only [idxM, hp, Bool.false_eq_true, if_false, h1]
        · cases j with
          | zero => exact hp
          | succ j => simpa using h3 j (by simpa using hj) (by omega)

theorem run_Delete6 (l : List Int) (hl : l.length ≤ 1000) (p : Int → Bool) (A : AH) (b q : Nat) (hbA : A[b]? = some (.rw 1 (ints l))) (f : Value) (hfn : nl f = true ∧ isU f = false ∧ f.cells = #[f]) (hf : ∀ z x lim, apL Tryz.prog pf f [.int .i64 x] lim (A.set b (.rw 1 z)) = some (.bool (p x), A.set b (.rw 1 z))) (lim : Nat) (hlim : lim ≤ b) :
    ∃ k rest, apL Tryz.prog pf (.func (.func 113) #[] #[]) [.slice (some ⟨b, 0, none⟩) l.length q, f] lim A = some (.slice (some ⟨b, 0, none⟩) (l.filter (fun x => !p x)).length k, A.set b (.rw 1 (ints (l.filter (fun x => !p x)) ++ rest))) := by
  have hbl : b < A.length := (List.getElem?_eq_some_iff.1 hbA).1
  have hAA : A.set b (.rw 1 (ints l)) = A := by
    obtain ⟨h1, h2⟩ := List.getElem?_eq_some_iff.1 hbA
    rw [← h2, List.set_getElem_self]
  have hfA : ∀ x lim, apL Tryz.prog pf f [.int .i64 x] lim A = some (.bool (p x), A) := fun x lim => by
    have := hf (ints l) x lim
    rwa [hAA] at this
  have hI := fun lim => run_idxI l (by omega) A lim (.slice (some ⟨b, 0, none⟩) l.length q) f hfn p (Sl.made hbA rfl) (fun x _ lim => hfA x lim)
  rw [apL_func _ _ _ _ _ _ (by rfl), sf_slices_DeleteFunc_int_int_eq]
  obtain ⟨hn, hu, hc⟩ := hfn
  rcases idxM_ok p l with ⟨h1, h2⟩ | ⟨m, hm, h1, h2, h3⟩
  · rw [h1] at hI
    have hfil : l.filter (fun x => !p x) = l := List.filter_eq_self.2 fun x hx => by rw [h2 x hx]; rfl
    refine ⟨q, [], ?_⟩
    rw [hfil, show ints l ++ [] = ints l from List.append_nil _, hAA]
    simp [-isU, -Value.cells, sf_slices_DeleteFunc_int_int, hn, hu, hc, hI, pf_pure, pureF]
  · rw [h1] at hI
    have h0 : l.take m = (l.take (m + 1)).filter (fun x => !p x) := by
      rw [List.take_succ_eq_append_getElem hm, List.filter_append]
      have e1 : (l.take m).filter (fun x => !p x) = l.take m := List.filter_eq_self.2 fun x hx => by
        obtain ⟨j, hj, rfl⟩ := List.mem_iff_getElem.1 hx
        rw [List.getElem_take, h3 j (by simp at hj; omega) (by simp at hj; omega)]
        rfl
      rw [e1]
      simp [h2]
    have hw : IntKind.i64.wrap ((m : Int) + 1) = ((m + 1 : Nat) : Int) := by rw [wrap_i64 (by omega) (by omega)]; omega
    have hne : ((m : Int) == -1) = false := by
      have : ¬ (m : Int) = -1 := by omega
      simpa using this
    have hlo := fun S => dl_loop l hl p A b q hbl f hn hf m hm h0 S
    simp [-isU, -Value.cells, -Int.natCast_add, sf_slices_DeleteFunc_int_int, hn, hu, hc, hI, hne, hw, pf_pure, pureF]
    generalize hS : ({ t := _, L := _, H := _, lim := _, rd := _ } : St) = S
    obtain ⟨⟨e, s1⟩, hr, g0, gt0, gl, m', c, hm', hcl, hct, g5, gH⟩ := hlo S (by subst hS; simp) (by subst hS; simp) (by subst hS; simp) (by subst hS; simp) (by subst hS; exact hAA.symm) (by subst hS; exact hlim)
    simp [dlLoop, SC.loops, sf_slices_DeleteFunc_int_int] at hr
    rw [hr]
    simp only at g0 gt0 gl g5 gH
    subst g0
    have z0 : tget S.t 0 = .slice (some ⟨b, 0, none⟩) l.length q := by subst hS; simp
    have zl : S.lim = lim := by subst hS; rfl
    rw [z0] at gt0
    rw [zl] at gl
    have hflen : (l.filter (fun x => !p x)).length = m' := by rw [← hct]; simp; omega
    have hgb : (A.set b (.rw 1 (ints c)))[b]? = some (.rw 1 (ints c)) := List.getElem?_set_self hbl
    have hset : ∀ y z, (A.set b y).set b z = A.set b z := fun y z => List.set_set ..
    have hil : (ints c).length = l.length := by rw [ints_length, hcl]
    have hzl : (zeros [.int .i64 0] (l.length - m')).length = l.length - m' := by rw [zeros_ints', ints_length]; simp
    have hznl : nlL (zeros [.int .i64 0] (l.length - m')) = true := by rw [zeros_ints']; exact nlL_ints _
    have hov := over_tk6 (zeros [.int .i64 0] (l.length - m')) m' (ints c)
    have hpre : (ints c).take m' = ints (l.filter (fun x => !p x)) := by rw [← hct]; simp [ints, List.map_take]
    refine ⟨if q = l.length then l.length else m' + 1, (over (ints c) m' (zeros [.int .i64 0] (l.length - m'))).drop m', ?_⟩
    rw [← hpre, ← hov, List.take_append_drop, hflen]
    have hmI : (m' : Int) ≤ (l.length : Int) := by omega
    have hml : m' ≤ l.length := by omega
    have hmne : ¬ m' = l.length := by omega
    have hmneI : ¬ (m' : Int) = (l.length : Int) := by omega
    have hsub : ¬ l.length - m' = 0 := by omega
    have hadd : m' + (l.length - m') ≤ l.length := by omega
    generalize hzz : zeros [.int .i64 0] (l.length - m') = zz at *
    generalize hcs : ints c = cs at *
    generalize hoo : over cs m' zz = oo at *
    have hgo : (A.set b (.rw 1 oo))[b]? = some (.rw 1 oo) := List.getElem?_set_self hbl
    simp [hgo, gt0, gl, g5, gH, hgb, hset, hil, hmI, hml, hmne, hmneI, hsub, hzz, hzl, hznl, hoo, hadd, hlim]
end Go.Proofs.YthobfecblpnnnaaGreatDoor

/- Contracts of the functions: what is needed. -/
set_option linter.all false
namespace Go.Proofs.YthobfecblpnnnaaGreatDoor
open Go Go.RowKit

/-- What is left when one number after the other is taken away as long as the others suffice. -/
def neededTo (bl : List Int → Bool) (n : Nat) : Nat → List Int
  | 0 => (List.range n).map Int.ofNat
  | k + 1 => if bl ((neededTo bl n k).filter (fun x => !(x == (k : Int)))) = true then (neededTo bl n k).filter (fun x => !(x == (k : Int))) else neededTo bl n k

theorem needed_mem {bl : List Int → Bool} {n : Nat} : ∀ k, ∀ x ∈ neededTo bl n k, ∃ m : Nat, m < n ∧ x = m
  | 0, x, hx => by
    obtain ⟨m, hm, rfl⟩ := List.mem_map.1 hx
    exact ⟨m, List.mem_range.1 hm, rfl⟩
  | k + 1, x, hx => by
    simp only [neededTo] at hx
    split at hx
    · exact needed_mem k x ((List.mem_filter.1 hx).1)
    · exact needed_mem k x hx
theorem needed_len {bl : List Int → Bool} {n : Nat} : ∀ k, (neededTo bl n k).length ≤ n
  | 0 => by simp [neededTo]
  | k + 1 => by
    simp only [neededTo]
    split
    · exact Nat.le_trans (List.length_filter_le _ _) (needed_len k)
    · exact needed_len k

/-- A function value that says something of numbers below n. -/
def SufF (H : AH) (f : Value) (n : Nat) (bl : List Int → Bool) : Prop := (nl f = true ∧ isU f = false ∧ f.cells = #[f]) ∧ ∀ A, Ext H A → noLp A = true → ∀ (l : List Int) (v : Value), (∀ x ∈ l, ∃ m : Nat, m < n ∧ x = m) → l.length ≤ n → Sl A v l.length (ints l) → ∀ lim, apL Tryz.prog pf f [v] lim A = some (.bool (bl l), A)

def nd1Loop : SC := sf_lists_Needed.body.loops.headD .skip
def nd2Loop : SC := sf_lists_Needed.body.loops.getD 1 .skip

theorem nd1_loop (n : Nat) (hn : n ≤ 100) (H : AH) (f : Value) (S : St) (e0 : tget S.t 0 = .int .i64 n) (e1 : tget S.t 1 = f) (e5 : tget S.t 5 = .slice (some ⟨H.length, 0, none⟩) n n) (e12 : tget S.t 12 = .int .i64 n) (e13 : tget S.t 13 = .int .i64 0) (hH : S.H = H ++ [.rw 1 (ints (List.replicate n 0))]) (hlim : S.lim = H.length) :
    ∃ r, exL Tryz.prog pf (.loop nd1Loop) S = some r ∧ (r.1 = .exit 0 ∧ r.2.L = S.L ∧ r.2.lim = S.lim ∧ tget r.2.t 0 = tget S.t 0 ∧ tget r.2.t 1 = tget S.t 1 ∧ tget r.2.t 5 = tget S.t 5 ∧ r.2.H = H ++ [.rw 1 (ints ((List.range n).map Int.ofNat))]) := by
  refine loop_rule (I := fun m s' => ∃ i, i ≤ n ∧ m = n - i ∧ tget s'.t 0 = tget S.t 0 ∧ tget s'.t 1 = tget S.t 1 ∧ tget s'.t 5 = tget S.t 5 ∧ tget s'.t 12 = .int .i64 n ∧ tget s'.t 13 = .int .i64 i ∧ s'.L = S.L ∧ s'.lim = S.lim ∧ s'.H = H ++ [.rw 1 (ints ((List.range i).map Int.ofNat ++ List.replicate (n - i) 0))]) ?_ n S
    ⟨0, by omega, by omega, rfl, rfl, rfl, e12, e13, rfl, rfl, by rw [hH]; rfl⟩
  rintro m s' ⟨i, hi, rfl, f0, f1, f5, f12, f13, fL, fl, fH⟩
  rw [e0] at f0
  rw [e1] at f1
  rw [e5] at f5
  by_cases hlt : i < n
  rotate_left
  · have : i = n := by omega
    subst this
    rw [Nat.sub_self, List.replicate_zero, List.append_nil] at fH
    simp [nd1Loop, SC.loops, sf_lists_Needed, f0, f1, f5, f12, f13, fL, fl, fH, e0, e1, e5]
  have hltI : (i : Int) < (n : Int) := by omega
  have hw : IntKind.i64.wrap ((i : Int) + 1) = ((i + 1 : Nat) : Int) := by rw [wrap_i64 (by omega) (by omega)]; omega
  have hset : (ints ((List.range i).map Int.ofNat ++ List.replicate (n - i) 0)).set i (.int .i64 i) = ints ((List.range (i + 1)).map Int.ofNat ++ List.replicate (n - (i + 1)) 0) := by
    have e : (ints ((List.range i).map Int.ofNat ++ List.replicate (n - i) 0)).set i (.int .i64 i) = ints (((List.range i).map Int.ofNat ++ List.replicate (n - i) 0).set i (i : Int)) := by simp [ints, List.map_set]
    rw [e, List.set_append_right _ _ (by simp)]
    obtain ⟨q, hq⟩ : ∃ q, n - i = q + 1 := ⟨n - i - 1, by omega⟩
    rw [hq, show n - (i + 1) = q by omega]
    simp [List.range_succ, List.replicate_succ]
  have hil : (ints ((List.range i).map Int.ofNat ++ List.replicate (n - i) 0)).length = n := by rw [ints_length]; simp; omega
  generalize hcs : ints ((List.range i).map Int.ofNat ++ List.replicate (n - i) 0) = cs at *
  have hi1 : i + 1 ≤ n := by omega
  simp [-Int.natCast_add, nd1Loop, SC.loops, sf_lists_Needed, f0, f1, f5, f12, f13, fL, fl, fH, e0, e1, e5, hlt, hltI, hw, hset, hil, hi1, hlim, and_assoc]
  exact ⟨n - (i + 1), by omega, i + 1, by omega, rfl, rfl, rfl⟩

def dlF (b : Nat) : Value := .func (.func 115) #[] #[.pointer (some ⟨b, 0, none⟩)]
theorem run_dlF (A : AH) (b : Nat) (i x : Int) (hb : A[b]? = some (.rw 0 [.int .i64 i])) (lim : Nat) : apL Tryz.prog pf (dlF b) [.int .i64 x] lim A = some (.bool (x == i), A) := by
  unfold dlF
  rw [apL_func _ _ _ _ _ _ (by rfl), sf_lists_Needed_1_eq]
  simp [sf_lists_Needed_1, hb, pf_pure, pureF]

set_option maxHeartbeats 2000000 in
theorem nd2_loop (n : Nat) (hn : n ≤ 100) (H : AH) (hH : noLp H = true) (f : Value) (bl : List Int → Bool) (hf : SufF H f n bl) (S : St) (e1 : tget S.t 1 = f) (e5 : ∃ b q rest, H.length ≤ b ∧ tget S.t 5 = .slice (some ⟨b, 0, none⟩) (neededTo bl n 0).length q ∧ S.H[b]? = some (.rw 1 (ints (neededTo bl n 0) ++ rest))) (e21 : tget S.t 21 = .int .i64 n) (e22 : tget S.t 22 = .int .i64 0) (hA : Aft H S.H) (hlim : S.lim = H.length) :
    ∃ r, exL Tryz.prog pf (.loop nd2Loop) S = some r ∧ (r.1 = .exit 2 ∧ Aft H r.2.H ∧ ∃ b q rest, H.length ≤ b ∧ tget r.2.t 5 = .slice (some ⟨b, 0, none⟩) (neededTo bl n n).length q ∧ r.2.H[b]? = some (.rw 1 (ints (neededTo bl n n) ++ rest))) := by
  refine loop_rule (I := fun m s' => ∃ k b q rest, k ≤ n ∧ m = n - k ∧ H.length ≤ b ∧ tget s'.t 1 = f ∧ tget s'.t 5 = .slice (some ⟨b, 0, none⟩) (neededTo bl n k).length q ∧ s'.H[b]? = some (.rw 1 (ints (neededTo bl n k) ++ rest)) ∧ tget s'.t 21 = .int .i64 n ∧ tget s'.t 22 = .int .i64 k ∧ s'.lim = H.length ∧ Aft H s'.H) ?_ n S (by
      obtain ⟨b, q, rest, h1, h2, h3⟩ := e5
      exact ⟨0, b, q, rest, by omega, by omega, h1, e1, h2, h3, e21, e22, hlim, hA⟩)
  rintro m s' ⟨k, b, q, rest, hk, rfl, hb, f1, f5, fb, f21, f22, fl, fA⟩
  obtain ⟨A, hAA⟩ : ∃ A, s'.H = A := ⟨_, rfl⟩
  rw [hAA] at fb fA
  by_cases hlt : k < n
  rotate_left
  · have : k = n := by omega
    subst this
    simp [nd2Loop, SC.loops, sf_lists_Needed, f1, f5, f21, f22, fl, hAA]
    exact ⟨fA, b, hb, rfl, rest, fb⟩
  have hltI : (k : Int) < (n : Int) := by omega
  have hw : IntKind.i64.wrap ((k : Int) + 1) = ((k + 1 : Nat) : Int) := by rw [wrap_i64 (by omega) (by omega)]; omega
  have hlen := needed_len (bl := bl) (n := n) k
  have hmem := needed_mem (bl := bl) (n := n) k
  have hsucc : neededTo bl n (k + 1) = if bl ((neededTo bl n k).filter (fun x => !(x == (k : Int)))) = true then (neededTo bl n k).filter (fun x => !(x == (k : Int))) else neededTo bl n k := rfl
  obtain ⟨l, hl⟩ : ∃ l, neededTo bl n k = l := ⟨_, rfl⟩
  rw [hl] at f5 fb hlen hmem hsucc
  obtain ⟨o, ho⟩ : ∃ o, l.filter (fun x => !(x == (k : Int))) = o := ⟨_, rfl⟩
  rw [ho] at hsucc
  obtain ⟨b', k', X, hcl, hX, hb', hbX⟩ := run_Clone6 l (by omega) A (.slice (some ⟨b, 0, none⟩) l.length q) ⟨b, q, rest, rfl, fb⟩ A.length
  have hcl : ∀ lim, apL Tryz.prog pf (.func (.func 114) #[] #[]) [.slice (some ⟨b, 0, none⟩) l.length q] lim A = some (.slice (some ⟨b', 0, none⟩) l.length k', A ++ X) := fun lim => by
    rw [← hcl, apL_func _ _ _ _ _ _ (by rfl), apL_func _ _ _ _ _ _ (by rfl)]
    simp only [pf_pure, show pureF 114 = true from rfl, if_true]
  obtain ⟨A2, hA2⟩ : ∃ A2 : AH, A2 = A ++ (X ++ [ABlk.rw 0 [.int .i64 k]]) := ⟨_, rfl⟩
  have hA2b : A2[b']? = some (.rw 1 (ints l)) := by
    rw [hA2, ← List.append_assoc]
    exact own_get hbX _
  have hA2c : A2[(A ++ X).length]? = some (.rw 0 [.int .i64 k]) := by
    rw [hA2, ← List.append_assoc, List.getElem?_append_right (Nat.le_refl _), Nat.sub_self]; rfl
  have hne : b' ≠ (A ++ X).length := by
    have := (List.getElem?_eq_some_iff.1 hbX).1
    omega
  obtain ⟨k2, rest2, hdel⟩ := run_Delete6 l (by omega) (fun x => x == (k : Int)) A2 b' k' hA2b (dlF (A ++ X).length) ⟨by simp [dlF], rfl, rfl⟩ (fun z x lim => run_dlF _ _ _ _ (by rw [List.getElem?_set_ne hne]; exact hA2c) lim) H.length (by have := fA.le; omega)
  rw [ho] at hdel
  obtain ⟨A3, hA3⟩ : ∃ A3, A3 = A2.set b' (.rw 1 (ints o ++ rest2)) := ⟨_, rfl⟩
  rw [← hA3] at hdel
  have hb'l : b' < A2.length := (List.getElem?_eq_some_iff.1 hA2b).1
  have hA3b : A3[b']? = some (.rw 1 (ints o ++ rest2)) := by rw [hA3, List.getElem?_set_self hb'l]
  have hle := fA.le
  have a3 : Aft H A3 := by
    rw [hA3, hA2]
    exact (fA.push _ (noLp_app hX rfl)).set (by omega) _
  have hob : ∀ x ∈ o, ∃ m : Nat, m < n ∧ x = m := fun x hx => hmem x (by rw [← ho] at hx; exact (List.mem_filter.1 hx).1)
  have hol : o.length ≤ n := by rw [← ho]; exact Nat.le_trans (List.length_filter_le _ _) hlen
  obtain ⟨⟨fn, fu, fc⟩, hf⟩ := hf
  have hfo := fun lim => hf A3 a3.ext (a3.nlp hH) o (.slice (some ⟨b', 0, none⟩) o.length k2) hob hol (LV.sl ⟨b', k2, rest2, rfl, hA3b⟩) lim
  have hbb : b ≠ b' := by
    have := (List.getElem?_eq_some_iff.1 fb).1
    omega
  have hA3o : A3[b]? = some (.rw 1 (ints l ++ rest)) := by
    rw [hA3, List.getElem?_set_ne (Ne.symm hbb), hA2]
    exact own_get fb _
  simp only [dlF, List.length_append] at hdel
  rw [hA2] at hdel
  cases hbo : bl o with
  | true =>
    rw [hbo] at hfo
    simp [-isU, -Value.cells, -nextG, -Int.natCast_add, nd2Loop, SC.loops, sf_lists_Needed, isU_iW, cells_iW, f1, f5, f21, f22, fl, hAA, hltI, hcl, hdel, fn, fu, fc, hfo, hw, and_assoc]
    have hs : neededTo bl n (k + 1) = o := by rw [hsucc, if_pos hbo]
    exact ⟨n - (k + 1), by omega, k + 1, by omega, rfl, b', by omega, rfl, by rw [hs], ⟨rest2, by rw [hs]; exact hA3b⟩, rfl, a3⟩
  | false =>
    rw [hbo] at hfo
    simp [-isU, -Value.cells, -nextG, -Int.natCast_add, nd2Loop, SC.loops, sf_lists_Needed, isU_iW, cells_iW, f1, f5, f21, f22, fl, hAA, hltI, hcl, hdel, fn, fu, fc, hfo, hw, and_assoc]
    have hs : neededTo bl n (k + 1) = l := by rw [hsucc, if_neg (by rw [hbo]; decide)]
    exact ⟨n - (k + 1), by omega, k + 1, by omega, rfl, b, by omega, rfl, by rw [hs], ⟨rest, by rw [hs]; exact hA3o⟩, rfl, a3⟩

theorem run_Needed (n : Nat) (hn : n ≤ 100) (H : AH) (hH : noLp H = true) (f : Value) (bl : List Int → Bool) (hf : SufF H f n bl) :
    ∃ r A, (∀ lim, apL Tryz.prog pf (.func (.func 81) #[] #[]) [.int .i64 n, f] lim H = some (r, A)) ∧ Aft H A ∧ LV A r (neededTo bl n n) := by
  suffices key : ∀ lim, ∃ r A, apL Tryz.prog pf (.func (.func 81) #[] #[]) [.int .i64 n, f] lim H = some (r, A) ∧ Aft H A ∧ LV A r (neededTo bl n n) by
    obtain ⟨r, A, h1, h2⟩ := key 0
    refine ⟨r, A, fun lim => ?_, h2⟩
    rw [← h1, apL_func _ _ _ _ _ _ (by rfl), apL_func _ _ _ _ _ _ (by rfl)]
    simp only [pf_pure, show pureF 81 = true from rfl, if_true]
  intro lim
  rw [apL_func _ _ _ _ _ _ (by rfl), sf_lists_Needed_eq]
  have hmx : n ≤ maxA := Nat.le_trans (show n ≤ 1000 by omega) (by decide)
  obtain ⟨⟨fn, fu, fc⟩, hf0⟩ := id hf
  simp [-isU, -Value.cells, sf_lists_Needed, fn, fu, fc, hmx, zeros_ints', pf_pure, pureF]
  generalize hS : ({ t := _, L := _, H := _, lim := _, rd := _ } : St) = S
  obtain ⟨⟨e, s1⟩, hr, g0, gL, gl, gt0, gt1, gt5, gH⟩ := nd1_loop n hn H f S (by subst hS; simp) (by subst hS; simp) (by subst hS; simp) (by subst hS; simp) (by subst hS; simp) (by subst hS; rfl) (by subst hS; rfl)
  simp [nd1Loop, SC.loops, sf_lists_Needed] at hr
  rw [hr]
  simp only at g0 gL gl gt0 gt1 gt5 gH
  subst g0
  have z0 : tget S.t 0 = .int .i64 n := by subst hS; simp
  have z1 : tget S.t 1 = f := by subst hS; simp
  have z5 : tget S.t 5 = .slice (some ⟨H.length, 0, none⟩) n n := by subst hS; simp
  have zl : S.lim = H.length := by subst hS; rfl
  rw [z0] at gt0
  rw [z1] at gt1
  rw [z5] at gt5
  rw [zl] at gl
  have hl0 : (neededTo bl n 0).length = n := by simp [neededTo]
  simp [-isU, -Value.cells, gt0, gt1, gt5]
  generalize hS2 : ({ t := _, L := _, H := _, lim := _, rd := _ } : St) = S2
  obtain ⟨⟨e, s2⟩, hr2, q0, qA, b, q, rest, hb, q5, qb⟩ := nd2_loop n hn H hH f bl hf S2 (by subst hS2; simp [gt1]) ⟨H.length, n, [], Nat.le_refl _, by subst hS2; simp [gt5, hl0], by subst hS2; simp [gH, neededTo]⟩ (by subst hS2; simp) (by subst hS2; simp) (by subst hS2; simp [gH]; exact (Aft.refl H).push _) (by subst hS2; simp [gl])
  simp [nd2Loop, SC.loops, sf_lists_Needed] at hr2
  rw [hr2]
  simp only at q0 qA q5 qb
  subst q0
  refine ⟨.slice (some ⟨b, 0, none⟩) (neededTo bl n n).length q, s2.H, ?_, qA, b, q, rest, rfl, qb⟩
  simp [q5]
end Go.Proofs.YthobfecblpnnnaaGreatDoor

/- Contracts of layer 6, the program: what is in the way. -/
set_option linter.all false
namespace Go.Proofs.YthobfecblpnnnaaGreatDoor
open Go Go.RowKit

/-- The legs of some numbers. -/
def selM (ls : List Lg) (l : List Int) : List Lg := l.filterMap fun x => ls[x.toNat]?
theorem selM_snoc {ls : List Lg} {l : List Int} {m : Nat} (h : m < ls.length) : selM ls (l ++ [(m : Int)]) = selM ls l ++ [ls[m]] := by
  unfold selM
  rw [List.filterMap_append]
  congr 1
  simp [h]
theorem selM_mem {ls : List Lg} {l : List Int} : ∀ x ∈ selM ls l, x ∈ ls := fun x hx => by
  unfold selM at hx
  obtain ⟨i, _, h⟩ := List.mem_filterMap.1 hx
  exact List.mem_of_getElem? h
theorem selM_len (ls : List Lg) (l : List Int) : (selM ls l).length ≤ l.length := List.length_filterMap_le _ _
theorem selM_sub {ls : List Lg} {l m : List Int} (h : ∀ x ∈ l, x ∈ m) : ∀ x ∈ selM ls l, x ∈ selM ls m := fun x hx => by
  unfold selM at hx ⊢
  obtain ⟨i, hi, e⟩ := List.mem_filterMap.1 hx
  exact List.mem_filterMap.2 ⟨i, h i hi, e⟩

/-- A list of legs of one's own whose rows were there before. -/
def LgP (H : AH) (n0 : Nat) (A : AH) (v : Value) (us : List Lg) : Prop := ∃ ss : List Value, ss.length = us.length ∧ (∀ i (h : i < us.length) (h' : i < ss.length), Sl H ss[i] us[i].cs.length (ints us[i].cs)) ∧ ((us = [] ∧ v = .slice none 0 0) ∨ (us ≠ [] ∧ ∃ b, n0 ≤ b ∧ v = .slice (some ⟨b, 0, none⟩) us.length (us.length + 1) ∧ A[b]? = some (.rw 5 (lgsV us ss))))
theorem LgP.sl {H A : AH} {n0 : Nat} {v : Value} {us : List Lg} (h : LgP H n0 A v us) (hE : Ext H A) : LgSl A v us := by
  obtain ⟨ss, hl, hr, hv⟩ := h
  refine ⟨ss, hl, ?_, fun i h h' => (hr i h h').ext hE⟩
  rcases hv with ⟨rfl, rfl⟩ | ⟨hne, b, hb, rfl, hbA⟩
  · exact ⟨none, 0, rfl, fun j x hx => by simp [lgsV] at hx⟩
  · exact ⟨_, _, rfl, fun j x hx => ⟨b, 0, rfl, by simp only [hcell, hbA, Nat.zero_add]; exact hx⟩⟩
theorem LgP.push {H A : AH} {n0 : Nat} {v s : Value} {us : List Lg} {l : Lg} (h : LgP H n0 A v us) (h0 : n0 ≤ A.length) (hx : Sl H s l.cs.length (ints l.cs)) :
    (us = [] ∧ v = .slice none 0 0 ∧ LgP H n0 (A ++ [.rw 5 (l.vals s), .rw 5 (l.vals s)]) (.slice (some ⟨A.length + 1, 0, none⟩) 1 2) (us ++ [l])) ∨
    ∃ b old, n0 ≤ b ∧ us ≠ [] ∧ v = .slice (some ⟨b, 0, none⟩) us.length (us.length + 1) ∧ A[b]? = some (.rw 5 old) ∧ old.length = us.length * 5 ∧ nlL old = true ∧ LgP H n0 (A.set b .dead ++ [.rw 5 (l.vals s), .rw 5 (old ++ l.vals s)]) (.slice (some ⟨A.length + 1, 0, none⟩) (us.length + 1) (us.length + 1 + 1)) (us ++ [l]) := by
  obtain ⟨ss, hl, hr, ⟨rfl, rfl⟩ | ⟨hne, b, hb, rfl, hbA⟩⟩ := h
  · refine .inl ⟨rfl, rfl, [s], by simp, fun i h h' => ?_, .inr ⟨by simp, A.length + 1, by omega, by simp, ?_⟩⟩
    · have : i = 0 := by simp at h; omega
      subst this
      exact hx
    · rw [List.getElem?_append_right (by omega), Nat.add_sub_cancel_left]
      simp [lgsV]
  · have hvals : ∀ i (h : i < ss.length), ∃ a n k, ss[i] = .slice a n k := fun i h => by
      obtain ⟨a, k, e, _⟩ := hr i (by omega) h
      exact ⟨_, _, _, e⟩
    refine .inr ⟨b, lgsV us ss, hb, hne, rfl, hbA, lgsV_length _ _ hl, nlL_lgs hvals, ss ++ [s], by simp [hl], fun i h h' => ?_, .inr ⟨by simp, A.length + 1, by omega, by simp, ?_⟩⟩
    · by_cases hi : i < us.length
      · simp only [List.getElem_append_left hi, List.getElem_append_left (show i < ss.length by omega)]
        exact hr i hi (by omega)
      · have hi' : i = us.length := by simp at h; omega
        subst hi'
        have e1 : (ss ++ [s])[us.length]'h' = s := by
          rw [List.getElem_append_right (by omega)]
          simp [hl]
        rw [e1]
        simp only [List.getElem_append_right (Nat.le_refl _), Nat.sub_self, List.getElem_cons_zero]
        exact hx
    · rw [List.getElem?_append_right (by simp)]
      simp [lgsV_snoc us ss l s hl]

def blkF (b : Nat) : Value := .func (.func 82) #[] #[.pointer (some ⟨b, 0, none⟩)]
def bkLoop6 : SC := sf_lanes_run_block_1.body.loops.headD .skip

set_option maxHeartbeats 2000000 in
theorem bk_loop6 (ls : List Lg) (H : AH) (rb : Nat) (va : Option Addr) (vc : Nat) (hv : LgIn H (.slice va ls.length vc) ls) (rc : List Value) (hrc : rc[5]? = some (.slice va ls.length vc)) (hrb : H[rb]? = some (.rw 0 rc)) (l : List Int) (hl : l.length ≤ 100) (hmem : ∀ x ∈ l, ∃ m : Nat, m < ls.length ∧ x = m) (xa : Option Addr) (xc : Nat) (hx : Sl H (.slice xa l.length xc) l.length (ints l)) (S : St)
    (e1 : tget S.t 1 = .pointer (some ⟨rb, 0, none⟩)) (e4 : tget S.t 4 = .slice none 0 0) (e9 : tget S.t 9 = .slice xa l.length xc) (e10 : tget S.t 10 = .int .i64 l.length) (e11 : tget S.t 11 = .int .i64 0) (hH : S.H = H) (hlim : S.lim = H.length) :
    ∃ r, exL Tryz.prog pf (.loop bkLoop6) S = some r ∧ (r.1 = .exit 0 ∧ r.2.L = S.L ∧ r.2.lim = S.lim ∧ tget r.2.t 1 = tget S.t 1 ∧ Aft H r.2.H ∧ LgP H H.length r.2.H (tget r.2.t 4) (selM ls l)) := by
  have hln := hv.n
  refine loop_rule (I := fun m s' => ∃ i, i ≤ l.length ∧ m = l.length - i ∧ tget s'.t 1 = tget S.t 1 ∧ tget s'.t 9 = .slice xa l.length xc ∧ tget s'.t 10 = .int .i64 l.length ∧ tget s'.t 11 = .int .i64 i ∧ s'.L = S.L ∧ s'.lim = H.length ∧ Aft H s'.H ∧ LgP H H.length s'.H (tget s'.t 4) (selM ls (l.take i))) ?_ l.length S
    ⟨0, by omega, by omega, rfl, e9, e10, e11, rfl, hlim, by rw [hH]; exact Aft.refl H, [], rfl, fun i h => by simp [selM] at h, .inl ⟨rfl, e4⟩⟩
  rintro m s' ⟨i, hi, rfl, f1, f9, f10, f11, fL, fl, fA, fO⟩
  rw [e1] at f1
  obtain ⟨A, hAA⟩ : ∃ A, s'.H = A := ⟨_, rfl⟩
  rw [hAA] at fA fO
  by_cases hlt : i < l.length
  rotate_left
  · have : i = l.length := by omega
    subst this
    rw [List.take_length] at fO
    simp [bkLoop6, SC.loops, sf_lanes_run_block_1, f1, f9, f10, f11, fL, fl, hAA, e1, hlim]
    exact ⟨fA, fO⟩
  have hltI : (i : Int) < (l.length : Int) := by omega
  have hw : IntKind.i64.wrap ((i : Int) + 1) = ((i + 1 : Nat) : Int) := by rw [wrap_i64 (by omega) (by omega)]; omega
  obtain ⟨k, hk, ek⟩ := hmem l[i] (List.getElem_mem hlt)
  have htk : l.take (i + 1) = l.take i ++ [(k : Int)] := by rw [List.take_succ_eq_append_getElem hlt, ek]
  have hsel : selM ls (l.take (i + 1)) = selM ls (l.take i) ++ [ls[k]] := by rw [htk, selM_snoc hk]
  obtain ⟨y1, y2, y3, hyd⟩ := hx.ext fA.ext
  cases y3
  obtain ⟨bx, ox, rfl, cx⟩ := hyd i (.int .i64 k) (by simp [ints, hlt, ek])
  obtain ⟨b1, o1, ac1, za, zc, e, c0, c1, c2, c3, c4, hsl⟩ := (hv.ext fA.ext).sl.get hk
  cases e
  obtain ⟨b0, o0, ac0, ya, yc, e0', _, _, _, _, d4, dsl⟩ := hv.sl.get hk
  cases e0'
  obtain ⟨q1, q2⟩ : ya = za ∧ yc = zc := by
    have := hcell_ext (fun x => fA.ext _ x) d4
    rw [c4] at this
    cases this
    exact ⟨rfl, rfl⟩
  subst q1 q2
  have hrbA := fA.ext _ _ hrb
  have hkI : (k : Int) < (ls.length : Int) := by omega
  have hp := fO.push fA.le dsl
  rw [← hsel] at hp
  have hlen := selM_len ls (l.take i)
  have hlen2 : (l.take i).length = i := by simp; omega
  simp only [hcell] at c0 c1 c2 c3 c4 cx
  obtain ⟨us, hus⟩ : ∃ us, selM ls (l.take i) = us := ⟨_, rfl⟩
  rw [hus] at hp hlen
  obtain ⟨q, hq⟩ : ∃ q, ls[k] = q := ⟨_, rfl⟩
  rw [hq] at hp c0 c1 c2 c3 c4
  have hm1 : 1 ≤ maxA := by decide
  simp only [Lg.vals] at hp
  rcases hp with ⟨hu0, e4', hO⟩ | ⟨b, old, hb, hne, e4', hbA, hol, hnl, hO⟩
  · simp [-Int.natCast_add, -oneC, -Array.all_eq_false, -Array.all_toList, oneC_slice, oneC_int, oneC_boolW, bkLoop6, SC.loops, sf_lanes_run_block_1, f1, e4', f9, f10, f11, fL, fl, hAA, hlt, hltI, cx, hrbA, hrc, hk, hkI, c0, c1, c2, c3, c4, hw, hm1, e1, hlim, and_assoc]
    exact ⟨l.length - (i + 1), by omega, i + 1, by omega, rfl, rfl, fA.push _, hO⟩
  · have hu0 : ¬ us.length = 0 := by simpa using hne
    have hmx : us.length + 1 ≤ maxA := Nat.le_trans (show _ ≤ 1000 by omega) (by decide)
    have hcA : ∀ L x, cellsAt L (A ++ x) ⟨b, 0, none⟩ (us.length * 5) = some old := fun L x => by
      rw [← hol]
      exact cellsAt_of _ 0 fun m y hy => by simp only [hcell, Nat.zero_add]; rw [own_get hbA x]; exact hy
    have hbX := fun x => own_get hbA x
    have hsX := fun x y => own_set hbA x y
    simp [-Int.natCast_add, -oneC, -Array.all_eq_false, -Array.all_toList, oneC_slice, oneC_int, oneC_boolW, bkLoop6, SC.loops, sf_lanes_run_block_1, f1, e4', f9, f10, f11, fL, fl, hAA, hlt, hltI, cx, hrbA, hrc, hk, hkI, c0, c1, c2, c3, c4, hw, hu0, hne, hmx, hcA, hbX, hsX, hol, hnl, hb, e1, hlim, and_assoc]
    exact ⟨l.length - (i + 1), by omega, i + 1, by omega, rfl, rfl, (fA.set hb _).push _, hO⟩

theorem RtC.sel {c : Ch} {ls us : List Lg} {H : AH} {d t s : Value} {va : Option Addr} {vn vc : Nat} {p : Tp} {b0 k0 : Nat} {w w' : Value} (h : RtC c ls H d t s va vn vc p b0 k0 w) (hu : ∀ l ∈ us, l ∈ ls) (hl : us.length ≤ 1000) (hw : LgIn H w' us) : RtC c us H d t s va vn vc p b0 k0 w' :=
  ⟨h.ok, hl, fun l hl => h.lin l (hu l hl), h.ch, h.tp, h.tab, hw⟩

/-- Whether some legs leave no route. -/
def blkM (c : Ch) (ls : List Lg) (p : Tp) (l : List Int) : Bool := (routeM c (selM ls l) p).isNone

theorem sufF_blk {c : Ch} {ls : List Lg} {H : AH} {d t s : Value} {va : Option Addr} {vc : Nat} {p : Tp} {b0 k0 : Nat} {w : Value} (h : RtC c ls H d t s va ls.length vc p b0 k0 w) (hv : LgIn H (.slice va ls.length vc) ls) (hls : ls.length ≤ 100) (rb : Nat) (hrb : H[rb]? = some (.rw 0 (rnC c d t s (.slice va ls.length vc) p (.slice (some ⟨b0, 0, none⟩) c.cells k0)))) :
    SufF H (blkF rb) ls.length (blkM c ls p) := by
  refine ⟨⟨by simp [blkF], rfl, rfl⟩, fun A hE hA l v hmem hlen hx lim => ?_⟩
  unfold blkF
  rw [apL_func _ _ _ _ _ _ (by rfl), sf_lanes_run_block_1_eq]
  obtain ⟨xa, xc, ex, _⟩ := id hx
  subst ex
  have hrbA := hE _ _ hrb
  have hlo := fun S => bk_loop6 ls A rb va vc (hv.ext hE) _ rfl hrbA l (by omega) hmem xa xc hx S
  obtain ⟨⟨da, dn, dc, ed⟩, ⟨ta, tn, tc, et⟩, ⟨sa, sn, sc, es⟩⟩ := h.ch.vals
  simp [-oneC, -Array.all_eq_false, -Array.all_toList, oneC_slice, oneC_int, oneC_boolW, sf_lanes_run_block_1, pf_pure, pureF]
  generalize hS : ({ t := _, L := _, H := _, lim := _, rd := _ } : St) = S
  obtain ⟨⟨e, s1⟩, hr, g0, gL, gl, g1, gA, gO⟩ := hlo S (by subst hS; simp) (by subst hS; simp) (by subst hS; simp) (by subst hS; simp) (by subst hS; simp) (by subst hS; rfl) (by subst hS; rfl)
  simp [bkLoop6, SC.loops, sf_lanes_run_block_1] at hr
  rw [hr]
  simp only at g0 gL gl g1 gA gO
  subst g0
  have z1 : tget S.t 1 = .pointer (some ⟨rb, 0, none⟩) := by subst hS; simp
  have zl : S.lim = A.length := by subst hS; rfl
  rw [z1] at g1
  rw [zl] at gl
  have hsl := gO.sl gA.ext
  have hse := selM_len ls l
  have hlg : LgIn s1.H (tget s1.t 4) (selM ls l) := ⟨hsl, fun x hx => hv.cl x (selM_mem x hx), by omega⟩
  obtain ⟨r, A2, r1, _, r3⟩ := run_route (gA.nlp hA) ((h.ext (hE.trans gA.ext)).sel selM_mem (by omega) hlg)
  obtain ⟨wa, wc, ew⟩ := hsl.one
  have hrb1 := gA.ext _ _ hrbA
  simp only [rnC, ed, et, es] at hrb1
  simp only [rnV, ed, et, es, ew] at r1
  unfold blkM
  cases ho : routeM c (selM ls l) p with
  | none =>
    rw [ho] at r3
    obtain ⟨rfl, _⟩ := r3
    simp [g1, gl, ew, hrb1, r1]
  | some ns =>
    rw [ho] at r3
    obtain ⟨b, hb, rfl, _⟩ := r3
    simp [g1, gl, ew, hrb1, r1]

/-- The legs that are in the way. -/
def blockM (c : Ch) (ls : List Lg) (p : Tp) : List Int := neededTo (blkM c ls p) ls.length ls.length

theorem run_block {c : Ch} {ls : List Lg} {H : AH} (hH : noLp H = true) {d t s : Value} {va : Option Addr} {vc : Nat} {p : Tp} {b0 k0 : Nat} {w : Value} (h : RtC c ls H d t s va ls.length vc p b0 k0 w) (hv : LgIn H (.slice va ls.length vc) ls) (hls : ls.length ≤ 100) :
    ∃ r A, (∀ lim, apL Tryz.prog pf (.func (.func 48) #[] #[]) [rnV c d t s (.slice va ls.length vc) p (.slice (some ⟨b0, 0, none⟩) c.cells k0)] lim H = some (r, A)) ∧ Aft H A ∧ LV A r (blockM c ls p) := by
  obtain ⟨H1, hH1⟩ : ∃ H1, H1 = H ++ [ABlk.rw 0 (rnC c d t s (.slice va ls.length vc) p (.slice (some ⟨b0, 0, none⟩) c.cells k0))] := ⟨_, rfl⟩
  have a1 : Aft H H1 := by rw [hH1]; exact (Aft.refl H).push _
  have hs := sufF_blk (h.ext a1.ext) (hv.ext a1.ext) hls H.length (by rw [hH1, List.getElem?_append_right (Nat.le_refl _), Nat.sub_self]; rfl)
  obtain ⟨r, A, r1, g1, g2⟩ := run_Needed ls.length hls H1 (a1.nlp hH) (blkF H.length) _ hs
  obtain ⟨⟨da, dn, dc, ed⟩, ⟨ta, tn, tc, et⟩, ⟨sa, sn, sc, es⟩⟩ := h.ch.vals
  suffices key : ∀ lim, ∃ r A, apL Tryz.prog pf (.func (.func 48) #[] #[]) [rnV c d t s (.slice va ls.length vc) p (.slice (some ⟨b0, 0, none⟩) c.cells k0)] lim H = some (r, A) ∧ Aft H A ∧ LV A r (blockM c ls p) by
    obtain ⟨r, A, h1, h2⟩ := key 0
    refine ⟨r, A, fun lim => ?_, h2⟩
    rw [← h1, apL_func _ _ _ _ _ _ (by rfl), apL_func _ _ _ _ _ _ (by rfl)]
    simp only [pf_pure, show pureF 48 = true from rfl, if_true]
  intro lim
  rw [apL_func _ _ _ _ _ _ (by rfl), sf_lanes_run_block_eq]
  refine ⟨r, A, ?_, a1.trans g1, g2⟩
  obtain ⟨b, q, rest, rfl, hb⟩ := g2
  rw [hH1] at r1
  simp only [blkF, rnC, ed, et, es] at r1
  simp [-oneC, -Array.all_eq_false, -Array.all_toList, oneC_slice, oneC_int, oneC_boolW, sf_lanes_run_block, rnV, ed, et, es, r1, pf_pure, pureF]

/-- What Block answers if there is no route. -/
theorem run_Block_none (c : Ch) (ls : List Lg) (p : Tp) (H : AH) (hH : noLp H = true) (hG : H[waysG]? = some (.ro waysV)) (d t s v : Value) (hc : ChIn H c d t s) (hv : LgIn H v ls) (he : legE c ls = 0) (hp : tpOk c p = true) (hs : routeM c ls p = none) :
    ∃ r A, (∀ lim, apL Tryz.prog pf (.func (.func 21) #[] #[]) [chV c d t s, v, tpV p] lim H = some (.tuple #[r, .int .i64 0], A)) ∧ Aft H A ∧ LV A r (blockM c ls p) := by
  have hrd := fun lim => run_ready_ok c ls p H d t s v hc hv he hp lim
  obtain ⟨va, vc, ev⟩ := hv.sl.one
  subst ev
  obtain ⟨b0, k0, A1, r1, a1, hR⟩ := rtc_of hc hv he hp hG va ls.length vc
  obtain ⟨r, A2, r2, a2, hr⟩ := run_route (a1.nlp hH) hR
  rw [hs] at hr
  obtain ⟨rfl, rfl⟩ := hr
  obtain ⟨_, hl12, _⟩ := legE_zero.1 he
  obtain ⟨r, A3, r3, a3, h3⟩ := run_block (a1.nlp hH) hR (hv.ext a1.ext) (by omega)
  obtain ⟨⟨da, dn, dc, ed⟩, ⟨ta, tn, tc, et⟩, ⟨sa, sn, sc, es⟩⟩ := hc.vals
  suffices key : ∀ lim, ∃ r A, apL Tryz.prog pf (.func (.func 21) #[] #[]) [chV c d t s, .slice va ls.length vc, tpV p] lim H = some (.tuple #[r, .int .i64 0], A) ∧ Aft H A ∧ LV A r (blockM c ls p) by
    obtain ⟨r, A, h1, h2⟩ := key 0
    refine ⟨r, A, fun lim => ?_, h2⟩
    rw [← h1, apL_func _ _ _ _ _ _ (by rfl), apL_func _ _ _ _ _ _ (by rfl)]
    simp only [pf_pure, show pureF 21 = true from rfl, if_true]
  intro lim
  rw [apL_func _ _ _ _ _ _ (by rfl), sf_lanes_Block_eq]
  refine ⟨r, A3, ?_, a1.trans a3, h3⟩
  obtain ⟨b, q, rest, rfl, hb⟩ := h3
  simp only [chV, trV, tpV, rnV, ed, et, es] at hrd r1 r2 r3 ⊢
  simp [-oneC, -Array.all_eq_false, -Array.all_toList, -List.all_eq_true, oneC_slice, oneC_int, oneC_boolW, sf_lanes_Block, hrd, r1, r2, r3, pf_pure, pureF]
end Go.Proofs.YthobfecblpnnnaaGreatDoor
