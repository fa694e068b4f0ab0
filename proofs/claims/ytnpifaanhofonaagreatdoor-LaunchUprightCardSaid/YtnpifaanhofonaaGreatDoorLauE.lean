import Derived.Test.YtnpifaanhofonaaGreatDoorLauD
set_option linter.all false

/- Contracts of layer 5: the first list of which something is so. -/
namespace Go.Proofs.YtnpifaanhofonaaGreatDoor
open Go Go.RowKit

/-- A function value that says of a list of numbers below n whether p holds, and does nothing else. -/
def IsT (n : Nat) (H : AH) (f : Value) (p : List Nat → Bool) : Prop := (nl f = true ∧ isU f = false ∧ f.cells = #[f] ∧ oneC f = true) ∧ ∀ H', Ext H H' → ∀ l v lim, l.length ≤ n → (∀ i ∈ l, i < n) → Sl H' v l.length (ints (natI l)) → apL Tryz.prog pf f [v] lim H' = some (.bool (p l), H')

def fwAsg : SC := match sf_launch_fewest.body with | .seq _ (.seq (.seq _ (.block _ (.rng _ _ a _))) _) => a | _ => .skip
def fwBody : SC := match sf_launch_fewest.body with | .seq _ (.seq (.seq _ (.block _ (.rng _ _ _ b))) _) => b | _ => .skip
def fwR (T : TS) (L : LS) (lim : Nat) : ARec := ⟨0, none, T, L, lim, [9], fwAsg, fwBody⟩

def FwI (n : Nat) (p : List Nat → Bool) (H : AH) (fv : Value) (T : TS) (L : LS) (P : List (List Nat)) (A : AH) : Prop :=
  Aft H A ∧ A[H.length]? = some (.rw 0 [.int .i64 n]) ∧ (∀ l ∈ P, p l = false) ∧ A[H.length + 1]? = some (.loop (fwR T L H.length))
def FwD (n : Nat) (p : List Nat → Bool) (H : AH) (T : TS) (L : LS) (A : AH) : Prop :=
  Aft H A ∧ ((A[H.length + 1]? = some (.loop (fwR T L H.length)) ∧ (listsM n).find? p = none) ∨
    (∃ v l L2, A[H.length + 1]? = some (.loop { fwR T L2 H.length with st := 2, pend := some .ret }) ∧ (listsM n).find? p = some l ∧ lget L2 4 = some (0, .cells [v]) ∧ lget L2 5 = some (0, .cells [.bool true]) ∧ LstO (H.length + 2) A v l))

theorem Aft.below {H A B : AH} (h : Aft H A) (hl : A.length ≤ B.length) (hb : ∀ c, c < H.length → B[c]? = A[c]?) : Aft H B := by
  obtain ⟨J, rfl⟩ := h
  refine ⟨B.drop H.length, ?_⟩
  apply List.ext_getElem?
  intro k
  by_cases hk : k < H.length
  · rw [hb k hk, List.getElem?_append_left hk, List.getElem?_append_left hk]
  · rw [List.getElem?_append_right (by omega), List.getElem?_drop]
    congr 1; omega

theorem LstO.past' {n0 : Nat} {A F : AH} {k : Nat} {v : Value} {l : List Nat} (h : LstO n0 A v l) (hk : k < n0) (hF : ∀ (c : Nat) (z : ABlk), c ≠ k → A[c]? = some z → F[c]? = some z) : LstO n0 F v l := by
  rcases h with h | ⟨h1, b', h0, h2, h3⟩
  · exact .inl h
  · exact .inr ⟨h1, b', h0, h2, hF b' _ (by omega) h3⟩

set_option maxHeartbeats 1000000 in
theorem fw_C (n : Nat) (p : List Nat → Bool) (H : AH) (fv : Value) (hp : IsT n H fv p) (T : TS) (L : LS) (h3 : tget T 3 = .pointer (some ⟨3, 0, some 0⟩)) (h4 : tget T 4 = .pointer (some ⟨4, 0, some 0⟩)) (h5 : tget T 5 = .pointer (some ⟨5, 0, some 0⟩))
    (l3 : lget L 3 = some (0, .cells [fv])) (l4 : lget L 4 = some (0, .cells [.slice none 0 0])) (l5 : lget L 5 = some (0, .cells [.bool false])) :
    LsC n (H.length + 2) H.length H.length (.func (.yield (H.length + 1)) #[] #[]) (FwI n p H fv T L) (FwD n p H T L) := by
  refine ⟨fun P A hI => hI.2.1, fun P A B hI hl hb => ?_, fun P A l v hI hv hA hR => ?_, fun A hI => ⟨hI.1, .inl ⟨hI.2.2.2, ?_⟩⟩⟩
  · obtain ⟨i1, i2, i3, i4⟩ := hI
    exact ⟨i1.below hl fun c hc => hb c (by omega), by rw [hb _ (by omega)]; exact i2, i3, by rw [hb _ (by omega)]; exact i4⟩
  · obtain ⟨i1, i2, i3, i4⟩ := hI
    obtain ⟨R, hR⟩ := hR
    obtain ⟨s1, s2, s3⟩ := lists_short hR
    obtain ⟨u1, u2, u3, u4, ua, un, uk, u5⟩ := hv.one
    obtain ⟨⟨f1, f2, f3, f4⟩, hp⟩ := hp
    have hll1 : H.length + 1 < A.length := (List.getElem?_eq_some_iff.1 i4).1
    obtain ⟨B, hB⟩ : ∃ B, B = A.set (H.length + 1) (.loop { fwR T L H.length with st := 1, L := [] }) := ⟨_, rfl⟩
    have hBl : B[H.length + 1]? = some (.loop { fwR T L H.length with st := 1, L := [] }) := by rw [hB, List.getElem?_set_self hll1]
    have hHB : Aft H B := by rw [hB]; exact i1.set (by omega) _
    have hvB : LstO (H.length + 2) B v l := hv.past' (k := H.length + 1) (by omega) fun c z hc hz => by rw [hB, List.getElem?_set_ne (Ne.symm hc), hz]
    have hcall := fun lim => hp B hHB.ext l v lim s1 s3 hvB.sl
    have ha : ∀ Y, exL Tryz.prog pf fwAsg ⟨([9].zip [v]).reverse ++ T, L, Y, H.length, some (H.length + 1)⟩ = some (.normal, ⟨(6, v) :: (9, v) :: T, L, Y, H.length, some (H.length + 1)⟩) := fun Y => by
      simp [fwAsg, sf_launch_fewest]
    have keep : ∀ z, Kp (H.length + 2) A (B.set (H.length + 1) z) := fun z => ⟨by rw [hB]; simp, fun c x hc hx => by
      rw [List.getElem?_set_ne (by omega), hB, List.getElem?_set_ne (by omega), hx]⟩
    have hBll : H.length + 1 < B.length := by rw [hB]; simpa using hll1
    cases hx : p l with
    | false =>
      have key : exL Tryz.prog pf fwBody ⟨(6, v) :: (9, v) :: T, L, B, H.length, some (H.length + 1)⟩ = some (.normal, ⟨(12, .bool false) :: (11, v) :: (10, fv) :: (6, v) :: (9, v) :: T, L, B, H.length, some (H.length + 1)⟩) := by
        rw [hx] at hcall
        simp [fwBody, sf_launch_fewest, h3, l3, u1, f1, hcall]
      have hy := yield_round (l := H.length + 1) (B := A) (r := fwR T L H.length) (args := [v]) (lim := H.length) i4 rfl (Nat.le_refl _) (by omega) rfl ha (e := .normal) (by rw [← hB]; exact key) (r2 := { fwR T L H.length with st := 1, L := [] }) hBl
      refine ⟨true, _, hy, keep _, (fun _ => ⟨hHB.set (by omega) _, by rw [List.getElem?_set_ne (by omega), hB, List.getElem?_set_ne (by omega), i2], fun m hm => ?_, by rw [List.getElem?_set_self hBll]; rfl⟩), fun h => by cases h⟩
      rcases List.mem_append.1 hm with h | h
      · exact i3 m h
      · simp at h; subst h; exact hx
    | true =>
      have key : ∃ s', exL Tryz.prog pf fwBody ⟨(6, v) :: (9, v) :: T, L, B, H.length, some (H.length + 1)⟩ = some (.ret, s') ∧ s'.H = B ∧ lget s'.L 4 = some (0, .cells [v]) ∧ lget s'.L 5 = some (0, .cells [.bool true]) := by
        rw [hx] at hcall
        simp [-isU, -Value.cells, -oneC, oneC_bool, isU_b, cells_b, fwBody, sf_launch_fewest, h3, h4, h5, l3, l4, l5, u1, u2, u3, u4, f1, hcall]
      obtain ⟨s', z1, z2, z3, z4⟩ := key
      have hy := yield_round (l := H.length + 1) (B := A) (r := fwR T L H.length) (args := [v]) (lim := H.length) i4 rfl (Nat.le_refl _) (by omega) rfl ha (e := .ret) (s' := s') (by rw [← hB]; exact z1) (r2 := { fwR T L H.length with st := 1, L := [] }) (by rw [z2, hBl])
      rw [z2] at hy
      refine ⟨false, _, hy, keep _, (fun h => by cases h), fun _ => ⟨hHB.set (by omega) _, .inr ⟨v, l, s'.L, by rw [List.getElem?_set_self hBll]; rfl, ?_, z3, z4, hv.keep (keep _)⟩⟩⟩
      rw [← hR, List.find?_append]
      have hnone : P.find? p = none := by
        rw [List.find?_eq_none]
        intro m hm
        simp [i3 m hm]
      rw [hnone, List.find?_cons, hx]
      rfl
  · rw [List.find?_eq_none]
    intro m hm
    simp [hI.2.2.1 m hm]

set_option maxHeartbeats 1000000 in
theorem run_fewestL (n : Nat) (hn12 : n ≤ 12) (p : List Nat → Bool) (H : AH) (fv : Value) (hp : IsT n H fv p) (lim : Nat) :
    ∃ v A, apL Tryz.prog pf (.func (.func 63) #[] #[]) [.int .i64 n, fv] lim H = some (.tuple #[v, .bool ((listsM n).find? p).isSome], A) ∧ Aft H A ∧ LstO H.length A v (((listsM n).find? p).getD []) := by
  rw [apL_func _ _ _ _ _ _ (by rfl), sf_launch_fewest_eq]
  obtain ⟨f1, f2, f3, f4⟩ := hp.1
  have hLi := fun lim => run_lists n lim H
  simp only [lsV] at hLi
  simp [-isU, -Value.cells, -oneC, isU_sl, cells_sl, isU_b, cells_b, oneC_slice, oneC_bool, -Array.all_toList, sf_launch_fewest, f2, f3, f4, hLi, pf_pure, pureF]
  generalize hS : ({ t := _, L := _, H := _, lim := _, rd := _ } : St) = S
  have eH : S.H = H ++ [.rw 0 [.int .i64 n]] := by subst hS; rfl
  have el : S.lim = H.length := by subst hS; rfl
  have eLen : S.H.length = H.length + 1 := by rw [eH]; simp
  have eHx : ∀ y : ABlk, S.H ++ [y] = H ++ [.rw 0 [.int .i64 n], y] := fun y => by rw [eH, List.append_assoc]; rfl
  have t3 : tget S.t 3 = .pointer (some ⟨3, 0, some 0⟩) := by subst hS; simp
  have t4 : tget S.t 4 = .pointer (some ⟨4, 0, some 0⟩) := by subst hS; simp
  have t5 : tget S.t 5 = .pointer (some ⟨5, 0, some 0⟩) := by subst hS; simp
  have l3 : lget S.L 3 = some (0, .cells [fv]) := by subst hS; simp [f3]
  have l4 : lget S.L 4 = some (0, .cells [.slice none 0 0]) := by subst hS; simp
  have l5 : lget S.L 5 = some (0, .cells [.bool false]) := by subst hS; simp
  have hA2 : (H ++ [ABlk.rw 0 [.int .i64 n], .loop (fwR S.t S.L H.length)]).length = H.length + 2 := by simp
  have hC := fw_C n p H fv hp S.t S.L t3 t4 t5 l3 l4 l5
  rw [← hA2] at hC
  obtain ⟨A', y1, y2, y3⟩ := run_ls n H.length H.length hn12 (.func (.yield (H.length + 1)) #[] #[]) (by simp) _ _ (H ++ [.rw 0 [.int .i64 n], .loop (fwR S.t S.L H.length)]) (by simp) (by simp) hC
    ⟨(Aft.refl H).push _, by rw [List.getElem?_append_right (Nat.le_refl _), Nat.sub_self]; rfl, by simp, by rw [List.getElem?_append_right (by omega), Nat.add_sub_cancel_left]; rfl⟩
  have hx := fun (r : ARec) (hr : A'[H.length + 1]? = some (.loop r)) (hst : r.st = 0 ∨ r.st = 2) => exL_range (f := .tmp 8) (ps := [9]) (asg := fwAsg) (body := fwBody) (S := S) (fv := lsV H.length) (by subst hS; simp [lsV]) (by simp [lsV]) rfl (by subst hS; rfl) (A' := A') (v := .tuple #[]) (r := r)
    (by rw [eLen, el, eHx]; exact y1) (by rw [eLen]; exact hr) hst
  simp only [fwAsg, fwBody, sf_launch_fewest] at hx
  rcases y3 with ⟨y3, y4⟩ | ⟨v, l, L2, y3, y4, y5, y6, y7⟩
  · have hx := hx _ y3 (.inl rfl)
    rw [hx, y4]
    refine ⟨.slice none 0 0, H, ?_, Aft.refl H, .inl ⟨rfl, rfl⟩⟩
    simp [-isU, -Value.cells, -oneC, isU_sl, cells_sl, isU_b, cells_b, oneC_slice, oneC_bool, fwR, t3, t4, t5, l4, l5, eLen]
  · have hx := hx _ y3 (.inr rfl)
    rw [hx, y4]
    rcases y7 with ⟨rfl, rfl⟩ | ⟨h1, b', h2, rfl, h4⟩
    · refine ⟨.slice none 0 0, H, ?_, Aft.refl H, .inl ⟨rfl, rfl⟩⟩
      simp [-isU, -Value.cells, -oneC, isU_sl, cells_sl, isU_b, cells_b, oneC_slice, oneC_bool, fwR, t3, t4, t5, y5, y6, eLen]
    · refine ⟨_, A'.set (H.length + 1) .dead, ?_, y2.set (by omega) _, .inr ⟨h1, b', by omega, rfl, by rw [List.getElem?_set_ne (by omega), h4]; rfl⟩⟩
      simp [-isU, -Value.cells, -oneC, isU_sl, cells_sl, isU_b, cells_b, oneC_slice, oneC_bool, fwR, t3, t4, t5, y5, y6, eLen]
end Go.Proofs.YtnpifaanhofonaaGreatDoor
