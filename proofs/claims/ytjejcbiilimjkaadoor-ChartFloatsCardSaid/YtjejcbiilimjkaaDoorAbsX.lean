/- The abstract machine without a bound: its equations. -/
import Derived.Test.YtjejcbiilimjkaaDoorAbsW
namespace Go.Proofs.YtjejcbiilimjkaaDoor
open Go Go.RowKit

/-- What C says, C' says. -/
def CLe (C C' : CallA) : Prop := ∀ fv vs lim H r, C fv vs lim H = some r → C' fv vs lim H = some r
theorem CLe.refl (C : CallA) : CLe C C := fun _ _ _ _ _ h => h

theorem runA_mono {C C' : CallA} (hC : CLe C C') {o : SOp} {s s' : St} (h : runA C o s = some s') : runA C' o s = some s' := by
  unfold runA at h ⊢
  split at h
  · rename_i f args hop
    split at h
    · rename_i vs L H hg
      split at h
      · rename_i v H2 hc
        split at hc
        · rename_i hn
          simp only [hg, hn, if_true, hC _ _ _ _ _ hc]
          exact h
        · cases hc
      · cases h
    · cases h
  · exact h

theorem opA_mono {C C' : CallA} (hC : CLe C C') {o : SOp} {s s' : St} (h : opA C o s = some s') : opA C' o s = some s' := by
  unfold opA at h ⊢
  split at h
  · exact runA_mono hC h
  · split at h
    · split at h
      · rename_i hb; simp only [hb, if_true]; exact runA_mono hC h
      · rename_i hb; simp only [hb, if_false]; exact h
    · exact h
    · cases h

theorem opsA_mono {C C' : CallA} (hC : CLe C C') : ∀ {l : List SOp} {s s' : St}, opsA C l s = some s' → opsA C' l s = some s'
  | [], _, _, h => h
  | o :: l, s, s', h => by
    simp only [opsA] at h ⊢
    split at h
    · rename_i s1 h1
      rw [opA_mono hC h1]
      exact opsA_mono hC h
    · cases h

theorem dOp_mono {C C' : CallA} (hC : CLe C C') {k : DK} {o : SOp} {s s' : St} (h : dOp C k o s = some s') : dOp C' k o s = some s' := by
  cases k with
  | late => exact h
  | bar => exact opA_mono hC h
  | free | chain =>
    simp only [dOp] at h ⊢
    split at h
    · rename_i hn
      rw [if_pos hn]
      split at h
      · rename_i s1 h1; rw [opA_mono hC h1]; exact h
      · cases h
    · cases h

theorem dOps_mono {C C' : CallA} (hC : CLe C C') : ∀ {l : List (DK × SOp)} {s s' : St}, dOps C l s = some s' → dOps C' l s = some s'
  | [], _, _, h => h
  | (k, o) :: l, s, s', h => by
    simp only [dOps] at h ⊢
    split at h
    · rename_i s1 h1
      rw [dOp_mono hC h1]
      exact dOps_mono hC h
    · cases h

theorem exA_mono {C C' : CallA} (hC : CLe C C') : ∀ (k k' : Nat) (_ : k ≤ k') {sc : SC} {s : St} {r : Ex × St}, exA C k sc s = some r → exA C' k' sc s = some r
  | 0, _, _, _, _, _, h => by simp [exA] at h
  | k + 1, 0, hk, _, _, _, h => by omega
  | k + 1, k' + 1, hk, sc, s, r, h => by
    have ih : ∀ {sc : SC} {s : St} {r : Ex × St}, exA C k sc s = some r → exA C' k' sc s = some r := exA_mono hC k k' (by omega)
    cases sc with
    | skip => exact h
    | ops l =>
      simp only [exA, Option.map_eq_some_iff] at h ⊢
      obtain ⟨s1, h1, h2⟩ := h
      exact ⟨s1, opsA_mono hC h1, h2⟩
    | draw l bx =>
      simp only [exA, Option.map_eq_some_iff, Option.bind_eq_some_iff] at h ⊢
      obtain ⟨s1, ⟨s2, h1, h2⟩, h3⟩ := h
      exact ⟨s1, ⟨s2, dOps_mono hC h1, h2⟩, h3⟩
    | seq a b =>
      simp only [exA] at h ⊢
      split at h
      · rename_i s1 h1; rw [ih h1]; exact ih h
      · rename_i hne
        cases hx : exA C k a s with
        | none => rw [hx] at h; cases h
        | some q => rw [hx] at h; cases h; rw [ih hx]; obtain ⟨e, s1⟩ := r; cases e <;> first | rfl | exact absurd hx (hne _)
    | cond c a b =>
      simp only [exA] at h ⊢
      split at h
      · rename_i hb; exact ih h
      · rename_i hb; exact ih h
      · cases h
    | block id a =>
      simp only [exA] at h ⊢
      split at h
      · rename_i i s1 h1; rw [ih h1]; exact h
      · rename_i hne
        cases hx : exA C k a s with
        | none => rw [hx] at h; cases h
        | some q => rw [hx] at h; cases h; rw [ih hx]; obtain ⟨e, s1⟩ := r; cases e <;> first | rfl | exact absurd hx (hne _ _)
    | loop a =>
      simp only [exA] at h ⊢
      split at h
      · rename_i s1 h1; rw [ih h1]; exact ih h
      · rename_i hne
        cases hx : exA C k a s with
        | none => rw [hx] at h; cases h
        | some q => rw [hx] at h; cases h; rw [ih hx]; obtain ⟨e, s1⟩ := r; cases e <;> first | rfl | exact absurd hx (hne _)
    | rng f ps asg body =>
      simp only [exA] at h ⊢
      split at h
      · cases h
      · rename_i hg
        rw [if_neg hg]
        split at h
        · rename_i v H' hc; rw [hC _ _ _ _ _ hc]; exact h
        · cases h
    | exit id => exact h
    | ret => exact h

theorem apA_mono (P : Program) (pf : PF) : ∀ (n n' : Nat) (_ : n ≤ n'), CLe (apA P pf n) (apA P pf n')
  | 0, _, _ => fun fv vs lim H r h => by simp [apA] at h
  | n + 1, 0, h => by omega
  | n + 1, n' + 1, hn => fun fv vs lim H r h => by
    have ih := apA_mono P pf n n' (by omega)
    have ex : ∀ {sc : SC} {s : St} {r : Ex × St}, exA (apA P pf n) n sc s = some r → exA (apA P pf n') n' sc s = some r := exA_mono ih n n' (by omega)
    unfold apA at h ⊢
    split at h
    · cases h
    · rename_i heq
      cases heq
      split at h
      · exact h
      split at h
      · cases h
      · rename_i sf hsf
        simp only [hsf]
        split at h
        · cases h
        · rename_i e s hne hx
          rw [ex hx]
          cases e with
          | exit i => exact absurd rfl (hne i)
          | normal => exact h
          | ret => exact h
        · cases h
    · rename_i heq
      cases heq
      split at h
      · rename_i rr hr
        split at h
        · rename_i hg
          rw [if_pos hg]
          split at h
          · rename_i s1 h1
            rw [ex h1]
            simp only
            split at h
            · rename_i r1 hr1
              split at h
              · rename_i h4
                rw [if_pos h4]
                split at h
                · rename_i e s2 h2
                  rw [ex h2]
                  exact h
                · cases h
              · cases h
            · cases h
          · cases h
        · cases h
      · cases h
    · cases h

open Classical in
/-- Calls, without a bound. -/
noncomputable def apL (P : Program) (pf : PF) : CallA := fun fv vs lim H =>
  if h : ∃ n r, apA P pf n fv vs lim H = some r then some (Classical.choose (Classical.choose_spec h)) else none

theorem apL_iff {P : Program} {pf : PF} {fv : Value} {vs : List Value} {lim : Nat} {H : AH} {r : Value × AH} : apL P pf fv vs lim H = some r ↔ ∃ n, apA P pf n fv vs lim H = some r := by
  unfold apL
  constructor
  · intro h
    split at h
    · rename_i hx
      cases h
      exact ⟨_, Classical.choose_spec (Classical.choose_spec hx)⟩
    · cases h
  · rintro ⟨n, hn⟩
    have hx : ∃ n r, apA P pf n fv vs lim H = some r := ⟨n, r, hn⟩
    rw [dif_pos hx]
    have h1 := Classical.choose_spec (Classical.choose_spec hx)
    have h2 := apA_mono P pf _ (max n (Classical.choose hx)) (Nat.le_max_right _ _) _ _ _ _ _ h1
    have h3 := apA_mono P pf _ (max n (Classical.choose hx)) (Nat.le_max_left _ _) _ _ _ _ _ hn
    rw [h2] at h3
    exact h3

theorem apA_le (P : Program) (pf : PF) (n : Nat) : CLe (apA P pf n) (apL P pf) := fun _ _ _ _ _ h => apL_iff.2 ⟨n, h⟩

/-- **The abstract machine's calls, without a bound, are the model's.** -/
theorem apL_sound {P : Program} {B0 : Nat} (hm : P.follows .mixedOrders = true) (pf : PF) (hO : OrSound P B0 pf) : CSound P B0 (apL P pf) := fun fv vs lim H v H' h => by
  obtain ⟨n, hn⟩ := apL_iff.1 h
  exact all_sound hm pf hO n fv vs lim H v H' hn

section
variable {P : Program} {pf : PF}

theorem runA_fin {o : SOp} {s s' : St} (h : runA (apL P pf) o s = some s') : ∃ n, runA (apA P pf n) o s = some s' := by
  unfold runA at h
  split at h
  · rename_i f args hop
    split at h
    · rename_i vs L H hg
      split at h
      · rename_i v H2 hc
        split at hc
        · rename_i hn
          obtain ⟨n, hc⟩ := apL_iff.1 hc
          refine ⟨n, ?_⟩
          unfold runA
          rw [hop]
          simp only [hg, hn, if_true, hc]
          exact h
        · cases hc
      · cases h
    · cases h
  · rename_i hne
    refine ⟨0, ?_⟩
    unfold runA
    split
    · rename_i hop; exact absurd hop (hne _ _)
    · exact h

theorem opA_fin {o : SOp} {s s' : St} (h : opA (apL P pf) o s = some s') : ∃ n, opA (apA P pf n) o s = some s' := by
  unfold opA at h
  split at h
  · rename_i hg
    obtain ⟨n, hn⟩ := runA_fin h
    exact ⟨n, by unfold opA; rw [hg]; exact hn⟩
  · rename_i t wv hg
    split at h
    · rename_i b hb
      split at h
      · rename_i hbw
        obtain ⟨n, hn⟩ := runA_fin h
        exact ⟨n, by unfold opA; simp only [hg, hb, hbw, if_true]; exact hn⟩
      · rename_i hbw
        exact ⟨0, by unfold opA; simp only [hg, hb, hbw, if_false]; exact h⟩
    · rename_i vs hb
      exact ⟨0, by unfold opA; simp only [hg, hb]; exact h⟩
    · cases h

theorem opsA_fin : ∀ {l : List SOp} {s s' : St}, opsA (apL P pf) l s = some s' → ∃ n, opsA (apA P pf n) l s = some s'
  | [], _, _, h => ⟨0, h⟩
  | o :: l, s, s', h => by
    simp only [opsA] at h
    split at h
    · rename_i s1 h1
      obtain ⟨n1, k1⟩ := opA_fin h1
      obtain ⟨n2, k2⟩ := opsA_fin h
      refine ⟨max n1 n2, ?_⟩
      simp only [opsA]
      rw [opA_mono (apA_mono P pf n1 _ (Nat.le_max_left _ _)) k1]
      exact opsA_mono (apA_mono P pf n2 _ (Nat.le_max_right _ _)) k2
    · cases h

theorem dOp_fin {k : DK} {o : SOp} {s s' : St} (h : dOp (apL P pf) k o s = some s') : ∃ n, dOp (apA P pf n) k o s = some s' := by
  cases k with
  | late => exact ⟨0, h⟩
  | bar => exact opA_fin h
  | free | chain =>
    simp only [dOp] at h ⊢
    split at h
    · rename_i hn
      split at h
      · rename_i s1 h1
        obtain ⟨n, hn1⟩ := opA_fin h1
        exact ⟨n, by rw [if_pos hn, hn1]; exact h⟩
      · cases h
    · cases h

theorem dOps_fin : ∀ {l : List (DK × SOp)} {s s' : St}, dOps (apL P pf) l s = some s' → ∃ n, dOps (apA P pf n) l s = some s'
  | [], _, _, h => ⟨0, h⟩
  | (k, o) :: l, s, s', h => by
    simp only [dOps] at h
    split at h
    · rename_i s1 h1
      obtain ⟨n1, k1⟩ := dOp_fin h1
      obtain ⟨n2, k2⟩ := dOps_fin h
      refine ⟨max n1 n2, ?_⟩
      simp only [dOps]
      rw [dOp_mono (apA_mono P pf n1 _ (Nat.le_max_left _ _)) k1]
      exact dOps_mono (apA_mono P pf n2 _ (Nat.le_max_right _ _)) k2
    · cases h

theorem exA_fin : ∀ (k : Nat) {sc : SC} {s : St} {r : Ex × St}, exA (apL P pf) k sc s = some r → ∃ n, exA (apA P pf n) k sc s = some r
  | 0, _, _, _, h => by simp [exA] at h
  | k + 1, sc, s, r, h => by
    have ih : ∀ {sc : SC} {s : St} {r : Ex × St}, exA (apL P pf) k sc s = some r → ∃ n, exA (apA P pf n) k sc s = some r := exA_fin k
    have two : ∀ {n1 n2 : Nat} {a b : SC} {s s1 : St} {q r : Ex × St}, exA (apA P pf n1) k a s = some q → exA (apA P pf n2) k b s1 = some r → exA (apA P pf (max n1 n2)) k a s = some q ∧ exA (apA P pf (max n1 n2)) k b s1 = some r := fun h1 h2 =>
      ⟨exA_mono (apA_mono P pf _ _ (Nat.le_max_left _ _)) k k (Nat.le_refl _) h1, exA_mono (apA_mono P pf _ _ (Nat.le_max_right _ _)) k k (Nat.le_refl _) h2⟩
    cases sc with
    | skip => exact ⟨0, h⟩
    | ops l =>
      simp only [exA, Option.map_eq_some_iff] at h ⊢
      obtain ⟨s1, h1, h2⟩ := h
      obtain ⟨n, hn⟩ := opsA_fin h1
      exact ⟨n, s1, hn, h2⟩
    | draw l bx =>
      simp only [exA, Option.map_eq_some_iff, Option.bind_eq_some_iff] at h ⊢
      obtain ⟨s1, ⟨s2, h1, h2⟩, h3⟩ := h
      obtain ⟨n, hn⟩ := dOps_fin h1
      exact ⟨n, s1, ⟨s2, hn, h2⟩, h3⟩
    | seq a b =>
      simp only [exA] at h ⊢
      split at h
      · rename_i s1 h1
        obtain ⟨n1, k1⟩ := ih h1
        obtain ⟨n2, k2⟩ := ih h
        obtain ⟨j1, j2⟩ := two k1 k2
        exact ⟨_, by rw [j1]; exact j2⟩
      · rename_i hne
        obtain ⟨n, hn⟩ := ih h
        refine ⟨n, ?_⟩
        rw [hn]
        obtain ⟨e, s1⟩ := r; cases e <;> first | rfl | exact absurd h (hne _)
    | cond c a b =>
      simp only [exA] at h ⊢
      split at h
      · exact ih h
      · exact ih h
      · cases h
    | block id a =>
      simp only [exA] at h ⊢
      split at h
      · rename_i i s1 h1
        obtain ⟨n, hn⟩ := ih h1
        exact ⟨n, by rw [hn]; exact h⟩
      · rename_i hne
        obtain ⟨n, hn⟩ := ih h
        refine ⟨n, ?_⟩
        rw [hn]
        obtain ⟨e, s1⟩ := r; cases e <;> first | rfl | exact absurd h (hne _ _)
    | loop a =>
      simp only [exA] at h ⊢
      split at h
      · rename_i s1 h1
        obtain ⟨n1, k1⟩ := ih h1
        obtain ⟨n2, k2⟩ := ih h
        obtain ⟨j1, j2⟩ := two k1 k2
        exact ⟨_, by rw [j1]; exact j2⟩
      · rename_i hne
        obtain ⟨n, hn⟩ := ih h
        refine ⟨n, ?_⟩
        rw [hn]
        obtain ⟨e, s1⟩ := r; cases e <;> first | rfl | exact absurd h (hne _)
    | rng f ps asg body =>
      simp only [exA] at h ⊢
      split at h
      · cases h
      · rename_i hg
        split at h
        · rename_i v H' hc
          obtain ⟨n, hn⟩ := apL_iff.1 hc
          exact ⟨n, by rw [if_neg hg, hn]; exact h⟩
        · cases h
    | exit id => exact ⟨0, h⟩
    | ret => exact ⟨0, h⟩

open Classical in
/-- Code, without a bound. -/
noncomputable def exL (P : Program) (pf : PF) (sc : SC) (s : St) : Option (Ex × St) :=
  if h : ∃ k r, exA (apL P pf) k sc s = some r then some (Classical.choose (Classical.choose_spec h)) else none

theorem exL_iff {sc : SC} {s : St} {r : Ex × St} : exL P pf sc s = some r ↔ ∃ k, exA (apL P pf) k sc s = some r := by
  unfold exL
  constructor
  · intro h
    split at h
    · rename_i hx
      cases h
      exact ⟨_, Classical.choose_spec (Classical.choose_spec hx)⟩
    · cases h
  · rintro ⟨n, hn⟩
    have hx : ∃ n r, exA (apL P pf) n sc s = some r := ⟨n, r, hn⟩
    rw [dif_pos hx]
    have h1 := Classical.choose_spec (Classical.choose_spec hx)
    have h2 := exA_mono (CLe.refl _) _ (max n (Classical.choose hx)) (Nat.le_max_right _ _) h1
    have h3 := exA_mono (CLe.refl _) _ (max n (Classical.choose hx)) (Nat.le_max_left _ _) hn
    rw [h2] at h3
    exact h3
end
end Go.Proofs.YtjejcbiilimjkaaDoor
