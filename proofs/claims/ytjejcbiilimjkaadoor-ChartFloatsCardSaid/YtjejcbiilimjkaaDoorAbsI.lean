/- Operation by operation: slices cut, appended to, copied; structs compared. -/
import Derived.Test.YtjejcbiilimjkaaDoorAbsH
namespace Go.Proofs.YtjejcbiilimjkaaDoor
open Go Go.RowKit

variable {P : Program} {B0 : Nat} {m : Mp} {o : Nat → Ow} {w : World} {s : St} {a : Act} {d : Option Tmp}

theorem run_sliceBound (k : IntKind) (l : Int) (y : Nat) (code : BoundsCode) (h : 0 ≤ l ∧ l ≤ y) : (Instr.sliceBound (.int k l) y code).run P w = .ok l.toNat w := by
  simp [Instr.sliceBound, asIntOf, h]

theorem bndA_some {v v' : Value} {dflt i : Int} (h : bndA (some v) dflt = some i) (hv : VRel m v v') : ∃ k, v' = .int k i := by
  unfold bndA at h
  split at h
  · rename_i h1; cases h1
  · rename_i k j h1; cases h1; cases h; cases hv; exact ⟨_, rfl⟩
  · cases h

theorem run_bounds2 (lo hi : Option Value) (n c : Nat) (l h : Int) (hl : match lo with | none => l = 0 | some v => ∃ k, v = .int k l) (hh : match hi with | none => h = n | some v => ∃ k, v = .int k h) (h1 : 0 ≤ l) (h2 : l ≤ h) (h3 : h ≤ n) (h4 : n ≤ c) :
    (Instr.sliceBounds true n c lo hi none).run P w = .ok (l.toNat, h.toNat, c) w := by
  cases lo with
  | none =>
    simp only at hl; subst hl
    cases hi with
    | none => simp only at hh; subst hh; simp [Instr.sliceBounds]
    | some v => obtain ⟨k, rfl⟩ := hh; simp [Instr.sliceBounds, run_sliceBound k h c _ ⟨by omega, by omega⟩]
  | some u =>
    obtain ⟨k', rfl⟩ := hl
    cases hi with
    | none => simp only at hh; subst hh; simp [Instr.sliceBounds, run_sliceBound k' l n _ ⟨h1, h2⟩]
    | some v => obtain ⟨k, rfl⟩ := hh; simp [Instr.sliceBounds, run_sliceBound k h c _ ⟨by omega, by omega⟩, run_sliceBound k' l h.toNat _ ⟨h1, by omega⟩]

theorem run_bounds3 (lo : Option Value) (k k2 : IntKind) (n c : Nat) (l h mx : Int) (hl : match lo with | none => l = 0 | some v => ∃ k, v = .int k l) (h1 : 0 ≤ l) (h2 : l ≤ h) (h3 : h ≤ mx) (h4 : mx ≤ n) (h5 : n ≤ c) :
    (Instr.sliceBounds true n c lo (some (.int k h)) (some (.int k2 mx))).run P w = .ok (l.toNat, h.toNat, mx.toNat) w := by
  cases lo with
  | none => simp only at hl; subst hl; simp [Instr.sliceBounds, run_sliceBound k2 mx c _ ⟨by omega, by omega⟩, run_sliceBound k h mx.toNat _ ⟨by omega, by omega⟩]
  | some u => obtain ⟨k', rfl⟩ := hl; simp [Instr.sliceBounds, run_sliceBound k2 mx c _ ⟨by omega, by omega⟩, run_sliceBound k h mx.toNat _ ⟨by omega, by omega⟩, run_sliceBound k' l h.toNat _ ⟨by omega, by omega⟩]

/-- A slice cut: its tie. -/
theorem cut_rel (hH : WRel P B0 m o s.H w) {p a' : Option Addr} {n c c' size l h mm ca : Nat} (hx : VRel m (.slice p n c) (.slice a' n c')) (hf : fitA s.H p size = true) (h1 : l ≤ h) (h2 : h ≤ mm) (h3 : mm ≤ c') (h4 : h ≤ n)
    (hca : ca = h - l → mm - l = h - l) (hmm : mm ≤ n ∨ mm = c') :
    VRel m (.slice (if l = h ∧ l ≠ 0 then none else p.map (aadd · (l * size))) (h - l) ca) (.slice (if mm = l then a' else a'.map (·.add (l * size))) (h - l) (mm - l)) := by
  have hsome : mm - l ≠ 0 → a'.isSome = true := by
    intro hne
    cases hx with
    | slN _ _ _ hc ha => rcases hmm with hmm | hmm
                         · omega
                         · exact ha (by omega)
    | sl => rfl
  by_cases hlh : l = h
  · subst hlh
    have hz : l - l = 0 := by omega
    rw [hz] at hca ⊢
    by_cases hl0 : l = 0
    · subst hl0
      simp only [true_and, ne_eq, not_true, if_false, Nat.sub_zero, Nat.zero_mul]
      cases hx with
      | slN _ _ _ hc ha => 
        simp only [Option.map_none]
        refine .slN _ _ _ (fun e => by have := hca (by omega); omega) (fun hne => ?_)
        split
        · exact hsome (by omega)
        · simpa using hsome (by omega)
      | sl q q' _ _ _ i hs hr hi ht hn hc =>
        simp only [Option.map_some]
        have e1 : (if mm = 0 then some q' else some (q'.add 0)) = some q' := by split <;> simp [Addr.add]
        rw [e1]
        refine .sl _ _ _ _ _ i hs (by simpa [aadd] using hr) (by simpa [aadd] using hi) (fun he => ?_) (Nat.zero_le _) (fun e => by have := hca (by omega); omega)
        exact Nat.le_trans (Nat.add_le_add_left (Nat.mul_le_mul_right _ h3) _) (ht he)
    · rw [if_pos ⟨rfl, hl0⟩]
      refine .slN _ _ _ (fun e => by have := hca (by omega); omega) (fun hne => ?_)
      split
      · omega
      · simpa using hsome hne
  · rw [if_neg (fun e => hlh e.1)]
    cases hx with
    | slN => omega
    | sl q q' _ _ _ i hs hr hi ht hn hc =>
      rw [if_neg (show ¬ mm = l by omega)]
      simp only [Option.map_some]
      refine .sl _ _ _ _ _ i (by simpa [aadd] using hs) (hr.add _) (by simpa [aadd] using hi) (fun he => ?_) (by omega) (fun e => hca e)
      have hes : i.e = size := by
        unfold fitA at hf
        simp only at hf
        split at hf
        · rename_i e vs hb
          have := (hH.blk _ _ _ hi hb).2.1
          rw [this]; simpa using hf
        · rename_i vs hb; exact absurd (hH.blk _ _ _ hi hb).1 he
        · cases hf
      rw [addr_add hr.1]
      simp only
      have h5 := ht he
      rw [hes] at h5 ⊢
      have : l * size + (mm - l) * size = mm * size := by rw [← Nat.add_mul]; congr 1; omega
      have h6 : mm * size ≤ c' * size := Nat.mul_le_mul_right _ h3
      omega

section
variable (t : Tied P B0 m o s.L s.H w) {oper : Oper} {v : Value} {L' : LS} {H' : AH}
include t

theorem do_slc {ty e : TypeId} {i : TypeInfo} {x : Operand} {lo hi mx : Option Operand} (hop : oper.op = .slice ty x lo hi mx) (hu : P.underlying ty = some (.slice e)) (hi' : P.info? e = some i) (hx : ∀ y ∈ x :: (oL lo ++ oL hi ++ oL mx), VRel m (s.ev y) (a.eval y)) (h : popA s (.slc i.size x lo hi mx) d = some (v, L', H')) : Does P B0 m o w a oper v L' H' := by
  have hxx := hx x (by simp)
  have hlo : ∀ {l : Int}, bndA (lo.map s.ev) 0 = some l → match lo.map a.eval with | none => l = 0 | some v => ∃ k, v = .int k l := by
    intro l hl
    cases lo with
    | none => simp only [Option.map_none, bndA, Option.some.injEq] at hl ⊢; exact hl.symm
    | some y => exact bndA_some hl (hx y (by simp [oL]))
  simp only [popA] at h
  split at h
  · rename_i p n c l hp hl
    rw [hp] at hxx
    split at h
    · rename_i h' hh
      split at h
      · rename_i hc
        obtain ⟨c1, c2, c3, c4⟩ := hc
        simp only [Option.some.injEq, Prod.mk.injEq] at h
        obtain ⟨rfl, rfl, rfl⟩ := h
        have hhi : match hi.map a.eval with | none => h' = n | some v => ∃ k, v = .int k h' := by
          cases hi with
          | none => simp only [Option.map_none, bndA, Option.some.injEq] at hh ⊢; exact hh.symm
          | some y => exact bndA_some hh (hx y (by simp [oL]))
        generalize he : a.eval x = z at hxx
        have hform : ∃ a' c', z = .slice a' n c' ∧ n ≤ c' ∧ (c = n → c' = n) := by
          cases hxx with
          | slN _ a' c' hc ha => exact ⟨a', c', rfl, Nat.zero_le _, fun h => hc h⟩
          | sl q q' _ _ c' i hs hr hi ht hn hc => exact ⟨_, c', rfl, hn, hc⟩
        obtain ⟨a', c', rfl, hn, hce⟩ := hform
        have hb := run_bounds2 (P := P) (w := w) (lo.map a.eval) (hi.map a.eval) n c' l h' (hlo hl) hhi c1 c2 c3 hn
        have e1 : (h' - l).toNat = h'.toNat - l.toNat := by omega
        have hr := cut_rel (l := l.toNat) (h := h'.toNat) (mm := c') (ca := if c = n then ((n : Int) - l).toNat else (h' - l).toNat + 1) t.tH hxx c4 (by omega) (by omega) (Nat.le_refl _) (by omega) (fun e => by
          split at e
          · rename_i hcn; have := hce hcn; omega
          · omega) (.inr rfl)
        rw [e1] at hr ⊢
        have e2 : (l = h' ∧ l ≠ 0) ↔ (l.toNat = h'.toNat ∧ l.toNat ≠ 0) := by omega
        simp only [e2]
        refine t.pure ?_ hr
        simp [execOp, hop, he, Instr.sliceAt, Instr.slice, run_underlying hu, hb, sizeOf, typeInfo, hi']
      · cases h
    · cases h
  · rename_i p n c l y hp hl
    rw [hp] at hxx
    split at h
    · rename_i h' m' hh hm
      split at h
      · rename_i hc
        obtain ⟨c1, c2, c3, c4, c5⟩ := hc
        simp only [Option.some.injEq, Prod.mk.injEq] at h
        obtain ⟨rfl, rfl, rfl⟩ := h
        simp only [Option.bind_eq_some_iff] at hh
        obtain ⟨q, rfl, hh⟩ := hh
        obtain ⟨k1, hk1⟩ := bndA_some hh (hx q (by simp [oL]))
        obtain ⟨k2, hk2⟩ := bndA_some hm (hx y (by simp [oL]))
        generalize he : a.eval x = z at hxx
        have hform : ∃ a' c', z = .slice a' n c' ∧ n ≤ c' := by
          cases hxx with
          | slN _ a' c' hc ha => exact ⟨a', c', rfl, Nat.zero_le _⟩
          | sl q q' _ _ c' i hs hr hi ht hn hc => exact ⟨_, c', rfl, hn⟩
        obtain ⟨a', c', rfl, hn⟩ := hform
        have hb := run_bounds3 (P := P) (w := w) (lo.map a.eval) k1 k2 n c' l h' m' (hlo hl) c1 c2 c3 c4 hn
        have e1 : (h' - l).toNat = h'.toNat - l.toNat := by omega
        have e3 : (m' - l).toNat = m'.toNat - l.toNat := by omega
        have hr := cut_rel (l := l.toNat) (h := h'.toNat) (mm := m'.toNat) (ca := m'.toNat - l.toNat) t.tH hxx c5 (by omega) (by omega) (by omega) (by omega) (fun e => e) (.inl (by omega))
        rw [e1, e3]
        have e2 : (l = h' ∧ l ≠ 0) ↔ (l.toNat = h'.toNat ∧ l.toNat ≠ 0) := by omega
        simp only [e2]
        refine t.pure ?_ hr
        simp [execOp, hop, he, Instr.sliceAt, Instr.slice, run_underlying hu, hk1, hk2, hb, sizeOf, typeInfo, hi']
      · cases h
    · cases h
  · cases h
end
end Go.Proofs.YtjejcbiilimjkaaDoor
