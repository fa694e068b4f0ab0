/- The equations of the abstract machine without a bound. -/
import Derived.Test.YtjejcbiilimjkaaDoorAbsX
namespace Go.Proofs.YtjejcbiilimjkaaDoor
open Go Go.RowKit

variable {P : Program} {pf : PF} {s : St}

theorem exL_of {k : Nat} {sc : SC} {r : Ex × St} (h : exA (apL P pf) k sc s = some r) : exL P pf sc s = some r := exL_iff.2 ⟨k, h⟩

theorem exA_up {k k' : Nat} (hk : k ≤ k') {sc : SC} {r : Ex × St} (h : exA (apL P pf) k sc s = some r) : exA (apL P pf) k' sc s = some r := exA_mono (CLe.refl _) k k' hk h

theorem exL_skip : exL P pf .skip s = some (.normal, s) := exL_of (k := 1) rfl
theorem exL_exit (id : Nat) : exL P pf (.exit id) s = some (.exit id, s) := exL_of (k := 1) rfl
theorem exL_ret : exL P pf .ret s = some (.ret, s) := exL_of (k := 1) rfl

theorem exL_flat {sc : SC} {x : Option (Ex × St)} (h : ∀ k, exA (apL P pf) (k + 1) sc s = x) : exL P pf sc s = x := by
  refine Option.ext fun r => ?_
  rw [exL_iff]
  constructor
  · rintro ⟨k, hk⟩
    have := exA_up (Nat.le_succ k) hk
    rw [h] at this; exact this
  · intro hx; exact ⟨1, by rw [h 0]; exact hx⟩

theorem exL_ops (l : List SOp) : exL P pf (.ops l) s = (opsA (apL P pf) l s).map fun s => (.normal, s) := exL_flat fun _ => rfl
theorem exL_draw (l : List (DK × SOp)) (bx : List BX) : exL P pf (.draw l bx) s = ((dOps (apL P pf) l s).bind (bxsA bx)).map fun s => (.normal, s) := exL_flat fun _ => rfl

theorem exL_rng (f : Operand) (ps : List Tmp) (asg body : SC) : exL P pf (.rng f ps asg body) s =
    (if rdOk s = false ∨ nl (s.ev f) = false ∨ isFn (s.ev f) = false then none else
    match apL P pf (s.ev f) [.func (.yield s.H.length) #[] #[]] s.lim (s.H ++ [.loop ⟨0, none, s.t, s.L, s.lim, ps, asg, body⟩]) with
    | some (_, H') =>
      (match H'[s.H.length]? with
      | some (.loop r) =>
        if r.st ≠ 0 ∧ r.st ≠ 2 then none else some (r.pend.getD .normal, { s with L := r.L, H := H'.set s.H.length .dead })
      | _ => none)
    | none => none) := exL_flat fun _ => rfl

theorem exL_seq (a b : SC) : exL P pf (.seq a b) s = (match exL P pf a s with | some (.normal, s') => exL P pf b s' | r => r) := by
  refine Option.ext fun r => ?_
  constructor
  · intro h
    obtain ⟨k, hk⟩ := exL_iff.1 h
    cases k with
    | zero => simp [exA] at hk
    | succ k =>
      simp only [exA] at hk
      cases hx : exA (apL P pf) k a s with
      | none => rw [hx] at hk; cases hk
      | some q =>
        rw [exL_of hx]
        rw [hx] at hk
        obtain ⟨e, s1⟩ := q
        cases e with
        | normal => exact exL_of hk
        | exit i => exact hk
        | ret => exact hk
  · intro h
    cases hx : exL P pf a s with
    | none => rw [hx] at h; cases h
    | some q =>
      rw [hx] at h
      obtain ⟨k1, h1⟩ := exL_iff.1 hx
      obtain ⟨e, s1⟩ := q
      cases e with
      | normal =>
        obtain ⟨k2, h2⟩ := exL_iff.1 h
        refine exL_of (k := max k1 k2 + 1) ?_
        simp only [exA]
        rw [exA_up (Nat.le_max_left k1 k2) h1]
        exact exA_up (Nat.le_max_right k1 k2) h2
      | exit i => refine exL_of (k := k1 + 1) ?_; simp only [exA]; rw [h1]; exact h
      | ret => refine exL_of (k := k1 + 1) ?_; simp only [exA]; rw [h1]; exact h

theorem exL_cond (c : Operand) (a b : SC) : exL P pf (.cond c a b) s = (match s.ev c with | .bool true => exL P pf a s | .bool false => exL P pf b s | _ => none) := by
  refine Option.ext fun r => ?_
  constructor
  · intro h
    obtain ⟨k, hk⟩ := exL_iff.1 h
    cases k with
    | zero => simp [exA] at hk
    | succ k =>
      simp only [exA] at hk
      split at hk
      · rename_i hb; simp only [hb]; exact exL_of hk
      · rename_i hb; simp only [hb]; exact exL_of hk
      · cases hk
  · intro h
    split at h
    · rename_i hb
      obtain ⟨k, hk⟩ := exL_iff.1 h
      exact exL_of (k := k + 1) (by simp only [exA, hb]; exact hk)
    · rename_i hb
      obtain ⟨k, hk⟩ := exL_iff.1 h
      exact exL_of (k := k + 1) (by simp only [exA, hb]; exact hk)
    · cases h

theorem exL_block (id : Nat) (a : SC) : exL P pf (.block id a) s = (match exL P pf a s with | some (.exit i, s') => some (if i = id then .normal else .exit i, s') | r => r) := by
  refine Option.ext fun r => ?_
  constructor
  · intro h
    obtain ⟨k, hk⟩ := exL_iff.1 h
    cases k with
    | zero => simp [exA] at hk
    | succ k =>
      simp only [exA] at hk
      cases hx : exA (apL P pf) k a s with
      | none => rw [hx] at hk; cases hk
      | some q => rw [exL_of hx]; rw [hx] at hk; exact hk
  · intro h
    cases hx : exL P pf a s with
    | none => rw [hx] at h; cases h
    | some q =>
      rw [hx] at h
      obtain ⟨k1, h1⟩ := exL_iff.1 hx
      exact exL_of (k := k1 + 1) (by simp only [exA]; rw [h1]; exact h)

theorem exL_loop (a : SC) : exL P pf (.loop a) s = (match exL P pf a s with | some (.normal, s') => exL P pf (.loop a) s' | r => r) := by
  refine Option.ext fun r => ?_
  constructor
  · intro h
    obtain ⟨k, hk⟩ := exL_iff.1 h
    cases k with
    | zero => simp [exA] at hk
    | succ k =>
      simp only [exA] at hk
      cases hx : exA (apL P pf) k a s with
      | none => rw [hx] at hk; cases hk
      | some q =>
        rw [exL_of hx]
        rw [hx] at hk
        obtain ⟨e, s1⟩ := q
        cases e with
        | normal => exact exL_of hk
        | exit i => exact hk
        | ret => exact hk
  · intro h
    cases hx : exL P pf a s with
    | none => rw [hx] at h; cases h
    | some q =>
      rw [hx] at h
      obtain ⟨k1, h1⟩ := exL_iff.1 hx
      obtain ⟨e, s1⟩ := q
      cases e with
      | normal =>
        obtain ⟨k2, h2⟩ := exL_iff.1 h
        refine exL_of (k := max k1 k2 + 1) ?_
        simp only [exA]
        rw [exA_up (Nat.le_max_left k1 k2) h1]
        exact exA_up (Nat.le_max_right k1 k2) h2
      | exit i => refine exL_of (k := k1 + 1) ?_; simp only [exA]; rw [h1]; exact h
      | ret => refine exL_of (k := k1 + 1) ?_; simp only [exA]; rw [h1]; exact h

theorem exA_of_exL {sc : SC} {r : Ex × St} (h : exL P pf sc s = some r) : ∃ n, exA (apA P pf n) n sc s = some r := by
  obtain ⟨k, hk⟩ := exL_iff.1 h
  obtain ⟨n, hn⟩ := exA_fin k hk
  exact ⟨max n k, exA_mono (apA_mono P pf n _ (Nat.le_max_left _ _)) k _ (Nat.le_max_right _ _) hn⟩

theorem exL_of_exA {n : Nat} {sc : SC} {r : Ex × St} (h : exA (apA P pf n) n sc s = some r) : exL P pf sc s = some r := exL_of (exA_mono (apA_le P pf n) n n (Nat.le_refl _) h)

/-- A call of a function. -/
theorem apL_func (f : FuncId) (first cap : Array Value) (args : List Value) (lim : Nat) (H : AH) (hor : orcA pf f first cap args = none) : apL P pf (.func (.func f) first cap) args lim H =
    (match cFun P f with
    | none => none
    | some sf =>
      match exL P pf sf.body ⟨tsOf 0 (first.toList ++ args ++ cap.toList), [], H, if pf f then H.length else lim, none⟩ with
      | some (.exit _, _) => none
      | some (_, s) =>
        (match resA s sf.res with
        | some vs => (match globs s.L s.H vs with
          | some (vs, _, H') => some (packA vs, if pf f && sca (packA vs) then H else H')
          | none => none)
        | none => none)
      | none => none) := by
  refine Option.ext fun r => ?_
  rw [apL_iff]
  constructor
  · rintro ⟨n, hn⟩
    cases n with
    | zero => simp [apA] at hn
    | succ n =>
      simp only [apA, hor] at hn
      cases hc : cFun P f with
      | none => rw [hc] at hn; cases hn
      | some sf =>
        rw [hc] at hn
        simp only at hn ⊢
        cases hx : exA (apA P pf n) n sf.body ⟨tsOf 0 (first.toList ++ args ++ cap.toList), [], H, if pf f then H.length else lim, none⟩ with
        | none => rw [hx] at hn; cases hn
        | some q => rw [exL_of_exA hx]; rw [hx] at hn; exact hn
  · intro h
    cases hc : cFun P f with
    | none => rw [hc] at h; cases h
    | some sf =>
      rw [hc] at h
      simp only at h
      cases hx : exL P pf sf.body ⟨tsOf 0 (first.toList ++ args ++ cap.toList), [], H, if pf f then H.length else lim, none⟩ with
      | none => rw [hx] at h; cases h
      | some q =>
        obtain ⟨n, hn⟩ := exA_of_exL hx
        refine ⟨n + 1, ?_⟩
        simp only [apA, hor, hc, hn]
        rw [hx] at h
        exact h

/-- A call of which was said beforehand what it comes to. -/
theorem apL_orc {f : FuncId} {first cap : Array Value} {args : List Value} {lim : Nat} {H : AH} {v : Value} (hor : orcA pf f first cap args = some v) (ht : tabsOk pf.tabs H = true) : apL P pf (.func (.func f) first cap) args lim H = some (v, H) :=
  apL_iff.2 ⟨1, by simp only [apA, hor, ht, if_true]⟩

/-- A round of a loop over a function. -/
theorem apL_yield {l : Nat} {first cap : Array Value} {args : List Value} {lim : Nat} {H : AH} {r : ARec} (hl : H[l]? = some (.loop r)) (h1 : first.size = 0 ∧ r.st = 0 ∧ lim ≤ r.lim ∧ lim ≤ l ∧ args.length = r.ps.length)
    {s : St} (ha : exL P pf r.asg ⟨(r.ps.zip args).reverse ++ r.t, r.L, H.set l (.loop { r with st := 4, L := [] }), r.lim, some l⟩ = some (.normal, s)) {r1 : ARec} (h2 : s.H[l]? = some (.loop r1)) (h3 : r1.st = 4)
    {e : Ex} {s' : St} (hb : exL P pf r.body { s with H := s.H.set l (.loop { r with st := 1, pend := r1.pend, L := [] }) } = some (e, s')) {r2 : ARec} (h4 : s'.H[l]? = some (.loop r2)) :
    apL P pf (.func (.yield l) first cap) args lim H = some (.bool (decide (e = .normal)), s'.H.set l (.loop { r with st := if e = .normal then 0 else 2, pend := if e = .normal then none else some e, L := s'.L })) := by
  obtain ⟨n1, k1⟩ := exA_of_exL ha
  obtain ⟨n2, k2⟩ := exA_of_exL hb
  have j1 := exA_mono (apA_mono P pf n1 _ (Nat.le_max_left n1 n2)) n1 _ (Nat.le_max_left n1 n2) k1
  have j2 := exA_mono (apA_mono P pf n2 _ (Nat.le_max_right n1 n2)) n2 _ (Nat.le_max_right n1 n2) k2
  refine apL_iff.2 ⟨max n1 n2 + 1, ?_⟩
  simp only [apA, hl]
  rw [if_pos h1, j1]
  simp only [h2, h3, if_true]
  rw [j2]
  simp only [h4]
end Go.Proofs.YtjejcbiilimjkaaDoor
