/- All operations but calls. -/
import Derived.Test.YtjejcbiilimjkaaDoorAbsJ
namespace Go.Proofs.YtjejcbiilimjkaaDoor
open Go Go.RowKit

variable {P : Program} {B0 : Nat} {m : Mp} {o : Nat → Ow} {w : World} {s : St} {a : Act}

theorem scaL_cells {z : Value} (h : sca z = true) : scaL z.cells.toList = true := by
  cases z <;> simp_all [sca, Value.cells, scaL]

theorem popA_key (t : Tied P B0 m o s.L s.H w) {oper : Oper} {v : Value} {L' : LS} {H' : AH} {so : SO} (hc : cOp? P oper = some so) (hnc : ∀ f args, so ≠ .call f args) (hx : ∀ x ∈ so.xs, VRel m (s.ev x) (a.eval x))
    (h : popA s so oper.dst = some (v, L', H')) : Does P B0 m o w a oper v L' H' := by
  unfold cOp? at hc
  split at hc
  · rename_i x hop; cases hc; exact do_mv t (.inl hop) (hx x (by simp [SO.xs])) h
  · rename_i x hop; cases hc; exact do_mv t (.inr hop) (hx x (by simp [SO.xs])) h
  · rename_i c x y hop; cases hc; exact do_pick t hop (hx c (by simp [SO.xs])) (hx x (by simp [SO.xs])) (hx y (by simp [SO.xs])) h
  · rename_i e hop
    simp only [bind, Option.bind_eq_some_iff, Option.some.injEq] at hc
    obtain ⟨z, hz, rfl⟩ := hc
    exact do_box t (.inr ⟨hop, z, rfl, hz⟩) (hx _ (by simp [SO.xs])) h
  · rename_i e x hop; cases hc; exact do_box t (.inl hop) (hx x (by simp [SO.xs])) h
  · rename_i st x f hop
    simp only [bind, Option.bind_eq_some_iff, Option.some.injEq] at hc
    obtain ⟨⟨off, size, ag⟩, hf, hc⟩ := hc
    simp only at hc
    split at hc
    · cases hc
    · rename_i h0; cases hc; exact do_ptr t hop hf h0 (hx x (by simp [SO.xs])) h
  · rename_i ty x ix hop
    split at hc
    · rename_i e hu
      simp only [bind, Option.bind_eq_some_iff, Option.some.injEq] at hc
      obtain ⟨i, hi, rfl⟩ := hc
      exact do_elem t hop hu hi (hx x (by simp [SO.xs])) (hx ix (by simp [SO.xs])) h
    · rename_i n e hu
      simp only [bind, Option.bind_eq_some_iff, Option.some.injEq] at hc
      obtain ⟨i, hi, rfl⟩ := hc
      exact do_elemA t hop hu hi (hx x (by simp [SO.xs])) (hx ix (by simp [SO.xs])) h
    · cases hc
  · rename_i ty x hop
    simp only [bind, Option.bind_eq_some_iff] at hc
    obtain ⟨i, hi, de, hu, hc⟩ := hc
    split at hc
    · rename_i ha; cases hc; exact do_ldn t hop hi ha (hx x (by simp [SO.xs])) h
    · rename_i ha; cases hc; exact do_ld t hop hu (by simpa using ha) (hx x (by simp [SO.xs])) h
  · rename_i ty x y hop
    simp only [bind, Option.bind_eq_some_iff, Option.some.injEq] at hc
    obtain ⟨i, hi, rfl⟩ := hc
    exact do_st t hop hi (hx x (by simp [SO.xs])) (hx y (by simp [SO.xs])) h
  · rename_i x hop; cases hc; exact do_nilc t hop (hx x (by simp [SO.xs])) h
  · rename_i op ty x y ty' hop
    have eqc : ∀ (neg : Bool), oper.op = .binOp (if neg then .neq else .eql) ty x y ty' → cEq P neg ty x y = some so → Does P B0 m o w a oper v L' H' := by
      intro neg hop hc
      unfold cEq at hc
      split at hc
      · rename_i hu; cases hc; exact do_eqb t hop hu (hx x (by simp [SO.xs])) (hx y (by simp [SO.xs])) h
      · rename_i fs hu
        simp only [bind, Option.bind_eq_some_iff] at hc
        obtain ⟨i, hi, hc⟩ := hc
        split at hc
        · rename_i hcc
          obtain ⟨c1, c2, c3, c4⟩ := hcc
          cases hc
          exact do_eqs t hop hu c1 c2 (by simpa using c3) (by simpa using c4) (hx x (by simp [SO.xs])) (hx y (by simp [SO.xs])) h
        · cases hc
      · cases hc
    split at hc
    · split at hc
      · cases hc; exact do_bin t hop (hx x (by simp [SO.xs])) (hx y (by simp [SO.xs])) h
      · exact eqc false hop hc
    · split at hc
      · cases hc; exact do_bin t hop (hx x (by simp [SO.xs])) (hx y (by simp [SO.xs])) h
      · exact eqc true hop hc
    · split at hc
      · cases hc; exact do_bin t hop (hx x (by simp [SO.xs])) (hx y (by simp [SO.xs])) h
      · cases hc
  · rename_i op ty x hop; cases hc; exact do_un t hop (hx x (by simp [SO.xs])) h
  · rename_i st dt x hop
    split at hc
    · rename_i k k' h1 h2; cases hc; exact do_conv t hop h1 h2 (hx x (by simp [SO.xs])) h
    · cases hc
  · rename_i fn first cap hop; cases hc; exact do_mkf t hop (fun x hm => hx x (by simpa [SO.xs] using hm)) h
  · rename_i ty l c hop
    split at hc
    · rename_i e hu
      simp only [bind, Option.bind_eq_some_iff, Option.some.injEq] at hc
      obtain ⟨i, hi, z, hz, rfl⟩ := hc
      simp only [zeroS, zeroOf, Option.bind_eq_some_iff] at hz
      obtain ⟨z', ⟨i', hi', hz'⟩, hz2⟩ := hz
      rw [hi] at hi'; cases hi'
      split at hz2
      · rename_i hs
        cases hz2
        exact do_mks t hop hu hi hz' (scaL_cells hs) (hx l (by simp [SO.xs])) (hx c (by simp [SO.xs])) h
      · cases hz2
    · cases hc
  · rename_i ty x lo hi mx hop
    split at hc
    · rename_i e hu
      simp only [bind, Option.bind_eq_some_iff, Option.some.injEq] at hc
      obtain ⟨i, hi', rfl⟩ := hc
      exact do_slc t hop hu hi' (fun y hy => hx y (by simpa [SO.xs] using hy)) h
    · cases hc
  · rename_i ty x f hop
    simp only [bind, Option.bind_eq_some_iff, Option.some.injEq] at hc
    obtain ⟨⟨off, size, ag⟩, hf, rfl⟩ := hc
    exact do_fld t hop hf (hx x (by simp [SO.xs])) h
  · rename_i x i hop; cases hc; exact do_ext t hop (hx x (by simp [SO.xs])) h
  · rename_i ty parts hop
    simp only [bind, Option.bind_eq_some_iff] at hc
    obtain ⟨z, hz, hc⟩ := hc
    split at hc
    · cases hc
    · rename_i hs
      simp only [Option.bind_eq_some_iff, Option.some.injEq] at hc
      obtain ⟨ps, hp, rfl⟩ := hc
      exact do_build t hop hz (scaL_cells (by simpa using hs)) hp (fun x hm => hx x (by simpa [SO.xs] using hm)) h
  · rename_i ty len parts hop
    split at hc
    · rename_i e hu
      simp only [bind, Option.bind_eq_some_iff] at hc
      obtain ⟨i, hi, z, hz, hc⟩ := hc
      split at hc
      · cases hc
      · rename_i hs
        simp only [Option.bind_eq_some_iff, Option.some.injEq] at hc
        obtain ⟨ps, hp, rfl⟩ := hc
        have hs' : ¬ len * i.size > 2 ^ 16 ∧ z.cells.size = i.size ∧ i.size ≠ 0 ∧ sca z = true := by
          refine ⟨fun e => hs (.inl e), ?_, fun e => hs (.inr (.inr (.inl e))), ?_⟩
          · by_cases e : z.cells.size = i.size; · exact e
            · exact absurd (.inr (.inl e)) hs
          · by_cases e : sca z = true; · exact e
            · exact absurd (.inr (.inr (.inr (by simpa using e)))) hs
        exact do_buildS t hop hu hi hz hs'.1 hs'.2.1 hs'.2.2.1 (scaL_cells hs'.2.2.2) hp (fun x hm => hx x (by simpa [SO.xs] using hm)) h
    · cases hc
  · rename_i c hop
    split at hc
    · rename_i hcal
      split at hc
      · rename_i ty x hty hargs
        split at hc
        · rename_i e hu
          cases hc
          exact do_len t hop hcal hty (by rw [← Array.toList_inj]; exact hargs) hu (hx x (by simp [SO.xs])) h (rt := 0)
        · rename_i n e hu
          cases hc
          simp only [popA, Option.some.injEq, Prod.mk.injEq] at h
          obtain ⟨rfl, rfl, rfl⟩ := h
          obtain ⟨cal, cargs, cty⟩ := c
          simp only at hcal hargs hty
          subst hcal
          have : cargs = #[x] := by rw [← Array.toList_inj]; exact hargs
          subst this
          refine t.pure ?_ (.int _ _)
          simp [execOp, hop, resolve, invoke, Go.builtin, Builtin.len_, hty, run_underlying hu, goInt]
        · cases hc
      · cases hc
    · rename_i hcal
      split at hc
      · rename_i ty uy x y hty hargs
        split at hc
        · rename_i e e' hu hu'
          split at hc
          · rename_i htu
            subst htu
            simp only [bind, Option.bind_eq_some_iff, Option.some.injEq] at hc
            obtain ⟨i, hi, z, hz, rfl⟩ := hc
            simp only [zeroS, zeroOf, Option.bind_eq_some_iff] at hz
            obtain ⟨z', ⟨i', hi', hz'⟩, hz2⟩ := hz
            rw [hi] at hi'; cases hi'
            split at hz2
            · rename_i hs
              cases hz2
              exact do_app t hop hcal (by rw [← Array.toList_inj]; exact hargs) (by rw [← Array.toList_inj]; exact hty) hu hi hz' (hx x (by simp [SO.xs])) (hx y (by simp [SO.xs])) h
            · cases hz2
          · cases hc
        · cases hc
      · cases hc
    · rename_i hcal; cases hc; exact do_max t hop hcal (fun x hm => hx x (by simpa [SO.xs] using hm)) h
    · rename_i hcal; cases hc; exact do_min t hop hcal (fun x hm => hx x (by simpa [SO.xs] using hm)) h
    · rename_i hcal
      split at hc
      · rename_i ty uy x y hty hargs
        split at hc
        · rename_i e e' hu hu'
          simp only [bind, Option.bind_eq_some_iff, Option.some.injEq] at hc
          obtain ⟨i, hi, rfl⟩ := hc
          exact do_copy t hop hcal (by rw [← Array.toList_inj]; exact hargs) (by rw [← Array.toList_inj]; exact hty) hu hi (hx x (by simp [SO.xs])) (hx y (by simp [SO.xs])) h
        · cases hc
      · cases hc
    · cases hc
  · cases hc

theorem popA_does (t : Tied P B0 m o s.L s.H w) {oper : Oper} {v : Value} {L' : LS} {H' : AH} (hx : ∀ x ∈ (cOp P oper).xs, VRel m (s.ev x) (a.eval x))
    (h : popA s (cOp P oper) oper.dst = some (v, L', H')) : Does P B0 m o w a oper v L' H' := by
  unfold cOp at *
  split at h
  · split at h <;> simp [popA] at h
  · rename_i hnv
    split at h
    · rename_i so hc
      simp only [hc] at hx
      split at h
      · rename_i hok
        simp only [hok, and_self, if_true] at hx
        exact popA_key t hc (fun f args e => by rw [e] at hok; simp [SO.isCall] at hok) hx h
      · simp [popA] at h
    · simp [popA] at h

theorem cOp_call {oper : Oper} {f : Operand} {args : List Operand} (h : cOp P oper = .call f args) : ∃ c, oper.op = .call c ∧ c.callee = .value f ∧ c.args.toList = args := by
  unfold cOp at h
  split at h
  · rename_i f' args' tys hop
    split at h
    · cases h; exact ⟨_, hop, rfl, rfl⟩
    · cases h
  · split at h
    · split at h
      · rename_i hok; rw [h] at hok; simp [SO.isCall] at hok
      · cases h
    · cases h

/-- All operands of a compiled operation can be read in both machines alike. -/
theorem cOp_ok {oper : Oper} : ∀ x ∈ (cOp P oper).xs, xOk P x = true := by
  unfold cOp
  split
  · split
    · rename_i h; exact List.all_eq_true.1 h
    · simp [SO.xs]
  · split
    · split
      · rename_i h; exact List.all_eq_true.1 h.2
      · simp [SO.xs]
    · simp [SO.xs]

theorem ev_rel {x : Operand} (hG : GRel P m) (hT : TRel m s.t a.tmps) (hok : xOk P x = true) : VRel m (s.ev x) (a.eval x) := by
  cases x with
  | tmp t => exact hT t
  | const v => exact VRel.refl_sca m v hok
  | global g =>
    obtain ⟨t, ht⟩ := hG g (by simpa [xOk] using hok)
    exact .ptr _ _ ⟨rfl, _, ht, rfl, by simp⟩
  | func f => exact .func _ _ _ _ _ _ (.func f) rfl (fun i h _ => absurd h (by simp)) rfl (fun i h _ => absurd h (by simp))
end Go.Proofs.YtjejcbiilimjkaaDoor
