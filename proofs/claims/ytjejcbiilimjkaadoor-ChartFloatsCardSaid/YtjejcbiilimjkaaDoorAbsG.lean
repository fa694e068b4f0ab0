/- Operation by operation, on: arithmetic, slices, aggregates. -/
import Derived.Test.YtjejcbiilimjkaaDoorAbsF
namespace Go.Proofs.YtjejcbiilimjkaaDoor
open Go Go.RowKit

variable {P : Program} {B0 : Nat} {m : Mp} {o : Nat → Ow} {w : World} {s : St} {a : Act} {d : Option Tmp}

theorem binA_sound (op : BinOp) (t : TypeId) (x y : Operand) (u v z : Value) (h : binA op u v = some z) : (do Go.eqGuard op t x y u v; Go.binOp op t u v : Sem Value).run P w = .ok z w := by
  unfold binA at h
  split at h
  · rename_i k p k' q
    cases op <;> simp only [Option.ite_none_right_eq_some, Option.some.injEq] at h
    all_goals first
      | (obtain ⟨rfl, rfl⟩ := h; simp [Go.eqGuard, Go.binOp, Op.intArith, Op.intCmp, Op.intBits]; done)
      | (obtain ⟨⟨rfl, h0⟩, rfl⟩ := h; simp [Go.eqGuard, Go.binOp, Op.intDiv, h0]; done)
      | (obtain ⟨h0, rfl⟩ := h; simp [Go.eqGuard, Go.binOp, Op.shift, Int.not_lt.2 h0]; done)
  · cases h

theorem binA_rel {op : BinOp} {u v z u' v' : Value} (h : binA op u v = some z) (hu : VRel m u u') (hv : VRel m v v') : u' = u ∧ v' = v ∧ VRel m z z := by
  unfold binA at h
  split at h
  · cases hu
    cases hv
    refine ⟨rfl, rfl, ?_⟩
    cases op <;> simp only [Option.ite_none_right_eq_some, Option.some.injEq] at h
    all_goals (obtain ⟨_, rfl⟩ := h; first | exact .int _ _ | exact .bool _)
  · cases h

section
variable (t : Tied P B0 m o s.L s.H w) {oper : Oper} {v : Value} {L' : LS} {H' : AH}
include t

theorem do_bin {op : BinOp} {x y : Operand} {ty ty' : TypeId} (hop : oper.op = .binOp op ty x y ty') (hx : VRel m (s.ev x) (a.eval x)) (hy : VRel m (s.ev y) (a.eval y)) (h : popA s (.bin op x y) d = some (v, L', H')) : Does P B0 m o w a oper v L' H' := by
  simp only [popA, Option.bind_eq_some_iff, Option.some.injEq, Prod.mk.injEq] at h
  obtain ⟨z, hz, rfl, rfl, rfl⟩ := h
  obtain ⟨h1, h2, h3⟩ := binA_rel hz hx hy
  refine t.pure (v' := z) ?_ h3
  have := binA_sound (P := P) (w := w) op ty x y _ _ z hz
  simp only [execOp, hop, h1, h2]
  rw [Sem.run_bind, this]
  rfl

omit t in
theorem run_equalIn_bool (n : Nat) {ty : TypeId} (hu : P.underlying ty = some .bool) (p q : Bool) : (Op.equalIn (n + 1) ty (.bool p) (.bool q)).run P w = .ok (p == q) w := by
  simp [Op.equalIn, run_underlying hu]

omit t in
theorem run_equal_bool {ty : TypeId} (hu : P.underlying ty = some .bool) (p q : Bool) : (Op.equal ty (.bool p) (.bool q)).run P w = .ok (p == q) w := run_equalIn_bool 9999 hu p q

omit t in
theorem run_eqGuard_bool (op : BinOp) (ty : TypeId) (x y : Operand) (p q : Bool) : (Go.eqGuard op ty x y (.bool p) (.bool q)).run P w = .ok () w := by cases op <;> rfl

theorem do_eqb {neg : Bool} {x y : Operand} {ty ty' : TypeId} (hop : oper.op = .binOp (if neg then .neq else .eql) ty x y ty') (hu : P.underlying ty = some .bool) (hx : VRel m (s.ev x) (a.eval x)) (hy : VRel m (s.ev y) (a.eval y)) (h : popA s (.eqb neg x y) d = some (v, L', H')) : Does P B0 m o w a oper v L' H' := by
  simp only [popA] at h
  split at h
  · rename_i p q hp hq
    rw [hp] at hx
    rw [hq] at hy
    simp only [Option.some.injEq, Prod.mk.injEq] at h
    obtain ⟨rfl, rfl, rfl⟩ := h
    generalize he : a.eval x = z at hx
    generalize hg : a.eval y = z' at hy
    cases hx
    cases hy
    refine t.pure ?_ (.bool _)
    cases neg
    · simp only [execOp, hop, he, hg, Bool.false_eq_true, if_false]
      rw [Sem.run_bind, Sem.run_bind, run_eqGuard_bool]
      simp only [Result.andThen_ok, Go.binOp]
      rw [Sem.run_bind, run_equal_bool hu]
      rfl
    · simp only [execOp, hop, he, hg, if_true]
      rw [Sem.run_bind, Sem.run_bind, run_eqGuard_bool]
      simp only [Result.andThen_ok, Go.binOp]
      rw [Sem.run_bind, run_equal_bool hu]
      rfl
  · cases h

theorem do_un {op : UnOp} {x : Operand} {ty : TypeId} (hop : oper.op = .unOp op ty x) (hx : VRel m (s.ev x) (a.eval x)) (h : popA s (.un op x) d = some (v, L', H')) : Does P B0 m o w a oper v L' H' := by
  simp only [popA, Option.bind_eq_some_iff, Option.some.injEq, Prod.mk.injEq] at h
  obtain ⟨z, hz, rfl, rfl, rfl⟩ := h
  unfold unA at hz
  split at hz
  · rename_i k n hp
    rw [hp] at hx; cases hz
    generalize he : a.eval x = z at hx
    cases hx
    refine t.pure ?_ (.int _ _)
    simp [execOp, hop, he, Op.unary, Op.intArith]
  · rename_i b hp
    rw [hp] at hx; cases hz
    generalize he : a.eval x = z at hx
    cases hx
    refine t.pure ?_ (.bool _)
    simp [execOp, hop, he, Op.unary]
  · cases hz

theorem do_conv {k k' : IntKind} {x : Operand} {st dt : TypeId} (hop : oper.op = .convert st dt x) (hs : P.underlying st = some (.int k')) (hd : P.underlying dt = some (.int k)) (hx : VRel m (s.ev x) (a.eval x)) (h : popA s (.conv k x) d = some (v, L', H')) : Does P B0 m o w a oper v L' H' := by
  simp only [popA] at h
  split at h
  · rename_i k2 n hp
    rw [hp] at hx
    simp only [Option.some.injEq, Prod.mk.injEq] at h
    obtain ⟨rfl, rfl, rfl⟩ := h
    generalize he : a.eval x = z at hx
    cases hx
    refine t.pure ?_ (.int _ _)
    simp [execOp, hop, he, Go.convert, run_underlying hs, run_underlying hd, Conv.intToInt]
  · cases h

theorem do_mkf {fn : Fn} {first cap : Array Operand} (hop : oper.op = .makeFunc fn first cap) (hx : ∀ x ∈ first.toList ++ cap.toList, VRel m (s.ev x) (a.eval x)) (h : popA s (.mkf fn first.toList cap.toList) d = some (v, L', H')) : Does P B0 m o w a oper v L' H' := by
  simp only [popA] at h
  split at h
  · rename_i vs L1 H1 h1
    split at h
    · rename_i us L2 H2 h2
      split at h
      · rename_i f
        simp only [Option.some.injEq, Prod.mk.injEq] at h
        obtain ⟨rfl, rfl, rfl⟩ := h
        have r1 : LsRel m (first.toList.map s.ev) (first.toList.map a.eval) := ⟨by simp, fun i p q => by simp; exact hx _ (by simp)⟩
        have r2 : LsRel m (cap.toList.map s.ev) (cap.toList.map a.eval) := ⟨by simp, fun i p q => by simp; exact hx _ (by simp)⟩
        obtain ⟨m1, o1, a1, a2, a3, a4, a5, a6, a7⟩ := globs_sound t.tH t.tL t.tF r1 h1
        obtain ⟨m2, o2, b1, b2, b3, b4, b5, b6, b7⟩ := globs_sound a4 a5 a6 (r2.mono a1) h2
        refine ⟨.value (.func (.func f) (first.map a.eval) (cap.map a.eval)), w, ?_, .inl ⟨_, rfl, m2, o2, Mp.le_trans a1 b1, ?_, b5, b6, b4, a7.trans b7⟩⟩
        · simp [execOp, hop, Instr.makeFunc]
        · have e1 := a2.mono b1
          refine .func _ _ _ _ _ _ (.func f) ?_ ?_ ?_ ?_
          · simpa using e1.1
          · intro i p q; have := e1.2 i (by simpa using p) (by simpa using q); rw [List.getElem_map] at this; simpa using this
          · simpa using b2.1
          · intro i p q; have := b2.2 i (by simpa using p) (by simpa using q); rw [List.getElem_map] at this; simpa using this
      · cases h
    · cases h
  · cases h

theorem do_ext {x : Operand} {i : Nat} (hop : oper.op = .extract x i) (hx : VRel m (s.ev x) (a.eval x)) (h : popA s (.ext x i) d = some (v, L', H')) : Does P B0 m o w a oper v L' H' := by
  simp only [popA] at h
  split at h
  · rename_i vs hp
    rw [hp] at hx
    split at h
    · rename_i u hu
      split at h
      · cases h
      rename_i hnu
      simp only [Option.some.injEq, Prod.mk.injEq] at h
      obtain ⟨rfl, rfl, rfl⟩ := h
      obtain ⟨hlt, rfl⟩ := Array.getElem?_eq_some_iff.1 hu
      generalize he : a.eval x = z at hx
      cases hx with
      | any => simp at hlt
      | sk => have : i = 0 := by simpa using hlt
              subst this; exact absurd rfl hnu
      | tup _ x' hs hxs =>
        refine t.pure (v' := x'[i]) ?_ (hxs i hlt (by omega))
        simp [execOp, hop, he, Instr.extract, show i < x'.size by omega]
    · cases h
  · cases h

theorem do_fld {x : Operand} {st f off size : Nat} {ag : Bool} (hop : oper.op = .field st x f) (hf : fieldOf P st f = some (off, size, ag)) (hx : VRel m (s.ev x) (a.eval x)) (h : popA s (.fld off size ag x) d = some (v, L', H')) : Does P B0 m o w a oper v L' H' := by
  simp only [popA] at h
  split at h
  · rename_i cs hp
    rw [hp] at hx
    generalize he : a.eval x = z at hx
    cases hx with
    | agg _ x' hs hxs =>
    unfold fieldOf at hf
    split at hf
    · rename_i fs hu
      simp only [bind, Option.bind_eq_some_iff, pure, Option.some.injEq, Prod.mk.injEq] at hf
      obtain ⟨fl, h1, i, h2, de, h3, rfl, rfl, rfl⟩ := hf
      have hag : isAggT P fl.type = true → (isAgg fl.type).run P w = .ok true w := fun ha => by
        simp only [isAggT] at ha
        split at ha
        · rename_i fs hu; simp [isAgg, run_underlying hu]
        · rename_i n e hu; simp [isAgg, run_underlying hu]
        · cases ha
      split at h
      · rename_i ha
        split at h
        · rename_i hsz
          simp only [Option.some.injEq, Prod.mk.injEq] at h
          obtain ⟨rfl, rfl, rfl⟩ := h
          refine t.pure (v' := .agg (x'.extract fl.offset (fl.offset + i.size))) ?_ (.agg _ _ (by simp [hs]) ?_)
          · simp [execOp, hop, he, Instr.field, run_underlying hu, h1, asAgg, part, hag ha, sizeOf, typeInfo, h2]
          · intro j p q
            simp only [Array.getElem_extract]
            exact hxs _ _ _
        · cases h
      · rename_i ha
        split at h
        · rename_i u hu'
          simp only [Option.some.injEq, Prod.mk.injEq] at h
          obtain ⟨rfl, rfl, rfl⟩ := h
          obtain ⟨hlt, rfl⟩ := Array.getElem?_eq_some_iff.1 hu'
          refine t.pure (v' := x'[fl.offset]) ?_ (hxs _ hlt (by omega))
          have hag' : (isAgg fl.type).run P w = .ok false w := by
            simp only [isAggT, h3] at ha
            cases de <;> simp [isAgg, run_underlying h3] at ha ⊢
          simp [execOp, hop, he, Instr.field, run_underlying hu, h1, asAgg, part, hag', show fl.offset < x'.size by omega]
        · cases h
    · cases hf
  · cases h

theorem do_len {x : Operand} {ty e : TypeId} {rt : TypeId} {c : Call} (hop : oper.op = .call c) (hcal : c.callee = .builtin .len) (hty : c.argTypes[0]? = some ty) (hargs : c.args = #[x]) (hu : P.underlying ty = some (.slice e)) (hx : VRel m (s.ev x) (a.eval x)) (h : popA s (.len x) d = some (v, L', H')) : Does P B0 m o w a oper v L' H' := by
  simp only [popA] at h
  split at h
  · rename_i p n k hp
    rw [hp] at hx
    simp only [Option.some.injEq, Prod.mk.injEq] at h
    obtain ⟨rfl, rfl, rfl⟩ := h
    obtain ⟨cal, cargs, cty⟩ := c
    simp only at hcal hargs hty
    subst hcal; subst hargs
    generalize he : a.eval x = z at hx
    cases hx with
    | slN =>
      refine t.pure ?_ (.int _ _)
      simp [execOp, hop, he, resolve, invoke, Go.builtin, Builtin.len_, hty, run_underlying hu, goInt]
    | sl =>
      refine t.pure ?_ (.int _ _)
      simp [execOp, hop, he, resolve, invoke, Go.builtin, Builtin.len_, hty, run_underlying hu, goInt]
  · cases h

omit t in
theorem maxL_sound : ∀ (r : List Value) (x z : Value), isInt x = true → maxL x r = some z → ∃ k n, z = .int k n ∧ ∀ {x' : Value} {r' : List Value}, VRel m x x' → LsRel m r r' → (r'.foldlM Builtin.max2 x').run P w = .ok z w
  | [], x, z, hi, h => by
    cases x <;> simp [isInt] at hi
    rename_i k n
    simp only [maxL, Option.some.injEq] at h; subst h
    refine ⟨k, n, rfl, fun {x' r'} hx hr => ?_⟩
    cases r' with
    | nil => cases hx; simp
    | cons => simp [LsRel] at hr
  | y :: r, x, z, hi, h => by
    cases x <;> simp [isInt] at hi
    rename_i k n
    unfold maxL at h
    split at h
    · simp at *
    · rename_i k1 x1 k2 y1 r1 e1 e2
      cases e1
      cases e2
      split at h
      · rename_i hk; subst hk
        obtain ⟨k', n', rfl, ih⟩ := maxL_sound _ _ z rfl h
        refine ⟨k', n', rfl, fun {x' r'} hx hr => ?_⟩
        cases r' with
        | nil => simp [LsRel] at hr
        | cons y' r' =>
          have hy := hr.head
          cases hx
          cases hy
          have := ih (.int _ _) hr.tail
          simp only [List.foldlM_cons, Sem.run_bind, bind, Builtin.max2, Sem.run_pure, pure, Result.andThen_ok]
          exact this
      · cases h
    · cases h

omit t in
theorem minL_sound : ∀ (r : List Value) (x z : Value), isInt x = true → minL x r = some z → ∃ k n, z = .int k n ∧ ∀ {x' : Value} {r' : List Value}, VRel m x x' → LsRel m r r' → (r'.foldlM Builtin.min2 x').run P w = .ok z w
  | [], x, z, hi, h => by
    cases x <;> simp [isInt] at hi
    rename_i k n
    simp only [minL, Option.some.injEq] at h; subst h
    refine ⟨k, n, rfl, fun {x' r'} hx hr => ?_⟩
    cases r' with
    | nil => cases hx; simp
    | cons => simp [LsRel] at hr
  | y :: r, x, z, hi, h => by
    cases x <;> simp [isInt] at hi
    rename_i k n
    unfold minL at h
    split at h
    · simp at *
    · rename_i k1 x1 k2 y1 r1 e1 e2
      cases e1
      cases e2
      split at h
      · rename_i hk; subst hk
        obtain ⟨k', n', rfl, ih⟩ := minL_sound _ _ z rfl h
        refine ⟨k', n', rfl, fun {x' r'} hx hr => ?_⟩
        cases r' with
        | nil => simp [LsRel] at hr
        | cons y' r' =>
          have hy := hr.head
          cases hx
          cases hy
          have := ih (.int _ _) hr.tail
          simp only [List.foldlM_cons, Sem.run_bind, bind, Builtin.min2, Sem.run_pure, pure, Result.andThen_ok]
          exact this
      · cases h
    · cases h

theorem do_max {c : Call} (hop : oper.op = .call c) (hcal : c.callee = .builtin .max) (hx : ∀ x ∈ c.args.toList, VRel m (s.ev x) (a.eval x)) (h : popA s (.max c.args.toList) d = some (v, L', H')) : Does P B0 m o w a oper v L' H' := by
  obtain ⟨cal, cargs, cty⟩ := c
  simp only at hcal hx h
  subst hcal
  obtain ⟨l⟩ := cargs
  simp only at hx h
  simp only [popA] at h
  cases l with
  | nil => simp at h
  | cons x r =>
    simp only [List.map_cons] at h
    split at h
    · rename_i hi
      simp only [Option.bind_eq_some_iff, Option.some.injEq, Prod.mk.injEq] at h
      obtain ⟨z, hz, rfl, rfl, rfl⟩ := h
      obtain ⟨k, n, rfl, hs⟩ := maxL_sound (P := P) (w := w) (m := m) _ _ z hi hz
      have := hs (x' := a.eval x) (r' := r.map a.eval) (hx _ (by simp)) ⟨by simp, fun i p q => by simp; exact hx _ (by simp)⟩
      refine t.pure ?_ (.int _ _)
      simp [execOp, hop, resolve, invoke, Go.builtin, Builtin.max_, this]
    · cases h

theorem do_min {c : Call} (hop : oper.op = .call c) (hcal : c.callee = .builtin .min) (hx : ∀ x ∈ c.args.toList, VRel m (s.ev x) (a.eval x)) (h : popA s (.min c.args.toList) d = some (v, L', H')) : Does P B0 m o w a oper v L' H' := by
  obtain ⟨cal, cargs, cty⟩ := c
  simp only at hcal hx h
  subst hcal
  obtain ⟨l⟩ := cargs
  simp only at hx h
  simp only [popA] at h
  cases l with
  | nil => simp at h
  | cons x r =>
    simp only [List.map_cons] at h
    split at h
    · rename_i hi
      simp only [Option.bind_eq_some_iff, Option.some.injEq, Prod.mk.injEq] at h
      obtain ⟨z, hz, rfl, rfl, rfl⟩ := h
      obtain ⟨k, n, rfl, hs⟩ := minL_sound (P := P) (w := w) (m := m) _ _ z hi hz
      have := hs (x' := a.eval x) (r' := r.map a.eval) (hx _ (by simp)) ⟨by simp, fun i p q => by simp; exact hx _ (by simp)⟩
      refine t.pure ?_ (.int _ _)
      simp [execOp, hop, resolve, invoke, Go.builtin, Builtin.min_, this]
    · cases h
end
end Go.Proofs.YtjejcbiilimjkaaDoor
