/- Regions whose order is drawn: operations that touch no memory, or only read it; the states of the text's order. -/
import Derived.Test.YtjejcbiilimjkaaDoorAbsQ
namespace Go.Proofs.YtjejcbiilimjkaaDoor
open Go

theorem globs_id {L : LS} {H : AH} : ∀ (vs : List Value) (_ : nlL vs = true), globs L H vs = some (vs, L, H)
  | [], _ => rfl
  | v :: r, h => by
    simp only [nlL, Bool.and_eq_true] at h
    have h1 : glob L H v = some (v, L, H) := by
      unfold glob
      split
      · rename_i d off g; simp [nl] at h
      · rw [if_pos h.1]
    simp only [globs, h1, globs_id r h.2]

/-- The block of the heap that a read at an address looks at. -/
def needs (L : LS) (a : Addr) (b : Nat) : Prop := (a.spot = none ∧ b = a.block) ∨ ∃ g, a.spot = some g ∧ lget L a.block = some (g, .fwd b)

theorem hcell_ext {H H2 : AH} {b i : Nat} {v : Value} (hp : ∀ x, H[b]? = some x → H2[b]? = some x) (h : hcell H b i = some v) : hcell H2 b i = some v := by
  unfold hcell at h ⊢
  cases hx : H[b]? with
  | none => rw [hx] at h; cases h
  | some x => rw [hx] at h; rw [hp x hx]; exact h

theorem cellAt_ext {L : LS} {H H2 : AH} {a : Addr} {v : Value} (hp : ∀ b x, needs L a b → H[b]? = some x → H2[b]? = some x) (h : cellAt L H a = some v) : cellAt L H2 a = some v := by
  unfold cellAt at h ⊢
  cases hs : a.spot with
  | none => rw [hs] at h; exact hcell_ext (fun x => hp _ x (.inl ⟨hs, rfl⟩)) h
  | some g =>
    rw [hs] at h
    simp only at h ⊢
    split at h
    · rename_i g' vs hg; exact h
    · rename_i g' b hg
      split at h
      · rename_i he; subst he; rw [if_pos rfl]; exact hcell_ext (fun x => hp _ x (.inr ⟨_, hs, hg⟩)) h
      · cases h
    · cases h

theorem cellsAt_ext {L : LS} {H H2 : AH} : ∀ (n : Nat) {a : Addr} {vs : List Value} (_ : ∀ b x, needs L a b → H[b]? = some x → H2[b]? = some x) (_ : cellsAt L H a n = some vs), cellsAt L H2 a n = some vs
  | 0, a, vs, _, h => h
  | n + 1, a, vs, hp, h => by
    unfold cellsAt at h ⊢
    split at h
    · rename_i v r h1 h2
      rw [cellAt_ext hp h1, cellsAt_ext n (a := aadd a 1) (fun b x hb => hp b x hb) h2]
      exact h
    · cases h

theorem fitA_ext {H H2 : AH} {a : Option Addr} {size : Nat} (hp : ∀ a' x, a = some a' → H[a'.block]? = some x → H2[a'.block]? = some x) (h : fitA H a size = true) : fitA H2 a size = true := by
  unfold fitA at h ⊢
  cases a with
  | none => rfl
  | some a =>
    simp only at h ⊢
    cases hx : H[a.block]? with
    | none => rw [hx] at h; cases h
    | some x => rw [hx] at h; rw [hp a x rfl hx]; exact h

theorem ev_LH {s : St} {L2 : LS} {H2 : AH} {l2 : Nat} : ({ s with L := L2, H := H2, lim := l2 } : St).ev = s.ev := by funext x; cases x <;> rfl

/-- Where a read looks, H2 has what the heap has. -/
def Agrees (s : St) (op : SO) (L2 : LS) (H2 : AH) : Prop :=
  op.isRead = true → L2 = s.L ∧ (∀ y ∈ op.xs, ∀ a, s.ev y = .pointer (some a) → ∀ b x, needs s.L a b → s.H[b]? = some x → H2[b]? = some x) ∧
    (∀ y ∈ op.xs, ∀ a n c, s.ev y = .slice (some a) n c → ∀ x, s.H[a.block]? = some x → H2[a.block]? = some x)

theorem popA_free {s : St} {op : SO} {d : Option Tmp} {v : Value} {L' : LS} {H' : AH} (hf : op.isFree = true) (hn : noLoc s op = true) (h : popA s op d = some (v, L', H')) :
    L' = s.L ∧ H' = s.H ∧ ∀ L2 H2 l2, Agrees s op L2 H2 → popA { s with L := L2, H := H2, lim := l2 } op d = some (v, L2, H2) := by
  cases op with
  | st | box | call | mks | buildS | app | copy | bad => simp [SO.isFree] at hf
  | ld x =>
    simp only [popA] at h
    split at h
    · rename_i a hx
      split at h
      · rename_i u hu
        simp only [Option.some.injEq, Prod.mk.injEq] at h
        obtain ⟨rfl, rfl, rfl⟩ := h
        refine ⟨rfl, rfl, fun L2 H2 l2 hA => ?_⟩
        obtain ⟨rfl, h1, _⟩ := hA rfl
        cases a with
        | none => simp at hu
        | some a =>
          simp only [Option.bind_some] at hu
          have := cellAt_ext (h1 x (by simp [SO.xs]) a hx) hu
          simp only [popA, ev_LH, hx, Option.bind_some, this]
      · cases h
    · cases h
  | ldn n x =>
    simp only [popA] at h
    split at h
    · rename_i a hx
      split at h
      · rename_i u hu
        simp only [Option.some.injEq, Prod.mk.injEq] at h
        obtain ⟨rfl, rfl, rfl⟩ := h
        refine ⟨rfl, rfl, fun L2 H2 l2 hA => ?_⟩
        obtain ⟨rfl, h1, _⟩ := hA rfl
        cases a with
        | none => simp at hu
        | some a =>
          simp only [Option.bind_some] at hu
          have := cellsAt_ext n (h1 x (by simp [SO.xs]) a hx) hu
          simp only [popA, ev_LH, hx, Option.bind_some, this]
      · cases h
    · cases h
  | slc sz x lo hi mx =>
    simp only [popA] at h
    split at h
    · rename_i a n c l hx hb
      split at h
      · rename_i hh hhi
        split at h
        · rename_i hc
          simp only [Option.some.injEq, Prod.mk.injEq] at h
          obtain ⟨rfl, rfl, rfl⟩ := h
          refine ⟨rfl, rfl, fun L2 H2 l2 hA => ?_⟩
          obtain ⟨rfl, _, h2⟩ := hA rfl
          have hfit := fitA_ext (H2 := H2) (fun a' z e => h2 x (by simp [SO.xs]) a' n c (by rw [hx, e]) z) hc.2.2.2
          simp only [popA, ev_LH, hx, hb, hhi]
          rw [if_pos ⟨hc.1, hc.2.1, hc.2.2.1, hfit⟩]
        · cases h
      · cases h
    · rename_i a n c l m hx hb
      split at h
      · rename_i hh mm hhi hmx
        split at h
        · rename_i hc
          simp only [Option.some.injEq, Prod.mk.injEq] at h
          obtain ⟨rfl, rfl, rfl⟩ := h
          refine ⟨rfl, rfl, fun L2 H2 l2 hA => ?_⟩
          obtain ⟨rfl, _, h2⟩ := hA rfl
          have hfit := fitA_ext (H2 := H2) (fun a' z e => h2 x (by simp [SO.xs]) a' n c (by rw [hx, e]) z) hc.2.2.2.2
          simp only [popA, ev_LH, hx, hb, hhi, hmx]
          rw [if_pos ⟨hc.1, hc.2.1, hc.2.2.1, hc.2.2.2.1, hfit⟩]
        · cases h
      · cases h
    · cases h
  | mkf fn x y =>
    simp only [noLoc, Bool.and_eq_true] at hn
    simp only [popA, globs_id _ hn.1, globs_id _ hn.2] at h
    cases fn with
    | func f =>
      simp only [Option.some.injEq, Prod.mk.injEq] at h
      obtain ⟨rfl, rfl, rfl⟩ := h
      exact ⟨rfl, rfl, fun L2 H2 l2 _ => by simp only [popA, ev_LH, globs_id _ hn.1, globs_id _ hn.2]⟩
    | _ => simp at h
  | _ =>
    simp only [popA] at h
    repeat' (first | split at h | (cases h; done) | (simp only [Option.bind_eq_some_iff, Option.some.injEq, Prod.mk.injEq] at h))
    all_goals first
      | (obtain ⟨rfl, rfl, rfl⟩ := h; exact ⟨rfl, rfl, fun L2 H2 l2 _ => by simp only [popA, ev_LH, *] <;> simp⟩)
      | (obtain ⟨u, hu, rfl, rfl, rfl⟩ := h; exact ⟨rfl, rfl, fun L2 H2 l2 _ => by simp only [popA, ev_LH, hu, Option.bind_some, *] <;> simp [*]⟩)

theorem runA_free {C : CallA} {s s' : St} {o : SOp} (hf : o.op.isFree = true) (hn : noLoc s o.op = true) (h : runA C o s = some s') :
    ∃ v, s' = s.put o.dst v ∧ ∀ L2 H2 l2, Agrees s o.op L2 H2 → runA C o { s with L := L2, H := H2, lim := l2 } = some (({ s with L := L2, H := H2, lim := l2 } : St).put o.dst v) := by
  obtain ⟨od, og, oo⟩ := o
  simp only at hf hn
  have key : ∀ s : St, runA C ⟨od, og, oo⟩ s = (match popA s oo od with
      | some (v, L, H) => some ({ s with L := L, H := H }.put od v)
      | none => none) := by
    intro s
    unfold runA
    cases oo <;> first | rfl | simp [SO.isFree] at hf
  rw [key] at h
  split at h
  · rename_i v L1 H1 hp
    obtain ⟨rfl, rfl, k3⟩ := popA_free hf hn hp
    cases h
    exact ⟨v, rfl, fun L2 H2 l2 hA => by rw [key, k3 L2 H2 l2 hA]⟩
  · cases h

theorem opA_free {C : CallA} {s s' : St} {o : SOp} (hf : o.op.isFree = true) (hn : noLoc s o.op = true) (h : opA C o s = some s') :
    ∃ v, s' = s.put o.dst v ∧ ∀ L2 H2 l2, Agrees s o.op L2 H2 → opA C o { s with L := L2, H := H2, lim := l2 } = some (({ s with L := L2, H := H2, lim := l2 } : St).put o.dst v) := by
  have skip : some (s.put o.dst SK) = some s' → ∃ v, s' = s.put o.dst v ∧ ∀ L2 H2 l2, Agrees s o.op L2 H2 → some (({ s with L := L2, H := H2, lim := l2 } : St).put o.dst SK) = some (({ s with L := L2, H := H2, lim := l2 } : St).put o.dst v) :=
    fun h => by cases h; exact ⟨SK, rfl, fun _ _ _ _ => rfl⟩
  unfold opA at h ⊢
  split at h
  · exact runA_free hf hn h
  · rename_i x wv hg
    simp only
    split at h
    · rename_i b hb
      split at h
      · rename_i hbw; simp only [hbw, if_true]; exact runA_free hf hn h
      · rename_i hbw; simp only [hbw, if_false]; exact skip h
    · rename_i vs hb
      split at h
      · rename_i hbw; simp only [hbw, if_true]; exact skip h
      · cases h
    · cases h

theorem put_L (s : St) (d : Option Tmp) (v : Value) : (s.put d v).L = s.L := by cases d <;> rfl

/-- What adds to the heap leaves the boxes alone. -/
theorem opA_add {C : CallA} {s s' : St} {o : SOp} (hf : o.op.isAdd = true) (hn : noLoc s o.op = true) (h : opA C o s = some s') : s'.L = s.L := by
  have run : runA C o s = some s' → s'.L = s.L := by
    intro h
    obtain ⟨od, og, oo⟩ := o
    simp only at hf hn
    unfold runA at h
    cases oo with
    | call f args =>
      simp only at h
      simp only [noLoc] at hn
      rw [globs_id _ hn] at h
      simp only at h
      split at h
      · cases h; exact put_L _ _ _
      · cases h
    | mks sz b z l c =>
      simp only [popA] at h
      split at h
      · rename_i v L1 H1 hp
        cases h
        rw [put_L]
        repeat' (first | (cases hp; done) | split at hp | (simp only [Option.some.injEq, Prod.mk.injEq] at hp; obtain ⟨_, rfl, _⟩ := hp; rfl))
      · cases h
    | buildS n z ps =>
      simp only [popA] at h
      split at h
      · rename_i v L1 H1 hp
        cases h
        rw [put_L]
        repeat' (first | (cases hp; done) | split at hp | (simp only [Option.some.injEq, Prod.mk.injEq] at hp; obtain ⟨_, rfl, _⟩ := hp; rfl))
      · cases h
    | app sz b z x y =>
      simp only at h
      split at h
      · rename_i v L1 H1 hp
        cases h
        rw [put_L]
        simp only [popA] at hp
        repeat' (first | (cases hp; done) | split at hp | (simp only [Option.some.injEq, Prod.mk.injEq] at hp; obtain ⟨_, rfl, _⟩ := hp; rfl))
      · cases h
    | _ => simp [SO.isAdd] at hf
  unfold opA at h
  split at h
  · exact run h
  · split at h
    · split at h
      · exact run h
      · cases h; exact put_L _ _ _
    · split at h
      · cases h; exact put_L _ _ _
      · cases h
    · cases h

/-- What stands in a state behind an operation. -/
theorem opA_shape {C : CallA} {s s' : St} {o : SOp} (h : opA C o s = some s') : ∃ v, s' = ({ s with L := s'.L, H := s'.H } : St).put o.dst v := by
  obtain ⟨v, h1, _⟩ := opA_congr (t' := s.t) h (fun _ _ => rfl)
  exact ⟨v, h1⟩

theorem tget_put (s : St) (d : Option Tmp) (v : Value) (x : Tmp) : tget (s.put d v).t x = if d = some x then v else tget s.t x := by
  cases d with
  | none => simp [St.put]
  | some d =>
    simp only [St.put, tget, Option.some.injEq]
    by_cases h : x = d
    · subst h; simp
    · rw [if_neg h, if_neg (fun e => h e.symm)]

structure DStep (k : DK) (o : SOp) (s s' : St) : Prop where
  lim : s'.lim = s.lim
  rd : s'.rd = s.rd
  t : ∀ x, (k = .late ∨ o.dst ≠ some x) → tget s'.t x = tget s.t x
  same : k = .free ∨ k = .late → s'.L = s.L ∧ s'.H = s.H
  add : k = .chain → s'.L = s.L
  gr : k ≠ .bar → Gr s.H.length s.H s'.H

theorem dOp_step {C : CallA} (hC : CGr C) {k : DK} {o : SOp} {s s' : St} (hk : k = .free → o.op.isFree = true) (hk2 : k = .chain → o.op.isAdd = true) (h : dOp C k o s = some s') : DStep k o s s' := by
  obtain ⟨_, g2, g3⟩ := dOp_Gr hC h
  have sh : k ≠ .late → ∀ x, o.dst ≠ some x → tget s'.t x = tget s.t x := by
    intro hl x hx
    have fin : ∀ {l : Nat} {s1 : St}, opA C o { s with lim := l } = some s1 → tget s1.t x = tget s.t x := by
      intro l s1 h1
      obtain ⟨v, hv⟩ := opA_shape h1
      rw [hv, tget_put, if_neg hx]
    cases k with
    | late => exact absurd rfl hl
    | bar => exact fin (l := s.lim) h
    | free | chain =>
      simp only [dOp] at h
      split at h
      · split at h
        · rename_i s1 h1; cases h; have e := fin h1; exact e
        · cases h
      · cases h
  refine ⟨g2, g3, fun x hx => ?_, fun hx => ?_, fun hx => ?_, fun hx => ?_⟩
  · rcases hx with rfl | hx
    · simp only [dOp, Option.some.injEq] at h; rw [h]
    · by_cases hl : k = .late
      · subst hl; simp only [dOp, Option.some.injEq] at h; rw [h]
      · exact sh hl x hx
  · rcases hx with rfl | rfl
    · simp only [dOp] at h
      split at h
      · rename_i hn
        split at h
        · rename_i s1 h1
          cases h
          have hn' : noLoc { s with lim := s.H.length } o.op = true := by rw [← hn]; cases o.op <;> rfl
          obtain ⟨v, e, _⟩ := opA_free (s := { s with lim := s.H.length }) (hk rfl) hn' h1
          rw [e]
          cases o.dst <;> exact ⟨rfl, rfl⟩
        · cases h
      · cases h
    · simp only [dOp, Option.some.injEq] at h; rw [h]; exact ⟨rfl, rfl⟩
  · subst hx
    simp only [dOp] at h
    split at h
    · rename_i hn
      split at h
      · rename_i s1 h1
        cases h
        have hn' : noLoc { s with lim := s.H.length } o.op = true := by rw [← hn]; cases o.op <;> rfl
        have e := opA_add (s := { s with lim := s.H.length }) (hk2 rfl) hn' h1
        exact e
      · cases h
    · cases h
  · cases k with
    | bar => exact absurd rfl hx
    | late => simp only [dOp, Option.some.injEq] at h; rw [h]; exact Gr.refl _ _
    | free | chain =>
      simp only [dOp] at h
      split at h
      · split at h
        · rename_i s1 h1; cases h; exact (opA_Gr hC h1).1
        · cases h
      · cases h

theorem dOps_states {C : CallA} : ∀ (l : List (DK × SOp)) {s s' : St} (_ : dOps C l s = some s'), ∃ σ : Nat → St, σ 0 = s ∧ σ l.length = s' ∧ ∀ i (h : i < l.length), dOp C l[i].1 l[i].2 (σ i) = some (σ (i + 1))
  | [], s, s', h => by cases h; exact ⟨fun _ => s, rfl, rfl, fun i h => absurd h (by simp)⟩
  | (k, o) :: l, s, s', h => by
    simp only [dOps] at h
    split at h
    · rename_i s1 h1
      obtain ⟨σ, k1, k2, k3⟩ := dOps_states l h
      refine ⟨fun i => match i with | 0 => s | i + 1 => σ i, rfl, by simpa using k2, fun i hi => ?_⟩
      cases i with
      | zero => simpa [k1] using h1
      | succ i => exact k3 i (by simpa using hi)
    · cases h

/-- Between two places of the text. -/
theorem states_t {l : List (DK × SOp)} {σ : Nat → St} (hs : ∀ i (h : i < l.length), DStep l[i].1 l[i].2 (σ i) (σ (i + 1))) {x : Tmp} (i : Nat) : ∀ (k : Nat) (_ : i + k ≤ l.length) (_ : ∀ j (h : j < l.length), i ≤ j → j < i + k → l[j].1 = .late ∨ l[j].2.dst ≠ some x), tget (σ (i + k)).t x = tget (σ i).t x
  | 0, _, _ => rfl
  | k + 1, h, hj => by
    have := (hs (i + k) (by omega)).t x (hj (i + k) (by omega) (by omega) (by omega))
    rw [← Nat.add_assoc, this]
    exact states_t hs i k (by omega) (fun j h a b => hj j h a (by omega))

theorem states_same {l : List (DK × SOp)} {σ : Nat → St} (hs : ∀ i (h : i < l.length), DStep l[i].1 l[i].2 (σ i) (σ (i + 1))) (i : Nat) : ∀ (k : Nat) (_ : i + k ≤ l.length) (_ : ∀ j (h : j < l.length), i ≤ j → j < i + k → isC l[j].1 = false), (σ (i + k)).L = (σ i).L ∧ (σ (i + k)).H = (σ i).H
  | 0, _, _ => ⟨rfl, rfl⟩
  | k + 1, h, hj => by
    have h1 := hj (i + k) (by omega) (by omega) (by omega)
    have := (hs (i + k) (by omega)).same (by
      cases hk : l[i + k].1 <;> rw [hk] at h1 <;> simp [isC] at h1 ⊢)
    obtain ⟨a, b⟩ := states_same hs i k (by omega) (fun j h a b => hj j h a (by omega))
    rw [← Nat.add_assoc]
    exact ⟨this.1.trans a, this.2.trans b⟩

theorem states_add {l : List (DK × SOp)} {σ : Nat → St} (hs : ∀ i (h : i < l.length), DStep l[i].1 l[i].2 (σ i) (σ (i + 1))) (i : Nat) : ∀ (k : Nat) (_ : i + k ≤ l.length) (_ : ∀ j (h : j < l.length), i ≤ j → j < i + k → l[j].1 ≠ .bar), (σ (i + k)).L = (σ i).L ∧ Gr (σ i).H.length (σ i).H (σ (i + k)).H
  | 0, _, _ => ⟨rfl, Gr.refl _ _⟩
  | k + 1, h, hj => by
    have h1 := hj (i + k) (by omega) (by omega) (by omega)
    have hd := hs (i + k) (by omega)
    obtain ⟨a, b⟩ := states_add hs i k (by omega) (fun j h a b => hj j h a (by omega))
    rw [← Nat.add_assoc]
    refine ⟨?_, b.trans ((hd.gr h1).mono b.1)⟩
    rw [← a]
    cases hk : l[i + k].1 with
    | free => exact (hd.same (.inl hk)).1
    | late => exact (hd.same (.inr hk)).1
    | chain => exact hd.add hk
    | bar => exact absurd hk h1

theorem states_lim {l : List (DK × SOp)} {σ : Nat → St} (hs : ∀ i (h : i < l.length), DStep l[i].1 l[i].2 (σ i) (σ (i + 1))) : ∀ (k : Nat) (_ : k ≤ l.length), (σ k).lim = (σ 0).lim ∧ (σ k).rd = (σ 0).rd
  | 0, _ => ⟨rfl, rfl⟩
  | k + 1, h => by
    have hd := hs k (by omega)
    obtain ⟨a, b⟩ := states_lim hs k (by omega)
    exact ⟨hd.lim.trans a, hd.rd.trans b⟩
end Go.Proofs.YtjejcbiilimjkaaDoor
