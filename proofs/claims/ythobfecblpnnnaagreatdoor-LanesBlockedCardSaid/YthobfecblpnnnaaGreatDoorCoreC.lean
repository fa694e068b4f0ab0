import Derived.Test.YthobfecblpnnnaaGreatDoorAltA
set_option linter.all false

/- Regions whose order is drawn: what is surely done before what; what an operation's value depends on. -/
namespace Go.Proofs.YthobfecblpnnnaaGreatDoor
open Go

/-! ### Who comes before whom -/

theorem maskOf_sub {acc : List Nat} {R : Nat → Prop} : ∀ (l : List Edge) (m0 : Nat) (_ : ∀ k, m0.testBit k = true → R k) (_ : ∀ e ∈ l, bindE e = true → R e.on) (_ : ∀ e ∈ l, bindE e = true → ∀ k, (acc.getD e.on 0).testBit k = true → R k),
    ∀ k, (l.foldl (fun m e => if bindE e then m ||| (acc.getD e.on 0 ||| 1 <<< e.on) else m) m0).testBit k = true → R k
  | [], m0, h0, _, _, k, h => h0 k h
  | e :: l, m0, h0, h1, h2, k, h => by
    rw [List.foldl_cons] at h
    refine maskOf_sub l _ ?_ (fun e he => h1 e (by simp [he])) (fun e he => h2 e (by simp [he])) k h
    intro k hk
    split at hk
    · rename_i hb
      rw [Nat.testBit_or, Nat.testBit_or, Bool.or_eq_true, Bool.or_eq_true] at hk
      rcases hk with hk | hk | hk
      · exact h0 k hk
      · exact h2 e (by simp) hb k hk
      · rw [Nat.one_shiftLeft, Nat.testBit_two_pow, decide_eq_true_eq] at hk
        subst hk; exact h1 e (by simp) hb
    · exact h0 k hk

theorem maskOf_congr {acc acc' : List Nat} : ∀ (l : List Edge) (m0 : Nat) (_ : ∀ e ∈ l, bindE e = true → acc.getD e.on 0 = acc'.getD e.on 0),
    l.foldl (fun m e => if bindE e then m ||| (acc.getD e.on 0 ||| 1 <<< e.on) else m) m0 = l.foldl (fun m e => if bindE e then m ||| (acc'.getD e.on 0 ||| 1 <<< e.on) else m) m0
  | [], m0, _ => rfl
  | e :: l, m0, h => by
    rw [List.foldl_cons, List.foldl_cons]
    have : (if bindE e then m0 ||| (acc.getD e.on 0 ||| 1 <<< e.on) else m0) = (if bindE e then m0 ||| (acc'.getD e.on 0 ||| 1 <<< e.on) else m0) := by
      split
      · rename_i hb; rw [h e (by simp) hb]
      · rfl
    rw [this]
    exact maskOf_congr l _ (fun e he => h e (by simp [he]))

theorem masksGo_spec : ∀ (ops : List Oper) (acc : List Nat) (_ : ∀ i (h : i < ops.length), ∀ e ∈ ops[i].after.toList, bindE e = true → e.on < acc.length + i),
    (∀ j, j < acc.length → (masksGo ops acc).getD j 0 = acc.getD j 0) ∧ ∀ i (h : i < ops.length), (masksGo ops acc).getD (acc.length + i) 0 = maskOf (masksGo ops acc) ops[i].after.toList
  | [], acc, _ => ⟨fun _ _ => rfl, fun i h => absurd h (by simp)⟩
  | o :: r, acc, h => by
    have hr : ∀ i (h : i < r.length), ∀ e ∈ r[i].after.toList, bindE e = true → e.on < (acc ++ [maskOf acc o.after.toList]).length + i := fun i hi e he hb => by
      have := h (i + 1) (by simpa using hi) e (by simpa using he) hb
      simp; omega
    obtain ⟨k1, k2⟩ := masksGo_spec r (acc ++ [maskOf acc o.after.toList]) hr
    rw [masksGo]
    have hk : ∀ j, j < acc.length → (masksGo r (acc ++ [maskOf acc o.after.toList])).getD j 0 = acc.getD j 0 := fun j hj => by
      rw [k1 j (by simp; omega), List.getD_eq_getElem?_getD, List.getElem?_append_left hj, ← List.getD_eq_getElem?_getD]
    refine ⟨hk, fun i hi => ?_⟩
    cases i with
    | zero =>
      have := k1 acc.length (by simp)
      rw [Nat.add_zero, this]
      rw [List.getD_eq_getElem?_getD, List.getElem?_append_right (Nat.le_refl _)]
      simp only [Nat.sub_self, List.getElem?_cons_zero, Option.getD_some, List.getElem_cons_zero]
      exact maskOf_congr _ _ fun e he hb => (hk e.on (by have := h 0 (by simp) e (by simpa using he) hb; omega)).symm
    | succ i =>
      have := k2 i (by simpa using hi)
      simp only [List.length_append, List.length_cons, List.length_nil, List.getElem_cons_succ] at this ⊢
      rw [← this]
      congr 1
      omega

/-- What is done, with an operation, all that it waits for is done. -/
def Closed (ops : List Oper) (R : Nat → Prop) : Prop := ∀ i (h : i < ops.length), R i → ∀ e ∈ ops[i].after.toList, bindE e = true → R e.on

theorem mask_closed {ops : List Oper} {ms : List Nat} (hms : ∀ i (h : i < ops.length), ms.getD i 0 = maskOf ms ops[i].after.toList) (hlt : ∀ i (h : i < ops.length), ∀ e ∈ ops[i].after.toList, bindE e = true → e.on < i) {R : Nat → Prop} (hR : Closed ops R) :
    ∀ (n i : Nat) (_ : i < n) (h : i < ops.length) (_ : ∀ e ∈ ops[i].after.toList, bindE e = true → R e.on) (k : Nat) (_ : (ms.getD i 0).testBit k = true), R k
  | 0, i, hn, _, _, _, _ => by omega
  | n + 1, i, hn, h, he, k, hk => by
    rw [hms i h] at hk
    refine maskOf_sub ops[i].after.toList 0 (fun k hk => by simp at hk) he (fun e hel hb k hk => ?_) k hk
    have hl := hlt i h e hel hb
    exact mask_closed hms hlt hR n e.on (by omega) (by omega) (hR e.on (by omega) (he e hel hb)) k hk

/-- An operation that is ready, and another one that is surely before or behind it. -/
theorem cmp_ready {ops : List Oper} {ms : List Nat} (hms : ∀ i (h : i < ops.length), ms.getD i 0 = maskOf ms ops[i].after.toList) (hlt : ∀ i (h : i < ops.length), ∀ e ∈ ops[i].after.toList, bindE e = true → e.on < i) {R : Nat → Prop} (hR : Closed ops R)
    {i j : Nat} (hi : i < ops.length) (hj : j < ops.length) (hr : ∀ e ∈ ops[i].after.toList, bindE e = true → R e.on) (hn : ¬ R i) (hne : i ≠ j) (hc : cmpB ms i j = true) : (j < i → R j) ∧ (i < j → ¬ R j) := by
  unfold cmpB at hc
  constructor
  · intro h
    rw [if_neg (by omega)] at hc
    exact mask_closed hms hlt hR (i + 1) i (by omega) hi hr j hc
  · intro h hRj
    rw [if_pos h] at hc
    exact hn (mask_closed hms hlt hR (j + 1) j (by omega) hj (hR j hj hRj) i hc)

theorem cmpB_comm (ms : List Nat) {i j : Nat} (h : i ≠ j) : cmpB ms i j = cmpB ms j i := by
  unfold cmpB
  by_cases hij : i < j
  · rw [if_pos hij, if_neg (by omega)]
  · rw [if_neg hij, if_pos (by omega)]

/-! ### What an operation's value depends on -/

theorem ev_congr {s : St} {t' : TS} {l : List Operand} (h : ∀ x, .tmp x ∈ l → tget t' x = tget s.t x) : ∀ x ∈ l, ({ s with t := t' } : St).ev x = s.ev x := by
  intro x hx
  cases x with
  | tmp x => exact h x hx
  | _ => rfl

theorem map_ev_congr {s : St} {t' : TS} (l : List Operand) (h : ∀ x ∈ l, ({ s with t := t' } : St).ev x = s.ev x) : l.map ({ s with t := t' } : St).ev = l.map s.ev := List.map_congr_left h

theorem parts_ev_congr {s : St} {t' : TS} (l : List (Nat × Nat × Operand)) (h : ∀ x ∈ l.map (·.2.2), ({ s with t := t' } : St).ev x = s.ev x) :
    (l.map fun (o, k, x) => (o, k, ({ s with t := t' } : St).ev x)) = l.map fun (o, k, x) => (o, k, s.ev x) :=
  List.map_congr_left fun p hp => by
    obtain ⟨o, k, x⟩ := p
    simp only
    rw [h x (List.mem_map.2 ⟨_, hp, rfl⟩)]

theorem opt_ev_congr {s : St} {t' : TS} (x : Option Operand) (h : ∀ y ∈ oL x, ({ s with t := t' } : St).ev y = s.ev y) : x.map ({ s with t := t' } : St).ev = x.map s.ev := by
  cases x with
  | none => rfl
  | some x => simp [h x (by simp [oL])]

theorem popA_congr {s : St} {t' : TS} (op : SO) (d : Option Tmp) (h : ∀ x ∈ op.xs, ({ s with t := t' } : St).ev x = s.ev x) : popA { s with t := t' } op d = popA s op d := by
  cases op with
  | mv x => simp only [popA, h x (by simp [SO.xs])]
  | pick c x y => simp only [popA, h c (by simp [SO.xs]), h x (by simp [SO.xs]), h y (by simp [SO.xs])]
  | box x => simp only [popA, h x (by simp [SO.xs])]
  | ptr x off => simp only [popA, h x (by simp [SO.xs])]
  | elem sz x ix => simp only [popA, h x (by simp [SO.xs]), h ix (by simp [SO.xs])]
  | elemA n sz x ix => simp only [popA, h x (by simp [SO.xs]), h ix (by simp [SO.xs])]
  | ld x => simp only [popA, h x (by simp [SO.xs])]
  | ldn n x => simp only [popA, h x (by simp [SO.xs])]
  | st n x v => simp only [popA, h x (by simp [SO.xs]), h v (by simp [SO.xs])]; rfl
  | nilc x => simp only [popA, h x (by simp [SO.xs])]
  | bin o x y => simp only [popA, h x (by simp [SO.xs]), h y (by simp [SO.xs])]
  | eqb n x y => simp only [popA, h x (by simp [SO.xs]), h y (by simp [SO.xs])]
  | eqs n k x y => simp only [popA, h x (by simp [SO.xs]), h y (by simp [SO.xs])]
  | un o x => simp only [popA, h x (by simp [SO.xs])]
  | conv k x => simp only [popA, h x (by simp [SO.xs])]
  | mkf fn x y => simp only [popA, map_ev_congr x (fun z hz => h z (by simp [SO.xs, hz])), map_ev_congr y (fun z hz => h z (by simp [SO.xs, hz]))]
  | mks sz b z l c => simp only [popA, h l (by simp [SO.xs]), h c (by simp [SO.xs])]
  | slc sz x lo hi mx =>
    have h1 := opt_ev_congr lo (fun z hz => h z (by simp [SO.xs, hz]))
    have h2 := opt_ev_congr hi (fun z hz => h z (by simp [SO.xs, hz]))
    have h4 := fun z hz => h z (show z ∈ (SO.slc sz x lo hi mx).xs by simp [SO.xs]; exact .inr (.inr (.inl hz)))
    have h5 := fun z hz => h z (show z ∈ (SO.slc sz x lo hi mx).xs by simp [SO.xs]; exact .inr (.inr (.inr hz)))
    simp only [popA, h x (by simp [SO.xs]), h1, h2]
    generalize s.ev x = sx
    generalize bndA (lo.map s.ev) 0 = b0
    cases hi <;> cases mx <;> simp only [oL, List.mem_singleton, forall_eq] at h4 h5 <;> cases sx <;> cases b0 <;> simp [*]
  | fld o sz ag x => simp only [popA, h x (by simp [SO.xs])]
  | ext x i => simp only [popA, h x (by simp [SO.xs])]
  | build z ps => simp only [popA, parts_ev_congr ps h]
  | buildS n z ps => simp only [popA, parts_ev_congr ps h]
  | call f args => rfl
  | len x => simp only [popA, h x (by simp [SO.xs])]
  | app sz b z x y => simp only [popA, h x (by simp [SO.xs]), h y (by simp [SO.xs])]
  | max xs => simp only [popA, map_ev_congr xs h]
  | min xs => simp only [popA, map_ev_congr xs h]
  | copy sz x y => simp only [popA, h x (by simp [SO.xs]), h y (by simp [SO.xs])]
  | clr z x => simp only [popA, h x (by simp [SO.xs])]
  | nils neg x => simp only [popA, h x (by simp [SO.xs])]
  | sidx l x => simp only [popA, h x (by simp [SO.xs])]
  | bad => rfl

/-- The same over other temporaries that agree where it looks. -/
def Same (o : SOp) (s s' : St) (r : Option St) (t' : TS) : Prop := ∃ v, s' = ({ s with L := s'.L, H := s'.H } : St).put o.dst v ∧ r = some (({ s with t := t', L := s'.L, H := s'.H } : St).put o.dst v)

theorem put_eq {s s' : St} {L : LS} {H : AH} {d : Option Tmp} {v : Value} (h : ({ s with L := L, H := H } : St).put d v = s') : s'.L = L ∧ s'.H = H := by
  subst h; cases d <;> exact ⟨rfl, rfl⟩

theorem runA_congr {C : CallA} {o : SOp} {s s' : St} {t' : TS} (h : runA C o s = some s') (hx : ∀ x ∈ o.op.xs, ({ s with t := t' } : St).ev x = s.ev x) : Same o s s' (runA C o { s with t := t' }) t' := by
  unfold runA at h ⊢
  split at h
  · rename_i f args hop
    rw [hop] at hx
    rw [map_ev_congr args (fun z hz => hx z (by simp [SO.xs, hz])), hx f (by simp [SO.xs])]
    split at h
    · rename_i vs L1 H1 hg
      split at h
      · rename_i v H2 hc
        cases h
        obtain ⟨k1, k2⟩ := put_eq (s := s) (L := L1) (H := H2) (d := o.dst) (v := v) rfl
        exact ⟨v, by rw [k1, k2], by rw [k1, k2]; simp only [hg, hc]⟩
      · cases h
    · cases h
  · rename_i op hnc
    rw [popA_congr _ o.dst hx]
    split at h
    · rename_i v L1 H1 hp
      cases h
      obtain ⟨k1, k2⟩ := put_eq (s := s) (L := L1) (H := H1) (d := o.dst) (v := v) rfl
      exact ⟨v, by rw [k1, k2], by rw [k1, k2]⟩
    · cases h

theorem opA_congr {C : CallA} {o : SOp} {s s' : St} {t' : TS} (h : opA C o s = some s') (hx : ∀ x ∈ o.look, tget t' x = tget s.t x) : Same o s s' (opA C o { s with t := t' }) t' := by
  have hop : ∀ x ∈ o.op.xs, ({ s with t := t' } : St).ev x = s.ev x := ev_congr fun x hm => hx x (by
    unfold SOp.look
    exact List.mem_append_left _ (List.mem_filterMap.2 ⟨_, hm, rfl⟩))
  have skip : some (s.put o.dst SK) = some s' → Same o s s' (some (({ s with t := t' } : St).put o.dst SK)) t' := fun h => by
    cases h
    refine ⟨SK, ?_, ?_⟩ <;> cases o.dst <;> rfl
  unfold opA at h ⊢
  cases hg : o.guard with
  | none => rw [hg] at h; exact runA_congr h hop
  | some p =>
    obtain ⟨x, wv⟩ := p
    rw [hg] at h
    simp only at h ⊢
    rw [hx x (by simp [SOp.look, hg])]
    split at h
    · rename_i b hb
      split at h
      · rename_i hbw; rw [if_pos hbw]; exact runA_congr h hop
      · rename_i hbw; rw [if_neg hbw]; exact skip h
    · rename_i vs hb
      split at h
      · rename_i hbw; rw [if_pos hbw]; exact skip h
      · cases h
    · cases h
end Go.Proofs.YthobfecblpnnnaaGreatDoor

/- Regions whose order is drawn: operations that touch no memory, or only read it; the states of the text's order. -/
namespace Go.Proofs.YthobfecblpnnnaaGreatDoor
open Go

theorem globs_id {L : LS} {H : AH} : ∀ (vs : List Value) (_ : nlL vs = true), globs L H vs = some (vs, L, H)
  | [], _ => rfl
  | v :: r, h => by
    simp only [nlL, Bool.and_eq_true] at h
    have h1 : glob L H v = some (v, L, H) := by
      unfold glob
      split
      · rename_i d off g; simp [nl] at h
      · rw [if_pos h.1]
    simp only [globs, h1, globs_id r h.2]

/-- The block of the heap that a read at an address looks at. -/
def needs (L : LS) (a : Addr) (b : Nat) : Prop := (a.spot = none ∧ b = a.block) ∨ ∃ g, a.spot = some g ∧ lget L a.block = some (g, .fwd b)

theorem hcell_ext {H H2 : AH} {b i : Nat} {v : Value} (hp : ∀ x, H[b]? = some x → H2[b]? = some x) (h : hcell H b i = some v) : hcell H2 b i = some v := by
  unfold hcell at h ⊢
  cases hx : H[b]? with
  | none => rw [hx] at h; cases h
  | some x => rw [hx] at h; rw [hp x hx]; exact h

theorem cellAt_ext {L : LS} {H H2 : AH} {a : Addr} {v : Value} (hp : ∀ b x, needs L a b → H[b]? = some x → H2[b]? = some x) (h : cellAt L H a = some v) : cellAt L H2 a = some v := by
  unfold cellAt at h ⊢
  cases hs : a.spot with
  | none => rw [hs] at h; exact hcell_ext (fun x => hp _ x (.inl ⟨hs, rfl⟩)) h
  | some g =>
    rw [hs] at h
    simp only at h ⊢
    split at h
    · rename_i g' vs hg; exact h
    · rename_i g' b hg
      split at h
      · rename_i he; subst he; rw [if_pos rfl]; exact hcell_ext (fun x => hp _ x (.inr ⟨_, hs, hg⟩)) h
      · cases h
    · cases h

theorem cellsAt_ext {L : LS} {H H2 : AH} : ∀ (n : Nat) {a : Addr} {vs : List Value} (_ : ∀ b x, needs L a b → H[b]? = some x → H2[b]? = some x) (_ : cellsAt L H a n = some vs), cellsAt L H2 a n = some vs
  | 0, a, vs, _, h => h
  | n + 1, a, vs, hp, h => by
    unfold cellsAt at h ⊢
    split at h
    · rename_i v r h1 h2
      rw [cellAt_ext hp h1, cellsAt_ext n (a := aadd a 1) (fun b x hb => hp b x hb) h2]
      exact h
    · cases h

theorem fitA_ext {H H2 : AH} {a : Option Addr} {size : Nat} (hp : ∀ a' x, a = some a' → H[a'.block]? = some x → H2[a'.block]? = some x) (h : fitA H a size = true) : fitA H2 a size = true := by
  unfold fitA at h ⊢
  cases a with
  | none => rfl
  | some a =>
    simp only at h ⊢
    cases hx : H[a.block]? with
    | none => rw [hx] at h; cases h
    | some x => rw [hx] at h; rw [hp a x rfl hx]; exact h

theorem ev_LH {s : St} {L2 : LS} {H2 : AH} {l2 : Nat} : ({ s with L := L2, H := H2, lim := l2 } : St).ev = s.ev := by funext x; cases x <;> rfl

/-- Where a read looks, H2 has what the heap has. -/
def Agrees (s : St) (op : SO) (L2 : LS) (H2 : AH) : Prop :=
  op.isRead = true → L2 = s.L ∧ (∀ y ∈ op.xs, ∀ a, s.ev y = .pointer (some a) → ∀ b x, needs s.L a b → s.H[b]? = some x → H2[b]? = some x) ∧
    (∀ y ∈ op.xs, ∀ a n c, s.ev y = .slice (some a) n c → ∀ x, s.H[a.block]? = some x → H2[a.block]? = some x)

theorem popA_free {s : St} {op : SO} {d : Option Tmp} {v : Value} {L' : LS} {H' : AH} (hf : op.isFree = true) (hn : noLoc s op = true) (h : popA s op d = some (v, L', H')) :
    L' = s.L ∧ H' = s.H ∧ ∀ L2 H2 l2, Agrees s op L2 H2 → popA { s with L := L2, H := H2, lim := l2 } op d = some (v, L2, H2) := by
  cases op with
  | st | box | call | mks | buildS | app | copy | clr | bad => simp [SO.isFree] at hf
  | ld x =>
    simp only [popA] at h
    split at h
    · rename_i a hx
      split at h
      · rename_i u hu
        simp only [Option.some.injEq, Prod.mk.injEq] at h
        obtain ⟨rfl, rfl, rfl⟩ := h
        refine ⟨rfl, rfl, fun L2 H2 l2 hA => ?_⟩
        obtain ⟨rfl, h1, _⟩ := hA rfl
        cases a with
        | none => simp at hu
        | some a =>
          simp only [Option.bind_some] at hu
          have := cellAt_ext (h1 x (by simp [SO.xs]) a hx) hu
          simp only [popA, ev_LH, hx, Option.bind_some, this]
      · cases h
    · cases h
  | ldn n x =>
    simp only [popA] at h
    split at h
    · rename_i a hx
      split at h
      · rename_i u hu
        simp only [Option.some.injEq, Prod.mk.injEq] at h
        obtain ⟨rfl, rfl, rfl⟩ := h
        refine ⟨rfl, rfl, fun L2 H2 l2 hA => ?_⟩
        obtain ⟨rfl, h1, _⟩ := hA rfl
        cases a with
        | none => simp at hu
        | some a =>
          simp only [Option.bind_some] at hu
          have := cellsAt_ext n (h1 x (by simp [SO.xs]) a hx) hu
          simp only [popA, ev_LH, hx, Option.bind_some, this]
      · cases h
    · cases h
  | slc sz x lo hi mx =>
    simp only [popA] at h
    split at h
    · rename_i a n c l hx hb
      split at h
      · rename_i hh hhi
        split at h
        · rename_i hc
          simp only [Option.some.injEq, Prod.mk.injEq] at h
          obtain ⟨rfl, rfl, rfl⟩ := h
          refine ⟨rfl, rfl, fun L2 H2 l2 hA => ?_⟩
          obtain ⟨rfl, _, h2⟩ := hA rfl
          have hfit := fitA_ext (H2 := H2) (fun a' z e => h2 x (by simp [SO.xs]) a' n c (by rw [hx, e]) z) hc.2.2.2
          simp only [popA, ev_LH, hx, hb, hhi]
          rw [if_pos ⟨hc.1, hc.2.1, hc.2.2.1, hfit⟩]
        · cases h
      · cases h
    · rename_i a n c l m hx hb
      split at h
      · rename_i hh mm hhi hmx
        split at h
        · rename_i hc
          simp only [Option.some.injEq, Prod.mk.injEq] at h
          obtain ⟨rfl, rfl, rfl⟩ := h
          refine ⟨rfl, rfl, fun L2 H2 l2 hA => ?_⟩
          obtain ⟨rfl, _, h2⟩ := hA rfl
          have hfit := fitA_ext (H2 := H2) (fun a' z e => h2 x (by simp [SO.xs]) a' n c (by rw [hx, e]) z) hc.2.2.2.2
          simp only [popA, ev_LH, hx, hb, hhi, hmx]
          rw [if_pos ⟨hc.1, hc.2.1, hc.2.2.1, hc.2.2.2.1, hfit⟩]
        · cases h
      · cases h
    · cases h
  | mkf fn x y =>
    simp only [noLoc, Bool.and_eq_true] at hn
    simp only [popA, globs_id _ hn.1, globs_id _ hn.2] at h
    cases fn with
    | func f =>
      simp only [Option.some.injEq, Prod.mk.injEq] at h
      obtain ⟨rfl, rfl, rfl⟩ := h
      exact ⟨rfl, rfl, fun L2 H2 l2 _ => by simp only [popA, ev_LH, globs_id _ hn.1, globs_id _ hn.2]⟩
    | _ => simp at h
  | _ =>
    simp only [popA] at h
    repeat' (first | split at h | (cases h; done) | (simp only [Option.bind_eq_some_iff, Option.some.injEq, Prod.mk.injEq] at h))
    all_goals first
      | (obtain ⟨rfl, rfl, rfl⟩ := h; exact ⟨rfl, rfl, fun L2 H2 l2 _ => by simp only [popA, ev_LH, *] <;> simp⟩)
      | (obtain ⟨u, hu, rfl, rfl, rfl⟩ := h; exact ⟨rfl, rfl, fun L2 H2 l2 _ => by simp only [popA, ev_LH, hu, Option.bind_some, *] <;> simp [*]⟩)

theorem runA_free {C : CallA} {s s' : St} {o : SOp} (hf : o.op.isFree = true) (hn : noLoc s o.op = true) (h : runA C o s = some s') :
    ∃ v, s' = s.put o.dst v ∧ ∀ L2 H2 l2, Agrees s o.op L2 H2 → runA C o { s with L := L2, H := H2, lim := l2 } = some (({ s with L := L2, H := H2, lim := l2 } : St).put o.dst v) := by
  obtain ⟨od, og, oo⟩ := o
  simp only at hf hn
  have key : ∀ s : St, runA C ⟨od, og, oo⟩ s = (match popA s oo od with
      | some (v, L, H) => some ({ s with L := L, H := H }.put od v)
      | none => none) := by
    intro s
    unfold runA
    cases oo <;> first | rfl | simp [SO.isFree] at hf
  rw [key] at h
  split at h
  · rename_i v L1 H1 hp
    obtain ⟨rfl, rfl, k3⟩ := popA_free hf hn hp
    cases h
    exact ⟨v, rfl, fun L2 H2 l2 hA => by rw [key, k3 L2 H2 l2 hA]⟩
  · cases h

theorem opA_free {C : CallA} {s s' : St} {o : SOp} (hf : o.op.isFree = true) (hn : noLoc s o.op = true) (h : opA C o s = some s') :
    ∃ v, s' = s.put o.dst v ∧ ∀ L2 H2 l2, Agrees s o.op L2 H2 → opA C o { s with L := L2, H := H2, lim := l2 } = some (({ s with L := L2, H := H2, lim := l2 } : St).put o.dst v) := by
  have skip : some (s.put o.dst SK) = some s' → ∃ v, s' = s.put o.dst v ∧ ∀ L2 H2 l2, Agrees s o.op L2 H2 → some (({ s with L := L2, H := H2, lim := l2 } : St).put o.dst SK) = some (({ s with L := L2, H := H2, lim := l2 } : St).put o.dst v) :=
    fun h => by cases h; exact ⟨SK, rfl, fun _ _ _ _ => rfl⟩
  unfold opA at h ⊢
  split at h
  · exact runA_free hf hn h
  · rename_i x wv hg
    simp only
    split at h
    · rename_i b hb
      split at h
      · rename_i hbw; simp only [hbw, if_true]; exact runA_free hf hn h
      · rename_i hbw; simp only [hbw, if_false]; exact skip h
    · rename_i vs hb
      split at h
      · rename_i hbw; simp only [hbw, if_true]; exact skip h
      · cases h
    · cases h

theorem put_L (s : St) (d : Option Tmp) (v : Value) : (s.put d v).L = s.L := by cases d <;> rfl

/-- What adds to the heap leaves the boxes alone. -/
theorem opA_add {C : CallA} {s s' : St} {o : SOp} (hf : o.op.isAdd = true) (hn : noLoc s o.op = true) (h : opA C o s = some s') : s'.L = s.L := by
  have run : runA C o s = some s' → s'.L = s.L := by
    intro h
    obtain ⟨od, og, oo⟩ := o
    simp only at hf hn
    unfold runA at h
    cases oo with
    | call f args =>
      simp only at h
      simp only [noLoc] at hn
      rw [globs_id _ hn] at h
      simp only at h
      split at h
      · cases h; exact put_L _ _ _
      · cases h
    | mks sz b z l c =>
      simp only [popA] at h
      split at h
      · rename_i v L1 H1 hp
        cases h
        rw [put_L]
        repeat' (first | (cases hp; done) | split at hp | (simp only [Option.some.injEq, Prod.mk.injEq] at hp; obtain ⟨_, rfl, _⟩ := hp; rfl))
      · cases h
    | buildS n z ps =>
      simp only [popA] at h
      split at h
      · rename_i v L1 H1 hp
        cases h
        rw [put_L]
        repeat' (first | (cases hp; done) | split at hp | (simp only [Option.some.injEq, Prod.mk.injEq] at hp; obtain ⟨_, rfl, _⟩ := hp; rfl))
      · cases h
    | app sz b z x y =>
      simp only at h
      split at h
      · rename_i v L1 H1 hp
        cases h
        rw [put_L]
        simp only [popA] at hp
        repeat' (first | (cases hp; done) | split at hp | (simp only [Option.some.injEq, Prod.mk.injEq] at hp; obtain ⟨_, rfl, _⟩ := hp; rfl))
      · cases h
    | _ => simp [SO.isAdd] at hf
  unfold opA at h
  split at h
  · exact run h
  · split at h
    · split at h
      · exact run h
      · cases h; exact put_L _ _ _
    · split at h
      · cases h; exact put_L _ _ _
      · cases h
    · cases h

/-- What stands in a state behind an operation. -/
theorem opA_shape {C : CallA} {s s' : St} {o : SOp} (h : opA C o s = some s') : ∃ v, s' = ({ s with L := s'.L, H := s'.H } : St).put o.dst v := by
  obtain ⟨v, h1, _⟩ := opA_congr (t' := s.t) h (fun _ _ => rfl)
  exact ⟨v, h1⟩

theorem tget_put (s : St) (d : Option Tmp) (v : Value) (x : Tmp) : tget (s.put d v).t x = if d = some x then v else tget s.t x := by
  cases d with
  | none => simp [St.put]
  | some d =>
    simp only [St.put, tget_cons, Option.some.injEq]
    by_cases h : x = d
    · subst h; simp
    · rw [if_neg h, if_neg (fun e => h e.symm)]

structure DStep (k : DK) (o : SOp) (s s' : St) : Prop where
  lim : s'.lim = s.lim
  rd : s'.rd = s.rd
  t : ∀ x, (k = .late ∨ o.dst ≠ some x) → tget s'.t x = tget s.t x
  same : k = .free ∨ k = .late → s'.L = s.L ∧ s'.H = s.H
  add : k = .chain → s'.L = s.L
  gr : k ≠ .bar → Gr s.H.length s.H s'.H

theorem dOp_step {C : CallA} (hC : CGr C) {k : DK} {o : SOp} {s s' : St} (hk : k = .free → o.op.isFree = true) (hk2 : k = .chain → o.op.isAdd = true) (h : dOp C k o s = some s') : DStep k o s s' := by
  obtain ⟨_, g2, g3⟩ := dOp_Gr hC h
  have sh : k ≠ .late → ∀ x, o.dst ≠ some x → tget s'.t x = tget s.t x := by
    intro hl x hx
    have fin : ∀ {l : Nat} {s1 : St}, opA C o { s with lim := l } = some s1 → tget s1.t x = tget s.t x := by
      intro l s1 h1
      obtain ⟨v, hv⟩ := opA_shape h1
      rw [hv, tget_put, if_neg hx]
    cases k with
    | late => exact absurd rfl hl
    | bar => exact fin (l := s.lim) h
    | free | chain =>
      simp only [dOp] at h
      split at h
      · split at h
        · rename_i s1 h1; cases h; have e := fin h1; exact e
        · cases h
      · cases h
  refine ⟨g2, g3, fun x hx => ?_, fun hx => ?_, fun hx => ?_, fun hx => ?_⟩
  · rcases hx with rfl | hx
    · simp only [dOp, Option.some.injEq] at h; rw [h]
    · by_cases hl : k = .late
      · subst hl; simp only [dOp, Option.some.injEq] at h; rw [h]
      · exact sh hl x hx
  · rcases hx with rfl | rfl
    · simp only [dOp] at h
      split at h
      · rename_i hn
        split at h
        · rename_i s1 h1
          cases h
          have hn' : noLoc { s with lim := s.H.length } o.op = true := by rw [← hn]; cases o.op <;> rfl
          obtain ⟨v, e, _⟩ := opA_free (s := { s with lim := s.H.length }) (hk rfl) hn' h1
          rw [e]
          cases o.dst <;> exact ⟨rfl, rfl⟩
        · cases h
      · cases h
    · simp only [dOp, Option.some.injEq] at h; rw [h]; exact ⟨rfl, rfl⟩
  · subst hx
    simp only [dOp] at h
    split at h
    · rename_i hn
      split at h
      · rename_i s1 h1
        cases h
        have hn' : noLoc { s with lim := s.H.length } o.op = true := by rw [← hn]; cases o.op <;> rfl
        have e := opA_add (s := { s with lim := s.H.length }) (hk2 rfl) hn' h1
        exact e
      · cases h
    · cases h
  · cases k with
    | bar => exact absurd rfl hx
    | late => simp only [dOp, Option.some.injEq] at h; rw [h]; exact Gr.refl _ _
    | free | chain =>
      simp only [dOp] at h
      split at h
      · split at h
        · rename_i s1 h1; cases h; exact (opA_Gr hC h1).1
        · cases h
      · cases h

theorem dOps_states {C : CallA} : ∀ (l : List (DK × SOp)) {s s' : St} (_ : dOps C l s = some s'), ∃ σ : Nat → St, σ 0 = s ∧ σ l.length = s' ∧ ∀ i (h : i < l.length), dOp C l[i].1 l[i].2 (σ i) = some (σ (i + 1))
  | [], s, s', h => by cases h; exact ⟨fun _ => s, rfl, rfl, fun i h => absurd h (by simp)⟩
  | (k, o) :: l, s, s', h => by
    simp only [dOps] at h
    split at h
    · rename_i s1 h1
      obtain ⟨σ, k1, k2, k3⟩ := dOps_states l h
      refine ⟨fun i => match i with | 0 => s | i + 1 => σ i, rfl, by simpa using k2, fun i hi => ?_⟩
      cases i with
      | zero => simpa [k1] using h1
      | succ i => exact k3 i (by simpa using hi)
    · cases h

/-- Between two places of the text. -/
theorem states_t {l : List (DK × SOp)} {σ : Nat → St} (hs : ∀ i (h : i < l.length), DStep l[i].1 l[i].2 (σ i) (σ (i + 1))) {x : Tmp} (i : Nat) : ∀ (k : Nat) (_ : i + k ≤ l.length) (_ : ∀ j (h : j < l.length), i ≤ j → j < i + k → l[j].1 = .late ∨ l[j].2.dst ≠ some x), tget (σ (i + k)).t x = tget (σ i).t x
  | 0, _, _ => rfl
  | k + 1, h, hj => by
    have := (hs (i + k) (by omega)).t x (hj (i + k) (by omega) (by omega) (by omega))
    rw [← Nat.add_assoc, this]
    exact states_t hs i k (by omega) (fun j h a b => hj j h a (by omega))

theorem states_same {l : List (DK × SOp)} {σ : Nat → St} (hs : ∀ i (h : i < l.length), DStep l[i].1 l[i].2 (σ i) (σ (i + 1))) (i : Nat) : ∀ (k : Nat) (_ : i + k ≤ l.length) (_ : ∀ j (h : j < l.length), i ≤ j → j < i + k → isC l[j].1 = false), (σ (i + k)).L = (σ i).L ∧ (σ (i + k)).H = (σ i).H
  | 0, _, _ => ⟨rfl, rfl⟩
  | k + 1, h, hj => by
    have h1 := hj (i + k) (by omega) (by omega) (by omega)
    have := (hs (i + k) (by omega)).same (by
      cases hk : l[i + k].1 <;> rw [hk] at h1 <;> simp [isC] at h1 ⊢)
    obtain ⟨a, b⟩ := states_same hs i k (by omega) (fun j h a b => hj j h a (by omega))
    rw [← Nat.add_assoc]
    exact ⟨this.1.trans a, this.2.trans b⟩

theorem states_add {l : List (DK × SOp)} {σ : Nat → St} (hs : ∀ i (h : i < l.length), DStep l[i].1 l[i].2 (σ i) (σ (i + 1))) (i : Nat) : ∀ (k : Nat) (_ : i + k ≤ l.length) (_ : ∀ j (h : j < l.length), i ≤ j → j < i + k → l[j].1 ≠ .bar), (σ (i + k)).L = (σ i).L ∧ Gr (σ i).H.length (σ i).H (σ (i + k)).H
  | 0, _, _ => ⟨rfl, Gr.refl _ _⟩
  | k + 1, h, hj => by
    have h1 := hj (i + k) (by omega) (by omega) (by omega)
    have hd := hs (i + k) (by omega)
    obtain ⟨a, b⟩ := states_add hs i k (by omega) (fun j h a b => hj j h a (by omega))
    rw [← Nat.add_assoc]
    refine ⟨?_, b.trans ((hd.gr h1).mono b.1)⟩
    rw [← a]
    cases hk : l[i + k].1 with
    | free => exact (hd.same (.inl hk)).1
    | late => exact (hd.same (.inr hk)).1
    | chain => exact hd.add hk
    | bar => exact absurd hk h1

theorem states_lim {l : List (DK × SOp)} {σ : Nat → St} (hs : ∀ i (h : i < l.length), DStep l[i].1 l[i].2 (σ i) (σ (i + 1))) : ∀ (k : Nat) (_ : k ≤ l.length), (σ k).lim = (σ 0).lim ∧ (σ k).rd = (σ 0).rd
  | 0, _ => ⟨rfl, rfl⟩
  | k + 1, h => by
    have hd := hs k (by omega)
    obtain ⟨a, b⟩ := states_lim hs k (by omega)
    exact ⟨hd.lim.trans a, hd.rd.trans b⟩
end Go.Proofs.YthobfecblpnnnaaGreatDoor

/- Regions whose order is drawn: what holds after each operation, in whatever order. -/
namespace Go.Proofs.YthobfecblpnnnaaGreatDoor
open Go Go.RowKit

variable {P : Program} {B0 : Nat}

theorem cSOp_spec {nt : Nat} {ops : Array Oper} {oper : Oper} {so : SOp} (hc : cSOp P nt ops oper = some so) : so.op = cOp P oper ∧ so.dst = oper.dst ∧ oper.dst.all (· < nt) = true ∧ (so.guard = none → oper.guard = none) := by
  unfold cSOp at hc
  split at hc
  · rename_i hdst
    split at hc
    · rename_i hg; cases hc; exact ⟨rfl, rfl, hdst, fun _ => hg⟩
    · rename_i j wv hg
      simp only [Option.map_eq_some_iff] at hc
      obtain ⟨d, hd, rfl⟩ := hc
      exact ⟨rfl, rfl, hdst, fun e => by cases e⟩
  · cases hc

theorem cOp_some {oper : Oper} {so : SO} (h : cOp P oper = so) (hb : so ≠ .bad) (hn : so.isCall = false) : cOp? P oper = some so := by
  unfold cOp at h
  split at h
  · split at h
    · subst h; simp [SO.isCall] at hn
    · exact absurd h.symm hb
  · split at h
    · split at h
      · rename_i hc _; rw [hc, h]
      · exact absurd h.symm hb
    · exact absurd h.symm hb

theorem cOp_box {oper : Oper} {x : Operand} (h : cOp P oper = .box x) : ∃ e, oper.op = .box e x ∨ (oper.op = .alloc e ∧ ∃ z, x = .const z ∧ zeroOf P e = some z) := by
  have h := cOp_some h (by simp) rfl
  unfold cOp? at h
  split at h
  case h_5 e y hop => cases h; exact ⟨e, .inl hop⟩
  case h_4 e hop =>
    simp only [bind, Option.bind_eq_some_iff, Option.some.injEq] at h
    obtain ⟨z, hz, e'⟩ := h
    cases e'
    exact ⟨e, .inr ⟨hop, z, rfl, hz⟩⟩
  all_goals
    exfalso
    repeat' (first | (cases h; done) | split at h | (simp only [bind, cEq, Option.bind_eq_some_iff] at h) | (obtain ⟨_, _, h⟩ := h))

theorem cOp_st {oper : Oper} {n : Nat} {x v : Operand} (h : cOp P oper = .st n x v) : ∃ ty i, oper.op = .store ty x v ∧ P.info? ty = some i ∧ n = i.size := by
  have h := cOp_some h (by simp) rfl
  unfold cOp? at h
  split at h
  case h_9 ty a b hop =>
    simp only [bind, Option.bind_eq_some_iff, Option.some.injEq] at h
    obtain ⟨i, hi, e'⟩ := h
    cases e'
    exact ⟨ty, i, hop, hi, rfl⟩
  all_goals
    exfalso
    repeat' (first | (cases h; done) | split at h | (simp only [bind, cEq, Option.bind_eq_some_iff] at h) | (obtain ⟨_, _, h⟩ := h))

/-- What the check says of a region. -/
structure DEnv (P : Program) (C : CallA) (nt : Nat) (ops : Array Oper) (l : List (DK × SOp)) (bx : List BX) (ms : List Nat) (σ : Nat → St) : Prop where
  len : l.length = ops.size
  cop : ∀ i (h : i < l.length), ∃ oper, ops[i]? = some oper ∧ cSOp P nt ops oper = some l[i].2
  hms : ∀ i (h : i < ops.toList.length), ms.getD i 0 = maskOf ms ops.toList[i].after.toList
  hlt : ∀ i (h : i < ops.toList.length), ∀ e ∈ ops.toList[i].after.toList, bindE e = true → e.on < i
  p1 : ∀ i j (hi : i < l.length) (hj : j < l.length) x, i ≠ j → l[i].2.dst = some x → l[j].2.dst ≠ some x
  p2 : ∀ i j (hi : i < l.length) (hj : j < l.length) x, i ≠ j → l[j].2.dst = some x → x ∈ l[i].2.look → cmpB ms i j = true ∧ (l[j].1 = .late → l[i].1 = .late)
  p3 : ∀ i j (hi : i < l.length) (hj : j < l.length), i ≠ j → isC l[i].1 = true → isC l[j].1 = true → cmpB ms i j = true
  p4 : ∀ i j (hi : i < l.length) (hj : j < l.length), i ≠ j → l[i].1 = .bar → l[j].2.op.isRead = true → cmpB ms i j = true
  free : ∀ i (hi : i < l.length), l[i].1 = .free → l[i].2.op.isFree = true
  b1 : ∀ b ∈ bx, ∃ h : b.i < l.length, l[b.i] = (.late, ⟨some b.d, none, .box (.const b.z)⟩) ∧ sca b.z = true ∧ b.z.cells.size = b.n
  b2 : ∀ b ∈ bx, b.k = none → b.v = .const b.z ∧ ∀ j (h : j < l.length), b.d ∉ l[j].2.look
  b3 : ∀ b ∈ bx, ∀ k, b.k = some k → b.i < k ∧ (∃ h : k < l.length, l[k] = (.late, ⟨none, none, .st b.n (.tmp b.d) b.v⟩)) ∧ ∀ j (h : j < l.length), j ≠ k → b.d ∉ l[j].2.look
  b4 : ∀ b ∈ bx, ∀ k x, b.k = some k → b.v = .tmp x → x ≠ b.d ∧ ∀ j (h : j < l.length), l[j].2.dst = some x → l[j].1 ≠ .late ∧ (ms.getD k 0).testBit j = true
  b5 : ∀ b ∈ bx, xOk P b.v = true
  b6 : ∀ i (h : i < l.length), l[i].1 = .late → ∃ b ∈ bx, b.i = i ∨ b.k = some i
  st : ∀ i (h : i < l.length), dOp C l[i].1 l[i].2 (σ i) = some (σ (i + 1))
  ds : ∀ i (h : i < l.length), DStep l[i].1 l[i].2 (σ i) (σ (i + 1))
  fin : ∀ b ∈ bx, isU ((σ l.length).ev b.v) = false ∧ ((σ l.length).ev b.v).cells.size = b.n ∧ ((σ l.length).ev b.v).cells.toList.all oneC = true

/-- A boxed variable that is made within the region, as it stands. -/
def Boxed (m : Mp) (o : Nat → Ow) (l : List (DK × SOp)) (σ : Nat → St) (n0 : Nat) (R : Nat → Prop) (b : BX) (a : Act) (w : World) (B : Nat) : Prop :=
  n0 ≤ B ∧ o B = .other ∧ a.tmps.getD b.d undef = .pointer (some ⟨B, 0, none⟩) ∧ ∃ arr te, w.heap[B]? = some (.cells arr te (0, 0)) ∧ arr.size = b.n ∧
    ((∀ k, b.k = some k → R k) → LsRel m ((σ l.length).ev b.v).cells.toList arr.toList)

/-- What holds when the operations of R are done. -/
def DInv (P : Program) (B0 : Nat) (rd : Option Nat) (ds : List Nat) (nt : Nat) (m0 : Mp) (o0 : Nat → Ow) (w0 : World) (l : List (DK × SOp)) (bx : List BX) (σ : Nat → St) (R : Nat → Prop) (a : Act) (w : World) : Prop :=
  ∃ (q : Nat) (m : Mp) (o : Nat → Ow) (t : TS), q ≤ l.length ∧ (∀ j (h : j < l.length), isC l[j].1 = true → (j < q ↔ R j)) ∧
    SRel P B0 rd ds nt m o ⟨t, (σ q).L, (σ q).H, (σ 0).lim, (σ 0).rd⟩ a w ∧ Keep o0 w0 o w ∧ m0.le m ∧
    (∀ j (h : j < l.length), R j → l[j].1 ≠ .late → ∀ x, l[j].2.dst = some x → tget t x = tget (σ (j + 1)).t x) ∧
    (∀ x, (∀ j (h : j < l.length), R j → l[j].2.dst ≠ some x) → tget t x = tget (σ 0).t x) ∧
    (∀ j (h : j < l.length), R j → l[j].1 = .late → ∀ x, l[j].2.dst = some x → tget t x = .tuple #[]) ∧
    (∀ b ∈ bx, R b.i → ∃ B, Boxed m o l σ w0.heap.size R b a w B) ∧
    (∀ b ∈ bx, ∀ b' ∈ bx, R b.i → R b'.i → b.i ≠ b'.i → a.tmps.getD b.d undef ≠ a.tmps.getD b'.d undef)

theorem SRel.relim {rd : Option Nat} {ds : List Nat} {nt : Nat} {m : Mp} {o : Nat → Ow} {t : TS} {L : LS} {H : AH} {lim lim' : Nat} {srd : Option Nat} {a : Act} {w : World} (r : SRel P B0 rd ds nt m o ⟨t, L, H, lim, srd⟩ a w) : SRel P B0 rd ds nt m o ⟨t, L, H, lim', srd⟩ a w :=
  ⟨r.T, r.sz, r.tie, r.G, r.D, r.R⟩

theorem noLoc_congr {s s' : St} (op : SO) (h : ∀ x ∈ op.xs, s'.ev x = s.ev x) : noLoc s' op = noLoc s op := by
  cases op with
  | call f args => simp only [noLoc]; rw [List.map_congr_left fun x hx => h x (by simp [SO.xs, hx])]
  | mkf fn x y => simp only [noLoc]; rw [List.map_congr_left (l := x) fun z hz => h z (by simp [SO.xs, hz]), List.map_congr_left (l := y) fun z hz => h z (by simp [SO.xs, hz])]
  | _ => rfl

theorem late_look {o : SOp} {d : Option Tmp} {g : Option (Tmp × Bool)} {x : Tmp} {op : SO} (ho : o = ⟨d, g, op⟩) (h : .tmp x ∈ op.xs) : x ∈ o.look := by
  subst ho
  exact List.mem_append_left _ (List.mem_filterMap.2 ⟨_, h, rfl⟩)

/-- The temporaries that an operation looks at. -/
theorem view_look {C : CallA} {nt : Nat} {ops : Array Oper} {l : List (DK × SOp)} {bx : List BX} {ms : List Nat} {σ : Nat → St} (E : DEnv P C nt ops l bx ms σ) {R : Nat → Prop} {t : TS}
    (htv : ∀ j (h : j < l.length), R j → l[j].1 ≠ .late → ∀ x, l[j].2.dst = some x → tget t x = tget (σ (j + 1)).t x) (ht0 : ∀ x, (∀ j (h : j < l.length), R j → l[j].2.dst ≠ some x) → tget t x = tget (σ 0).t x)
    {i : Nat} (hi : i < l.length) (hn : ¬ R i) (hcmp : ∀ j, j < l.length → j ≠ i → cmpB ms i j = true → (j < i → R j) ∧ (i < j → ¬ R j)) (hl : l[i].1 ≠ .late) (x : Tmp) (hx : x ∈ l[i].2.look) : tget t x = tget (σ i).t x := by
  by_cases hw : ∃ j, ∃ h : j < l.length, l[j].2.dst = some x
  · obtain ⟨j, hj, hd⟩ := hw
    have huniq : ∀ j' (h : j' < l.length), j' ≠ j → l[j'].2.dst ≠ some x := fun j' h hne => E.p1 j j' hj h x (Ne.symm hne) hd
    by_cases hji : j = i
    · subst hji
      have e1 := states_t E.ds (x := x) 0 j (by omega) (fun j' h _ hlt => .inr (huniq j' h (by omega)))
      rw [Nat.zero_add] at e1
      rw [e1]
      exact ht0 x fun j' h hR => huniq j' h (fun e => hn (e ▸ hR))
    · obtain ⟨hc, hlate⟩ := E.p2 i j hi hj x (Ne.symm hji) hd hx
      have hnl : l[j].1 ≠ .late := fun e => hl (hlate e)
      obtain ⟨c1, c2⟩ := hcmp j hj hji hc
      by_cases hlt : j < i
      · rw [htv j hj (c1 hlt) hnl x hd]
        have e1 := states_t E.ds (x := x) (j + 1) (i - (j + 1)) (by omega) (fun j' h a b => .inr (huniq j' h (by omega)))
        rw [show j + 1 + (i - (j + 1)) = i by omega] at e1
        exact e1.symm
      · have e1 := states_t E.ds (x := x) 0 i (by omega) (fun j' h _ b => .inr (huniq j' h (by omega)))
        rw [Nat.zero_add] at e1
        rw [e1]
        exact ht0 x fun j' h hR => huniq j' h (fun e => c2 (by omega) (e ▸ hR))
  · have e1 := states_t E.ds (x := x) 0 i (by omega) (fun j' h _ b => .inr (fun e => hw ⟨j', h, e⟩))
    rw [Nat.zero_add] at e1
    rw [e1]
    exact ht0 x fun j' h hR e => hw ⟨j', h, e⟩

theorem getD_put {a : Act} {d : Option Tmp} {v : Value} {x : Tmp} (h : d ≠ some x) : (a.put d v).tmps.getD x undef = a.tmps.getD x undef := by
  cases d with
  | none => rfl
  | some y =>
    have hne : y ≠ x := fun e => h (by rw [e])
    simp [Act.put, Array.getD_eq_getD_getElem?, Array.getElem?_setIfInBounds_ne hne]

/-- An operation that is no maker of a boxed variable is done: what held holds on. -/
theorem DInv.next {C : CallA} {nt : Nat} {ops : Array Oper} {l : List (DK × SOp)} {bx : List BX} {ms : List Nat} {σ : Nat → St} (E : DEnv P C nt ops l bx ms σ) {R : Nat → Prop} {rd : Option Nat} {ds : List Nat} {m0 m m' : Mp} {o0 o o' : Nat → Ow} {w0 w w' : World} {a a' : Act} {t : TS} {q' : Nat}
    {i : Nat} (hi : i < l.length) (hn : ¬ R i) (hl : l[i].1 ≠ .late) (hq : q' ≤ l.length) (hqR : ∀ j (h : j < l.length), isC l[j].1 = true → (j < q' ↔ (R j ∨ j = i)))
    {v v' : Value} (ha : a' = a.put l[i].2.dst v') (hS : SRel P B0 rd ds nt m' o' ⟨(({ (σ i) with t := t } : St).put l[i].2.dst v).t, (σ q').L, (σ q').H, (σ 0).lim, (σ 0).rd⟩ a' w') (hv : ∀ x, l[i].2.dst = some x → tget (σ (i + 1)).t x = v)
    (hK : Keep o0 w0 o w) (hm : m0.le m) (hK' : Keep o w o' w') (hm' : m.le m')
    (htv : ∀ j (h : j < l.length), R j → l[j].1 ≠ .late → ∀ x, l[j].2.dst = some x → tget t x = tget (σ (j + 1)).t x) (ht0 : ∀ x, (∀ j (h : j < l.length), R j → l[j].2.dst ≠ some x) → tget t x = tget (σ 0).t x)
    (htl : ∀ j (h : j < l.length), R j → l[j].1 = .late → ∀ x, l[j].2.dst = some x → tget t x = .tuple #[])
    (hB : ∀ b ∈ bx, R b.i → ∃ B, Boxed m o l σ w0.heap.size R b a w B) (hdist : ∀ b ∈ bx, ∀ b' ∈ bx, R b.i → R b'.i → b.i ≠ b'.i → a.tmps.getD b.d undef ≠ a.tmps.getD b'.d undef) :
    DInv P B0 rd ds nt m0 o0 w0 l bx σ (fun j => R j ∨ j = i) a' w' := by
  have hdst : ∀ b ∈ bx, l[i].2.dst ≠ some b.d := fun b hb e => by
    obtain ⟨h, e1, _⟩ := E.b1 b hb
    have hne : i ≠ b.i := fun e2 => hl (by subst e2; rw [e1])
    exact E.p1 i b.i hi h b.d hne e (by rw [e1])
  have hRb : ∀ b ∈ bx, (R b.i ∨ b.i = i) → R b.i := fun b hb h => by
    rcases h with h | h
    · exact h
    · obtain ⟨h1, e1, _⟩ := E.b1 b hb
      exact absurd (by subst h; rw [e1]) hl
  have tg : ∀ x, tget (({ (σ i) with t := t } : St).put l[i].2.dst v).t x = if l[i].2.dst = some x then v else tget t x := fun x => tget_put _ _ _ _
  refine ⟨q', m', o', _, hq, hqR, hS, hK.trans hK', Mp.le_trans hm hm', ?_, ?_, ?_, ?_, ?_⟩
  · intro j hj hR hjl x hx
    rw [tg]
    rcases hR with hR | rfl
    · have hne : j ≠ i := fun e => hn (e ▸ hR)
      rw [if_neg (E.p1 j i hj hi x hne hx)]
      exact htv j hj hR hjl x hx
    · rw [if_pos hx]; exact (hv x hx).symm
  · intro x hx
    rw [tg, if_neg (hx i hi (.inr rfl))]
    exact ht0 x fun j hj hR => hx j hj (.inl hR)
  · intro j hj hR hjl x hx
    rcases hR with hR | rfl
    · have hne : j ≠ i := fun e => hn (e ▸ hR)
      rw [tg, if_neg (E.p1 j i hj hi x hne hx)]
      exact htl j hj hR hjl x hx
    · exact absurd hjl hl
  · intro b hb hR
    obtain ⟨B, k1, k2, k3, arr, te, k4, k5, k6⟩ := hB b hb (hRb b hb hR)
    obtain ⟨j1, j2⟩ := hK'.same B (lt_of_heap k4) k2
    refine ⟨B, k1, j2, by rw [ha, getD_put (hdst b hb)]; exact k3, arr, te, j1.trans k4, k5, fun h => (k6 fun k hk => ?_).mono hm'⟩
    rcases h k hk with h | h
    · exact h
    · obtain ⟨_, ⟨h1, e1⟩, _⟩ := E.b3 b hb k hk
      exact absurd (by subst h; rw [e1]) hl
  · intro b hb b' hb' hR hR' hne
    rw [ha, getD_put (hdst b hb), getD_put (hdst b' hb')]
    exact hdist b hb b' hb' (hRb b hb hR) (hRb b' hb' hR') hne
end Go.Proofs.YthobfecblpnnnaaGreatDoor

/- Regions whose order is drawn: each operation, whenever it comes. -/
namespace Go.Proofs.YthobfecblpnnnaaGreatDoor
open Go Go.RowKit

variable {P : Program} {B0 : Nat}

section
variable {C : CallA} {nt : Nat} {ops : Array Oper} {l : List (DK × SOp)} {bx : List BX} {ms : List Nat} {σ : Nat → St} {R : Nat → Prop} {rd : Option Nat} {ds : List Nat} {m0 : Mp} {o0 : Nat → Ow} {w0 : World}

theorem dOp_run {k : DK} {o : SOp} {s s' : St} (hs : DStep k o s s') (hk : k ≠ .late) (h : dOp C k o s = some s') : ∃ lm s1, opA C o { s with lim := lm } = some s1 ∧ s'.t = s1.t ∧ s'.L = s1.L ∧ s'.H = s1.H ∧ (k = .bar ∨ noLoc s o.op = true) := by
  cases k with
  | late => exact absurd rfl hk
  | bar => exact ⟨s.lim, s', h, rfl, rfl, rfl, .inl rfl⟩
  | free | chain =>
    simp only [dOp] at h
    split at h
    · rename_i hn
      split at h
      · rename_i s1 h1; cases h; exact ⟨_, s1, h1, rfl, rfl, rfl, .inr hn⟩
      · cases h
    · cases h

/-- An operation of the chain. -/
theorem step_chain (hC : CSound P B0 C) (E : DEnv P C nt ops l bx ms σ) {F : Fence} (hF : ∀ f, F.fn f) (hd : F.depth = none) {n : Nat} {Q : Exit → Act → World → Prop} {K : Act → World → Prop} {a : Act} {w : World}
    (hI : DInv P B0 F.round ds nt m0 o0 w0 l bx σ R a w) {i : Nat} (hi : i < l.length) (hn : ¬ R i) (hcmp : ∀ j, j < l.length → j ≠ i → cmpB ms i j = true → (j < i → R j) ∧ (i < j → ¬ R j)) (hk : isC l[i].1 = true)
    (hK : ∀ a' w', DInv P B0 F.round ds nt m0 o0 w0 l bx σ (fun j => R j ∨ j = i) a' w' → K a' w') : wpOpIn F n P ops Q i K a w := by
  obtain ⟨q, m, o, t, hq, hqR, hS, hKp, hm, htv, ht0, htl, hB, hdist⟩ := hI
  obtain ⟨oper, ho, hso⟩ := E.cop i hi
  have hl : l[i].1 ≠ .late := fun e => by rw [e] at hk; simp [isC] at hk
  have hch : ∀ j (h : j < l.length), j ≠ i → isC l[j].1 = true → (j < i → R j) ∧ (i < j → ¬ R j) := fun j h hne hc => hcmp j h hne (E.p3 i j hi h (Ne.symm hne) hk hc)
  have hqi : q ≤ i := Nat.le_of_not_lt fun h => hn ((hqR i hi hk).1 h)
  have hsame := states_same E.ds q (i - q) (by omega) (fun j h a b => by
    cases hc : isC l[j].1 with
    | false => rfl
    | true =>
      have h1 := (hch j h (by omega) hc).1 (by omega)
      have := (hqR j h hc).2 h1
      omega)
  rw [show q + (i - q) = i by omega] at hsame
  obtain ⟨lm, s1, hrun, hst, hsL, hsH, _⟩ := dOp_run (E.ds i hi) hl (E.st i hi)
  have hlook := view_look E htv ht0 hi hn hcmp hl
  obtain ⟨v, e1, e2⟩ := opA_congr (t' := t) hrun hlook
  have hlim := states_lim E.ds i (by omega)
  have hSi : SRel P B0 F.round ds nt m o ⟨t, (σ i).L, (σ i).H, lm, (σ i).rd⟩ a w := by
    rw [hsame.1, hsame.2, hlim.2]
    exact hS.relim
  have hnext : ∀ m' o' a' w', m.le m' → SRel P B0 F.round ds nt m' o' (({ ({ (σ i) with lim := lm } : St) with t := t, L := s1.L, H := s1.H } : St).put l[i].2.dst v) a' w' → Keep o w o' w' → (∃ v', a' = a.put oper.dst v') → K a' w' := by
    rintro m' o' a' w' b1 b2 b3 ⟨v', rfl⟩
    refine hK _ _ (DInv.next E (q' := i + 1) (v := v) (v' := v') hi hn hl (by omega) ?_ ?_ ?_ ?_ hKp hm b3 b1 htv ht0 htl hB hdist)
    · intro j hj hc
      by_cases hji : j = i
      · subst hji; simp
      · obtain ⟨c1, c2⟩ := hch j hj hji hc
        constructor
        · intro h; exact .inl (c1 (by omega))
        · rintro (h | h)
          · by_cases hlt : j < i
            · omega
            · exact absurd h (c2 (by omega))
          · exact absurd h hji
    · rw [(cSOp_spec hso).2.1]
    · rw [hsL, hsH]
      have e3 : ∀ d, (({ (σ i) with t := t } : St).put d v).t = (({ ({ (σ i) with t := t } : St) with L := s1.L, H := s1.H, lim := lm } : St).put d v).t := by intro d; cases d <;> rfl
      rw [e3]
      have e4 : ∀ d, ((({ ({ (σ i) with t := t } : St) with L := s1.L, H := s1.H, lim := lm } : St).put d v)) = ⟨(({ ({ (σ i) with t := t } : St) with L := s1.L, H := s1.H, lim := lm } : St).put d v).t, s1.L, s1.H, lm, (σ i).rd⟩ := by intro d; cases d <;> rfl
      have b2' := b2
      rw [show (({ ({ (σ i) with lim := lm } : St) with t := t, L := s1.L, H := s1.H } : St).put l[i].2.dst v) = ((({ ({ (σ i) with t := t } : St) with L := s1.L, H := s1.H, lim := lm } : St).put l[i].2.dst v)) from rfl, e4] at b2'
      have b3' := b2'.relim (lim' := (σ 0).lim)
      rw [hlim.2] at b3'
      exact b3'
    · intro x hx
      rw [hst, e1, tget_put, if_pos hx]
  have := opA_sound hC hSi hso e2 hF hd (n := n) (next := K) (Q := Q) hnext
  unfold wpOpIn
  rw [ho]
  exact this

/-- An operation that touches no memory or only reads it. -/
theorem step_free (hC : CSound P B0 C) (E : DEnv P C nt ops l bx ms σ) {F : Fence} (hF : ∀ f, F.fn f) (hd : F.depth = none) {n : Nat} {Q : Exit → Act → World → Prop} {K : Act → World → Prop} {a : Act} {w : World}
    (hI : DInv P B0 F.round ds nt m0 o0 w0 l bx σ R a w) {i : Nat} (hi : i < l.length) (hn : ¬ R i) (hcmp : ∀ j, j < l.length → j ≠ i → cmpB ms i j = true → (j < i → R j) ∧ (i < j → ¬ R j)) (hk : l[i].1 = .free)
    (hK : ∀ a' w', DInv P B0 F.round ds nt m0 o0 w0 l bx σ (fun j => R j ∨ j = i) a' w' → K a' w') : wpOpIn F n P ops Q i K a w := by
  obtain ⟨q, m, o, t, hq, hqR, hS, hKp, hm, htv, ht0, htl, hB, hdist⟩ := hI
  obtain ⟨oper, ho, hso⟩ := E.cop i hi
  have hl : l[i].1 ≠ .late := fun e => by rw [hk] at e; cases e
  obtain ⟨lm, s1, hrun, hst, hsL, hsH, hno⟩ := dOp_run (E.ds i hi) hl (E.st i hi)
  have hno : noLoc (σ i) l[i].2.op = true := by rcases hno with h | h; · rw [hk] at h; cases h
                                                · exact h
  have hlook := view_look E htv ht0 hi hn hcmp hl
  obtain ⟨v, e1, e2⟩ := opA_congr (t' := t) hrun hlook
  have hlim := states_lim E.ds i (by omega)
  have hlimq := states_lim E.ds q hq
  have hf := E.free i hi hk
  have hev : ∀ x ∈ l[i].2.op.xs, ({ (σ i) with t := t } : St).ev x = (σ i).ev x := ev_congr fun x hm => hlook x (late_look rfl hm)
  have hno2 : noLoc { ({ (σ i) with lim := lm } : St) with t := t } l[i].2.op = true := by
    rw [← hno]; exact noLoc_congr _ fun x hx => by have := hev x hx; cases x <;> exact this
  obtain ⟨v2, e3, e4⟩ := opA_free hf hno2 e2
  have hag : Agrees { ({ (σ i) with lim := lm } : St) with t := t } l[i].2.op (σ q).L (σ q).H := by
    intro hread
    have hbar : ∀ j (h : j < l.length), (q ≤ j ∧ j < i) ∨ (i ≤ j ∧ j < q) → l[j].1 ≠ .bar := fun j h hj hb => by
      have hne : j ≠ i := fun e => by subst e; rw [hk] at hb; cases hb
      have hc : isC l[j].1 = true := by rw [hb]; rfl
      obtain ⟨c1, c2⟩ := hcmp j h hne ((cmpB_comm ms (Ne.symm hne)).trans (E.p4 j i h hi hne hb hread))
      have := hqR j h hc
      rcases hj with hj | hj
      · have := this.2 (c1 hj.2); omega
      · exact c2 (by omega) (this.1 hj.2)
    have hLH : (σ q).L = (σ i).L ∧ ∀ b, b < (σ q).H.length ∨ i ≤ q → ∀ x, (σ i).H[b]? = some x → (σ q).H[b]? = some x := by
      by_cases hqi : q ≤ i
      · have := states_add E.ds q (i - q) (by omega) (fun j h a b => hbar j h (.inl ⟨a, by omega⟩))
        rw [show q + (i - q) = i by omega] at this
        refine ⟨this.1.symm, fun b hb x hx => ?_⟩
        rcases hb with hb | hb
        · rw [← this.2.2 b hb hb]; exact hx
        · have : q = i := by omega
          rw [this]; exact hx
      · have := states_add E.ds i (q - i) (by omega) (fun j h a b => hbar j h (.inr ⟨a, by omega⟩))
        rw [show i + (q - i) = q by omega] at this
        refine ⟨this.1, fun b hb x hx => ?_⟩
        have hb2 : b < (σ i).H.length := (List.getElem?_eq_some_iff.1 hx).1
        rw [this.2.2 b hb2 hb2]; exact hx
    have hvr : ∀ y ∈ l[i].2.op.xs, VRel m (({ ({ (σ i) with lim := lm } : St) with t := t } : St).ev y) (a.eval y) := fun y hy => by
      have := ev_rel hS.G hS.T (cOp_ok (P := P) (oper := oper) y (by rw [← (cSOp_spec hso).1]; exact hy))
      cases y <;> exact this
    refine ⟨hLH.1, fun y hy a' hya b x hnd hx => hLH.2 b (.inl ?_) x hx, fun y hy a' nn c hya x hx => hLH.2 _ (.inl ?_) x hx⟩
    · have hv := hvr y hy
      rw [hya] at hv
      generalize a.eval y = ay at hv
      cases hv with
      | ptr _ a2 har =>
        rcases hnd with ⟨h1, h2⟩ | ⟨g, h1, h2⟩
        · have := har.2
          rw [h1] at this
          obtain ⟨ii, hh, _⟩ := this
          rw [h2]
          exact (hS.tie.tH.dom _ _ hh).1
        · have h2' : lget (σ q).L a'.block = some (g, .fwd b) := by rw [hLH.1]; exact h2
          obtain ⟨ii, hh, _⟩ := hS.tie.tL _ _ _ h2'
          exact (hS.tie.tH.dom _ _ hh).1
    · have hv := hvr y hy
      rw [hya] at hv
      generalize a.eval y = ay at hv
      cases hv with
      | sl _ a2 _ _ _ ii hs har hh _ _ _ => exact (hS.tie.tH.dom _ _ hh).1
  have e5 := e4 (σ q).L (σ q).H (σ 0).lim hag
  have hSi : SRel P B0 F.round ds nt m o ⟨t, (σ q).L, (σ q).H, (σ 0).lim, (σ i).rd⟩ a w := by rw [hlim.2]; exact hS
  have hnext : ∀ m' o' a' w', m.le m' → SRel P B0 F.round ds nt m' o' (({ ({ ({ (σ i) with lim := lm } : St) with t := t } : St) with L := (σ q).L, H := (σ q).H, lim := (σ 0).lim } : St).put l[i].2.dst v2) a' w' → Keep o w o' w' → (∃ v', a' = a.put oper.dst v') → K a' w' := by
    rintro m' o' a' w' b1 b2 b3 ⟨v', rfl⟩
    refine hK _ _ (DInv.next E (q' := q) (v := v2) (v' := v') hi hn hl hq ?_ ?_ ?_ ?_ hKp hm b3 b1 htv ht0 htl hB hdist)
    · intro j hj hc
      have hne : j ≠ i := fun e => by subst e; rw [hk] at hc; cases hc
      rw [hqR j hj hc]
      exact ⟨.inl, fun h => h.resolve_right hne⟩
    · rw [(cSOp_spec hso).2.1]
    · have e6 : ∀ d, (({ (σ i) with t := t } : St).put d v2).t = (({ ({ ({ (σ i) with lim := lm } : St) with t := t } : St) with L := (σ q).L, H := (σ q).H, lim := (σ 0).lim } : St).put d v2).t := by intro d; cases d <;> rfl
      rw [e6]
      have e7 : ∀ d, ((({ ({ ({ (σ i) with lim := lm } : St) with t := t } : St) with L := (σ q).L, H := (σ q).H, lim := (σ 0).lim } : St).put d v2)) = ⟨(({ ({ ({ (σ i) with lim := lm } : St) with t := t } : St) with L := (σ q).L, H := (σ q).H, lim := (σ 0).lim } : St).put d v2).t, (σ q).L, (σ q).H, (σ 0).lim, (σ i).rd⟩ := by intro d; cases d <;> rfl
      have b2' := b2
      rw [e7, hlim.2] at b2'
      exact b2'
    · intro x hx
      rw [hst, e1, tget_put, if_pos hx]
      have := congrArg (fun s : St => tget s.t x) e3
      simp only [tget_put, if_pos hx] at this
      exact this
  have := opA_sound hC hSi hso e5 hF hd (n := n) (next := K) (Q := Q) hnext
  unfold wpOpIn
  rw [ho]
  exact this
end
end Go.Proofs.YthobfecblpnnnaaGreatDoor

/- Regions whose order is drawn: boxed variables that are made within them; the region. -/
namespace Go.Proofs.YthobfecblpnnnaaGreatDoor
open Go Go.RowKit

variable {P : Program} {B0 : Nat}

section
variable {C : CallA} {nt : Nat} {ops : Array Oper} {l : List (DK × SOp)} {bx : List BX} {ms : List Nat} {σ : Nat → St} {R : Nat → Prop} {rd : Option Nat} {ds : List Nat} {m0 : Mp} {o0 : Nat → Ow} {w0 : World}

/-- The world changes where nobody known here owns anything. -/
theorem SRel.world {ro : Option Nat} {m : Mp} {o o' : Nat → Ow} {s : St} {a : Act} {w w' : World} (r : SRel P B0 ro ds nt m o s a w) (hs : w.heap.size ≤ w'.heap.size) (hb : ∀ B, B < B0 → o' B = .other)
    (hk : ∀ B, B < w.heap.size → (B < B0 ∨ o B ≠ .other ∨ ∃ x, w.heap[B]? = some (.deferred x)) → w'.heap[B]? = w.heap[B]? ∧ o' B = o B) : SRel P B0 ro ds nt m o' s a w' := by
  refine ⟨r.T, r.sz, ⟨r.tie.tH.keep rfl (fun _ _ _ h => h) hs hb fun B hB ho => hk B hB ?_, r.tie.tL.keep (Mp.le_refl m) fun B d g hB ho => hk B hB (.inr (.inl (by rw [ho]; simp))), r.tie.tF⟩, r.G, ⟨r.D.1, r.D.2.1, fun D hD => ?_⟩, r.R⟩
  · rcases ho with h | ⟨b, h⟩ | ⟨b, d, g, h⟩
    · exact .inl h
    · exact .inr (.inl (by rw [h]; simp))
    · exact .inr (.inl (by rw [h]; simp))
  · obtain ⟨h1, h2⟩ := r.D.2.2 D hD
    obtain ⟨h3, h4⟩ := hk D (lt_of_heap h1) (.inr (.inr ⟨_, h1⟩))
    exact ⟨h3.trans h1, h4.trans h2⟩

/-- A boxed variable is made. -/
theorem step_box (E : DEnv P C nt ops l bx ms σ) {F : Fence} (hF : ∀ f, F.fn f) {n : Nat} {Q : Exit → Act → World → Prop} {K : Act → World → Prop} {a : Act} {w : World}
    (hI : DInv P B0 F.round ds nt m0 o0 w0 l bx σ R a w) (hB0 : B0 ≤ w0.heap.size) {b : BX} (hb : b ∈ bx) (hn : ¬ R b.i) (hst : ∀ k, b.k = some k → ¬ R k)
    (hK : ∀ a' w', DInv P B0 F.round ds nt m0 o0 w0 l bx σ (fun j => R j ∨ j = b.i) a' w' → K a' w') : wpOpIn F n P ops Q b.i K a w := by
  obtain ⟨q, m, o, t, hq, hqR, hS, hKp, hm, htv, ht0, htl, hB, hdist⟩ := hI
  obtain ⟨hi, e1, hz, hzn⟩ := E.b1 b hb
  obtain ⟨oper, ho, hso⟩ := E.cop b.i hi
  rw [e1] at hso
  obtain ⟨c1, c2, c3, c4⟩ := cSOp_spec hso
  obtain ⟨e, hop⟩ := cOp_box c1.symm
  have hg := c4 rfl
  have hdst : oper.dst = some b.d := c2.symm
  -- the run
  have hrun : (execOp a.eval oper).run P w = .ok (.value (.pointer (some ⟨w.heap.size, 0, none⟩))) (w.alloc (.cells b.z.cells e)) := by
    rcases hop with hop | ⟨hop, z, hzz, hzo⟩
    · simp [execOp, hop, Instr.box, newVar, newRow, Act.eval]
    · cases hzz
      have hi : ∃ i, P.info? e = some i ∧ i.zero = some b.z := by
        simp only [zeroOf, Option.bind_eq_some_iff] at hzo; exact hzo
      obtain ⟨i, hi, hiz⟩ := hi
      simp [execOp, hop, Instr.alloc, zeroValue, typeInfo, hi, hiz, newVar, newRow]
  have hsem : (oper.semAt F.round a.eval).run P w = .ok (.value (.pointer (some ⟨w.heap.size, 0, none⟩))) (w.alloc (.cells b.z.cells e)) := by
    rw [Oper.semAt_plain F _ _ (fun c hc' => by rcases hop with hop | ⟨hop, _⟩ <;> rw [hop] at hc' <;> cases hc')]
    exact hrun
  have hnew : DInv P B0 F.round ds nt m0 o0 w0 l bx σ (fun j => R j ∨ j = b.i) (a.put oper.dst (.pointer (some ⟨w.heap.size, 0, none⟩))) (w.alloc (.cells b.z.cells e)) := by
    have hlow := hS.tie.tH.low
    have hws := hKp.size
    have hold : ∀ B, B < w.heap.size → (w.alloc (.cells b.z.cells e)).heap[B]? = w.heap[B]? := fun B hB => Below.heap_alloc _ _ _ hB
    have hS2 : SRel P B0 F.round ds nt m (fun B => if B = w.heap.size then .other else o B) ⟨t, (σ q).L, (σ q).H, (σ 0).lim, (σ 0).rd⟩ a (w.alloc (.cells b.z.cells e)) :=
      hS.world (by simp) (fun B hB => by simp [show B ≠ w.heap.size by omega, hS.tie.tH.base B hB]) fun B hB _ => ⟨hold B hB, by simp [show B ≠ w.heap.size by omega]⟩
    have hT := hS2.T.put (Mp.le_refl m) hS2.sz (d := oper.dst) c3 (v := .tuple #[]) (v' := .pointer (some ⟨w.heap.size, 0, none⟩)) (.any _)
    have hdt : ∀ j (h : j < l.length), j ≠ b.i → l[j].2.dst ≠ some b.d := fun j h hne => E.p1 b.i j hi h b.d (Ne.symm hne) (by rw [e1])
    have huniq : ∀ b' ∈ bx, b'.i ≠ b.i → b'.d ≠ b.d := fun b' hb' hne hd => by
      obtain ⟨h', e', _⟩ := E.b1 b' hb'
      exact hdt b'.i h' hne (by rw [e', hd])
    have hsz : b.d < a.tmps.size := by
      have := c3
      rw [hdst] at this
      simp only [Option.all_some, decide_eq_true_eq] at this
      exact Nat.lt_of_lt_of_le this hS.sz
    have hptr : (a.put oper.dst (.pointer (some ⟨w.heap.size, 0, none⟩))).tmps.getD b.d undef = .pointer (some ⟨w.heap.size, 0, none⟩) := by
      rw [hdst]; simp [Act.put, Array.getD_eq_getD_getElem?, hsz]
    have hkeepp : ∀ b' ∈ bx, b'.i ≠ b.i → (a.put oper.dst (.pointer (some ⟨w.heap.size, 0, none⟩))).tmps.getD b'.d undef = a.tmps.getD b'.d undef := fun b' hb' hne =>
      getD_put (by rw [hdst]; exact fun e => huniq b' hb' hne (Option.some.inj e).symm)
    have hlt : ∀ b' ∈ bx, R b'.i → ∃ B, B < w.heap.size ∧ a.tmps.getD b'.d undef = .pointer (some ⟨B, 0, none⟩) := fun b' hb' hR => by
      obtain ⟨B, _, _, k3, arr, te, k4, _⟩ := hB b' hb' hR
      exact ⟨B, lt_of_heap k4, k3⟩
    refine ⟨q, m, fun B => if B = w.heap.size then .other else o B, (b.d, .tuple #[]) :: t, hq, ?_, ?_, ?_, hm, ?_, ?_, ?_, ?_, ?_⟩
    · intro j hj hc
      have hne : j ≠ b.i := fun e => by subst e; rw [e1] at hc; simp [isC] at hc
      rw [hqR j hj hc]
      exact ⟨.inl, fun h => h.resolve_right hne⟩
    · refine ⟨?_, by rw [put_size]; exact hS2.sz, hS2.tie, hS2.G, by rw [put_defers]; exact hS2.D, hS2.R⟩
      rw [hdst] at hT ⊢
      exact hT
    · exact ⟨hKp.os, hKp.tape, hKp.output, by simp; omega, fun B hB ho => by
        obtain ⟨k1, k2⟩ := hKp.same B hB ho
        exact ⟨(hold B (by omega)).trans k1, by simp [show B ≠ w.heap.size by omega, k2]⟩⟩
    · intro j hj hR hjl x hx
      have hne : j ≠ b.i := fun e => by subst e; exact hjl (by rw [e1])
      have hxd : x ≠ b.d := fun e => hdt j hj hne (by rw [hx, e])
      rw [tget_cons, if_neg hxd]
      exact htv j hj (hR.resolve_right hne) hjl x hx
    · intro x hx
      have hxd : x ≠ b.d := fun e => hx b.i hi (.inr rfl) (by rw [e1, e])
      rw [tget_cons, if_neg hxd]
      exact ht0 x fun j hj hR => hx j hj (.inl hR)
    · intro j hj hR hjl x hx
      rw [tget_cons]
      split
      · rfl
      · rename_i hxd
        rcases hR with hR | rfl
        · exact htl j hj hR hjl x hx
        · rw [e1] at hx; cases hx; exact absurd rfl hxd
    · intro b' hb' hR
      by_cases hbi : b'.i = b.i
      · obtain ⟨h', e', hz', hzn'⟩ := E.b1 b' hb'
        have ed : b'.d = b.d ∧ b'.z = b.z := by
          have : l[b'.i] = l[b.i] := by congr 1
          rw [e', e1] at this
          cases b; cases b'; simp at this ⊢; exact this
        refine ⟨w.heap.size, hws, by simp, by rw [ed.1]; exact hptr, b.z.cells, e, World.alloc_heap_new w _, by rw [← ed.2]; exact hzn', fun hk => ?_⟩
        cases hkk : b'.k with
        | none =>
          have hv := (E.b2 b' hb' hkk).1
          rw [hv]
          have hfin := (E.fin b' hb').1
          rw [hv] at hfin
          have := cells_rel (VRel.refl_sca m b'.z hz') hfin
          rw [← ed.2]; exact this
        | some k =>
          have hRk := hk k hkk
          obtain ⟨hlt2, ⟨h3, e3⟩, _⟩ := E.b3 b' hb' k hkk
          have hlk : b'.d ∈ l[k].2.look := by rw [e3]; simp [SOp.look, SO.xs]
          have hbk : b.k = some k := by
            cases hbk : b.k with
            | none =>
              exact absurd hlk (by rw [ed.1]; exact (E.b2 b hb hbk).2 k h3)
            | some k' =>
              by_cases hkk' : k = k'
              · rw [hkk']
              · exact absurd hlk (by rw [ed.1]; exact (E.b3 b hb k' hbk).2.2 k h3 hkk')
          rcases hRk with h | h
          · exact absurd h (hst k hbk)
          · have := (E.b3 b hb k hbk).1; omega
      · have hR' : R b'.i := hR.resolve_right hbi
        obtain ⟨B, k1, k2, k3, arr, te, k4, k5, k6⟩ := hB b' hb' hR'
        have hlB := lt_of_heap k4
        refine ⟨B, k1, by simp [show B ≠ w.heap.size by omega, k2], by rw [hkeepp b' hb' hbi]; exact k3, arr, te, (hold B hlB).trans k4, k5, fun h => k6 fun k hk => ?_⟩
        rcases h k hk with h | h
        · exact h
        · obtain ⟨_, ⟨h3, e3⟩, _⟩ := E.b3 b' hb' k hk
          subst h; rw [e1] at e3; cases e3
    · intro b' hb' b'' hb'' hR' hR'' hne
      by_cases h1 : b'.i = b.i
      · have h2 : b''.i ≠ b.i := fun e => hne (h1.trans e.symm)
        have hd1 : b'.d = b.d := by
          obtain ⟨h', e', _⟩ := E.b1 b' hb'
          have : l[b'.i] = l[b.i] := by congr 1
          rw [e', e1] at this
          cases b; cases b'; simp at this ⊢; exact this.1
        rw [hd1, hptr, hkeepp b'' hb'' h2]
        obtain ⟨B, k1, k2⟩ := hlt b'' hb'' (hR''.resolve_right h2)
        rw [k2]; intro e; cases e; omega
      · by_cases h2 : b''.i = b.i
        · have hd1 : b''.d = b.d := by
            obtain ⟨h', e', _⟩ := E.b1 b'' hb''
            have : l[b''.i] = l[b.i] := by congr 1
            rw [e', e1] at this
            cases b; cases b''; simp at this ⊢; exact this.1
          rw [hd1, hptr, hkeepp b' hb' h1]
          obtain ⟨B, k1, k2⟩ := hlt b' hb' (hR'.resolve_right h1)
          rw [k2]; intro e; cases e; omega
        · rw [hkeepp b' hb' h1, hkeepp b'' hb'' h2]
          exact hdist b' hb' b'' hb'' (hR'.resolve_right h1) (hR''.resolve_right h2) hne
  unfold wpOpIn
  rw [ho]
  simp only
  rw [if_pos (by simp [Region.wanted, hg])]
  refine ⟨fun f _ => hF f, ?_⟩
  rw [hsem]
  exact hK _ _ hnew

/-- A boxed variable is set. -/
theorem step_set (E : DEnv P C nt ops l bx ms σ) {F : Fence} (hF : ∀ f, F.fn f) {n : Nat} {Q : Exit → Act → World → Prop} {K : Act → World → Prop} {a : Act} {w : World}
    (hI : DInv P B0 F.round ds nt m0 o0 w0 l bx σ R a w) (hB0 : B0 ≤ w0.heap.size) {b : BX} (hb : b ∈ bx) {i : Nat} (hk : b.k = some i) (hn : ¬ R i) (hRi : R b.i) (hv : ∀ j, j < l.length → (ms.getD i 0).testBit j = true → R j)
    (hK : ∀ a' w', DInv P B0 F.round ds nt m0 o0 w0 l bx σ (fun j => R j ∨ j = i) a' w' → K a' w') : wpOpIn F n P ops Q i K a w := by
  obtain ⟨q, m, o, t, hq, hqR, hS, hKp, hm, htv, ht0, htl, hB, hdist⟩ := hI
  obtain ⟨hbi, e0, hz, hzn⟩ := E.b1 b hb
  obtain ⟨hik, ⟨hi, e1⟩, hlk⟩ := E.b3 b hb i hk
  obtain ⟨oper, ho, hso⟩ := E.cop i hi
  rw [e1] at hso
  obtain ⟨c1, c2, c3, c4⟩ := cSOp_spec hso
  obtain ⟨ty, ti, hop, hti, hnsz⟩ := cOp_st c1.symm
  have hg := c4 rfl
  have hdst : oper.dst = none := c2.symm
  obtain ⟨B, k1, k2, k3, arr, te, k4, k5, k6⟩ := hB b hb hRi
  have hlB := lt_of_heap k4
  -- what is set
  have hval : VRel m ((σ l.length).ev b.v) (a.eval b.v) := by
    have hx := ev_rel hS.G hS.T (E.b5 b hb)
    cases hbv : b.v with
    | tmp x =>
      rw [hbv] at hx
      have hxx := (E.b4 b hb i x hk hbv).2
      have : tget t x = tget (σ l.length).t x := by
        by_cases hw : ∃ j, ∃ h : j < l.length, l[j].2.dst = some x
        · obtain ⟨j, hj, hd⟩ := hw
          obtain ⟨hnl, hbit⟩ := hxx j hj hd
          rw [htv j hj (hv j hj hbit) hnl x hd]
          have e2 := states_t E.ds (x := x) (j + 1) (l.length - (j + 1)) (by omega) (fun j' h u v => .inr (E.p1 j j' hj h x (by omega) hd))
          rw [show j + 1 + (l.length - (j + 1)) = l.length by omega] at e2
          exact e2.symm
        · rw [ht0 x fun j hj _ e => hw ⟨j, hj, e⟩]
          have e2 := states_t E.ds (x := x) 0 l.length (by omega) (fun j' h _ _ => .inr (fun e => hw ⟨j', h, e⟩))
          rw [Nat.zero_add] at e2
          exact e2.symm
      simp only [St.ev] at hx ⊢
      rw [← this]; exact hx
    | const v => rw [hbv] at hx; exact hx
    | global g => rw [hbv] at hx; exact hx
    | func f => rw [hbv] at hx; exact hx
  obtain ⟨f1, f2, f3⟩ := E.fin b hb
  have hcells := cells_rel hval f1
  have hlen : (a.eval b.v).cells.toList.length = b.n := by rw [← hcells.1]; simpa using f2
  have hone := hcells.all_oneC f3
  have hstore := run_storeCells_at P B 0 te (a.eval b.v).cells.toList 0 arr w k4 (by omega) hone
  have harr : (arr.toList.take (0 + 0) ++ (a.eval b.v).cells.toList ++ arr.toList.drop (0 + 0 + (a.eval b.v).cells.toList.length)) = (a.eval b.v).cells.toList := by
    rw [hlen, ← k5]
    simp
  rw [harr] at hstore
  obtain ⟨w', hw'⟩ : ∃ w', w.setRow B (a.eval b.v).cells.toList.toArray = w' := ⟨_, rfl⟩
  rw [hw'] at hstore
  have hev : a.eval (.tmp b.d) = .pointer (some ⟨B, 0, none⟩) := k3
  have hrun : (execOp a.eval oper).run P w = .ok .skip w' := by
    have hsz : (a.eval b.v).cells.size = ti.size := by rw [← hnsz]; simpa using hlen
    simp [execOp, hop, Instr.storeAt, hev, Instr.sureAddr, storeVar, sizeOf, typeInfo, hti, hsz, hstore]
  have hsem : (oper.semAt F.round a.eval).run P w = .ok .skip w' := by
    rw [Oper.semAt_plain F _ _ (fun c hc' => by rw [hop] at hc'; cases hc')]
    exact hrun
  have hnew : DInv P B0 F.round ds nt m0 o0 w0 l bx σ (fun j => R j ∨ j = i) a w' := by
    have hsame : ∀ B', B' ≠ B → w'.heap[B']? = w.heap[B']? := fun B' h => by rw [← hw']; exact setRow_other w B B' _ h
    have hwsz : w'.heap.size = w.heap.size := by rw [← hw']; simp
    have hhere : w'.heap[B]? = some (.cells (a.eval b.v).cells te (0, 0)) := by rw [← hw']; simpa using setRow_heap w B arr (a.eval b.v).cells.toList.toArray te _ k4
    have hR' : ∀ b' ∈ bx, (R b'.i ∨ b'.i = i) → R b'.i := fun b' hb' h => by
      rcases h with h | h
      · exact h
      · obtain ⟨h', e', _⟩ := E.b1 b' hb'
        subst h; rw [e1] at e'; cases e'
    refine ⟨q, m, o, t, hq, ?_, ?_, ?_, hm, ?_, ?_, ?_, ?_, ?_⟩
    · intro j hj hc
      have hne : j ≠ i := fun e => by subst e; rw [e1] at hc; simp [isC] at hc
      rw [hqR j hj hc]
      exact ⟨.inl, fun h => h.resolve_right hne⟩
    · refine hS.world (by omega) hS.tie.tH.base fun B' hB' hh => ⟨hsame B' fun e => ?_, rfl⟩
      subst e
      rcases hh with h | h | ⟨x, h⟩
      · omega
      · exact h k2
      · rw [k4] at h; cases h
    · refine ⟨?_, ?_, ?_, by have := hKp.size; omega, fun B' hB' hoo => ?_⟩
      · rw [← hw']; exact hKp.os
      · rw [← hw']; exact hKp.tape
      · rw [← hw']; exact hKp.output
      · obtain ⟨j1, j2⟩ := hKp.same B' hB' hoo
        exact ⟨(hsame B' (by omega)).trans j1, j2⟩
    · intro j hj hR hjl x hx
      rcases hR with hR | rfl
      · exact htv j hj hR hjl x hx
      · exact absurd (by rw [e1]) hjl
    · intro x hx
      exact ht0 x fun j hj hR => hx j hj (.inl hR)
    · intro j hj hR hjl x hx
      rcases hR with hR | rfl
      · exact htl j hj hR hjl x hx
      · rw [e1] at hx; cases hx
    · intro b' hb' hR
      have hRb := hR' b' hb' hR
      obtain ⟨B', j1, j2, j3, arr', te', j4, j5, j6⟩ := hB b' hb' hRb
      by_cases hbb : b'.i = b.i
      · obtain ⟨h', e', _⟩ := E.b1 b' hb'
        have hdd : b'.d = b.d := by
          have : l[b'.i] = l[b.i] := by congr 1
          rw [e', e0] at this
          cases b; cases b'; simp at this ⊢; exact this.1
        have hBB : B' = B := by rw [hdd, k3] at j3; cases j3; rfl
        subst hBB
        have hlki : b'.d ∈ l[i].2.look := by rw [e1, hdd]; simp [SOp.look, SO.xs]
        have hbk : b'.k = some i := by
          cases hbk : b'.k with
          | none => exact absurd hlki ((E.b2 b' hb' hbk).2 i hi)
          | some k' =>
            by_cases hkk' : i = k'
            · rw [hkk']
            · exact absurd hlki ((E.b3 b' hb' k' hbk).2.2 i hi hkk')
        obtain ⟨_, ⟨_, e3⟩, _⟩ := E.b3 b' hb' i hbk
        have hvv : b'.v = b.v ∧ b'.n = b.n := by
          rw [e1] at e3
          simp only [Prod.mk.injEq, SOp.mk.injEq, SO.st.injEq, true_and] at e3
          exact ⟨e3.2.2.symm, e3.1.symm⟩
        refine ⟨B', j1, j2, j3, _, te, hhere, by rw [hvv.2]; simpa using hlen, fun _ => by rw [hvv.1]; exact hcells⟩
      · have hne : B' ≠ B := fun e => by
          subst e
          exact hdist b' hb' b hb hRb hRi hbb (by rw [j3, k3])
        refine ⟨B', j1, j2, j3, arr', te', (hsame B' hne).trans j4, j5, fun h => j6 fun k hk' => ?_⟩
        rcases h k hk' with h | h
        · exact h
        · obtain ⟨_, ⟨_, e3⟩, _⟩ := E.b3 b' hb' k hk'
          subst h
          rw [e1] at e3
          simp only [Prod.mk.injEq, SOp.mk.injEq, SO.st.injEq, true_and, Operand.tmp.injEq] at e3
          obtain ⟨h', e', _⟩ := E.b1 b' hb'
          exact absurd (show l[b.i].2.dst = some b'.d by rw [e0, e3.2.1]) (E.p1 b'.i b.i h' hbi b'.d hbb (by rw [e']))
    · intro b' hb' b'' hb'' h1 h2 hne
      exact hdist b' hb' b'' hb'' (hR' b' hb' h1) (hR' b'' hb'' h2) hne
  unfold wpOpIn
  rw [ho]
  simp only
  rw [if_pos (by simp [Region.wanted, hg])]
  refine ⟨fun f _ => hF f, ?_⟩
  rw [hsem]
  have := hK _ _ hnew
  rw [show a = a.put oper.dst undef by rw [hdst]; rfl] at this
  exact this
end
end Go.Proofs.YthobfecblpnnnaaGreatDoor

/- Regions whose order is drawn: each order does what the abstract machine says. -/
namespace Go.Proofs.YthobfecblpnnnaaGreatDoor
open Go Go.RowKit

variable {P : Program} {B0 : Nat}

/-! ### What the check says -/

theorem boxedOf_some {o : SOp} {d : Tmp} {z : Value} (h : boxedOf o = some (d, z)) : o = ⟨some d, none, .box (.const z)⟩ ∧ sca z = true := by
  unfold boxedOf at h
  split at h
  · split at h
    · rename_i hs; cases h; exact ⟨rfl, hs⟩
    · cases h
  · cases h

theorem setOf_some {o : SOp} {d : Tmp} {n : Nat} {v : Operand} (h : setOf d n o = some v) : o = ⟨none, none, .st n (.tmp d) v⟩ := by
  unfold setOf at h
  split at h
  · split at h
    · rename_i hs; obtain ⟨rfl, rfl⟩ := hs; cases h; rfl
    · cases h
  · cases h

theorem mem_looksAt {l : List SOp} {d : Tmp} {k : Nat} (h : k < l.length) : k ∈ looksAt l d ↔ d ∈ l[k].look := by
  unfold looksAt
  rw [List.mem_filter]
  simp [h]

theorem bxAt_spec {l : List SOp} {i : Nat} {b : BX} (h : bxAt l i = some b) : b.i = i ∧ (∃ hi : i < l.length, l[i] = ⟨some b.d, none, .box (.const b.z)⟩) ∧ sca b.z = true ∧ b.z.cells.size = b.n ∧
    (b.k = none → b.v = .const b.z ∧ ∀ j (h : j < l.length), b.d ∉ l[j].look) ∧ (∀ k, b.k = some k → (∃ h : k < l.length, l[k] = ⟨none, none, .st b.n (.tmp b.d) b.v⟩) ∧ ∀ j (h : j < l.length), j ≠ k → b.d ∉ l[j].look) := by
  unfold bxAt at h
  split at h
  · rename_i d z hd
    simp only [Option.bind_eq_some_iff] at hd
    obtain ⟨o, ho, hb⟩ := hd
    obtain ⟨rfl, hz⟩ := boxedOf_some hb
    obtain ⟨hi, ho⟩ := List.getElem?_eq_some_iff.1 ho
    split at h
    · rename_i hl
      cases h
      refine ⟨rfl, ⟨hi, ho⟩, hz, rfl, fun _ => ⟨rfl, fun j hj hm => ?_⟩, fun k hk => by cases hk⟩
      have := (mem_looksAt hj).2 hm
      rw [hl] at this; cases this
    · rename_i k hl
      split at h
      · rename_i v hv
        cases h
        simp only [Option.bind_eq_some_iff] at hv
        obtain ⟨o2, ho2, hs⟩ := hv
        have := setOf_some hs
        subst this
        obtain ⟨hk, ho2⟩ := List.getElem?_eq_some_iff.1 ho2
        refine ⟨rfl, ⟨hi, ho⟩, hz, rfl, (fun e => by cases e), fun k' hk' => ?_⟩
        cases hk'
        refine ⟨⟨hk, ho2⟩, fun j hj hne hm => ?_⟩
        have := (mem_looksAt hj).2 hm
        rw [hl] at this
        simp at this
        exact hne this
      · cases h
    · cases h
  · cases h

theorem fin_of {l : List (DK × SOp)} : ∀ (bs : List BX) {s s' : St} (_ : bxsA bs s = some s') (_ : ∀ b ∈ bs, ∀ b' ∈ bs, b'.v ≠ .tmp b.d), ∀ b ∈ bs, isU (s.ev b.v) = false ∧ (s.ev b.v).cells.size = b.n ∧ (s.ev b.v).cells.toList.all oneC = true
  | [], _, _, _, _, b, hb => by simp at hb
  | b :: bs, s, s', h, hd, b', hb' => by
    simp only [bxsA] at h
    split at h
    · rename_i s1 h1
      unfold bxA at h1
      split at h1
      · rename_i hc
        cases h1
        rcases List.mem_cons.1 hb' with rfl | hb'
        · exact hc
        · have := fin_of (l := l) bs h (fun x hx y hy => hd x (by simp [hx]) y (by simp [hy])) b' hb'
          have hne := hd b (by simp) b' (by simp [hb'])
          have e : (({ s with t := (b.d, .pointer (some ⟨b.d, 0, some (nextG s.L b.d)⟩)) :: s.t, L := (b.d, nextG s.L b.d, .cells (s.ev b.v).cells.toList) :: s.L } : St)).ev b'.v = s.ev b'.v := by
            cases hbv : b'.v with
            | tmp x =>
              have hx : x ≠ b.d := fun e => hne (by rw [hbv, e])
              simp only [St.ev, tget_cons, if_neg hx]
            | _ => rfl
          rw [e] at this
          exact this
      · cases h1
    · cases h

/-- The check, out of what it computes. -/
theorem DEnv.of {C : CallA} (hC : CGr C) {nt : Nat} {ops : Array Oper} {l : List (DK × SOp)} {bx : List BX} (hc : cDraw P nt ops = some (l, bx)) {s s' : St} (h : (dOps C l s).bind (bxsA bx) = some s') :
    ∃ σ : Nat → St, σ 0 = s ∧ bxsA bx (σ l.length) = some s' ∧ DEnv P C nt ops l bx (masksGo ops.toList []) σ ∧ ∀ b ∈ bx, ∀ b' ∈ bx, b'.v ≠ .tmp b.d := by
  unfold cDraw at hc
  split at hc
  rotate_left
  · cases hc
  rename_i l0 hl0
  simp only at hc
  split at hc
  rotate_left
  · cases hc
  rename_i hok
  simp only [Option.some.injEq, Prod.mk.injEq] at hc
  obtain ⟨hkl, hbx⟩ := hc
  obtain ⟨s1, h1, h2⟩ := Option.bind_eq_some_iff.1 h
  obtain ⟨k1, k2⟩ := cOps_spec hl0
  simp only [Array.length_toList] at k1
  generalize hms : masksGo ops.toList [] = ms at *
  rw [hbx] at hkl hok
  rw [hkl] at hok
  have hlen : l.length = l0.length := by rw [← hkl]; simp
  have hget : ∀ i (h : i < l.length), l[i].2 = l0[i]'(by omega) ∧ l[i].1 = kindAt l0 bx ms i := fun i hi => by
    subst hkl; simp
  unfold drawOk at hok
  simp only [Bool.and_eq_true, List.all_eq_true, List.mem_range, Bool.or_eq_true, beq_iff_eq] at hok
  obtain ⟨hok, hbxok⟩ := hok
  have hone : ∀ i (h : i < l.length), oneOk ops.toList l i = true := fun i hi => (hok i hi).1
  have hpair : ∀ i j (hi : i < l.length) (hj : j < l.length), i ≠ j → pairOk l ms i j = true := fun i j hi hj hne => ((hok i hi).2 j hj).resolve_left hne
  have hedge : ∀ i (h : i < ops.toList.length), (∀ e ∈ ops.toList[i].after.toList, bindE e = true → e.on < i) ∧ (∀ hi : i < l.length, (l[i].1 = .free → l[i].2.op.isFree = true) ∧ (l[i].1 = .chain → l[i].2.op.isAdd = true)) := fun i hi => by
    have hi' : i < l.length := by simp at hi; omega
    have := hone i hi'
    unfold oneOk at this
    rw [List.getElem?_eq_getElem hi, List.getElem?_eq_getElem hi'] at this
    simp only [Bool.and_eq_true, List.all_eq_true, Bool.or_eq_true, Bool.not_eq_true', decide_eq_true_eq] at this
    refine ⟨fun e he hb => (this.1 e he).resolve_left (by rw [hb]; simp), fun _ => ⟨fun hk => ?_, fun hk => ?_⟩⟩
    · have t := this.2; rw [hk] at t; exact t
    · have t := this.2; rw [hk] at t; exact t
  have hp : ∀ i j (hi : i < l.length) (hj : j < l.length), i ≠ j → (l[i].2.dst.isNone || l[i].2.dst != l[j].2.dst) = true ∧ (match l[j].2.dst with | some x => !l[i].2.look.contains x || (cmpB ms i j && (l[j].1 != .late || l[i].1 == .late)) | none => true) = true ∧
      (!(isC l[i].1 && isC l[j].1) || cmpB ms i j) = true ∧ (!(l[i].1 == .bar && l[j].2.op.isRead) || cmpB ms i j) = true := fun i j hi hj hne => by
    have := hpair i j hi hj hne
    unfold pairOk at this
    rw [List.getElem?_eq_getElem hi, List.getElem?_eq_getElem hj] at this
    simp only [Bool.and_eq_true] at this
    exact ⟨this.1.1.1, this.1.1.2, this.1.2, this.2⟩
  have hbxs : ∀ b ∈ bx, ∃ i, i < l0.length ∧ bxAt l0 i = some b := fun b hb => by
    rw [← hbx] at hb
    obtain ⟨i, hi, hb⟩ := List.mem_filterMap.1 hb
    exact ⟨i, by simpa using hi, hb⟩
  have hlateI : ∀ b ∈ bx, ∀ (h : b.i < l.length), l[b.i].1 = .late := fun b hb hi => by
    rw [(hget b.i hi).2]
    unfold kindAt
    rw [if_pos]
    exact List.any_eq_true.2 ⟨b, hb, by simp⟩
  have hlateK : ∀ b ∈ bx, ∀ k (h : k < l.length), b.k = some k → l[k].1 = .late := fun b hb k hi hk => by
    rw [(hget k hi).2]
    unfold kindAt
    rw [if_pos]
    exact List.any_eq_true.2 ⟨b, hb, by simp [hk]⟩
  have hB1 : ∀ b ∈ bx, ∃ h : b.i < l.length, l[b.i] = (.late, ⟨some b.d, none, .box (.const b.z)⟩) ∧ sca b.z = true ∧ b.z.cells.size = b.n := fun b hb => by
    obtain ⟨i, _, hb2⟩ := hbxs b hb
    obtain ⟨rfl, ⟨hi, e1⟩, hz, hn, _⟩ := bxAt_spec hb2
    have hi' : b.i < l.length := by omega
    exact ⟨hi', Prod.ext (hlateI b hb hi') ((hget b.i hi').1.trans e1), hz, hn⟩
  have hB2 : ∀ b ∈ bx, b.k = none → b.v = .const b.z ∧ ∀ j (h : j < l.length), b.d ∉ l[j].2.look := fun b hb hk => by
    obtain ⟨i, _, hb2⟩ := hbxs b hb
    obtain ⟨rfl, _, _, _, h5, _⟩ := bxAt_spec hb2
    exact ⟨(h5 hk).1, fun j hj => by rw [(hget j hj).1]; exact (h5 hk).2 j (by omega)⟩
  have hB3 : ∀ b ∈ bx, ∀ k, b.k = some k → (∃ h : k < l.length, l[k] = (.late, ⟨none, none, .st b.n (.tmp b.d) b.v⟩)) ∧ ∀ j (h : j < l.length), j ≠ k → b.d ∉ l[j].2.look := fun b hb k hk => by
    obtain ⟨i, _, hb2⟩ := hbxs b hb
    obtain ⟨rfl, _, _, _, _, h6⟩ := bxAt_spec hb2
    obtain ⟨⟨hk1, e1⟩, h7⟩ := h6 k hk
    have hk' : k < l.length := by omega
    exact ⟨⟨hk', Prod.ext (hlateK b hb k hk' hk) ((hget k hk').1.trans e1)⟩, fun j hj hne => by rw [(hget j hj).1]; exact h7 j (by omega) hne⟩
  have hB4 : ∀ b ∈ bx, ∀ k, b.k = some k → b.i < k ∧ ∀ x, b.v = .tmp x → x ≠ b.d ∧ ∀ j (h : j < l.length), l[j].2.dst = some x → l[j].1 ≠ .late ∧ (ms.getD k 0).testBit j = true := fun b hb k hk => by
    have := hbxok b hb
    unfold bxOk at this
    rw [hk] at this
    cases hv : b.v with
    | tmp x =>
      rw [hv] at this
      simp only [Bool.and_eq_true, List.all_eq_true, List.mem_range, decide_eq_true_eq, bne_iff_ne, ne_eq] at this
      refine ⟨this.1.1, fun y hy => ?_⟩
      cases hy
      refine ⟨this.1.2, fun j hj hd => ?_⟩
      have := this.2 j hj
      rw [List.getElem?_eq_getElem hj] at this
      simp only [Bool.or_eq_true, Bool.and_eq_true, bne_iff_ne, ne_eq] at this
      exact this.resolve_left (fun e => e hd)
    | const v => rw [hv] at this; simp only [Bool.and_eq_true, decide_eq_true_eq] at this; exact ⟨this.1, fun y hy => by cases hy⟩
    | global v => rw [hv] at this; simp only [Bool.and_eq_true, decide_eq_true_eq] at this; exact ⟨this.1, fun y hy => by cases hy⟩
    | func v => rw [hv] at this; simp only [Bool.and_eq_true, decide_eq_true_eq] at this; exact ⟨this.1, fun y hy => by cases hy⟩
  have hvd : ∀ b ∈ bx, ∀ b' ∈ bx, b'.v ≠ .tmp b.d := fun b hb b' hb' e => by
    cases hk : b'.k with
    | none => rw [(hB2 b' hb' hk).1] at e; cases e
    | some k =>
      obtain ⟨hi, e1, _⟩ := hB1 b hb
      have := ((hB4 b' hb' k hk).2 b.d e).2 b.i hi (by rw [e1])
      exact this.1 (by rw [e1])
  obtain ⟨σ, hσ0, hσn, hst⟩ := dOps_states l h1
  have hds : ∀ i (h : i < l.length), DStep l[i].1 l[i].2 (σ i) (σ (i + 1)) := fun i hi => by
    have := (hedge i (by simp; omega)).2 hi
    exact dOp_step hC this.1 this.2 (hst i hi)
  refine ⟨σ, hσ0, by rw [hσn]; exact h2, ?_, hvd⟩
  have hspec := masksGo_spec ops.toList [] (fun i hi e he hb => by simpa using (hedge i hi).1 e he hb)
  rw [hms] at hspec
  refine ⟨by omega, fun i hi => ?_, fun i hi => by have := hspec.2 i hi; simpa using this, fun i hi => (hedge i hi).1, ?_, ?_, ?_, ?_, fun i hi => ((hedge i (by simp; omega)).2 hi).1, hB1, hB2, fun b hb k hk => ⟨(hB4 b hb k hk).1, hB3 b hb k hk⟩, fun b hb k x hk hv => (hB4 b hb k hk).2 x hv, ?_, ?_, hst, hds, ?_⟩
  · have hi' : i < ops.size := by omega
    refine ⟨ops[i], by simp [hi'], ?_⟩
    rw [(hget i hi).1]
    have := k2 i (by simpa using hi') (by omega)
    rwa [Array.getElem_toList] at this
  · intro i j hi hj x hne h1 h2
    have := (hp i j hi hj hne).1
    rw [h1, h2] at this
    simp at this
  · intro i j hi hj x hne h1 h2
    have := (hp i j hi hj hne).2.1
    rw [h1] at this
    simp only [Bool.or_eq_true, Bool.and_eq_true, Bool.not_eq_true', bne_iff_ne, ne_eq, beq_iff_eq] at this
    rcases this with h | h
    · rw [List.contains_iff_mem.2 h2] at h; cases h
    · exact ⟨h.1, fun e => h.2.resolve_left (fun h => h e)⟩
  · intro i j hi hj hne h1 h2
    have := (hp i j hi hj hne).2.2.1
    rw [h1, h2] at this
    simpa using this
  · intro i j hi hj hne h1 h2
    have := (hp i j hi hj hne).2.2.2
    rw [h1, h2] at this
    simpa using this
  · intro b hb
    cases hk : b.k with
    | none =>
      rw [(hB2 b hb hk).1]
      exact (hB1 b hb).2.2.1
    | some k =>
      have := hbxok b hb
      unfold bxOk at this
      rw [hk] at this
      cases hv : b.v with
      | tmp x => rfl
      | const v => rw [hv] at this; simp only [Bool.and_eq_true] at this; exact this.2
      | global v => rw [hv] at this; simp only [Bool.and_eq_true] at this; exact this.2
      | func v => rw [hv] at this; simp only [Bool.and_eq_true] at this; exact this.2
  · intro i hi hl
    rw [(hget i hi).2] at hl
    unfold kindAt at hl
    split at hl
    · rename_i ha
      obtain ⟨b, hb, he⟩ := List.any_eq_true.1 ha
      simp only [Bool.or_eq_true, beq_iff_eq] at he
      exact ⟨b, hb, he⟩
    · rw [List.getElem?_eq_getElem (by omega)] at hl
      simp only at hl
      split at hl
      · cases hl
      · split at hl <;> cases hl
  · intro b hb
    rw [hσn]
    exact fin_of (l := l) bx h2 hvd b hb
end Go.Proofs.YthobfecblpnnnaaGreatDoor

/- Regions whose order is drawn: the whole; and so all calls. -/
namespace Go.Proofs.YthobfecblpnnnaaGreatDoor
open Go Go.RowKit

variable {P : Program} {B0 : Nat}

/-- A block that nobody owned becomes a boxed variable. -/
theorem SRel.adopt {ro : Option Nat} {ds : List Nat} {nt : Nat} {m : Mp} {o : Nat → Ow} {s : St} {a : Act} {w : World} (r : SRel P B0 ro ds nt m o s a w) {B : Nat} (hB : B0 ≤ B) (ho : o B = .other) {arr : Array Value} {te : TypeId} (hw : w.heap[B]? = some (.cells arr te (0, 0)))
    {vs : List Value} (hvs : LsRel m vs arr.toList) {d : Tmp} (hd : a.tmps.getD d undef = .pointer (some ⟨B, 0, none⟩)) :
    ∃ m', m.le m' ∧ SRel P B0 ro ds nt m' (fun B' => if B' = B then .loc d (nextG s.L d) else o B') { s with t := (d, .pointer (some ⟨d, 0, some (nextG s.L d)⟩)) :: s.t, L := (d, nextG s.L d, .cells vs) :: s.L } a w := by
  have hfree : m.l d (nextG s.L d) = none := by
    cases hx : m.l d (nextG s.L d) with
    | none => rfl
    | some B =>
      obtain ⟨g', c, h1, h2⟩ := r.tie.tF _ _ _ hx
      have : nextG s.L d = g' + 1 := by simp [nextG, h1]
      omega
  generalize hg : nextG s.L d = g at *
  have hm : m.le ⟨m.h, fun d' g' => if d' = d ∧ g' = g then some B else m.l d' g'⟩ := by
    refine ⟨fun _ _ h => h, fun d' g' B h => ?_⟩
    by_cases hx : d' = d ∧ g' = g
    · obtain ⟨rfl, rfl⟩ := hx; rw [hfree] at h; cases h
    · simpa [hx] using h
  have hne : ∀ B', o B' ≠ .other → B' ≠ B := fun B' h e => h (e ▸ ho)
  refine ⟨_, hm, ⟨fun j => ?_, r.sz, ⟨?_, ?_, ?_⟩, r.G.mono hm, ⟨r.D.1, r.D.2.1, fun D hD => ?_⟩, ?_⟩⟩
  · rw [tget_cons]
    split
    · rename_i hj; subst hj
      rw [hd]; exact .ptr _ _ ⟨rfl, by simp⟩
    · exact (r.T j).mono hm
  · refine r.tie.tH.keep rfl hm.2 (Nat.le_refl _) (fun B' hB' => by simp [show B' ≠ B by omega, r.tie.tH.base B' hB']) fun B' _ hh => ⟨rfl, ?_⟩
    have : B' ≠ B := by
      rcases hh with h | ⟨b, h⟩ | ⟨b, d, g, h⟩
      · omega
      · exact hne B' (by rw [h]; simp)
      · exact hne B' (by rw [h]; simp)
    simp [this]
  · intro d' g' c hc
    rw [lget] at hc
    split at hc
    · rename_i hdd; subst hdd
      simp only [Option.some.injEq, Prod.mk.injEq] at hc
      obtain ⟨rfl, rfl⟩ := hc
      exact ⟨B, by simp, by simp, hB, arr, te, hw, hvs.mono hm⟩
    · exact r.tie.tL.keep (o' := fun B' => if B' = B then .loc d g else o B') hm (fun B' d' g' _ hoo => ⟨rfl, by simp [hne B' (by rw [hoo]; simp)]⟩) d' g' c hc
  · intro d' g' B' h
    simp only at h
    split at h
    · rename_i hx; obtain ⟨rfl, rfl⟩ := hx; exact ⟨g', .cells vs, by simp [lget], Nat.le_refl _⟩
    · obtain ⟨g'', c, h1, h2⟩ := r.tie.tF _ _ _ h
      by_cases hdd : d' = d
      · subst hdd
        have : g = g'' + 1 := by rw [← hg]; simp [nextG, h1]
        exact ⟨g, .cells vs, by simp [lget], by omega⟩
      · exact ⟨g'', c, by simp [lget, hdd, h1], h2⟩
  · obtain ⟨h1, h2⟩ := r.D.2.2 D hD
    refine ⟨h1, ?_⟩
    have : D ≠ B := fun e => by subst e; rw [hw] at h1; cases h1
    simp [this, h2]
  · have := r.R
    revert this
    cases s.rd <;> cases ro <;> simp

/-- At the end the boxed variables are known. -/
theorem bxs_end {ro : Option Nat} {ds : List Nat} {nt : Nat} {a : Act} {w w0 : World} {o0 : Nat → Ow} (hB0 : B0 ≤ w0.heap.size) {V : Operand → Value} : ∀ (bs : List BX) {s s' : St} (_ : bxsA bs s = some s') {t : TS} {m : Mp} {o : Nat → Ow}
    (_ : ∀ b ∈ bs, ∀ b' ∈ bs, b'.v ≠ .tmp b.d) (_ : ∀ b ∈ bs, s.ev b.v = V b.v) (_ : SRel P B0 ro ds nt m o { s with t := t } a w) (_ : Keep o0 w0 o w) (_ : ∀ x, (∀ b ∈ bs, x ≠ b.d) → tget t x = tget s.t x)
    (_ : ∀ b ∈ bs, ∃ B, w0.heap.size ≤ B ∧ o B = .other ∧ a.tmps.getD b.d undef = .pointer (some ⟨B, 0, none⟩) ∧ ∃ arr te, w.heap[B]? = some (.cells arr te (0, 0)) ∧ LsRel m (V b.v).cells.toList arr.toList)
    (_ : bs.Pairwise (fun b b' => a.tmps.getD b.d undef ≠ a.tmps.getD b'.d undef)), ∃ m' o', m.le m' ∧ SRel P B0 ro ds nt m' o' s' a w ∧ Keep o0 w0 o' w
  | [], s, s', h, t, m, o, _, _, r, k, ht, _, _ => by
    cases h
    refine ⟨m, o, Mp.le_refl m, ⟨fun x => ?_, r.sz, r.tie, r.G, r.D, r.R⟩, k⟩
    rw [← ht x (by simp)]; exact r.T x
  | b :: bs, s, s', h, t, m, o, hvd, hV, r, k, ht, hB, hp => by
    simp only [bxsA] at h
    split at h
    rotate_left
    · cases h
    rename_i s1 h1
    unfold bxA at h1
    split at h1
    rotate_left
    · cases h1
    cases h1
    obtain ⟨B, b1, b2, b3, arr, te, b4, b5⟩ := hB b (by simp)
    obtain ⟨m1, hm1, r1⟩ := r.adopt (by omega) b2 b4 b5 b3
    obtain ⟨hp1, hp2⟩ := List.pairwise_cons.1 hp
    have hev : s.ev b.v = V b.v := hV b (by simp)
    rw [hev] at h
    have r1' : SRel P B0 ro ds nt m1 (fun B' => if B' = B then .loc b.d (nextG s.L b.d) else o B') { ({ s with t := (b.d, .pointer (some ⟨b.d, 0, some (nextG s.L b.d)⟩)) :: s.t, L := (b.d, nextG s.L b.d, .cells (V b.v).cells.toList) :: s.L } : St) with t := (b.d, .pointer (some ⟨b.d, 0, some (nextG s.L b.d)⟩)) :: t } a w := r1
    obtain ⟨m2, o2, c1, c2, c3⟩ := bxs_end (V := V) hB0 bs h (fun x hx y hy => hvd x (by simp [hx]) y (by simp [hy])) (fun b' hb' => by
        rw [← hV b' (by simp [hb'])]
        have hne := hvd b (by simp) b' (by simp [hb'])
        cases hbv : b'.v with
        | tmp x =>
          have hx : x ≠ b.d := fun e => hne (by rw [hbv, e])
          simp only [St.ev, tget_cons, if_neg hx]
        | _ => rfl) r1' ⟨k.os, k.tape, k.output, k.size, fun B' hB' hoo => by
        obtain ⟨j1, j2⟩ := k.same B' hB' hoo
        exact ⟨j1, by simp [show B' ≠ B by omega, j2]⟩⟩ (fun x hx => by
        by_cases hxd : x = b.d
        · simp [tget_cons, hxd]
        · simp only [tget_cons, if_neg hxd]
          exact ht x fun b' hb' => by
            rcases List.mem_cons.1 hb' with rfl | hb'
            · exact hxd
            · exact hx b' hb') (fun b' hb' => by
        obtain ⟨B', d1, d2, d3, arr', te', d4, d5⟩ := hB b' (by simp [hb'])
        have hne : B' ≠ B := fun e => hp1 b' hb' (by rw [b3, d3, e])
        exact ⟨B', d1, by simp [hne, d2], d3, arr', te', d4, d5.mono hm1⟩) hp2
    exact ⟨m2, o2, Mp.le_trans hm1 c1, c2, c3⟩

theorem count_set : ∀ (xs : List Bool) (i : Nat) (_ : xs[i]? = some false), (xs.set i true).count false + 1 = xs.count false
  | [], i, h => by simp at h
  | x :: xs, 0, h => by
    simp only [List.getElem?_cons_zero, Option.some.injEq] at h
    subst h
    simp
  | x :: xs, i + 1, h => by
    have := count_set xs i (by simpa using h)
    simp only [List.set_cons_succ, List.count_cons]
    omega

/-- The operations of a region, in whatever order. -/
theorem any_sound {C : CallA} (hC : CSound P B0 C) {nt : Nat} {ops : Array Oper} {l : List (DK × SOp)} {bx : List BX} {ms : List Nat} {σ : Nat → St} (E : DEnv P C nt ops l bx ms σ) {F : Fence} (hF : ∀ f, F.fn f) (hd : F.depth = none) {n : Nat} {Q : Exit → Act → World → Prop}
    {ds : List Nat} {m0 : Mp} {o0 : Nat → Ow} {w0 : World} (hB0 : B0 ≤ w0.heap.size) (hQ : ∀ a w, DInv P B0 F.round ds nt m0 o0 w0 l bx σ (fun j => j < l.length) a w → Q .normal a w) : ∀ (fuel : Nat) (listed : Array Bool) (a : Act) (w : World), listed.size = ops.size → listed.toList.count false ≤ fuel →
    Closed ops.toList (fun j => listed.getD j false = true) → DInv P B0 F.round ds nt m0 o0 w0 l bx σ (fun j => listed.getD j false = true) a w → wpAnyIn F n P .any ops Q fuel listed a w := by
  have hall : ∀ (listed : Array Bool), listed.size = ops.size → Region.ready .any ops listed = [] → ∀ n j, j < n → j < l.length → listed.getD j false = true := by
    intro listed hsz hr n
    induction n with
    | zero => intro j h; omega
    | succ n ih =>
      intro j hj hjl
      cases hx : listed.getD j false with
      | true => rfl
      | false =>
        exfalso
        have hjs : j < ops.size := by rw [← E.len]; exact hjl
        have hmem : j ∈ Region.ready .any ops listed := by
          rw [mem_ready]
          refine ⟨?_, ops[j], by simp [hjs], fun e he hb => ?_⟩
          · rw [Array.getD_eq_getD_getElem?] at hx ⊢
            rw [Array.getElem?_eq_getElem (by omega)] at hx ⊢
            exact hx
          · have := E.hlt j (by simpa using hjs) e (by simpa using he) hb
            exact ih e.on (by omega) (by omega)
        rw [hr] at hmem; cases hmem
  have hdone : ∀ (listed : Array Bool) (a : Act) (w : World), listed.size = ops.size → Region.ready .any ops listed = [] → DInv P B0 F.round ds nt m0 o0 w0 l bx σ (fun j => listed.getD j false = true) a w → Q .normal a w := by
    intro listed a w hsz hr hI
    refine hQ a w ?_
    have : (fun j => listed.getD j false = true) = fun j => j < l.length := by
      funext j
      refine propext ⟨fun h => ?_, fun h => hall listed hsz hr (j + 1) j (by omega) h⟩
      rw [Array.getD_eq_getD_getElem?] at h
      by_cases hj : j < listed.size
      · have := E.len; omega
      · rw [Array.getElem?_eq_none (by omega)] at h; cases h
    rw [← this]; exact hI
  intro fuel
  induction fuel with
  | zero =>
    intro listed a w hsz hcnt hcl hI
    have hr : Region.ready .any ops listed = [] := by
      cases hx : Region.ready .any ops listed with
      | nil => rfl
      | cons i r =>
        exfalso
        have hi : i ∈ Region.ready .any ops listed := by rw [hx]; simp
        obtain ⟨h1, _⟩ := mem_ready.1 hi
        have hlt : i < listed.size := by
          by_cases h : i < listed.size
          · exact h
          · rw [Array.getD_eq_getD_getElem?, Array.getElem?_eq_none (by omega)] at h1; cases h1
        have h2 : listed[i] = false := by
          rw [Array.getD_eq_getD_getElem?, Array.getElem?_eq_getElem hlt] at h1; exact h1
        have h3 : listed.toList.count false = 0 := by omega
        rw [List.count_eq_zero] at h3
        exact h3 (by rw [← h2]; simp)
    exact ⟨hr, hdone listed a w hsz hr hI⟩
  | succ fuel ih =>
    intro listed a w hsz hcnt hcl hI
    refine ⟨fun hr => hdone listed a w hsz hr hI, fun i hi => ?_⟩
    obtain ⟨h1, oper, ho, hedges⟩ := mem_ready.1 hi
    have hlt : i < listed.size := by
      by_cases h : i < listed.size
      · exact h
      · rw [Array.getD_eq_getD_getElem?, Array.getElem?_eq_none (by omega)] at h1; cases h1
    have h2 : listed[i] = false := by
      rw [Array.getD_eq_getD_getElem?, Array.getElem?_eq_getElem hlt] at h1; exact h1
    have hil : i < l.length := by rw [E.len]; omega
    have hio : i < ops.toList.length := by simp; omega
    have hoe : ops.toList[i] = oper := by
      rw [Array.getElem?_eq_getElem (by omega)] at ho
      simpa using Option.some.inj ho
    have hn : ¬ (listed.getD i false = true) := by
      rw [Array.getD_eq_getD_getElem?, Array.getElem?_eq_getElem hlt]; simp [h2]
    have hr : ∀ e ∈ ops.toList[i].after.toList, bindE e = true → listed.getD e.on false = true := fun e he hb => hedges e (by rw [hoe] at he; simpa using he) hb
    have hcmp : ∀ j, j < l.length → j ≠ i → cmpB ms i j = true → (j < i → listed.getD j false = true) ∧ (i < j → ¬ (listed.getD j false = true)) := fun j hj hne hc =>
      cmp_ready E.hms E.hlt hcl hio (by simp; have := E.len; omega) hr hn (Ne.symm hne) hc
    have hset : ∀ j, (listed.setIfInBounds i true).getD j false = true ↔ (listed.getD j false = true ∨ j = i) := fun j => by
      rw [Array.getD_eq_getD_getElem?, Array.getElem?_setIfInBounds, Array.getD_eq_getD_getElem?]
      by_cases hji : i = j
      · subst hji; simp [hlt]
      · rw [if_neg hji]
        constructor
        · exact .inl
        · rintro (h | h)
          · exact h
          · exact absurd h.symm hji
    have hK : ∀ a' w', DInv P B0 F.round ds nt m0 o0 w0 l bx σ (fun j => listed.getD j false = true ∨ j = i) a' w' → wpAnyIn F n P .any ops Q fuel (listed.setIfInBounds i true) a' w' := by
      intro a' w' hI'
      refine ih _ a' w' (by simpa using hsz) ?_ ?_ ?_
      · have := count_set listed.toList i (by simp [hlt, h2])
        rw [Array.toList_setIfInBounds]
        omega
      · intro j hj hR e he hb
        rw [hset] at hR ⊢
        rcases hR with hR | rfl
        · exact .inl (hcl j hj hR e he hb)
        · exact .inl (hr e he hb)
      · have : (fun j => (listed.setIfInBounds i true).getD j false = true) = fun j => listed.getD j false = true ∨ j = i := funext fun j => propext (hset j)
        rw [this]; exact hI'
    cases hk : l[i].1 with
    | chain => exact step_chain hC E hF hd hI hil hn hcmp (by rw [hk]; rfl) hK
    | bar => exact step_chain hC E hF hd hI hil hn hcmp (by rw [hk]; rfl) hK
    | free => exact step_free hC E hF hd hI hil hn hcmp hk hK
    | late =>
      obtain ⟨b, hb, hbi⟩ := E.b6 i hil hk
      -- the setter waits for the maker
      have hwait : ∀ k, b.k = some k → ∃ hk' : k < ops.toList.length, (ms.getD k 0).testBit b.i = true := fun k hbk => by
        obtain ⟨hlt2, ⟨h3, e3⟩, _⟩ := E.b3 b hb k hbk
        obtain ⟨h4, e4, _⟩ := E.b1 b hb
        have := (E.p2 k b.i h3 h4 b.d (by omega) (by rw [e4]) (by rw [e3]; simp [SOp.look, SO.xs])).1
        unfold cmpB at this
        rw [if_neg (by omega)] at this
        exact ⟨by simp; have := E.len; omega, this⟩
      rcases hbi with hbi | hbi
      · subst hbi
        refine step_box E hF hI hB0 hb hn (fun k hbk hRk => ?_) hK
        obtain ⟨hk', hbit⟩ := hwait k hbk
        exact hn (mask_closed E.hms E.hlt hcl (k + 1) k (by omega) hk' (hcl k hk' hRk) b.i hbit)
      · obtain ⟨hk', hbit⟩ := hwait i hbi
        exact step_set E hF hI hB0 hb hbi hn (mask_closed E.hms E.hlt hcl (i + 1) i (by omega) hk' hr b.i hbit) (fun j _ hj => mask_closed E.hms E.hlt hcl (i + 1) i (by omega) hk' hr j hj) hK

/-- A region that draws its order does what the abstract machine says of it. -/
theorem draw_any {C : CallA} (hC : CSound P B0 C) (hG : CGr C) {nt : Nat} {ops : Array Oper} {l : List (DK × SOp)} {bx : List BX} (hc : cDraw P nt ops = some (l, bx)) {s s' : St} (h : (dOps C l s).bind (bxsA bx) = some s') {F : Fence} (hF : ∀ f, F.fn f) (hd : F.depth = none) {n : Nat} {ds : List Nat} {m : Mp} {o : Nat → Ow} {a : Act} {w : World}
    (r : SRel P B0 F.round ds nt m o s a w) {Q : Exit → Act → World → Prop} (hQ : ∀ a' w', (∃ m2 o2, m.le m2 ∧ SRel P B0 F.round ds nt m2 o2 s' a' w' ∧ Keep o w o2 w') → Q .normal a' w') :
    wpAnyIn F n P .any ops Q ops.size (Array.replicate ops.size false) a { w with drawn := w.drawn + 1 } := by
  obtain ⟨σ, hσ0, hσn, E, hvd⟩ := DEnv.of hG hc h
  refine (any_sound hC E hF hd (m0 := m) (o0 := o) (w0 := w) (ds := ds) r.tie.tH.low ?_ ops.size (Array.replicate ops.size false) a { w with drawn := w.drawn + 1 } (by simp) ?_ ?_ ?_)
  · -- the end
    rintro a' w' ⟨q, m1, o1, t, hq, hqR, hS, hKp, hm1, htv, ht0, htl, hB, hdist⟩
    have hsame := states_same E.ds q (l.length - q) (by omega) (fun j h a b => by
      cases hcc : isC l[j].1 with
      | false => rfl
      | true => have := (hqR j h hcc).2 h; omega)
    rw [show q + (l.length - q) = l.length by omega] at hsame
    have hlim := states_lim E.ds l.length (Nat.le_refl _)
    have hS' : SRel P B0 F.round ds nt m1 o1 { (σ l.length) with t := t } a' w' := by
      have e : ({ (σ l.length) with t := t } : St) = ⟨t, (σ q).L, (σ q).H, (σ 0).lim, (σ 0).rd⟩ := by rw [← hsame.1, ← hsame.2, ← hlim.1, ← hlim.2]
      rw [e]; exact hS
    have hview : ∀ x, (∀ b ∈ bx, x ≠ b.d) → tget t x = tget (σ l.length).t x := by
      intro x hx
      by_cases hw : ∃ j, ∃ h : j < l.length, l[j].2.dst = some x
      · obtain ⟨j, hj, hdj⟩ := hw
        have hnl : l[j].1 ≠ .late := fun e => by
          obtain ⟨b, hb, hbi⟩ := E.b6 j hj e
          rcases hbi with hbi | hbi
          · subst hbi
            obtain ⟨_, e1, _⟩ := E.b1 b hb
            rw [e1] at hdj
            exact hx b hb (Option.some.inj hdj).symm
          · obtain ⟨_, ⟨_, e3⟩, _⟩ := E.b3 b hb j hbi
            rw [e3] at hdj; cases hdj
        rw [htv j hj hj hnl x hdj]
        have e2 := states_t E.ds (x := x) (j + 1) (l.length - (j + 1)) (by omega) (fun j' h u v => .inr (E.p1 j j' hj h x (by omega) hdj))
        rw [show j + 1 + (l.length - (j + 1)) = l.length by omega] at e2
        exact e2.symm
      · rw [ht0 x fun j hj _ e => hw ⟨j, hj, e⟩]
        have e2 := states_t E.ds (x := x) 0 l.length (by omega) (fun j' h _ _ => .inr (fun e => hw ⟨j', h, e⟩))
        rw [Nat.zero_add] at e2
        exact e2.symm
    have hpw : bx.Pairwise (fun b b' => b.i < b'.i) := by
      unfold cDraw at hc
      split at hc
      · simp only at hc
        split at hc
        · simp only [Option.some.injEq, Prod.mk.injEq] at hc
          rw [← hc.2]
          refine List.pairwise_filterMap.2 (List.pairwise_lt_range.imp fun {x y} hxy b hb b' hb' => ?_)
          rw [(bxAt_spec hb).1, (bxAt_spec hb').1]
          exact hxy
        · cases hc
      · cases hc
    obtain ⟨m2, o2, c1, c2, c3⟩ := bxs_end (P := P) (V := (σ l.length).ev) r.tie.tH.low bx hσn hvd (fun _ _ => rfl) hS' hKp hview (fun b hb => by
        obtain ⟨B, k1, k2, k3, arr, te, k4, k5, k6⟩ := hB b hb (E.b1 b hb).1
        exact ⟨B, k1, k2, k3, arr, te, k4, k6 fun k hk => (E.b3 b hb k hk).2.1.1⟩) (hpw.imp_of_mem fun {b b'} hb hb' hlt => hdist b hb b' hb' (E.b1 b hb).1 (E.b1 b' hb').1 (by omega))
    exact hQ _ _ ⟨m2, o2, Mp.le_trans hm1 c1, c2, c3⟩
  · simp
  · intro j hj hR
    simp at hR
    rw [Array.getElem?_replicate] at hR
    split at hR <;> simp at hR
  · have hno : ∀ j, ¬ ((Array.replicate ops.size false).getD j false = true) := fun j h => by
      rw [Array.getD_eq_getD_getElem?, Array.getElem?_replicate] at h
      split at h <;> simp at h
    refine ⟨0, m, o, s.t, by omega, fun j h _ => ⟨fun h => by omega, fun h => absurd h (hno j)⟩, ?_, ?_, Mp.le_refl m, fun j h hR => absurd hR (hno j), fun x _ => by rw [hσ0], fun j h hR => absurd hR (hno j), fun b _ hR => absurd hR (hno _), fun b _ b' _ hR => absurd hR (hno _)⟩
    · rw [hσ0]
      have : SRel P B0 F.round ds nt m o s a { w with drawn := w.drawn + 1 } := r.world (Nat.le_refl _) r.tie.tH.base fun _ _ _ => ⟨rfl, rfl⟩
      exact this
    · exact ⟨rfl, rfl, rfl, Nat.le_refl _, fun _ _ h => ⟨rfl, h⟩⟩

theorem draw_sound1 (hm : P.follows .mixedOrders = true) {C : CallA} (hC : CSound P B0 C) (hG : CGr C) : DSound1 P B0 C := by
  intro id nt ops l bx hc s s' h F hF hd n ds m o a w r
  exact wpIn_region_any hm (draw_any hC hG hc h hF hd r fun a' w' ⟨m2, o2, c1, c2, c3⟩ => ⟨trivial, m2, o2, ds, c1, c2, c3, fun _ h => .inr h⟩)

/-! ### Regions whose orders are tried -/

theorem dOp_t {C : CallA} {k : DK} {o : SOp} {s s' : St} (h : dOp C k o s = some s') (x : Tmp) (hx : o.dst ≠ some x) : tget s'.t x = tget s.t x := by
  have fin : ∀ {l : Nat} {s1 : St}, opA C o { s with lim := l } = some s1 → tget s1.t x = tget s.t x := by
    intro l s1 h1
    obtain ⟨v, hv⟩ := opA_shape h1
    rw [hv, tget_put, if_neg hx]
  cases k with
  | late => simp only [dOp, Option.some.injEq] at h; rw [h]
  | bar => exact fin (l := s.lim) h
  | free | chain =>
    simp only [dOp] at h
    split at h
    · split at h
      · rename_i s1 h1; cases h; have e := fin h1; exact e
      · cases h
    · cases h

theorem dOps_t {C : CallA} (x : Tmp) : ∀ {l : List (DK × SOp)} {s s' : St}, dOps C l s = some s' → (∀ o ∈ l, o.2.dst ≠ some x) → tget s'.t x = tget s.t x
  | [], s, s', h, _ => by cases h; rfl
  | (k, o) :: l, s, s', h, hx => by
    simp only [dOps] at h
    split at h
    · rename_i s1 h1
      rw [dOps_t x h fun o ho => hx o (by simp [ho]), dOp_t h1 x (hx (k, o) (by simp))]
    · cases h

theorem draw_sound2 (hm : P.follows .mixedOrders = true) {C : CallA} (hC : CSound P B0 C) (hG : CGr C) : DSound2 P B0 C := by
  intro hard id nt ops ls ts hc s s' h F hF hd n ds m o a w r
  unfold cAlts at hc
  split at hc
  rotate_left
  · cases hc
  rename_i leaves hlv
  split at hc
  rotate_left
  · cases hc
  rename_i ls' hdl
  simp only at hc
  split at hc
  rotate_left
  · cases hc
  rename_i hts
  simp only [Option.some.injEq, Prod.mk.injEq] at hc
  obtain ⟨rfl, rfl⟩ := hc
  have hts' : ∀ l ∈ ls', l ≠ [] ∧ ∀ o ∈ l, o.2.dst.all ((ls'.headD []).filterMap (·.2.dst)).contains = true := fun l hl => by
    have := List.all_eq_true.1 hts l hl
    rw [Bool.and_eq_true] at this
    exact ⟨by rintro rfl; simp at this, List.all_eq_true.1 this.2⟩
  cases hard with
  | true =>
    simp only [if_true, altsA] at h
    obtain ⟨rs, h1, h2⟩ := Option.bind_eq_some_iff.1 h
    refine wpIn_region_draw fun t => ?_
    simp only [Region.schedule, hm, Bool.true_or, if_true]
    have hp := linearise_path ops ops.size t (Array.replicate ops.size false) (by simp)
    refine altsGo_path 5 hlv _ hp _ _ fun lf hlf l' hl' => ?_
    obtain ⟨l, hl, hdr⟩ := drawLs_mem hdl lf hlf
    have hcd : cDraw P nt lf = some (l, []) := by
      unfold drawL at hdr
      split at hdr
      · rename_i h0; cases hdr; exact h0
      · cases hdr
    obtain ⟨r0, hr0, e⟩ := (runAlts_mem h1).1 l hl
    have hrs : ∀ r1 ∈ rs, r1.rd = s.rd ∧ ∀ x, x ∉ (ls'.headD []).filterMap (·.2.dst) → tget r1.t x = tget s.t x := by
      intro r1 hr1
      obtain ⟨l1, hl1, e1⟩ := (runAlts_mem h1).2 r1 hr1
      obtain ⟨_, _, g3⟩ := dOps_Gr hG e1
      refine ⟨g3, fun x hx => dOps_t (s := { s with lim := s.lim }) x e1 fun o ho hd => hx ?_⟩
      have := (hts' l1 hl1).2 o ho
      rw [hd] at this
      simpa using this
    refine any_path l' lf.size _ _ _ (draw_any hC hG hcd (s' := r0) (by simp [bxsA]; exact e) hF hd r fun a' w' ⟨m2, o2, c1, c2, c3⟩ => ?_) hl'
    obtain ⟨m3, o3, d1, d2, d3⟩ := mergeW_rel h2 hrs hr0 c2 c1 c3
    exact ⟨trivial, m3, o3, ds, d1, d2, d3, fun _ h => .inr h⟩
  | false =>
  have h : (runAlts C s s.H.length ls').bind (mergeA s ((ls'.headD []).filterMap (·.2.dst))) = some s' := by
    simp only [Bool.false_eq_true, if_false, altsA] at h
    split at h
    · rename_i r' _
      exact absurd rfl (hts' [] (by simp)).1
    · exact h
  obtain ⟨rs, h1, h2⟩ := Option.bind_eq_some_iff.1 h
  refine wpIn_region_draw fun t => ?_
  simp only [Region.schedule, hm, Bool.true_or, if_true]
  have hp := linearise_path ops ops.size t (Array.replicate ops.size false) (by simp)
  refine altsGo_path 5 hlv _ hp _ _ fun lf hlf l' hl' => ?_
  obtain ⟨l, hl, hdr⟩ := drawLs_mem hdl lf hlf
  have hcd : cDraw P nt lf = some (l, []) := by
    unfold drawL at hdr
    split at hdr
    · rename_i h0; cases hdr; exact h0
    · cases hdr
  obtain ⟨r0, hr0, e⟩ := (runAlts_mem h1).1 l hl
  have rl : SRel P B0 F.round ds nt m o { s with lim := s.H.length } a w := ⟨r.T, r.sz, r.tie, r.G, r.D, r.R⟩
  have hrs : ∀ r1 ∈ rs, Gr s.H.length s.H r1.H ∧ r1.rd = s.rd ∧ ∀ x, x ∉ (ls'.headD []).filterMap (·.2.dst) → tget r1.t x = tget s.t x := by
    intro r1 hr1
    obtain ⟨l1, hl1, e1⟩ := (runAlts_mem h1).2 r1 hr1
    obtain ⟨g1, _, g3⟩ := dOps_Gr hG e1
    refine ⟨g1, g3, fun x hx => dOps_t (s := { s with lim := s.H.length }) x e1 fun o ho hd => hx ?_⟩
    have := (hts' l1 hl1).2 o ho
    rw [hd] at this
    simpa using this
  refine any_path l' lf.size _ _ _ (draw_any hC hG hcd (s' := r0) (by simp [bxsA, e]) hF hd rl fun a' w' ⟨m2, o2, c1, c2, c3⟩ => ?_) hl'
  obtain ⟨m3, o3, d1, d2, d3⟩ := merge_rel h2 hrs r hr0 c2 c1 c3
  exact ⟨trivial, m3, o3, ds, d1, d2, d3, fun _ h => .inr h⟩

theorem draw_sound (hm : P.follows .mixedOrders = true) {C : CallA} (hC : CSound P B0 C) (hG : CGr C) : DSound P B0 C := ⟨draw_sound1 hm hC hG, draw_sound2 hm hC hG⟩

/-- **The abstract machine's calls are the model's.** -/
theorem all_sound (hm : P.follows .mixedOrders = true) (pf : PF) (hO : OrSound P B0 pf) (n : Nat) : CSound P B0 (apA P pf n) := apA_sound pf hO (fun _ hC hG => draw_sound hm hC hG) n
end Go.Proofs.YthobfecblpnnnaaGreatDoor

/- The abstract machine without a bound: its equations. -/
namespace Go.Proofs.YthobfecblpnnnaaGreatDoor
open Go Go.RowKit

/-- What C says, C' says. -/
def CLe (C C' : CallA) : Prop := ∀ fv vs lim H r, C fv vs lim H = some r → C' fv vs lim H = some r
theorem CLe.refl (C : CallA) : CLe C C := fun _ _ _ _ _ h => h

theorem runA_mono {C C' : CallA} (hC : CLe C C') {o : SOp} {s s' : St} (h : runA C o s = some s') : runA C' o s = some s' := by
  unfold runA at h ⊢
  split at h
  · rename_i f args hop
    split at h
    · rename_i vs L H hg
      split at h
      · rename_i v H2 hc
        split at hc
        · rename_i hn
          simp only [hg, hn, if_true, hC _ _ _ _ _ hc]
          exact h
        · cases hc
      · cases h
    · cases h
  · exact h

theorem opA_mono {C C' : CallA} (hC : CLe C C') {o : SOp} {s s' : St} (h : opA C o s = some s') : opA C' o s = some s' := by
  unfold opA at h ⊢
  split at h
  · exact runA_mono hC h
  · split at h
    · split at h
      · rename_i hb; simp only [hb, if_true]; exact runA_mono hC h
      · rename_i hb; simp only [hb, if_false]; exact h
    · exact h
    · cases h

theorem opsA_mono {C C' : CallA} (hC : CLe C C') : ∀ {l : List SOp} {s s' : St}, opsA C l s = some s' → opsA C' l s = some s'
  | [], _, _, h => h
  | o :: l, s, s', h => by
    simp only [opsA] at h ⊢
    split at h
    · rename_i s1 h1
      rw [opA_mono hC h1]
      exact opsA_mono hC h
    · cases h

theorem dOp_mono {C C' : CallA} (hC : CLe C C') {k : DK} {o : SOp} {s s' : St} (h : dOp C k o s = some s') : dOp C' k o s = some s' := by
  cases k with
  | late => exact h
  | bar => exact opA_mono hC h
  | free | chain =>
    simp only [dOp] at h ⊢
    split at h
    · rename_i hn
      rw [if_pos hn]
      split at h
      · rename_i s1 h1; rw [opA_mono hC h1]; exact h
      · cases h
    · cases h

theorem dOps_mono {C C' : CallA} (hC : CLe C C') : ∀ {l : List (DK × SOp)} {s s' : St}, dOps C l s = some s' → dOps C' l s = some s'
  | [], _, _, h => h
  | (k, o) :: l, s, s', h => by
    simp only [dOps] at h ⊢
    split at h
    · rename_i s1 h1
      rw [dOp_mono hC h1]
      exact dOps_mono hC h
    · cases h

theorem runAlts_mono {C C' : CallA} (hC : CLe C C') {s : St} {lim : Nat} : ∀ {ls : List (List (DK × SOp))} {rs : List St}, runAlts C s lim ls = some rs → runAlts C' s lim ls = some rs
  | [], _, h => h
  | l :: ls, rs, h => by
    simp only [runAlts] at h ⊢
    split at h
    · rename_i x y h1 h2
      rw [dOps_mono hC h1, runAlts_mono hC h2]
      exact h
    · cases h

theorem altsA_mono {C C' : CallA} (hC : CLe C C') {ls : List (List (DK × SOp))} {ds : List Tmp} {s s' : St} (h : altsA C ls ds s = some s') : altsA C' ls ds s = some s' := by
  unfold altsA at h ⊢
  split at h <;> (obtain ⟨rs, h1, h2⟩ := Option.bind_eq_some_iff.1 h; exact Option.bind_eq_some_iff.2 ⟨rs, runAlts_mono hC h1, h2⟩)

theorem exA_mono {C C' : CallA} (hC : CLe C C') : ∀ (k k' : Nat) (_ : k ≤ k') {sc : SC} {s : St} {r : Ex × St}, exA C k sc s = some r → exA C' k' sc s = some r
  | 0, _, _, _, _, _, h => by simp [exA] at h
  | k + 1, 0, hk, _, _, _, h => by omega
  | k + 1, k' + 1, hk, sc, s, r, h => by
    have ih : ∀ {sc : SC} {s : St} {r : Ex × St}, exA C k sc s = some r → exA C' k' sc s = some r := exA_mono hC k k' (by omega)
    cases sc with
    | skip => exact h
    | ops l =>
      simp only [exA, Option.map_eq_some_iff] at h ⊢
      obtain ⟨s1, h1, h2⟩ := h
      exact ⟨s1, opsA_mono hC h1, h2⟩
    | draw l bx =>
      simp only [exA, Option.map_eq_some_iff, Option.bind_eq_some_iff] at h ⊢
      obtain ⟨s1, ⟨s2, h1, h2⟩, h3⟩ := h
      exact ⟨s1, ⟨s2, dOps_mono hC h1, h2⟩, h3⟩
    | alts ls ds =>
      simp only [exA, Option.map_eq_some_iff] at h ⊢
      obtain ⟨s1, h1, h2⟩ := h
      exact ⟨s1, altsA_mono hC h1, h2⟩
    | pre ts a =>
      simp only [exA] at h ⊢
      exact ih h
    | seq a b =>
      simp only [exA] at h ⊢
      split at h
      · rename_i s1 h1; rw [ih h1]; exact ih h
      · rename_i hne
        cases hx : exA C k a s with
        | none => rw [hx] at h; cases h
        | some q => rw [hx] at h; cases h; rw [ih hx]; obtain ⟨e, s1⟩ := r; cases e <;> first | rfl | exact absurd hx (hne _)
    | cond c a b =>
      simp only [exA] at h ⊢
      split at h
      · rename_i hb; exact ih h
      · rename_i hb; exact ih h
      · cases h
    | block id a =>
      simp only [exA] at h ⊢
      split at h
      · rename_i i s1 h1; rw [ih h1]; exact h
      · rename_i hne
        cases hx : exA C k a s with
        | none => rw [hx] at h; cases h
        | some q => rw [hx] at h; cases h; rw [ih hx]; obtain ⟨e, s1⟩ := r; cases e <;> first | rfl | exact absurd hx (hne _ _)
    | loop a =>
      simp only [exA] at h ⊢
      split at h
      · rename_i s1 h1; rw [ih h1]; exact ih h
      · rename_i hne
        cases hx : exA C k a s with
        | none => rw [hx] at h; cases h
        | some q => rw [hx] at h; cases h; rw [ih hx]; obtain ⟨e, s1⟩ := r; cases e <;> first | rfl | exact absurd hx (hne _)
    | rng f ps asg body =>
      simp only [exA] at h ⊢
      split at h
      · cases h
      · rename_i hg
        rw [if_neg hg]
        split at h
        · rename_i v H' hc; rw [hC _ _ _ _ _ hc]; exact h
        · cases h
    | exit id => exact h
    | ret => exact h

theorem apA_mono (P : Program) (pf : PF) : ∀ (n n' : Nat) (_ : n ≤ n'), CLe (apA P pf n) (apA P pf n')
  | 0, _, _ => fun fv vs lim H r h => by simp [apA] at h
  | n + 1, 0, h => by omega
  | n + 1, n' + 1, hn => fun fv vs lim H r h => by
    have ih := apA_mono P pf n n' (by omega)
    have ex : ∀ {sc : SC} {s : St} {r : Ex × St}, exA (apA P pf n) n sc s = some r → exA (apA P pf n') n' sc s = some r := exA_mono ih n n' (by omega)
    unfold apA at h ⊢
    split at h
    · cases h
    · rename_i heq
      cases heq
      split at h
      · exact h
      split at h
      · cases h
      · rename_i sf hsf
        simp only [hsf]
        split at h
        · cases h
        · rename_i e s hne hx
          rw [ex hx]
          cases e with
          | exit i => exact absurd rfl (hne i)
          | normal => exact h
          | ret => exact h
        · cases h
    · rename_i heq
      cases heq
      split at h
      · rename_i rr hr
        split at h
        · rename_i hg
          rw [if_pos hg]
          split at h
          · rename_i s1 h1
            rw [ex h1]
            simp only
            split at h
            · rename_i r1 hr1
              split at h
              · rename_i h4
                rw [if_pos h4]
                split at h
                · rename_i e s2 h2
                  rw [ex h2]
                  exact h
                · cases h
              · cases h
            · cases h
          · cases h
        · cases h
      · cases h
    · cases h

open Classical in
/-- Calls, without a bound. -/
noncomputable def apL (P : Program) (pf : PF) : CallA := fun fv vs lim H =>
  if h : ∃ n r, apA P pf n fv vs lim H = some r then some (Classical.choose (Classical.choose_spec h)) else none

theorem apL_iff {P : Program} {pf : PF} {fv : Value} {vs : List Value} {lim : Nat} {H : AH} {r : Value × AH} : apL P pf fv vs lim H = some r ↔ ∃ n, apA P pf n fv vs lim H = some r := by
  unfold apL
  constructor
  · intro h
    split at h
    · rename_i hx
      cases h
      exact ⟨_, Classical.choose_spec (Classical.choose_spec hx)⟩
    · cases h
  · rintro ⟨n, hn⟩
    have hx : ∃ n r, apA P pf n fv vs lim H = some r := ⟨n, r, hn⟩
    rw [dif_pos hx]
    have h1 := Classical.choose_spec (Classical.choose_spec hx)
    have h2 := apA_mono P pf _ (max n (Classical.choose hx)) (Nat.le_max_right _ _) _ _ _ _ _ h1
    have h3 := apA_mono P pf _ (max n (Classical.choose hx)) (Nat.le_max_left _ _) _ _ _ _ _ hn
    rw [h2] at h3
    exact h3

theorem apA_le (P : Program) (pf : PF) (n : Nat) : CLe (apA P pf n) (apL P pf) := fun _ _ _ _ _ h => apL_iff.2 ⟨n, h⟩

/-- **The abstract machine's calls, without a bound, are the model's.** -/
theorem apL_sound {P : Program} {B0 : Nat} (hm : P.follows .mixedOrders = true) (pf : PF) (hO : OrSound P B0 pf) : CSound P B0 (apL P pf) := fun fv vs lim H v H' h => by
  obtain ⟨n, hn⟩ := apL_iff.1 h
  exact all_sound hm pf hO n fv vs lim H v H' hn

section
variable {P : Program} {pf : PF}

theorem runA_fin {o : SOp} {s s' : St} (h : runA (apL P pf) o s = some s') : ∃ n, runA (apA P pf n) o s = some s' := by
  unfold runA at h
  split at h
  · rename_i f args hop
    split at h
    · rename_i vs L H hg
      split at h
      · rename_i v H2 hc
        split at hc
        · rename_i hn
          obtain ⟨n, hc⟩ := apL_iff.1 hc
          refine ⟨n, ?_⟩
          unfold runA
          rw [hop]
          simp only [hg, hn, if_true, hc]
          exact h
        · cases hc
      · cases h
    · cases h
  · rename_i hne
    refine ⟨0, ?_⟩
    unfold runA
    split
    · rename_i hop; exact absurd hop (hne _ _)
    · exact h

theorem opA_fin {o : SOp} {s s' : St} (h : opA (apL P pf) o s = some s') : ∃ n, opA (apA P pf n) o s = some s' := by
  unfold opA at h
  split at h
  · rename_i hg
    obtain ⟨n, hn⟩ := runA_fin h
    exact ⟨n, by unfold opA; rw [hg]; exact hn⟩
  · rename_i t wv hg
    split at h
    · rename_i b hb
      split at h
      · rename_i hbw
        obtain ⟨n, hn⟩ := runA_fin h
        exact ⟨n, by unfold opA; simp only [hg, hb, hbw, if_true]; exact hn⟩
      · rename_i hbw
        exact ⟨0, by unfold opA; simp only [hg, hb, hbw, if_false]; exact h⟩
    · rename_i vs hb
      exact ⟨0, by unfold opA; simp only [hg, hb]; exact h⟩
    · cases h

theorem opsA_fin : ∀ {l : List SOp} {s s' : St}, opsA (apL P pf) l s = some s' → ∃ n, opsA (apA P pf n) l s = some s'
  | [], _, _, h => ⟨0, h⟩
  | o :: l, s, s', h => by
    simp only [opsA] at h
    split at h
    · rename_i s1 h1
      obtain ⟨n1, k1⟩ := opA_fin h1
      obtain ⟨n2, k2⟩ := opsA_fin h
      refine ⟨max n1 n2, ?_⟩
      simp only [opsA]
      rw [opA_mono (apA_mono P pf n1 _ (Nat.le_max_left _ _)) k1]
      exact opsA_mono (apA_mono P pf n2 _ (Nat.le_max_right _ _)) k2
    · cases h

theorem dOp_fin {k : DK} {o : SOp} {s s' : St} (h : dOp (apL P pf) k o s = some s') : ∃ n, dOp (apA P pf n) k o s = some s' := by
  cases k with
  | late => exact ⟨0, h⟩
  | bar => exact opA_fin h
  | free | chain =>
    simp only [dOp] at h ⊢
    split at h
    · rename_i hn
      split at h
      · rename_i s1 h1
        obtain ⟨n, hn1⟩ := opA_fin h1
        exact ⟨n, by rw [if_pos hn, hn1]; exact h⟩
      · cases h
    · cases h

theorem dOps_fin : ∀ {l : List (DK × SOp)} {s s' : St}, dOps (apL P pf) l s = some s' → ∃ n, dOps (apA P pf n) l s = some s'
  | [], _, _, h => ⟨0, h⟩
  | (k, o) :: l, s, s', h => by
    simp only [dOps] at h
    split at h
    · rename_i s1 h1
      obtain ⟨n1, k1⟩ := dOp_fin h1
      obtain ⟨n2, k2⟩ := dOps_fin h
      refine ⟨max n1 n2, ?_⟩
      simp only [dOps]
      rw [dOp_mono (apA_mono P pf n1 _ (Nat.le_max_left _ _)) k1]
      exact dOps_mono (apA_mono P pf n2 _ (Nat.le_max_right _ _)) k2
    · cases h

theorem runAlts_fin {s : St} {lim : Nat} : ∀ {ls : List (List (DK × SOp))} {rs : List St}, runAlts (apL P pf) s lim ls = some rs → ∃ n, runAlts (apA P pf n) s lim ls = some rs
  | [], _, h => ⟨0, h⟩
  | l :: ls, rs, h => by
    simp only [runAlts] at h
    split at h
    · rename_i x y h1 h2
      obtain ⟨n1, k1⟩ := dOps_fin h1
      obtain ⟨n2, k2⟩ := runAlts_fin h2
      refine ⟨max n1 n2, ?_⟩
      simp only [runAlts]
      rw [dOps_mono (apA_mono P pf n1 _ (Nat.le_max_left _ _)) k1, runAlts_mono (apA_mono P pf n2 _ (Nat.le_max_right _ _)) k2]
      exact h
    · cases h

theorem altsA_fin {ls : List (List (DK × SOp))} {ds : List Tmp} {s s' : St} (h : altsA (apL P pf) ls ds s = some s') : ∃ n, altsA (apA P pf n) ls ds s = some s' := by
  unfold altsA at h ⊢
  split at h <;> (obtain ⟨rs, h1, h2⟩ := Option.bind_eq_some_iff.1 h; obtain ⟨n, hn⟩ := runAlts_fin h1; exact ⟨n, Option.bind_eq_some_iff.2 ⟨rs, hn, h2⟩⟩)

theorem exA_fin : ∀ (k : Nat) {sc : SC} {s : St} {r : Ex × St}, exA (apL P pf) k sc s = some r → ∃ n, exA (apA P pf n) k sc s = some r
  | 0, _, _, _, h => by simp [exA] at h
  | k + 1, sc, s, r, h => by
    have ih : ∀ {sc : SC} {s : St} {r : Ex × St}, exA (apL P pf) k sc s = some r → ∃ n, exA (apA P pf n) k sc s = some r := exA_fin k
    have two : ∀ {n1 n2 : Nat} {a b : SC} {s s1 : St} {q r : Ex × St}, exA (apA P pf n1) k a s = some q → exA (apA P pf n2) k b s1 = some r → exA (apA P pf (max n1 n2)) k a s = some q ∧ exA (apA P pf (max n1 n2)) k b s1 = some r := fun h1 h2 =>
      ⟨exA_mono (apA_mono P pf _ _ (Nat.le_max_left _ _)) k k (Nat.le_refl _) h1, exA_mono (apA_mono P pf _ _ (Nat.le_max_right _ _)) k k (Nat.le_refl _) h2⟩
    cases sc with
    | skip => exact ⟨0, h⟩
    | ops l =>
      simp only [exA, Option.map_eq_some_iff] at h ⊢
      obtain ⟨s1, h1, h2⟩ := h
      obtain ⟨n, hn⟩ := opsA_fin h1
      exact ⟨n, s1, hn, h2⟩
    | draw l bx =>
      simp only [exA, Option.map_eq_some_iff, Option.bind_eq_some_iff] at h ⊢
      obtain ⟨s1, ⟨s2, h1, h2⟩, h3⟩ := h
      obtain ⟨n, hn⟩ := dOps_fin h1
      exact ⟨n, s1, ⟨s2, hn, h2⟩, h3⟩
    | alts ls ds =>
      simp only [exA, Option.map_eq_some_iff] at h ⊢
      obtain ⟨s1, h1, h2⟩ := h
      obtain ⟨n, hn⟩ := altsA_fin h1
      exact ⟨n, s1, hn, h2⟩
    | pre ts a =>
      simp only [exA] at h ⊢
      exact ih h
    | seq a b =>
      simp only [exA] at h ⊢
      split at h
      · rename_i s1 h1
        obtain ⟨n1, k1⟩ := ih h1
        obtain ⟨n2, k2⟩ := ih h
        obtain ⟨j1, j2⟩ := two k1 k2
        exact ⟨_, by rw [j1]; exact j2⟩
      · rename_i hne
        obtain ⟨n, hn⟩ := ih h
        refine ⟨n, ?_⟩
        rw [hn]
        obtain ⟨e, s1⟩ := r; cases e <;> first | rfl | exact absurd h (hne _)
    | cond c a b =>
      simp only [exA] at h ⊢
      split at h
      · exact ih h
      · exact ih h
      · cases h
    | block id a =>
      simp only [exA] at h ⊢
      split at h
      · rename_i i s1 h1
        obtain ⟨n, hn⟩ := ih h1
        exact ⟨n, by rw [hn]; exact h⟩
      · rename_i hne
        obtain ⟨n, hn⟩ := ih h
        refine ⟨n, ?_⟩
        rw [hn]
        obtain ⟨e, s1⟩ := r; cases e <;> first | rfl | exact absurd h (hne _ _)
    | loop a =>
      simp only [exA] at h ⊢
      split at h
      · rename_i s1 h1
        obtain ⟨n1, k1⟩ := ih h1
        obtain ⟨n2, k2⟩ := ih h
        obtain ⟨j1, j2⟩ := two k1 k2
        exact ⟨_, by rw [j1]; exact j2⟩
      · rename_i hne
        obtain ⟨n, hn⟩ := ih h
        refine ⟨n, ?_⟩
        rw [hn]
        obtain ⟨e, s1⟩ := r; cases e <;> first | rfl | exact absurd h (hne _)
    | rng f ps asg body =>
      simp only [exA] at h ⊢
      split at h
      · cases h
      · rename_i hg
        split at h
        · rename_i v H' hc
          obtain ⟨n, hn⟩ := apL_iff.1 hc
          exact ⟨n, by rw [if_neg hg, hn]; exact h⟩
        · cases h
    | exit id => exact ⟨0, h⟩
    | ret => exact ⟨0, h⟩

open Classical in
/-- Code, without a bound. -/
noncomputable def exL (P : Program) (pf : PF) (sc : SC) (s : St) : Option (Ex × St) :=
  if h : ∃ k r, exA (apL P pf) k sc s = some r then some (Classical.choose (Classical.choose_spec h)) else none

theorem exL_iff {sc : SC} {s : St} {r : Ex × St} : exL P pf sc s = some r ↔ ∃ k, exA (apL P pf) k sc s = some r := by
  unfold exL
  constructor
  · intro h
    split at h
    · rename_i hx
      cases h
      exact ⟨_, Classical.choose_spec (Classical.choose_spec hx)⟩
    · cases h
  · rintro ⟨n, hn⟩
    have hx : ∃ n r, exA (apL P pf) n sc s = some r := ⟨n, r, hn⟩
    rw [dif_pos hx]
    have h1 := Classical.choose_spec (Classical.choose_spec hx)
    have h2 := exA_mono (CLe.refl _) _ (max n (Classical.choose hx)) (Nat.le_max_right _ _) h1
    have h3 := exA_mono (CLe.refl _) _ (max n (Classical.choose hx)) (Nat.le_max_left _ _) hn
    rw [h2] at h3
    exact h3
end
end Go.Proofs.YthobfecblpnnnaaGreatDoor

/- The equations of the abstract machine without a bound. -/
namespace Go.Proofs.YthobfecblpnnnaaGreatDoor
open Go Go.RowKit

variable {P : Program} {pf : PF} {s : St}

theorem exL_of {k : Nat} {sc : SC} {r : Ex × St} (h : exA (apL P pf) k sc s = some r) : exL P pf sc s = some r := exL_iff.2 ⟨k, h⟩

theorem exA_up {k k' : Nat} (hk : k ≤ k') {sc : SC} {r : Ex × St} (h : exA (apL P pf) k sc s = some r) : exA (apL P pf) k' sc s = some r := exA_mono (CLe.refl _) k k' hk h

theorem exL_skip : exL P pf .skip s = some (.normal, s) := exL_of (k := 1) rfl
theorem exL_exit (id : Nat) : exL P pf (.exit id) s = some (.exit id, s) := exL_of (k := 1) rfl
theorem exL_ret : exL P pf .ret s = some (.ret, s) := exL_of (k := 1) rfl

theorem exL_flat {sc : SC} {x : Option (Ex × St)} (h : ∀ k, exA (apL P pf) (k + 1) sc s = x) : exL P pf sc s = x := by
  refine Option.ext fun r => ?_
  rw [exL_iff]
  constructor
  · rintro ⟨k, hk⟩
    have := exA_up (Nat.le_succ k) hk
    rw [h] at this; exact this
  · intro hx; exact ⟨1, by rw [h 0]; exact hx⟩

theorem exL_ops (l : List SOp) : exL P pf (.ops l) s = (opsA (apL P pf) l s).map fun s => (.normal, s) := exL_flat fun _ => rfl
theorem exL_draw (l : List (DK × SOp)) (bx : List BX) : exL P pf (.draw l bx) s = ((dOps (apL P pf) l s).bind (bxsA bx)).map fun s => (.normal, s) := exL_flat fun _ => rfl
theorem exL_pre (ts : List Tmp) (a : SC) : exL P pf (.pre ts a) s = exL P pf a (preA ts s) := by
  refine Option.ext fun r => ?_
  rw [exL_iff, exL_iff]
  constructor
  · rintro ⟨k, hk⟩
    cases k with
    | zero => simp [exA] at hk
    | succ k => exact ⟨k, hk⟩
  · rintro ⟨k, hk⟩
    exact ⟨k + 1, hk⟩
theorem exL_alts (ls : List (List (DK × SOp))) (ds : List Tmp) : exL P pf (.alts ls ds) s = (altsA (apL P pf) ls ds s).map fun s => (.normal, s) := exL_flat fun _ => rfl

theorem exL_rng (f : Operand) (ps : List Tmp) (asg body : SC) : exL P pf (.rng f ps asg body) s =
    (if rdOk s = false ∨ nl (s.ev f) = false ∨ isFn (s.ev f) = false then none else
    match apL P pf (s.ev f) [.func (.yield s.H.length) #[] #[]] s.lim (s.H ++ [.loop ⟨0, none, s.t, s.L, s.lim, ps, asg, body⟩]) with
    | some (_, H') =>
      (match H'[s.H.length]? with
      | some (.loop r) =>
        if r.st ≠ 0 ∧ r.st ≠ 2 then none else some (r.pend.getD .normal, { s with L := r.L, H := H'.set s.H.length .dead })
      | _ => none)
    | none => none) := exL_flat fun _ => rfl

theorem exL_seq (a b : SC) : exL P pf (.seq a b) s = (match exL P pf a s with | some (.normal, s') => exL P pf b s' | r => r) := by
  refine Option.ext fun r => ?_
  constructor
  · intro h
    obtain ⟨k, hk⟩ := exL_iff.1 h
    cases k with
    | zero => simp [exA] at hk
    | succ k =>
      simp only [exA] at hk
      cases hx : exA (apL P pf) k a s with
      | none => rw [hx] at hk; cases hk
      | some q =>
        rw [exL_of hx]
        rw [hx] at hk
        obtain ⟨e, s1⟩ := q
        cases e with
        | normal => exact exL_of hk
        | exit i => exact hk
        | ret => exact hk
  · intro h
    cases hx : exL P pf a s with
    | none => rw [hx] at h; cases h
    | some q =>
      rw [hx] at h
      obtain ⟨k1, h1⟩ := exL_iff.1 hx
      obtain ⟨e, s1⟩ := q
      cases e with
      | normal =>
        obtain ⟨k2, h2⟩ := exL_iff.1 h
        refine exL_of (k := max k1 k2 + 1) ?_
        simp only [exA]
        rw [exA_up (Nat.le_max_left k1 k2) h1]
        exact exA_up (Nat.le_max_right k1 k2) h2
      | exit i => refine exL_of (k := k1 + 1) ?_; simp only [exA]; rw [h1]; exact h
      | ret => refine exL_of (k := k1 + 1) ?_; simp only [exA]; rw [h1]; exact h

theorem exL_cond (c : Operand) (a b : SC) : exL P pf (.cond c a b) s = (match s.ev c with | .bool true => exL P pf a s | .bool false => exL P pf b s | _ => none) := by
  refine Option.ext fun r => ?_
  constructor
  · intro h
    obtain ⟨k, hk⟩ := exL_iff.1 h
    cases k with
    | zero => simp [exA] at hk
    | succ k =>
      simp only [exA] at hk
      split at hk
      · rename_i hb; simp only [hb]; exact exL_of hk
      · rename_i hb; simp only [hb]; exact exL_of hk
      · cases hk
  · intro h
    split at h
    · rename_i hb
      obtain ⟨k, hk⟩ := exL_iff.1 h
      exact exL_of (k := k + 1) (by simp only [exA, hb]; exact hk)
    · rename_i hb
      obtain ⟨k, hk⟩ := exL_iff.1 h
      exact exL_of (k := k + 1) (by simp only [exA, hb]; exact hk)
    · cases h

theorem exL_block (id : Nat) (a : SC) : exL P pf (.block id a) s = (match exL P pf a s with | some (.exit i, s') => some (if i = id then .normal else .exit i, s') | r => r) := by
  refine Option.ext fun r => ?_
  constructor
  · intro h
    obtain ⟨k, hk⟩ := exL_iff.1 h
    cases k with
    | zero => simp [exA] at hk
    | succ k =>
      simp only [exA] at hk
      cases hx : exA (apL P pf) k a s with
      | none => rw [hx] at hk; cases hk
      | some q => rw [exL_of hx]; rw [hx] at hk; exact hk
  · intro h
    cases hx : exL P pf a s with
    | none => rw [hx] at h; cases h
    | some q =>
      rw [hx] at h
      obtain ⟨k1, h1⟩ := exL_iff.1 hx
      exact exL_of (k := k1 + 1) (by simp only [exA]; rw [h1]; exact h)

theorem exL_loop (a : SC) : exL P pf (.loop a) s = (match exL P pf a s with | some (.normal, s') => exL P pf (.loop a) s' | r => r) := by
  refine Option.ext fun r => ?_
  constructor
  · intro h
    obtain ⟨k, hk⟩ := exL_iff.1 h
    cases k with
    | zero => simp [exA] at hk
    | succ k =>
      simp only [exA] at hk
      cases hx : exA (apL P pf) k a s with
      | none => rw [hx] at hk; cases hk
      | some q =>
        rw [exL_of hx]
        rw [hx] at hk
        obtain ⟨e, s1⟩ := q
        cases e with
        | normal => exact exL_of hk
        | exit i => exact hk
        | ret => exact hk
  · intro h
    cases hx : exL P pf a s with
    | none => rw [hx] at h; cases h
    | some q =>
      rw [hx] at h
      obtain ⟨k1, h1⟩ := exL_iff.1 hx
      obtain ⟨e, s1⟩ := q
      cases e with
      | normal =>
        obtain ⟨k2, h2⟩ := exL_iff.1 h
        refine exL_of (k := max k1 k2 + 1) ?_
        simp only [exA]
        rw [exA_up (Nat.le_max_left k1 k2) h1]
        exact exA_up (Nat.le_max_right k1 k2) h2
      | exit i => refine exL_of (k := k1 + 1) ?_; simp only [exA]; rw [h1]; exact h
      | ret => refine exL_of (k := k1 + 1) ?_; simp only [exA]; rw [h1]; exact h

theorem exA_of_exL {sc : SC} {r : Ex × St} (h : exL P pf sc s = some r) : ∃ n, exA (apA P pf n) n sc s = some r := by
  obtain ⟨k, hk⟩ := exL_iff.1 h
  obtain ⟨n, hn⟩ := exA_fin k hk
  exact ⟨max n k, exA_mono (apA_mono P pf n _ (Nat.le_max_left _ _)) k _ (Nat.le_max_right _ _) hn⟩

theorem exL_of_exA {n : Nat} {sc : SC} {r : Ex × St} (h : exA (apA P pf n) n sc s = some r) : exL P pf sc s = some r := exL_of (exA_mono (apA_le P pf n) n n (Nat.le_refl _) h)

/-- A call of a function. -/
theorem apL_func (f : FuncId) (first cap : Array Value) (args : List Value) (lim : Nat) (H : AH) (hor : orcA pf f first cap args = none) : apL P pf (.func (.func f) first cap) args lim H =
    (match cFun P f with
    | none => none
    | some sf =>
      match exL P pf sf.body ⟨tsOf 0 (first.toList ++ args ++ cap.toList), [], H, if pf f then H.length else lim, none⟩ with
      | some (.exit _, _) => none
      | some (_, s) =>
        (match resA s sf.res with
        | some vs => (match globs s.L s.H vs with
          | some (vs, _, H') => some (packA vs, if pf f && sca (packA vs) then H else H')
          | none => none)
        | none => none)
      | none => none) := by
  refine Option.ext fun r => ?_
  rw [apL_iff]
  constructor
  · rintro ⟨n, hn⟩
    cases n with
    | zero => simp [apA] at hn
    | succ n =>
      simp only [apA, hor] at hn
      cases hc : cFun P f with
      | none => rw [hc] at hn; cases hn
      | some sf =>
        rw [hc] at hn
        simp only at hn ⊢
        cases hx : exA (apA P pf n) n sf.body ⟨tsOf 0 (first.toList ++ args ++ cap.toList), [], H, if pf f then H.length else lim, none⟩ with
        | none => rw [hx] at hn; cases hn
        | some q => rw [exL_of_exA hx]; rw [hx] at hn; exact hn
  · intro h
    cases hc : cFun P f with
    | none => rw [hc] at h; cases h
    | some sf =>
      rw [hc] at h
      simp only at h
      cases hx : exL P pf sf.body ⟨tsOf 0 (first.toList ++ args ++ cap.toList), [], H, if pf f then H.length else lim, none⟩ with
      | none => rw [hx] at h; cases h
      | some q =>
        obtain ⟨n, hn⟩ := exA_of_exL hx
        refine ⟨n + 1, ?_⟩
        simp only [apA, hor, hc, hn]
        rw [hx] at h
        exact h

/-- A call of which was said beforehand what it comes to. -/
theorem apL_orc {f : FuncId} {first cap : Array Value} {args : List Value} {lim : Nat} {H : AH} {v : Value} (hor : orcA pf f first cap args = some v) (ht : tabsOk pf.tabs H = true) : apL P pf (.func (.func f) first cap) args lim H = some (v, H) :=
  apL_iff.2 ⟨1, by simp only [apA, hor, ht, if_true]⟩

/-- A round of a loop over a function. -/
theorem apL_yield {l : Nat} {first cap : Array Value} {args : List Value} {lim : Nat} {H : AH} {r : ARec} (hl : H[l]? = some (.loop r)) (h1 : first.size = 0 ∧ r.st = 0 ∧ lim ≤ r.lim ∧ lim ≤ l ∧ args.length = r.ps.length)
    {s : St} (ha : exL P pf r.asg ⟨(r.ps.zip args).reverse ++ r.t, r.L, H.set l (.loop { r with st := 4, L := [] }), r.lim, some l⟩ = some (.normal, s)) {r1 : ARec} (h2 : s.H[l]? = some (.loop r1)) (h3 : r1.st = 4)
    {e : Ex} {s' : St} (hb : exL P pf r.body { s with H := s.H.set l (.loop { r with st := 1, pend := r1.pend, L := [] }) } = some (e, s')) {r2 : ARec} (h4 : s'.H[l]? = some (.loop r2)) :
    apL P pf (.func (.yield l) first cap) args lim H = some (.bool (decide (e = .normal)), s'.H.set l (.loop { r with st := if e = .normal then 0 else 2, pend := if e = .normal then none else some e, L := s'.L })) := by
  obtain ⟨n1, k1⟩ := exA_of_exL ha
  obtain ⟨n2, k2⟩ := exA_of_exL hb
  have j1 := exA_mono (apA_mono P pf n1 _ (Nat.le_max_left n1 n2)) n1 _ (Nat.le_max_left n1 n2) k1
  have j2 := exA_mono (apA_mono P pf n2 _ (Nat.le_max_right n1 n2)) n2 _ (Nat.le_max_right n1 n2) k2
  refine apL_iff.2 ⟨max n1 n2 + 1, ?_⟩
  simp only [apA, hl]
  rw [if_pos h1, j1]
  simp only [h2, h3, if_true]
  rw [j2]
  simp only [h4]
end Go.Proofs.YthobfecblpnnnaaGreatDoor
