/- Regions whose order is drawn: what is surely done before what; what an operation's value depends on. -/
import Derived.Test.YtjejcbiilimjkaaDoorAbsN
namespace Go.Proofs.YtjejcbiilimjkaaDoor
open Go

/-! ### Who comes before whom -/

theorem maskOf_sub {acc : List Nat} {R : Nat → Prop} : ∀ (l : List Edge) (m0 : Nat) (_ : ∀ k, m0.testBit k = true → R k) (_ : ∀ e ∈ l, bindE e = true → R e.on) (_ : ∀ e ∈ l, bindE e = true → ∀ k, (acc.getD e.on 0).testBit k = true → R k),
    ∀ k, (l.foldl (fun m e => if bindE e then m ||| (acc.getD e.on 0 ||| 1 <<< e.on) else m) m0).testBit k = true → R k
  | [], m0, h0, _, _, k, h => h0 k h
  | e :: l, m0, h0, h1, h2, k, h => by
    rw [List.foldl_cons] at h
    refine maskOf_sub l _ ?_ (fun e he => h1 e (by simp [he])) (fun e he => h2 e (by simp [he])) k h
    intro k hk
    split at hk
    · rename_i hb
      rw [Nat.testBit_or, Nat.testBit_or, Bool.or_eq_true, Bool.or_eq_true] at hk
      rcases hk with hk | hk | hk
      · exact h0 k hk
      · exact h2 e (by simp) hb k hk
      · rw [Nat.one_shiftLeft, Nat.testBit_two_pow, decide_eq_true_eq] at hk
        subst hk; exact h1 e (by simp) hb
    · exact h0 k hk

theorem maskOf_congr {acc acc' : List Nat} : ∀ (l : List Edge) (m0 : Nat) (_ : ∀ e ∈ l, bindE e = true → acc.getD e.on 0 = acc'.getD e.on 0),
    l.foldl (fun m e => if bindE e then m ||| (acc.getD e.on 0 ||| 1 <<< e.on) else m) m0 = l.foldl (fun m e => if bindE e then m ||| (acc'.getD e.on 0 ||| 1 <<< e.on) else m) m0
  | [], m0, _ => rfl
  | e :: l, m0, h => by
    rw [List.foldl_cons, List.foldl_cons]
    have : (if bindE e then m0 ||| (acc.getD e.on 0 ||| 1 <<< e.on) else m0) = (if bindE e then m0 ||| (acc'.getD e.on 0 ||| 1 <<< e.on) else m0) := by
      split
      · rename_i hb; rw [h e (by simp) hb]
      · rfl
    rw [this]
    exact maskOf_congr l _ (fun e he => h e (by simp [he]))

theorem masksGo_spec : ∀ (ops : List Oper) (acc : List Nat) (_ : ∀ i (h : i < ops.length), ∀ e ∈ ops[i].after.toList, bindE e = true → e.on < acc.length + i),
    (∀ j, j < acc.length → (masksGo ops acc).getD j 0 = acc.getD j 0) ∧ ∀ i (h : i < ops.length), (masksGo ops acc).getD (acc.length + i) 0 = maskOf (masksGo ops acc) ops[i].after.toList
  | [], acc, _ => ⟨fun _ _ => rfl, fun i h => absurd h (by simp)⟩
  | o :: r, acc, h => by
    have hr : ∀ i (h : i < r.length), ∀ e ∈ r[i].after.toList, bindE e = true → e.on < (acc ++ [maskOf acc o.after.toList]).length + i := fun i hi e he hb => by
      have := h (i + 1) (by simpa using hi) e (by simpa using he) hb
      simp; omega
    obtain ⟨k1, k2⟩ := masksGo_spec r (acc ++ [maskOf acc o.after.toList]) hr
    rw [masksGo]
    have hk : ∀ j, j < acc.length → (masksGo r (acc ++ [maskOf acc o.after.toList])).getD j 0 = acc.getD j 0 := fun j hj => by
      rw [k1 j (by simp; omega), List.getD_eq_getElem?_getD, List.getElem?_append_left hj, ← List.getD_eq_getElem?_getD]
    refine ⟨hk, fun i hi => ?_⟩
    cases i with
    | zero =>
      have := k1 acc.length (by simp)
      rw [Nat.add_zero, this]
      rw [List.getD_eq_getElem?_getD, List.getElem?_append_right (Nat.le_refl _)]
      simp only [Nat.sub_self, List.getElem?_cons_zero, Option.getD_some, List.getElem_cons_zero]
      exact maskOf_congr _ _ fun e he hb => (hk e.on (by have := h 0 (by simp) e (by simpa using he) hb; omega)).symm
    | succ i =>
      have := k2 i (by simpa using hi)
      simp only [List.length_append, List.length_cons, List.length_nil, List.getElem_cons_succ] at this ⊢
      rw [← this]
      congr 1
      omega

/-- What is done, with an operation, all that it waits for is done. -/
def Closed (ops : List Oper) (R : Nat → Prop) : Prop := ∀ i (h : i < ops.length), R i → ∀ e ∈ ops[i].after.toList, bindE e = true → R e.on

theorem mask_closed {ops : List Oper} {ms : List Nat} (hms : ∀ i (h : i < ops.length), ms.getD i 0 = maskOf ms ops[i].after.toList) (hlt : ∀ i (h : i < ops.length), ∀ e ∈ ops[i].after.toList, bindE e = true → e.on < i) {R : Nat → Prop} (hR : Closed ops R) :
    ∀ (n i : Nat) (_ : i < n) (h : i < ops.length) (_ : ∀ e ∈ ops[i].after.toList, bindE e = true → R e.on) (k : Nat) (_ : (ms.getD i 0).testBit k = true), R k
  | 0, i, hn, _, _, _, _ => by omega
  | n + 1, i, hn, h, he, k, hk => by
    rw [hms i h] at hk
    refine maskOf_sub ops[i].after.toList 0 (fun k hk => by simp at hk) he (fun e hel hb k hk => ?_) k hk
    have hl := hlt i h e hel hb
    exact mask_closed hms hlt hR n e.on (by omega) (by omega) (hR e.on (by omega) (he e hel hb)) k hk

/-- An operation that is ready, and another one that is surely before or behind it. -/
theorem cmp_ready {ops : List Oper} {ms : List Nat} (hms : ∀ i (h : i < ops.length), ms.getD i 0 = maskOf ms ops[i].after.toList) (hlt : ∀ i (h : i < ops.length), ∀ e ∈ ops[i].after.toList, bindE e = true → e.on < i) {R : Nat → Prop} (hR : Closed ops R)
    {i j : Nat} (hi : i < ops.length) (hj : j < ops.length) (hr : ∀ e ∈ ops[i].after.toList, bindE e = true → R e.on) (hn : ¬ R i) (hne : i ≠ j) (hc : cmpB ms i j = true) : (j < i → R j) ∧ (i < j → ¬ R j) := by
  unfold cmpB at hc
  constructor
  · intro h
    rw [if_neg (by omega)] at hc
    exact mask_closed hms hlt hR (i + 1) i (by omega) hi hr j hc
  · intro h hRj
    rw [if_pos h] at hc
    exact hn (mask_closed hms hlt hR (j + 1) j (by omega) hj (hR j hj hRj) i hc)

theorem cmpB_comm (ms : List Nat) {i j : Nat} (h : i ≠ j) : cmpB ms i j = cmpB ms j i := by
  unfold cmpB
  by_cases hij : i < j
  · rw [if_pos hij, if_neg (by omega)]
  · rw [if_neg hij, if_pos (by omega)]

/-! ### What an operation's value depends on -/

theorem ev_congr {s : St} {t' : TS} {l : List Operand} (h : ∀ x, .tmp x ∈ l → tget t' x = tget s.t x) : ∀ x ∈ l, ({ s with t := t' } : St).ev x = s.ev x := by
  intro x hx
  cases x with
  | tmp x => exact h x hx
  | _ => rfl

theorem map_ev_congr {s : St} {t' : TS} (l : List Operand) (h : ∀ x ∈ l, ({ s with t := t' } : St).ev x = s.ev x) : l.map ({ s with t := t' } : St).ev = l.map s.ev := List.map_congr_left h

theorem parts_ev_congr {s : St} {t' : TS} (l : List (Nat × Nat × Operand)) (h : ∀ x ∈ l.map (·.2.2), ({ s with t := t' } : St).ev x = s.ev x) :
    (l.map fun (o, k, x) => (o, k, ({ s with t := t' } : St).ev x)) = l.map fun (o, k, x) => (o, k, s.ev x) :=
  List.map_congr_left fun p hp => by
    obtain ⟨o, k, x⟩ := p
    simp only
    rw [h x (List.mem_map.2 ⟨_, hp, rfl⟩)]

theorem opt_ev_congr {s : St} {t' : TS} (x : Option Operand) (h : ∀ y ∈ oL x, ({ s with t := t' } : St).ev y = s.ev y) : x.map ({ s with t := t' } : St).ev = x.map s.ev := by
  cases x with
  | none => rfl
  | some x => simp [h x (by simp [oL])]

theorem popA_congr {s : St} {t' : TS} (op : SO) (d : Option Tmp) (h : ∀ x ∈ op.xs, ({ s with t := t' } : St).ev x = s.ev x) : popA { s with t := t' } op d = popA s op d := by
  cases op with
  | mv x => simp only [popA, h x (by simp [SO.xs])]
  | pick c x y => simp only [popA, h c (by simp [SO.xs]), h x (by simp [SO.xs]), h y (by simp [SO.xs])]
  | box x => simp only [popA, h x (by simp [SO.xs])]
  | ptr x off => simp only [popA, h x (by simp [SO.xs])]
  | elem sz x ix => simp only [popA, h x (by simp [SO.xs]), h ix (by simp [SO.xs])]
  | elemA n sz x ix => simp only [popA, h x (by simp [SO.xs]), h ix (by simp [SO.xs])]
  | ld x => simp only [popA, h x (by simp [SO.xs])]
  | ldn n x => simp only [popA, h x (by simp [SO.xs])]
  | st n x v => simp only [popA, h x (by simp [SO.xs]), h v (by simp [SO.xs])]; rfl
  | nilc x => simp only [popA, h x (by simp [SO.xs])]
  | bin o x y => simp only [popA, h x (by simp [SO.xs]), h y (by simp [SO.xs])]
  | eqb n x y => simp only [popA, h x (by simp [SO.xs]), h y (by simp [SO.xs])]
  | eqs n k x y => simp only [popA, h x (by simp [SO.xs]), h y (by simp [SO.xs])]
  | un o x => simp only [popA, h x (by simp [SO.xs])]
  | conv k x => simp only [popA, h x (by simp [SO.xs])]
  | mkf fn x y => simp only [popA, map_ev_congr x (fun z hz => h z (by simp [SO.xs, hz])), map_ev_congr y (fun z hz => h z (by simp [SO.xs, hz]))]
  | mks sz b z l c => simp only [popA, h l (by simp [SO.xs]), h c (by simp [SO.xs])]
  | slc sz x lo hi mx =>
    have h1 := opt_ev_congr lo (fun z hz => h z (by simp [SO.xs, hz]))
    have h2 := opt_ev_congr hi (fun z hz => h z (by simp [SO.xs, hz]))
    have h4 := fun z hz => h z (show z ∈ (SO.slc sz x lo hi mx).xs by simp [SO.xs]; exact .inr (.inr (.inl hz)))
    have h5 := fun z hz => h z (show z ∈ (SO.slc sz x lo hi mx).xs by simp [SO.xs]; exact .inr (.inr (.inr hz)))
    simp only [popA, h x (by simp [SO.xs]), h1, h2]
    generalize s.ev x = sx
    generalize bndA (lo.map s.ev) 0 = b0
    cases hi <;> cases mx <;> simp only [oL, List.mem_singleton, forall_eq] at h4 h5 <;> cases sx <;> cases b0 <;> simp [*]
  | fld o sz ag x => simp only [popA, h x (by simp [SO.xs])]
  | ext x i => simp only [popA, h x (by simp [SO.xs])]
  | build z ps => simp only [popA, parts_ev_congr ps h]
  | buildS n z ps => simp only [popA, parts_ev_congr ps h]
  | call f args => rfl
  | len x => simp only [popA, h x (by simp [SO.xs])]
  | app sz b z x y => simp only [popA, h x (by simp [SO.xs]), h y (by simp [SO.xs])]
  | max xs => simp only [popA, map_ev_congr xs h]
  | min xs => simp only [popA, map_ev_congr xs h]
  | copy sz x y => simp only [popA, h x (by simp [SO.xs]), h y (by simp [SO.xs])]
  | bad => rfl

/-- The same over other temporaries that agree where it looks. -/
def Same (o : SOp) (s s' : St) (r : Option St) (t' : TS) : Prop := ∃ v, s' = ({ s with L := s'.L, H := s'.H } : St).put o.dst v ∧ r = some (({ s with t := t', L := s'.L, H := s'.H } : St).put o.dst v)

theorem put_eq {s s' : St} {L : LS} {H : AH} {d : Option Tmp} {v : Value} (h : ({ s with L := L, H := H } : St).put d v = s') : s'.L = L ∧ s'.H = H := by
  subst h; cases d <;> exact ⟨rfl, rfl⟩

theorem runA_congr {C : CallA} {o : SOp} {s s' : St} {t' : TS} (h : runA C o s = some s') (hx : ∀ x ∈ o.op.xs, ({ s with t := t' } : St).ev x = s.ev x) : Same o s s' (runA C o { s with t := t' }) t' := by
  unfold runA at h ⊢
  split at h
  · rename_i f args hop
    rw [hop] at hx
    rw [map_ev_congr args (fun z hz => hx z (by simp [SO.xs, hz])), hx f (by simp [SO.xs])]
    split at h
    · rename_i vs L1 H1 hg
      split at h
      · rename_i v H2 hc
        cases h
        obtain ⟨k1, k2⟩ := put_eq (s := s) (L := L1) (H := H2) (d := o.dst) (v := v) rfl
        exact ⟨v, by rw [k1, k2], by rw [k1, k2]; simp only [hg, hc]⟩
      · cases h
    · cases h
  · rename_i op hnc
    rw [popA_congr _ o.dst hx]
    split at h
    · rename_i v L1 H1 hp
      cases h
      obtain ⟨k1, k2⟩ := put_eq (s := s) (L := L1) (H := H1) (d := o.dst) (v := v) rfl
      exact ⟨v, by rw [k1, k2], by rw [k1, k2]⟩
    · cases h

theorem opA_congr {C : CallA} {o : SOp} {s s' : St} {t' : TS} (h : opA C o s = some s') (hx : ∀ x ∈ o.look, tget t' x = tget s.t x) : Same o s s' (opA C o { s with t := t' }) t' := by
  have hop : ∀ x ∈ o.op.xs, ({ s with t := t' } : St).ev x = s.ev x := ev_congr fun x hm => hx x (by
    unfold SOp.look
    exact List.mem_append_left _ (List.mem_filterMap.2 ⟨_, hm, rfl⟩))
  have skip : some (s.put o.dst SK) = some s' → Same o s s' (some (({ s with t := t' } : St).put o.dst SK)) t' := fun h => by
    cases h
    refine ⟨SK, ?_, ?_⟩ <;> cases o.dst <;> rfl
  unfold opA at h ⊢
  cases hg : o.guard with
  | none => rw [hg] at h; exact runA_congr h hop
  | some p =>
    obtain ⟨x, wv⟩ := p
    rw [hg] at h
    simp only at h ⊢
    rw [hx x (by simp [SOp.look, hg])]
    split at h
    · rename_i b hb
      split at h
      · rename_i hbw; rw [if_pos hbw]; exact runA_congr h hop
      · rename_i hbw; rw [if_neg hbw]; exact skip h
    · rename_i vs hb
      split at h
      · rename_i hbw; rw [if_pos hbw]; exact skip h
      · cases h
    · cases h
end Go.Proofs.YtjejcbiilimjkaaDoor
