/- Which blocks of the abstract heap a run leaves as they are. -/
import Derived.Test.YtjejcbiilimjkaaDoorAbsB
namespace Go.Proofs.YtjejcbiilimjkaaDoor
open Go

/-- No block has gone; those below 'lim' are as they were. -/
def Gr (lim : Nat) (H H' : AH) : Prop := H.length ≤ H'.length ∧ ∀ b, b < lim → b < H.length → H'[b]? = H[b]?

theorem Gr.refl (lim : Nat) (H : AH) : Gr lim H H := ⟨Nat.le_refl _, fun _ _ _ => rfl⟩
theorem Gr.trans {lim : Nat} {H H' H'' : AH} (h : Gr lim H H') (k : Gr lim H' H'') : Gr lim H H'' :=
  ⟨Nat.le_trans h.1 k.1, fun b h1 h2 => (k.2 b h1 (Nat.lt_of_lt_of_le h2 h.1)).trans (h.2 b h1 h2)⟩
theorem Gr.push (lim : Nat) (H : AH) (x : List ABlk) : Gr lim H (H ++ x) := ⟨by simp, fun b _ h => List.getElem?_append_left h⟩
theorem Gr.set {lim : Nat} (H : AH) {b : Nat} (h : lim ≤ b) (x : ABlk) : Gr lim H (H.set b x) := ⟨by simp, fun b' h1 _ => List.getElem?_set_ne (by omega)⟩
theorem Gr.mono {lim lim' : Nat} {H H' : AH} (h : Gr lim H H') (hl : lim' ≤ lim) : Gr lim' H H' := ⟨h.1, fun b h1 h2 => h.2 b (by omega) h2⟩
theorem Gr.all {lim : Nat} {H H' : AH} (h : Gr H.length H H') : Gr lim H H' := ⟨h.1, fun b _ h2 => h.2 b h2 h2⟩
theorem Gr.prefix {H H' : AH} (h : Gr H.length H H') : H' = H ++ H'.drop H.length := by
  have : H'.take H.length = H := by
    apply List.ext_getElem?
    intro j
    rw [List.getElem?_take]
    split
    · rename_i hj; exact h.2 j hj hj
    · rename_i hj; rw [List.getElem?_eq_none (by omega)]
  have h2 := List.take_append_drop H.length H'
  rw [this] at h2
  exact h2.symm

theorem hstore_Gr {H H' : AH} {lim b off : Nat} {ws : List Value} (h : hstore H lim b off ws = some H') : Gr lim H H' := by
  unfold hstore at h
  split at h
  · split at h
    · rename_i hc; cases h; exact Gr.set H hc.1 _
    · cases h
  · cases h

theorem storeAt_Gr {s : St} {a : Addr} {ws : List Value} {L' : LS} {H' : AH} (h : storeAt s a ws = some (L', H')) : Gr s.lim s.H H' := by
  unfold storeAt at h
  split at h
  · cases h
  · split at h
    · simp only [Option.map_eq_some_iff, Prod.mk.injEq] at h
      obtain ⟨H2, h2, _, rfl⟩ := h
      exact hstore_Gr h2
    · split at h
      · split at h
        · cases h; exact Gr.refl _ _
        · cases h
      · split at h
        · simp only [Option.map_eq_some_iff, Prod.mk.injEq] at h
          obtain ⟨H2, h2, _, rfl⟩ := h
          exact hstore_Gr h2
        · cases h
      · cases h

theorem glob_Gr {L L' : LS} {H H' : AH} {v u : Value} (h : glob L H v = some (u, L', H')) (lim : Nat) : Gr lim H H' := by
  unfold glob at h
  split at h
  · split at h
    · split at h
      · cases h; exact Gr.push _ _ _
      · cases h
    · split at h
      · cases h; exact Gr.refl _ _
      · cases h
    · cases h
  · split at h
    · cases h; exact Gr.refl _ _
    · cases h

theorem globs_Gr : ∀ {vs : List Value} {L L' : LS} {H H' : AH} {us : List Value} (_ : globs L H vs = some (us, L', H')) (lim : Nat), Gr lim H H'
  | [], L, L', H, H', us, h, lim => by cases h; exact Gr.refl _ _
  | v :: r, L, L', H, H', us, h, lim => by
    unfold globs at h
    split at h
    · rename_i h1
      split at h
      · rename_i h2; cases h; exact (glob_Gr h1 lim).trans (globs_Gr h2 lim)
      · cases h
    · cases h

theorem popA_Gr {s : St} {so : SO} {d : Option Tmp} {v : Value} {L' : LS} {H' : AH} (h : popA s so d = some (v, L', H')) : Gr s.lim s.H H' := by
  cases so
  case st n x y =>
    simp only [popA] at h
    split at h
    · split at h
      · simp only [Option.map_eq_some_iff, Prod.mk.injEq] at h
        obtain ⟨⟨L2, H2⟩, h2, _, _, rfl⟩ := h
        exact storeAt_Gr h2
      · cases h
    · cases h
  case copy size x y =>
    simp only [popA] at h
    split at h
    · split at h
      · cases h; exact Gr.refl _ _
      · split at h
        · split at h
          · simp only [Option.map_eq_some_iff, Prod.mk.injEq] at h
            obtain ⟨H2, h2, _, _, rfl⟩ := h
            exact hstore_Gr h2
          · cases h
        · cases h
    · cases h
  case mkf fn a b =>
    simp only [popA] at h
    split at h
    · rename_i h1
      split at h
      · rename_i h2
        split at h
        · cases h; exact (globs_Gr h1 _).trans (globs_Gr h2 _)
        · cases h
      · cases h
    · cases h
  case app size bytes z x y =>
    simp only [popA] at h
    split at h
    · split at h
      · cases h; exact Gr.refl _ _
      · split at h
        · split at h
          · split at h
            · cases h
            · split at h
              · cases h; exact Gr.push _ _ _
              · split at h
                · cases h
                · split at h
                  · split at h
                    · rename_i hc; cases h; exact (Gr.set _ hc.1 _).trans (Gr.push _ _ _)
                    · cases h
                  · cases h
          · cases h
        · cases h
    · cases h
  case mks => simp only [popA] at h; repeat' (first | split at h | (cases h; exact Gr.push _ _ _) | cases h)
  case buildS => simp only [popA] at h; repeat' (first | split at h | (cases h; exact Gr.push _ _ _) | cases h)
  case slc => simp only [popA] at h; repeat' (first | split at h | (cases h; exact Gr.refl _ _) | cases h)
  case bin => simp only [popA, Option.bind_eq_some_iff, Option.some.injEq, Prod.mk.injEq] at h; obtain ⟨_, _, _, _, rfl⟩ := h; exact Gr.refl _ _
  case un => simp only [popA, Option.bind_eq_some_iff, Option.some.injEq, Prod.mk.injEq] at h; obtain ⟨_, _, _, _, rfl⟩ := h; exact Gr.refl _ _
  case build => simp only [popA, Option.bind_eq_some_iff, Option.some.injEq, Prod.mk.injEq] at h; obtain ⟨_, _, _, _, rfl⟩ := h; exact Gr.refl _ _
  case eqs =>
    simp only [popA] at h
    repeat' (first | split at h | (simp only [Option.bind_eq_some_iff, Option.some.injEq, Prod.mk.injEq] at h; obtain ⟨_, _, _, _, rfl⟩ := h; exact Gr.refl _ _) | cases h)
  case max =>
    simp only [popA] at h
    repeat' (first | split at h | (simp only [Option.bind_eq_some_iff, Option.some.injEq, Prod.mk.injEq] at h; obtain ⟨_, _, _, _, rfl⟩ := h; exact Gr.refl _ _) | cases h)
  case min =>
    simp only [popA] at h
    repeat' (first | split at h | (simp only [Option.bind_eq_some_iff, Option.some.injEq, Prod.mk.injEq] at h; obtain ⟨_, _, _, _, rfl⟩ := h; exact Gr.refl _ _) | cases h)
  all_goals (simp only [popA] at h; repeat' (first | (cases h; exact Gr.refl _ _) | split at h | cases h))

theorem put_H (s : St) (d : Option Tmp) (v : Value) : (s.put d v).H = s.H ∧ (s.put d v).lim = s.lim ∧ (s.put d v).rd = s.rd ∧ (s.put d v).L = s.L := by cases d <;> exact ⟨rfl, rfl, rfl, rfl⟩

def CGr (C : CallA) : Prop := ∀ fv vs lim H v H', C fv vs lim H = some (v, H') → Gr lim H H'

theorem runA_Gr {C : CallA} (hC : CGr C) {o : SOp} {s s' : St} (h : runA C o s = some s') : Gr s.lim s.H s'.H ∧ s'.lim = s.lim ∧ s'.rd = s.rd := by
  unfold runA at h
  split at h
  · split at h
    · rename_i vs L1 H1 hg
      split at h
      · rename_i v H2 hc
        cases h
        obtain ⟨k1, k2, k3, k4⟩ := put_H { s with L := L1, H := H2 } o.dst v
        split at hc
        · rw [k1, k2, k3]
          exact ⟨(globs_Gr hg _).trans (hC _ _ _ _ _ _ hc), rfl, rfl⟩
        · cases hc
      · cases h
    · cases h
  · split at h
    · rename_i v L1 H1 hp
      cases h
      obtain ⟨k1, k2, k3, k4⟩ := put_H { s with L := L1, H := H1 } o.dst v
      rw [k1, k2, k3]
      exact ⟨popA_Gr hp, rfl, rfl⟩
    · cases h

theorem opA_Gr {C : CallA} (hC : CGr C) {o : SOp} {s s' : St} (h : opA C o s = some s') : Gr s.lim s.H s'.H ∧ s'.lim = s.lim ∧ s'.rd = s.rd := by
  have skip : s' = s.put o.dst SK → Gr s.lim s.H s'.H ∧ s'.lim = s.lim ∧ s'.rd = s.rd := by
    rintro rfl
    obtain ⟨k1, k2, k3, k4⟩ := put_H s o.dst SK
    rw [k1, k2, k3]; exact ⟨Gr.refl _ _, rfl, rfl⟩
  unfold opA at h
  split at h
  · exact runA_Gr hC h
  · split at h
    · split at h
      · exact runA_Gr hC h
      · cases h; exact skip rfl
    · split at h
      · cases h; exact skip rfl
      · cases h
    · cases h

theorem opsA_Gr {C : CallA} (hC : CGr C) : ∀ {l : List SOp} {s s' : St}, opsA C l s = some s' → Gr s.lim s.H s'.H ∧ s'.lim = s.lim ∧ s'.rd = s.rd
  | [], s, s', h => by cases h; exact ⟨Gr.refl _ _, rfl, rfl⟩
  | o :: l, s, s', h => by
    simp only [opsA] at h
    split at h
    · rename_i s1 h1
      obtain ⟨a1, a2, a3⟩ := opA_Gr hC h1
      obtain ⟨b1, b2, b3⟩ := opsA_Gr hC h
      rw [a2] at b1
      exact ⟨a1.trans b1, b2.trans a2, b3.trans a3⟩
    · cases h

theorem dOp_Gr {C : CallA} (hC : CGr C) {k : DK} {o : SOp} {s s' : St} (h : dOp C k o s = some s') : Gr s.lim s.H s'.H ∧ s'.lim = s.lim ∧ s'.rd = s.rd := by
  have key : (if noLoc s o.op then (match opA C o { s with lim := s.H.length } with | some s' => some { s' with lim := s.lim } | none => none) else none) = some s' → Gr s.lim s.H s'.H ∧ s'.lim = s.lim ∧ s'.rd = s.rd := by
    intro h
    split at h
    · split at h
      · rename_i s1 h1
        cases h
        obtain ⟨a1, a2, a3⟩ := opA_Gr hC h1
        exact ⟨a1.all, rfl, a3⟩
      · cases h
    · cases h
  cases k with
  | late => simp only [dOp, Option.some.injEq] at h; subst h; exact ⟨Gr.refl _ _, rfl, rfl⟩
  | bar => exact opA_Gr hC h
  | free => exact key h
  | chain => exact key h

theorem dOps_Gr {C : CallA} (hC : CGr C) : ∀ {l : List (DK × SOp)} {s s' : St}, dOps C l s = some s' → Gr s.lim s.H s'.H ∧ s'.lim = s.lim ∧ s'.rd = s.rd
  | [], s, s', h => by cases h; exact ⟨Gr.refl _ _, rfl, rfl⟩
  | (k, o) :: l, s, s', h => by
    simp only [dOps] at h
    split at h
    · rename_i s1 h1
      obtain ⟨a1, a2, a3⟩ := dOp_Gr hC h1
      obtain ⟨b1, b2, b3⟩ := dOps_Gr hC h
      rw [a2] at b1
      exact ⟨a1.trans b1, b2.trans a2, b3.trans a3⟩
    · cases h

theorem bxsA_same : ∀ {l : List BX} {s s' : St}, bxsA l s = some s' → s'.H = s.H ∧ s'.lim = s.lim ∧ s'.rd = s.rd
  | [], s, s', h => by cases h; exact ⟨rfl, rfl, rfl⟩
  | b :: l, s, s', h => by
    simp only [bxsA] at h
    split at h
    · rename_i s1 h1
      obtain ⟨b1, b2, b3⟩ := bxsA_same h
      unfold bxA at h1
      split at h1
      · cases h1; exact ⟨b1, b2, b3⟩
      · cases h1
    · cases h

theorem exA_Gr {C : CallA} (hC : CGr C) : ∀ {k : Nat} {sc : SC} {s s' : St} {e : Ex}, exA C k sc s = some (e, s') → Gr s.lim s.H s'.H ∧ s'.lim = s.lim ∧ s'.rd = s.rd
  | 0, _, _, _, _, h => by simp [exA] at h
  | k + 1, sc, s, s', e, h => by
    cases sc with
    | skip => simp only [exA, Option.some.injEq, Prod.mk.injEq] at h; obtain ⟨_, rfl⟩ := h; exact ⟨Gr.refl _ _, rfl, rfl⟩
    | ops l =>
      simp only [exA, Option.map_eq_some_iff, Prod.mk.injEq] at h
      obtain ⟨s1, h1, _, rfl⟩ := h
      exact opsA_Gr hC h1
    | draw l bx =>
      simp only [exA, Option.map_eq_some_iff, Prod.mk.injEq, Option.bind_eq_some_iff] at h
      obtain ⟨s1, ⟨s2, h1, h2⟩, _, rfl⟩ := h
      obtain ⟨a1, a2, a3⟩ := dOps_Gr hC h1
      obtain ⟨b1, b2, b3⟩ := bxsA_same h2
      rw [b1, b2, b3]
      exact ⟨a1, a2, a3⟩
    | seq a b =>
      simp only [exA] at h
      split at h
      · rename_i s1 h1
        obtain ⟨a1, a2, a3⟩ := exA_Gr hC h1
        obtain ⟨b1, b2, b3⟩ := exA_Gr hC h
        rw [a2] at b1
        exact ⟨a1.trans b1, b2.trans a2, b3.trans a3⟩
      · exact exA_Gr hC h
    | cond c a b =>
      simp only [exA] at h
      split at h
      · exact exA_Gr hC h
      · exact exA_Gr hC h
      · cases h
    | block id a =>
      simp only [exA] at h
      split at h
      · rename_i h1
        simp only [Option.some.injEq, Prod.mk.injEq] at h
        obtain ⟨_, rfl⟩ := h
        exact exA_Gr hC h1
      · exact exA_Gr hC h
    | loop a =>
      simp only [exA] at h
      split at h
      · rename_i s1 h1
        obtain ⟨a1, a2, a3⟩ := exA_Gr hC h1
        obtain ⟨b1, b2, b3⟩ := exA_Gr hC h
        rw [a2] at b1
        exact ⟨a1.trans b1, b2.trans a2, b3.trans a3⟩
      · exact exA_Gr hC h
    | rng f ps asg body =>
      simp only [exA] at h
      split at h
      · cases h
      · split at h
        · rename_i v H1 hc
          split at h
          · split at h
            · cases h
            · simp only [Option.some.injEq, Prod.mk.injEq] at h
              obtain ⟨_, rfl⟩ := h
              refine ⟨?_, rfl, rfl⟩
              have := (Gr.push s.lim s.H [.loop ⟨0, none, s.t, s.L, s.lim, ps, asg, body⟩]).trans (hC _ _ _ _ _ _ hc)
              exact ⟨by simpa using this.1, fun b h1 h2 => (List.getElem?_set_ne (by omega)).trans (this.2 b h1 h2)⟩
          · cases h
        · cases h
    | exit id => simp only [exA, Option.some.injEq, Prod.mk.injEq] at h; obtain ⟨_, rfl⟩ := h; exact ⟨Gr.refl _ _, rfl, rfl⟩
    | ret => simp only [exA, Option.some.injEq, Prod.mk.injEq] at h; obtain ⟨_, rfl⟩ := h; exact ⟨Gr.refl _ _, rfl, rfl⟩

theorem apA_Gr (P : Program) (pf : PF) : ∀ n, CGr (apA P pf n)
  | 0 => fun fv vs lim H v H' h => by simp [apA] at h
  | n + 1 => fun fv vs lim H v H' h => by
    have ih := apA_Gr P pf n
    unfold apA at h
    split at h
    · cases h
    · rename_i n' f first cap hn
      cases hn
      split at h
      · split at h
        · cases h; exact Gr.refl _ _
        · cases h
      split at h
      · cases h
      · rename_i sf hsf
        split at h
        · cases h
        · rename_i e s hne hx
          obtain ⟨a1, a2, a3⟩ := exA_Gr ih hx
          split at h
          · split at h
            · rename_i vs' L' H2 hg
              simp only [Option.some.injEq, Prod.mk.injEq] at h
              obtain ⟨_, rfl⟩ := h
              have g := globs_Gr hg
              cases hp : pf f with
              | true =>
                rw [hp] at a1
                simp only [if_true] at a1
                simp only [Bool.true_and]
                split
                · exact Gr.refl _ _
                · exact (a1.trans (g _)).all
              | false =>
                rw [hp] at a1
                simp only [Bool.false_and, Bool.false_eq_true, if_false] at a1 ⊢
                exact a1.trans (g _)
            · cases h
          · cases h
        · cases h
    · rename_i n' l first cap hn
      cases hn
      split at h
      · rename_i r hr
        split at h
        · rename_i hc
          obtain ⟨c0, c1, c2, c3, c4⟩ := hc
          split at h
          · rename_i s hx
            obtain ⟨a1, a2, a3⟩ := exA_Gr ih hx
            split at h
            · split at h
              · split at h
                · rename_i e s' hy
                  obtain ⟨b1, b2, b3⟩ := exA_Gr ih hy
                  split at h
                  · simp only [Option.some.injEq, Prod.mk.injEq] at h
                    obtain ⟨_, rfl⟩ := h
                    simp only at a1 a2 b1
                    rw [a2] at b1
                    exact ((((Gr.set _ c3 _).trans (a1.mono c2)).trans (Gr.set _ c3 _)).trans (b1.mono c2)).trans (Gr.set _ c3 _)
                  · cases h
                · cases h
              · cases h
            · cases h
          · cases h
        · cases h
      · cases h
    · cases h
end Go.Proofs.YtjejcbiilimjkaaDoor
