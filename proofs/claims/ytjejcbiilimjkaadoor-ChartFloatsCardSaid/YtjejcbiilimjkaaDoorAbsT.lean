/- Regions whose order is drawn: each operation, whenever it comes. -/
import Derived.Test.YtjejcbiilimjkaaDoorAbsS
namespace Go.Proofs.YtjejcbiilimjkaaDoor
open Go Go.RowKit

variable {P : Program} {B0 : Nat}

section
variable {C : CallA} {nt : Nat} {ops : Array Oper} {l : List (DK × SOp)} {bx : List BX} {ms : List Nat} {σ : Nat → St} {R : Nat → Prop} {rd : Option Nat} {ds : List Nat} {m0 : Mp} {o0 : Nat → Ow} {w0 : World}

theorem dOp_run {k : DK} {o : SOp} {s s' : St} (hs : DStep k o s s') (hk : k ≠ .late) (h : dOp C k o s = some s') : ∃ lm s1, opA C o { s with lim := lm } = some s1 ∧ s'.t = s1.t ∧ s'.L = s1.L ∧ s'.H = s1.H ∧ (k = .bar ∨ noLoc s o.op = true) := by
  cases k with
  | late => exact absurd rfl hk
  | bar => exact ⟨s.lim, s', h, rfl, rfl, rfl, .inl rfl⟩
  | free | chain =>
    simp only [dOp] at h
    split at h
    · rename_i hn
      split at h
      · rename_i s1 h1; cases h; exact ⟨_, s1, h1, rfl, rfl, rfl, .inr hn⟩
      · cases h
    · cases h

/-- An operation of the chain. -/
theorem step_chain (hC : CSound P B0 C) (E : DEnv P C nt ops l bx ms σ) {F : Fence} (hF : ∀ f, F.fn f) (hd : F.depth = none) {n : Nat} {Q : Exit → Act → World → Prop} {K : Act → World → Prop} {a : Act} {w : World}
    (hI : DInv P B0 F.round ds nt m0 o0 w0 l bx σ R a w) {i : Nat} (hi : i < l.length) (hn : ¬ R i) (hcmp : ∀ j, j < l.length → j ≠ i → cmpB ms i j = true → (j < i → R j) ∧ (i < j → ¬ R j)) (hk : isC l[i].1 = true)
    (hK : ∀ a' w', DInv P B0 F.round ds nt m0 o0 w0 l bx σ (fun j => R j ∨ j = i) a' w' → K a' w') : wpOpIn F n P ops Q i K a w := by
  obtain ⟨q, m, o, t, hq, hqR, hS, hKp, hm, htv, ht0, htl, hB, hdist⟩ := hI
  obtain ⟨oper, ho, hso⟩ := E.cop i hi
  have hl : l[i].1 ≠ .late := fun e => by rw [e] at hk; simp [isC] at hk
  have hch : ∀ j (h : j < l.length), j ≠ i → isC l[j].1 = true → (j < i → R j) ∧ (i < j → ¬ R j) := fun j h hne hc => hcmp j h hne (E.p3 i j hi h (Ne.symm hne) hk hc)
  have hqi : q ≤ i := Nat.le_of_not_lt fun h => hn ((hqR i hi hk).1 h)
  have hsame := states_same E.ds q (i - q) (by omega) (fun j h a b => by
    cases hc : isC l[j].1 with
    | false => rfl
    | true =>
      have h1 := (hch j h (by omega) hc).1 (by omega)
      have := (hqR j h hc).2 h1
      omega)
  rw [show q + (i - q) = i by omega] at hsame
  obtain ⟨lm, s1, hrun, hst, hsL, hsH, _⟩ := dOp_run (E.ds i hi) hl (E.st i hi)
  have hlook := view_look E htv ht0 hi hn hcmp hl
  obtain ⟨v, e1, e2⟩ := opA_congr (t' := t) hrun hlook
  have hlim := states_lim E.ds i (by omega)
  have hSi : SRel P B0 F.round ds nt m o ⟨t, (σ i).L, (σ i).H, lm, (σ i).rd⟩ a w := by
    rw [hsame.1, hsame.2, hlim.2]
    exact hS.relim
  have hnext : ∀ m' o' a' w', m.le m' → SRel P B0 F.round ds nt m' o' (({ ({ (σ i) with lim := lm } : St) with t := t, L := s1.L, H := s1.H } : St).put l[i].2.dst v) a' w' → Keep o w o' w' → (∃ v', a' = a.put oper.dst v') → K a' w' := by
    rintro m' o' a' w' b1 b2 b3 ⟨v', rfl⟩
    refine hK _ _ (DInv.next E (q' := i + 1) (v := v) (v' := v') hi hn hl (by omega) ?_ ?_ ?_ ?_ hKp hm b3 b1 htv ht0 htl hB hdist)
    · intro j hj hc
      by_cases hji : j = i
      · subst hji; simp
      · obtain ⟨c1, c2⟩ := hch j hj hji hc
        constructor
        · intro h; exact .inl (c1 (by omega))
        · rintro (h | h)
          · by_cases hlt : j < i
            · omega
            · exact absurd h (c2 (by omega))
          · exact absurd h hji
    · rw [(cSOp_spec hso).2.1]
    · rw [hsL, hsH]
      have e3 : ∀ d, (({ (σ i) with t := t } : St).put d v).t = (({ ({ (σ i) with t := t } : St) with L := s1.L, H := s1.H, lim := lm } : St).put d v).t := by intro d; cases d <;> rfl
      rw [e3]
      have e4 : ∀ d, ((({ ({ (σ i) with t := t } : St) with L := s1.L, H := s1.H, lim := lm } : St).put d v)) = ⟨(({ ({ (σ i) with t := t } : St) with L := s1.L, H := s1.H, lim := lm } : St).put d v).t, s1.L, s1.H, lm, (σ i).rd⟩ := by intro d; cases d <;> rfl
      have b2' := b2
      rw [show (({ ({ (σ i) with lim := lm } : St) with t := t, L := s1.L, H := s1.H } : St).put l[i].2.dst v) = ((({ ({ (σ i) with t := t } : St) with L := s1.L, H := s1.H, lim := lm } : St).put l[i].2.dst v)) from rfl, e4] at b2'
      have b3' := b2'.relim (lim' := (σ 0).lim)
      rw [hlim.2] at b3'
      exact b3'
    · intro x hx
      rw [hst, e1, tget_put, if_pos hx]
  have := opA_sound hC hSi hso e2 hF hd (n := n) (next := K) (Q := Q) hnext
  unfold wpOpIn
  rw [ho]
  exact this

/-- An operation that touches no memory or only reads it. -/
theorem step_free (hC : CSound P B0 C) (E : DEnv P C nt ops l bx ms σ) {F : Fence} (hF : ∀ f, F.fn f) (hd : F.depth = none) {n : Nat} {Q : Exit → Act → World → Prop} {K : Act → World → Prop} {a : Act} {w : World}
    (hI : DInv P B0 F.round ds nt m0 o0 w0 l bx σ R a w) {i : Nat} (hi : i < l.length) (hn : ¬ R i) (hcmp : ∀ j, j < l.length → j ≠ i → cmpB ms i j = true → (j < i → R j) ∧ (i < j → ¬ R j)) (hk : l[i].1 = .free)
    (hK : ∀ a' w', DInv P B0 F.round ds nt m0 o0 w0 l bx σ (fun j => R j ∨ j = i) a' w' → K a' w') : wpOpIn F n P ops Q i K a w := by
  obtain ⟨q, m, o, t, hq, hqR, hS, hKp, hm, htv, ht0, htl, hB, hdist⟩ := hI
  obtain ⟨oper, ho, hso⟩ := E.cop i hi
  have hl : l[i].1 ≠ .late := fun e => by rw [hk] at e; cases e
  obtain ⟨lm, s1, hrun, hst, hsL, hsH, hno⟩ := dOp_run (E.ds i hi) hl (E.st i hi)
  have hno : noLoc (σ i) l[i].2.op = true := by rcases hno with h | h; · rw [hk] at h; cases h
                                                · exact h
  have hlook := view_look E htv ht0 hi hn hcmp hl
  obtain ⟨v, e1, e2⟩ := opA_congr (t' := t) hrun hlook
  have hlim := states_lim E.ds i (by omega)
  have hlimq := states_lim E.ds q hq
  have hf := E.free i hi hk
  have hev : ∀ x ∈ l[i].2.op.xs, ({ (σ i) with t := t } : St).ev x = (σ i).ev x := ev_congr fun x hm => hlook x (late_look rfl hm)
  have hno2 : noLoc { ({ (σ i) with lim := lm } : St) with t := t } l[i].2.op = true := by
    rw [← hno]; exact noLoc_congr _ fun x hx => by have := hev x hx; cases x <;> exact this
  obtain ⟨v2, e3, e4⟩ := opA_free hf hno2 e2
  have hag : Agrees { ({ (σ i) with lim := lm } : St) with t := t } l[i].2.op (σ q).L (σ q).H := by
    intro hread
    have hbar : ∀ j (h : j < l.length), (q ≤ j ∧ j < i) ∨ (i ≤ j ∧ j < q) → l[j].1 ≠ .bar := fun j h hj hb => by
      have hne : j ≠ i := fun e => by subst e; rw [hk] at hb; cases hb
      have hc : isC l[j].1 = true := by rw [hb]; rfl
      obtain ⟨c1, c2⟩ := hcmp j h hne ((cmpB_comm ms (Ne.symm hne)).trans (E.p4 j i h hi hne hb hread))
      have := hqR j h hc
      rcases hj with hj | hj
      · have := this.2 (c1 hj.2); omega
      · exact c2 (by omega) (this.1 hj.2)
    have hLH : (σ q).L = (σ i).L ∧ ∀ b, b < (σ q).H.length ∨ i ≤ q → ∀ x, (σ i).H[b]? = some x → (σ q).H[b]? = some x := by
      by_cases hqi : q ≤ i
      · have := states_add E.ds q (i - q) (by omega) (fun j h a b => hbar j h (.inl ⟨a, by omega⟩))
        rw [show q + (i - q) = i by omega] at this
        refine ⟨this.1.symm, fun b hb x hx => ?_⟩
        rcases hb with hb | hb
        · rw [← this.2.2 b hb hb]; exact hx
        · have : q = i := by omega
          rw [this]; exact hx
      · have := states_add E.ds i (q - i) (by omega) (fun j h a b => hbar j h (.inr ⟨a, by omega⟩))
        rw [show i + (q - i) = q by omega] at this
        refine ⟨this.1, fun b hb x hx => ?_⟩
        have hb2 : b < (σ i).H.length := (List.getElem?_eq_some_iff.1 hx).1
        rw [this.2.2 b hb2 hb2]; exact hx
    have hvr : ∀ y ∈ l[i].2.op.xs, VRel m (({ ({ (σ i) with lim := lm } : St) with t := t } : St).ev y) (a.eval y) := fun y hy => by
      have := ev_rel hS.G hS.T (cOp_ok (P := P) (oper := oper) y (by rw [← (cSOp_spec hso).1]; exact hy))
      cases y <;> exact this
    refine ⟨hLH.1, fun y hy a' hya b x hnd hx => hLH.2 b (.inl ?_) x hx, fun y hy a' nn c hya x hx => hLH.2 _ (.inl ?_) x hx⟩
    · have hv := hvr y hy
      rw [hya] at hv
      generalize a.eval y = ay at hv
      cases hv with
      | ptr _ a2 har =>
        rcases hnd with ⟨h1, h2⟩ | ⟨g, h1, h2⟩
        · have := har.2
          rw [h1] at this
          obtain ⟨ii, hh, _⟩ := this
          rw [h2]
          exact (hS.tie.tH.dom _ _ hh).1
        · have h2' : lget (σ q).L a'.block = some (g, .fwd b) := by rw [hLH.1]; exact h2
          obtain ⟨ii, hh, _⟩ := hS.tie.tL _ _ _ h2'
          exact (hS.tie.tH.dom _ _ hh).1
    · have hv := hvr y hy
      rw [hya] at hv
      generalize a.eval y = ay at hv
      cases hv with
      | sl _ a2 _ _ _ ii hs har hh _ _ _ => exact (hS.tie.tH.dom _ _ hh).1
  have e5 := e4 (σ q).L (σ q).H (σ 0).lim hag
  have hSi : SRel P B0 F.round ds nt m o ⟨t, (σ q).L, (σ q).H, (σ 0).lim, (σ i).rd⟩ a w := by rw [hlim.2]; exact hS
  have hnext : ∀ m' o' a' w', m.le m' → SRel P B0 F.round ds nt m' o' (({ ({ ({ (σ i) with lim := lm } : St) with t := t } : St) with L := (σ q).L, H := (σ q).H, lim := (σ 0).lim } : St).put l[i].2.dst v2) a' w' → Keep o w o' w' → (∃ v', a' = a.put oper.dst v') → K a' w' := by
    rintro m' o' a' w' b1 b2 b3 ⟨v', rfl⟩
    refine hK _ _ (DInv.next E (q' := q) (v := v2) (v' := v') hi hn hl hq ?_ ?_ ?_ ?_ hKp hm b3 b1 htv ht0 htl hB hdist)
    · intro j hj hc
      have hne : j ≠ i := fun e => by subst e; rw [hk] at hc; cases hc
      rw [hqR j hj hc]
      exact ⟨.inl, fun h => h.resolve_right hne⟩
    · rw [(cSOp_spec hso).2.1]
    · have e6 : ∀ d, (({ (σ i) with t := t } : St).put d v2).t = (({ ({ ({ (σ i) with lim := lm } : St) with t := t } : St) with L := (σ q).L, H := (σ q).H, lim := (σ 0).lim } : St).put d v2).t := by intro d; cases d <;> rfl
      rw [e6]
      have e7 : ∀ d, ((({ ({ ({ (σ i) with lim := lm } : St) with t := t } : St) with L := (σ q).L, H := (σ q).H, lim := (σ 0).lim } : St).put d v2)) = ⟨(({ ({ ({ (σ i) with lim := lm } : St) with t := t } : St) with L := (σ q).L, H := (σ q).H, lim := (σ 0).lim } : St).put d v2).t, (σ q).L, (σ q).H, (σ 0).lim, (σ i).rd⟩ := by intro d; cases d <;> rfl
      have b2' := b2
      rw [e7, hlim.2] at b2'
      exact b2'
    · intro x hx
      rw [hst, e1, tget_put, if_pos hx]
      have := congrArg (fun s : St => tget s.t x) e3
      simp only [tget_put, if_pos hx] at this
      exact this
  have := opA_sound hC hSi hso e5 hF hd (n := n) (next := K) (Q := Q) hnext
  unfold wpOpIn
  rw [ho]
  exact this
end
end Go.Proofs.YtjejcbiilimjkaaDoor
