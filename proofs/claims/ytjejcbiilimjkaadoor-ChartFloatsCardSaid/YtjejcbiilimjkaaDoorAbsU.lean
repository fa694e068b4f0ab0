/- Regions whose order is drawn: boxed variables that are made within them; the region. -/
import Derived.Test.YtjejcbiilimjkaaDoorAbsT
namespace Go.Proofs.YtjejcbiilimjkaaDoor
open Go Go.RowKit

variable {P : Program} {B0 : Nat}

section
variable {C : CallA} {nt : Nat} {ops : Array Oper} {l : List (DK × SOp)} {bx : List BX} {ms : List Nat} {σ : Nat → St} {R : Nat → Prop} {rd : Option Nat} {ds : List Nat} {m0 : Mp} {o0 : Nat → Ow} {w0 : World}

/-- The world changes where nobody known here owns anything. -/
theorem SRel.world {ro : Option Nat} {m : Mp} {o o' : Nat → Ow} {s : St} {a : Act} {w w' : World} (r : SRel P B0 ro ds nt m o s a w) (hs : w.heap.size ≤ w'.heap.size) (hb : ∀ B, B < B0 → o' B = .other)
    (hk : ∀ B, B < w.heap.size → (B < B0 ∨ o B ≠ .other ∨ ∃ x, w.heap[B]? = some (.deferred x)) → w'.heap[B]? = w.heap[B]? ∧ o' B = o B) : SRel P B0 ro ds nt m o' s a w' := by
  refine ⟨r.T, r.sz, ⟨r.tie.tH.keep rfl (fun _ _ _ h => h) hs hb fun B hB ho => hk B hB ?_, r.tie.tL.keep (Mp.le_refl m) fun B d g hB ho => hk B hB (.inr (.inl (by rw [ho]; simp))), r.tie.tF⟩, r.G, ⟨r.D.1, r.D.2.1, fun D hD => ?_⟩, r.R⟩
  · rcases ho with h | ⟨b, h⟩ | ⟨b, d, g, h⟩
    · exact .inl h
    · exact .inr (.inl (by rw [h]; simp))
    · exact .inr (.inl (by rw [h]; simp))
  · obtain ⟨h1, h2⟩ := r.D.2.2 D hD
    obtain ⟨h3, h4⟩ := hk D (lt_of_heap h1) (.inr (.inr ⟨_, h1⟩))
    exact ⟨h3.trans h1, h4.trans h2⟩

/-- A boxed variable is made. -/
theorem step_box (E : DEnv P C nt ops l bx ms σ) {F : Fence} (hF : ∀ f, F.fn f) {n : Nat} {Q : Exit → Act → World → Prop} {K : Act → World → Prop} {a : Act} {w : World}
    (hI : DInv P B0 F.round ds nt m0 o0 w0 l bx σ R a w) (hB0 : B0 ≤ w0.heap.size) {b : BX} (hb : b ∈ bx) (hn : ¬ R b.i) (hst : ∀ k, b.k = some k → ¬ R k)
    (hK : ∀ a' w', DInv P B0 F.round ds nt m0 o0 w0 l bx σ (fun j => R j ∨ j = b.i) a' w' → K a' w') : wpOpIn F n P ops Q b.i K a w := by
  obtain ⟨q, m, o, t, hq, hqR, hS, hKp, hm, htv, ht0, htl, hB, hdist⟩ := hI
  obtain ⟨hi, e1, hz, hzn⟩ := E.b1 b hb
  obtain ⟨oper, ho, hso⟩ := E.cop b.i hi
  rw [e1] at hso
  obtain ⟨c1, c2, c3, c4⟩ := cSOp_spec hso
  obtain ⟨e, hop⟩ := cOp_box c1.symm
  have hg := c4 rfl
  have hdst : oper.dst = some b.d := c2.symm
  -- the run
  have hrun : (execOp a.eval oper).run P w = .ok (.value (.pointer (some ⟨w.heap.size, 0, none⟩))) (w.alloc (.cells b.z.cells e)) := by
    rcases hop with hop | ⟨hop, z, hzz, hzo⟩
    · simp [execOp, hop, Instr.box, newVar, newRow, Act.eval]
    · cases hzz
      have hi : ∃ i, P.info? e = some i ∧ i.zero = some b.z := by
        simp only [zeroOf, Option.bind_eq_some_iff] at hzo; exact hzo
      obtain ⟨i, hi, hiz⟩ := hi
      simp [execOp, hop, Instr.alloc, zeroValue, typeInfo, hi, hiz, newVar, newRow]
  have hsem : (oper.semAt F.round a.eval).run P w = .ok (.value (.pointer (some ⟨w.heap.size, 0, none⟩))) (w.alloc (.cells b.z.cells e)) := by
    rw [Oper.semAt_plain F _ _ (fun c hc' => by rcases hop with hop | ⟨hop, _⟩ <;> rw [hop] at hc' <;> cases hc')]
    exact hrun
  have hnew : DInv P B0 F.round ds nt m0 o0 w0 l bx σ (fun j => R j ∨ j = b.i) (a.put oper.dst (.pointer (some ⟨w.heap.size, 0, none⟩))) (w.alloc (.cells b.z.cells e)) := by
    have hlow := hS.tie.tH.low
    have hws := hKp.size
    have hold : ∀ B, B < w.heap.size → (w.alloc (.cells b.z.cells e)).heap[B]? = w.heap[B]? := fun B hB => Below.heap_alloc _ _ _ hB
    have hS2 : SRel P B0 F.round ds nt m (fun B => if B = w.heap.size then .other else o B) ⟨t, (σ q).L, (σ q).H, (σ 0).lim, (σ 0).rd⟩ a (w.alloc (.cells b.z.cells e)) :=
      hS.world (by simp) (fun B hB => by simp [show B ≠ w.heap.size by omega, hS.tie.tH.base B hB]) fun B hB _ => ⟨hold B hB, by simp [show B ≠ w.heap.size by omega]⟩
    have hT := hS2.T.put (Mp.le_refl m) hS2.sz (d := oper.dst) c3 (v := .tuple #[]) (v' := .pointer (some ⟨w.heap.size, 0, none⟩)) (.any _)
    have hdt : ∀ j (h : j < l.length), j ≠ b.i → l[j].2.dst ≠ some b.d := fun j h hne => E.p1 b.i j hi h b.d (Ne.symm hne) (by rw [e1])
    have huniq : ∀ b' ∈ bx, b'.i ≠ b.i → b'.d ≠ b.d := fun b' hb' hne hd => by
      obtain ⟨h', e', _⟩ := E.b1 b' hb'
      exact hdt b'.i h' hne (by rw [e', hd])
    have hsz : b.d < a.tmps.size := by
      have := c3
      rw [hdst] at this
      simp only [Option.all_some, decide_eq_true_eq] at this
      exact Nat.lt_of_lt_of_le this hS.sz
    have hptr : (a.put oper.dst (.pointer (some ⟨w.heap.size, 0, none⟩))).tmps.getD b.d undef = .pointer (some ⟨w.heap.size, 0, none⟩) := by
      rw [hdst]; simp [Act.put, Array.getD_eq_getD_getElem?, hsz]
    have hkeepp : ∀ b' ∈ bx, b'.i ≠ b.i → (a.put oper.dst (.pointer (some ⟨w.heap.size, 0, none⟩))).tmps.getD b'.d undef = a.tmps.getD b'.d undef := fun b' hb' hne =>
      getD_put (by rw [hdst]; exact fun e => huniq b' hb' hne (Option.some.inj e).symm)
    have hlt : ∀ b' ∈ bx, R b'.i → ∃ B, B < w.heap.size ∧ a.tmps.getD b'.d undef = .pointer (some ⟨B, 0, none⟩) := fun b' hb' hR => by
      obtain ⟨B, _, _, k3, arr, te, k4, _⟩ := hB b' hb' hR
      exact ⟨B, lt_of_heap k4, k3⟩
    refine ⟨q, m, fun B => if B = w.heap.size then .other else o B, (b.d, .tuple #[]) :: t, hq, ?_, ?_, ?_, hm, ?_, ?_, ?_, ?_, ?_⟩
    · intro j hj hc
      have hne : j ≠ b.i := fun e => by subst e; rw [e1] at hc; simp [isC] at hc
      rw [hqR j hj hc]
      exact ⟨.inl, fun h => h.resolve_right hne⟩
    · refine ⟨?_, by rw [put_size]; exact hS2.sz, hS2.tie, hS2.G, by rw [put_defers]; exact hS2.D, hS2.R⟩
      rw [hdst] at hT ⊢
      exact hT
    · exact ⟨hKp.os, hKp.tape, hKp.output, by simp; omega, fun B hB ho => by
        obtain ⟨k1, k2⟩ := hKp.same B hB ho
        exact ⟨(hold B (by omega)).trans k1, by simp [show B ≠ w.heap.size by omega, k2]⟩⟩
    · intro j hj hR hjl x hx
      have hne : j ≠ b.i := fun e => by subst e; exact hjl (by rw [e1])
      have hxd : x ≠ b.d := fun e => hdt j hj hne (by rw [hx, e])
      rw [tget, if_neg hxd]
      exact htv j hj (hR.resolve_right hne) hjl x hx
    · intro x hx
      have hxd : x ≠ b.d := fun e => hx b.i hi (.inr rfl) (by rw [e1, e])
      rw [tget, if_neg hxd]
      exact ht0 x fun j hj hR => hx j hj (.inl hR)
    · intro j hj hR hjl x hx
      rw [tget]
      split
      · rfl
      · rename_i hxd
        rcases hR with hR | rfl
        · exact htl j hj hR hjl x hx
        · rw [e1] at hx; cases hx; exact absurd rfl hxd
    · intro b' hb' hR
      by_cases hbi : b'.i = b.i
      · obtain ⟨h', e', hz', hzn'⟩ := E.b1 b' hb'
        have ed : b'.d = b.d ∧ b'.z = b.z := by
          have : l[b'.i] = l[b.i] := by congr 1
          rw [e', e1] at this
          cases b; cases b'; simp at this ⊢; exact this
        refine ⟨w.heap.size, hws, by simp, by rw [ed.1]; exact hptr, b.z.cells, e, World.alloc_heap_new w _, by rw [← ed.2]; exact hzn', fun hk => ?_⟩
        cases hkk : b'.k with
        | none =>
          have hv := (E.b2 b' hb' hkk).1
          rw [hv]
          have hfin := (E.fin b' hb').1
          rw [hv] at hfin
          have := cells_rel (VRel.refl_sca m b'.z hz') hfin
          rw [← ed.2]; exact this
        | some k =>
          have hRk := hk k hkk
          obtain ⟨hlt2, ⟨h3, e3⟩, _⟩ := E.b3 b' hb' k hkk
          have hlk : b'.d ∈ l[k].2.look := by rw [e3]; simp [SOp.look, SO.xs]
          have hbk : b.k = some k := by
            cases hbk : b.k with
            | none =>
              exact absurd hlk (by rw [ed.1]; exact (E.b2 b hb hbk).2 k h3)
            | some k' =>
              by_cases hkk' : k = k'
              · rw [hkk']
              · exact absurd hlk (by rw [ed.1]; exact (E.b3 b hb k' hbk).2.2 k h3 hkk')
          rcases hRk with h | h
          · exact absurd h (hst k hbk)
          · have := (E.b3 b hb k hbk).1; omega
      · have hR' : R b'.i := hR.resolve_right hbi
        obtain ⟨B, k1, k2, k3, arr, te, k4, k5, k6⟩ := hB b' hb' hR'
        have hlB := lt_of_heap k4
        refine ⟨B, k1, by simp [show B ≠ w.heap.size by omega, k2], by rw [hkeepp b' hb' hbi]; exact k3, arr, te, (hold B hlB).trans k4, k5, fun h => k6 fun k hk => ?_⟩
        rcases h k hk with h | h
        · exact h
        · obtain ⟨_, ⟨h3, e3⟩, _⟩ := E.b3 b' hb' k hk
          subst h; rw [e1] at e3; cases e3
    · intro b' hb' b'' hb'' hR' hR'' hne
      by_cases h1 : b'.i = b.i
      · have h2 : b''.i ≠ b.i := fun e => hne (h1.trans e.symm)
        have hd1 : b'.d = b.d := by
          obtain ⟨h', e', _⟩ := E.b1 b' hb'
          have : l[b'.i] = l[b.i] := by congr 1
          rw [e', e1] at this
          cases b; cases b'; simp at this ⊢; exact this.1
        rw [hd1, hptr, hkeepp b'' hb'' h2]
        obtain ⟨B, k1, k2⟩ := hlt b'' hb'' (hR''.resolve_right h2)
        rw [k2]; intro e; cases e; omega
      · by_cases h2 : b''.i = b.i
        · have hd1 : b''.d = b.d := by
            obtain ⟨h', e', _⟩ := E.b1 b'' hb''
            have : l[b''.i] = l[b.i] := by congr 1
            rw [e', e1] at this
            cases b; cases b''; simp at this ⊢; exact this.1
          rw [hd1, hptr, hkeepp b' hb' h1]
          obtain ⟨B, k1, k2⟩ := hlt b' hb' (hR'.resolve_right h1)
          rw [k2]; intro e; cases e; omega
        · rw [hkeepp b' hb' h1, hkeepp b'' hb'' h2]
          exact hdist b' hb' b'' hb'' (hR'.resolve_right h1) (hR''.resolve_right h2) hne
  unfold wpOpIn
  rw [ho]
  simp only
  rw [if_pos (by simp [Region.wanted, hg])]
  refine ⟨fun f _ => hF f, ?_⟩
  rw [hsem]
  exact hK _ _ hnew

/-- A boxed variable is set. -/
theorem step_set (E : DEnv P C nt ops l bx ms σ) {F : Fence} (hF : ∀ f, F.fn f) {n : Nat} {Q : Exit → Act → World → Prop} {K : Act → World → Prop} {a : Act} {w : World}
    (hI : DInv P B0 F.round ds nt m0 o0 w0 l bx σ R a w) (hB0 : B0 ≤ w0.heap.size) {b : BX} (hb : b ∈ bx) {i : Nat} (hk : b.k = some i) (hn : ¬ R i) (hRi : R b.i) (hv : ∀ j, j < l.length → (ms.getD i 0).testBit j = true → R j)
    (hK : ∀ a' w', DInv P B0 F.round ds nt m0 o0 w0 l bx σ (fun j => R j ∨ j = i) a' w' → K a' w') : wpOpIn F n P ops Q i K a w := by
  obtain ⟨q, m, o, t, hq, hqR, hS, hKp, hm, htv, ht0, htl, hB, hdist⟩ := hI
  obtain ⟨hbi, e0, hz, hzn⟩ := E.b1 b hb
  obtain ⟨hik, ⟨hi, e1⟩, hlk⟩ := E.b3 b hb i hk
  obtain ⟨oper, ho, hso⟩ := E.cop i hi
  rw [e1] at hso
  obtain ⟨c1, c2, c3, c4⟩ := cSOp_spec hso
  obtain ⟨ty, ti, hop, hti, hnsz⟩ := cOp_st c1.symm
  have hg := c4 rfl
  have hdst : oper.dst = none := c2.symm
  obtain ⟨B, k1, k2, k3, arr, te, k4, k5, k6⟩ := hB b hb hRi
  have hlB := lt_of_heap k4
  -- what is set
  have hval : VRel m ((σ l.length).ev b.v) (a.eval b.v) := by
    have hx := ev_rel hS.G hS.T (E.b5 b hb)
    cases hbv : b.v with
    | tmp x =>
      rw [hbv] at hx
      have hxx := (E.b4 b hb i x hk hbv).2
      have : tget t x = tget (σ l.length).t x := by
        by_cases hw : ∃ j, ∃ h : j < l.length, l[j].2.dst = some x
        · obtain ⟨j, hj, hd⟩ := hw
          obtain ⟨hnl, hbit⟩ := hxx j hj hd
          rw [htv j hj (hv j hj hbit) hnl x hd]
          have e2 := states_t E.ds (x := x) (j + 1) (l.length - (j + 1)) (by omega) (fun j' h u v => .inr (E.p1 j j' hj h x (by omega) hd))
          rw [show j + 1 + (l.length - (j + 1)) = l.length by omega] at e2
          exact e2.symm
        · rw [ht0 x fun j hj _ e => hw ⟨j, hj, e⟩]
          have e2 := states_t E.ds (x := x) 0 l.length (by omega) (fun j' h _ _ => .inr (fun e => hw ⟨j', h, e⟩))
          rw [Nat.zero_add] at e2
          exact e2.symm
      simp only [St.ev] at hx ⊢
      rw [← this]; exact hx
    | const v => rw [hbv] at hx; exact hx
    | global g => rw [hbv] at hx; exact hx
    | func f => rw [hbv] at hx; exact hx
  obtain ⟨f1, f2, f3⟩ := E.fin b hb
  have hcells := cells_rel hval f1
  have hlen : (a.eval b.v).cells.toList.length = b.n := by rw [← hcells.1]; simpa using f2
  have hone := hcells.all_oneC f3
  have hstore := run_storeCells_at P B 0 te (a.eval b.v).cells.toList 0 arr w k4 (by omega) hone
  have harr : (arr.toList.take (0 + 0) ++ (a.eval b.v).cells.toList ++ arr.toList.drop (0 + 0 + (a.eval b.v).cells.toList.length)) = (a.eval b.v).cells.toList := by
    rw [hlen, ← k5]
    simp
  rw [harr] at hstore
  obtain ⟨w', hw'⟩ : ∃ w', w.setRow B (a.eval b.v).cells.toList.toArray = w' := ⟨_, rfl⟩
  rw [hw'] at hstore
  have hev : a.eval (.tmp b.d) = .pointer (some ⟨B, 0, none⟩) := k3
  have hrun : (execOp a.eval oper).run P w = .ok .skip w' := by
    have hsz : (a.eval b.v).cells.size = ti.size := by rw [← hnsz]; simpa using hlen
    simp [execOp, hop, Instr.storeAt, hev, Instr.sureAddr, storeVar, sizeOf, typeInfo, hti, hsz, hstore]
  have hsem : (oper.semAt F.round a.eval).run P w = .ok .skip w' := by
    rw [Oper.semAt_plain F _ _ (fun c hc' => by rw [hop] at hc'; cases hc')]
    exact hrun
  have hnew : DInv P B0 F.round ds nt m0 o0 w0 l bx σ (fun j => R j ∨ j = i) a w' := by
    have hsame : ∀ B', B' ≠ B → w'.heap[B']? = w.heap[B']? := fun B' h => by rw [← hw']; exact setRow_other w B B' _ h
    have hwsz : w'.heap.size = w.heap.size := by rw [← hw']; simp
    have hhere : w'.heap[B]? = some (.cells (a.eval b.v).cells te (0, 0)) := by rw [← hw']; simpa using setRow_heap w B arr (a.eval b.v).cells.toList.toArray te _ k4
    have hR' : ∀ b' ∈ bx, (R b'.i ∨ b'.i = i) → R b'.i := fun b' hb' h => by
      rcases h with h | h
      · exact h
      · obtain ⟨h', e', _⟩ := E.b1 b' hb'
        subst h; rw [e1] at e'; cases e'
    refine ⟨q, m, o, t, hq, ?_, ?_, ?_, hm, ?_, ?_, ?_, ?_, ?_⟩
    · intro j hj hc
      have hne : j ≠ i := fun e => by subst e; rw [e1] at hc; simp [isC] at hc
      rw [hqR j hj hc]
      exact ⟨.inl, fun h => h.resolve_right hne⟩
    · refine hS.world (by omega) hS.tie.tH.base fun B' hB' hh => ⟨hsame B' fun e => ?_, rfl⟩
      subst e
      rcases hh with h | h | ⟨x, h⟩
      · omega
      · exact h k2
      · rw [k4] at h; cases h
    · refine ⟨?_, ?_, ?_, by have := hKp.size; omega, fun B' hB' hoo => ?_⟩
      · rw [← hw']; exact hKp.os
      · rw [← hw']; exact hKp.tape
      · rw [← hw']; exact hKp.output
      · obtain ⟨j1, j2⟩ := hKp.same B' hB' hoo
        exact ⟨(hsame B' (by omega)).trans j1, j2⟩
    · intro j hj hR hjl x hx
      rcases hR with hR | rfl
      · exact htv j hj hR hjl x hx
      · exact absurd (by rw [e1]) hjl
    · intro x hx
      exact ht0 x fun j hj hR => hx j hj (.inl hR)
    · intro j hj hR hjl x hx
      rcases hR with hR | rfl
      · exact htl j hj hR hjl x hx
      · rw [e1] at hx; cases hx
    · intro b' hb' hR
      have hRb := hR' b' hb' hR
      obtain ⟨B', j1, j2, j3, arr', te', j4, j5, j6⟩ := hB b' hb' hRb
      by_cases hbb : b'.i = b.i
      · obtain ⟨h', e', _⟩ := E.b1 b' hb'
        have hdd : b'.d = b.d := by
          have : l[b'.i] = l[b.i] := by congr 1
          rw [e', e0] at this
          cases b; cases b'; simp at this ⊢; exact this.1
        have hBB : B' = B := by rw [hdd, k3] at j3; cases j3; rfl
        subst hBB
        have hlki : b'.d ∈ l[i].2.look := by rw [e1, hdd]; simp [SOp.look, SO.xs]
        have hbk : b'.k = some i := by
          cases hbk : b'.k with
          | none => exact absurd hlki ((E.b2 b' hb' hbk).2 i hi)
          | some k' =>
            by_cases hkk' : i = k'
            · rw [hkk']
            · exact absurd hlki ((E.b3 b' hb' k' hbk).2.2 i hi hkk')
        obtain ⟨_, ⟨_, e3⟩, _⟩ := E.b3 b' hb' i hbk
        have hvv : b'.v = b.v ∧ b'.n = b.n := by
          rw [e1] at e3
          simp only [Prod.mk.injEq, SOp.mk.injEq, SO.st.injEq, true_and] at e3
          exact ⟨e3.2.2.symm, e3.1.symm⟩
        refine ⟨B', j1, j2, j3, _, te, hhere, by rw [hvv.2]; simpa using hlen, fun _ => by rw [hvv.1]; exact hcells⟩
      · have hne : B' ≠ B := fun e => by
          subst e
          exact hdist b' hb' b hb hRb hRi hbb (by rw [j3, k3])
        refine ⟨B', j1, j2, j3, arr', te', (hsame B' hne).trans j4, j5, fun h => j6 fun k hk' => ?_⟩
        rcases h k hk' with h | h
        · exact h
        · obtain ⟨_, ⟨_, e3⟩, _⟩ := E.b3 b' hb' k hk'
          subst h
          rw [e1] at e3
          simp only [Prod.mk.injEq, SOp.mk.injEq, SO.st.injEq, true_and, Operand.tmp.injEq] at e3
          obtain ⟨h', e', _⟩ := E.b1 b' hb'
          exact absurd (show l[b.i].2.dst = some b'.d by rw [e0, e3.2.1]) (E.p1 b'.i b.i h' hbi b'.d hbb (by rw [e']))
    · intro b' hb' b'' hb'' h1 h2 hne
      exact hdist b' hb' b'' hb'' (hR' b' hb' h1) (hR' b'' hb'' h2) hne
  unfold wpOpIn
  rw [ho]
  simp only
  rw [if_pos (by simp [Region.wanted, hg])]
  refine ⟨fun f _ => hF f, ?_⟩
  rw [hsem]
  have := hK _ _ hnew
  rw [show a = a.put oper.dst undef by rw [hdst]; rfl] at this
  exact this
end
end Go.Proofs.YtjejcbiilimjkaaDoor
