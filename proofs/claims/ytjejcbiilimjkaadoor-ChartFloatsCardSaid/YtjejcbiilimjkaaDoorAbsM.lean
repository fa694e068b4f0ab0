/- Code: what the abstract machine does, the model does. -/
import Derived.Test.YtjejcbiilimjkaaDoorAbsL
import Derived.LoopNIn
namespace Go.Proofs.YtjejcbiilimjkaaDoor
open Go Go.RowKit

variable {P : Program} {B0 : Nat}

theorem cOps_spec {nt : Nat} {ops : Array Oper} : ∀ {src : List Oper} {l : List SOp}, cOps P nt ops src = some l → l.length = src.length ∧ ∀ k (h : k < src.length) (h' : k < l.length), cSOp P nt ops src[k] = some l[k]
  | [], l, h => by simp only [cOps, Option.some.injEq] at h; subst h; simp
  | o :: src, l, h => by
    simp only [cOps] at h
    split at h
    · rename_i x y h1 h2
      cases h
      obtain ⟨k1, k2⟩ := cOps_spec h2
      refine ⟨by simp [k1], fun k p q => ?_⟩
      cases k with
      | zero => exact h1
      | succ k => exact k2 k (by simpa using p) (by simpa using q)
    · cases h

theorem opsA_sound {C : CallA} (hC : CSound P B0 C) {nt : Nat} {ops : Array Oper} {F : Fence} (hF : ∀ f, F.fn f) (hd : F.depth = none) {n : Nat} {Q : Exit → Act → World → Prop} {ds : List Nat} : ∀ (l : List SOp) (idx : List Nat) (_ : idx.length = l.length)
    (_ : ∀ k (h : k < l.length) (h' : k < idx.length), ∃ oper, ops[idx[k]]? = some oper ∧ cSOp P nt ops oper = some l[k]) {s s' : St} (_ : opsA C l s = some s') {m : Mp} {o : Nat → Ow} {a : Act} {w : World} (_ : SRel P B0 F.round ds nt m o s a w)
    (_ : ∀ m' o' a' w', m.le m' → SRel P B0 F.round ds nt m' o' s' a' w' → Keep o w o' w' → Q .normal a' w'), wpOpsIn F n P ops Q idx a w
  | [], idx, hl, hc, s, s', h, m, o, a, w, r, hn => by
    have : idx = [] := List.eq_nil_of_length_eq_zero hl
    subst this
    simp only [opsA, Option.some.injEq] at h; subst h
    exact hn m o a w (Mp.le_refl m) r (Keep.refl o w)
  | so :: l, idx, hl, hc, s, s', h, m, o, a, w, r, hn => by
    cases idx with
    | nil => simp at hl
    | cons i idx =>
      simp only [opsA] at h
      split at h
      · rename_i s1 h1
        obtain ⟨oper, ho, hso⟩ := hc 0 (by simp) (by simp)
        simp only [List.getElem_cons_zero] at ho hso
        have := opA_sound hC r hso h1 hF hd (n := n) (next := wpOpsIn F n P ops Q idx) (Q := Q) fun m1 o1 a1 w1 b1 b2 b3 _ =>
          opsA_sound hC hF hd l idx (by simpa using hl) (fun k p q => by have := hc (k + 1) (by simpa using p) (by simpa using q); simpa using this) h b2 fun m2 o2 a2 w2 c1 c2 c3 => hn m2 o2 a2 w2 (Mp.le_trans b1 c1) c2 (b3.trans c3)
        rw [wpOpsIn, ho]
        simp only
        split
        · rename_i hw; rw [if_pos hw] at this; exact this
        · rename_i hw; rw [if_neg hw] at this; exact this
      · cases h

def exEq : Ex → Exit → Prop
  | .normal, .normal => True
  | .exit i, .exit j => i = j
  | .ret, .ret => True
  | _, _ => False

def XPost (P : Program) (B0 : Nat) (rd : Option Nat) (ds : List Nat) (nt : Nat) (m : Mp) (o : Nat → Ow) (w : World) (e : Ex) (s' : St) : Exit → Act → World → Prop := fun ex a' w' =>
  exEq e ex ∧ ∃ m' o' ds', m.le m' ∧ SRel P B0 rd ds' nt m' o' s' a' w' ∧ Keep o w o' w' ∧ ∀ D ∈ ds', w.heap.size ≤ D ∨ D ∈ ds

theorem XPost.trans {rd : Option Nat} {ds ds1 : List Nat} {nt : Nat} {m m1 : Mp} {o o1 : Nat → Ow} {w w1 : World} {e : Ex} {s' : St} {ex : Exit} {a' : Act} {w' : World} (h1 : m.le m1) (h2 : Keep o w o1 w1) (h3 : ∀ D ∈ ds1, w.heap.size ≤ D ∨ D ∈ ds) (h : XPost P B0 rd ds1 nt m1 o1 w1 e s' ex a' w') : XPost P B0 rd ds nt m o w e s' ex a' w' := by
  obtain ⟨k1, m', o', ds', k2, k3, k4, k5⟩ := h
  refine ⟨k1, m', o', ds', Mp.le_trans h1 k2, k3, h2.trans k4, fun D hD => ?_⟩
  rcases k5 D hD with h | h
  · exact .inl (Nat.le_trans h2.size h)
  · exact h3 D h

/-- A region whose order is drawn (AbsN). -/
def DSound (P : Program) (B0 : Nat) (C : CallA) : Prop :=
  ∀ (id nt : Nat) (ops : Array Oper) (l : List (DK × SOp)) (bx : List BX), cDraw P nt ops = some (l, bx) → ∀ (s s' : St), (dOps C l s).bind (bxsA bx) = some s' → ∀ (F : Fence), (∀ f, F.fn f) → F.depth = none → ∀ (n : Nat) (ds : List Nat) (m : Mp) (o : Nat → Ow) (a : Act) (w : World),
    SRel P B0 F.round ds nt m o s a w → (Code.region id ops true).wpIn F n P (XPost P B0 F.round ds nt m o w .normal s') a w

theorem WRel.snoc {m : Mp} {o o2 : Nat → Ow} {H : AH} {w w2 : World} (hH : WRel P B0 m o H w) (i : HI) (x : ABlk) (hi : i.blk < w2.heap.size) (hs : w.heap.size ≤ w2.heap.size) (hb : ∀ B, B < B0 → o2 B = .other)
    (hk : ∀ B, B < w.heap.size → Held B0 o B → w2.heap[B]? = w.heap[B]? ∧ o2 B = o B) (hx : BRel P B0 ⟨fun b => if b = H.length then some i else m.h b, m.l⟩ o2 H.length i w2 x) :
    m.le ⟨fun b => if b = H.length then some i else m.h b, m.l⟩ ∧ WRel P B0 ⟨fun b => if b = H.length then some i else m.h b, m.l⟩ o2 (H ++ [x]) w2 := by
  have hd : m.h H.length = none := by
    cases hx : m.h H.length with
    | none => rfl
    | some i => exact absurd (hH.dom _ _ hx).1 (Nat.lt_irrefl _)
  have hm : m.le ⟨fun b => if b = H.length then some i else m.h b, m.l⟩ := by
    refine ⟨fun b j h => ?_, fun _ _ _ h => h⟩
    by_cases hb : b = H.length
    · subst hb; rw [hd] at h; cases h
    · simpa [hb] using h
  refine ⟨hm, fun b j h => ?_, hb, Nat.le_trans hH.low hs, fun b j y h hy => ?_⟩
  · by_cases hbb : b = H.length
    · subst hbb; simp at h; subst h; simp; exact hi
    · simp [hbb] at h; have := hH.dom b j h; simp; omega
  · by_cases hbb : b = H.length
    · subst hbb
      simp at h; subst h
      simp at hy; subst hy
      exact hx
    · simp [hbb] at h
      have hl := (hH.dom b j h).1
      rw [List.getElem?_append_left hl] at hy
      refine (hH.blk b j y h hy).keep hm fun B hB ho => hk B hB ?_
      rcases ho with h | h | ⟨d, g, h⟩
      · exact .inl h
      · exact .inr (.inl ⟨b, h⟩)
      · exact .inr (.inr ⟨b, d, g, h⟩)

/-- A block of the abstract heap turned. -/
theorem WRel.turn {m m' : Mp} {o o2 : Nat → Ow} {H : AH} {w w2 : World} (hH : WRel P B0 m o H w) (hm : m'.h = m.h) (hl : ∀ d g B, m.l d g = some B → m'.l d g = some B) {b : Nat} {i : HI} (hbi : m.h b = some i) (x : ABlk) (hs : w.heap.size ≤ w2.heap.size) (hb : ∀ B, B < B0 → o2 B = .other)
    (hk : ∀ B, B < w.heap.size → (B < B0 ∨ (∃ b', b' ≠ b ∧ o B = .heap b') ∨ ∃ b' d g, b' ≠ b ∧ o B = .rcd b' d g) → w2.heap[B]? = w.heap[B]? ∧ o2 B = o B) (hx : BRel P B0 m' o2 b i w2 x) :
    WRel P B0 m' o2 (H.set b x) w2 where
  dom b' j h := by rw [hm] at h; rw [List.length_set]; exact ⟨(hH.dom b' j h).1, Nat.lt_of_lt_of_le (hH.dom b' j h).2 hs⟩
  base := hb
  low := Nat.le_trans hH.low hs
  blk b' j y h hy := by
    rw [hm] at h
    by_cases hbb : b' = b
    · subst hbb
      rw [hbi] at h; cases h
      rw [List.getElem?_set_self (hH.dom _ _ hbi).1] at hy
      cases hy; exact hx
    · rw [List.getElem?_set_ne (by omega)] at hy
      refine (hH.blk b' j y h hy).keep ⟨fun b i h => by rw [hm]; exact h, hl⟩ fun B hB ho => hk B hB ?_
      rcases ho with h | h | ⟨d, g, h⟩
      · exact .inl h
      · exact .inr (.inl ⟨b', hbb, h⟩)
      · exact .inr (.inr ⟨b', d, g, hbb, h⟩)

/-- The owners while the record of a loop over a function holds the boxes. -/
def ownLoop (o : Nat → Ow) (n b l : Nat) : Nat → Ow := fun B => if B = l then .heap b else if B < n then (match o B with | .loc d g => .rcd b d g | x => x) else .other

/-- The owners when the boxes come back. -/
def ownBack (o : Nat → Ow) (b : Nat) : Nat → Ow := fun B => match o B with | .rcd b' d g => if b' = b then .loc d g else .rcd b' d g | .loc _ _ => .other | x => x

theorem ownBack_other {o : Nat → Ow} {b B : Nat} (h : o B = .other) : ownBack o b B = .other := by simp [ownBack, h]
theorem ownBack_heap {o : Nat → Ow} {b b' B : Nat} (h : o B = .heap b') : ownBack o b B = .heap b' := by simp [ownBack, h]

/-- The statement 'for .. := range f'. -/
theorem rng_sound {C : CallA} (hC : CSound P B0 C) {nt : Nat} {f : Operand} {ps : Array Tmp} {asg body : Code} {sa sb : SC} (hpn : ∀ x ∈ ps.toList, x < nt) (hok : xOk P f = true) (ha : cCode P nt asg = some sa) (hb : cCode P nt body = some sb)
    {s s' : St} {e : Ex} {n0 : Nat} (h : exA C (n0 + 1) (.rng f ps.toList sa sb) s = some (e, s')) {F : Fence} (hF : ∀ f, F.fn f) (hd : F.depth = none) {n : Nat} {ds : List Nat} {m : Mp} {o : Nat → Ow} {a : Act} {w : World} (r : SRel P B0 F.round ds nt m o s a w) :
    (Code.rangeFunc f ps asg body).wpIn F n P (XPost P B0 F.round ds nt m o w e s') a w := by
  simp only [exA] at h
  split at h
  · cases h
  rename_i hg
  have hg1 : rdOk s = true := by
    by_cases e : rdOk s = true
    · exact e
    · exact absurd (.inl (by simpa using e)) hg
  have hg2 : nl (s.ev f) = true := by by_cases e : nl (s.ev f) = true; · exact e
                                      · exact absurd (.inr (.inl (by simpa using e))) hg
  have hg3 : isFn (s.ev f) = true := by by_cases e : isFn (s.ev f) = true; · exact e
                                        · exact absurd (.inr (.inr (by simpa using e))) hg
  split at h
  rotate_left
  · cases h
  rename_i v0 H1 hcv
  split at h
  rotate_left
  · cases h
  rename_i rr hrr
  split at h
  · cases h
  rename_i hst
  simp only [Option.some.injEq, Prod.mk.injEq] at h
  obtain ⟨rfl, rfl⟩ := h
  refine wpIn_rangeFunc fun fn hfn => ?_
  -- the record is laid
  have hlay : ∃ (l : Nat) (mark : List Deferred) (w1 : World) (dl : Nat) (ds1 : List Nat), (Instr.enterLoop fn a.tmps ps asg body F.round).run P w = .ok (l, mark) w1 ∧ w1.heap[l]? = some (.loop { state := .ready, pending := none, fn, tmps := a.tmps, params := ps, assign := asg, body, defers := dl }) ∧
      w.heap.size ≤ l ∧ l < w1.heap.size ∧ w.heap.size ≤ w1.heap.size ∧ (∀ B, B < w.heap.size → w1.heap[B]? = w.heap[B]?) ∧ w1.os = w.os ∧ w1.tape = w.tape ∧ w1.output = w.output ∧
      mark = ds1.map (fun D => { target := .collected D, args := #[] }) ∧ (∀ D ∈ ds1, w.heap.size ≤ D ∧ D ≠ l ∧ w1.heap[D]? = some (.deferred (some []))) ∧ ds1.Nodup := by
    cases hro : F.round with
    | none =>
      refine ⟨w.heap.size + 1, _, _, w.heap.size, [w.heap.size], run_enterLoop_outer fn a.tmps ps asg body, ?_, by omega, by simp, by simp; omega, ?_, rfl, rfl, rfl, by simp, ?_, by simp⟩
      · have := World.alloc_heap_new (w.alloc (.deferred (some []))) (.loop { state := .ready, pending := none, fn, tmps := a.tmps, params := ps, assign := asg, body, defers := w.heap.size })
        rwa [World.size_alloc] at this
      · intro B hB
        rw [Below.heap_alloc _ _ _ (by simp; omega), Below.heap_alloc _ _ _ hB]
      · intro D hD
        simp only [List.mem_singleton] at hD; subst hD
        exact ⟨Nat.le_refl _, by omega, (Below.heap_alloc _ _ _ (by simp)).trans (World.alloc_heap_new w _)⟩
    | some l0 =>
      have hR := r.R
      rw [hro] at hR
      have hex : ∃ r0, w.heap[l0]? = some (.loop r0) := by
        unfold rdOk at hg1
        cases hrd : s.rd with
        | none => rw [hrd] at hR; exact hR.elim
        | some b =>
          rw [hrd] at hR hg1
          obtain ⟨i, h2, h3⟩ := hR
          simp only at hg1
          have h1 := hg1
          split at h1
          · rename_i rx hb
            obtain ⟨_, _, _, lp, _, _, h4, _⟩ := r.tie.tH.blk b i _ h2 hb
            exact ⟨lp, by rw [← h3]; exact h4⟩
          · cases h1
      obtain ⟨r0, hr0⟩ := hex
      refine ⟨w.heap.size, [], _, r0.defers, [], run_enterLoop_inner hr0 fn a.tmps ps asg body, World.alloc_heap_new w _, Nat.le_refl _, by simp, by simp, fun B hB => Below.heap_alloc _ _ _ hB, rfl, rfl, rfl, rfl, by simp, List.nodup_nil⟩
  obtain ⟨l, mark, w1, dl, ds1, he, hl, hl1, hl2, hsz, hold, hos, htape, hout, hmark, hds, hnd⟩ := hlay
  -- how it is tied
  have t := r.tie
  have hnl : ∀ B, B < w.heap.size → B ≠ l := fun B hB e => by omega
  have hbase : ∀ B, B < B0 → ownLoop o w.heap.size s.H.length l B = .other := fun B hB => by
    have := t.tH.low
    simp [ownLoop, hnl B (by omega), t.tH.base B hB]
  have hkeepH : ∀ B, B < w.heap.size → Held B0 o B → w1.heap[B]? = w.heap[B]? ∧ ownLoop o w.heap.size s.H.length l B = o B := fun B hB hh => ⟨hold B hB, by
    simp only [ownLoop, if_neg (hnl B hB), if_pos hB]
    rcases hh with hh | ⟨b, hh⟩ | ⟨b, d, g, hh⟩
    · rw [t.tH.base B hh]
    · rw [hh]
    · rw [hh]⟩
  have hBR : BRel P B0 ⟨fun b => if b = s.H.length then some ⟨l, 0, 0, 0, some ⟨a.tmps, ps, asg, body, m.l⟩⟩ else m.h b, m.l⟩ (ownLoop o w.heap.size s.H.length l) s.H.length ⟨l, 0, 0, 0, some ⟨a.tmps, ps, asg, body, m.l⟩⟩ w1 (.loop ⟨0, none, s.t, s.L, s.lim, ps.toList, sa, sb⟩) := by
    have hd' : m.h s.H.length = none := by
      cases hx : m.h s.H.length with
      | none => rfl
      | some i => exact absurd (t.tH.dom _ _ hx).1 (Nat.lt_irrefl _)
    have hm : m.le ⟨fun b => if b = s.H.length then some ⟨l, 0, 0, 0, some ⟨a.tmps, ps, asg, body, m.l⟩⟩ else m.h b, m.l⟩ := by
      refine ⟨fun b j h => ?_, fun _ _ _ h => h⟩
      by_cases hb : b = s.H.length
      · subst hb; rw [hd'] at h; cases h
      · simpa [hb] using h
    refine ⟨rfl, by have := t.tH.low; simp; omega, by simp [ownLoop], _, m.l, nt, hl, .inl rfl, rfl, r.T.mono hm, ?_, fun _ => t.tF.same_l rfl, rfl, ha, hb, r.sz, hpn, by simp, ⟨a.tmps, ps, asg, body, m.l⟩, rfl, rfl, rfl, rfl, rfl, fun _ _ _ h => h⟩
    intro d g c hc
    have := t.tL d g c hc
    cases c with
    | cells vs =>
      obtain ⟨B, k1, k2, k3, arr, te, k4, k5⟩ := this
      have hlt := lt_of_heap k4
      exact ⟨B, k1, by simp [ownLoop, hnl B hlt, hlt, k2], k3, arr, te, (hold B hlt).trans k4, k5.mono hm⟩
    | fwd b => obtain ⟨i, k1, k2, k3⟩ := this; exact ⟨i, hm.1 _ _ k1, k2, k3⟩
  obtain ⟨hm1, hW1⟩ := t.tH.snoc ⟨l, 0, 0, 0, some ⟨a.tmps, ps, asg, body, m.l⟩⟩ _ hl2 hsz hbase hkeepH hBR
  have hnoloc : ∀ B d g, ownLoop o w.heap.size s.H.length l B ≠ .loc d g := fun B d g => by
    unfold ownLoop
    split
    · simp
    · split
      · split
        · simp
        · rename_i h; exact fun e => h d g e
      · simp
  -- the call
  obtain ⟨c1, c2⟩ := hC _ _ _ _ _ _ hcv
  have hfv := (ev_rel r.G r.T hok).mono hm1
  obtain ⟨fn', first, cap, e1, nx, e2, e3⟩ := c2 _ (ownLoop o w.heap.size s.H.length l) w1 hW1.relabel hnoloc (fun g hg => (r.G.mono hm1) g hg) (a.eval f) (hfv.nl_of hg2) [.func (.yield l) #[] #[]]
    (LsRel.cons (.func _ _ _ _ _ _ (.yield s.H.length ⟨l, 0, 0, 0, some ⟨a.tmps, ps, asg, body, m.l⟩⟩ (by simp [Mp0])) rfl (fun i h _ => absurd h (by simp)) rfl (fun i h _ => absurd h (by simp))) (LsRel.nil _)) rfl F hF hd (n - 1)
  have hres : (resolve a.eval (rangeCall f l) 0).run P w1 = .ok { target := .fn fn' cap, args := first ++ #[.func (.yield l) #[] #[]] } w1 := by
    have e0 : (rangeCall f l).args.map a.eval = #[.func (.yield l) #[] #[]] := by simp [Act.eval]
    simp only [resolve]
    rw [e1, e0]
    rfl
  have hfn' : ∃ g, fn' = .func g := by
    rw [e1] at hfv
    revert hg3 hfv
    generalize s.ev f = q
    intro hg3 hfv
    cases hfv with
    | any => simp [isFn] at hg3
    | func q q' _ _ _ _ hf _ _ _ _ =>
      cases hf with
      | func g => exact ⟨g, rfl⟩
      | yield => simp [isFn] at hg3
  obtain ⟨g, rfl⟩ := hfn'
  have henter : ∃ f' args', nx = .enter f' args' ∧ CallsIn F (n - 1) P f' args' w1 (CPost P B0 (fun b => if b = s.H.length then some ⟨l, 0, 0, 0, some ⟨a.tmps, ps, asg, body, m.l⟩⟩ else m.h b) (ownLoop o w.heap.size s.H.length l) w1 v0 H1) := by
    rcases e3 with h | ⟨l', f', tmps, asg', body', ⟨_, hy⟩, _, _⟩
    · exact h
    · cases hy
  obtain ⟨f', args', rfl, hcalls⟩ := henter
  refine ⟨l, mark, w1, _, w1, f', args', w1, he, hres, fun f _ => hF f, e2, fun e => (by rw [hd] at e; cases e), hcalls.mono ?_⟩
  rintro e w3 ⟨v', rfl, h', o', b1, b2, b3, b4⟩
  -- the record behind the call
  have hi1 : h' s.H.length = some ⟨l, 0, 0, 0, some ⟨a.tmps, ps, asg, body, m.l⟩⟩ := b1 _ _ (by simp)
  obtain ⟨q1, q2, q3, lp, ml, nt', q4, q5, q6, q7, q8, q9, q10, q11, q12, q13, q14, q15, gh, q16, q17, q18, q19, q20, q21⟩ := b3.blk _ _ _ hi1 hrr
  simp only at q4 q3 q2
  cases q16
  simp only at q21
  have hst' : rr.st = 0 ∨ rr.st = 2 := by omega
  have hnb : lp.state ≠ .busy := fun e => by rw [e] at q5; have : rr.st = 1 := q5; omega
  have hend := run_endLoop (P := P) q4 hnb
  have hml : m.le ⟨h', ml⟩ := ⟨fun b i hbi => b1 _ _ (hm1.1 _ _ hbi), q21⟩
  have hlsz := lt_of_heap q4
  have hW4 : WRel P B0 ⟨h', ml⟩ (ownBack o' s.H.length) (H1.set s.H.length .dead) (w3.putObj l (.loop { lp with state := .exhausted })) := by
    refine (b3.relabel (l' := ml)).turn rfl (fun _ _ _ h => h) hi1 .dead (by simp) (fun B hB => ownBack_other (b3.base B hB)) ?_ trivial
    intro B hB ho
    have hne : B ≠ l := by
      intro e; subst e
      rcases ho with h | ⟨b', h1, h2⟩ | ⟨b', d, g, h1, h2⟩
      · omega
      · rw [q3] at h2; cases h2; exact h1 rfl
      · rw [q3] at h2; cases h2
    refine ⟨World.putObj_heap_other hne, ?_⟩
    rcases ho with h | ⟨b', h1, h2⟩ | ⟨b', d, g, h1, h2⟩
    · rw [ownBack_other (b3.base B h), b3.base B h]
    · rw [ownBack_heap h2, h2]
    · simp [ownBack, h2, h1]
  have hL4 : LRel B0 ⟨h', ml⟩ (ownBack o' s.H.length) .loc rr.L (w3.putObj l (.loop { lp with state := .exhausted })) := by
    intro d g c hc
    have := q8 d g c hc
    cases c with
    | cells vs =>
      obtain ⟨B, k1, k2, k3, arr, te, k4, k5⟩ := this
      have hne : B ≠ l := fun e => by subst e; rw [q4] at k4; cases k4
      exact ⟨B, k1, by simp [ownBack, k2], k3, arr, te, (World.putObj_heap_other hne).trans k4, k5⟩
    | fwd b => exact this
  have hKeep : Keep o w (ownBack o' s.H.length) (w3.putObj l (.loop { lp with state := .exhausted })) := by
    refine ⟨b4.os.trans hos, b4.tape.trans htape, b4.output.trans hout, by simp; exact Nat.le_trans hsz b4.size, fun B hB ho => ?_⟩
    obtain ⟨k1, k2⟩ := b4.same B (by omega) (by simp [ownLoop, hnl B hB, hB, ho])
    exact ⟨(World.putObj_heap_other (hnl B hB)).trans (k1.trans (hold B hB)), ownBack_other k2⟩
  have hF4 : LFresh ⟨h', ml⟩ rr.L := q9 hst'
  have hfinal : SRel P B0 F.round (ds1 ++ ds) nt ⟨h', ml⟩ (ownBack o' s.H.length) { s with L := rr.L, H := H1.set s.H.length .dead } { a with defers := mark ++ a.defers } (w3.putObj l (.loop { lp with state := .exhausted })) := by
    refine ⟨r.T.mono hml, r.sz, ⟨hW4, hL4, hF4⟩, r.G.mono hml, ⟨by simp [hmark, r.D.1], ?_, ?_⟩, ?_⟩
    · rw [List.nodup_append]
      refine ⟨hnd, r.D.2.1, fun x hx y hy e => ?_⟩
      subst e
      have := (hds x hx).1
      have := lt_of_heap (r.D.2.2 x hy).1
      omega
    · intro D hD
      rcases List.mem_append.1 hD with hD | hD
      · obtain ⟨k1, k2, k3⟩ := hds D hD
        have ho : ownLoop o w.heap.size s.H.length l D = .other := by simp [ownLoop, k2, show ¬ D < w.heap.size by omega]
        obtain ⟨k4, k5⟩ := b4.same D (lt_of_heap k3) ho
        exact ⟨(World.putObj_heap_other k2).trans (k4.trans k3), ownBack_other k5⟩
      · obtain ⟨k1, k2⟩ := r.D.2.2 D hD
        obtain ⟨k3, k4⟩ := hKeep.same D (lt_of_heap k1) k2
        exact ⟨k3.trans k1, k4⟩
    · have := r.R
      revert this
      cases s.rd <;> cases F.round <;> simp
      exact fun i h1 h2 => ⟨i, hml.1 _ _ h1, h2⟩
  have hdd : ∀ D ∈ ds1 ++ ds, w.heap.size ≤ D ∨ D ∈ ds := fun D hD => by
    rcases List.mem_append.1 hD with h | h
    · exact .inl (hds D h).1
    · exact .inr h
  refine ⟨lp.pending, _, hend, ?_⟩
  clear hend hW4 hL4
  generalize w3.putObj l (.loop { lp with state := .exhausted }) = w4 at hfinal hKeep ⊢
  rw [q6]
  cases hp : rr.pend with
  | none => exact ⟨trivial, _, _, _, hml, hfinal, hKeep, hdd⟩
  | some e =>
    cases e with
    | normal => exact absurd hp q15
    | exit id => exact wpIn_exit ⟨rfl, _, _, _, hml, hfinal, hKeep, hdd⟩
    | ret => exact wpIn_ret ⟨trivial, _, _, _, hml, hfinal, hKeep, hdd⟩

theorem loop_rounds {C : CallA} {nt : Nat} {F : Fence} {n : Nat} {x : Code} {sx : SC} {K : Nat} (hb : ∀ k, k ≤ K → ∀ (s s' : St) (e : Ex), exA C k sx s = some (e, s') → ∀ (ds : List Nat) (m : Mp) (o : Nat → Ow) (a : Act) (w : World),
    SRel P B0 F.round ds nt m o s a w → x.wpIn F n P (XPost P B0 F.round ds nt m o w e s') a w) : ∀ (k : Nat) (_ : k ≤ K + 1) (s s' : St) (e : Ex), exA C k (.loop sx) s = some (e, s') → ∀ (ds : List Nat) (m : Mp) (o : Nat → Ow) (a : Act) (w : World),
    SRel P B0 F.round ds nt m o s a w → Code.roundsIn F n P x (XPost P B0 F.round ds nt m o w e s') k a w
  | 0, _, s, s', e, h, _, _, _, _, _, _ => by simp [exA] at h
  | k + 1, hk, s, s', e, h, ds, m, o, a, w, r => by
    simp only [exA] at h
    rw [roundsIn_succ]
    split at h
    · rename_i s1 h1
      refine wpIn_mono (hb k (by omega) _ _ _ h1 ds m o a w r) fun ex a1 w1 hp => ?_
      obtain ⟨p1, m1, o1, ds1, p2, p3, p4, p5⟩ := hp
      cases ex <;> simp only [exEq] at p1
      have := loop_rounds hb k (by omega) s1 s' e h ds1 m1 o1 a1 w1 p3
      simp only [Exit.then]
      clear h1 h
      have mono : ∀ (k : Nat) (a : Act) (w2 : World), Code.roundsIn F n P x (XPost P B0 F.round ds1 nt m1 o1 w1 e s') k a w2 → Code.roundsIn F n P x (XPost P B0 F.round ds nt m o w e s') k a w2 := by
        intro k
        induction k with
        | zero => intro a w2 h; exact h
        | succ k ih =>
          intro a w2 h
          rw [roundsIn_succ] at h ⊢
          refine wpIn_mono h fun ex a3 w3 h3 => ?_
          cases ex with
          | normal => exact ih _ _ h3
          | exit i => exact XPost.trans p2 p4 p5 h3
          | goto i => exact XPost.trans p2 p4 p5 h3
          | ret => exact XPost.trans p2 p4 p5 h3
          | panic ch => exact XPost.trans p2 p4 p5 h3
          | outgrown => exact XPost.trans p2 p4 p5 h3
      exact mono _ _ _ this
    · rename_i hne
      refine wpIn_mono (hb k (by omega) _ _ _ h ds m o a w r) fun ex a1 w1 hp => ?_
      cases ex with
      | normal =>
        exfalso
        obtain ⟨p1, _⟩ := hp
        cases e <;> simp only [exEq] at p1
        exact hne _ h
      | exit i => exact hp
      | goto i => exact hp
      | ret => exact hp
      | panic ch => exact hp
      | outgrown => exact hp

/-- Code. -/
theorem exA_sound {C : CallA} (hC : CSound P B0 C) (hD : DSound P B0 C) {nt : Nat} {F : Fence} (hF : ∀ f, F.fn f) (hd : F.depth = none) {n : Nat} : ∀ (K k : Nat) (_ : k ≤ K) (sc : SC) (s s' : St) (e : Ex), exA C k sc s = some (e, s') → ∀ (c : Code), cCode P nt c = some sc → ∀ (ds : List Nat) (m : Mp) (o : Nat → Ow) (a : Act) (w : World),
    SRel P B0 F.round ds nt m o s a w → c.wpIn F n P (XPost P B0 F.round ds nt m o w e s') a w
  | _, 0, _, sc, s, s', e, h, c, hc, ds, m, o, a, w, r => by simp [exA] at h
  | 0, k + 1, hk, sc, s, s', e, h, c, hc, ds, m, o, a, w, r => by omega
  | K + 1, k + 1, hk, sc, s, s', e, h, c, hc, ds, m, o, a, w, r => by
    have ihK := exA_sound hC hD hF hd (nt := nt) (n := n) K
    have ih := ihK k (by omega)
    cases c with
    | skip =>
      simp only [cCode, Option.some.injEq] at hc; subst hc
      simp only [exA, Option.some.injEq, Prod.mk.injEq] at h
      obtain ⟨rfl, rfl⟩ := h
      exact wpIn_skip ⟨trivial, m, o, ds, Mp.le_refl m, r, Keep.refl o w, fun _ h => .inr h⟩
    | region id ops draw =>
      cases draw with
      | false =>
        simp only [cCode, Option.map_eq_some_iff] at hc
        obtain ⟨l, hl, rfl⟩ := hc
        simp only [exA, Option.map_eq_some_iff, Prod.mk.injEq] at h
        obtain ⟨s1, h1, rfl, rfl⟩ := h
        obtain ⟨k1, k2⟩ := cOps_spec hl
        simp only [Array.length_toList] at k1
        refine wpIn_region (opsA_sound hC hF hd l (List.range ops.size) (by simp [k1]) (fun j p q => ?_) h1 r fun m' o' a' w' b1 b2 b3 => ⟨trivial, m', o', ds, b1, b2, b3, fun _ h => .inr h⟩)
        have hj : j < ops.size := by omega
        exact ⟨ops[j], by simp [hj], by have := k2 j (by simpa using hj) p; rwa [Array.getElem_toList] at this⟩
      | true =>
        simp only [cCode, Option.map_eq_some_iff] at hc
        obtain ⟨⟨l, bx⟩, hl, rfl⟩ := hc
        simp only [exA, Option.map_eq_some_iff, Prod.mk.injEq] at h
        obtain ⟨s1, h1, rfl, rfl⟩ := h
        exact hD id nt ops l bx hl s s1 h1 F hF hd n ds m o a w r
    | seq x y =>
      simp only [cCode] at hc
      split at hc
      · rename_i sx sy hx hy
        cases hc
        simp only [exA] at h
        refine wpIn_seq ?_
        split at h
        · rename_i s1 h1
          refine wpIn_mono (ih _ _ _ _ h1 x hx ds m o a w r) fun ex a1 w1 hp => ?_
          obtain ⟨p1, m1, o1, ds1, p2, p3, p4, p5⟩ := hp
          cases ex <;> simp only [exEq] at p1
          exact wpIn_mono (ih _ _ _ _ h y hy ds1 m1 o1 a1 w1 p3) fun ex a2 w2 hp2 => hp2.trans p2 p4 p5
        · rename_i hne
          refine wpIn_mono (ih _ _ _ _ h x hx ds m o a w r) fun ex a1 w1 hp => ?_
          cases ex with
          | normal =>
            exfalso
            obtain ⟨p1, _⟩ := hp
            cases e <;> simp only [exEq] at p1
            exact hne _ h
          | exit i => exact hp
          | goto i => exact hp
          | ret => exact hp
          | panic ch => exact hp
          | outgrown => exact hp
      · cases hc
    | cond x y z =>
      simp only [cCode] at hc
      split at hc
      · rename_i hok
        split at hc
        · rename_i sx sy hx hy
          cases hc
          simp only [exA] at h
          have hv := ev_rel r.G r.T hok
          split at h
          · rename_i hb
            rw [hb] at hv
            have he : a.eval x = .bool true := by generalize a.eval x = q at hv; cases hv; rfl
            exact wpIn_cond_true he (ih _ _ _ _ h y hx ds m o a w r)
          · rename_i hb
            rw [hb] at hv
            have he : a.eval x = .bool false := by generalize a.eval x = q at hv; cases hv; rfl
            exact wpIn_cond_false he (ih _ _ _ _ h z hy ds m o a w r)
          · cases h
        · cases hc
      · cases hc
    | block id x =>
      simp only [cCode, Option.map_eq_some_iff] at hc
      obtain ⟨sx, hx, rfl⟩ := hc
      simp only [exA] at h
      refine wpIn_block ?_
      split at h
      · rename_i i s1 h1
        simp only [Option.some.injEq, Prod.mk.injEq] at h
        obtain ⟨rfl, rfl⟩ := h
        refine wpIn_mono (ih _ _ _ _ h1 x hx ds m o a w r) fun ex a1 w1 hp => ?_
        obtain ⟨p1, p2⟩ := hp
        cases ex <;> simp only [exEq] at p1
        subst p1
        simp only [Exit.inBlock]
        split
        · exact ⟨trivial, p2⟩
        · exact ⟨rfl, p2⟩
      · rename_i hne
        refine wpIn_mono (ih _ _ _ _ h x hx ds m o a w r) fun ex a1 w1 hp => ?_
        cases ex with
        | exit i =>
          exfalso
          obtain ⟨p1, _⟩ := hp
          cases e <;> simp only [exEq] at p1
          exact hne _ _ h
        | normal => exact hp
        | goto i => exact hp
        | ret => exact hp
        | panic ch => exact hp
        | outgrown => exact hp
    | loop x =>
      simp only [cCode, Option.map_eq_some_iff] at hc
      obtain ⟨sx, hx, rfl⟩ := hc
      exact wpIn_loop_rounds (k + 1) (loop_rounds (K := K) (fun k' hk' s s' e h ds m o a w r => ihK k' hk' sx s s' e h x hx ds m o a w r) (k + 1) hk s s' e h ds m o a w r)
    | rangeFunc f ps asg body =>
      simp only [cCode] at hc
      split at hc
      · rename_i hps
        split at hc
        · rename_i sx sy hx hy
          cases hc
          exact rng_sound hC (fun x hx => by have := Array.all_eq_true_iff_forall_mem.1 hps.1 x (by simpa using hx); simpa using this) hps.2 hx hy h hF hd r
        · cases hc
      · cases hc
    | exit id =>
      simp only [cCode, Option.some.injEq] at hc; subst hc
      simp only [exA, Option.some.injEq, Prod.mk.injEq] at h
      obtain ⟨rfl, rfl⟩ := h
      exact wpIn_exit ⟨rfl, m, o, ds, Mp.le_refl m, r, Keep.refl o w, fun _ h => .inr h⟩
    | ret =>
      simp only [cCode, Option.some.injEq] at hc; subst hc
      simp only [exA, Option.some.injEq, Prod.mk.injEq] at h
      obtain ⟨rfl, rfl⟩ := h
      exact wpIn_ret ⟨trivial, m, o, ds, Mp.le_refl m, r, Keep.refl o w, fun _ h => .inr h⟩
    | scope x => simp [cCode] at hc
    | label x => simp [cCode] at hc
    | goto x => simp [cCode] at hc
    | refuse x => simp [cCode] at hc
end Go.Proofs.YtjejcbiilimjkaaDoor
