/- Calls, as the code that makes them sees them; one operation; a list of operations. -/
import Derived.Test.YtjejcbiilimjkaaDoorAbsK
import Derived.OwnWalkIn
namespace Go.Proofs.YtjejcbiilimjkaaDoor
open Go Go.RowKit

variable {P : Program} {B0 : Nat}

def Mp0 (h : Nat → Option HI) : Mp := ⟨h, fun _ _ => none⟩

def CPost (P : Program) (B0 : Nat) (h : Nat → Option HI) (o : Nat → Ow) (w : World) (v : Value) (H' : AH) : Ending → World → Prop := fun e w' =>
  ∃ v', e = .returned v' ∧ ∃ h' o', (∀ b i, h b = some i → h' b = some i) ∧ VRel (Mp0 h') v v' ∧ WRel P B0 (Mp0 h') o' H' w' ∧ Keep o w o' w'

/-- What the abstract machine says of calls holds of the model's. -/
def CSound (P : Program) (B0 : Nat) (C : CallA) : Prop :=
  ∀ fv vs lim H v H', C fv vs lim H = some (v, H') → nl v = true ∧ ∀ h o w, WRel P B0 (Mp0 h) o H w → (∀ B d g, o B ≠ .loc d g) → GRel P (Mp0 h) → ∀ fv', VRel (Mp0 h) fv fv' → ∀ vs', LsRel (Mp0 h) vs vs' → nlL vs = true →
    ∀ F : Fence, (∀ f, F.fn f) → F.depth = none → ∀ n, ∃ fn first cap, fv' = .func fn first cap ∧ ∃ nx, (invoke (.fn fn cap) (first ++ vs'.toArray)).run P w = .ok nx w ∧
      ((∃ f args, nx = .enter f args ∧ CallsIn F n P f args w (CPost P B0 h o w v H')) ∨
       (∃ l f tmps asg body, (∃ l', fn = .yield l') ∧ nx = .round l f tmps asg body ∧ RoundIn F n P l f tmps asg body w (CPost P B0 h o w v H')))

structure SRel (P : Program) (B0 : Nat) (rd : Option Nat) (ds : List Nat) (nt : Nat) (m : Mp) (o : Nat → Ow) (s : St) (a : Act) (w : World) : Prop where
  T : TRel m s.t a.tmps
  sz : nt ≤ a.tmps.size
  tie : Tied P B0 m o s.L s.H w
  G : GRel P m
  D : a.defers = ds.map (fun D => { target := .collected D, args := #[] }) ∧ ds.Nodup ∧ ∀ D ∈ ds, w.heap[D]? = some (.deferred (some [])) ∧ o D = .other
  R : match s.rd, rd with
    | none, none => True
    | some b, some l => ∃ i, m.h b = some i ∧ i.blk = l
    | _, _ => False

theorem WRel.relabel {h : Nat → Option HI} {l l' : Nat → Nat → Option Nat} {o : Nat → Ow} {H : AH} {w : World} (r : WRel P B0 ⟨h, l⟩ o H w) : WRel P B0 ⟨h, l'⟩ o H w where
  dom := r.dom
  base := r.base
  low := r.low
  blk b i x e hx := by
    have := r.blk b i x e hx
    cases x with
    | rw ee vs =>
      obtain ⟨h1, h2, h3, h4, h5, arr, te, h6, h7, h8, h9⟩ := this
      exact ⟨h1, h2, h3, h4, h5, arr, te, h6, h7, h8, h9.nl_of h5⟩
    | ro vs =>
      obtain ⟨h1, h2, h3, h4⟩ := this
      refine ⟨h1, h2, h3, fun j hj => ?_⟩
      obtain ⟨v', h5, h6⟩ := h4 j hj
      exact ⟨v', h5, h6.nl_of ((nlL_iff vs).1 h3 j hj)⟩
    | dead => trivial
    | loop r => exact this

def Ow.clean : Ow → Ow
  | .loc _ _ => .other
  | x => x

theorem Ow.clean_ne (x : Ow) (d g : Nat) : x.clean ≠ .loc d g := by cases x <;> simp [Ow.clean]

/-- Owners as a callee sees them. -/
def ownIn (o : Nat → Ow) : Nat → Ow := fun B => (o B).clean

/-- Owners behind a call. -/
def ownOut (o o' : Nat → Ow) (n : Nat) : Nat → Ow := fun B => if B < n then (match o B with | .loc d g => .loc d g | _ => (o' B).clean) else (o' B).clean

theorem WRel.ownIn {m : Mp} {o : Nat → Ow} {H : AH} {w : World} (r : WRel P B0 m o H w) : WRel P B0 m (ownIn o) H w :=
  r.keep rfl (fun _ _ _ h => h) (Nat.le_refl _) (fun B hB => by simp [Go.Proofs.YtjejcbiilimjkaaDoor.ownIn, r.base B hB, Ow.clean]) fun B _ ho => ⟨rfl, by
    simp only [Go.Proofs.YtjejcbiilimjkaaDoor.ownIn]
    rcases ho with ho | ⟨b, ho⟩ | ⟨b, d, g, ho⟩
    · rw [r.base B ho]; rfl
    · rw [ho]; rfl
    · rw [ho]; rfl⟩

/-- Behind a call the caller's state is tied as before. -/
theorem call_frame {m : Mp} {o : Nat → Ow} {L : LS} {H H' : AH} {w w' : World} (t : Tied P B0 m o L H w) {h' : Nat → Option HI} {o' : Nat → Ow} (hm : ∀ b i, m.h b = some i → h' b = some i) (hH : WRel P B0 (Mp0 h') o' H' w') (hk : Keep (ownIn o) w o' w') :
    m.le ⟨h', m.l⟩ ∧ Tied P B0 ⟨h', m.l⟩ (ownOut o o' w.heap.size) L H' w' ∧ Keep o w (ownOut o o' w.heap.size) w' := by
  have hle : m.le ⟨h', m.l⟩ := ⟨hm, fun _ _ _ h => h⟩
  have hin : ∀ B, (∀ d g, o B ≠ .loc d g) → ownOut o o' w.heap.size B = (o' B).clean := fun B hB => by
    unfold ownOut
    split
    · split
      · rename_i d g e; exact absurd e (hB d g)
      · rfl
    · rfl
  have hloc : ∀ B d g, B < w.heap.size → o B = .loc d g → ownOut o o' w.heap.size B = .loc d g ∧ w'.heap[B]? = w.heap[B]? ∧ o' B = .other := fun B d g hB ho => by
    obtain ⟨h1, h2⟩ := hk.same B hB (by simp [Go.Proofs.YtjejcbiilimjkaaDoor.ownIn, ho, Ow.clean])
    refine ⟨?_, h1, h2⟩
    unfold ownOut
    rw [if_pos hB, ho]
  have hheld : ∀ B, Held B0 o' B → ownOut o o' w.heap.size B = o' B := fun B hB => by
    by_cases hl : ∃ d g, B < w.heap.size ∧ o B = .loc d g
    · obtain ⟨d, g, h1, h2⟩ := hl
      obtain ⟨h3, h4, h5⟩ := hloc B d g h1 h2
      rcases hB with hB | ⟨b, hB⟩ | ⟨b, d', g', hB⟩
      · have := t.tH.base B hB; rw [this] at h2; cases h2
      · rw [h5] at hB; cases hB
      · rw [h5] at hB; cases hB
    · have : ownOut o o' w.heap.size B = (o' B).clean := by
        unfold ownOut
        split
        · rename_i hlt
          split
          · rename_i d g e; exact absurd ⟨d, g, hlt, e⟩ hl
          · rfl
        · rfl
      rw [this]
      rcases hB with hB | ⟨b, hB⟩ | ⟨b, d', g', hB⟩
      · rw [hH.base B hB]; rfl
      · rw [hB]; rfl
      · rw [hB]; rfl
  refine ⟨hle, ⟨?_, ?_, ?_⟩, ?_⟩
  · have := hH.relabel (l' := m.l)
    refine this.keep rfl (fun _ _ _ h => h) (Nat.le_refl _) (fun B hB => ?_) fun B _ ho => ⟨rfl, hheld B ho⟩
    rw [hheld B (.inl hB)]; exact hH.base B hB
  · exact t.tL.keep hle fun B d g hB ho => ⟨(hloc B d g hB ho).2.1, (hloc B d g hB ho).1.trans ho.symm⟩
  · exact t.tF.same_l rfl
  · refine ⟨hk.os, hk.tape, hk.output, hk.size, fun B hB ho => ?_⟩
    obtain ⟨h1, h2⟩ := hk.same B hB (by simp [Go.Proofs.YtjejcbiilimjkaaDoor.ownIn, ho, Ow.clean])
    exact ⟨h1, by rw [hin B (fun d g e => by rw [ho] at e; cases e), h2]; rfl⟩

theorem TRel.put {m m' : Mp} (hm : m.le m') {s : St} {a : Act} (r : TRel m s.t a.tmps) {nt : Nat} (hs : nt ≤ a.tmps.size) {d : Option Tmp} (hd : d.all (· < nt) = true) {v v' : Value} (hv : VRel m' v v') : TRel m' (s.put d v).t (a.put d v').tmps := by
  cases d with
  | none => exact r.mono hm
  | some i =>
    simp only [Option.all_some, decide_eq_true_eq] at hd
    intro j
    simp only [St.put, Act.put, tget, Array.getD_eq_getD_getElem?, Array.getElem?_setIfInBounds]
    by_cases hj : j = i
    · subst hj; simp [show j < a.tmps.size by omega]; exact hv
    · rw [if_neg hj, if_neg (by omega)]
      have := (r j).mono hm
      simpa [Array.getD_eq_getD_getElem?] using this

theorem put_size (a : Act) (d : Option Tmp) (v : Value) : (a.put d v).tmps.size = a.tmps.size := by cases d <;> simp [Act.put]
theorem put_defers (a : Act) (d : Option Tmp) (v : Value) : (a.put d v).defers = a.defers := by cases d <;> rfl

theorem SRel.step {rd : Option Nat} {ds : List Nat} {nt : Nat} {m m' : Mp} {o o' : Nat → Ow} {s : St} {a : Act} {w w' : World} (r : SRel P B0 rd ds nt m o s a w) (hm : m.le m') {L : LS} {H : AH} (ht : Tied P B0 m' o' L H w') (hk : Keep o w o' w')
    {d : Option Tmp} (hd : d.all (· < nt) = true) {v v' : Value} (hv : VRel m' v v') : SRel P B0 rd ds nt m' o' ({ s with L := L, H := H }.put d v) (a.put d v') w' where
  T := by have := r.T.put hm r.sz hd hv; cases d <;> exact this
  sz := by rw [put_size]; exact r.sz
  tie := by cases d <;> exact ht
  G := r.G.mono hm
  D := by
    refine ⟨by rw [put_defers]; exact r.D.1, r.D.2.1, fun D hD => ?_⟩
    obtain ⟨h1, h2⟩ := r.D.2.2 D hD
    obtain ⟨h3, h4⟩ := hk.same D (lt_of_heap h1) h2
    exact ⟨h3.trans h1, h4⟩
  R := by
    have := r.R
    have e : ({ s with L := L, H := H }.put d v : St).rd = s.rd := by cases d <;> rfl
    rw [e]
    revert this
    cases s.rd <;> cases rd <;> simp
    exact fun i h1 h2 => ⟨i, hm.1 _ _ h1, h2⟩


/-- One operation. -/
theorem opA_sound {C : CallA} (hC : CSound P B0 C) {rd : Option Nat} {ds : List Nat} {nt : Nat} {m : Mp} {o : Nat → Ow} {s s' : St} {a : Act} {w : World} (r : SRel P B0 rd ds nt m o s a w) {ops : Array Oper} {oper : Oper} {so : SOp} (hc : cSOp P nt ops oper = some so) (h : opA C so s = some s')
    {F : Fence} (hF : ∀ f, F.fn f) (hd : F.depth = none) {n : Nat} {next : Act → World → Prop} {Q : Exit → Act → World → Prop}
    (hn : ∀ m' o' a' w', m.le m' → SRel P B0 rd ds nt m' o' s' a' w' → Keep o w o' w' → (∃ v, a' = a.put oper.dst v) → next a' w') :
    if Region.wanted oper (yielded ops a.tmps) = true then oper.wpIn F n P a w next Q else (∀ f, oper.about P w a.eval = some f → F.fn f) ∧ next (a.put oper.dst undef) w := by
  have hso : so.op = cOp P oper ∧ so.dst = oper.dst ∧ oper.dst.all (· < nt) = true ∧ (match oper.guard with | none => so.guard = none | some (j, wv) => ∃ d, (ops[j]?).bind (·.dst) = some d ∧ so.guard = some (d, wv)) := by
    unfold cSOp at hc
    split at hc
    · rename_i hdst
      split at hc
      · rename_i hg; cases hc; exact ⟨rfl, rfl, hdst, by rw [hg]⟩
      · rename_i j wv hg
        simp only [Option.map_eq_some_iff] at hc
        obtain ⟨d, hd, rfl⟩ := hc
        exact ⟨rfl, rfl, hdst, by rw [hg]; exact ⟨d, hd, rfl⟩⟩
    · cases hc
  obtain ⟨h1, h2, h3, h4⟩ := hso
  obtain ⟨sd, sg, sop⟩ := so
  simp only at h1 h2 h4 h
  subst h1
  subst h2
  have hxs : ∀ x ∈ (cOp P oper).xs, VRel m (s.ev x) (a.eval x) := fun x hx => ev_rel r.G r.T (cOp_ok x hx)
  -- the operation runs
  have hrun : ∀ (hr : runA C ⟨oper.dst, sg, cOp P oper⟩ s = some s'), oper.wpIn F n P a w next Q := by
    intro hr
    unfold runA at hr
    simp only at hr
    refine ⟨fun f _ => hF f, ?_⟩
    by_cases hcall : ∃ f args, (cOp P oper) = .call f args
    · obtain ⟨f, args, hfa⟩ := hcall
      rw [hfa] at hr hxs
      simp only at hr
      split at hr
      · rename_i vs L1 H1 hg
        split at hr
        · rename_i v H2 hcv
          cases hr
          obtain ⟨c, hop, hcal, hargs⟩ := cOp_call hfa
          have hx1 : VRel m (s.ev f) (a.eval f) := hxs f (by simp [SO.xs])
          have hx2 : LsRel m (args.map s.ev) (args.map a.eval) := ⟨by simp, fun i p q => by simp; exact hxs _ (by simp [SO.xs])⟩
          obtain ⟨m1, o1, a1, a2, a3, a4, a5, a6, a7⟩ := globs_sound r.tie.tH r.tie.tL r.tie.tF hx2 hg
          have t1 : Tied P B0 m1 o1 L1 H1 w := ⟨a4, a5, a6⟩
          split at hcv
          rotate_left
          · cases hcv
          rename_i hfn
          obtain ⟨c1, c2⟩ := hC _ _ _ _ _ _ hcv
          have hH0 : WRel P B0 (Mp0 m1.h) (ownIn o1) H1 w := (a4.ownIn).relabel
          obtain ⟨fn, first, cap, e1, nx, e2, e3⟩ := c2 m1.h (ownIn o1) w hH0 (fun B d g => Ow.clean_ne _ d g) (fun g hg => (r.G.mono a1) g hg) (a.eval f) ((hx1.mono a1).nl_of hfn) (args.map a.eval) (a2.nl_of a3) a3 F hF hd (n - 1)
          have hsem : ((oper.semAt F.round a.eval).run P w) = .ok nx w := by
            rw [Oper.semAt_plain F _ _ (by rw [hop]; intro c hc'; cases hc')]
            obtain ⟨cal, cargs, cty⟩ := c
            simp only at hcal hargs
            subst hcal
            have : cargs.map a.eval = (args.map a.eval).toArray := by rw [← hargs]; apply Array.ext'; simp
            have hres : (resolve a.eval ⟨.value f, cargs, cty⟩ oper.type).run P w = .ok { target := .fn fn cap, args := first ++ (args.map a.eval).toArray } w := by
              simp only [resolve]
              rw [e1, this]
              rfl
            simp only [execOp, hop]
            rw [Sem.run_bind, hres]
            exact e2
          have fin : ∀ v' w', (∃ h' o', (∀ b i, m1.h b = some i → h' b = some i) ∧ VRel (Mp0 h') v v' ∧ WRel P B0 (Mp0 h') o' H2 w' ∧ Keep (ownIn o1) w o' w') → next (a.put oper.dst v') w' := by
            rintro v' w' ⟨h', o', b1, b2, b3, b4⟩
            obtain ⟨d1, d2, d3⟩ := call_frame t1 b1 b3 b4
            exact hn _ _ _ _ (Mp.le_trans a1 d1) (r.step (Mp.le_trans a1 d1) d2 (a7.trans d3) h3 (b2.nl_of c1)) (a7.trans d3) ⟨_, rfl⟩
          rw [hsem]
          rcases e3 with ⟨f', args', rfl, hcalls⟩ | ⟨l, f', tmps, asg, body, _, rfl, hround⟩
          · refine ⟨fun e => (by rw [hd] at e; cases e), hcalls.mono ?_⟩
            rintro e w' ⟨v', rfl, hh⟩
            exact fin v' w' hh
          · refine ⟨fun e => (by rw [hd] at e; cases e), hround.mono ?_⟩
            rintro e w' ⟨v', rfl, hh⟩
            exact fin v' w' hh
        · cases hr
      · cases hr
    · have hr' : (match popA s (cOp P oper) oper.dst with
        | some (v, L, H) => some ({ s with L := L, H := H }.put oper.dst v)
        | none => none) = some s' := by
        split at hr
        · rename_i f args hq; exact absurd ⟨f, args, hq⟩ hcall
        · exact hr
      split at hr'
      · rename_i v L1 H1 hp
        cases hr'
        obtain ⟨nx, w', e1, e2⟩ := popA_does r.tie hxs hp
        have hsem : ((oper.semAt F.round a.eval).run P w) = .ok nx w' := by
          rw [Oper.semAt_plain F _ _ (fun c hc' => by
            have : cOp P oper = .bad := by simp [cOp, cOp?, hc']
            rw [this] at hp; simp [popA] at hp)]
          exact e1
        rw [hsem]
        rcases e2 with ⟨v', rfl, m', o', b1, b2, b3, b4, b5, b6⟩ | ⟨rfl, m', o', b1, b2, b3, b4, b5, b6⟩
        · exact hn _ _ _ _ b1 (r.step b1 ⟨b5, b3, b4⟩ b6 h3 b2) b6 ⟨_, rfl⟩
        · exact hn _ _ _ _ b1 (r.step b1 ⟨b5, b3, b4⟩ b6 h3 b2) b6 ⟨_, rfl⟩
      · cases hr'
  unfold opA at h
  cases hg : oper.guard with
  | none =>
    rw [hg] at h4
    simp only at h4
    subst h4
    simp only at h
    rw [if_pos (by simp [Region.wanted, hg])]
    exact hrun h
  | some jw =>
    obtain ⟨j, wv⟩ := jw
    rw [hg] at h4
    obtain ⟨d, hj, hsg⟩ := h4
    subst hsg
    simp only at h
    have hval := r.T d
    have hskip : s' = s.put oper.dst SK → next (a.put oper.dst undef) w := by
      rintro rfl
      exact hn m o _ w (Mp.le_refl m) (r.step (Mp.le_refl m) r.tie (Keep.refl o w) h3 (L := s.L) (H := s.H) .sk) (Keep.refl o w) ⟨_, rfl⟩
    split at h
    · rename_i b hb
      rw [hb] at hval
      have hy : yielded ops a.tmps j = some b := by
        unfold yielded
        rw [hj]
        simp only [Option.bind_some]
        have : a.tmps.getD d undef = .bool b := by generalize a.tmps.getD d undef = z at hval; cases hval; rfl
        rw [Array.getD_eq_getD_getElem?] at this
        cases hq : a.tmps[d]? with
        | none => rw [hq] at this; simp [undef] at this
        | some z => rw [hq] at this; simp at this; rw [this]
      split at h
      · rename_i hbw; subst hbw
        rw [if_pos (by simp [Region.wanted, hg, hy])]
        exact hrun h
      · rename_i hbw
        rw [if_neg (by simp [Region.wanted, hg, hy, hbw])]
        cases h
        exact ⟨fun f _ => hF f, hskip rfl⟩
    · rename_i vs hb
      split at h
      · rename_i hsz
        rw [hb] at hval
        have hy : yielded ops a.tmps j = none := by
          unfold yielded
          rw [hj]
          simp only [Option.bind_some]
          have hv : a.tmps.getD d undef = .tuple #[] ∨ ∃ x, a.tmps.getD d undef = .tuple x := by
            generalize a.tmps.getD d undef = z at hval
            cases hval with
            | any => simp at hsz
            | sk => exact .inl rfl
            | tup x x' => exact .inr ⟨_, rfl⟩
          rw [Array.getD_eq_getD_getElem?] at hv
          cases hq : a.tmps[d]? with
          | none => rfl
          | some z =>
            rw [hq] at hv
            rcases hv with hv | ⟨x, hv⟩ <;> (simp at hv; rw [hv])
        rw [if_neg (by simp [Region.wanted, hg, hy])]
        cases h
        exact ⟨fun f _ => hF f, hskip rfl⟩
      · cases h
    · cases h
end Go.Proofs.YtjejcbiilimjkaaDoor
