/- A round of a loop over a function; all calls. -/
import Derived.Test.YtjejcbiilimjkaaDoorAbsO
import Derived.RangeFuncIn
import Derived.RangeFuncRecord
namespace Go.Proofs.YtjejcbiilimjkaaDoor
open Go Go.RowKit

variable {P : Program} {B0 : Nat}

theorem foldl_size : ∀ (l : List (Tmp × Value)) (tm : Array Value), (l.foldl (fun tmps (t, a) => tmps.setIfInBounds t a) tm).size = tm.size
  | [], tm => rfl
  | (x, v) :: l, tm => by rw [List.foldl_cons, foldl_size l]; simp

theorem TRel.params {m : Mp} : ∀ (ps : List Tmp) {vs vs' : List Value} (_ : LsRel m vs vs') {t : TS} {tm : Array Value} (_ : TRel m t tm) (_ : ∀ x ∈ ps, x < tm.size),
    TRel m ((ps.zip vs).reverse ++ t) ((ps.zip vs').foldl (fun tmps (t, a) => tmps.setIfInBounds t a) tm)
  | [], vs, vs', _, t, tm, r, _ => by simpa using r
  | x :: ps, [], vs', h, t, tm, r, _ => by
    have : vs' = [] := List.eq_nil_of_length_eq_zero h.1.symm
    subst this; simpa using r
  | x :: ps, v :: vs, [], h, t, tm, r, _ => by simp [LsRel] at h
  | x :: ps, v :: vs, v' :: vs', h, t, tm, r, hp => by
    have hx := hp x (by simp)
    have := TRel.params ps h.tail (t := (x, v) :: t) (tm := tm.setIfInBounds x v') (fun j => by
      simp only [tget, Array.getD_eq_getD_getElem?, Array.getElem?_setIfInBounds]
      by_cases hj : j = x
      · subst hj; simp [hx]; exact h.head
      · rw [if_neg hj, if_neg (by omega)]
        have := r j
        simpa [Array.getD_eq_getD_getElem?] using this) (fun y hy => by simpa using hp y (by simp [hy]))
    simpa [List.zip_cons_cons, List.reverse_cons, List.append_assoc] using this

def exJump : Ex → Option Code
  | .normal => none
  | .exit id => some (.exit id)
  | .ret => some .ret

/-- The owners when a round has ended: the record holds the boxes again. -/
def ownRest (o : Nat → Ow) (b : Nat) : Nat → Ow := fun B => match o B with | .loc d g => .rcd b d g | .rcd b' d g => if b' = b then .other else .rcd b' d g | x => x

/-- A round of a loop over a function. -/
theorem round_sound {n : Nat} {pf : PF} (ih : CSound P B0 (apA P pf n)) (hD : DSound P B0 (apA P pf n)) {l : Nat} {first cap : Array Value} {vs : List Value} {lim : Nat} {H : AH} {v : Value} {H' : AH}
    (hcall : apA P pf (n + 1) (.func (.yield l) first cap) vs lim H = some (v, H')) : nl v = true ∧ ∀ h o w, WRel P B0 (Mp0 h) o H w → (∀ B d g, o B ≠ .loc d g) → GRel P (Mp0 h) → ∀ fv', VRel (Mp0 h) (.func (.yield l) first cap) fv' → ∀ vs', LsRel (Mp0 h) vs vs' → nlL vs = true →
    ∀ F : Fence, (∀ f, F.fn f) → F.depth = none → ∀ k, ∃ fn first cap, fv' = .func fn first cap ∧ ∃ nx, (invoke (.fn fn cap) (first ++ vs'.toArray)).run P w = .ok nx w ∧
      (∃ l f tmps asg body, (∃ l', fn = .yield l') ∧ nx = .round l f tmps asg body ∧ RoundIn F k P l f tmps asg body w (CPost P B0 h o w v H')) := by
  simp only [apA] at hcall
  split at hcall
  rotate_left
  · cases hcall
  rename_i r hr
  split at hcall
  rotate_left
  · cases hcall
  rename_i hg
  obtain ⟨g1, g2, g3, g4, g5⟩ := hg
  split at hcall
  rotate_left
  · cases hcall
  rename_i s ha
  split at hcall
  rotate_left
  · cases hcall
  rename_i r1 hr1
  split at hcall
  rotate_left
  · cases hcall
  rename_i hst1
  split at hcall
  rotate_left
  · cases hcall
  rename_i e s' hb
  split at hcall
  rotate_left
  · cases hcall
  rename_i r3 hr3
  simp only [Option.some.injEq, Prod.mk.injEq] at hcall
  obtain ⟨rfl, rfl⟩ := hcall
  refine ⟨rfl, fun h o w hW hno hGR fv' hfv vs' hvs hn F hF hd k => ?_⟩
  cases hfv with
  | func _ f' _ first' _ cap' hf hx1 hxs1 hy1 hys1 =>
  cases hf with
  | yield _ i hi =>
  have hi : h l = some i := hi
  obtain ⟨q1, q2, q3, lp, ml, nt, q4, q5, q6, q7, q8, q9, q10, q11, q12, q13, q14, q15, gh, q16, q17, q18, q19, q20, q21⟩ := hW.blk _ _ _ hi hr
  have hfs : first' = #[] := by
    have : first'.size = 0 := by omega
    exact Array.eq_empty_of_size_eq_zero this
  subst hfs
  have hready : lp.state = .ready := by
    rw [g2] at q5
    cases hs : lp.state <;> rw [hs] at q5 <;> simp [stRel] at q5 ⊢
  have hargs : vs'.toArray.size = lp.params.size := by
    have e1 := hvs.1
    have e2 : lp.params.size = r.ps.length := by rw [← q10]; simp
    simp; omega
  have hyield := run_yield (P := P) q4 hargs
  have hlt := lt_of_heap q4
  refine ⟨_, #[], cap', rfl, _, by show (Instr.yield i.blk (#[] ++ vs'.toArray)).run P w = _; rw [Array.empty_append]; exact hyield, i.blk, _, _, _, _, ⟨_, rfl⟩, rfl, roundIn_of_wpIn (hF _) ?_⟩
  have etm : (lp.params.zip vs'.toArray).foldl (fun tmps (t, a) => tmps.setIfInBounds t a) lp.tmps = (r.ps.zip vs').foldl (fun tmps (t, a) => tmps.setIfInBounds t a) lp.tmps := by
    rw [← Array.foldl_toList, Array.toList_zip, ← q10]
  have hml : Mp.le (Mp0 h) ⟨h, ml⟩ := ⟨fun _ _ h => h, fun _ _ _ h => by simp [Mp0] at h⟩
  have hsz : ∀ x ∈ r.ps, x < lp.tmps.size := fun x hx => Nat.lt_of_lt_of_le (q14 x hx) q13
  have hT := TRel.params r.ps (hvs.mono hml) q7 hsz
  rw [← etm] at hT
  have hsz2 : nt ≤ ((lp.params.zip vs'.toArray).foldl (fun tmps (t, a) => tmps.setIfInBounds t a) lp.tmps).size := by
    rw [etm, foldl_size]; exact q13
  generalize hzz : (lp.params.zip vs'.toArray).foldl (fun tmps (t, a) => tmps.setIfInBounds t a) lp.tmps = tm at hT hsz2
  -- the assignment
  have t0 : Tied P B0 ⟨h, ml⟩ (ownBack o l) r.L (H.set l (.loop { r with st := 4, L := [] })) w := by
    refine ⟨(hW.relabel (l' := ml)).turn rfl (fun _ _ _ h => h) hi _ (Nat.le_refl _) (fun B hB => ownBack_other (hW.base B hB)) ?_ ?_, ?_, q9 (.inl g2)⟩
    · intro B hB ho
      refine ⟨rfl, ?_⟩
      rcases ho with ho | ⟨b', h1, h2⟩ | ⟨b', d, g, h1, h2⟩
      · rw [ownBack_other (hW.base B ho), hW.base B ho]
      · rw [ownBack_heap h2, h2]
      · simp [ownBack, h2, h1]
    · refine ⟨q1, q2, ownBack_heap q3, lp, ml, nt, q4, by rw [hready]; exact .inr rfl, q6, q7, ?_, ?_, q10, q11, q12, q13, q14, q15, gh, q16, q17, q18, q19, q20, q21⟩
      · intro d g c hc; simp [lget] at hc
      · intro hh; simp at hh
    · intro d g c hc
      have := q8 d g c hc
      cases c with
      | cells vs =>
        obtain ⟨B, k1, k2, k3, k4⟩ := this
        exact ⟨B, k1, by simp [ownBack, k2], k3, k4⟩
      | fwd b => exact this
  have r0 : SRel P B0 (F.inRound i.blk).round [] nt ⟨h, ml⟩ (ownBack o l) ⟨(r.ps.zip vs).reverse ++ r.t, r.L, H.set l (.loop { r with st := 4, L := [] }), r.lim, some l⟩ { tmps := tm, defers := [] } w :=
    ⟨hT, hsz2, t0, fun g hg => hGR g hg, ⟨rfl, List.nodup_nil, by simp⟩, ⟨i, hi, rfl⟩⟩
  refine wpIn_mono (exA_sound ih hD (F := F.inRound i.blk) hF hd n n (Nat.le_refl _) r.asg _ s .normal ha lp.assign q11 [] _ _ _ w r0) fun ex a1 w1 hp => ?_
  obtain ⟨p1, m1, o1, ds1, p2, p3, p4, p5⟩ := hp
  cases ex <;> simp only [exEq] at p1
  simp only [Exit.then]
  -- the round begins
  have hi1 : m1.h l = some i := p2.1 _ _ hi
  obtain ⟨_, _, u3, lp1, _, _, u4, u5, u6, _, _, _, _, _, _, _, _, u15, gh1, u16, u17, u18, u19, u20, _⟩ := p3.tie.tH.blk _ _ _ hi1 hr1
  rw [q16] at u16; cases u16
  have hready1 : lp1.state = .ready := by
    rw [hst1] at u5
    cases hs : lp1.state <;> rw [hs] at u5 <;> simp [stRel] at u5 ⊢
  have hlt1 := lt_of_heap u4
  refine ⟨_, run_beginRound u4 hready1, ?_⟩
  have hm1 : Mp.le ⟨h, ml⟩ ⟨m1.h, ml⟩ := ⟨p2.1, fun _ _ _ h => h⟩
  have t2 : Tied P B0 m1 o1 s.L (s.H.set l (.loop { r with st := 1, pend := r1.pend, L := [] })) (w1.putObj i.blk (.loop { lp1 with state := .busy })) := by
    refine ⟨p3.tie.tH.turn rfl (fun _ _ _ h => h) hi1 _ (by simp) p3.tie.tH.base ?_ ?_, p3.tie.tL.keep (Mp.le_refl m1) ?_, p3.tie.tF⟩
    · intro B hB ho
      refine ⟨World.putObj_heap_other ?_, rfl⟩
      intro e; subst e
      rcases ho with h | ⟨b', h1, h2⟩ | ⟨b', d, g, h1, h2⟩
      · omega
      · rw [u3] at h2; cases h2; exact h1 rfl
      · rw [u3] at h2; cases h2
    · refine ⟨q1, q2, u3, { lp1 with state := .busy }, ml, nt, World.putObj_heap_same hlt1, rfl, ?_, ?_, ?_, ?_, ?_, ?_, ?_, ?_, q14, ?_, gh, q16, u17, u18, u19, u20, q21⟩
      · exact u6
      · simp only; rw [u17, ← q17]; exact q7.mono hm1
      · intro d g c hc; simp [lget] at hc
      · intro hh; simp at hh
      · simp only; rw [u18, ← q18]; exact q10
      · simp only; rw [u19, ← q19]; exact q11
      · simp only; rw [u20, ← q20]; exact q12
      · simp only; rw [u17, ← q17]; exact q13
      · exact u15
    · intro B d g hB ho
      refine ⟨World.putObj_heap_other ?_, rfl⟩
      intro e; subst e; rw [u3] at ho; cases ho
  have r2 : SRel P B0 (F.inRound i.blk).round ds1 nt m1 o1 { s with H := s.H.set l (.loop { r with st := 1, pend := r1.pend, L := [] }) } a1 (w1.putObj i.blk (.loop { lp1 with state := .busy })) := by
    refine ⟨p3.T, p3.sz, t2, p3.G, ⟨p3.D.1, p3.D.2.1, fun D hD => ?_⟩, p3.R⟩
    obtain ⟨k1, k2⟩ := p3.D.2.2 D hD
    exact ⟨(World.putObj_heap_other (fun e => by subst e; rw [u3] at k2; cases k2)).trans k1, k2⟩
  refine wpIn_mono (exA_sound ih hD (F := F.inRound i.blk) hF hd n n (Nat.le_refl _) r.body _ s' e hb lp.body q12 ds1 _ _ _ _ r2) fun ex a3 w3 hp => ?_
  obtain ⟨z1, m3, o3, ds3, z2, z3, z4, z5⟩ := hp
  have hi3 : m3.h l = some i := z2.1 _ _ hi1
  obtain ⟨_, _, y3, lp3, _, _, y4, _, _, _, _, _, _, _, _, _, _, _, gh3, y16, y17, y18, y19, y20, _⟩ := z3.tie.tH.blk _ _ _ hi3 hr3
  rw [q16] at y16; cases y16
  have hlt3 := lt_of_heap y4
  have fin : ∀ (j : Option Code), j = exJump e → CPost P B0 h o w (.bool (decide (e = .normal))) (s'.H.set l (.loop { r with st := if e = .normal then 0 else 2, pend := if e = .normal then none else some e, L := s'.L }))
      (.returned (.bool j.isNone)) (w3.putObj i.blk (.loop { lp3 with state := if j.isNone then .ready else .done, pending := j })) := by
    rintro j rfl
    refine ⟨_, rfl, m3.h, ownRest o3 l, fun b x hb => z2.1 _ _ (p2.1 _ _ hb), ?_, ?_, ?_⟩
    · cases e <;> exact .bool _
    · have : WRel P B0 m3 (ownRest o3 l) (s'.H.set l (.loop { r with st := if e = .normal then 0 else 2, pend := if e = .normal then none else some e, L := s'.L })) (w3.putObj i.blk (.loop { lp3 with state := if (exJump e).isNone then .ready else .done, pending := exJump e })) := by
        refine z3.tie.tH.turn rfl (fun _ _ _ h => h) hi3 _ (by simp) (fun B hB => by simp [ownRest, z3.tie.tH.base B hB]) ?_ ?_
        · intro B hB ho
          refine ⟨World.putObj_heap_other ?_, ?_⟩
          · intro e; subst e
            rcases ho with h | ⟨b', h1, h2⟩ | ⟨b', d, g, h1, h2⟩
            · omega
            · rw [y3] at h2; cases h2; exact h1 rfl
            · rw [y3] at h2; cases h2
          · rcases ho with h | ⟨b', h1, h2⟩ | ⟨b', d, g, h1, h2⟩
            · simp [ownRest, z3.tie.tH.base B h]
            · simp [ownRest, h2]
            · simp [ownRest, h2, h1]
        · refine ⟨q1, q2, by simp [ownRest, y3], _, m3.l, nt, World.putObj_heap_same hlt3, ?_, ?_, ?_, ?_, ?_, ?_, ?_, ?_, ?_, q14, ?_, gh, q16, y17, y18, y19, y20, ?_⟩
          · cases e
            · exact .inl rfl
            · rfl
            · rfl
          · cases e <;> rfl
          · simp only; rw [y17, ← q17]; exact q7.mono (Mp.le_trans p2 z2)
          · intro d g c hc
            have := z3.tie.tL d g c hc
            cases c with
            | cells vs =>
              obtain ⟨B, k1, k2, k3, arr, te, k4, k5⟩ := this
              have hne : B ≠ i.blk := fun e => by subst e; rw [y4] at k4; cases k4
              exact ⟨B, k1, by simp [ownRest, k2], k3, arr, te, (World.putObj_heap_other hne).trans k4, k5⟩
            | fwd b => exact this
          · exact fun _ => z3.tie.tF
          · simp only; rw [y18, ← q18]; exact q10
          · simp only; rw [y19, ← q19]; exact q11
          · simp only; rw [y20, ← q20]; exact q12
          · simp only; rw [y17, ← q17]; exact q13
          · cases e <;> simp
          · exact fun d g B hB => z2.2 _ _ _ (p2.2 _ _ _ (q21 d g B hB))
      exact this.relabel
    · refine ⟨z4.os.trans p4.os, z4.tape.trans p4.tape, z4.output.trans p4.output, ?_, fun B hB ho => ?_⟩
      · have := z4.size; have := p4.size; simp at *; omega
      · have hne : B ≠ i.blk := fun e => by subst e; rw [q3] at ho; cases ho
        obtain ⟨k1, k2⟩ := p4.same B hB (ownBack_other ho)
        obtain ⟨k3, k4⟩ := z4.same B (by have := p4.size; simp; omega) k2
        exact ⟨(World.putObj_heap_other hne).trans (k3.trans ((World.putObj_heap_other hne).trans k1)), by simp [ownRest, k4]⟩
  cases ex with
  | normal => cases e <;> simp only [exEq] at z1; exact ⟨_, _, run_endRound none y4, fin _ rfl⟩
  | ret => cases e <;> simp only [exEq] at z1; exact ⟨_, _, run_endRound (some .ret) y4, fin _ rfl⟩
  | exit j => cases e <;> simp only [exEq] at z1; subst z1; exact ⟨_, _, run_endRound (some (.exit _)) y4, fin _ rfl⟩
  | goto j => cases e <;> simp only [exEq] at z1
  | panic ch => cases e <;> simp only [exEq] at z1
  | outgrown => cases e <;> simp only [exEq] at z1

/-- What is said beforehand of calls is so. -/
def OrSound (P : Program) (B0 : Nat) (pf : PF) : Prop :=
  ∀ f vs v, pf.ans f vs = some v → nl v = true ∧ ∀ h o w H, WRel P B0 (Mp0 h) o H w → tabsOk pf.tabs H = true → (∀ B d g, o B ≠ .loc d g) → GRel P (Mp0 h) → ∀ vs', LsRel (Mp0 h) vs vs' → nlL vs = true →
    ∀ F : Fence, (∀ f, F.fn f) → F.depth = none → ∀ k, ∃ nx, (invoke (.fn (.func f) #[]) (#[] ++ vs'.toArray)).run P w = .ok nx w ∧ ∃ f args, nx = .enter f args ∧ CallsIn F k P f args w (CPost P B0 h o w v H)

theorem orSound_none (pure : FuncId → Bool) : OrSound P B0 ⟨pure, [], fun _ _ => none⟩ := fun _ _ _ h => by cases h

/-- **The abstract machine's calls are the model's**, given what it says of regions whose order is drawn. -/
theorem apA_sound (pf : PF) (hO : OrSound P B0 pf) (hD : ∀ C, CSound P B0 C → CGr C → DSound P B0 C) : ∀ n, CSound P B0 (apA P pf n)
  | 0 => fun fv vs lim H v H' h => by simp [apA] at h
  | n + 1 => fun fv vs lim H v H' h => by
    have ih := apA_sound pf hO hD n
    have hG := apA_Gr P pf n
    have hd := hD _ ih hG
    cases fv with
    | func fn first cap =>
      cases fn with
      | func f =>
        cases hor : orcA pf f first cap vs with
        | some v0 =>
          simp only [apA, hor] at h
          split at h
          · rename_i htab
            cases h
            unfold orcA at hor
            split at hor
            · rename_i hz
              obtain ⟨k1, k2⟩ := hO f vs v hor
              refine ⟨k1, fun h o w hW hno hGR fv' hfv vs' hvs hn F hF hdp k => ?_⟩
              cases hfv with
              | func _ f' _ first' _ cap' hf hx1 hxs1 hy1 hys1 =>
              cases hf
              have e1 : first' = #[] := Array.eq_empty_of_size_eq_zero (by omega)
              have e2 : cap' = #[] := Array.eq_empty_of_size_eq_zero (by omega)
              subst e1
              subst e2
              obtain ⟨nx, e3, e4⟩ := k2 h o w H hW htab hno hGR vs' hvs hn F hF hdp k
              exact ⟨_, #[], #[], rfl, nx, e3, .inl e4⟩
            · cases hor
          · cases h
        | none =>
          obtain ⟨k1, k2⟩ := func_sound ih hG hd hor h
          refine ⟨k1, fun h o w hW hno hGR fv' hfv vs' hvs hn F hF hdp k => ?_⟩
          obtain ⟨fn, fi, ca, e1, nx, e2, e3⟩ := k2 h o w hW hno hGR fv' hfv vs' hvs hn F hF hdp k
          exact ⟨fn, fi, ca, e1, nx, e2, .inl e3⟩
      | yield l =>
        obtain ⟨k1, k2⟩ := round_sound ih hd h
        refine ⟨k1, fun h o w hW hno hGR fv' hfv vs' hvs hn F hF hdp k => ?_⟩
        obtain ⟨fn, fi, ca, e1, nx, e2, e3⟩ := k2 h o w hW hno hGR fv' hfv vs' hvs hn F hF hdp k
        exact ⟨fn, fi, ca, e1, nx, e2, .inr e3⟩
      | _ => simp [apA] at h
    | _ => simp [apA] at h
end Go.Proofs.YtjejcbiilimjkaaDoor
