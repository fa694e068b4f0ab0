/- Regions whose order is drawn: the whole; and so all calls. -/
import Derived.Test.YtjejcbiilimjkaaDoorAbsV
namespace Go.Proofs.YtjejcbiilimjkaaDoor
open Go Go.RowKit

variable {P : Program} {B0 : Nat}

/-- A block that nobody owned becomes a boxed variable. -/
theorem SRel.adopt {ro : Option Nat} {ds : List Nat} {nt : Nat} {m : Mp} {o : Nat → Ow} {s : St} {a : Act} {w : World} (r : SRel P B0 ro ds nt m o s a w) {B : Nat} (hB : B0 ≤ B) (ho : o B = .other) {arr : Array Value} {te : TypeId} (hw : w.heap[B]? = some (.cells arr te (0, 0)))
    {vs : List Value} (hvs : LsRel m vs arr.toList) {d : Tmp} (hd : a.tmps.getD d undef = .pointer (some ⟨B, 0, none⟩)) :
    ∃ m', m.le m' ∧ SRel P B0 ro ds nt m' (fun B' => if B' = B then .loc d (nextG s.L d) else o B') { s with t := (d, .pointer (some ⟨d, 0, some (nextG s.L d)⟩)) :: s.t, L := (d, nextG s.L d, .cells vs) :: s.L } a w := by
  have hfree : m.l d (nextG s.L d) = none := by
    cases hx : m.l d (nextG s.L d) with
    | none => rfl
    | some B =>
      obtain ⟨g', c, h1, h2⟩ := r.tie.tF _ _ _ hx
      have : nextG s.L d = g' + 1 := by simp [nextG, h1]
      omega
  generalize hg : nextG s.L d = g at *
  have hm : m.le ⟨m.h, fun d' g' => if d' = d ∧ g' = g then some B else m.l d' g'⟩ := by
    refine ⟨fun _ _ h => h, fun d' g' B h => ?_⟩
    by_cases hx : d' = d ∧ g' = g
    · obtain ⟨rfl, rfl⟩ := hx; rw [hfree] at h; cases h
    · simpa [hx] using h
  have hne : ∀ B', o B' ≠ .other → B' ≠ B := fun B' h e => h (e ▸ ho)
  refine ⟨_, hm, ⟨fun j => ?_, r.sz, ⟨?_, ?_, ?_⟩, r.G.mono hm, ⟨r.D.1, r.D.2.1, fun D hD => ?_⟩, ?_⟩⟩
  · rw [tget]
    split
    · rename_i hj; subst hj
      rw [hd]; exact .ptr _ _ ⟨rfl, by simp⟩
    · exact (r.T j).mono hm
  · refine r.tie.tH.keep rfl hm.2 (Nat.le_refl _) (fun B' hB' => by simp [show B' ≠ B by omega, r.tie.tH.base B' hB']) fun B' _ hh => ⟨rfl, ?_⟩
    have : B' ≠ B := by
      rcases hh with h | ⟨b, h⟩ | ⟨b, d, g, h⟩
      · omega
      · exact hne B' (by rw [h]; simp)
      · exact hne B' (by rw [h]; simp)
    simp [this]
  · intro d' g' c hc
    rw [lget] at hc
    split at hc
    · rename_i hdd; subst hdd
      simp only [Option.some.injEq, Prod.mk.injEq] at hc
      obtain ⟨rfl, rfl⟩ := hc
      exact ⟨B, by simp, by simp, hB, arr, te, hw, hvs.mono hm⟩
    · exact r.tie.tL.keep (o' := fun B' => if B' = B then .loc d g else o B') hm (fun B' d' g' _ hoo => ⟨rfl, by simp [hne B' (by rw [hoo]; simp)]⟩) d' g' c hc
  · intro d' g' B' h
    simp only at h
    split at h
    · rename_i hx; obtain ⟨rfl, rfl⟩ := hx; exact ⟨g', .cells vs, by simp [lget], Nat.le_refl _⟩
    · obtain ⟨g'', c, h1, h2⟩ := r.tie.tF _ _ _ h
      by_cases hdd : d' = d
      · subst hdd
        have : g = g'' + 1 := by rw [← hg]; simp [nextG, h1]
        exact ⟨g, .cells vs, by simp [lget], by omega⟩
      · exact ⟨g'', c, by simp [lget, hdd, h1], h2⟩
  · obtain ⟨h1, h2⟩ := r.D.2.2 D hD
    refine ⟨h1, ?_⟩
    have : D ≠ B := fun e => by subst e; rw [hw] at h1; cases h1
    simp [this, h2]
  · have := r.R
    revert this
    cases s.rd <;> cases ro <;> simp

/-- At the end the boxed variables are known. -/
theorem bxs_end {ro : Option Nat} {ds : List Nat} {nt : Nat} {a : Act} {w w0 : World} {o0 : Nat → Ow} (hB0 : B0 ≤ w0.heap.size) {V : Operand → Value} : ∀ (bs : List BX) {s s' : St} (_ : bxsA bs s = some s') {t : TS} {m : Mp} {o : Nat → Ow}
    (_ : ∀ b ∈ bs, ∀ b' ∈ bs, b'.v ≠ .tmp b.d) (_ : ∀ b ∈ bs, s.ev b.v = V b.v) (_ : SRel P B0 ro ds nt m o { s with t := t } a w) (_ : Keep o0 w0 o w) (_ : ∀ x, (∀ b ∈ bs, x ≠ b.d) → tget t x = tget s.t x)
    (_ : ∀ b ∈ bs, ∃ B, w0.heap.size ≤ B ∧ o B = .other ∧ a.tmps.getD b.d undef = .pointer (some ⟨B, 0, none⟩) ∧ ∃ arr te, w.heap[B]? = some (.cells arr te (0, 0)) ∧ LsRel m (V b.v).cells.toList arr.toList)
    (_ : bs.Pairwise (fun b b' => a.tmps.getD b.d undef ≠ a.tmps.getD b'.d undef)), ∃ m' o', m.le m' ∧ SRel P B0 ro ds nt m' o' s' a w ∧ Keep o0 w0 o' w
  | [], s, s', h, t, m, o, _, _, r, k, ht, _, _ => by
    cases h
    refine ⟨m, o, Mp.le_refl m, ⟨fun x => ?_, r.sz, r.tie, r.G, r.D, r.R⟩, k⟩
    rw [← ht x (by simp)]; exact r.T x
  | b :: bs, s, s', h, t, m, o, hvd, hV, r, k, ht, hB, hp => by
    simp only [bxsA] at h
    split at h
    rotate_left
    · cases h
    rename_i s1 h1
    unfold bxA at h1
    split at h1
    rotate_left
    · cases h1
    cases h1
    obtain ⟨B, b1, b2, b3, arr, te, b4, b5⟩ := hB b (by simp)
    obtain ⟨m1, hm1, r1⟩ := r.adopt (by omega) b2 b4 b5 b3
    obtain ⟨hp1, hp2⟩ := List.pairwise_cons.1 hp
    have hev : s.ev b.v = V b.v := hV b (by simp)
    rw [hev] at h
    have r1' : SRel P B0 ro ds nt m1 (fun B' => if B' = B then .loc b.d (nextG s.L b.d) else o B') { ({ s with t := (b.d, .pointer (some ⟨b.d, 0, some (nextG s.L b.d)⟩)) :: s.t, L := (b.d, nextG s.L b.d, .cells (V b.v).cells.toList) :: s.L } : St) with t := (b.d, .pointer (some ⟨b.d, 0, some (nextG s.L b.d)⟩)) :: t } a w := r1
    obtain ⟨m2, o2, c1, c2, c3⟩ := bxs_end (V := V) hB0 bs h (fun x hx y hy => hvd x (by simp [hx]) y (by simp [hy])) (fun b' hb' => by
        rw [← hV b' (by simp [hb'])]
        have hne := hvd b (by simp) b' (by simp [hb'])
        cases hbv : b'.v with
        | tmp x =>
          have hx : x ≠ b.d := fun e => hne (by rw [hbv, e])
          simp only [St.ev, tget, if_neg hx]
        | _ => rfl) r1' ⟨k.os, k.tape, k.output, k.size, fun B' hB' hoo => by
        obtain ⟨j1, j2⟩ := k.same B' hB' hoo
        exact ⟨j1, by simp [show B' ≠ B by omega, j2]⟩⟩ (fun x hx => by
        by_cases hxd : x = b.d
        · simp [tget, hxd]
        · simp only [tget, if_neg hxd]
          exact ht x fun b' hb' => by
            rcases List.mem_cons.1 hb' with rfl | hb'
            · exact hxd
            · exact hx b' hb') (fun b' hb' => by
        obtain ⟨B', d1, d2, d3, arr', te', d4, d5⟩ := hB b' (by simp [hb'])
        have hne : B' ≠ B := fun e => hp1 b' hb' (by rw [b3, d3, e])
        exact ⟨B', d1, by simp [hne, d2], d3, arr', te', d4, d5.mono hm1⟩) hp2
    exact ⟨m2, o2, Mp.le_trans hm1 c1, c2, c3⟩

theorem count_set : ∀ (xs : List Bool) (i : Nat) (_ : xs[i]? = some false), (xs.set i true).count false + 1 = xs.count false
  | [], i, h => by simp at h
  | x :: xs, 0, h => by
    simp only [List.getElem?_cons_zero, Option.some.injEq] at h
    subst h
    simp
  | x :: xs, i + 1, h => by
    have := count_set xs i (by simpa using h)
    simp only [List.set_cons_succ, List.count_cons]
    omega

/-- The operations of a region, in whatever order. -/
theorem any_sound {C : CallA} (hC : CSound P B0 C) {nt : Nat} {ops : Array Oper} {l : List (DK × SOp)} {bx : List BX} {ms : List Nat} {σ : Nat → St} (E : DEnv P C nt ops l bx ms σ) {F : Fence} (hF : ∀ f, F.fn f) (hd : F.depth = none) {n : Nat} {Q : Exit → Act → World → Prop}
    {ds : List Nat} {m0 : Mp} {o0 : Nat → Ow} {w0 : World} (hB0 : B0 ≤ w0.heap.size) (hQ : ∀ a w, DInv P B0 F.round ds nt m0 o0 w0 l bx σ (fun j => j < l.length) a w → Q .normal a w) : ∀ (fuel : Nat) (listed : Array Bool) (a : Act) (w : World), listed.size = ops.size → listed.toList.count false ≤ fuel →
    Closed ops.toList (fun j => listed.getD j false = true) → DInv P B0 F.round ds nt m0 o0 w0 l bx σ (fun j => listed.getD j false = true) a w → wpAnyIn F n P .any ops Q fuel listed a w := by
  have hall : ∀ (listed : Array Bool), listed.size = ops.size → Region.ready .any ops listed = [] → ∀ n j, j < n → j < l.length → listed.getD j false = true := by
    intro listed hsz hr n
    induction n with
    | zero => intro j h; omega
    | succ n ih =>
      intro j hj hjl
      cases hx : listed.getD j false with
      | true => rfl
      | false =>
        exfalso
        have hjs : j < ops.size := by rw [← E.len]; exact hjl
        have hmem : j ∈ Region.ready .any ops listed := by
          rw [mem_ready]
          refine ⟨?_, ops[j], by simp [hjs], fun e he hb => ?_⟩
          · rw [Array.getD_eq_getD_getElem?] at hx ⊢
            rw [Array.getElem?_eq_getElem (by omega)] at hx ⊢
            exact hx
          · have := E.hlt j (by simpa using hjs) e (by simpa using he) hb
            exact ih e.on (by omega) (by omega)
        rw [hr] at hmem; cases hmem
  have hdone : ∀ (listed : Array Bool) (a : Act) (w : World), listed.size = ops.size → Region.ready .any ops listed = [] → DInv P B0 F.round ds nt m0 o0 w0 l bx σ (fun j => listed.getD j false = true) a w → Q .normal a w := by
    intro listed a w hsz hr hI
    refine hQ a w ?_
    have : (fun j => listed.getD j false = true) = fun j => j < l.length := by
      funext j
      refine propext ⟨fun h => ?_, fun h => hall listed hsz hr (j + 1) j (by omega) h⟩
      rw [Array.getD_eq_getD_getElem?] at h
      by_cases hj : j < listed.size
      · have := E.len; omega
      · rw [Array.getElem?_eq_none (by omega)] at h; cases h
    rw [← this]; exact hI
  intro fuel
  induction fuel with
  | zero =>
    intro listed a w hsz hcnt hcl hI
    have hr : Region.ready .any ops listed = [] := by
      cases hx : Region.ready .any ops listed with
      | nil => rfl
      | cons i r =>
        exfalso
        have hi : i ∈ Region.ready .any ops listed := by rw [hx]; simp
        obtain ⟨h1, _⟩ := mem_ready.1 hi
        have hlt : i < listed.size := by
          by_cases h : i < listed.size
          · exact h
          · rw [Array.getD_eq_getD_getElem?, Array.getElem?_eq_none (by omega)] at h1; cases h1
        have h2 : listed[i] = false := by
          rw [Array.getD_eq_getD_getElem?, Array.getElem?_eq_getElem hlt] at h1; exact h1
        have h3 : listed.toList.count false = 0 := by omega
        rw [List.count_eq_zero] at h3
        exact h3 (by rw [← h2]; simp)
    exact ⟨hr, hdone listed a w hsz hr hI⟩
  | succ fuel ih =>
    intro listed a w hsz hcnt hcl hI
    refine ⟨fun hr => hdone listed a w hsz hr hI, fun i hi => ?_⟩
    obtain ⟨h1, oper, ho, hedges⟩ := mem_ready.1 hi
    have hlt : i < listed.size := by
      by_cases h : i < listed.size
      · exact h
      · rw [Array.getD_eq_getD_getElem?, Array.getElem?_eq_none (by omega)] at h1; cases h1
    have h2 : listed[i] = false := by
      rw [Array.getD_eq_getD_getElem?, Array.getElem?_eq_getElem hlt] at h1; exact h1
    have hil : i < l.length := by rw [E.len]; omega
    have hio : i < ops.toList.length := by simp; omega
    have hoe : ops.toList[i] = oper := by
      rw [Array.getElem?_eq_getElem (by omega)] at ho
      simpa using Option.some.inj ho
    have hn : ¬ (listed.getD i false = true) := by
      rw [Array.getD_eq_getD_getElem?, Array.getElem?_eq_getElem hlt]; simp [h2]
    have hr : ∀ e ∈ ops.toList[i].after.toList, bindE e = true → listed.getD e.on false = true := fun e he hb => hedges e (by rw [hoe] at he; simpa using he) hb
    have hcmp : ∀ j, j < l.length → j ≠ i → cmpB ms i j = true → (j < i → listed.getD j false = true) ∧ (i < j → ¬ (listed.getD j false = true)) := fun j hj hne hc =>
      cmp_ready E.hms E.hlt hcl hio (by simp; have := E.len; omega) hr hn (Ne.symm hne) hc
    have hset : ∀ j, (listed.setIfInBounds i true).getD j false = true ↔ (listed.getD j false = true ∨ j = i) := fun j => by
      rw [Array.getD_eq_getD_getElem?, Array.getElem?_setIfInBounds, Array.getD_eq_getD_getElem?]
      by_cases hji : i = j
      · subst hji; simp [hlt]
      · rw [if_neg hji]
        constructor
        · exact .inl
        · rintro (h | h)
          · exact h
          · exact absurd h.symm hji
    have hK : ∀ a' w', DInv P B0 F.round ds nt m0 o0 w0 l bx σ (fun j => listed.getD j false = true ∨ j = i) a' w' → wpAnyIn F n P .any ops Q fuel (listed.setIfInBounds i true) a' w' := by
      intro a' w' hI'
      refine ih _ a' w' (by simpa using hsz) ?_ ?_ ?_
      · have := count_set listed.toList i (by simp [hlt, h2])
        rw [Array.toList_setIfInBounds]
        omega
      · intro j hj hR e he hb
        rw [hset] at hR ⊢
        rcases hR with hR | rfl
        · exact .inl (hcl j hj hR e he hb)
        · exact .inl (hr e he hb)
      · have : (fun j => (listed.setIfInBounds i true).getD j false = true) = fun j => listed.getD j false = true ∨ j = i := funext fun j => propext (hset j)
        rw [this]; exact hI'
    cases hk : l[i].1 with
    | chain => exact step_chain hC E hF hd hI hil hn hcmp (by rw [hk]; rfl) hK
    | bar => exact step_chain hC E hF hd hI hil hn hcmp (by rw [hk]; rfl) hK
    | free => exact step_free hC E hF hd hI hil hn hcmp hk hK
    | late =>
      obtain ⟨b, hb, hbi⟩ := E.b6 i hil hk
      -- the setter waits for the maker
      have hwait : ∀ k, b.k = some k → ∃ hk' : k < ops.toList.length, (ms.getD k 0).testBit b.i = true := fun k hbk => by
        obtain ⟨hlt2, ⟨h3, e3⟩, _⟩ := E.b3 b hb k hbk
        obtain ⟨h4, e4, _⟩ := E.b1 b hb
        have := (E.p2 k b.i h3 h4 b.d (by omega) (by rw [e4]) (by rw [e3]; simp [SOp.look, SO.xs])).1
        unfold cmpB at this
        rw [if_neg (by omega)] at this
        exact ⟨by simp; have := E.len; omega, this⟩
      rcases hbi with hbi | hbi
      · subst hbi
        refine step_box E hF hI hB0 hb hn (fun k hbk hRk => ?_) hK
        obtain ⟨hk', hbit⟩ := hwait k hbk
        exact hn (mask_closed E.hms E.hlt hcl (k + 1) k (by omega) hk' (hcl k hk' hRk) b.i hbit)
      · obtain ⟨hk', hbit⟩ := hwait i hbi
        exact step_set E hF hI hB0 hb hbi hn (mask_closed E.hms E.hlt hcl (i + 1) i (by omega) hk' hr b.i hbit) (fun j _ hj => mask_closed E.hms E.hlt hcl (i + 1) i (by omega) hk' hr j hj) hK

/-- **A region that draws its order does what the abstract machine says of it.** -/
theorem draw_sound (hm : P.follows .mixedOrders = true) {C : CallA} (hC : CSound P B0 C) (hG : CGr C) : DSound P B0 C := by
  intro id nt ops l bx hc s s' h F hF hd n ds m o a w r
  obtain ⟨σ, hσ0, hσn, E, hvd⟩ := DEnv.of hG hc h
  refine wpIn_region_any hm (any_sound hC E hF hd (m0 := m) (o0 := o) (w0 := w) (ds := ds) r.tie.tH.low ?_ ops.size (Array.replicate ops.size false) a { w with drawn := w.drawn + 1 } (by simp) ?_ ?_ ?_)
  · -- the end
    rintro a' w' ⟨q, m1, o1, t, hq, hqR, hS, hKp, hm1, htv, ht0, htl, hB, hdist⟩
    have hsame := states_same E.ds q (l.length - q) (by omega) (fun j h a b => by
      cases hcc : isC l[j].1 with
      | false => rfl
      | true => have := (hqR j h hcc).2 h; omega)
    rw [show q + (l.length - q) = l.length by omega] at hsame
    have hlim := states_lim E.ds l.length (Nat.le_refl _)
    have hS' : SRel P B0 F.round ds nt m1 o1 { (σ l.length) with t := t } a' w' := by
      have e : ({ (σ l.length) with t := t } : St) = ⟨t, (σ q).L, (σ q).H, (σ 0).lim, (σ 0).rd⟩ := by rw [← hsame.1, ← hsame.2, ← hlim.1, ← hlim.2]
      rw [e]; exact hS
    have hview : ∀ x, (∀ b ∈ bx, x ≠ b.d) → tget t x = tget (σ l.length).t x := by
      intro x hx
      by_cases hw : ∃ j, ∃ h : j < l.length, l[j].2.dst = some x
      · obtain ⟨j, hj, hdj⟩ := hw
        have hnl : l[j].1 ≠ .late := fun e => by
          obtain ⟨b, hb, hbi⟩ := E.b6 j hj e
          rcases hbi with hbi | hbi
          · subst hbi
            obtain ⟨_, e1, _⟩ := E.b1 b hb
            rw [e1] at hdj
            exact hx b hb (Option.some.inj hdj).symm
          · obtain ⟨_, ⟨_, e3⟩, _⟩ := E.b3 b hb j hbi
            rw [e3] at hdj; cases hdj
        rw [htv j hj hj hnl x hdj]
        have e2 := states_t E.ds (x := x) (j + 1) (l.length - (j + 1)) (by omega) (fun j' h u v => .inr (E.p1 j j' hj h x (by omega) hdj))
        rw [show j + 1 + (l.length - (j + 1)) = l.length by omega] at e2
        exact e2.symm
      · rw [ht0 x fun j hj _ e => hw ⟨j, hj, e⟩]
        have e2 := states_t E.ds (x := x) 0 l.length (by omega) (fun j' h _ _ => .inr (fun e => hw ⟨j', h, e⟩))
        rw [Nat.zero_add] at e2
        exact e2.symm
    have hpw : bx.Pairwise (fun b b' => b.i < b'.i) := by
      unfold cDraw at hc
      split at hc
      · simp only at hc
        split at hc
        · simp only [Option.some.injEq, Prod.mk.injEq] at hc
          rw [← hc.2]
          refine List.pairwise_filterMap.2 (List.pairwise_lt_range.imp fun {x y} hxy b hb b' hb' => ?_)
          rw [(bxAt_spec hb).1, (bxAt_spec hb').1]
          exact hxy
        · cases hc
      · cases hc
    obtain ⟨m2, o2, c1, c2, c3⟩ := bxs_end (P := P) (V := (σ l.length).ev) r.tie.tH.low bx hσn hvd (fun _ _ => rfl) hS' hKp hview (fun b hb => by
        obtain ⟨B, k1, k2, k3, arr, te, k4, k5, k6⟩ := hB b hb (E.b1 b hb).1
        exact ⟨B, k1, k2, k3, arr, te, k4, k6 fun k hk => (E.b3 b hb k hk).2.1.1⟩) (hpw.imp_of_mem fun {b b'} hb hb' hlt => hdist b hb b' hb' (E.b1 b hb).1 (E.b1 b' hb').1 (by omega))
    exact ⟨trivial, m2, o2, ds, Mp.le_trans hm1 c1, c2, c3, fun _ h => .inr h⟩
  · simp
  · intro j hj hR
    simp at hR
    rw [Array.getElem?_replicate] at hR
    split at hR <;> simp at hR
  · have hno : ∀ j, ¬ ((Array.replicate ops.size false).getD j false = true) := fun j h => by
      rw [Array.getD_eq_getD_getElem?, Array.getElem?_replicate] at h
      split at h <;> simp at h
    refine ⟨0, m, o, s.t, by omega, fun j h _ => ⟨fun h => by omega, fun h => absurd h (hno j)⟩, ?_, ?_, Mp.le_refl m, fun j h hR => absurd hR (hno j), fun x _ => by rw [hσ0], fun j h hR => absurd hR (hno j), fun b _ hR => absurd hR (hno _), fun b _ b' _ hR => absurd hR (hno _)⟩
    · rw [hσ0]
      have : SRel P B0 F.round ds nt m o s a { w with drawn := w.drawn + 1 } := r.world (Nat.le_refl _) r.tie.tH.base fun _ _ _ => ⟨rfl, rfl⟩
      exact this
    · exact ⟨rfl, rfl, rfl, Nat.le_refl _, fun _ _ h => ⟨rfl, h⟩⟩

/-- **The abstract machine's calls are the model's.** -/
theorem all_sound (hm : P.follows .mixedOrders = true) (pf : PF) (hO : OrSound P B0 pf) (n : Nat) : CSound P B0 (apA P pf n) := apA_sound pf hO (fun _ hC hG => draw_sound hm hC hG) n
end Go.Proofs.YtjejcbiilimjkaaDoor
