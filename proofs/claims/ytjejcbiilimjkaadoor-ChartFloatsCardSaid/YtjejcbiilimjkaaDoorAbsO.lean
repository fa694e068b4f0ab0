/- Calls: what the abstract machine says of a call of a function, or of a round of a loop over a function, holds of the model's. -/
import Derived.Test.YtjejcbiilimjkaaDoorAbsM
import Derived.Test.YtjejcbiilimjkaaDoorAbsN
namespace Go.Proofs.YtjejcbiilimjkaaDoor
open Go Go.RowKit

variable {P : Program} {B0 : Nat}

theorem VRel.back {h h' : Nat → Option HI} {l l' : Nat → Nat → Option Nat} (hh : ∀ b i, h b = some i → h' b = some i) {v x : Value} (r : VRel ⟨h', l'⟩ v x) : ∀ {y : Value}, VRel ⟨h, l⟩ v y → VRel ⟨h, l'⟩ v x := by
  induction r with
  | any v => intro y _; exact .any v
  | sk => intro y _; exact .sk
  | bool b => intro y _; exact .bool b
  | int k n => intro y _; exact .int k n
  | float k n => intro y _; exact .float k n
  | complex k n n' => intro y _; exact .complex k n n'
  | string s => intro y _; exact .string s
  | ptrN => intro y _; exact .ptrN
  | ptr a a' ha =>
    intro y hy
    cases hy with
    | ptr _ a2 hb =>
      refine .ptr a a' ⟨ha.1, ?_⟩
      have h1 := ha.2
      have h2 := hb.2
      cases hs : a.spot with
      | none =>
        rw [hs] at h1 h2
        obtain ⟨i, e1, e2, e3⟩ := h1
        obtain ⟨j, f1, _, _⟩ := h2
        have := hh _ _ f1
        simp only at e1
        rw [e1] at this; cases this
        exact ⟨i, f1, e2, e3⟩
      | some g => rw [hs] at h1; exact h1
  | slN c a' c' hc ha => intro y _; exact .slN c a' c' hc ha
  | sl a a' n c c' i hs ha hi ht hle hc =>
    intro y hy
    have key : ∀ j, h a.block = some j → j = i := fun j e => by
      have := hh _ _ e
      simp only at hi
      rw [hi] at this; cases this; rfl
    cases hy with
    | sl _ a2 _ _ _ j hs2 hb hj _ _ _ =>
      have hj' := key j hj
      subst hj'
      refine .sl a a' n c c' j hs ⟨ha.1, ?_⟩ hj ht hle hc
      have h1 := ha.2
      rw [hs] at h1 ⊢
      obtain ⟨i2, e1, e2, e3⟩ := h1
      simp only at e1 hi
      rw [hi] at e1; cases e1
      exact ⟨j, hj, e2, e3⟩
  | map => intro y _; exact .map
  | chan => intro y _; exact .chan
  | nilF => intro y _; exact .nilF
  | func f f' x x' z z' hf hx hxs hz hzs ix iz =>
    intro y hy
    cases hy with
    | func _ f2 _ x2 _ z2 hf2 hx2 hxs2 hz2 hzs2 =>
      refine .func f f' x x' z z' ?_ hx (fun i a b => ix i a b (hxs2 i a (by omega))) hz (fun i a b => iz i a b (hzs2 i a (by omega)))
      cases hf with
      | func f => exact .func f
      | yield l i e =>
        cases hf2 with
        | yield _ j e2 =>
          have := hh _ _ e2
          simp only at e
          rw [e] at this; cases this
          exact .yield l i e2
  | iface t v v' r ih => intro y hy; cases hy with | iface _ _ v2 h2 => exact .iface t v v' (ih h2)
  | nilI => intro y _; exact .nilI
  | agg x x' hx hxs ih =>
    intro y hy
    cases hy with
    | agg _ x2 hx2 hxs2 => exact .agg x x' hx (fun i a b => ih i a b (hxs2 i a (by omega)))
  | tup x x' hx hxs ih =>
    intro y hy
    cases hy with
    | any => exact .any _
    | sk => exact .tup _ _ hx (fun i a b => by
        have : i = 0 := by simpa using a
        subst this; exact .any _)
    | tup _ x2 hx2 hxs2 => exact .tup x x' hx (fun i a b => ih i a b (hxs2 i a (by omega)))

theorem LsRel.back {h h' : Nat → Option HI} {l l' : Nat → Nat → Option Nat} (hh : ∀ b i, h b = some i → h' b = some i) {v x y : List Value} (r : LsRel ⟨h', l'⟩ v x) (k : LsRel ⟨h, l⟩ v y) : LsRel ⟨h, l'⟩ v x :=
  ⟨r.1, fun i a b => (r.2 i a b).back hh (k.2 i a (by have := k.1; omega))⟩

/-- Behind a call that has turned none of the blocks, what it made may be forgotten. -/
theorem WRel.back {h h' : Nat → Option HI} {o o' : Nat → Ow} {H H' : AH} {w w' : World} (r : WRel P B0 (Mp0 h) o H w) (hh : ∀ b i, h b = some i → h' b = some i) (r' : WRel P B0 (Mp0 h') o' H' w') (hg : Gr H.length H H') (hs : w.heap.size ≤ w'.heap.size) : WRel P B0 (Mp0 h) o' H w' where
  dom b i e := ⟨(r.dom b i e).1, Nat.lt_of_lt_of_le (r.dom b i e).2 hs⟩
  base := r'.base
  low := r'.low
  blk b i x e hx := by
    have hb := (r.dom b i e).1
    have h0 := r.blk b i x e hx
    have h1 := r'.blk b i x (hh b i e) ((hg.2 b hb hb).trans hx)
    cases x with
    | rw ee vs =>
      obtain ⟨_, _, _, _, _, arr0, te0, _, _, _, k0⟩ := h0
      obtain ⟨a1, a2, a3, a4, a5, arr, te, a6, a7, a8, a9⟩ := h1
      exact ⟨a1, a2, a3, a4, a5, arr, te, a6, a7, a8, a9.back hh k0⟩
    | ro vs =>
      obtain ⟨_, _, _, k0⟩ := h0
      obtain ⟨a1, a2, a3, a4⟩ := h1
      refine ⟨a1, a2, a3, fun j hj => ?_⟩
      obtain ⟨v0, _, q0⟩ := k0 j hj
      obtain ⟨v', q1, q2⟩ := a4 j hj
      exact ⟨v', q1, q2.back hh q0⟩
    | dead => trivial
    | loop rr =>
      obtain ⟨_, _, _, lp0, ml0, nt0, _, _, _, c4, c5, _⟩ := h0
      obtain ⟨a1, a2, a3, lp, ml, nt, b1, b2, b3, b4, b5, b6⟩ := h1
      refine ⟨a1, a2, a3, lp, ml, nt, b1, b2, b3, fun j => (b4 j).back hh (c4 j), ?_, b6⟩
      intro d g c hc
      have k0 := c5 d g c hc
      have k1 := b5 d g c hc
      cases c with
      | cells vs =>
        obtain ⟨B0', _, _, _, arr0, te0, _, q0⟩ := k0
        obtain ⟨B, q1, q2, q3, arr, te, q4, q5⟩ := k1
        exact ⟨B, q1, q2, q3, arr, te, q4, q5.back hh q0⟩
      | fwd b' =>
        obtain ⟨j0, q0, _, _⟩ := k0
        obtain ⟨j, q1, q2, q3⟩ := k1
        have := hh _ _ q0
        simp only [Mp0] at q1 q0
        rw [q1] at this; cases this
        exact ⟨_, q0, q2, q3⟩

theorem tget_tsOf : ∀ (l : List Value) (k i : Nat), tget (tsOf k l) i = if k ≤ i then l.getD (i - k) (.tuple #[]) else .tuple #[]
  | [], k, i => by simp [tsOf, tget]
  | v :: r, k, i => by
    rw [tsOf, tget, tget_tsOf r (k + 1) i]
    by_cases h : i = k
    · subst h; simp
    · rw [if_neg h]
      by_cases h2 : k + 1 ≤ i
      · rw [if_pos h2, if_pos (by omega), show i - k = (i - (k + 1)) + 1 by omega]; simp
      · rw [if_neg h2, if_neg (by omega)]

theorem TRel.start {m : Mp} {vs vs' : List Value} (h : LsRel m vs vs') (k : Nat) : TRel m (tsOf 0 vs) (vs'.toArray ++ Array.replicate k undef) := by
  intro i
  rw [tget_tsOf]
  simp only [Nat.zero_le, if_true, Nat.sub_zero]
  by_cases hi : i < vs.length
  · have hi' : i < vs'.length := by rw [← h.1]; exact hi
    have e1 : vs.getD i (.tuple #[]) = vs[i] := by simp [hi]
    have e2 : (vs'.toArray ++ Array.replicate k undef).getD i undef = vs'[i] := by
      rw [Array.getD_eq_getD_getElem?, Array.getElem?_append_left (by simpa using hi')]; simp [hi']
    rw [e1, e2]; exact h.2 i hi hi'
  · have e1 : vs.getD i (.tuple #[]) = .tuple #[] := by simp [hi]
    rw [e1]; exact .any _

def resOne (tmps : Array Value) (r : ResultVar) : Sem Value :=
  match r with
  | .tmp t => pure (tmps.getD t undef)
  | .cell a t => do loadVar t (← asAddr (tmps.getD a undef))

theorem results_eq (fn : Func) (tmps : Array Value) : results fn tmps = (do let vs ← fn.results.mapM (resOne tmps); pure (if h : vs.size = 1 then vs[0] else .tuple vs)) := by
  unfold results resOne; rfl

theorem run_mapM_cons {f : ResultVar → Sem Value} {r : ResultVar} {rs : List ResultVar} {w : World} {v : Value} {vs : List Value} (h : (f r).run P w = .ok v w) (k : (rs.mapM f).run P w = .ok vs w) : ((r :: rs).mapM f).run P w = .ok (v :: vs) w := by
  rw [List.mapM_cons, Sem.run_bind, h]
  simp only [Result.andThen_ok]
  rw [Sem.run_bind, k]
  rfl

theorem run_mapM_arr {f : ResultVar → Sem Value} {rs : Array ResultVar} {w : World} {vs : List Value} (k : (rs.toList.mapM f).run P w = .ok vs w) : (rs.mapM f).run P w = .ok vs.toArray w := by
  rw [Array.mapM_eq_mapM_toList, map_eq_pure_bind, Sem.run_bind, k]
  rfl

theorem results_run {m : Mp} {o : Nat → Ow} {s : St} {a : Act} {w : World} (hT : TRel m s.t a.tmps) (t : Tied P B0 m o s.L s.H w) : ∀ (rs : List ResultVar) {sr : List SR} {vs : List Value}, cRes P rs = some sr → resA s sr = some vs →
    ∃ vs', (rs.mapM (resOne a.tmps)).run P w = .ok vs' w ∧ LsRel m vs vs'
  | [], sr, vs, hc, h => by
    simp only [cRes, Option.some.injEq] at hc; subst hc
    simp only [resA, Option.some.injEq] at h; subst h
    exact ⟨[], by simp, LsRel.nil m⟩
  | .tmp x :: rs, sr, vs, hc, h => by
    simp only [cRes, Option.map_eq_some_iff] at hc
    obtain ⟨l, hl, rfl⟩ := hc
    simp only [resA, Option.map_eq_some_iff] at h
    obtain ⟨us, hu, rfl⟩ := h
    obtain ⟨vs', k1, k2⟩ := results_run hT t rs hl hu
    exact ⟨_, run_mapM_cons (v := a.tmps.getD x undef) rfl k1, LsRel.cons (hT x) k2⟩
  | .cell x ty :: rs, sr, vs, hc, h => by
    simp only [cRes] at hc
    split at hc
    · rename_i i de l hi hu hl
      cases hc
      have hv := hT x
      split at h
      · rename_i ha
        simp only [resA] at h
        split at h
        · rename_i p hp
          rw [hp] at hv
          split at h
          · rename_i us l' hus hl'
            cases h
            obtain ⟨vs', k1, k2⟩ := results_run hT t rs hl hl'
            generalize he : a.tmps.getD x undef = z at hv
            cases hv with
            | ptrN => simp at hus
            | ptr q q' hr =>
              obtain ⟨h0, ws, h1, h2⟩ := cellsAt_sound t.tL t.tH hr (by simpa using hus)
              have hag : (isAgg ty).run P w = .ok true w := by
                simp only [isAggT] at ha
                split at ha
                · rename_i fs hu; simp [isAgg, run_underlying hu]
                · rename_i n e hu; simp [isAgg, run_underlying hu]
                · cases ha
              have hl2 := run_loadCells_list (P := P) w q' ws h2
              rw [← h1.1, h0] at hl2
              refine ⟨_, run_mapM_cons (v := .agg ws.toArray) ?_ k1, LsRel.cons (VRel.aggL h1) k2⟩
              simp only [resOne, he, asAddr]
              simp [loadVar, hag, sizeOf, typeInfo, hi, hl2]
          · cases h
        · cases h
      · rename_i ha
        simp only [resA] at h
        split at h
        · rename_i p hp
          rw [hp] at hv
          split at h
          · rename_i u l' hus hl'
            cases h
            obtain ⟨vs', k1, k2⟩ := results_run hT t rs hl hl'
            generalize he : a.tmps.getD x undef = z at hv
            cases hv with
            | ptrN => simp at hus
            | ptr q q' hr =>
              obtain ⟨v', h1, h2⟩ := cellAt_sound t.tL t.tH hr (by simpa using hus)
              have hag : (isAgg ty).run P w = .ok false w := by
                simp only [isAggT, hu] at ha
                cases de <;> simp [isAgg, run_underlying hu] at ha ⊢
              refine ⟨_, run_mapM_cons (v := v') ?_ k1, LsRel.cons h2 k2⟩
              simp only [resOne, he, asAddr]
              simp [loadVar, hag, h1]
          · cases h
        · cases h
    · cases hc

theorem globs_nl : ∀ (vs : List Value) {L : LS} {H : AH} {us : List Value} {L' : LS} {H' : AH}, globs L H vs = some (us, L', H') → nlL us = true
  | [], L, H, us, L', H', h => by simp only [globs, Option.some.injEq, Prod.mk.injEq] at h; rw [← h.1]; rfl
  | v :: r, L, H, us, L', H', h => by
    simp only [globs] at h
    split at h
    · rename_i v' L1 H1 h1
      split at h
      · rename_i r' L2 H2 h2
        simp only [Option.some.injEq, Prod.mk.injEq] at h
        rw [← h.1]
        have := globs_nl r h2
        simp only [nlL, this, Bool.and_true]
        unfold glob at h1
        repeat' split at h1
        all_goals cases h1
        all_goals first | rfl | assumption | (rename_i hx; exact hx.2)
      · cases h
    · cases h

theorem scaL_get : ∀ (l : List Value), scaL l = true → ∀ i (h : i < l.length), sca l[i] = true
  | [], _, i, h => by simp at h
  | v :: r, k, 0, _ => by simp only [scaL, Bool.and_eq_true] at k; exact k.1
  | v :: r, k, i + 1, h => by simp only [scaL, Bool.and_eq_true] at k; exact scaL_get r k.2 i (by simpa using h)

theorem sca_rel {m m' : Mp} {v x : Value} (h : VRel m v x) : sca v = true → VRel m' v x := by
  induction h with
  | any v => intro _; exact .any v
  | sk => intro _; exact .sk
  | bool b => intro _; exact .bool b
  | int k n => intro _; exact .int k n
  | float k n => intro _; exact .float k n
  | complex k n n' => intro _; exact .complex k n n'
  | string s => intro _; exact .string s
  | ptrN => intro _; exact .ptrN
  | ptr a a' ha => intro h; simp [sca] at h
  | slN c a' c' hc ha => intro _; exact .slN c a' c' hc ha
  | sl a a' n c c' i hs ha hi ht hle hc => intro h; simp [sca] at h
  | map => intro _; exact .map
  | chan => intro _; exact .chan
  | nilF => intro _; exact .nilF
  | func f f' x x' z z' hf hx hxs hz hzs ix iz => intro h; simp [sca] at h
  | iface t v v' r ih => intro h; exact .iface t v v' (ih (by simpa [sca] using h))
  | nilI => intro _; exact .nilI
  | agg x x' hx hxs ih => intro h; rw [sca] at h; exact .agg x x' hx (fun i a b => ih i a b (by have := scaL_get _ h i (by simpa using a); rwa [Array.getElem_toList] at this))
  | tup x x' hx hxs ih => intro h; rw [sca] at h; exact .tup x x' hx (fun i a b => ih i a b (by have := scaL_get _ h i (by simpa using a); rwa [Array.getElem_toList] at this))

theorem pack_rel {m : Mp} {vs vs' : List Value} (h : LsRel m vs vs') : VRel m (packA vs) (if h : vs'.toArray.size = 1 then vs'.toArray[0] else .tuple vs'.toArray) := by
  have hl := h.1
  match vs, vs', h with
  | [], [], h => simp [packA]; exact .any _
  | [v], [v'], h => simp [packA]; exact h.head
  | v :: u :: r, v' :: u' :: r', h =>
    have : ¬ (v' :: u' :: r').toArray.size = 1 := by simp
    rw [dif_neg this]
    exact VRel.tupL h
  | [v], [], h => simp at hl
  | [v], _ :: _ :: _, h => simp at hl
  | _ :: _ :: _, [], h => simp at hl
  | _ :: _ :: _, [_], h => simp at hl
  | [], _ :: _, h => simp at hl

theorem nl_pack {vs : List Value} (h : nlL vs = true) : nl (packA vs) = true := by
  match vs, h with
  | [], _ => rfl
  | [v], h => simpa [nlL, packA] using h
  | v :: u :: r, h => simpa [packA, nl] using h

/-- What a function owes when its frame goes: the marks are taken. -/
theorem marks_leave {F : Fence} {n : Nat} {fn : Func} {tmps : Array Value} {R : Ending → World → Prop} : ∀ (ds : List Nat) (w : World), ds.Nodup → (∀ D ∈ ds, w.heap[D]? = some (.deferred (some []))) →
    (∀ w', w'.os = w.os → w'.tape = w.tape → w'.output = w.output → w'.heap.size = w.heap.size → (∀ B, B ∉ ds → w'.heap[B]? = w.heap[B]?) → ∃ v, (results fn tmps).run P w' = .ok v w' ∧ R (.returned v) w') →
    LeavesInM F n P fn tmps R (ds.map (fun D => { target := .collected D, args := #[] })) .returning w
  | [], w, _, _, h => h w rfl rfl rfl rfl (fun _ _ => rfl)
  | D :: ds, w, hn, hD, h => by
    refine ⟨by simp, .inl ⟨D, w.putObj D (.deferred none), rfl, run_takeDeferred (hD D (by simp)), ?_⟩⟩
    obtain ⟨h1, h2⟩ := List.nodup_cons.1 hn
    refine marks_leave ds _ h2 (fun D' hD' => ?_) fun w' k1 k2 k3 k4 k5 => ?_
    · rw [World.putObj_heap_other (fun e => h1 (by rw [← e]; exact hD'))]; exact hD D' (by simp [hD'])
    · refine h w' k1 k2 k3 (by rw [k4]; simp) fun B hB => ?_
      simp only [List.mem_cons, not_or] at hB
      rw [k5 B hB.2, World.putObj_heap_other hB.1]

/-- A call of a function of the program. -/
theorem func_sound {n : Nat} {pf : PF} (ih : CSound P B0 (apA P pf n)) (hG : CGr (apA P pf n)) (hD : DSound P B0 (apA P pf n)) {f : FuncId} {first cap : Array Value} {vs : List Value} {lim : Nat} {H : AH} {v : Value} {H' : AH}
    (hor : orcA pf f first cap vs = none) (hcall : apA P pf (n + 1) (.func (.func f) first cap) vs lim H = some (v, H')) : nl v = true ∧ ∀ h o w, WRel P B0 (Mp0 h) o H w → (∀ B d g, o B ≠ .loc d g) → GRel P (Mp0 h) → ∀ fv', VRel (Mp0 h) (.func (.func f) first cap) fv' → ∀ vs', LsRel (Mp0 h) vs vs' → nlL vs = true →
    ∀ F : Fence, (∀ f, F.fn f) → F.depth = none → ∀ k, ∃ fn first cap, fv' = .func fn first cap ∧ ∃ nx, (invoke (.fn fn cap) (first ++ vs'.toArray)).run P w = .ok nx w ∧
      (∃ f args, nx = .enter f args ∧ CallsIn F k P f args w (CPost P B0 h o w v H')) := by
  simp only [apA, hor] at hcall
  split at hcall
  · cases hcall
  rename_i sf hsf
  split at hcall
  · cases hcall
  · rename_i e s hne hx
    split at hcall
    rotate_left
    · cases hcall
    rename_i us hus
    split at hcall
    rotate_left
    · cases hcall
    rename_i us' L2 H2 hgl
    simp only [Option.some.injEq, Prod.mk.injEq] at hcall
    obtain ⟨rfl, rfl⟩ := hcall
    unfold cFun at hsf
    split at hsf
    · cases hsf
    rename_i fn hfn
    split at hsf
    · cases hsf
    rename_i hname
    split at hsf
    · cases hsf
    rename_i c hbody
    split at hsf
    rotate_left
    · cases hsf
    rename_i b r hcc hcr
    cases hsf
    have hnl : nl (packA us') = true ∧ True := ⟨by
      exact nl_pack (globs_nl _ hgl), trivial⟩
    refine ⟨hnl.1, fun h o w hW hno hGR fv' hfv vs' hvs hn F hF hd k => ?_⟩
    cases hfv with
    | func _ f' _ first' _ cap' hf hx1 hxs1 hy1 hys1 =>
    cases hf
    refine ⟨_, first', cap', rfl, .enter f (first' ++ vs'.toArray ++ cap'), ?_, _, _, rfl, ?_⟩
    · simp [invoke, callFunc, hfn, hbody]
      simpa using hname
    · have key : CallsIn F.plain k P f (first' ++ vs'.toArray ++ cap') w (CPost P B0 h o w (packA us') (if (pf f && sca (packA us')) = true then H else H2)) := by
        refine callsIn_of_wp_marks hfn hbody (hF f) ?_ rfl
        have hargs : LsRel (Mp0 h) (first.toList ++ vs ++ cap.toList) (first'.toList ++ vs' ++ cap'.toList) := ((LsRel.of_array hx1 hxs1).append hvs).append (LsRel.of_array hy1 hys1)
        have hT := TRel.start hargs (fn.ntmps - (first' ++ vs'.toArray ++ cap').size)
        have etm : (first'.toList ++ vs' ++ cap'.toList).toArray = first' ++ vs'.toArray ++ cap' := by apply Array.ext'; simp
        rw [etm] at hT
        have r0 : SRel P B0 F.plain.round [] fn.ntmps (Mp0 h) o ⟨tsOf 0 (first.toList ++ vs ++ cap.toList), [], H, if pf f then H.length else lim, none⟩ { tmps := first' ++ vs'.toArray ++ cap' ++ Array.replicate (fn.ntmps - (first' ++ vs'.toArray ++ cap').size) undef, defers := [] } w := by
          refine ⟨hT, by simp; omega, ⟨hW, ?_, ?_⟩, hGR, ⟨rfl, List.nodup_nil, by simp⟩, trivial⟩
          · intro d g c hc; simp [lget] at hc
          · intro d g B hc; simp [Mp0] at hc
        refine wpIn_mono (exA_sound ih hD (F := F.plain) hF hd n n (Nat.le_refl _) b _ s e hx c hcc [] (Mp0 h) o _ w r0) fun ex a' w' hp => ?_
        obtain ⟨p1, m', o', ds', p2, p3, p4, p5⟩ := hp
        have fin : LeavesInM F.plain k P fn a'.tmps (CPost P B0 h o w (packA us') (if (pf f && sca (packA us')) = true then H else H2)) a'.defers .returning w' := by
          rw [p3.D.1]
          refine marks_leave ds' w' p3.D.2.1 (fun D hD => (p3.D.2.2 D hD).1) fun w2 q1 q2 q3 q4 q5 => ?_
          have hother : ∀ D ∈ ds', o' D = .other := fun D hD => (p3.D.2.2 D hD).2
          have hnb : ∀ D ∈ ds', w.heap.size ≤ D := fun D hD => by rcases p5 D hD with h | h; · exact h
                                                                  · simp at h
          have t2 : Tied P B0 m' o' s.L s.H w2 := by
            refine ⟨p3.tie.tH.keep rfl (fun _ _ _ h => h) (by omega) p3.tie.tH.base fun B hB ho => ⟨q5 B fun hD => ?_, rfl⟩, p3.tie.tL.keep (Mp.le_refl m') fun B d g hB ho => ⟨q5 B fun hD => ?_, rfl⟩, p3.tie.tF⟩
            · rcases ho with ho | ⟨b, ho⟩ | ⟨b, d, g, ho⟩
              · have := hnb B hD; have := hW.low; omega
              · rw [hother B hD] at ho; cases ho
              · rw [hother B hD] at ho; cases ho
            · rw [hother B hD] at ho; cases ho
          obtain ⟨us2, k1, k2⟩ := results_run p3.T t2 fn.results.toList hcr hus
          obtain ⟨m3, o3, c1, c2, c3, c4, c5, c6, c7⟩ := globs_sound t2.tH t2.tL t2.tF k2 hgl
          have hrun : (results fn a'.tmps).run P w2 = .ok (if h : us2.toArray.size = 1 then us2.toArray[0] else .tuple us2.toArray) w2 := by
            rw [results_eq, Sem.run_bind, run_mapM_arr k1]
            rfl
          refine ⟨_, hrun, _, rfl, ?_⟩
          have hv := pack_rel c2
          have hK : Keep o w (ownIn o3) w2 := by
            refine ⟨q1.trans p4.os, q2.trans p4.tape, q3.trans p4.output, by rw [q4]; exact p4.size, fun B hB ho => ?_⟩
            obtain ⟨u1, u2⟩ := p4.same B hB ho
            obtain ⟨u3, u4⟩ := c7.same B (by rw [q4]; exact Nat.lt_of_lt_of_le hB p4.size) u2
            refine ⟨(q5 B fun hD => ?_).trans u1, by simp [ownIn, u4, Ow.clean]⟩
            have := hnb B hD; omega
          have hh : ∀ b i, h b = some i → m3.h b = some i := fun b i e => c1.1 _ _ (p2.1 _ _ e)
          by_cases hps : (pf f && sca (packA us')) = true
          · rw [if_pos hps]
            simp only [Bool.and_eq_true] at hps
            have hgr : Gr H.length H H2 := by
              obtain ⟨g1, _, _⟩ := exA_Gr hG hx
              simp only [hps.1, if_true] at g1
              exact g1.trans (globs_Gr hgl _)
            refine ⟨h, ownIn o3, fun _ _ h => h, ?_, hW.back hh (c4.ownIn.relabel) hgr (by rw [q4]; exact p4.size), hK⟩
            exact sca_rel hv hps.2
          · rw [if_neg hps]
            exact ⟨m3.h, ownIn o3, hh, hv.nl_of hnl.1, c4.ownIn.relabel, hK⟩
        cases ex with
        | normal => exact fin
        | ret => exact fin
        | exit i =>
          cases e <;> simp only [exEq] at p1
          exact hne _ rfl
        | goto i => cases e <;> simp only [exEq] at p1
        | panic ch => cases e <;> simp only [exEq] at p1
        | outgrown => cases e <;> simp only [exEq] at p1
      exact key
  · cases hcall
end Go.Proofs.YtjejcbiilimjkaaDoor
