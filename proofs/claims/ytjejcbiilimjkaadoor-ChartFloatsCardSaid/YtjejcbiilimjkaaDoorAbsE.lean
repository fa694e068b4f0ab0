/- What one operation of the abstract machine does, the model's operation does. -/
import Derived.Test.YtjejcbiilimjkaaDoorAbsD
import Derived.WalkKit
namespace Go.Proofs.YtjejcbiilimjkaaDoor
open Go Go.RowKit

variable {P : Program} {B0 : Nat} {m : Mp} {o : Nat → Ow} {L : LS} {H : AH} {w : World}

/-- All package-level variables stand in the abstract heap under their own numbers. -/
def GRel (P : Program) (m : Mp) : Prop := ∀ g, g < P.globals.size → ∃ t, m.h g = some ⟨g, 0, 0, t, none⟩
theorem GRel.mono {m m' : Mp} (h : m.le m') (r : GRel P m) : GRel P m' := fun g hg => let ⟨t, e⟩ := r g hg; ⟨t, h.1 _ _ e⟩

def Eff (P : Program) (B0 : Nat) (m : Mp) (o : Nat → Ow) (w : World) (v : Value) (L' : LS) (H' : AH) (v' : Value) (w' : World) : Prop :=
  ∃ m' o', m.le m' ∧ VRel m' v v' ∧ LRel B0 m' o' .loc L' w' ∧ LFresh m' L' ∧ WRel P B0 m' o' H' w' ∧ Keep o w o' w'

theorem Eff.pure (hL : LRel B0 m o .loc L w) (hF : LFresh m L) (hH : WRel P B0 m o H w) {v v' : Value} (h : VRel m v v') : Eff P B0 m o w v L H v' w :=
  ⟨m, o, Mp.le_refl m, h, hL, hF, hH, Keep.refl o w⟩

theorem add_eq (b n k : Nat) : (⟨b, n, none⟩ : Addr).add k = ⟨b, n + k, none⟩ := by unfold Addr.add; split <;> simp_all

theorem addr_add {a : Addr} (h : a.spot = none) (k : Nat) : a.add k = ⟨a.block, a.off + k, none⟩ := by
  obtain ⟨b, n, s⟩ := a; simp at h; subst h; exact add_eq b n k

theorem ARel.add {a a' : Addr} (h : ARel m a a') (k : Nat) : ARel m (aadd a k) (a'.add k) := by
  obtain ⟨h1, h2⟩ := h
  rw [addr_add h1]
  refine ⟨rfl, ?_⟩
  simp only [aadd]
  split at h2
  · obtain ⟨i, e1, e2, e3⟩ := h2; exact ⟨i, e1, e2, by simp [e3, Nat.add_assoc]⟩
  · exact ⟨h2.1, by simp [h2.2]⟩

theorem hcell_sound (hH : WRel P B0 m o H w) {b i : Nat} {hi : HI} (hm : m.h b = some hi) {v : Value} (h : hcell H b i = some v) :
    ∃ v', w.cell? ⟨hi.blk, hi.off + i, none⟩ = some v' ∧ VRel m v v' := by
  unfold hcell at h
  split at h
  · rename_i e vs hb
    obtain ⟨h1, h2, h3, h4, h5, arr, te, h6, h7, h8, h9⟩ := hH.blk b hi _ hm hb
    obtain ⟨hlt, rfl⟩ := List.getElem?_eq_some_iff.1 h
    have hl := h9.1
    refine ⟨arr[i]'(by omega), by simp [World.cell?, h6, h1, show i < arr.size by omega], ?_⟩
    have := h9.2 i hlt (by simp; omega)
    simpa using this
  · rename_i vs hb
    obtain ⟨h1, h2, h3, h4⟩ := hH.blk b hi _ hm hb
    obtain ⟨hlt, rfl⟩ := List.getElem?_eq_some_iff.1 h
    exact h4 i hlt
  · cases h

theorem cellAt_sound (hL : LRel B0 m o .loc L w) (hH : WRel P B0 m o H w) {a a' : Addr} (ha : ARel m a a') {v : Value} (h : cellAt L H a = some v) :
    ∃ v', w.cell? a' = some v' ∧ VRel m v v' := by
  obtain ⟨h1, h2⟩ := ha
  obtain ⟨b', n', s'⟩ := a'
  simp only at h1 h2; subst h1
  unfold cellAt at h
  cases hs : a.spot with
  | none =>
    rw [hs] at h h2
    obtain ⟨i, e1, rfl, rfl⟩ := h2
    exact hcell_sound hH e1 h
  | some g =>
    rw [hs] at h h2
    obtain ⟨e1, rfl⟩ := h2
    simp only at h
    split at h
    · rename_i g' vs hg
      split at h
      · rename_i hgg; subst hgg
        obtain ⟨B, k1, k2, k3, arr, te, k4, k5⟩ := hL _ _ _ hg
        rw [e1] at k1; cases k1
        obtain ⟨hlt, rfl⟩ := List.getElem?_eq_some_iff.1 h
        have hl := k5.1
        simp only [Array.length_toList] at hl
        refine ⟨arr[a.off]'(by omega), by simp [World.cell?, k4, show a.off < arr.size by omega], ?_⟩
        have := k5.2 a.off hlt (by simpa using (by omega))
        simpa using this
      · cases h
    · rename_i g' b hg
      split at h
      · rename_i hgg; subst hgg
        obtain ⟨i, k1, k2, k3⟩ := hL _ _ _ hg
        rw [e1] at k3; cases k3
        have := hcell_sound hH k1 h
        rwa [k2, Nat.zero_add] at this
      · cases h
    · cases h

theorem cellsAt_sound (hL : LRel B0 m o .loc L w) (hH : WRel P B0 m o H w) : ∀ {n : Nat} {a a' : Addr} (_ : ARel m a a') {vs : List Value} (_ : cellsAt L H a n = some vs),
    vs.length = n ∧ ∃ vs', LsRel m vs vs' ∧ ∀ j v, vs'[j]? = some v → w.cell? (a'.add j) = some v
  | 0, a, a', ha, vs, h => by simp [cellsAt] at h; subst h; exact ⟨rfl, [], LsRel.nil m, by simp⟩
  | n + 1, a, a', ha, vs, h => by
    unfold cellsAt at h
    split at h
    · rename_i v r h1 h2
      obtain ⟨k1, vs', k2, k3⟩ := cellsAt_sound hL hH (ha.add 1) h2
      obtain ⟨v', k4, k5⟩ := cellAt_sound hL hH ha h1
      cases h
      refine ⟨by simp [k1], v' :: vs', LsRel.cons k5 k2, fun j u hj => ?_⟩
      cases j with
      | zero => simp at hj; subst hj; rw [show a'.add 0 = a' by simp [Addr.add]]; exact k4
      | succ j =>
        have := k3 j u (by simpa using hj)
        rw [addr_add ha.1 1, add_eq] at this
        rw [addr_add ha.1]
        rwa [show a'.off + (j + 1) = a'.off + 1 + j by omega]
    · cases h

/-- A new block in the world, that a new block of the abstract heap stands for. -/
theorem WRel.push (hH : WRel P B0 m o H w) (hL : LRel B0 m o .loc L w) {w2 : World} (h1 : w2.os = w.os) (h2 : w2.tape = w.tape) (h3 : w2.output = w.output) (arr : Array Value) (te : TypeId)
    (h4 : w2.heap = w.heap.push (.cells arr te (0, 0))) (e : Nat) (vs : List Value) (hn : nlL vs = true) (hle : vs.length ≤ arr.size) (hr : LsRel m vs (arr.toList.take vs.length)) :
    ∃ m' o', m' = ⟨fun b => if b = H.length then some ⟨w.heap.size, 0, e, arr.size, none⟩ else m.h b, m.l⟩ ∧ m.le m' ∧ WRel P B0 m' o' (H ++ [.rw e vs]) w2 ∧ LRel B0 m' o' .loc L w2 ∧ Keep o w o' w2 := by
  have hd : m.h H.length = none := by
    cases hx : m.h H.length with
    | none => rfl
    | some i => exact absurd (hH.dom _ _ hx).1 (Nat.lt_irrefl _)
  have hle' : m.le ⟨fun b => if b = H.length then some ⟨w.heap.size, 0, e, arr.size, none⟩ else m.h b, m.l⟩ := by
    refine ⟨fun b i h => ?_, fun d g B h => h⟩
    by_cases hb : b = H.length
    · subst hb; rw [hd] at h; cases h
    · simpa [hb] using h
  have hs2 : w2.heap.size = w.heap.size + 1 := by rw [h4]; simp
  have hold : ∀ B, B < w.heap.size → w2.heap[B]? = w.heap[B]? := fun B hB => by rw [h4, Array.getElem?_push, if_neg (by omega)]
  refine ⟨_, fun B => if B = w.heap.size then .heap H.length else o B, rfl, hle', ?_, ?_, ?_⟩
  · refine ⟨fun b i h => ?_, fun B hB => ?_, by have := hH.low; omega, fun b i x h hx => ?_⟩
    · by_cases hb : b = H.length
      · subst hb; simp at h; subst h; simp; omega
      · simp [hb] at h; have := hH.dom b i h; simp; omega
    · have := hH.low; simp [show B ≠ w.heap.size by omega]; exact hH.base B hB
    · by_cases hb : b = H.length
      · subst hb
        simp at h; subst h
        simp at hx; subst hx
        exact ⟨rfl, rfl, hH.low, by simp, hn, arr, te, by rw [h4]; simp, rfl, hle, hr.mono hle'⟩
      · simp [hb] at h
        have hlt := (hH.dom b i h).1
        rw [List.getElem?_append_left hlt] at hx
        refine (hH.blk b i x h hx).keep hle' fun B hB _ => ⟨hold B hB, by simp [show B ≠ w.heap.size by omega]⟩
  · exact hL.keep hle' fun B d g hB _ => ⟨hold B hB, by simp [show B ≠ w.heap.size by omega]⟩
  · exact ⟨h1, h2, h3, by omega, fun B hB ho => ⟨hold B hB, by simp [show B ≠ w.heap.size by omega]; exact ho⟩⟩

theorem LFresh.same_l {m m' : Mp} (h : m'.l = m.l) (r : LFresh m L) : LFresh m' L := fun d g B e => r d g B (by rw [← h]; exact e)

/-- A new block in the world, that a box stands for. -/
theorem LRel.box (hH : WRel P B0 m o H w) (hL : LRel B0 m o .loc L w) (hF : LFresh m L) (d : Nat) (arr : Array Value) (te : TypeId) (vs : List Value) (hr : LsRel m vs arr.toList)
    (g : Nat) (hg : g = match lget L d with | some (g, _) => g + 1 | none => 0) :
    Eff P B0 m o w (.pointer (some ⟨d, 0, some g⟩)) ((d, g, .cells vs) :: L) H (.pointer (some ⟨w.heap.size, 0, none⟩)) (w.alloc (.cells arr te)) := by
  have hfree : m.l d g = none := by
    cases hx : m.l d g with
    | none => rfl
    | some B =>
      obtain ⟨g', c, h1, h2⟩ := hF _ _ _ hx
      rw [h1] at hg; simp at hg; omega
  have hm : m.le ⟨m.h, fun d' g' => if d' = d ∧ g' = g then some w.heap.size else m.l d' g'⟩ := by
    refine ⟨fun _ _ h => h, fun d' g' B h => ?_⟩
    by_cases hx : d' = d ∧ g' = g
    · obtain ⟨rfl, rfl⟩ := hx; rw [hfree] at h; cases h
    · simpa [hx] using h
  have hold : ∀ B, B < w.heap.size → (w.alloc (.cells arr te)).heap[B]? = w.heap[B]? := fun B hB => Below.heap_alloc _ _ _ hB
  have hne : ∀ B, B < w.heap.size → B ≠ w.heap.size := fun B hB => Nat.ne_of_lt hB
  refine ⟨_, fun B => if B = w.heap.size then .loc d g else o B, hm, .ptr _ _ ⟨rfl, by simp⟩, ?_, ?_, ?_, ?_⟩
  · intro d' g' c hc
    rw [lget] at hc
    split at hc
    · rename_i hd; subst hd
      simp only [Option.some.injEq, Prod.mk.injEq] at hc
      obtain ⟨rfl, rfl⟩ := hc
      exact ⟨w.heap.size, by simp, by simp, hH.low, arr, te, World.alloc_heap_new w _, hr.mono hm⟩
    · have := hL.keep (o' := fun B => if B = w.heap.size then .loc d g else o B) hm (fun B d g hB _ => ⟨hold B hB, by simp [hne B hB]⟩) d' g' c hc
      exact this
  · intro d' g' B h
    simp only at h
    split at h
    · rename_i hx; obtain ⟨rfl, rfl⟩ := hx; exact ⟨g', .cells vs, by simp [lget], Nat.le_refl _⟩
    · obtain ⟨g'', c, h1, h2⟩ := hF _ _ _ h
      by_cases hd : d' = d
      · subst hd; rw [h1] at hg; simp at hg; exact ⟨g, .cells vs, by simp [lget], by omega⟩
      · exact ⟨g'', c, by simp [lget, hd, h1], h2⟩
  · exact hH.keep rfl hm.2 (by simp) (fun B hB => by have := hH.low; simp [show B ≠ w.heap.size by omega]; exact hH.base B hB) (fun B hB _ => ⟨hold B hB, by simp [hne B hB]⟩)
  · exact ⟨rfl, rfl, rfl, by simp, fun B hB ho => ⟨hold B hB, by simp [hne B hB]; exact ho⟩⟩

theorem CRel.ne {ow ow' : Ow} {B B' : Nat} (h : o B = ow) (h' : o B' = ow') (hne : ow ≠ ow') : B ≠ B' := fun e => hne (by rw [← h, ← h', e])

theorem oneC_eq (v : Value) : oneC v = v.oneCell' := by cases v <;> rfl

theorem over_get (ws : List Value) : ∀ (a : List Value) (k j : Nat), (over a k ws)[j]? = if k ≤ j ∧ j < k + ws.length ∧ j < a.length then ws[j - k]? else a[j]? := by
  induction ws with
  | nil => intro a k j; rw [over, if_neg]; simp; omega
  | cons w ws ih =>
    intro a k j
    rw [over, ih, List.length_set, List.length_cons]
    by_cases hj : j = k
    · subst hj
      rw [if_neg (by omega), List.getElem?_set]
      by_cases hl : j < a.length
      · rw [if_pos rfl, if_pos hl, if_pos (by omega)]; simp
      · rw [if_pos rfl, if_neg hl, if_neg (by omega), List.getElem?_eq_none (by omega)]
    · by_cases hc : k + 1 ≤ j ∧ j < k + 1 + ws.length ∧ j < a.length
      · rw [if_pos hc, if_pos (by omega), show j - k = (j - (k + 1)) + 1 by omega, List.getElem?_cons_succ]
      · rw [if_neg hc, if_neg (by omega), List.getElem?_set_ne (by omega)]

/-- Cells are written: the abstract list is written over. -/
theorem take_over (ws a : List Value) (k : Nat) (h : k + ws.length ≤ a.length) : over a k ws = a.take k ++ ws ++ a.drop (k + ws.length) := by
  apply List.ext_getElem?
  intro j
  rw [over_get]
  by_cases h1 : j < k
  · rw [if_neg (by omega), List.append_assoc, List.getElem?_append_left (by simp; omega), List.getElem?_take_of_lt h1]
  · by_cases h2 : j < k + ws.length
    · rw [if_pos (by omega), List.getElem?_append_left (by simp; omega), List.getElem?_append_right (by simp; omega)]
      simp [show min k a.length = k by omega]
    · rw [if_neg (by omega), List.getElem?_append_right (by simp; omega), List.getElem?_drop]
      congr 1
      simp; omega

theorem over_take (ws a : List Value) (k n : Nat) (h : k + ws.length ≤ n) : (over a k ws).take n = over (a.take n) k ws := by
  apply List.ext_getElem?
  intro j
  rw [List.getElem?_take, over_get, over_get]
  by_cases hj : j < n
  · simp only [hj, if_true, List.length_take, List.getElem?_take]
    by_cases hc : k ≤ j ∧ j < k + ws.length ∧ j < a.length
    · rw [if_pos hc, if_pos (by omega)]
    · rw [if_neg hc, if_neg (by omega)]
  · rw [if_neg hj, if_neg (by omega), List.getElem?_take, if_neg hj]

theorem LsRel.all_oneC {m : Mp} {ws ws' : List Value} (h : LsRel m ws ws') (h1 : ws.all oneC = true) : ∀ v ∈ ws', v.oneCell' = true := by
  intro v hv
  obtain ⟨j, hj, rfl⟩ := List.getElem_of_mem hv
  have hj' : j < ws.length := by rw [h.1]; exact hj
  have hr := h.2 j hj' hj
  have ho : oneC ws[j] = true := List.all_eq_true.1 h1 _ (List.getElem_mem _)
  generalize ws[j] = a at hr ho
  generalize ws'[j] = b at hr
  cases hr <;> first | rfl | simp [oneC] at ho

/-- A store into a row of the abstract heap. -/
theorem hstore_sound (hH : WRel P B0 m o H w) (hL : LRel B0 m o .loc L w) {lim b off : Nat} {ws ws' : List Value} {H' : AH} {i : HI} (hi : m.h b = some i) (h : hstore H lim b off ws = some H') (hr : LsRel m ws ws') (h1 : ws.all oneC = true) :
    ∃ w', (storeCells ⟨i.blk, i.off + off, none⟩ ws').run P w = .ok () w' ∧ WRel P B0 m o H' w' ∧ LRel B0 m o .loc L w' ∧ Keep o w o w' := by
  unfold hstore at h
  split at h
  · rename_i e vs hb
    split at h
    · rename_i hc
      cases h
      obtain ⟨c1, c2, c3⟩ := hc
      obtain ⟨k1, k2, k3, k4, k5, arr, te, k6, k7, k8, k9⟩ := hH.blk b i _ hi hb
      have hlw := hr.1
      have hrun := run_storeCells_at P i.blk (i.off + off) te ws' 0 arr w k6 (by omega) (hr.all_oneC h1)
      simp only [Nat.add_zero, k1, Nat.zero_add] at hrun
      rw [k1, Nat.zero_add]
      refine ⟨_, hrun, ?_, ?_, ?_⟩
      · refine ⟨fun b' i' h => ?_, hH.base, by simpa using hH.low, fun b' i' x h hx => ?_⟩
        · have := hH.dom b' i' h; simpa using this
        · by_cases hbb : b' = b
          · subst hbb
            rw [hi] at h; cases h
            rw [List.getElem?_set_self (List.getElem?_eq_some_iff.1 hb).1] at hx
            cases hx
            refine ⟨k1, k2, k3, k4, nlL_over c3 k5 off, _, te, setRow_heap w i.blk arr _ te _ k6, ?_, ?_, ?_⟩
            · simp; omega
            · rw [over_length]; simp; omega
            · simp only [over_length]
              rw [← take_over ws' arr.toList off (by simp; omega), over_take _ _ _ _ (by omega)]
              exact LsRel.over hr k9 off
          · rw [List.getElem?_set_ne (by omega)] at hx
            refine (hH.blk b' i' x h hx).keep (Mp.le_refl m) fun B hB ho => ⟨setRow_other w i.blk B _ ?_, rfl⟩
            rcases ho with ho | ho | ⟨d, g, ho⟩
            · omega
            · intro e; subst e; rw [k4] at ho; cases ho; exact hbb rfl
            · intro e; subst e; rw [k4] at ho; cases ho
      · exact hL.keep (Mp.le_refl m) fun B d g hB ho => ⟨setRow_other w i.blk B _ (fun e => by subst e; rw [k4] at ho; cases ho), rfl⟩
      · exact ⟨rfl, rfl, rfl, by simp, fun B hB ho => ⟨setRow_other w i.blk B _ (fun e => by subst e; rw [k4] at ho; cases ho), ho⟩⟩
    · cases h
  · cases h

theorem storeAt_sound {s : St} (hH : WRel P B0 m o s.H w) (hL : LRel B0 m o .loc s.L w) (hF : LFresh m s.L) {a a' : Addr} (ha : ARel m a a') {ws ws' : List Value} {L' : LS} {H' : AH} (h : storeAt s a ws = some (L', H')) (hr : LsRel m ws ws') :
    ∃ w', (storeCells a' ws').run P w = .ok () w' ∧ WRel P B0 m o H' w' ∧ LRel B0 m o .loc L' w' ∧ LFresh m L' ∧ Keep o w o w' := by
  unfold storeAt at h
  split at h
  · cases h
  rename_i h1
  have h1 : ws.all oneC = true := by simpa using h1
  obtain ⟨a1, a2⟩ := ha
  obtain ⟨b', n', s'⟩ := a'
  simp only at a1 a2; subst a1
  cases hs : a.spot with
  | none =>
    rw [hs] at h a2
    obtain ⟨i, e1, rfl, rfl⟩ := a2
    simp only [Option.map_eq_some_iff] at h
    obtain ⟨H2, h2, h3⟩ := h
    cases h3
    obtain ⟨w', k1, k2, k3, k4⟩ := hstore_sound hH hL e1 h2 hr h1
    exact ⟨w', k1, k2, k3, hF, k4⟩
  | some g =>
    rw [hs] at h a2
    obtain ⟨e1, rfl⟩ := a2
    simp only at h
    split at h
    · rename_i g' vs hg
      split at h
      · rename_i hc
        obtain ⟨rfl, hc⟩ := hc
        cases h
        obtain ⟨B, k1, k2, k3, arr, te, k4, k5⟩ := hL _ _ _ hg
        rw [e1] at k1; cases k1
        have hla := k5.1
        have hlw := hr.1
        simp only [Array.length_toList] at hla
        have hrun := run_storeCells_at P b' a.off te ws' 0 arr w k4 (by omega) (hr.all_oneC h1)
        simp only [Nat.add_zero] at hrun
        refine ⟨_, hrun, ?_, ?_, ?_, ?_⟩
        · exact hH.keep rfl (fun _ _ _ h => h) (by simp) hH.base fun B hB ho => ⟨setRow_other w b' B _ (fun e => by
            subst e
            rcases ho with ho | ⟨b, ho⟩ | ⟨b, d, g, ho⟩
            · omega
            · rw [k2] at ho; cases ho
            · rw [k2] at ho; cases ho), rfl⟩
        · intro d' g' c hc'
          rw [lget] at hc'
          split at hc'
          · rename_i hd; subst hd
            cases hc'
            refine ⟨b', e1, k2, k3, _, te, setRow_heap w b' arr _ te _ k4, ?_⟩
            rw [← take_over ws' arr.toList a.off (by simp; omega)]
            exact LsRel.over hr k5 a.off
          · rename_i hd
            have := hL d' g' c hc'
            cases c with
            | cells vs' =>
              obtain ⟨B, j1, j2⟩ := this
              exact ⟨B, j1, j2.keep (Mp.le_refl m) fun hB ho => ⟨setRow_other w b' B _ (fun e => by subst e; rw [k2] at ho; cases ho; exact hd rfl), rfl⟩⟩
            | fwd b => exact this
        · intro d' g' B h
          obtain ⟨g'', c, j1, j2⟩ := hF d' g' B h
          by_cases hd : d' = a.block
          · subst hd; rw [hg] at j1; cases j1; exact ⟨g, _, by rw [lget, if_pos rfl], j2⟩
          · exact ⟨g'', c, by rw [lget, if_neg hd]; exact j1, j2⟩
        · exact ⟨rfl, rfl, rfl, by simp, fun B hB ho => ⟨setRow_other w b' B _ (fun e => by subst e; rw [k2] at ho; cases ho), ho⟩⟩
      · cases h
    · rename_i g' b hg
      split at h
      · rename_i hgg; subst hgg
        obtain ⟨i, k1, k2, k3⟩ := hL _ _ _ hg
        rw [e1] at k3; cases k3
        simp only [Option.map_eq_some_iff] at h
        obtain ⟨H2, h2, h3⟩ := h
        cases h3
        obtain ⟨w', j1, j2, j3, j4⟩ := hstore_sound hH hL k1 h2 hr h1
        rw [k2, Nat.zero_add] at j1
        exact ⟨w', j1, j2, j3, hF, j4⟩
      · cases h
    · cases h

/-- A box whose address is handed out goes to the heap. The world stays as it is. -/
theorem glob_sound (hH : WRel P B0 m o H w) (hL : LRel B0 m o .loc L w) (hF : LFresh m L) {v v' : Value} (hv : VRel m v v') {u : Value} {L' : LS} {H' : AH} (h : glob L H v = some (u, L', H')) :
    ∃ m' o', m.le m' ∧ VRel m' u v' ∧ nl u = true ∧ WRel P B0 m' o' H' w ∧ LRel B0 m' o' .loc L' w ∧ LFresh m' L' ∧ Keep o w o' w := by
  unfold glob at h
  split at h
  · rename_i d off g
    cases hv with
    | ptr _ a' ha =>
    obtain ⟨a1, a2, a3⟩ := ha
    obtain ⟨b', n', s'⟩ := a'
    simp only at a1 a2 a3; subst a1; subst a3
    split at h
    · rename_i g' vs hg
      split at h
      · rename_i hc
        obtain ⟨rfl, hc⟩ := hc
        cases h
        obtain ⟨B, k1, k2, k3, arr, te, k4, k5⟩ := hL _ _ _ hg
        rw [a2] at k1; cases k1
        have hlen := k5.1
        simp only [Array.length_toList] at hlen
        have hd : m.h H.length = none := by
          cases hx : m.h H.length with
          | none => rfl
          | some i => exact absurd (hH.dom _ _ hx).1 (Nat.lt_irrefl _)
        have hm : m.le ⟨fun b => if b = H.length then some ⟨b', 0, 0, arr.size, none⟩ else m.h b, m.l⟩ := by
          refine ⟨fun b i h => ?_, fun _ _ _ h => h⟩
          by_cases hb : b = H.length
          · subst hb; rw [hd] at h; cases h
          · simpa [hb] using h
        have hlt := lt_of_heap k4
        refine ⟨_, fun B => if B = b' then .heap H.length else o B, hm, .ptr _ _ ⟨rfl, ⟨b', 0, 0, arr.size, none⟩, by simp⟩, by simp [nl], ?_, ?_, ?_, ?_⟩
        · refine ⟨fun b i h => ?_, fun B hB => ?_, hH.low, fun b i x h hx => ?_⟩
          · by_cases hb : b = H.length
            · subst hb; simp at h; subst h; simp; exact hlt
            · simp [hb] at h; have := hH.dom b i h; simp; omega
          · simp [show B ≠ b' by omega]; exact hH.base B hB
          · by_cases hb : b = H.length
            · subst hb
              simp at h; subst h
              simp at hx; subst hx
              refine ⟨rfl, rfl, k3, by simp, hc, arr, te, k4, rfl, by omega, ?_⟩
              rw [hlen, ← Array.length_toList, List.take_length]
              exact k5.mono hm
            · simp [hb] at h
              have hl := (hH.dom b i h).1
              rw [List.getElem?_append_left hl] at hx
              refine (hH.blk b i x h hx).keep hm fun B hB ho => ⟨rfl, ?_⟩
              have : B ≠ b' := by
                intro e; subst e
                rcases ho with ho | ho | ⟨d, g, ho⟩
                · omega
                · rw [k2] at ho; cases ho
                · rw [k2] at ho; cases ho
              simp [this]
        · intro d' g' c hc'
          rw [lget] at hc'
          split at hc'
          · rename_i hd'; subst hd'
            cases hc'
            exact ⟨⟨b', 0, 0, arr.size, none⟩, by simp, rfl, a2⟩
          · rename_i hd'
            have := hL d' g' c hc'
            cases c with
            | cells vs' =>
              obtain ⟨B, j1, j2⟩ := this
              exact ⟨B, j1, j2.keep hm fun hB ho => ⟨rfl, by
                have : B ≠ b' := fun e => by subst e; rw [k2] at ho; cases ho; exact hd' rfl
                simp [this]⟩⟩
            | fwd b =>
              obtain ⟨i, j1, j2, j3⟩ := this
              exact ⟨i, hm.1 _ _ j1, j2, j3⟩
        · intro d' g' B h
          obtain ⟨g'', c, j1, j2⟩ := hF d' g' B h
          by_cases hd' : d' = d
          · subst hd'; rw [hg] at j1; cases j1; exact ⟨g, _, by rw [lget, if_pos rfl], j2⟩
          · exact ⟨g'', c, by rw [lget, if_neg hd']; exact j1, j2⟩
        · exact ⟨rfl, rfl, rfl, Nat.le_refl _, fun B hB ho => ⟨rfl, by
            have : B ≠ b' := fun e => by subst e; rw [k2] at ho; cases ho
            simp [this]; exact ho⟩⟩
      · cases h
    · rename_i g' b hg
      split at h
      · rename_i hgg; subst hgg
        cases h
        obtain ⟨i, k1, k2, k3⟩ := hL _ _ _ hg
        rw [a2] at k3; cases k3
        exact ⟨m, o, Mp.le_refl m, .ptr _ _ ⟨rfl, i, k1, rfl, by simp [k2]⟩, by simp [nl], hH, hL, hF, Keep.refl o w⟩
      · cases h
    · cases h
  · split at h
    · rename_i hn
      cases h
      exact ⟨m, o, Mp.le_refl m, hv, hn, hH, hL, hF, Keep.refl o w⟩
    · cases h

theorem globs_sound {vs : List Value} : ∀ {m : Mp} {o : Nat → Ow} {L : LS} {H : AH} (_ : WRel P B0 m o H w) (_ : LRel B0 m o .loc L w) (_ : LFresh m L) {vs' : List Value} (_ : LsRel m vs vs') {us : List Value} {L' : LS} {H' : AH} (_ : globs L H vs = some (us, L', H')),
    ∃ m' o', m.le m' ∧ LsRel m' us vs' ∧ nlL us = true ∧ WRel P B0 m' o' H' w ∧ LRel B0 m' o' .loc L' w ∧ LFresh m' L' ∧ Keep o w o' w := by
  induction vs with
  | nil =>
    intro m o L H hH hL hF vs' hr us L' H' h
    cases vs' with
    | cons => simp [LsRel] at hr
    | nil => cases h; exact ⟨m, o, Mp.le_refl m, LsRel.nil m, rfl, hH, hL, hF, Keep.refl o w⟩
  | cons v r ih =>
    intro m o L H hH hL hF vs' hr us L' H' h
    cases vs' with
    | nil => simp [LsRel] at hr
    | cons v' r' =>
      unfold globs at h
      split at h
      · rename_i u L1 H1 h1
        split at h
        · rename_i us1 L2 H2 h2
          cases h
          obtain ⟨m1, o1, a1, a2, a3, a4, a5, a6, a7⟩ := glob_sound hH hL hF hr.head h1
          obtain ⟨m2, o2, b1, b2, b3, b4, b5, b6, b7⟩ := ih a4 a5 a6 (hr.tail.mono a1) h2
          exact ⟨m2, o2, Mp.le_trans a1 b1, LsRel.cons (a2.mono b1) b2, by simp [nlL, a3, b3], b4, b5, b6, a7.trans b7⟩
        · cases h
      · cases h
end Go.Proofs.YtjejcbiilimjkaaDoor
