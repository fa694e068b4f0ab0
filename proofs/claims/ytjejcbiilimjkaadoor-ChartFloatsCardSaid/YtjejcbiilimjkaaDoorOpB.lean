/- From a call in the abstract machine to the call in the model. -/
import Derived.Test.YtjejcbiilimjkaaDoorOpA
import Derived.RowKit3
import Derived.RowKit
import Derived.ChangeSame
import Derived.ReadAgain
namespace Go.Proofs.YtjejcbiilimjkaaDoor
open Go Go.RowKit

variable {P : Program} {H : Type} {enc : TypeId × Value → H}

/-- The blocks of the package-level variables: those that are listed can be read, the others are not spoken of. -/
def globA (tabs : List (Nat × List Value)) (g : Nat) : ABlk := match tabs.lookup g with | some vs => .ro vs | none => .dead

def globH (P : Program) (tabs : List (Nat × List Value)) : AH := (List.range P.globals.size).map (globA tabs)

theorem globs_lay {W : World} {tabs : List (Nat × List Value)} (hg : P.globals.size ≤ W.heap.size) (ht : ∀ g vs, tabs.lookup g = some vs → scaL vs = true ∧ ∀ j (h : j < vs.length), W.cell? ⟨g, j, none⟩ = some vs[j]) :
    WRel P W.heap.size (Mp0 fun b => if b < P.globals.size then some ⟨b, 0, 0, 0, none⟩ else none) (fun _ => .other) (globH P tabs) W where
  dom b i e := by
    simp only [Mp0] at e
    split at e
    · rename_i hb; cases e; exact ⟨by simpa [globH] using hb, by simp only; omega⟩
    · cases e
  base _ _ := rfl
  low := Nat.le_refl _
  blk b i x e hx := by
    simp only [Mp0] at e
    split at e
    · rename_i hb
      cases e
      have : x = globA tabs b := by
        rw [globH, List.getElem?_map, List.getElem?_range hb] at hx
        simpa using hx.symm
      subst this
      unfold globA
      cases hl : tabs.lookup b with
      | none => trivial
      | some vs =>
        obtain ⟨k1, k2⟩ := ht b vs hl
        refine ⟨rfl, by simp only; omega, nlL_of_scaL vs k1, fun j hj => ⟨vs[j], by simpa using k2 j hj, VRel.refl_sca _ _ (scaL_get vs k1 j hj)⟩⟩
    · cases e

theorem Keep.kept {o o' : Nat → Ow} {W w' : World} (h : Keep o W o' w') (ho : ∀ B, o B = .other) (may : MemPlace → Prop) : W.keptBut w' may := by
  refine ⟨h.os, h.output, fun i hi => ?_⟩
  rw [(h.same i hi (ho i)).1]
  cases hx : W.heap[i]? with
  | none => rfl
  | some x =>
    cases x with
    | cells c t fr => exact ⟨rfl, rfl, rfl, fun _ _ => rfl⟩
    | map es clock => exact .inr ⟨rfl, rfl⟩
    | _ => rfl

theorem trodAll_carry {W W' : World} {base : Nat} {sp : Nat → Bool} {held : Bool} : ∀ {ts : List TypeId} {vs : List Value} {ds : List (DataW H)} {ps : List MemPlace}, DataW.TrodAll enc P W base sp held ts vs ds ps → (∀ p ∈ ps, W.sameAt W' p) → DataW.TrodAll enc P W' base sp held ts vs ds ps
  | [], [], [], _, h, _ => h
  | _ :: _, _ :: _, _ :: _, _, ⟨p, q, ⟨n, h1⟩, h2, e⟩, hs => ⟨p, q, ⟨n, DataW.trod_carry n _ _ _ h1 (fun x hx => hs x (by rw [e]; exact List.mem_append_left _ hx))⟩, trodAll_carry h2 (fun x hx => hs x (by rw [e]; exact List.mem_append_right _ hx)), e⟩
  | [], _ :: _, _, _, h, _ => by simp [DataW.TrodAll] at h
  | [], [], _ :: _, _, h, _ => by simp [DataW.TrodAll] at h
  | _ :: _, [], _, _, h, _ => by simp [DataW.TrodAll] at h
  | _ :: _, _ :: _, [], _, h, _ => by simp [DataW.TrodAll] at h

/-- **A law that returns true and changes nothing that was there**: what its row asks behind the call. -/
theorem post_true {f : Func} {s : ChangeSpec} {apart fresh handsOn again : Bool} {W W' : World} {args : Array Value} {ds gs : List (DataW H)} {before : List MemPlace} (hW : DataW.Whole enc P f.params.toList s.vars apart W args.toList ds gs before) (hvars : s.vars = [])
    (hfn : (s.fn H ds).results = [.lit (.bool true)] ∧ (s.fn H ds).args = ds ∧ (s.fn H ds).vars = []) {tb : TypeId} (hres : f.resultTypes = #[tb]) (hb : P.underlying tb = some .bool)
    {T : TypeId → Prop} (K : Kids P T) (hz : ∀ t e, T t → P.underlying t = some (.slice e) → 0 < P.cellsOf e) (hT : ∀ t ∈ f.params.toList, T t) {o o' : Nat → Ow} (hk : Keep o W o' W') (ho : ∀ B, o B = .other) :
    s.post enc P f apart fresh handsOn again W args (.bool true) W' := by
  have hlt := hW.lt
  have hW0 := hW
  obtain ⟨p, q, h1, h2, rfl, hfz, hnd⟩ := hW
  rw [hvars] at h2
  obtain ⟨rfl, rfl⟩ := ChangeShapes.trodVars_none h2
  simp only [List.append_nil] at hlt hfz hnd hW0 ⊢
  have hsame : ∀ B, B < W.heap.size → W'.heap[B]? = W.heap[B]? := fun B hB => (hk.same B hB (ho B)).1
  have hsa : ∀ x ∈ p, W.sameAt W' x := fun x hx => by
    have := hlt x hx
    cases x with
    | cell b off => simp only [World.sameAt, World.cell?]; rw [hsame b this]
    | map b => exact hsame b this
  have hold : ∀ x ∈ p, (fun b => decide (b < W.heap.size)) x.block = true := fun x hx => by simpa using hlt x hx
  have hargs : ∀ sp : Nat → Bool, (∀ x ∈ p, sp x.block = true) → DataW.TrodAll enc P W' 0 sp true f.params.toList args.toList ds p := fun sp hsp => (trodAll_carry h1 hsa).respare K hz hT hsp
  have hrl : Value.resultList f.resultTypes.size (.bool true) = [.bool true] := by rw [hres]; rfl
  have hresl : ∀ (b : Nat) (sp : Nat → Bool) (hd : Bool), DataW.TrodAll enc P W' b sp hd f.resultTypes.toList (Value.resultList f.resultTypes.size (.bool true)) [.lit (.bool true)] [] := fun b sp hd => by
    rw [hrl, hres]
    exact ChangeShapes.trodAll_mk1 (RowKit.shut_bool hb true)
  refine ⟨ds, [], p, [], p, [], by simpa using hW0, ?_, ?_, ?_, ?_, fun _ => ?_⟩
  · simp only [List.append_nil]; rw [hfn.1]; exact hresl _ _ _
  · simp only [List.append_nil]; rw [hfn.2.1]; exact hargs _ hold
  · simp only [List.append_nil]; rw [hfn.2.2, hvars]; rfl
  · exact World.keptBut_mono (fun x hx => hx) (hk.kept ho _)
  · refine ⟨fun j t r ht hr => ?_, _, [], ([] ++ p) ++ [], ⟨[] ++ p, [], ChangeShapes.trodAll_append (hargs _ (fun _ _ => rfl)) (hresl _ _ _), by rw [hvars]; exact (rfl : DataW.TrodVars enc P W' (fun _ => true) [] [] []), rfl, ?_, ?_⟩, ?_⟩
    · rw [hrl] at hr
      rw [hres] at ht
      cases j with
      | zero => simp at ht hr; subst ht; subst hr; simp [Value.okWide, hb, Cell.okWide, Cell.ok]
      | succ j => simp at hr
    · intro b off hp
      have hp' : MemPlace.cell b off ∈ p := by simpa using hp
      have hlt2 : b < W.heap.size := hlt _ hp'
      have : W'.frozen? ⟨b, off, none⟩ = W.frozen? ⟨b, off, none⟩ := by simp only [World.frozen?]; rw [hsame b hlt2]
      rw [this]
      exact hfz b off hp'
    · intro ha
      simpa using hnd ha
    · intro x hx _
      simpa using hx
end Go.Proofs.YtjejcbiilimjkaaDoor
