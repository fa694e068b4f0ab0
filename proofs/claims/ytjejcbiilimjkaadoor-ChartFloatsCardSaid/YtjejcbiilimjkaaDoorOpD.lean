/- A call without arguments whose run the kernel computes. -/
import Derived.Test.YtjejcbiilimjkaaDoorOpC
namespace Go.Proofs.YtjejcbiilimjkaaDoor
open Go Go.RowKit

variable {P : Program}

theorem flatB_eq {a b : Value} (h : flatB a b = true) : a = b ∧ sca a = true := by
  cases a <;> cases b <;> simp [flatB] at h
  · exact ⟨by rw [h], rfl⟩
  · exact ⟨by rw [h.1, h.2], rfl⟩

theorem flatsB_eq : ∀ {us vs : List Value}, flatsB us vs = true → us = vs ∧ scaL us = true
  | [], [], _ => ⟨rfl, rfl⟩
  | a :: l, b :: m, h => by
    simp only [flatsB, Bool.and_eq_true] at h
    obtain ⟨h1, h2⟩ := flatB_eq h.1
    obtain ⟨h3, h4⟩ := flatsB_eq h.2
    exact ⟨by rw [h1, h3], by simp [scaL, h2, h4]⟩
  | [], _ :: _, h => by simp [flatsB] at h
  | _ :: _, [], h => by simp [flatsB] at h

theorem lookup_mem {g : Nat} {vs : List Value} : ∀ {tabs : List (Nat × List Value)}, tabs.lookup g = some vs → (g, vs) ∈ tabs
  | [], h => by simp at h
  | (k, w) :: r, h => by
    simp only [List.lookup] at h
    split at h
    · rename_i e; simp at e; cases h; simp [e]
    · exact List.mem_cons_of_mem _ (lookup_mem h)

/-- **What the kernel computes of a call without arguments over the tables alone, is so in each world that holds them.** -/
theorem orSound_of (hm : P.follows .mixedOrders = true) {pure : FuncId → Bool} {tabs : List (Nat × List Value)} {f0 : FuncId} {v0 : Value} {n lim : Nat} {H0 : AH} (hrun : apA P ⟨pure, [], fun _ _ => none⟩ n (.func (.func f0) #[] #[]) [] lim (globH P tabs) = some (v0, H0)) (hv : sca v0 = true) (B0 : Nat) :
    OrSound P B0 ⟨pure, tabs, fun f args => if f = f0 ∧ args.isEmpty = true then some v0 else none⟩ := by
  intro f vs v h
  simp only at h
  split at h
  · rename_i hc
    obtain ⟨rfl, hvs⟩ := hc
    cases h
    have : vs = [] := by simpa using hvs
    subst this
    refine ⟨nl_of_sca v0 hv, fun h o w H hW htab hno hGR vs' hvs' _ F hF hd k => ?_⟩
    have hv' : vs' = [] := List.eq_nil_of_length_eq_zero hvs'.1.symm
    subst hv'
    have hW0 : WRel P B0 (Mp0 fun b => if b < P.globals.size then h b else none) (fun _ => .other) (globH P tabs) w := by
      refine ⟨fun b i e => ?_, fun _ _ => rfl, hW.low, fun b i x e hx => ?_⟩
      · simp only [Mp0] at e
        split at e
        · rename_i hb; exact ⟨by simpa [globH] using hb, (hW.dom b i e).2⟩
        · cases e
      · simp only [Mp0] at e
        split at e
        · rename_i hb
          have hxe : x = globA tabs b := by
            rw [globH, List.getElem?_map, List.getElem?_range hb] at hx
            simpa using hx.symm
          subst hxe
          unfold globA
          cases hl : tabs.lookup b with
          | none => trivial
          | some us =>
            have hmem := List.all_eq_true.1 htab _ (lookup_mem hl)
            simp only at hmem
            split at hmem
            · rename_i ws hH
              obtain ⟨rfl, hs⟩ := flatsB_eq hmem
              obtain ⟨a1, a2, a3, a4⟩ := hW.blk b i (.ro ws) e hH
              refine ⟨a1, a2, a3, fun j hj => ?_⟩
              obtain ⟨v', b1, b2⟩ := a4 j hj
              exact ⟨v', b1, sca_rel b2 (scaL_get ws hs j hj)⟩
            · cases hmem
        · cases e
    have hG0 : GRel P (Mp0 fun b => if b < P.globals.size then h b else none) := fun g hg => by
      obtain ⟨t, ht⟩ := hGR g hg
      exact ⟨t, by simp only [Mp0, hg, if_true]; exact ht⟩
    obtain ⟨_, hc⟩ := all_sound hm ⟨pure, [], fun _ _ => none⟩ (orSound_none pure) n _ _ _ _ _ _ hrun
    obtain ⟨fn', first, cap, e1, nx, e2, e3⟩ := hc _ _ w hW0 (fun _ _ _ => by simp) hG0 (.func (.func f) #[] #[])
      (.func _ _ _ _ _ _ (.func f) rfl (fun i h _ => absurd h (by simp)) rfl (fun i h _ => absurd h (by simp))) [] (LsRel.nil _) rfl F hF hd k
    cases e1
    refine ⟨nx, e2, ?_⟩
    rcases e3 with ⟨f', args', hnx, hcalls⟩ | ⟨l, _, _, _, _, ⟨l', hy⟩, _, _⟩
    · refine ⟨f', args', hnx, hcalls.mono ?_⟩
      rintro e w' ⟨v', rfl, h', o', _, hvr, _, hk⟩
      refine ⟨v', rfl, h, fun B => if B < w.heap.size then o B else .other, fun _ _ h => h, sca_rel hvr hv, ?_, ?_⟩
      · refine hW.keep rfl (fun _ _ _ h => h) hk.size (fun B hB => ?_) fun B hB _ => ⟨(hk.same B hB rfl).1, by simp [hB]⟩
        have := hW.low
        simp [show B < w.heap.size by omega, hW.base B hB]
      · exact ⟨hk.os, hk.tape, hk.output, hk.size, fun B hB ho => ⟨(hk.same B hB rfl).1, by simp [hB, ho]⟩⟩
    · cases hy
  · cases h
end Go.Proofs.YtjejcbiilimjkaaDoor
