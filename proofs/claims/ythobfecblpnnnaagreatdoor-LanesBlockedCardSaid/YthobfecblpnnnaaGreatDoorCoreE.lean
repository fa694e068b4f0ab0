import Derived.Test.YthobfecblpnnnaaGreatDoorCoreD
set_option linter.all false

/- A law, out of what the abstract machine says of its function. -/
namespace Go.Proofs.YthobfecblpnnnaaGreatDoor
open Go Go.RowKit

variable {P : Program} {H : Type} {enc : TypeId × Value → H}

def All2 {α β : Type} (r : α → β → Prop) : List α → List β → Prop
  | [], [] => True
  | a :: l, b :: m => r a b ∧ All2 r l m
  | _, _ => False

theorem All2.of {α β : Type} {r : α → β → Prop} : ∀ {l : List α} {m : List β} (_ : l.length = m.length) (_ : ∀ j (h : j < l.length) (h' : j < m.length), r l[j] m[j]), All2 r l m
  | [], [], _, _ => trivial
  | a :: l, b :: m, hl, h => ⟨h 0 (by simp) (by simp), All2.of (by simpa using hl) fun j p q => by have := h (j + 1) (by simpa using p) (by simpa using q); simpa using this⟩
  | [], _ :: _, h, _ => by simp at h
  | _ :: _, [], h, _ => by simp at h

/-- A datum of a type. -/
def tyD (P : Program) : Nat → TypeId → DataW H → Prop
  | 0, _, _ => False
  | n + 1, t, d => match P.underlying t with
    | some .bool => ∃ b, d = .lit (.bool b)
    | some (.int k) => ∃ i, d = .lit (.int k i) ∧ (Lit.int k i).wf = true
    | some .string => ∃ s, d = .lit (.string s) ∧ s.length ≤ maxLen
    | some (.struct fs) => ∃ parts, d = .agg parts ∧ All2 (fun f p => tyD P n f.type p) fs.toList parts
    | some (.array k e) => ∃ parts, d = .agg parts ∧ parts.length = k ∧ ∀ p ∈ parts, tyD P n e p
    | some (.slice e) => d = .nil ∨ ∃ elems spare, d = .slice elems spare ∧ elems.length ≤ maxLen ∧ ∀ p ∈ elems, tyD P n e p
    | _ => False

theorem trod_ty {W : World} {base : Nat} {sp : Nat → Bool} {held : Bool} : ∀ (n fuel : Nat) (t : TypeId) (cs : List Value) (d : DataW H) (pl : List MemPlace), supT P n t = true → DataW.trod enc P W base sp held fuel t cs = some (d, pl) → tyD P n t d
  | 0, _, _, _, _, _, h, _ => by simp [supT] at h
  | n + 1, fuel, t, cs, d, pl, hs, h => by
    unfold supT at hs
    unfold tyD
    split at hs
    · rename_i hu
      obtain ⟨b, rfl, hx⟩ := DataW.trod_bool hu h
      cases hx
      simp only [hu]; exact ⟨b, rfl⟩
    · rename_i k hu
      obtain ⟨i, rfl, hx, hw⟩ := DataW.trod_int hu h
      cases hx
      simp only [hu]; exact ⟨i, rfl, hw⟩
    · rename_i hu
      obtain ⟨st, rfl, hx, hw⟩ := DataW.trod_string hu h
      cases hx
      simp only [hu]; exact ⟨_, rfl, by simpa using hw⟩
    · rename_i fs hu
      obtain ⟨xs, m, rfl, hx, hlen, hxl, htr⟩ := DataW.trod_struct hu h
      simp only [Prod.mk.injEq] at hx
      obtain ⟨rfl, rfl⟩ := hx
      simp only [Bool.and_eq_true, beq_iff_eq, List.all_eq_true] at hs
      simp only [hu]
      refine ⟨_, rfl, All2.of (by simp [hxl]) fun j h1 h2 => ?_⟩
      have hj : j < fs.size := by simpa using h1
      have hjx : j < xs.length := by omega
      have := htr j fs[j] (by simp [hj])
      rw [List.getElem?_eq_getElem hjx] at this
      have := trod_ty n m _ _ xs[j].1 xs[j].2 (hs.1 fs[j] (by simp)) this
      simpa using this
    · rename_i k e hu
      obtain ⟨xs, m, rfl, hx, hlen, hxl, htr⟩ := DataW.trod_array hu h
      simp only [Prod.mk.injEq] at hx
      obtain ⟨rfl, rfl⟩ := hx
      simp only [Bool.and_eq_true, beq_iff_eq] at hs
      simp only [hu]
      refine ⟨_, rfl, by simp [hxl], fun p hp => ?_⟩
      obtain ⟨x, hx, rfl⟩ := List.mem_map.1 hp
      obtain ⟨j, hj, rfl⟩ := List.mem_iff_getElem.1 hx
      have := htr j (by omega)
      rw [List.getElem?_eq_getElem hj] at this
      exact trod_ty n m _ _ xs[j].1 xs[j].2 hs.1 this
    · rename_i e hu
      simp only [Bool.and_eq_true, decide_eq_true_eq] at hs
      simp only [hu]
      rcases DataW.trod_slice hu h with ⟨rfl, hx⟩ | ⟨a, len, cap, elems, rest, m, rfl, rfl, hx, hb, hlc, hcm, hel, htr, _, _⟩
      · cases hx; exact .inl rfl
      · simp only [Prod.mk.injEq] at hx
        obtain ⟨rfl, rfl⟩ := hx
        refine .inr ⟨_, _, rfl, by simp; omega, fun p hp => ?_⟩
        obtain ⟨x, hx, rfl⟩ := List.mem_map.1 hp
        obtain ⟨j, hj, rfl⟩ := List.mem_iff_getElem.1 hx
        have := htr j (by omega)
        rw [List.getElem?_eq_getElem hj, Option.bind_eq_some_iff] at this
        obtain ⟨cs', _, h2⟩ := this
        exact trod_ty n m _ _ elems[j].1 elems[j].2 hs.1 h2
    · cases hs

theorem args_ty {W : World} {base : Nat} {sp : Nat → Bool} {held : Bool} {n : Nat} : ∀ (ts : List TypeId) (vs : List Value) (ds : List (DataW H)) (ps : List MemPlace), (∀ t ∈ ts, supT P n t = true) → DataW.TrodAll enc P W base sp held ts vs ds ps → All2 (tyD P n) ts ds
  | [], [], [], _, _, _ => trivial
  | t :: ts, v :: vs, d :: ds, ps, hsup, ⟨p, q, ⟨fuel, h1⟩, h2, _⟩ => ⟨trod_ty n fuel t _ d p (hsup t (by simp)) h1, args_ty ts vs ds q (fun t ht => hsup t (by simp [ht])) h2⟩
  | [], _ :: _, _, _, _, h => by simp [DataW.TrodAll] at h
  | [], [], _ :: _, _, _, h => by simp [DataW.TrodAll] at h
  | _ :: _, [], _, _, _, h => by simp [DataW.TrodAll] at h
  | _ :: _, _ :: _, [], _, _, h => by simp [DataW.TrodAll] at h

/-! ### Tables -/

def flatV : Value → Bool
  | .bool _ | .int _ _ | .string _ => true
  | _ => false

theorem flat_eq {m : Mp} : ∀ {vs cs : List Value}, LsRel m vs cs → vs.all flatV = true → vs = cs
  | [], [], _, _ => rfl
  | [], _ :: _, h, _ => by simp [LsRel] at h
  | _ :: _, [], h, _ => by simp [LsRel] at h
  | v :: vs, c :: cs, h, hf => by
    simp only [List.all_cons, Bool.and_eq_true] at hf
    have h1 : v = c := by
      have hv := h.head
      have hf1 := hf.1
      cases hv <;> simp [flatV] at hf1 <;> rfl
    rw [h1, flat_eq h.tail hf.2]

theorem flat_sca : ∀ {vs : List Value}, vs.all flatV = true → scaL vs = true
  | [], _ => rfl
  | v :: vs, h => by
    simp only [List.all_cons, Bool.and_eq_true] at h
    simp only [scaL, flat_sca h.2, Bool.and_true]
    cases v <;> simp [flatV] at h <;> rfl

/-- What a row's list of tables says: each table's cells. -/
theorem laid_cells {W : World} : ∀ (laid : List (String × DataW Unit)) (ps : List MemPlace), DataW.LaidVars P W laid ps → ∀ (name : String) (d : DataW Unit), (name, d) ∈ laid → ∀ (g : Nat) (t : TypeId) (n : Nat), P.globalNamed name = some g → (P.globals[g]?).map (·.type) = some t → supT P n t = true →
    (absD d 0).1.all flatV = true → ∀ j (h : j < (absD d 0).1.length), W.cell? ⟨g, j, none⟩ = some (absD d 0).1[j]
  | [], _, _, _, _, h => by simp at h
  | (nm, d') :: rest, ps, hl, name, d, hmem => fun g t n hg ht hs hf => by
    obtain ⟨g', t', cs, fuel, p, q, hg', ht', hvar, hd, hr, _⟩ := hl
    rcases List.mem_cons.1 hmem with h | h
    · obtain ⟨h1, h2⟩ := Prod.mk.inj h
      subst h1
      subst h2
      obtain rfl := Option.some.inj (hg.symm.trans hg')
      obtain rfl := Option.some.inj (ht.symm.trans ht')
      have hW : WRel P W.heap.size (Mp0 fun _ => none) (fun _ => .other) [] W := ⟨fun b i e => by simp [Mp0] at e, fun _ _ => rfl, Nat.le_refl _, fun b i x e => by simp [Mp0] at e⟩
      obtain ⟨h', _, _, k3, _⟩ := trod_lays n fuel _ _ _ p hs hd _ _ hW
      have e := flat_eq k3 (by simpa using hf)
      intro j hj
      simp only [World.var?, hg, Option.bind_some] at hvar
      split at hvar
      · rename_i cs' tt fr hx
        have hcs := Option.some.inj hvar
        rw [← hcs] at e
        simp only [List.length_nil] at e
        simp only [World.cell?, hx, Option.isSome_none, Bool.false_eq_true, if_false, e]
        have hj' : j < cs'.size := by rw [e] at hj; simpa using hj
        rw [Array.getElem?_eq_getElem hj']
        simp
      · cases hvar
    · exact laid_cells rest q hr name d h g t n hg ht hs hf

/-! ### Laws -/

/-- **A law's call**: if the abstract machine says true of its function at what was read, the model returns true, and leaves what was there. -/
theorem law_calls {f : FuncId} {fn : Func} (hm : P.follows .mixedOrders = true) (pf : PF) (hO : ∀ B0, OrSound P B0 pf) (hfn : P.funcs[f]? = some fn) {c : Code} (hbody : fn.body = some c) (hname : (fn.name == "runtime.NumGoroutine") = false)
    {W : World} {base b0 : Nat} {sp : Nat → Bool} {held : Bool} {n : Nat} {rch : Reach} {args : Array Value} {ds : List (DataW H)} {ps : List MemPlace} (hsup : ∀ t ∈ fn.params.toList, supT P n t = true)
    (hok : ∀ (j : Nat) t v, fn.params[j]? = some t → args[j]? = some v → Value.okWide P W rch b0 t v) (hA : DataW.TrodAll enc P W base sp held fn.params.toList args.toList ds ps)
    {tabs : List (Nat × List Value)} (hg : P.globals.size ≤ W.heap.size) (ht : ∀ g vs, tabs.lookup g = some vs → scaL vs = true ∧ ∀ j (h : j < vs.length), W.cell? ⟨g, j, none⟩ = some vs[j])
    {lim : Nat} {H' : AH} (hcall : apL P pf (.func (.func f) #[] #[]) (absVs P fn.params.toList ds P.globals.size).1 lim (globH P tabs ++ (absVs P fn.params.toList ds P.globals.size).2) = some (.bool true, H')) :
    Calls P f args W fun e W' => e = .returned (.bool true) ∧ ∃ o', Keep (fun _ => .other) W o' W' := by
  have hgl : (globH P tabs).length = P.globals.size := by simp [globH]
  obtain ⟨h1, k1, k2, k3, k4⟩ := args_lay (enc := enc) fn.params.toList args.toList ds ps hsup (fun j t v h1 h2 => hok j t v (by simpa using h1) (by simpa using h2)) hA _ _ (globs_lay hg ht)
  rw [hgl] at k2 k3 k4
  obtain ⟨_, hc⟩ := apL_sound hm pf (hO W.heap.size) (B0 := W.heap.size) _ _ _ _ _ _ hcall
  obtain ⟨fn', first, cap, e1, nx, e2, e3⟩ := hc h1 (fun _ => .other) W k2 (fun B d g => by simp) (fun g hgg => ⟨0, k1 g _ (by simp [hgg])⟩) (.func (.func f) #[] #[])
    (.func _ _ _ _ _ _ (.func f) rfl (fun i h _ => absurd h (by simp)) rfl (fun i h _ => absurd h (by simp))) args.toList k3 k4 Fence.wide (fun _ => trivial) rfl 0
  cases e1
  have hinv : (invoke (.fn (.func f) #[]) (#[] ++ args.toList.toArray)).run P W = .ok (.enter f args) W := by
    simp [invoke, callFunc, hfn, hbody]
    simpa using hname
  rw [hinv] at e2
  cases e2
  rcases e3 with ⟨f', args', hnx, hcalls⟩ | ⟨l, _, _, _, _, _, hnx, _⟩
  · cases hnx
    refine callsIn_wide.1 (hcalls.mono ?_)
    rintro e w' ⟨v', rfl, h', o', _, hv, _, hk⟩
    cases hv
    exact ⟨rfl, o', hk⟩
  · cases hnx
end Go.Proofs.YthobfecblpnnnaaGreatDoor

/- A call without arguments whose run the kernel computes. -/
namespace Go.Proofs.YthobfecblpnnnaaGreatDoor
open Go Go.RowKit

variable {P : Program}

theorem flatB_eq {a b : Value} (h : flatB a b = true) : a = b ∧ sca a = true := by
  cases a <;> cases b <;> simp [flatB] at h
  · exact ⟨by rw [h], rfl⟩
  · exact ⟨by rw [h.1, h.2], rfl⟩

theorem flatsB_eq : ∀ {us vs : List Value}, flatsB us vs = true → us = vs ∧ scaL us = true
  | [], [], _ => ⟨rfl, rfl⟩
  | a :: l, b :: m, h => by
    simp only [flatsB, Bool.and_eq_true] at h
    obtain ⟨h1, h2⟩ := flatB_eq h.1
    obtain ⟨h3, h4⟩ := flatsB_eq h.2
    exact ⟨by rw [h1, h3], by simp [scaL, h2, h4]⟩
  | [], _ :: _, h => by simp [flatsB] at h
  | _ :: _, [], h => by simp [flatsB] at h

theorem lookup_mem {g : Nat} {vs : List Value} : ∀ {tabs : List (Nat × List Value)}, tabs.lookup g = some vs → (g, vs) ∈ tabs
  | [], h => by simp at h
  | (k, w) :: r, h => by
    simp only [List.lookup] at h
    split at h
    · rename_i e; simp at e; cases h; simp [e]
    · exact List.mem_cons_of_mem _ (lookup_mem h)

/-- **What the kernel computes of a call without arguments over the tables alone, is so in each world that holds them.** -/
theorem orSound_of (hm : P.follows .mixedOrders = true) {pure : FuncId → Bool} {tabs : List (Nat × List Value)} {f0 : FuncId} {v0 : Value} {n lim : Nat} {H0 : AH} (hrun : apA P ⟨pure, [], fun _ _ => none⟩ n (.func (.func f0) #[] #[]) [] lim (globH P tabs) = some (v0, H0)) (hv : sca v0 = true) (B0 : Nat) :
    OrSound P B0 ⟨pure, tabs, fun f args => if f = f0 ∧ args.isEmpty = true then some v0 else none⟩ := by
  intro f vs v h
  simp only at h
  split at h
  · rename_i hc
    obtain ⟨rfl, hvs⟩ := hc
    cases h
    have : vs = [] := by simpa using hvs
    subst this
    refine ⟨nl_of_sca v0 hv, fun h o w H hW htab hno hGR vs' hvs' _ F hF hd k => ?_⟩
    have hv' : vs' = [] := List.eq_nil_of_length_eq_zero hvs'.1.symm
    subst hv'
    have hW0 : WRel P B0 (Mp0 fun b => if b < P.globals.size then h b else none) (fun _ => .other) (globH P tabs) w := by
      refine ⟨fun b i e => ?_, fun _ _ => rfl, hW.low, fun b i x e hx => ?_⟩
      · simp only [Mp0] at e
        split at e
        · rename_i hb; exact ⟨by simpa [globH] using hb, (hW.dom b i e).2⟩
        · cases e
      · simp only [Mp0] at e
        split at e
        · rename_i hb
          have hxe : x = globA tabs b := by
            rw [globH, List.getElem?_map, List.getElem?_range hb] at hx
            simpa using hx.symm
          subst hxe
          unfold globA
          cases hl : tabs.lookup b with
          | none => trivial
          | some us =>
            have hmem := List.all_eq_true.1 htab _ (lookup_mem hl)
            simp only at hmem
            split at hmem
            · rename_i ws hH
              obtain ⟨rfl, hs⟩ := flatsB_eq hmem
              obtain ⟨a1, a2, a3, a4⟩ := hW.blk b i (.ro ws) e hH
              refine ⟨a1, a2, a3, fun j hj => ?_⟩
              obtain ⟨v', b1, b2⟩ := a4 j hj
              exact ⟨v', b1, sca_rel b2 (scaL_get ws hs j hj)⟩
            · cases hmem
        · cases e
    have hG0 : GRel P (Mp0 fun b => if b < P.globals.size then h b else none) := fun g hg => by
      obtain ⟨t, ht⟩ := hGR g hg
      exact ⟨t, by simp only [Mp0, hg, if_true]; exact ht⟩
    obtain ⟨_, hc⟩ := all_sound hm ⟨pure, [], fun _ _ => none⟩ (orSound_none pure) n _ _ _ _ _ _ hrun
    obtain ⟨fn', first, cap, e1, nx, e2, e3⟩ := hc _ _ w hW0 (fun _ _ _ => by simp) hG0 (.func (.func f) #[] #[])
      (.func _ _ _ _ _ _ (.func f) rfl (fun i h _ => absurd h (by simp)) rfl (fun i h _ => absurd h (by simp))) [] (LsRel.nil _) rfl F hF hd k
    cases e1
    refine ⟨nx, e2, ?_⟩
    rcases e3 with ⟨f', args', hnx, hcalls⟩ | ⟨l, _, _, _, _, ⟨l', hy⟩, _, _⟩
    · refine ⟨f', args', hnx, hcalls.mono ?_⟩
      rintro e w' ⟨v', rfl, h', o', _, hvr, _, hk⟩
      refine ⟨v', rfl, h, fun B => if B < w.heap.size then o B else .other, fun _ _ h => h, sca_rel hvr hv, ?_, ?_⟩
      · refine hW.keep rfl (fun _ _ _ h => h) hk.size (fun B hB => ?_) fun B hB _ => ⟨(hk.same B hB rfl).1, by simp [hB]⟩
        have := hW.low
        simp [show B < w.heap.size by omega, hW.base B hB]
      · exact ⟨hk.os, hk.tape, hk.output, hk.size, fun B hB ho => ⟨(hk.same B hB rfl).1, by simp [hB, ho]⟩⟩
    · cases hy
  · cases h
end Go.Proofs.YthobfecblpnnnaaGreatDoor
