/- Regions whose order is drawn: each order does what the abstract machine says. -/
import Derived.Test.YtjejcbiilimjkaaDoorAbsU
import Derived.Test.YtjejcbiilimjkaaDoorAbsP
namespace Go.Proofs.YtjejcbiilimjkaaDoor
open Go Go.RowKit

variable {P : Program} {B0 : Nat}

/-! ### What the check says -/

theorem boxedOf_some {o : SOp} {d : Tmp} {z : Value} (h : boxedOf o = some (d, z)) : o = ⟨some d, none, .box (.const z)⟩ ∧ sca z = true := by
  unfold boxedOf at h
  split at h
  · split at h
    · rename_i hs; cases h; exact ⟨rfl, hs⟩
    · cases h
  · cases h

theorem setOf_some {o : SOp} {d : Tmp} {n : Nat} {v : Operand} (h : setOf d n o = some v) : o = ⟨none, none, .st n (.tmp d) v⟩ := by
  unfold setOf at h
  split at h
  · split at h
    · rename_i hs; obtain ⟨rfl, rfl⟩ := hs; cases h; rfl
    · cases h
  · cases h

theorem mem_looksAt {l : List SOp} {d : Tmp} {k : Nat} (h : k < l.length) : k ∈ looksAt l d ↔ d ∈ l[k].look := by
  unfold looksAt
  rw [List.mem_filter]
  simp [h]

theorem bxAt_spec {l : List SOp} {i : Nat} {b : BX} (h : bxAt l i = some b) : b.i = i ∧ (∃ hi : i < l.length, l[i] = ⟨some b.d, none, .box (.const b.z)⟩) ∧ sca b.z = true ∧ b.z.cells.size = b.n ∧
    (b.k = none → b.v = .const b.z ∧ ∀ j (h : j < l.length), b.d ∉ l[j].look) ∧ (∀ k, b.k = some k → (∃ h : k < l.length, l[k] = ⟨none, none, .st b.n (.tmp b.d) b.v⟩) ∧ ∀ j (h : j < l.length), j ≠ k → b.d ∉ l[j].look) := by
  unfold bxAt at h
  split at h
  · rename_i d z hd
    simp only [Option.bind_eq_some_iff] at hd
    obtain ⟨o, ho, hb⟩ := hd
    obtain ⟨rfl, hz⟩ := boxedOf_some hb
    obtain ⟨hi, ho⟩ := List.getElem?_eq_some_iff.1 ho
    split at h
    · rename_i hl
      cases h
      refine ⟨rfl, ⟨hi, ho⟩, hz, rfl, fun _ => ⟨rfl, fun j hj hm => ?_⟩, fun k hk => by cases hk⟩
      have := (mem_looksAt hj).2 hm
      rw [hl] at this; cases this
    · rename_i k hl
      split at h
      · rename_i v hv
        cases h
        simp only [Option.bind_eq_some_iff] at hv
        obtain ⟨o2, ho2, hs⟩ := hv
        have := setOf_some hs
        subst this
        obtain ⟨hk, ho2⟩ := List.getElem?_eq_some_iff.1 ho2
        refine ⟨rfl, ⟨hi, ho⟩, hz, rfl, (fun e => by cases e), fun k' hk' => ?_⟩
        cases hk'
        refine ⟨⟨hk, ho2⟩, fun j hj hne hm => ?_⟩
        have := (mem_looksAt hj).2 hm
        rw [hl] at this
        simp at this
        exact hne this
      · cases h
    · cases h
  · cases h

theorem fin_of {l : List (DK × SOp)} : ∀ (bs : List BX) {s s' : St} (_ : bxsA bs s = some s') (_ : ∀ b ∈ bs, ∀ b' ∈ bs, b'.v ≠ .tmp b.d), ∀ b ∈ bs, isU (s.ev b.v) = false ∧ (s.ev b.v).cells.size = b.n ∧ (s.ev b.v).cells.toList.all oneC = true
  | [], _, _, _, _, b, hb => by simp at hb
  | b :: bs, s, s', h, hd, b', hb' => by
    simp only [bxsA] at h
    split at h
    · rename_i s1 h1
      unfold bxA at h1
      split at h1
      · rename_i hc
        cases h1
        rcases List.mem_cons.1 hb' with rfl | hb'
        · exact hc
        · have := fin_of (l := l) bs h (fun x hx y hy => hd x (by simp [hx]) y (by simp [hy])) b' hb'
          have hne := hd b (by simp) b' (by simp [hb'])
          have e : (({ s with t := (b.d, .pointer (some ⟨b.d, 0, some (nextG s.L b.d)⟩)) :: s.t, L := (b.d, nextG s.L b.d, .cells (s.ev b.v).cells.toList) :: s.L } : St)).ev b'.v = s.ev b'.v := by
            cases hbv : b'.v with
            | tmp x =>
              have hx : x ≠ b.d := fun e => hne (by rw [hbv, e])
              simp only [St.ev, tget, if_neg hx]
            | _ => rfl
          rw [e] at this
          exact this
      · cases h1
    · cases h

/-- The check, out of what it computes. -/
theorem DEnv.of {C : CallA} (hC : CGr C) {nt : Nat} {ops : Array Oper} {l : List (DK × SOp)} {bx : List BX} (hc : cDraw P nt ops = some (l, bx)) {s s' : St} (h : (dOps C l s).bind (bxsA bx) = some s') :
    ∃ σ : Nat → St, σ 0 = s ∧ bxsA bx (σ l.length) = some s' ∧ DEnv P C nt ops l bx (masksGo ops.toList []) σ ∧ ∀ b ∈ bx, ∀ b' ∈ bx, b'.v ≠ .tmp b.d := by
  unfold cDraw at hc
  split at hc
  rotate_left
  · cases hc
  rename_i l0 hl0
  simp only at hc
  split at hc
  rotate_left
  · cases hc
  rename_i hok
  simp only [Option.some.injEq, Prod.mk.injEq] at hc
  obtain ⟨hkl, hbx⟩ := hc
  obtain ⟨s1, h1, h2⟩ := Option.bind_eq_some_iff.1 h
  obtain ⟨k1, k2⟩ := cOps_spec hl0
  simp only [Array.length_toList] at k1
  generalize hms : masksGo ops.toList [] = ms at *
  rw [hbx] at hkl hok
  rw [hkl] at hok
  have hlen : l.length = l0.length := by rw [← hkl]; simp
  have hget : ∀ i (h : i < l.length), l[i].2 = l0[i]'(by omega) ∧ l[i].1 = kindAt l0 bx ms i := fun i hi => by
    subst hkl; simp
  unfold drawOk at hok
  simp only [Bool.and_eq_true, List.all_eq_true, List.mem_range, Bool.or_eq_true, beq_iff_eq] at hok
  obtain ⟨hok, hbxok⟩ := hok
  have hone : ∀ i (h : i < l.length), oneOk ops.toList l i = true := fun i hi => (hok i hi).1
  have hpair : ∀ i j (hi : i < l.length) (hj : j < l.length), i ≠ j → pairOk l ms i j = true := fun i j hi hj hne => ((hok i hi).2 j hj).resolve_left hne
  have hedge : ∀ i (h : i < ops.toList.length), (∀ e ∈ ops.toList[i].after.toList, bindE e = true → e.on < i) ∧ (∀ hi : i < l.length, (l[i].1 = .free → l[i].2.op.isFree = true) ∧ (l[i].1 = .chain → l[i].2.op.isAdd = true)) := fun i hi => by
    have hi' : i < l.length := by simp at hi; omega
    have := hone i hi'
    unfold oneOk at this
    rw [List.getElem?_eq_getElem hi, List.getElem?_eq_getElem hi'] at this
    simp only [Bool.and_eq_true, List.all_eq_true, Bool.or_eq_true, Bool.not_eq_true', decide_eq_true_eq] at this
    refine ⟨fun e he hb => (this.1 e he).resolve_left (by rw [hb]; simp), fun _ => ⟨fun hk => ?_, fun hk => ?_⟩⟩
    · have t := this.2; rw [hk] at t; exact t
    · have t := this.2; rw [hk] at t; exact t
  have hp : ∀ i j (hi : i < l.length) (hj : j < l.length), i ≠ j → (l[i].2.dst.isNone || l[i].2.dst != l[j].2.dst) = true ∧ (match l[j].2.dst with | some x => !l[i].2.look.contains x || (cmpB ms i j && (l[j].1 != .late || l[i].1 == .late)) | none => true) = true ∧
      (!(isC l[i].1 && isC l[j].1) || cmpB ms i j) = true ∧ (!(l[i].1 == .bar && l[j].2.op.isRead) || cmpB ms i j) = true := fun i j hi hj hne => by
    have := hpair i j hi hj hne
    unfold pairOk at this
    rw [List.getElem?_eq_getElem hi, List.getElem?_eq_getElem hj] at this
    simp only [Bool.and_eq_true] at this
    exact ⟨this.1.1.1, this.1.1.2, this.1.2, this.2⟩
  have hbxs : ∀ b ∈ bx, ∃ i, i < l0.length ∧ bxAt l0 i = some b := fun b hb => by
    rw [← hbx] at hb
    obtain ⟨i, hi, hb⟩ := List.mem_filterMap.1 hb
    exact ⟨i, by simpa using hi, hb⟩
  have hlateI : ∀ b ∈ bx, ∀ (h : b.i < l.length), l[b.i].1 = .late := fun b hb hi => by
    rw [(hget b.i hi).2]
    unfold kindAt
    rw [if_pos]
    exact List.any_eq_true.2 ⟨b, hb, by simp⟩
  have hlateK : ∀ b ∈ bx, ∀ k (h : k < l.length), b.k = some k → l[k].1 = .late := fun b hb k hi hk => by
    rw [(hget k hi).2]
    unfold kindAt
    rw [if_pos]
    exact List.any_eq_true.2 ⟨b, hb, by simp [hk]⟩
  have hB1 : ∀ b ∈ bx, ∃ h : b.i < l.length, l[b.i] = (.late, ⟨some b.d, none, .box (.const b.z)⟩) ∧ sca b.z = true ∧ b.z.cells.size = b.n := fun b hb => by
    obtain ⟨i, _, hb2⟩ := hbxs b hb
    obtain ⟨rfl, ⟨hi, e1⟩, hz, hn, _⟩ := bxAt_spec hb2
    have hi' : b.i < l.length := by omega
    exact ⟨hi', Prod.ext (hlateI b hb hi') ((hget b.i hi').1.trans e1), hz, hn⟩
  have hB2 : ∀ b ∈ bx, b.k = none → b.v = .const b.z ∧ ∀ j (h : j < l.length), b.d ∉ l[j].2.look := fun b hb hk => by
    obtain ⟨i, _, hb2⟩ := hbxs b hb
    obtain ⟨rfl, _, _, _, h5, _⟩ := bxAt_spec hb2
    exact ⟨(h5 hk).1, fun j hj => by rw [(hget j hj).1]; exact (h5 hk).2 j (by omega)⟩
  have hB3 : ∀ b ∈ bx, ∀ k, b.k = some k → (∃ h : k < l.length, l[k] = (.late, ⟨none, none, .st b.n (.tmp b.d) b.v⟩)) ∧ ∀ j (h : j < l.length), j ≠ k → b.d ∉ l[j].2.look := fun b hb k hk => by
    obtain ⟨i, _, hb2⟩ := hbxs b hb
    obtain ⟨rfl, _, _, _, _, h6⟩ := bxAt_spec hb2
    obtain ⟨⟨hk1, e1⟩, h7⟩ := h6 k hk
    have hk' : k < l.length := by omega
    exact ⟨⟨hk', Prod.ext (hlateK b hb k hk' hk) ((hget k hk').1.trans e1)⟩, fun j hj hne => by rw [(hget j hj).1]; exact h7 j (by omega) hne⟩
  have hB4 : ∀ b ∈ bx, ∀ k, b.k = some k → b.i < k ∧ ∀ x, b.v = .tmp x → x ≠ b.d ∧ ∀ j (h : j < l.length), l[j].2.dst = some x → l[j].1 ≠ .late ∧ (ms.getD k 0).testBit j = true := fun b hb k hk => by
    have := hbxok b hb
    unfold bxOk at this
    rw [hk] at this
    cases hv : b.v with
    | tmp x =>
      rw [hv] at this
      simp only [Bool.and_eq_true, List.all_eq_true, List.mem_range, decide_eq_true_eq, bne_iff_ne, ne_eq] at this
      refine ⟨this.1.1, fun y hy => ?_⟩
      cases hy
      refine ⟨this.1.2, fun j hj hd => ?_⟩
      have := this.2 j hj
      rw [List.getElem?_eq_getElem hj] at this
      simp only [Bool.or_eq_true, Bool.and_eq_true, bne_iff_ne, ne_eq] at this
      exact this.resolve_left (fun e => e hd)
    | const v => rw [hv] at this; simp only [Bool.and_eq_true, decide_eq_true_eq] at this; exact ⟨this.1, fun y hy => by cases hy⟩
    | global v => rw [hv] at this; simp only [Bool.and_eq_true, decide_eq_true_eq] at this; exact ⟨this.1, fun y hy => by cases hy⟩
    | func v => rw [hv] at this; simp only [Bool.and_eq_true, decide_eq_true_eq] at this; exact ⟨this.1, fun y hy => by cases hy⟩
  have hvd : ∀ b ∈ bx, ∀ b' ∈ bx, b'.v ≠ .tmp b.d := fun b hb b' hb' e => by
    cases hk : b'.k with
    | none => rw [(hB2 b' hb' hk).1] at e; cases e
    | some k =>
      obtain ⟨hi, e1, _⟩ := hB1 b hb
      have := ((hB4 b' hb' k hk).2 b.d e).2 b.i hi (by rw [e1])
      exact this.1 (by rw [e1])
  obtain ⟨σ, hσ0, hσn, hst⟩ := dOps_states l h1
  have hds : ∀ i (h : i < l.length), DStep l[i].1 l[i].2 (σ i) (σ (i + 1)) := fun i hi => by
    have := (hedge i (by simp; omega)).2 hi
    exact dOp_step hC this.1 this.2 (hst i hi)
  refine ⟨σ, hσ0, by rw [hσn]; exact h2, ?_, hvd⟩
  have hspec := masksGo_spec ops.toList [] (fun i hi e he hb => by simpa using (hedge i hi).1 e he hb)
  rw [hms] at hspec
  refine ⟨by omega, fun i hi => ?_, fun i hi => by have := hspec.2 i hi; simpa using this, fun i hi => (hedge i hi).1, ?_, ?_, ?_, ?_, fun i hi => ((hedge i (by simp; omega)).2 hi).1, hB1, hB2, fun b hb k hk => ⟨(hB4 b hb k hk).1, hB3 b hb k hk⟩, fun b hb k x hk hv => (hB4 b hb k hk).2 x hv, ?_, ?_, hst, hds, ?_⟩
  · have hi' : i < ops.size := by omega
    refine ⟨ops[i], by simp [hi'], ?_⟩
    rw [(hget i hi).1]
    have := k2 i (by simpa using hi') (by omega)
    rwa [Array.getElem_toList] at this
  · intro i j hi hj x hne h1 h2
    have := (hp i j hi hj hne).1
    rw [h1, h2] at this
    simp at this
  · intro i j hi hj x hne h1 h2
    have := (hp i j hi hj hne).2.1
    rw [h1] at this
    simp only [Bool.or_eq_true, Bool.and_eq_true, Bool.not_eq_true', bne_iff_ne, ne_eq, beq_iff_eq] at this
    rcases this with h | h
    · rw [List.contains_iff_mem.2 h2] at h; cases h
    · exact ⟨h.1, fun e => h.2.resolve_left (fun h => h e)⟩
  · intro i j hi hj hne h1 h2
    have := (hp i j hi hj hne).2.2.1
    rw [h1, h2] at this
    simpa using this
  · intro i j hi hj hne h1 h2
    have := (hp i j hi hj hne).2.2.2
    rw [h1, h2] at this
    simpa using this
  · intro b hb
    cases hk : b.k with
    | none =>
      rw [(hB2 b hb hk).1]
      exact (hB1 b hb).2.2.1
    | some k =>
      have := hbxok b hb
      unfold bxOk at this
      rw [hk] at this
      cases hv : b.v with
      | tmp x => rfl
      | const v => rw [hv] at this; simp only [Bool.and_eq_true] at this; exact this.2
      | global v => rw [hv] at this; simp only [Bool.and_eq_true] at this; exact this.2
      | func v => rw [hv] at this; simp only [Bool.and_eq_true] at this; exact this.2
  · intro i hi hl
    rw [(hget i hi).2] at hl
    unfold kindAt at hl
    split at hl
    · rename_i ha
      obtain ⟨b, hb, he⟩ := List.any_eq_true.1 ha
      simp only [Bool.or_eq_true, beq_iff_eq] at he
      exact ⟨b, hb, he⟩
    · rw [List.getElem?_eq_getElem (by omega)] at hl
      simp only at hl
      split at hl
      · cases hl
      · split at hl <;> cases hl
  · intro b hb
    rw [hσn]
    exact fin_of (l := l) bx h2 hvd b hb
end Go.Proofs.YtjejcbiilimjkaaDoor
