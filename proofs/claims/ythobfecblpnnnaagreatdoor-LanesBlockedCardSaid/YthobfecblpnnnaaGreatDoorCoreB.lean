import Derived.Test.YthobfecblpnnnaaGreatDoorCoreA
import Derived.OwnWalkIn
import Derived.LoopNIn
import Derived.RangeFuncIn
import Derived.RangeFuncRecord
set_option linter.all false

/- Operation by operation: slices cut, appended to, copied; structs compared. -/
namespace Go.Proofs.YthobfecblpnnnaaGreatDoor
open Go Go.RowKit

variable {P : Program} {B0 : Nat} {m : Mp} {o : Nat → Ow} {w : World} {s : St} {a : Act} {d : Option Tmp}

theorem run_sliceBound (k : IntKind) (l : Int) (y : Nat) (code : BoundsCode) (h : 0 ≤ l ∧ l ≤ y) : (Instr.sliceBound (.int k l) y code).run P w = .ok l.toNat w := by
  simp [Instr.sliceBound, asIntOf, h]

theorem bndA_some {v v' : Value} {dflt i : Int} (h : bndA (some v) dflt = some i) (hv : VRel m v v') : ∃ k, v' = .int k i := by
  unfold bndA at h
  split at h
  · rename_i h1; cases h1
  · rename_i k j h1; cases h1; cases h; cases hv; exact ⟨_, rfl⟩
  · cases h

theorem run_bounds2 (lo hi : Option Value) (n c : Nat) (l h : Int) (hl : match lo with | none => l = 0 | some v => ∃ k, v = .int k l) (hh : match hi with | none => h = n | some v => ∃ k, v = .int k h) (h1 : 0 ≤ l) (h2 : l ≤ h) (h3 : h ≤ n) (h4 : n ≤ c) :
    (Instr.sliceBounds true n c lo hi none).run P w = .ok (l.toNat, h.toNat, c) w := by
  cases lo with
  | none =>
    simp only at hl; subst hl
    cases hi with
    | none => simp only at hh; subst hh; simp [Instr.sliceBounds]
    | some v => obtain ⟨k, rfl⟩ := hh; simp [Instr.sliceBounds, run_sliceBound k h c _ ⟨by omega, by omega⟩]
  | some u =>
    obtain ⟨k', rfl⟩ := hl
    cases hi with
    | none => simp only at hh; subst hh; simp [Instr.sliceBounds, run_sliceBound k' l n _ ⟨h1, h2⟩]
    | some v => obtain ⟨k, rfl⟩ := hh; simp [Instr.sliceBounds, run_sliceBound k h c _ ⟨by omega, by omega⟩, run_sliceBound k' l h.toNat _ ⟨h1, by omega⟩]

theorem run_bounds3 (lo : Option Value) (k k2 : IntKind) (n c : Nat) (l h mx : Int) (hl : match lo with | none => l = 0 | some v => ∃ k, v = .int k l) (h1 : 0 ≤ l) (h2 : l ≤ h) (h3 : h ≤ mx) (h4 : mx ≤ n) (h5 : n ≤ c) :
    (Instr.sliceBounds true n c lo (some (.int k h)) (some (.int k2 mx))).run P w = .ok (l.toNat, h.toNat, mx.toNat) w := by
  cases lo with
  | none => simp only at hl; subst hl; simp [Instr.sliceBounds, run_sliceBound k2 mx c _ ⟨by omega, by omega⟩, run_sliceBound k h mx.toNat _ ⟨by omega, by omega⟩]
  | some u => obtain ⟨k', rfl⟩ := hl; simp [Instr.sliceBounds, run_sliceBound k2 mx c _ ⟨by omega, by omega⟩, run_sliceBound k h mx.toNat _ ⟨by omega, by omega⟩, run_sliceBound k' l h.toNat _ ⟨by omega, by omega⟩]

/-- A slice cut: its tie. -/
theorem cut_rel (hH : WRel P B0 m o s.H w) {p a' : Option Addr} {n c c' size l h mm ca : Nat} (hx : VRel m (.slice p n c) (.slice a' n c')) (hf : fitA s.H p size = true) (h1 : l ≤ h) (h2 : h ≤ mm) (h3 : mm ≤ c') (h4 : h ≤ n)
    (hca : ca = h - l → mm - l = h - l) (hmm : mm ≤ n ∨ mm = c') :
    VRel m (.slice (if l = h ∧ l ≠ 0 then none else p.map (aadd · (l * size))) (h - l) ca) (.slice (if mm = l then a' else a'.map (·.add (l * size))) (h - l) (mm - l)) := by
  have hsome : mm - l ≠ 0 → a'.isSome = true := by
    intro hne
    cases hx with
    | slN _ _ _ hc ha => rcases hmm with hmm | hmm
                         · omega
                         · exact ha (by omega)
    | sl => rfl
  by_cases hlh : l = h
  · subst hlh
    have hz : l - l = 0 := by omega
    rw [hz] at hca ⊢
    by_cases hl0 : l = 0
    · subst hl0
      simp only [true_and, ne_eq, not_true, if_false, Nat.sub_zero, Nat.zero_mul]
      cases hx with
      | slN _ _ _ hc ha => 
        simp only [Option.map_none]
        refine .slN _ _ _ (fun e => by have := hca (by omega); omega) (fun hne => ?_)
        split
        · exact hsome (by omega)
        · simpa using hsome (by omega)
      | sl q q' _ _ _ i hs hr hi ht hn hc =>
        simp only [Option.map_some]
        have e1 : (if mm = 0 then some q' else some (q'.add 0)) = some q' := by split <;> simp [Addr.add]
        rw [e1]
        refine .sl _ _ _ _ _ i hs (by simpa [aadd] using hr) (by simpa [aadd] using hi) (fun he => ?_) (Nat.zero_le _) (fun e => by have := hca (by omega); omega)
        exact Nat.le_trans (Nat.add_le_add_left (Nat.mul_le_mul_right _ h3) _) (ht he)
    · rw [if_pos ⟨rfl, hl0⟩]
      refine .slN _ _ _ (fun e => by have := hca (by omega); omega) (fun hne => ?_)
      split
      · omega
      · simpa using hsome hne
  · rw [if_neg (fun e => hlh e.1)]
    cases hx with
    | slN => omega
    | sl q q' _ _ _ i hs hr hi ht hn hc =>
      rw [if_neg (show ¬ mm = l by omega)]
      simp only [Option.map_some]
      refine .sl _ _ _ _ _ i (by simpa [aadd] using hs) (hr.add _) (by simpa [aadd] using hi) (fun he => ?_) (by omega) (fun e => hca e)
      have hes : i.e = size := by
        unfold fitA at hf
        simp only at hf
        split at hf
        · rename_i e vs hb
          have := (hH.blk _ _ _ hi hb).2.1
          rw [this]; simpa using hf
        · rename_i vs hb; exact absurd (hH.blk _ _ _ hi hb).1 he
        · cases hf
      rw [addr_add hr.1]
      simp only
      have h5 := ht he
      rw [hes] at h5 ⊢
      have : l * size + (mm - l) * size = mm * size := by rw [← Nat.add_mul]; congr 1; omega
      have h6 : mm * size ≤ c' * size := Nat.mul_le_mul_right _ h3
      omega

section
variable (t : Tied P B0 m o s.L s.H w) {oper : Oper} {v : Value} {L' : LS} {H' : AH}
include t

theorem do_slc {ty e : TypeId} {i : TypeInfo} {x : Operand} {lo hi mx : Option Operand} (hop : oper.op = .slice ty x lo hi mx) (hu : P.underlying ty = some (.slice e)) (hi' : P.info? e = some i) (hx : ∀ y ∈ x :: (oL lo ++ oL hi ++ oL mx), VRel m (s.ev y) (a.eval y)) (h : popA s (.slc i.size x lo hi mx) d = some (v, L', H')) : Does P B0 m o w a oper v L' H' := by
  have hxx := hx x (by simp)
  have hlo : ∀ {l : Int}, bndA (lo.map s.ev) 0 = some l → match lo.map a.eval with | none => l = 0 | some v => ∃ k, v = .int k l := by
    intro l hl
    cases lo with
    | none => simp only [Option.map_none, bndA, Option.some.injEq] at hl ⊢; exact hl.symm
    | some y => exact bndA_some hl (hx y (by simp [oL]))
  simp only [popA] at h
  split at h
  · rename_i p n c l hp hl
    rw [hp] at hxx
    split at h
    · rename_i h' hh
      split at h
      · rename_i hc
        obtain ⟨c1, c2, c3, c4⟩ := hc
        simp only [Option.some.injEq, Prod.mk.injEq] at h
        obtain ⟨rfl, rfl, rfl⟩ := h
        have hhi : match hi.map a.eval with | none => h' = n | some v => ∃ k, v = .int k h' := by
          cases hi with
          | none => simp only [Option.map_none, bndA, Option.some.injEq] at hh ⊢; exact hh.symm
          | some y => exact bndA_some hh (hx y (by simp [oL]))
        generalize he : a.eval x = z at hxx
        have hform : ∃ a' c', z = .slice a' n c' ∧ n ≤ c' ∧ (c = n → c' = n) := by
          cases hxx with
          | slN _ a' c' hc ha => exact ⟨a', c', rfl, Nat.zero_le _, fun h => hc h⟩
          | sl q q' _ _ c' i hs hr hi ht hn hc => exact ⟨_, c', rfl, hn, hc⟩
        obtain ⟨a', c', rfl, hn, hce⟩ := hform
        have hb := run_bounds2 (P := P) (w := w) (lo.map a.eval) (hi.map a.eval) n c' l h' (hlo hl) hhi c1 c2 c3 hn
        have e1 : (h' - l).toNat = h'.toNat - l.toNat := by omega
        have hr := cut_rel (l := l.toNat) (h := h'.toNat) (mm := c') (ca := if c = n then ((n : Int) - l).toNat else (h' - l).toNat + 1) t.tH hxx c4 (by omega) (by omega) (Nat.le_refl _) (by omega) (fun e => by
          split at e
          · rename_i hcn; have := hce hcn; omega
          · omega) (.inr rfl)
        rw [e1] at hr ⊢
        have e2 : (l = h' ∧ l ≠ 0) ↔ (l.toNat = h'.toNat ∧ l.toNat ≠ 0) := by omega
        simp only [e2]
        refine t.pure ?_ hr
        simp [execOp, hop, he, Instr.sliceAt, Instr.slice, run_underlying hu, hb, sizeOf, typeInfo, hi']
      · cases h
    · cases h
  · rename_i p n c l y hp hl
    rw [hp] at hxx
    split at h
    · rename_i h' m' hh hm
      split at h
      · rename_i hc
        obtain ⟨c1, c2, c3, c4, c5⟩ := hc
        simp only [Option.some.injEq, Prod.mk.injEq] at h
        obtain ⟨rfl, rfl, rfl⟩ := h
        simp only [Option.bind_eq_some_iff] at hh
        obtain ⟨q, rfl, hh⟩ := hh
        obtain ⟨k1, hk1⟩ := bndA_some hh (hx q (by simp [oL]))
        obtain ⟨k2, hk2⟩ := bndA_some hm (hx y (by simp [oL]))
        generalize he : a.eval x = z at hxx
        have hform : ∃ a' c', z = .slice a' n c' ∧ n ≤ c' := by
          cases hxx with
          | slN _ a' c' hc ha => exact ⟨a', c', rfl, Nat.zero_le _⟩
          | sl q q' _ _ c' i hs hr hi ht hn hc => exact ⟨_, c', rfl, hn⟩
        obtain ⟨a', c', rfl, hn⟩ := hform
        have hb := run_bounds3 (P := P) (w := w) (lo.map a.eval) k1 k2 n c' l h' m' (hlo hl) c1 c2 c3 c4 hn
        have e1 : (h' - l).toNat = h'.toNat - l.toNat := by omega
        have e3 : (m' - l).toNat = m'.toNat - l.toNat := by omega
        have hr := cut_rel (l := l.toNat) (h := h'.toNat) (mm := m'.toNat) (ca := m'.toNat - l.toNat) t.tH hxx c5 (by omega) (by omega) (by omega) (by omega) (fun e => e) (.inl (by omega))
        rw [e1, e3]
        have e2 : (l = h' ∧ l ≠ 0) ↔ (l.toNat = h'.toNat ∧ l.toNat ≠ 0) := by omega
        simp only [e2]
        refine t.pure ?_ hr
        simp [execOp, hop, he, Instr.sliceAt, Instr.slice, run_underlying hu, hk1, hk2, hb, sizeOf, typeInfo, hi']
      · cases h
    · cases h
  · cases h
end
end Go.Proofs.YthobfecblpnnnaaGreatDoor

/- Operation by operation: append, copy, structs compared. -/
namespace Go.Proofs.YthobfecblpnnnaaGreatDoor
open Go Go.RowKit

variable {P : Program} {B0 : Nat} {m : Mp} {o : Nat → Ow} {w : World} {s : St} {a : Act} {d : Option Tmp}

theorem run_append_zero (t ty e : TypeId) (i : TypeInfo) (ht : P.underlying t = some (.slice e)) (hi : P.info? e = some i) (p q : Option Addr) (n c c2 : Nat) (h : n ≤ c) :
    (Builtin.append_ #[t, t] ty #[.slice p n c, .slice q 0 c2]).run P w = .ok (.slice p n c) w := by
  cases p <;> cases q <;> simp [Builtin.append_, run_underlying ht, sizeOf, typeInfo, hi, Builtin.lenOf, h, Builtin.firstCells, loadCells, loadCellsFrom, storeCells]

theorem run_append_room' (t ty e te : TypeId) (i : TypeInfo) (ht : P.underlying t = some (.slice e)) (hi : P.info? e = some i)
    (g p sLen sCap : Nat) (cur : Array Value) (hg : w.heap[g]? = some (.cells cur te (0, 0)))
    (a : Addr) (m c : Nat) (news : List Value) (hl : news.length = m * i.size) (hnews : ∀ j u, news[j]? = some u → w.cell? (a.add j) = some u) (h1 : ∀ u ∈ news, u.oneCell' = true)
    (hroom : sLen + m ≤ sCap) (hfit : p + sLen * i.size + news.length ≤ cur.size) :
    (Builtin.append_ #[t, t] ty #[.slice (some ⟨g, p, none⟩) sLen sCap, .slice (some a) m c]).run P w =
      .ok (.slice (some ⟨g, p, none⟩) (sLen + m) sCap) (w.setRow g (cur.toList.take (p + sLen * i.size) ++ news ++ cur.toList.drop (p + sLen * i.size + news.length)).toArray) := by
  have hf := run_firstCells_some (P := P) w i.size m a m c news hl hnews
  have hst := run_storeCells_at P g (p + sLen * i.size) te news 0 cur w hg (by simpa using hfit) h1
  simp only [Nat.add_zero] at hst
  simp [Builtin.append_, run_underlying ht, sizeOf, typeInfo, hi, Builtin.lenOf, hroom, hf, add_eq, hst]

theorem WRel.dead {H : AH} (h : WRel P B0 m o H w) (b : Nat) : WRel P B0 m o (H.set b .dead) w where
  dom b' i e := by rw [List.length_set]; exact h.dom b' i e
  base := h.base
  low := h.low
  blk b' i x e hx := by
    by_cases hb : b' = b
    · subst hb
      have hl := (h.dom b' i e).1
      rw [List.getElem?_set_self hl] at hx
      cases hx; trivial
    · rw [List.getElem?_set_ne (by omega)] at hx
      exact h.blk b' i x e hx

theorem grow_does {H : AH} {L : LS} (hH : WRel P B0 m o H w) (hL : LRel B0 m o .loc L w) (hF : LFresh m L) {t ty e : TypeId} {i : TypeInfo} {z : Value} (ht : P.underlying t = some (.slice e)) (hi : P.info? e = some i) (hz : i.zero = some z) (hzs : z.cells.size = i.size) (h0 : 0 < i.size) (hby : i.bytes ≤ 2 ^ 16)
    {a' : Option Addr} {n c' k : Nat} {b' : Addr} {c2 : Nat} {old new old' new' : List Value} (hn0 : 0 < k) (hmax : n + k ≤ 2 ^ 30) (hlt : c' < n + k) (hn : n ≤ c') (hnil : a' = none → n = 0 ∧ c' = 0)
    (ro : LsRel m old old') (rn : LsRel m new new') (lo : old.length = n * i.size) (ln : new.length = k * i.size) (no : nlL old = true) (nn : nlL new = true)
    (ho : ∀ q, a' = some q → ∀ j v, old'[j]? = some v → w.cell? (q.add j) = some v) (hnw : ∀ j v, new'[j]? = some v → w.cell? (b'.add j) = some v) :
    ∃ v' w', (Builtin.append_ #[t, t] ty #[.slice a' n c', .slice (some b') k c2]).run P w = .ok v' w' ∧ Eff P B0 m o w (.slice (some ⟨H.length, 0, none⟩) (n + k) (n + k + 1)) L (H ++ [.rw i.size (old ++ new)]) v' w' := by
  have hlo : old'.length = n * i.size := by rw [← ro.1]; exact lo
  have hln : new'.length = k * i.size := by rw [← rn.1]; exact ln
  have fits : Builtin.nextslicecap (n + k) c' * i.bytes ≤ 281474976710656 := by
    refine growslice_fits hlt ?_
    have : (n + k) * i.bytes ≤ 1073741824 * 65536 := Nat.mul_le_mul (by omega) (by omega)
    omega
  have fin : ∀ (cap : Nat), n + k ≤ cap → Eff P B0 m o w (.slice (some ⟨H.length, 0, none⟩) (n + k) (n + k + 1)) L (H ++ [.rw i.size (old ++ new)]) (.slice (some ⟨w.heap.size, 0, none⟩) (n + k) cap)
      (w.drew.alloc (.cells (old'.toArray ++ new'.toArray ++ Builtin.zeroCells z.cells (cap - (n + k))) e)) := fun cap hcap => by
    have hlen : (old ++ new).length = (n + k) * i.size := by rw [List.length_append, lo, ln, Nat.add_mul]
    have hlen' : (old' ++ new').length = (n + k) * i.size := by rw [List.length_append, hlo, hln, Nat.add_mul]
    have hsz : (old'.toArray ++ new'.toArray ++ Builtin.zeroCells z.cells (cap - (n + k))).size = cap * i.size := by
      simp only [Array.size_append, List.size_toArray, zerosCells, hzs, hlo, hln, ← Nat.add_mul]
      congr 1; omega
    obtain ⟨m', o', hm', k1, k2, k3, k4⟩ := hH.push hL (w2 := w.drew.alloc (.cells (old'.toArray ++ new'.toArray ++ Builtin.zeroCells z.cells (cap - (n + k))) e)) rfl rfl rfl _ e rfl i.size (old ++ new) (by rw [nlL_append, no, nn]; rfl) (by rw [hlen, hsz]; exact Nat.mul_le_mul_right _ hcap) (by
        rw [hlen]
        have : (old'.toArray ++ new'.toArray ++ Builtin.zeroCells z.cells (cap - (n + k))).toList.take ((n + k) * i.size) = old' ++ new' := by
          simp only [Array.toList_append]
          rw [← hlen']
          exact List.take_left
        rw [this]
        exact ro.append rn)
    have hb : m'.h H.length = some ⟨w.heap.size, 0, i.size, cap * i.size, none⟩ := by rw [hm']; simp only [if_true]; rw [hsz]
    refine ⟨m', o', k1, .sl _ _ _ _ _ _ rfl ⟨rfl, _, hb, rfl, rfl⟩ hb (fun _ => by simp) hcap (fun e => by omega), k3, hF.same_l (by rw [hm']), k2, k4⟩
  cases a' with
  | none =>
    obtain ⟨rfl, rfl⟩ := hnil rfl
    have : old' = [] := List.eq_nil_of_length_eq_zero (by simpa using hlo)
    subst this
    have hr := run_append_nil (P := P) w t ty e i z ht hi hz b' k c2 new' hln hnw hn0 (by omega) (by have := fits; rw [Nat.zero_add, nextslicecap_zero hn0] at this; exact this)
    refine ⟨_, _, hr, ?_⟩
    have := fin (grownCap w k 0 e) (by have := grownCap_ge w k 0 e; omega)
    simpa using this
  | some q =>
    have hr := run_append_grow (P := P) w t ty e i z ht hi hz q n c' old' hlo (ho q rfl) b' k c2 new' hln hnw hlt (by omega) fits
    exact ⟨_, _, hr, fin _ (grownCap_ge w (n + k) c' e)⟩

theorem eqsA_cons {l r : List Value} {e : Bool} (h : eqsA l r = some e) : (l = [] ∧ r = [] ∧ e = true) ∨ ∃ k p q l' r' c, l = .int k p :: l' ∧ r = .int k q :: r' ∧ eqsA l' r' = some c ∧ e = (p == q && c) := by
  unfold eqsA at h
  split at h
  · cases h; exact .inl ⟨rfl, rfl, rfl⟩
  · split at h
    · rename_i hk; subst hk
      split at h
      · rename_i c hc; cases h; exact .inr ⟨_, _, _, _, _, c, rfl, rfl, hc, rfl⟩
      · cases h
    · cases h
  · cases h

theorem eqsA_ints : ∀ (l l' r r' : List Value) (e : Bool), eqsA l r = some e → LsRel m l l' → LsRel m r r' → l' = l ∧ r' = r
  | [], l', r, r', e, h, h1, h2 => by
    rcases eqsA_cons h with ⟨_, rfl, _⟩ | ⟨_, _, _, _, _, _, h0, _⟩
    · exact ⟨List.eq_nil_of_length_eq_zero (by have := h1.1; simpa using this.symm), List.eq_nil_of_length_eq_zero (by have := h2.1; simpa using this.symm)⟩
    · cases h0
  | u :: l, l', r, r', e, h, h1, h2 => by
    rcases eqsA_cons h with ⟨h0, _⟩ | ⟨k, p, q, l2, r2, c, h0, rfl, hc, _⟩
    · cases h0
    · cases h0
      cases l' with
      | nil => simp [LsRel] at h1
      | cons v l' =>
        cases r' with
        | nil => simp [LsRel] at h2
        | cons v' r' =>
          have a1 := h1.head
          have a2 := h2.head
          obtain ⟨b1, b2⟩ := eqsA_ints _ _ _ _ _ hc h1.tail h2.tail
          cases a1
          cases a2
          exact ⟨by rw [b1], by rw [b2]⟩

theorem eqItems_ints (dd : Nat) {e : TypeId} {ki : IntKind} (hu : P.underlying e = some (.int ki)) (xs ys : Array Value) : ∀ (n k : Nat) (b : Bool), (xs.toList.drop k).length = n → eqsA (xs.toList.drop k) (ys.toList.drop k) = some b →
    (Op.eqItems (dd + 1) e 1 xs ys (List.range' k n)).run P w = .ok b w
  | 0, k, b, hl, h => by
    rcases eqsA_cons h with ⟨_, _, rfl⟩ | ⟨_, _, _, _, _, _, h0, _⟩
    · simp [Op.eqItems]
    · rw [h0] at hl; simp at hl
  | n + 1, k, b, hl, h => by
    rcases eqsA_cons h with ⟨h0, _⟩ | ⟨kk, x, y, r, r', c, ex, ey, hc, rfl⟩
    · rw [h0] at hl; simp at hl
    · have gx : xs[k]? = some (.int kk x) := by
        have : (xs.toList.drop k)[0]? = some (.int kk x) := by rw [ex]; rfl
        rw [List.getElem?_drop] at this; simpa using this
      have gy : ys[k]? = some (.int kk y) := by
        have : (ys.toList.drop k)[0]? = some (.int kk y) := by rw [ey]; rfl
        rw [List.getElem?_drop] at this; simpa using this
      have dx : xs.toList.drop (k + 1) = r := by
        have := congrArg List.tail ex
        simpa [List.tail_drop] using this
      have dy : ys.toList.drop (k + 1) = r' := by
        have := congrArg List.tail ey
        simpa [List.tail_drop] using this
      have ha : (isAgg e).run P w = .ok false w := by simp [isAgg, run_underlying hu]
      have px : (part e xs (k * 1)).run P w = .ok (.int kk x) w := by simp [part, ha, gx]
      have py : (part e ys (k * 1)).run P w = .ok (.int kk y) w := by simp [part, ha, gy]
      have ih := eqItems_ints dd hu xs ys n (k + 1) c (by rw [dx]; rw [ex] at hl; simpa using hl) (by rw [dx, dy]; exact hc)
      rw [List.range'_succ]
      simp only [Op.eqItems, Sem.run_bind, px, py, Result.andThen_ok, run_equalIn_int w dd e kk ki x y hu]
      by_cases hxy : (x == y) = true
      · rw [hxy]; simpa using ih
      · simp only [Bool.not_eq_true] at hxy
        rw [hxy]; simp

theorem eqFields_ints (dd : Nat) (xs ys : Array Value) : ∀ (fs : List Field) (k : Nat) (e : Bool), (fs.zipIdx k).all (fun (f, j) => intT P f.type && f.offset == j && f.name != "_") = true → (xs.toList.drop k).length = fs.length → eqsA (xs.toList.drop k) (ys.toList.drop k) = some e →
    (Op.eqFields (dd + 1) xs ys fs).run P w = .ok e w
  | [], k, e, _, hl, h => by
    rcases eqsA_cons h with ⟨_, _, rfl⟩ | ⟨_, _, _, _, _, _, h0, _⟩
    · simp [Op.eqFields]
    · rw [h0] at hl; simp at hl
  | f :: fs, k, e, hf, hl, h => by
    simp only [List.zipIdx_cons, List.all_cons, Bool.and_eq_true, beq_iff_eq, bne_iff_ne] at hf
    obtain ⟨⟨⟨h1, h2⟩, h3⟩, h4⟩ := hf
    rcases eqsA_cons h with ⟨h0, _⟩ | ⟨kk, x, y, r, r', c, ex, ey, hc, rfl⟩
    · rw [h0] at hl; simp at hl
    · have gx : xs[k]? = some (.int kk x) := by
        have : (xs.toList.drop k)[0]? = some (.int kk x) := by rw [ex]; rfl
        rw [List.getElem?_drop] at this; simpa using this
      have gy : ys[k]? = some (.int kk y) := by
        have : (ys.toList.drop k)[0]? = some (.int kk y) := by rw [ey]; rfl
        rw [List.getElem?_drop] at this; simpa using this
      have dx : xs.toList.drop (k + 1) = r := by
        have := congrArg List.tail ex
        simpa [List.tail_drop] using this
      have dy : ys.toList.drop (k + 1) = r' := by
        have := congrArg List.tail ey
        simpa [List.tail_drop] using this
      unfold intT at h1
      split at h1
      · rename_i ki hu
        have ha : (isAgg f.type).run P w = .ok false w := by simp [isAgg, run_underlying hu]
        have px : (part f.type xs f.offset).run P w = .ok (.int kk x) w := by simp [part, ha, h2, gx]
        have py : (part f.type ys f.offset).run P w = .ok (.int kk y) w := by simp [part, ha, h2, gy]
        have ih := eqFields_ints dd xs ys fs (k + 1) c h4 (by rw [dx]; rw [ex] at hl; simpa using hl) (by rw [dx, dy]; exact hc)
        simp only [Op.eqFields, if_pos h3, Sem.run_bind, px, py, Result.andThen_ok, run_equalIn_int w dd f.type kk ki x y hu]
        by_cases hxy : (x == y) = true
        · rw [hxy]; simpa using ih
        · simp only [Bool.not_eq_true] at hxy
          rw [hxy]; simp
      · cases h1

section
variable (t : Tied P B0 m o s.L s.H w) {oper : Oper} {v : Value} {L' : LS} {H' : AH}
include t

theorem do_app {x y : Operand} {ty e : TypeId} {i : TypeInfo} {z : Value} {c : Call} (hop : oper.op = .call c) (hcal : c.callee = .builtin .append) (hargs : c.args = #[x, y]) (htys : c.argTypes = #[ty, ty]) (hu : P.underlying ty = some (.slice e)) (hi : P.info? e = some i) (hz : i.zero = some z)
    (hx : VRel m (s.ev x) (a.eval x)) (hy : VRel m (s.ev y) (a.eval y)) (h : popA s (.app i.size i.bytes z.cells.toList x y) d = some (v, L', H')) : Does P B0 m o w a oper v L' H' := by
  obtain ⟨cal, cargs, cty⟩ := c
  simp only at hcal hargs htys
  subst hcal; subst hargs; subst htys
  have wrap : ∀ {u : Value} {LL : LS} {HH : AH} {v' : Value} {w' : World}, (Builtin.append_ #[ty, ty] oper.type #[a.eval x, a.eval y]).run P w = .ok v' w' → Eff P B0 m o w u LL HH v' w' → Does P B0 m o w a oper u LL HH := by
    intro u LL HH v' w' h1 h2
    refine ⟨.value v', w', ?_, .inl ⟨v', rfl, h2⟩⟩
    simp [execOp, hop, resolve, invoke, Go.builtin, h1]
  simp only [popA] at h
  split at h
  · rename_i p n c q k c2 hp hq
    rw [hp] at hx
    rw [hq] at hy
    generalize he : a.eval x = zx at hx wrap
    generalize hg : a.eval y = zy at hy wrap
    have hform : ∃ a' c', zx = .slice a' n c' ∧ n ≤ c' ∧ (c = n → c' = n) ∧ (a' = none → n = 0 ∧ c' = 0) := by
      cases hx with
      | slN _ a' c' hc ha => exact ⟨a', c', rfl, Nat.zero_le _, fun h => hc h, fun e => ⟨rfl, by
          rcases Nat.eq_zero_or_pos c' with h | h
          · exact h
          · have := ha (by omega); rw [e] at this; cases this⟩⟩
      | sl q q' _ _ c' i hs hr hi ht hn hc => exact ⟨_, c', rfl, hn, hc, fun e => by cases e⟩
    obtain ⟨a', c', rfl, hn, hce, hnil⟩ := hform
    split at h
    · rename_i hk0
      subst hk0
      simp only [Option.some.injEq, Prod.mk.injEq] at h
      obtain ⟨rfl, rfl, rfl⟩ := h
      have hform2 : ∃ b' c3, zy = .slice b' 0 c3 := by
        cases hy with
        | slN _ a' c' hc ha => exact ⟨a', c', rfl⟩
        | sl q q' _ _ c' i hs hr hi ht hn hc => exact ⟨_, c', rfl⟩
      obtain ⟨b', c3, rfl⟩ := hform2
      exact wrap (run_append_zero ty oper.type e i hu hi a' b' n c' c3 hn) (Eff.pure t.tL t.tF t.tH hx)
    · rename_i hk0
      split at h
      · rename_i hc
        obtain ⟨c1, c3, c4, c5⟩ := hc
        have hmx : maxA = 2 ^ 30 := rfl
        rw [hmx] at c5
        simp only [Array.length_toList] at c1
        split at h
        · rename_i old new ho hnw
          split at h
          · cases h
          rename_i hnn
          have n1 : new.all oneC = true := by by_cases e : new.all oneC = true; · exact e
                                              · exact absurd (.inl (by simpa using e)) hnn
          have n2 : nlL new = true := by by_cases e : nlL new = true; · exact e
                                         · exact absurd (.inr (.inl (by simpa using e))) hnn
          have n3 : nlL old = true := by by_cases e : nlL old = true; · exact e
                                         · exact absurd (.inr (.inr (by simpa using e))) hnn
          cases hy with
          | slN => omega
          | sl b b' _ _ c2' ib hbs hbr hbi hbt hbn hbc =>
          obtain ⟨ln, new', rn, hnw'⟩ := cellsAt_sound t.tL t.tH hbr (by simpa using hnw)
          have hold : old.length = n * i.size ∧ ∃ old', LsRel m old old' ∧ ∀ q, a' = some q → ∀ j v, old'[j]? = some v → w.cell? (q.add j) = some v := by
            split at ho
            · rename_i hn0
              subst hn0
              cases ho
              exact ⟨by simp, [], LsRel.nil m, by simp⟩
            · rename_i hn0
              cases hx with
              | slN => omega
              | sl q q' _ _ _ i hs hr hi ht hn hc =>
                obtain ⟨k1, vs', k2, k3⟩ := cellsAt_sound t.tL t.tH hr (by simpa using ho)
                exact ⟨k1, vs', k2, fun q e => by cases e; exact k3⟩
          obtain ⟨lo, old', ro, ho'⟩ := hold
          split at h
          · rename_i hcn
            simp only [Option.some.injEq, Prod.mk.injEq] at h
            obtain ⟨rfl, rfl, rfl⟩ := h
            obtain ⟨v', w', k1, k2⟩ := grow_does t.tH t.tL t.tF (ty := oper.type) (c2 := c2') hu hi hz c1 c3 c4 (by omega) c5 (by have := hce hcn; omega) hn hnil ro rn lo ln n3 n2 ho' hnw'
            exact wrap k1 k2
          · rename_i hcn
            split at h
            · cases h
            · rename_i q
              split at h
              · rename_i e' vs hqs hqb
                split at h
                · rename_i hcc
                  obtain ⟨d1, rfl, d4⟩ := hcc
                  simp only [Option.some.injEq, Prod.mk.injEq] at h
                  obtain ⟨rfl, rfl, rfl⟩ := h
                  cases hx with
                  | sl _ q' _ _ _ iq hs hr hiq ht hn' hc' =>
                  obtain ⟨k1, k2, k3, k4, k5, arr, te, k6, k7, k8, k9⟩ := t.tH.blk _ _ _ hiq hqb
                  obtain ⟨r1, r2⟩ := hr
                  rw [hs] at r2
                  obtain ⟨iq2, r3, r4, r5⟩ := r2
                  rw [hiq] at r3; cases r3
                  have hq' : q' = ⟨iq.blk, iq.off + q.off, none⟩ := by
                    obtain ⟨b1, o1, s1⟩ := q'
                    simp only at r1 r4 r5
                    simp [r1, r4, r5]
                  subst hq'
                  generalize hO : iq.off + q.off = O at *
                  by_cases hroom : n + k ≤ c'
                  · have ht' := ht (by rw [k2]; omega)
                    simp only [k2, ← k7] at ht'
                    have hln : new'.length = k * i.size := by rw [← rn.1]; exact ln
                    have hfit : O + n * i.size + new'.length ≤ arr.size := by
                      rw [hln, Nat.add_assoc, ← Nat.add_mul]; exact Nat.le_trans (Nat.add_le_add_left (Nat.mul_le_mul_right _ hroom) _) ht'
                    have hrun := run_append_room' (P := P) (w := w) ty oper.type e te i hu hi iq.blk O n c' arr k6 b' k c2' new' hln hnw' (rn.all_oneC n1) hroom hfit
                    refine wrap hrun ?_
                    have hold2 : old' = (arr.toList.drop O).take (n * i.size) := by
                      apply List.ext_getElem?
                      intro j
                      have hlo' := ro.1
                      rw [List.getElem?_take]
                      by_cases hj : j < n * i.size
                      · rw [if_pos hj]
                        have hj' : j < old'.length := by omega
                        have := ho' _ rfl j old'[j] (List.getElem?_eq_getElem hj')
                        rw [add_eq] at this
                        rw [List.getElem?_eq_getElem hj', ← this]
                        simp [World.cell?, k6]
                      · rw [if_neg hj, List.getElem?_eq_none (by omega)]
                    have hd : m.h s.H.length = none := by
                      cases hx : m.h s.H.length with
                      | none => rfl
                      | some i => exact absurd (t.tH.dom _ _ hx).1 (Nat.lt_irrefl _)
                    have hm : m.le ⟨fun b => if b = s.H.length then some ⟨iq.blk, O, i.size, arr.size, none⟩ else m.h b, m.l⟩ := by
                      refine ⟨fun b i h => ?_, fun _ _ _ h => h⟩
                      by_cases hb : b = s.H.length
                      · subst hb; rw [hd] at h; cases h
                      · simpa [hb] using h
                    have hlt := lt_of_heap k6
                    have hqlt := (t.tH.dom _ _ hiq).1
                    have hsame : ∀ B, B ≠ iq.blk → (w.setRow iq.blk (arr.toList.take (O + n * i.size) ++ new' ++ arr.toList.drop (O + n * i.size + new'.length)).toArray).heap[B]? = w.heap[B]? := fun B hB => setRow_other w iq.blk B _ hB
                    refine ⟨_, fun B => if B = iq.blk then .heap s.H.length else o B, hm, ?_, ?_, ?_, ?_, ?_⟩
                    · refine .sl _ _ _ _ _ ⟨iq.blk, O, i.size, arr.size, none⟩ rfl ⟨rfl, ⟨iq.blk, O, i.size, arr.size, none⟩, by simp, rfl, rfl⟩ (by simp) (fun _ => by simpa using ht') hroom (fun e => by omega)
                    · exact t.tL.keep hm fun B dd g hB ho => by
                        have hne : B ≠ iq.blk := fun e => by subst e; rw [k4] at ho; cases ho
                        exact ⟨hsame B hne, by simp [hne]⟩
                    · exact t.tF.same_l rfl
                    · refine ⟨fun b i' h => ?_, fun B hB => ?_, by simpa using t.tH.low, fun b i' x h hx => ?_⟩
                      · by_cases hb : b = s.H.length
                        · subst hb; simp at h; subst h; simp; exact hlt
                        · simp [hb] at h; have := t.tH.dom b i' h; simp; omega
                      · have : B ≠ iq.blk := by omega
                        simp [this]; exact t.tH.base B hB
                      · by_cases hb : b = s.H.length
                        · subst hb
                          simp at h; subst h
                          simp at hx; subst hx
                          have hll : (old ++ new).length = n * i.size + new'.length := by rw [List.length_append, lo, rn.1]
                          have hmin : min (n * i.size) arr.size = n * i.size := by omega
                          refine ⟨by rw [hll]; simp only; omega, rfl, k3, by simp, by rw [nlL_append, n3, n2]; rfl, _, te, setRow_heap w iq.blk arr _ te _ k6, ?_, ?_, ?_⟩
                          · simp; omega
                          · rw [hll]; simp; omega
                          · have e1 : ((arr.toList.take (O + n * i.size) ++ new' ++ arr.toList.drop (O + n * i.size + new'.length)).toArray.toList.drop O).take (old ++ new).length = old' ++ new' := by
                              simp only []
                              rw [drop_laid new' arr.toList O (n * i.size) (by simpa using hfit), ← hold2]
                              rw [show (old ++ new).length = (old' ++ new').length by rw [hll, List.length_append, ← ro.1, lo]]
                              exact List.take_left
                            rw [e1]
                            exact ((ro.append rn).mono hm)
                        · simp [hb] at h
                          have hl := (t.tH.dom b i' h).1
                          rw [List.getElem?_append_left (by simpa using hl)] at hx
                          by_cases hbq : b = q.block
                          · subst hbq
                            rw [List.getElem?_set_self hl] at hx
                            cases hx; trivial
                          · rw [List.getElem?_set_ne (by omega)] at hx
                            refine (t.tH.blk b i' x h hx).keep hm fun B hB ho => ?_
                            have hne : B ≠ iq.blk := by
                              intro e; subst e
                              rcases ho with ho | ho | ⟨d, g, ho⟩
                              · omega
                              · rw [k4] at ho; cases ho; exact hbq rfl
                              · rw [k4] at ho; cases ho
                            exact ⟨hsame B hne, by simp [hne]⟩
                    · exact ⟨rfl, rfl, rfl, by simp, fun B hB ho => by
                        have hne : B ≠ iq.blk := fun e => by subst e; rw [k4] at ho; cases ho
                        exact ⟨hsame B hne, by simp [hne]; exact ho⟩⟩
                  · obtain ⟨v', w', k1', k2'⟩ := grow_does (t.tH.dead q.block) t.tL t.tF (ty := oper.type) (c2 := c2') hu hi hz c1 c3 c4 (by omega) c5 (by omega) hn hnil ro rn lo ln n3 n2 ho' hnw'
                    rw [List.length_set] at k2'
                    exact wrap k1' k2'
                · cases h
              · cases h
        · cases h
      · cases h
  · cases h

theorem do_eqs {neg : Bool} {x y : Operand} {ty ty' : TypeId} {fs : Array Field} {n : Nat} (hop : oper.op = .binOp (if neg then .neq else .eql) ty x y ty') (hu : P.underlying ty = some (.struct fs)) (hn : n = fs.size)
    (hf : (fs.toList.zipIdx.all fun (f, k) => intT P f.type && f.offset == k && f.name != "_") = true) (hs : P.stoodInHeld ty = false) (hg : P.eqGuardType P.depth ty = false)
    (hx : VRel m (s.ev x) (a.eval x)) (hy : VRel m (s.ev y) (a.eval y)) (h : popA s (.eqs neg n x y) d = some (v, L', H')) : Does P B0 m o w a oper v L' H' := by
  simp only [popA] at h
  split at h
  · rename_i p q hp hq
    rw [hp] at hx
    rw [hq] at hy
    split at h
    · rename_i hsz
      simp only [Option.bind_eq_some_iff, Option.some.injEq, Prod.mk.injEq] at h
      obtain ⟨e, he, rfl, rfl, rfl⟩ := h
      generalize ez : a.eval x = z at hx
      generalize ez' : a.eval y = z' at hy
      cases hx with
      | agg _ x' hxs hxr =>
      cases hy with
      | agg _ y' hys hyr =>
      obtain ⟨e1, e2⟩ := eqsA_ints _ _ _ _ _ he (LsRel.of_array hxs hxr) (LsRel.of_array hys hyr)
      have e1 : x' = p := Array.toList_inj.1 e1
      have e2 : y' = q := Array.toList_inj.1 e2
      subst e1; subst e2
      have hfo : P.fieldsOf ty = fs := by simp [Program.fieldsOf, hu]
      have hrun : (Op.equalIn 10000 ty (.agg x') (.agg y')).run P w = .ok e w := by
        rw [run_equalIn_struct w 9999 ty x' y' (by rw [hfo]; exact hu) hs, hfo]
        exact eqFields_ints 9998 x' y' fs.toList 0 e hf (by subst hn; simpa using hsz) (by simpa using he)
      refine t.pure ?_ (.bool _)
      cases neg
      · simp only [execOp, hop, ez, ez', Bool.false_eq_true, if_false]
        rw [Sem.run_bind, Sem.run_bind, run_eqGuard_agg w _ ty x y x' y' hg]
        simp only [Result.andThen_ok]
        rw [run_eql_struct, hrun]
        rfl
      · simp only [execOp, hop, ez, ez', if_true]
        rw [Sem.run_bind, Sem.run_bind, run_eqGuard_agg w _ ty x y x' y' hg]
        simp only [Result.andThen_ok]
        rw [run_neq_struct, hrun]
        rfl
    · cases h
  · cases h

theorem do_eqArr {neg : Bool} {x y : Operand} {ty ty' e n : Nat} {i : TypeInfo} (hop : oper.op = .binOp (if neg then .neq else .eql) ty x y ty') (hu : P.underlying ty = some (.array n e)) (hi : P.info? e = some i) (h1 : i.size = 1)
    (hf : intT P e = true) (hg : P.eqGuardType P.depth ty = false)
    (hx : VRel m (s.ev x) (a.eval x)) (hy : VRel m (s.ev y) (a.eval y)) (h : popA s (.eqs neg n x y) d = some (v, L', H')) : Does P B0 m o w a oper v L' H' := by
  simp only [popA] at h
  split at h
  · rename_i p q hp hq
    rw [hp] at hx
    rw [hq] at hy
    split at h
    · rename_i hsz
      simp only [Option.bind_eq_some_iff, Option.some.injEq, Prod.mk.injEq] at h
      obtain ⟨b, he, rfl, rfl, rfl⟩ := h
      generalize ez : a.eval x = z at hx
      generalize ez' : a.eval y = z' at hy
      cases hx with
      | agg _ x' hxs hxr =>
      cases hy with
      | agg _ y' hys hyr =>
      obtain ⟨e1, e2⟩ := eqsA_ints _ _ _ _ _ he (LsRel.of_array hxs hxr) (LsRel.of_array hys hyr)
      have e1 : x' = p := Array.toList_inj.1 e1
      have e2 : y' = q := Array.toList_inj.1 e2
      subst e1; subst e2
      obtain ⟨ki, hk⟩ : ∃ ki, P.underlying e = some (.int ki) := by
        unfold intT at hf
        split at hf
        · rename_i ki hk; exact ⟨ki, hk⟩
        · cases hf
      have hc1 : P.cellsOf e = 1 := by simp [Program.cellsOf, hi, h1]
      have hrun : (Op.equalIn 10000 ty (.agg x') (.agg y')).run P w = .ok b w := by
        rw [run_equalIn_array w 9999 x' y' hu hi, hc1, List.range_eq_range']
        exact eqItems_ints 9998 hk x' y' n 0 b (by simpa using hsz) (by simpa using he)
      refine t.pure ?_ (.bool _)
      cases neg
      · simp only [execOp, hop, ez, ez', Bool.false_eq_true, if_false]
        rw [Sem.run_bind, Sem.run_bind, run_eqGuard_agg w _ ty x y x' y' hg]
        simp only [Result.andThen_ok]
        rw [run_eql_struct, hrun]
        rfl
      · simp only [execOp, hop, ez, ez', if_true]
        rw [Sem.run_bind, Sem.run_bind, run_eqGuard_agg w _ ty x y x' y' hg]
        simp only [Result.andThen_ok]
        rw [run_neq_struct, hrun]
        rfl
    · cases h
  · cases h

omit t in
theorem zeros_oneC {z : List Value} (h : z.all oneC = true) : ∀ n, (zeros z n).all oneC = true
  | 0 => by simp [zeros]
  | n + 1 => by simp only [zeros, List.all_append, h, zeros_oneC h n, Bool.and_self]

theorem do_clr {x : Operand} {ty e : TypeId} {i : TypeInfo} {z : Value} {c : Call} (hop : oper.op = .call c) (hcal : c.callee = .builtin .clear) (hargs : c.args = #[x]) (htys : c.argTypes = #[ty]) (hu : P.underlying ty = some (.slice e)) (hi : P.info? e = some i) (hz : i.zero = some z)
    (h0 : 0 < z.cells.size) (hsz : scaL z.cells.toList = true) (hx : VRel m (s.ev x) (a.eval x)) (h : popA s (.clr z.cells.toList x) d = some (v, L', H')) : Does P B0 m o w a oper v L' H' := by
  obtain ⟨cal, cargs, cty⟩ := c
  simp only at hcal hargs htys
  subst hcal; subst hargs; subst htys
  have wrap : ∀ {u : Value} {LL : LS} {HH : AH} {v' : Value} {w' : World}, (Builtin.clear_ #[ty] oper.type #[a.eval x]).run P w = .ok v' w' → Eff P B0 m o w u LL HH v' w' → Does P B0 m o w a oper u LL HH := by
    intro u LL HH v' w' h1 h2
    refine ⟨.value v', w', ?_, .inl ⟨v', rfl, h2⟩⟩
    simp [execOp, hop, resolve, invoke, Go.builtin, h1]
  simp only [popA] at h
  split at h
  · rename_i p n c hp
    rw [hp] at hx
    generalize he : a.eval x = zx at hx wrap
    split at h
    · rename_i hn
      simp only [Option.some.injEq, Prod.mk.injEq] at h
      obtain ⟨rfl, rfl, rfl⟩ := h
      have f1 : ∃ a' c', zx = .slice a' n c' := by cases hx with | slN _ a' c' => exact ⟨_, _, rfl⟩ | sl => exact ⟨_, _, rfl⟩
      obtain ⟨a1, c1, rfl⟩ := f1
      subst hn
      refine wrap (v' := .tuple #[]) (w' := w) ?_ (Eff.pure t.tL t.tF t.tH (VRel.tupL (x := []) (x' := []) (LsRel.nil m)))
      cases a1 <;> simp [Builtin.clear_, run_underlying hu]
    · rename_i hn
      split at h
      · rename_i p'
        split at h
        · rename_i hps
          obtain ⟨hps, hone⟩ := hps
          simp only [Option.map_eq_some_iff, Prod.mk.injEq] at h
          obtain ⟨H2, h2, rfl, rfl, rfl⟩ := h
          cases hx with
          | sl _ a' _ _ c' ia hsa hra hia hta hna hca =>
          obtain ⟨r1, r2⟩ := hra
          rw [hsa] at r2
          obtain ⟨ia2, r3, r4, r5⟩ := r2
          rw [hia] at r3; cases r3
          obtain ⟨w', k1, k2, k3, k4⟩ := hstore_sound (P := P) t.tH t.tL hia h2 (LsRel.zeros m hsz n) (zeros_oneC hone n)
          have ha' : a' = ⟨ia.blk, ia.off + p'.off, none⟩ := by
            obtain ⟨b1, o1, s1⟩ := a'
            simp only at r1 r4 r5
            simp [r1, r4, r5]
          subst ha'
          refine wrap (v' := .tuple #[]) (w' := w') ?_ ⟨m, o, Mp.le_refl m, VRel.tupL (x := []) (x' := []) (LsRel.nil m), k3, t.tF, k2, k4⟩
          have hz0 : (Builtin.zeroCells z.cells n).toList = zeros z.cells.toList n := zeros_arr z.cells n h0
          have hc : (Builtin.clear_ #[ty] oper.type #[.slice (some ⟨ia.blk, ia.off + p'.off, none⟩) n c']).run P w = ((storeCells ⟨ia.blk, ia.off + p'.off, none⟩ (Builtin.zeroCells z.cells n).toList).run P w).andThen fun _ w' => .ok (.tuple #[]) w' := by
            obtain ⟨n', rfl⟩ : ∃ n', n = n' + 1 := ⟨n - 1, by omega⟩
            simp [Builtin.clear_, run_underlying hu, zeroValue, typeInfo, hi, hz]
          rw [hc, hz0, k1]
          rfl
        · cases h
      · cases h
  · cases h

theorem do_copy {x y : Operand} {ty ty' e : TypeId} {i : TypeInfo} {c : Call} (hop : oper.op = .call c) (hcal : c.callee = .builtin .copy) (hargs : c.args = #[x, y]) (htys : c.argTypes = #[ty, ty']) (hu : P.underlying ty = some (.slice e)) (hi : P.info? e = some i)
    (hx : VRel m (s.ev x) (a.eval x)) (hy : VRel m (s.ev y) (a.eval y)) (h : popA s (.copy i.size x y) d = some (v, L', H')) : Does P B0 m o w a oper v L' H' := by
  obtain ⟨cal, cargs, cty⟩ := c
  simp only at hcal hargs htys
  subst hcal; subst hargs; subst htys
  have wrap : ∀ {u : Value} {LL : LS} {HH : AH} {v' : Value} {w' : World}, (Builtin.copy_ #[ty, ty'] oper.type #[a.eval x, a.eval y]).run P w = .ok v' w' → Eff P B0 m o w u LL HH v' w' → Does P B0 m o w a oper u LL HH := by
    intro u LL HH v' w' h1 h2
    refine ⟨.value v', w', ?_, .inl ⟨v', rfl, h2⟩⟩
    simp [execOp, hop, resolve, invoke, Go.builtin, h1]
  simp only [popA] at h
  split at h
  · rename_i p n c q k c2 hp hq
    rw [hp] at hx
    rw [hq] at hy
    generalize he : a.eval x = zx at hx wrap
    generalize hg : a.eval y = zy at hy wrap
    split at h
    · rename_i h0
      simp only [Option.some.injEq, Prod.mk.injEq] at h
      obtain ⟨rfl, rfl, rfl⟩ := h
      have f1 : ∃ a' c', zx = .slice a' n c' := by cases hx with | slN _ a' c' => exact ⟨_, _, rfl⟩ | sl => exact ⟨_, _, rfl⟩
      have f2 : ∃ a' c', zy = .slice a' k c' := by cases hy with | slN _ a' c' => exact ⟨_, _, rfl⟩ | sl => exact ⟨_, _, rfl⟩
      obtain ⟨a1, c1, rfl⟩ := f1
      obtain ⟨a2, c2', rfl⟩ := f2
      refine wrap (v' := .int .i64 0) (w' := w) ?_ (Eff.pure t.tL t.tF t.tH (.int _ _))
      have h0' : Nat.min k n = 0 := h0
      cases a1 <;> cases a2 <;> simp [Builtin.copy_, run_underlying hu, sizeOf, typeInfo, hi, Builtin.lenOf, h0', Builtin.firstCells, loadCells, loadCellsFrom, storeCells, goInt]
    · rename_i h0
      split at h
      · rename_i p' vs hvs
        split at h
        · rename_i hps
          obtain ⟨hps, hone⟩ := hps
          simp only [Option.map_eq_some_iff, Prod.mk.injEq] at h
          obtain ⟨H2, h2, rfl, rfl, rfl⟩ := h
          cases hx with
          | sl _ a' _ _ c' ia hsa hra hia hta hna hca =>
          cases hy with
          | slN => simp at h0
          | sl q q' _ _ c2' iq hsq hrq hiq htq hnq hcq =>
          obtain ⟨lv, vs', rv, hv'⟩ := cellsAt_sound t.tL t.tH hrq (by simpa using hvs)
          obtain ⟨r1, r2⟩ := hra
          rw [hsa] at r2
          obtain ⟨ia2, r3, r4, r5⟩ := r2
          rw [hia] at r3; cases r3
          obtain ⟨w', k1, k2, k3, k4⟩ := hstore_sound (P := P) t.tH t.tL hia h2 rv hone
          have ha' : a' = ⟨ia.blk, ia.off + p'.off, none⟩ := by
            obtain ⟨b1, o1, s1⟩ := a'
            simp only at r1 r4 r5
            simp [r1, r4, r5]
          subst ha'
          refine wrap (v' := .int .i64 (min k n : Nat)) (w' := w') ?_ ⟨m, o, Mp.le_refl m, .int _ _, k3, t.tF, k2, k4⟩
          have hmin : Nat.min k n = min k n := rfl
          have hlv : vs'.length = min k n * i.size := by rw [← rv.1]; exact lv
          have hf := run_firstCells_some (P := P) w i.size (min k n) q' k c2' vs' hlv hv'
          simp [Builtin.copy_, run_underlying hu, sizeOf, typeInfo, hi, Builtin.lenOf, hmin, hf, k1, goInt]
        · cases h
      · cases h
  · cases h
end
end Go.Proofs.YthobfecblpnnnaaGreatDoor

/- All operations but calls. -/
namespace Go.Proofs.YthobfecblpnnnaaGreatDoor
open Go Go.RowKit

variable {P : Program} {B0 : Nat} {m : Mp} {o : Nat → Ow} {w : World} {s : St} {a : Act}

theorem scaL_cells {z : Value} (h : sca z = true) : scaL z.cells.toList = true := by
  cases z <;> simp_all [sca, Value.cells, scaL]

theorem popA_key (t : Tied P B0 m o s.L s.H w) {oper : Oper} {v : Value} {L' : LS} {H' : AH} {so : SO} (hc : cOp? P oper = some so) (hnc : ∀ f args, so ≠ .call f args) (hx : ∀ x ∈ so.xs, VRel m (s.ev x) (a.eval x))
    (h : popA s so oper.dst = some (v, L', H')) : Does P B0 m o w a oper v L' H' := by
  unfold cOp? at hc
  split at hc
  · rename_i x hop; cases hc; exact do_mv t (.inl hop) (hx x (by simp [SO.xs])) h
  · rename_i x hop; cases hc; exact do_mv t (.inr hop) (hx x (by simp [SO.xs])) h
  · rename_i c x y hop; cases hc; exact do_pick t hop (hx c (by simp [SO.xs])) (hx x (by simp [SO.xs])) (hx y (by simp [SO.xs])) h
  · rename_i e hop
    simp only [bind, Option.bind_eq_some_iff, Option.some.injEq] at hc
    obtain ⟨z, hz, rfl⟩ := hc
    exact do_box t (.inr ⟨hop, z, rfl, hz⟩) (hx _ (by simp [SO.xs])) h
  · rename_i e x hop; cases hc; exact do_box t (.inl hop) (hx x (by simp [SO.xs])) h
  · rename_i st x f hop
    simp only [bind, Option.bind_eq_some_iff, Option.some.injEq] at hc
    obtain ⟨⟨off, size, ag⟩, hf, hc⟩ := hc
    simp only at hc
    split at hc
    · cases hc
    · rename_i h0; cases hc; exact do_ptr t hop hf h0 (hx x (by simp [SO.xs])) h
  · rename_i ty x ix hop
    split at hc
    · rename_i e hu
      simp only [bind, Option.bind_eq_some_iff, Option.some.injEq] at hc
      obtain ⟨i, hi, rfl⟩ := hc
      exact do_elem t hop hu hi (hx x (by simp [SO.xs])) (hx ix (by simp [SO.xs])) h
    · rename_i n e hu
      simp only [bind, Option.bind_eq_some_iff, Option.some.injEq] at hc
      obtain ⟨i, hi, rfl⟩ := hc
      exact do_elemA t hop hu hi (hx x (by simp [SO.xs])) (hx ix (by simp [SO.xs])) h
    · cases hc
  · rename_i ty x hop
    simp only [bind, Option.bind_eq_some_iff] at hc
    obtain ⟨i, hi, de, hu, hc⟩ := hc
    split at hc
    · rename_i ha; cases hc; exact do_ldn t hop hi ha (hx x (by simp [SO.xs])) h
    · rename_i ha; cases hc; exact do_ld t hop hu (by simpa using ha) (hx x (by simp [SO.xs])) h
  · rename_i ty x y hop
    simp only [bind, Option.bind_eq_some_iff, Option.some.injEq] at hc
    obtain ⟨i, hi, rfl⟩ := hc
    exact do_st t hop hi (hx x (by simp [SO.xs])) (hx y (by simp [SO.xs])) h
  · rename_i x hop; cases hc; exact do_nilc t hop (hx x (by simp [SO.xs])) h
  · rename_i op ty x y ty' hop
    have eqc : ∀ (neg : Bool), oper.op = .binOp (if neg then .neq else .eql) ty x y ty' → cEq P neg ty x y = some so → Does P B0 m o w a oper v L' H' := by
      intro neg hop hc
      unfold cEq at hc
      split at hc
      · rename_i hu; cases hc; exact do_eqb t hop hu (hx x (by simp [SO.xs])) (hx y (by simp [SO.xs])) h
      · rename_i fs hu
        simp only [bind, Option.bind_eq_some_iff] at hc
        obtain ⟨i, hi, hc⟩ := hc
        split at hc
        · rename_i hcc
          obtain ⟨c1, c2, c3, c4⟩ := hcc
          cases hc
          exact do_eqs t hop hu c1 c2 (by simpa using c3) (by simpa using c4) (hx x (by simp [SO.xs])) (hx y (by simp [SO.xs])) h
        · cases hc
      · rename_i n e hu
        simp only [bind, Option.bind_eq_some_iff] at hc
        obtain ⟨i, hi, hc⟩ := hc
        split at hc
        · rename_i hcc
          obtain ⟨c1, c2, c3⟩ := hcc
          cases hc
          exact do_eqArr t hop hu hi c1 c2 (by simpa using c3) (hx x (by simp [SO.xs])) (hx y (by simp [SO.xs])) h
        · cases hc
      · rename_i e hu
        split at hc
        · cases hc; exact do_nils t hop hu (hx x (by simp [SO.xs])) h
        · cases hc
      · cases hc
    split at hc
    · split at hc
      · cases hc; exact do_bin t hop (hx x (by simp [SO.xs])) (hx y (by simp [SO.xs])) h
      · exact eqc false hop hc
    · split at hc
      · cases hc; exact do_bin t hop (hx x (by simp [SO.xs])) (hx y (by simp [SO.xs])) h
      · exact eqc true hop hc
    · split at hc
      · cases hc; exact do_bin t hop (hx x (by simp [SO.xs])) (hx y (by simp [SO.xs])) h
      · cases hc
  · rename_i op ty x hop; cases hc; exact do_un t hop (hx x (by simp [SO.xs])) h
  · rename_i st dt x hop
    split at hc
    · rename_i k k' h1 h2; cases hc; exact do_conv t hop h1 h2 (hx x (by simp [SO.xs])) h
    · cases hc
  · rename_i fn first cap hop; cases hc; exact do_mkf t hop (fun x hm => hx x (by simpa [SO.xs] using hm)) h
  · rename_i ty l c hop
    split at hc
    · rename_i e hu
      simp only [bind, Option.bind_eq_some_iff, Option.some.injEq] at hc
      obtain ⟨i, hi, z, hz, rfl⟩ := hc
      simp only [zeroS, zeroOf, Option.bind_eq_some_iff] at hz
      obtain ⟨z', ⟨i', hi', hz'⟩, hz2⟩ := hz
      rw [hi] at hi'; cases hi'
      split at hz2
      · rename_i hs
        cases hz2
        exact do_mks t hop hu hi hz' (scaL_cells hs) (hx l (by simp [SO.xs])) (hx c (by simp [SO.xs])) h
      · cases hz2
    · cases hc
  · rename_i ty x lo hi mx hop
    split at hc
    · rename_i e hu
      simp only [bind, Option.bind_eq_some_iff, Option.some.injEq] at hc
      obtain ⟨i, hi', rfl⟩ := hc
      exact do_slc t hop hu hi' (fun y hy => hx y (by simpa [SO.xs] using hy)) h
    · cases hc
  · rename_i ty x f hop
    simp only [bind, Option.bind_eq_some_iff, Option.some.injEq] at hc
    obtain ⟨⟨off, size, ag⟩, hf, rfl⟩ := hc
    exact do_fld t hop hf (hx x (by simp [SO.xs])) h
  · rename_i ty x ix hop
    split at hc
    · rename_i n e kk k hu
      simp only [bind, Option.bind_eq_some_iff] at hc
      obtain ⟨i, hi, de, hde, hc⟩ := hc
      split at hc
      · rename_i h0; cases hc; exact do_idx t hop hu hi hde h0 (hx x (by simp [SO.xs])) h
      · cases hc
    · rename_i hu
      split at hc
      · cases hc; exact do_sidx t hop hu (hx _ (by simp [SO.xs])) h
      · cases hc
    · cases hc
  · rename_i x i hop; cases hc; exact do_ext t hop (hx x (by simp [SO.xs])) h
  · rename_i ty parts hop
    simp only [bind, Option.bind_eq_some_iff] at hc
    obtain ⟨z, hz, hc⟩ := hc
    split at hc
    · cases hc
    · rename_i hs
      simp only [Option.bind_eq_some_iff, Option.some.injEq] at hc
      obtain ⟨ps, hp, rfl⟩ := hc
      exact do_build t hop hz (scaL_cells (by simpa using hs)) hp (fun x hm => hx x (by simpa [SO.xs] using hm)) h
  · rename_i ty len parts hop
    split at hc
    · rename_i e hu
      simp only [bind, Option.bind_eq_some_iff] at hc
      obtain ⟨i, hi, z, hz, hc⟩ := hc
      split at hc
      · cases hc
      · rename_i hs
        simp only [Option.bind_eq_some_iff, Option.some.injEq] at hc
        obtain ⟨ps, hp, rfl⟩ := hc
        have hs' : ¬ len * i.size > 2 ^ 16 ∧ z.cells.size = i.size ∧ i.size ≠ 0 ∧ sca z = true := by
          refine ⟨fun e => hs (.inl e), ?_, fun e => hs (.inr (.inr (.inl e))), ?_⟩
          · by_cases e : z.cells.size = i.size; · exact e
            · exact absurd (.inr (.inl e)) hs
          · by_cases e : sca z = true; · exact e
            · exact absurd (.inr (.inr (.inr (by simpa using e)))) hs
        exact do_buildS t hop hu hi hz hs'.1 hs'.2.1 hs'.2.2.1 (scaL_cells hs'.2.2.2) hp (fun x hm => hx x (by simpa [SO.xs] using hm)) h
    · cases hc
  · rename_i c hop
    split at hc
    · rename_i hcal
      split at hc
      · rename_i ty x hty hargs
        split at hc
        · rename_i e hu
          cases hc
          exact do_len t hop hcal hty (by rw [← Array.toList_inj]; exact hargs) hu (hx x (by simp [SO.xs])) h (rt := 0)
        · rename_i n e hu
          cases hc
          simp only [popA, Option.some.injEq, Prod.mk.injEq] at h
          obtain ⟨rfl, rfl, rfl⟩ := h
          obtain ⟨cal, cargs, cty⟩ := c
          simp only at hcal hargs hty
          subst hcal
          have : cargs = #[x] := by rw [← Array.toList_inj]; exact hargs
          subst this
          refine t.pure ?_ (.int _ _)
          simp [execOp, hop, resolve, invoke, Go.builtin, Builtin.len_, hty, run_underlying hu, goInt]
        · cases hc
      · cases hc
    · rename_i hcal
      split at hc
      · rename_i ty uy x y hty hargs
        split at hc
        · rename_i e e' hu hu'
          split at hc
          · rename_i htu
            subst htu
            simp only [bind, Option.bind_eq_some_iff, Option.some.injEq] at hc
            obtain ⟨i, hi, z, hz, rfl⟩ := hc
            simp only [zeroS, zeroOf, Option.bind_eq_some_iff] at hz
            obtain ⟨z', ⟨i', hi', hz'⟩, hz2⟩ := hz
            rw [hi] at hi'; cases hi'
            split at hz2
            · rename_i hs
              cases hz2
              exact do_app t hop hcal (by rw [← Array.toList_inj]; exact hargs) (by rw [← Array.toList_inj]; exact hty) hu hi hz' (hx x (by simp [SO.xs])) (hx y (by simp [SO.xs])) h
            · cases hz2
          · cases hc
        · cases hc
      · cases hc
    · rename_i hcal; cases hc; exact do_max t hop hcal (fun x hm => hx x (by simpa [SO.xs] using hm)) h
    · rename_i hcal; cases hc; exact do_min t hop hcal (fun x hm => hx x (by simpa [SO.xs] using hm)) h
    · rename_i hcal
      split at hc
      · rename_i ty uy x y hty hargs
        split at hc
        · rename_i e e' hu hu'
          simp only [bind, Option.bind_eq_some_iff, Option.some.injEq] at hc
          obtain ⟨i, hi, rfl⟩ := hc
          exact do_copy t hop hcal (by rw [← Array.toList_inj]; exact hargs) (by rw [← Array.toList_inj]; exact hty) hu hi (hx x (by simp [SO.xs])) (hx y (by simp [SO.xs])) h
        · cases hc
      · cases hc
    · rename_i hcal
      split at hc
      · rename_i ty x hty hargs
        split at hc
        · rename_i e hu
          simp only [bind, Option.bind_eq_some_iff] at hc
          obtain ⟨i, hi, z, hz, hc⟩ := hc
          simp only [zeroS, zeroOf, Option.bind_eq_some_iff] at hz
          obtain ⟨z', ⟨i', hi', hz'⟩, hz2⟩ := hz
          rw [hi] at hi'; cases hi'
          split at hz2
          · cases hz2
            split at hc
            · cases hc
            · rename_i hcc
              cases hc
              exact do_clr t hop hcal (by rw [← Array.toList_inj]; exact hargs) (by rw [← Array.toList_inj]; exact hty) hu hi hz' (by omega) (by cases hs : scaL z.cells.toList <;> simp_all) (hx x (by simp [SO.xs])) h
          · cases hz2
        · cases hc
      · cases hc
    · cases hc
  · cases hc

theorem popA_does (t : Tied P B0 m o s.L s.H w) {oper : Oper} {v : Value} {L' : LS} {H' : AH} (hx : ∀ x ∈ (cOp P oper).xs, VRel m (s.ev x) (a.eval x))
    (h : popA s (cOp P oper) oper.dst = some (v, L', H')) : Does P B0 m o w a oper v L' H' := by
  unfold cOp at *
  split at h
  · split at h <;> simp [popA] at h
  · rename_i hnv
    split at h
    · rename_i so hc
      simp only [hc] at hx
      split at h
      · rename_i hok
        simp only [hok, and_self, if_true] at hx
        exact popA_key t hc (fun f args e => by rw [e] at hok; simp [SO.isCall] at hok) hx h
      · simp [popA] at h
    · simp [popA] at h

theorem cOp_call {oper : Oper} {f : Operand} {args : List Operand} (h : cOp P oper = .call f args) : ∃ c, oper.op = .call c ∧ c.callee = .value f ∧ c.args.toList = args := by
  unfold cOp at h
  split at h
  · rename_i f' args' tys hop
    split at h
    · cases h; exact ⟨_, hop, rfl, rfl⟩
    · cases h
  · split at h
    · split at h
      · rename_i hok; rw [h] at hok; simp [SO.isCall] at hok
      · cases h
    · cases h

/-- All operands of a compiled operation can be read in both machines alike. -/
theorem cOp_ok {oper : Oper} : ∀ x ∈ (cOp P oper).xs, xOk P x = true := by
  unfold cOp
  split
  · split
    · rename_i h; exact List.all_eq_true.1 h
    · simp [SO.xs]
  · split
    · split
      · rename_i h; exact List.all_eq_true.1 h.2
      · simp [SO.xs]
    · simp [SO.xs]

theorem ev_rel {x : Operand} (hG : GRel P m) (hT : TRel m s.t a.tmps) (hok : xOk P x = true) : VRel m (s.ev x) (a.eval x) := by
  cases x with
  | tmp t => exact hT t
  | const v => exact VRel.refl_sca m v hok
  | global g =>
    obtain ⟨t, ht⟩ := hG g (by simpa [xOk] using hok)
    exact .ptr _ _ ⟨rfl, _, ht, rfl, by simp⟩
  | func f => exact .func _ _ _ _ _ _ (.func f) rfl (fun i h _ => absurd h (by simp)) rfl (fun i h _ => absurd h (by simp))
end Go.Proofs.YthobfecblpnnnaaGreatDoor

/- Calls, as the code that makes them sees them; one operation; a list of operations. -/
namespace Go.Proofs.YthobfecblpnnnaaGreatDoor
open Go Go.RowKit

variable {P : Program} {B0 : Nat}

def Mp0 (h : Nat → Option HI) : Mp := ⟨h, fun _ _ => none⟩

def CPost (P : Program) (B0 : Nat) (h : Nat → Option HI) (o : Nat → Ow) (w : World) (v : Value) (H' : AH) : Ending → World → Prop := fun e w' =>
  ∃ v', e = .returned v' ∧ ∃ h' o', (∀ b i, h b = some i → h' b = some i) ∧ VRel (Mp0 h') v v' ∧ WRel P B0 (Mp0 h') o' H' w' ∧ Keep o w o' w'

/-- What the abstract machine says of calls holds of the model's. -/
def CSound (P : Program) (B0 : Nat) (C : CallA) : Prop :=
  ∀ fv vs lim H v H', C fv vs lim H = some (v, H') → nl v = true ∧ ∀ h o w, WRel P B0 (Mp0 h) o H w → (∀ B d g, o B ≠ .loc d g) → GRel P (Mp0 h) → ∀ fv', VRel (Mp0 h) fv fv' → ∀ vs', LsRel (Mp0 h) vs vs' → nlL vs = true →
    ∀ F : Fence, (∀ f, F.fn f) → F.depth = none → ∀ n, ∃ fn first cap, fv' = .func fn first cap ∧ ∃ nx, (invoke (.fn fn cap) (first ++ vs'.toArray)).run P w = .ok nx w ∧
      ((∃ f args, nx = .enter f args ∧ CallsIn F n P f args w (CPost P B0 h o w v H')) ∨
       (∃ l f tmps asg body, (∃ l', fn = .yield l') ∧ nx = .round l f tmps asg body ∧ RoundIn F n P l f tmps asg body w (CPost P B0 h o w v H')))

structure SRel (P : Program) (B0 : Nat) (rd : Option Nat) (ds : List Nat) (nt : Nat) (m : Mp) (o : Nat → Ow) (s : St) (a : Act) (w : World) : Prop where
  T : TRel m s.t a.tmps
  sz : nt ≤ a.tmps.size
  tie : Tied P B0 m o s.L s.H w
  G : GRel P m
  D : a.defers = ds.map (fun D => { target := .collected D, args := #[] }) ∧ ds.Nodup ∧ ∀ D ∈ ds, w.heap[D]? = some (.deferred (some [])) ∧ o D = .other
  R : match s.rd, rd with
    | none, none => True
    | some b, some l => ∃ i, m.h b = some i ∧ i.blk = l
    | _, _ => False

theorem WRel.relabel {h : Nat → Option HI} {l l' : Nat → Nat → Option Nat} {o : Nat → Ow} {H : AH} {w : World} (r : WRel P B0 ⟨h, l⟩ o H w) : WRel P B0 ⟨h, l'⟩ o H w where
  dom := r.dom
  base := r.base
  low := r.low
  blk b i x e hx := by
    have := r.blk b i x e hx
    cases x with
    | rw ee vs =>
      obtain ⟨h1, h2, h3, h4, h5, arr, te, h6, h7, h8, h9⟩ := this
      exact ⟨h1, h2, h3, h4, h5, arr, te, h6, h7, h8, h9.nl_of h5⟩
    | ro vs =>
      obtain ⟨h1, h2, h3, h4⟩ := this
      refine ⟨h1, h2, h3, fun j hj => ?_⟩
      obtain ⟨v', h5, h6⟩ := h4 j hj
      exact ⟨v', h5, h6.nl_of ((nlL_iff vs).1 h3 j hj)⟩
    | dead => trivial
    | loop r => exact this

def Ow.clean : Ow → Ow
  | .loc _ _ => .other
  | x => x

theorem Ow.clean_ne (x : Ow) (d g : Nat) : x.clean ≠ .loc d g := by cases x <;> simp [Ow.clean]

/-- Owners as a callee sees them. -/
def ownIn (o : Nat → Ow) : Nat → Ow := fun B => (o B).clean

/-- Owners behind a call. -/
def ownOut (o o' : Nat → Ow) (n : Nat) : Nat → Ow := fun B => if B < n then (match o B with | .loc d g => .loc d g | _ => (o' B).clean) else (o' B).clean

theorem WRel.ownIn {m : Mp} {o : Nat → Ow} {H : AH} {w : World} (r : WRel P B0 m o H w) : WRel P B0 m (ownIn o) H w :=
  r.keep rfl (fun _ _ _ h => h) (Nat.le_refl _) (fun B hB => by simp [Go.Proofs.YthobfecblpnnnaaGreatDoor.ownIn, r.base B hB, Ow.clean]) fun B _ ho => ⟨rfl, by
    simp only [Go.Proofs.YthobfecblpnnnaaGreatDoor.ownIn]
    rcases ho with ho | ⟨b, ho⟩ | ⟨b, d, g, ho⟩
    · rw [r.base B ho]; rfl
    · rw [ho]; rfl
    · rw [ho]; rfl⟩

/-- Behind a call the caller's state is tied as before. -/
theorem call_frame {m : Mp} {o : Nat → Ow} {L : LS} {H H' : AH} {w w' : World} (t : Tied P B0 m o L H w) {h' : Nat → Option HI} {o' : Nat → Ow} (hm : ∀ b i, m.h b = some i → h' b = some i) (hH : WRel P B0 (Mp0 h') o' H' w') (hk : Keep (ownIn o) w o' w') :
    m.le ⟨h', m.l⟩ ∧ Tied P B0 ⟨h', m.l⟩ (ownOut o o' w.heap.size) L H' w' ∧ Keep o w (ownOut o o' w.heap.size) w' := by
  have hle : m.le ⟨h', m.l⟩ := ⟨hm, fun _ _ _ h => h⟩
  have hin : ∀ B, (∀ d g, o B ≠ .loc d g) → ownOut o o' w.heap.size B = (o' B).clean := fun B hB => by
    unfold ownOut
    split
    · split
      · rename_i d g e; exact absurd e (hB d g)
      · rfl
    · rfl
  have hloc : ∀ B d g, B < w.heap.size → o B = .loc d g → ownOut o o' w.heap.size B = .loc d g ∧ w'.heap[B]? = w.heap[B]? ∧ o' B = .other := fun B d g hB ho => by
    obtain ⟨h1, h2⟩ := hk.same B hB (by simp [Go.Proofs.YthobfecblpnnnaaGreatDoor.ownIn, ho, Ow.clean])
    refine ⟨?_, h1, h2⟩
    unfold ownOut
    rw [if_pos hB, ho]
  have hheld : ∀ B, Held B0 o' B → ownOut o o' w.heap.size B = o' B := fun B hB => by
    by_cases hl : ∃ d g, B < w.heap.size ∧ o B = .loc d g
    · obtain ⟨d, g, h1, h2⟩ := hl
      obtain ⟨h3, h4, h5⟩ := hloc B d g h1 h2
      rcases hB with hB | ⟨b, hB⟩ | ⟨b, d', g', hB⟩
      · have := t.tH.base B hB; rw [this] at h2; cases h2
      · rw [h5] at hB; cases hB
      · rw [h5] at hB; cases hB
    · have : ownOut o o' w.heap.size B = (o' B).clean := by
        unfold ownOut
        split
        · rename_i hlt
          split
          · rename_i d g e; exact absurd ⟨d, g, hlt, e⟩ hl
          · rfl
        · rfl
      rw [this]
      rcases hB with hB | ⟨b, hB⟩ | ⟨b, d', g', hB⟩
      · rw [hH.base B hB]; rfl
      · rw [hB]; rfl
      · rw [hB]; rfl
  refine ⟨hle, ⟨?_, ?_, ?_⟩, ?_⟩
  · have := hH.relabel (l' := m.l)
    refine this.keep rfl (fun _ _ _ h => h) (Nat.le_refl _) (fun B hB => ?_) fun B _ ho => ⟨rfl, hheld B ho⟩
    rw [hheld B (.inl hB)]; exact hH.base B hB
  · exact t.tL.keep hle fun B d g hB ho => ⟨(hloc B d g hB ho).2.1, (hloc B d g hB ho).1.trans ho.symm⟩
  · exact t.tF.same_l rfl
  · refine ⟨hk.os, hk.tape, hk.output, hk.size, fun B hB ho => ?_⟩
    obtain ⟨h1, h2⟩ := hk.same B hB (by simp [Go.Proofs.YthobfecblpnnnaaGreatDoor.ownIn, ho, Ow.clean])
    exact ⟨h1, by rw [hin B (fun d g e => by rw [ho] at e; cases e), h2]; rfl⟩

theorem TRel.put {m m' : Mp} (hm : m.le m') {s : St} {a : Act} (r : TRel m s.t a.tmps) {nt : Nat} (hs : nt ≤ a.tmps.size) {d : Option Tmp} (hd : d.all (· < nt) = true) {v v' : Value} (hv : VRel m' v v') : TRel m' (s.put d v).t (a.put d v').tmps := by
  cases d with
  | none => exact r.mono hm
  | some i =>
    simp only [Option.all_some, decide_eq_true_eq] at hd
    intro j
    simp only [St.put, Act.put, tget_cons, Array.getD_eq_getD_getElem?, Array.getElem?_setIfInBounds]
    by_cases hj : j = i
    · subst hj; simp [show j < a.tmps.size by omega]; exact hv
    · rw [if_neg hj, if_neg (by omega)]
      have := (r j).mono hm
      simpa [Array.getD_eq_getD_getElem?] using this

theorem put_size (a : Act) (d : Option Tmp) (v : Value) : (a.put d v).tmps.size = a.tmps.size := by cases d <;> simp [Act.put]
theorem put_defers (a : Act) (d : Option Tmp) (v : Value) : (a.put d v).defers = a.defers := by cases d <;> rfl

theorem SRel.step {rd : Option Nat} {ds : List Nat} {nt : Nat} {m m' : Mp} {o o' : Nat → Ow} {s : St} {a : Act} {w w' : World} (r : SRel P B0 rd ds nt m o s a w) (hm : m.le m') {L : LS} {H : AH} (ht : Tied P B0 m' o' L H w') (hk : Keep o w o' w')
    {d : Option Tmp} (hd : d.all (· < nt) = true) {v v' : Value} (hv : VRel m' v v') : SRel P B0 rd ds nt m' o' ({ s with L := L, H := H }.put d v) (a.put d v') w' where
  T := by have := r.T.put hm r.sz hd hv; cases d <;> exact this
  sz := by rw [put_size]; exact r.sz
  tie := by cases d <;> exact ht
  G := r.G.mono hm
  D := by
    refine ⟨by rw [put_defers]; exact r.D.1, r.D.2.1, fun D hD => ?_⟩
    obtain ⟨h1, h2⟩ := r.D.2.2 D hD
    obtain ⟨h3, h4⟩ := hk.same D (lt_of_heap h1) h2
    exact ⟨h3.trans h1, h4⟩
  R := by
    have := r.R
    have e : ({ s with L := L, H := H }.put d v : St).rd = s.rd := by cases d <;> rfl
    rw [e]
    revert this
    cases s.rd <;> cases rd <;> simp
    exact fun i h1 h2 => ⟨i, hm.1 _ _ h1, h2⟩


/-- One operation. -/
theorem opA_sound {C : CallA} (hC : CSound P B0 C) {rd : Option Nat} {ds : List Nat} {nt : Nat} {m : Mp} {o : Nat → Ow} {s s' : St} {a : Act} {w : World} (r : SRel P B0 rd ds nt m o s a w) {ops : Array Oper} {oper : Oper} {so : SOp} (hc : cSOp P nt ops oper = some so) (h : opA C so s = some s')
    {F : Fence} (hF : ∀ f, F.fn f) (hd : F.depth = none) {n : Nat} {next : Act → World → Prop} {Q : Exit → Act → World → Prop}
    (hn : ∀ m' o' a' w', m.le m' → SRel P B0 rd ds nt m' o' s' a' w' → Keep o w o' w' → (∃ v, a' = a.put oper.dst v) → next a' w') :
    if Region.wanted oper (yielded ops a.tmps) = true then oper.wpIn F n P a w next Q else (∀ f, oper.about P w a.eval = some f → F.fn f) ∧ next (a.put oper.dst undef) w := by
  have hso : so.op = cOp P oper ∧ so.dst = oper.dst ∧ oper.dst.all (· < nt) = true ∧ (match oper.guard with | none => so.guard = none | some (j, wv) => ∃ d, (ops[j]?).bind (·.dst) = some d ∧ so.guard = some (d, wv)) := by
    unfold cSOp at hc
    split at hc
    · rename_i hdst
      split at hc
      · rename_i hg; cases hc; exact ⟨rfl, rfl, hdst, by rw [hg]⟩
      · rename_i j wv hg
        simp only [Option.map_eq_some_iff] at hc
        obtain ⟨d, hd, rfl⟩ := hc
        exact ⟨rfl, rfl, hdst, by rw [hg]; exact ⟨d, hd, rfl⟩⟩
    · cases hc
  obtain ⟨h1, h2, h3, h4⟩ := hso
  obtain ⟨sd, sg, sop⟩ := so
  simp only at h1 h2 h4 h
  subst h1
  subst h2
  have hxs : ∀ x ∈ (cOp P oper).xs, VRel m (s.ev x) (a.eval x) := fun x hx => ev_rel r.G r.T (cOp_ok x hx)
  -- the operation runs
  have hrun : ∀ (hr : runA C ⟨oper.dst, sg, cOp P oper⟩ s = some s'), oper.wpIn F n P a w next Q := by
    intro hr
    unfold runA at hr
    simp only at hr
    refine ⟨fun f _ => hF f, ?_⟩
    by_cases hcall : ∃ f args, (cOp P oper) = .call f args
    · obtain ⟨f, args, hfa⟩ := hcall
      rw [hfa] at hr hxs
      simp only at hr
      split at hr
      · rename_i vs L1 H1 hg
        split at hr
        · rename_i v H2 hcv
          cases hr
          obtain ⟨c, hop, hcal, hargs⟩ := cOp_call hfa
          have hx1 : VRel m (s.ev f) (a.eval f) := hxs f (by simp [SO.xs])
          have hx2 : LsRel m (args.map s.ev) (args.map a.eval) := ⟨by simp, fun i p q => by simp; exact hxs _ (by simp [SO.xs])⟩
          obtain ⟨m1, o1, a1, a2, a3, a4, a5, a6, a7⟩ := globs_sound r.tie.tH r.tie.tL r.tie.tF hx2 hg
          have t1 : Tied P B0 m1 o1 L1 H1 w := ⟨a4, a5, a6⟩
          split at hcv
          rotate_left
          · cases hcv
          rename_i hfn
          obtain ⟨c1, c2⟩ := hC _ _ _ _ _ _ hcv
          have hH0 : WRel P B0 (Mp0 m1.h) (ownIn o1) H1 w := (a4.ownIn).relabel
          obtain ⟨fn, first, cap, e1, nx, e2, e3⟩ := c2 m1.h (ownIn o1) w hH0 (fun B d g => Ow.clean_ne _ d g) (fun g hg => (r.G.mono a1) g hg) (a.eval f) ((hx1.mono a1).nl_of hfn) (args.map a.eval) (a2.nl_of a3) a3 F hF hd (n - 1)
          have hsem : ((oper.semAt F.round a.eval).run P w) = .ok nx w := by
            rw [Oper.semAt_plain F _ _ (by rw [hop]; intro c hc'; cases hc')]
            obtain ⟨cal, cargs, cty⟩ := c
            simp only at hcal hargs
            subst hcal
            have : cargs.map a.eval = (args.map a.eval).toArray := by rw [← hargs]; apply Array.ext'; simp
            have hres : (resolve a.eval ⟨.value f, cargs, cty⟩ oper.type).run P w = .ok { target := .fn fn cap, args := first ++ (args.map a.eval).toArray } w := by
              simp only [resolve]
              rw [e1, this]
              rfl
            simp only [execOp, hop]
            rw [Sem.run_bind, hres]
            exact e2
          have fin : ∀ v' w', (∃ h' o', (∀ b i, m1.h b = some i → h' b = some i) ∧ VRel (Mp0 h') v v' ∧ WRel P B0 (Mp0 h') o' H2 w' ∧ Keep (ownIn o1) w o' w') → next (a.put oper.dst v') w' := by
            rintro v' w' ⟨h', o', b1, b2, b3, b4⟩
            obtain ⟨d1, d2, d3⟩ := call_frame t1 b1 b3 b4
            exact hn _ _ _ _ (Mp.le_trans a1 d1) (r.step (Mp.le_trans a1 d1) d2 (a7.trans d3) h3 (b2.nl_of c1)) (a7.trans d3) ⟨_, rfl⟩
          rw [hsem]
          rcases e3 with ⟨f', args', rfl, hcalls⟩ | ⟨l, f', tmps, asg, body, _, rfl, hround⟩
          · refine ⟨fun e => (by rw [hd] at e; cases e), hcalls.mono ?_⟩
            rintro e w' ⟨v', rfl, hh⟩
            exact fin v' w' hh
          · refine ⟨fun e => (by rw [hd] at e; cases e), hround.mono ?_⟩
            rintro e w' ⟨v', rfl, hh⟩
            exact fin v' w' hh
        · cases hr
      · cases hr
    · have hr' : (match popA s (cOp P oper) oper.dst with
        | some (v, L, H) => some ({ s with L := L, H := H }.put oper.dst v)
        | none => none) = some s' := by
        split at hr
        · rename_i f args hq; exact absurd ⟨f, args, hq⟩ hcall
        · exact hr
      split at hr'
      · rename_i v L1 H1 hp
        cases hr'
        obtain ⟨nx, w', e1, e2⟩ := popA_does r.tie hxs hp
        have hsem : ((oper.semAt F.round a.eval).run P w) = .ok nx w' := by
          rw [Oper.semAt_plain F _ _ (fun c hc' => by
            have : cOp P oper = .bad := by simp [cOp, cOp?, hc']
            rw [this] at hp; simp [popA] at hp)]
          exact e1
        rw [hsem]
        rcases e2 with ⟨v', rfl, m', o', b1, b2, b3, b4, b5, b6⟩ | ⟨rfl, m', o', b1, b2, b3, b4, b5, b6⟩
        · exact hn _ _ _ _ b1 (r.step b1 ⟨b5, b3, b4⟩ b6 h3 b2) b6 ⟨_, rfl⟩
        · exact hn _ _ _ _ b1 (r.step b1 ⟨b5, b3, b4⟩ b6 h3 b2) b6 ⟨_, rfl⟩
      · cases hr'
  unfold opA at h
  cases hg : oper.guard with
  | none =>
    rw [hg] at h4
    simp only at h4
    subst h4
    simp only at h
    rw [if_pos (by simp [Region.wanted, hg])]
    exact hrun h
  | some jw =>
    obtain ⟨j, wv⟩ := jw
    rw [hg] at h4
    obtain ⟨d, hj, hsg⟩ := h4
    subst hsg
    simp only at h
    have hval := r.T d
    have hskip : s' = s.put oper.dst SK → next (a.put oper.dst undef) w := by
      rintro rfl
      exact hn m o _ w (Mp.le_refl m) (r.step (Mp.le_refl m) r.tie (Keep.refl o w) h3 (L := s.L) (H := s.H) .sk) (Keep.refl o w) ⟨_, rfl⟩
    split at h
    · rename_i b hb
      rw [hb] at hval
      have hy : yielded ops a.tmps j = some b := by
        unfold yielded
        rw [hj]
        simp only [Option.bind_some]
        have : a.tmps.getD d undef = .bool b := by generalize a.tmps.getD d undef = z at hval; cases hval; rfl
        rw [Array.getD_eq_getD_getElem?] at this
        cases hq : a.tmps[d]? with
        | none => rw [hq] at this; simp [undef] at this
        | some z => rw [hq] at this; simp at this; rw [this]
      split at h
      · rename_i hbw; subst hbw
        rw [if_pos (by simp [Region.wanted, hg, hy])]
        exact hrun h
      · rename_i hbw
        rw [if_neg (by simp [Region.wanted, hg, hy, hbw])]
        cases h
        exact ⟨fun f _ => hF f, hskip rfl⟩
    · rename_i vs hb
      split at h
      · rename_i hsz
        rw [hb] at hval
        have hy : yielded ops a.tmps j = none := by
          unfold yielded
          rw [hj]
          simp only [Option.bind_some]
          have hv : a.tmps.getD d undef = .tuple #[] ∨ ∃ x, a.tmps.getD d undef = .tuple x := by
            generalize a.tmps.getD d undef = z at hval
            cases hval with
            | any => simp at hsz
            | sk => exact .inl rfl
            | tup x x' => exact .inr ⟨_, rfl⟩
          rw [Array.getD_eq_getD_getElem?] at hv
          cases hq : a.tmps[d]? with
          | none => rfl
          | some z =>
            rw [hq] at hv
            rcases hv with hv | ⟨x, hv⟩ <;> (simp at hv; rw [hv])
        rw [if_neg (by simp [Region.wanted, hg, hy])]
        cases h
        exact ⟨fun f _ => hF f, hskip rfl⟩
      · cases h
    · cases h
end Go.Proofs.YthobfecblpnnnaaGreatDoor

/- Code: what the abstract machine does, the model does. -/
namespace Go.Proofs.YthobfecblpnnnaaGreatDoor
open Go Go.RowKit

variable {P : Program} {B0 : Nat}

theorem cOps_spec {nt : Nat} {ops : Array Oper} : ∀ {src : List Oper} {l : List SOp}, cOps P nt ops src = some l → l.length = src.length ∧ ∀ k (h : k < src.length) (h' : k < l.length), cSOp P nt ops src[k] = some l[k]
  | [], l, h => by simp only [cOps, Option.some.injEq] at h; subst h; simp
  | o :: src, l, h => by
    simp only [cOps] at h
    split at h
    · rename_i x y h1 h2
      cases h
      obtain ⟨k1, k2⟩ := cOps_spec h2
      refine ⟨by simp [k1], fun k p q => ?_⟩
      cases k with
      | zero => exact h1
      | succ k => exact k2 k (by simpa using p) (by simpa using q)
    · cases h

theorem opsA_sound {C : CallA} (hC : CSound P B0 C) {nt : Nat} {ops : Array Oper} {F : Fence} (hF : ∀ f, F.fn f) (hd : F.depth = none) {n : Nat} {Q : Exit → Act → World → Prop} {ds : List Nat} : ∀ (l : List SOp) (idx : List Nat) (_ : idx.length = l.length)
    (_ : ∀ k (h : k < l.length) (h' : k < idx.length), ∃ oper, ops[idx[k]]? = some oper ∧ cSOp P nt ops oper = some l[k]) {s s' : St} (_ : opsA C l s = some s') {m : Mp} {o : Nat → Ow} {a : Act} {w : World} (_ : SRel P B0 F.round ds nt m o s a w)
    (_ : ∀ m' o' a' w', m.le m' → SRel P B0 F.round ds nt m' o' s' a' w' → Keep o w o' w' → Q .normal a' w'), wpOpsIn F n P ops Q idx a w
  | [], idx, hl, hc, s, s', h, m, o, a, w, r, hn => by
    have : idx = [] := List.eq_nil_of_length_eq_zero hl
    subst this
    simp only [opsA, Option.some.injEq] at h; subst h
    exact hn m o a w (Mp.le_refl m) r (Keep.refl o w)
  | so :: l, idx, hl, hc, s, s', h, m, o, a, w, r, hn => by
    cases idx with
    | nil => simp at hl
    | cons i idx =>
      simp only [opsA] at h
      split at h
      · rename_i s1 h1
        obtain ⟨oper, ho, hso⟩ := hc 0 (by simp) (by simp)
        simp only [List.getElem_cons_zero] at ho hso
        have := opA_sound hC r hso h1 hF hd (n := n) (next := wpOpsIn F n P ops Q idx) (Q := Q) fun m1 o1 a1 w1 b1 b2 b3 _ =>
          opsA_sound hC hF hd l idx (by simpa using hl) (fun k p q => by have := hc (k + 1) (by simpa using p) (by simpa using q); simpa using this) h b2 fun m2 o2 a2 w2 c1 c2 c3 => hn m2 o2 a2 w2 (Mp.le_trans b1 c1) c2 (b3.trans c3)
        rw [wpOpsIn, ho]
        simp only
        split
        · rename_i hw; rw [if_pos hw] at this; exact this
        · rename_i hw; rw [if_neg hw] at this; exact this
      · cases h

def exEq : Ex → Exit → Prop
  | .normal, .normal => True
  | .exit i, .exit j => i = j
  | .ret, .ret => True
  | _, _ => False

def XPost (P : Program) (B0 : Nat) (rd : Option Nat) (ds : List Nat) (nt : Nat) (m : Mp) (o : Nat → Ow) (w : World) (e : Ex) (s' : St) : Exit → Act → World → Prop := fun ex a' w' =>
  exEq e ex ∧ ∃ m' o' ds', m.le m' ∧ SRel P B0 rd ds' nt m' o' s' a' w' ∧ Keep o w o' w' ∧ ∀ D ∈ ds', w.heap.size ≤ D ∨ D ∈ ds

theorem XPost.trans {rd : Option Nat} {ds ds1 : List Nat} {nt : Nat} {m m1 : Mp} {o o1 : Nat → Ow} {w w1 : World} {e : Ex} {s' : St} {ex : Exit} {a' : Act} {w' : World} (h1 : m.le m1) (h2 : Keep o w o1 w1) (h3 : ∀ D ∈ ds1, w.heap.size ≤ D ∨ D ∈ ds) (h : XPost P B0 rd ds1 nt m1 o1 w1 e s' ex a' w') : XPost P B0 rd ds nt m o w e s' ex a' w' := by
  obtain ⟨k1, m', o', ds', k2, k3, k4, k5⟩ := h
  refine ⟨k1, m', o', ds', Mp.le_trans h1 k2, k3, h2.trans k4, fun D hD => ?_⟩
  rcases k5 D hD with h | h
  · exact .inl (Nat.le_trans h2.size h)
  · exact h3 D h

/-- A region whose order is drawn (AbsN). -/
def DSound1 (P : Program) (B0 : Nat) (C : CallA) : Prop :=
  ∀ (id nt : Nat) (ops : Array Oper) (l : List (DK × SOp)) (bx : List BX), cDraw P nt ops = some (l, bx) → ∀ (s s' : St), (dOps C l s).bind (bxsA bx) = some s' → ∀ (F : Fence), (∀ f, F.fn f) → F.depth = none → ∀ (n : Nat) (ds : List Nat) (m : Mp) (o : Nat → Ow) (a : Act) (w : World),
    SRel P B0 F.round ds nt m o s a w → (Code.region id ops true).wpIn F n P (XPost P B0 F.round ds nt m o w .normal s') a w

/-- A region whose orders are tried. -/
def DSound2 (P : Program) (B0 : Nat) (C : CallA) : Prop :=
  ∀ (hard : Bool) (id nt : Nat) (ops : Array Oper) (ls : List (List (DK × SOp))) (ts : List Tmp), cAlts P hard nt ops = some (ls, ts) → ∀ (s s' : St), altsA C (if hard then [] :: ls else ls) ts s = some s' → ∀ (F : Fence), (∀ f, F.fn f) → F.depth = none → ∀ (n : Nat) (ds : List Nat) (m : Mp) (o : Nat → Ow) (a : Act) (w : World),
    SRel P B0 F.round ds nt m o s a w → (Code.region id ops true).wpIn F n P (XPost P B0 F.round ds nt m o w .normal s') a w

def DSound (P : Program) (B0 : Nat) (C : CallA) : Prop := DSound1 P B0 C ∧ DSound2 P B0 C

theorem WRel.snoc {m : Mp} {o o2 : Nat → Ow} {H : AH} {w w2 : World} (hH : WRel P B0 m o H w) (i : HI) (x : ABlk) (hi : i.blk < w2.heap.size) (hs : w.heap.size ≤ w2.heap.size) (hb : ∀ B, B < B0 → o2 B = .other)
    (hk : ∀ B, B < w.heap.size → Held B0 o B → w2.heap[B]? = w.heap[B]? ∧ o2 B = o B) (hx : BRel P B0 ⟨fun b => if b = H.length then some i else m.h b, m.l⟩ o2 H.length i w2 x) :
    m.le ⟨fun b => if b = H.length then some i else m.h b, m.l⟩ ∧ WRel P B0 ⟨fun b => if b = H.length then some i else m.h b, m.l⟩ o2 (H ++ [x]) w2 := by
  have hd : m.h H.length = none := by
    cases hx : m.h H.length with
    | none => rfl
    | some i => exact absurd (hH.dom _ _ hx).1 (Nat.lt_irrefl _)
  have hm : m.le ⟨fun b => if b = H.length then some i else m.h b, m.l⟩ := by
    refine ⟨fun b j h => ?_, fun _ _ _ h => h⟩
    by_cases hb : b = H.length
    · subst hb; rw [hd] at h; cases h
    · simpa [hb] using h
  refine ⟨hm, fun b j h => ?_, hb, Nat.le_trans hH.low hs, fun b j y h hy => ?_⟩
  · by_cases hbb : b = H.length
    · subst hbb; simp at h; subst h; simp; exact hi
    · simp [hbb] at h; have := hH.dom b j h; simp; omega
  · by_cases hbb : b = H.length
    · subst hbb
      simp at h; subst h
      simp at hy; subst hy
      exact hx
    · simp [hbb] at h
      have hl := (hH.dom b j h).1
      rw [List.getElem?_append_left hl] at hy
      refine (hH.blk b j y h hy).keep hm fun B hB ho => hk B hB ?_
      rcases ho with h | h | ⟨d, g, h⟩
      · exact .inl h
      · exact .inr (.inl ⟨b, h⟩)
      · exact .inr (.inr ⟨b, d, g, h⟩)

/-- A block of the abstract heap turned. -/
theorem WRel.turn {m m' : Mp} {o o2 : Nat → Ow} {H : AH} {w w2 : World} (hH : WRel P B0 m o H w) (hm : m'.h = m.h) (hl : ∀ d g B, m.l d g = some B → m'.l d g = some B) {b : Nat} {i : HI} (hbi : m.h b = some i) (x : ABlk) (hs : w.heap.size ≤ w2.heap.size) (hb : ∀ B, B < B0 → o2 B = .other)
    (hk : ∀ B, B < w.heap.size → (B < B0 ∨ (∃ b', b' ≠ b ∧ o B = .heap b') ∨ ∃ b' d g, b' ≠ b ∧ o B = .rcd b' d g) → w2.heap[B]? = w.heap[B]? ∧ o2 B = o B) (hx : BRel P B0 m' o2 b i w2 x) :
    WRel P B0 m' o2 (H.set b x) w2 where
  dom b' j h := by rw [hm] at h; rw [List.length_set]; exact ⟨(hH.dom b' j h).1, Nat.lt_of_lt_of_le (hH.dom b' j h).2 hs⟩
  base := hb
  low := Nat.le_trans hH.low hs
  blk b' j y h hy := by
    rw [hm] at h
    by_cases hbb : b' = b
    · subst hbb
      rw [hbi] at h; cases h
      rw [List.getElem?_set_self (hH.dom _ _ hbi).1] at hy
      cases hy; exact hx
    · rw [List.getElem?_set_ne (by omega)] at hy
      refine (hH.blk b' j y h hy).keep ⟨fun b i h => by rw [hm]; exact h, hl⟩ fun B hB ho => hk B hB ?_
      rcases ho with h | h | ⟨d, g, h⟩
      · exact .inl h
      · exact .inr (.inl ⟨b', hbb, h⟩)
      · exact .inr (.inr ⟨b', d, g, hbb, h⟩)

/-- The owners while the record of a loop over a function holds the boxes. -/
def ownLoop (o : Nat → Ow) (n b l : Nat) : Nat → Ow := fun B => if B = l then .heap b else if B < n then (match o B with | .loc d g => .rcd b d g | x => x) else .other

/-- The owners when the boxes come back. -/
def ownBack (o : Nat → Ow) (b : Nat) : Nat → Ow := fun B => match o B with | .rcd b' d g => if b' = b then .loc d g else .rcd b' d g | .loc _ _ => .other | x => x

theorem ownBack_other {o : Nat → Ow} {b B : Nat} (h : o B = .other) : ownBack o b B = .other := by simp [ownBack, h]
theorem ownBack_heap {o : Nat → Ow} {b b' B : Nat} (h : o B = .heap b') : ownBack o b B = .heap b' := by simp [ownBack, h]

/-- The statement 'for .. := range f'. -/
theorem rng_sound {C : CallA} (hC : CSound P B0 C) {nt : Nat} {f : Operand} {ps : Array Tmp} {asg body : Code} {sa sb : SC} (hpn : ∀ x ∈ ps.toList, x < nt) (hok : xOk P f = true) (ha : cCode P nt asg = some sa) (hb : cCode P nt body = some sb)
    {s s' : St} {e : Ex} {n0 : Nat} (h : exA C (n0 + 1) (.rng f ps.toList sa sb) s = some (e, s')) {F : Fence} (hF : ∀ f, F.fn f) (hd : F.depth = none) {n : Nat} {ds : List Nat} {m : Mp} {o : Nat → Ow} {a : Act} {w : World} (r : SRel P B0 F.round ds nt m o s a w) :
    (Code.rangeFunc f ps asg body).wpIn F n P (XPost P B0 F.round ds nt m o w e s') a w := by
  simp only [exA] at h
  split at h
  · cases h
  rename_i hg
  have hg1 : rdOk s = true := by
    by_cases e : rdOk s = true
    · exact e
    · exact absurd (.inl (by simpa using e)) hg
  have hg2 : nl (s.ev f) = true := by by_cases e : nl (s.ev f) = true; · exact e
                                      · exact absurd (.inr (.inl (by simpa using e))) hg
  have hg3 : isFn (s.ev f) = true := by by_cases e : isFn (s.ev f) = true; · exact e
                                        · exact absurd (.inr (.inr (by simpa using e))) hg
  split at h
  rotate_left
  · cases h
  rename_i v0 H1 hcv
  split at h
  rotate_left
  · cases h
  rename_i rr hrr
  split at h
  · cases h
  rename_i hst
  simp only [Option.some.injEq, Prod.mk.injEq] at h
  obtain ⟨rfl, rfl⟩ := h
  refine wpIn_rangeFunc fun fn hfn => ?_
  -- the record is laid
  have hlay : ∃ (l : Nat) (mark : List Deferred) (w1 : World) (dl : Nat) (ds1 : List Nat), (Instr.enterLoop fn a.tmps ps asg body F.round).run P w = .ok (l, mark) w1 ∧ w1.heap[l]? = some (.loop { state := .ready, pending := none, fn, tmps := a.tmps, params := ps, assign := asg, body, defers := dl }) ∧
      w.heap.size ≤ l ∧ l < w1.heap.size ∧ w.heap.size ≤ w1.heap.size ∧ (∀ B, B < w.heap.size → w1.heap[B]? = w.heap[B]?) ∧ w1.os = w.os ∧ w1.tape = w.tape ∧ w1.output = w.output ∧
      mark = ds1.map (fun D => { target := .collected D, args := #[] }) ∧ (∀ D ∈ ds1, w.heap.size ≤ D ∧ D ≠ l ∧ w1.heap[D]? = some (.deferred (some []))) ∧ ds1.Nodup := by
    cases hro : F.round with
    | none =>
      refine ⟨w.heap.size + 1, _, _, w.heap.size, [w.heap.size], run_enterLoop_outer fn a.tmps ps asg body, ?_, by omega, by simp, by simp; omega, ?_, rfl, rfl, rfl, by simp, ?_, by simp⟩
      · have := World.alloc_heap_new (w.alloc (.deferred (some []))) (.loop { state := .ready, pending := none, fn, tmps := a.tmps, params := ps, assign := asg, body, defers := w.heap.size })
        rwa [World.size_alloc] at this
      · intro B hB
        rw [Below.heap_alloc _ _ _ (by simp; omega), Below.heap_alloc _ _ _ hB]
      · intro D hD
        simp only [List.mem_singleton] at hD; subst hD
        exact ⟨Nat.le_refl _, by omega, (Below.heap_alloc _ _ _ (by simp)).trans (World.alloc_heap_new w _)⟩
    | some l0 =>
      have hR := r.R
      rw [hro] at hR
      have hex : ∃ r0, w.heap[l0]? = some (.loop r0) := by
        unfold rdOk at hg1
        cases hrd : s.rd with
        | none => rw [hrd] at hR; exact hR.elim
        | some b =>
          rw [hrd] at hR hg1
          obtain ⟨i, h2, h3⟩ := hR
          simp only at hg1
          have h1 := hg1
          split at h1
          · rename_i rx hb
            obtain ⟨_, _, _, lp, _, _, h4, _⟩ := r.tie.tH.blk b i _ h2 hb
            exact ⟨lp, by rw [← h3]; exact h4⟩
          · cases h1
      obtain ⟨r0, hr0⟩ := hex
      refine ⟨w.heap.size, [], _, r0.defers, [], run_enterLoop_inner hr0 fn a.tmps ps asg body, World.alloc_heap_new w _, Nat.le_refl _, by simp, by simp, fun B hB => Below.heap_alloc _ _ _ hB, rfl, rfl, rfl, rfl, by simp, List.nodup_nil⟩
  obtain ⟨l, mark, w1, dl, ds1, he, hl, hl1, hl2, hsz, hold, hos, htape, hout, hmark, hds, hnd⟩ := hlay
  -- how it is tied
  have t := r.tie
  have hnl : ∀ B, B < w.heap.size → B ≠ l := fun B hB e => by omega
  have hbase : ∀ B, B < B0 → ownLoop o w.heap.size s.H.length l B = .other := fun B hB => by
    have := t.tH.low
    simp [ownLoop, hnl B (by omega), t.tH.base B hB]
  have hkeepH : ∀ B, B < w.heap.size → Held B0 o B → w1.heap[B]? = w.heap[B]? ∧ ownLoop o w.heap.size s.H.length l B = o B := fun B hB hh => ⟨hold B hB, by
    simp only [ownLoop, if_neg (hnl B hB), if_pos hB]
    rcases hh with hh | ⟨b, hh⟩ | ⟨b, d, g, hh⟩
    · rw [t.tH.base B hh]
    · rw [hh]
    · rw [hh]⟩
  have hBR : BRel P B0 ⟨fun b => if b = s.H.length then some ⟨l, 0, 0, 0, some ⟨a.tmps, ps, asg, body, m.l⟩⟩ else m.h b, m.l⟩ (ownLoop o w.heap.size s.H.length l) s.H.length ⟨l, 0, 0, 0, some ⟨a.tmps, ps, asg, body, m.l⟩⟩ w1 (.loop ⟨0, none, s.t, s.L, s.lim, ps.toList, sa, sb⟩) := by
    have hd' : m.h s.H.length = none := by
      cases hx : m.h s.H.length with
      | none => rfl
      | some i => exact absurd (t.tH.dom _ _ hx).1 (Nat.lt_irrefl _)
    have hm : m.le ⟨fun b => if b = s.H.length then some ⟨l, 0, 0, 0, some ⟨a.tmps, ps, asg, body, m.l⟩⟩ else m.h b, m.l⟩ := by
      refine ⟨fun b j h => ?_, fun _ _ _ h => h⟩
      by_cases hb : b = s.H.length
      · subst hb; rw [hd'] at h; cases h
      · simpa [hb] using h
    refine ⟨rfl, by have := t.tH.low; simp; omega, by simp [ownLoop], _, m.l, nt, hl, .inl rfl, rfl, r.T.mono hm, ?_, fun _ => t.tF.same_l rfl, rfl, ha, hb, r.sz, hpn, by simp, ⟨a.tmps, ps, asg, body, m.l⟩, rfl, rfl, rfl, rfl, rfl, fun _ _ _ h => h⟩
    intro d g c hc
    have := t.tL d g c hc
    cases c with
    | cells vs =>
      obtain ⟨B, k1, k2, k3, arr, te, k4, k5⟩ := this
      have hlt := lt_of_heap k4
      exact ⟨B, k1, by simp [ownLoop, hnl B hlt, hlt, k2], k3, arr, te, (hold B hlt).trans k4, k5.mono hm⟩
    | fwd b => obtain ⟨i, k1, k2, k3⟩ := this; exact ⟨i, hm.1 _ _ k1, k2, k3⟩
  obtain ⟨hm1, hW1⟩ := t.tH.snoc ⟨l, 0, 0, 0, some ⟨a.tmps, ps, asg, body, m.l⟩⟩ _ hl2 hsz hbase hkeepH hBR
  have hnoloc : ∀ B d g, ownLoop o w.heap.size s.H.length l B ≠ .loc d g := fun B d g => by
    unfold ownLoop
    split
    · simp
    · split
      · split
        · simp
        · rename_i h; exact fun e => h d g e
      · simp
  -- the call
  obtain ⟨c1, c2⟩ := hC _ _ _ _ _ _ hcv
  have hfv := (ev_rel r.G r.T hok).mono hm1
  obtain ⟨fn', first, cap, e1, nx, e2, e3⟩ := c2 _ (ownLoop o w.heap.size s.H.length l) w1 hW1.relabel hnoloc (fun g hg => (r.G.mono hm1) g hg) (a.eval f) (hfv.nl_of hg2) [.func (.yield l) #[] #[]]
    (LsRel.cons (.func _ _ _ _ _ _ (.yield s.H.length ⟨l, 0, 0, 0, some ⟨a.tmps, ps, asg, body, m.l⟩⟩ (by simp [Mp0])) rfl (fun i h _ => absurd h (by simp)) rfl (fun i h _ => absurd h (by simp))) (LsRel.nil _)) rfl F hF hd (n - 1)
  have hres : (resolve a.eval (rangeCall f l) 0).run P w1 = .ok { target := .fn fn' cap, args := first ++ #[.func (.yield l) #[] #[]] } w1 := by
    have e0 : (rangeCall f l).args.map a.eval = #[.func (.yield l) #[] #[]] := by simp [Act.eval]
    simp only [resolve]
    rw [e1, e0]
    rfl
  have hfn' : ∃ g, fn' = .func g := by
    rw [e1] at hfv
    revert hg3 hfv
    generalize s.ev f = q
    intro hg3 hfv
    cases hfv with
    | any => simp [isFn] at hg3
    | func q q' _ _ _ _ hf _ _ _ _ =>
      cases hf with
      | func g => exact ⟨g, rfl⟩
      | yield => simp [isFn] at hg3
  obtain ⟨g, rfl⟩ := hfn'
  have henter : ∃ f' args', nx = .enter f' args' ∧ CallsIn F (n - 1) P f' args' w1 (CPost P B0 (fun b => if b = s.H.length then some ⟨l, 0, 0, 0, some ⟨a.tmps, ps, asg, body, m.l⟩⟩ else m.h b) (ownLoop o w.heap.size s.H.length l) w1 v0 H1) := by
    rcases e3 with h | ⟨l', f', tmps, asg', body', ⟨_, hy⟩, _, _⟩
    · exact h
    · cases hy
  obtain ⟨f', args', rfl, hcalls⟩ := henter
  refine ⟨l, mark, w1, _, w1, f', args', w1, he, hres, fun f _ => hF f, e2, fun e => (by rw [hd] at e; cases e), hcalls.mono ?_⟩
  rintro e w3 ⟨v', rfl, h', o', b1, b2, b3, b4⟩
  -- the record behind the call
  have hi1 : h' s.H.length = some ⟨l, 0, 0, 0, some ⟨a.tmps, ps, asg, body, m.l⟩⟩ := b1 _ _ (by simp)
  obtain ⟨q1, q2, q3, lp, ml, nt', q4, q5, q6, q7, q8, q9, q10, q11, q12, q13, q14, q15, gh, q16, q17, q18, q19, q20, q21⟩ := b3.blk _ _ _ hi1 hrr
  simp only at q4 q3 q2
  cases q16
  simp only at q21
  have hst' : rr.st = 0 ∨ rr.st = 2 := by omega
  have hnb : lp.state ≠ .busy := fun e => by rw [e] at q5; have : rr.st = 1 := q5; omega
  have hend := run_endLoop (P := P) q4 hnb
  have hml : m.le ⟨h', ml⟩ := ⟨fun b i hbi => b1 _ _ (hm1.1 _ _ hbi), q21⟩
  have hlsz := lt_of_heap q4
  have hW4 : WRel P B0 ⟨h', ml⟩ (ownBack o' s.H.length) (H1.set s.H.length .dead) (w3.putObj l (.loop { lp with state := .exhausted })) := by
    refine (b3.relabel (l' := ml)).turn rfl (fun _ _ _ h => h) hi1 .dead (by simp) (fun B hB => ownBack_other (b3.base B hB)) ?_ trivial
    intro B hB ho
    have hne : B ≠ l := by
      intro e; subst e
      rcases ho with h | ⟨b', h1, h2⟩ | ⟨b', d, g, h1, h2⟩
      · omega
      · rw [q3] at h2; cases h2; exact h1 rfl
      · rw [q3] at h2; cases h2
    refine ⟨World.putObj_heap_other hne, ?_⟩
    rcases ho with h | ⟨b', h1, h2⟩ | ⟨b', d, g, h1, h2⟩
    · rw [ownBack_other (b3.base B h), b3.base B h]
    · rw [ownBack_heap h2, h2]
    · simp [ownBack, h2, h1]
  have hL4 : LRel B0 ⟨h', ml⟩ (ownBack o' s.H.length) .loc rr.L (w3.putObj l (.loop { lp with state := .exhausted })) := by
    intro d g c hc
    have := q8 d g c hc
    cases c with
    | cells vs =>
      obtain ⟨B, k1, k2, k3, arr, te, k4, k5⟩ := this
      have hne : B ≠ l := fun e => by subst e; rw [q4] at k4; cases k4
      exact ⟨B, k1, by simp [ownBack, k2], k3, arr, te, (World.putObj_heap_other hne).trans k4, k5⟩
    | fwd b => exact this
  have hKeep : Keep o w (ownBack o' s.H.length) (w3.putObj l (.loop { lp with state := .exhausted })) := by
    refine ⟨b4.os.trans hos, b4.tape.trans htape, b4.output.trans hout, by simp; exact Nat.le_trans hsz b4.size, fun B hB ho => ?_⟩
    obtain ⟨k1, k2⟩ := b4.same B (by omega) (by simp [ownLoop, hnl B hB, hB, ho])
    exact ⟨(World.putObj_heap_other (hnl B hB)).trans (k1.trans (hold B hB)), ownBack_other k2⟩
  have hF4 : LFresh ⟨h', ml⟩ rr.L := q9 hst'
  have hfinal : SRel P B0 F.round (ds1 ++ ds) nt ⟨h', ml⟩ (ownBack o' s.H.length) { s with L := rr.L, H := H1.set s.H.length .dead } { a with defers := mark ++ a.defers } (w3.putObj l (.loop { lp with state := .exhausted })) := by
    refine ⟨r.T.mono hml, r.sz, ⟨hW4, hL4, hF4⟩, r.G.mono hml, ⟨by simp [hmark, r.D.1], ?_, ?_⟩, ?_⟩
    · rw [List.nodup_append]
      refine ⟨hnd, r.D.2.1, fun x hx y hy e => ?_⟩
      subst e
      have := (hds x hx).1
      have := lt_of_heap (r.D.2.2 x hy).1
      omega
    · intro D hD
      rcases List.mem_append.1 hD with hD | hD
      · obtain ⟨k1, k2, k3⟩ := hds D hD
        have ho : ownLoop o w.heap.size s.H.length l D = .other := by simp [ownLoop, k2, show ¬ D < w.heap.size by omega]
        obtain ⟨k4, k5⟩ := b4.same D (lt_of_heap k3) ho
        exact ⟨(World.putObj_heap_other k2).trans (k4.trans k3), ownBack_other k5⟩
      · obtain ⟨k1, k2⟩ := r.D.2.2 D hD
        obtain ⟨k3, k4⟩ := hKeep.same D (lt_of_heap k1) k2
        exact ⟨k3.trans k1, k4⟩
    · have := r.R
      revert this
      cases s.rd <;> cases F.round <;> simp
      exact fun i h1 h2 => ⟨i, hml.1 _ _ h1, h2⟩
  have hdd : ∀ D ∈ ds1 ++ ds, w.heap.size ≤ D ∨ D ∈ ds := fun D hD => by
    rcases List.mem_append.1 hD with h | h
    · exact .inl (hds D h).1
    · exact .inr h
  refine ⟨lp.pending, _, hend, ?_⟩
  clear hend hW4 hL4
  generalize w3.putObj l (.loop { lp with state := .exhausted }) = w4 at hfinal hKeep ⊢
  rw [q6]
  cases hp : rr.pend with
  | none => exact ⟨trivial, _, _, _, hml, hfinal, hKeep, hdd⟩
  | some e =>
    cases e with
    | normal => exact absurd hp q15
    | exit id => exact wpIn_exit ⟨rfl, _, _, _, hml, hfinal, hKeep, hdd⟩
    | ret => exact wpIn_ret ⟨trivial, _, _, _, hml, hfinal, hKeep, hdd⟩

theorem loop_rounds {C : CallA} {nt : Nat} {F : Fence} {n : Nat} {x : Code} {sx : SC} {K : Nat} (hb : ∀ k, k ≤ K → ∀ (s s' : St) (e : Ex), exA C k sx s = some (e, s') → ∀ (ds : List Nat) (m : Mp) (o : Nat → Ow) (a : Act) (w : World),
    SRel P B0 F.round ds nt m o s a w → x.wpIn F n P (XPost P B0 F.round ds nt m o w e s') a w) : ∀ (k : Nat) (_ : k ≤ K + 1) (s s' : St) (e : Ex), exA C k (.loop sx) s = some (e, s') → ∀ (ds : List Nat) (m : Mp) (o : Nat → Ow) (a : Act) (w : World),
    SRel P B0 F.round ds nt m o s a w → Code.roundsIn F n P x (XPost P B0 F.round ds nt m o w e s') k a w
  | 0, _, s, s', e, h, _, _, _, _, _, _ => by simp [exA] at h
  | k + 1, hk, s, s', e, h, ds, m, o, a, w, r => by
    simp only [exA] at h
    rw [roundsIn_succ]
    split at h
    · rename_i s1 h1
      refine wpIn_mono (hb k (by omega) _ _ _ h1 ds m o a w r) fun ex a1 w1 hp => ?_
      obtain ⟨p1, m1, o1, ds1, p2, p3, p4, p5⟩ := hp
      cases ex <;> simp only [exEq] at p1
      have := loop_rounds hb k (by omega) s1 s' e h ds1 m1 o1 a1 w1 p3
      simp only [Exit.then]
      clear h1 h
      have mono : ∀ (k : Nat) (a : Act) (w2 : World), Code.roundsIn F n P x (XPost P B0 F.round ds1 nt m1 o1 w1 e s') k a w2 → Code.roundsIn F n P x (XPost P B0 F.round ds nt m o w e s') k a w2 := by
        intro k
        induction k with
        | zero => intro a w2 h; exact h
        | succ k ih =>
          intro a w2 h
          rw [roundsIn_succ] at h ⊢
          refine wpIn_mono h fun ex a3 w3 h3 => ?_
          cases ex with
          | normal => exact ih _ _ h3
          | exit i => exact XPost.trans p2 p4 p5 h3
          | goto i => exact XPost.trans p2 p4 p5 h3
          | ret => exact XPost.trans p2 p4 p5 h3
          | panic ch => exact XPost.trans p2 p4 p5 h3
          | outgrown => exact XPost.trans p2 p4 p5 h3
      exact mono _ _ _ this
    · rename_i hne
      refine wpIn_mono (hb k (by omega) _ _ _ h ds m o a w r) fun ex a1 w1 hp => ?_
      cases ex with
      | normal =>
        exfalso
        obtain ⟨p1, _⟩ := hp
        cases e <;> simp only [exEq] at p1
        exact hne _ h
      | exit i => exact hp
      | goto i => exact hp
      | ret => exact hp
      | panic ch => exact hp
      | outgrown => exact hp

theorem preOne_sound (t : Tmp) {rd : Option Nat} {ds : List Nat} {nt : Nat} {m : Mp} {o : Nat → Ow} {s : St} {a : Act} {w : World} (r : SRel P B0 rd ds nt m o s a w) : ∃ m' o', m.le m' ∧ SRel P B0 rd ds nt m' o' (preOne t s) a w ∧ Keep o w o' w := by
  have same : ∃ m' o', m.le m' ∧ SRel P B0 rd ds nt m' o' s a w ∧ Keep o w o' w := ⟨m, o, Mp.le_refl m, r, Keep.refl o w⟩
  unfold preOne
  split
  · rename_i p hp
    split
    · split
      · rename_i v L H hg
        have hv := r.T t
        rw [hp] at hv
        obtain ⟨m', o', k1, k2, k3, k4, k5, k6, k7⟩ := globs_sound (vs := [.pointer (some p)]) (us := [v]) (L' := L) (H' := H) r.tie.tH r.tie.tL r.tie.tF (LsRel.cons hv (LsRel.nil m)) (by simp only [globs, hg])
        have r1 := SRel.step r k1 (L := L) (H := H) ⟨k4, k5, k6⟩ k7 (d := none) rfl (VRel.any undef)
        have hv' : VRel m' v (a.tmps.getD t undef) := by simpa using k2.2 0 (by simp) (by simp)
        refine ⟨m', o', k1, ⟨fun x => ?_, r1.sz, r1.tie, r1.G, r1.D, r1.R⟩, k7⟩
        show VRel m' (tget ((t, v) :: s.t) x) _
        rw [tget_cons]
        split
        · rename_i e; subst e; exact hv'
        · exact r1.T x
      · exact same
    · exact same
  · exact same

theorem preA_sound : ∀ (ts : List Tmp) {rd : Option Nat} {ds : List Nat} {nt : Nat} {m : Mp} {o : Nat → Ow} {s : St} {a : Act} {w : World} (_ : SRel P B0 rd ds nt m o s a w), ∃ m' o', m.le m' ∧ SRel P B0 rd ds nt m' o' (preA ts s) a w ∧ Keep o w o' w
  | [], _, _, _, m, o, _, _, w, r => ⟨m, o, Mp.le_refl m, r, Keep.refl o w⟩
  | t :: ts, _, _, _, m, o, s, _, w, r => by
    obtain ⟨m1, o1, a1, a2, a3⟩ := preOne_sound t r
    obtain ⟨m2, o2, b1, b2, b3⟩ := preA_sound ts a2
    exact ⟨m2, o2, Mp.le_trans a1 b1, b2, a3.trans b3⟩

theorem drawn_sound {C : CallA} (hD : DSound P B0 C) {nt : Nat} {F : Fence} (hF : ∀ f, F.fn f) (hd : F.depth = none) {n k : Nat} {id : Nat} {ops : Array Oper} {x : SC} (hx : cDrawn P nt ops = some x) {s s' : St} {e : Ex} (h : exA C (k + 1) x s = some (e, s')) {ds : List Nat} {m : Mp} {o : Nat → Ow} {a : Act} {w : World}
    (r : SRel P B0 F.round ds nt m o s a w) : (Code.region id ops true).wpIn F n P (XPost P B0 F.round ds nt m o w e s') a w := by
  unfold cDrawn at hx
  split at hx
  · rename_i l bx hl
    have one : some (SC.draw l bx) = some x → (Code.region id ops true).wpIn F n P (XPost P B0 F.round ds nt m o w e s') a w := fun hx => by
      simp only [Option.some.injEq] at hx
      subst hx
      simp only [exA, Option.map_eq_some_iff, Prod.mk.injEq] at h
      obtain ⟨s1, h1, rfl, rfl⟩ := h
      exact hD.1 id nt ops l bx hl s s1 h1 F hF hd n ds m o a w r
    split at hx
    · split at hx
      · rename_i ls ts hl2
        simp only [Option.some.injEq] at hx
        subst hx
        simp only [exA, Option.map_eq_some_iff, Prod.mk.injEq] at h
        obtain ⟨s1, h1, rfl, rfl⟩ := h
        exact hD.2 true id nt ops ls ts hl2 s s1 h1 F hF hd n ds m o a w r
      · exact one hx
    · exact one hx
  · simp only [Option.map_eq_some_iff] at hx
    obtain ⟨⟨ls, ts⟩, hl, rfl⟩ := hx
    simp only [exA, Option.map_eq_some_iff, Prod.mk.injEq] at h
    obtain ⟨s1, h1, rfl, rfl⟩ := h
    exact hD.2 false id nt ops ls ts hl s s1 h1 F hF hd n ds m o a w r

/-- A scope through which the run goes without a goto. -/
theorem wpIn_scope {F : Fence} {n : Nat} {P : Program} {c : Code} {Q : Exit → Act → World → Prop} {a : Act} {w : World} (h : c.wpIn F n P (fun e a w => (∀ l, e ≠ .goto l) ∧ Q e a w) a w) : (Code.scope c).wpIn F n P Q a w := by
  intro b k cs hro hb hr
  have hs : step P (lone (b.atR a (.code (.scope c) :: k)) cs w) = .next (lone (b.atR a (.code c :: .inScope c :: k)) cs w) := step_lone_go (by simp [stepG, stepG.exec, Frame.atR])
  have hi : ∀ a w, step P (lone (b.atR a (.inScope c :: k)) cs w) = .next (lone (b.atR a k) cs w) := fun a w => step_lone_go (by simp [stepG, stepG.exec, Frame.atR])
  have h0 : (lone (b.atR a (.code (.scope c) :: k)) cs w).fenced P F := fenced_calm hb hr rfl
  obtain ⟨e, a₁, w₁, ⟨hne, hq⟩, harr⟩ := h b (.inScope c :: k) cs hro hb hr
  cases e with
  | normal => exact ⟨.normal, a₁, w₁, hq, .head h0 hs (StepsIn.trans harr (.one (fenced_calm hb hr rfl) (hi _ _)))⟩
  | exit id =>
    have hx : exitTo id (.inScope c :: k) = exitTo id k := by simp [exitTo]
    exact ⟨.exit id, a₁, w₁, hq, fun k' hk => .head h0 hs (harr.1 k' (by rw [hx]; exact hk)),
      fun hr' hk => let ⟨k₁, h1, h2⟩ := harr.2 hr' (by rw [hx]; exact hk); ⟨k₁, h1, .head h0 hs h2⟩⟩
  | goto l => exact absurd rfl (hne l)
  | ret => exact ⟨_, a₁, w₁, hq, .of_steps (.one h0 hs) harr⟩
  | panic ch => exact ⟨_, a₁, w₁, hq, .of_steps (.one h0 hs) harr⟩
  | outgrown => exact ⟨_, a₁, w₁, hq, .of_steps (.one h0 hs) harr⟩

/-- Code. -/
theorem exA_sound {C : CallA} (hC : CSound P B0 C) (hD : DSound P B0 C) {nt : Nat} {F : Fence} (hF : ∀ f, F.fn f) (hd : F.depth = none) {n : Nat} : ∀ (K k : Nat) (_ : k ≤ K) (sc : SC) (s s' : St) (e : Ex), exA C k sc s = some (e, s') → ∀ (c : Code), cCode P nt c = some sc → ∀ (ds : List Nat) (m : Mp) (o : Nat → Ow) (a : Act) (w : World),
    SRel P B0 F.round ds nt m o s a w → c.wpIn F n P (XPost P B0 F.round ds nt m o w e s') a w
  | _, 0, _, sc, s, s', e, h, c, hc, ds, m, o, a, w, r => by simp [exA] at h
  | 0, k + 1, hk, sc, s, s', e, h, c, hc, ds, m, o, a, w, r => by omega
  | K + 1, k + 1, hk, sc, s, s', e, h, c, hc, ds, m, o, a, w, r => by
    have ihK := exA_sound hC hD hF hd (nt := nt) (n := n) K
    have ih := ihK k (by omega)
    cases c with
    | skip =>
      simp only [cCode, Option.some.injEq] at hc; subst hc
      simp only [exA, Option.some.injEq, Prod.mk.injEq] at h
      obtain ⟨rfl, rfl⟩ := h
      exact wpIn_skip ⟨trivial, m, o, ds, Mp.le_refl m, r, Keep.refl o w, fun _ h => .inr h⟩
    | region id ops draw =>
      cases draw with
      | false =>
        simp only [cCode, Option.map_eq_some_iff] at hc
        obtain ⟨l, hl, rfl⟩ := hc
        simp only [exA, Option.map_eq_some_iff, Prod.mk.injEq] at h
        obtain ⟨s1, h1, rfl, rfl⟩ := h
        obtain ⟨k1, k2⟩ := cOps_spec hl
        simp only [Array.length_toList] at k1
        refine wpIn_region (opsA_sound hC hF hd l (List.range ops.size) (by simp [k1]) (fun j p q => ?_) h1 r fun m' o' a' w' b1 b2 b3 => ⟨trivial, m', o', ds, b1, b2, b3, fun _ h => .inr h⟩)
        have hj : j < ops.size := by omega
        exact ⟨ops[j], by simp [hj], by have := k2 j (by simpa using hj) p; rwa [Array.getElem_toList] at this⟩
      | true =>
        simp only [cCode, Option.map_eq_some_iff] at hc
        obtain ⟨x, hx, rfl⟩ := hc
        unfold preC at h
        split at h
        · exact drawn_sound hD hF hd hx h r
        · simp only [exA] at h
          cases k with
          | zero => simp [exA] at h
          | succ k =>
            obtain ⟨m1, o1, b1, b2, b3⟩ := preA_sound (capO ops.toList) r
            exact wpIn_mono (drawn_sound hD hF hd hx h b2) fun ex a' w' hp => XPost.trans b1 b3 (fun _ h => .inr h) hp
    | seq x y =>
      simp only [cCode] at hc
      split at hc
      · rename_i sx sy hx hy
        cases hc
        simp only [exA] at h
        refine wpIn_seq ?_
        split at h
        · rename_i s1 h1
          refine wpIn_mono (ih _ _ _ _ h1 x hx ds m o a w r) fun ex a1 w1 hp => ?_
          obtain ⟨p1, m1, o1, ds1, p2, p3, p4, p5⟩ := hp
          cases ex <;> simp only [exEq] at p1
          exact wpIn_mono (ih _ _ _ _ h y hy ds1 m1 o1 a1 w1 p3) fun ex a2 w2 hp2 => hp2.trans p2 p4 p5
        · rename_i hne
          refine wpIn_mono (ih _ _ _ _ h x hx ds m o a w r) fun ex a1 w1 hp => ?_
          cases ex with
          | normal =>
            exfalso
            obtain ⟨p1, _⟩ := hp
            cases e <;> simp only [exEq] at p1
            exact hne _ h
          | exit i => exact hp
          | goto i => exact hp
          | ret => exact hp
          | panic ch => exact hp
          | outgrown => exact hp
      · cases hc
    | cond x y z =>
      simp only [cCode] at hc
      split at hc
      · rename_i hok
        split at hc
        · rename_i sx sy hx hy
          cases hc
          simp only [exA] at h
          have hv := ev_rel r.G r.T hok
          split at h
          · rename_i hb
            rw [hb] at hv
            have he : a.eval x = .bool true := by generalize a.eval x = q at hv; cases hv; rfl
            exact wpIn_cond_true he (ih _ _ _ _ h y hx ds m o a w r)
          · rename_i hb
            rw [hb] at hv
            have he : a.eval x = .bool false := by generalize a.eval x = q at hv; cases hv; rfl
            exact wpIn_cond_false he (ih _ _ _ _ h z hy ds m o a w r)
          · cases h
        · cases hc
      · cases hc
    | block id x =>
      simp only [cCode, Option.map_eq_some_iff] at hc
      obtain ⟨sx, hx, rfl⟩ := hc
      simp only [exA] at h
      refine wpIn_block ?_
      split at h
      · rename_i i s1 h1
        simp only [Option.some.injEq, Prod.mk.injEq] at h
        obtain ⟨rfl, rfl⟩ := h
        refine wpIn_mono (ih _ _ _ _ h1 x hx ds m o a w r) fun ex a1 w1 hp => ?_
        obtain ⟨p1, p2⟩ := hp
        cases ex <;> simp only [exEq] at p1
        subst p1
        simp only [Exit.inBlock]
        split
        · exact ⟨trivial, p2⟩
        · exact ⟨rfl, p2⟩
      · rename_i hne
        refine wpIn_mono (ih _ _ _ _ h x hx ds m o a w r) fun ex a1 w1 hp => ?_
        cases ex with
        | exit i =>
          exfalso
          obtain ⟨p1, _⟩ := hp
          cases e <;> simp only [exEq] at p1
          exact hne _ _ h
        | normal => exact hp
        | goto i => exact hp
        | ret => exact hp
        | panic ch => exact hp
        | outgrown => exact hp
    | loop x =>
      simp only [cCode, Option.map_eq_some_iff] at hc
      obtain ⟨sx, hx, rfl⟩ := hc
      exact wpIn_loop_rounds (k + 1) (loop_rounds (K := K) (fun k' hk' s s' e h ds m o a w r => ihK k' hk' sx s s' e h x hx ds m o a w r) (k + 1) hk s s' e h ds m o a w r)
    | rangeFunc f ps asg body =>
      simp only [cCode] at hc
      split at hc
      · rename_i hps
        split at hc
        · rename_i sx sy hx hy
          cases hc
          exact rng_sound hC (fun x hx => by have := Array.all_eq_true_iff_forall_mem.1 hps.1 x (by simpa using hx); simpa using this) hps.2 hx hy h hF hd r
        · cases hc
      · cases hc
    | exit id =>
      simp only [cCode, Option.some.injEq] at hc; subst hc
      simp only [exA, Option.some.injEq, Prod.mk.injEq] at h
      obtain ⟨rfl, rfl⟩ := h
      exact wpIn_exit ⟨rfl, m, o, ds, Mp.le_refl m, r, Keep.refl o w, fun _ h => .inr h⟩
    | ret =>
      simp only [cCode, Option.some.injEq] at hc; subst hc
      simp only [exA, Option.some.injEq, Prod.mk.injEq] at h
      obtain ⟨rfl, rfl⟩ := h
      exact wpIn_ret ⟨trivial, m, o, ds, Mp.le_refl m, r, Keep.refl o w, fun _ h => .inr h⟩
    | scope x =>
      simp only [cCode, Option.map_eq_some_iff] at hc
      obtain ⟨sx, hx, rfl⟩ := hc
      simp only [exA] at h
      refine wpIn_scope ?_
      have hrun : exA C k sx s = some (e, s') := by
        split at h
        · rename_i s1 h1
          cases k with
          | zero => simp [exA] at h
          | succ k =>
            simp only [exA, Option.some.injEq, Prod.mk.injEq] at h
            obtain ⟨rfl, rfl⟩ := h
            exact h1
        · exact h
      refine wpIn_mono (ih _ _ _ _ hrun x hx ds m o a w r) fun ex a1 w1 hp => ⟨fun l hl => ?_, hp⟩
      obtain ⟨p1, _⟩ := hp
      subst hl
      cases e <;> simp only [exEq] at p1
    | label x =>
      simp only [cCode, Option.some.injEq] at hc; subst hc
      simp only [exA, Option.some.injEq, Prod.mk.injEq] at h
      obtain ⟨rfl, rfl⟩ := h
      exact wpIn_label ⟨trivial, m, o, ds, Mp.le_refl m, r, Keep.refl o w, fun _ h => .inr h⟩
    | goto x => simp [cCode] at hc
    | refuse x => simp [cCode] at hc
end Go.Proofs.YthobfecblpnnnaaGreatDoor

/- Which blocks of the abstract heap a run leaves as they are. -/
namespace Go.Proofs.YthobfecblpnnnaaGreatDoor
open Go

/-- No block has gone; those below 'lim' are as they were. -/
def Gr (lim : Nat) (H H' : AH) : Prop := H.length ≤ H'.length ∧ ∀ b, b < lim → b < H.length → H'[b]? = H[b]?

theorem Gr.refl (lim : Nat) (H : AH) : Gr lim H H := ⟨Nat.le_refl _, fun _ _ _ => rfl⟩
theorem Gr.trans {lim : Nat} {H H' H'' : AH} (h : Gr lim H H') (k : Gr lim H' H'') : Gr lim H H'' :=
  ⟨Nat.le_trans h.1 k.1, fun b h1 h2 => (k.2 b h1 (Nat.lt_of_lt_of_le h2 h.1)).trans (h.2 b h1 h2)⟩
theorem Gr.push (lim : Nat) (H : AH) (x : List ABlk) : Gr lim H (H ++ x) := ⟨by simp, fun b _ h => List.getElem?_append_left h⟩
theorem Gr.set {lim : Nat} (H : AH) {b : Nat} (h : lim ≤ b) (x : ABlk) : Gr lim H (H.set b x) := ⟨by simp, fun b' h1 _ => List.getElem?_set_ne (by omega)⟩
theorem Gr.mono {lim lim' : Nat} {H H' : AH} (h : Gr lim H H') (hl : lim' ≤ lim) : Gr lim' H H' := ⟨h.1, fun b h1 h2 => h.2 b (by omega) h2⟩
theorem Gr.all {lim : Nat} {H H' : AH} (h : Gr H.length H H') : Gr lim H H' := ⟨h.1, fun b _ h2 => h.2 b h2 h2⟩
theorem Gr.prefix {H H' : AH} (h : Gr H.length H H') : H' = H ++ H'.drop H.length := by
  have : H'.take H.length = H := by
    apply List.ext_getElem?
    intro j
    rw [List.getElem?_take]
    split
    · rename_i hj; exact h.2 j hj hj
    · rename_i hj; rw [List.getElem?_eq_none (by omega)]
  have h2 := List.take_append_drop H.length H'
  rw [this] at h2
  exact h2.symm

theorem hstore_Gr {H H' : AH} {lim b off : Nat} {ws : List Value} (h : hstore H lim b off ws = some H') : Gr lim H H' := by
  unfold hstore at h
  split at h
  · split at h
    · rename_i hc; cases h; exact Gr.set H hc.1 _
    · cases h
  · cases h

theorem storeAt_Gr {s : St} {a : Addr} {ws : List Value} {L' : LS} {H' : AH} (h : storeAt s a ws = some (L', H')) : Gr s.lim s.H H' := by
  unfold storeAt at h
  split at h
  · cases h
  · split at h
    · simp only [Option.map_eq_some_iff, Prod.mk.injEq] at h
      obtain ⟨H2, h2, _, rfl⟩ := h
      exact hstore_Gr h2
    · split at h
      · split at h
        · cases h; exact Gr.refl _ _
        · cases h
      · split at h
        · simp only [Option.map_eq_some_iff, Prod.mk.injEq] at h
          obtain ⟨H2, h2, _, rfl⟩ := h
          exact hstore_Gr h2
        · cases h
      · cases h

theorem glob_Gr {L L' : LS} {H H' : AH} {v u : Value} (h : glob L H v = some (u, L', H')) (lim : Nat) : Gr lim H H' := by
  unfold glob at h
  split at h
  · split at h
    · split at h
      · cases h; exact Gr.push _ _ _
      · cases h
    · split at h
      · cases h; exact Gr.refl _ _
      · cases h
    · cases h
  · split at h
    · cases h; exact Gr.refl _ _
    · cases h

theorem globs_Gr : ∀ {vs : List Value} {L L' : LS} {H H' : AH} {us : List Value} (_ : globs L H vs = some (us, L', H')) (lim : Nat), Gr lim H H'
  | [], L, L', H, H', us, h, lim => by cases h; exact Gr.refl _ _
  | v :: r, L, L', H, H', us, h, lim => by
    unfold globs at h
    split at h
    · rename_i h1
      split at h
      · rename_i h2; cases h; exact (glob_Gr h1 lim).trans (globs_Gr h2 lim)
      · cases h
    · cases h

theorem popA_Gr {s : St} {so : SO} {d : Option Tmp} {v : Value} {L' : LS} {H' : AH} (h : popA s so d = some (v, L', H')) : Gr s.lim s.H H' := by
  cases so
  case st n x y =>
    simp only [popA] at h
    split at h
    · split at h
      · simp only [Option.map_eq_some_iff, Prod.mk.injEq] at h
        obtain ⟨⟨L2, H2⟩, h2, _, _, rfl⟩ := h
        exact storeAt_Gr h2
      · cases h
    · cases h
  case copy size x y =>
    simp only [popA] at h
    split at h
    · split at h
      · cases h; exact Gr.refl _ _
      · split at h
        · split at h
          · simp only [Option.map_eq_some_iff, Prod.mk.injEq] at h
            obtain ⟨H2, h2, _, _, rfl⟩ := h
            exact hstore_Gr h2
          · cases h
        · cases h
    · cases h
  case clr z x =>
    simp only [popA] at h
    split at h
    · split at h
      · cases h; exact Gr.refl _ _
      · split at h
        · split at h
          · simp only [Option.map_eq_some_iff, Prod.mk.injEq] at h
            obtain ⟨H2, h2, _, _, rfl⟩ := h
            exact hstore_Gr h2
          · cases h
        · cases h
    · cases h
  case mkf fn a b =>
    simp only [popA] at h
    split at h
    · rename_i h1
      split at h
      · rename_i h2
        split at h
        · cases h; exact (globs_Gr h1 _).trans (globs_Gr h2 _)
        · cases h
      · cases h
    · cases h
  case app size bytes z x y =>
    simp only [popA] at h
    split at h
    · split at h
      · cases h; exact Gr.refl _ _
      · split at h
        · split at h
          · split at h
            · cases h
            · split at h
              · cases h; exact Gr.push _ _ _
              · split at h
                · cases h
                · split at h
                  · split at h
                    · rename_i hc; cases h; exact (Gr.set _ hc.1 _).trans (Gr.push _ _ _)
                    · cases h
                  · cases h
          · cases h
        · cases h
    · cases h
  case mks => simp only [popA] at h; repeat' (first | split at h | (cases h; exact Gr.push _ _ _) | cases h)
  case buildS => simp only [popA] at h; repeat' (first | split at h | (cases h; exact Gr.push _ _ _) | cases h)
  case slc => simp only [popA] at h; repeat' (first | split at h | (cases h; exact Gr.refl _ _) | cases h)
  case bin => simp only [popA, Option.bind_eq_some_iff, Option.some.injEq, Prod.mk.injEq] at h; obtain ⟨_, _, _, _, rfl⟩ := h; exact Gr.refl _ _
  case un => simp only [popA, Option.bind_eq_some_iff, Option.some.injEq, Prod.mk.injEq] at h; obtain ⟨_, _, _, _, rfl⟩ := h; exact Gr.refl _ _
  case build => simp only [popA, Option.bind_eq_some_iff, Option.some.injEq, Prod.mk.injEq] at h; obtain ⟨_, _, _, _, rfl⟩ := h; exact Gr.refl _ _
  case eqs =>
    simp only [popA] at h
    repeat' (first | split at h | (simp only [Option.bind_eq_some_iff, Option.some.injEq, Prod.mk.injEq] at h; obtain ⟨_, _, _, _, rfl⟩ := h; exact Gr.refl _ _) | cases h)
  case max =>
    simp only [popA] at h
    repeat' (first | split at h | (simp only [Option.bind_eq_some_iff, Option.some.injEq, Prod.mk.injEq] at h; obtain ⟨_, _, _, _, rfl⟩ := h; exact Gr.refl _ _) | cases h)
  case min =>
    simp only [popA] at h
    repeat' (first | split at h | (simp only [Option.bind_eq_some_iff, Option.some.injEq, Prod.mk.injEq] at h; obtain ⟨_, _, _, _, rfl⟩ := h; exact Gr.refl _ _) | cases h)
  all_goals (simp only [popA] at h; repeat' (first | (cases h; exact Gr.refl _ _) | split at h | cases h))

theorem put_H (s : St) (d : Option Tmp) (v : Value) : (s.put d v).H = s.H ∧ (s.put d v).lim = s.lim ∧ (s.put d v).rd = s.rd ∧ (s.put d v).L = s.L := by cases d <;> exact ⟨rfl, rfl, rfl, rfl⟩

def CGr (C : CallA) : Prop := ∀ fv vs lim H v H', C fv vs lim H = some (v, H') → Gr lim H H'

theorem runA_Gr {C : CallA} (hC : CGr C) {o : SOp} {s s' : St} (h : runA C o s = some s') : Gr s.lim s.H s'.H ∧ s'.lim = s.lim ∧ s'.rd = s.rd := by
  unfold runA at h
  split at h
  · split at h
    · rename_i vs L1 H1 hg
      split at h
      · rename_i v H2 hc
        cases h
        obtain ⟨k1, k2, k3, k4⟩ := put_H { s with L := L1, H := H2 } o.dst v
        split at hc
        · rw [k1, k2, k3]
          exact ⟨(globs_Gr hg _).trans (hC _ _ _ _ _ _ hc), rfl, rfl⟩
        · cases hc
      · cases h
    · cases h
  · split at h
    · rename_i v L1 H1 hp
      cases h
      obtain ⟨k1, k2, k3, k4⟩ := put_H { s with L := L1, H := H1 } o.dst v
      rw [k1, k2, k3]
      exact ⟨popA_Gr hp, rfl, rfl⟩
    · cases h

theorem opA_Gr {C : CallA} (hC : CGr C) {o : SOp} {s s' : St} (h : opA C o s = some s') : Gr s.lim s.H s'.H ∧ s'.lim = s.lim ∧ s'.rd = s.rd := by
  have skip : s' = s.put o.dst SK → Gr s.lim s.H s'.H ∧ s'.lim = s.lim ∧ s'.rd = s.rd := by
    rintro rfl
    obtain ⟨k1, k2, k3, k4⟩ := put_H s o.dst SK
    rw [k1, k2, k3]; exact ⟨Gr.refl _ _, rfl, rfl⟩
  unfold opA at h
  split at h
  · exact runA_Gr hC h
  · split at h
    · split at h
      · exact runA_Gr hC h
      · cases h; exact skip rfl
    · split at h
      · cases h; exact skip rfl
      · cases h
    · cases h

theorem opsA_Gr {C : CallA} (hC : CGr C) : ∀ {l : List SOp} {s s' : St}, opsA C l s = some s' → Gr s.lim s.H s'.H ∧ s'.lim = s.lim ∧ s'.rd = s.rd
  | [], s, s', h => by cases h; exact ⟨Gr.refl _ _, rfl, rfl⟩
  | o :: l, s, s', h => by
    simp only [opsA] at h
    split at h
    · rename_i s1 h1
      obtain ⟨a1, a2, a3⟩ := opA_Gr hC h1
      obtain ⟨b1, b2, b3⟩ := opsA_Gr hC h
      rw [a2] at b1
      exact ⟨a1.trans b1, b2.trans a2, b3.trans a3⟩
    · cases h

theorem dOp_Gr {C : CallA} (hC : CGr C) {k : DK} {o : SOp} {s s' : St} (h : dOp C k o s = some s') : Gr s.lim s.H s'.H ∧ s'.lim = s.lim ∧ s'.rd = s.rd := by
  have key : (if noLoc s o.op then (match opA C o { s with lim := s.H.length } with | some s' => some { s' with lim := s.lim } | none => none) else none) = some s' → Gr s.lim s.H s'.H ∧ s'.lim = s.lim ∧ s'.rd = s.rd := by
    intro h
    split at h
    · split at h
      · rename_i s1 h1
        cases h
        obtain ⟨a1, a2, a3⟩ := opA_Gr hC h1
        exact ⟨a1.all, rfl, a3⟩
      · cases h
    · cases h
  cases k with
  | late => simp only [dOp, Option.some.injEq] at h; subst h; exact ⟨Gr.refl _ _, rfl, rfl⟩
  | bar => exact opA_Gr hC h
  | free => exact key h
  | chain => exact key h

theorem dOps_Gr {C : CallA} (hC : CGr C) : ∀ {l : List (DK × SOp)} {s s' : St}, dOps C l s = some s' → Gr s.lim s.H s'.H ∧ s'.lim = s.lim ∧ s'.rd = s.rd
  | [], s, s', h => by cases h; exact ⟨Gr.refl _ _, rfl, rfl⟩
  | (k, o) :: l, s, s', h => by
    simp only [dOps] at h
    split at h
    · rename_i s1 h1
      obtain ⟨a1, a2, a3⟩ := dOp_Gr hC h1
      obtain ⟨b1, b2, b3⟩ := dOps_Gr hC h
      rw [a2] at b1
      exact ⟨a1.trans b1, b2.trans a2, b3.trans a3⟩
    · cases h

theorem bxsA_same : ∀ {l : List BX} {s s' : St}, bxsA l s = some s' → s'.H = s.H ∧ s'.lim = s.lim ∧ s'.rd = s.rd
  | [], s, s', h => by cases h; exact ⟨rfl, rfl, rfl⟩
  | b :: l, s, s', h => by
    simp only [bxsA] at h
    split at h
    · rename_i s1 h1
      obtain ⟨b1, b2, b3⟩ := bxsA_same h
      unfold bxA at h1
      split at h1
      · cases h1; exact ⟨b1, b2, b3⟩
      · cases h1
    · cases h

theorem runAlts_Gr {C : CallA} (hC : CGr C) {s : St} {lim : Nat} : ∀ {ls : List (List (DK × SOp))} {rs : List St}, runAlts C s lim ls = some rs → ∀ r ∈ rs, Gr lim s.H r.H
  | [], rs, h, r, hr => by cases h; cases hr
  | l :: ls, rs, h, r, hr => by
    simp only [runAlts] at h
    split at h
    · rename_i x y h1 h2
      cases h
      rcases List.mem_cons.1 hr with rfl | hr
      · exact (dOps_Gr hC h1).1
      · exact runAlts_Gr hC h2 r hr
    · cases h

theorem mergeA_shape {s s' : St} {ds : List Tmp} {rs : List St} (h : mergeA s ds rs = some s') : s'.lim = s.lim ∧ s'.rd = s.rd ∧ (s'.H = s.H ∨ ∃ r ∈ rs, s'.H = r.H) := by
  cases rs with
  | nil => cases h
  | cons r1 rs =>
    simp only [mergeA] at h
    split at h
    · cases h; exact ⟨rfl, rfl, .inr ⟨r1, by simp, rfl⟩⟩
    · split at h
      · cases h; exact ⟨rfl, rfl, .inl rfl⟩
      · split at h
        · cases h; exact ⟨rfl, rfl, .inr ⟨r1, by simp, rfl⟩⟩
        · cases h

theorem altsA_Gr {C : CallA} (hC : CGr C) {ls : List (List (DK × SOp))} {ds : List Tmp} {s s' : St} (h : altsA C ls ds s = some s') : Gr s.lim s.H s'.H ∧ s'.lim = s.lim ∧ s'.rd = s.rd := by
  unfold altsA at h
  split at h
  · obtain ⟨rs, h1, h2⟩ := Option.bind_eq_some_iff.1 h
    cases rs with
    | nil => cases h2
    | cons r1 rs =>
      simp only [mergeW] at h2
      split at h2
      · cases h2; exact ⟨runAlts_Gr hC h1 r1 (by simp), rfl, rfl⟩
      · cases h2
  · obtain ⟨rs, h1, h2⟩ := Option.bind_eq_some_iff.1 h
    obtain ⟨k1, k2, k3⟩ := mergeA_shape h2
    refine ⟨?_, k1, k2⟩
    rcases k3 with k3 | ⟨r, hr, k3⟩
    · rw [k3]; exact Gr.refl _ _
    · rw [k3]; exact (runAlts_Gr hC h1 r hr).all

theorem preOne_Gr (t : Tmp) (s : St) (lim : Nat) : Gr lim s.H (preOne t s).H ∧ (preOne t s).lim = s.lim ∧ (preOne t s).rd = s.rd := by
  have same : Gr lim s.H s.H ∧ s.lim = s.lim ∧ s.rd = s.rd := ⟨Gr.refl _ _, rfl, rfl⟩
  unfold preOne
  split
  · split
    · split
      · rename_i p _ _ _ _ _ v L H hg
        exact ⟨globs_Gr (vs := [.pointer (some p)]) (us := [v]) (L := s.L) (L' := L) (by simp only [globs, hg]) lim, rfl, rfl⟩
      · exact same
    · exact same
  · exact same

theorem preA_Gr : ∀ (ts : List Tmp) (s : St) (lim : Nat), Gr lim s.H (preA ts s).H ∧ (preA ts s).lim = s.lim ∧ (preA ts s).rd = s.rd
  | [], _, _ => ⟨Gr.refl _ _, rfl, rfl⟩
  | t :: ts, s, lim => by
    obtain ⟨a1, a2, a3⟩ := preOne_Gr t s lim
    obtain ⟨b1, b2, b3⟩ := preA_Gr ts (preOne t s) lim
    exact ⟨a1.trans b1, b2.trans a2, b3.trans a3⟩

theorem exA_Gr {C : CallA} (hC : CGr C) : ∀ {k : Nat} {sc : SC} {s s' : St} {e : Ex}, exA C k sc s = some (e, s') → Gr s.lim s.H s'.H ∧ s'.lim = s.lim ∧ s'.rd = s.rd
  | 0, _, _, _, _, h => by simp [exA] at h
  | k + 1, sc, s, s', e, h => by
    cases sc with
    | skip => simp only [exA, Option.some.injEq, Prod.mk.injEq] at h; obtain ⟨_, rfl⟩ := h; exact ⟨Gr.refl _ _, rfl, rfl⟩
    | ops l =>
      simp only [exA, Option.map_eq_some_iff, Prod.mk.injEq] at h
      obtain ⟨s1, h1, _, rfl⟩ := h
      exact opsA_Gr hC h1
    | draw l bx =>
      simp only [exA, Option.map_eq_some_iff, Prod.mk.injEq, Option.bind_eq_some_iff] at h
      obtain ⟨s1, ⟨s2, h1, h2⟩, _, rfl⟩ := h
      obtain ⟨a1, a2, a3⟩ := dOps_Gr hC h1
      obtain ⟨b1, b2, b3⟩ := bxsA_same h2
      rw [b1, b2, b3]
      exact ⟨a1, a2, a3⟩
    | alts ls ds =>
      simp only [exA, Option.map_eq_some_iff, Prod.mk.injEq] at h
      obtain ⟨s1, h1, _, rfl⟩ := h
      exact altsA_Gr hC h1
    | pre ts a =>
      simp only [exA] at h
      obtain ⟨a1, a2, a3⟩ := preA_Gr ts s s.lim
      obtain ⟨b1, b2, b3⟩ := exA_Gr hC h
      rw [a2] at b1
      exact ⟨a1.trans b1, b2.trans a2, b3.trans a3⟩
    | seq a b =>
      simp only [exA] at h
      split at h
      · rename_i s1 h1
        obtain ⟨a1, a2, a3⟩ := exA_Gr hC h1
        obtain ⟨b1, b2, b3⟩ := exA_Gr hC h
        rw [a2] at b1
        exact ⟨a1.trans b1, b2.trans a2, b3.trans a3⟩
      · exact exA_Gr hC h
    | cond c a b =>
      simp only [exA] at h
      split at h
      · exact exA_Gr hC h
      · exact exA_Gr hC h
      · cases h
    | block id a =>
      simp only [exA] at h
      split at h
      · rename_i h1
        simp only [Option.some.injEq, Prod.mk.injEq] at h
        obtain ⟨_, rfl⟩ := h
        exact exA_Gr hC h1
      · exact exA_Gr hC h
    | loop a =>
      simp only [exA] at h
      split at h
      · rename_i s1 h1
        obtain ⟨a1, a2, a3⟩ := exA_Gr hC h1
        obtain ⟨b1, b2, b3⟩ := exA_Gr hC h
        rw [a2] at b1
        exact ⟨a1.trans b1, b2.trans a2, b3.trans a3⟩
      · exact exA_Gr hC h
    | rng f ps asg body =>
      simp only [exA] at h
      split at h
      · cases h
      · split at h
        · rename_i v H1 hc
          split at h
          · split at h
            · cases h
            · simp only [Option.some.injEq, Prod.mk.injEq] at h
              obtain ⟨_, rfl⟩ := h
              refine ⟨?_, rfl, rfl⟩
              have := (Gr.push s.lim s.H [.loop ⟨0, none, s.t, s.L, s.lim, ps, asg, body⟩]).trans (hC _ _ _ _ _ _ hc)
              exact ⟨by simpa using this.1, fun b h1 h2 => (List.getElem?_set_ne (by omega)).trans (this.2 b h1 h2)⟩
          · cases h
        · cases h
    | exit id => simp only [exA, Option.some.injEq, Prod.mk.injEq] at h; obtain ⟨_, rfl⟩ := h; exact ⟨Gr.refl _ _, rfl, rfl⟩
    | ret => simp only [exA, Option.some.injEq, Prod.mk.injEq] at h; obtain ⟨_, rfl⟩ := h; exact ⟨Gr.refl _ _, rfl, rfl⟩

theorem apA_Gr (P : Program) (pf : PF) : ∀ n, CGr (apA P pf n)
  | 0 => fun fv vs lim H v H' h => by simp [apA] at h
  | n + 1 => fun fv vs lim H v H' h => by
    have ih := apA_Gr P pf n
    unfold apA at h
    split at h
    · cases h
    · rename_i n' f first cap hn
      cases hn
      split at h
      · split at h
        · cases h; exact Gr.refl _ _
        · cases h
      split at h
      · cases h
      · rename_i sf hsf
        split at h
        · cases h
        · rename_i e s hne hx
          obtain ⟨a1, a2, a3⟩ := exA_Gr ih hx
          split at h
          · split at h
            · rename_i vs' L' H2 hg
              simp only [Option.some.injEq, Prod.mk.injEq] at h
              obtain ⟨_, rfl⟩ := h
              have g := globs_Gr hg
              cases hp : pf f with
              | true =>
                rw [hp] at a1
                simp only [if_true] at a1
                simp only [Bool.true_and]
                split
                · exact Gr.refl _ _
                · exact (a1.trans (g _)).all
              | false =>
                rw [hp] at a1
                simp only [Bool.false_and, Bool.false_eq_true, if_false] at a1 ⊢
                exact a1.trans (g _)
            · cases h
          · cases h
        · cases h
    · rename_i n' l first cap hn
      cases hn
      split at h
      · rename_i r hr
        split at h
        · rename_i hc
          obtain ⟨c0, c1, c2, c3, c4⟩ := hc
          split at h
          · rename_i s hx
            obtain ⟨a1, a2, a3⟩ := exA_Gr ih hx
            split at h
            · split at h
              · split at h
                · rename_i e s' hy
                  obtain ⟨b1, b2, b3⟩ := exA_Gr ih hy
                  split at h
                  · simp only [Option.some.injEq, Prod.mk.injEq] at h
                    obtain ⟨_, rfl⟩ := h
                    simp only at a1 a2 b1
                    rw [a2] at b1
                    exact ((((Gr.set _ c3 _).trans (a1.mono c2)).trans (Gr.set _ c3 _)).trans (b1.mono c2)).trans (Gr.set _ c3 _)
                  · cases h
                · cases h
              · cases h
            · cases h
          · cases h
        · cases h
      · cases h
    · cases h
end Go.Proofs.YthobfecblpnnnaaGreatDoor

/- Calls: what the abstract machine says of a call of a function, or of a round of a loop over a function, holds of the model's. -/
namespace Go.Proofs.YthobfecblpnnnaaGreatDoor
open Go Go.RowKit

variable {P : Program} {B0 : Nat}

theorem VRel.back {h h' : Nat → Option HI} {l l' : Nat → Nat → Option Nat} (hh : ∀ b i, h b = some i → h' b = some i) {v x : Value} (r : VRel ⟨h', l'⟩ v x) : ∀ {y : Value}, VRel ⟨h, l⟩ v y → VRel ⟨h, l'⟩ v x := by
  induction r with
  | any v => intro y _; exact .any v
  | sk => intro y _; exact .sk
  | bool b => intro y _; exact .bool b
  | int k n => intro y _; exact .int k n
  | float k n => intro y _; exact .float k n
  | complex k n n' => intro y _; exact .complex k n n'
  | string s => intro y _; exact .string s
  | ptrN => intro y _; exact .ptrN
  | ptr a a' ha =>
    intro y hy
    cases hy with
    | ptr _ a2 hb =>
      refine .ptr a a' ⟨ha.1, ?_⟩
      have h1 := ha.2
      have h2 := hb.2
      cases hs : a.spot with
      | none =>
        rw [hs] at h1 h2
        obtain ⟨i, e1, e2, e3⟩ := h1
        obtain ⟨j, f1, _, _⟩ := h2
        have := hh _ _ f1
        simp only at e1
        rw [e1] at this; cases this
        exact ⟨i, f1, e2, e3⟩
      | some g => rw [hs] at h1; exact h1
  | slN c a' c' hc ha => intro y _; exact .slN c a' c' hc ha
  | sl a a' n c c' i hs ha hi ht hle hc =>
    intro y hy
    have key : ∀ j, h a.block = some j → j = i := fun j e => by
      have := hh _ _ e
      simp only at hi
      rw [hi] at this; cases this; rfl
    cases hy with
    | sl _ a2 _ _ _ j hs2 hb hj _ _ _ =>
      have hj' := key j hj
      subst hj'
      refine .sl a a' n c c' j hs ⟨ha.1, ?_⟩ hj ht hle hc
      have h1 := ha.2
      rw [hs] at h1 ⊢
      obtain ⟨i2, e1, e2, e3⟩ := h1
      simp only at e1 hi
      rw [hi] at e1; cases e1
      exact ⟨j, hj, e2, e3⟩
  | map => intro y _; exact .map
  | chan => intro y _; exact .chan
  | nilF => intro y _; exact .nilF
  | func f f' x x' z z' hf hx hxs hz hzs ix iz =>
    intro y hy
    cases hy with
    | func _ f2 _ x2 _ z2 hf2 hx2 hxs2 hz2 hzs2 =>
      refine .func f f' x x' z z' ?_ hx (fun i a b => ix i a b (hxs2 i a (by omega))) hz (fun i a b => iz i a b (hzs2 i a (by omega)))
      cases hf with
      | func f => exact .func f
      | yield l i e =>
        cases hf2 with
        | yield _ j e2 =>
          have := hh _ _ e2
          simp only at e
          rw [e] at this; cases this
          exact .yield l i e2
  | iface t v v' r ih => intro y hy; cases hy with | iface _ _ v2 h2 => exact .iface t v v' (ih h2)
  | nilI => intro y _; exact .nilI
  | agg x x' hx hxs ih =>
    intro y hy
    cases hy with
    | agg _ x2 hx2 hxs2 => exact .agg x x' hx (fun i a b => ih i a b (hxs2 i a (by omega)))
  | tup x x' hx hxs ih =>
    intro y hy
    cases hy with
    | any => exact .any _
    | sk => exact .tup _ _ hx (fun i a b => by
        have : i = 0 := by simpa using a
        subst this; exact .any _)
    | tup _ x2 hx2 hxs2 => exact .tup x x' hx (fun i a b => ih i a b (hxs2 i a (by omega)))

theorem LsRel.back {h h' : Nat → Option HI} {l l' : Nat → Nat → Option Nat} (hh : ∀ b i, h b = some i → h' b = some i) {v x y : List Value} (r : LsRel ⟨h', l'⟩ v x) (k : LsRel ⟨h, l⟩ v y) : LsRel ⟨h, l'⟩ v x :=
  ⟨r.1, fun i a b => (r.2 i a b).back hh (k.2 i a (by have := k.1; omega))⟩

/-- Behind a call that has turned none of the blocks, what it made may be forgotten. -/
theorem WRel.back {h h' : Nat → Option HI} {o o' : Nat → Ow} {H H' : AH} {w w' : World} (r : WRel P B0 (Mp0 h) o H w) (hh : ∀ b i, h b = some i → h' b = some i) (r' : WRel P B0 (Mp0 h') o' H' w') (hg : Gr H.length H H') (hs : w.heap.size ≤ w'.heap.size) : WRel P B0 (Mp0 h) o' H w' where
  dom b i e := ⟨(r.dom b i e).1, Nat.lt_of_lt_of_le (r.dom b i e).2 hs⟩
  base := r'.base
  low := r'.low
  blk b i x e hx := by
    have hb := (r.dom b i e).1
    have h0 := r.blk b i x e hx
    have h1 := r'.blk b i x (hh b i e) ((hg.2 b hb hb).trans hx)
    cases x with
    | rw ee vs =>
      obtain ⟨_, _, _, _, _, arr0, te0, _, _, _, k0⟩ := h0
      obtain ⟨a1, a2, a3, a4, a5, arr, te, a6, a7, a8, a9⟩ := h1
      exact ⟨a1, a2, a3, a4, a5, arr, te, a6, a7, a8, a9.back hh k0⟩
    | ro vs =>
      obtain ⟨_, _, _, k0⟩ := h0
      obtain ⟨a1, a2, a3, a4⟩ := h1
      refine ⟨a1, a2, a3, fun j hj => ?_⟩
      obtain ⟨v0, _, q0⟩ := k0 j hj
      obtain ⟨v', q1, q2⟩ := a4 j hj
      exact ⟨v', q1, q2.back hh q0⟩
    | dead => trivial
    | loop rr =>
      obtain ⟨_, _, _, lp0, ml0, nt0, _, _, _, c4, c5, _⟩ := h0
      obtain ⟨a1, a2, a3, lp, ml, nt, b1, b2, b3, b4, b5, b6⟩ := h1
      refine ⟨a1, a2, a3, lp, ml, nt, b1, b2, b3, fun j => (b4 j).back hh (c4 j), ?_, b6⟩
      intro d g c hc
      have k0 := c5 d g c hc
      have k1 := b5 d g c hc
      cases c with
      | cells vs =>
        obtain ⟨B0', _, _, _, arr0, te0, _, q0⟩ := k0
        obtain ⟨B, q1, q2, q3, arr, te, q4, q5⟩ := k1
        exact ⟨B, q1, q2, q3, arr, te, q4, q5.back hh q0⟩
      | fwd b' =>
        obtain ⟨j0, q0, _, _⟩ := k0
        obtain ⟨j, q1, q2, q3⟩ := k1
        have := hh _ _ q0
        simp only [Mp0] at q1 q0
        rw [q1] at this; cases this
        exact ⟨_, q0, q2, q3⟩

theorem tget_tsOf : ∀ (l : List Value) (k i : Nat), tget (tsOf k l) i = if k ≤ i then l.getD (i - k) (.tuple #[]) else .tuple #[]
  | [], k, i => by simp [tsOf, tget_nil, tget_cons]
  | v :: r, k, i => by
    rw [tsOf, tget_cons, tget_tsOf r (k + 1) i]
    by_cases h : i = k
    · subst h; simp
    · rw [if_neg h]
      by_cases h2 : k + 1 ≤ i
      · rw [if_pos h2, if_pos (by omega), show i - k = (i - (k + 1)) + 1 by omega]; simp
      · rw [if_neg h2, if_neg (by omega)]

theorem TRel.start {m : Mp} {vs vs' : List Value} (h : LsRel m vs vs') (k : Nat) : TRel m (tsOf 0 vs) (vs'.toArray ++ Array.replicate k undef) := by
  intro i
  rw [tget_tsOf]
  simp only [Nat.zero_le, if_true, Nat.sub_zero]
  by_cases hi : i < vs.length
  · have hi' : i < vs'.length := by rw [← h.1]; exact hi
    have e1 : vs.getD i (.tuple #[]) = vs[i] := by simp [hi]
    have e2 : (vs'.toArray ++ Array.replicate k undef).getD i undef = vs'[i] := by
      rw [Array.getD_eq_getD_getElem?, Array.getElem?_append_left (by simpa using hi')]; simp [hi']
    rw [e1, e2]; exact h.2 i hi hi'
  · have e1 : vs.getD i (.tuple #[]) = .tuple #[] := by simp [hi]
    rw [e1]; exact .any _

def resOne (tmps : Array Value) (r : ResultVar) : Sem Value :=
  match r with
  | .tmp t => pure (tmps.getD t undef)
  | .cell a t => do loadVar t (← asAddr (tmps.getD a undef))

theorem results_eq (fn : Func) (tmps : Array Value) : results fn tmps = (do let vs ← fn.results.mapM (resOne tmps); pure (if h : vs.size = 1 then vs[0] else .tuple vs)) := by
  unfold results resOne; rfl

theorem run_mapM_cons {f : ResultVar → Sem Value} {r : ResultVar} {rs : List ResultVar} {w : World} {v : Value} {vs : List Value} (h : (f r).run P w = .ok v w) (k : (rs.mapM f).run P w = .ok vs w) : ((r :: rs).mapM f).run P w = .ok (v :: vs) w := by
  rw [List.mapM_cons, Sem.run_bind, h]
  simp only [Result.andThen_ok]
  rw [Sem.run_bind, k]
  rfl

theorem run_mapM_arr {f : ResultVar → Sem Value} {rs : Array ResultVar} {w : World} {vs : List Value} (k : (rs.toList.mapM f).run P w = .ok vs w) : (rs.mapM f).run P w = .ok vs.toArray w := by
  rw [Array.mapM_eq_mapM_toList, map_eq_pure_bind, Sem.run_bind, k]
  rfl

theorem results_run {m : Mp} {o : Nat → Ow} {s : St} {a : Act} {w : World} (hT : TRel m s.t a.tmps) (t : Tied P B0 m o s.L s.H w) : ∀ (rs : List ResultVar) {sr : List SR} {vs : List Value}, cRes P rs = some sr → resA s sr = some vs →
    ∃ vs', (rs.mapM (resOne a.tmps)).run P w = .ok vs' w ∧ LsRel m vs vs'
  | [], sr, vs, hc, h => by
    simp only [cRes, Option.some.injEq] at hc; subst hc
    simp only [resA, Option.some.injEq] at h; subst h
    exact ⟨[], by simp, LsRel.nil m⟩
  | .tmp x :: rs, sr, vs, hc, h => by
    simp only [cRes, Option.map_eq_some_iff] at hc
    obtain ⟨l, hl, rfl⟩ := hc
    simp only [resA, Option.map_eq_some_iff] at h
    obtain ⟨us, hu, rfl⟩ := h
    obtain ⟨vs', k1, k2⟩ := results_run hT t rs hl hu
    exact ⟨_, run_mapM_cons (v := a.tmps.getD x undef) rfl k1, LsRel.cons (hT x) k2⟩
  | .cell x ty :: rs, sr, vs, hc, h => by
    simp only [cRes] at hc
    split at hc
    · rename_i i de l hi hu hl
      cases hc
      have hv := hT x
      split at h
      · rename_i ha
        simp only [resA] at h
        split at h
        · rename_i p hp
          rw [hp] at hv
          split at h
          · rename_i us l' hus hl'
            cases h
            obtain ⟨vs', k1, k2⟩ := results_run hT t rs hl hl'
            generalize he : a.tmps.getD x undef = z at hv
            cases hv with
            | ptrN => simp at hus
            | ptr q q' hr =>
              obtain ⟨h0, ws, h1, h2⟩ := cellsAt_sound t.tL t.tH hr (by simpa using hus)
              have hag : (isAgg ty).run P w = .ok true w := by
                simp only [isAggT] at ha
                split at ha
                · rename_i fs hu; simp [isAgg, run_underlying hu]
                · rename_i n e hu; simp [isAgg, run_underlying hu]
                · cases ha
              have hl2 := run_loadCells_list (P := P) w q' ws h2
              rw [← h1.1, h0] at hl2
              refine ⟨_, run_mapM_cons (v := .agg ws.toArray) ?_ k1, LsRel.cons (VRel.aggL h1) k2⟩
              simp only [resOne, he, asAddr]
              simp [loadVar, hag, sizeOf, typeInfo, hi, hl2]
          · cases h
        · cases h
      · rename_i ha
        simp only [resA] at h
        split at h
        · rename_i p hp
          rw [hp] at hv
          split at h
          · rename_i u l' hus hl'
            cases h
            obtain ⟨vs', k1, k2⟩ := results_run hT t rs hl hl'
            generalize he : a.tmps.getD x undef = z at hv
            cases hv with
            | ptrN => simp at hus
            | ptr q q' hr =>
              obtain ⟨v', h1, h2⟩ := cellAt_sound t.tL t.tH hr (by simpa using hus)
              have hag : (isAgg ty).run P w = .ok false w := by
                simp only [isAggT, hu] at ha
                cases de <;> simp [isAgg, run_underlying hu] at ha ⊢
              refine ⟨_, run_mapM_cons (v := v') ?_ k1, LsRel.cons h2 k2⟩
              simp only [resOne, he, asAddr]
              simp [loadVar, hag, h1]
          · cases h
        · cases h
    · cases hc

theorem globs_nl : ∀ (vs : List Value) {L : LS} {H : AH} {us : List Value} {L' : LS} {H' : AH}, globs L H vs = some (us, L', H') → nlL us = true
  | [], L, H, us, L', H', h => by simp only [globs, Option.some.injEq, Prod.mk.injEq] at h; rw [← h.1]; rfl
  | v :: r, L, H, us, L', H', h => by
    simp only [globs] at h
    split at h
    · rename_i v' L1 H1 h1
      split at h
      · rename_i r' L2 H2 h2
        simp only [Option.some.injEq, Prod.mk.injEq] at h
        rw [← h.1]
        have := globs_nl r h2
        simp only [nlL, this, Bool.and_true]
        unfold glob at h1
        repeat' split at h1
        all_goals cases h1
        all_goals first | rfl | assumption | (rename_i hx; exact hx.2)
      · cases h
    · cases h

theorem scaL_get : ∀ (l : List Value), scaL l = true → ∀ i (h : i < l.length), sca l[i] = true
  | [], _, i, h => by simp at h
  | v :: r, k, 0, _ => by simp only [scaL, Bool.and_eq_true] at k; exact k.1
  | v :: r, k, i + 1, h => by simp only [scaL, Bool.and_eq_true] at k; exact scaL_get r k.2 i (by simpa using h)

theorem sca_rel {m m' : Mp} {v x : Value} (h : VRel m v x) : sca v = true → VRel m' v x := by
  induction h with
  | any v => intro _; exact .any v
  | sk => intro _; exact .sk
  | bool b => intro _; exact .bool b
  | int k n => intro _; exact .int k n
  | float k n => intro _; exact .float k n
  | complex k n n' => intro _; exact .complex k n n'
  | string s => intro _; exact .string s
  | ptrN => intro _; exact .ptrN
  | ptr a a' ha => intro h; simp [sca] at h
  | slN c a' c' hc ha => intro _; exact .slN c a' c' hc ha
  | sl a a' n c c' i hs ha hi ht hle hc => intro h; simp [sca] at h
  | map => intro _; exact .map
  | chan => intro _; exact .chan
  | nilF => intro _; exact .nilF
  | func f f' x x' z z' hf hx hxs hz hzs ix iz => intro h; simp [sca] at h
  | iface t v v' r ih => intro h; exact .iface t v v' (ih (by simpa [sca] using h))
  | nilI => intro _; exact .nilI
  | agg x x' hx hxs ih => intro h; rw [sca] at h; exact .agg x x' hx (fun i a b => ih i a b (by have := scaL_get _ h i (by simpa using a); rwa [Array.getElem_toList] at this))
  | tup x x' hx hxs ih => intro h; rw [sca] at h; exact .tup x x' hx (fun i a b => ih i a b (by have := scaL_get _ h i (by simpa using a); rwa [Array.getElem_toList] at this))

theorem pack_rel {m : Mp} {vs vs' : List Value} (h : LsRel m vs vs') : VRel m (packA vs) (if h : vs'.toArray.size = 1 then vs'.toArray[0] else .tuple vs'.toArray) := by
  have hl := h.1
  match vs, vs', h with
  | [], [], h => simp [packA]; exact .any _
  | [v], [v'], h => simp [packA]; exact h.head
  | v :: u :: r, v' :: u' :: r', h =>
    have : ¬ (v' :: u' :: r').toArray.size = 1 := by simp
    rw [dif_neg this]
    exact VRel.tupL h
  | [v], [], h => simp at hl
  | [v], _ :: _ :: _, h => simp at hl
  | _ :: _ :: _, [], h => simp at hl
  | _ :: _ :: _, [_], h => simp at hl
  | [], _ :: _, h => simp at hl

theorem nl_pack {vs : List Value} (h : nlL vs = true) : nl (packA vs) = true := by
  match vs, h with
  | [], _ => rfl
  | [v], h => simpa [nlL, packA] using h
  | v :: u :: r, h => simpa [packA, nl] using h

/-- What a function owes when its frame goes: the marks are taken. -/
theorem marks_leave {F : Fence} {n : Nat} {fn : Func} {tmps : Array Value} {R : Ending → World → Prop} : ∀ (ds : List Nat) (w : World), ds.Nodup → (∀ D ∈ ds, w.heap[D]? = some (.deferred (some []))) →
    (∀ w', w'.os = w.os → w'.tape = w.tape → w'.output = w.output → w'.heap.size = w.heap.size → (∀ B, B ∉ ds → w'.heap[B]? = w.heap[B]?) → ∃ v, (results fn tmps).run P w' = .ok v w' ∧ R (.returned v) w') →
    LeavesInM F n P fn tmps R (ds.map (fun D => { target := .collected D, args := #[] })) .returning w
  | [], w, _, _, h => h w rfl rfl rfl rfl (fun _ _ => rfl)
  | D :: ds, w, hn, hD, h => by
    refine ⟨by simp, .inl ⟨D, w.putObj D (.deferred none), rfl, run_takeDeferred (hD D (by simp)), ?_⟩⟩
    obtain ⟨h1, h2⟩ := List.nodup_cons.1 hn
    refine marks_leave ds _ h2 (fun D' hD' => ?_) fun w' k1 k2 k3 k4 k5 => ?_
    · rw [World.putObj_heap_other (fun e => h1 (by rw [← e]; exact hD'))]; exact hD D' (by simp [hD'])
    · refine h w' k1 k2 k3 (by rw [k4]; simp) fun B hB => ?_
      simp only [List.mem_cons, not_or] at hB
      rw [k5 B hB.2, World.putObj_heap_other hB.1]

/-- A call of a function of the program. -/
theorem func_sound {n : Nat} {pf : PF} (ih : CSound P B0 (apA P pf n)) (hG : CGr (apA P pf n)) (hD : DSound P B0 (apA P pf n)) {f : FuncId} {first cap : Array Value} {vs : List Value} {lim : Nat} {H : AH} {v : Value} {H' : AH}
    (hor : orcA pf f first cap vs = none) (hcall : apA P pf (n + 1) (.func (.func f) first cap) vs lim H = some (v, H')) : nl v = true ∧ ∀ h o w, WRel P B0 (Mp0 h) o H w → (∀ B d g, o B ≠ .loc d g) → GRel P (Mp0 h) → ∀ fv', VRel (Mp0 h) (.func (.func f) first cap) fv' → ∀ vs', LsRel (Mp0 h) vs vs' → nlL vs = true →
    ∀ F : Fence, (∀ f, F.fn f) → F.depth = none → ∀ k, ∃ fn first cap, fv' = .func fn first cap ∧ ∃ nx, (invoke (.fn fn cap) (first ++ vs'.toArray)).run P w = .ok nx w ∧
      (∃ f args, nx = .enter f args ∧ CallsIn F k P f args w (CPost P B0 h o w v H')) := by
  simp only [apA, hor] at hcall
  split at hcall
  · cases hcall
  rename_i sf hsf
  split at hcall
  · cases hcall
  · rename_i e s hne hx
    split at hcall
    rotate_left
    · cases hcall
    rename_i us hus
    split at hcall
    rotate_left
    · cases hcall
    rename_i us' L2 H2 hgl
    simp only [Option.some.injEq, Prod.mk.injEq] at hcall
    obtain ⟨rfl, rfl⟩ := hcall
    unfold cFun at hsf
    split at hsf
    · cases hsf
    rename_i fn hfn
    split at hsf
    · cases hsf
    rename_i hname
    split at hsf
    · cases hsf
    rename_i c hbody
    split at hsf
    rotate_left
    · cases hsf
    rename_i b r hcc hcr
    cases hsf
    have hnl : nl (packA us') = true ∧ True := ⟨by
      exact nl_pack (globs_nl _ hgl), trivial⟩
    refine ⟨hnl.1, fun h o w hW hno hGR fv' hfv vs' hvs hn F hF hd k => ?_⟩
    cases hfv with
    | func _ f' _ first' _ cap' hf hx1 hxs1 hy1 hys1 =>
    cases hf
    refine ⟨_, first', cap', rfl, .enter f (first' ++ vs'.toArray ++ cap'), ?_, _, _, rfl, ?_⟩
    · simp [invoke, callFunc, hfn, hbody]
      simpa using hname
    · have key : CallsIn F.plain k P f (first' ++ vs'.toArray ++ cap') w (CPost P B0 h o w (packA us') (if (pf f && sca (packA us')) = true then H else H2)) := by
        refine callsIn_of_wp_marks hfn hbody (hF f) ?_ rfl
        have hargs : LsRel (Mp0 h) (first.toList ++ vs ++ cap.toList) (first'.toList ++ vs' ++ cap'.toList) := ((LsRel.of_array hx1 hxs1).append hvs).append (LsRel.of_array hy1 hys1)
        have hT := TRel.start hargs (fn.ntmps - (first' ++ vs'.toArray ++ cap').size)
        have etm : (first'.toList ++ vs' ++ cap'.toList).toArray = first' ++ vs'.toArray ++ cap' := by apply Array.ext'; simp
        rw [etm] at hT
        have r0 : SRel P B0 F.plain.round [] fn.ntmps (Mp0 h) o ⟨tsOf 0 (first.toList ++ vs ++ cap.toList), [], H, if pf f then H.length else lim, none⟩ { tmps := first' ++ vs'.toArray ++ cap' ++ Array.replicate (fn.ntmps - (first' ++ vs'.toArray ++ cap').size) undef, defers := [] } w := by
          refine ⟨hT, by simp; omega, ⟨hW, ?_, ?_⟩, hGR, ⟨rfl, List.nodup_nil, by simp⟩, trivial⟩
          · intro d g c hc; simp [lget] at hc
          · intro d g B hc; simp [Mp0] at hc
        refine wpIn_mono (exA_sound ih hD (F := F.plain) hF hd n n (Nat.le_refl _) b _ s e hx c hcc [] (Mp0 h) o _ w r0) fun ex a' w' hp => ?_
        obtain ⟨p1, m', o', ds', p2, p3, p4, p5⟩ := hp
        have fin : LeavesInM F.plain k P fn a'.tmps (CPost P B0 h o w (packA us') (if (pf f && sca (packA us')) = true then H else H2)) a'.defers .returning w' := by
          rw [p3.D.1]
          refine marks_leave ds' w' p3.D.2.1 (fun D hD => (p3.D.2.2 D hD).1) fun w2 q1 q2 q3 q4 q5 => ?_
          have hother : ∀ D ∈ ds', o' D = .other := fun D hD => (p3.D.2.2 D hD).2
          have hnb : ∀ D ∈ ds', w.heap.size ≤ D := fun D hD => by rcases p5 D hD with h | h; · exact h
                                                                  · simp at h
          have t2 : Tied P B0 m' o' s.L s.H w2 := by
            refine ⟨p3.tie.tH.keep rfl (fun _ _ _ h => h) (by omega) p3.tie.tH.base fun B hB ho => ⟨q5 B fun hD => ?_, rfl⟩, p3.tie.tL.keep (Mp.le_refl m') fun B d g hB ho => ⟨q5 B fun hD => ?_, rfl⟩, p3.tie.tF⟩
            · rcases ho with ho | ⟨b, ho⟩ | ⟨b, d, g, ho⟩
              · have := hnb B hD; have := hW.low; omega
              · rw [hother B hD] at ho; cases ho
              · rw [hother B hD] at ho; cases ho
            · rw [hother B hD] at ho; cases ho
          obtain ⟨us2, k1, k2⟩ := results_run p3.T t2 fn.results.toList hcr hus
          obtain ⟨m3, o3, c1, c2, c3, c4, c5, c6, c7⟩ := globs_sound t2.tH t2.tL t2.tF k2 hgl
          have hrun : (results fn a'.tmps).run P w2 = .ok (if h : us2.toArray.size = 1 then us2.toArray[0] else .tuple us2.toArray) w2 := by
            rw [results_eq, Sem.run_bind, run_mapM_arr k1]
            rfl
          refine ⟨_, hrun, _, rfl, ?_⟩
          have hv := pack_rel c2
          have hK : Keep o w (ownIn o3) w2 := by
            refine ⟨q1.trans p4.os, q2.trans p4.tape, q3.trans p4.output, by rw [q4]; exact p4.size, fun B hB ho => ?_⟩
            obtain ⟨u1, u2⟩ := p4.same B hB ho
            obtain ⟨u3, u4⟩ := c7.same B (by rw [q4]; exact Nat.lt_of_lt_of_le hB p4.size) u2
            refine ⟨(q5 B fun hD => ?_).trans u1, by simp [ownIn, u4, Ow.clean]⟩
            have := hnb B hD; omega
          have hh : ∀ b i, h b = some i → m3.h b = some i := fun b i e => c1.1 _ _ (p2.1 _ _ e)
          by_cases hps : (pf f && sca (packA us')) = true
          · rw [if_pos hps]
            simp only [Bool.and_eq_true] at hps
            have hgr : Gr H.length H H2 := by
              obtain ⟨g1, _, _⟩ := exA_Gr hG hx
              simp only [hps.1, if_true] at g1
              exact g1.trans (globs_Gr hgl _)
            refine ⟨h, ownIn o3, fun _ _ h => h, ?_, hW.back hh (c4.ownIn.relabel) hgr (by rw [q4]; exact p4.size), hK⟩
            exact sca_rel hv hps.2
          · rw [if_neg hps]
            exact ⟨m3.h, ownIn o3, hh, hv.nl_of hnl.1, c4.ownIn.relabel, hK⟩
        cases ex with
        | normal => exact fin
        | ret => exact fin
        | exit i =>
          cases e <;> simp only [exEq] at p1
          exact hne _ rfl
        | goto i => cases e <;> simp only [exEq] at p1
        | panic ch => cases e <;> simp only [exEq] at p1
        | outgrown => cases e <;> simp only [exEq] at p1
      exact key
  · cases hcall
end Go.Proofs.YthobfecblpnnnaaGreatDoor

/- A round of a loop over a function; all calls. -/
namespace Go.Proofs.YthobfecblpnnnaaGreatDoor
open Go Go.RowKit

variable {P : Program} {B0 : Nat}

theorem foldl_size : ∀ (l : List (Tmp × Value)) (tm : Array Value), (l.foldl (fun tmps (t, a) => tmps.setIfInBounds t a) tm).size = tm.size
  | [], tm => rfl
  | (x, v) :: l, tm => by rw [List.foldl_cons, foldl_size l]; simp

theorem TRel.params {m : Mp} : ∀ (ps : List Tmp) {vs vs' : List Value} (_ : LsRel m vs vs') {t : TS} {tm : Array Value} (_ : TRel m t tm) (_ : ∀ x ∈ ps, x < tm.size),
    TRel m ((ps.zip vs).reverse ++ t) ((ps.zip vs').foldl (fun tmps (t, a) => tmps.setIfInBounds t a) tm)
  | [], vs, vs', _, t, tm, r, _ => by simpa using r
  | x :: ps, [], vs', h, t, tm, r, _ => by
    have : vs' = [] := List.eq_nil_of_length_eq_zero h.1.symm
    subst this; simpa using r
  | x :: ps, v :: vs, [], h, t, tm, r, _ => by simp [LsRel] at h
  | x :: ps, v :: vs, v' :: vs', h, t, tm, r, hp => by
    have hx := hp x (by simp)
    have := TRel.params ps h.tail (t := (x, v) :: t) (tm := tm.setIfInBounds x v') (fun j => by
      simp only [tget_cons, Array.getD_eq_getD_getElem?, Array.getElem?_setIfInBounds]
      by_cases hj : j = x
      · subst hj; simp [hx]; exact h.head
      · rw [if_neg hj, if_neg (by omega)]
        have := r j
        simpa [Array.getD_eq_getD_getElem?] using this) (fun y hy => by simpa using hp y (by simp [hy]))
    simpa [List.zip_cons_cons, List.reverse_cons, List.append_assoc] using this

def exJump : Ex → Option Code
  | .normal => none
  | .exit id => some (.exit id)
  | .ret => some .ret

/-- The owners when a round has ended: the record holds the boxes again. -/
def ownRest (o : Nat → Ow) (b : Nat) : Nat → Ow := fun B => match o B with | .loc d g => .rcd b d g | .rcd b' d g => if b' = b then .other else .rcd b' d g | x => x

/-- A round of a loop over a function. -/
theorem round_sound {n : Nat} {pf : PF} (ih : CSound P B0 (apA P pf n)) (hD : DSound P B0 (apA P pf n)) {l : Nat} {first cap : Array Value} {vs : List Value} {lim : Nat} {H : AH} {v : Value} {H' : AH}
    (hcall : apA P pf (n + 1) (.func (.yield l) first cap) vs lim H = some (v, H')) : nl v = true ∧ ∀ h o w, WRel P B0 (Mp0 h) o H w → (∀ B d g, o B ≠ .loc d g) → GRel P (Mp0 h) → ∀ fv', VRel (Mp0 h) (.func (.yield l) first cap) fv' → ∀ vs', LsRel (Mp0 h) vs vs' → nlL vs = true →
    ∀ F : Fence, (∀ f, F.fn f) → F.depth = none → ∀ k, ∃ fn first cap, fv' = .func fn first cap ∧ ∃ nx, (invoke (.fn fn cap) (first ++ vs'.toArray)).run P w = .ok nx w ∧
      (∃ l f tmps asg body, (∃ l', fn = .yield l') ∧ nx = .round l f tmps asg body ∧ RoundIn F k P l f tmps asg body w (CPost P B0 h o w v H')) := by
  simp only [apA] at hcall
  split at hcall
  rotate_left
  · cases hcall
  rename_i r hr
  split at hcall
  rotate_left
  · cases hcall
  rename_i hg
  obtain ⟨g1, g2, g3, g4, g5⟩ := hg
  split at hcall
  rotate_left
  · cases hcall
  rename_i s ha
  split at hcall
  rotate_left
  · cases hcall
  rename_i r1 hr1
  split at hcall
  rotate_left
  · cases hcall
  rename_i hst1
  split at hcall
  rotate_left
  · cases hcall
  rename_i e s' hb
  split at hcall
  rotate_left
  · cases hcall
  rename_i r3 hr3
  simp only [Option.some.injEq, Prod.mk.injEq] at hcall
  obtain ⟨rfl, rfl⟩ := hcall
  refine ⟨rfl, fun h o w hW hno hGR fv' hfv vs' hvs hn F hF hd k => ?_⟩
  cases hfv with
  | func _ f' _ first' _ cap' hf hx1 hxs1 hy1 hys1 =>
  cases hf with
  | yield _ i hi =>
  have hi : h l = some i := hi
  obtain ⟨q1, q2, q3, lp, ml, nt, q4, q5, q6, q7, q8, q9, q10, q11, q12, q13, q14, q15, gh, q16, q17, q18, q19, q20, q21⟩ := hW.blk _ _ _ hi hr
  have hfs : first' = #[] := by
    have : first'.size = 0 := by omega
    exact Array.eq_empty_of_size_eq_zero this
  subst hfs
  have hready : lp.state = .ready := by
    rw [g2] at q5
    cases hs : lp.state <;> rw [hs] at q5 <;> simp [stRel] at q5 ⊢
  have hargs : vs'.toArray.size = lp.params.size := by
    have e1 := hvs.1
    have e2 : lp.params.size = r.ps.length := by rw [← q10]; simp
    simp; omega
  have hyield := run_yield (P := P) q4 hargs
  have hlt := lt_of_heap q4
  refine ⟨_, #[], cap', rfl, _, by show (Instr.yield i.blk (#[] ++ vs'.toArray)).run P w = _; rw [Array.empty_append]; exact hyield, i.blk, _, _, _, _, ⟨_, rfl⟩, rfl, roundIn_of_wpIn (hF _) ?_⟩
  have etm : (lp.params.zip vs'.toArray).foldl (fun tmps (t, a) => tmps.setIfInBounds t a) lp.tmps = (r.ps.zip vs').foldl (fun tmps (t, a) => tmps.setIfInBounds t a) lp.tmps := by
    rw [← Array.foldl_toList, Array.toList_zip, ← q10]
  have hml : Mp.le (Mp0 h) ⟨h, ml⟩ := ⟨fun _ _ h => h, fun _ _ _ h => by simp [Mp0] at h⟩
  have hsz : ∀ x ∈ r.ps, x < lp.tmps.size := fun x hx => Nat.lt_of_lt_of_le (q14 x hx) q13
  have hT := TRel.params r.ps (hvs.mono hml) q7 hsz
  rw [← etm] at hT
  have hsz2 : nt ≤ ((lp.params.zip vs'.toArray).foldl (fun tmps (t, a) => tmps.setIfInBounds t a) lp.tmps).size := by
    rw [etm, foldl_size]; exact q13
  generalize hzz : (lp.params.zip vs'.toArray).foldl (fun tmps (t, a) => tmps.setIfInBounds t a) lp.tmps = tm at hT hsz2
  -- the assignment
  have t0 : Tied P B0 ⟨h, ml⟩ (ownBack o l) r.L (H.set l (.loop { r with st := 4, L := [] })) w := by
    refine ⟨(hW.relabel (l' := ml)).turn rfl (fun _ _ _ h => h) hi _ (Nat.le_refl _) (fun B hB => ownBack_other (hW.base B hB)) ?_ ?_, ?_, q9 (.inl g2)⟩
    · intro B hB ho
      refine ⟨rfl, ?_⟩
      rcases ho with ho | ⟨b', h1, h2⟩ | ⟨b', d, g, h1, h2⟩
      · rw [ownBack_other (hW.base B ho), hW.base B ho]
      · rw [ownBack_heap h2, h2]
      · simp [ownBack, h2, h1]
    · refine ⟨q1, q2, ownBack_heap q3, lp, ml, nt, q4, by rw [hready]; exact .inr rfl, q6, q7, ?_, ?_, q10, q11, q12, q13, q14, q15, gh, q16, q17, q18, q19, q20, q21⟩
      · intro d g c hc; simp [lget] at hc
      · intro hh; simp at hh
    · intro d g c hc
      have := q8 d g c hc
      cases c with
      | cells vs =>
        obtain ⟨B, k1, k2, k3, k4⟩ := this
        exact ⟨B, k1, by simp [ownBack, k2], k3, k4⟩
      | fwd b => exact this
  have r0 : SRel P B0 (F.inRound i.blk).round [] nt ⟨h, ml⟩ (ownBack o l) ⟨(r.ps.zip vs).reverse ++ r.t, r.L, H.set l (.loop { r with st := 4, L := [] }), r.lim, some l⟩ { tmps := tm, defers := [] } w :=
    ⟨hT, hsz2, t0, fun g hg => hGR g hg, ⟨rfl, List.nodup_nil, by simp⟩, ⟨i, hi, rfl⟩⟩
  refine wpIn_mono (exA_sound ih hD (F := F.inRound i.blk) hF hd n n (Nat.le_refl _) r.asg _ s .normal ha lp.assign q11 [] _ _ _ w r0) fun ex a1 w1 hp => ?_
  obtain ⟨p1, m1, o1, ds1, p2, p3, p4, p5⟩ := hp
  cases ex <;> simp only [exEq] at p1
  simp only [Exit.then]
  -- the round begins
  have hi1 : m1.h l = some i := p2.1 _ _ hi
  obtain ⟨_, _, u3, lp1, _, _, u4, u5, u6, _, _, _, _, _, _, _, _, u15, gh1, u16, u17, u18, u19, u20, _⟩ := p3.tie.tH.blk _ _ _ hi1 hr1
  rw [q16] at u16; cases u16
  have hready1 : lp1.state = .ready := by
    rw [hst1] at u5
    cases hs : lp1.state <;> rw [hs] at u5 <;> simp [stRel] at u5 ⊢
  have hlt1 := lt_of_heap u4
  refine ⟨_, run_beginRound u4 hready1, ?_⟩
  have hm1 : Mp.le ⟨h, ml⟩ ⟨m1.h, ml⟩ := ⟨p2.1, fun _ _ _ h => h⟩
  have t2 : Tied P B0 m1 o1 s.L (s.H.set l (.loop { r with st := 1, pend := r1.pend, L := [] })) (w1.putObj i.blk (.loop { lp1 with state := .busy })) := by
    refine ⟨p3.tie.tH.turn rfl (fun _ _ _ h => h) hi1 _ (by simp) p3.tie.tH.base ?_ ?_, p3.tie.tL.keep (Mp.le_refl m1) ?_, p3.tie.tF⟩
    · intro B hB ho
      refine ⟨World.putObj_heap_other ?_, rfl⟩
      intro e; subst e
      rcases ho with h | ⟨b', h1, h2⟩ | ⟨b', d, g, h1, h2⟩
      · omega
      · rw [u3] at h2; cases h2; exact h1 rfl
      · rw [u3] at h2; cases h2
    · refine ⟨q1, q2, u3, { lp1 with state := .busy }, ml, nt, World.putObj_heap_same hlt1, rfl, ?_, ?_, ?_, ?_, ?_, ?_, ?_, ?_, q14, ?_, gh, q16, u17, u18, u19, u20, q21⟩
      · exact u6
      · simp only; rw [u17, ← q17]; exact q7.mono hm1
      · intro d g c hc; simp [lget] at hc
      · intro hh; simp at hh
      · simp only; rw [u18, ← q18]; exact q10
      · simp only; rw [u19, ← q19]; exact q11
      · simp only; rw [u20, ← q20]; exact q12
      · simp only; rw [u17, ← q17]; exact q13
      · exact u15
    · intro B d g hB ho
      refine ⟨World.putObj_heap_other ?_, rfl⟩
      intro e; subst e; rw [u3] at ho; cases ho
  have r2 : SRel P B0 (F.inRound i.blk).round ds1 nt m1 o1 { s with H := s.H.set l (.loop { r with st := 1, pend := r1.pend, L := [] }) } a1 (w1.putObj i.blk (.loop { lp1 with state := .busy })) := by
    refine ⟨p3.T, p3.sz, t2, p3.G, ⟨p3.D.1, p3.D.2.1, fun D hD => ?_⟩, p3.R⟩
    obtain ⟨k1, k2⟩ := p3.D.2.2 D hD
    exact ⟨(World.putObj_heap_other (fun e => by subst e; rw [u3] at k2; cases k2)).trans k1, k2⟩
  refine wpIn_mono (exA_sound ih hD (F := F.inRound i.blk) hF hd n n (Nat.le_refl _) r.body _ s' e hb lp.body q12 ds1 _ _ _ _ r2) fun ex a3 w3 hp => ?_
  obtain ⟨z1, m3, o3, ds3, z2, z3, z4, z5⟩ := hp
  have hi3 : m3.h l = some i := z2.1 _ _ hi1
  obtain ⟨_, _, y3, lp3, _, _, y4, _, _, _, _, _, _, _, _, _, _, _, gh3, y16, y17, y18, y19, y20, _⟩ := z3.tie.tH.blk _ _ _ hi3 hr3
  rw [q16] at y16; cases y16
  have hlt3 := lt_of_heap y4
  have fin : ∀ (j : Option Code), j = exJump e → CPost P B0 h o w (.bool (decide (e = .normal))) (s'.H.set l (.loop { r with st := if e = .normal then 0 else 2, pend := if e = .normal then none else some e, L := s'.L }))
      (.returned (.bool j.isNone)) (w3.putObj i.blk (.loop { lp3 with state := if j.isNone then .ready else .done, pending := j })) := by
    rintro j rfl
    refine ⟨_, rfl, m3.h, ownRest o3 l, fun b x hb => z2.1 _ _ (p2.1 _ _ hb), ?_, ?_, ?_⟩
    · cases e <;> exact .bool _
    · have : WRel P B0 m3 (ownRest o3 l) (s'.H.set l (.loop { r with st := if e = .normal then 0 else 2, pend := if e = .normal then none else some e, L := s'.L })) (w3.putObj i.blk (.loop { lp3 with state := if (exJump e).isNone then .ready else .done, pending := exJump e })) := by
        refine z3.tie.tH.turn rfl (fun _ _ _ h => h) hi3 _ (by simp) (fun B hB => by simp [ownRest, z3.tie.tH.base B hB]) ?_ ?_
        · intro B hB ho
          refine ⟨World.putObj_heap_other ?_, ?_⟩
          · intro e; subst e
            rcases ho with h | ⟨b', h1, h2⟩ | ⟨b', d, g, h1, h2⟩
            · omega
            · rw [y3] at h2; cases h2; exact h1 rfl
            · rw [y3] at h2; cases h2
          · rcases ho with h | ⟨b', h1, h2⟩ | ⟨b', d, g, h1, h2⟩
            · simp [ownRest, z3.tie.tH.base B h]
            · simp [ownRest, h2]
            · simp [ownRest, h2, h1]
        · refine ⟨q1, q2, by simp [ownRest, y3], _, m3.l, nt, World.putObj_heap_same hlt3, ?_, ?_, ?_, ?_, ?_, ?_, ?_, ?_, ?_, q14, ?_, gh, q16, y17, y18, y19, y20, ?_⟩
          · cases e
            · exact .inl rfl
            · rfl
            · rfl
          · cases e <;> rfl
          · simp only; rw [y17, ← q17]; exact q7.mono (Mp.le_trans p2 z2)
          · intro d g c hc
            have := z3.tie.tL d g c hc
            cases c with
            | cells vs =>
              obtain ⟨B, k1, k2, k3, arr, te, k4, k5⟩ := this
              have hne : B ≠ i.blk := fun e => by subst e; rw [y4] at k4; cases k4
              exact ⟨B, k1, by simp [ownRest, k2], k3, arr, te, (World.putObj_heap_other hne).trans k4, k5⟩
            | fwd b => exact this
          · exact fun _ => z3.tie.tF
          · simp only; rw [y18, ← q18]; exact q10
          · simp only; rw [y19, ← q19]; exact q11
          · simp only; rw [y20, ← q20]; exact q12
          · simp only; rw [y17, ← q17]; exact q13
          · cases e <;> simp
          · exact fun d g B hB => z2.2 _ _ _ (p2.2 _ _ _ (q21 d g B hB))
      exact this.relabel
    · refine ⟨z4.os.trans p4.os, z4.tape.trans p4.tape, z4.output.trans p4.output, ?_, fun B hB ho => ?_⟩
      · have := z4.size; have := p4.size; simp at *; omega
      · have hne : B ≠ i.blk := fun e => by subst e; rw [q3] at ho; cases ho
        obtain ⟨k1, k2⟩ := p4.same B hB (ownBack_other ho)
        obtain ⟨k3, k4⟩ := z4.same B (by have := p4.size; simp; omega) k2
        exact ⟨(World.putObj_heap_other hne).trans (k3.trans ((World.putObj_heap_other hne).trans k1)), by simp [ownRest, k4]⟩
  cases ex with
  | normal => cases e <;> simp only [exEq] at z1; exact ⟨_, _, run_endRound none y4, fin _ rfl⟩
  | ret => cases e <;> simp only [exEq] at z1; exact ⟨_, _, run_endRound (some .ret) y4, fin _ rfl⟩
  | exit j => cases e <;> simp only [exEq] at z1; subst z1; exact ⟨_, _, run_endRound (some (.exit _)) y4, fin _ rfl⟩
  | goto j => cases e <;> simp only [exEq] at z1
  | panic ch => cases e <;> simp only [exEq] at z1
  | outgrown => cases e <;> simp only [exEq] at z1

/-- What is said beforehand of calls is so. -/
def OrSound (P : Program) (B0 : Nat) (pf : PF) : Prop :=
  ∀ f vs v, pf.ans f vs = some v → nl v = true ∧ ∀ h o w H, WRel P B0 (Mp0 h) o H w → tabsOk pf.tabs H = true → (∀ B d g, o B ≠ .loc d g) → GRel P (Mp0 h) → ∀ vs', LsRel (Mp0 h) vs vs' → nlL vs = true →
    ∀ F : Fence, (∀ f, F.fn f) → F.depth = none → ∀ k, ∃ nx, (invoke (.fn (.func f) #[]) (#[] ++ vs'.toArray)).run P w = .ok nx w ∧ ∃ f args, nx = .enter f args ∧ CallsIn F k P f args w (CPost P B0 h o w v H)

theorem orSound_none (pure : FuncId → Bool) : OrSound P B0 ⟨pure, [], fun _ _ => none⟩ := fun _ _ _ h => by cases h

/-- **The abstract machine's calls are the model's**, given what it says of regions whose order is drawn. -/
theorem apA_sound (pf : PF) (hO : OrSound P B0 pf) (hD : ∀ C, CSound P B0 C → CGr C → DSound P B0 C) : ∀ n, CSound P B0 (apA P pf n)
  | 0 => fun fv vs lim H v H' h => by simp [apA] at h
  | n + 1 => fun fv vs lim H v H' h => by
    have ih := apA_sound pf hO hD n
    have hG := apA_Gr P pf n
    have hd := hD _ ih hG
    cases fv with
    | func fn first cap =>
      cases fn with
      | func f =>
        cases hor : orcA pf f first cap vs with
        | some v0 =>
          simp only [apA, hor] at h
          split at h
          · rename_i htab
            cases h
            unfold orcA at hor
            split at hor
            · rename_i hz
              obtain ⟨k1, k2⟩ := hO f vs v hor
              refine ⟨k1, fun h o w hW hno hGR fv' hfv vs' hvs hn F hF hdp k => ?_⟩
              cases hfv with
              | func _ f' _ first' _ cap' hf hx1 hxs1 hy1 hys1 =>
              cases hf
              have e1 : first' = #[] := Array.eq_empty_of_size_eq_zero (by omega)
              have e2 : cap' = #[] := Array.eq_empty_of_size_eq_zero (by omega)
              subst e1
              subst e2
              obtain ⟨nx, e3, e4⟩ := k2 h o w H hW htab hno hGR vs' hvs hn F hF hdp k
              exact ⟨_, #[], #[], rfl, nx, e3, .inl e4⟩
            · cases hor
          · cases h
        | none =>
          obtain ⟨k1, k2⟩ := func_sound ih hG hd hor h
          refine ⟨k1, fun h o w hW hno hGR fv' hfv vs' hvs hn F hF hdp k => ?_⟩
          obtain ⟨fn, fi, ca, e1, nx, e2, e3⟩ := k2 h o w hW hno hGR fv' hfv vs' hvs hn F hF hdp k
          exact ⟨fn, fi, ca, e1, nx, e2, .inl e3⟩
      | yield l =>
        obtain ⟨k1, k2⟩ := round_sound ih hd h
        refine ⟨k1, fun h o w hW hno hGR fv' hfv vs' hvs hn F hF hdp k => ?_⟩
        obtain ⟨fn, fi, ca, e1, nx, e2, e3⟩ := k2 h o w hW hno hGR fv' hfv vs' hvs hn F hF hdp k
        exact ⟨fn, fi, ca, e1, nx, e2, .inr e3⟩
      | _ => simp [apA] at h
    | _ => simp [apA] at h
end Go.Proofs.YthobfecblpnnnaaGreatDoor
