/- Operation by operation: append, copy, structs compared. -/
import Derived.Test.YtjejcbiilimjkaaDoorAbsI
namespace Go.Proofs.YtjejcbiilimjkaaDoor
open Go Go.RowKit

variable {P : Program} {B0 : Nat} {m : Mp} {o : Nat → Ow} {w : World} {s : St} {a : Act} {d : Option Tmp}

theorem run_append_zero (t ty e : TypeId) (i : TypeInfo) (ht : P.underlying t = some (.slice e)) (hi : P.info? e = some i) (p q : Option Addr) (n c c2 : Nat) (h : n ≤ c) :
    (Builtin.append_ #[t, t] ty #[.slice p n c, .slice q 0 c2]).run P w = .ok (.slice p n c) w := by
  cases p <;> cases q <;> simp [Builtin.append_, run_underlying ht, sizeOf, typeInfo, hi, Builtin.lenOf, h, Builtin.firstCells, loadCells, loadCellsFrom, storeCells]

theorem run_append_room' (t ty e te : TypeId) (i : TypeInfo) (ht : P.underlying t = some (.slice e)) (hi : P.info? e = some i)
    (g sLen sCap : Nat) (cur : Array Value) (hg : w.heap[g]? = some (.cells cur te (0, 0)))
    (a : Addr) (m c : Nat) (news : List Value) (hl : news.length = m * i.size) (hnews : ∀ j u, news[j]? = some u → w.cell? (a.add j) = some u) (h1 : ∀ u ∈ news, u.oneCell' = true)
    (hroom : sLen + m ≤ sCap) (hfit : sLen * i.size + news.length ≤ cur.size) :
    (Builtin.append_ #[t, t] ty #[.slice (some ⟨g, 0, none⟩) sLen sCap, .slice (some a) m c]).run P w =
      .ok (.slice (some ⟨g, 0, none⟩) (sLen + m) sCap) (w.setRow g (cur.toList.take (sLen * i.size) ++ news ++ cur.toList.drop (sLen * i.size + news.length)).toArray) := by
  have hf := run_firstCells_some (P := P) w i.size m a m c news hl hnews
  have hst := run_storeCells_at P g (sLen * i.size) te news 0 cur w hg (by simpa using hfit) h1
  simp only [Nat.add_zero] at hst
  simp [Builtin.append_, run_underlying ht, sizeOf, typeInfo, hi, Builtin.lenOf, hroom, hf, Addr.add_lit, hst]

theorem WRel.dead {H : AH} (h : WRel P B0 m o H w) (b : Nat) : WRel P B0 m o (H.set b .dead) w where
  dom b' i e := by rw [List.length_set]; exact h.dom b' i e
  base := h.base
  low := h.low
  blk b' i x e hx := by
    by_cases hb : b' = b
    · subst hb
      have hl := (h.dom b' i e).1
      rw [List.getElem?_set_self hl] at hx
      cases hx; trivial
    · rw [List.getElem?_set_ne (by omega)] at hx
      exact h.blk b' i x e hx

theorem grow_does {H : AH} {L : LS} (hH : WRel P B0 m o H w) (hL : LRel B0 m o .loc L w) (hF : LFresh m L) {t ty e : TypeId} {i : TypeInfo} {z : Value} (ht : P.underlying t = some (.slice e)) (hi : P.info? e = some i) (hz : i.zero = some z) (hzs : z.cells.size = i.size) (h0 : 0 < i.size) (hby : i.bytes ≤ 2 ^ 16)
    {a' : Option Addr} {n c' k : Nat} {b' : Addr} {c2 : Nat} {old new old' new' : List Value} (hn0 : 0 < k) (hmax : n + k ≤ 2 ^ 30) (hlt : c' < n + k) (hn : n ≤ c') (hnil : a' = none → n = 0 ∧ c' = 0)
    (ro : LsRel m old old') (rn : LsRel m new new') (lo : old.length = n * i.size) (ln : new.length = k * i.size) (no : nlL old = true) (nn : nlL new = true)
    (ho : ∀ q, a' = some q → ∀ j v, old'[j]? = some v → w.cell? (q.add j) = some v) (hnw : ∀ j v, new'[j]? = some v → w.cell? (b'.add j) = some v) :
    ∃ v' w', (Builtin.append_ #[t, t] ty #[.slice a' n c', .slice (some b') k c2]).run P w = .ok v' w' ∧ Eff P B0 m o w (.slice (some ⟨H.length, 0, none⟩) (n + k) (n + k + 1)) L (H ++ [.rw i.size (old ++ new)]) v' w' := by
  have hlo : old'.length = n * i.size := by rw [← ro.1]; exact lo
  have hln : new'.length = k * i.size := by rw [← rn.1]; exact ln
  have fits : Builtin.nextslicecap (n + k) c' * i.bytes ≤ 281474976710656 := by
    refine growslice_fits hlt ?_
    have : (n + k) * i.bytes ≤ 1073741824 * 65536 := Nat.mul_le_mul (by omega) (by omega)
    omega
  have fin : ∀ (cap : Nat), n + k ≤ cap → Eff P B0 m o w (.slice (some ⟨H.length, 0, none⟩) (n + k) (n + k + 1)) L (H ++ [.rw i.size (old ++ new)]) (.slice (some ⟨w.heap.size, 0, none⟩) (n + k) cap)
      (w.drew.alloc (.cells (old'.toArray ++ new'.toArray ++ Builtin.zeroCells z.cells (cap - (n + k))) e)) := fun cap hcap => by
    have hlen : (old ++ new).length = (n + k) * i.size := by rw [List.length_append, lo, ln, Nat.add_mul]
    have hlen' : (old' ++ new').length = (n + k) * i.size := by rw [List.length_append, hlo, hln, Nat.add_mul]
    have hsz : (old'.toArray ++ new'.toArray ++ Builtin.zeroCells z.cells (cap - (n + k))).size = cap * i.size := by
      simp only [Array.size_append, List.size_toArray, zerosCells, hzs, hlo, hln, ← Nat.add_mul]
      congr 1; omega
    obtain ⟨m', o', hm', k1, k2, k3, k4⟩ := hH.push hL (w2 := w.drew.alloc (.cells (old'.toArray ++ new'.toArray ++ Builtin.zeroCells z.cells (cap - (n + k))) e)) rfl rfl rfl _ e rfl i.size (old ++ new) (by rw [nlL_append, no, nn]; rfl) (by rw [hlen, hsz]; exact Nat.mul_le_mul_right _ hcap) (by
        rw [hlen]
        have : (old'.toArray ++ new'.toArray ++ Builtin.zeroCells z.cells (cap - (n + k))).toList.take ((n + k) * i.size) = old' ++ new' := by
          simp only [Array.toList_append]
          rw [← hlen']
          exact List.take_left
        rw [this]
        exact ro.append rn)
    have hb : m'.h H.length = some ⟨w.heap.size, 0, i.size, cap * i.size, none⟩ := by rw [hm']; simp only [if_true]; rw [hsz]
    refine ⟨m', o', k1, .sl _ _ _ _ _ _ rfl ⟨rfl, _, hb, rfl, rfl⟩ hb (fun _ => by simp) hcap (fun e => by omega), k3, hF.same_l (by rw [hm']), k2, k4⟩
  cases a' with
  | none =>
    obtain ⟨rfl, rfl⟩ := hnil rfl
    have : old' = [] := List.eq_nil_of_length_eq_zero (by simpa using hlo)
    subst this
    have hr := run_append_nil (P := P) w t ty e i z ht hi hz b' k c2 new' hln hnw hn0 (by omega) (by have := fits; rw [Nat.zero_add, nextslicecap_zero hn0] at this; exact this)
    refine ⟨_, _, hr, ?_⟩
    have := fin (grownCap w k 0 e) (by have := grownCap_ge w k 0 e; omega)
    simpa using this
  | some q =>
    have hr := run_append_grow (P := P) w t ty e i z ht hi hz q n c' old' hlo (ho q rfl) b' k c2 new' hln hnw hlt (by omega) fits
    exact ⟨_, _, hr, fin _ (grownCap_ge w (n + k) c' e)⟩

theorem eqsA_cons {l r : List Value} {e : Bool} (h : eqsA l r = some e) : (l = [] ∧ r = [] ∧ e = true) ∨ ∃ k p q l' r' c, l = .int k p :: l' ∧ r = .int k q :: r' ∧ eqsA l' r' = some c ∧ e = (p == q && c) := by
  unfold eqsA at h
  split at h
  · cases h; exact .inl ⟨rfl, rfl, rfl⟩
  · split at h
    · rename_i hk; subst hk
      split at h
      · rename_i c hc; cases h; exact .inr ⟨_, _, _, _, _, c, rfl, rfl, hc, rfl⟩
      · cases h
    · cases h
  · cases h

theorem eqsA_ints : ∀ (l l' r r' : List Value) (e : Bool), eqsA l r = some e → LsRel m l l' → LsRel m r r' → l' = l ∧ r' = r
  | [], l', r, r', e, h, h1, h2 => by
    rcases eqsA_cons h with ⟨_, rfl, _⟩ | ⟨_, _, _, _, _, _, h0, _⟩
    · exact ⟨List.eq_nil_of_length_eq_zero (by have := h1.1; simpa using this.symm), List.eq_nil_of_length_eq_zero (by have := h2.1; simpa using this.symm)⟩
    · cases h0
  | u :: l, l', r, r', e, h, h1, h2 => by
    rcases eqsA_cons h with ⟨h0, _⟩ | ⟨k, p, q, l2, r2, c, h0, rfl, hc, _⟩
    · cases h0
    · cases h0
      cases l' with
      | nil => simp [LsRel] at h1
      | cons v l' =>
        cases r' with
        | nil => simp [LsRel] at h2
        | cons v' r' =>
          have a1 := h1.head
          have a2 := h2.head
          obtain ⟨b1, b2⟩ := eqsA_ints _ _ _ _ _ hc h1.tail h2.tail
          cases a1
          cases a2
          exact ⟨by rw [b1], by rw [b2]⟩

theorem eqFields_ints (dd : Nat) (xs ys : Array Value) : ∀ (fs : List Field) (k : Nat) (e : Bool), (fs.zipIdx k).all (fun (f, j) => intT P f.type && f.offset == j && f.name != "_") = true → (xs.toList.drop k).length = fs.length → eqsA (xs.toList.drop k) (ys.toList.drop k) = some e →
    (Op.eqFields (dd + 1) xs ys fs).run P w = .ok e w
  | [], k, e, _, hl, h => by
    rcases eqsA_cons h with ⟨_, _, rfl⟩ | ⟨_, _, _, _, _, _, h0, _⟩
    · simp [Op.eqFields]
    · rw [h0] at hl; simp at hl
  | f :: fs, k, e, hf, hl, h => by
    simp only [List.zipIdx_cons, List.all_cons, Bool.and_eq_true, beq_iff_eq, bne_iff_ne] at hf
    obtain ⟨⟨⟨h1, h2⟩, h3⟩, h4⟩ := hf
    rcases eqsA_cons h with ⟨h0, _⟩ | ⟨kk, x, y, r, r', c, ex, ey, hc, rfl⟩
    · rw [h0] at hl; simp at hl
    · have gx : xs[k]? = some (.int kk x) := by
        have : (xs.toList.drop k)[0]? = some (.int kk x) := by rw [ex]; rfl
        rw [List.getElem?_drop] at this; simpa using this
      have gy : ys[k]? = some (.int kk y) := by
        have : (ys.toList.drop k)[0]? = some (.int kk y) := by rw [ey]; rfl
        rw [List.getElem?_drop] at this; simpa using this
      have dx : xs.toList.drop (k + 1) = r := by
        have := congrArg List.tail ex
        simpa [List.tail_drop] using this
      have dy : ys.toList.drop (k + 1) = r' := by
        have := congrArg List.tail ey
        simpa [List.tail_drop] using this
      unfold intT at h1
      split at h1
      · rename_i ki hu
        have ha : (isAgg f.type).run P w = .ok false w := by simp [isAgg, run_underlying hu]
        have px : (part f.type xs f.offset).run P w = .ok (.int kk x) w := by simp [part, ha, h2, gx]
        have py : (part f.type ys f.offset).run P w = .ok (.int kk y) w := by simp [part, ha, h2, gy]
        have ih := eqFields_ints dd xs ys fs (k + 1) c h4 (by rw [dx]; rw [ex] at hl; simpa using hl) (by rw [dx, dy]; exact hc)
        simp only [Op.eqFields, if_pos h3, Sem.run_bind, px, py, Result.andThen_ok, run_equalIn_int w dd f.type kk ki x y hu]
        by_cases hxy : (x == y) = true
        · rw [hxy]; simpa using ih
        · simp only [Bool.not_eq_true] at hxy
          rw [hxy]; simp
      · cases h1

section
variable (t : Tied P B0 m o s.L s.H w) {oper : Oper} {v : Value} {L' : LS} {H' : AH}
include t

theorem do_app {x y : Operand} {ty e : TypeId} {i : TypeInfo} {z : Value} {c : Call} (hop : oper.op = .call c) (hcal : c.callee = .builtin .append) (hargs : c.args = #[x, y]) (htys : c.argTypes = #[ty, ty]) (hu : P.underlying ty = some (.slice e)) (hi : P.info? e = some i) (hz : i.zero = some z)
    (hx : VRel m (s.ev x) (a.eval x)) (hy : VRel m (s.ev y) (a.eval y)) (h : popA s (.app i.size i.bytes z.cells.toList x y) d = some (v, L', H')) : Does P B0 m o w a oper v L' H' := by
  obtain ⟨cal, cargs, cty⟩ := c
  simp only at hcal hargs htys
  subst hcal; subst hargs; subst htys
  have wrap : ∀ {u : Value} {LL : LS} {HH : AH} {v' : Value} {w' : World}, (Builtin.append_ #[ty, ty] oper.type #[a.eval x, a.eval y]).run P w = .ok v' w' → Eff P B0 m o w u LL HH v' w' → Does P B0 m o w a oper u LL HH := by
    intro u LL HH v' w' h1 h2
    refine ⟨.value v', w', ?_, .inl ⟨v', rfl, h2⟩⟩
    simp [execOp, hop, resolve, invoke, Go.builtin, h1]
  simp only [popA] at h
  split at h
  · rename_i p n c q k c2 hp hq
    rw [hp] at hx
    rw [hq] at hy
    generalize he : a.eval x = zx at hx wrap
    generalize hg : a.eval y = zy at hy wrap
    have hform : ∃ a' c', zx = .slice a' n c' ∧ n ≤ c' ∧ (c = n → c' = n) ∧ (a' = none → n = 0 ∧ c' = 0) := by
      cases hx with
      | slN _ a' c' hc ha => exact ⟨a', c', rfl, Nat.zero_le _, fun h => hc h, fun e => ⟨rfl, by
          rcases Nat.eq_zero_or_pos c' with h | h
          · exact h
          · have := ha (by omega); rw [e] at this; cases this⟩⟩
      | sl q q' _ _ c' i hs hr hi ht hn hc => exact ⟨_, c', rfl, hn, hc, fun e => by cases e⟩
    obtain ⟨a', c', rfl, hn, hce, hnil⟩ := hform
    split at h
    · rename_i hk0
      subst hk0
      simp only [Option.some.injEq, Prod.mk.injEq] at h
      obtain ⟨rfl, rfl, rfl⟩ := h
      have hform2 : ∃ b' c3, zy = .slice b' 0 c3 := by
        cases hy with
        | slN _ a' c' hc ha => exact ⟨a', c', rfl⟩
        | sl q q' _ _ c' i hs hr hi ht hn hc => exact ⟨_, c', rfl⟩
      obtain ⟨b', c3, rfl⟩ := hform2
      exact wrap (run_append_zero ty oper.type e i hu hi a' b' n c' c3 hn) (Eff.pure t.tL t.tF t.tH hx)
    · rename_i hk0
      split at h
      · rename_i hc
        obtain ⟨c1, c3, c4, c5⟩ := hc
        have hmx : maxA = 2 ^ 30 := rfl
        rw [hmx] at c5
        simp only [Array.length_toList] at c1
        split at h
        · rename_i old new ho hnw
          split at h
          · cases h
          rename_i hnn
          have n1 : new.all oneC = true := by by_cases e : new.all oneC = true; · exact e
                                              · exact absurd (.inl (by simpa using e)) hnn
          have n2 : nlL new = true := by by_cases e : nlL new = true; · exact e
                                         · exact absurd (.inr (.inl (by simpa using e))) hnn
          have n3 : nlL old = true := by by_cases e : nlL old = true; · exact e
                                         · exact absurd (.inr (.inr (by simpa using e))) hnn
          cases hy with
          | slN => omega
          | sl b b' _ _ c2' ib hbs hbr hbi hbt hbn hbc =>
          obtain ⟨ln, new', rn, hnw'⟩ := cellsAt_sound t.tL t.tH hbr (by simpa using hnw)
          have hold : old.length = n * i.size ∧ ∃ old', LsRel m old old' ∧ ∀ q, a' = some q → ∀ j v, old'[j]? = some v → w.cell? (q.add j) = some v := by
            split at ho
            · rename_i hn0
              subst hn0
              cases ho
              exact ⟨by simp, [], LsRel.nil m, by simp⟩
            · rename_i hn0
              cases hx with
              | slN => omega
              | sl q q' _ _ _ i hs hr hi ht hn hc =>
                obtain ⟨k1, vs', k2, k3⟩ := cellsAt_sound t.tL t.tH hr (by simpa using ho)
                exact ⟨k1, vs', k2, fun q e => by cases e; exact k3⟩
          obtain ⟨lo, old', ro, ho'⟩ := hold
          split at h
          · rename_i hcn
            simp only [Option.some.injEq, Prod.mk.injEq] at h
            obtain ⟨rfl, rfl, rfl⟩ := h
            obtain ⟨v', w', k1, k2⟩ := grow_does t.tH t.tL t.tF (ty := oper.type) (c2 := c2') hu hi hz c1 c3 c4 (by omega) c5 (by have := hce hcn; omega) hn hnil ro rn lo ln n3 n2 ho' hnw'
            exact wrap k1 k2
          · rename_i hcn
            split at h
            · cases h
            · rename_i q
              split at h
              · rename_i e' vs hqs hqb
                split at h
                · rename_i hcc
                  obtain ⟨d1, rfl, d3, d4⟩ := hcc
                  simp only [Option.some.injEq, Prod.mk.injEq] at h
                  obtain ⟨rfl, rfl, rfl⟩ := h
                  cases hx with
                  | sl _ q' _ _ _ iq hs hr hiq ht hn' hc' =>
                  obtain ⟨k1, k2, k3, k4, k5, arr, te, k6, k7, k8, k9⟩ := t.tH.blk _ _ _ hiq hqb
                  obtain ⟨r1, r2⟩ := hr
                  rw [hs] at r2
                  obtain ⟨iq2, r3, r4, r5⟩ := r2
                  rw [hiq] at r3; cases r3
                  have hq' : q' = ⟨iq.blk, 0, none⟩ := by
                    obtain ⟨b1, o1, s1⟩ := q'
                    simp only at r1 r4 r5
                    simp [r1, r4, r5, k1, d3]
                  subst hq'
                  by_cases hroom : n + k ≤ c'
                  · have ht' := ht (by rw [k2]; omega)
                    simp only [Nat.zero_add, k2, ← k7] at ht'
                    have hln : new'.length = k * i.size := by rw [← rn.1]; exact ln
                    have hfit : n * i.size + new'.length ≤ arr.size := by
                      rw [hln, ← Nat.add_mul]; exact Nat.le_trans (Nat.mul_le_mul_right _ hroom) ht'
                    have hrun := run_append_room' (P := P) (w := w) ty oper.type e te i hu hi iq.blk n c' arr k6 b' k c2' new' hln hnw' (rn.all_oneC n1) hroom hfit
                    refine wrap hrun ?_
                    have hold2 : old' = arr.toList.take (n * i.size) := by
                      apply List.ext_getElem?
                      intro j
                      have hlo' := ro.1
                      rw [List.getElem?_take]
                      by_cases hj : j < n * i.size
                      · rw [if_pos hj]
                        have hj' : j < old'.length := by omega
                        have := ho' _ rfl j old'[j] (List.getElem?_eq_getElem hj')
                        rw [add_eq, Nat.zero_add] at this
                        rw [List.getElem?_eq_getElem hj', ← this]
                        simp [World.cell?, k6]
                      · rw [if_neg hj, List.getElem?_eq_none (by omega)]
                    have hd : m.h s.H.length = none := by
                      cases hx : m.h s.H.length with
                      | none => rfl
                      | some i => exact absurd (t.tH.dom _ _ hx).1 (Nat.lt_irrefl _)
                    have hm : m.le ⟨fun b => if b = s.H.length then some ⟨iq.blk, 0, i.size, arr.size, none⟩ else m.h b, m.l⟩ := by
                      refine ⟨fun b i h => ?_, fun _ _ _ h => h⟩
                      by_cases hb : b = s.H.length
                      · subst hb; rw [hd] at h; cases h
                      · simpa [hb] using h
                    have hlt := lt_of_heap k6
                    have hqlt := (t.tH.dom _ _ hiq).1
                    have hsame : ∀ B, B ≠ iq.blk → (w.setRow iq.blk (arr.toList.take (n * i.size) ++ new' ++ arr.toList.drop (n * i.size + new'.length)).toArray).heap[B]? = w.heap[B]? := fun B hB => setRow_other w iq.blk B _ hB
                    refine ⟨_, fun B => if B = iq.blk then .heap s.H.length else o B, hm, ?_, ?_, ?_, ?_, ?_⟩
                    · refine .sl _ _ _ _ _ ⟨iq.blk, 0, i.size, arr.size, none⟩ rfl ⟨rfl, ⟨iq.blk, 0, i.size, arr.size, none⟩, by simp, rfl, rfl⟩ (by simp) (fun _ => by simpa using ht') hroom (fun e => by omega)
                    · exact t.tL.keep hm fun B dd g hB ho => by
                        have hne : B ≠ iq.blk := fun e => by subst e; rw [k4] at ho; cases ho
                        exact ⟨hsame B hne, by simp [hne]⟩
                    · exact t.tF.same_l rfl
                    · refine ⟨fun b i' h => ?_, fun B hB => ?_, by simpa using t.tH.low, fun b i' x h hx => ?_⟩
                      · by_cases hb : b = s.H.length
                        · subst hb; simp at h; subst h; simp; exact hlt
                        · simp [hb] at h; have := t.tH.dom b i' h; simp; omega
                      · have : B ≠ iq.blk := by omega
                        simp [this]; exact t.tH.base B hB
                      · by_cases hb : b = s.H.length
                        · subst hb
                          simp at h; subst h
                          simp at hx; subst hx
                          have hll : (old ++ new).length = n * i.size + new'.length := by rw [List.length_append, lo, rn.1]
                          have hmin : min (n * i.size) arr.size = n * i.size := by omega
                          refine ⟨rfl, rfl, k3, by simp, by rw [nlL_append, n3, n2]; rfl, _, te, setRow_heap w iq.blk arr _ te _ k6, ?_, ?_, ?_⟩
                          · simp; omega
                          · rw [hll]; simp; omega
                          · have e1 : (arr.toList.take (n * i.size) ++ new' ++ arr.toList.drop (n * i.size + new'.length)).toArray.toList.take (old ++ new).length = old' ++ new' := by
                              rw [hold2]
                              simp only []
                              rw [show (old ++ new).length = (arr.toList.take (n * i.size) ++ new').length by rw [hll]; simp; omega]
                              exact List.take_left
                            rw [e1]
                            exact ((ro.append rn).mono hm)
                        · simp [hb] at h
                          have hl := (t.tH.dom b i' h).1
                          rw [List.getElem?_append_left (by simpa using hl)] at hx
                          by_cases hbq : b = q.block
                          · subst hbq
                            rw [List.getElem?_set_self hl] at hx
                            cases hx; trivial
                          · rw [List.getElem?_set_ne (by omega)] at hx
                            refine (t.tH.blk b i' x h hx).keep hm fun B hB ho => ?_
                            have hne : B ≠ iq.blk := by
                              intro e; subst e
                              rcases ho with ho | ho | ⟨d, g, ho⟩
                              · omega
                              · rw [k4] at ho; cases ho; exact hbq rfl
                              · rw [k4] at ho; cases ho
                            exact ⟨hsame B hne, by simp [hne]⟩
                    · exact ⟨rfl, rfl, rfl, by simp, fun B hB ho => by
                        have hne : B ≠ iq.blk := fun e => by subst e; rw [k4] at ho; cases ho
                        exact ⟨hsame B hne, by simp [hne]; exact ho⟩⟩
                  · obtain ⟨v', w', k1', k2'⟩ := grow_does (t.tH.dead q.block) t.tL t.tF (ty := oper.type) (c2 := c2') hu hi hz c1 c3 c4 (by omega) c5 (by omega) hn hnil ro rn lo ln n3 n2 ho' hnw'
                    rw [List.length_set] at k2'
                    exact wrap k1' k2'
                · cases h
              · cases h
        · cases h
      · cases h
  · cases h

theorem do_eqs {neg : Bool} {x y : Operand} {ty ty' : TypeId} {fs : Array Field} {n : Nat} (hop : oper.op = .binOp (if neg then .neq else .eql) ty x y ty') (hu : P.underlying ty = some (.struct fs)) (hn : n = fs.size)
    (hf : (fs.toList.zipIdx.all fun (f, k) => intT P f.type && f.offset == k && f.name != "_") = true) (hs : P.stoodInHeld ty = false) (hg : P.eqGuardType P.depth ty = false)
    (hx : VRel m (s.ev x) (a.eval x)) (hy : VRel m (s.ev y) (a.eval y)) (h : popA s (.eqs neg n x y) d = some (v, L', H')) : Does P B0 m o w a oper v L' H' := by
  simp only [popA] at h
  split at h
  · rename_i p q hp hq
    rw [hp] at hx
    rw [hq] at hy
    split at h
    · rename_i hsz
      simp only [Option.bind_eq_some_iff, Option.some.injEq, Prod.mk.injEq] at h
      obtain ⟨e, he, rfl, rfl, rfl⟩ := h
      generalize ez : a.eval x = z at hx
      generalize ez' : a.eval y = z' at hy
      cases hx with
      | agg _ x' hxs hxr =>
      cases hy with
      | agg _ y' hys hyr =>
      obtain ⟨e1, e2⟩ := eqsA_ints _ _ _ _ _ he (LsRel.of_array hxs hxr) (LsRel.of_array hys hyr)
      have e1 : x' = p := Array.toList_inj.1 e1
      have e2 : y' = q := Array.toList_inj.1 e2
      subst e1; subst e2
      have hfo : P.fieldsOf ty = fs := by simp [Program.fieldsOf, hu]
      have hrun : (Op.equalIn 10000 ty (.agg x') (.agg y')).run P w = .ok e w := by
        rw [run_equalIn_struct w 9999 ty x' y' (by rw [hfo]; exact hu) hs, hfo]
        exact eqFields_ints 9998 x' y' fs.toList 0 e hf (by subst hn; simpa using hsz) (by simpa using he)
      refine t.pure ?_ (.bool _)
      cases neg
      · simp only [execOp, hop, ez, ez', Bool.false_eq_true, if_false]
        rw [Sem.run_bind, Sem.run_bind, run_eqGuard_agg w _ ty x y x' y' hg]
        simp only [Result.andThen_ok]
        rw [run_eql_struct, hrun]
        rfl
      · simp only [execOp, hop, ez, ez', if_true]
        rw [Sem.run_bind, Sem.run_bind, run_eqGuard_agg w _ ty x y x' y' hg]
        simp only [Result.andThen_ok]
        rw [run_neq_struct, hrun]
        rfl
    · cases h
  · cases h

theorem do_copy {x y : Operand} {ty ty' e : TypeId} {i : TypeInfo} {c : Call} (hop : oper.op = .call c) (hcal : c.callee = .builtin .copy) (hargs : c.args = #[x, y]) (htys : c.argTypes = #[ty, ty']) (hu : P.underlying ty = some (.slice e)) (hi : P.info? e = some i)
    (hx : VRel m (s.ev x) (a.eval x)) (hy : VRel m (s.ev y) (a.eval y)) (h : popA s (.copy i.size x y) d = some (v, L', H')) : Does P B0 m o w a oper v L' H' := by
  obtain ⟨cal, cargs, cty⟩ := c
  simp only at hcal hargs htys
  subst hcal; subst hargs; subst htys
  have wrap : ∀ {u : Value} {LL : LS} {HH : AH} {v' : Value} {w' : World}, (Builtin.copy_ #[ty, ty'] oper.type #[a.eval x, a.eval y]).run P w = .ok v' w' → Eff P B0 m o w u LL HH v' w' → Does P B0 m o w a oper u LL HH := by
    intro u LL HH v' w' h1 h2
    refine ⟨.value v', w', ?_, .inl ⟨v', rfl, h2⟩⟩
    simp [execOp, hop, resolve, invoke, Go.builtin, h1]
  simp only [popA] at h
  split at h
  · rename_i p n c q k c2 hp hq
    rw [hp] at hx
    rw [hq] at hy
    generalize he : a.eval x = zx at hx wrap
    generalize hg : a.eval y = zy at hy wrap
    split at h
    · rename_i h0
      simp only [Option.some.injEq, Prod.mk.injEq] at h
      obtain ⟨rfl, rfl, rfl⟩ := h
      have f1 : ∃ a' c', zx = .slice a' n c' := by cases hx with | slN _ a' c' => exact ⟨_, _, rfl⟩ | sl => exact ⟨_, _, rfl⟩
      have f2 : ∃ a' c', zy = .slice a' k c' := by cases hy with | slN _ a' c' => exact ⟨_, _, rfl⟩ | sl => exact ⟨_, _, rfl⟩
      obtain ⟨a1, c1, rfl⟩ := f1
      obtain ⟨a2, c2', rfl⟩ := f2
      refine wrap (v' := .int .i64 0) (w' := w) ?_ (Eff.pure t.tL t.tF t.tH (.int _ _))
      have h0' : Nat.min k n = 0 := h0
      cases a1 <;> cases a2 <;> simp [Builtin.copy_, run_underlying hu, sizeOf, typeInfo, hi, Builtin.lenOf, h0', Builtin.firstCells, loadCells, loadCellsFrom, storeCells, goInt]
    · rename_i h0
      split at h
      · rename_i p' vs hvs
        split at h
        · rename_i hps
          obtain ⟨hps, hone⟩ := hps
          simp only [Option.map_eq_some_iff, Prod.mk.injEq] at h
          obtain ⟨H2, h2, rfl, rfl, rfl⟩ := h
          cases hx with
          | sl _ a' _ _ c' ia hsa hra hia hta hna hca =>
          cases hy with
          | slN => simp at h0
          | sl q q' _ _ c2' iq hsq hrq hiq htq hnq hcq =>
          obtain ⟨lv, vs', rv, hv'⟩ := cellsAt_sound t.tL t.tH hrq (by simpa using hvs)
          obtain ⟨r1, r2⟩ := hra
          rw [hsa] at r2
          obtain ⟨ia2, r3, r4, r5⟩ := r2
          rw [hia] at r3; cases r3
          obtain ⟨w', k1, k2, k3, k4⟩ := hstore_sound (P := P) t.tH t.tL hia h2 rv hone
          have ha' : a' = ⟨ia.blk, ia.off + p'.off, none⟩ := by
            obtain ⟨b1, o1, s1⟩ := a'
            simp only at r1 r4 r5
            simp [r1, r4, r5]
          subst ha'
          refine wrap (v' := .int .i64 (min k n : Nat)) (w' := w') ?_ ⟨m, o, Mp.le_refl m, .int _ _, k3, t.tF, k2, k4⟩
          have hmin : Nat.min k n = min k n := rfl
          have hlv : vs'.length = min k n * i.size := by rw [← rv.1]; exact lv
          have hf := run_firstCells_some (P := P) w i.size (min k n) q' k c2' vs' hlv hv'
          simp [Builtin.copy_, run_underlying hu, sizeOf, typeInfo, hi, Builtin.lenOf, hmin, hf, k1, goInt]
        · cases h
      · cases h
  · cases h
end
end Go.Proofs.YtjejcbiilimjkaaDoor
