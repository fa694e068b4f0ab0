/- Operation by operation: what the abstract machine yields, the model yields. -/
import Derived.Test.YtjejcbiilimjkaaDoorAbsE
namespace Go.Proofs.YtjejcbiilimjkaaDoor
open Go Go.RowKit

variable {P : Program} {B0 : Nat} {m : Mp} {o : Nat → Ow} {w : World} {s : St} {a : Act} {d : Option Tmp}

/-- The operation o yields, over the world w, what 'v', L', H' stand for. -/
def Does (P : Program) (B0 : Nat) (m : Mp) (o : Nat → Ow) (w : World) (a : Act) (oper : Oper) (v : Value) (L' : LS) (H' : AH) : Prop :=
  ∃ nxt w', (execOp a.eval oper).run P w = .ok nxt w' ∧ ((∃ v', nxt = .value v' ∧ Eff P B0 m o w v L' H' v' w') ∨ (nxt = .skip ∧ Eff P B0 m o w v L' H' undef w'))

structure Tied (P : Program) (B0 : Nat) (m : Mp) (o : Nat → Ow) (L : LS) (H : AH) (w : World) : Prop where
  tH : WRel P B0 m o H w
  tL : LRel B0 m o .loc L w
  tF : LFresh m L

theorem Tied.pure (t : Tied P B0 m o s.L s.H w) {oper : Oper} {v v' : Value} (hr : (execOp a.eval oper).run P w = .ok (.value v') w) (h : VRel m v v') : Does P B0 m o w a oper v s.L s.H :=
  ⟨_, _, hr, .inl ⟨v', rfl, Eff.pure t.tL t.tF t.tH h⟩⟩

theorem cells_rel {v v' : Value} (h : VRel m v v') (hu : isU v = false) : LsRel m v.cells.toList v'.cells.toList := by
  cases h with
  | any v => simp [isU] at hu
  | agg x x' hx hxs => exact LsRel.of_array hx hxs
  | sk => exact LsRel.cons .sk (LsRel.nil m)
  | bool b => exact LsRel.cons (.bool b) (LsRel.nil m)
  | int k n => exact LsRel.cons (.int k n) (LsRel.nil m)
  | float k n => exact LsRel.cons (.float k n) (LsRel.nil m)
  | complex k n n' => exact LsRel.cons (.complex k n n') (LsRel.nil m)
  | string s => exact LsRel.cons (.string s) (LsRel.nil m)
  | ptrN => exact LsRel.cons .ptrN (LsRel.nil m)
  | ptr x x' h => exact LsRel.cons (.ptr x x' h) (LsRel.nil m)
  | slN c a' c' h ha => exact LsRel.cons (.slN c a' c' h ha) (LsRel.nil m)
  | sl x x' n c c' i hs h hi ht hn hc => exact LsRel.cons (.sl x x' n c c' i hs h hi ht hn hc) (LsRel.nil m)
  | map => exact LsRel.cons .map (LsRel.nil m)
  | chan => exact LsRel.cons .chan (LsRel.nil m)
  | nilF => exact LsRel.cons .nilF (LsRel.nil m)
  | func f f' x x' y y' hf hx hxs hy hys => exact LsRel.cons (.func f f' x x' y y' hf hx hxs hy hys) (LsRel.nil m)
  | iface t v v' h => exact LsRel.cons (.iface t v v' h) (LsRel.nil m)
  | nilI => exact LsRel.cons .nilI (LsRel.nil m)
  | tup x x' hx hxs => exact LsRel.cons (.tup x x' hx hxs) (LsRel.nil m)

section
variable (t : Tied P B0 m o s.L s.H w) {oper : Oper} {v : Value} {L' : LS} {H' : AH}
include t

theorem do_mv {x : Operand} (hop : oper.op = .move x ∨ oper.op = .assign x) (hx : VRel m (s.ev x) (a.eval x)) (h : popA s (.mv x) d = some (v, L', H')) : Does P B0 m o w a oper v L' H' := by
  simp only [popA, Option.some.injEq, Prod.mk.injEq] at h
  obtain ⟨rfl, rfl, rfl⟩ := h
  refine t.pure (v' := a.eval x) ?_ hx
  rcases hop with hop | hop <;> simp [execOp, hop]

theorem do_pick {c x y : Operand} (hop : oper.op = .pick c x y) (hc : VRel m (s.ev c) (a.eval c)) (hx : VRel m (s.ev x) (a.eval x)) (hy : VRel m (s.ev y) (a.eval y)) (h : popA s (.pick c x y) d = some (v, L', H')) : Does P B0 m o w a oper v L' H' := by
  simp only [popA] at h
  split at h
  · rename_i b hb
    rw [hb] at hc
    simp only [Option.some.injEq, Prod.mk.injEq] at h
    obtain ⟨rfl, rfl, rfl⟩ := h
    have he : a.eval c = .bool b := by generalize a.eval c = z at hc; cases hc; rfl
    refine t.pure (v' := if b then a.eval x else a.eval y) ?_ (by cases b; exact hy; exact hx)
    simp [execOp, hop, he, asBool]
  · cases h

theorem do_box {x : Operand} {e : TypeId} (hop : oper.op = .box e x ∨ (oper.op = .alloc e ∧ ∃ z, x = .const z ∧ zeroOf P e = some z)) (hx : VRel m (s.ev x) (a.eval x)) (h : popA s (.box x) d = some (v, L', H')) : Does P B0 m o w a oper v L' H' := by
  simp only [popA] at h
  split at h
  · rename_i d
    split at h
    · cases h
    · rename_i hu
      simp only [Option.some.injEq, Prod.mk.injEq] at h
      obtain ⟨rfl, rfl, rfl⟩ := h
      have hl := cells_rel hx (by simpa using hu)
      have := LRel.box t.tH t.tL t.tF d (a.eval x).cells e (s.ev x).cells.toList hl _ rfl
      refine ⟨.value (.pointer (some ⟨w.heap.size, 0, none⟩)), w.alloc (.cells (a.eval x).cells e), ?_, .inl ⟨_, rfl, this⟩⟩
      rcases hop with hop | ⟨hop, z, rfl, hz⟩
      · simp [execOp, hop, Instr.box, newVar, newRow]
      · have hi : ∃ i, P.info? e = some i ∧ i.zero = some z := by
          simp only [zeroOf, Option.bind_eq_some_iff] at hz; exact hz
        obtain ⟨i, hi, hiz⟩ := hi
        simp [execOp, hop, Instr.alloc, zeroValue, typeInfo, hi, hiz, newVar, newRow, Act.eval]
  · cases h

theorem do_ptr {x : Operand} {st f off size : Nat} {ag : Bool} (hop : oper.op = .fieldAddr st x f) (hf : fieldOf P st f = some (off, size, ag)) (h0 : size ≠ 0) (hx : VRel m (s.ev x) (a.eval x)) (h : popA s (.ptr x off) d = some (v, L', H')) : Does P B0 m o w a oper v L' H' := by
  simp only [popA] at h
  split at h
  · rename_i p hp
    rw [hp] at hx
    simp only [Option.some.injEq, Prod.mk.injEq] at h
    obtain ⟨rfl, rfl, rfl⟩ := h
    generalize he : a.eval x = z at hx
    cases hx with
    | ptr _ p' hr =>
    refine t.pure (v' := .pointer (some (p'.add off))) ?_ (.ptr _ _ (hr.add off))
    unfold fieldOf at hf
    split at hf
    · rename_i fs hu
      simp only [bind, Option.bind_eq_some_iff, pure, Option.some.injEq, Prod.mk.injEq] at hf
      obtain ⟨fl, h1, i, h2, _, _, rfl, rfl, _⟩ := hf
      simp [execOp, hop, Instr.fieldAt, run_underlying hu, h1, he, Instr.sureAddr, fieldPlace, sizeOf, typeInfo, h2, h0]
    · cases hf
  · cases h

theorem do_elem {x ix : Operand} {ty e : TypeId} {i : TypeInfo} (hop : oper.op = .indexAddr ty x ix) (hu : P.underlying ty = some (.slice e)) (hi : P.info? e = some i) (hx : VRel m (s.ev x) (a.eval x)) (hy : VRel m (s.ev ix) (a.eval ix)) (h : popA s (.elem i.size x ix) d = some (v, L', H')) : Does P B0 m o w a oper v L' H' := by
  simp only [popA] at h
  split at h
  · rename_i p n c k j hp hj
    rw [hp] at hx
    rw [hj] at hy
    split at h
    · rename_i hb
      simp only [Option.some.injEq, Prod.mk.injEq] at h
      obtain ⟨rfl, rfl, rfl⟩ := h
      generalize he : a.eval x = z at hx
      generalize hg : a.eval ix = y at hy
      cases hy
      cases hx with
      | slN => omega
      | sl p p' _ _ c' hi' hs hr hm ht hn hc =>
        refine t.pure (v' := .pointer (some (p'.add (j.toNat * i.size)))) ?_ (.ptr _ _ (hr.add _))
        simp [execOp, hop, Instr.indexAt, he, hg, asIntOf, run_underlying hu, sizeOf, typeInfo, hi, hb.1, hb.2]
    · cases h
  · cases h

theorem do_elemA {x ix : Operand} {ty e n : Nat} {i : TypeInfo} (hop : oper.op = .indexAddr ty x ix) (hu : P.underlying ty = some (.array n e)) (hi : P.info? e = some i) (hx : VRel m (s.ev x) (a.eval x)) (hy : VRel m (s.ev ix) (a.eval ix)) (h : popA s (.elemA n i.size x ix) d = some (v, L', H')) : Does P B0 m o w a oper v L' H' := by
  simp only [popA] at h
  split at h
  · rename_i p k j hp hj
    rw [hp] at hx
    rw [hj] at hy
    split at h
    · rename_i hb
      simp only [Option.some.injEq, Prod.mk.injEq] at h
      obtain ⟨rfl, rfl, rfl⟩ := h
      generalize he : a.eval x = z at hx
      generalize hg : a.eval ix = y at hy
      cases hy
      cases hx with
      | ptr p p' hr =>
        refine t.pure (v' := .pointer (some (p'.add (j.toNat * i.size)))) ?_ (.ptr _ _ (hr.add _))
        simp [execOp, hop, Instr.indexAt, he, hg, asIntOf, run_underlying hu, sizeOf, typeInfo, hi, hb.1, hb.2, Instr.sureAddr]
    · cases h
  · cases h

theorem do_ld {x : Operand} {ty : TypeId} {de : TypeDesc} (hop : oper.op = .load ty x) (hu : P.underlying ty = some de) (ha : isAggT P ty = false) (hx : VRel m (s.ev x) (a.eval x)) (h : popA s (.ld x) d = some (v, L', H')) : Does P B0 m o w a oper v L' H' := by
  simp only [popA] at h
  split at h
  · rename_i p hp
    rw [hp] at hx
    split at h
    · rename_i u hc
      simp only [Option.some.injEq, Prod.mk.injEq] at h
      obtain ⟨rfl, rfl, rfl⟩ := h
      generalize he : a.eval x = z at hx
      cases hx with
      | ptrN => simp at hc
      | ptr p p' hr =>
        obtain ⟨v', h1, h2⟩ := cellAt_sound t.tL t.tH hr (by simpa using hc)
        refine t.pure (v' := v') ?_ h2
        have hag : (isAgg ty).run P w = .ok false w := by
          simp only [isAggT, hu] at ha
          cases de <;> simp [isAgg, run_underlying hu] at ha ⊢
        simp [execOp, hop, Instr.loadAt, he, Instr.sureAddr, loadVar, hag, h1]
    · cases h
  · cases h

theorem do_ldn {x : Operand} {ty : TypeId} {i : TypeInfo} (hop : oper.op = .load ty x) (hi : P.info? ty = some i) (ha : isAggT P ty = true) (hx : VRel m (s.ev x) (a.eval x)) (h : popA s (.ldn i.size x) d = some (v, L', H')) : Does P B0 m o w a oper v L' H' := by
  simp only [popA] at h
  split at h
  · rename_i p hp
    rw [hp] at hx
    split at h
    · rename_i u hc
      simp only [Option.some.injEq, Prod.mk.injEq] at h
      obtain ⟨rfl, rfl, rfl⟩ := h
      generalize he : a.eval x = z at hx
      cases hx with
      | ptrN => simp at hc
      | ptr p p' hr =>
        obtain ⟨h0, vs', h1, h2⟩ := cellsAt_sound t.tL t.tH hr (by simpa using hc)
        refine t.pure (v' := .agg vs'.toArray) ?_ (VRel.aggL h1)
        have hag : (isAgg ty).run P w = .ok true w := by
          simp only [isAggT] at ha
          split at ha
          · rename_i fs hu; simp [isAgg, run_underlying hu]
          · rename_i n e hu; simp [isAgg, run_underlying hu]
          · cases ha
        have hl := run_loadCells_list (P := P) w p' vs' h2
        rw [← h1.1, h0] at hl
        simp [execOp, hop, Instr.loadAt, he, Instr.sureAddr, loadVar, hag, sizeOf, typeInfo, hi, hl]
    · cases h
  · cases h

theorem do_st {x y : Operand} {ty : TypeId} {i : TypeInfo} (hop : oper.op = .store ty x y) (hi : P.info? ty = some i) (hx : VRel m (s.ev x) (a.eval x)) (hy : VRel m (s.ev y) (a.eval y)) (h : popA s (.st i.size x y) d = some (v, L', H')) : Does P B0 m o w a oper v L' H' := by
  simp only [popA] at h
  split at h
  · rename_i p hp
    rw [hp] at hx
    split at h
    · rename_i hc
      simp only [Option.map_eq_some_iff, Prod.mk.injEq] at h
      obtain ⟨⟨L1, H1⟩, h1, rfl, rfl, rfl⟩ := h
      generalize he : a.eval x = z at hx
      cases hx with
      | ptr p p' hr =>
        have hl := cells_rel hy hc.1
        obtain ⟨w', k1, k2, k3, k4, k5⟩ := storeAt_sound (P := P) t.tH t.tL t.tF hr h1 hl
        have hsz : (a.eval y).cells.size = i.size := by have := hl.1; simp at this; rw [← this]; exact hc.2
        refine ⟨.skip, w', ?_, .inr ⟨rfl, m, o, Mp.le_refl m, .any _, k3, k4, k2, k5⟩⟩
        simp [execOp, hop, Instr.storeAt, he, Instr.sureAddr, storeVar, sizeOf, typeInfo, hi, hsz, k1]
    · cases h
  · cases h

theorem do_nilc {x : Operand} (hop : oper.op = .nilCheck x) (hx : VRel m (s.ev x) (a.eval x)) (h : popA s (.nilc x) d = some (v, L', H')) : Does P B0 m o w a oper v L' H' := by
  simp only [popA] at h
  split at h
  · rename_i p hp
    rw [hp] at hx
    simp only [Option.some.injEq, Prod.mk.injEq] at h
    obtain ⟨rfl, rfl, rfl⟩ := h
    generalize he : a.eval x = z at hx
    have hx' := hx
    cases hx with
    | ptr p p' hr =>
      refine t.pure (v' := .pointer (some p')) ?_ hx'
      simp [execOp, hop, he]
  · rename_i f b c hp
    rw [hp] at hx
    simp only [Option.some.injEq, Prod.mk.injEq] at h
    obtain ⟨rfl, rfl, rfl⟩ := h
    generalize he : a.eval x = z at hx
    have hx' := hx
    cases hx with
    | func f f' p p' y y' hf =>
      cases hf
      refine t.pure ?_ hx'
      simp [execOp, hop, he]
  · cases h
end
end Go.Proofs.YtjejcbiilimjkaaDoor
