/- The heap, the boxes and the owners of blocks: what ties them to the world. -/
import Derived.Test.YtjejcbiilimjkaaDoorAbsC
namespace Go.Proofs.YtjejcbiilimjkaaDoor
open Go Go.RowKit

/-- Who writes a block: a block of the abstract heap, a boxed variable of the running function, a boxed variable of a function whose loop over a function runs; or nobody that is known here. -/
inductive Ow where
  | other
  | heap (b : Nat)
  | loc (d g : Nat)
  | rcd (b d g : Nat)
  deriving DecidableEq

def CRel (B0 : Nat) (m : Mp) (o : Nat → Ow) (ow : Ow) (B : Nat) (vs : List Value) (w : World) : Prop :=
  o B = ow ∧ B0 ≤ B ∧ ∃ arr te, w.heap[B]? = some (.cells arr te (0, 0)) ∧ LsRel m vs arr.toList

def LRel (B0 : Nat) (m : Mp) (o : Nat → Ow) (ow : Nat → Nat → Ow) (L : LS) (w : World) : Prop :=
  ∀ d g c, lget L d = some (g, c) → match c with
    | .cells vs => ∃ B, m.l d g = some B ∧ CRel B0 m o (ow d g) B vs w
    | .fwd b => ∃ i, m.h b = some i ∧ i.off = 0 ∧ m.l d g = some i.blk

def LFresh (m : Mp) (L : LS) : Prop := ∀ d g B, m.l d g = some B → ∃ g' c, lget L d = some (g', c) ∧ g ≤ g'

def TRel (m : Mp) (t : TS) (tmps : Array Value) : Prop := ∀ i, VRel m (tget t i) (tmps.getD i undef)

def exCode : Ex → Option Code
  | .normal => none
  | .exit id => some (.exit id)
  | .ret => some .ret

def stRel : LoopState → Nat → Prop
  | .ready, n => n = 0 ∨ n = 4
  | .busy, n => n = 1
  | .done, n => n = 2
  | .exhausted, n => n = 3

def RRel (P : Program) (B0 : Nat) (m : Mp) (o : Nat → Ow) (b : Nat) (i : HI) (r : ARec) (w : World) : Prop :=
  ∃ (lp : Loop) (ml : Nat → Nat → Option Nat) (nt : Nat), w.heap[i.blk]? = some (.loop lp) ∧ stRel lp.state r.st ∧ lp.pending = r.pend.bind exCode ∧
    TRel ⟨m.h, ml⟩ r.t lp.tmps ∧ LRel B0 ⟨m.h, ml⟩ o (.rcd b) r.L w ∧ (r.st = 0 ∨ r.st = 2 → LFresh ⟨m.h, ml⟩ r.L) ∧ lp.params.toList = r.ps ∧ cCode P nt lp.assign = some r.asg ∧ cCode P nt lp.body = some r.body ∧
    nt ≤ lp.tmps.size ∧ (∀ x ∈ r.ps, x < nt) ∧ (r.pend ≠ some .normal) ∧
    ∃ gh, i.gh = some gh ∧ lp.tmps = gh.tmps ∧ lp.params = gh.ps ∧ lp.assign = gh.asg ∧ lp.body = gh.body ∧ ∀ d g B, gh.l0 d g = some B → ml d g = some B

def BRel (P : Program) (B0 : Nat) (m : Mp) (o : Nat → Ow) (b : Nat) (i : HI) (w : World) : ABlk → Prop
  | .rw e vs => i.off = 0 ∧ i.e = e ∧ B0 ≤ i.blk ∧ o i.blk = .heap b ∧ nlL vs = true ∧
      ∃ arr te, w.heap[i.blk]? = some (.cells arr te (0, 0)) ∧ arr.size = i.tot ∧ vs.length ≤ arr.size ∧ LsRel m vs (arr.toList.take vs.length)
  | .ro vs => i.e = 0 ∧ i.blk < B0 ∧ nlL vs = true ∧ ∀ j (h : j < vs.length), ∃ v', w.cell? ⟨i.blk, i.off + j, none⟩ = some v' ∧ VRel m vs[j] v'
  | .dead => True
  | .loop r => i.off = 0 ∧ B0 ≤ i.blk ∧ o i.blk = .heap b ∧ RRel P B0 m o b i r w

structure WRel (P : Program) (B0 : Nat) (m : Mp) (o : Nat → Ow) (H : AH) (w : World) : Prop where
  dom : ∀ b i, m.h b = some i → b < H.length ∧ i.blk < w.heap.size
  base : ∀ B, B < B0 → o B = .other
  low : B0 ≤ w.heap.size
  blk : ∀ b i x, m.h b = some i → H[b]? = some x → BRel P B0 m o b i w x

/-- What others see of a piece of a run: what nobody here owns is as it was. -/
structure Keep (o : Nat → Ow) (w : World) (o' : Nat → Ow) (w' : World) : Prop where
  os : w'.os = w.os
  tape : w'.tape = w.tape
  output : w'.output = w.output
  size : w.heap.size ≤ w'.heap.size
  same : ∀ B, B < w.heap.size → o B = .other → w'.heap[B]? = w.heap[B]? ∧ o' B = .other

theorem Keep.refl (o : Nat → Ow) (w : World) : Keep o w o w := ⟨rfl, rfl, rfl, Nat.le_refl _, fun _ _ h => ⟨rfl, h⟩⟩
theorem Keep.trans {o o' o'' : Nat → Ow} {w w' w'' : World} (h : Keep o w o' w') (k : Keep o' w' o'' w'') : Keep o w o'' w'' :=
  ⟨k.os.trans h.os, k.tape.trans h.tape, k.output.trans h.output, Nat.le_trans h.size k.size, fun B hB ho => by
    obtain ⟨h1, h2⟩ := h.same B hB ho
    obtain ⟨k1, k2⟩ := k.same B (Nat.lt_of_lt_of_le hB h.size) h2
    exact ⟨k1.trans h1, k2⟩⟩


theorem nlL_iff (l : List Value) : nlL l = true ↔ ∀ i (h : i < l.length), nl l[i] = true := by
  induction l with
  | nil => simp [nlL]
  | cons v r ih =>
    simp only [nlL, Bool.and_eq_true, ih]
    constructor
    · rintro ⟨h1, h2⟩ i hi
      cases i with
      | zero => exact h1
      | succ i => exact h2 i (by simpa using hi)
    · intro h
      exact ⟨h 0 (by simp), fun i hi => h (i + 1) (by simpa using hi)⟩

theorem nlL_append (a b : List Value) : nlL (a ++ b) = (nlL a && nlL b) := by
  induction a with
  | nil => simp [nlL]
  | cons v r ih => simp [nlL, ih, Bool.and_assoc]

theorem nlL_set {a : List Value} (h : nlL a = true) {v : Value} (hv : nl v = true) (k : Nat) : nlL (a.set k v) = true := by
  rw [nlL_iff] at *
  intro i hi
  rw [List.getElem_set]
  split
  · exact hv
  · exact h i (by simpa using hi)

theorem nlL_over {ws : List Value} (hw : nlL ws = true) : ∀ {a : List Value} (_ : nlL a = true) (k : Nat), nlL (over a k ws) = true := by
  induction ws with
  | nil => intro a h k; exact h
  | cons w ws ih =>
    intro a h k
    simp only [nlL, Bool.and_eq_true] at hw
    exact ih hw.2 (nlL_set h hw.1 k) (k + 1)

theorem nlA {x : Array Value} (h : nlL x.toList = true) (i : Nat) (hi : i < x.size) : nl x[i] = true := by
  have := (nlL_iff x.toList).1 h i (by simpa using hi)
  rwa [Array.getElem_toList] at this

theorem VRel.nl_of {h : Nat → Option HI} {l l' : Nat → Nat → Option Nat} {v v' : Value} (r : VRel ⟨h, l⟩ v v') (hn : nl v = true) : VRel ⟨h, l'⟩ v v' := by
  induction r with
  | any v => exact .any v
  | sk => exact .sk
  | bool b => exact .bool b
  | int k n => exact .int k n
  | float k n => exact .float k n
  | complex k n n' => exact .complex k n n'
  | string s => exact .string s
  | ptrN => exact .ptrN
  | ptr a a' r =>
    have hs : a.spot = none := by simpa [nl] using hn
    refine .ptr a a' ⟨r.1, ?_⟩
    have := r.2
    rw [hs] at this ⊢
    exact this
  | slN c a' c' hc ha => exact .slN c a' c' hc ha
  | sl a a' n c c' i hs r hi ht hle hc =>
    refine .sl a a' n c c' i hs ⟨r.1, ?_⟩ hi ht hle hc
    have := r.2
    rw [hs] at this ⊢
    exact this
  | map => exact .map
  | chan => exact .chan
  | nilF => exact .nilF
  | func f f' x x' y y' hf hx hxs hy hys ix iy =>
    simp only [nl, Bool.and_eq_true] at hn
    refine .func f f' x x' y y' ?_ hx (fun i a b => ix i a b (nlA hn.1 i a)) hy (fun i a b => iy i a b (nlA hn.2 i a))
    cases hf with
    | func f => exact .func f
    | yield l i e => exact .yield l i e
  | iface t v v' r ih => exact .iface t v v' (ih (by simpa [nl] using hn))
  | nilI => exact .nilI
  | agg x x' hx hxs ih =>
    exact .agg x x' hx (fun i a b => ih i a b (nlA (by simpa [nl] using hn) i a))
  | tup x x' hx hxs ih =>
    exact .tup x x' hx (fun i a b => ih i a b (nlA (by simpa [nl] using hn) i a))

theorem LsRel.nl_of {h : Nat → Option HI} {l l' : Nat → Nat → Option Nat} {v v' : List Value} (r : LsRel ⟨h, l⟩ v v') (hn : nlL v = true) : LsRel ⟨h, l'⟩ v v' :=
  ⟨r.1, fun i a b => (r.2 i a b).nl_of ((nlL_iff v).1 hn i a)⟩

/-- The owned part of a world. -/
def Held (B0 : Nat) (o : Nat → Ow) (B : Nat) : Prop := B < B0 ∨ (∃ b, o B = .heap b) ∨ ∃ b d g, o B = .rcd b d g

theorem lt_of_heap {w : World} {B : Nat} {x : Obj} (h : w.heap[B]? = some x) : B < w.heap.size := (Array.getElem?_eq_some_iff.1 h).1

theorem CRel.keep {B0 : Nat} {m m' : Mp} {o o' : Nat → Ow} {ow : Ow} {B : Nat} {vs : List Value} {w w' : World} (hm : m.le m')
    (hk : B < w.heap.size → o B = ow → w'.heap[B]? = w.heap[B]? ∧ o' B = o B) (r : CRel B0 m o ow B vs w) : CRel B0 m' o' ow B vs w' := by
  obtain ⟨h1, h2, arr, te, h3, h4⟩ := r
  obtain ⟨k1, k2⟩ := hk (lt_of_heap h3) h1
  exact ⟨k2.trans h1, h2, arr, te, k1.trans h3, h4.mono hm⟩

theorem LRel.keep {B0 : Nat} {m m' : Mp} {o o' : Nat → Ow} {ow : Nat → Nat → Ow} {L : LS} {w w' : World} (hm : m.le m')
    (hk : ∀ B d g, B < w.heap.size → o B = ow d g → w'.heap[B]? = w.heap[B]? ∧ o' B = o B) (r : LRel B0 m o ow L w) : LRel B0 m' o' ow L w' := by
  intro d g c hc
  have := r d g c hc
  cases c with
  | cells vs => obtain ⟨B, h1, h2⟩ := this; exact ⟨B, hm.2 _ _ _ h1, h2.keep hm (hk B d g)⟩
  | fwd b => obtain ⟨i, h1, h2, h3⟩ := this; exact ⟨i, hm.1 _ _ h1, h2, hm.2 _ _ _ h3⟩

theorem TRel.mono {m m' : Mp} (h : m.le m') {t : TS} {tmps : Array Value} (r : TRel m t tmps) : TRel m' t tmps := fun i => (r i).mono h

theorem BRel.keep {P : Program} {B0 : Nat} {m m' : Mp} {o o' : Nat → Ow} {b : Nat} {i : HI} {w w' : World} {x : ABlk} (hm : m.le m')
    (hk : ∀ B, B < w.heap.size → (B < B0 ∨ o B = .heap b ∨ ∃ d g, o B = .rcd b d g) → w'.heap[B]? = w.heap[B]? ∧ o' B = o B) (r : BRel P B0 m o b i w x) : BRel P B0 m' o' b i w' x := by
  cases x with
  | rw e vs =>
    obtain ⟨h1, h2, h3, h4, h5, arr, te, h6, h7, h8, h9⟩ := r
    obtain ⟨k1, k2⟩ := hk _ (lt_of_heap h6) (.inr (.inl h4))
    exact ⟨h1, h2, h3, k2.trans h4, h5, arr, te, k1.trans h6, h7, h8, h9.mono hm⟩
  | ro vs =>
    obtain ⟨h1, h2, h3, h4⟩ := r
    refine ⟨h1, h2, h3, fun j hj => ?_⟩
    obtain ⟨v', h5, h6⟩ := h4 j hj
    have hlt : i.blk < w.heap.size := by
      simp only [World.cell?] at h5
      split at h5
      · rename_i h; exact lt_of_heap h
      · cases h5
    obtain ⟨k1, k2⟩ := hk _ hlt (.inl h2)
    exact ⟨v', by simpa [World.cell?, k1] using h5, h6.mono hm⟩
  | dead => trivial
  | loop r' =>
    obtain ⟨h1, h2, h3, lp, ml, nt, h4, h5, h6, h7, h8, h9, h10⟩ := r
    obtain ⟨k1, k2⟩ := hk _ (lt_of_heap h4) (.inr (.inl h3))
    have hm' : Mp.le ⟨m.h, ml⟩ ⟨m'.h, ml⟩ := ⟨hm.1, fun _ _ _ h => h⟩
    exact ⟨h1, h2, k2.trans h3, lp, ml, nt, k1.trans h4, h5, h6, h7.mono hm', h8.keep hm' (fun B d g hB ho => hk B hB (.inr (.inr ⟨d, g, ho⟩))), h9, h10⟩

/-- The heap's tie holds on where what it owns, and what lay there before, is as it was. -/
theorem WRel.keep {P : Program} {B0 : Nat} {m m' : Mp} {o o' : Nat → Ow} {H : AH} {w w' : World} (r : WRel P B0 m o H w) (hm : m'.h = m.h) (hl : ∀ d g B, m.l d g = some B → m'.l d g = some B) (hs : w.heap.size ≤ w'.heap.size)
    (hb : ∀ B, B < B0 → o' B = .other) (hk : ∀ B, B < w.heap.size → Held B0 o B → w'.heap[B]? = w.heap[B]? ∧ o' B = o B) : WRel P B0 m' o' H w' where
  dom b i h := by rw [hm] at h; exact ⟨(r.dom b i h).1, Nat.lt_of_lt_of_le (r.dom b i h).2 hs⟩
  base := hb
  low := Nat.le_trans r.low hs
  blk b i x h hx := by
    rw [hm] at h
    refine (r.blk b i x h hx).keep ⟨fun b i h => by rw [hm]; exact h, hl⟩ fun B hB ho => hk B hB ?_
    rcases ho with h | h | ⟨d, g, h⟩
    · exact .inl h
    · exact .inr (.inl ⟨b, h⟩)
    · exact .inr (.inr ⟨b, d, g, h⟩)
end Go.Proofs.YtjejcbiilimjkaaDoor
