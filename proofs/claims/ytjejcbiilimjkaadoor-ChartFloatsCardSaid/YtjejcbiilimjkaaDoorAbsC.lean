/- What ties the abstract machine's state to the world: values, boxes, the heap; who owns which block. -/
import Derived.Test.YtjejcbiilimjkaaDoorAbsB
import Derived.Below
namespace Go.Proofs.YtjejcbiilimjkaaDoor
open Go Go.RowKit

/-- Where a block of the abstract heap lies: its row, from where on, how many cells an element of it takes (0: never written by append), how many cells the row has. -/
structure Gh where
  tmps : Array Value
  ps : Array Tmp
  asg : Code
  body : Code
  l0 : Nat → Nat → Option Nat

structure HI where
  blk : Nat
  off : Nat
  e : Nat
  tot : Nat
  /-- of a loop's record: what never changes in it -/
  gh : Option Gh

structure Mp where
  h : Nat → Option HI
  l : Nat → Nat → Option Nat

def Mp.le (m m' : Mp) : Prop := (∀ b i, m.h b = some i → m'.h b = some i) ∧ (∀ d g B, m.l d g = some B → m'.l d g = some B)
theorem Mp.le_refl (m : Mp) : m.le m := ⟨fun _ _ h => h, fun _ _ _ h => h⟩
theorem Mp.le_trans {a b c : Mp} (h : a.le b) (k : b.le c) : a.le c := ⟨fun x i e => k.1 x i (h.1 x i e), fun d g B e => k.2 d g B (h.2 d g B e)⟩

def ARel (m : Mp) (a a' : Addr) : Prop := a'.spot = none ∧
  match a.spot with
  | none => ∃ i, m.h a.block = some i ∧ a'.block = i.blk ∧ a'.off = i.off + a.off
  | some g => m.l a.block g = some a'.block ∧ a'.off = a.off

theorem ARel.mono {m m' : Mp} (h : m.le m') {a a' : Addr} (r : ARel m a a') : ARel m' a a' := by
  obtain ⟨h1, h2⟩ := r
  refine ⟨h1, ?_⟩
  split at h2
  · obtain ⟨i, e, r⟩ := h2; exact ⟨i, h.1 _ _ e, r⟩
  · exact ⟨h.2 _ _ _ h2.1, h2.2⟩

inductive FRel (m : Mp) : Fn → Fn → Prop
  | func (f : FuncId) : FRel m (.func f) (.func f)
  | yield (l : Nat) (i : HI) (h : m.h l = some i) : FRel m (.yield l) (.yield i.blk)

inductive VRel (m : Mp) : Value → Value → Prop
  | any (v : Value) : VRel m (.tuple #[]) v
  | sk : VRel m (.tuple #[.tuple #[]]) (.tuple #[])
  | bool (b : Bool) : VRel m (.bool b) (.bool b)
  | int (k : IntKind) (n : Int) : VRel m (.int k n) (.int k n)
  | float (k : FloatKind) (n : Nat) : VRel m (.float k n) (.float k n)
  | complex (k : FloatKind) (n n' : Nat) : VRel m (.complex k n n') (.complex k n n')
  | string (s : ByteArray) : VRel m (.string s) (.string s)
  | ptrN : VRel m (.pointer none) (.pointer none)
  | ptr (a a' : Addr) (h : ARel m a a') : VRel m (.pointer (some a)) (.pointer (some a'))
  | slN (c : Nat) (a' : Option Addr) (c' : Nat) (h : c = 0 → c' = 0) (ha : c' ≠ 0 → a'.isSome = true) : VRel m (.slice none 0 c) (.slice a' 0 c')
  | sl (a a' : Addr) (n c c' : Nat) (i : HI) (hs : a.spot = none) (h : ARel m a a') (hi : m.h a.block = some i) (ht : i.e ≠ 0 → a'.off + c' * i.e ≤ i.tot) (hn : n ≤ c') (hc : c = n → c' = n) :
      VRel m (.slice (some a) n c) (.slice (some a') n c')
  | map : VRel m (.map none) (.map none)
  | chan : VRel m (.chan none) (.chan none)
  | nilF : VRel m .nilFunc .nilFunc
  | func (f f' : Fn) (x x' y y' : Array Value) (hf : FRel m f f') (hx : x.size = x'.size) (hxs : ∀ i (h : i < x.size) (h' : i < x'.size), VRel m x[i] x'[i])
      (hy : y.size = y'.size) (hys : ∀ i (h : i < y.size) (h' : i < y'.size), VRel m y[i] y'[i]) : VRel m (.func f x y) (.func f' x' y')
  | iface (t : TypeId) (v v' : Value) (h : VRel m v v') : VRel m (.iface t v) (.iface t v')
  | nilI : VRel m .nilIface .nilIface
  | agg (x x' : Array Value) (hx : x.size = x'.size) (hxs : ∀ i (h : i < x.size) (h' : i < x'.size), VRel m x[i] x'[i]) : VRel m (.agg x) (.agg x')
  | tup (x x' : Array Value) (hx : x.size = x'.size) (hxs : ∀ i (h : i < x.size) (h' : i < x'.size), VRel m x[i] x'[i]) : VRel m (.tuple x) (.tuple x')

theorem FRel.mono {m m' : Mp} (h : m.le m') {f f' : Fn} (r : FRel m f f') : FRel m' f f' := by
  cases r with
  | func f => exact .func f
  | yield l i e => exact .yield l i (h.1 _ _ e)

theorem VRel.mono {m m' : Mp} (h : m.le m') {v v' : Value} (r : VRel m v v') : VRel m' v v' := by
  induction r with
  | any v => exact .any v
  | sk => exact .sk
  | bool b => exact .bool b
  | int k n => exact .int k n
  | float k n => exact .float k n
  | complex k n n' => exact .complex k n n'
  | string s => exact .string s
  | ptrN => exact .ptrN
  | ptr a a' r => exact .ptr a a' (r.mono h)
  | slN c a' c' hc ha => exact .slN c a' c' hc ha
  | sl a a' n c c' i hs r hi ht hn hc => exact .sl a a' n c c' i hs (r.mono h) (h.1 _ _ hi) ht hn hc
  | map => exact .map
  | chan => exact .chan
  | nilF => exact .nilF
  | func f f' x x' y y' hf hx hxs hy hys ix iy => exact .func f f' x x' y y' (hf.mono h) hx ix hy iy
  | iface t v v' r ih => exact .iface t v v' ih
  | nilI => exact .nilI
  | agg x x' hx hxs ih => exact .agg x x' hx ih
  | tup x x' hx hxs ih => exact .tup x x' hx ih

/-- Lists related place by place. -/
def LsRel (m : Mp) (vs vs' : List Value) : Prop := vs.length = vs'.length ∧ ∀ i (h : i < vs.length) (h' : i < vs'.length), VRel m vs[i] vs'[i]

theorem LsRel.nil (m : Mp) : LsRel m [] [] := ⟨rfl, fun i h => absurd h (by simp)⟩
theorem LsRel.cons {m : Mp} {v v' : Value} {vs vs' : List Value} (h : VRel m v v') (r : LsRel m vs vs') : LsRel m (v :: vs) (v' :: vs') := by
  refine ⟨by simp [r.1], fun i h1 h2 => ?_⟩
  cases i with
  | zero => exact h
  | succ i => exact r.2 i (by simpa using h1) (by simpa using h2)
theorem LsRel.mono {m m' : Mp} (h : m.le m') {vs vs' : List Value} (r : LsRel m vs vs') : LsRel m' vs vs' := ⟨r.1, fun i a b => (r.2 i a b).mono h⟩
theorem LsRel.head {m : Mp} {v v' : Value} {vs vs' : List Value} (r : LsRel m (v :: vs) (v' :: vs')) : VRel m v v' := r.2 0 (by simp) (by simp)
theorem LsRel.tail {m : Mp} {v v' : Value} {vs vs' : List Value} (r : LsRel m (v :: vs) (v' :: vs')) : LsRel m vs vs' :=
  ⟨by simpa using r.1, fun i a b => r.2 (i + 1) (by simpa using a) (by simpa using b)⟩
theorem LsRel.append {m : Mp} {a a' b b' : List Value} (h : LsRel m a a') (k : LsRel m b b') : LsRel m (a ++ b) (a' ++ b') := by
  refine ⟨by simp [h.1, k.1], fun i h1 h2 => ?_⟩
  by_cases hi : i < a.length
  · rw [List.getElem_append_left hi, List.getElem_append_left (h.1 ▸ hi)]; exact h.2 _ _ _
  · have e := h.1
    rw [List.getElem_append_right (by omega), List.getElem_append_right (by omega)]
    simp only [e]
    exact k.2 _ (by simp at h1; omega) (by simp at h2; omega)
theorem VRel.aggL {m : Mp} {x x' : List Value} (r : LsRel m x x') : VRel m (.agg x.toArray) (.agg x'.toArray) :=
  .agg _ _ (by simp [r.1]) (fun i h h' => by simpa using r.2 i (by simpa using h) (by simpa using h'))
theorem VRel.tupL {m : Mp} {x x' : List Value} (r : LsRel m x x') : VRel m (.tuple x.toArray) (.tuple x'.toArray) :=
  .tup _ _ (by simp [r.1]) (fun i h h' => by simpa using r.2 i (by simpa using h) (by simpa using h'))
theorem LsRel.of_array {m : Mp} {x x' : Array Value} (hx : x.size = x'.size) (h : ∀ i (h : i < x.size) (h' : i < x'.size), VRel m x[i] x'[i]) : LsRel m x.toList x'.toList :=
  ⟨by simpa using hx, fun i a b => by simpa using h i (by simpa using a) (by simpa using b)⟩
theorem LsRel.take {m : Mp} {a a' : List Value} (h : LsRel m a a') (n : Nat) : LsRel m (a.take n) (a'.take n) :=
  ⟨by simp [h.1], fun i p q => by simp only [List.getElem_take]; exact h.2 _ _ _⟩
theorem LsRel.drop {m : Mp} {a a' : List Value} (h : LsRel m a a') (n : Nat) : LsRel m (a.drop n) (a'.drop n) :=
  ⟨by simp [h.1], fun i p q => by simp only [List.getElem_drop]; exact h.2 _ _ _⟩
theorem LsRel.set {m : Mp} {a a' : List Value} (h : LsRel m a a') {v v' : Value} (r : VRel m v v') (k : Nat) : LsRel m (a.set k v) (a'.set k v') := by
  refine ⟨by simp [h.1], fun i p q => ?_⟩
  simp only [List.getElem_set]
  split
  · exact r
  · exact h.2 _ _ _
theorem LsRel.over {m : Mp} {ws ws' : List Value} (r : LsRel m ws ws') : ∀ {a a' : List Value} (_ : LsRel m a a') (k : Nat), LsRel m (over a k ws) (over a' k ws') := by
  induction ws generalizing ws' with
  | nil => intro a a' h k; cases ws' with | nil => exact h | cons => simp [LsRel] at r
  | cons w ws ih => intro a a' h k; cases ws' with | nil => simp [LsRel] at r | cons w' ws' => exact ih r.tail (h.set r.head k) (k + 1)
theorem over_length (ws : List Value) : ∀ (a : List Value) (k : Nat), (over a k ws).length = a.length := by
  induction ws with
  | nil => intro a k; rfl
  | cons w ws ih => intro a k; rw [over, ih]; simp

/-- A value that leads nowhere stands for itself. -/
theorem VRel.refl_sca (m : Mp) : ∀ (v : Value), sca v = true → VRel m v v := by
  intro v
  induction v using Value.rec (motive_2 := fun a => scaL a.toList = true → ∀ i (h : i < a.size), VRel m a[i] a[i])
    (motive_3 := fun l => scaL l = true → ∀ i (h : i < l.length), VRel m l[i] l[i]) with
  | bool b => intro _; exact .bool b
  | int k n => intro _; exact .int k n
  | float k n => intro _; exact .float k n
  | complex k a b => intro _; exact .complex k a b
  | string s => intro _; exact .string s
  | pointer a => intro h; cases a with | none => exact .ptrN | some a => simp [sca] at h
  | slice a n c =>
    intro h
    cases a with
    | none => simp [sca] at h; obtain ⟨rfl, rfl⟩ := h; exact .slN 0 none 0 (fun _ => rfl) (fun h => absurd rfl h)
    | some a => simp [sca] at h
  | map a => intro h; cases a with | none => exact .map | some a => simp [sca] at h
  | chan a => intro h; cases a with | none => exact .chan | some a => simp [sca] at h
  | func f a b _ _ => intro h; simp [sca] at h
  | nilFunc => intro _; exact .nilF
  | iface t v ih => intro h; exact .iface t v v (ih (by simpa [sca] using h))
  | nilIface => intro _; exact .nilI
  | agg a ih => intro h; exact .agg a a rfl (fun i h1 _ => ih (by simpa [sca] using h) i h1)
  | tuple a ih => intro h; exact .tup a a rfl (fun i h1 _ => ih (by simpa [sca] using h) i h1)
  | mk l ih => rename_i h i hi; exact ih h i hi
  | nil => rename_i i hi; exact absurd hi (by simp)
  | cons v l ih1 ih2 =>
    rename_i h i hi
    simp only [scaL, Bool.and_eq_true] at h
    cases i with
    | zero => exact ih1 h.1
    | succ i => exact ih2 h.2 i (by simpa using hi)
end Go.Proofs.YtjejcbiilimjkaaDoor
