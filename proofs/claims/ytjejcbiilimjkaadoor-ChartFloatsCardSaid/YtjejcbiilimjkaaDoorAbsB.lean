/- The abstract machine: it runs the compact form of a function over a heap of its own, in which blocks are named by number and capacities are not known. -/
import Derived.Test.YtjejcbiilimjkaaDoorAbsA
namespace Go.Proofs.YtjejcbiilimjkaaDoor
open Go

/-- How a piece of code is left. -/
inductive Ex where
  | normal
  | exit (id : Nat)
  | ret
  deriving DecidableEq

/-- What a boxed variable of the running function holds: its cells, or where on the heap it has been put. -/
inductive LC where
  | cells (vs : List Value)
  | fwd (b : Nat)

abbrev LS := List (Nat × Nat × LC)
abbrev TS := List (Nat × Value)

structure ARec where
  st : Nat
  pend : Option Ex
  t : TS
  L : LS
  lim : Nat
  ps : List Tmp
  asg : SC
  body : SC

inductive ABlk where
  | rw (e : Nat) (vs : List Value)
  | ro (vs : List Value)
  | dead
  | loop (r : ARec)

abbrev AH := List ABlk

structure St where
  t : TS
  L : LS
  H : AH
  lim : Nat
  /-- the record of the loop over a function of which a round runs -/
  rd : Option Nat := none

/-- The mark of a skipped operation. -/
def SK : Value := .tuple #[.tuple #[]]

def tget (t : TS) (i : Nat) : Value :=
  match t with
  | [] => .tuple #[]
  | (j, v) :: r => if i = j then v else tget r i

def lget (L : LS) (d : Nat) : Option (Nat × LC) :=
  match L with
  | [] => none
  | (e, g, c) :: r => if d = e then some (g, c) else lget r d

def St.ev (s : St) : Operand → Value
  | .tmp t => tget s.t t
  | .const v => v
  | .global g => .pointer (some ⟨g, 0, none⟩)
  | .func f => .func (.func f) #[] #[]

def St.put (s : St) (d : Option Tmp) (v : Value) : St :=
  match d with
  | some i => { s with t := (i, v) :: s.t }
  | none => s

def isU : Value → Bool
  | .tuple vs => vs.size == 0
  | _ => false

mutual
/-- No address of a boxed variable stands in it. -/
def nl : Value → Bool
  | .pointer (some a) => a.spot.isNone
  | .agg vs => nlL vs.toList
  | .tuple vs => nlL vs.toList
  | .func _ a b => nlL a.toList && nlL b.toList
  | .iface _ v => nl v
  | _ => true
def nlL : List Value → Bool
  | [] => true
  | v :: r => nl v && nlL r
end

def hcell (H : AH) (b i : Nat) : Option Value :=
  match H[b]? with
  | some (.rw _ vs) => vs[i]?
  | some (.ro vs) => vs[i]?
  | _ => none

def cellAt (L : LS) (H : AH) (a : Addr) : Option Value :=
  match a.spot with
  | none => hcell H a.block a.off
  | some g =>
    match lget L a.block with
    | some (g', .cells vs) => if g = g' then vs[a.off]? else none
    | some (g', .fwd b) => if g = g' then hcell H b a.off else none
    | none => none

def aadd (a : Addr) (n : Nat) : Addr := { a with off := a.off + n }

def cellsAt (L : LS) (H : AH) (a : Addr) : Nat → Option (List Value)
  | 0 => some []
  | n + 1 => match cellAt L H a, cellsAt L H (aadd a 1) n with
    | some v, some r => some (v :: r)
    | _, _ => none

/-- 'vs' with 'ws' laid over it from 'off' on. -/
def over (vs : List Value) (off : Nat) : List Value → List Value
  | [] => vs
  | w :: r => over (vs.set off w) (off + 1) r

def hstore (H : AH) (lim b off : Nat) (ws : List Value) : Option AH :=
  match H[b]? with
  | some (.rw e vs) => if lim ≤ b ∧ off + ws.length ≤ vs.length ∧ nlL ws = true then some (H.set b (.rw e (over vs off ws))) else none
  | _ => none

/-- A value of one cell. -/
def oneC : Value → Bool
  | .agg _ => false
  | .tuple _ => false
  | _ => true

def storeAt (s : St) (a : Addr) (ws : List Value) : Option (LS × AH) :=
  if ws.all oneC = false then none else
  match a.spot with
  | none => (hstore s.H s.lim a.block a.off ws).map fun H => (s.L, H)
  | some g =>
    match lget s.L a.block with
    | some (g', .cells vs) => if g = g' ∧ a.off + ws.length ≤ vs.length then some ((a.block, g, .cells (over vs a.off ws)) :: s.L, s.H) else none
    | some (g', .fwd b) => if g = g' then (hstore s.H s.lim b a.off ws).map fun H => (s.L, H) else none
    | none => none

/-- A value as others may see it: a boxed variable whose address is handed out goes to the heap. -/
def glob (L : LS) (H : AH) (v : Value) : Option (Value × LS × AH) :=
  match v with
  | .pointer (some ⟨d, off, some g⟩) =>
    match lget L d with
    | some (g', .cells vs) => if g = g' ∧ nlL vs = true then some (.pointer (some ⟨H.length, off, none⟩), (d, g, .fwd H.length) :: L, H ++ [.rw 0 vs]) else none
    | some (g', .fwd b) => if g = g' then some (.pointer (some ⟨b, off, none⟩), L, H) else none
    | none => none
  | v => if nl v then some (v, L, H) else none

def globs (L : LS) (H : AH) : List Value → Option (List Value × LS × AH)
  | [] => some ([], L, H)
  | v :: r => match glob L H v with
    | some (v', L', H') => (match globs L' H' r with
      | some (r', L'', H'') => some (v' :: r', L'', H'')
      | none => none)
    | none => none

def fillA (cells : List Value) : List (Nat × Nat × Value) → Option (List Value)
  | [] => some cells
  | (off, size, v) :: r => if isU v = false ∧ v.cells.size = size ∧ off + size ≤ cells.length then fillA (over cells off v.cells.toList) r else none

def zeros (z : List Value) : Nat → List Value
  | 0 => []
  | n + 1 => z ++ zeros z n

/-- No list that the machine makes is longer. -/
def maxA : Nat := 2 ^ 30

def binA (op : BinOp) (x y : Value) : Option Value :=
  match x, y with
  | .int k a, .int k' b =>
    match op with
    | .shl => if 0 ≤ b then some (.int k (k.wrap (a * 2 ^ (min b.toNat k.bits)))) else none
    | .shr => if 0 ≤ b then some (.int k (a.fdiv (2 ^ (min b.toNat k.bits)))) else none
    | .add => if k = k' then some (.int k (k.wrap (a + b))) else none
    | .sub => if k = k' then some (.int k (k.wrap (a - b))) else none
    | .mul => if k = k' then some (.int k (k.wrap (a * b))) else none
    | .quo => if k = k' ∧ b ≠ 0 then some (.int k (k.wrap (a.tdiv b))) else none
    | .rem => if k = k' ∧ b ≠ 0 then some (.int k (a.tmod b)) else none
    | .and => if k = k' then some (.int k (k.wrap (BitVec.ofInt k.bits a &&& BitVec.ofInt k.bits b).toNat)) else none
    | .or => if k = k' then some (.int k (k.wrap (BitVec.ofInt k.bits a ||| BitVec.ofInt k.bits b).toNat)) else none
    | .xor => if k = k' then some (.int k (k.wrap (BitVec.ofInt k.bits a ^^^ BitVec.ofInt k.bits b).toNat)) else none
    | .andNot => if k = k' then some (.int k (k.wrap (BitVec.ofInt k.bits a &&& ~~~ BitVec.ofInt k.bits b).toNat)) else none
    | .eql => if k = k' then some (.bool (a == b)) else none
    | .neq => if k = k' then some (.bool (a != b)) else none
    | .lss => if k = k' then some (.bool (decide (a < b))) else none
    | .leq => if k = k' then some (.bool (decide (a ≤ b))) else none
    | .gtr => if k = k' then some (.bool (decide (a > b))) else none
    | .geq => if k = k' then some (.bool (decide (a ≥ b))) else none
  | _, _ => none

def unA (op : UnOp) (x : Value) : Option Value :=
  match op, x with
  | .neg, .int k n => some (.int k (k.wrap (0 - n)))
  | .not, .bool b => some (.bool !b)
  | _, _ => none

/-- Two structs of integers. -/
def eqsA : List Value → List Value → Option Bool
  | [], [] => some true
  | .int k a :: r, .int k' b :: r' => if k = k' then (match eqsA r r' with | some c => some (a == b && c) | none => none) else none
  | _, _ => none

def maxL : Value → List Value → Option Value
  | x, [] => some x
  | .int k x, .int k' y :: r => if k = k' then maxL (.int k (if y > x then y else x)) r else none
  | _, _ => none

def minL : Value → List Value → Option Value
  | x, [] => some x
  | .int k x, .int k' y :: r => if k = k' then minL (.int k (if y < x then y else x)) r else none
  | _, _ => none

def isInt : Value → Bool
  | .int _ _ => true
  | _ => false

def bndA (v : Option Value) (dflt : Int) : Option Int :=
  match v with
  | none => some dflt
  | some (.int _ i) => some i
  | _ => none

/-- The row that a slice lies in has elements of this size (or is never written). -/
def fitA (H : AH) (a : Option Addr) (size : Nat) : Bool :=
  match a with
  | none => true
  | some a => match H[a.block]? with
    | some (.rw e _) => e == size
    | some (.ro _) => true
    | _ => false

/-- An operation's value, and the boxes and the heap behind it. -/
def popA (s : St) (o : SO) (d : Option Tmp) : Option (Value × LS × AH) :=
  let pure (v : Value) : Option (Value × LS × AH) := some (v, s.L, s.H)
  match o with
  | .mv x => pure (s.ev x)
  | .pick c a b => match s.ev c with
    | .bool t => pure (if t then s.ev a else s.ev b)
    | _ => none
  | .box x => match d with
    | some d =>
      if isU (s.ev x) then none else
      let g := match lget s.L d with | some (g, _) => g + 1 | none => 0
      some (.pointer (some ⟨d, 0, some g⟩), (d, g, .cells (s.ev x).cells.toList) :: s.L, s.H)
    | none => none
  | .ptr x off => match s.ev x with
    | .pointer (some a) => pure (.pointer (some (aadd a off)))
    | _ => none
  | .elem size x ix => match s.ev x, s.ev ix with
    | .slice a n _, .int _ i => if 0 ≤ i ∧ i < n then pure (.pointer (a.map (aadd · (i.toNat * size)))) else none
    | _, _ => none
  | .elemA n size x ix => match s.ev x, s.ev ix with
    | .pointer (some a), .int _ i => if 0 ≤ i ∧ i < n then pure (.pointer (some (aadd a (i.toNat * size)))) else none
    | _, _ => none
  | .ld x => match s.ev x with
    | .pointer a => match a.bind (cellAt s.L s.H) with
      | some v => pure v
      | none => none
    | _ => none
  | .ldn n x => match s.ev x with
    | .pointer a => match a.bind (cellsAt s.L s.H · n) with
      | some vs => pure (.agg vs.toArray)
      | none => none
    | _ => none
  | .st n x v => match s.ev x with
    | .pointer (some a) =>
      if isU (s.ev v) = false ∧ (s.ev v).cells.size = n then (storeAt s a (s.ev v).cells.toList).map fun (L, H) => (.tuple #[], L, H) else none
    | _ => none
  | .nilc x => match s.ev x with
    | .pointer (some a) => pure (.pointer (some a))
    | .func (.func f) a b => pure (.func (.func f) a b)
    | _ => none
  | .bin op x y => (binA op (s.ev x) (s.ev y)).bind pure
  | .eqb neg x y => match s.ev x, s.ev y with
    | .bool a, .bool b => pure (.bool (if neg then !(a == b) else a == b))
    | _, _ => none
  | .eqs neg n x y => match s.ev x, s.ev y with
    | .agg a, .agg b => if a.size = n then (eqsA a.toList b.toList).bind fun e => pure (.bool (if neg then !e else e)) else none
    | _, _ => none
  | .un op x => (unA op (s.ev x)).bind pure
  | .conv k x => match s.ev x with
    | .int _ n => pure (.int k (k.wrap n))
    | _ => none
  | .mkf fn first cap => match globs s.L s.H (first.map s.ev) with
    | some (vs, L, H) => (match globs L H (cap.map s.ev) with
      | some (us, L', H') => (match fn with
        | .func _ => some (.func fn vs.toArray us.toArray, L', H')
        | _ => none)
      | none => none)
    | none => none
  | .mks size bytes z l c => match s.ev l, s.ev c with
    | .int _ l, .int _ c => if 0 ≤ l ∧ l ≤ c ∧ c ≤ maxA ∧ z.length = size ∧ 0 < size ∧ bytes ≤ 2 ^ 16 then some (.slice (some ⟨s.H.length, 0, none⟩) l.toNat c.toNat, s.L, s.H ++ [.rw size (zeros z l.toNat)]) else none
    | _, _ => none
  | .slc size x lo hi mx => match s.ev x, bndA (lo.map s.ev) 0, mx with
    | .slice a n c, some l, none => (match bndA (hi.map s.ev) n with
      | some h => if 0 ≤ l ∧ l ≤ h ∧ h ≤ n ∧ fitA s.H a size then pure (.slice (if l = h ∧ l ≠ 0 then none else a.map (aadd · (l.toNat * size))) (h - l).toNat (if c = n then (n - l).toNat else (h - l).toNat + 1)) else none
      | none => none)
    | .slice a n _, some l, some m => (match hi.bind fun h => bndA (some (s.ev h)) n, bndA (some (s.ev m)) n with
      | some h, some m => if 0 ≤ l ∧ l ≤ h ∧ h ≤ m ∧ m ≤ n ∧ fitA s.H a size then pure (.slice (if l = h ∧ l ≠ 0 then none else a.map (aadd · (l.toNat * size))) (h - l).toNat (m - l).toNat) else none
      | _, _ => none)
    | _, _, _ => none
  | .fld off size agg x => match s.ev x with
    | .agg cs => if agg then (if off + size ≤ cs.size then pure (.agg (cs.extract off (off + size))) else none) else (match cs[off]? with | some v => pure v | none => none)
    | _ => none
  | .ext x i => match s.ev x with
    | .tuple vs => (match vs[i]? with | some v => if isU v then none else pure v | none => none)
    | _ => none
  | .build z parts => (fillA z (parts.map fun (o, k, x) => (o, k, s.ev x))).bind fun cs => pure (.agg cs.toArray)
  | .buildS len z parts => match fillA (zeros z len) (parts.map fun (o, k, x) => (o, k, s.ev x)) with
    | some cs => if nlL cs = true then some (.slice (some ⟨s.H.length, 0, none⟩) len len, s.L, s.H ++ [.rw z.length cs]) else none
    | none => none
  | .len x => match s.ev x with
    | .slice _ n _ => pure (.int .i64 n)
    | _ => none
  | .app size bytes z a x => match s.ev a, s.ev x with
    | .slice a n c, .slice b m _ =>
      if m = 0 then pure (.slice a n c) else
      if z.length = size ∧ 0 < size ∧ bytes ≤ 2 ^ 16 ∧ n + m ≤ maxA then
        (match (if n = 0 then some [] else a.bind (cellsAt s.L s.H · (n * size))), b.bind (cellsAt s.L s.H · (m * size)) with
        | some old, some new =>
          if new.all oneC = false ∨ nlL new = false ∨ nlL old = false then none else
          if c = n then some (.slice (some ⟨s.H.length, 0, none⟩) (n + m) (n + m + 1), s.L, s.H ++ [.rw size (old ++ new)]) else
          (match a with
          | none => none
          | some a => (match a.spot, s.H[a.block]? with
            | none, some (.rw e vs) => if s.lim ≤ a.block ∧ e = size ∧ a.off = 0 ∧ n * size = vs.length then some (.slice (some ⟨s.H.length, 0, none⟩) (n + m) (n + m + 1), s.L, s.H.set a.block .dead ++ [.rw size (old ++ new)]) else none
            | _, _ => none))
        | _, _ => none)
      else none
    | _, _ => none
  | .max xs => match xs.map s.ev with
    | x :: r => if isInt x then (maxL x r).bind pure else none
    | [] => none
  | .min xs => match xs.map s.ev with
    | x :: r => if isInt x then (minL x r).bind pure else none
    | [] => none
  | .copy size x y => match s.ev x, s.ev y with
    | .slice a n _, .slice b m _ =>
      if min m n = 0 then pure (.int .i64 0) else
      (match a, b.bind (cellsAt s.L s.H · (min m n * size)) with
      | some a, some vs => if a.spot = none ∧ vs.all oneC = true then (hstore s.H s.lim a.block a.off vs).map fun H => (.int .i64 (min m n : Nat), s.L, H) else none
      | _, _ => none)
    | _, _ => none
  | .call _ _ => none
  | .bad => none

/-- What a call comes to: of which function value, with which arguments, over which heap, from which block on it may write. -/
abbrev CallA := Value → List Value → Nat → AH → Option (Value × AH)

/-- An operation, whatever its guard. -/
def runA (C : CallA) (o : SOp) (s : St) : Option St :=
  match o.op with
  | .call f args => (match globs s.L s.H (args.map s.ev) with
    | some (vs, L, H) => (match (if nl (s.ev f) then C (s.ev f) vs s.lim H else none) with
      | some (v, H') => some ({ s with L := L, H := H' }.put o.dst v)
      | none => none)
    | none => none)
  | op => (match popA s op o.dst with
    | some (v, L, H) => some ({ s with L := L, H := H }.put o.dst v)
    | none => none)

def opA (C : CallA) (o : SOp) (s : St) : Option St :=
  match o.guard with
  | none => runA C o s
  | some (t, w) =>
    match tget s.t t with
    | .bool b => if b = w then runA C o s else some (s.put o.dst SK)
    | .tuple vs => if vs.size = 1 then some (s.put o.dst SK) else none
    | _ => none

def opsA (C : CallA) : List SOp → St → Option St
  | [], s => some s
  | o :: r, s => match opA C o s with
    | some s' => opsA C r s'
    | none => none

/-- An operation of a region that draws its order, whose arguments must not lead to boxed variables of this function. -/
def noLoc (s : St) : SO → Bool
  | .call _ args => nlL (args.map s.ev)
  | .mkf _ a b => nlL (a.map s.ev) && nlL (b.map s.ev)
  | _ => true

def dOp (C : CallA) (k : DK) (o : SOp) (s : St) : Option St :=
  match k with
  | .late => some s
  | .bar => opA C o s
  | _ => if noLoc s o.op then (match opA C o { s with lim := s.H.length } with | some s' => some { s' with lim := s.lim } | none => none) else none

def dOps (C : CallA) : List (DK × SOp) → St → Option St
  | [], s => some s
  | (k, o) :: r, s => match dOp C k o s with
    | some s' => dOps C r s'
    | none => none

def nextG (L : LS) (d : Tmp) : Nat := match lget L d with | some (g, _) => g + 1 | none => 0

def bxA (s : St) (b : BX) : Option St :=
  if isU (s.ev b.v) = false ∧ (s.ev b.v).cells.size = b.n ∧ (s.ev b.v).cells.toList.all oneC = true then
    some { s with t := (b.d, .pointer (some ⟨b.d, 0, some (nextG s.L b.d)⟩)) :: s.t, L := (b.d, nextG s.L b.d, .cells (s.ev b.v).cells.toList) :: s.L }
  else none

def bxsA : List BX → St → Option St
  | [], s => some s
  | b :: r, s => match bxA s b with
    | some s' => bxsA r s'
    | none => none

def rdOk (s : St) : Bool :=
  match s.rd with
  | none => true
  | some b => match s.H[b]? with
    | some (.loop _) => true
    | _ => false

def isFn : Value → Bool
  | .func (.func _) _ _ => true
  | _ => false

/-- Runs code with a bound on the rounds of loops (and the depth). -/
def exA (C : CallA) : Nat → SC → St → Option (Ex × St)
  | 0, _, _ => none
  | _ + 1, .skip, s => some (.normal, s)
  | _ + 1, .ops l, s => (opsA C l s).map fun s => (.normal, s)
  | _ + 1, .draw l bx, s => ((dOps C l s).bind (bxsA bx)).map fun s => (.normal, s)
  | n + 1, .seq a b, s => match exA C n a s with
    | some (.normal, s') => exA C n b s'
    | r => r
  | n + 1, .cond c a b, s => match s.ev c with
    | .bool true => exA C n a s
    | .bool false => exA C n b s
    | _ => none
  | n + 1, .block id a, s => match exA C n a s with
    | some (.exit i, s') => some (if i = id then .normal else .exit i, s')
    | r => r
  | n + 1, .loop a, s => match exA C n a s with
    | some (.normal, s') => exA C n (.loop a) s'
    | r => r
  | _ + 1, .rng f ps asg body, s =>
    if rdOk s = false ∨ nl (s.ev f) = false ∨ isFn (s.ev f) = false then none else
    match C (s.ev f) [.func (.yield s.H.length) #[] #[]] s.lim (s.H ++ [.loop ⟨0, none, s.t, s.L, s.lim, ps, asg, body⟩]) with
    | some (_, H') =>
      (match H'[s.H.length]? with
      | some (.loop r) =>
        if r.st ≠ 0 ∧ r.st ≠ 2 then none else some (r.pend.getD .normal, { s with L := r.L, H := H'.set s.H.length .dead })
      | _ => none)
    | none => none
  | _ + 1, .exit id, s => some (.exit id, s)
  | _ + 1, .ret, s => some (.ret, s)

def resA (s : St) : List SR → Option (List Value)
  | [] => some []
  | .tmp t :: r => (resA s r).map (tget s.t t :: ·)
  | .cell t :: r => match tget s.t t with
    | .pointer a => match a.bind (cellAt s.L s.H), resA s r with
      | some v, some l => some (v :: l)
      | _, _ => none
    | _ => none
  | .cells n t :: r => match tget s.t t with
    | .pointer a => match a.bind (cellsAt s.L s.H · n), resA s r with
      | some vs, some l => some (.agg vs.toArray :: l)
      | _, _ => none
    | _ => none

def tsOf : Nat → List Value → TS
  | _, [] => []
  | i, v :: r => (i, v) :: tsOf (i + 1) r

def packA : List Value → Value
  | [v] => v
  | vs => .tuple vs.toArray

/-- What is said of functions beforehand: 'pure f': f writes to no block that was there when it was called; 'ans f args': what a call without anything bound comes to (proved apart), while the tables hold what is listed. -/
structure PF where
  pure : FuncId → Bool
  tabs : List (Nat × List Value)
  ans : FuncId → List Value → Option Value

instance : CoeFun PF (fun _ => FuncId → Bool) := ⟨PF.pure⟩

def flatB : Value → Value → Bool
  | .bool a, .bool b => a == b
  | .int k a, .int k' b => decide (k = k') && decide (a = b)
  | _, _ => false

def flatsB : List Value → List Value → Bool
  | [], [] => true
  | a :: l, b :: m => flatB a b && flatsB l m
  | _, _ => false

def tabsOk (tabs : List (Nat × List Value)) (H : AH) : Bool := tabs.all fun (g, vs) => match H[g]? with | some (.ro us) => flatsB us vs | _ => false

def orcA (pf : PF) (f : FuncId) (first cap : Array Value) (args : List Value) : Option Value := if first.size = 0 ∧ cap.size = 0 then pf.ans f args else none

/-- A call of a function value. -/
def apA (P : Program) (pf : PF) : Nat → CallA
  | 0, _, _, _, _ => none
  | n + 1, .func (.func f) first cap, args, lim, H =>
    match orcA pf f first cap args with
    | some v => if tabsOk pf.tabs H then some (v, H) else none
    | none =>
    match cFun P f with
    | none => none
    | some sf =>
      match exA (apA P pf n) n sf.body ⟨tsOf 0 (first.toList ++ args ++ cap.toList), [], H, if pf f then H.length else lim, none⟩ with
      | some (.exit _, _) => none
      | some (_, s) =>
        (match resA s sf.res with
        | some vs => (match globs s.L s.H vs with
          | some (vs, _, H') => let v := packA vs; some (v, if pf f && sca v then H else H')
          | none => none)
        | none => none)
      | none => none
  | n + 1, .func (.yield l) first _, args, lim, H =>
    match H[l]? with
    | some (.loop r) =>
      if first.size = 0 ∧ r.st = 0 ∧ lim ≤ r.lim ∧ lim ≤ l ∧ args.length = r.ps.length then
        (match exA (apA P pf n) n r.asg ⟨(r.ps.zip args).reverse ++ r.t, r.L, H.set l (.loop { r with st := 4, L := [] }), r.lim, some l⟩ with
        | some (.normal, s) =>
          (match s.H[l]? with
          | some (.loop r1) =>
            if r1.st = 4 then
              (match exA (apA P pf n) n r.body { s with H := s.H.set l (.loop { r with st := 1, pend := r1.pend, L := [] }) } with
              | some (e, s') =>
                (match s'.H[l]? with
                | some (.loop _) => some (.bool (decide (e = .normal)), s'.H.set l (.loop { r with st := if e = .normal then 0 else 2, pend := if e = .normal then none else some e, L := s'.L }))
                | _ => none)
              | none => none)
            else none
          | _ => none)
        | _ => none)
      else none
    | _ => none
  | _ + 1, _, _, _, _ => none
end Go.Proofs.YtjejcbiilimjkaaDoor
