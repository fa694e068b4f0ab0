import Derived.RangeFuncNested
import Derived.RangeFuncLeaves
import Derived.KernelRfl
namespace Go.Proofs.YtjejcbiilimjkaaDoor
open Go

/-- A resolved operation: what the types say (sizes, offsets, zero values) stands in it. -/
inductive SO where
  | mv (x : Operand)
  | pick (c a b : Operand)
  | box (x : Operand)
  | ptr (x : Operand) (off : Nat)
  | elem (size : Nat) (x ix : Operand)
  | elemA (len size : Nat) (x ix : Operand)
  | ld (x : Operand)
  | ldn (n : Nat) (x : Operand)
  | st (n : Nat) (x v : Operand)
  | nilc (x : Operand)
  | bin (op : BinOp) (x y : Operand)
  | eqb (neg : Bool) (x y : Operand)
  | eqs (neg : Bool) (n : Nat) (x y : Operand)
  | un (op : UnOp) (x : Operand)
  | conv (k : IntKind) (x : Operand)
  | mkf (fn : Fn) (first captured : List Operand)
  | mks (size bytes : Nat) (zero : List Value) (l c : Operand)
  | slc (size : Nat) (x : Operand) (lo hi mx : Option Operand)
  | fld (off size : Nat) (agg : Bool) (x : Operand)
  | ext (x : Operand) (i : Nat)
  | build (zero : List Value) (parts : List (Nat × Nat × Operand))
  | buildS (len : Nat) (zero : List Value) (parts : List (Nat × Nat × Operand))
  | call (f : Operand) (args : List Operand)
  | len (x : Operand)
  | app (size bytes : Nat) (zero : List Value) (s x : Operand)
  | max (xs : List Operand)
  | min (xs : List Operand)
  | copy (size : Nat) (d s : Operand)
  | bad

structure SOp where
  dst : Option Tmp
  guard : Option (Tmp × Bool)
  op : SO

/-- What an operation of a region whose order is drawn may do: read; add to the heap; anything; or it makes a boxed variable that nobody else sees. -/
inductive DK where
  | free
  | chain
  | bar
  | late
  deriving DecidableEq

/-- A boxed variable that is made within such a region: its operation, the one that sets it, its temporary, its size, its zero value, what is set. -/
structure BX where
  i : Nat
  k : Option Nat
  d : Tmp
  n : Nat
  z : Value
  v : Operand

inductive SC where
  | skip
  | ops (l : List SOp)
  | draw (l : List (DK × SOp)) (bx : List BX)
  | seq (a b : SC)
  | cond (c : Operand) (a b : SC)
  | block (id : Nat) (a : SC)
  | loop (a : SC)
  | rng (f : Operand) (ps : List Tmp) (asg body : SC)
  | exit (id : Nat)
  | ret

mutual
/-- Nothing in it leads to memory. -/
def sca : Value → Bool
  | .pointer a => a.isNone
  | .slice a n c => a.isNone && n == 0 && c == 0
  | .agg vs => scaL vs.toList
  | .tuple vs => scaL vs.toList
  | .func _ _ _ => false
  | .map a => a.isNone
  | .chan a => a.isNone
  | .iface _ v => sca v
  | _ => true
def scaL : List Value → Bool
  | [] => true
  | v :: r => sca v && scaL r
end

variable (P : Program)

def isAggT (t : TypeId) : Bool := match P.underlying t with | some (.struct _) | some (.array _ _) => true | _ => false

def zeroOf (t : TypeId) : Option Value := (P.info? t).bind (·.zero)

/-- A zero value that leads nowhere. -/
def zeroS (t : TypeId) : Option Value := (zeroOf P t).bind fun z => if sca z then some z else none

def fieldOf (t : TypeId) (f : Nat) : Option (Nat × Nat × Bool) :=
  match P.underlying t with
  | some (.struct fs) => do
    let fl ← fs[f]?
    let i ← P.info? fl.type
    let _ ← P.underlying fl.type
    pure (fl.offset, i.size, isAggT P fl.type)
  | _ => none

def partsAt (place : Nat → Option (Nat × Nat)) : List (Nat × Operand) → Option (List (Nat × Nat × Operand))
  | [] => some []
  | (i, x) :: r => match place i, partsAt place r with
    | some (o, k), some l => some ((o, k, x) :: l)
    | _, _ => none

def partsOf (t : TypeId) (parts : List (Nat × Operand)) : Option (List (Nat × Nat × Operand)) :=
  match P.underlying t with
  | some (.struct fs) => match fs.toList.mapM (fun f => (P.info? f.type).map fun i => (f.offset, i.size)) with
    | some places => partsAt (places[·]?) parts
    | none => none
  | some (.array _ e) => match P.info? e with
    | some i => partsAt (fun j => some (j * i.size, i.size)) parts
    | none => none
  | _ => none

def intT (t : TypeId) : Bool := match P.underlying t with | some (.int _) => true | _ => false

def cEq (neg : Bool) (t : TypeId) (x y : Operand) : Option SO :=
  match P.underlying t with
  | some (.bool) => some (.eqb neg x y)
  | some (.struct fs) => do
    let i ← P.info? t
    if i.size = fs.size ∧ (fs.toList.zipIdx.all fun (f, k) => intT P f.type && f.offset == k && f.name != "_") ∧ !P.stoodInHeld t ∧ !P.eqGuardType P.depth t then some (.eqs neg i.size x y) else none
  | _ => none

def cOp? (o : Oper) : Option SO :=
  match o.op with
  | .move x | .assign x => some (.mv x)
  | .pick c a b => some (.pick c a b)
  | .alloc e => do some (.box (.const (← zeroOf P e)))
  | .box _ x => some (.box x)
  | .fieldAddr s x f => do
    let (off, size, _) ← fieldOf P s f
    if size = 0 then none else some (.ptr x off)
  | .indexAddr t x ix =>
    match P.underlying t with
    | some (.slice e) => do let i ← P.info? e; some (.elem i.size x ix)
    | some (.array n e) => do let i ← P.info? e; some (.elemA n i.size x ix)
    | _ => none
  | .load t x => do
    let i ← P.info? t
    let _ ← P.underlying t
    if isAggT P t then some (.ldn i.size x) else some (.ld x)
  | .store t a v => do let i ← P.info? t; some (.st i.size a v)
  | .nilCheck x => some (.nilc x)
  | .binOp op t x y _ =>
    match op with
    | .eql => if intT P t then some (.bin .eql x y) else cEq P false t x y
    | .neq => if intT P t then some (.bin .neq x y) else cEq P true t x y
    | _ => if intT P t then some (.bin op x y) else none
  | .unOp op _ x => some (.un op x)
  | .convert s d x => match P.underlying s, P.underlying d with
    | some (.int _), some (.int k) => some (.conv k x)
    | _, _ => none
  | .makeFunc fn first cap => some (.mkf fn first.toList cap.toList)
  | .makeSlice t l c => match P.underlying t with
    | some (.slice e) => do let i ← P.info? e; some (.mks i.size i.bytes (← zeroS P e).cells.toList l c)
    | _ => none
  | .slice t x lo hi mx => match P.underlying t with
    | some (.slice e) => do let i ← P.info? e; some (.slc i.size x lo hi mx)
    | _ => none
  | .field t x f => do
    let (off, size, agg) ← fieldOf P t f
    some (.fld off size agg x)
  | .extract x i => some (.ext x i)
  | .build t parts => do
    let z ← zeroOf P t
    if sca z = false then none else some (.build z.cells.toList (← partsOf P t parts.toList))
  | .buildSlice t len parts => match P.underlying t with
    | some (.slice e) => do
      let i ← P.info? e
      let z ← i.zero
      if len * i.size > 2 ^ 16 ∨ z.cells.size ≠ i.size ∨ i.size = 0 ∨ sca z = false then none else
      some (.buildS len z.cells.toList (← partsAt (fun j => some (j * i.size, i.size)) parts.toList))
    | _ => none
  | .call c =>
    match c.callee with
    | .builtin .len => match c.argTypes[0]?, c.args.toList with
      | some t, [x] => (match P.underlying t with | some (.slice _) => some (.len x) | some (.array n _) => some (.mv (.const (.int .i64 n))) | _ => none)
      | _, _ => none
    | .builtin .append => match c.argTypes.toList, c.args.toList with
      | [t, u], [s, x] => (match P.underlying t, P.underlying u with
        | some (.slice e), some (.slice _) => if t = u then do let i ← P.info? e; some (.app i.size i.bytes (← zeroS P e).cells.toList s x) else none
        | _, _ => none)
      | _, _ => none
    | .builtin .max => some (.max c.args.toList)
    | .builtin .min => some (.min c.args.toList)
    | .builtin .copy => match c.argTypes.toList, c.args.toList with
      | [t, u], [d, s] => (match P.underlying t, P.underlying u with
        | some (.slice e), some (.slice _) => do let i ← P.info? e; some (.copy i.size d s)
        | _, _ => none)
      | _, _ => none
    | _ => none
  | _ => none

def oL : Option Operand → List Operand
  | none => []
  | some x => [x]

def SO.xs : SO → List Operand
  | .mv x | .box x | .ptr x _ | .ld x | .ldn _ x | .nilc x | .un _ x | .conv _ x | .fld _ _ _ x | .ext x _ | .len x => [x]
  | .pick a b c => [a, b, c]
  | .elem _ x y | .elemA _ _ x y | .st _ x y | .bin _ x y | .eqb _ x y | .eqs _ _ x y | .mks _ _ _ x y | .app _ _ _ x y | .copy _ x y => [x, y]
  | .mkf _ a b => a ++ b
  | .slc _ x a b c => x :: (oL a ++ oL b ++ oL c)
  | .build _ ps | .buildS _ _ ps => ps.map (·.2.2)
  | .call f args => f :: args
  | .max l | .min l => l
  | .bad => []

/-- An operand that can be read in both machines alike. -/
def xOk (x : Operand) : Bool :=
  match x with
  | .tmp _ => true
  | .const v => sca v
  | .global g => g < P.globals.size
  | .func _ => true

def SO.isCall : SO → Bool
  | .call _ _ => true
  | _ => false

/-- An operation that is not served becomes one that does not run. -/
def cOp (o : Oper) : SO :=
  match o.op with
  | .call ⟨.value f, args, _⟩ => if (f :: args.toList).all (xOk P) then .call f args.toList else .bad
  | _ => match cOp? P o with
    | some so => if so.isCall = false ∧ so.xs.all (xOk P) then so else .bad
    | none => .bad

/-- 'nt': how many temporaries the function has: each that is written lies among them. -/
def cSOp (nt : Nat) (ops : Array Oper) (o : Oper) : Option SOp :=
  if o.dst.all (· < nt) then
    match o.guard with
    | none => some ⟨o.dst, none, cOp P o⟩
    | some (j, w) => (((ops[j]?).bind (·.dst)).map fun d => ⟨o.dst, some (d, w), cOp P o⟩)
  else none

def cOps (nt : Nat) (ops : Array Oper) : List Oper → Option (List SOp)
  | [] => some []
  | o :: r => match cSOp P nt ops o, cOps nt ops r with
    | some x, some y => some (x :: y)
    | _, _ => none

def bindE (e : Edge) : Bool := Region.binds .any e

/-- Which operations are surely done before each, as bits. -/
def maskOf (acc : List Nat) (l : List Edge) : Nat := l.foldl (fun m e => if bindE e then m ||| (acc.getD e.on 0 ||| 1 <<< e.on) else m) 0

def masksGo : List Oper → List Nat → List Nat
  | [], acc => acc
  | o :: r, acc => masksGo r (acc ++ [maskOf acc o.after.toList])

/-- One of the two is surely done before the other, in the order of the text. -/
def cmpB (ms : List Nat) (i j : Nat) : Bool := if i < j then (ms.getD j 0).testBit i else (ms.getD i 0).testBit j

def SOp.look (o : SOp) : List Tmp := (o.op.xs.filterMap fun | .tmp t => some t | _ => none) ++ (match o.guard with | some (t, _) => [t] | none => [])

def SO.isRead : SO → Bool
  | .ld _ | .ldn _ _ | .slc _ _ _ _ _ => true
  | _ => false

/-- It touches no memory, or reads it. -/
def SO.isFree : SO → Bool
  | .st _ _ _ | .box _ | .call _ _ | .mks _ _ _ _ _ | .buildS _ _ _ | .app _ _ _ _ _ | .copy _ _ _ | .bad => false
  | _ => true

/-- It adds to the heap. -/
def SO.isAdd : SO → Bool
  | .call _ _ | .mks _ _ _ _ _ | .buildS _ _ _ | .app _ _ _ _ _ => true
  | _ => false

def looksAt (l : List SOp) (d : Tmp) : List Nat := (List.range l.length).filter fun k => match l[k]? with | some o => o.look.contains d | none => false

def writesTo (l : List SOp) (d : Tmp) : List Nat := (List.range l.length).filter fun k => match l[k]? with | some o => o.dst == some d | none => false

def boxedOf : SOp → Option (Tmp × Value)
  | ⟨some d, none, .box (.const z)⟩ => if sca z then some (d, z) else none
  | _ => none

def setOf (d : Tmp) (n : Nat) : SOp → Option Operand
  | ⟨none, none, .st n' (.tmp d') v⟩ => if d' = d ∧ n' = n then some v else none
  | _ => none

/-- The operation i makes a boxed variable that at most one other one, which sets it, looks at. -/
def bxAt (l : List SOp) (i : Nat) : Option BX :=
  match (l[i]?).bind boxedOf with
  | some (d, z) =>
    (match looksAt l d with
    | [] => some ⟨i, none, d, z.cells.size, z, .const z⟩
    | [k] => (match (l[k]?).bind (setOf d z.cells.size) with
      | some v => some ⟨i, some k, d, z.cells.size, z, v⟩
      | none => none)
    | _ => none)
  | none => none

def bxsOf (l : List SOp) : List BX := (List.range l.length).filterMap (bxAt l)

def kindAt (l : List SOp) (bx : List BX) (ms : List Nat) (i : Nat) : DK :=
  if bx.any fun b => b.i == i || b.k == some i then .late else
  match l[i]? with
  | some o => if o.op.isFree then .free else if (List.range l.length).all (fun j => match l[j]? with | some r => !r.op.isRead || cmpB ms i j | none => true) then .bar else .chain
  | none => .late

def isC (k : DK) : Bool := k == .chain || k == .bar

def pairOk (l : List (DK × SOp)) (ms : List Nat) (i j : Nat) : Bool :=
  match l[i]?, l[j]? with
  | some (ka, a), some (kb, b) =>
    (a.dst.isNone || a.dst != b.dst) && (match b.dst with | some x => !a.look.contains x || (cmpB ms i j && (kb != .late || ka == .late)) | none => true) &&
    (!(isC ka && isC kb) || cmpB ms i j) && (!(ka == .bar && b.op.isRead) || cmpB ms i j)
  | _, _ => false

def oneOk (ops : List Oper) (l : List (DK × SOp)) (i : Nat) : Bool :=
  match ops[i]?, l[i]? with
  | some o, some (k, a) => o.after.toList.all (fun e => !bindE e || decide (e.on < i)) && (match k with | .free => a.op.isFree | .chain => a.op.isAdd | .bar => !a.op.isRead | .late => true)
  | _, _ => false

/-- What is set is there before. -/
def bxOk (l : List (DK × SOp)) (ms : List Nat) (b : BX) : Bool :=
  match b.k, b.v with
  | some k, .tmp x => decide (b.i < k) && x != b.d && (List.range l.length).all fun j => match l[j]? with | some (kj, o) => o.dst != some x || (kj != .late && (ms.getD k 0).testBit j) | none => true
  | _, .tmp _ => false
  | some k, v => decide (b.i < k) && xOk P v
  | none, _ => true

/-- What a region that draws its order must bear so that each order gives the same. -/
def drawOk (ops : List Oper) (l : List (DK × SOp)) (bx : List BX) (ms : List Nat) : Bool :=
  (List.range l.length).all (fun i => oneOk ops l i && (List.range l.length).all fun j => i == j || pairOk l ms i j) && bx.all (bxOk P l ms)

def cDraw (nt : Nat) (ops : Array Oper) : Option (List (DK × SOp) × List BX) :=
  match cOps P nt ops ops.toList with
  | some l =>
    let ms := masksGo ops.toList []
    let bx := bxsOf l
    let kl := ((List.range l.length).map (kindAt l bx ms)).zip l
    if drawOk P ops.toList kl bx ms then some (kl, bx) else none
  | none => none

def cCode (nt : Nat) : Code → Option SC
  | .skip => some .skip
  | .region _ ops false => (cOps P nt ops ops.toList).map .ops
  | .region _ ops true => (cDraw P nt ops).map fun (l, bx) => .draw l bx
  | .seq a b => match cCode nt a, cCode nt b with | some x, some y => some (.seq x y) | _, _ => none
  | .cond c a b => if xOk P c then (match cCode nt a, cCode nt b with | some x, some y => some (.cond c x y) | _, _ => none) else none
  | .block id a => (cCode nt a).map (.block id)
  | .loop a => (cCode nt a).map .loop
  | .rangeFunc f ps asg body => if ps.all (· < nt) ∧ xOk P f then (match cCode nt asg, cCode nt body with | some x, some y => some (.rng f ps.toList x y) | _, _ => none) else none
  | .exit id => some (.exit id)
  | .ret => some .ret
  | _ => none

/-- A result: a temporary; a boxed variable of one cell, of several. -/
inductive SR where
  | tmp (t : Tmp)
  | cell (t : Tmp)
  | cells (n : Nat) (t : Tmp)

def cRes : List ResultVar → Option (List SR)
  | [] => some []
  | .tmp t :: r => (cRes r).map (.tmp t :: ·)
  | .cell a t :: r => match P.info? t, P.underlying t, cRes r with
    | some i, some _, some l => some ((if isAggT P t then .cells i.size a else .cell a) :: l)
    | _, _, _ => none

structure SF where
  nt : Nat
  res : List SR
  body : SC

def cFun (f : FuncId) : Option SF :=
  match P.funcs[f]? with
  | none => none
  | some fn => if fn.name == "runtime.NumGoroutine" then none else match fn.body with
    | none => none
    | some c => match cCode P fn.ntmps c, cRes P fn.results.toList with
      | some b, some r => some ⟨fn.ntmps, r, b⟩
      | _, _ => none
end Go.Proofs.YtjejcbiilimjkaaDoor
