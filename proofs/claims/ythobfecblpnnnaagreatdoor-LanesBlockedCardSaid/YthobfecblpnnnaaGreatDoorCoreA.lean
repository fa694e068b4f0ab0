import Derived.RangeFuncNested
import Derived.RangeFuncLeaves
import Derived.KernelRfl
import Derived.ChangeKeysEq
import Derived.Below
import Derived.WalkKit
import Derived.Deep.DeepAppendWide
set_option linter.all false

namespace Go.Proofs.YthobfecblpnnnaaGreatDoor
open Go

/-- A resolved operation: what the types say (sizes, offsets, zero values) stands in it. -/
inductive SO where
  | mv (x : Operand)
  | pick (c a b : Operand)
  | box (x : Operand)
  | ptr (x : Operand) (off : Nat)
  | elem (size : Nat) (x ix : Operand)
  | elemA (len size : Nat) (x ix : Operand)
  | ld (x : Operand)
  | ldn (n : Nat) (x : Operand)
  | st (n : Nat) (x v : Operand)
  | nilc (x : Operand)
  | bin (op : BinOp) (x y : Operand)
  | eqb (neg : Bool) (x y : Operand)
  | eqs (neg : Bool) (n : Nat) (x y : Operand)
  | un (op : UnOp) (x : Operand)
  | conv (k : IntKind) (x : Operand)
  | mkf (fn : Fn) (first captured : List Operand)
  | mks (size bytes : Nat) (zero : List Value) (l c : Operand)
  | slc (size : Nat) (x : Operand) (lo hi mx : Option Operand)
  | fld (off size : Nat) (agg : Bool) (x : Operand)
  | ext (x : Operand) (i : Nat)
  | build (zero : List Value) (parts : List (Nat × Nat × Operand))
  | buildS (len : Nat) (zero : List Value) (parts : List (Nat × Nat × Operand))
  | call (f : Operand) (args : List Operand)
  | len (x : Operand)
  | app (size bytes : Nat) (zero : List Value) (s x : Operand)
  | max (xs : List Operand)
  | min (xs : List Operand)
  | copy (size : Nat) (d s : Operand)
  | clr (zero : List Value) (x : Operand)
  | nils (neg : Bool) (x : Operand)
  | sidx (s : List Nat) (ix : Operand)
  | bad

structure SOp where
  dst : Option Tmp
  guard : Option (Tmp × Bool)
  op : SO

/-- What an operation of a region whose order is drawn may do: read; add to the heap; anything; or it makes a boxed variable that nobody else sees. -/
inductive DK where
  | free
  | chain
  | bar
  | late
  deriving DecidableEq

/-- A boxed variable that is made within such a region: its operation, the one that sets it, its temporary, its size, its zero value, what is set. -/
structure BX where
  i : Nat
  k : Option Nat
  d : Tmp
  n : Nat
  z : Value
  v : Operand

inductive SC where
  | skip
  | ops (l : List SOp)
  | draw (l : List (DK × SOp)) (bx : List BX)
  | alts (ls : List (List (DK × SOp))) (ds : List Tmp)
  | pre (ts : List Tmp) (a : SC)
  | seq (a b : SC)
  | cond (c : Operand) (a b : SC)
  | block (id : Nat) (a : SC)
  | loop (a : SC)
  | rng (f : Operand) (ps : List Tmp) (asg body : SC)
  | exit (id : Nat)
  | ret

mutual
/-- Nothing in it leads to memory. -/
def sca : Value → Bool
  | .pointer a => a.isNone
  | .slice a n c => a.isNone && n == 0 && c == 0
  | .agg vs => scaL vs.toList
  | .tuple vs => scaL vs.toList
  | .func _ _ _ => false
  | .map a => a.isNone
  | .chan a => a.isNone
  | .iface _ v => sca v
  | _ => true
def scaL : List Value → Bool
  | [] => true
  | v :: r => sca v && scaL r
end

variable (P : Program)

def isAggT (t : TypeId) : Bool := match P.underlying t with | some (.struct _) | some (.array _ _) => true | _ => false

def zeroOf (t : TypeId) : Option Value := (P.info? t).bind (·.zero)

/-- A zero value that leads nowhere. -/
def zeroS (t : TypeId) : Option Value := (zeroOf P t).bind fun z => if sca z then some z else none

def fieldOf (t : TypeId) (f : Nat) : Option (Nat × Nat × Bool) :=
  match P.underlying t with
  | some (.struct fs) => do
    let fl ← fs[f]?
    let i ← P.info? fl.type
    let _ ← P.underlying fl.type
    pure (fl.offset, i.size, isAggT P fl.type)
  | _ => none

def partsAt (place : Nat → Option (Nat × Nat)) : List (Nat × Operand) → Option (List (Nat × Nat × Operand))
  | [] => some []
  | (i, x) :: r => match place i, partsAt place r with
    | some (o, k), some l => some ((o, k, x) :: l)
    | _, _ => none

def partsOf (t : TypeId) (parts : List (Nat × Operand)) : Option (List (Nat × Nat × Operand)) :=
  match P.underlying t with
  | some (.struct fs) => match fs.toList.mapM (fun f => (P.info? f.type).map fun i => (f.offset, i.size)) with
    | some places => partsAt (places[·]?) parts
    | none => none
  | some (.array _ e) => match P.info? e with
    | some i => partsAt (fun j => some (j * i.size, i.size)) parts
    | none => none
  | _ => none

def intT (t : TypeId) : Bool := match P.underlying t with | some (.int _) => true | _ => false

def cEq (neg : Bool) (t : TypeId) (x y : Operand) : Option SO :=
  match P.underlying t with
  | some (.bool) => some (.eqb neg x y)
  | some (.struct fs) => do
    let i ← P.info? t
    if i.size = fs.size ∧ (fs.toList.zipIdx.all fun (f, k) => intT P f.type && f.offset == k && f.name != "_") ∧ !P.stoodInHeld t ∧ !P.eqGuardType P.depth t then some (.eqs neg i.size x y) else none
  | some (.array n e) => do
    let i ← P.info? e
    if i.size = 1 ∧ intT P e = true ∧ !P.eqGuardType P.depth t then some (.eqs neg n x y) else none
  | some (.slice _) => match y with
    | .const (.slice none _ _) => some (.nils neg x)
    | _ => none
  | _ => none

def cOp? (o : Oper) : Option SO :=
  match o.op with
  | .move x | .assign x => some (.mv x)
  | .pick c a b => some (.pick c a b)
  | .alloc e => do some (.box (.const (← zeroOf P e)))
  | .box _ x => some (.box x)
  | .fieldAddr s x f => do
    let (off, size, _) ← fieldOf P s f
    if size = 0 then none else some (.ptr x off)
  | .indexAddr t x ix =>
    match P.underlying t with
    | some (.slice e) => do let i ← P.info? e; some (.elem i.size x ix)
    | some (.array n e) => do let i ← P.info? e; some (.elemA n i.size x ix)
    | _ => none
  | .load t x => do
    let i ← P.info? t
    let _ ← P.underlying t
    if isAggT P t then some (.ldn i.size x) else some (.ld x)
  | .store t a v => do let i ← P.info? t; some (.st i.size a v)
  | .nilCheck x => some (.nilc x)
  | .binOp op t x y _ =>
    match op with
    | .eql => if intT P t then some (.bin .eql x y) else cEq P false t x y
    | .neq => if intT P t then some (.bin .neq x y) else cEq P true t x y
    | _ => if intT P t then some (.bin op x y) else none
  | .unOp op _ x => some (.un op x)
  | .convert s d x => match P.underlying s, P.underlying d with
    | some (.int _), some (.int k) => some (.conv k x)
    | _, _ => none
  | .makeFunc fn first cap => some (.mkf fn first.toList cap.toList)
  | .makeSlice t l c => match P.underlying t with
    | some (.slice e) => do let i ← P.info? e; some (.mks i.size i.bytes (← zeroS P e).cells.toList l c)
    | _ => none
  | .slice t x lo hi mx => match P.underlying t with
    | some (.slice e) => do let i ← P.info? e; some (.slc i.size x lo hi mx)
    | _ => none
  | .field t x f => do
    let (off, size, agg) ← fieldOf P t f
    some (.fld off size agg x)
  | .index t x ix => match P.underlying t, ix with
    | some (.array n e), .const (.int _ k) => do
      let i ← P.info? e
      let _ ← P.underlying e
      if 0 ≤ k ∧ k < n then some (.fld (k.toNat * i.size) i.size (isAggT P e) x) else none
    | some .string, ix => (match x with
      | .const (.string b) => some (.sidx (b.data.toList.map (·.toNat)) ix)
      | _ => none)
    | _, _ => none
  | .extract x i => some (.ext x i)
  | .build t parts => do
    let z ← zeroOf P t
    if sca z = false then none else some (.build z.cells.toList (← partsOf P t parts.toList))
  | .buildSlice t len parts => match P.underlying t with
    | some (.slice e) => do
      let i ← P.info? e
      let z ← i.zero
      if len * i.size > 2 ^ 16 ∨ z.cells.size ≠ i.size ∨ i.size = 0 ∨ sca z = false then none else
      some (.buildS len z.cells.toList (← partsAt (fun j => some (j * i.size, i.size)) parts.toList))
    | _ => none
  | .call c =>
    match c.callee with
    | .builtin .len => match c.argTypes[0]?, c.args.toList with
      | some t, [x] => (match P.underlying t with | some (.slice _) => some (.len x) | some (.array n _) => some (.mv (.const (.int .i64 n))) | _ => none)
      | _, _ => none
    | .builtin .append => match c.argTypes.toList, c.args.toList with
      | [t, u], [s, x] => (match P.underlying t, P.underlying u with
        | some (.slice e), some (.slice _) => if t = u then do let i ← P.info? e; some (.app i.size i.bytes (← zeroS P e).cells.toList s x) else none
        | _, _ => none)
      | _, _ => none
    | .builtin .max => some (.max c.args.toList)
    | .builtin .min => some (.min c.args.toList)
    | .builtin .copy => match c.argTypes.toList, c.args.toList with
      | [t, u], [d, s] => (match P.underlying t, P.underlying u with
        | some (.slice e), some (.slice _) => do let i ← P.info? e; some (.copy i.size d s)
        | _, _ => none)
      | _, _ => none
    | .builtin .clear => match c.argTypes.toList, c.args.toList with
      | [t], [x] => (match P.underlying t with
        | some (.slice e) => do
          let i ← P.info? e
          let z ← zeroS P e
          if z.cells.size = 0 ∨ scaL z.cells.toList = false then none else some (.clr z.cells.toList x)
        | _ => none)
      | _, _ => none
    | _ => none
  | _ => none

def oL : Option Operand → List Operand
  | none => []
  | some x => [x]

def SO.xs : SO → List Operand
  | .mv x | .box x | .ptr x _ | .ld x | .ldn _ x | .nilc x | .un _ x | .conv _ x | .fld _ _ _ x | .ext x _ | .len x | .clr _ x | .nils _ x | .sidx _ x => [x]
  | .pick a b c => [a, b, c]
  | .elem _ x y | .elemA _ _ x y | .st _ x y | .bin _ x y | .eqb _ x y | .eqs _ _ x y | .mks _ _ _ x y | .app _ _ _ x y | .copy _ x y => [x, y]
  | .mkf _ a b => a ++ b
  | .slc _ x a b c => x :: (oL a ++ oL b ++ oL c)
  | .build _ ps | .buildS _ _ ps => ps.map (·.2.2)
  | .call f args => f :: args
  | .max l | .min l => l
  | .bad => []

/-- An operand that can be read in both machines alike. -/
def xOk (x : Operand) : Bool :=
  match x with
  | .tmp _ => true
  | .const v => sca v
  | .global g => g < P.globals.size
  | .func _ => true

def SO.isCall : SO → Bool
  | .call _ _ => true
  | _ => false

/-- An operation that is not served becomes one that does not run. -/
def cOp (o : Oper) : SO :=
  match o.op with
  | .call ⟨.value f, args, _⟩ => if (f :: args.toList).all (xOk P) then .call f args.toList else .bad
  | _ => match cOp? P o with
    | some so => if so.isCall = false ∧ so.xs.all (xOk P) then so else .bad
    | none => .bad

/-- 'nt': how many temporaries the function has: each that is written lies among them. -/
def cSOp (nt : Nat) (ops : Array Oper) (o : Oper) : Option SOp :=
  if o.dst.all (· < nt) then
    match o.guard with
    | none => some ⟨o.dst, none, cOp P o⟩
    | some (j, w) => (((ops[j]?).bind (·.dst)).map fun d => ⟨o.dst, some (d, w), cOp P o⟩)
  else none

def cOps (nt : Nat) (ops : Array Oper) : List Oper → Option (List SOp)
  | [] => some []
  | o :: r => match cSOp P nt ops o, cOps nt ops r with
    | some x, some y => some (x :: y)
    | _, _ => none

def bindE (e : Edge) : Bool := Region.binds .any e

/-- Which operations are surely done before each, as bits. -/
def maskOf (acc : List Nat) (l : List Edge) : Nat := l.foldl (fun m e => if bindE e then m ||| (acc.getD e.on 0 ||| 1 <<< e.on) else m) 0

def masksGo : List Oper → List Nat → List Nat
  | [], acc => acc
  | o :: r, acc => masksGo r (acc ++ [maskOf acc o.after.toList])

/-- One of the two is surely done before the other, in the order of the text. -/
def cmpB (ms : List Nat) (i j : Nat) : Bool := if i < j then (ms.getD j 0).testBit i else (ms.getD i 0).testBit j

def SOp.look (o : SOp) : List Tmp := (o.op.xs.filterMap fun | .tmp t => some t | _ => none) ++ (match o.guard with | some (t, _) => [t] | none => [])

def SO.isRead : SO → Bool
  | .ld _ | .ldn _ _ | .slc _ _ _ _ _ => true
  | _ => false

/-- It touches no memory, or reads it. -/
def SO.isFree : SO → Bool
  | .st _ _ _ | .box _ | .call _ _ | .mks _ _ _ _ _ | .buildS _ _ _ | .app _ _ _ _ _ | .copy _ _ _ | .clr _ _ | .bad => false
  | _ => true

/-- It adds to the heap. -/
def SO.isAdd : SO → Bool
  | .call _ _ | .mks _ _ _ _ _ | .buildS _ _ _ | .app _ _ _ _ _ => true
  | _ => false

def looksAt (l : List SOp) (d : Tmp) : List Nat := (List.range l.length).filter fun k => match l[k]? with | some o => o.look.contains d | none => false

def writesTo (l : List SOp) (d : Tmp) : List Nat := (List.range l.length).filter fun k => match l[k]? with | some o => o.dst == some d | none => false

def boxedOf : SOp → Option (Tmp × Value)
  | ⟨some d, none, .box (.const z)⟩ => if sca z then some (d, z) else none
  | _ => none

def setOf (d : Tmp) (n : Nat) : SOp → Option Operand
  | ⟨none, none, .st n' (.tmp d') v⟩ => if d' = d ∧ n' = n then some v else none
  | _ => none

/-- The operation i makes a boxed variable that at most one other one, which sets it, looks at. -/
def bxAt (l : List SOp) (i : Nat) : Option BX :=
  match (l[i]?).bind boxedOf with
  | some (d, z) =>
    (match looksAt l d with
    | [] => some ⟨i, none, d, z.cells.size, z, .const z⟩
    | [k] => (match (l[k]?).bind (setOf d z.cells.size) with
      | some v => some ⟨i, some k, d, z.cells.size, z, v⟩
      | none => none)
    | _ => none)
  | none => none

def bxsOf (l : List SOp) : List BX := (List.range l.length).filterMap (bxAt l)

def kindAt (l : List SOp) (bx : List BX) (ms : List Nat) (i : Nat) : DK :=
  if bx.any fun b => b.i == i || b.k == some i then .late else
  match l[i]? with
  | some o => if o.op.isFree then .free else if (List.range l.length).all (fun j => match l[j]? with | some r => !r.op.isRead || cmpB ms i j | none => true) then .bar else .chain
  | none => .late

def isC (k : DK) : Bool := k == .chain || k == .bar

def pairOk (l : List (DK × SOp)) (ms : List Nat) (i j : Nat) : Bool :=
  match l[i]?, l[j]? with
  | some (ka, a), some (kb, b) =>
    (a.dst.isNone || a.dst != b.dst) && (match b.dst with | some x => !a.look.contains x || (cmpB ms i j && (kb != .late || ka == .late)) | none => true) &&
    (!(isC ka && isC kb) || cmpB ms i j) && (!(ka == .bar && b.op.isRead) || cmpB ms i j)
  | _, _ => false

def oneOk (ops : List Oper) (l : List (DK × SOp)) (i : Nat) : Bool :=
  match ops[i]?, l[i]? with
  | some o, some (k, a) => o.after.toList.all (fun e => !bindE e || decide (e.on < i)) && (match k with | .free => a.op.isFree | .chain => a.op.isAdd | .bar => !a.op.isRead | .late => true)
  | _, _ => false

/-- What is set is there before. -/
def bxOk (l : List (DK × SOp)) (ms : List Nat) (b : BX) : Bool :=
  match b.k, b.v with
  | some k, .tmp x => decide (b.i < k) && x != b.d && (List.range l.length).all fun j => match l[j]? with | some (kj, o) => o.dst != some x || (kj != .late && (ms.getD k 0).testBit j) | none => true
  | _, .tmp _ => false
  | some k, v => decide (b.i < k) && xOk P v
  | none, _ => true

/-- What a region that draws its order must bear so that each order gives the same. -/
def drawOk (ops : List Oper) (l : List (DK × SOp)) (bx : List BX) (ms : List Nat) : Bool :=
  (List.range l.length).all (fun i => oneOk ops l i && (List.range l.length).all fun j => i == j || pairOk l ms i j) && bx.all (bxOk P l ms)

def cDraw (nt : Nat) (ops : Array Oper) : Option (List (DK × SOp) × List BX) :=
  match cOps P nt ops ops.toList with
  | some l =>
    let ms := masksGo ops.toList []
    let bx := bxsOf l
    let kl := ((List.range l.length).map (kindAt l bx ms)).zip l
    if drawOk P ops.toList kl bx ms then some (kl, bx) else none
  | none => none

/-! A region of which no order serves for all: each pair whose order matters is tried in both. -/

def SO.isApp : SO → Bool
  | .app _ _ _ _ _ => true
  | _ => false

/-- 'hard': what is appended to may be a list of one's own, which then has another place. -/
def clash (hard : Bool) (a b : SO) : Bool := (!a.isFree && !b.isFree) || (!a.isFree && (!a.isAdd || hard && a.isApp) && b.isRead) || (!b.isFree && (!b.isAdd || hard && b.isApp) && a.isRead)

/-- A pair of operations that come in any order, and of which the order may matter. -/
def conflict (hard : Bool) (nt : Nat) (ops : Array Oper) : Option (Nat × Nat) :=
  match cOps P nt ops ops.toList with
  | some l =>
    let ms := masksGo ops.toList []
    ((List.range l.length).flatMap fun j => (List.range j).map fun i => (i, j)).find? fun (i, j) => !cmpB ms i j && (match l[i]?, l[j]? with | some a, some b => clash hard a.op b.op | _, _ => false)
  | none => none

/-- One more wait: j waits for i. -/
def addAfter (ops : Array Oper) (j i : Nat) : Array Oper := ops.modify j fun o => { o with after := o.after.push ⟨i, .data⟩ }

/-- The operations in an order in which none stands before one that it waits for. -/
def topo (ops : Array Oper) : Nat → Array Bool → List Nat
  | 0, _ => []
  | n + 1, listed => match Region.ready .any ops listed with
    | i :: _ => i :: topo ops n (listed.setIfInBounds i true)
    | [] => []

def relab (ord : List Nat) (o : Oper) : Oper := { o with after := o.after.map fun e => ⟨ord.idxOf e.on, e.ground⟩, guard := o.guard.map fun (j, w) => (ord.idxOf j, w) }

def permute (ops : Array Oper) (ord : List Nat) : Array Oper := (ord.filterMap fun i => (ops[i]?).map (relab ord)).toArray

/-- Each number below n once. -/
def isPerm (n : Nat) (ord : List Nat) : Bool := ord.length == n && (List.range n).all (ord.contains ·) && (ord.all fun x => decide (x < n)) && (List.range n).all fun k => ord.idxOf (ord.getD k n) == k

def sorted (ops : Array Oper) : Option (Array Oper) :=
  let ord := topo ops ops.size (Array.replicate ops.size false)
  if isPerm ops.size ord = true then some (permute ops ord) else none

def altsGo (hard : Bool) (nt : Nat) : Nat → Array Oper → Option (List (Array Oper))
  | 0, _ => none
  | n + 1, ops => match conflict P hard nt ops with
    | none => some [ops]
    | some (i, j) =>
      if i < ops.size ∧ j < ops.size ∧ i ≠ j then
        match sorted (addAfter ops j i), sorted (addAfter ops i j) with
        | some p, some q => (match altsGo hard nt n p, altsGo hard nt n q with | some a, some b => some (a ++ b) | _, _ => none)
        | _, _ => none
      else none

def drawL (nt : Nat) (ops : Array Oper) : Option (List (DK × SOp)) := match cDraw P nt ops with | some (l, []) => some l | _ => none

def drawLs (nt : Nat) : List (Array Oper) → Option (List (List (DK × SOp)))
  | [] => some []
  | o :: r => match drawL P nt o, drawLs nt r with | some l, some ls => some (l :: ls) | _, _ => none

def cAlts (hard : Bool) (nt : Nat) (ops : Array Oper) : Option (List (List (DK × SOp)) × List Tmp) :=
  match altsGo P hard nt 5 ops with
  | some leaves => (match drawLs P nt leaves with
    | some ls =>
      let ds := (ls.headD []).filterMap (·.2.dst)
      if (ls.all fun l => !l.isEmpty && l.all fun o => o.2.dst.all (ds.contains ·)) = true then some (ls, ds) else none
    | none => none)
  | none => none

def cDrawn (nt : Nat) (ops : Array Oper) : Option SC :=
  match cDraw P nt ops with
  | some (l, bx) =>
    if l.any (fun (k, o) => k == .chain && o.op.isApp) then
      (match cAlts P true nt ops with
      | some (ls, ds) => some (.alts ([] :: ls) ds)
      | none => some (.draw l bx))
    else some (.draw l bx)
  | none => (cAlts P false nt ops).map fun (ls, ds) => .alts ls ds

/-- The variables, boxed before, that functions made in a region keep. -/
def capO (ops : List Oper) : List Tmp :=
  (ops.flatMap fun o => match o.op with
    | .makeFunc _ first cap => (first.toList ++ cap.toList).filterMap fun | .tmp t => some t | _ => none
    | _ => []).filter fun t => ops.all fun o => o.dst != some t

def preC (ts : List Tmp) (a : SC) : SC := if ts = [] then a else .pre ts a

def cCode (nt : Nat) : Code → Option SC
  | .skip => some .skip
  | .region _ ops false => (cOps P nt ops ops.toList).map .ops
  | .region _ ops true => (cDrawn P nt ops).map (preC (capO ops.toList))
  | .seq a b => match cCode nt a, cCode nt b with | some x, some y => some (.seq x y) | _, _ => none
  | .cond c a b => if xOk P c then (match cCode nt a, cCode nt b with | some x, some y => some (.cond c x y) | _, _ => none) else none
  | .block id a => (cCode nt a).map (.block id)
  | .loop a => (cCode nt a).map .loop
  | .rangeFunc f ps asg body => if ps.all (· < nt) ∧ xOk P f then (match cCode nt asg, cCode nt body with | some x, some y => some (.rng f ps.toList x y) | _, _ => none) else none
  | .exit id => some (.exit id)
  | .ret => some .ret
  | .label _ => some .skip
  | .scope a => (cCode nt a).map (.seq · .skip)
  | _ => none

/-- A result: a temporary; a boxed variable of one cell, of several. -/
inductive SR where
  | tmp (t : Tmp)
  | cell (t : Tmp)
  | cells (n : Nat) (t : Tmp)

def cRes : List ResultVar → Option (List SR)
  | [] => some []
  | .tmp t :: r => (cRes r).map (.tmp t :: ·)
  | .cell a t :: r => match P.info? t, P.underlying t, cRes r with
    | some i, some _, some l => some ((if isAggT P t then .cells i.size a else .cell a) :: l)
    | _, _, _ => none

structure SF where
  nt : Nat
  res : List SR
  body : SC

def cFun (f : FuncId) : Option SF :=
  match P.funcs[f]? with
  | none => none
  | some fn => if fn.name == "runtime.NumGoroutine" then none else match fn.body with
    | none => none
    | some c => match cCode P fn.ntmps c, cRes P fn.results.toList with
      | some b, some r => some ⟨fn.ntmps, r, b⟩
      | _, _ => none
end Go.Proofs.YthobfecblpnnnaaGreatDoor

/- The abstract machine: it runs the compact form of a function over a heap of its own, in which blocks are named by number and capacities are not known. -/
namespace Go.Proofs.YthobfecblpnnnaaGreatDoor
open Go

/-- How a piece of code is left. -/
inductive Ex where
  | normal
  | exit (id : Nat)
  | ret
  deriving DecidableEq

/-- What a boxed variable of the running function holds: its cells, or where on the heap it has been put. -/
inductive LC where
  | cells (vs : List Value)
  | fwd (b : Nat)

abbrev LS := List (Nat × Nat × LC)
abbrev TS := List (Nat × Value)

structure ARec where
  st : Nat
  pend : Option Ex
  t : TS
  L : LS
  lim : Nat
  ps : List Tmp
  asg : SC
  body : SC

inductive ABlk where
  | rw (e : Nat) (vs : List Value)
  | ro (vs : List Value)
  | dead
  | loop (r : ARec)

abbrev AH := List ABlk

structure St where
  t : TS
  L : LS
  H : AH
  lim : Nat
  /-- the record of the loop over a function of which a round runs -/
  rd : Option Nat := none

/-- The mark of a skipped operation. -/
def SK : Value := .tuple #[.tuple #[]]

def tgetGo (i : Nat) : TS → Value
  | [] => .tuple #[]
  | (j, v) :: r => match Nat.beq i j with
    | true => v
    | false => tgetGo i r

def tget (t : TS) (i : Nat) : Value := tgetGo i t

theorem tget_nil (i : Nat) : tget [] i = .tuple #[] := rfl
theorem tget_cons (j : Nat) (v : Value) (r : TS) (i : Nat) : tget ((j, v) :: r) i = if i = j then v else tget r i := by
  unfold tget
  rw [tgetGo]
  cases h : Nat.beq i j with
  | true => rw [if_pos (Nat.eq_of_beq_eq_true h)]
  | false => rw [if_neg (Nat.ne_of_beq_eq_false h)]

def lget (L : LS) (d : Nat) : Option (Nat × LC) :=
  match L with
  | [] => none
  | (e, g, c) :: r => if d = e then some (g, c) else lget r d

def St.ev (s : St) : Operand → Value
  | .tmp t => tget s.t t
  | .const v => v
  | .global g => .pointer (some ⟨g, 0, none⟩)
  | .func f => .func (.func f) #[] #[]

def St.put (s : St) (d : Option Tmp) (v : Value) : St :=
  match d with
  | some i => { s with t := (i, v) :: s.t }
  | none => s

def isU : Value → Bool
  | .tuple vs => vs.size == 0
  | _ => false

mutual
/-- No address of a boxed variable stands in it. -/
def nl : Value → Bool
  | .pointer (some a) => a.spot.isNone
  | .agg vs => nlL vs.toList
  | .tuple vs => nlL vs.toList
  | .func _ a b => nlL a.toList && nlL b.toList
  | .iface _ v => nl v
  | _ => true
def nlL : List Value → Bool
  | [] => true
  | v :: r => nl v && nlL r
end

def hcell (H : AH) (b i : Nat) : Option Value :=
  match H[b]? with
  | some (.rw _ vs) => vs[i]?
  | some (.ro vs) => vs[i]?
  | _ => none

def cellAt (L : LS) (H : AH) (a : Addr) : Option Value :=
  match a.spot with
  | none => hcell H a.block a.off
  | some g =>
    match lget L a.block with
    | some (g', .cells vs) => if g = g' then vs[a.off]? else none
    | some (g', .fwd b) => if g = g' then hcell H b a.off else none
    | none => none

def aadd (a : Addr) (n : Nat) : Addr := { a with off := a.off + n }

def cellsAt (L : LS) (H : AH) (a : Addr) : Nat → Option (List Value)
  | 0 => some []
  | n + 1 => match cellAt L H a, cellsAt L H (aadd a 1) n with
    | some v, some r => some (v :: r)
    | _, _ => none

/-- 'vs' with 'ws' laid over it from 'off' on. -/
def over (vs : List Value) (off : Nat) : List Value → List Value
  | [] => vs
  | w :: r => over (vs.set off w) (off + 1) r

def hstore (H : AH) (lim b off : Nat) (ws : List Value) : Option AH :=
  match H[b]? with
  | some (.rw e vs) => if lim ≤ b ∧ off + ws.length ≤ vs.length ∧ nlL ws = true then some (H.set b (.rw e (over vs off ws))) else none
  | _ => none

/-- A value of one cell. -/
def oneC : Value → Bool
  | .agg _ => false
  | .tuple _ => false
  | _ => true

def storeAt (s : St) (a : Addr) (ws : List Value) : Option (LS × AH) :=
  if ws.all oneC = false then none else
  match a.spot with
  | none => (hstore s.H s.lim a.block a.off ws).map fun H => (s.L, H)
  | some g =>
    match lget s.L a.block with
    | some (g', .cells vs) => if g = g' ∧ a.off + ws.length ≤ vs.length then some ((a.block, g, .cells (over vs a.off ws)) :: s.L, s.H) else none
    | some (g', .fwd b) => if g = g' then (hstore s.H s.lim b a.off ws).map fun H => (s.L, H) else none
    | none => none

/-- A value as others may see it: a boxed variable whose address is handed out goes to the heap. -/
def glob (L : LS) (H : AH) (v : Value) : Option (Value × LS × AH) :=
  match v with
  | .pointer (some ⟨d, off, some g⟩) =>
    match lget L d with
    | some (g', .cells vs) => if g = g' ∧ nlL vs = true then some (.pointer (some ⟨H.length, off, none⟩), (d, g, .fwd H.length) :: L, H ++ [.rw 0 vs]) else none
    | some (g', .fwd b) => if g = g' then some (.pointer (some ⟨b, off, none⟩), L, H) else none
    | none => none
  | v => if nl v then some (v, L, H) else none

def globs (L : LS) (H : AH) : List Value → Option (List Value × LS × AH)
  | [] => some ([], L, H)
  | v :: r => match glob L H v with
    | some (v', L', H') => (match globs L' H' r with
      | some (r', L'', H'') => some (v' :: r', L'', H'')
      | none => none)
    | none => none

def fillA (cells : List Value) : List (Nat × Nat × Value) → Option (List Value)
  | [] => some cells
  | (off, size, v) :: r => if isU v = false ∧ v.cells.size = size ∧ off + size ≤ cells.length then fillA (over cells off v.cells.toList) r else none

def zeros (z : List Value) : Nat → List Value
  | 0 => []
  | n + 1 => z ++ zeros z n

/-- No list that the machine makes is longer. -/
def maxA : Nat := 2 ^ 30

def binA (op : BinOp) (x y : Value) : Option Value :=
  match x, y with
  | .int k a, .int k' b =>
    match op with
    | .shl => if 0 ≤ b then some (.int k (k.wrap (a * 2 ^ (min b.toNat k.bits)))) else none
    | .shr => if 0 ≤ b then some (.int k (a.fdiv (2 ^ (min b.toNat k.bits)))) else none
    | .add => if k = k' then some (.int k (k.wrap (a + b))) else none
    | .sub => if k = k' then some (.int k (k.wrap (a - b))) else none
    | .mul => if k = k' then some (.int k (k.wrap (a * b))) else none
    | .quo => if k = k' ∧ b ≠ 0 then some (.int k (k.wrap (a.tdiv b))) else none
    | .rem => if k = k' ∧ b ≠ 0 then some (.int k (a.tmod b)) else none
    | .and => if k = k' then some (.int k (k.wrap (BitVec.ofInt k.bits a &&& BitVec.ofInt k.bits b).toNat)) else none
    | .or => if k = k' then some (.int k (k.wrap (BitVec.ofInt k.bits a ||| BitVec.ofInt k.bits b).toNat)) else none
    | .xor => if k = k' then some (.int k (k.wrap (BitVec.ofInt k.bits a ^^^ BitVec.ofInt k.bits b).toNat)) else none
    | .andNot => if k = k' then some (.int k (k.wrap (BitVec.ofInt k.bits a &&& ~~~ BitVec.ofInt k.bits b).toNat)) else none
    | .eql => if k = k' then some (.bool (a == b)) else none
    | .neq => if k = k' then some (.bool (a != b)) else none
    | .lss => if k = k' then some (.bool (decide (a < b))) else none
    | .leq => if k = k' then some (.bool (decide (a ≤ b))) else none
    | .gtr => if k = k' then some (.bool (decide (a > b))) else none
    | .geq => if k = k' then some (.bool (decide (a ≥ b))) else none
  | _, _ => none

def unA (op : UnOp) (x : Value) : Option Value :=
  match op, x with
  | .neg, .int k n => some (.int k (k.wrap (0 - n)))
  | .not, .bool b => some (.bool !b)
  | _, _ => none

/-- Two structs of integers. -/
def eqsA : List Value → List Value → Option Bool
  | [], [] => some true
  | .int k a :: r, .int k' b :: r' => if k = k' then (match eqsA r r' with | some c => some (a == b && c) | none => none) else none
  | _, _ => none

def maxL : Value → List Value → Option Value
  | x, [] => some x
  | .int k x, .int k' y :: r => if k = k' then maxL (.int k (if y > x then y else x)) r else none
  | _, _ => none

def minL : Value → List Value → Option Value
  | x, [] => some x
  | .int k x, .int k' y :: r => if k = k' then minL (.int k (if y < x then y else x)) r else none
  | _, _ => none

def isInt : Value → Bool
  | .int _ _ => true
  | _ => false

def bndA (v : Option Value) (dflt : Int) : Option Int :=
  match v with
  | none => some dflt
  | some (.int _ i) => some i
  | _ => none

/-- The row that a slice lies in has elements of this size (or is never written). -/
def fitA (H : AH) (a : Option Addr) (size : Nat) : Bool :=
  match a with
  | none => true
  | some a => match H[a.block]? with
    | some (.rw e _) => e == size
    | some (.ro _) => true
    | _ => false

/-- An operation's value, and the boxes and the heap behind it. -/
def popA (s : St) (o : SO) (d : Option Tmp) : Option (Value × LS × AH) :=
  let pure (v : Value) : Option (Value × LS × AH) := some (v, s.L, s.H)
  match o with
  | .mv x => pure (s.ev x)
  | .pick c a b => match s.ev c with
    | .bool t => pure (if t then s.ev a else s.ev b)
    | _ => none
  | .box x => match d with
    | some d =>
      if isU (s.ev x) then none else
      let g := match lget s.L d with | some (g, _) => g + 1 | none => 0
      some (.pointer (some ⟨d, 0, some g⟩), (d, g, .cells (s.ev x).cells.toList) :: s.L, s.H)
    | none => none
  | .ptr x off => match s.ev x with
    | .pointer (some a) => pure (.pointer (some (aadd a off)))
    | _ => none
  | .elem size x ix => match s.ev x, s.ev ix with
    | .slice a n _, .int _ i => if 0 ≤ i ∧ i < n then pure (.pointer (a.map (aadd · (i.toNat * size)))) else none
    | _, _ => none
  | .elemA n size x ix => match s.ev x, s.ev ix with
    | .pointer (some a), .int _ i => if 0 ≤ i ∧ i < n then pure (.pointer (some (aadd a (i.toNat * size)))) else none
    | _, _ => none
  | .ld x => match s.ev x with
    | .pointer a => match a.bind (cellAt s.L s.H) with
      | some v => pure v
      | none => none
    | _ => none
  | .ldn n x => match s.ev x with
    | .pointer a => match a.bind (cellsAt s.L s.H · n) with
      | some vs => pure (.agg vs.toArray)
      | none => none
    | _ => none
  | .st n x v => match s.ev x with
    | .pointer (some a) =>
      if isU (s.ev v) = false ∧ (s.ev v).cells.size = n then (storeAt s a (s.ev v).cells.toList).map fun (L, H) => (.tuple #[], L, H) else none
    | _ => none
  | .nilc x => match s.ev x with
    | .pointer (some a) => pure (.pointer (some a))
    | .func (.func f) a b => pure (.func (.func f) a b)
    | _ => none
  | .bin op x y => (binA op (s.ev x) (s.ev y)).bind pure
  | .eqb neg x y => match s.ev x, s.ev y with
    | .bool a, .bool b => pure (.bool (if neg then !(a == b) else a == b))
    | _, _ => none
  | .eqs neg n x y => match s.ev x, s.ev y with
    | .agg a, .agg b => if a.size = n then (eqsA a.toList b.toList).bind fun e => pure (.bool (if neg then !e else e)) else none
    | _, _ => none
  | .un op x => (unA op (s.ev x)).bind pure
  | .conv k x => match s.ev x with
    | .int _ n => pure (.int k (k.wrap n))
    | _ => none
  | .mkf fn first cap => match globs s.L s.H (first.map s.ev) with
    | some (vs, L, H) => (match globs L H (cap.map s.ev) with
      | some (us, L', H') => (match fn with
        | .func _ => some (.func fn vs.toArray us.toArray, L', H')
        | _ => none)
      | none => none)
    | none => none
  | .mks size bytes z l c => match s.ev l, s.ev c with
    | .int _ l, .int _ c => if 0 ≤ l ∧ l ≤ c ∧ c ≤ maxA ∧ z.length = size ∧ 0 < size ∧ bytes ≤ 2 ^ 16 then some (.slice (some ⟨s.H.length, 0, none⟩) l.toNat c.toNat, s.L, s.H ++ [.rw size (zeros z l.toNat)]) else none
    | _, _ => none
  | .slc size x lo hi mx => match s.ev x, bndA (lo.map s.ev) 0, mx with
    | .slice a n c, some l, none => (match bndA (hi.map s.ev) n with
      | some h => if 0 ≤ l ∧ l ≤ h ∧ h ≤ n ∧ fitA s.H a size then pure (.slice (if l = h ∧ l ≠ 0 then none else a.map (aadd · (l.toNat * size))) (h - l).toNat (if c = n then (n - l).toNat else (h - l).toNat + 1)) else none
      | none => none)
    | .slice a n _, some l, some m => (match hi.bind fun h => bndA (some (s.ev h)) n, bndA (some (s.ev m)) n with
      | some h, some m => if 0 ≤ l ∧ l ≤ h ∧ h ≤ m ∧ m ≤ n ∧ fitA s.H a size then pure (.slice (if l = h ∧ l ≠ 0 then none else a.map (aadd · (l.toNat * size))) (h - l).toNat (m - l).toNat) else none
      | _, _ => none)
    | _, _, _ => none
  | .fld off size agg x => match s.ev x with
    | .agg cs => if agg then (if off + size ≤ cs.size then pure (.agg (cs.extract off (off + size))) else none) else (match cs[off]? with | some v => pure v | none => none)
    | _ => none
  | .ext x i => match s.ev x with
    | .tuple vs => (match vs[i]? with | some v => if isU v then none else pure v | none => none)
    | _ => none
  | .build z parts => (fillA z (parts.map fun (o, k, x) => (o, k, s.ev x))).bind fun cs => pure (.agg cs.toArray)
  | .buildS len z parts => match fillA (zeros z len) (parts.map fun (o, k, x) => (o, k, s.ev x)) with
    | some cs => if nlL cs = true then some (.slice (some ⟨s.H.length, 0, none⟩) len len, s.L, s.H ++ [.rw z.length cs]) else none
    | none => none
  | .len x => match s.ev x with
    | .slice _ n _ => pure (.int .i64 n)
    | _ => none
  | .app size bytes z a x => match s.ev a, s.ev x with
    | .slice a n c, .slice b m _ =>
      if m = 0 then pure (.slice a n c) else
      if z.length = size ∧ 0 < size ∧ bytes ≤ 2 ^ 16 ∧ n + m ≤ maxA then
        (match (if n = 0 then some [] else a.bind (cellsAt s.L s.H · (n * size))), b.bind (cellsAt s.L s.H · (m * size)) with
        | some old, some new =>
          if new.all oneC = false ∨ nlL new = false ∨ nlL old = false then none else
          if c = n then some (.slice (some ⟨s.H.length, 0, none⟩) (n + m) (n + m + 1), s.L, s.H ++ [.rw size (old ++ new)]) else
          (match a with
          | none => none
          | some a => (match a.spot, s.H[a.block]? with
            | none, some (.rw e vs) => if s.lim ≤ a.block ∧ e = size ∧ a.off + n * size = vs.length then some (.slice (some ⟨s.H.length, 0, none⟩) (n + m) (n + m + 1), s.L, s.H.set a.block .dead ++ [.rw size (old ++ new)]) else none
            | _, _ => none))
        | _, _ => none)
      else none
    | _, _ => none
  | .max xs => match xs.map s.ev with
    | x :: r => if isInt x then (maxL x r).bind pure else none
    | [] => none
  | .min xs => match xs.map s.ev with
    | x :: r => if isInt x then (minL x r).bind pure else none
    | [] => none
  | .copy size x y => match s.ev x, s.ev y with
    | .slice a n _, .slice b m _ =>
      if min m n = 0 then pure (.int .i64 0) else
      (match a, b.bind (cellsAt s.L s.H · (min m n * size)) with
      | some a, some vs => if a.spot = none ∧ vs.all oneC = true then (hstore s.H s.lim a.block a.off vs).map fun H => (.int .i64 (min m n : Nat), s.L, H) else none
      | _, _ => none)
    | _, _ => none
  | .nils neg x => match s.ev x with
    | .slice (some _) _ _ => pure (.bool neg)
    | _ => none
  | .sidx l x => match s.ev x with
    | .int _ k => if 0 ≤ k then (match l[k.toNat]? with | some b => pure (.int .u8 b) | none => none) else none
    | _ => none
  | .clr z x => match s.ev x with
    | .slice a n _ =>
      if n = 0 then some (.tuple #[], s.L, s.H) else
      (match a with
      | some a => if a.spot = none ∧ z.all oneC = true then (hstore s.H s.lim a.block a.off (zeros z n)).map fun H => (.tuple #[], s.L, H) else none
      | none => none)
    | _ => none
  | .call _ _ => none
  | .bad => none

/-- What a call comes to: of which function value, with which arguments, over which heap, from which block on it may write. -/
abbrev CallA := Value → List Value → Nat → AH → Option (Value × AH)

/-- An operation, whatever its guard. -/
def runA (C : CallA) (o : SOp) (s : St) : Option St :=
  match o.op with
  | .call f args => (match globs s.L s.H (args.map s.ev) with
    | some (vs, L, H) => (match (if nl (s.ev f) then C (s.ev f) vs s.lim H else none) with
      | some (v, H') => some ({ s with L := L, H := H' }.put o.dst v)
      | none => none)
    | none => none)
  | op => (match popA s op o.dst with
    | some (v, L, H) => some ({ s with L := L, H := H }.put o.dst v)
    | none => none)

def opA (C : CallA) (o : SOp) (s : St) : Option St :=
  match o.guard with
  | none => runA C o s
  | some (t, w) =>
    match tget s.t t with
    | .bool b => if b = w then runA C o s else some (s.put o.dst SK)
    | .tuple vs => if vs.size = 1 then some (s.put o.dst SK) else none
    | _ => none

def opsA (C : CallA) : List SOp → St → Option St
  | [], s => some s
  | o :: r, s => match opA C o s with
    | some s' => opsA C r s'
    | none => none

/-- An operation of a region that draws its order, whose arguments must not lead to boxed variables of this function. -/
def noLoc (s : St) : SO → Bool
  | .call _ args => nlL (args.map s.ev)
  | .mkf _ a b => nlL (a.map s.ev) && nlL (b.map s.ev)
  | _ => true

def dOp (C : CallA) (k : DK) (o : SOp) (s : St) : Option St :=
  match k with
  | .late => some s
  | .bar => opA C o s
  | _ => if noLoc s o.op then (match opA C o { s with lim := s.H.length } with | some s' => some { s' with lim := s.lim } | none => none) else none

def dOps (C : CallA) : List (DK × SOp) → St → Option St
  | [], s => some s
  | (k, o) :: r, s => match dOp C k o s with
    | some s' => dOps C r s'
    | none => none

def nextG (L : LS) (d : Tmp) : Nat := match lget L d with | some (g, _) => g + 1 | none => 0

def bxA (s : St) (b : BX) : Option St :=
  if isU (s.ev b.v) = false ∧ (s.ev b.v).cells.size = b.n ∧ (s.ev b.v).cells.toList.all oneC = true then
    some { s with t := (b.d, .pointer (some ⟨b.d, 0, some (nextG s.L b.d)⟩)) :: s.t, L := (b.d, nextG s.L b.d, .cells (s.ev b.v).cells.toList) :: s.L }
  else none

def bxsA : List BX → St → Option St
  | [], s => some s
  | b :: r, s => match bxA s b with
    | some s' => bxsA r s'
    | none => none

/-! The same values, boxes, blocks (of loops it is never said). -/

mutual
def vEq : Value → Value → Bool
  | .bool a, .bool b => decide (a = b)
  | .int k a, .int k' b => decide (k = k') && decide (a = b)
  | .float k a, .float k' b => decide (k = k') && decide (a = b)
  | .complex k a a', .complex k' b b' => decide (k = k') && decide (a = b) && decide (a' = b')
  | .string a, .string b => decide (a = b)
  | .pointer a, .pointer b => decide (a = b)
  | .slice a n c, .slice b n' c' => decide (a = b) && decide (n = n') && decide (c = c')
  | .map a, .map b => decide (a = b)
  | .chan a, .chan b => decide (a = b)
  | .func f x y, .func f' x' y' => decide (f = f') && vEqL x.toList x'.toList && vEqL y.toList y'.toList
  | .nilFunc, .nilFunc => true
  | .iface t v, .iface t' v' => decide (t = t') && vEq v v'
  | .nilIface, .nilIface => true
  | .agg x, .agg x' => vEqL x.toList x'.toList
  | .tuple x, .tuple x' => vEqL x.toList x'.toList
  | _, _ => false
def vEqL : List Value → List Value → Bool
  | [], [] => true
  | v :: r, v' :: r' => vEq v v' && vEqL r r'
  | _, _ => false
end

def lcEq : LC → LC → Bool
  | .cells vs, .cells vs' => vEqL vs vs'
  | .fwd b, .fwd b' => decide (b = b')
  | _, _ => false
def lsEq : LS → LS → Bool
  | [], [] => true
  | (d, g, c) :: r, (d', g', c') :: r' => decide (d = d') && decide (g = g') && lcEq c c' && lsEq r r'
  | _, _ => false
def blkEq : ABlk → ABlk → Bool
  | .rw e vs, .rw e' vs' => decide (e = e') && vEqL vs vs'
  | .ro vs, .ro vs' => vEqL vs vs'
  | .dead, .dead => true
  | _, _ => false
def hpEq : AH → AH → Bool
  | [], [] => true
  | x :: r, x' :: r' => blkEq x x' && hpEq r r'
  | _, _ => false

def runAlts (C : CallA) (s : St) (lim : Nat) : List (List (DK × SOp)) → Option (List St)
  | [] => some []
  | l :: r => match dOps C l { s with lim := lim }, runAlts C s lim r with
    | some x, some y => some (x :: y)
    | _, _ => none

/-- What all runs say of the temporaries. -/
def mergeT (t : TS) (r1 : St) (rs : List St) (all : Bool) : List Tmp → TS
  | [] => t
  | d :: ds => (d, if (all || sca (tget r1.t d)) && rs.all (fun r => vEq (tget r.t d) (tget r1.t d)) then tget r1.t d else .tuple #[]) :: mergeT t r1 rs all ds

/-! Two lists that are made in either order: the same, but for their names. -/

/-- Lists of the names n and n + 1, exchanged. -/
def swV (n : Nat) : Value → Value → Bool
  | .slice (some a) k c, .slice (some b) k' c' => decide (k = k') && decide (c = c') && decide (a.off = b.off) && a.spot.isNone && b.spot.isNone && (decide (a.block = n) && decide (b.block = n + 1) || decide (a.block = n + 1) && decide (b.block = n))
  | _, _ => false
/-- The same as before, or what leads nowhere, or exchanged. -/
def swOk (n : Nat) (p a b : Value) : Bool := swV n a b || (vEq a b && (sca a || vEq a p))
def swCs (n : Nat) : List Value → List Value → List Value → Bool
  | p :: ps, a :: as, b :: bs => swOk n p a b && swCs n ps as bs
  | [], [], [] => true
  | _, _, _ => false
def swLc (n : Nat) : Option (Nat × LC) → LC → LC → Bool
  | some (_, .cells ps), .cells as, .cells bs => swCs n ps as bs
  | _, _, _ => false
def swLs (n : Nat) (L : LS) : LS → LS → Bool
  | X, Y => if X.length ≤ L.length then lsEq X L && lsEq Y L else
    match X, Y with
    | (d, g, c) :: X', (d', g', c') :: Y' => decide (d = d') && decide (g = g') && swLc n (lget L d) c c' && swLs n L X' Y'
    | _, _ => false
def swHp : AH → AH → Bool
  | [.rw e vs, .rw e' vs'], [.rw f us, .rw f' us'] => decide (e = f') && decide (e' = f) && vEqL vs us' && vEqL vs' us && scaL vs && scaL vs'
  | _, _ => false
def swSt (s r r1 : St) : Bool := swHp (r.H.drop s.H.length) (r1.H.drop s.H.length) && swLs s.H.length s.L r.L r1.L

/-- What all runs have in common: their state; or that before them, and what leads nowhere; or their state but for two names. -/
def mergeA (s : St) (ds : List Tmp) : List St → Option St
  | [] => none
  | r1 :: rs =>
    if rs.all (fun r => lsEq r.L r1.L && hpEq (r.H.drop s.H.length) (r1.H.drop s.H.length)) then some { s with t := mergeT s.t r1 rs true ds, L := r1.L, H := r1.H } else
    if (r1 :: rs).all (fun r => lsEq r.L s.L) then some { s with t := mergeT s.t r1 rs false ds } else
    if rs.all (fun r => lsEq r.L r1.L && hpEq (r.H.drop s.H.length) (r1.H.drop s.H.length) || swSt s r r1) then some { s with t := mergeT s.t r1 rs false ds, L := r1.L, H := r1.H } else none

/-- All runs end with the same heap. -/
def mergeW (s : St) (ds : List Tmp) : List St → Option St
  | [] => none
  | r1 :: rs => if rs.all (fun r => lsEq r.L r1.L && hpEq r.H r1.H) then some { s with t := mergeT s.t r1 rs true ds, L := r1.L, H := r1.H } else none

/-- (An empty order ahead of the others says that what is one's own may be written.) -/
def altsA (C : CallA) (ls : List (List (DK × SOp))) (ds : List Tmp) (s : St) : Option St :=
  match ls with
  | [] :: r => (runAlts C s s.lim r).bind (mergeW s ds)
  | ls => (runAlts C s s.H.length ls).bind (mergeA s ds)

/-- A boxed variable of this function whose address is in a temporary goes to the heap. -/
def preOne (t : Tmp) (s : St) : St :=
  match tget s.t t with
  | .pointer (some a) =>
    (match a.spot with
    | some _ => (match glob s.L s.H (.pointer (some a)) with
      | some (v, L, H) => { s with t := (t, v) :: s.t, L := L, H := H }
      | none => s)
    | none => s)
  | _ => s

def preA : List Tmp → St → St
  | [], s => s
  | t :: r, s => preA r (preOne t s)

def rdOk (s : St) : Bool :=
  match s.rd with
  | none => true
  | some b => match s.H[b]? with
    | some (.loop _) => true
    | _ => false

def isFn : Value → Bool
  | .func (.func _) _ _ => true
  | _ => false

/-- Runs code with a bound on the rounds of loops (and the depth). -/
def exA (C : CallA) : Nat → SC → St → Option (Ex × St)
  | 0, _, _ => none
  | _ + 1, .skip, s => some (.normal, s)
  | _ + 1, .ops l, s => (opsA C l s).map fun s => (.normal, s)
  | _ + 1, .draw l bx, s => ((dOps C l s).bind (bxsA bx)).map fun s => (.normal, s)
  | _ + 1, .alts ls ds, s => (altsA C ls ds s).map fun s => (.normal, s)
  | n + 1, .pre ts a, s => exA C n a (preA ts s)
  | n + 1, .seq a b, s => match exA C n a s with
    | some (.normal, s') => exA C n b s'
    | r => r
  | n + 1, .cond c a b, s => match s.ev c with
    | .bool true => exA C n a s
    | .bool false => exA C n b s
    | _ => none
  | n + 1, .block id a, s => match exA C n a s with
    | some (.exit i, s') => some (if i = id then .normal else .exit i, s')
    | r => r
  | n + 1, .loop a, s => match exA C n a s with
    | some (.normal, s') => exA C n (.loop a) s'
    | r => r
  | _ + 1, .rng f ps asg body, s =>
    if rdOk s = false ∨ nl (s.ev f) = false ∨ isFn (s.ev f) = false then none else
    match C (s.ev f) [.func (.yield s.H.length) #[] #[]] s.lim (s.H ++ [.loop ⟨0, none, s.t, s.L, s.lim, ps, asg, body⟩]) with
    | some (_, H') =>
      (match H'[s.H.length]? with
      | some (.loop r) =>
        if r.st ≠ 0 ∧ r.st ≠ 2 then none else some (r.pend.getD .normal, { s with L := r.L, H := H'.set s.H.length .dead })
      | _ => none)
    | none => none
  | _ + 1, .exit id, s => some (.exit id, s)
  | _ + 1, .ret, s => some (.ret, s)

def resA (s : St) : List SR → Option (List Value)
  | [] => some []
  | .tmp t :: r => (resA s r).map (tget s.t t :: ·)
  | .cell t :: r => match tget s.t t with
    | .pointer a => match a.bind (cellAt s.L s.H), resA s r with
      | some v, some l => some (v :: l)
      | _, _ => none
    | _ => none
  | .cells n t :: r => match tget s.t t with
    | .pointer a => match a.bind (cellsAt s.L s.H · n), resA s r with
      | some vs, some l => some (.agg vs.toArray :: l)
      | _, _ => none
    | _ => none

def tsOf : Nat → List Value → TS
  | _, [] => []
  | i, v :: r => (i, v) :: tsOf (i + 1) r

def packA : List Value → Value
  | [v] => v
  | vs => .tuple vs.toArray

/-- What is said of functions beforehand: 'pure f': f writes to no block that was there when it was called; 'ans f args': what a call without anything bound comes to (proved apart), while the tables hold what is listed. -/
structure PF where
  pure : FuncId → Bool
  tabs : List (Nat × List Value)
  ans : FuncId → List Value → Option Value

instance : CoeFun PF (fun _ => FuncId → Bool) := ⟨PF.pure⟩

def flatB : Value → Value → Bool
  | .bool a, .bool b => a == b
  | .int k a, .int k' b => decide (k = k') && decide (a = b)
  | _, _ => false

def flatsB : List Value → List Value → Bool
  | [], [] => true
  | a :: l, b :: m => flatB a b && flatsB l m
  | _, _ => false

def tabsOk (tabs : List (Nat × List Value)) (H : AH) : Bool := tabs.all fun (g, vs) => match H[g]? with | some (.ro us) => flatsB us vs | _ => false

def orcA (pf : PF) (f : FuncId) (first cap : Array Value) (args : List Value) : Option Value := if first.size = 0 ∧ cap.size = 0 then pf.ans f args else none

/-- A call of a function value. -/
def apA (P : Program) (pf : PF) : Nat → CallA
  | 0, _, _, _, _ => none
  | n + 1, .func (.func f) first cap, args, lim, H =>
    match orcA pf f first cap args with
    | some v => if tabsOk pf.tabs H then some (v, H) else none
    | none =>
    match cFun P f with
    | none => none
    | some sf =>
      match exA (apA P pf n) n sf.body ⟨tsOf 0 (first.toList ++ args ++ cap.toList), [], H, if pf f then H.length else lim, none⟩ with
      | some (.exit _, _) => none
      | some (_, s) =>
        (match resA s sf.res with
        | some vs => (match globs s.L s.H vs with
          | some (vs, _, H') => let v := packA vs; some (v, if pf f && sca v then H else H')
          | none => none)
        | none => none)
      | none => none
  | n + 1, .func (.yield l) first _, args, lim, H =>
    match H[l]? with
    | some (.loop r) =>
      if first.size = 0 ∧ r.st = 0 ∧ lim ≤ r.lim ∧ lim ≤ l ∧ args.length = r.ps.length then
        (match exA (apA P pf n) n r.asg ⟨(r.ps.zip args).reverse ++ r.t, r.L, H.set l (.loop { r with st := 4, L := [] }), r.lim, some l⟩ with
        | some (.normal, s) =>
          (match s.H[l]? with
          | some (.loop r1) =>
            if r1.st = 4 then
              (match exA (apA P pf n) n r.body { s with H := s.H.set l (.loop { r with st := 1, pend := r1.pend, L := [] }) } with
              | some (e, s') =>
                (match s'.H[l]? with
                | some (.loop _) => some (.bool (decide (e = .normal)), s'.H.set l (.loop { r with st := if e = .normal then 0 else 2, pend := if e = .normal then none else some e, L := s'.L }))
                | _ => none)
              | none => none)
            else none
          | _ => none)
        | _ => none)
      else none
    | _ => none
  | _ + 1, _, _, _, _ => none
end Go.Proofs.YthobfecblpnnnaaGreatDoor

/- What ties the abstract machine's state to the world: values, boxes, the heap; who owns which block. -/
namespace Go.Proofs.YthobfecblpnnnaaGreatDoor
open Go Go.RowKit

/-- Where a block of the abstract heap lies: its row, from where on, how many cells an element of it takes (0: never written by append), how many cells the row has. -/
structure Gh where
  tmps : Array Value
  ps : Array Tmp
  asg : Code
  body : Code
  l0 : Nat → Nat → Option Nat

structure HI where
  blk : Nat
  off : Nat
  e : Nat
  tot : Nat
  /-- of a loop's record: what never changes in it -/
  gh : Option Gh

structure Mp where
  h : Nat → Option HI
  l : Nat → Nat → Option Nat

def Mp.le (m m' : Mp) : Prop := (∀ b i, m.h b = some i → m'.h b = some i) ∧ (∀ d g B, m.l d g = some B → m'.l d g = some B)
theorem Mp.le_refl (m : Mp) : m.le m := ⟨fun _ _ h => h, fun _ _ _ h => h⟩
theorem Mp.le_trans {a b c : Mp} (h : a.le b) (k : b.le c) : a.le c := ⟨fun x i e => k.1 x i (h.1 x i e), fun d g B e => k.2 d g B (h.2 d g B e)⟩

def ARel (m : Mp) (a a' : Addr) : Prop := a'.spot = none ∧
  match a.spot with
  | none => ∃ i, m.h a.block = some i ∧ a'.block = i.blk ∧ a'.off = i.off + a.off
  | some g => m.l a.block g = some a'.block ∧ a'.off = a.off

theorem ARel.mono {m m' : Mp} (h : m.le m') {a a' : Addr} (r : ARel m a a') : ARel m' a a' := by
  obtain ⟨h1, h2⟩ := r
  refine ⟨h1, ?_⟩
  split at h2
  · obtain ⟨i, e, r⟩ := h2; exact ⟨i, h.1 _ _ e, r⟩
  · exact ⟨h.2 _ _ _ h2.1, h2.2⟩

inductive FRel (m : Mp) : Fn → Fn → Prop
  | func (f : FuncId) : FRel m (.func f) (.func f)
  | yield (l : Nat) (i : HI) (h : m.h l = some i) : FRel m (.yield l) (.yield i.blk)

inductive VRel (m : Mp) : Value → Value → Prop
  | any (v : Value) : VRel m (.tuple #[]) v
  | sk : VRel m (.tuple #[.tuple #[]]) (.tuple #[])
  | bool (b : Bool) : VRel m (.bool b) (.bool b)
  | int (k : IntKind) (n : Int) : VRel m (.int k n) (.int k n)
  | float (k : FloatKind) (n : Nat) : VRel m (.float k n) (.float k n)
  | complex (k : FloatKind) (n n' : Nat) : VRel m (.complex k n n') (.complex k n n')
  | string (s : ByteArray) : VRel m (.string s) (.string s)
  | ptrN : VRel m (.pointer none) (.pointer none)
  | ptr (a a' : Addr) (h : ARel m a a') : VRel m (.pointer (some a)) (.pointer (some a'))
  | slN (c : Nat) (a' : Option Addr) (c' : Nat) (h : c = 0 → c' = 0) (ha : c' ≠ 0 → a'.isSome = true) : VRel m (.slice none 0 c) (.slice a' 0 c')
  | sl (a a' : Addr) (n c c' : Nat) (i : HI) (hs : a.spot = none) (h : ARel m a a') (hi : m.h a.block = some i) (ht : i.e ≠ 0 → a'.off + c' * i.e ≤ i.tot) (hn : n ≤ c') (hc : c = n → c' = n) :
      VRel m (.slice (some a) n c) (.slice (some a') n c')
  | map : VRel m (.map none) (.map none)
  | chan : VRel m (.chan none) (.chan none)
  | nilF : VRel m .nilFunc .nilFunc
  | func (f f' : Fn) (x x' y y' : Array Value) (hf : FRel m f f') (hx : x.size = x'.size) (hxs : ∀ i (h : i < x.size) (h' : i < x'.size), VRel m x[i] x'[i])
      (hy : y.size = y'.size) (hys : ∀ i (h : i < y.size) (h' : i < y'.size), VRel m y[i] y'[i]) : VRel m (.func f x y) (.func f' x' y')
  | iface (t : TypeId) (v v' : Value) (h : VRel m v v') : VRel m (.iface t v) (.iface t v')
  | nilI : VRel m .nilIface .nilIface
  | agg (x x' : Array Value) (hx : x.size = x'.size) (hxs : ∀ i (h : i < x.size) (h' : i < x'.size), VRel m x[i] x'[i]) : VRel m (.agg x) (.agg x')
  | tup (x x' : Array Value) (hx : x.size = x'.size) (hxs : ∀ i (h : i < x.size) (h' : i < x'.size), VRel m x[i] x'[i]) : VRel m (.tuple x) (.tuple x')

theorem FRel.mono {m m' : Mp} (h : m.le m') {f f' : Fn} (r : FRel m f f') : FRel m' f f' := by
  cases r with
  | func f => exact .func f
  | yield l i e => exact .yield l i (h.1 _ _ e)

theorem VRel.mono {m m' : Mp} (h : m.le m') {v v' : Value} (r : VRel m v v') : VRel m' v v' := by
  induction r with
  | any v => exact .any v
  | sk => exact .sk
  | bool b => exact .bool b
  | int k n => exact .int k n
  | float k n => exact .float k n
  | complex k n n' => exact .complex k n n'
  | string s => exact .string s
  | ptrN => exact .ptrN
  | ptr a a' r => exact .ptr a a' (r.mono h)
  | slN c a' c' hc ha => exact .slN c a' c' hc ha
  | sl a a' n c c' i hs r hi ht hn hc => exact .sl a a' n c c' i hs (r.mono h) (h.1 _ _ hi) ht hn hc
  | map => exact .map
  | chan => exact .chan
  | nilF => exact .nilF
  | func f f' x x' y y' hf hx hxs hy hys ix iy => exact .func f f' x x' y y' (hf.mono h) hx ix hy iy
  | iface t v v' r ih => exact .iface t v v' ih
  | nilI => exact .nilI
  | agg x x' hx hxs ih => exact .agg x x' hx ih
  | tup x x' hx hxs ih => exact .tup x x' hx ih

/-- Lists related place by place. -/
def LsRel (m : Mp) (vs vs' : List Value) : Prop := vs.length = vs'.length ∧ ∀ i (h : i < vs.length) (h' : i < vs'.length), VRel m vs[i] vs'[i]

theorem LsRel.nil (m : Mp) : LsRel m [] [] := ⟨rfl, fun i h => absurd h (by simp)⟩
theorem LsRel.cons {m : Mp} {v v' : Value} {vs vs' : List Value} (h : VRel m v v') (r : LsRel m vs vs') : LsRel m (v :: vs) (v' :: vs') := by
  refine ⟨by simp [r.1], fun i h1 h2 => ?_⟩
  cases i with
  | zero => exact h
  | succ i => exact r.2 i (by simpa using h1) (by simpa using h2)
theorem LsRel.mono {m m' : Mp} (h : m.le m') {vs vs' : List Value} (r : LsRel m vs vs') : LsRel m' vs vs' := ⟨r.1, fun i a b => (r.2 i a b).mono h⟩
theorem LsRel.head {m : Mp} {v v' : Value} {vs vs' : List Value} (r : LsRel m (v :: vs) (v' :: vs')) : VRel m v v' := r.2 0 (by simp) (by simp)
theorem LsRel.tail {m : Mp} {v v' : Value} {vs vs' : List Value} (r : LsRel m (v :: vs) (v' :: vs')) : LsRel m vs vs' :=
  ⟨by simpa using r.1, fun i a b => r.2 (i + 1) (by simpa using a) (by simpa using b)⟩
theorem LsRel.append {m : Mp} {a a' b b' : List Value} (h : LsRel m a a') (k : LsRel m b b') : LsRel m (a ++ b) (a' ++ b') := by
  refine ⟨by simp [h.1, k.1], fun i h1 h2 => ?_⟩
  by_cases hi : i < a.length
  · rw [List.getElem_append_left hi, List.getElem_append_left (h.1 ▸ hi)]; exact h.2 _ _ _
  · have e := h.1
    rw [List.getElem_append_right (by omega), List.getElem_append_right (by omega)]
    simp only [e]
    exact k.2 _ (by simp at h1; omega) (by simp at h2; omega)
theorem VRel.aggL {m : Mp} {x x' : List Value} (r : LsRel m x x') : VRel m (.agg x.toArray) (.agg x'.toArray) :=
  .agg _ _ (by simp [r.1]) (fun i h h' => by simpa using r.2 i (by simpa using h) (by simpa using h'))
theorem VRel.tupL {m : Mp} {x x' : List Value} (r : LsRel m x x') : VRel m (.tuple x.toArray) (.tuple x'.toArray) :=
  .tup _ _ (by simp [r.1]) (fun i h h' => by simpa using r.2 i (by simpa using h) (by simpa using h'))
theorem LsRel.of_array {m : Mp} {x x' : Array Value} (hx : x.size = x'.size) (h : ∀ i (h : i < x.size) (h' : i < x'.size), VRel m x[i] x'[i]) : LsRel m x.toList x'.toList :=
  ⟨by simpa using hx, fun i a b => by simpa using h i (by simpa using a) (by simpa using b)⟩
theorem LsRel.take {m : Mp} {a a' : List Value} (h : LsRel m a a') (n : Nat) : LsRel m (a.take n) (a'.take n) :=
  ⟨by simp [h.1], fun i p q => by simp only [List.getElem_take]; exact h.2 _ _ _⟩
theorem LsRel.drop {m : Mp} {a a' : List Value} (h : LsRel m a a') (n : Nat) : LsRel m (a.drop n) (a'.drop n) :=
  ⟨by simp [h.1], fun i p q => by simp only [List.getElem_drop]; exact h.2 _ _ _⟩
theorem LsRel.set {m : Mp} {a a' : List Value} (h : LsRel m a a') {v v' : Value} (r : VRel m v v') (k : Nat) : LsRel m (a.set k v) (a'.set k v') := by
  refine ⟨by simp [h.1], fun i p q => ?_⟩
  simp only [List.getElem_set]
  split
  · exact r
  · exact h.2 _ _ _
theorem LsRel.over {m : Mp} {ws ws' : List Value} (r : LsRel m ws ws') : ∀ {a a' : List Value} (_ : LsRel m a a') (k : Nat), LsRel m (over a k ws) (over a' k ws') := by
  induction ws generalizing ws' with
  | nil => intro a a' h k; cases ws' with | nil => exact h | cons => simp [LsRel] at r
  | cons w ws ih => intro a a' h k; cases ws' with | nil => simp [LsRel] at r | cons w' ws' => exact ih r.tail (h.set r.head k) (k + 1)
theorem over_length (ws : List Value) : ∀ (a : List Value) (k : Nat), (over a k ws).length = a.length := by
  induction ws with
  | nil => intro a k; rfl
  | cons w ws ih => intro a k; rw [over, ih]; simp

/-- A value that leads nowhere stands for itself. -/
theorem VRel.refl_sca (m : Mp) : ∀ (v : Value), sca v = true → VRel m v v := by
  intro v
  induction v using Value.rec (motive_2 := fun a => scaL a.toList = true → ∀ i (h : i < a.size), VRel m a[i] a[i])
    (motive_3 := fun l => scaL l = true → ∀ i (h : i < l.length), VRel m l[i] l[i]) with
  | bool b => intro _; exact .bool b
  | int k n => intro _; exact .int k n
  | float k n => intro _; exact .float k n
  | complex k a b => intro _; exact .complex k a b
  | string s => intro _; exact .string s
  | pointer a => intro h; cases a with | none => exact .ptrN | some a => simp [sca] at h
  | slice a n c =>
    intro h
    cases a with
    | none => simp [sca] at h; obtain ⟨rfl, rfl⟩ := h; exact .slN 0 none 0 (fun _ => rfl) (fun h => absurd rfl h)
    | some a => simp [sca] at h
  | map a => intro h; cases a with | none => exact .map | some a => simp [sca] at h
  | chan a => intro h; cases a with | none => exact .chan | some a => simp [sca] at h
  | func f a b _ _ => intro h; simp [sca] at h
  | nilFunc => intro _; exact .nilF
  | iface t v ih => intro h; exact .iface t v v (ih (by simpa [sca] using h))
  | nilIface => intro _; exact .nilI
  | agg a ih => intro h; exact .agg a a rfl (fun i h1 _ => ih (by simpa [sca] using h) i h1)
  | tuple a ih => intro h; exact .tup a a rfl (fun i h1 _ => ih (by simpa [sca] using h) i h1)
  | mk l ih => rename_i h i hi; exact ih h i hi
  | nil => rename_i i hi; exact absurd hi (by simp)
  | cons v l ih1 ih2 =>
    rename_i h i hi
    simp only [scaL, Bool.and_eq_true] at h
    cases i with
    | zero => exact ih1 h.1
    | succ i => exact ih2 h.2 i (by simpa using hi)
end Go.Proofs.YthobfecblpnnnaaGreatDoor

/- The heap, the boxes and the owners of blocks: what ties them to the world. -/
namespace Go.Proofs.YthobfecblpnnnaaGreatDoor
open Go Go.RowKit

/-- Who writes a block: a block of the abstract heap, a boxed variable of the running function, a boxed variable of a function whose loop over a function runs; or nobody that is known here. -/
inductive Ow where
  | other
  | heap (b : Nat)
  | loc (d g : Nat)
  | rcd (b d g : Nat)
  deriving DecidableEq

def CRel (B0 : Nat) (m : Mp) (o : Nat → Ow) (ow : Ow) (B : Nat) (vs : List Value) (w : World) : Prop :=
  o B = ow ∧ B0 ≤ B ∧ ∃ arr te, w.heap[B]? = some (.cells arr te (0, 0)) ∧ LsRel m vs arr.toList

def LRel (B0 : Nat) (m : Mp) (o : Nat → Ow) (ow : Nat → Nat → Ow) (L : LS) (w : World) : Prop :=
  ∀ d g c, lget L d = some (g, c) → match c with
    | .cells vs => ∃ B, m.l d g = some B ∧ CRel B0 m o (ow d g) B vs w
    | .fwd b => ∃ i, m.h b = some i ∧ i.off = 0 ∧ m.l d g = some i.blk

def LFresh (m : Mp) (L : LS) : Prop := ∀ d g B, m.l d g = some B → ∃ g' c, lget L d = some (g', c) ∧ g ≤ g'

def TRel (m : Mp) (t : TS) (tmps : Array Value) : Prop := ∀ i, VRel m (tget t i) (tmps.getD i undef)

def exCode : Ex → Option Code
  | .normal => none
  | .exit id => some (.exit id)
  | .ret => some .ret

def stRel : LoopState → Nat → Prop
  | .ready, n => n = 0 ∨ n = 4
  | .busy, n => n = 1
  | .done, n => n = 2
  | .exhausted, n => n = 3

def RRel (P : Program) (B0 : Nat) (m : Mp) (o : Nat → Ow) (b : Nat) (i : HI) (r : ARec) (w : World) : Prop :=
  ∃ (lp : Loop) (ml : Nat → Nat → Option Nat) (nt : Nat), w.heap[i.blk]? = some (.loop lp) ∧ stRel lp.state r.st ∧ lp.pending = r.pend.bind exCode ∧
    TRel ⟨m.h, ml⟩ r.t lp.tmps ∧ LRel B0 ⟨m.h, ml⟩ o (.rcd b) r.L w ∧ (r.st = 0 ∨ r.st = 2 → LFresh ⟨m.h, ml⟩ r.L) ∧ lp.params.toList = r.ps ∧ cCode P nt lp.assign = some r.asg ∧ cCode P nt lp.body = some r.body ∧
    nt ≤ lp.tmps.size ∧ (∀ x ∈ r.ps, x < nt) ∧ (r.pend ≠ some .normal) ∧
    ∃ gh, i.gh = some gh ∧ lp.tmps = gh.tmps ∧ lp.params = gh.ps ∧ lp.assign = gh.asg ∧ lp.body = gh.body ∧ ∀ d g B, gh.l0 d g = some B → ml d g = some B

def BRel (P : Program) (B0 : Nat) (m : Mp) (o : Nat → Ow) (b : Nat) (i : HI) (w : World) : ABlk → Prop
  | .rw e vs => i.off + vs.length ≤ i.tot ∧ i.e = e ∧ B0 ≤ i.blk ∧ o i.blk = .heap b ∧ nlL vs = true ∧
      ∃ arr te, w.heap[i.blk]? = some (.cells arr te (0, 0)) ∧ arr.size = i.tot ∧ vs.length ≤ arr.size ∧ LsRel m vs ((arr.toList.drop i.off).take vs.length)
  | .ro vs => i.e = 0 ∧ i.blk < B0 ∧ nlL vs = true ∧ ∀ j (h : j < vs.length), ∃ v', w.cell? ⟨i.blk, i.off + j, none⟩ = some v' ∧ VRel m vs[j] v'
  | .dead => True
  | .loop r => i.off = 0 ∧ B0 ≤ i.blk ∧ o i.blk = .heap b ∧ RRel P B0 m o b i r w

structure WRel (P : Program) (B0 : Nat) (m : Mp) (o : Nat → Ow) (H : AH) (w : World) : Prop where
  dom : ∀ b i, m.h b = some i → b < H.length ∧ i.blk < w.heap.size
  base : ∀ B, B < B0 → o B = .other
  low : B0 ≤ w.heap.size
  blk : ∀ b i x, m.h b = some i → H[b]? = some x → BRel P B0 m o b i w x

/-- What others see of a piece of a run: what nobody here owns is as it was. -/
structure Keep (o : Nat → Ow) (w : World) (o' : Nat → Ow) (w' : World) : Prop where
  os : w'.os = w.os
  tape : w'.tape = w.tape
  output : w'.output = w.output
  size : w.heap.size ≤ w'.heap.size
  same : ∀ B, B < w.heap.size → o B = .other → w'.heap[B]? = w.heap[B]? ∧ o' B = .other

theorem Keep.refl (o : Nat → Ow) (w : World) : Keep o w o w := ⟨rfl, rfl, rfl, Nat.le_refl _, fun _ _ h => ⟨rfl, h⟩⟩
theorem Keep.trans {o o' o'' : Nat → Ow} {w w' w'' : World} (h : Keep o w o' w') (k : Keep o' w' o'' w'') : Keep o w o'' w'' :=
  ⟨k.os.trans h.os, k.tape.trans h.tape, k.output.trans h.output, Nat.le_trans h.size k.size, fun B hB ho => by
    obtain ⟨h1, h2⟩ := h.same B hB ho
    obtain ⟨k1, k2⟩ := k.same B (Nat.lt_of_lt_of_le hB h.size) h2
    exact ⟨k1.trans h1, k2⟩⟩


theorem nlL_iff (l : List Value) : nlL l = true ↔ ∀ i (h : i < l.length), nl l[i] = true := by
  induction l with
  | nil => simp [nlL]
  | cons v r ih =>
    simp only [nlL, Bool.and_eq_true, ih]
    constructor
    · rintro ⟨h1, h2⟩ i hi
      cases i with
      | zero => exact h1
      | succ i => exact h2 i (by simpa using hi)
    · intro h
      exact ⟨h 0 (by simp), fun i hi => h (i + 1) (by simpa using hi)⟩

theorem nlL_append (a b : List Value) : nlL (a ++ b) = (nlL a && nlL b) := by
  induction a with
  | nil => simp [nlL]
  | cons v r ih => simp [nlL, ih, Bool.and_assoc]

theorem nlL_set {a : List Value} (h : nlL a = true) {v : Value} (hv : nl v = true) (k : Nat) : nlL (a.set k v) = true := by
  rw [nlL_iff] at *
  intro i hi
  rw [List.getElem_set]
  split
  · exact hv
  · exact h i (by simpa using hi)

theorem nlL_over {ws : List Value} (hw : nlL ws = true) : ∀ {a : List Value} (_ : nlL a = true) (k : Nat), nlL (over a k ws) = true := by
  induction ws with
  | nil => intro a h k; exact h
  | cons w ws ih =>
    intro a h k
    simp only [nlL, Bool.and_eq_true] at hw
    exact ih hw.2 (nlL_set h hw.1 k) (k + 1)

theorem nlA {x : Array Value} (h : nlL x.toList = true) (i : Nat) (hi : i < x.size) : nl x[i] = true := by
  have := (nlL_iff x.toList).1 h i (by simpa using hi)
  rwa [Array.getElem_toList] at this

theorem VRel.nl_of {h : Nat → Option HI} {l l' : Nat → Nat → Option Nat} {v v' : Value} (r : VRel ⟨h, l⟩ v v') (hn : nl v = true) : VRel ⟨h, l'⟩ v v' := by
  induction r with
  | any v => exact .any v
  | sk => exact .sk
  | bool b => exact .bool b
  | int k n => exact .int k n
  | float k n => exact .float k n
  | complex k n n' => exact .complex k n n'
  | string s => exact .string s
  | ptrN => exact .ptrN
  | ptr a a' r =>
    have hs : a.spot = none := by simpa [nl] using hn
    refine .ptr a a' ⟨r.1, ?_⟩
    have := r.2
    rw [hs] at this ⊢
    exact this
  | slN c a' c' hc ha => exact .slN c a' c' hc ha
  | sl a a' n c c' i hs r hi ht hle hc =>
    refine .sl a a' n c c' i hs ⟨r.1, ?_⟩ hi ht hle hc
    have := r.2
    rw [hs] at this ⊢
    exact this
  | map => exact .map
  | chan => exact .chan
  | nilF => exact .nilF
  | func f f' x x' y y' hf hx hxs hy hys ix iy =>
    simp only [nl, Bool.and_eq_true] at hn
    refine .func f f' x x' y y' ?_ hx (fun i a b => ix i a b (nlA hn.1 i a)) hy (fun i a b => iy i a b (nlA hn.2 i a))
    cases hf with
    | func f => exact .func f
    | yield l i e => exact .yield l i e
  | iface t v v' r ih => exact .iface t v v' (ih (by simpa [nl] using hn))
  | nilI => exact .nilI
  | agg x x' hx hxs ih =>
    exact .agg x x' hx (fun i a b => ih i a b (nlA (by simpa [nl] using hn) i a))
  | tup x x' hx hxs ih =>
    exact .tup x x' hx (fun i a b => ih i a b (nlA (by simpa [nl] using hn) i a))

theorem LsRel.nl_of {h : Nat → Option HI} {l l' : Nat → Nat → Option Nat} {v v' : List Value} (r : LsRel ⟨h, l⟩ v v') (hn : nlL v = true) : LsRel ⟨h, l'⟩ v v' :=
  ⟨r.1, fun i a b => (r.2 i a b).nl_of ((nlL_iff v).1 hn i a)⟩

/-- The owned part of a world. -/
def Held (B0 : Nat) (o : Nat → Ow) (B : Nat) : Prop := B < B0 ∨ (∃ b, o B = .heap b) ∨ ∃ b d g, o B = .rcd b d g

theorem lt_of_heap {w : World} {B : Nat} {x : Obj} (h : w.heap[B]? = some x) : B < w.heap.size := (Array.getElem?_eq_some_iff.1 h).1

theorem CRel.keep {B0 : Nat} {m m' : Mp} {o o' : Nat → Ow} {ow : Ow} {B : Nat} {vs : List Value} {w w' : World} (hm : m.le m')
    (hk : B < w.heap.size → o B = ow → w'.heap[B]? = w.heap[B]? ∧ o' B = o B) (r : CRel B0 m o ow B vs w) : CRel B0 m' o' ow B vs w' := by
  obtain ⟨h1, h2, arr, te, h3, h4⟩ := r
  obtain ⟨k1, k2⟩ := hk (lt_of_heap h3) h1
  exact ⟨k2.trans h1, h2, arr, te, k1.trans h3, h4.mono hm⟩

theorem LRel.keep {B0 : Nat} {m m' : Mp} {o o' : Nat → Ow} {ow : Nat → Nat → Ow} {L : LS} {w w' : World} (hm : m.le m')
    (hk : ∀ B d g, B < w.heap.size → o B = ow d g → w'.heap[B]? = w.heap[B]? ∧ o' B = o B) (r : LRel B0 m o ow L w) : LRel B0 m' o' ow L w' := by
  intro d g c hc
  have := r d g c hc
  cases c with
  | cells vs => obtain ⟨B, h1, h2⟩ := this; exact ⟨B, hm.2 _ _ _ h1, h2.keep hm (hk B d g)⟩
  | fwd b => obtain ⟨i, h1, h2, h3⟩ := this; exact ⟨i, hm.1 _ _ h1, h2, hm.2 _ _ _ h3⟩

theorem TRel.mono {m m' : Mp} (h : m.le m') {t : TS} {tmps : Array Value} (r : TRel m t tmps) : TRel m' t tmps := fun i => (r i).mono h

theorem BRel.keep {P : Program} {B0 : Nat} {m m' : Mp} {o o' : Nat → Ow} {b : Nat} {i : HI} {w w' : World} {x : ABlk} (hm : m.le m')
    (hk : ∀ B, B < w.heap.size → (B < B0 ∨ o B = .heap b ∨ ∃ d g, o B = .rcd b d g) → w'.heap[B]? = w.heap[B]? ∧ o' B = o B) (r : BRel P B0 m o b i w x) : BRel P B0 m' o' b i w' x := by
  cases x with
  | rw e vs =>
    obtain ⟨h1, h2, h3, h4, h5, arr, te, h6, h7, h8, h9⟩ := r
    obtain ⟨k1, k2⟩ := hk _ (lt_of_heap h6) (.inr (.inl h4))
    exact ⟨h1, h2, h3, k2.trans h4, h5, arr, te, k1.trans h6, h7, h8, h9.mono hm⟩
  | ro vs =>
    obtain ⟨h1, h2, h3, h4⟩ := r
    refine ⟨h1, h2, h3, fun j hj => ?_⟩
    obtain ⟨v', h5, h6⟩ := h4 j hj
    have hlt : i.blk < w.heap.size := by
      simp only [World.cell?] at h5
      split at h5
      · rename_i h; exact lt_of_heap h
      · cases h5
    obtain ⟨k1, k2⟩ := hk _ hlt (.inl h2)
    exact ⟨v', by simpa [World.cell?, k1] using h5, h6.mono hm⟩
  | dead => trivial
  | loop r' =>
    obtain ⟨h1, h2, h3, lp, ml, nt, h4, h5, h6, h7, h8, h9, h10⟩ := r
    obtain ⟨k1, k2⟩ := hk _ (lt_of_heap h4) (.inr (.inl h3))
    have hm' : Mp.le ⟨m.h, ml⟩ ⟨m'.h, ml⟩ := ⟨hm.1, fun _ _ _ h => h⟩
    exact ⟨h1, h2, k2.trans h3, lp, ml, nt, k1.trans h4, h5, h6, h7.mono hm', h8.keep hm' (fun B d g hB ho => hk B hB (.inr (.inr ⟨d, g, ho⟩))), h9, h10⟩

/-- The heap's tie holds on where what it owns, and what lay there before, is as it was. -/
theorem WRel.keep {P : Program} {B0 : Nat} {m m' : Mp} {o o' : Nat → Ow} {H : AH} {w w' : World} (r : WRel P B0 m o H w) (hm : m'.h = m.h) (hl : ∀ d g B, m.l d g = some B → m'.l d g = some B) (hs : w.heap.size ≤ w'.heap.size)
    (hb : ∀ B, B < B0 → o' B = .other) (hk : ∀ B, B < w.heap.size → Held B0 o B → w'.heap[B]? = w.heap[B]? ∧ o' B = o B) : WRel P B0 m' o' H w' where
  dom b i h := by rw [hm] at h; exact ⟨(r.dom b i h).1, Nat.lt_of_lt_of_le (r.dom b i h).2 hs⟩
  base := hb
  low := Nat.le_trans r.low hs
  blk b i x h hx := by
    rw [hm] at h
    refine (r.blk b i x h hx).keep ⟨fun b i h => by rw [hm]; exact h, hl⟩ fun B hB ho => hk B hB ?_
    rcases ho with h | h | ⟨d, g, h⟩
    · exact .inl h
    · exact .inr (.inl ⟨b, h⟩)
    · exact .inr (.inr ⟨b, d, g, h⟩)
end Go.Proofs.YthobfecblpnnnaaGreatDoor

/- What one operation of the abstract machine does, the model's operation does. -/
namespace Go.Proofs.YthobfecblpnnnaaGreatDoor
open Go Go.RowKit

variable {P : Program} {B0 : Nat} {m : Mp} {o : Nat → Ow} {L : LS} {H : AH} {w : World}

/-- All package-level variables stand in the abstract heap under their own numbers. -/
def GRel (P : Program) (m : Mp) : Prop := ∀ g, g < P.globals.size → ∃ t, m.h g = some ⟨g, 0, 0, t, none⟩
theorem GRel.mono {m m' : Mp} (h : m.le m') (r : GRel P m) : GRel P m' := fun g hg => let ⟨t, e⟩ := r g hg; ⟨t, h.1 _ _ e⟩

def Eff (P : Program) (B0 : Nat) (m : Mp) (o : Nat → Ow) (w : World) (v : Value) (L' : LS) (H' : AH) (v' : Value) (w' : World) : Prop :=
  ∃ m' o', m.le m' ∧ VRel m' v v' ∧ LRel B0 m' o' .loc L' w' ∧ LFresh m' L' ∧ WRel P B0 m' o' H' w' ∧ Keep o w o' w'

theorem Eff.pure (hL : LRel B0 m o .loc L w) (hF : LFresh m L) (hH : WRel P B0 m o H w) {v v' : Value} (h : VRel m v v') : Eff P B0 m o w v L H v' w :=
  ⟨m, o, Mp.le_refl m, h, hL, hF, hH, Keep.refl o w⟩

theorem add_eq (b n k : Nat) : (⟨b, n, none⟩ : Addr).add k = ⟨b, n + k, none⟩ := by unfold Addr.add; split <;> simp_all

theorem addr_add {a : Addr} (h : a.spot = none) (k : Nat) : a.add k = ⟨a.block, a.off + k, none⟩ := by
  obtain ⟨b, n, s⟩ := a; simp at h; subst h; exact add_eq b n k

theorem ARel.add {a a' : Addr} (h : ARel m a a') (k : Nat) : ARel m (aadd a k) (a'.add k) := by
  obtain ⟨h1, h2⟩ := h
  rw [addr_add h1]
  refine ⟨rfl, ?_⟩
  simp only [aadd]
  split at h2
  · obtain ⟨i, e1, e2, e3⟩ := h2; exact ⟨i, e1, e2, by simp [e3, Nat.add_assoc]⟩
  · exact ⟨h2.1, by simp [h2.2]⟩

theorem hcell_sound (hH : WRel P B0 m o H w) {b i : Nat} {hi : HI} (hm : m.h b = some hi) {v : Value} (h : hcell H b i = some v) :
    ∃ v', w.cell? ⟨hi.blk, hi.off + i, none⟩ = some v' ∧ VRel m v v' := by
  unfold hcell at h
  split at h
  · rename_i e vs hb
    obtain ⟨h1, h2, h3, h4, h5, arr, te, h6, h7, h8, h9⟩ := hH.blk b hi _ hm hb
    obtain ⟨hlt, rfl⟩ := List.getElem?_eq_some_iff.1 h
    have hl := h9.1
    refine ⟨arr[hi.off + i]'(by omega), by simp [World.cell?, h6, show hi.off + i < arr.size by omega], ?_⟩
    have := h9.2 i hlt (by simp; omega)
    simpa using this
  · rename_i vs hb
    obtain ⟨h1, h2, h3, h4⟩ := hH.blk b hi _ hm hb
    obtain ⟨hlt, rfl⟩ := List.getElem?_eq_some_iff.1 h
    exact h4 i hlt
  · cases h

theorem cellAt_sound (hL : LRel B0 m o .loc L w) (hH : WRel P B0 m o H w) {a a' : Addr} (ha : ARel m a a') {v : Value} (h : cellAt L H a = some v) :
    ∃ v', w.cell? a' = some v' ∧ VRel m v v' := by
  obtain ⟨h1, h2⟩ := ha
  obtain ⟨b', n', s'⟩ := a'
  simp only at h1 h2; subst h1
  unfold cellAt at h
  cases hs : a.spot with
  | none =>
    rw [hs] at h h2
    obtain ⟨i, e1, rfl, rfl⟩ := h2
    exact hcell_sound hH e1 h
  | some g =>
    rw [hs] at h h2
    obtain ⟨e1, rfl⟩ := h2
    simp only at h
    split at h
    · rename_i g' vs hg
      split at h
      · rename_i hgg; subst hgg
        obtain ⟨B, k1, k2, k3, arr, te, k4, k5⟩ := hL _ _ _ hg
        rw [e1] at k1; cases k1
        obtain ⟨hlt, rfl⟩ := List.getElem?_eq_some_iff.1 h
        have hl := k5.1
        simp only [Array.length_toList] at hl
        refine ⟨arr[a.off]'(by omega), by simp [World.cell?, k4, show a.off < arr.size by omega], ?_⟩
        have := k5.2 a.off hlt (by simpa using (by omega))
        simpa using this
      · cases h
    · rename_i g' b hg
      split at h
      · rename_i hgg; subst hgg
        obtain ⟨i, k1, k2, k3⟩ := hL _ _ _ hg
        rw [e1] at k3; cases k3
        have := hcell_sound hH k1 h
        rwa [k2, Nat.zero_add] at this
      · cases h
    · cases h

theorem cellsAt_sound (hL : LRel B0 m o .loc L w) (hH : WRel P B0 m o H w) : ∀ {n : Nat} {a a' : Addr} (_ : ARel m a a') {vs : List Value} (_ : cellsAt L H a n = some vs),
    vs.length = n ∧ ∃ vs', LsRel m vs vs' ∧ ∀ j v, vs'[j]? = some v → w.cell? (a'.add j) = some v
  | 0, a, a', ha, vs, h => by simp [cellsAt] at h; subst h; exact ⟨rfl, [], LsRel.nil m, by simp⟩
  | n + 1, a, a', ha, vs, h => by
    unfold cellsAt at h
    split at h
    · rename_i v r h1 h2
      obtain ⟨k1, vs', k2, k3⟩ := cellsAt_sound hL hH (ha.add 1) h2
      obtain ⟨v', k4, k5⟩ := cellAt_sound hL hH ha h1
      cases h
      refine ⟨by simp [k1], v' :: vs', LsRel.cons k5 k2, fun j u hj => ?_⟩
      cases j with
      | zero => simp at hj; subst hj; rw [show a'.add 0 = a' by simp [Addr.add]]; exact k4
      | succ j =>
        have := k3 j u (by simpa using hj)
        rw [addr_add ha.1 1, add_eq] at this
        rw [addr_add ha.1]
        rwa [show a'.off + (j + 1) = a'.off + 1 + j by omega]
    · cases h

/-- A new block in the world, that a new block of the abstract heap stands for. -/
theorem WRel.push (hH : WRel P B0 m o H w) (hL : LRel B0 m o .loc L w) {w2 : World} (h1 : w2.os = w.os) (h2 : w2.tape = w.tape) (h3 : w2.output = w.output) (arr : Array Value) (te : TypeId)
    (h4 : w2.heap = w.heap.push (.cells arr te (0, 0))) (e : Nat) (vs : List Value) (hn : nlL vs = true) (hle : vs.length ≤ arr.size) (hr : LsRel m vs (arr.toList.take vs.length)) :
    ∃ m' o', m' = ⟨fun b => if b = H.length then some ⟨w.heap.size, 0, e, arr.size, none⟩ else m.h b, m.l⟩ ∧ m.le m' ∧ WRel P B0 m' o' (H ++ [.rw e vs]) w2 ∧ LRel B0 m' o' .loc L w2 ∧ Keep o w o' w2 := by
  have hd : m.h H.length = none := by
    cases hx : m.h H.length with
    | none => rfl
    | some i => exact absurd (hH.dom _ _ hx).1 (Nat.lt_irrefl _)
  have hle' : m.le ⟨fun b => if b = H.length then some ⟨w.heap.size, 0, e, arr.size, none⟩ else m.h b, m.l⟩ := by
    refine ⟨fun b i h => ?_, fun d g B h => h⟩
    by_cases hb : b = H.length
    · subst hb; rw [hd] at h; cases h
    · simpa [hb] using h
  have hs2 : w2.heap.size = w.heap.size + 1 := by rw [h4]; simp
  have hold : ∀ B, B < w.heap.size → w2.heap[B]? = w.heap[B]? := fun B hB => by rw [h4, Array.getElem?_push, if_neg (by omega)]
  refine ⟨_, fun B => if B = w.heap.size then .heap H.length else o B, rfl, hle', ?_, ?_, ?_⟩
  · refine ⟨fun b i h => ?_, fun B hB => ?_, by have := hH.low; omega, fun b i x h hx => ?_⟩
    · by_cases hb : b = H.length
      · subst hb; simp at h; subst h; simp; omega
      · simp [hb] at h; have := hH.dom b i h; simp; omega
    · have := hH.low; simp [show B ≠ w.heap.size by omega]; exact hH.base B hB
    · by_cases hb : b = H.length
      · subst hb
        simp at h; subst h
        simp at hx; subst hx
        exact ⟨by simpa using hle, rfl, hH.low, by simp, hn, arr, te, by rw [h4]; simp, rfl, hle, by simpa using hr.mono hle'⟩
      · simp [hb] at h
        have hlt := (hH.dom b i h).1
        rw [List.getElem?_append_left hlt] at hx
        refine (hH.blk b i x h hx).keep hle' fun B hB _ => ⟨hold B hB, by simp [show B ≠ w.heap.size by omega]⟩
  · exact hL.keep hle' fun B d g hB _ => ⟨hold B hB, by simp [show B ≠ w.heap.size by omega]⟩
  · exact ⟨h1, h2, h3, by omega, fun B hB ho => ⟨hold B hB, by simp [show B ≠ w.heap.size by omega]; exact ho⟩⟩

theorem LFresh.same_l {m m' : Mp} (h : m'.l = m.l) (r : LFresh m L) : LFresh m' L := fun d g B e => r d g B (by rw [← h]; exact e)

/-- A new block in the world, that a box stands for. -/
theorem LRel.box (hH : WRel P B0 m o H w) (hL : LRel B0 m o .loc L w) (hF : LFresh m L) (d : Nat) (arr : Array Value) (te : TypeId) (vs : List Value) (hr : LsRel m vs arr.toList)
    (g : Nat) (hg : g = match lget L d with | some (g, _) => g + 1 | none => 0) :
    Eff P B0 m o w (.pointer (some ⟨d, 0, some g⟩)) ((d, g, .cells vs) :: L) H (.pointer (some ⟨w.heap.size, 0, none⟩)) (w.alloc (.cells arr te)) := by
  have hfree : m.l d g = none := by
    cases hx : m.l d g with
    | none => rfl
    | some B =>
      obtain ⟨g', c, h1, h2⟩ := hF _ _ _ hx
      rw [h1] at hg; simp at hg; omega
  have hm : m.le ⟨m.h, fun d' g' => if d' = d ∧ g' = g then some w.heap.size else m.l d' g'⟩ := by
    refine ⟨fun _ _ h => h, fun d' g' B h => ?_⟩
    by_cases hx : d' = d ∧ g' = g
    · obtain ⟨rfl, rfl⟩ := hx; rw [hfree] at h; cases h
    · simpa [hx] using h
  have hold : ∀ B, B < w.heap.size → (w.alloc (.cells arr te)).heap[B]? = w.heap[B]? := fun B hB => Below.heap_alloc _ _ _ hB
  have hne : ∀ B, B < w.heap.size → B ≠ w.heap.size := fun B hB => Nat.ne_of_lt hB
  refine ⟨_, fun B => if B = w.heap.size then .loc d g else o B, hm, .ptr _ _ ⟨rfl, by simp⟩, ?_, ?_, ?_, ?_⟩
  · intro d' g' c hc
    rw [lget] at hc
    split at hc
    · rename_i hd; subst hd
      simp only [Option.some.injEq, Prod.mk.injEq] at hc
      obtain ⟨rfl, rfl⟩ := hc
      exact ⟨w.heap.size, by simp, by simp, hH.low, arr, te, World.alloc_heap_new w _, hr.mono hm⟩
    · have := hL.keep (o' := fun B => if B = w.heap.size then .loc d g else o B) hm (fun B d g hB _ => ⟨hold B hB, by simp [hne B hB]⟩) d' g' c hc
      exact this
  · intro d' g' B h
    simp only at h
    split at h
    · rename_i hx; obtain ⟨rfl, rfl⟩ := hx; exact ⟨g', .cells vs, by simp [lget], Nat.le_refl _⟩
    · obtain ⟨g'', c, h1, h2⟩ := hF _ _ _ h
      by_cases hd : d' = d
      · subst hd; rw [h1] at hg; simp at hg; exact ⟨g, .cells vs, by simp [lget], by omega⟩
      · exact ⟨g'', c, by simp [lget, hd, h1], h2⟩
  · exact hH.keep rfl hm.2 (by simp) (fun B hB => by have := hH.low; simp [show B ≠ w.heap.size by omega]; exact hH.base B hB) (fun B hB _ => ⟨hold B hB, by simp [hne B hB]⟩)
  · exact ⟨rfl, rfl, rfl, by simp, fun B hB ho => ⟨hold B hB, by simp [hne B hB]; exact ho⟩⟩

theorem CRel.ne {ow ow' : Ow} {B B' : Nat} (h : o B = ow) (h' : o B' = ow') (hne : ow ≠ ow') : B ≠ B' := fun e => hne (by rw [← h, ← h', e])

theorem oneC_eq (v : Value) : oneC v = v.oneCell' := by cases v <;> rfl

theorem over_get (ws : List Value) : ∀ (a : List Value) (k j : Nat), (over a k ws)[j]? = if k ≤ j ∧ j < k + ws.length ∧ j < a.length then ws[j - k]? else a[j]? := by
  induction ws with
  | nil => intro a k j; rw [over, if_neg]; simp; omega
  | cons w ws ih =>
    intro a k j
    rw [over, ih, List.length_set, List.length_cons]
    by_cases hj : j = k
    · subst hj
      rw [if_neg (by omega), List.getElem?_set]
      by_cases hl : j < a.length
      · rw [if_pos rfl, if_pos hl, if_pos (by omega)]; simp
      · rw [if_pos rfl, if_neg hl, if_neg (by omega), List.getElem?_eq_none (by omega)]
    · by_cases hc : k + 1 ≤ j ∧ j < k + 1 + ws.length ∧ j < a.length
      · rw [if_pos hc, if_pos (by omega), show j - k = (j - (k + 1)) + 1 by omega, List.getElem?_cons_succ]
      · rw [if_neg hc, if_neg (by omega), List.getElem?_set_ne (by omega)]

/-- Cells are written: the abstract list is written over. -/
theorem take_over (ws a : List Value) (k : Nat) (h : k + ws.length ≤ a.length) : over a k ws = a.take k ++ ws ++ a.drop (k + ws.length) := by
  apply List.ext_getElem?
  intro j
  rw [over_get]
  by_cases h1 : j < k
  · rw [if_neg (by omega), List.append_assoc, List.getElem?_append_left (by simp; omega), List.getElem?_take_of_lt h1]
  · by_cases h2 : j < k + ws.length
    · rw [if_pos (by omega), List.getElem?_append_left (by simp; omega), List.getElem?_append_right (by simp; omega)]
      simp [show min k a.length = k by omega]
    · rw [if_neg (by omega), List.getElem?_append_right (by simp; omega), List.getElem?_drop]
      congr 1
      simp; omega

theorem drop_laid (ws a : List Value) (p k : Nat) (h : p + k + ws.length ≤ a.length) : (a.take (p + k) ++ ws ++ a.drop (p + k + ws.length)).drop p = (a.drop p).take k ++ ws ++ (a.drop p).drop (k + ws.length) := by
  rw [List.append_assoc, List.drop_append_of_le_length (by simp; omega), List.drop_take, List.drop_drop, ← List.append_assoc, show p + k - p = k by omega, show p + (k + ws.length) = p + k + ws.length by omega]
theorem over_take (ws a : List Value) (k n : Nat) (h : k + ws.length ≤ n) : (over a k ws).take n = over (a.take n) k ws := by
  apply List.ext_getElem?
  intro j
  rw [List.getElem?_take, over_get, over_get]
  by_cases hj : j < n
  · simp only [hj, if_true, List.length_take, List.getElem?_take]
    by_cases hc : k ≤ j ∧ j < k + ws.length ∧ j < a.length
    · rw [if_pos hc, if_pos (by omega)]
    · rw [if_neg hc, if_neg (by omega)]
  · rw [if_neg hj, if_neg (by omega), List.getElem?_take, if_neg hj]

theorem LsRel.all_oneC {m : Mp} {ws ws' : List Value} (h : LsRel m ws ws') (h1 : ws.all oneC = true) : ∀ v ∈ ws', v.oneCell' = true := by
  intro v hv
  obtain ⟨j, hj, rfl⟩ := List.getElem_of_mem hv
  have hj' : j < ws.length := by rw [h.1]; exact hj
  have hr := h.2 j hj' hj
  have ho : oneC ws[j] = true := List.all_eq_true.1 h1 _ (List.getElem_mem _)
  generalize ws[j] = a at hr ho
  generalize ws'[j] = b at hr
  cases hr <;> first | rfl | simp [oneC] at ho

/-- A store into a row of the abstract heap. -/
theorem hstore_sound (hH : WRel P B0 m o H w) (hL : LRel B0 m o .loc L w) {lim b off : Nat} {ws ws' : List Value} {H' : AH} {i : HI} (hi : m.h b = some i) (h : hstore H lim b off ws = some H') (hr : LsRel m ws ws') (h1 : ws.all oneC = true) :
    ∃ w', (storeCells ⟨i.blk, i.off + off, none⟩ ws').run P w = .ok () w' ∧ WRel P B0 m o H' w' ∧ LRel B0 m o .loc L w' ∧ Keep o w o w' := by
  unfold hstore at h
  split at h
  · rename_i e vs hb
    split at h
    · rename_i hc
      cases h
      obtain ⟨c1, c2, c3⟩ := hc
      obtain ⟨k1, k2, k3, k4, k5, arr, te, k6, k7, k8, k9⟩ := hH.blk b i _ hi hb
      have hlw := hr.1
      have hrun := run_storeCells_at P i.blk (i.off + off) te ws' 0 arr w k6 (by omega) (hr.all_oneC h1)
      simp only [Nat.add_zero] at hrun
      refine ⟨_, hrun, ?_, ?_, ?_⟩
      · refine ⟨fun b' i' h => ?_, hH.base, by simpa using hH.low, fun b' i' x h hx => ?_⟩
        · have := hH.dom b' i' h; simpa using this
        · by_cases hbb : b' = b
          · subst hbb
            rw [hi] at h; cases h
            rw [List.getElem?_set_self (List.getElem?_eq_some_iff.1 hb).1] at hx
            cases hx
            refine ⟨by rw [over_length]; exact k1, k2, k3, k4, nlL_over c3 k5 off, _, te, setRow_heap w i.blk arr _ te _ k6, ?_, ?_, ?_⟩
            · simp; omega
            · rw [over_length]; simp; omega
            · simp only [over_length]
              rw [drop_laid ws' arr.toList i.off off (by simp; omega), ← take_over ws' (arr.toList.drop i.off) off (by simp; omega), over_take _ _ _ _ (by omega)]
              exact LsRel.over hr k9 off
          · rw [List.getElem?_set_ne (by omega)] at hx
            refine (hH.blk b' i' x h hx).keep (Mp.le_refl m) fun B hB ho => ⟨setRow_other w i.blk B _ ?_, rfl⟩
            rcases ho with ho | ho | ⟨d, g, ho⟩
            · omega
            · intro e; subst e; rw [k4] at ho; cases ho; exact hbb rfl
            · intro e; subst e; rw [k4] at ho; cases ho
      · exact hL.keep (Mp.le_refl m) fun B d g hB ho => ⟨setRow_other w i.blk B _ (fun e => by subst e; rw [k4] at ho; cases ho), rfl⟩
      · exact ⟨rfl, rfl, rfl, by simp, fun B hB ho => ⟨setRow_other w i.blk B _ (fun e => by subst e; rw [k4] at ho; cases ho), ho⟩⟩
    · cases h
  · cases h

theorem storeAt_sound {s : St} (hH : WRel P B0 m o s.H w) (hL : LRel B0 m o .loc s.L w) (hF : LFresh m s.L) {a a' : Addr} (ha : ARel m a a') {ws ws' : List Value} {L' : LS} {H' : AH} (h : storeAt s a ws = some (L', H')) (hr : LsRel m ws ws') :
    ∃ w', (storeCells a' ws').run P w = .ok () w' ∧ WRel P B0 m o H' w' ∧ LRel B0 m o .loc L' w' ∧ LFresh m L' ∧ Keep o w o w' := by
  unfold storeAt at h
  split at h
  · cases h
  rename_i h1
  have h1 : ws.all oneC = true := by simpa using h1
  obtain ⟨a1, a2⟩ := ha
  obtain ⟨b', n', s'⟩ := a'
  simp only at a1 a2; subst a1
  cases hs : a.spot with
  | none =>
    rw [hs] at h a2
    obtain ⟨i, e1, rfl, rfl⟩ := a2
    simp only [Option.map_eq_some_iff] at h
    obtain ⟨H2, h2, h3⟩ := h
    cases h3
    obtain ⟨w', k1, k2, k3, k4⟩ := hstore_sound hH hL e1 h2 hr h1
    exact ⟨w', k1, k2, k3, hF, k4⟩
  | some g =>
    rw [hs] at h a2
    obtain ⟨e1, rfl⟩ := a2
    simp only at h
    split at h
    · rename_i g' vs hg
      split at h
      · rename_i hc
        obtain ⟨rfl, hc⟩ := hc
        cases h
        obtain ⟨B, k1, k2, k3, arr, te, k4, k5⟩ := hL _ _ _ hg
        rw [e1] at k1; cases k1
        have hla := k5.1
        have hlw := hr.1
        simp only [Array.length_toList] at hla
        have hrun := run_storeCells_at P b' a.off te ws' 0 arr w k4 (by omega) (hr.all_oneC h1)
        simp only [Nat.add_zero] at hrun
        refine ⟨_, hrun, ?_, ?_, ?_, ?_⟩
        · exact hH.keep rfl (fun _ _ _ h => h) (by simp) hH.base fun B hB ho => ⟨setRow_other w b' B _ (fun e => by
            subst e
            rcases ho with ho | ⟨b, ho⟩ | ⟨b, d, g, ho⟩
            · omega
            · rw [k2] at ho; cases ho
            · rw [k2] at ho; cases ho), rfl⟩
        · intro d' g' c hc'
          rw [lget] at hc'
          split at hc'
          · rename_i hd; subst hd
            cases hc'
            refine ⟨b', e1, k2, k3, _, te, setRow_heap w b' arr _ te _ k4, ?_⟩
            rw [← take_over ws' arr.toList a.off (by simp; omega)]
            exact LsRel.over hr k5 a.off
          · rename_i hd
            have := hL d' g' c hc'
            cases c with
            | cells vs' =>
              obtain ⟨B, j1, j2⟩ := this
              exact ⟨B, j1, j2.keep (Mp.le_refl m) fun hB ho => ⟨setRow_other w b' B _ (fun e => by subst e; rw [k2] at ho; cases ho; exact hd rfl), rfl⟩⟩
            | fwd b => exact this
        · intro d' g' B h
          obtain ⟨g'', c, j1, j2⟩ := hF d' g' B h
          by_cases hd : d' = a.block
          · subst hd; rw [hg] at j1; cases j1; exact ⟨g, _, by rw [lget, if_pos rfl], j2⟩
          · exact ⟨g'', c, by rw [lget, if_neg hd]; exact j1, j2⟩
        · exact ⟨rfl, rfl, rfl, by simp, fun B hB ho => ⟨setRow_other w b' B _ (fun e => by subst e; rw [k2] at ho; cases ho), ho⟩⟩
      · cases h
    · rename_i g' b hg
      split at h
      · rename_i hgg; subst hgg
        obtain ⟨i, k1, k2, k3⟩ := hL _ _ _ hg
        rw [e1] at k3; cases k3
        simp only [Option.map_eq_some_iff] at h
        obtain ⟨H2, h2, h3⟩ := h
        cases h3
        obtain ⟨w', j1, j2, j3, j4⟩ := hstore_sound hH hL k1 h2 hr h1
        rw [k2, Nat.zero_add] at j1
        exact ⟨w', j1, j2, j3, hF, j4⟩
      · cases h
    · cases h

/-- A box whose address is handed out goes to the heap. The world stays as it is. -/
theorem glob_sound (hH : WRel P B0 m o H w) (hL : LRel B0 m o .loc L w) (hF : LFresh m L) {v v' : Value} (hv : VRel m v v') {u : Value} {L' : LS} {H' : AH} (h : glob L H v = some (u, L', H')) :
    ∃ m' o', m.le m' ∧ VRel m' u v' ∧ nl u = true ∧ WRel P B0 m' o' H' w ∧ LRel B0 m' o' .loc L' w ∧ LFresh m' L' ∧ Keep o w o' w := by
  unfold glob at h
  split at h
  · rename_i d off g
    cases hv with
    | ptr _ a' ha =>
    obtain ⟨a1, a2, a3⟩ := ha
    obtain ⟨b', n', s'⟩ := a'
    simp only at a1 a2 a3; subst a1; subst a3
    split at h
    · rename_i g' vs hg
      split at h
      · rename_i hc
        obtain ⟨rfl, hc⟩ := hc
        cases h
        obtain ⟨B, k1, k2, k3, arr, te, k4, k5⟩ := hL _ _ _ hg
        rw [a2] at k1; cases k1
        have hlen := k5.1
        simp only [Array.length_toList] at hlen
        have hd : m.h H.length = none := by
          cases hx : m.h H.length with
          | none => rfl
          | some i => exact absurd (hH.dom _ _ hx).1 (Nat.lt_irrefl _)
        have hm : m.le ⟨fun b => if b = H.length then some ⟨b', 0, 0, arr.size, none⟩ else m.h b, m.l⟩ := by
          refine ⟨fun b i h => ?_, fun _ _ _ h => h⟩
          by_cases hb : b = H.length
          · subst hb; rw [hd] at h; cases h
          · simpa [hb] using h
        have hlt := lt_of_heap k4
        refine ⟨_, fun B => if B = b' then .heap H.length else o B, hm, .ptr _ _ ⟨rfl, ⟨b', 0, 0, arr.size, none⟩, by simp⟩, by simp [nl], ?_, ?_, ?_, ?_⟩
        · refine ⟨fun b i h => ?_, fun B hB => ?_, hH.low, fun b i x h hx => ?_⟩
          · by_cases hb : b = H.length
            · subst hb; simp at h; subst h; simp; exact hlt
            · simp [hb] at h; have := hH.dom b i h; simp; omega
          · simp [show B ≠ b' by omega]; exact hH.base B hB
          · by_cases hb : b = H.length
            · subst hb
              simp at h; subst h
              simp at hx; subst hx
              refine ⟨by simp only; omega, rfl, k3, by simp, hc, arr, te, k4, rfl, by omega, ?_⟩
              simp only [List.drop_zero]
              rw [hlen, ← Array.length_toList, List.take_length]
              exact k5.mono hm
            · simp [hb] at h
              have hl := (hH.dom b i h).1
              rw [List.getElem?_append_left hl] at hx
              refine (hH.blk b i x h hx).keep hm fun B hB ho => ⟨rfl, ?_⟩
              have : B ≠ b' := by
                intro e; subst e
                rcases ho with ho | ho | ⟨d, g, ho⟩
                · omega
                · rw [k2] at ho; cases ho
                · rw [k2] at ho; cases ho
              simp [this]
        · intro d' g' c hc'
          rw [lget] at hc'
          split at hc'
          · rename_i hd'; subst hd'
            cases hc'
            exact ⟨⟨b', 0, 0, arr.size, none⟩, by simp, rfl, a2⟩
          · rename_i hd'
            have := hL d' g' c hc'
            cases c with
            | cells vs' =>
              obtain ⟨B, j1, j2⟩ := this
              exact ⟨B, j1, j2.keep hm fun hB ho => ⟨rfl, by
                have : B ≠ b' := fun e => by subst e; rw [k2] at ho; cases ho; exact hd' rfl
                simp [this]⟩⟩
            | fwd b =>
              obtain ⟨i, j1, j2, j3⟩ := this
              exact ⟨i, hm.1 _ _ j1, j2, j3⟩
        · intro d' g' B h
          obtain ⟨g'', c, j1, j2⟩ := hF d' g' B h
          by_cases hd' : d' = d
          · subst hd'; rw [hg] at j1; cases j1; exact ⟨g, _, by rw [lget, if_pos rfl], j2⟩
          · exact ⟨g'', c, by rw [lget, if_neg hd']; exact j1, j2⟩
        · exact ⟨rfl, rfl, rfl, Nat.le_refl _, fun B hB ho => ⟨rfl, by
            have : B ≠ b' := fun e => by subst e; rw [k2] at ho; cases ho
            simp [this]; exact ho⟩⟩
      · cases h
    · rename_i g' b hg
      split at h
      · rename_i hgg; subst hgg
        cases h
        obtain ⟨i, k1, k2, k3⟩ := hL _ _ _ hg
        rw [a2] at k3; cases k3
        exact ⟨m, o, Mp.le_refl m, .ptr _ _ ⟨rfl, i, k1, rfl, by simp [k2]⟩, by simp [nl], hH, hL, hF, Keep.refl o w⟩
      · cases h
    · cases h
  · split at h
    · rename_i hn
      cases h
      exact ⟨m, o, Mp.le_refl m, hv, hn, hH, hL, hF, Keep.refl o w⟩
    · cases h

theorem globs_sound {vs : List Value} : ∀ {m : Mp} {o : Nat → Ow} {L : LS} {H : AH} (_ : WRel P B0 m o H w) (_ : LRel B0 m o .loc L w) (_ : LFresh m L) {vs' : List Value} (_ : LsRel m vs vs') {us : List Value} {L' : LS} {H' : AH} (_ : globs L H vs = some (us, L', H')),
    ∃ m' o', m.le m' ∧ LsRel m' us vs' ∧ nlL us = true ∧ WRel P B0 m' o' H' w ∧ LRel B0 m' o' .loc L' w ∧ LFresh m' L' ∧ Keep o w o' w := by
  induction vs with
  | nil =>
    intro m o L H hH hL hF vs' hr us L' H' h
    cases vs' with
    | cons => simp [LsRel] at hr
    | nil => cases h; exact ⟨m, o, Mp.le_refl m, LsRel.nil m, rfl, hH, hL, hF, Keep.refl o w⟩
  | cons v r ih =>
    intro m o L H hH hL hF vs' hr us L' H' h
    cases vs' with
    | nil => simp [LsRel] at hr
    | cons v' r' =>
      unfold globs at h
      split at h
      · rename_i u L1 H1 h1
        split at h
        · rename_i us1 L2 H2 h2
          cases h
          obtain ⟨m1, o1, a1, a2, a3, a4, a5, a6, a7⟩ := glob_sound hH hL hF hr.head h1
          obtain ⟨m2, o2, b1, b2, b3, b4, b5, b6, b7⟩ := ih a4 a5 a6 (hr.tail.mono a1) h2
          exact ⟨m2, o2, Mp.le_trans a1 b1, LsRel.cons (a2.mono b1) b2, by simp [nlL, a3, b3], b4, b5, b6, a7.trans b7⟩
        · cases h
      · cases h
end Go.Proofs.YthobfecblpnnnaaGreatDoor

/- Operation by operation: what the abstract machine yields, the model yields. -/
namespace Go.Proofs.YthobfecblpnnnaaGreatDoor
open Go Go.RowKit

variable {P : Program} {B0 : Nat} {m : Mp} {o : Nat → Ow} {w : World} {s : St} {a : Act} {d : Option Tmp}

/-- The operation o yields, over the world w, what 'v', L', H' stand for. -/
def Does (P : Program) (B0 : Nat) (m : Mp) (o : Nat → Ow) (w : World) (a : Act) (oper : Oper) (v : Value) (L' : LS) (H' : AH) : Prop :=
  ∃ nxt w', (execOp a.eval oper).run P w = .ok nxt w' ∧ ((∃ v', nxt = .value v' ∧ Eff P B0 m o w v L' H' v' w') ∨ (nxt = .skip ∧ Eff P B0 m o w v L' H' undef w'))

structure Tied (P : Program) (B0 : Nat) (m : Mp) (o : Nat → Ow) (L : LS) (H : AH) (w : World) : Prop where
  tH : WRel P B0 m o H w
  tL : LRel B0 m o .loc L w
  tF : LFresh m L

theorem Tied.pure (t : Tied P B0 m o s.L s.H w) {oper : Oper} {v v' : Value} (hr : (execOp a.eval oper).run P w = .ok (.value v') w) (h : VRel m v v') : Does P B0 m o w a oper v s.L s.H :=
  ⟨_, _, hr, .inl ⟨v', rfl, Eff.pure t.tL t.tF t.tH h⟩⟩

theorem cells_rel {v v' : Value} (h : VRel m v v') (hu : isU v = false) : LsRel m v.cells.toList v'.cells.toList := by
  cases h with
  | any v => simp [isU] at hu
  | agg x x' hx hxs => exact LsRel.of_array hx hxs
  | sk => exact LsRel.cons .sk (LsRel.nil m)
  | bool b => exact LsRel.cons (.bool b) (LsRel.nil m)
  | int k n => exact LsRel.cons (.int k n) (LsRel.nil m)
  | float k n => exact LsRel.cons (.float k n) (LsRel.nil m)
  | complex k n n' => exact LsRel.cons (.complex k n n') (LsRel.nil m)
  | string s => exact LsRel.cons (.string s) (LsRel.nil m)
  | ptrN => exact LsRel.cons .ptrN (LsRel.nil m)
  | ptr x x' h => exact LsRel.cons (.ptr x x' h) (LsRel.nil m)
  | slN c a' c' h ha => exact LsRel.cons (.slN c a' c' h ha) (LsRel.nil m)
  | sl x x' n c c' i hs h hi ht hn hc => exact LsRel.cons (.sl x x' n c c' i hs h hi ht hn hc) (LsRel.nil m)
  | map => exact LsRel.cons .map (LsRel.nil m)
  | chan => exact LsRel.cons .chan (LsRel.nil m)
  | nilF => exact LsRel.cons .nilF (LsRel.nil m)
  | func f f' x x' y y' hf hx hxs hy hys => exact LsRel.cons (.func f f' x x' y y' hf hx hxs hy hys) (LsRel.nil m)
  | iface t v v' h => exact LsRel.cons (.iface t v v' h) (LsRel.nil m)
  | nilI => exact LsRel.cons .nilI (LsRel.nil m)
  | tup x x' hx hxs => exact LsRel.cons (.tup x x' hx hxs) (LsRel.nil m)

section
variable (t : Tied P B0 m o s.L s.H w) {oper : Oper} {v : Value} {L' : LS} {H' : AH}
include t

theorem do_mv {x : Operand} (hop : oper.op = .move x ∨ oper.op = .assign x) (hx : VRel m (s.ev x) (a.eval x)) (h : popA s (.mv x) d = some (v, L', H')) : Does P B0 m o w a oper v L' H' := by
  simp only [popA, Option.some.injEq, Prod.mk.injEq] at h
  obtain ⟨rfl, rfl, rfl⟩ := h
  refine t.pure (v' := a.eval x) ?_ hx
  rcases hop with hop | hop <;> simp [execOp, hop]

theorem do_pick {c x y : Operand} (hop : oper.op = .pick c x y) (hc : VRel m (s.ev c) (a.eval c)) (hx : VRel m (s.ev x) (a.eval x)) (hy : VRel m (s.ev y) (a.eval y)) (h : popA s (.pick c x y) d = some (v, L', H')) : Does P B0 m o w a oper v L' H' := by
  simp only [popA] at h
  split at h
  · rename_i b hb
    rw [hb] at hc
    simp only [Option.some.injEq, Prod.mk.injEq] at h
    obtain ⟨rfl, rfl, rfl⟩ := h
    have he : a.eval c = .bool b := by generalize a.eval c = z at hc; cases hc; rfl
    refine t.pure (v' := if b then a.eval x else a.eval y) ?_ (by cases b; exact hy; exact hx)
    simp [execOp, hop, he, asBool]
  · cases h

theorem do_box {x : Operand} {e : TypeId} (hop : oper.op = .box e x ∨ (oper.op = .alloc e ∧ ∃ z, x = .const z ∧ zeroOf P e = some z)) (hx : VRel m (s.ev x) (a.eval x)) (h : popA s (.box x) d = some (v, L', H')) : Does P B0 m o w a oper v L' H' := by
  simp only [popA] at h
  split at h
  · rename_i d
    split at h
    · cases h
    · rename_i hu
      simp only [Option.some.injEq, Prod.mk.injEq] at h
      obtain ⟨rfl, rfl, rfl⟩ := h
      have hl := cells_rel hx (by simpa using hu)
      have := LRel.box t.tH t.tL t.tF d (a.eval x).cells e (s.ev x).cells.toList hl _ rfl
      refine ⟨.value (.pointer (some ⟨w.heap.size, 0, none⟩)), w.alloc (.cells (a.eval x).cells e), ?_, .inl ⟨_, rfl, this⟩⟩
      rcases hop with hop | ⟨hop, z, rfl, hz⟩
      · simp [execOp, hop, Instr.box, newVar, newRow]
      · have hi : ∃ i, P.info? e = some i ∧ i.zero = some z := by
          simp only [zeroOf, Option.bind_eq_some_iff] at hz; exact hz
        obtain ⟨i, hi, hiz⟩ := hi
        simp [execOp, hop, Instr.alloc, zeroValue, typeInfo, hi, hiz, newVar, newRow, Act.eval]
  · cases h

theorem do_ptr {x : Operand} {st f off size : Nat} {ag : Bool} (hop : oper.op = .fieldAddr st x f) (hf : fieldOf P st f = some (off, size, ag)) (h0 : size ≠ 0) (hx : VRel m (s.ev x) (a.eval x)) (h : popA s (.ptr x off) d = some (v, L', H')) : Does P B0 m o w a oper v L' H' := by
  simp only [popA] at h
  split at h
  · rename_i p hp
    rw [hp] at hx
    simp only [Option.some.injEq, Prod.mk.injEq] at h
    obtain ⟨rfl, rfl, rfl⟩ := h
    generalize he : a.eval x = z at hx
    cases hx with
    | ptr _ p' hr =>
    refine t.pure (v' := .pointer (some (p'.add off))) ?_ (.ptr _ _ (hr.add off))
    unfold fieldOf at hf
    split at hf
    · rename_i fs hu
      simp only [bind, Option.bind_eq_some_iff, pure, Option.some.injEq, Prod.mk.injEq] at hf
      obtain ⟨fl, h1, i, h2, _, _, rfl, rfl, _⟩ := hf
      simp [execOp, hop, Instr.fieldAt, run_underlying hu, h1, he, Instr.sureAddr, fieldPlace, sizeOf, typeInfo, h2, h0]
    · cases hf
  · cases h

theorem do_elem {x ix : Operand} {ty e : TypeId} {i : TypeInfo} (hop : oper.op = .indexAddr ty x ix) (hu : P.underlying ty = some (.slice e)) (hi : P.info? e = some i) (hx : VRel m (s.ev x) (a.eval x)) (hy : VRel m (s.ev ix) (a.eval ix)) (h : popA s (.elem i.size x ix) d = some (v, L', H')) : Does P B0 m o w a oper v L' H' := by
  simp only [popA] at h
  split at h
  · rename_i p n c k j hp hj
    rw [hp] at hx
    rw [hj] at hy
    split at h
    · rename_i hb
      simp only [Option.some.injEq, Prod.mk.injEq] at h
      obtain ⟨rfl, rfl, rfl⟩ := h
      generalize he : a.eval x = z at hx
      generalize hg : a.eval ix = y at hy
      cases hy
      cases hx with
      | slN => omega
      | sl p p' _ _ c' hi' hs hr hm ht hn hc =>
        refine t.pure (v' := .pointer (some (p'.add (j.toNat * i.size)))) ?_ (.ptr _ _ (hr.add _))
        simp [execOp, hop, Instr.indexAt, he, hg, asIntOf, run_underlying hu, sizeOf, typeInfo, hi, hb.1, hb.2]
    · cases h
  · cases h

theorem do_elemA {x ix : Operand} {ty e n : Nat} {i : TypeInfo} (hop : oper.op = .indexAddr ty x ix) (hu : P.underlying ty = some (.array n e)) (hi : P.info? e = some i) (hx : VRel m (s.ev x) (a.eval x)) (hy : VRel m (s.ev ix) (a.eval ix)) (h : popA s (.elemA n i.size x ix) d = some (v, L', H')) : Does P B0 m o w a oper v L' H' := by
  simp only [popA] at h
  split at h
  · rename_i p k j hp hj
    rw [hp] at hx
    rw [hj] at hy
    split at h
    · rename_i hb
      simp only [Option.some.injEq, Prod.mk.injEq] at h
      obtain ⟨rfl, rfl, rfl⟩ := h
      generalize he : a.eval x = z at hx
      generalize hg : a.eval ix = y at hy
      cases hy
      cases hx with
      | ptr p p' hr =>
        refine t.pure (v' := .pointer (some (p'.add (j.toNat * i.size)))) ?_ (.ptr _ _ (hr.add _))
        simp [execOp, hop, Instr.indexAt, he, hg, asIntOf, run_underlying hu, sizeOf, typeInfo, hi, hb.1, hb.2, Instr.sureAddr]
    · cases h
  · cases h

theorem do_ld {x : Operand} {ty : TypeId} {de : TypeDesc} (hop : oper.op = .load ty x) (hu : P.underlying ty = some de) (ha : isAggT P ty = false) (hx : VRel m (s.ev x) (a.eval x)) (h : popA s (.ld x) d = some (v, L', H')) : Does P B0 m o w a oper v L' H' := by
  simp only [popA] at h
  split at h
  · rename_i p hp
    rw [hp] at hx
    split at h
    · rename_i u hc
      simp only [Option.some.injEq, Prod.mk.injEq] at h
      obtain ⟨rfl, rfl, rfl⟩ := h
      generalize he : a.eval x = z at hx
      cases hx with
      | ptrN => simp at hc
      | ptr p p' hr =>
        obtain ⟨v', h1, h2⟩ := cellAt_sound t.tL t.tH hr (by simpa using hc)
        refine t.pure (v' := v') ?_ h2
        have hag : (isAgg ty).run P w = .ok false w := by
          simp only [isAggT, hu] at ha
          cases de <;> simp [isAgg, run_underlying hu] at ha ⊢
        simp [execOp, hop, Instr.loadAt, he, Instr.sureAddr, loadVar, hag, h1]
    · cases h
  · cases h

theorem do_ldn {x : Operand} {ty : TypeId} {i : TypeInfo} (hop : oper.op = .load ty x) (hi : P.info? ty = some i) (ha : isAggT P ty = true) (hx : VRel m (s.ev x) (a.eval x)) (h : popA s (.ldn i.size x) d = some (v, L', H')) : Does P B0 m o w a oper v L' H' := by
  simp only [popA] at h
  split at h
  · rename_i p hp
    rw [hp] at hx
    split at h
    · rename_i u hc
      simp only [Option.some.injEq, Prod.mk.injEq] at h
      obtain ⟨rfl, rfl, rfl⟩ := h
      generalize he : a.eval x = z at hx
      cases hx with
      | ptrN => simp at hc
      | ptr p p' hr =>
        obtain ⟨h0, vs', h1, h2⟩ := cellsAt_sound t.tL t.tH hr (by simpa using hc)
        refine t.pure (v' := .agg vs'.toArray) ?_ (VRel.aggL h1)
        have hag : (isAgg ty).run P w = .ok true w := by
          simp only [isAggT] at ha
          split at ha
          · rename_i fs hu; simp [isAgg, run_underlying hu]
          · rename_i n e hu; simp [isAgg, run_underlying hu]
          · cases ha
        have hl := run_loadCells_list (P := P) w p' vs' h2
        rw [← h1.1, h0] at hl
        simp [execOp, hop, Instr.loadAt, he, Instr.sureAddr, loadVar, hag, sizeOf, typeInfo, hi, hl]
    · cases h
  · cases h

theorem do_st {x y : Operand} {ty : TypeId} {i : TypeInfo} (hop : oper.op = .store ty x y) (hi : P.info? ty = some i) (hx : VRel m (s.ev x) (a.eval x)) (hy : VRel m (s.ev y) (a.eval y)) (h : popA s (.st i.size x y) d = some (v, L', H')) : Does P B0 m o w a oper v L' H' := by
  simp only [popA] at h
  split at h
  · rename_i p hp
    rw [hp] at hx
    split at h
    · rename_i hc
      simp only [Option.map_eq_some_iff, Prod.mk.injEq] at h
      obtain ⟨⟨L1, H1⟩, h1, rfl, rfl, rfl⟩ := h
      generalize he : a.eval x = z at hx
      cases hx with
      | ptr p p' hr =>
        have hl := cells_rel hy hc.1
        obtain ⟨w', k1, k2, k3, k4, k5⟩ := storeAt_sound (P := P) t.tH t.tL t.tF hr h1 hl
        have hsz : (a.eval y).cells.size = i.size := by have := hl.1; simp at this; rw [← this]; exact hc.2
        refine ⟨.skip, w', ?_, .inr ⟨rfl, m, o, Mp.le_refl m, .any _, k3, k4, k2, k5⟩⟩
        simp [execOp, hop, Instr.storeAt, he, Instr.sureAddr, storeVar, sizeOf, typeInfo, hi, hsz, k1]
    · cases h
  · cases h

theorem do_nilc {x : Operand} (hop : oper.op = .nilCheck x) (hx : VRel m (s.ev x) (a.eval x)) (h : popA s (.nilc x) d = some (v, L', H')) : Does P B0 m o w a oper v L' H' := by
  simp only [popA] at h
  split at h
  · rename_i p hp
    rw [hp] at hx
    simp only [Option.some.injEq, Prod.mk.injEq] at h
    obtain ⟨rfl, rfl, rfl⟩ := h
    generalize he : a.eval x = z at hx
    have hx' := hx
    cases hx with
    | ptr p p' hr =>
      refine t.pure (v' := .pointer (some p')) ?_ hx'
      simp [execOp, hop, he]
  · rename_i f b c hp
    rw [hp] at hx
    simp only [Option.some.injEq, Prod.mk.injEq] at h
    obtain ⟨rfl, rfl, rfl⟩ := h
    generalize he : a.eval x = z at hx
    have hx' := hx
    cases hx with
    | func f f' p p' y y' hf =>
      cases hf
      refine t.pure ?_ hx'
      simp [execOp, hop, he]
  · cases h
end
end Go.Proofs.YthobfecblpnnnaaGreatDoor

/- Operation by operation, on: arithmetic, slices, aggregates. -/
namespace Go.Proofs.YthobfecblpnnnaaGreatDoor
open Go Go.RowKit

variable {P : Program} {B0 : Nat} {m : Mp} {o : Nat → Ow} {w : World} {s : St} {a : Act} {d : Option Tmp}

theorem binA_sound (op : BinOp) (t : TypeId) (x y : Operand) (u v z : Value) (h : binA op u v = some z) : (do Go.eqGuard op t x y u v; Go.binOp op t u v : Sem Value).run P w = .ok z w := by
  unfold binA at h
  split at h
  · rename_i k p k' q
    cases op <;> simp only [Option.ite_none_right_eq_some, Option.some.injEq] at h
    all_goals first
      | (obtain ⟨rfl, rfl⟩ := h; simp [Go.eqGuard, Go.binOp, Op.intArith, Op.intCmp, Op.intBits]; done)
      | (obtain ⟨⟨rfl, h0⟩, rfl⟩ := h; simp [Go.eqGuard, Go.binOp, Op.intDiv, h0]; done)
      | (obtain ⟨h0, rfl⟩ := h; simp [Go.eqGuard, Go.binOp, Op.shift, Int.not_lt.2 h0]; done)
  · cases h

theorem binA_rel {op : BinOp} {u v z u' v' : Value} (h : binA op u v = some z) (hu : VRel m u u') (hv : VRel m v v') : u' = u ∧ v' = v ∧ VRel m z z := by
  unfold binA at h
  split at h
  · cases hu
    cases hv
    refine ⟨rfl, rfl, ?_⟩
    cases op <;> simp only [Option.ite_none_right_eq_some, Option.some.injEq] at h
    all_goals (obtain ⟨_, rfl⟩ := h; first | exact .int _ _ | exact .bool _)
  · cases h

section
variable (t : Tied P B0 m o s.L s.H w) {oper : Oper} {v : Value} {L' : LS} {H' : AH}
include t

theorem do_bin {op : BinOp} {x y : Operand} {ty ty' : TypeId} (hop : oper.op = .binOp op ty x y ty') (hx : VRel m (s.ev x) (a.eval x)) (hy : VRel m (s.ev y) (a.eval y)) (h : popA s (.bin op x y) d = some (v, L', H')) : Does P B0 m o w a oper v L' H' := by
  simp only [popA, Option.bind_eq_some_iff, Option.some.injEq, Prod.mk.injEq] at h
  obtain ⟨z, hz, rfl, rfl, rfl⟩ := h
  obtain ⟨h1, h2, h3⟩ := binA_rel hz hx hy
  refine t.pure (v' := z) ?_ h3
  have := binA_sound (P := P) (w := w) op ty x y _ _ z hz
  simp only [execOp, hop, h1, h2]
  rw [Sem.run_bind, this]
  rfl

omit t in
theorem run_equalIn_bool (n : Nat) {ty : TypeId} (hu : P.underlying ty = some .bool) (p q : Bool) : (Op.equalIn (n + 1) ty (.bool p) (.bool q)).run P w = .ok (p == q) w := by
  simp [Op.equalIn, run_underlying hu]

omit t in
theorem run_equal_bool {ty : TypeId} (hu : P.underlying ty = some .bool) (p q : Bool) : (Op.equal ty (.bool p) (.bool q)).run P w = .ok (p == q) w := run_equalIn_bool 9999 hu p q

omit t in
theorem run_eqGuard_bool (op : BinOp) (ty : TypeId) (x y : Operand) (p q : Bool) : (Go.eqGuard op ty x y (.bool p) (.bool q)).run P w = .ok () w := by cases op <;> rfl

theorem do_eqb {neg : Bool} {x y : Operand} {ty ty' : TypeId} (hop : oper.op = .binOp (if neg then .neq else .eql) ty x y ty') (hu : P.underlying ty = some .bool) (hx : VRel m (s.ev x) (a.eval x)) (hy : VRel m (s.ev y) (a.eval y)) (h : popA s (.eqb neg x y) d = some (v, L', H')) : Does P B0 m o w a oper v L' H' := by
  simp only [popA] at h
  split at h
  · rename_i p q hp hq
    rw [hp] at hx
    rw [hq] at hy
    simp only [Option.some.injEq, Prod.mk.injEq] at h
    obtain ⟨rfl, rfl, rfl⟩ := h
    generalize he : a.eval x = z at hx
    generalize hg : a.eval y = z' at hy
    cases hx
    cases hy
    refine t.pure ?_ (.bool _)
    cases neg
    · simp only [execOp, hop, he, hg, Bool.false_eq_true, if_false]
      rw [Sem.run_bind, Sem.run_bind, run_eqGuard_bool]
      simp only [Result.andThen_ok, Go.binOp]
      rw [Sem.run_bind, run_equal_bool hu]
      rfl
    · simp only [execOp, hop, he, hg, if_true]
      rw [Sem.run_bind, Sem.run_bind, run_eqGuard_bool]
      simp only [Result.andThen_ok, Go.binOp]
      rw [Sem.run_bind, run_equal_bool hu]
      rfl
  · cases h

theorem do_un {op : UnOp} {x : Operand} {ty : TypeId} (hop : oper.op = .unOp op ty x) (hx : VRel m (s.ev x) (a.eval x)) (h : popA s (.un op x) d = some (v, L', H')) : Does P B0 m o w a oper v L' H' := by
  simp only [popA, Option.bind_eq_some_iff, Option.some.injEq, Prod.mk.injEq] at h
  obtain ⟨z, hz, rfl, rfl, rfl⟩ := h
  unfold unA at hz
  split at hz
  · rename_i k n hp
    rw [hp] at hx; cases hz
    generalize he : a.eval x = z at hx
    cases hx
    refine t.pure ?_ (.int _ _)
    simp [execOp, hop, he, Op.unary, Op.intArith]
  · rename_i b hp
    rw [hp] at hx; cases hz
    generalize he : a.eval x = z at hx
    cases hx
    refine t.pure ?_ (.bool _)
    simp [execOp, hop, he, Op.unary]
  · cases hz

theorem do_conv {k k' : IntKind} {x : Operand} {st dt : TypeId} (hop : oper.op = .convert st dt x) (hs : P.underlying st = some (.int k')) (hd : P.underlying dt = some (.int k)) (hx : VRel m (s.ev x) (a.eval x)) (h : popA s (.conv k x) d = some (v, L', H')) : Does P B0 m o w a oper v L' H' := by
  simp only [popA] at h
  split at h
  · rename_i k2 n hp
    rw [hp] at hx
    simp only [Option.some.injEq, Prod.mk.injEq] at h
    obtain ⟨rfl, rfl, rfl⟩ := h
    generalize he : a.eval x = z at hx
    cases hx
    refine t.pure ?_ (.int _ _)
    simp [execOp, hop, he, Go.convert, run_underlying hs, run_underlying hd, Conv.intToInt]
  · cases h

theorem do_mkf {fn : Fn} {first cap : Array Operand} (hop : oper.op = .makeFunc fn first cap) (hx : ∀ x ∈ first.toList ++ cap.toList, VRel m (s.ev x) (a.eval x)) (h : popA s (.mkf fn first.toList cap.toList) d = some (v, L', H')) : Does P B0 m o w a oper v L' H' := by
  simp only [popA] at h
  split at h
  · rename_i vs L1 H1 h1
    split at h
    · rename_i us L2 H2 h2
      split at h
      · rename_i f
        simp only [Option.some.injEq, Prod.mk.injEq] at h
        obtain ⟨rfl, rfl, rfl⟩ := h
        have r1 : LsRel m (first.toList.map s.ev) (first.toList.map a.eval) := ⟨by simp, fun i p q => by simp; exact hx _ (by simp)⟩
        have r2 : LsRel m (cap.toList.map s.ev) (cap.toList.map a.eval) := ⟨by simp, fun i p q => by simp; exact hx _ (by simp)⟩
        obtain ⟨m1, o1, a1, a2, a3, a4, a5, a6, a7⟩ := globs_sound t.tH t.tL t.tF r1 h1
        obtain ⟨m2, o2, b1, b2, b3, b4, b5, b6, b7⟩ := globs_sound a4 a5 a6 (r2.mono a1) h2
        refine ⟨.value (.func (.func f) (first.map a.eval) (cap.map a.eval)), w, ?_, .inl ⟨_, rfl, m2, o2, Mp.le_trans a1 b1, ?_, b5, b6, b4, a7.trans b7⟩⟩
        · simp [execOp, hop, Instr.makeFunc]
        · have e1 := a2.mono b1
          refine .func _ _ _ _ _ _ (.func f) ?_ ?_ ?_ ?_
          · simpa using e1.1
          · intro i p q; have := e1.2 i (by simpa using p) (by simpa using q); rw [List.getElem_map] at this; simpa using this
          · simpa using b2.1
          · intro i p q; have := b2.2 i (by simpa using p) (by simpa using q); rw [List.getElem_map] at this; simpa using this
      · cases h
    · cases h
  · cases h

theorem do_ext {x : Operand} {i : Nat} (hop : oper.op = .extract x i) (hx : VRel m (s.ev x) (a.eval x)) (h : popA s (.ext x i) d = some (v, L', H')) : Does P B0 m o w a oper v L' H' := by
  simp only [popA] at h
  split at h
  · rename_i vs hp
    rw [hp] at hx
    split at h
    · rename_i u hu
      split at h
      · cases h
      rename_i hnu
      simp only [Option.some.injEq, Prod.mk.injEq] at h
      obtain ⟨rfl, rfl, rfl⟩ := h
      obtain ⟨hlt, rfl⟩ := Array.getElem?_eq_some_iff.1 hu
      generalize he : a.eval x = z at hx
      cases hx with
      | any => simp at hlt
      | sk => have : i = 0 := by simpa using hlt
              subst this; exact absurd rfl hnu
      | tup _ x' hs hxs =>
        refine t.pure (v' := x'[i]) ?_ (hxs i hlt (by omega))
        simp [execOp, hop, he, Instr.extract, show i < x'.size by omega]
    · cases h
  · cases h

theorem do_fld {x : Operand} {st f off size : Nat} {ag : Bool} (hop : oper.op = .field st x f) (hf : fieldOf P st f = some (off, size, ag)) (hx : VRel m (s.ev x) (a.eval x)) (h : popA s (.fld off size ag x) d = some (v, L', H')) : Does P B0 m o w a oper v L' H' := by
  simp only [popA] at h
  split at h
  · rename_i cs hp
    rw [hp] at hx
    generalize he : a.eval x = z at hx
    cases hx with
    | agg _ x' hs hxs =>
    unfold fieldOf at hf
    split at hf
    · rename_i fs hu
      simp only [bind, Option.bind_eq_some_iff, pure, Option.some.injEq, Prod.mk.injEq] at hf
      obtain ⟨fl, h1, i, h2, de, h3, rfl, rfl, rfl⟩ := hf
      have hag : isAggT P fl.type = true → (isAgg fl.type).run P w = .ok true w := fun ha => by
        simp only [isAggT] at ha
        split at ha
        · rename_i fs hu; simp [isAgg, run_underlying hu]
        · rename_i n e hu; simp [isAgg, run_underlying hu]
        · cases ha
      split at h
      · rename_i ha
        split at h
        · rename_i hsz
          simp only [Option.some.injEq, Prod.mk.injEq] at h
          obtain ⟨rfl, rfl, rfl⟩ := h
          refine t.pure (v' := .agg (x'.extract fl.offset (fl.offset + i.size))) ?_ (.agg _ _ (by simp [hs]) ?_)
          · simp [execOp, hop, he, Instr.field, run_underlying hu, h1, asAgg, part, hag ha, sizeOf, typeInfo, h2]
          · intro j p q
            simp only [Array.getElem_extract]
            exact hxs _ _ _
        · cases h
      · rename_i ha
        split at h
        · rename_i u hu'
          simp only [Option.some.injEq, Prod.mk.injEq] at h
          obtain ⟨rfl, rfl, rfl⟩ := h
          obtain ⟨hlt, rfl⟩ := Array.getElem?_eq_some_iff.1 hu'
          refine t.pure (v' := x'[fl.offset]) ?_ (hxs _ hlt (by omega))
          have hag' : (isAgg fl.type).run P w = .ok false w := by
            simp only [isAggT, h3] at ha
            cases de <;> simp [isAgg, run_underlying h3] at ha ⊢
          simp [execOp, hop, he, Instr.field, run_underlying hu, h1, asAgg, part, hag', show fl.offset < x'.size by omega]
        · cases h
    · cases hf
  · cases h

theorem do_idx {x : Operand} {ty e n : Nat} {kk : IntKind} {k : Int} {i : TypeInfo} {de : TypeDesc} (hop : oper.op = .index ty x (.const (.int kk k))) (hu : P.underlying ty = some (.array n e)) (hi : P.info? e = some i) (hde : P.underlying e = some de) (h0 : 0 ≤ k ∧ k < n)
    (hx : VRel m (s.ev x) (a.eval x)) (h : popA s (.fld (k.toNat * i.size) i.size (isAggT P e) x) d = some (v, L', H')) : Does P B0 m o w a oper v L' H' := by
  simp only [popA] at h
  have hev : a.eval (.const (.int kk k)) = .int kk k := rfl
  split at h
  · rename_i cs hp
    rw [hp] at hx
    generalize he : a.eval x = z at hx
    cases hx with
    | agg _ x' hs hxs =>
    have hag : isAggT P e = true → (isAgg e).run P w = .ok true w := fun ha => by
      simp only [isAggT] at ha
      split at ha
      · rename_i fs hu; simp [isAgg, run_underlying hu]
      · rename_i n e hu; simp [isAgg, run_underlying hu]
      · cases ha
    split at h
    · rename_i ha
      split at h
      · rename_i hsz
        simp only [Option.some.injEq, Prod.mk.injEq] at h
        obtain ⟨rfl, rfl, rfl⟩ := h
        refine t.pure (v' := .agg (x'.extract (k.toNat * i.size) (k.toNat * i.size + i.size))) ?_ (.agg _ _ (by simp [hs]) ?_)
        · simp [execOp, hop, he, hev, Instr.index, asIntOf, run_underlying hu, h0, part, hag ha, sizeOf, typeInfo, hi]
        · intro j p q
          simp only [Array.getElem_extract]
          exact hxs _ _ _
      · cases h
    · rename_i ha
      split at h
      · rename_i u hu'
        simp only [Option.some.injEq, Prod.mk.injEq] at h
        obtain ⟨rfl, rfl, rfl⟩ := h
        obtain ⟨hlt, rfl⟩ := Array.getElem?_eq_some_iff.1 hu'
        refine t.pure (v' := x'[k.toNat * i.size]) ?_ (hxs _ hlt (by omega))
        have hag' : (isAgg e).run P w = .ok false w := by
          simp only [isAggT, hde] at ha
          cases de <;> simp [isAgg, run_underlying hde] at ha ⊢
        simp [execOp, hop, he, hev, Instr.index, asIntOf, run_underlying hu, h0, part, hag', sizeOf, typeInfo, hi, show k.toNat * i.size < x'.size by omega]
      · cases h
  · cases h

omit t in
theorem run_equalIn_slN (k : Nat) {ty e : TypeId} {a' : Addr} {n c n0 c0 : Nat} (hu : P.underlying ty = some (.slice e)) : (Op.equalIn (k + 1) ty (.slice (some a') n c) (.slice none n0 c0)).run P w = .ok false w := by
  simp [Op.equalIn, run_underlying hu]

theorem do_nils {neg : Bool} {x : Operand} {ty ty' e : TypeId} {n0 c0 : Nat} (hop : oper.op = .binOp (if neg then .neq else .eql) ty x (.const (.slice none n0 c0)) ty') (hu : P.underlying ty = some (.slice e)) (hx : VRel m (s.ev x) (a.eval x)) (h : popA s (.nils neg x) d = some (v, L', H')) : Does P B0 m o w a oper v L' H' := by
  simp only [popA] at h
  have hc : a.eval (.const (.slice none n0 c0)) = .slice none n0 c0 := rfl
  split at h
  · rename_i p n c hp
    rw [hp] at hx
    simp only [Option.some.injEq, Prod.mk.injEq] at h
    obtain ⟨rfl, rfl, rfl⟩ := h
    generalize he : a.eval x = z at hx
    cases hx with
    | sl _ a' _ _ c' ia hsa hra hia hta hna hca =>
    have hg : ∀ op : BinOp, (Go.eqGuard op ty x (.const (.slice none n0 c0)) (.slice (some a') n c') (.slice none n0 c0)).run P w = .ok () w := fun op => by cases op <;> rfl
    have hq : (Op.equal ty (.slice (some a') n c') (.slice none n0 c0)).run P w = .ok false w := run_equalIn_slN 9999 hu
    refine t.pure ?_ (.bool _)
    cases neg
    · simp only [execOp, hop, he, hc, Bool.false_eq_true, if_false]
      rw [Sem.run_bind, Sem.run_bind, hg]
      simp only [Result.andThen_ok, Go.binOp]
      rw [Sem.run_bind, hq]
      rfl
    · simp only [execOp, hop, he, hc, if_true]
      rw [Sem.run_bind, Sem.run_bind, hg]
      simp only [Result.andThen_ok, Go.binOp]
      rw [Sem.run_bind, hq]
      rfl
  · cases h

omit t in
theorem byte_get (b : ByteArray) (j : Nat) : b[j]? = b.data[j]? := by
  rcases b with ⟨d⟩
  show (if h : j < ByteArray.size ⟨d⟩ then some ((⟨d⟩ : ByteArray)[j]'h) else none) = _
  by_cases h : j < d.size
  · have h' : j < ByteArray.size ⟨d⟩ := h
    rw [dif_pos h', Array.getElem?_eq_getElem h]; rfl
  · have h' : ¬ j < ByteArray.size ⟨d⟩ := h
    rw [dif_neg h', Array.getElem?_eq_none (Nat.le_of_not_lt h)]

theorem do_sidx {x : Operand} {ty : TypeId} {b : ByteArray} (hop : oper.op = .index ty (.const (.string b)) x) (hu : P.underlying ty = some .string) (hx : VRel m (s.ev x) (a.eval x)) (h : popA s (.sidx (b.data.toList.map (·.toNat)) x) d = some (v, L', H')) : Does P B0 m o w a oper v L' H' := by
  simp only [popA] at h
  have hc : a.eval (.const (.string b)) = .string b := rfl
  split at h
  · rename_i kk k hp
    rw [hp] at hx
    split at h
    · rename_i h0
      split at h
      · rename_i n hn
        simp only [Option.some.injEq, Prod.mk.injEq] at h
        obtain ⟨rfl, rfl, rfl⟩ := h
        generalize he : a.eval x = z at hx
        cases hx
        rw [List.getElem?_map, Option.map_eq_some_iff] at hn
        obtain ⟨y, hy, rfl⟩ := hn
        have hy' : b[k.toNat]? = some y := by rw [byte_get, ← Array.getElem?_toList]; exact hy
        refine t.pure ?_ (.int _ _)
        simp [execOp, hop, he, hc, Instr.index, asIntOf, run_underlying hu, h0, hy']
      · cases h
    · cases h
  · cases h

theorem do_len {x : Operand} {ty e : TypeId} {rt : TypeId} {c : Call} (hop : oper.op = .call c) (hcal : c.callee = .builtin .len) (hty : c.argTypes[0]? = some ty) (hargs : c.args = #[x]) (hu : P.underlying ty = some (.slice e)) (hx : VRel m (s.ev x) (a.eval x)) (h : popA s (.len x) d = some (v, L', H')) : Does P B0 m o w a oper v L' H' := by
  simp only [popA] at h
  split at h
  · rename_i p n k hp
    rw [hp] at hx
    simp only [Option.some.injEq, Prod.mk.injEq] at h
    obtain ⟨rfl, rfl, rfl⟩ := h
    obtain ⟨cal, cargs, cty⟩ := c
    simp only at hcal hargs hty
    subst hcal; subst hargs
    generalize he : a.eval x = z at hx
    cases hx with
    | slN =>
      refine t.pure ?_ (.int _ _)
      simp [execOp, hop, he, resolve, invoke, Go.builtin, Builtin.len_, hty, run_underlying hu, goInt]
    | sl =>
      refine t.pure ?_ (.int _ _)
      simp [execOp, hop, he, resolve, invoke, Go.builtin, Builtin.len_, hty, run_underlying hu, goInt]
  · cases h

omit t in
theorem maxL_sound : ∀ (r : List Value) (x z : Value), isInt x = true → maxL x r = some z → ∃ k n, z = .int k n ∧ ∀ {x' : Value} {r' : List Value}, VRel m x x' → LsRel m r r' → (r'.foldlM Builtin.max2 x').run P w = .ok z w
  | [], x, z, hi, h => by
    cases x <;> simp [isInt] at hi
    rename_i k n
    simp only [maxL, Option.some.injEq] at h; subst h
    refine ⟨k, n, rfl, fun {x' r'} hx hr => ?_⟩
    cases r' with
    | nil => cases hx; simp
    | cons => simp [LsRel] at hr
  | y :: r, x, z, hi, h => by
    cases x <;> simp [isInt] at hi
    rename_i k n
    unfold maxL at h
    split at h
    · simp at *
    · rename_i k1 x1 k2 y1 r1 e1 e2
      cases e1
      cases e2
      split at h
      · rename_i hk; subst hk
        obtain ⟨k', n', rfl, ih⟩ := maxL_sound _ _ z rfl h
        refine ⟨k', n', rfl, fun {x' r'} hx hr => ?_⟩
        cases r' with
        | nil => simp [LsRel] at hr
        | cons y' r' =>
          have hy := hr.head
          cases hx
          cases hy
          have := ih (.int _ _) hr.tail
          simp only [List.foldlM_cons, Sem.run_bind, bind, Builtin.max2, Sem.run_pure, pure, Result.andThen_ok]
          exact this
      · cases h
    · cases h

omit t in
theorem minL_sound : ∀ (r : List Value) (x z : Value), isInt x = true → minL x r = some z → ∃ k n, z = .int k n ∧ ∀ {x' : Value} {r' : List Value}, VRel m x x' → LsRel m r r' → (r'.foldlM Builtin.min2 x').run P w = .ok z w
  | [], x, z, hi, h => by
    cases x <;> simp [isInt] at hi
    rename_i k n
    simp only [minL, Option.some.injEq] at h; subst h
    refine ⟨k, n, rfl, fun {x' r'} hx hr => ?_⟩
    cases r' with
    | nil => cases hx; simp
    | cons => simp [LsRel] at hr
  | y :: r, x, z, hi, h => by
    cases x <;> simp [isInt] at hi
    rename_i k n
    unfold minL at h
    split at h
    · simp at *
    · rename_i k1 x1 k2 y1 r1 e1 e2
      cases e1
      cases e2
      split at h
      · rename_i hk; subst hk
        obtain ⟨k', n', rfl, ih⟩ := minL_sound _ _ z rfl h
        refine ⟨k', n', rfl, fun {x' r'} hx hr => ?_⟩
        cases r' with
        | nil => simp [LsRel] at hr
        | cons y' r' =>
          have hy := hr.head
          cases hx
          cases hy
          have := ih (.int _ _) hr.tail
          simp only [List.foldlM_cons, Sem.run_bind, bind, Builtin.min2, Sem.run_pure, pure, Result.andThen_ok]
          exact this
      · cases h
    · cases h

theorem do_max {c : Call} (hop : oper.op = .call c) (hcal : c.callee = .builtin .max) (hx : ∀ x ∈ c.args.toList, VRel m (s.ev x) (a.eval x)) (h : popA s (.max c.args.toList) d = some (v, L', H')) : Does P B0 m o w a oper v L' H' := by
  obtain ⟨cal, cargs, cty⟩ := c
  simp only at hcal hx h
  subst hcal
  obtain ⟨l⟩ := cargs
  simp only at hx h
  simp only [popA] at h
  cases l with
  | nil => simp at h
  | cons x r =>
    simp only [List.map_cons] at h
    split at h
    · rename_i hi
      simp only [Option.bind_eq_some_iff, Option.some.injEq, Prod.mk.injEq] at h
      obtain ⟨z, hz, rfl, rfl, rfl⟩ := h
      obtain ⟨k, n, rfl, hs⟩ := maxL_sound (P := P) (w := w) (m := m) _ _ z hi hz
      have := hs (x' := a.eval x) (r' := r.map a.eval) (hx _ (by simp)) ⟨by simp, fun i p q => by simp; exact hx _ (by simp)⟩
      refine t.pure ?_ (.int _ _)
      simp [execOp, hop, resolve, invoke, Go.builtin, Builtin.max_, this]
    · cases h

theorem do_min {c : Call} (hop : oper.op = .call c) (hcal : c.callee = .builtin .min) (hx : ∀ x ∈ c.args.toList, VRel m (s.ev x) (a.eval x)) (h : popA s (.min c.args.toList) d = some (v, L', H')) : Does P B0 m o w a oper v L' H' := by
  obtain ⟨cal, cargs, cty⟩ := c
  simp only at hcal hx h
  subst hcal
  obtain ⟨l⟩ := cargs
  simp only at hx h
  simp only [popA] at h
  cases l with
  | nil => simp at h
  | cons x r =>
    simp only [List.map_cons] at h
    split at h
    · rename_i hi
      simp only [Option.bind_eq_some_iff, Option.some.injEq, Prod.mk.injEq] at h
      obtain ⟨z, hz, rfl, rfl, rfl⟩ := h
      obtain ⟨k, n, rfl, hs⟩ := minL_sound (P := P) (w := w) (m := m) _ _ z hi hz
      have := hs (x' := a.eval x) (r' := r.map a.eval) (hx _ (by simp)) ⟨by simp, fun i p q => by simp; exact hx _ (by simp)⟩
      refine t.pure ?_ (.int _ _)
      simp [execOp, hop, resolve, invoke, Go.builtin, Builtin.min_, this]
    · cases h
end
end Go.Proofs.YthobfecblpnnnaaGreatDoor

/- Operation by operation, the last: structs compared and built, slices made, cut, appended to, copied. -/
namespace Go.Proofs.YthobfecblpnnnaaGreatDoor
open Go Go.RowKit

variable {P : Program} {B0 : Nat} {m : Mp} {o : Nat → Ow} {w : World} {s : St} {a : Act} {d : Option Tmp}

theorem zeros_length (z : List Value) : ∀ n, (zeros z n).length = n * z.length
  | 0 => by simp [zeros]
  | n + 1 => by rw [zeros, List.length_append, zeros_length z n, Nat.add_mul]; omega

theorem zeros_get (z : List Value) : ∀ (n j : Nat) (h : j < n * z.length), (zeros z n)[j]? = z[j % z.length]?
  | 0, j, h => by omega
  | n + 1, j, h => by
    rw [zeros]
    by_cases hj : j < z.length
    · rw [List.getElem?_append_left hj, Nat.mod_eq_of_lt hj]
    · rw [List.getElem?_append_right (by omega), zeros_get z n (j - z.length) (by rw [Nat.add_mul] at h; omega), ← Nat.mod_eq_sub_mod (by omega)]

/-- The model's row of zero values. -/
theorem zeros_arr (z : Array Value) (n : Nat) (h0 : 0 < z.size) : ((Array.range (n * z.size)).map (z[· % z.size]!)).toList = zeros z.toList n := by
  apply List.ext_getElem?
  intro j
  by_cases hj : j < n * z.size
  · rw [zeros_get _ _ _ (by simpa using hj)]
    have hm := Nat.mod_lt j h0
    simp [hj, hm, getElem!_pos, List.getElem?_eq_getElem]
  · rw [List.getElem?_eq_none (by simpa using Nat.le_of_not_lt hj), List.getElem?_eq_none (by rw [zeros_length]; simpa using Nat.le_of_not_lt hj)]

theorem zerosCells (z : Array Value) (n : Nat) : (Builtin.zeroCells z n).size = n * z.size := by simp [Builtin.zeroCells]

theorem nlL_zeros {z : List Value} (h : nlL z = true) (n : Nat) : nlL (zeros z n) = true := by
  induction n with
  | zero => rfl
  | succ n ih => rw [zeros, nlL_append, h, ih]; rfl

mutual
theorem nl_of_sca : ∀ (v : Value), sca v = true → nl v = true
  | .pointer a, h => by cases a <;> simp [sca, nl] at *
  | .agg ⟨l⟩, h => by simp only [sca, nl] at *; exact nlL_of_scaL l h
  | .tuple ⟨l⟩, h => by simp only [sca, nl] at *; exact nlL_of_scaL l h
  | .func _ _ _, h => by simp [sca] at h
  | .iface _ v, h => by simp only [sca, nl] at *; exact nl_of_sca v h
  | .bool _, _ | .int _ _, _ | .float _ _, _ | .complex _ _ _, _ | .string _, _ | .slice _ _ _, _ | .map _, _ | .chan _, _ | .nilFunc, _ | .nilIface, _ => rfl
theorem nlL_of_scaL : ∀ (l : List Value), scaL l = true → nlL l = true
  | [], _ => rfl
  | v :: r, h => by simp only [scaL, nlL, Bool.and_eq_true] at *; exact ⟨nl_of_sca v h.1, nlL_of_scaL r h.2⟩
end

theorem LsRel.refl_sca (m : Mp) {l : List Value} (h : scaL l = true) : LsRel m l l := by
  refine ⟨rfl, fun i a _ => ?_⟩
  induction l generalizing i with
  | nil => simp at a
  | cons v r ih =>
    simp only [scaL, Bool.and_eq_true] at h
    cases i with
    | zero => exact VRel.refl_sca m v h.1
    | succ i => exact ih h.2 i (by simpa using a) (by simpa using a)

theorem LsRel.zeros (m : Mp) {z : List Value} (h : scaL z = true) (n : Nat) : LsRel m (zeros z n) (zeros z n) := by
  induction n with
  | zero => exact LsRel.nil m
  | succ n ih => exact (LsRel.refl_sca m h).append ih

theorem partsAt_spec {place : Nat → Option (Nat × Nat)} : ∀ {src : List (Nat × Operand)} {parts : List (Nat × Nat × Operand)}, partsAt place src = some parts →
    parts.length = src.length ∧ ∀ j (h : j < parts.length) (h' : j < src.length), place src[j].1 = some (parts[j].1, parts[j].2.1) ∧ parts[j].2.2 = src[j].2
  | [], parts, h => by simp only [partsAt, Option.some.injEq] at h; subst h; simp
  | (i, x) :: src, parts, h => by
    simp only [partsAt] at h
    split at h
    · rename_i o k l h1 h2
      cases h
      obtain ⟨k1, k2⟩ := partsAt_spec h2
      refine ⟨by simp [k1], fun j p q => ?_⟩
      cases j with
      | zero => exact ⟨h1, rfl⟩
      | succ j => exact k2 j (by simpa using p) (by simpa using q)
    · cases h

theorem fill_sound (place : Nat → Option (Nat × Nat)) : ∀ (parts : List (Nat × Nat × Operand)) (src : List (Nat × Operand)) (cells : List Value) (cells' : Array Value) (cs : List Value),
    parts.length = src.length → (∀ j (h : j < parts.length) (h' : j < src.length), place src[j].1 = some (parts[j].1, parts[j].2.1) ∧ parts[j].2.2 = src[j].2) →
    (∀ x ∈ parts.map (·.2.2), VRel m (s.ev x) (a.eval x)) → LsRel m cells cells'.toList → fillA cells (parts.map fun (o, k, x) => (o, k, s.ev x)) = some cs →
    ∃ cs', Instr.fill place cells' (src.map fun (i, x) => (i, a.eval x)) = some cs' ∧ LsRel m cs cs'.toList ∧ cs.length = cells.length
  | [], src, cells, cells', cs, hl, _, _, hr, h => by
    cases src with
    | cons => simp at hl
    | nil => simp only [List.map_nil, fillA, Option.some.injEq] at h; subst h; exact ⟨cells', by simp [Instr.fill], hr, rfl⟩
  | (off, k, x) :: parts, src, cells, cells', cs, hl, hp, hx, hr, h => by
    cases src with
    | nil => simp at hl
    | cons y src =>
      obtain ⟨i, y⟩ := y
      simp only [List.map_cons, fillA] at h
      split at h
      · rename_i hc
        obtain ⟨c1, c2, c3⟩ := hc
        have h0 := hp 0 (by simp) (by simp)
        simp only [List.getElem_cons_zero] at h0
        obtain ⟨p1, p2⟩ := h0
        subst p2
        have hxr := cells_rel (hx x (by simp)) c1
        have hsz : (a.eval x).cells.size = k := by have := hxr.1; simp at this; rw [← this]; exact c2
        have hcl := hr.1
        simp only [Array.length_toList] at hcl
        have hset : (((a.eval x).cells.zipIdx.foldl (fun cs (c, j) => cs.setIfInBounds (off + j) c) cells')).toList = over cells'.toList off (a.eval x).cells.toList := by
          have key : ∀ (l : List Value) (n : Nat) (arr : Array Value), ((l.zipIdx n).foldl (fun (cs : Array Value) (p : Value × Nat) => cs.setIfInBounds (off + p.2) p.1) arr).toList = over arr.toList (off + n) l := by
            intro l
            induction l with
            | nil => intro n arr; rfl
            | cons v l ih => intro n arr; rw [List.zipIdx_cons, List.foldl_cons, ih, over]; simp [Nat.add_assoc]
          have := key (a.eval x).cells.toList 0 cells'
          rw [← Array.foldl_toList, Array.toList_zipIdx]
          simpa using this
        obtain ⟨cs', k1, k2, k3⟩ := fill_sound place parts src _ ((a.eval x).cells.zipIdx.foldl (fun cs (c, j) => cs.setIfInBounds (off + j) c) cells') cs (by simpa using hl)
          (fun j h1 h2 => by have := hp (j + 1) (by simpa using h1) (by simpa using h2); simpa using this) (fun z hz => hx z (by simp only [List.map_cons, List.mem_cons]; exact .inr hz))
          (by rw [hset]; exact LsRel.over hxr hr off) h
        refine ⟨cs', ?_, k2, by rw [k3, over_length]⟩
        simp only [List.map_cons, Instr.fill, p1]
        rw [if_neg (by simp [hsz]; omega)]
        exact k1
      · cases h

theorem run_buildSlice (ty e len : Nat) (i : TypeInfo) (z : Value) (parts : Array (Nat × Value)) (cs' : Array Value) (hu : P.underlying ty = some (.slice e)) (hi : P.info? e = some i) (hz : i.zero = some z) (hlen : ¬ 2 ^ 24 < len * i.size)
    (k : Instr.fill (fun j => some (j * i.size, i.size)) ((Array.range (len * i.size)).map (z.cells[· % z.cells.size]!)) parts.toList = some cs') :
    (Instr.buildSlice ty len parts).run P w = .ok (.slice (some ⟨w.heap.size, 0, none⟩) len len) (w.alloc (.cells cs' e)) := by
  unfold Instr.buildSlice
  rw [Sem.run_bind, run_underlying hu]
  simp only [Result.andThen_ok]
  rw [Sem.run_bind]
  have hs : (sizeOf e).run P w = .ok i.size w := by simp [sizeOf, typeInfo, hi]
  rw [hs]
  simp only [Result.andThen_ok, if_neg hlen]
  by_cases h0 : len * i.size = 0
  · rw [h0] at k
    have e0 : ∀ f : Nat → Value, (Array.range 0).map f = #[] := fun f => by apply Array.ext <;> simp
    rw [e0] at k
    simp [h0, e0, k, newRow]
  · simp [h0, zeroValue, typeInfo, hi, hz, k, newRow]

section
variable (t : Tied P B0 m o s.L s.H w) {oper : Oper} {v : Value} {L' : LS} {H' : AH}
include t

theorem do_build {ty : TypeId} {z : Value} {src : Array (Nat × Operand)} {parts : List (Nat × Nat × Operand)} (hop : oper.op = .build ty src) (hz : zeroOf P ty = some z) (hsz : scaL z.cells.toList = true) (hp : partsOf P ty src.toList = some parts) (hx : ∀ x ∈ parts.map (·.2.2), VRel m (s.ev x) (a.eval x)) (h : popA s (.build z.cells.toList parts) d = some (v, L', H')) : Does P B0 m o w a oper v L' H' := by
  simp only [popA, Option.bind_eq_some_iff, Option.some.injEq, Prod.mk.injEq] at h
  obtain ⟨cs, hcs, rfl, rfl, rfl⟩ := h
  have hi : ∃ i, P.info? ty = some i ∧ i.zero = some z := by simp only [zeroOf, Option.bind_eq_some_iff] at hz; exact hz
  obtain ⟨i, hi, hiz⟩ := hi
  have key : ∀ cs' : Array Value, P.built ty (src.map fun (i, x) => (i, a.eval x)).toList = some cs' → LsRel m cs cs'.toList → Does P B0 m o w a oper (.agg cs.toArray) s.L s.H := fun cs' k1 k2 => by
    refine t.pure (v' := .agg cs') ?_ (by have := VRel.aggL k2; simpa using this)
    simp only [execOp, hop, Sem.run_bind, run_build w ty _ cs' k1, Result.andThen_ok]
    rfl
  unfold partsOf at hp
  split at hp
  · rename_i fs hu
    split at hp
    · rename_i places hpl
      obtain ⟨p1, p2⟩ := partsAt_spec hp
      obtain ⟨cs', k1, k2, k3⟩ := fill_sound (m := m) (s := s) (a := a) (places[·]?) parts src.toList _ z.cells cs p1 p2 hx (LsRel.refl_sca m hsz) hcs
      exact key cs' (by simpa [Program.built, hi, hu, hiz, hpl] using k1) k2
    · cases hp
  · rename_i n e hu
    split at hp
    · rename_i ie he
      obtain ⟨p1, p2⟩ := partsAt_spec hp
      obtain ⟨cs', k1, k2, k3⟩ := fill_sound (m := m) (s := s) (a := a) (fun i => some (i * ie.size, ie.size)) parts src.toList _ z.cells cs p1 p2 hx (LsRel.refl_sca m hsz) hcs
      exact key cs' (by simpa [Program.built, hi, hu, hiz, he] using k1) k2
    · cases hp
  · cases hp

theorem push_does {v' : Value} {arr : Array Value} {te : TypeId} {e : Nat} {vs : List Value} {w2 : World} {oper : Oper} (hr : (execOp a.eval oper).run P w = .ok (.value v') w2) (h1 : w2.os = w.os) (h2 : w2.tape = w.tape) (h3 : w2.output = w.output)
    (h4 : w2.heap = w.heap.push (.cells arr te (0, 0))) (hn : nlL vs = true) (hle : vs.length ≤ arr.size) (hl : LsRel m vs (arr.toList.take vs.length)) {u : Value}
    (hv : ∀ m' : Mp, m.le m' → m'.h s.H.length = some ⟨w.heap.size, 0, e, arr.size, none⟩ → VRel m' u v') : Does P B0 m o w a oper u s.L (s.H ++ [.rw e vs]) := by
  obtain ⟨m', o', hm', k1, k2, k3, k4⟩ := WRel.push t.tH t.tL h1 h2 h3 arr te h4 e vs hn hle hl
  exact ⟨_, _, hr, .inl ⟨_, rfl, m', o', k1, hv m' k1 (by rw [hm']; simp), k3, t.tF.same_l (by rw [hm']), k2, k4⟩⟩

theorem do_buildS {ty e len : Nat} {i : TypeInfo} {z : Value} {src : Array (Nat × Operand)} {parts : List (Nat × Nat × Operand)} (hop : oper.op = .buildSlice ty len src) (hu : P.underlying ty = some (.slice e)) (hi : P.info? e = some i) (hz : i.zero = some z) (hlen : ¬ len * i.size > 2 ^ 16)
    (hzs : z.cells.size = i.size) (h0 : i.size ≠ 0) (hsz : scaL z.cells.toList = true) (hp : partsAt (fun j => some (j * i.size, i.size)) src.toList = some parts) (hx : ∀ x ∈ parts.map (·.2.2), VRel m (s.ev x) (a.eval x)) (h : popA s (.buildS len z.cells.toList parts) d = some (v, L', H')) : Does P B0 m o w a oper v L' H' := by
  simp only [popA] at h
  split at h
  · rename_i cs hcs
    split at h
    · rename_i hn
      simp only [Option.some.injEq, Prod.mk.injEq] at h
      obtain ⟨rfl, rfl, rfl⟩ := h
      obtain ⟨p1, p2⟩ := partsAt_spec hp
      have hz0 : ((Array.range (len * i.size)).map (z.cells[· % z.cells.size]!)).toList = zeros z.cells.toList len := by rw [← hzs]; exact zeros_arr z.cells len (by omega)
      obtain ⟨cs', k1, k2, k3⟩ := fill_sound (m := m) (s := s) (a := a) (fun j => some (j * i.size, i.size)) parts src.toList _ ((Array.range (len * i.size)).map (z.cells[· % z.cells.size]!)) cs p1 p2 hx (by rw [hz0]; exact LsRel.zeros m hsz len) hcs
      have hl := k2.1
      simp only [Array.length_toList] at hl
      have hrun : (execOp a.eval oper).run P w = .ok (.value (.slice (some ⟨w.heap.size, 0, none⟩) len len)) (w.alloc (.cells cs' e)) := by
        simp only [execOp, hop]
        rw [Sem.run_bind, run_buildSlice ty e len i z (src.map fun (i, x) => (i, a.eval x)) cs' hu hi hz (by omega) (by simpa using k1)]
        rfl
      refine push_does t hrun rfl rfl rfl rfl hn (by omega) (by rw [hl, ← Array.length_toList, List.take_length]; exact k2) fun m' hm hb => ?_
      refine .sl _ _ _ _ _ _ rfl ⟨rfl, ⟨w.heap.size, 0, z.cells.toList.length, cs'.size, none⟩, hb, rfl, rfl⟩ hb (fun _ => ?_) (Nat.le_refl _) (fun h => h)
      simp only [Nat.zero_add, Array.length_toList]
      rw [← hl, k3, zeros_length, Array.length_toList]
      exact Nat.le_refl _
    · cases h
  · cases h

theorem do_mks {l c : Operand} {ty e : TypeId} {i : TypeInfo} {z : Value} (hop : oper.op = .makeSlice ty l c) (hu : P.underlying ty = some (.slice e)) (hi : P.info? e = some i) (hz : i.zero = some z) (hsz : scaL z.cells.toList = true)
    (hx : VRel m (s.ev l) (a.eval l)) (hy : VRel m (s.ev c) (a.eval c)) (h : popA s (.mks i.size i.bytes z.cells.toList l c) d = some (v, L', H')) : Does P B0 m o w a oper v L' H' := by
  simp only [popA] at h
  split at h
  · rename_i k1 n k2 q hp hq
    rw [hp] at hx
    rw [hq] at hy
    split at h
    · rename_i hc
      obtain ⟨c1, c2, c3, c4, c5, c6⟩ := hc
      simp only [Option.some.injEq, Prod.mk.injEq] at h
      obtain ⟨rfl, rfl, rfl⟩ := h
      generalize he : a.eval l = x at hx
      generalize hg : a.eval c = y at hy
      cases hx
      cases hy
      simp only [Array.length_toList] at c4
      have hm30 : maxA = 1073741824 := rfl
      rw [hm30] at c3
      have w1 : IntKind.i64.wrap n = n := IntWalk.i64_in n ⟨by omega, by omega⟩
      have w2 : IntKind.i64.wrap q = q := IntWalk.i64_in q ⟨by omega, by omega⟩
      have hbig : ¬ (281474976710656 < (i.bytes : Int) * q) := by
        have : (i.bytes : Int) * q ≤ 65536 * 1073741824 := Int.mul_le_mul (by omega) c3 (by omega) (by omega)
        omega
      have hroom : ¬ (q.toNat * i.bytes > roomBytes) := by
        have : q.toNat * i.bytes ≤ 1073741824 * 65536 := Nat.mul_le_mul (by omega) (by omega)
        simp only [roomBytes]; omega
      have hz0 : ((Array.range (q.toNat * i.size)).map (z.cells[· % z.cells.size]!)).toList = zeros z.cells.toList q.toNat := by rw [← c4]; exact zeros_arr z.cells q.toNat (by omega)
      have hrun : (execOp a.eval oper).run P w = .ok (.value (.slice (some ⟨w.heap.size, 0, none⟩) n.toNat q.toNat)) (w.alloc (.cells ((Array.range (q.toNat * i.size)).map (z.cells[· % z.cells.size]!)) e)) := by
        simp only [execOp, hop, he, hg]
        rw [Sem.run_bind]
        have : (Instr.makeSlice ty (.int k1 n) (.int k2 q)).run P w = .ok (.slice (some ⟨w.heap.size, 0, none⟩) n.toNat q.toNat) (w.alloc (.cells ((Array.range (q.toNat * i.size)).map (z.cells[· % z.cells.size]!)) e)) := by
          unfold Instr.makeSlice
          rw [Sem.run_bind, run_underlying hu]
          simp only [Result.andThen_ok]
          by_cases h0 : q.toNat * i.size = 0
          · have hq0 : q.toNat = 0 := by rcases Nat.mul_eq_zero.1 h0 with h | h <;> omega
            have e0 : ∀ f : Nat → Value, (Array.range 0).map f = #[] := fun f => by apply Array.ext <;> simp
            rw [h0, e0]
            simp [asInt, asIntOf, typeInfo, hi, w1, w2, hbig, show ¬ q < 0 by omega, show ¬ n < 0 by omega, show ¬ q < n by omega, askRoom, hroom, sizeOf, h0, newRow, e0]
          · simp [asInt, asIntOf, typeInfo, hi, w1, w2, hbig, show ¬ q < 0 by omega, show ¬ n < 0 by omega, show ¬ q < n by omega, askRoom, hroom, sizeOf, h0, newRow, zeroValue, hz]
        rw [this]
        rfl
      have hlen : (zeros z.cells.toList n.toNat).length = n.toNat * i.size := by rw [zeros_length, Array.length_toList, c4]
      have hle : n.toNat * i.size ≤ q.toNat * i.size := Nat.mul_le_mul_right _ (by omega)
      refine push_does t hrun rfl rfl rfl rfl (nlL_zeros (nlL_of_scaL _ hsz) _) (by rw [hlen]; simpa using hle) ?_ fun m' hm hb => ?_
      · rw [hlen, hz0]
        have : (zeros z.cells.toList q.toNat).take (n.toNat * i.size) = zeros z.cells.toList n.toNat := by
          apply List.ext_getElem?
          intro j
          rw [List.getElem?_take]
          split
          · rename_i hj
            rw [zeros_get _ _ _ (by rw [Array.length_toList, c4]; omega), zeros_get _ _ _ (by rw [Array.length_toList, c4]; omega)]
          · rw [List.getElem?_eq_none (by rw [hlen]; omega)]
        rw [this]
        exact LsRel.zeros m hsz _
      · refine .sl _ _ _ _ _ _ rfl ⟨rfl, _, hb, rfl, rfl⟩ hb (fun _ => ?_) (by omega) (fun h => h)
        simp
    · cases h
  · cases h
end
end Go.Proofs.YthobfecblpnnnaaGreatDoor
