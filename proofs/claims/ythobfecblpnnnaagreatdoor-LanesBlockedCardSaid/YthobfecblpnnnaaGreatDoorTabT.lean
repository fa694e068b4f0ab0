/- The abstract machine over a table of compiled functions, and over calls that have been computed before: what it says of a call, the machine says. (For the kernel: it then compiles nothing anew, and a long run may be computed in pieces.) -/
import Derived.Test.YthobfecblpnnnaaGreatDoorCoreE
set_option linter.all false
namespace Go.Proofs.YthobfecblpnnnaaGreatDoor
open Go Go.RowKit

/-- The compiled functions, and which of them write to nothing that was there. -/
inductive FT where
  | nil
  | node (l : FT) (k : Nat) (s : SF) (p : Bool) (r : FT)

noncomputable def FT.get (t : FT) (f : Nat) : Option (SF × Bool) := FT.rec (motive := fun _ => Option (SF × Bool)) none (fun _ k s p _ l r => match Nat.beq f k with
  | true => some (s, p)
  | false => match Nat.blt f k with
    | true => l
    | false => r) t

def FT.Ok (P : Program) (pure : FuncId → Bool) : FT → Prop
  | .nil => True
  | .node l k s p r => l.Ok P pure ∧ (cFun P k = some s ∧ pure k = p) ∧ r.Ok P pure

theorem FT.get_ok {P : Program} {pure : FuncId → Bool} : ∀ {t : FT}, t.Ok P pure → ∀ {f : Nat} {s : SF} {p : Bool}, t.get f = some (s, p) → cFun P f = some s ∧ pure f = p
  | .nil, _, _, _, _, h => by cases h
  | .node l k s0 p0 r, h, f, s, p, hg => by
    have hg' : (match Nat.beq f k with | true => some (s0, p0) | false => match Nat.blt f k with | true => l.get f | false => r.get f) = some (s, p) := hg
    split at hg'
    · rename_i e
      cases hg'
      rw [Nat.eq_of_beq_eq_true e]; exact h.2.1
    · split at hg'
      · exact FT.get_ok h.1 hg'
      · exact FT.get_ok h.2.2 hg'

/-- A call that has been computed. -/
structure OF where
  fv : Value
  args : List Value
  lim : Nat
  H : AH
  r : Value × AH

def OF.Ok (P : Program) (pure : FuncId → Bool) (o : OF) : Prop := apL P ⟨pure, [], fun _ _ => none⟩ o.fv o.args o.lim o.H = some o.r

/-- The calls that have been computed, of one function. -/
inductive OL where
  | nil
  | cons (o : OF) (r : OL)
/-- The same of several functions. -/
inductive OT where
  | nil
  | cons (k : Nat) (o : OL) (r : OT)

def OL.Ok (P : Program) (pure : FuncId → Bool) : OL → Prop
  | .nil => True
  | .cons o r => o.Ok P pure ∧ r.Ok P pure
def OT.Ok (P : Program) (pure : FuncId → Bool) : OT → Prop
  | .nil => True
  | .cons _ o r => o.Ok P pure ∧ r.Ok P pure

noncomputable def OL.get (l : OL) (fv : Value) (args : List Value) (lim : Nat) (H : AH) : Option (Value × AH) := OL.rec (motive := fun _ => Option (Value × AH)) none (fun o _ ih =>
  match Nat.beq lim o.lim && Nat.beq H.length o.H.length && vEq fv o.fv && vEqL args o.args && hpEq H o.H with
  | true => some o.r
  | false => ih) l
noncomputable def OT.get (t : OT) (f : Nat) (fv : Value) (args : List Value) (lim : Nat) (H : AH) : Option (Value × AH) := OT.rec (motive := fun _ => Option (Value × AH)) none (fun k o _ ih =>
  match Nat.beq f k with
  | true => o.get fv args lim H
  | false => ih) t

theorem OL.get_ok {P : Program} {pure : FuncId → Bool} : ∀ {t : OL}, t.Ok P pure → ∀ {fv : Value} {args : List Value} {lim : Nat} {H : AH} {r : Value × AH}, t.get fv args lim H = some r → apL P ⟨pure, [], fun _ _ => none⟩ fv args lim H = some r
  | .nil, _, _, _, _, _, _, h => by cases h
  | .cons o t, hk, fv, args, lim, H, r, h => by
    have h' : (match Nat.beq lim o.lim && Nat.beq H.length o.H.length && vEq fv o.fv && vEqL args o.args && hpEq H o.H with | true => some o.r | false => t.get fv args lim H) = some r := h
    split at h'
    · rename_i hc
      simp only [Bool.and_eq_true] at hc
      cases h'
      rw [vEq_eq _ _ hc.1.1.2, vEqL_eq _ _ hc.1.2, Nat.eq_of_beq_eq_true hc.1.1.1.1, hpEq_eq hc.2]
      exact hk.1
    · exact OL.get_ok hk.2 h'
theorem OT.get_ok {P : Program} {pure : FuncId → Bool} : ∀ {t : OT}, t.Ok P pure → ∀ {f : Nat} {fv : Value} {args : List Value} {lim : Nat} {H : AH} {r : Value × AH}, t.get f fv args lim H = some r → apL P ⟨pure, [], fun _ _ => none⟩ fv args lim H = some r
  | .nil, _, _, _, _, _, _, _, h => by cases h
  | .cons k o t, hk, f, fv, args, lim, H, r, h => by
    have h' : (match Nat.beq f k with | true => o.get fv args lim H | false => t.get f fv args lim H) = some r := h
    split at h'
    · exact OL.get_ok hk.1 h'
    · exact OT.get_ok hk.2 h'

/-! ### The same machine in small pieces, which the kernel takes up faster -/

noncomputable def kT (i : Nat) (t : TS) : Value := List.rec (motive := fun _ => Value) (.tuple #[]) (fun p _ ih => match Nat.beq i p.1 with | true => p.2 | false => ih) t
theorem kT_eq : ∀ (t : TS) (i : Nat), kT i t = tget t i
  | [], _ => rfl
  | (j, v) :: r, i => by
    rw [tget_cons, ← kT_eq r i]
    show (match Nat.beq i j with | true => v | false => kT i r) = _
    cases h : Nat.beq i j with
    | true => rw [if_pos (Nat.eq_of_beq_eq_true h)]
    | false => rw [if_neg (Nat.ne_of_beq_eq_false h)]

noncomputable def kHg (H : AH) : Nat → Option ABlk := List.rec (motive := fun _ => Nat → Option ABlk) (fun _ => none) (fun x _ ih b => match b with | 0 => some x | n + 1 => ih n) H
theorem kHg_eq : ∀ (H : AH) (b : Nat), kHg H b = H[b]?
  | [], _ => by simp [kHg]
  | x :: r, 0 => rfl
  | x :: r, n + 1 => by rw [List.getElem?_cons_succ, ← kHg_eq r n]; rfl

noncomputable def kVg (l : List Value) : Nat → Option Value := List.rec (motive := fun _ => Nat → Option Value) (fun _ => none) (fun x _ ih b => match b with | 0 => some x | n + 1 => ih n) l
theorem kVg_eq : ∀ (l : List Value) (b : Nat), kVg l b = l[b]?
  | [], _ => by simp [kVg]
  | x :: r, 0 => rfl
  | x :: r, n + 1 => by rw [List.getElem?_cons_succ, ← kVg_eq r n]; rfl

noncomputable def kSet (l : AH) (i : Nat) (a : ABlk) : AH := List.rec (motive := fun _ => Nat → AH) (fun _ => []) (fun x tl ih i => match i with | 0 => a :: tl | n + 1 => x :: ih n) l i
theorem kSet_eq : ∀ (l : AH) (i : Nat) (a : ABlk), kSet l i a = l.set i a
  | [], _, _ => rfl
  | x :: r, 0, a => rfl
  | x :: r, n + 1, a => by rw [List.set_cons_succ, ← kSet_eq r n a]; rfl
noncomputable def kApp (l m : AH) : AH := List.rec (motive := fun _ => AH) m (fun x _ ih => x :: ih) l
theorem kApp_eq : ∀ (l m : AH), kApp l m = l ++ m
  | [], _ => rfl
  | x :: r, m => by rw [List.cons_append, ← kApp_eq r m]; rfl
noncomputable def kLen' (l : AH) : Nat := List.rec (motive := fun _ => Nat) 0 (fun _ _ ih => Nat.add ih 1) l
theorem kLen'_eq : ∀ (l : AH), kLen' l = l.length
  | [] => rfl
  | x :: r => by rw [List.length_cons, ← kLen'_eq r]; rfl

def kNl (v : Value) : Bool :=
  match v with
  | .int _ _ => true
  | .bool _ => true
  | .slice _ _ _ => true
  | v => nl v
theorem kNl_eq (v : Value) : kNl v = nl v := by cases v <;> first | rfl | (simp only [kNl]; unfold nl; rfl)
noncomputable def kNlL (l : List Value) : Bool := List.rec (motive := fun _ => Bool) true (fun v _ ih => match kNl v with | true => ih | false => false) l
theorem kNlL_eq : ∀ (l : List Value), kNlL l = nlL l
  | [] => by simp [kNlL, nlL]
  | v :: r => by
    show (match kNl v with | true => kNlL r | false => false) = _
    rw [kNl_eq, kNlL_eq r, nlL]
    cases nl v <;> rfl
def kSca (v : Value) : Bool :=
  match v with
  | .int _ _ => true
  | .bool _ => true
  | v => sca v
theorem kSca_eq (v : Value) : kSca v = sca v := by cases v <;> first | rfl | (simp only [kSca]; unfold sca; rfl)

noncomputable def kBox (L : LS) (H : AH) (d off g : Nat) (o : Option (Nat × LC)) : Option (Value × LS × AH) :=
  match o with
  | some (g', .cells vs) => if g = g' ∧ kNlL vs = true then some (.pointer (some ⟨kLen' H, off, none⟩), (d, g, .fwd (kLen' H)) :: L, kApp H [.rw 0 vs]) else none
  | some (g', .fwd b) => if g = g' then some (.pointer (some ⟨b, off, none⟩), L, H) else none
  | none => none
noncomputable def kGlob (L : LS) (H : AH) (v : Value) : Option (Value × LS × AH) :=
  match v with
  | .int _ _ => some (v, L, H)
  | .bool _ => some (v, L, H)
  | .slice _ _ _ => some (v, L, H)
  | .pointer (some ⟨d, off, some g⟩) => kBox L H d off g (lget L d)
  | v => if kNl v then some (v, L, H) else none
theorem kGlob_eq (L : LS) (H : AH) (v : Value) : kGlob L H v = glob L H v := by
  have key : ∀ v, kNl v = true → (∀ d off g, v ≠ .pointer (some ⟨d, off, some g⟩)) → glob L H v = some (v, L, H) := fun v h hp => by
    unfold glob
    split
    · exact absurd rfl (hp _ _ _)
    · rw [if_pos (by rw [← kNl_eq]; exact h)]
  unfold kGlob
  split
  · exact (key _ rfl (fun _ _ _ e => by cases e)).symm
  · exact (key _ rfl (fun _ _ _ e => by cases e)).symm
  · exact (key _ rfl (fun _ _ _ e => by cases e)).symm
  · unfold glob kBox
    simp only [kNlL_eq, kLen'_eq, kApp_eq]
    rfl
  · rename_i h1 h2 h3 h4
    have h0 : glob L H v = if nl v = true then some (v, L, H) else none := by
      unfold glob
      split
      · exact (h4 _ _ _ rfl).elim
      · rfl
    rw [h0, kNl_eq]
noncomputable def kGlobs (vs : List Value) : LS → AH → Option (List Value × LS × AH) := List.rec (motive := fun _ => LS → AH → Option (List Value × LS × AH)) (fun L H => some ([], L, H)) (fun v _ ih L H => match kGlob L H v with
  | some (v', L', H') => (match ih L' H' with
    | some (r', L'', H'') => some (v' :: r', L'', H'')
    | none => none)
  | none => none) vs
theorem kGlobs_eq : ∀ (vs : List Value) (L : LS) (H : AH), kGlobs vs L H = globs L H vs
  | [], _, _ => rfl
  | v :: r, L, H => by
    show (match kGlob L H v with | some (v', L', H') => (match kGlobs r L' H' with | some (r', L'', H'') => some (v' :: r', L'', H'') | none => none) | none => none) = _
    rw [kGlob_eq, globs]
    cases glob L H v with
    | none => rfl
    | some q =>
      obtain ⟨v', L', H'⟩ := q
      simp only []
      rw [kGlobs_eq r L' H']
      rfl

noncomputable def kEv (s : St) (x : Operand) : Value :=
  match x with
  | .tmp t => kT t s.t
  | .const v => v
  | .global g => .pointer (some ⟨g, 0, none⟩)
  | .func f => .func (.func f) #[] #[]
theorem kEv_eq (s : St) (x : Operand) : kEv s x = s.ev x := by cases x <;> first | rfl | exact kT_eq _ _

noncomputable def kHc (o : Option ABlk) (i : Nat) : Option Value :=
  match o with
  | some (.rw _ vs) => kVg vs i
  | some (.ro vs) => kVg vs i
  | _ => none
theorem kHc_eq (H : AH) (b i : Nat) : kHc (kHg H b) i = hcell H b i := by
  unfold kHc hcell
  rw [kHg_eq]
  cases H[b]? with
  | none => rfl
  | some x => cases x <;> first | rfl | exact kVg_eq _ _

noncomputable def kCell (L : LS) (H : AH) (a : Addr) : Option Value :=
  match a.spot with
  | none => kHc (kHg H a.block) a.off
  | some _ => cellAt L H a
theorem kCell_eq (L : LS) (H : AH) (a : Addr) : kCell L H a = cellAt L H a := by
  unfold kCell
  split
  · rename_i h; rw [kHc_eq]; unfold cellAt; rw [h]
  · rfl

abbrev KR := Option (Value × LS × AH)
def kP (s : St) (v : Value) : KR := some (v, s.L, s.H)
noncomputable def kPick (s : St) (c : Value) (a b : Operand) : KR :=
  match c with
  | .bool true => kP s (kEv s a)
  | .bool false => kP s (kEv s b)
  | _ => none
def kPtr (s : St) (x : Value) (off : Nat) : KR :=
  match x with
  | .pointer (some a) => kP s (.pointer (some (aadd a off)))
  | _ => none
def kElem (s : St) (size : Nat) (x ix : Value) : KR :=
  match x, ix with
  | .slice a n _, .int _ i => if 0 ≤ i ∧ i < n then kP s (.pointer (a.map (aadd · (i.toNat * size)))) else none
  | _, _ => none
noncomputable def kLd (s : St) (x : Value) : KR :=
  match x with
  | .pointer (some a) => (match kCell s.L s.H a with
    | some v => kP s v
    | none => none)
  | _ => none
def kBin64 (op : BinOp) (a b : Int) : Option Value :=
  match op with
  | .add => some (.int .i64 (IntKind.i64.wrap (a + b)))
  | .sub => some (.int .i64 (IntKind.i64.wrap (a - b)))
  | .eql => some (.bool (a == b))
  | .neq => some (.bool (a != b))
  | .lss => some (.bool (decide (a < b)))
  | .leq => some (.bool (decide (a ≤ b)))
  | .gtr => some (.bool (decide (a > b)))
  | .geq => some (.bool (decide (a ≥ b)))
  | op => binA op (.int .i64 a) (.int .i64 b)
theorem kBin64_eq (op : BinOp) (a b : Int) : kBin64 op a b = binA op (.int .i64 a) (.int .i64 b) := by cases op <;> rfl
def kBin (op : BinOp) (x y : Value) : Option Value :=
  match x, y with
  | .int .i64 a, .int .i64 b => kBin64 op a b
  | x, y => binA op x y
theorem kBin_eq (op : BinOp) (x y : Value) : kBin op x y = binA op x y := by
  unfold kBin
  split
  · exact kBin64_eq _ _ _
  · rfl
def kO (s : St) (o : Option Value) : KR :=
  match o with
  | some v => kP s v
  | none => none
def kLen (s : St) (x : Value) : KR :=
  match x with
  | .slice _ n _ => kP s (.int .i64 n)
  | _ => none

noncomputable def kMkf (s : St) (fn : Fn) (first cap : List Value) : KR :=
  match fn with
  | .func _ => (match kGlobs first s.L s.H with
    | some (vs, L, H) => (match kGlobs cap L H with
      | some (us, L', H') => some (.func fn vs.toArray us.toArray, L', H')
      | none => none)
    | none => none)
  | _ => none

noncomputable def popK (s : St) (o : SO) (d : Option Tmp) : KR :=
  match o with
  | .mv x => kP s (kEv s x)
  | .pick c a b => kPick s (kEv s c) a b
  | .ptr x off => kPtr s (kEv s x) off
  | .elem size x ix => kElem s size (kEv s x) (kEv s ix)
  | .ld x => kLd s (kEv s x)
  | .bin op x y => kO s (kBin op (kEv s x) (kEv s y))
  | .un op x => kO s (unA op (kEv s x))
  | .len x => kLen s (kEv s x)
  | .mkf fn first cap => kMkf s fn (first.map (kEv s)) (cap.map (kEv s))
  | o => popA s o d
theorem popK_eq (s : St) (o : SO) (d : Option Tmp) : popK s o d = popA s o d := by
  cases o with
  | mv x => simp only [popK, kEv_eq]; rfl
  | pick c a b =>
    simp only [popK, popA, kPick, kEv_eq, kP]
    cases s.ev c with
    | bool b => cases b <;> rfl
    | _ => rfl
  | ptr x off =>
    simp only [popK, popA, kPtr, kEv_eq, kP]
    cases s.ev x with
    | pointer a => cases a <;> rfl
    | _ => rfl
  | elem size x ix =>
    simp only [popK, popA, kElem, kEv_eq, kP]
    cases s.ev x <;> cases s.ev ix <;> rfl
  | ld x =>
    simp only [popK, popA, kLd, kEv_eq, kP]
    cases s.ev x with
    | pointer a =>
      cases a with
      | none => rfl
      | some a => simp only [kCell_eq, Option.bind_some]; cases cellAt s.L s.H a <;> rfl
    | _ => rfl
  | bin op x y => simp only [popK, popA, kBin_eq, kEv_eq, kO, kP]; cases binA op (s.ev x) (s.ev y) <;> rfl
  | un op x => simp only [popK, popA, kEv_eq, kO, kP]; cases unA op (s.ev x) <;> rfl
  | mkf fn first cap =>
    have e1 : ∀ l : List Operand, l.map (kEv s) = l.map s.ev := fun l => by congr 1; funext x; exact kEv_eq s x
    simp only [popK, popA, kMkf, e1, kGlobs_eq]
    cases hg : globs s.L s.H (first.map s.ev) with
    | none => cases fn <;> rfl
    | some q =>
      obtain ⟨vs, L, H⟩ := q
      simp only []
      cases hg2 : globs L H (cap.map s.ev) with
      | none => cases fn <;> simp only [hg2]
      | some q2 => obtain ⟨us, L', H'⟩ := q2; cases fn <;> simp only [hg2]
  | len x => simp only [popK, popA, kLen, kEv_eq, kP]; cases s.ev x <;> rfl
  | _ => rfl

def kPut (d : Option Tmp) (v : Value) (t : TS) (L : LS) (H : AH) (lim : Nat) (rd : Option Nat) : St :=
  match d with
  | some i => ⟨(i, v) :: t, L, H, lim, rd⟩
  | none => ⟨t, L, H, lim, rd⟩
theorem kPut_eq (s : St) (d : Option Tmp) (v : Value) (L : LS) (H : AH) : kPut d v s.t L H s.lim s.rd = ({ s with L := L, H := H } : St).put d v := by cases d <;> rfl
def kDone (s : St) (d : Option Tmp) (r : KR) : Option St :=
  match r with
  | some (v, L, H) => some (kPut d v s.t L H s.lim s.rd)
  | none => none
noncomputable def kCall (C : CallA) (s : St) (d : Option Tmp) (f : Value) (args : List Operand) : Option St :=
  match kGlobs (args.map (kEv s)) s.L s.H with
  | some (vs, L, H) => (match (match kNl f with | true => C f vs s.lim H | false => none) with
    | some (v, H') => some (kPut d v s.t L H' s.lim s.rd)
    | none => none)
  | none => none
noncomputable def kRun (C : CallA) (o : SO) (d : Option Tmp) (s : St) : Option St :=
  match o with
  | .call f args => kCall C s d (kEv s f) args
  | o => kDone s d (popK s o d)
theorem kRun_eq (C : CallA) (o : SOp) (s : St) : kRun C o.op o.dst s = runA C o s := by
  obtain ⟨d, g, op⟩ := o
  have key : ∀ op, kDone s d (popK s op d) = (match popA s op d with | some (v, L, H) => some (({ s with L := L, H := H } : St).put d v) | none => none) := fun op => by
    rw [popK_eq]
    unfold kDone
    cases popA s op d with
    | none => rfl
    | some q => obtain ⟨v, L, H⟩ := q; simp only [kPut_eq]
  cases op with
  | call f args =>
    have e : (args.map (kEv s)) = args.map s.ev := by congr 1; funext x; exact kEv_eq s x
    simp only [kRun, runA, kCall, kEv_eq, e, kGlobs_eq, kNl_eq]
    cases globs s.L s.H (args.map s.ev) with
    | none => rfl
    | some q =>
      obtain ⟨vs, L, H⟩ := q
      simp only []
      have e2 : (match nl (s.ev f) with | true => C (s.ev f) vs s.lim H | false => none) = (if nl (s.ev f) = true then C (s.ev f) vs s.lim H else none) := by cases nl (s.ev f) <;> rfl
      rw [e2]
      cases (if nl (s.ev f) = true then C (s.ev f) vs s.lim H else none) with
      | none => rfl
      | some q => obtain ⟨v, H'⟩ := q; simp only [kPut_eq]
  | _ => simp only [kRun, runA]; exact key _

noncomputable def opK (C : CallA) (o : SOp) (s : St) : Option St :=
  match o.guard with
  | none => kRun C o.op o.dst s
  | some (t, w) =>
    match kT t s.t with
    | .bool b => if b = w then kRun C o.op o.dst s else some (s.put o.dst SK)
    | .tuple vs => if vs.size = 1 then some (s.put o.dst SK) else none
    | _ => none
theorem opK_eq (C : CallA) (o : SOp) (s : St) : opK C o s = opA C o s := by
  unfold opK opA
  simp only [kRun_eq, kT_eq]
  rfl

noncomputable def opsK (C : CallA) (l : List SOp) : St → Option St := List.rec (motive := fun _ => St → Option St) (fun s => some s) (fun o _ ih s => match opK C o s with | some s' => ih s' | none => none) l
theorem opsK_eq (C : CallA) : ∀ (l : List SOp) (s : St), opsK C l s = opsA C l s
  | [], s => rfl
  | o :: r, s => by
    show (match opK C o s with | some s' => opsK C r s' | none => none) = _
    rw [opK_eq, opsA]
    cases opA C o s with
    | none => rfl
    | some s' => exact opsK_eq C r s'

noncomputable def dOpK (C : CallA) (k : DK) (o : SOp) (s : St) : Option St :=
  match k with
  | .late => some s
  | .bar => opK C o s
  | _ => if noLoc s o.op then (match opK C o { s with lim := s.H.length } with | some s' => some { s' with lim := s.lim } | none => none) else none
theorem dOpK_eq (C : CallA) (k : DK) (o : SOp) (s : St) : dOpK C k o s = dOp C k o s := by
  cases k <;> simp only [dOpK, dOp, opK_eq] <;> rfl
noncomputable def dOpsK (C : CallA) (l : List (DK × SOp)) : St → Option St := List.rec (motive := fun _ => St → Option St) (fun s => some s) (fun o _ ih s => match dOpK C o.1 o.2 s with | some s' => ih s' | none => none) l
theorem dOpsK_eq (C : CallA) : ∀ (l : List (DK × SOp)) (s : St), dOpsK C l s = dOps C l s
  | [], s => rfl
  | (k, o) :: r, s => by
    show (match dOpK C k o s with | some s' => dOpsK C r s' | none => none) = _
    rw [dOpK_eq, dOps]
    cases dOp C k o s with
    | none => rfl
    | some s' => exact dOpsK_eq C r s'

abbrev XR := Option (Ex × St)
def kN (s : Option St) : XR :=
  match s with
  | some s => some (.normal, s)
  | none => none
def kSeq (r : XR) (k : St → XR) : XR :=
  match r with
  | some (.normal, s) => k s
  | r => r
def kCond (c : Value) (a b : XR) : XR :=
  match c with
  | .bool true => a
  | .bool false => b
  | _ => none
def kBlk (id : Nat) (r : XR) : XR :=
  match r with
  | some (.exit i, s) => some (match Nat.beq i id with | true => .normal | false => .exit i, s)
  | r => r
noncomputable def kRng (C : CallA) (fv : Value) (ps : List Tmp) (asg body : SC) (s : St) : XR :=
  if rdOk s = false ∨ nl fv = false ∨ isFn fv = false then none else
  match C fv [.func (.yield (kLen' s.H)) #[] #[]] s.lim (kApp s.H [.loop ⟨0, none, s.t, s.L, s.lim, ps, asg, body⟩]) with
  | some (_, H') =>
    (match kHg H' (kLen' s.H) with
    | some (.loop r) => if r.st ≠ 0 ∧ r.st ≠ 2 then none else some (r.pend.getD .normal, { s with L := r.L, H := kSet H' (kLen' s.H) .dead })
    | _ => none)
  | none => none
noncomputable def exStep (C : CallA) (ih : SC → St → XR) (sc : SC) (s : St) : XR :=
  match sc with
  | .skip => some (.normal, s)
  | .ops l => kN (opsK C l s)
  | .draw l bx => kN ((dOpsK C l s).bind (bxsA bx))
  | .alts ls ds => kN (altsA C ls ds s)
  | .pre ts a => ih a (preA ts s)
  | .seq a b => kSeq (ih a s) (ih b)
  | .cond c a b => kCond (kEv s c) (ih a s) (ih b s)
  | .block id a => kBlk id (ih a s)
  | .loop a => kSeq (ih a s) (ih (.loop a))
  | .rng f ps asg body => kRng C (kEv s f) ps asg body s
  | .exit id => some (.exit id, s)
  | .ret => some (.ret, s)
noncomputable def exK (C : CallA) (n : Nat) : SC → St → XR := Nat.rec (motive := fun _ => SC → St → XR) (fun _ _ => none) (fun _ ih => exStep C ih) n
theorem kN_eq (o : Option St) : kN o = o.map fun s => (Ex.normal, s) := by cases o <;> rfl
theorem kSeq_eq (r : XR) (k : St → XR) : kSeq r k = (match r with | some (.normal, s) => k s | r => r) := rfl
theorem kBlk_eq (id : Nat) (r : XR) : kBlk id r = (match r with | some (.exit i, s') => some (if i = id then .normal else .exit i, s') | r => r) := by
  unfold kBlk
  cases r with
  | none => rfl
  | some q =>
    obtain ⟨e, s⟩ := q
    cases e with
    | normal => rfl
    | ret => rfl
    | exit i =>
      simp only []
      cases h : Nat.beq i id with
      | true => rw [if_pos (Nat.eq_of_beq_eq_true h)]
      | false => rw [if_neg (Nat.ne_of_beq_eq_false h)]
theorem exK_eq (C : CallA) : ∀ (n : Nat) (sc : SC) (s : St), exK C n sc s = exA C n sc s
  | 0, _, _ => by simp only [exA]; rfl
  | n + 1, sc, s => by
    have ih := exK_eq C n
    show exStep C (exK C n) sc s = _
    cases sc with
    | skip => rfl
    | ops l => simp only [exStep, exA, kN_eq, opsK_eq]
    | draw l bx => simp only [exStep, exA, kN_eq, dOpsK_eq]
    | alts ls ds => simp only [exStep, exA, kN_eq]
    | pre ts a => simp only [exStep, exA, ih]
    | seq a b =>
      simp only [exStep, exA, kSeq_eq, ih]; rfl
    | cond c a b =>
      simp only [exStep, exA, kCond, kEv_eq, ih]; rfl
    | block id a => simp only [exStep, exA, kBlk_eq, ih]; rfl
    | loop a => simp only [exStep, exA, kSeq_eq, ih]; rfl
    | rng f ps asg body => simp only [exStep, exA, kRng, kEv_eq, kHg_eq, kLen'_eq, kApp_eq, kSet_eq]; rfl
    | exit id => rfl
    | ret => rfl

noncomputable def resK (s : St) (l : List SR) : Option (List Value) := List.rec (motive := fun _ => Option (List Value)) (some []) (fun x _ ih => match x with
  | .tmp t => (match ih with | some l => some (kT t s.t :: l) | none => none)
  | .cell t => (match kT t s.t with
    | .pointer (some a) => (match kCell s.L s.H a, ih with
      | some v, some l => some (v :: l)
      | _, _ => none)
    | _ => none)
  | .cells n t => (match kT t s.t with
    | .pointer (some a) => (match cellsAt s.L s.H a n, ih with
      | some vs, some l => some (.agg vs.toArray :: l)
      | _, _ => none)
    | _ => none)) l
theorem resK_eq (s : St) : ∀ (l : List SR), resK s l = resA s l
  | [] => rfl
  | .tmp t :: r => by
    show (match resK s r with | some l => some (kT t s.t :: l) | none => none) = _
    rw [resK_eq s r, resA, kT_eq]; cases resA s r <;> rfl
  | .cell t :: r => by
    show (match kT t s.t with | .pointer (some a) => (match kCell s.L s.H a, resK s r with | some v, some l => some (v :: l) | _, _ => none) | _ => none) = _
    rw [resK_eq s r, resA, kT_eq]
    cases tget s.t t with
    | pointer a =>
      cases a with
      | none => rfl
      | some a => simp only [kCell_eq, Option.bind_some]; cases cellAt s.L s.H a <;> cases resA s r <;> rfl
    | _ => rfl
  | .cells n t :: r => by
    show (match kT t s.t with | .pointer (some a) => (match cellsAt s.L s.H a n, resK s r with | some vs, some l => some (Value.agg vs.toArray :: l) | _, _ => none) | _ => none) = _
    rw [resK_eq s r, resA, kT_eq]
    cases tget s.t t with
    | pointer a =>
      cases a with
      | none => rfl
      | some a => simp only [Option.bind_some]; cases cellsAt s.L s.H a n <;> cases resA s r <;> rfl
    | _ => rfl

noncomputable def kOut (pu : Bool) (H : AH) (r : Option (List Value × LS × AH)) : Option (Value × AH) :=
  match r with
  | some (vs, _, H') => some (packA vs, match pu with | true => (match kSca (packA vs) with | true => H | false => H') | false => H')
  | none => none
noncomputable def kRes (pu : Bool) (H : AH) (res : List SR) (r : XR) : Option (Value × AH) :=
  match r with
  | some (.exit _, _) => none
  | some (_, s) => (match resK s res with
    | some vs => kOut pu H (kGlobs vs s.L s.H)
    | none => none)
  | none => none
noncomputable def kLim (pu : Bool) (H : AH) (lim : Nat) : Nat :=
  match pu with
  | true => kLen' H
  | false => lim
noncomputable def kFn (T : FT) (n : Nat) (ih : CallA) (f : FuncId) (first cap : Array Value) (args : List Value) (lim : Nat) (H : AH) : Option (Value × AH) :=
  match T.get f with
  | none => none
  | some (sf, pu) => kRes pu H sf.res (exK ih n sf.body ⟨tsOf 0 (first.toList ++ args ++ cap.toList), [], H, kLim pu H lim, none⟩)
noncomputable def kY2 (l : Nat) (r : ARec) (x : XR) : Option (Value × AH) :=
  match x with
  | some (e, s') => (match kHg s'.H l with
    | some (.loop _) => some (.bool (decide (e = .normal)), kSet s'.H l (.loop { r with st := if e = .normal then 0 else 2, pend := if e = .normal then none else some e, L := s'.L }))
    | _ => none)
  | none => none
noncomputable def kY1 (n : Nat) (ih : CallA) (l : Nat) (r : ARec) (x : XR) : Option (Value × AH) :=
  match x with
  | some (.normal, s) => (match kHg s.H l with
    | some (.loop r1) => if r1.st = 4 then kY2 l r (exK ih n r.body { s with H := kSet s.H l (.loop { r with st := 1, pend := r1.pend, L := [] }) }) else none
    | _ => none)
  | _ => none
noncomputable def kYl (n : Nat) (ih : CallA) (l : Nat) (first : Array Value) (args : List Value) (lim : Nat) (H : AH) : Option (Value × AH) :=
  match kHg H l with
  | some (.loop r) => if first.size = 0 ∧ r.st = 0 ∧ lim ≤ r.lim ∧ lim ≤ l ∧ args.length = r.ps.length then kY1 n ih l r (exK ih n r.asg ⟨(r.ps.zip args).reverse ++ r.t, r.L, kSet H l (.loop { r with st := 4, L := [] }), r.lim, some l⟩) else none
  | _ => none
noncomputable def apStep (T : FT) (O : OT) (n : Nat) (ih : CallA) (fv : Value) (args : List Value) (lim : Nat) (H : AH) : Option (Value × AH) :=
  match fv with
  | .func (.func f) first cap => (match O.get f (.func (.func f) first cap) args lim H with
    | some r => some r
    | none => kFn T n ih f first cap args lim H)
  | .func (.yield l) first _ => kYl n ih l first args lim H
  | _ => none
noncomputable def apO (T : FT) (O : OT) (n : Nat) : CallA := Nat.rec (motive := fun _ => CallA) (fun _ _ _ _ => none) (fun n ih => apStep T O n ih) n

theorem apO_le {P : Program} {pure : FuncId → Bool} {T : FT} (hT : T.Ok P pure) {O : OT} (hO : O.Ok P pure) : ∀ n, CLe (apO T O n) (apL P ⟨pure, [], fun _ _ => none⟩)
  | 0 => fun fv vs lim H r h => by cases h
  | n + 1 => fun fv vs lim H r h => by
    have ih := apO_le hT hO n
    have ex : ∀ {sc : SC} {s : St} {r : Ex × St}, exK (apO T O n) n sc s = some r → exL P ⟨pure, [], fun _ _ => none⟩ sc s = some r := fun h => exL_of (exA_mono ih n n (Nat.le_refl _) ((exK_eq _ _ _ _).symm.trans h))
    have h : apStep T O n (apO T O n) fv vs lim H = some r := h
    have ho : ∀ f first cap args, orcA ⟨pure, [], fun _ _ => none⟩ f first cap args = none := fun f first cap args => by unfold orcA; simp
    unfold apStep at h
    split at h
    · rename_i f first cap _
      split at h
      · rename_i hg
        cases h
        exact OT.get_ok hO hg
      rw [apL_func _ _ _ _ _ _ (ho _ _ _ _)]
      unfold kFn at h
      split at h
      · cases h
      · rename_i sf pu hsf
        obtain ⟨hs1, hs2⟩ := FT.get_ok hT hsf
        rw [hs1]
        simp only
        have hlim : kLim pu H lim = (if pure f then H.length else lim) := by
          rw [hs2]; cases pu
          · rfl
          · exact kLen'_eq H
        rw [hlim] at h
        cases hx : exK (apO T O n) n sf.body ⟨tsOf 0 (first.toList ++ vs ++ cap.toList), [], H, if pure f = true then H.length else lim, none⟩ with
        | none => rw [hx] at h; cases h
        | some q =>
          obtain ⟨e, s⟩ := q
          have hx' := ex hx
          rw [hx] at h
          have hfin : ∀ e', (e' = Ex.normal ∨ e' = .ret) → kRes pu H sf.res (some (e', s)) = some r → (match resA s sf.res with
            | some vs => (match globs s.L s.H vs with
              | some (vs, _, H') => some (packA vs, if (pure f && sca (packA vs)) = true then H else H')
              | none => none)
            | none => none) = some r := fun e' he hr => by
            have hr' : (match resK s sf.res with | some vs => kOut pu H (kGlobs vs s.L s.H) | none => none) = some r := by
              rcases he with rfl | rfl <;> exact hr
            rw [resK_eq] at hr'
            cases hra : resA s sf.res with
            | none => rw [hra] at hr'; cases hr'
            | some us =>
              rw [hra] at hr'
              simp only [kGlobs_eq] at hr' ⊢
              cases hgl : globs s.L s.H us with
              | none => rw [hgl] at hr'; cases hr'
              | some q =>
                obtain ⟨ws, L', H'⟩ := q
                rw [hgl] at hr'
                simp only [kOut, kSca_eq] at hr' ⊢
                rw [← hr', hs2]
                cases pu <;> cases sca (packA ws) <;> rfl
          erw [hx']
          cases e with
          | exit i => cases h
          | normal => exact hfin _ (.inl rfl) h
          | ret => exact hfin _ (.inr rfl) h
    · rename_i l first cap _
      unfold kYl at h
      split at h
      · rename_i rr hr
        rw [kHg_eq] at hr
        split at h
        · rename_i hg
          unfold kY1 at h
          split at h
          · rename_i s1 h1
            rw [kSet_eq] at h1
            split at h
            · rename_i r1 hr1
              rw [kHg_eq] at hr1
              split at h
              · rename_i h4
                unfold kY2 at h
                split at h
                · rename_i e s2 h2
                  rw [kSet_eq] at h2
                  split at h
                  · rename_i r2 hr2
                    rw [kHg_eq] at hr2
                    rw [kSet_eq] at h
                    cases h
                    exact apL_yield hr hg (ex h1) hr1 h4 (ex h2) hr2
                  · cases h
                · cases h
              · cases h
            · cases h
          · cases h
        · cases h
      · cases h
    · cases h

theorem apO_sound {P : Program} {pure : FuncId → Bool} {T : FT} (hT : T.Ok P pure) {O : OT} (hO : O.Ok P pure) {n : Nat} {o : OF} (h : apO T O n o.fv o.args o.lim o.H = some o.r) : o.Ok P pure := apO_le hT hO n _ _ _ _ _ h

/-- What has been computed of a call without arguments over the tables alone. -/
theorem orSound_ofL {P : Program} (hm : P.follows .mixedOrders = true) {pure : FuncId → Bool} {tabs : List (Nat × List Value)} {f0 : FuncId} {v0 : Value} {lim : Nat} {H0 : AH} (hrun : apL P ⟨pure, [], fun _ _ => none⟩ (.func (.func f0) #[] #[]) [] lim (globH P tabs) = some (v0, H0)) (hv : sca v0 = true) (B0 : Nat) :
    OrSound P B0 ⟨pure, tabs, fun f args => if f = f0 ∧ args.isEmpty = true then some v0 else none⟩ := by
  obtain ⟨n, hn⟩ := apL_iff.1 hrun
  exact orSound_of hm hn hv B0

abbrev K (n : Int) : Value := .int .i64 n
abbrev V (b o n c : Nat) : Value := .slice (some ⟨b, o, none⟩) n c
abbrev E (n c : Nat) : Value := .slice none n c
abbrev Q (b o : Nat) : Value := .pointer (some ⟨b, o, none⟩)
end Go.Proofs.YthobfecblpnnnaaGreatDoor
