/- Layer 6: legs, and when two of them clash (mathematics). -/
import Derived.Test.YthobfecblpnnnaaGreatDoorMathA
set_option linter.all false
namespace Go.Proofs.YthobfecblpnnnaaGreatDoor
open Go Go.RowKit

/-- A leg, as it is read. -/
structure Lg where
  (t0 lv dr : Int)
  tl : Bool
  cs : List Int

/-- Where the unit of a leg is in a tick. -/
def Lg.cel (l : Lg) (t : Int) : Int := if l.t0 ≤ t ∧ t < l.t0 + l.cs.length then l.cs.getD (t - l.t0).toNat 0 else -1

/-- A spot: where a unit is, was, and where its tow is. -/
structure Sp where
  (now bef rear : Int)
def spOf (now bef : Int) (tl : Bool) : Sp := ⟨now, bef, if tl = true ∧ now ≠ -1 ∧ bef ≠ -1 then bef else now⟩
def Lg.sp (l : Lg) (t : Int) : Sp := spOf (l.cel t) (l.cel (t - 1)) l.tl
def Sp.occ (s : Sp) (c : Int) : Bool := s.now == c || s.rear == c
def Sp.cla (s o : Sp) : Bool := !(s.now == -1 || o.now == -1) && (s.occ o.now || s.occ o.rear || (s.now == o.bef && s.bef == o.now))
/-- Two legs clash in a tick. -/
def claM (a b : Lg) (t : Int) : Bool := a.lv == b.lv && (a.sp t).cla (b.sp t)

/-- What the unit of a leg occupies in a tick. -/
def Lg.occs (l : Lg) (t : Int) : List Int := if l.cel t < 0 then [] else if l.tl = true ∧ 0 ≤ l.cel (t - 1) then [l.cel t, l.cel (t - 1)] else [l.cel t]
def anyEq (xs ys : List Int) : Bool := xs.any fun x => ys.any fun y => x == y
def swapB (p q r s : Int) : Bool := decide (0 ≤ p) && decide (0 ≤ q) && decide (0 ≤ r) && decide (0 ≤ s) && q == r && s == p && p != r
/-- The same, as the reference says it. -/
def claR (a b : Lg) (t : Int) : Bool := a.lv == b.lv && (anyEq (a.occs t) (b.occs t) || swapB (a.cel (t - 1)) (a.cel t) (b.cel (t - 1)) (b.cel t))

/-- Its cells are numbers of cells. -/
def Lg.nn (l : Lg) : Prop := ∀ x ∈ l.cs, 0 ≤ x

theorem Lg.cel_or {l : Lg} (h : l.nn) (t : Int) : l.cel t = -1 ∨ 0 ≤ l.cel t := by
  unfold Lg.cel
  split
  · rename_i hh
    right
    have : (t - l.t0).toNat < l.cs.length := by omega
    rw [List.getD_eq_getElem?_getD, List.getElem?_eq_getElem this, Option.getD_some]
    exact h _ (List.getElem_mem this)
  · exact .inl rfl

theorem cla_core {p q r s : Int} {u v : Bool} (hp : p = -1 ∨ 0 ≤ p) (hq : q = -1 ∨ 0 ≤ q) (hr : r = -1 ∨ 0 ≤ r) (hs : s = -1 ∨ 0 ≤ s) :
    (anyEq (if q < 0 then [] else if u = true ∧ 0 ≤ p then [q, p] else [q]) (if s < 0 then [] else if v = true ∧ 0 ≤ r then [s, r] else [s]) || swapB p q r s) = (spOf q p u).cla (spOf s r v) := by
  rw [Bool.eq_iff_iff]
  rcases hq with rfl | hq
  · simp [anyEq, swapB, Sp.cla, spOf]
  rcases hs with rfl | hs
  · simp [anyEq, swapB, Sp.cla, spOf]
  have q1 : ¬ q < 0 := by omega
  have s1 : ¬ s < 0 := by omega
  have q2 : q ≠ -1 := by omega
  have s2 : s ≠ -1 := by omega
  rcases hp with rfl | hp <;> rcases hr with rfl | hr
  · cases u <;> cases v <;> simp [anyEq, swapB, Sp.cla, Sp.occ, spOf, q1, s1, q2, s2] <;> omega
  · have r2 : r ≠ -1 := by omega
    cases u <;> cases v <;> simp [anyEq, swapB, Sp.cla, Sp.occ, spOf, q1, s1, q2, s2, hr, r2] <;> omega
  · have p2 : p ≠ -1 := by omega
    cases u <;> cases v <;> simp [anyEq, swapB, Sp.cla, Sp.occ, spOf, q1, s1, q2, s2, hp, p2] <;> omega
  · have p2 : p ≠ -1 := by omega
    have r2 : r ≠ -1 := by omega
    cases u <;> cases v <;> simp [anyEq, swapB, Sp.cla, Sp.occ, spOf, q1, s1, q2, s2, hp, p2, hr, r2] <;> omega

theorem claR_eq {a b : Lg} (ha : a.nn) (hb : b.nn) (t : Int) : claR a b t = claM a b t := by
  unfold claR claM Lg.occs Lg.sp
  rw [cla_core (Lg.cel_or ha _) (Lg.cel_or ha _) (Lg.cel_or hb _) (Lg.cel_or hb _)]

theorem cla_comm (s o : Sp) : s.cla o = o.cla s := by
  rw [Bool.eq_iff_iff]
  obtain ⟨a, b, c⟩ := s
  obtain ⟨d, e, f⟩ := o
  simp [Sp.cla, Sp.occ]
  omega

theorem claM_comm (a b : Lg) (t : Int) : claM a b t = claM b a t := by
  unfold claM
  rw [cla_comm, show (a.lv == b.lv) = (b.lv == a.lv) from BEq.comm]

/-- Whether the unit of a leg occupies a cell. -/
def Lg.at? (l : Lg) (lv cell t : Int) : Bool := l.lv == lv && (l.sp t).occ cell
theorem occs_eq {l : Lg} (h : l.nn) (cell t : Int) (hc : 0 ≤ cell) : ((l.occs t).any fun x => x == cell) = (l.sp t).occ cell := by
  have hq := l.cel_or h t
  have hp := l.cel_or h (t - 1)
  unfold Lg.occs Lg.sp spOf Sp.occ
  generalize l.cel t = q at *
  generalize l.cel (t - 1) = p at *
  rw [Bool.eq_iff_iff]
  rcases hq with rfl | hq
  · simp; omega
  · have e1 : ¬ q < 0 := by omega
    have e2 : q ≠ -1 := by omega
    rcases hp with rfl | hp
    · simp [e1, e2]
    · have k2 : p ≠ -1 := by omega
      cases l.tl <;> simp [e1, e2, hp, k2]
end Go.Proofs.YthobfecblpnnnaaGreatDoor
