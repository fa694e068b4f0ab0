/- Heaps without loops that are under way: such a heap is the same as itself. -/
import Derived.Test.YthobfecblpnnnaaGreatDoorCoreE
import Derived.Test.YthobfecblpnnnaaGreatDoorWorks
set_option linter.all false
namespace Go.Proofs.YthobfecblpnnnaaGreatDoor
open Go Go.RowKit

mutual
theorem vEq_self : ∀ (a : Value), vEq a a = true
  | .bool _ => by simp [vEq]
  | .int _ _ => by simp [vEq]
  | .float _ _ => by simp [vEq]
  | .complex _ _ _ => by simp [vEq]
  | .string _ => by simp [vEq]
  | .pointer _ => by simp [vEq]
  | .slice _ _ _ => by simp [vEq]
  | .map _ => by simp [vEq]
  | .chan _ => by simp [vEq]
  | .nilFunc => by simp [vEq]
  | .nilIface => by simp [vEq]
  | .func f x y => by
    simp only [vEq]
    rw [vEqL_self x.toList, vEqL_self y.toList]
    simp
  | .iface t v => by
    simp only [vEq]
    rw [vEq_self v]
    simp
  | .agg x => by
    simp only [vEq]
    exact vEqL_self x.toList
  | .tuple x => by
    simp only [vEq]
    exact vEqL_self x.toList
theorem vEqL_self : ∀ (a : List Value), vEqL a a = true
  | [] => by simp only [vEqL]
  | v :: r => by
    simp only [vEqL]
    rw [vEq_self v, vEqL_self r]
    rfl
end
theorem lcEq_self (a : LC) : lcEq a a = true := by
  cases a with
  | cells vs => unfold lcEq; exact vEqL_self vs
  | fwd b => simp [lcEq]
theorem lsEq_self : ∀ a : LS, lsEq a a = true
  | [] => by unfold lsEq; rfl
  | (d, g, c) :: r => by
    unfold lsEq
    rw [lcEq_self c, lsEq_self r]
    simp

def nlp : ABlk → Bool
  | .loop _ => false
  | _ => true
def noLp (H : AH) : Bool := H.all nlp

theorem blkEq_self {x : ABlk} (h : nlp x = true) : blkEq x x = true := by
  cases x with
  | rw e vs => simp only [blkEq, vEqL_self]; simp
  | ro vs => simp only [blkEq, vEqL_self]
  | dead => rfl
  | loop r => cases h
theorem hpEq_self : ∀ {H : AH}, noLp H = true → hpEq H H = true
  | [], _ => by unfold hpEq; rfl
  | x :: H, h => by
    unfold noLp at h
    rw [List.all_cons, Bool.and_eq_true] at h
    unfold hpEq
    rw [blkEq_self h.1, hpEq_self (H := H) h.2]
    rfl
theorem noLp_app {A B : AH} (h : noLp A = true) (k : noLp B = true) : noLp (A ++ B) = true := by
  unfold noLp at *
  rw [List.all_append, h, k]
  rfl
theorem noLp_set {A : AH} (h : noLp A = true) (b : Nat) {x : ABlk} (k : nlp x = true) : noLp (A.set b x) = true := by
  unfold noLp at *
  rw [List.all_eq_true] at h ⊢
  intro y hy
  rcases List.mem_or_eq_of_mem_set hy with hy | rfl
  · exact h y hy
  · exact k

variable {D : Type}
mutual
theorem absD_nlp : ∀ (d : DataW D) (n : Nat), noLp (absD d n).2 = true
  | .lit l, _ => by unfold absD; rfl
  | .slice [] _, _ => by unfold absD; rfl
  | .slice (d :: ds) _, n => by
    unfold absD
    have := absDs_nlp (d :: ds) (n + 1)
    unfold noLp at this ⊢
    rw [List.all_cons, this]
    rfl
  | .agg parts, n => by unfold absD; exact absDs_nlp parts n
  | .nil, _ => by unfold absD; rfl
  | .ptr _, _ => by unfold absD; rfl
  | .iface _ _, _ => by unfold absD; rfl
  | .map _, _ => by unfold absD; rfl
  | .held _, _ => by unfold absD; rfl
theorem absDs_nlp : ∀ (ds : List (DataW D)) (n : Nat), noLp (absDs ds n).2 = true
  | [], _ => by unfold absDs; rfl
  | d :: ds, n => by
    unfold absDs
    exact noLp_app (absD_nlp d n) (absDs_nlp ds _)
end
theorem globH_nlp : noLp (globH Tryz.prog tabs) = true := by
  unfold noLp globH
  rw [List.all_eq_true]
  intro x hx
  rw [List.mem_map] at hx
  obtain ⟨i, _, rfl⟩ := hx
  unfold globA
  split <;> rfl
end Go.Proofs.YthobfecblpnnnaaGreatDoor
