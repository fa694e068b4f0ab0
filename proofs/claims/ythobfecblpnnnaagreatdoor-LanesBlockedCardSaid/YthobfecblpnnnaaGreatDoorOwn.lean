/- Later heaps; lists of one's own. -/
import Derived.Test.YthobfecblpnnnaaGreatDoorChartA
import Derived.Test.YthobfecblpnnnaaGreatDoorNlp
set_option linter.all false
namespace Go.Proofs.YthobfecblpnnnaaGreatDoor
open Go Go.RowKit

/-- A later heap: what was there, and more (but no loops that are under way). -/
def Aft (H A : AH) : Prop := ∃ J, A = H ++ J ∧ noLp J = true
theorem Aft.refl (H : AH) : Aft H H := ⟨[], by simp, rfl⟩
theorem Aft.push {H A : AH} (h : Aft H A) (l : AH) (hl : noLp l = true := by rfl) : Aft H (A ++ l) := by obtain ⟨J, rfl, hJ⟩ := h; exact ⟨J ++ l, by simp, noLp_app hJ hl⟩
theorem Aft.set {H A : AH} (h : Aft H A) {b : Nat} (hb : H.length ≤ b) (x : ABlk) (hx : nlp x = true := by rfl) : Aft H (A.set b x) := by obtain ⟨J, rfl, hJ⟩ := h; exact ⟨J.set (b - H.length) x, by rw [List.set_append_right _ _ hb], noLp_set hJ _ hx⟩
theorem Aft.nlp {H A : AH} (h : Aft H A) (hH : noLp H = true) : noLp A = true := by obtain ⟨J, rfl, hJ⟩ := h; exact noLp_app hH hJ
theorem Aft.ext {H A : AH} (h : Aft H A) : Ext H A := by obtain ⟨J, rfl, _⟩ := h; exact Ext.push H J
theorem Aft.trans {H A B : AH} (h : Aft H A) (k : Aft A B) : Aft H B := by obtain ⟨J, rfl, hJ⟩ := h; obtain ⟨K, rfl, hK⟩ := k; exact ⟨J ++ K, by simp, noLp_app hJ hK⟩
theorem Aft.le {H A : AH} (h : Aft H A) : H.length ≤ A.length := by obtain ⟨J, rfl, _⟩ := h; simp

/-- A list of numbers of one's own, that is not empty. -/
def OwnI (n0 : Nat) (A : AH) (v : Value) (l : List Int) : Prop := ∃ b k, n0 ≤ b ∧ v = .slice (some ⟨b, 0, none⟩) l.length k ∧ (k = l.length ∨ k = l.length + 1) ∧ A[b]? = some (.rw 1 (ints l))
theorem OwnI.sl {n0 : Nat} {A : AH} {v : Value} {l : List Int} (h : OwnI n0 A v l) : Sl A v l.length (ints l) := by
  obtain ⟨b, k, _, rfl, _, hb⟩ := h
  exact Sl.made hb rfl
theorem ints_append (l m : List Int) : ints (l ++ m) = ints l ++ ints m := by simp [ints]

/-- A list of numbers that is appended to. -/
def OwnA (n0 : Nat) (A : AH) (v : Value) (l : List Int) : Prop :=
  (l = [] ∧ v = .slice none 0 0) ∨ (l ≠ [] ∧ ∃ b, n0 ≤ b ∧ v = .slice (some ⟨b, 0, none⟩) l.length (l.length + 1) ∧ A[b]? = some (.rw 1 (ints l)))
theorem OwnA.sl {n0 : Nat} {A : AH} {v : Value} {l : List Int} (h : OwnA n0 A v l) : Sl A v l.length (ints l) := by
  rcases h with ⟨rfl, rfl⟩ | ⟨_, b, _, rfl, hb⟩
  · exact Sl.nil
  · exact Sl.made hb rfl

/-- A list of values of one cell that is appended to. -/
def OwnV (n0 : Nat) (A : AH) (v : Value) (cs : List Value) : Prop :=
  (cs = [] ∧ v = .slice none 0 0) ∨ (cs ≠ [] ∧ ∃ b, n0 ≤ b ∧ v = .slice (some ⟨b, 0, none⟩) cs.length (cs.length + 1) ∧ A[b]? = some (.rw 1 cs))
theorem OwnV.sl {n0 : Nat} {A : AH} {v : Value} {cs : List Value} (h : OwnV n0 A v cs) : Sl A v cs.length cs := by
  rcases h with ⟨rfl, rfl⟩ | ⟨_, b, _, rfl, hb⟩
  · exact ⟨none, 0, rfl, fun j v hv => by simp at hv⟩
  · refine ⟨_, _, rfl, fun j x hx => ⟨b, 0, rfl, ?_⟩⟩
    simp only [hcell, hb, Nat.zero_add]
    exact hx

/-- A row of numbers of a table, in a block of its own. -/
def RowB (n0 : Nat) (A : AH) (v : Value) (l : List Int) : Prop := ∃ b, n0 ≤ b ∧ v = .slice (some ⟨b, 0, none⟩) l.length l.length ∧ A[b]? = some (.rw 1 (ints l))

/-- A table: a list of rows of numbers. -/
def Tab (A : AH) (v : Value) (ls : List (List Int)) : Prop := ∃ rv : List Value, rv.length = ls.length ∧ Sl A v ls.length rv ∧ ∀ i (h : i < ls.length) (h' : i < rv.length), Sl A rv[i] ls[i].length (ints ls[i])

theorem Tab.ext {A B : AH} (hE : Ext A B) {v : Value} {ls : List (List Int)} (h : Tab A v ls) : Tab B v ls := by
  obtain ⟨rv, h1, h2, h3⟩ := h
  exact ⟨rv, h1, h2.ext hE, fun i a b => (h3 i a b).ext hE⟩

/-- The cells of a list, behind which blocks have been laid. -/
theorem own_cells {A : AH} {b : Nat} {cs : List Value} (h : A[b]? = some (.rw 1 cs)) (L : LS) (x : AH) : cellsAt L (A ++ x) ⟨b, 0, none⟩ cs.length = some cs := by
  have hbl : b < A.length := (List.getElem?_eq_some_iff.1 h).1
  refine cellsAt_of cs 0 fun m y hy => ?_
  simp only [hcell, Nat.zero_add]
  rw [List.getElem?_append_left hbl, h]
  exact hy
theorem own_get {A : AH} {b : Nat} {z : ABlk} (h : A[b]? = some z) (x : AH) : (A ++ x)[b]? = some z := by
  rw [List.getElem?_append_left (List.getElem?_eq_some_iff.1 h).1, h]
theorem own_set {A : AH} {b : Nat} {z : ABlk} (h : A[b]? = some z) (x y : AH) : (A ++ x).set b .dead ++ y = A.set b .dead ++ (x ++ y) := by
  rw [List.set_append_left _ _ (List.getElem?_eq_some_iff.1 h).1, List.append_assoc]
end Go.Proofs.YthobfecblpnnnaaGreatDoor
