import Derived.Test.YtnpifaanhofonaaGreatDoorLauA
import Derived.Test.YtnpifaanhofonaaGreatDoorOwn
import Derived.Test.YtnpifaanhofonaaGreatDoorYld
set_option linter.all false

/- Contracts of layer 5: all lists of numbers, that a loop goes through. -/
namespace Go.Proofs.YtnpifaanhofonaaGreatDoor
open Go Go.RowKit

theorem isU_sl (a : Option Addr) (n c : Nat) : isU (.slice a n c) = false := rfl
theorem cells_sl (a : Option Addr) (n c : Nat) : (Value.slice a n c).cells = #[.slice a n c] := rfl
theorem isU_i (k : IntKind) (n : Int) : isU (.int k n) = false := rfl
theorem cells_i (k : IntKind) (n : Int) : (Value.int k n).cells = #[.int k n] := rfl
theorem isU_agg (vs : Array Value) : isU (.agg vs) = false := rfl
theorem cells_agg (vs : Array Value) : (Value.agg vs).cells = vs := rfl
theorem isU_b (b : Bool) : isU (.bool b) = false := rfl
theorem cells_b (b : Bool) : (Value.bool b).cells = #[.bool b] := rfl
theorem oneC_bool (b : Bool) : oneC (.bool b) = true := rfl

/-- A list of numbers, in the heap. -/
def LstO (n0 : Nat) (A : AH) (v : Value) (l : List Nat) : Prop := (l = [] ∧ v = .slice none 0 0) ∨ (l ≠ [] ∧ ∃ b, n0 ≤ b ∧ v = .slice (some ⟨b, 0, none⟩) l.length (l.length + 1) ∧ A[b]? = some (.rw 1 (ints (natI l))))
theorem LstO.sl {n0 : Nat} {A : AH} {v : Value} {l : List Nat} (h : LstO n0 A v l) : Sl A v l.length (ints (natI l)) := by
  rcases h with ⟨rfl, rfl⟩ | ⟨_, b, _, rfl, hb⟩
  · exact Sl.nil
  · have := Sl.made (n := l.length) (k := l.length + 1) hb (natI_len l).symm
    rw [natI_len] at this
    exact this
theorem LstO.one {n0 : Nat} {A : AH} {v : Value} {l : List Nat} (h : LstO n0 A v l) : nl v = true ∧ isU v = false ∧ v.cells = #[v] ∧ oneC v = true ∧ ∃ a n k, v = .slice a n k := by
  rcases h with ⟨rfl, rfl⟩ | ⟨_, b, _, rfl, _⟩
  · exact ⟨by simp, rfl, rfl, by unfold oneC; rfl, _, _, _, rfl⟩
  · exact ⟨by simp, rfl, rfl, by unfold oneC; rfl, _, _, _, rfl⟩
/-- What lay from n0 on is kept. -/
def Kp (n0 : Nat) (A B : AH) : Prop := A.length ≤ B.length ∧ ∀ (c : Nat) (x : ABlk), n0 ≤ c → A[c]? = some x → B[c]? = some x
theorem LstO.keep {n0 : Nat} {A B : AH} {v : Value} {l : List Nat} (h : LstO n0 A v l) (hk : Kp n0 A B) : LstO n0 B v l := by
  rcases h with h | ⟨h1, b, h2, h3, h4⟩
  · exact .inl h
  · exact .inr ⟨h1, b, h2, h3, hk.2 _ _ h2 h4⟩
theorem Kp.push (n0 : Nat) (A X : AH) : Kp n0 A (A ++ X) := ⟨by simp, fun c x _ h => own_get h X⟩

theorem run_behind (l : List Nat) (hl : l.length ≤ 1000) (hf : firstN l ≤ 1000) (lim : Nat) (A : AH) {n0 : Nat} (v : Value) (hv : LstO n0 A v l) :
    apL Tryz.prog pf (.func (.func 124) #[] #[]) [v] lim A = some (.int .i64 (firstN l : Nat), A) := by
  rw [apL_func _ _ _ _ _ _ (by rfl), sf_launch_behind_eq]
  rcases hv with ⟨rfl, rfl⟩ | ⟨hn, b, _, rfl, hb⟩
  · simp [sf_launch_behind, firstN, pf_pure, pureF]
  · have hq1 : 0 < l.length := List.length_pos_iff.2 hn
    have hlast : (natI l)[l.length - 1]? = some ((firstN l - 1 : Nat) : Int) ∧ 1 ≤ firstN l := by
      unfold firstN natI
      rw [List.getLast?_eq_getElem?]
      have : l.length - 1 < l.length := by omega
      rw [List.getElem?_eq_getElem this]
      simp [this]
    have hcl : (ints (natI l))[l.length - 1]? = some (.int .i64 ((firstN l - 1 : Nat) : Int)) := by
      unfold ints
      rw [List.getElem?_map, hlast.1]; rfl
    have hw2 : IntKind.i64.wrap ((l.length : Int) - 1) = ((l.length - 1 : Nat) : Int) := by rw [wrap_i64 (by omega) (by omega)]; omega
    have hw3 : IntKind.i64.wrap (((firstN l - 1 : Nat) : Int) + 1) = ((firstN l : Nat) : Int) := by rw [wrap_i64 (by omega) (by omega)]; omega
    have hlt2 : l.length - 1 < l.length := by omega
    have hl0 : ¬ l.length = 0 := by omega
    have hl0' : ((l.length : Int) == 0) = false := by simp; omega
    obtain ⟨qm, hqm⟩ : ∃ qm, qm = l.length - 1 := ⟨_, rfl⟩
    rw [← hqm] at hw2 hcl hlt2
    obtain ⟨fm, hfm⟩ : ∃ fm, fm = firstN l - 1 := ⟨_, rfl⟩
    rw [← hfm] at hw3 hcl
    simp [-Int.natCast_add, sf_launch_behind, hn, hl0, hl0', hw2, hlt2, hb, hcl, hw3, pf_pure, pureF]

def lsV (b : Nat) : Value := .func (.func 123) #[] #[.pointer (some ⟨b, 0, none⟩)]
theorem run_lists (n : Nat) (lim : Nat) (H : AH) : apL Tryz.prog pf (.func (.func 97) #[] #[]) [.int .i64 n] lim H = some (lsV H.length, H ++ [.rw 0 [.int .i64 n]]) := by
  rw [apL_func _ _ _ _ _ _ (by rfl), sf_launch_lists_eq]
  simp [sf_launch_lists, lsV, pf_pure, pureF]

/-- What a consumer of the lists must bear: Inv holds of the lists that it has had, and the heap. -/
structure LsC (n n0 nb lim : Nat) (fv : Value) (Inv : List (List Nat) → AH → Prop) (Done : AH → Prop) : Prop where
  nbox : ∀ P A, Inv P A → A[nb]? = some (.rw 0 [.int .i64 n])
  add : ∀ P A B, Inv P A → A.length ≤ B.length → (∀ c, c < n0 → B[c]? = A[c]?) → Inv P B
  yield : ∀ P A l v, Inv P A → LstO n0 A v l → n0 ≤ A.length → (∃ R, P ++ l :: R = listsM n) → ∃ ok A2, apL Tryz.prog pf fv [v] lim A = some (.bool ok, A2) ∧ Kp n0 A A2 ∧ (ok = true → Inv (P ++ [l]) A2) ∧ (ok = false → Done A2)
  fin : ∀ A, Inv (listsM n) A → Done A

/-- What waits, in the heap. -/
def QIn (n0 : Nat) (A : AH) (v : Value) (Q : List (List Nat)) : Prop :=
  (Q = [] ∧ ∃ c, v = .slice none 0 c) ∨ (Q ≠ [] ∧ ∃ b o c cs, v = .slice (some ⟨b, o, none⟩) Q.length c ∧ (c = Q.length ∨ c = Q.length + 1) ∧ n0 ≤ b ∧ A[b]? = some (.rw 1 cs) ∧ cs.length = o + Q.length ∧ (∀ y ∈ cs, nl y = true ∧ oneC y = true ∧ ∃ a n k, y = Value.slice a n k) ∧
    ∀ j (h : j < Q.length), ∃ w, cs[o + j]? = some w ∧ LstO n0 A w Q[j])
theorem QIn.keep {n0 : Nat} {A B : AH} {v : Value} {Q : List (List Nat)} (h : QIn n0 A v Q) (hk : Kp n0 A B) : QIn n0 B v Q := by
  rcases h with h | ⟨h1, b, o, c, cs, h2, h3, h4, h5, h6, h7, h8⟩
  · exact .inl h
  · refine .inr ⟨h1, b, o, c, cs, h2, h3, h4, hk.2 _ _ h4 h5, h6, h7, fun j hj => ?_⟩
    obtain ⟨w, k1, k2⟩ := h8 j hj
    exact ⟨w, k1, k2.keep hk⟩

theorem cellsAt_off {L : LS} {A x : AH} {b : Nat} {cs : List Value} (h : A[b]? = some (.rw 1 cs)) (o n : Nat) (hn : cs.length = o + n) : cellsAt L (A ++ x) ⟨b, o, none⟩ n = some (cs.drop o) := by
  have hl : (cs.drop o).length = n := by simp [hn]
  rw [← hl]
  refine cellsAt_of (cs.drop o) o fun m y hy => ?_
  simp only [hcell]
  rw [own_get h x]
  simp only []
  rw [List.getElem?_drop] at hy
  exact hy

/-- A list that lies in another block than that of the slices stays. -/
theorem LstO.past {n0 : Nat} {A F : AH} {b : Nat} {cs : List Value} {v : Value} {l : List Nat} (h : LstO n0 A v l) (hb : A[b]? = some (.rw 1 cs)) (hcs : ∀ y ∈ cs, ∃ a n k, y = Value.slice a n k) (hF : ∀ (c : Nat) (z : ABlk), c ≠ b → A[c]? = some z → F[c]? = some z) : LstO n0 F v l := by
  rcases h with h | ⟨h1, b', h0, h2, h3⟩
  · exact .inl h
  · refine .inr ⟨h1, b', h0, h2, hF b' _ ?_ h3⟩
    rintro rfl
    rw [hb] at h3
    simp only [Option.some.injEq, ABlk.rw.injEq, true_and] at h3
    obtain ⟨y, t, e⟩ : ∃ y t, l = y :: t := by cases l with | nil => exact absurd rfl h1 | cons y t => exact ⟨y, t, rfl⟩
    obtain ⟨a, n, k, e2⟩ := hcs (.int .i64 (y : Nat)) (by rw [h3, e]; simp [natI, ints])
    cases e2
end Go.Proofs.YtnpifaanhofonaaGreatDoor
