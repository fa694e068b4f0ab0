/- Contracts of the functions, in the abstract machine: copies of charts; the law ChartFloats. -/
import Derived.Test.YtjejcbiilimjkaaDoorFunI
set_option linter.all false
namespace Go.Proofs.YtjejcbiilimjkaaDoor
open Go Go.RowKit

/-- The blocks of a list that is appended to an empty one, and its slice. -/
def cpB (e : Nat) (cs : List Value) : List ABlk := if cs.length = 0 then [.rw e []] else [.rw e [], .rw e cs]
def cpV (b n : Nat) : Value := if n = 0 then .slice (some ⟨b, 0, none⟩) 0 0 else .slice (some ⟨b + 1, 0, none⟩) n (n + 1)

theorem Sl.cp {H H' : AH} {e n : Nat} {cs : List Value} (hE : Ext (H ++ cpB e cs) H') (hn : cs.length = 0 ↔ n = 0) : Sl H' (cpV H.length n) n cs := by
  unfold cpV
  by_cases h : n = 0
  · have hc := hn.2 h
    rw [if_pos h, h]
    exact ⟨_, 0, rfl, fun j x hx => by rw [List.getElem?_eq_none (by omega)] at hx; cases hx⟩
  · have hc : ¬ cs.length = 0 := fun k => h (hn.1 k)
    rw [if_neg h]
    refine ⟨_, n + 1, rfl, fun j x hx => ⟨H.length + 1, 0, rfl, ?_⟩⟩
    have := hE (H.length + 1) (.rw e cs) (by rw [List.getElem?_append_right (by omega), cpB, if_neg hc, Nat.add_sub_cancel_left]; rfl)
    simp only [hcell, this, Nat.zero_add]
    exact hx

theorem oneC_slice (a : Option Addr) (n c : Nat) : oneC (.slice a n c) = true := by unfold oneC; rfl
theorem oneC_int (k : IntKind) (n : Int) : oneC (.int k n) = true := by unfold oneC; rfl

def copyB (c : Ch) : List ABlk := cpB 1 (ints c.depth) ++ cpB 2 (spans c.tide) ++ cpB 1 (ints c.swell)

set_option maxHeartbeats 2000000 in
theorem run_Copy (c : Ch) (lim : Nat) (H : AH) (d t s : Value) (hc : ChIn H c d t s) (hl : c.depth.length ≤ 1000 ∧ c.tide.length ≤ 1000 ∧ c.swell.length ≤ 1000) :
    ∃ d' t' s', apL Tryd.prog pf (.func (.func 14) #[] #[]) [chV c d t s] lim H = some (chV c d' t' s', H ++ copyB c) ∧ ChIn (H ++ copyB c) c d' t' s' := by
  refine ⟨cpV H.length c.depth.length, cpV (H ++ cpB 1 (ints c.depth)).length c.tide.length, cpV (H ++ cpB 1 (ints c.depth) ++ cpB 2 (spans c.tide)).length c.swell.length, ?_,
    ⟨Sl.cp (H := H) (e := 1) (cs := ints c.depth) ?_ (by rw [ints_length]), Sl.cp (H := H ++ cpB 1 (ints c.depth)) (e := 2) (cs := spans c.tide) ?_ (by rw [spans_length]; omega), Sl.cp (H := H ++ cpB 1 (ints c.depth) ++ cpB 2 (spans c.tide)) (e := 1) (cs := ints c.swell) ?_ (by rw [ints_length]), by omega, by omega, by omega⟩⟩
  rotate_left
  · rw [copyB, ← List.append_assoc, ← List.append_assoc]; exact (Ext.push _ _).trans (Ext.push _ _)
  · rw [copyB, ← List.append_assoc, ← List.append_assoc]; exact Ext.push _ _
  · rw [copyB, ← List.append_assoc, ← List.append_assoc]; exact Ext.refl _
  rw [apL_func _ _ _ _ _ _ (by rfl), sf_cobleref01_Copy_eq]
  obtain ⟨h1, h2, h3⟩ := hl
  have i1 := nlL_ints c.depth
  have i2 := nlL_spans c.tide
  have i3 := nlL_ints c.swell
  have o1 := one_ints c.depth
  have o2 := one_spans c.tide
  have o3 := one_ints c.swell
  have hm1 : c.depth.length ≤ maxA := Nat.le_trans h1 (by decide)
  have hm2 : c.tide.length ≤ maxA := Nat.le_trans h2 (by decide)
  have hm3 : c.swell.length ≤ maxA := Nat.le_trans h3 (by decide)
  have key : ∀ {v : Value} {n : Nat} {cs : List Value}, Sl H v n cs → (0 < cs.length → ∃ b o k, v = .slice (some ⟨b, o, none⟩) n k ∧ ∀ L l, cellsAt L (H ++ l) ⟨b, o, none⟩ cs.length = some cs) ∧ ∃ a k, v = .slice a n k := fun {v n cs} hs => by
    refine ⟨fun h0 => ?_, let ⟨a, k, e, _⟩ := hs; ⟨a, k, e⟩⟩
    obtain ⟨b, o, k, e, _⟩ := hs.cells h0
    refine ⟨b, o, k, e, fun L l => ?_⟩
    obtain ⟨b', o', k', e', hh⟩ := (hs.ext (Ext.push H l)).cells h0
    rw [e] at e'
    cases e'
    exact hh L
  obtain ⟨kd, da, dk, ed⟩ := key hc.d
  obtain ⟨kt, ta, tk, et⟩ := key hc.t
  obtain ⟨ks, sa, sk, es⟩ := key hc.s
  rw [ints_length] at kd ks
  rw [spans_length] at kt
  have D : (c.depth.length = 0 ∧ ∃ a k, d = .slice a 0 k) ∨ 0 < c.depth.length ∧ ∃ b o k, d = .slice (some ⟨b, o, none⟩) c.depth.length k ∧ ∀ L l, cellsAt L (H ++ l) ⟨b, o, none⟩ c.depth.length = some (ints c.depth) := by
    by_cases h : c.depth.length = 0
    · exact .inl ⟨h, da, dk, by rw [ed, h]⟩
    · exact .inr ⟨by omega, kd (by omega)⟩
  have T : (c.tide.length = 0 ∧ ∃ a k, t = .slice a 0 k) ∨ 0 < c.tide.length ∧ ∃ b o k, t = .slice (some ⟨b, o, none⟩) c.tide.length k ∧ ∀ L l, cellsAt L (H ++ l) ⟨b, o, none⟩ (c.tide.length * 2) = some (spans c.tide) := by
    by_cases h : c.tide.length = 0
    · exact .inl ⟨h, ta, tk, by rw [et, h]⟩
    · exact .inr ⟨by omega, kt (by omega)⟩
  have S : (c.swell.length = 0 ∧ ∃ a k, s = .slice a 0 k) ∨ 0 < c.swell.length ∧ ∃ b o k, s = .slice (some ⟨b, o, none⟩) c.swell.length k ∧ ∀ L l, cellsAt L (H ++ l) ⟨b, o, none⟩ c.swell.length = some (ints c.swell) := by
    by_cases h : c.swell.length = 0
    · exact .inl ⟨h, sa, sk, by rw [es, h]⟩
    · exact .inr ⟨by omega, ks (by omega)⟩
  clear kd kt ks ed et es key hc h1 h2 h3
  rcases D with ⟨D, _, _, rfl⟩ | ⟨D, b1, p1, k1, rfl, D'⟩ <;> rcases T with ⟨T, _, _, rfl⟩ | ⟨T, b2, p2, k2, rfl, T'⟩ <;> rcases S with ⟨S, _, _, rfl⟩ | ⟨S, b3, p3, k3, rfl, S'⟩ <;>
    simp [-oneC, oneC_slice, oneC_int, sf_cobleref01_Copy, chV, copyB, cpB, cpV, ints_length, spans_length, pf_pure, pureF, *, Nat.ne_of_gt]
end Go.Proofs.YtjejcbiilimjkaaDoor
