/- Contracts of the functions, in the abstract machine: a copy of a chart, and its tide narrowed. -/
import Derived.Test.YtojplagenejhdaaDoorMathC
set_option linter.all false
namespace Go.Proofs.YtojplagenejhdaaDoor
open Go Go.RowKit

set_option maxHeartbeats 2000000 in
theorem run_CopyE (c : Ch) (lim : Nat) (H : AH) (d t s : Value) (hc : ChIn H c d t s) (hl : c.depth.length ≤ 1000 ∧ c.tide.length ≤ 1000 ∧ c.swell.length ≤ 1000) :
    apL Tryd.prog pf (.func (.func 14) #[] #[]) [chV c d t s] lim H = some (chV c (cpV H.length c.depth.length) (cpV (H ++ cpB 1 (ints c.depth)).length c.tide.length) (cpV (H ++ cpB 1 (ints c.depth) ++ cpB 2 (spans c.tide)).length c.swell.length), H ++ copyB c) := by
  rw [apL_func _ _ _ _ _ _ (by rfl), sf_cobleref01_Copy_eq]
  obtain ⟨h1, h2, h3⟩ := hl
  have i1 := nlL_ints c.depth
  have i2 := nlL_spans c.tide
  have i3 := nlL_ints c.swell
  have o1 := one_ints c.depth
  have o2 := one_spans c.tide
  have o3 := one_ints c.swell
  have hm1 : c.depth.length ≤ maxA := Nat.le_trans h1 (by decide)
  have hm2 : c.tide.length ≤ maxA := Nat.le_trans h2 (by decide)
  have hm3 : c.swell.length ≤ maxA := Nat.le_trans h3 (by decide)
  have key : ∀ {v : Value} {n : Nat} {cs : List Value}, Sl H v n cs → (0 < cs.length → ∃ b o k, v = .slice (some ⟨b, o, none⟩) n k ∧ ∀ L l, cellsAt L (H ++ l) ⟨b, o, none⟩ cs.length = some cs) ∧ ∃ a k, v = .slice a n k := fun {v n cs} hs => by
    refine ⟨fun h0 => ?_, let ⟨a, k, e, _⟩ := hs; ⟨a, k, e⟩⟩
    obtain ⟨b, o, k, e, _⟩ := hs.cells h0
    refine ⟨b, o, k, e, fun L l => ?_⟩
    obtain ⟨b', o', k', e', hh⟩ := (hs.ext (Ext.push H l)).cells h0
    rw [e] at e'
    cases e'
    exact hh L
  obtain ⟨kd, da, dk, ed⟩ := key hc.d
  obtain ⟨kt, ta, tk, et⟩ := key hc.t
  obtain ⟨ks, sa, sk, es⟩ := key hc.s
  rw [ints_length] at kd ks
  rw [spans_length] at kt
  have D : (c.depth.length = 0 ∧ ∃ a k, d = .slice a 0 k) ∨ 0 < c.depth.length ∧ ∃ b o k, d = .slice (some ⟨b, o, none⟩) c.depth.length k ∧ ∀ L l, cellsAt L (H ++ l) ⟨b, o, none⟩ c.depth.length = some (ints c.depth) := by
    by_cases h : c.depth.length = 0
    · exact .inl ⟨h, da, dk, by rw [ed, h]⟩
    · exact .inr ⟨by omega, kd (by omega)⟩
  have T : (c.tide.length = 0 ∧ ∃ a k, t = .slice a 0 k) ∨ 0 < c.tide.length ∧ ∃ b o k, t = .slice (some ⟨b, o, none⟩) c.tide.length k ∧ ∀ L l, cellsAt L (H ++ l) ⟨b, o, none⟩ (c.tide.length * 2) = some (spans c.tide) := by
    by_cases h : c.tide.length = 0
    · exact .inl ⟨h, ta, tk, by rw [et, h]⟩
    · exact .inr ⟨by omega, kt (by omega)⟩
  have S : (c.swell.length = 0 ∧ ∃ a k, s = .slice a 0 k) ∨ 0 < c.swell.length ∧ ∃ b o k, s = .slice (some ⟨b, o, none⟩) c.swell.length k ∧ ∀ L l, cellsAt L (H ++ l) ⟨b, o, none⟩ c.swell.length = some (ints c.swell) := by
    by_cases h : c.swell.length = 0
    · exact .inl ⟨h, sa, sk, by rw [es, h]⟩
    · exact .inr ⟨by omega, ks (by omega)⟩
  clear kd kt ks ed et es key hc h1 h2 h3
  rcases D with ⟨D, _, _, rfl⟩ | ⟨D, b1, p1, k1, rfl, D'⟩ <;> rcases T with ⟨T, _, _, rfl⟩ | ⟨T, b2, p2, k2, rfl, T'⟩ <;> rcases S with ⟨S, _, _, rfl⟩ | ⟨S, b3, p3, k3, rfl, S'⟩ <;>
    simp [-oneC, oneC_slice, oneC_int, sf_cobleref01_Copy, chV, copyB, cpB, cpV, ints_length, spans_length, pf_pure, pureF, *, Nat.ne_of_gt]

/-- The blocks of a copy whose tide is l. -/
def cpX (c : Ch) (l : List (Int × Int)) : AH := [.rw 1 [], .rw 1 (ints c.depth), .rw 2 [], .rw 2 (spans l), .rw 1 [], .rw 1 (ints c.swell)]
def cpd (H : AH) (c : Ch) : Value := .slice (some ⟨H.length + 1, 0, none⟩) c.depth.length (c.depth.length + 1)
def cpt (H : AH) (c : Ch) : Value := .slice (some ⟨H.length + 3, 0, none⟩) c.tide.length (c.tide.length + 1)
def cps (H : AH) (c : Ch) : Value := .slice (some ⟨H.length + 5, 0, none⟩) c.swell.length (c.swell.length + 1)

theorem run_CopyOk (c : Ch) (hok : ChOk c) (lim : Nat) (H : AH) (d t s : Value) (hc : ChIn H c d t s) (hl : c.depth.length ≤ 1000 ∧ c.tide.length ≤ 1000 ∧ c.swell.length ≤ 1000) :
    apL Tryd.prog pf (.func (.func 14) #[] #[]) [chV c d t s] lim H = some (chV c (cpd H c) (cpt H c) (cps H c), H ++ cpX c c.tide) := by
  rw [run_CopyE c lim H d t s hc hl]
  have n1 : ¬ c.depth.length = 0 := by have := hok.pos.1; unfold Ch.cells at this; omega
  have n2 : ¬ c.tide.length = 0 := by have := hok.2.2.2.1.1; omega
  have n3 : ¬ c.swell.length = 0 := by have := hok.2.2.2.2.1; omega
  have m1 : ¬ (ints c.depth).length = 0 := by rw [ints_length]; exact n1
  have m2 : ¬ (spans c.tide).length = 0 := by rw [spans_length]; omega
  have m3 : ¬ (ints c.swell).length = 0 := by rw [ints_length]; exact n3
  simp only [copyB, cpB, cpV, if_neg n1, if_neg n2, if_neg n3, if_neg m1, if_neg m2, if_neg m3]
  simp [chV, cpd, cpt, cps, cpX]

/-- The chart with another tide. -/
def Ch.with (c : Ch) (l : List (Int × Int)) : Ch := ⟨c.w, c.h, c.depth, l, c.swell⟩

theorem cp_in (c : Ch) (hl : c.depth.length ≤ 1000 ∧ c.tide.length ≤ 1000 ∧ c.swell.length ≤ 1000) (H : AH) (l : List (Int × Int)) (hn : l.length = c.tide.length) : ChIn (H ++ cpX c l) (c.with l) (cpd H c) (cpt H c) (cps H c) := by
  have g : ∀ k x, (cpX c l)[k]? = some x → (H ++ cpX c l)[H.length + k]? = some x := fun k x h => by
    rw [List.getElem?_append_right (by omega), Nat.add_sub_cancel_left]; exact h
  refine ⟨⟨_, _, rfl, fun j x hx => ⟨H.length + 1, 0, rfl, ?_⟩⟩, ⟨_, _, by unfold cpt; rw [← hn]; rfl, fun j x hx => ⟨H.length + 3, 0, rfl, ?_⟩⟩, ⟨_, _, rfl, fun j x hx => ⟨H.length + 5, 0, rfl, ?_⟩⟩, ?_, ?_, ?_⟩
  · simp only [hcell, g 1 _ rfl, Nat.zero_add]; exact hx
  · simp only [hcell, g 3 _ rfl, Nat.zero_add]; exact hx
  · simp only [hcell, g 5 _ rfl, Nat.zero_add]; exact hx
  · show c.depth.length < 2 ^ 62; omega
  · show l.length < 2 ^ 62; omega
  · show c.swell.length < 2 ^ 62; omega

/-- The first i of the narrow spans, and the rest of the others. -/
def mixT (a b : List (Int × Int)) (i : Nat) : List (Int × Int) := a.take i ++ b.drop i
theorem mixT_len {a b : List (Int × Int)} (h : a.length = b.length) (i : Nat) : (mixT a b i).length = b.length := by simp [mixT]; omega
theorem mixT_zero (a b : List (Int × Int)) : mixT a b 0 = b := by simp [mixT]
theorem mixT_all {a b : List (Int × Int)} (h : a.length = b.length) : mixT a b b.length = a := by simp [mixT, ← h]
theorem mixT_set {a b : List (Int × Int)} (h : a.length = b.length) {i : Nat} (hi : i < a.length) : over (spans (mixT a b i)) (i * 2) [.int .i64 a[i].1, .int .i64 a[i].2] = spans (mixT a b (i + 1)) := by
  have hb : i < b.length := by omega
  unfold mixT
  rw [List.drop_eq_getElem_cons hb, List.take_add_one, List.getElem?_eq_getElem hi]
  have e1 : (spans (a.take i)).length = i * 2 := by rw [spans_length]; simp; omega
  have sa : ∀ l m : List (Int × Int), spans (l ++ m) = spans l ++ spans m := fun l m => by simp [spans]
  rw [sa, sa, sa]
  simp only [over]
  rw [List.set_append_right _ _ (by omega), e1, Nat.sub_self]
  simp only [spans, List.flatMap_cons, List.cons_append, List.nil_append, List.set_cons_zero]
  rw [List.set_append_right _ _ (by simp only [spans] at e1; omega)]
  simp only [spans] at e1
  rw [e1, Nat.add_sub_cancel_left]
  simp
end Go.Proofs.YtojplagenejhdaaDoor
