/- What is so of distances: a step nearer; rings. -/
import Derived.Test.YthobfecblpnnnaaGreatDoorMathA
set_option linter.all false
namespace Go.Proofs.YthobfecblpnnnaaGreatDoor
open Go Go.RowKit

theorem nxt_of {w h a : Int} {k : Nat} (hw : 1 ≤ w) (hh : 1 ≤ h) (h1 : 0 ≤ nxR w a k) (h2 : nxR w a k ≤ h - 1) (h3 : 0 ≤ nxC w a k) (h4 : nxC w a k ≤ w - 1) : ∃ b, nxt w h a k = some b ∧ 0 ≤ b ∧ b < w * h ∧ b / w = nxR w a k ∧ b % w = nxC w a k := by
  have : nxIn w h a k = true := by simp only [nxIn, Bool.and_eq_true, decide_eq_true_eq]; omega
  have e : nxt w h a k = some (nxR w a k * w + nxC w a k) := by unfold nxt; rw [if_pos this]
  obtain ⟨x0, x1, x2, x3, _⟩ := nxt_some hw hh e
  exact ⟨_, e, x0, x1, x2, x3⟩

set_option maxHeartbeats 1000000 in
theorem step_near {w h n ra ea rb qb : Int} (hn : 0 ≤ n) (r0 : 0 ≤ ra) (r1 : ra < h) (r0' : 0 ≤ rb) (r1' : rb < h) (q0' : 0 ≤ qb) (q1' : qb < w) (e0 : 0 ≤ ea) (e1 : ea ≤ 2 * (w - 1) + 1) (e2 : ea % 2 = ra % 2)
    (e : max (2 * dst ra rb) (dst ra rb + dst ea (qb * 2 + rb % 2)) = 2 * (n + 1)) :
    ∃ k : Nat, k < 6 ∧ 0 ≤ rb + wayN k ∧ rb + wayN k ≤ h - 1 ∧ 0 ≤ qb + (if rb % 2 = 0 then wayE k else wayO k) ∧ qb + (if rb % 2 = 0 then wayE k else wayO k) ≤ w - 1 ∧
      max (2 * dst ra (rb + wayN k)) (dst ra (rb + wayN k) + dst ea ((qb + (if rb % 2 = 0 then wayE k else wayO k)) * 2 + (rb + wayN k) % 2)) = 2 * n := by
  have hp : (dst ra rb + dst ea (qb * 2 + rb % 2)) % 2 = 0 := by unfold dst; omega
  have D : ∀ x y : Int, (x ≤ y → dst x y = y - x) ∧ (y ≤ x → dst x y = x - y) := fun x y => by unfold dst; omega
  have X0 : 0 ≤ dst ra rb := by unfold dst; omega
  have Y0 : 0 ≤ dst ea (qb * 2 + rb % 2) := by unfold dst; omega
  have G1 : ∀ X' Y' : Int, X' = dst ra rb - 1 → Y' = dst ea (qb * 2 + rb % 2) - 1 → max (2 * X') (X' + Y') = 2 * n := fun X' Y' h1 h2 => by omega
  have G2 : ∀ X' Y' : Int, X' = dst ra rb - 1 → dst ea (qb * 2 + rb % 2) = 0 → 1 ≤ dst ra rb → Y' = 1 → max (2 * X') (X' + Y') = 2 * n := fun X' Y' h1 h2 h3 h4 => by omega
  have G3 : ∀ X' Y' : Int, X' = 0 → dst ra rb = 0 → Y' = dst ea (qb * 2 + rb % 2) - 2 → max (2 * X') (X' + Y') = 2 * n := fun X' Y' h1 h2 h3 => by omega
  have Y2 : ra = rb → ea ≠ qb * 2 + rb % 2 := fun h1 h2 => by
    have := (D ra rb).1 (by omega)
    have := (D ea (qb * 2 + rb % 2)).1 (by omega)
    omega
  by_cases par : rb % 2 = 0
  · rcases Int.lt_trichotomy ra rb with hr | hr | hr
    · by_cases hc : qb * 2 + rb % 2 > ea
      · skip
        have a1 := (D ra rb).1 (by omega)
        have a2 := (D ea (qb * 2 + rb % 2)).1 (by omega)
        have r1 := (D ra (rb + -1)).1 (by omega)
        have r2 := (D ea ((qb + -1) * 2 + (rb + -1) % 2)).1 (by omega)
        refine ⟨4, by decide, ?_⟩
        simp only [par, if_true, show wayN 4 = -1 from rfl, show wayE 4 = -1 from rfl]
        exact ⟨by clear G1 G2 G3 Y2 D; omega, by clear G1 G2 G3 Y2 D; omega, by clear G1 G2 G3 Y2 D; omega, by clear G1 G2 G3 Y2 D; omega, G1 _ _ (by omega) (by omega)⟩
      · by_cases hz : qb * 2 + rb % 2 = ea
        · skip
          have a1 := (D ra rb).1 (by omega)
          have a2 := (D ea (qb * 2 + rb % 2)).1 (by omega)
          have r1 := (D ra (rb + -1)).1 (by omega)
          have r2 := (D ea ((qb + 0) * 2 + (rb + -1) % 2)).1 (by omega)
          refine ⟨5, by decide, ?_⟩
          simp only [par, if_true, show wayN 5 = -1 from rfl, show wayE 5 = 0 from rfl]
          exact ⟨by clear G1 G2 G3 Y2 D; omega, by clear G1 G2 G3 Y2 D; omega, by clear G1 G2 G3 Y2 D; omega, by clear G1 G2 G3 Y2 D; omega, G2 _ _ (by omega) (by omega) (by omega) (by omega)⟩
        · skip
          have a1 := (D ra rb).1 (by omega)
          have a2 := (D ea (qb * 2 + rb % 2)).2 (by omega)
          have r1 := (D ra (rb + -1)).1 (by omega)
          have r2 := (D ea ((qb + 0) * 2 + (rb + -1) % 2)).2 (by omega)
          refine ⟨5, by decide, ?_⟩
          simp only [par, if_true, show wayN 5 = -1 from rfl, show wayE 5 = 0 from rfl]
          exact ⟨by clear G1 G2 G3 Y2 D; omega, by clear G1 G2 G3 Y2 D; omega, by clear G1 G2 G3 Y2 D; omega, by clear G1 G2 G3 Y2 D; omega, G1 _ _ (by omega) (by omega)⟩
    · have hne := Y2 hr
      by_cases hc : qb * 2 + rb % 2 > ea
      · skip
        have a1 := (D ra rb).1 (by omega)
        have a2 := (D ea (qb * 2 + rb % 2)).1 (by omega)
        have r1 := (D ra (rb + 0)).1 (by omega)
        have r2 := (D ea ((qb + -1) * 2 + (rb + 0) % 2)).1 (by omega)
        refine ⟨3, by decide, ?_⟩
        simp only [par, if_true, show wayN 3 = 0 from rfl, show wayE 3 = -1 from rfl]
        exact ⟨by clear G1 G2 G3 Y2 D; omega, by clear G1 G2 G3 Y2 D; omega, by clear G1 G2 G3 Y2 D; omega, by clear G1 G2 G3 Y2 D; omega, G3 _ _ (by omega) (by omega) (by omega)⟩
      · skip
        have a1 := (D ra rb).1 (by omega)
        have a2 := (D ea (qb * 2 + rb % 2)).2 (by omega)
        have r1 := (D ra (rb + 0)).1 (by omega)
        have r2 := (D ea ((qb + 1) * 2 + (rb + 0) % 2)).2 (by omega)
        refine ⟨0, by decide, ?_⟩
        simp only [par, if_true, show wayN 0 = 0 from rfl, show wayE 0 = 1 from rfl]
        exact ⟨by clear G1 G2 G3 Y2 D; omega, by clear G1 G2 G3 Y2 D; omega, by clear G1 G2 G3 Y2 D; omega, by clear G1 G2 G3 Y2 D; omega, G3 _ _ (by omega) (by omega) (by omega)⟩
    · by_cases hc : qb * 2 + rb % 2 > ea
      · skip
        have a1 := (D ra rb).2 (by omega)
        have a2 := (D ea (qb * 2 + rb % 2)).1 (by omega)
        have r1 := (D ra (rb + 1)).2 (by omega)
        have r2 := (D ea ((qb + -1) * 2 + (rb + 1) % 2)).1 (by omega)
        refine ⟨2, by decide, ?_⟩
        simp only [par, if_true, show wayN 2 = 1 from rfl, show wayE 2 = -1 from rfl]
        exact ⟨by clear G1 G2 G3 Y2 D; omega, by clear G1 G2 G3 Y2 D; omega, by clear G1 G2 G3 Y2 D; omega, by clear G1 G2 G3 Y2 D; omega, G1 _ _ (by omega) (by omega)⟩
      · by_cases hz : qb * 2 + rb % 2 = ea
        · skip
          have a1 := (D ra rb).2 (by omega)
          have a2 := (D ea (qb * 2 + rb % 2)).1 (by omega)
          have r1 := (D ra (rb + 1)).2 (by omega)
          have r2 := (D ea ((qb + 0) * 2 + (rb + 1) % 2)).1 (by omega)
          refine ⟨1, by decide, ?_⟩
          simp only [par, if_true, show wayN 1 = 1 from rfl, show wayE 1 = 0 from rfl]
          exact ⟨by clear G1 G2 G3 Y2 D; omega, by clear G1 G2 G3 Y2 D; omega, by clear G1 G2 G3 Y2 D; omega, by clear G1 G2 G3 Y2 D; omega, G2 _ _ (by omega) (by omega) (by omega) (by omega)⟩
        · skip
          have a1 := (D ra rb).2 (by omega)
          have a2 := (D ea (qb * 2 + rb % 2)).2 (by omega)
          have r1 := (D ra (rb + 1)).2 (by omega)
          have r2 := (D ea ((qb + 0) * 2 + (rb + 1) % 2)).2 (by omega)
          refine ⟨1, by decide, ?_⟩
          simp only [par, if_true, show wayN 1 = 1 from rfl, show wayE 1 = 0 from rfl]
          exact ⟨by clear G1 G2 G3 Y2 D; omega, by clear G1 G2 G3 Y2 D; omega, by clear G1 G2 G3 Y2 D; omega, by clear G1 G2 G3 Y2 D; omega, G1 _ _ (by omega) (by omega)⟩
  · rcases Int.lt_trichotomy ra rb with hr | hr | hr
    · by_cases hc : qb * 2 + rb % 2 > ea
      · skip
        have a1 := (D ra rb).1 (by omega)
        have a2 := (D ea (qb * 2 + rb % 2)).1 (by omega)
        have r1 := (D ra (rb + -1)).1 (by omega)
        have r2 := (D ea ((qb + 0) * 2 + (rb + -1) % 2)).1 (by omega)
        refine ⟨4, by decide, ?_⟩
        simp only [par, if_false, show wayN 4 = -1 from rfl, show wayO 4 = 0 from rfl]
        exact ⟨by clear G1 G2 G3 Y2 D; omega, by clear G1 G2 G3 Y2 D; omega, by clear G1 G2 G3 Y2 D; omega, by clear G1 G2 G3 Y2 D; omega, G1 _ _ (by omega) (by omega)⟩
      · by_cases hz : qb * 2 + rb % 2 = ea
        · skip
          have a1 := (D ra rb).1 (by omega)
          have a2 := (D ea (qb * 2 + rb % 2)).1 (by omega)
          have r1 := (D ra (rb + -1)).1 (by omega)
          have r2 := (D ea ((qb + 0) * 2 + (rb + -1) % 2)).2 (by omega)
          refine ⟨4, by decide, ?_⟩
          simp only [par, if_false, show wayN 4 = -1 from rfl, show wayO 4 = 0 from rfl]
          exact ⟨by clear G1 G2 G3 Y2 D; omega, by clear G1 G2 G3 Y2 D; omega, by clear G1 G2 G3 Y2 D; omega, by clear G1 G2 G3 Y2 D; omega, G2 _ _ (by omega) (by omega) (by omega) (by omega)⟩
        · skip
          have a1 := (D ra rb).1 (by omega)
          have a2 := (D ea (qb * 2 + rb % 2)).2 (by omega)
          have r1 := (D ra (rb + -1)).1 (by omega)
          have r2 := (D ea ((qb + 1) * 2 + (rb + -1) % 2)).2 (by omega)
          refine ⟨5, by decide, ?_⟩
          simp only [par, if_false, show wayN 5 = -1 from rfl, show wayO 5 = 1 from rfl]
          exact ⟨by clear G1 G2 G3 Y2 D; omega, by clear G1 G2 G3 Y2 D; omega, by clear G1 G2 G3 Y2 D; omega, by clear G1 G2 G3 Y2 D; omega, G1 _ _ (by omega) (by omega)⟩
    · have hne := Y2 hr
      by_cases hc : qb * 2 + rb % 2 > ea
      · skip
        have a1 := (D ra rb).1 (by omega)
        have a2 := (D ea (qb * 2 + rb % 2)).1 (by omega)
        have r1 := (D ra (rb + 0)).1 (by omega)
        have r2 := (D ea ((qb + -1) * 2 + (rb + 0) % 2)).1 (by omega)
        refine ⟨3, by decide, ?_⟩
        simp only [par, if_false, show wayN 3 = 0 from rfl, show wayO 3 = -1 from rfl]
        exact ⟨by clear G1 G2 G3 Y2 D; omega, by clear G1 G2 G3 Y2 D; omega, by clear G1 G2 G3 Y2 D; omega, by clear G1 G2 G3 Y2 D; omega, G3 _ _ (by omega) (by omega) (by omega)⟩
      · skip
        have a1 := (D ra rb).1 (by omega)
        have a2 := (D ea (qb * 2 + rb % 2)).2 (by omega)
        have r1 := (D ra (rb + 0)).1 (by omega)
        have r2 := (D ea ((qb + 1) * 2 + (rb + 0) % 2)).2 (by omega)
        refine ⟨0, by decide, ?_⟩
        simp only [par, if_false, show wayN 0 = 0 from rfl, show wayO 0 = 1 from rfl]
        exact ⟨by clear G1 G2 G3 Y2 D; omega, by clear G1 G2 G3 Y2 D; omega, by clear G1 G2 G3 Y2 D; omega, by clear G1 G2 G3 Y2 D; omega, G3 _ _ (by omega) (by omega) (by omega)⟩
    · by_cases hc : qb * 2 + rb % 2 > ea
      · skip
        have a1 := (D ra rb).2 (by omega)
        have a2 := (D ea (qb * 2 + rb % 2)).1 (by omega)
        have r1 := (D ra (rb + 1)).2 (by omega)
        have r2 := (D ea ((qb + 0) * 2 + (rb + 1) % 2)).1 (by omega)
        refine ⟨2, by decide, ?_⟩
        simp only [par, if_false, show wayN 2 = 1 from rfl, show wayO 2 = 0 from rfl]
        exact ⟨by clear G1 G2 G3 Y2 D; omega, by clear G1 G2 G3 Y2 D; omega, by clear G1 G2 G3 Y2 D; omega, by clear G1 G2 G3 Y2 D; omega, G1 _ _ (by omega) (by omega)⟩
      · by_cases hz : qb * 2 + rb % 2 = ea
        · skip
          have a1 := (D ra rb).2 (by omega)
          have a2 := (D ea (qb * 2 + rb % 2)).1 (by omega)
          have r1 := (D ra (rb + 1)).2 (by omega)
          have r2 := (D ea ((qb + 0) * 2 + (rb + 1) % 2)).2 (by omega)
          refine ⟨2, by decide, ?_⟩
          simp only [par, if_false, show wayN 2 = 1 from rfl, show wayO 2 = 0 from rfl]
          exact ⟨by clear G1 G2 G3 Y2 D; omega, by clear G1 G2 G3 Y2 D; omega, by clear G1 G2 G3 Y2 D; omega, by clear G1 G2 G3 Y2 D; omega, G2 _ _ (by omega) (by omega) (by omega) (by omega)⟩
        · skip
          have a1 := (D ra rb).2 (by omega)
          have a2 := (D ea (qb * 2 + rb % 2)).2 (by omega)
          have r1 := (D ra (rb + 1)).2 (by omega)
          have r2 := (D ea ((qb + 1) * 2 + (rb + 1) % 2)).2 (by omega)
          refine ⟨1, by decide, ?_⟩
          simp only [par, if_false, show wayN 1 = 1 from rfl, show wayO 1 = 1 from rfl]
          exact ⟨by clear G1 G2 G3 Y2 D; omega, by clear G1 G2 G3 Y2 D; omega, by clear G1 G2 G3 Y2 D; omega, by clear G1 G2 G3 Y2 D; omega, G1 _ _ (by omega) (by omega)⟩

/-- From each other cell a step leads nearer, within the chart. -/
theorem apt_pred {w h a b : Int} (hw : 1 ≤ w) (hh : 1 ≤ h) (a0 : 0 ≤ a) (a1 : a < w * h) (b0 : 0 ≤ b) (b1 : b < w * h) (n : Int) (hn : 0 ≤ n) (e : apt w a b = n + 1) :
    ∃ (k : Nat) (b' : Int), k < 6 ∧ nxt w h b k = some b' ∧ 0 ≤ b' ∧ b' < w * h ∧ apt w a b' = n := by
  obtain ⟨⟨r0, r1⟩, ⟨q0, q1⟩, ea⟩ := rowcol (h := h) hw a0 a1
  obtain ⟨⟨r0', r1'⟩, ⟨q0', q1'⟩, eb⟩ := rowcol (h := h) hw b0 b1
  have key : ∀ x y : Int, 0 ≤ x → 0 ≤ y → (x + y) % 2 = 0 → 2 * (x + max 0 (y - x) / 2) = max (2 * x) (x + y) := fun x y _ _ _ => by omega
  have A : ∀ r2 q2 : Int, 2 * (dst (a / w) r2 + max 0 (dst (estN w a) (q2 * 2 + r2 % 2) - dst (a / w) r2) / 2) = max (2 * dst (a / w) r2) (dst (a / w) r2 + dst (estN w a) (q2 * 2 + r2 % 2)) := fun r2 q2 =>
    key _ _ (by unfold dst; omega) (by unfold dst; omega) (by unfold dst estN; omega)
  have e2 : max (2 * dst (a / w) (b / w)) (dst (a / w) (b / w) + dst (estN w a) (b % w * 2 + b / w % 2)) = 2 * (n + 1) := by
    have h1 := A (b / w) (b % w)
    have h2 : apt w a b = dst (a / w) (b / w) + max 0 (dst (estN w a) (b % w * 2 + b / w % 2) - dst (a / w) (b / w)) / 2 := rfl
    omega
  obtain ⟨k, hk, x1, x2, x3, x4, x5⟩ := step_near hn r0 r1 r0' r1' q0' q1' (by unfold estN; omega) (by unfold estN; omega) (by unfold estN; omega) e2
  have x1' : 0 ≤ nxR w b k := x1
  obtain ⟨b', y0, y1, y2, y3, y4⟩ := nxt_of (a := b) hw hh x1' x2 x3 x4
  refine ⟨k, b', hk, y0, y1, y2, ?_⟩
  have h1 := A (nxR w b k) (nxC w b k)
  have h2 : apt w a b' = dst (a / w) (b' / w) + max 0 (dst (estN w a) (b' % w * 2 + b' / w % 2) - dst (a / w) (b' / w)) / 2 := rfl
  have x5' : max (2 * dst (a / w) (nxR w b k)) (dst (a / w) (nxR w b k) + dst (estN w a) (nxC w b k * 2 + nxR w b k % 2)) = 2 * n := x5
  rw [y3, y4] at h2
  omega

theorem apt_lt {w h a b : Int} (hw : 1 ≤ w) (hh : 1 ≤ h) (a0 : 0 ≤ a) (a1 : a < w * h) (b0 : 0 ≤ b) (b1 : b < w * h) : apt w a b < w * h := by
  obtain ⟨⟨r0, r1⟩, ⟨q0, q1⟩, ea⟩ := rowcol (h := h) hw a0 a1
  obtain ⟨⟨r0', r1'⟩, ⟨q0', q1'⟩, eb⟩ := rowcol (h := h) hw b0 b1
  have h1 : apt w a b ≤ (h - 1) + (w - 1) := by unfold apt dst estN; omega
  have h2 : 0 ≤ (h - 1) * (w - 1) := Int.mul_nonneg (by omega) (by omega)
  have h3 : (h - 1) * (w - 1) = w * h - h - w + 1 := by rw [Int.sub_mul, Int.mul_sub, Int.one_mul, Int.mul_one, Int.mul_comm h w]; omega
  omega

theorem apt_nonneg (w a b : Int) : 0 ≤ apt w a b := by unfold apt dst; omega

/-! ### Rings -/

/-- The numbers of steps as far as they are known: right up to n; n + 1 where it has been seen; nothing further. -/
structure Ring (w h : Int) (a : Nat) (n : Int) (N : Nat) (seen : Nat → Prop) (l : List Int) : Prop where
  len : l.length = N
  near : ∀ i, i < N → apt w a i ≤ n → l.getD i 0 = apt w a i
  far : ∀ i, i < N → n + 1 < apt w a i → l.getD i 0 = N
  next : ∀ i, i < N → apt w a i = n + 1 → (l.getD i 0 = n + 1 ∨ l.getD i 0 = N) ∧ (seen i → l.getD i 0 = n + 1)

theorem getD_set (l : List Int) (j i : Nat) (x : Int) (hj : j < l.length) : (l.set j x).getD i 0 = if i = j then x else l.getD i 0 := by
  simp only [List.getD_eq_getElem?_getD, List.getElem?_set]
  by_cases h : j = i
  · subst h; simp [hj]
  · have h' : ¬ i = j := fun e => h e.symm
    simp [h, h']

theorem Ring.set {w h : Int} {a : Nat} {n : Int} {N : Nat} {seen : Nat → Prop} {l : List Int} (H : Ring w h a n N seen l) (hn : n + 1 ≤ N) {j : Nat} (hj : j < N) (hd : apt w a j ≤ n + 1) : Ring w h a n N (fun i => seen i ∨ i = j) (l.set j (min (l.getD j 0) (n + 1))) := by
  have hjl : j < l.length := by rw [H.len]; exact hj
  refine ⟨by rw [List.length_set, H.len], fun i hi h1 => ?_, fun i hi h1 => ?_, fun i hi h1 => ?_⟩
  · rw [getD_set _ _ _ _ hjl]
    split
    · rename_i e; subst e; have := H.near i hi h1; omega
    · exact H.near i hi h1
  · rw [getD_set _ _ _ _ hjl]
    split
    · rename_i e; subst e; omega
    · exact H.far i hi h1
  · rw [getD_set _ _ _ _ hjl]
    split
    · rename_i e; subst e
      have := (H.next i hi h1).1
      refine ⟨.inl (by omega), fun _ => by omega⟩
    · rename_i e
      refine ⟨(H.next i hi h1).1, fun hs => (H.next i hi h1).2 ?_⟩
      rcases hs with hs | hs
      · exact hs
      · exact absurd hs e

/-- A step in a direction. -/
def relD (w h n : Int) (i : Nat) (l : List Int) (k : Nat) : List Int := match nxt w h i k with
  | some j => l.set j.toNat (min (l.getD j.toNat 0) (n + 1))
  | none => l
def relI (w h n : Int) (l : List Int) (i : Nat) : List Int := if l.getD i 0 = n then (List.range 6).foldl (relD w h n i) l else l
def relN (w h : Int) (N : Nat) (l : List Int) (n : Nat) : List Int := (List.range N).foldl (relI w h n) l

theorem Ring.weaken {w h : Int} {a : Nat} {n : Int} {N : Nat} {s1 s2 : Nat → Prop} {l : List Int} (H : Ring w h a n N s1 l) (hs : ∀ i, i < N → apt w a i = n + 1 → s2 i → s1 i) : Ring w h a n N s2 l :=
  ⟨H.len, H.near, H.far, fun i hi h1 => ⟨(H.next i hi h1).1, fun h => (H.next i hi h1).2 (hs i hi h1 h)⟩⟩

theorem Ring.dirs {w h : Int} {a : Nat} {n : Int} {N : Nat} {seen : Nat → Prop} (hw : 1 ≤ w) (hh : 1 ≤ h) (hN : w * h = N) (hn : n + 1 ≤ N) {m : Nat} (hm : m < N) (hd : apt w a m = n) : ∀ (k : Nat) (l : List Int), k ≤ 6 → Ring w h a n N seen l →
    Ring w h a n N (fun i => seen i ∨ ∃ k', k' < k ∧ nxt w h m k' = some (i : Int)) ((List.range k).foldl (relD w h n m) l)
  | 0, l, _, H => H.weaken fun i _ _ hs => by
      rcases hs with hs | ⟨k', h, _⟩
      · exact hs
      · omega
  | k + 1, l, hk, H => by
    have ih := Ring.dirs hw hh hN hn hm hd k l (by omega) H
    rw [List.range_succ, List.foldl_append, List.foldl_cons, List.foldl_nil]
    generalize (List.range k).foldl (relD w h n m) l = l1 at *
    unfold relD
    split
    · rename_i j hj
      obtain ⟨j0, j1, _⟩ := nxt_some hw hh hj
      have hone : apt w m j = 1 := (apt_one hw hh (Int.natCast_nonneg m) (by rw [hN]; exact Int.ofNat_lt.2 hm) j0 j1).2 (by
        unfold nearB
        rw [List.any_eq_true]
        exact ⟨k, by simp; omega, by simp [hj]⟩)
      have htri := apt_tri w a j m
      have hjn : (j.toNat : Int) = j := by omega
      refine (ih.set hn (j := j.toNat) (by omega) (by rw [hjn]; omega)).weaken fun i _ _ hs => ?_
      rcases hs with hs | ⟨k', hk', e⟩
      · exact .inl (.inl hs)
      · by_cases ek : k' = k
        · subst ek; rw [hj] at e; right; have := Option.some.inj e; omega
        · exact .inl (.inr ⟨k', by omega, e⟩)
    · rename_i hj
      refine ih.weaken fun i _ _ hs => ?_
      rcases hs with hs | ⟨k', hk', e⟩
      · exact .inl hs
      · by_cases ek : k' = k
        · subst ek; rw [hj] at e; cases e
        · exact .inr ⟨k', by omega, e⟩

theorem Ring.cells {w h : Int} {a : Nat} {n : Nat} {N : Nat} (hw : 1 ≤ w) (hh : 1 ≤ h) (hN : w * h = N) (hn : n < N) : ∀ (m : Nat) (l : List Int), m ≤ N → Ring w h a n N (fun _ => False) l →
    Ring w h a n N (fun i => ∃ m' k, m' < m ∧ k < 6 ∧ apt w a m' = n ∧ nxt w h m' k = some (i : Int)) ((List.range m).foldl (relI w h n) l)
  | 0, l, _, H => H.weaken fun i _ _ ⟨m', k, h, _⟩ => by omega
  | m + 1, l, hm, H => by
    have ih := Ring.cells hw hh hN hn m l (by omega) H
    rw [List.range_succ, List.foldl_append, List.foldl_cons, List.foldl_nil]
    generalize (List.range m).foldl (relI w h n) l = l1 at *
    have hmN : m < N := by omega
    by_cases hd : apt w a m = n
    · have e : l1.getD m 0 = n := by rw [ih.near m hmN (by omega), hd]
      unfold relI
      rw [if_pos e]
      refine (ih.dirs hw hh hN (by omega) hmN hd 6 l1 (by omega)).weaken fun i _ _ hs => ?_
      obtain ⟨m', k, h1, h2, h3, h4⟩ := hs
      by_cases em : m' = m
      · subst em; exact .inr ⟨k, h2, h4⟩
      · exact .inl ⟨m', k, by omega, h2, h3, h4⟩
    · have e : ¬ l1.getD m 0 = n := by
        intro e
        by_cases h1 : apt w a m ≤ n
        · have := ih.near m hmN h1; omega
        · by_cases h2 : apt w a m = n + 1
          · have := (ih.next m hmN h2).1; omega
          · have := ih.far m hmN (by omega); omega
      unfold relI
      rw [if_neg e]
      refine ih.weaken fun i _ _ hs => ?_
      obtain ⟨m', k, h1, h2, h3, h4⟩ := hs
      refine ⟨m', k, ?_, h2, h3, h4⟩
      by_cases em : m' = m
      · subst em; exact absurd h3 hd
      · omega

/-- After a round, one step more is known. -/
theorem Ring.round {w h : Int} {a : Nat} {n : Nat} {N : Nat} (hw : 1 ≤ w) (hh : 1 ≤ h) (hN : w * h = N) (ha : a < N) (hn : n < N) {l : List Int} (H : Ring w h a n N (fun _ => False) l) : Ring w h a ((n + 1 : Nat) : Int) N (fun _ => False) (relN w h N l n) := by
  have H1 := Ring.cells hw hh hN hn N l (Nat.le_refl _) H
  have H2 : Ring w h a n N (fun _ => True) (relN w h N l n) := H1.weaken fun i hi h1 _ => by
    have la : (a : Int) < w * h := by rw [hN]; exact Int.ofNat_lt.2 ha
    have li : (i : Int) < w * h := by rw [hN]; exact Int.ofNat_lt.2 hi
    obtain ⟨k, b', hk, e, b0, b1, hd⟩ := apt_pred hw hh (Int.natCast_nonneg a) la (Int.natCast_nonneg i) li n (by omega) h1
    have hb := nxt_back hw hh (Int.natCast_nonneg i) li hk e
    have eb : (b'.toNat : Int) = b' := by omega
    exact ⟨b'.toNat, (k + 3) % 6, by omega, Nat.mod_lt _ (by omega), by rw [eb]; exact hd, by rw [eb]; exact hb⟩
  refine ⟨H2.len, fun i hi h1 => ?_, fun i hi h1 => ?_, fun i hi h1 => ⟨.inr ?_, fun h => h.elim⟩⟩
  · by_cases h2 : apt w a i ≤ n
    · exact H2.near i hi h2
    · have h3 : apt w a i = n + 1 := by omega
      rw [(H2.next i hi h3).2 trivial, h3]
  · exact H2.far i hi (by omega)
  · exact H2.far i hi (by omega)

theorem Ring.first {w h : Int} {a : Nat} {N : Nat} (hw : 1 ≤ w) (hN : w * h = N) (ha : a < N) : Ring w h a ((0 : Nat) : Int) N (fun _ => False) ((List.replicate N (N : Int)).set a 0) := by
  have hz : ∀ i : Nat, i < N → (apt w a i = 0 ↔ a = i) := fun i hi => by
    rw [apt_zero (h := h) hw (Int.natCast_nonneg a) (by rw [hN]; exact Int.ofNat_lt.2 ha) (Int.natCast_nonneg i) (by rw [hN]; exact Int.ofNat_lt.2 hi)]
    omega
  have hg : ∀ i, i < N → ((List.replicate N (N : Int)).set a 0).getD i 0 = if i = a then 0 else (N : Int) := fun i hi => by
    rw [getD_set _ _ _ _ (by simpa using ha)]
    split
    · rfl
    · simp [List.getD_eq_getElem?_getD, hi]
  refine ⟨by simp, fun i hi h1 => ?_, fun i hi h1 => ?_, fun i hi h1 => ⟨.inr ?_, fun h => h.elim⟩⟩
  · have h0 := apt_nonneg w a i
    have : apt w a i = 0 := by simp at h1; omega
    rw [hg i hi, this, if_pos ((hz i hi).1 this).symm]
  · rw [hg i hi, if_neg]
    intro e
    have := (hz i hi).2 e.symm
    omega
  · rw [hg i hi, if_neg]
    intro e
    have := (hz i hi).2 e.symm
    omega

/-- What is found in the end. -/
theorem ring_end {w h : Int} {a b : Nat} {N : Nat} (hw : 1 ≤ w) (hh : 1 ≤ h) (hN : w * h = N) (ha : a < N) (hb : b < N) :
    ((List.range N).foldl (relN w h N) ((List.replicate N (N : Int)).set a 0)).getD b 0 = apt w a b := by
  have key : ∀ n, n ≤ N → Ring w h a ((n : Nat) : Int) N (fun _ => False) ((List.range n).foldl (relN w h N) ((List.replicate N (N : Int)).set a 0)) := by
    intro n
    induction n with
    | zero => intro _; exact Ring.first hw hN ha
    | succ n ih =>
      intro hn
      rw [List.range_succ, List.foldl_append, List.foldl_cons, List.foldl_nil]
      exact (ih (by omega)).round hw hh hN ha (by omega)
  have hlt := apt_lt hw hh (Int.natCast_nonneg a) (by rw [hN]; exact Int.ofNat_lt.2 ha) (Int.natCast_nonneg b) (by rw [hN]; exact Int.ofNat_lt.2 hb)
  exact (key N (Nat.le_refl _)).near b hb (by omega)
end Go.Proofs.YthobfecblpnnnaaGreatDoor
