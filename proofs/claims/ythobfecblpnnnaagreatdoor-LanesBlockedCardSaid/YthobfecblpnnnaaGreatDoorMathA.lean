/- What is so of neighbours and of distances. -/
import Derived.Test.YthobfecblpnnnaaGreatDoorFunM
set_option linter.all false
namespace Go.Proofs.YthobfecblpnnnaaGreatDoor
open Go Go.RowKit

theorem nxt_iff {w h a b : Int} {k : Nat} (hw : 1 ≤ w) (hh : 1 ≤ h) (b0 : 0 ≤ b) (b1 : b < w * h) : nxt w h a k = some b ↔ b / w = nxR w a k ∧ b % w = nxC w a k := by
  constructor
  · intro e; obtain ⟨_, _, h1, h2, _⟩ := nxt_some hw hh e; exact ⟨h1, h2⟩
  · rintro ⟨h1, h2⟩
    obtain ⟨⟨r0, r1⟩, ⟨q0, q1⟩, e⟩ := rowcol (h := h) hw b0 b1
    have : nxIn w h a k = true := by
      simp only [nxIn, Bool.and_eq_true, decide_eq_true_eq]
      omega
    unfold nxt
    rw [if_pos this, ← h1, ← h2, ← e]

theorem nxt_back {w h a n : Int} (hw : 1 ≤ w) (hh : 1 ≤ h) (a0 : 0 ≤ a) (a1 : a < w * h) : ∀ {k : Nat}, k < 6 → nxt w h a k = some n → nxt w h n ((k + 3) % 6) = some a := by
  intro k hk e
  obtain ⟨n0, n1, e1, e2, _⟩ := nxt_some hw hh e
  refine (nxt_iff hw hh a0 a1).2 ?_
  unfold nxR nxC at *
  rw [e1, e2]
  generalize a / w = r at *
  generalize a % w = q at *
  match k, hk with
  | 0, _ | 1, _ | 2, _ | 3, _ | 4, _ | 5, _ =>
    simp [wayN, wayE, wayO, wayT] at *
    try split
    all_goals (try split)
    all_goals omega
  | n + 6, h => omega

theorem apt_symm (w a b : Int) : apt w a b = apt w b a := by
  unfold apt
  have h : ∀ x y, dst x y = dst y x := fun x y => by unfold dst; exact Int.max_comm _ _
  rw [h (a / w), h (estN w a)]

theorem apt_zero {w h a b : Int} (hw : 1 ≤ w) (a0 : 0 ≤ a) (a1 : a < w * h) (b0 : 0 ≤ b) (b1 : b < w * h) : apt w a b = 0 ↔ a = b := by
  obtain ⟨_, _, ea⟩ := rowcol (h := h) hw a0 a1
  obtain ⟨_, _, eb⟩ := rowcol (h := h) hw b0 b1
  constructor
  · intro e
    have : a / w = b / w ∧ a % w = b % w := by
      unfold apt dst estN at e
      omega
    rw [ea, eb, this.1, this.2]
  · rintro rfl; unfold apt dst; omega

theorem apt_tri (w a b c : Int) : apt w a b ≤ apt w a c + apt w c b := by
  unfold apt estN
  generalize a / w = r1
  generalize b / w = r2
  generalize c / w = r3
  generalize a % w = q1
  generalize b % w = q2
  generalize c % w = q3
  have key : ∀ x y : Int, 0 ≤ x → 0 ≤ y → (x + y) % 2 = 0 → 2 * (x + max 0 (y - x) / 2) = max (2 * x) (x + y) := fun x y _ _ _ => by omega
  have p1 := key (dst r1 r2) (dst (q1 * 2 + r1 % 2) (q2 * 2 + r2 % 2)) (by unfold dst; omega) (by unfold dst; omega) (by unfold dst; omega)
  have p2 := key (dst r1 r3) (dst (q1 * 2 + r1 % 2) (q3 * 2 + r3 % 2)) (by unfold dst; omega) (by unfold dst; omega) (by unfold dst; omega)
  have p3 := key (dst r3 r2) (dst (q3 * 2 + r3 % 2) (q2 * 2 + r2 % 2)) (by unfold dst; omega) (by unfold dst; omega) (by unfold dst; omega)
  have t1 : dst r1 r2 ≤ dst r1 r3 + dst r3 r2 := by unfold dst; omega
  have t2 : dst (q1 * 2 + r1 % 2) (q2 * 2 + r2 % 2) ≤ dst (q1 * 2 + r1 % 2) (q3 * 2 + r3 % 2) + dst (q3 * 2 + r3 % 2) (q2 * 2 + r2 % 2) := by unfold dst; omega
  omega

/-- Whether a cell is next to another one. -/
def nearB (w h a b : Int) (n : Nat) : Bool := (List.range n).any fun k => nxt w h a k == some b

theorem nearB_succ (w h a b : Int) (n : Nat) : nearB w h a b (n + 1) = (nearB w h a b n || nxt w h a n == some b) := by
  unfold nearB
  rw [List.range_succ, List.any_append]
  simp

set_option maxHeartbeats 1000000 in
theorem apt_one {w h a b : Int} (hw : 1 ≤ w) (hh : 1 ≤ h) (a0 : 0 ≤ a) (a1 : a < w * h) (b0 : 0 ≤ b) (b1 : b < w * h) : apt w a b = 1 ↔ nearB w h a b 6 = true := by
  have hn : nearB w h a b 6 = true ↔ ∃ k : Nat, k < 6 ∧ b / w = nxR w a k ∧ b % w = nxC w a k := by
    unfold nearB
    rw [List.any_eq_true]
    constructor
    · rintro ⟨k, hk, e⟩; exact ⟨k, by simpa using hk, (nxt_iff hw hh b0 b1).1 (by simpa using e)⟩
    · rintro ⟨k, hk, e⟩; exact ⟨k, by simpa using hk, by simpa using (nxt_iff hw hh b0 b1).2 e⟩
  rw [hn]
  unfold nxR nxC apt estN
  generalize a / w = r1
  generalize b / w = r2
  generalize a % w = q1
  generalize b % w = q2
  have key : ∀ x y : Int, 0 ≤ x → 0 ≤ y → (x + y) % 2 = 0 → (x + max 0 (y - x) / 2 = 1 ↔ (x = 1 ∧ y = 1) ∨ (x = 0 ∧ y = 2)) := fun x y _ _ _ => by omega
  rw [key (dst r1 r2) (dst (q1 * 2 + r1 % 2) (q2 * 2 + r2 % 2)) (by unfold dst; omega) (by unfold dst; omega) (by unfold dst; omega)]
  have ab : ∀ x y n : Int, 0 ≤ n → (dst x y = n ↔ y = x + n ∨ y = x - n) := fun x y n _ => by unfold dst; omega
  rw [ab _ _ 1 (by omega), ab _ _ 1 (by omega), ab _ _ 0 (by omega), ab _ _ 2 (by omega)]
  constructor
  · intro e
    by_cases par : r1 % 2 = 0
    · simp only [par, if_true]
      have : (r2 = r1 ∧ q2 = q1 + 1) ∨ (r2 = r1 + 1 ∧ q2 = q1) ∨ (r2 = r1 + 1 ∧ q2 = q1 - 1) ∨ (r2 = r1 ∧ q2 = q1 - 1) ∨ (r2 = r1 - 1 ∧ q2 = q1 - 1) ∨ (r2 = r1 - 1 ∧ q2 = q1) := by omega
      rcases this with h | h | h | h | h | h
      · exact ⟨0, by omega, by simp [wayN, wayE, wayT]; omega⟩
      · exact ⟨1, by omega, by simp [wayN, wayE, wayT]; omega⟩
      · exact ⟨2, by omega, by simp [wayN, wayE, wayT]; omega⟩
      · exact ⟨3, by omega, by simp [wayN, wayE, wayT]; omega⟩
      · exact ⟨4, by omega, by simp [wayN, wayE, wayT]; omega⟩
      · exact ⟨5, by omega, by simp [wayN, wayE, wayT]; omega⟩
    · simp only [par, if_false]
      have : (r2 = r1 ∧ q2 = q1 + 1) ∨ (r2 = r1 + 1 ∧ q2 = q1 + 1) ∨ (r2 = r1 + 1 ∧ q2 = q1) ∨ (r2 = r1 ∧ q2 = q1 - 1) ∨ (r2 = r1 - 1 ∧ q2 = q1) ∨ (r2 = r1 - 1 ∧ q2 = q1 + 1) := by omega
      rcases this with h | h | h | h | h | h
      · exact ⟨0, by omega, by simp [wayN, wayO, wayT]; omega⟩
      · exact ⟨1, by omega, by simp [wayN, wayO, wayT]; omega⟩
      · exact ⟨2, by omega, by simp [wayN, wayO, wayT]; omega⟩
      · exact ⟨3, by omega, by simp [wayN, wayO, wayT]; omega⟩
      · exact ⟨4, by omega, by simp [wayN, wayO, wayT]; omega⟩
      · exact ⟨5, by omega, by simp [wayN, wayO, wayT]; omega⟩
  · rintro ⟨k, hk, h1, h2⟩
    match k, hk with
    | 0, _ | 1, _ | 2, _ | 3, _ | 4, _ | 5, _ =>
      simp [wayN, wayE, wayO, wayT] at h1 h2
      by_cases par : r1 % 2 = 0
      · (try simp [par] at h2); omega
      · (try simp [par] at h2); omega
    | n + 6, h => omega
end Go.Proofs.YthobfecblpnnnaaGreatDoor
