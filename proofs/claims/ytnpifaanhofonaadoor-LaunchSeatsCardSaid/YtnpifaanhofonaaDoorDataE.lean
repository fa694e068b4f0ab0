/- From data as they are read to what the contracts speak of: classes of boats. -/
import Derived.Test.YtnpifaanhofonaaDoorData
import Derived.Test.YtnpifaanhofonaaDoorLauA
set_option linter.all false
namespace Go.Proofs.YtnpifaanhofonaaDoor
open Go Go.RowKit

attribute [local irreducible] tyD

variable {H : Type}

theorem dClass {n : Nat} {d : DataW H} (h : tyD Tryd.prog (n + 2) 34 d) : ∃ q : Cl, ∀ k, absD d k = (q.vals, []) := by
  unfold tyD at h
  simp only [Tryd.underlying34] at h
  obtain ⟨parts, rfl, hp⟩ := h
  match parts, hp with
  | [x1, x2, x3, x4, x5, x6, x7], hp =>
    obtain ⟨a1, _, h1⟩ := dInt (n := n) hp.1
    obtain ⟨a2, _, h2⟩ := dInt (n := n) hp.2.1
    obtain ⟨a3, _, h3⟩ := dInt (n := n) hp.2.2.1
    obtain ⟨a4, _, h4⟩ := dInt (n := n) hp.2.2.2.1
    obtain ⟨a5, _, h5⟩ := dInt (n := n) hp.2.2.2.2.1
    obtain ⟨a6, _, h6⟩ := dInt (n := n) hp.2.2.2.2.2.1
    obtain ⟨a7, _, h7⟩ := dInt (n := n) hp.2.2.2.2.2.2.1
    exact ⟨⟨a1, a2, a3, a4, a5, a6, a7⟩, fun k => by simp [absD, absDs, h1, h2, h3, h4, h5, h6, h7, Cl.vals]⟩
  | [], hp => exact hp.elim
  | [_], hp => exact hp.2.elim
  | [_, _], hp => exact hp.2.2.elim
  | [_, _, _], hp => exact hp.2.2.2.elim
  | [_, _, _, _], hp => exact hp.2.2.2.2.elim
  | [_, _, _, _, _], hp => exact hp.2.2.2.2.2.elim
  | [_, _, _, _, _, _], hp => exact hp.2.2.2.2.2.2.elim
  | _ :: _ :: _ :: _ :: _ :: _ :: _ :: _ :: _, hp => exact hp.2.2.2.2.2.2.2.elim

theorem dClasss {n : Nat} : ∀ (ds : List (DataW H)) (_ : ∀ p ∈ ds, tyD Tryd.prog (n + 2) 34 p), ∃ l : List Cl, l.length = ds.length ∧ ∀ k, absDs ds k = (clsV l, [])
  | [], _ => ⟨[], rfl, fun k => rfl⟩
  | d :: ds, h => by
    obtain ⟨q, hi⟩ := dClass (n := n) (h d (by simp))
    obtain ⟨l, hl, hk⟩ := dClasss (n := n) ds (fun p hp => h p (by simp [hp]))
    exact ⟨q :: l, by simp [hl], fun k => by simp [absDs, hi, hk, clsV]⟩

theorem dClasssS {n : Nat} {d : DataW H} (h : tyD Tryd.prog (n + 3) 22 d) : ∃ l : List Cl, l.length ≤ maxLen ∧ Lay d (SlD l.length (clsV l)) := by
  unfold tyD at h
  simp only [Tryd.underlying22] at h
  rcases h with rfl | ⟨elems, spare, rfl, hl, hp⟩
  · exact ⟨[], by simp, fun H0 => ⟨_, rfl, none, 1, rfl, fun j x hx => by simp [clsV] at hx⟩⟩
  · obtain ⟨l, h1, h3⟩ := dClasss (n := n) elems hp
    refine ⟨l, by omega, ?_⟩
    have := SlD.of (sp := spare) h3
    rw [h1]
    by_cases he : elems = []
    · subst he
      obtain rfl : l = [] := List.eq_nil_of_length_eq_zero h1
      simpa [clsV] using this
    · simpa [he] using this
end Go.Proofs.YtnpifaanhofonaaDoor
