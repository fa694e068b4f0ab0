/- From data as they are read to what the contracts speak of: loads. -/
import Derived.Test.YtnpifaanhofonaaGreatDoorData
import Derived.Test.YtnpifaanhofonaaGreatDoorLauL
set_option linter.all false
namespace Go.Proofs.YtnpifaanhofonaaGreatDoor
open Go Go.RowKit

attribute [local irreducible] tyD

variable {H : Type}

theorem dLoad {n : Nat} {d : DataW H} (h : tyD Tryz.prog (n + 3) 68 d) : ∃ q : Ld, ∀ k, absD d k = (q.vals, []) := by
  unfold tyD at h
  simp only [Tryz.underlying68] at h
  obtain ⟨parts, rfl, hp⟩ := h
  match parts, hp with
  | [x1, x2], hp =>
    obtain ⟨a1, a2, _, _, h1⟩ := dSpan (n := n) hp.1
    obtain ⟨a3, _, h3⟩ := dInt (n := n + 1) hp.2.1
    exact ⟨⟨a1, a2, a3⟩, fun k => by simp [absD, absDs, h1, h3, Ld.vals]⟩
  | [], hp => exact hp.elim
  | [_], hp => exact hp.2.elim
  | _ :: _ :: _ :: _, hp => exact hp.2.2.elim

theorem dLoads {n : Nat} : ∀ (ds : List (DataW H)) (_ : ∀ p ∈ ds, tyD Tryz.prog (n + 3) 68 p), ∃ l : List Ld, l.length = ds.length ∧ ∀ k, absDs ds k = (ldsV l, [])
  | [], _ => ⟨[], rfl, fun k => rfl⟩
  | d :: ds, h => by
    obtain ⟨q, hi⟩ := dLoad (n := n) (h d (by simp))
    obtain ⟨l, hl, hk⟩ := dLoads (n := n) ds (fun p hp => h p (by simp [hp]))
    exact ⟨q :: l, by simp [hl], fun k => by simp [absDs, hi, hk, ldsV]⟩

theorem dLoadsS {n : Nat} {d : DataW H} (h : tyD Tryz.prog (n + 4) 57 d) : ∃ l : List Ld, l.length ≤ maxLen ∧ Lay d (SlD l.length (ldsV l)) := by
  unfold tyD at h
  simp only [Tryz.underlying57] at h
  rcases h with rfl | ⟨elems, spare, rfl, hl, hp⟩
  · exact ⟨[], by simp, fun H0 => ⟨_, rfl, none, 1, rfl, fun j x hx => by simp [ldsV] at hx⟩⟩
  · obtain ⟨l, h1, h3⟩ := dLoads (n := n) elems hp
    refine ⟨l, by omega, ?_⟩
    have := SlD.of (sp := spare) h3
    rw [h1]
    by_cases he : elems = []
    · subst he
      obtain rfl : l = [] := List.eq_nil_of_length_eq_zero h1
      simpa [ldsV] using this
    · simpa [he] using this
end Go.Proofs.YtnpifaanhofonaaGreatDoor
