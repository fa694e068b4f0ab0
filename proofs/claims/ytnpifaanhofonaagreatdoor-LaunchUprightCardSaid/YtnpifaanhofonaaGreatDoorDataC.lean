/- From data as they are read to what the contracts speak of: one class of boats (seats that have no list of classes; else DataE). -/
import Derived.Test.YtnpifaanhofonaaGreatDoorData
import Derived.Test.YtnpifaanhofonaaGreatDoorLauA
set_option linter.all false
namespace Go.Proofs.YtnpifaanhofonaaGreatDoor
open Go Go.RowKit

attribute [local irreducible] tyD

variable {H : Type}

theorem dClass {n : Nat} {d : DataW H} (h : tyD Tryz.prog (n + 2) 27 d) : ∃ q : Cl, ∀ k, absD d k = (q.vals, []) := by
  unfold tyD at h
  simp only [Tryz.underlying27] at h
  obtain ⟨parts, rfl, hp⟩ := h
  match parts, hp with
  | [x1, x2, x3, x4, x5, x6, x7], hp =>
    obtain ⟨a1, _, h1⟩ := dInt (n := n) hp.1
    obtain ⟨a2, _, h2⟩ := dInt (n := n) hp.2.1
    obtain ⟨a3, _, h3⟩ := dInt (n := n) hp.2.2.1
    obtain ⟨a4, _, h4⟩ := dInt (n := n) hp.2.2.2.1
    obtain ⟨a5, _, h5⟩ := dInt (n := n) hp.2.2.2.2.1
    obtain ⟨a6, _, h6⟩ := dInt (n := n) hp.2.2.2.2.2.1
    obtain ⟨a7, _, h7⟩ := dInt (n := n) hp.2.2.2.2.2.2.1
    exact ⟨⟨a1, a2, a3, a4, a5, a6, a7⟩, fun k => by simp [absD, absDs, h1, h2, h3, h4, h5, h6, h7, Cl.vals]⟩
  | [], hp => exact hp.elim
  | [_], hp => exact hp.2.elim
  | [_, _], hp => exact hp.2.2.elim
  | [_, _, _], hp => exact hp.2.2.2.elim
  | [_, _, _, _], hp => exact hp.2.2.2.2.elim
  | [_, _, _, _, _], hp => exact hp.2.2.2.2.2.elim
  | [_, _, _, _, _, _], hp => exact hp.2.2.2.2.2.2.elim
  | _ :: _ :: _ :: _ :: _ :: _ :: _ :: _ :: _, hp => exact hp.2.2.2.2.2.2.2.elim

end Go.Proofs.YtnpifaanhofonaaGreatDoor
