/- From data as they are read to what the contracts speak of: trips, ways. -/
import Derived.Test.YthobfecblpnnnaaGreatDoorDataG
import Derived.Test.YthobfecblpnnnaaGreatDoorRouE
set_option linter.all false
namespace Go.Proofs.YthobfecblpnnnaaGreatDoor
open Go Go.RowKit

attribute [local irreducible] tyD

variable {H : Type}

def tpC (p : Tp) : List Value := [.int .i64 p.t0, .int .i64 p.lv, .int .i64 p.dr, .bool p.tl, .int .i64 p.fr, .int .i64 p.to]

theorem dTrip {n : Nat} {d : DataW H} (h : tyD Tryz.prog (n + 2) 28 d) : ∃ p : Tp, ∀ k, absD d k = (tpC p, []) := by
  unfold tyD at h
  simp only [Tryz.underlying28] at h
  obtain ⟨parts, rfl, hp⟩ := h
  match parts, hp with
  | [x1, x2, x3, x4, x5, x6], hp =>
    obtain ⟨a1, _, h1⟩ := dInt (n := n) hp.1
    obtain ⟨a2, _, h2⟩ := dInt (n := n) hp.2.1
    obtain ⟨a3, _, h3⟩ := dInt (n := n) hp.2.2.1
    obtain ⟨a4, h4⟩ := dBool (n := n) hp.2.2.2.1
    obtain ⟨a5, _, h5⟩ := dInt (n := n) hp.2.2.2.2.1
    obtain ⟨a6, _, h6⟩ := dInt (n := n) hp.2.2.2.2.2.1
    exact ⟨⟨a1, a2, a3, a4, a5, a6⟩, fun k => by simp [absD, absDs, h1, h2, h3, h4, h5, h6, tpC]⟩
  | [], hp => exact hp.elim
  | [_], hp => exact hp.2.elim
  | [_, _], hp => exact hp.2.2.elim
  | [_, _, _], hp => exact hp.2.2.2.elim
  | [_, _, _, _], hp => exact hp.2.2.2.2.elim
  | [_, _, _, _, _], hp => exact hp.2.2.2.2.2.elim
  | _ :: _ :: _ :: _ :: _ :: _ :: _ :: _, hp => exact hp.2.2.2.2.2.2.elim

theorem globGT : (globH Tryz.prog tabs)[waysG]? = some (.ro waysV) := by
  unfold globH
  rw [List.getElem?_map]
  rfl
theorem aggCT : isAggT Tryz.prog 25 = true := by kernel_rfl
theorem aggLT : isAggT Tryz.prog 26 = false := by kernel_rfl
end Go.Proofs.YthobfecblpnnnaaGreatDoor
