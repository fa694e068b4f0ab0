/- Contracts of the functions, in the abstract machine: the law ChartBack, whole. -/
import Derived.Test.YthobfecblpnnnaaGreatDoorFunN
set_option linter.all false
namespace Go.Proofs.YthobfecblpnnnaaGreatDoor
open Go Go.RowKit

theorem openE_cells {c : Ch} (hok : ChOk c) {a b : Nat} (ha : a < c.cells) (hb : b < c.cells) : openE c [(a : Int), (b : Int)] [] = 0 := by
  rw [openE_eq hok]
  have h1 : inN c.cells (a : Int) = true := inN_iff.2 ⟨a, ha, rfl⟩
  have h2 : inN c.cells (b : Int) = true := inN_iff.2 ⟨b, hb, rfl⟩
  simp [h1, h2]

theorem apt_bounds {c : Ch} (hok : ChOk c) {a b : Nat} (ha : a < c.cells) (hb : b < c.cells) : 0 ≤ apt c.w a b ∧ apt c.w a b ≤ 10000 := by
  obtain ⟨m0, m1, m2⟩ := hok.mul
  obtain ⟨⟨r0, r1⟩, ⟨q0, q1⟩, _⟩ := rowcol (h := c.h) hok.1.1 (Int.natCast_nonneg a) (by rw [m2]; exact Int.ofNat_lt.2 ha)
  obtain ⟨⟨r0', r1'⟩, ⟨q0', q1'⟩, _⟩ := rowcol (h := c.h) hok.1.1 (Int.natCast_nonneg b) (by rw [m2]; exact Int.ofNat_lt.2 hb)
  have := hok.1.2
  have := hok.2.1.2
  unfold apt dst estN
  omega

end Go.Proofs.YthobfecblpnnnaaGreatDoor
