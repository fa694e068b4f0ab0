/- Contracts of the functions, in the abstract machine: the law ChartBack. -/
import Derived.Test.YthobfecblpnnnaaGreatDoorMathA
set_option linter.all false
namespace Go.Proofs.YthobfecblpnnnaaGreatDoor
open Go Go.RowKit

theorem nextE_ok {c : Ch} (hok : ChOk c) {i : Nat} (hi : i < c.cells) {k : Nat} (hk : k < 6) : nextE c i k = (if (nxt c.w c.h i k).isSome then 0 else 3) ∧ nextN c i k = (nxt c.w c.h i k).getD 0 := by
  have h0 : openE c [(i : Int)] [] = 0 := by
    rw [openE_eq hok]
    have : inN c.cells (i : Int) = true := inN_iff.2 ⟨i, hi, rfl⟩
    simp [this]
  have hk' : 0 ≤ (k : Int) ∧ (k : Int) ≤ 5 := by omega
  unfold nextE nextN
  have h3 : openE c [(i : Int)] [] = 0 ∧ 0 ≤ (k : Int) ∧ (k : Int) ≤ 5 := ⟨h0, hk'⟩
  rw [if_pos h0, if_pos hk', if_pos h3, Int.toNat_natCast]
  exact ⟨rfl, rfl⟩

end Go.Proofs.YthobfecblpnnnaaGreatDoor
