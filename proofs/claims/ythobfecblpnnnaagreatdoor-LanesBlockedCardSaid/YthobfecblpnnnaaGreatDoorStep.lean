/- Stepping: the equations by which 'simp' runs code in the abstract machine; loops. -/
import Derived.Test.YthobfecblpnnnaaGreatDoorCoreE
set_option linter.all false
namespace Go.Proofs.YthobfecblpnnnaaGreatDoor
open Go Go.RowKit

theorem glob_nl {L : LS} {H : AH} {v : Value} (h : nl v = true) : glob L H v = some (v, L, H) := by
  unfold glob
  split
  · simp [nl] at h
  · rw [if_pos h]

theorem glob_loc {L : LS} {H : AH} {d off g : Nat} : glob L H (.pointer (some ⟨d, off, some g⟩)) =
    (match lget L d with
    | some (g', .cells vs) => if g = g' ∧ nlL vs = true then some (.pointer (some ⟨H.length, off, none⟩), (d, g, .fwd H.length) :: L, H ++ [.rw 0 vs]) else none
    | some (g', .fwd b) => if g = g' then some (.pointer (some ⟨b, off, none⟩), L, H) else none
    | none => none) := rfl

theorem nl_bool (b : Bool) : nl (.bool b) = true := by unfold nl; rfl
theorem nl_int (k : IntKind) (n : Int) : nl (.int k n) = true := by unfold nl; rfl
theorem nl_slice (a : Option Addr) (n c : Nat) : nl (.slice a n c) = true := by unfold nl; rfl
theorem nl_nilF : nl .nilFunc = true := by unfold nl; rfl
theorem nl_func0 (f : Fn) (a b : Array Value) : nl (.func f a b) = (nlL a.toList && nlL b.toList) := by rw [nl]
theorem nl_agg (a : Array Value) : nl (.agg a) = nlL a.toList := by rw [nl]
theorem nl_tup (a : Array Value) : nl (.tuple a) = nlL a.toList := by rw [nl]
theorem nl_ptr (a : Addr) : nl (.pointer (some a)) = a.spot.isNone := by rw [nl]
theorem nl_ptrN : nl (.pointer none) = true := by unfold nl; rfl

attribute [simp] glob_nl glob_loc nl_bool nl_int nl_slice nl_nilF nl_func0 nl_agg nl_tup nl_ptr nl_ptrN
attribute [simp] exL_seq exL_ops exL_draw exL_alts exL_pre preA preOne altsA runAlts mergeA mergeW mergeT vEq vEqL lcEq lsEq blkEq hpEq swSt swHp swLs swLc swCs swOk swV exL_ret exL_skip exL_exit exL_cond exL_block dOps dOp bxsA bxA nextG noLoc opsA opA runA popA St.ev St.put tsOf tget_nil tget_cons lget cellAt cellsAt hcell aadd over hstore oneC storeAt globs fillA zeros binA unA eqsA maxL minL isU isInt nlL sca scaL resA packA bndA fitA SK Value.cells

theorem loop_rule {P : Program} {pf : PF} {a : SC} {Q : Ex × St → Prop} {I : Nat → St → Prop} (step : ∀ n s, I n s → ∃ r, exL P pf a s = some r ∧ (match r with | (.normal, s') => ∃ m, m < n ∧ I m s' | r => Q r)) : ∀ n s, I n s → ∃ r, exL P pf (.loop a) s = some r ∧ Q r := by
  intro n
  induction n using Nat.strongRecOn with
  | _ n ih =>
    intro s hI
    obtain ⟨r, h1, h2⟩ := step n s hI
    rw [exL_loop, h1]
    obtain ⟨e, s'⟩ := r
    cases e with
    | normal => obtain ⟨m, hm, hI'⟩ := h2; exact ih m hm s' hI'
    | exit i => exact ⟨_, rfl, h2⟩
    | ret => exact ⟨_, rfl, h2⟩
end Go.Proofs.YthobfecblpnnnaaGreatDoor
