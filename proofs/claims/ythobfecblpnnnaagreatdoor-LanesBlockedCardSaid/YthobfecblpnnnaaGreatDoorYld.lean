/- One round of a loop over a function; the loop. -/
import Derived.Test.YthobfecblpnnnaaGreatDoorStep
import Derived.Test.YthobfecblpnnnaaGreatDoorWorks
set_option linter.all false
namespace Go.Proofs.YthobfecblpnnnaaGreatDoor
open Go Go.RowKit

theorem yield_round {l : Nat} {B : AH} {r : ARec} {args : List Value} {lim : Nat} (hl : B[l]? = some (.loop r)) (h0 : r.st = 0) (hlim : lim ≤ r.lim) (hlim2 : lim ≤ l) (hlen : args.length = r.ps.length) {t1 : TS}
    (ha : ∀ X, exL Tryz.prog pf r.asg ⟨(r.ps.zip args).reverse ++ r.t, r.L, X, r.lim, some l⟩ = some (.normal, ⟨t1, r.L, X, r.lim, some l⟩)) {e : Ex} {s' : St}
    (hb : exL Tryz.prog pf r.body ⟨t1, r.L, B.set l (.loop { r with st := 1, L := [] }), r.lim, some l⟩ = some (e, s')) {r2 : ARec} (h4 : s'.H[l]? = some (.loop r2)) :
    apL Tryz.prog pf (.func (.yield l) #[] #[]) args lim B = some (.bool (decide (e = .normal)), s'.H.set l (.loop { r with st := if e = .normal then 0 else 2, pend := if e = .normal then none else some e, L := s'.L })) := by
  have hll : l < B.length := (List.getElem?_eq_some_iff.1 hl).1
  refine apL_yield (r := r) (r1 := { r with st := 4, L := [] }) hl ⟨rfl, h0, hlim, hlim2, hlen⟩ (ha _) (by simp [hll]) rfl (s' := s') ?_ h4
  simp only [List.set_set]
  exact hb

theorem exL_range {f : Operand} {ps : List Tmp} {asg body : SC} {S : St} {fv : Value} (hf : S.ev f = fv) (hn : nl fv = true) (hi : isFn fv = true) (hrd : S.rd = none) {A' : AH} {v : Value} {r : ARec}
    (hcall : apL Tryz.prog pf fv [.func (.yield S.H.length) #[] #[]] S.lim (S.H ++ [.loop ⟨0, none, S.t, S.L, S.lim, ps, asg, body⟩]) = some (v, A')) (hr : A'[S.H.length]? = some (.loop r)) (hst : r.st = 0 ∨ r.st = 2) :
    exL Tryz.prog pf (.rng f ps asg body) S = some (r.pend.getD .normal, { S with L := r.L, H := A'.set S.H.length .dead }) := by
  have hg : ¬ (rdOk S = false ∨ nl (S.ev f) = false ∨ isFn (S.ev f) = false) := by
    have h1 : rdOk S = true := by unfold rdOk; rw [hrd]
    rw [hf, h1, hn, hi]; simp
  rw [exL_rng, if_neg hg, hf, hcall]
  simp only [hr]
  rw [if_neg (by omega)]

end Go.Proofs.YthobfecblpnnnaaGreatDoor
