/- The statement of LanesFirst: its row and its card. For every readable input the law's function returns true, and leaves its arguments as they were. -/
import Derived.Test.YthobfecblpnnnaaGreatDoorTrueFirst
set_option linter.all false
namespace Go.Proofs.YthobfecblpnnnaaGreatDoor.LawLanesFirst
open Go Go.RowKit Go.ChangeShapes Go.WideShapes Go.ChangeAt Go.Proofs.YthobfecblpnnnaaGreatDoor

theorem args {α : Type} {r : TypeId → α → Prop} {ds : List α} (h : All2 r [25, 26, 46] ds) : ∃ d1 d2 d3, ds = [d1, d2, d3] := by
  match ds, h with
  | [d1, d2, d3], _ => exact ⟨d1, d2, d3, rfl⟩
  | [], h => exact h.elim
  | [_], h => exact h.2.elim
  | [_, _], h => exact h.2.2.elim
  | _ :: _ :: _ :: _ :: _, h => exact h.2.2.2.elim

set_option maxRecDepth 100000 in
theorem contract (H : Type) (enc : TypeId × Value → H) (W : World) (base : Nat) (args : Array Value) (ds gs : List (DataW H)) (before : List MemPlace)
    (hval : ∀ (j : Nat) t v, Tryz.f4.params[j]? = some t → args[j]? = some v → Value.okWide Tryz.prog W .any base t v)
    (hW : DataW.Whole enc Tryz.prog Tryz.f4.params.toList Rows.lanesFirstSpec.vars false W args.toList ds gs before) (hL : laidMetH Tryz.prog Rows.lanesFirstRow.laid W) (hS : W.ShapedOpen Tryz.prog) :
    Calls Tryz.prog 4 args W fun e W' => ∃ v, e = .returned v ∧ Rows.lanesFirstSpec.post enc Tryz.prog Tryz.f4 false true false false W args v W' := by
  have hp : Tryz.f4.params.toList = [25, 26, 46] := by rw [Tryz.params4]
  have hsup : ∀ t ∈ Tryz.f4.params.toList, supT Tryz.prog 5 t = true := by
    rw [hp]
    intro t ht
    have := (show ([25, 26, 46] : List TypeId).all (supT Tryz.prog 5) = true by kernel_rfl)
    exact List.all_eq_true.1 this t ht
  have hA : DataW.TrodAll enc Tryz.prog W 0 (fun _ => true) true Tryz.f4.params.toList args.toList ds before := by
    obtain ⟨p, q, h1, h2, rfl, _⟩ := hW
    obtain ⟨rfl, rfl⟩ := trodVars_none h2
    simpa using h1
  have hty := args_ty _ _ _ _ hsup hA
  rw [hp] at hty
  obtain ⟨H', ht⟩ := lanesFirst_true ds hty
  obtain ⟨d1, d2, d3, rfl⟩ := LawLanesFirst.args hty
  rw [← hp] at ht
  obtain ⟨c, hbody⟩ := Option.isSome_iff_exists.1 (show Tryz.f4.body.isSome = true by kernel_rfl)
  refine (law_calls foll pf pf_sound Tryz.func4 hbody (by kernel_rfl) hsup hval hA (globals_there hS) (tabs_there hL) ht).mono ?_
  rintro e W' ⟨rfl, o', hk⟩
  exact ⟨_, rfl, post_true hW rfl ⟨rfl, rfl, rfl⟩ (tb := 4) (by kernel_rfl) Tryz.underlying4 kids (slices_full_of _ full) (by
    rw [hp]
    intro t ht
    have := (show ([25, 26, 46] : List TypeId).all (fun t => decide (t < Tryz.prog.types.size)) = true by kernel_rfl)
    exact of_decide_eq_true (List.all_eq_true.1 this t ht)) hk (fun _ => rfl)⟩

/-- A world for the witness: the table is laid. -/
noncomputable def laidWorld (os : Os) : World :=
  { World.holding Tryz.prog os ⟨#[], #[], []⟩ with heap := (World.holding Tryz.prog os ⟨#[], #[], []⟩).heap.modify waysG fun
      | .cells _ t frozen => .cells waysV.toArray t frozen
      | o => o }
def wit : Array Value := #[.agg #[.int .i64 0, .int .i64 0, .slice none 0 0, .slice none 0 0, .slice none 0 0], .slice none 0 0, .agg #[.int .i64 0, .int .i64 0, .int .i64 0, .bool false, .int .i64 0, .int .i64 0, .slice none 0 0]]
theorem laid_met (os : Os) : laidMet Tryz.prog Rows.lanesFirstRow.laid ((laidWorld os).forCall (fun _ _ => 0) ⟨#[], wit, []⟩).memory :=
  laidMet_of_run' 8 (by kernel_rfl) (by kernel_rfl)
theorem reads (os : Os) {H : Type} (enc : TypeId × Value → H) : ∃ places, DataW.whole enc Tryz.prog ((laidWorld os).forCall (fun _ _ => 0) ⟨#[], wit, []⟩).memory Tryz.f4.params.toList Rows.lanesFirstSpec.vars false wit.toList 8 =
    some ([.agg [.lit (.int .i64 0), .lit (.int .i64 0), .nil, .nil, .nil], .nil, .agg [.agg [.lit (.int .i64 0), .lit (.int .i64 0), .lit (.int .i64 0), .lit (.bool false), .lit (.int .i64 0), .lit (.int .i64 0)], .nil]], [], places) :=
  ⟨[], by kernel_rfl⟩

set_option maxRecDepth 100000 in
theorem lifted (os : Os) (started : os.Started) (H : Type) (enc : TypeId × Value → H) (F : Stop.Interp) :
    ReturnsInHanded {} Tryz.checked os 4 .any ((OpenSpec.ofChange Rows.lanesFirstSpec).preRow enc Tryz.prog Tryz.f4 Rows.lanesFirstRow.domain false Rows.lanesFirstRow.laid) (((OpenSpec.ofChange Rows.lanesFirstSpec).at F).post enc Tryz.prog Tryz.f4 false true false false) := by
  obtain ⟨places, hx⟩ := reads os enc
  refine returnsInHanded_of_row (C := Tryz.checked) (s := OpenSpec.ofChange Rows.lanesFirstSpec) own started (by kernel_rfl) Tryz.func4
    (witness_row_at (enc := enc) (C := Tryz.checked) false (laidWorld os) wit rfl (by kernel_rfl) (by kernel_rfl) (by kernel_rfl)
      (OpenSpec.preRow_of_cond 8 hx (by kernel_rfl) (fun k hk => by cases hk) (by kernel_rfl) (laid_met os))) ?_
  intro W base args ds gs before hval hW _ _ _ hL hS _
  exact contract H enc W base args ds gs before hval hW hL hS

theorem said : Rows.LanesFirstSaid :=
  OpenClaim.holds_of_cond 4 Tryz.f4 rfl rfl rfl rfl rfl rfl rfl ⟨rfl, rfl, rfl, rfl, rfl⟩ rfl rfl rfl rfl rfl (by kernel_rfl) Tryz.func4 (by kernel_rfl)
    (of_decide_eq_true (by kernel_rfl)) (by unfold Func.isWrapper; first | (rw [if_pos (by decide +kernel)]; kernel_rfl) | (rw [if_neg (by decide +kernel)]; exact ⟨rfl, rfl⟩))
    (fun os started H enc _ F => by rw [OpenClaim.pre_eq_preRow]; exact lifted os started H enc F)

theorem plain (f : FuncId) (fn : Func) (hf : Tryz.pinned.checked.prog.funcNamed "coble/coblelaw06.LanesFirst" = some f) (hfn : Tryz.pinned.checked.prog.funcs[f]? = some fn) :
    false = Tryz.pinned.checked.prog.looks [] ∧ ∀ (j : Nat) t, fn.params[j]? = some t → Tryz.pinned.checked.prog.wantsStandIn t = false := by
  obtain rfl : f = 4 := Option.some.inj ((show Tryz.prog.funcNamed "coble/coblelaw06.LanesFirst" = some 4 by kernel_rfl).symm.trans hf) |>.symm
  obtain rfl : fn = Tryz.f4 := (Option.some.inj (Tryz.func4.symm.trans hfn)).symm
  refine ⟨by kernel_rfl, fun j t ht => ?_⟩
  rw [Tryz.params4] at ht
  have hm : t ∈ ([25, 26, 46] : List TypeId) := by simpa using Array.mem_of_getElem? ht
  have := (show ([25, 26, 46] : List TypeId).all (fun t => Tryz.prog.wantsStandIn t == false) = true by kernel_rfl)
  have e : Tryz.prog.wantsStandIn t = false := by simpa using List.all_eq_true.1 this t hm
  exact e

/-- The card. -/
theorem card : Rows.LanesFirstCardSaid :=
  Claim7.holds_tied_plain_at .later [] _ _ _ _ said (fun _ h => by cases h) (by kernel_rfl) (fun _ h => by cases h) lanesFirst_row_tie rfl ⟨rfl, rfl⟩ (by kernel_rfl) rfl plain (by kernel_rfl)
end Go.Proofs.YthobfecblpnnnaaGreatDoor.LawLanesFirst
