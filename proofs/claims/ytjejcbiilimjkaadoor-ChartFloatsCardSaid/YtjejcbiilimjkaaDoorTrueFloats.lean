/- The law ChartFloats at what was read. -/
import Derived.Test.YtjejcbiilimjkaaDoorFunK
import Derived.Test.YtjejcbiilimjkaaDoorData
set_option linter.all false
namespace Go.Proofs.YtjejcbiilimjkaaDoor
open Go Go.RowKit
attribute [local irreducible] tyD

variable {H : Type}

theorem dSpot {n : Nat} {d : DataW H} (h : tyD Tryd.prog (n + 2) 35 d) : ∃ a b c, (i64R a ∧ i64R b ∧ i64R c) ∧ ∀ k, absD d k = ([.int .i64 a, .int .i64 b, .int .i64 c], []) := by
  unfold tyD at h
  simp only [Tryd.underlying35] at h
  obtain ⟨parts, rfl, hp⟩ := h
  match parts, hp with
  | [x, y, z], hp =>
    obtain ⟨a, ra, ha⟩ := dInt (n := n) hp.1
    obtain ⟨b, rb, hb⟩ := dInt (n := n) hp.2.1
    obtain ⟨c, rc, hc⟩ := dInt (n := n) hp.2.2.1
    exact ⟨a, b, c, ⟨ra, rb, rc⟩, fun k => by simp [absD, absDs, ha, hb, hc]⟩
  | [], hp => exact hp.elim
  | [_], hp => exact hp.2.elim
  | [_, _], hp => exact hp.2.2.elim
  | _ :: _ :: _ :: _ :: _, hp => exact hp.2.2.2.elim

theorem globG : (globH Tryd.prog tabs)[waysG]? = some (.ro waysV) := by
  unfold globH
  rw [List.getElem?_map]
  rfl

/-- What a law does with a chart that is far too long: its function looks at the lengths alone. -/
theorem run_Vast_long (c : Ch) (lim : Nat) (A : AH) (d t s : Value) (hc : ChSl A c d t s) (hl : c.depth.length > 146 ∨ c.tide.length > 62 ∨ c.swell.length > 62) :
    apL Tryd.prog pf (.func (.func 12) #[] #[]) [chV c d t s] lim A = some (.bool true, A) := by
  rw [apL_func _ _ _ _ _ _ (by rfl), sf_coblelaw01_Vast_eq]
  obtain ⟨⟨da, dc, ed, _⟩, ⟨ta, tc, et, _⟩, ⟨sa, sc, es, _⟩⟩ := hc
  by_cases a1 : c.depth.length > 146
  · have b1 : ((c.depth.length : Int) > 146) := by omega
    simp [sf_coblelaw01_Vast, chV, ed, a1, b1, pf_pure, pureF]
  have b1 : ¬ ((c.depth.length : Int) > 146) := by omega
  by_cases a2 : c.tide.length > 62
  · have b2 : ((c.tide.length : Int) > 62) := by omega
    simp [sf_coblelaw01_Vast, chV, ed, et, a1, b1, a2, b2, pf_pure, pureF]
  have b2 : ¬ ((c.tide.length : Int) > 62) := by omega
  have b3 : ((c.swell.length : Int) > 62) := by omega
  simp [sf_coblelaw01_Vast, chV, ed, et, es, a1, b1, a2, b2, b3, pf_pure, pureF]

theorem ChSl.in {A : AH} {c : Ch} {d t s : Value} (hc : ChSl A c d t s) (hl : ¬ (c.depth.length > 146 ∨ c.tide.length > 62 ∨ c.swell.length > 62)) : ChIn A c d t s := ⟨hc.d, hc.t, hc.s, by omega, by omega, by omega⟩

theorem floats_long (c : Ch) (lim : Nat) (A : AH) (hG : A[waysG]? = some (.ro waysV)) (d t s : Value) (hc : ChSl A c d t s) (hl : c.depth.length > 146 ∨ c.tide.length > 62 ∨ c.swell.length > 62) (g a b : Int) :
    apL Tryd.prog pf (.func (.func 4) #[] #[]) [chV c d t s, .agg #[.int .i64 g, .int .i64 a, .int .i64 b]] lim A = some (.bool true, A) := by
  rw [apL_func _ _ _ _ _ _ (by rfl), sf_coblelaw01_ChartFloats_eq]
  have hV := fun lim => run_Vast_long c lim A d t s hc hl
  have hW := fun lim => run_works lim A hG
  obtain ⟨⟨da, dc, ed, _⟩, ⟨ta, tc, et, _⟩, ⟨sa, sc, es, _⟩⟩ := hc
  simp only [chV, ed, et, es] at hV
  simp [sf_coblelaw01_ChartFloats, chV, ed, et, es, hV, hW, pf_pure, pureF]

theorem chartFloats_true (ds : List (DataW H)) (h : All2 (tyD Tryd.prog 5) [25, 35] ds) : ∃ H', apL Tryd.prog pf (.func (.func 4) #[] #[]) (absVs Tryd.prog [25, 35] ds Tryd.prog.globals.size).1 0 (globH Tryd.prog tabs ++ (absVs Tryd.prog [25, 35] ds Tryd.prog.globals.size).2) = some (.bool true, H') := by
  match ds, h with
  | [x, y], h =>
    obtain ⟨c, _, hc⟩ := dChart (n := 1) h.1
    obtain ⟨g, a, b, _, hs⟩ := dSpot (n := 3) h.2.1
    obtain ⟨dd, tt, ss, e, hS⟩ := hc (globH Tryd.prog tabs)
    rw [show (globH Tryd.prog tabs).length = Tryd.prog.globals.size by simp [globH]] at e hS
    have hG := hG_ext (absD x Tryd.prog.globals.size).2 globG
    have ev : (absVs Tryd.prog [25, 35] [x, y] Tryd.prog.globals.size) = ([chV c dd tt ss, .agg #[.int .i64 g, .int .i64 a, .int .i64 b]], (absD x Tryd.prog.globals.size).2) := by
      simp only [absVs, hs, e, List.append_nil]
      have a1 : isAggT Tryd.prog 25 = true := by kernel_rfl
      have a2 : isAggT Tryd.prog 35 = true := by kernel_rfl
      simp only [absV, a1, a2, if_true]
      rfl
    rw [ev]
    by_cases hl : c.depth.length > 146 ∨ c.tide.length > 62 ∨ c.swell.length > 62
    · exact ⟨_, floats_long c 0 _ hG dd tt ss hS hl g a b⟩
    · exact ⟨_, floats_law c 0 _ hG dd tt ss (hS.in hl) g a b⟩
  | [], h => exact h.elim
  | [_], h => exact h.2.elim
  | _ :: _ :: _ :: _, h => exact h.2.2.elim
end Go.Proofs.YtjejcbiilimjkaaDoor
