/- From data as they are read to what the contracts speak of: legs. -/
import Derived.Test.YthobfecblpnnnaaGreatDoorData
import Derived.Test.YthobfecblpnnnaaGreatDoorLanB
set_option linter.all false
namespace Go.Proofs.YthobfecblpnnnaaGreatDoor
open Go Go.RowKit

attribute [local irreducible] tyD

variable {H : Type}

theorem dBool {n : Nat} {d : DataW H} (h : tyD Tryz.prog (n + 1) 4 d) : ∃ b, ∀ k, absD d k = ([.bool b], []) := by
  unfold tyD at h
  simp only [Tryz.underlying4] at h
  obtain ⟨b, rfl⟩ := h
  exact ⟨b, fun k => rfl⟩

theorem dLeg {n : Nat} {d : DataW H} (h : tyD Tryz.prog (n + 3) 41 d) : ∃ q : Lg, q.cs.length ≤ maxLen ∧ Lay d fun A vs => ∃ s, vs = q.vals s ∧ Sl A s q.cs.length (ints q.cs) := by
  unfold tyD at h
  simp only [Tryz.underlying41] at h
  obtain ⟨parts, rfl, hp⟩ := h
  match parts, hp with
  | [x1, x2, x3, x4, x5], hp =>
    obtain ⟨a1, _, h1⟩ := dInt (n := n + 1) hp.1
    obtain ⟨a2, _, h2⟩ := dInt (n := n + 1) hp.2.1
    obtain ⟨a3, _, h3⟩ := dInt (n := n + 1) hp.2.2.1
    obtain ⟨a4, h4⟩ := dBool (n := n + 1) hp.2.2.2.1
    obtain ⟨l, hl, _, k5⟩ := dIntsS (n := n) hp.2.2.2.2.1
    refine ⟨⟨a1, a2, a3, a4, l⟩, hl, fun H0 => ?_⟩
    obtain ⟨v, ev, sv⟩ := k5 H0
    refine ⟨v, ?_, ?_⟩
    · simp only [absD, absDs, h1, h2, h3, h4, ev, List.nil_append, List.length_nil, Nat.add_zero, List.append_nil, List.cons_append, Lg.vals]
    · have e : (absD (DataW.agg [x1, x2, x3, x4, x5]) H0.length).2 = (absD x5 H0.length).2 := by
        simp only [absD, absDs, h1, h2, h3, h4, List.nil_append, List.length_nil, Nat.add_zero, List.append_nil]
      rw [e]
      exact sv
  | [], hp => exact hp.elim
  | [_], hp => exact hp.2.elim
  | [_, _], hp => exact hp.2.2.elim
  | [_, _, _], hp => exact hp.2.2.2.elim
  | [_, _, _, _], hp => exact hp.2.2.2.2.elim
  | _ :: _ :: _ :: _ :: _ :: _ :: _, hp => exact hp.2.2.2.2.2.elim

theorem dLegs {n : Nat} : ∀ (ds : List (DataW H)) (_ : ∀ p ∈ ds, tyD Tryz.prog (n + 3) 41 p), ∃ ls : List Lg, ls.length = ds.length ∧ ∀ H0 : AH, ∃ ss : List Value, ss.length = ls.length ∧ (absDs ds H0.length).1 = lgsV ls ss ∧ ∀ i (h : i < ls.length) (h' : i < ss.length), Sl (H0 ++ (absDs ds H0.length).2) ss[i] ls[i].cs.length (ints ls[i].cs)
  | [], _ => ⟨[], rfl, fun H0 => ⟨[], rfl, rfl, fun i h => by simp at h⟩⟩
  | d :: ds, h => by
    obtain ⟨q, _, hq⟩ := dLeg (n := n) (h d (by simp))
    obtain ⟨ls, hl, hk⟩ := dLegs (n := n) ds (fun p hp => h p (by simp [hp]))
    refine ⟨q :: ls, by simp [hl], fun H0 => ?_⟩
    obtain ⟨s, es, hs⟩ := hq H0
    obtain ⟨ss, hsl, ess, hss⟩ := hk (H0 ++ (absD d H0.length).2)
    rw [List.length_append] at ess hss
    refine ⟨s :: ss, by simp [hsl], ?_, fun i hi hi' => ?_⟩
    · simp only [absDs, es, ess, lgsV]
    · have e : H0 ++ (absDs (d :: ds) H0.length).2 = H0 ++ (absD d H0.length).2 ++ (absDs ds (H0.length + (absD d H0.length).2.length)).2 := by
        simp only [absDs, List.append_assoc]
      rw [e]
      cases i with
      | zero => exact hs.ext (Ext.push _ _)
      | succ i => exact hss i (by simpa using hi) (by simpa using hi')

theorem dLegsS {n : Nat} {d : DataW H} (h : tyD Tryz.prog (n + 4) 26 d) : ∃ ls : List Lg, ls.length ≤ maxLen ∧ Lay d fun A vs => ∃ v, vs = [v] ∧ LgSl A v ls := by
  unfold tyD at h
  simp only [Tryz.underlying26] at h
  have nil : ∀ H0 : AH, LgSl H0 (.slice none 0 1) [] := fun H0 => ⟨[], rfl, ⟨none, 1, rfl, fun j x hx => by simp [lgsV] at hx⟩, fun i h => by simp at h⟩
  rcases h with rfl | ⟨elems, spare, rfl, hl, hp⟩
  · exact ⟨[], by simp, fun H0 => ⟨_, rfl, nil _⟩⟩
  · obtain ⟨ls, h1, h3⟩ := dLegs (n := n) elems hp
    refine ⟨ls, by omega, fun H0 => ?_⟩
    match elems, h1, h3 with
    | [], h1, h3 =>
      obtain rfl : ls = [] := List.eq_nil_of_length_eq_zero h1
      exact ⟨_, rfl, nil _⟩
    | d :: ds, h1, h3 =>
      obtain ⟨ss, hsl, ess, hss⟩ := h3 (H0 ++ [.ro (absDs (d :: ds) (H0.length + 1)).1])
      rw [List.length_append, List.length_singleton] at ess hss
      have hsl1 : Sl (H0 ++ (absD (DataW.slice (d :: ds) spare) H0.length).2) (.slice (some ⟨H0.length, 0, none⟩) (ds.length + 1) (ds.length + 2)) ls.length (lgsV ls ss) :=
        ⟨some ⟨H0.length, 0, none⟩, ds.length + 2, by rw [h1]; rfl, fun j x hx => ⟨H0.length, 0, rfl, by
          simp only [absD]
          simp only [hcell, Nat.zero_add, List.getElem?_append_right (Nat.le_refl _), Nat.sub_self, List.getElem?_cons_zero]
          rw [ess]
          exact hx⟩⟩
      refine ⟨_, rfl, ⟨ss, hsl, hsl1, fun i hi hi' => ?_⟩⟩
      have := hss i hi hi'
      simp only [absD]
      simpa using this
end Go.Proofs.YthobfecblpnnnaaGreatDoor
