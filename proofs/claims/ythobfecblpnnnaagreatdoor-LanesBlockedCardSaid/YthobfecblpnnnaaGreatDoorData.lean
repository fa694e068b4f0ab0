/- From data as they are read to what the contracts speak of: numbers, lists, charts. -/
import Derived.Test.YthobfecblpnnnaaGreatDoorChartA
set_option linter.all false
namespace Go.Proofs.YthobfecblpnnnaaGreatDoor
open Go Go.RowKit

attribute [local irreducible] tyD

variable {H : Type}

def i64R (x : Int) : Prop := -9223372036854775808 ≤ x ∧ x < 9223372036854775808

theorem dInt {n : Nat} {d : DataW H} (h : tyD Tryz.prog (n + 1) 3 d) : ∃ i, i64R i ∧ ∀ k, absD d k = ([.int .i64 i], []) := by
  unfold tyD at h
  simp only [Tryz.underlying3] at h
  obtain ⟨i, rfl, hw⟩ := h
  refine ⟨i, ?_, fun k => rfl⟩
  simp only [Lit.wf, Bool.and_eq_true, decide_eq_true_eq] at hw
  have e1 : IntKind.i64.min = -9223372036854775808 := by decide
  have e2 : IntKind.i64.max = 9223372036854775807 := by decide
  unfold i64R
  omega

theorem dInts {n : Nat} : ∀ (ds : List (DataW H)) (_ : ∀ p ∈ ds, tyD Tryz.prog (n + 1) 3 p), ∃ l : List Int, l.length = ds.length ∧ (∀ x ∈ l, i64R x) ∧ ∀ k, absDs ds k = (ints l, [])
  | [], _ => ⟨[], rfl, by simp, fun k => rfl⟩
  | d :: ds, h => by
    obtain ⟨i, hr, hi⟩ := dInt (n := n) (h d (by simp))
    obtain ⟨l, hl, hx, hk⟩ := dInts (n := n) ds (fun p hp => h p (by simp [hp]))
    exact ⟨i :: l, by simp [hl], by simpa using ⟨hr, hx⟩, fun k => by simp [absDs, hi, hk, ints]⟩

theorem dSpan {n : Nat} {d : DataW H} (h : tyD Tryz.prog (n + 2) 58 d) : ∃ a b, i64R a ∧ i64R b ∧ ∀ k, absD d k = ([.int .i64 a, .int .i64 b], []) := by
  unfold tyD at h
  simp only [Tryz.underlying58] at h
  obtain ⟨parts, rfl, hp⟩ := h
  match parts, hp with
  | [x, y], hp =>
    obtain ⟨a, ra, ha⟩ := dInt (n := n) hp.1
    obtain ⟨b, rb, hb⟩ := dInt (n := n) hp.2.1
    exact ⟨a, b, ra, rb, fun k => by simp [absD, absDs, ha, hb]⟩
  | [], hp => exact hp.elim
  | [_], hp => exact hp.2.elim
  | _ :: _ :: _ :: _, hp => exact hp.2.2.elim

theorem dSpans {n : Nat} : ∀ (ds : List (DataW H)) (_ : ∀ p ∈ ds, tyD Tryz.prog (n + 2) 58 p), ∃ l : List (Int × Int), l.length = ds.length ∧ (∀ x ∈ l, i64R x.1 ∧ i64R x.2) ∧ ∀ k, absDs ds k = (spans l, [])
  | [], _ => ⟨[], rfl, by simp, fun k => rfl⟩
  | d :: ds, h => by
    obtain ⟨a, b, ra, rb, hi⟩ := dSpan (n := n) (h d (by simp))
    obtain ⟨l, hl, hx, hk⟩ := dSpans (n := n) ds (fun p hp => h p (by simp [hp]))
    exact ⟨(a, b) :: l, by simp [hl], fun x hx' => by
      rcases List.mem_cons.1 hx' with rfl | h'
      · exact ⟨ra, rb⟩
      · exact hx _ h', fun k => by simp [absDs, hi, hk, spans]⟩

/-- What is read of d lies so, whatever heap it is put behind. -/
def Lay (d : DataW H) (R : AH → List Value → Prop) : Prop := ∀ H0 : AH, R (H0 ++ (absD d H0.length).2) (absD d H0.length).1

/-- A slice whose cells are these. -/
def SlD (n : Nat) (cs : List Value) (A : AH) (vs : List Value) : Prop := ∃ v, vs = [v] ∧ Sl A v n cs

theorem SlD.of {ds : List (DataW H)} {sp : List (DataW H)} {cs : List Value} (h : ∀ k, absDs ds k = (cs, [])) : Lay (.slice ds sp) (SlD ds.length (if ds = [] then [] else cs)) := by
  intro H0
  match ds, h with
  | [], _ => exact ⟨_, rfl, none, 1, rfl, fun j x hx => by simp at hx⟩
  | d :: ds, h =>
    refine ⟨_, rfl, _, _, rfl, fun j x hx => ⟨H0.length, 0, rfl, ?_⟩⟩
    simp only [absD, h]
    simp only [hcell, Nat.zero_add, List.getElem?_append_right (Nat.le_refl _), Nat.sub_self, List.getElem?_cons_zero]
    simpa using hx

theorem dIntsS {n : Nat} {d : DataW H} (h : tyD Tryz.prog (n + 2) 22 d) : ∃ l : List Int, l.length ≤ maxLen ∧ (∀ x ∈ l, i64R x) ∧ Lay d (SlD l.length (ints l)) := by
  unfold tyD at h
  simp only [Tryz.underlying22] at h
  rcases h with rfl | ⟨elems, spare, rfl, hl, hp⟩
  · exact ⟨[], by simp, by simp, fun H0 => ⟨_, rfl, none, 1, rfl, fun j x hx => by simp [ints] at hx⟩⟩
  · obtain ⟨l, h1, h2, h3⟩ := dInts (n := n) elems hp
    refine ⟨l, by omega, h2, ?_⟩
    have := SlD.of (sp := spare) h3
    rw [h1]
    by_cases he : elems = []
    · subst he
      obtain rfl : l = [] := List.eq_nil_of_length_eq_zero h1
      simpa [ints] using this
    · simpa [he] using this

theorem dSpansS {n : Nat} {d : DataW H} (h : tyD Tryz.prog (n + 3) 23 d) : ∃ l : List (Int × Int), l.length ≤ maxLen ∧ (∀ x ∈ l, i64R x.1 ∧ i64R x.2) ∧ Lay d (SlD l.length (spans l)) := by
  unfold tyD at h
  simp only [Tryz.underlying23] at h
  rcases h with rfl | ⟨elems, spare, rfl, hl, hp⟩
  · exact ⟨[], by simp, by simp, fun H0 => ⟨_, rfl, none, 1, rfl, fun j x hx => by simp [spans] at hx⟩⟩
  · obtain ⟨l, h1, h2, h3⟩ := dSpans (n := n) elems hp
    refine ⟨l, by omega, h2, ?_⟩
    have := SlD.of (sp := spare) h3
    rw [h1]
    by_cases he : elems = []
    · subst he
      obtain rfl : l = [] := List.eq_nil_of_length_eq_zero h1
      simpa [spans] using this
    · simpa [he] using this

theorem dChart {n : Nat} {d : DataW H} (h : tyD Tryz.prog (n + 4) 25 d) : ∃ c : Ch, (i64R c.w ∧ i64R c.h) ∧ Lay d fun A vs => ∃ dd tt ss, vs = [.int .i64 c.w, .int .i64 c.h, dd, tt, ss] ∧ ChSl A c dd tt ss := by
  unfold tyD at h
  simp only [Tryz.underlying25] at h
  obtain ⟨parts, rfl, hp⟩ := h
  match parts, hp with
  | [x1, x2, x3, x4, x5], hp =>
    obtain ⟨w, rw, hw⟩ := dInt (n := n + 2) hp.1
    obtain ⟨hh, rh, hhh⟩ := dInt (n := n + 2) hp.2.1
    obtain ⟨dep, ld, _, kd⟩ := dIntsS (n := n + 1) hp.2.2.1
    obtain ⟨tid, lt, _, kt⟩ := dSpansS (n := n) hp.2.2.2.1
    obtain ⟨swe, ls, _, ks⟩ := dIntsS (n := n + 1) hp.2.2.2.2.1
    refine ⟨⟨w, hh, dep, tid, swe⟩, ⟨rw, rh⟩, fun H0 => ?_⟩
    obtain ⟨vd, ed, sd⟩ := kd H0
    obtain ⟨vt, et, st⟩ := kt (H0 ++ (absD x3 H0.length).2)
    obtain ⟨vs, es, ss⟩ := ks (H0 ++ (absD x3 H0.length).2 ++ (absD x4 (H0 ++ (absD x3 H0.length).2).length).2)
    simp only [List.length_append] at ed et es sd st ss
    refine ⟨vd, vt, vs, ?_, ?_⟩
    · simp only [absD, absDs, hw, hhh, List.nil_append, List.length_nil, Nat.add_zero, ed, et, List.length_append, es, List.append_nil, List.cons_append]
    · have e : H0 ++ (absD (DataW.agg [x1, x2, x3, x4, x5]) H0.length).2 = H0 ++ (absD x3 H0.length).2 ++ (absD x4 (H0.length + (absD x3 H0.length).2.length)).2 ++ (absD x5 (H0.length + (absD x3 H0.length).2.length + (absD x4 (H0.length + (absD x3 H0.length).2.length)).2.length)).2 := by
        simp only [absD, absDs, hw, hhh, List.nil_append, List.length_nil, Nat.add_zero, List.append_nil, List.append_assoc]
      rw [e]
      have E : ∀ (X l : AH) {v : Value} {k : Nat} {cs : List Value}, Sl X v k cs → Sl (X ++ l) v k cs := fun X l v k cs h => by
        obtain ⟨a, c, e, hk⟩ := h
        refine ⟨a, c, e, fun j x hx => ?_⟩
        obtain ⟨b, o, e1, e2⟩ := hk j x hx
        refine ⟨b, o, e1, ?_⟩
        unfold hcell at e2 ⊢
        cases hb : X[b]? with
        | none => simp [hb] at e2
        | some y => rw [List.getElem?_append_left (List.getElem?_eq_some_iff.1 hb).1]; exact e2
      exact ⟨E _ _ (E _ _ sd), E _ _ st, ss⟩
  | [], hp => exact hp.elim
  | [_], hp => exact hp.2.elim
  | [_, _], hp => exact hp.2.2.elim
  | [_, _, _], hp => exact hp.2.2.2.elim
  | [_, _, _, _], hp => exact hp.2.2.2.2.elim
  | _ :: _ :: _ :: _ :: _ :: _ :: _, hp => exact hp.2.2.2.2.2.elim
end Go.Proofs.YthobfecblpnnnaaGreatDoor
