/- Contracts of the functions, in the abstract machine: windows. -/
import Derived.Test.YtjejcbiilimjkaaDoorFunP
set_option linter.all false
namespace Go.Proofs.YtjejcbiilimjkaaDoor
open Go Go.RowKit

/-- A later heap: what was there, and more. -/
def Pre (H A : AH) : Prop := ∃ J, A = H ++ J
theorem Pre.refl (H : AH) : Pre H H := ⟨[], by simp⟩
theorem Pre.push {H A : AH} (h : Pre H A) (l : AH) : Pre H (A ++ l) := by obtain ⟨J, rfl⟩ := h; exact ⟨J ++ l, by simp⟩
theorem Pre.set {H A : AH} (h : Pre H A) {b : Nat} (hb : H.length ≤ b) (x : ABlk) : Pre H (A.set b x) := by obtain ⟨J, rfl⟩ := h; exact ⟨J.set (b - H.length) x, by rw [List.set_append_right _ _ hb]⟩
theorem Pre.ext {H A : AH} (h : Pre H A) : Ext H A := by obtain ⟨J, rfl⟩ := h; exact Ext.push H J
theorem Pre.trans {H A B : AH} (h : Pre H A) (k : Pre A B) : Pre H B := by obtain ⟨J, rfl⟩ := h; obtain ⟨K, rfl⟩ := k; exact ⟨J ++ K, by simp⟩
theorem Pre.le {H A : AH} (h : Pre H A) : H.length ≤ A.length := by obtain ⟨J, rfl⟩ := h; simp

/-- A list of spans that was made in this run, and that nobody else knows of. -/
def OwnS (n0 : Nat) (A : AH) (v : Value) (l : List (Int × Int)) : Prop :=
  (l = [] ∧ v = .slice none 0 0) ∨ (l ≠ [] ∧ ∃ b, n0 ≤ b ∧ v = .slice (some ⟨b, 0, none⟩) l.length (l.length + 1) ∧ A[b]? = some (.rw 2 (spans l)))

theorem spans_append (l m : List (Int × Int)) : spans (l ++ m) = spans l ++ spans m := by simp [spans]

theorem OwnS.sl {n0 : Nat} {A : AH} {v : Value} {l : List (Int × Int)} (h : OwnS n0 A v l) : Sl A v l.length (spans l) := by
  rcases h with ⟨rfl, rfl⟩ | ⟨_, b, _, rfl, hb⟩
  · exact ⟨none, 0, rfl, fun j x hx => by simp [spans] at hx⟩
  · exact ⟨_, _, rfl, fun j x hx => ⟨b, 0, rfl, by simp only [hcell, hb, Nat.zero_add]; exact hx⟩⟩

/-- A tick more. -/
def growL (l : List (Int × Int)) (k : Int) : List (Int × Int) := match l.getLast? with
  | some (a, z) => if z = k - 1 then l.dropLast ++ [(a, k)] else l ++ [(k, k)]
  | none => [(k, k)]

theorem growL_nil (k : Int) : growL [] k = [(k, k)] := rfl
theorem growL_snoc (m : List (Int × Int)) (a z k : Int) : growL (m ++ [(a, z)]) k = if z = k - 1 then m ++ [(a, k)] else m ++ [(a, z)] ++ [(k, k)] := by simp [growL]

/-- The ticks up to n of which p holds, as spans. -/
def spansTo (p : Nat → Bool) : Nat → List (Int × Int)
  | 0 => []
  | n + 1 => if p n then growL (spansTo p n) n else spansTo p n

theorem growL_length (l : List (Int × Int)) (k : Int) : (growL l k).length ≤ l.length + 1 := by
  rcases List.eq_nil_or_concat l with rfl | ⟨m, ⟨a, z⟩, rfl⟩
  · simp [growL_nil]
  · rw [List.concat_eq_append, growL_snoc]; split <;> simp

theorem spansTo_length (p : Nat → Bool) : ∀ n, (spansTo p n).length ≤ n
  | 0 => by simp [spansTo]
  | n + 1 => by
    have ih := spansTo_length p n
    simp only [spansTo]
    split
    · have := growL_length (spansTo p n) n; omega
    · omega

def spansLoop : SC := sf_chart_sea_spans.body.loops.headD .skip

/-- A function value that says of a tick below n whether p holds. -/
def IsT (H : AH) (f : Value) (n : Nat) (p : Nat → Bool) : Prop := nl f = true ∧ ∀ A, Pre H A → ∀ k lim, k < n → apL Tryd.prog pf f [.int .i64 (k : Nat)] lim A = some (.bool (p k), A)

theorem spans_loop (n : Nat) (hn : n ≤ 1000) (H : AH) (f : Value) (p : Nat → Bool) (hp : IsT H f n p) (S : St) (h1 : tget S.t 1 = f) (h5 : tget S.t 5 = .slice none 0 0) (h11 : tget S.t 11 = .int .i64 n) (h12 : tget S.t 12 = .int .i64 0) (hH : S.H = H) (hlim : S.lim = H.length) :
    ∃ r, exL Tryd.prog pf (.loop spansLoop) S = some r ∧ r.1 = .exit 0 ∧ Pre H r.2.H ∧ OwnS H.length r.2.H (tget r.2.t 5) (spansTo p n) := by
  obtain ⟨hnl, hp⟩ := hp
  refine loop_rule (I := fun m s' => ∃ i, i ≤ n ∧ m = n - i ∧ tget s'.t 1 = f ∧ tget s'.t 11 = .int .i64 n ∧ tget s'.t 12 = .int .i64 i ∧ s'.lim = H.length ∧ Pre H s'.H ∧ OwnS H.length s'.H (tget s'.t 5) (spansTo p i)) ?_ n S
    ⟨0, by omega, by omega, h1, h11, h12, hlim, by rw [hH]; exact Pre.refl H, .inl ⟨rfl, h5⟩⟩
  rintro m s' ⟨i, hi, rfl, e1, e11, e12, el, hpre, hown⟩
  by_cases hlt : i < n
  rotate_left
  · have : i = n := by omega
    subst this
    simp [spansLoop, SC.loops, sf_chart_sea_spans, e1, e11, e12]
    exact ⟨hpre, hown⟩
  have hw : IntKind.i64.wrap ((i : Int) + 1) = (i : Int) + 1 := wrap_i64 (by omega) (by omega)
  have hwm : IntKind.i64.wrap ((i : Int) - 1) = (i : Int) - 1 := wrap_i64 (by omega) (by omega)
  have hr := fun lim => hp s'.H hpre i lim hlt
  have hlen := spansTo_length p i
  obtain ⟨l, hl⟩ : ∃ l, l = spansTo p i := ⟨_, rfl⟩
  rw [← hl] at hown hlen
  have hsucc : spansTo p (i + 1) = if p i then growL l i else l := by rw [hl]; rfl
  obtain ⟨A, hA⟩ : ∃ A, s'.H = A := ⟨_, rfl⟩
  rw [hA] at hpre hown hr
  have hle := hpre.le
  have wm1 : IntKind.i64.wrap (-1) = -1 := by decide
  cases hpi : p i with
  | false =>
    rcases hown with ⟨rfl, e5⟩ | ⟨hne, b, hb, e5, hbA⟩
    · simp [spansLoop, SC.loops, sf_chart_sea_spans, e1, e5, e11, e12, hA, hlt, hw, wm1, hnl, hr, hpi, el]
      exact ⟨_, by omega, i + 1, by omega, rfl, by omega, hpre, by rw [hsucc, hpi]; exact .inl ⟨rfl, rfl⟩⟩
    · have hwl : IntKind.i64.wrap ((l.length : Int) - 1) = (l.length : Int) - 1 := wrap_i64 (by omega) (by omega)
      simp [spansLoop, SC.loops, sf_chart_sea_spans, e1, e5, e11, e12, hA, hlt, hw, hwl, hnl, hr, hpi, el]
      exact ⟨_, by omega, i + 1, by omega, rfl, by omega, hpre, by rw [hsucc, hpi]; exact .inr ⟨hne, b, hb, rfl, hbA⟩⟩
  | true =>
    rcases hown with ⟨rfl, e5⟩ | ⟨hne, b, hb, e5, hbA⟩
    · have hmx : 1 ≤ maxA := by decide
      simp [spansLoop, SC.loops, sf_chart_sea_spans, e1, e5, e11, e12, hA, hlt, hw, wm1, hnl, hr, hpi, el, hmx]
      refine ⟨_, by omega, i + 1, by omega, rfl, by omega, hpre.push _, ?_⟩
      rw [hsucc, hpi]
      exact .inr ⟨by simp [growL_nil], A.length + 1, by omega, by simp [growL_nil], by simp [growL_nil, spans]⟩
    · rcases List.eq_nil_or_concat l with rfl | ⟨m, ⟨a, z⟩, hm⟩
      · exact absurd rfl hne
      rw [List.concat_eq_append] at hm
      obtain ⟨cs, hcs⟩ : ∃ cs, cs = spans l := ⟨_, rfl⟩
      have hml : l.length = m.length + 1 := by rw [hm]; simp
      have hcl : cs.length = (m.length + 1) * 2 := by rw [hcs, spans_length, hml]
      have hcz : cs[m.length * 2 + 1]? = some (.int .i64 z) := by
        have := (spans_get (l := l) (i := m.length) (by omega)).2
        rw [hcs, this]
        simp [hm]
      have hcn : nlL cs = true := by rw [hcs]; exact nlL_spans l
      have hA2 : ∀ L x, cellsAt L (A ++ x) ⟨b, 0, none⟩ ((m.length + 1) * 2) = some cs := fun L x => by
        rw [← hcl]
        refine cellsAt_of cs 0 fun j y hy => ?_
        simp only [hcell, Nat.zero_add]
        rw [List.getElem?_append_left (List.getElem?_eq_some_iff.1 hbA).1, hbA, ← hcs]
        exact hy
      rw [← hcs] at hbA
      rw [hml] at e5 hlen
      have hbl : b < A.length := (List.getElem?_eq_some_iff.1 hbA).1
      have hbX : ∀ x : AH, (A ++ x)[b]? = some (.rw 2 cs) := fun x => by rw [List.getElem?_append_left hbl, hbA]
      have hwl : IntKind.i64.wrap (((m.length : Int) + 1) - 1) = (m.length : Int) := by rw [wrap_i64 (by omega) (by omega)]; omega
      have hwl' : IntKind.i64.wrap (m.length : Int) = (m.length : Int) := wrap_i64 (by omega) (by omega)
      have hmx : m.length + 1 + 1 ≤ maxA := Nat.le_trans (show m.length + 1 + 1 ≤ 2000 by omega) (by decide)
      have hmx' : m.length + 2 ≤ maxA := hmx
      have hix : (m.length : Int) < (m.length : Int) + 1 := by omega
      have hi2 : m.length * 2 + 1 + 1 ≤ (m.length + 1) * 2 := by omega
      have hi3 : m.length * 2 + 2 ≤ (m.length + 1) * 2 := by omega
      have hg : growL l i = if z = (i : Int) - 1 then m ++ [(a, (i : Int))] else m ++ [(a, z)] ++ [((i : Int), (i : Int))] := by rw [hm, growL_snoc]
      by_cases hz : z = (i : Int) - 1
      · simp [spansLoop, SC.loops, sf_chart_sea_spans, e1, e5, e11, e12, hA, hlt, hw, hwm, hwl, hwl', hnl, hr, hpi, el, hbA, hcz, hz, hb, hcl, hix, hi2, hi3]
        refine ⟨_, by omega, i + 1, by omega, rfl, by omega, hpre.set hb _, ?_⟩
        rw [hsucc, hpi]
        simp only [if_true]
        rw [hg, if_pos hz]
        refine .inr ⟨by simp, b, hb, by simp, ?_⟩
        rw [List.getElem?_set_self hbl, hcs, hm, spans_append, spans_append]
        have e2 : m.length * 2 + 1 = (spans m).length + 1 := by rw [spans_length]
        rw [e2, List.set_append_right _ _ (by omega), Nat.add_sub_cancel_left]
        simp [spans]
      · have hzb : (z == (i : Int) - 1) = false := by simpa using hz
        simp [spansLoop, SC.loops, sf_chart_sea_spans, e1, e5, e11, e12, hA, hlt, hw, hwm, hwl, hwl', hnl, hr, hpi, el, hbA, hcz, hzb, hb, hcl, hix, hA2, hbX, hcn, hmx, hmx']
        refine ⟨_, by omega, i + 1, by omega, rfl, by omega, ((hpre.push _).set hb _).push _, ?_⟩
        rw [hsucc, hpi]
        simp only [if_true]
        rw [hg, if_neg hz]
        refine .inr ⟨by simp, A.length + 1, by omega, by simp, ?_⟩
        rw [List.getElem?_append_right (by simp), hcs, hm, spans_append (m ++ [(a, z)])]
        simp [spans]
end Go.Proofs.YtjejcbiilimjkaaDoor
