/- Contracts of layer 6, the program: which ticks a cell is free in. -/
import Derived.Test.YthobfecblpnnnaaGreatDoorLanD
set_option linter.all false
namespace Go.Proofs.YthobfecblpnnnaaGreatDoor
open Go Go.RowKit

/-- The first place at which p holds, or -1. -/
def idxM {α : Type} (p : α → Bool) : List α → Int
  | [] => -1
  | x :: xs => if p x then 0 else match idxM p xs with | .negSucc _ => -1 | .ofNat n => ((n + 1 : Nat) : Int)

theorem idxM_any {α : Type} (p : α → Bool) : ∀ xs : List α, decide (0 ≤ idxM p xs) = xs.any p
  | [] => by simp [idxM]
  | x :: xs => by
    have ih := idxM_any p xs
    unfold idxM
    cases hp : p x with
    | true => simp [hp]
    | false =>
      simp only [if_false, Bool.false_eq_true, List.any_cons, hp, Bool.false_or]
      rw [← ih]
      cases idxM p xs with
      | ofNat n => simp <;> omega
      | negSucc n => simp <;> omega

theorem idxM_app {α : Type} (p : α → Bool) : ∀ (xs : List α) (y : α) (ys : List α), (∀ x ∈ xs, p x = false) → p y = true → idxM p (xs ++ y :: ys) = xs.length
  | [], y, ys, _, hy => by simp [idxM, hy]
  | x :: xs, y, ys, h, hy => by
    have ih := idxM_app p xs y ys (fun z hz => h z (by simp [hz])) hy
    simp only [List.cons_append, idxM, h x (by simp), Bool.false_eq_true, if_false, ih, List.length_cons]
    try rfl
theorem idxM_none {α : Type} (p : α → Bool) : ∀ (xs : List α), (∀ x ∈ xs, p x = false) → idxM p xs = -1
  | [], _ => rfl
  | x :: xs, h => by
    have ih := idxM_none p xs (fun z hz => h z (by simp [hz]))
    simp only [idxM, h x (by simp), Bool.false_eq_true, if_false, ih]
    try rfl
theorem idxM_at {α : Type} (p : α → Bool) (xs : List α) {i : Nat} (hi : i < xs.length) (h : ∀ j (hj : j < xs.length), j < i → p xs[j] = false) (hp : p xs[i] = true) : idxM p xs = i := by
  have e : xs = xs.take i ++ xs[i] :: xs.drop (i + 1) := by rw [List.getElem_cons_drop]; simp
  rw [e, idxM_app p (xs.take i) xs[i] _ (fun x hx => ?_) hp]
  · simp; omega
  · obtain ⟨j, hj, rfl⟩ := List.mem_iff_getElem.1 hx
    have hj' : j < i := by simp at hj; omega
    rw [List.getElem_take]
    exact h j (by omega) hj'

def idxLoopG : SC := sf_slices_IndexFunc_api_Leg_api_Leg.body.loops.headD .skip

theorem run_idxG (xs : List Lg) (H : AH) (lim : Nat) (v f : Value) (p : Lg → Bool) (hv : LgIn H v xs) (hp : IsGo xs H f p) :
    apL Tryz.prog pf (.func (.func 119) #[] #[]) [v, f] lim H = some (.int .i64 (idxM p xs), H) := by
  rw [apL_func _ _ _ _ _ _ (by rfl), sf_slices_IndexFunc_api_Leg_api_Leg_eq]
  obtain ⟨aa, ac, ev⟩ := hv.sl.one
  have hlen := hv.n
  obtain ⟨⟨hn, hu, hcl⟩, hp⟩ := hp
  have hp := fun l hl s hs lim => hp H (Ext.refl H) l hl s hs lim
  simp [sf_slices_IndexFunc_api_Leg_api_Leg, ev]
  generalize hS : ({ t := _, L := _, H := _, lim := _, rd := _ } : St) = S
  have key : ∃ r, exL Tryz.prog pf (.loop idxLoopG) S = some r ∧ r.2.H = H ∧ ((r.1 = .exit 0 ∧ idxM p xs = -1) ∨ (r.1 = .ret ∧ tget r.2.t 4 = .int .i64 (idxM p xs))) := by
    refine loop_rule (I := fun n s' => ∃ i, i ≤ xs.length ∧ n = xs.length - i ∧ tget s'.t 0 = .slice aa xs.length ac ∧ tget s'.t 1 = f ∧ tget s'.t 7 = .int .i64 xs.length ∧ tget s'.t 8 = .int .i64 i ∧ s'.H = H ∧ ∀ j (h : j < xs.length), j < i → p xs[j] = false) ?_ xs.length S
      ⟨0, by omega, by omega, by subst hS; simp [ev], by subst hS; simp, by subst hS; simp, by subst hS; simp, by subst hS; rfl, by omega⟩
    rintro n s' ⟨i, hi, rfl, e0, e1, e7, e8, eH, et⟩
    by_cases hlt : i < xs.length
    · obtain ⟨b1, o1, ac1, ca, cc, e, c0, c1, c2, c3, c4, hsl⟩ := hv.sl.get hlt
      rw [ev] at e
      cases e
      have hps : ∀ lim, apL Tryz.prog pf f [lgV xs[i] (.slice ca xs[i].cs.length cc)] lim H = some (.bool (p xs[i]), H) := fun lim => hp xs[i] (List.getElem_mem hlt) _ ⟨hsl, hv.cl _ (List.getElem_mem hlt)⟩ lim
      have hw : IntKind.i64.wrap ((i : Int) + 1) = (i : Int) + 1 := wrap_i64 (by omega) (by omega)
      generalize hq : xs[i] = q at *
      simp only [hcell, lgV] at c0 c1 c2 c3 c4 hps
      cases hx : p q with
      | true =>
        have hi' := idxM_at p xs hlt et (by rw [hq]; exact hx)
        simp [idxLoopG, SC.loops, sf_slices_IndexFunc_api_Leg_api_Leg, e0, e1, e7, e8, eH, hlt, c0, c1, c2, c3, c4, hw, hn, hps, hx, hi']
      | false =>
        simp [idxLoopG, SC.loops, sf_slices_IndexFunc_api_Leg_api_Leg, e0, e1, e7, e8, eH, hlt, c0, c1, c2, c3, c4, hw, hn, hps, hx]
        exact ⟨_, by omega, i + 1, by omega, rfl, by omega, fun j h hj => by
          by_cases e : j = i
          · subst e; rw [hq]; exact hx
          · exact et j h (by omega)⟩
    · have : i = xs.length := by omega
      subst this
      have hi' : idxM p xs = -1 := idxM_none p xs fun x hx => by
        obtain ⟨j, h, rfl⟩ := List.mem_iff_getElem.1 hx
        exact et j h h
      simp [idxLoopG, SC.loops, sf_slices_IndexFunc_api_Leg_api_Leg, e0, e1, e7, e8, eH, hi']
  obtain ⟨⟨e, s1⟩, hr, q2, q3⟩ := key
  simp [idxLoopG, SC.loops, sf_slices_IndexFunc_api_Leg_api_Leg] at hr
  rw [hr]
  simp only at q2 q3
  rcases q3 with ⟨rfl, h⟩ | ⟨rfl, h⟩
  · simp [h, q2, pf_pure, pureF]
  · simp [h, q2, pf_pure, pureF]

theorem run_anyG (xs : List Lg) (H : AH) (lim : Nat) (v f : Value) (p : Lg → Bool) (hv : LgIn H v xs) (hp : IsGo xs H f p) :
    apL Tryz.prog pf (.func (.func 92) #[] #[]) [v, f] lim H = some (.bool (xs.any p), H) := by
  rw [apL_func _ _ _ _ _ _ (by rfl), sf_slices_ContainsFunc_api_Leg_api_Leg_eq]
  have hI := fun lim => run_idxG xs H lim v f p hv hp
  obtain ⟨aa, ac, ev⟩ := hv.sl.one
  obtain ⟨⟨hn, hu, hcl⟩, _⟩ := hp
  rw [← idxM_any]
  rw [ev] at hI
  simp [sf_slices_ContainsFunc_api_Leg_api_Leg, ev, hn, hI, pf_pure, pureF]

/-! Spans. -/

theorem sca_tup6 (a : Array Value) : sca (.tuple a) = scaL a.toList := by rw [sca]

/-- A list of spans that was made in this run, and that nobody else knows of. -/
def OwnS (n0 : Nat) (A : AH) (v : Value) (l : List (Int × Int)) : Prop :=
  (l = [] ∧ v = .slice none 0 0) ∨ (l ≠ [] ∧ ∃ b, n0 ≤ b ∧ v = .slice (some ⟨b, 0, none⟩) l.length (l.length + 1) ∧ A[b]? = some (.rw 2 (spans l)))

theorem spans_append (l m : List (Int × Int)) : spans (l ++ m) = spans l ++ spans m := by simp [spans]

theorem OwnS.sl {n0 : Nat} {A : AH} {v : Value} {l : List (Int × Int)} (h : OwnS n0 A v l) : Sl A v l.length (spans l) := by
  rcases h with ⟨rfl, rfl⟩ | ⟨_, b, _, rfl, hb⟩
  · exact ⟨none, 0, rfl, fun j x hx => by simp [spans] at hx⟩
  · exact ⟨_, _, rfl, fun j x hx => ⟨b, 0, rfl, by simp only [hcell, hb, Nat.zero_add]; exact hx⟩⟩
theorem OwnS.nl {n0 : Nat} {A : AH} {v : Value} {l : List (Int × Int)} (h : OwnS n0 A v l) : nl v = true := by
  rcases h with ⟨_, rfl⟩ | ⟨_, b, _, rfl, _⟩ <;> simp
theorem OwnS.one {n0 : Nat} {A : AH} {v : Value} {l : List (Int × Int)} (h : OwnS n0 A v l) : ∃ a k, v = .slice a l.length k := by
  rcases h with ⟨rfl, rfl⟩ | ⟨_, b, _, rfl, _⟩
  · exact ⟨_, _, rfl⟩
  · exact ⟨_, _, rfl⟩
theorem OwnS.sca {n0 : Nat} {A : AH} {v : Value} {l : List (Int × Int)} (h : OwnS n0 A v l) (hs : sca v = true) : l = [] ∧ v = .slice none 0 0 := by
  rcases h with h | ⟨_, b, _, rfl, _⟩
  · exact h
  · simp [Go.Proofs.YthobfecblpnnnaaGreatDoor.sca] at hs
theorem OwnS.le {n0 n1 : Nat} {A : AH} {v : Value} {l : List (Int × Int)} (h : OwnS n1 A v l) (hn : n0 ≤ n1) : OwnS n0 A v l := by
  rcases h with h | ⟨h1, b, h2, h3, h4⟩
  · exact .inl h
  · exact .inr ⟨h1, b, by omega, h3, h4⟩
theorem OwnS.aft {n0 : Nat} {A B : AH} {v : Value} {l : List (Int × Int)} (h : OwnS n0 A v l) (hp : Aft A B) : OwnS n0 B v l := by
  rcases h with h | ⟨h1, b, h2, h3, h4⟩
  · exact .inl h
  · exact .inr ⟨h1, b, h2, h3, hp.ext _ _ h4⟩

/-- A tick more. -/
def growL (l : List (Int × Int)) (k : Int) : List (Int × Int) := match l.getLast? with
  | some (a, z) => if z = k - 1 then l.dropLast ++ [(a, k)] else l ++ [(k, k)]
  | none => [(k, k)]

theorem growL_nil (k : Int) : growL [] k = [(k, k)] := rfl
theorem growL_snoc (m : List (Int × Int)) (a z k : Int) : growL (m ++ [(a, z)]) k = if z = k - 1 then m ++ [(a, k)] else m ++ [(a, z)] ++ [(k, k)] := by simp [growL]

/-- The ticks up to n of which p holds, as spans. -/
def spansTo (p : Nat → Bool) : Nat → List (Int × Int)
  | 0 => []
  | n + 1 => if p n then growL (spansTo p n) n else spansTo p n

theorem growL_length (l : List (Int × Int)) (k : Int) : (growL l k).length ≤ l.length + 1 := by
  rcases List.eq_nil_or_concat l with rfl | ⟨m, ⟨a, z⟩, rfl⟩
  · simp [growL_nil]
  · rw [List.concat_eq_append, growL_snoc]; split <;> simp

theorem spansTo_length (p : Nat → Bool) : ∀ n, (spansTo p n).length ≤ n
  | 0 => by simp [spansTo]
  | n + 1 => by
    have ih := spansTo_length p n
    simp only [spansTo]
    split
    · have := growL_length (spansTo p n) n; omega
    · omega

def spansLoop : SC := sf_lists_Spans.body.loops.headD .skip

/-- A function value that says of a tick below n whether p holds. -/
def IsTk (H : AH) (f : Value) (n : Nat) (p : Nat → Bool) : Prop := nl f = true ∧ ∀ A, Aft H A → ∀ k lim, k < n → apL Tryz.prog pf f [.int .i64 (k : Nat)] lim A = some (.bool (p k), A)

set_option maxHeartbeats 1000000 in
theorem spans_loop (n : Nat) (hn : n ≤ 1000) (H : AH) (f : Value) (p : Nat → Bool) (hp : IsTk H f n p) (S : St) (h1 : tget S.t 1 = f) (h5 : tget S.t 5 = .slice none 0 0) (h8 : tget S.t 8 = .int .i64 n) (h9 : tget S.t 9 = .int .i64 0) (hH : S.H = H) (hlim : S.lim = H.length) :
    ∃ r, exL Tryz.prog pf (.loop spansLoop) S = some r ∧ r.1 = .exit 0 ∧ Aft H r.2.H ∧ OwnS H.length r.2.H (tget r.2.t 5) (spansTo p n) := by
  obtain ⟨hnl, hp⟩ := hp
  refine loop_rule (I := fun m s' => ∃ i, i ≤ n ∧ m = n - i ∧ tget s'.t 1 = f ∧ tget s'.t 8 = .int .i64 n ∧ tget s'.t 9 = .int .i64 i ∧ s'.lim = H.length ∧ Aft H s'.H ∧ OwnS H.length s'.H (tget s'.t 5) (spansTo p i)) ?_ n S
    ⟨0, by omega, by omega, h1, h8, h9, hlim, by rw [hH]; exact Aft.refl H, .inl ⟨rfl, h5⟩⟩
  rintro m s' ⟨i, hi, rfl, e1, e8, e9, el, hpre, hown⟩
  by_cases hlt : i < n
  rotate_left
  · have : i = n := by omega
    subst this
    simp [spansLoop, SC.loops, sf_lists_Spans, e1, e8, e9]
    exact ⟨hpre, hown⟩
  have hw : IntKind.i64.wrap ((i : Int) + 1) = (i : Int) + 1 := wrap_i64 (by omega) (by omega)
  have hwm : IntKind.i64.wrap ((i : Int) - 1) = (i : Int) - 1 := wrap_i64 (by omega) (by omega)
  have hr := fun lim => hp s'.H hpre i lim hlt
  have hlen := spansTo_length p i
  obtain ⟨l, hl⟩ : ∃ l, l = spansTo p i := ⟨_, rfl⟩
  rw [← hl] at hown hlen
  have hsucc : spansTo p (i + 1) = if p i then growL l i else l := by rw [hl]; rfl
  obtain ⟨A, hA⟩ : ∃ A, s'.H = A := ⟨_, rfl⟩
  rw [hA] at hpre hown hr
  have hle := hpre.le
  have wm1 : IntKind.i64.wrap (-1) = -1 := by decide
  cases hpi : p i with
  | false =>
    rcases hown with ⟨rfl, e5⟩ | ⟨hne, b, hb, e5, hbA⟩
    · simp [spansLoop, SC.loops, sf_lists_Spans, e1, e5, e8, e9, hA, hlt, hw, wm1, hnl, hr, hpi, el]
      exact ⟨_, by omega, i + 1, by omega, rfl, by omega, hpre, by rw [hsucc, hpi]; exact .inl ⟨rfl, rfl⟩⟩
    · have hwl : IntKind.i64.wrap ((l.length : Int) - 1) = (l.length : Int) - 1 := wrap_i64 (by omega) (by omega)
      simp [spansLoop, SC.loops, sf_lists_Spans, e1, e5, e8, e9, hA, hlt, hw, hwl, hnl, hr, hpi, el]
      exact ⟨_, by omega, i + 1, by omega, rfl, by omega, hpre, by rw [hsucc, hpi]; exact .inr ⟨hne, b, hb, rfl, hbA⟩⟩
  | true =>
    rcases hown with ⟨rfl, e5⟩ | ⟨hne, b, hb, e5, hbA⟩
    · have hmx : 1 ≤ maxA := by decide
      simp [spansLoop, SC.loops, sf_lists_Spans, e1, e5, e8, e9, hA, hlt, hw, wm1, hnl, hr, hpi, el, hmx]
      refine ⟨_, by omega, i + 1, by omega, rfl, by omega, hpre.push _, ?_⟩
      rw [hsucc, hpi]
      exact .inr ⟨by simp [growL_nil], A.length + 1, by omega, by simp [growL_nil], by simp [growL_nil, spans]⟩
    · rcases List.eq_nil_or_concat l with rfl | ⟨m, ⟨a, z⟩, hm⟩
      · exact absurd rfl hne
      rw [List.concat_eq_append] at hm
      obtain ⟨cs, hcs⟩ : ∃ cs, cs = spans l := ⟨_, rfl⟩
      have hml : l.length = m.length + 1 := by rw [hm]; simp
      have hcl : cs.length = (m.length + 1) * 2 := by rw [hcs, spans_length, hml]
      have hcz : cs[m.length * 2 + 1]? = some (.int .i64 z) := by
        have := (spans_get (l := l) (i := m.length) (by omega)).2
        rw [hcs, this]
        simp [hm]
      have hcn : nlL cs = true := by rw [hcs]; exact nlL_spans l
      have hA2 : ∀ L x, cellsAt L (A ++ x) ⟨b, 0, none⟩ ((m.length + 1) * 2) = some cs := fun L x => by
        rw [← hcl]
        refine cellsAt_of cs 0 fun j y hy => ?_
        simp only [hcell, Nat.zero_add]
        rw [List.getElem?_append_left (List.getElem?_eq_some_iff.1 hbA).1, hbA, ← hcs]
        exact hy
      rw [← hcs] at hbA
      rw [hml] at e5 hlen
      have hbl : b < A.length := (List.getElem?_eq_some_iff.1 hbA).1
      have hbX : ∀ x : AH, (A ++ x)[b]? = some (.rw 2 cs) := fun x => by rw [List.getElem?_append_left hbl, hbA]
      have hwl : IntKind.i64.wrap (((m.length : Int) + 1) - 1) = (m.length : Int) := by rw [wrap_i64 (by omega) (by omega)]; omega
      have hwl' : IntKind.i64.wrap (m.length : Int) = (m.length : Int) := wrap_i64 (by omega) (by omega)
      have hmx : m.length + 1 + 1 ≤ maxA := Nat.le_trans (show m.length + 1 + 1 ≤ 2000 by omega) (by decide)
      have hmx' : m.length + 2 ≤ maxA := hmx
      have hix : (m.length : Int) < (m.length : Int) + 1 := by omega
      have hi2 : m.length * 2 + 1 + 1 ≤ (m.length + 1) * 2 := by omega
      have hi3 : m.length * 2 + 2 ≤ (m.length + 1) * 2 := by omega
      have hg : growL l i = if z = (i : Int) - 1 then m ++ [(a, (i : Int))] else m ++ [(a, z)] ++ [((i : Int), (i : Int))] := by rw [hm, growL_snoc]
      by_cases hz : z = (i : Int) - 1
      · simp [spansLoop, SC.loops, sf_lists_Spans, e1, e5, e8, e9, hA, hlt, hw, hwm, hwl, hwl', hnl, hr, hpi, el, hbA, hcz, hz, hb, hcl, hix, hi2, hi3]
        refine ⟨_, by omega, i + 1, by omega, rfl, by omega, hpre.set hb _, ?_⟩
        rw [hsucc, hpi]
        simp only [if_true]
        rw [hg, if_pos hz]
        refine .inr ⟨by simp, b, hb, by simp, ?_⟩
        rw [List.getElem?_set_self hbl, hcs, hm, spans_append, spans_append]
        have e2 : m.length * 2 + 1 = (spans m).length + 1 := by rw [spans_length]
        rw [e2, List.set_append_right _ _ (by omega), Nat.add_sub_cancel_left]
        simp [spans]
      · have hzb : (z == (i : Int) - 1) = false := by simpa using hz
        simp [spansLoop, SC.loops, sf_lists_Spans, e1, e5, e8, e9, hA, hlt, hw, hwm, hwl, hwl', hnl, hr, hpi, el, hbA, hcz, hzb, hb, hcl, hix, hA2, hbX, hcn, hmx, hmx']
        refine ⟨_, by omega, i + 1, by omega, rfl, by omega, ((hpre.push _).set hb _).push _, ?_⟩
        rw [hsucc, hpi]
        simp only [if_true]
        rw [hg, if_neg hz]
        refine .inr ⟨by simp, A.length + 1, by omega, by simp, ?_⟩
        rw [List.getElem?_append_right (by simp), hcs, hm, spans_append (m ++ [(a, z)])]
        simp [spans]

theorem run_Spans (n : Nat) (hn : n ≤ 1000) (H : AH) (f : Value) (p : Nat → Bool) (hp : IsTk H f n p) (lim : Nat) :
    ∃ v A, apL Tryz.prog pf (.func (.func 90) #[] #[]) [.int .i64 n, f] lim H = some (v, A) ∧ Aft H A ∧ OwnS H.length A v (spansTo p n) := by
  rw [apL_func _ _ _ _ _ _ (by rfl), sf_lists_Spans_eq]
  simp [sf_lists_Spans, pf_pure, pureF]
  generalize hS : ({ t := _, L := _, H := _, lim := _, rd := _ } : St) = S
  obtain ⟨⟨e, s1⟩, hr, q1, q2, q3⟩ := spans_loop n hn H f p hp S (by subst hS; simp) (by subst hS; simp) (by subst hS; simp) (by subst hS; simp) (by subst hS; rfl) (by subst hS; rfl)
  simp [spansLoop, SC.loops, sf_lists_Spans] at hr
  rw [hr]
  simp only at q1 q2 q3
  subst q1
  simp [q3.nl]
  cases hsv : sca (tget s1.t 5)
  · simp [hsv]
    exact ⟨_, _, ⟨rfl, rfl⟩, q2, q3⟩
  · obtain ⟨h1, h2⟩ := q3.sca hsv
    simp [hsv]
    exact ⟨_, _, ⟨rfl, rfl⟩, Aft.refl H, .inl ⟨h1, h2⟩⟩

/-! Which ticks a cell is free in. -/

/-- Each leg is within the chart's ticks. -/
def LgsIn (ls : List Lg) : Prop := ∀ l ∈ ls, -1000 ≤ l.t0 ∧ l.t0 ≤ 1000

/-- Whether no unit at a level occupies a cell. -/
def freeB (ls : List Lg) (lv cell : Int) (k : Nat) : Bool := !(ls.any fun l => l.lv == lv && (l.sp k).occ cell)

def frF (lvB tkB ceB : Nat) : Value := .func (.func 93) #[] #[.pointer (some ⟨lvB, 0, none⟩), .pointer (some ⟨tkB, 0, none⟩), .pointer (some ⟨ceB, 0, none⟩)]

theorem isGo_fr (ls : List Lg) (hin : LgsIn ls) (lv cell : Int) (k : Nat) (hk : k ≤ 800) (H : AH) (b1 b2 b3 : Nat) (h1 : H[b1]? = some (.rw 0 [.int .i64 lv])) (h2 : H[b2]? = some (.rw 0 [.int .i64 k])) (h3 : H[b3]? = some (.rw 0 [.int .i64 cell])) :
    IsGo ls H (frF b1 b2 b3) (fun l => l.lv == lv && (l.sp k).occ cell) := by
  refine ⟨⟨by simp [frF], rfl, rfl⟩, fun H' hH l hl s hs lim => ?_⟩
  have k1 := hH _ _ h1
  have k2 := hH _ _ h2
  have k3 := hH _ _ h3
  have hsp := fun lim => run_spotIn l k (by omega) (hin l hl) lim H' s hs
  have hoc := fun lim => run_occ (l.sp k) cell lim H'
  obtain ⟨⟨sa, sc, rfl, _⟩, _⟩ := hs
  unfold frF
  rw [apL_func _ _ _ _ _ _ (by rfl), sf_lanes_traffic_free_1_1_eq]
  simp only [lgV, spoV] at hsp hoc ⊢
  cases hlv : (l.lv == lv) with
  | false => simp [sf_lanes_traffic_free_1_1, k1, k2, k3, hlv, pf_pure, pureF]
  | true => simp [sf_lanes_traffic_free_1_1, k1, k2, k3, hlv, hsp, hoc, pf_pure, pureF]

def frTF (n : Nat) : Value := .func (.func 91) #[] #[.pointer (some ⟨n, 0, none⟩), .pointer (some ⟨n + 1, 0, none⟩), .pointer (some ⟨n + 2, 0, none⟩)]

theorem isTk_fr (c : Ch) (hT : c.ticks ≤ 60) (ls : List Lg) (hin : LgsIn ls) (lv cell : Int) (H : AH) (d t s v : Value) (hv : LgIn H v ls) (n : Nat) (h1 : H[n]? = some (.rw 0 [.int .i64 c.w, .int .i64 c.h, d, t, s, v])) (h2 : H[n + 1]? = some (.rw 0 [.int .i64 lv])) (h3 : H[n + 2]? = some (.rw 0 [.int .i64 cell])) :
    IsTk H (frTF n) c.ticks (freeB ls lv cell) := by
  refine ⟨by simp [frTF], fun A hA k lim hk => ?_⟩
  have k1 := hA.ext _ _ h1
  have k2 := hA.ext _ _ h2
  have k3 := hA.ext _ _ h3
  obtain ⟨B, hB⟩ : ∃ B, B = A ++ [ABlk.rw 0 [.int .i64 (k : Nat)]] := ⟨_, rfl⟩
  have hE : Ext A B := by rw [hB]; exact Ext.push A _
  have hany := fun lim => run_anyG ls B lim v _ _ ((hv.ext hA.ext).ext hE) (isGo_fr ls hin lv cell k (by omega) B (n + 1) A.length (n + 2) (hE _ _ k2) (by rw [hB]; simp) (hE _ _ k3))
  obtain ⟨va, vc, ev⟩ := hv.sl.one
  rw [hB] at hany
  simp only [frF, ev] at hany
  unfold frTF
  rw [apL_func _ _ _ _ _ _ (by rfl), sf_lanes_traffic_free_1_eq]
  simp only [ev] at k1
  unfold freeB
  simp [-List.any_eq_true, sf_lanes_traffic_free_1, k1, k2, k3, hany, pf_pure, pureF]

theorem run_free (c : Ch) (hok : ChOk c) (ls : List Lg) (hin : LgsIn ls) (lv cell : Int) (H : AH) (d t s v : Value) (hc : ChIn H c d t s) (hv : LgIn H v ls) (lim : Nat) :
    ∃ r A, apL Tryz.prog pf (.func (.func 53) #[] #[]) [trV c d t s v, .int .i64 lv, .int .i64 cell] lim H = some (r, A) ∧ Aft H A ∧ OwnS H.length A r (spansTo (freeB ls lv cell) c.ticks) := by
  rw [apL_func _ _ _ _ _ _ (by rfl), sf_lanes_traffic_free_eq]
  have hT : c.ticks ≤ 60 := hok.2.2.2.1.2
  obtain ⟨B, hB⟩ : ∃ B, B = H ++ [ABlk.rw 0 [.int .i64 c.w, .int .i64 c.h, d, t, s, v], .rw 0 [.int .i64 lv], .rw 0 [.int .i64 cell]] := ⟨_, rfl⟩
  have hE : Ext H B := by rw [hB]; exact Ext.push H _
  have hAf : Aft H B := by rw [hB]; exact (Aft.refl H).push _
  obtain ⟨r, A, hR, hA, hO⟩ := run_Spans c.ticks (by omega) B (frTF H.length) _ (isTk_fr c hT ls hin lv cell B d t s v (hv.ext hE) H.length (by rw [hB]; simp) (by rw [hB]; simp) (by rw [hB, List.getElem?_append_right (by omega), Nat.add_sub_cancel_left]; rfl)) H.length
  have hAA := hAf.trans hA
  have hOO := hO.le (n0 := H.length) hAf.le
  obtain ⟨va, vc, ev⟩ := hv.sl.one
  obtain ⟨⟨da, dc, ed, _⟩, ⟨ta, tc, et, _⟩, ⟨sa, sc, es, _⟩, _, _, _⟩ := hc
  rw [hB] at hR
  simp only [frTF, ed, et, es, ev, Ch.ticks] at hR
  have hnl := hOO.nl
  obtain ⟨ra, rc, er⟩ := hOO.one
  cases hsv : sca r with
  | false =>
    refine ⟨r, A, ?_, hAA, hOO⟩
    subst er
    simp [-sca, sf_lanes_traffic_free, trV, ed, et, es, ev, hR, hsv, pf_pure, pureF]
  | true =>
    obtain ⟨h1, h2⟩ := hOO.sca hsv
    refine ⟨r, H, ?_, Aft.refl H, .inl ⟨h1, h2⟩⟩
    subst er
    simp [-sca, sf_lanes_traffic_free, trV, ed, et, es, ev, hR, hsv, pf_pure, pureF]

/-- Free: the list and its error. -/
noncomputable def lfreeE (c : Ch) (ls : List Lg) (lv cell : Int) : Int := if legE c ls = 0 then (if (0 ≤ lv ∧ lv ≤ 3) ∧ inN c.cells cell = true then 0 else 1) else legE c ls
noncomputable def lfreeS (c : Ch) (ls : List Lg) (lv cell : Int) : List (Int × Int) := if lfreeE c ls lv cell = 0 then spansTo (freeB ls lv cell) c.ticks else []

theorem lgsIn_of {c : Ch} (hok : ChOk c) {ls : List Lg} (h : ls.all (lgOk c) = true) : LgsIn ls := fun l hl => by
  have := List.all_eq_true.1 h l hl
  simp only [lgOk, Bool.and_eq_true] at this
  obtain ⟨n0, h1, h2⟩ := inN_iff.1 this.1.1.1.2
  have hT : c.ticks ≤ 60 := hok.2.2.2.1.2
  omega

theorem run_Free (c : Ch) (ls : List Lg) (lv cell : Int) (H : AH) (d t s v : Value) (hc : ChIn H c d t s) (hv : LgIn H v ls) (lim : Nat) :
    ∃ r A, apL Tryz.prog pf (.func (.func 23) #[] #[]) [chV c d t s, v, .int .i64 lv, .int .i64 cell] lim H = some (.tuple #[r, .int .i64 (lfreeE c ls lv cell)], A) ∧ Aft H A ∧ OwnS H.length A r (lfreeS c ls lv cell) := by
  rw [apL_func _ _ _ _ _ _ (by rfl), sf_lanes_Free_eq]
  have hO := fun lim => run_lopen c ls H d t s v hc hv lim
  by_cases h0 : legE c ls = 0
  rotate_left
  · have e1 : lfreeE c ls lv cell = legE c ls := by unfold lfreeE; rw [if_neg h0]
    have e2 : lfreeS c ls lv cell = [] := by unfold lfreeS; rw [e1, if_neg h0]
    have h0' : (legE c ls != 0) = true := by simpa using h0
    refine ⟨.slice none 0 0, H, ?_, Aft.refl H, .inl ⟨e2, rfl⟩⟩
    obtain ⟨va, vc, ev⟩ := hv.sl.one
    obtain ⟨⟨da, dc, ed, _⟩, ⟨ta, tc, et, _⟩, ⟨sa, sc, es, _⟩, _, _, _⟩ := hc
    simp only [chV, noTr, ed, et, es, ev, h0, if_false] at hO
    simp [sf_lanes_Free, chV, ed, et, es, ev, hO, h0', e1, pf_pure, pureF]
  obtain ⟨hok, hl12, hall⟩ := legE_zero.1 h0
  have hL := fun lim => run_isLevel lv lim H
  obtain ⟨va, vc, ev⟩ := hv.sl.one
  have hC := fun lim => run_trCell c cell lim H d t s hc va ls.length vc
  obtain ⟨r, A, hF, hA, hOw⟩ := run_free c hok ls (lgsIn_of hok hall) lv cell H d t s v hc hv H.length
  have hnl := hOw.nl
  obtain ⟨ra, rc, er⟩ := hOw.one
  obtain ⟨⟨da, dc, ed, _⟩, ⟨ta, tc, et, _⟩, ⟨sa, sc, es, _⟩, _, _, _⟩ := hc
  simp only [chV, trV, ed, et, es, ev, h0, if_true] at hO hC hF
  cases a1 : (decide (0 ≤ lv) && decide (lv ≤ 3)) with
  | false =>
    rw [a1] at hL
    have a1' : ¬ (0 ≤ lv ∧ lv ≤ 3) := by simpa using a1
    have e1 : lfreeE c ls lv cell = 1 := by unfold lfreeE; rw [if_pos h0, if_neg (fun h => a1' h.1)]
    have e2 : lfreeS c ls lv cell = [] := by unfold lfreeS; rw [e1]; rfl
    refine ⟨.slice none 0 0, H, ?_, Aft.refl H, .inl ⟨e2, rfl⟩⟩
    simp [sf_lanes_Free, chV, ed, et, es, ev, hO, hL, e1, pf_pure, pureF]
  | true =>
  rw [a1] at hL
  have a1' : 0 ≤ lv ∧ lv ≤ 3 := by simpa using a1
  cases a2 : inN c.depth.length cell with
  | false =>
    rw [a2] at hC
    have a2' : inN c.cells cell = false := a2
    have e1 : lfreeE c ls lv cell = 1 := by unfold lfreeE; rw [if_pos h0, if_neg (by simp [a2'])]
    have e2 : lfreeS c ls lv cell = [] := by unfold lfreeS; rw [e1]; rfl
    refine ⟨.slice none 0 0, H, ?_, Aft.refl H, .inl ⟨e2, rfl⟩⟩
    simp [sf_lanes_Free, chV, ed, et, es, ev, hO, hL, hC, e1, pf_pure, pureF]
  | true =>
    rw [a2] at hC
    have a2' : inN c.cells cell = true := a2
    have e1 : lfreeE c ls lv cell = 0 := by unfold lfreeE; rw [if_pos h0, if_pos ⟨a1', a2'⟩]
    have e2 : lfreeS c ls lv cell = spansTo (freeB ls lv cell) c.ticks := by unfold lfreeS; rw [e1]; rfl
    rw [e2]
    cases hsv : sca r with
    | false =>
      refine ⟨r, A, ?_, hA, hOw⟩
      subst er
      have hst : Go.Proofs.YthobfecblpnnnaaGreatDoor.sca (.tuple #[.slice ra (spansTo (freeB ls lv cell) c.ticks).length rc, .int .i64 0]) = false := by
        rw [sca_tup6]
        simp only [scaL, hsv, Bool.false_and]
      simp [-sca, sf_lanes_Free, chV, ed, et, es, ev, hO, hL, hC, hF, e1, hsv, hst, pf_pure, pureF]
    | true =>
      obtain ⟨h1, h2⟩ := hOw.sca hsv
      refine ⟨r, H, ?_, Aft.refl H, .inl ⟨h1, h2⟩⟩
      subst h2
      simp only [h1, List.length_nil] at er
      simp [sf_lanes_Free, chV, ed, et, es, ev, hO, hL, hC, hF, e1, pf_pure, pureF]
end Go.Proofs.YthobfecblpnnnaaGreatDoor
