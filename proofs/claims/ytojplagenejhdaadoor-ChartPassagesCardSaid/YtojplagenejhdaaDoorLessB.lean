/- Contracts of the functions, in the abstract machine: the loops of the law ChartLess. -/
import Derived.Test.YtojplagenejhdaaDoorLessA
set_option linter.all false
namespace Go.Proofs.YtojplagenejhdaaDoor
open Go Go.RowKit

def lessLoop1 : SC := sf_coblelaw01_ChartLess.body.loops.headD .skip
def lessLoop2 : SC := sf_coblelaw01_ChartLess.body.loops.getD 1 .skip

def nOk (x y : Int × Int) : Prop := y.1 ≤ x.1 ∧ x.2 ≤ y.2 ∧ x.1 ≤ x.2

def lessL (c : Ch) (H : AH) (g a b : Int) (d t s : Value) : LS :=
  [(9, 0, .cells [.int .i64 c.w, .int .i64 c.h, cpd H c, cpt H c, cps H c]), (9, 0, .cells [.int .i64 0, .int .i64 0, .slice none 0 0, .slice none 0 0, .slice none 0 0]), (5, 0, .cells [.int .i64 g, .int .i64 a, .int .i64 b]), (4, 0, .cells [.int .i64 c.w, .int .i64 c.h, d, t, s])]

theorem cpX_get3 (H : AH) (c : Ch) (l : List (Int × Int)) : (H ++ cpX c l)[H.length + 3]? = some (.rw 2 (spans l)) := by rw [List.getElem?_append_right (by omega), Nat.add_sub_cancel_left]; rfl
theorem cpX_set3 (H : AH) (c : Ch) (l l' : List (Int × Int)) : (H ++ cpX c l).set (H.length + 3) (.rw 2 (spans l')) = H ++ cpX c l' := by rw [List.set_append_right _ _ (by omega), Nat.add_sub_cancel_left]; rfl

theorem less_loop1 (c : Ch) (hok : ChOk c) (H : AH) (hG : H[waysG]? = some (.ro waysV)) (d t s nv : Value) (hc : ChIn H c d t s) (g a b by' : Int) (nar : List (Int × Int)) (hn : nar.length = c.tide.length) (hnv : Sl H nv nar.length (spans nar)) (S : St)
    (h2 : tget S.t 2 = .int .i64 by') (h3 : tget S.t 3 = nv) (h4 : tget S.t 4 = .pointer (some ⟨4, 0, some 0⟩)) (h5 : tget S.t 5 = .pointer (some ⟨5, 0, some 0⟩)) (h9 : tget S.t 9 = .pointer (some ⟨9, 0, some 0⟩)) (h10 : tget S.t 10 = .int .i64 0) (hL : S.L = (9, 0, .cells [.int .i64 c.w, .int .i64 c.h, cpd H c, cpt H c, cps H c]) :: (lessL c H g a b d t s).tail) (hH : S.H = H ++ cpX c c.tide) (hlim : S.lim = H.length) :
    ∃ q, exL Tryd.prog pf (.loop lessLoop1) S = some q ∧ ((q.1 = .ret ∧ tget q.2.t 8 = .bool true) ∨
      (q.1 = .exit 0 ∧ (∀ i (h : i < nar.length) (h' : i < c.tide.length), nOk nar[i] c.tide[i]) ∧ q.2.H = H ++ cpX c nar ∧ q.2.L = S.L ∧ q.2.lim = S.lim ∧ tget q.2.t 2 = tget S.t 2 ∧ tget q.2.t 4 = tget S.t 4 ∧ tget q.2.t 5 = tget S.t 5 ∧ tget q.2.t 9 = tget S.t 9)) := by
  have hT : c.tide.length ≤ 60 := hok.2.2.2.1.2
  obtain ⟨na, nc, env, hnv'⟩ := hnv
  refine loop_rule (I := fun m s' => ∃ i, i ≤ c.tide.length ∧ m = c.tide.length - i ∧ tget s'.t 2 = .int .i64 by' ∧ tget s'.t 3 = nv ∧ tget s'.t 4 = .pointer (some ⟨4, 0, some 0⟩) ∧ tget s'.t 5 = .pointer (some ⟨5, 0, some 0⟩) ∧ tget s'.t 9 = .pointer (some ⟨9, 0, some 0⟩) ∧ tget s'.t 10 = .int .i64 i ∧ s'.L = S.L ∧ s'.lim = H.length ∧ s'.H = H ++ cpX c (mixT nar c.tide i) ∧ ∀ j (h : j < nar.length) (h' : j < c.tide.length), j < i → nOk nar[j] c.tide[j]) ?_ c.tide.length S
    ⟨0, by omega, by omega, h2, h3, h4, h5, h9, h10, rfl, hlim, by rw [mixT_zero]; exact hH, fun j h h' k => by omega⟩
  rintro m s' ⟨i, hi, rfl, e2, e3, e4, e5, e9, e10, eL, el, eH, hok'⟩
  by_cases hlt : i < c.tide.length
  rotate_left
  · have : i = c.tide.length := by omega
    subst this
    rw [mixT_all hn] at eH
    simp [lessLoop1, SC.loops, sf_coblelaw01_ChartLess, e2, e3, e4, e5, e9, e10, eL, eH, el, env, hn, h2, h4, h5, h9, hlim]
    exact fun j h h' => hok' j (by omega) h' h'
  have hin : i < nar.length := by omega
  obtain ⟨b1, o1, rfl, c1⟩ := hnv' _ _ (spans_get hin).1
  obtain ⟨_, _, e, c2⟩ := hnv' _ _ (spans_get hin).2
  cases e
  rw [show o1 + (i * 2 + 1) = o1 + i * 2 + 1 by omega] at c2
  have hbl : ∀ {b k : Nat} {x : Value}, hcell H b k = some x → b < H.length := fun {b k x} h => by
    unfold hcell at h
    cases hx : H[b]? with
    | none => rw [hx] at h; simp at h
    | some y => exact (List.getElem?_eq_some_iff.1 hx).1
  have cx : ∀ {b k : Nat} {x : Value} (X : AH), hcell H b k = some x → hcell (H ++ X) b k = some x := fun {b k x} X h => by
    have := hbl h
    unfold hcell at h ⊢
    rw [List.getElem?_append_left this]
    exact h
  obtain ⟨l1, hl1⟩ : ∃ l1, l1 = mixT nar c.tide i := ⟨_, rfl⟩
  rw [← hl1] at eH
  obtain ⟨ta, tc, et, htt⟩ := hc.t
  obtain ⟨b2, o2, rfl, d1⟩ := htt _ _ (spans_get hlt).1
  obtain ⟨_, _, e, d2⟩ := htt _ _ (spans_get hlt).2
  cases e
  rw [show o2 + (i * 2 + 1) = o2 + i * 2 + 1 by omega] at d2
  have c1' := cx (cpX c l1) c1
  have c2' := cx (cpX c l1) c2
  have d1' := cx (cpX c l1) d1
  have d2' := cx (cpX c l1) d2
  have g3 := cpX_get3 H c l1
  have hset := mixT_set hn hin
  rw [← hl1] at hset
  simp only [over] at hset
  have hs3 := cpX_set3 H c l1 (mixT nar c.tide (i + 1))
  have hle : i * 2 + 2 ≤ (spans l1).length := by rw [spans_length, hl1, mixT_len hn]; omega
  have hle' : i * 2 + 1 + 1 ≤ (spans l1).length := hle
  have hW := fun lim => run_works lim (H ++ cpX c l1) (hG_ext _ hG)
  have hw1 : IntKind.i64.wrap ((i : Int) + 1) = (i : Int) + 1 := wrap_i64 (by omega) (by omega)
  have hlT : (i : Int) < (c.tide.length : Int) := by omega
  have hl3 : H.length ≤ H.length + 3 := by omega
  simp only [hcell] at c1' c2' d1' d2'
  rw [hL] at eL
  simp only [lessL, List.tail, et, cpt] at eL hL
  generalize hcs : spans l1 = cs at *
  by_cases p1 : nar[i].1 < c.tide[i].1
  · simp [lessLoop1, SC.loops, sf_coblelaw01_ChartLess, e2, e3, e4, e5, e9, e10, eL, eH, el, env, hn, hlt, hlT, c1', c2', d1', d2', p1, hW]
  by_cases p2 : c.tide[i].2 < nar[i].2
  · simp [lessLoop1, SC.loops, sf_coblelaw01_ChartLess, e2, e3, e4, e5, e9, e10, eL, eH, el, env, hn, hlt, hlT, c1', c2', d1', d2', p1, p2, hW]
  by_cases p3 : nar[i].2 < nar[i].1
  · simp [lessLoop1, SC.loops, sf_coblelaw01_ChartLess, e2, e3, e4, e5, e9, e10, eL, eH, el, env, hn, hlt, hlT, c1', c2', d1', d2', p1, p2, p3, hW]
  simp [lessLoop1, SC.loops, sf_coblelaw01_ChartLess, e2, e3, e4, e5, e9, e10, eL, eH, el, env, hn, hlt, hlT, c1', c2', d1', d2', p1, p2, p3, hw1, g3, hset, hs3, hle, hle', h2, h4, h5, h9, hlim, hL]
  exact ⟨_, by omega, i + 1, by omega, rfl, by omega, rfl, fun j h h' hj => by
    by_cases e : j = i
    · subst e; exact ⟨by omega, by omega, by omega⟩
    · exact hok' j (by omega) h' (by omega)⟩
end Go.Proofs.YtojplagenejhdaaDoor
