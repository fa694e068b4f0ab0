/- Contracts of the functions, in the abstract machine: the law ChartWindows. -/
import Derived.Test.YtjejcbiilimjkaaDoorFunT
set_option linter.all false
namespace Go.Proofs.YtjejcbiilimjkaaDoor
open Go Go.RowKit

theorem run_refWindows (c : Ch) (H : AH) (d t s : Value) (hc : ChIn H c d t s) (r : Rp) :
    ∃ v1 v2 A, (∀ lim, apL Tryd.prog pf (.func (.func 35) #[] #[]) [chV c d t s, rpV r] lim H = some (.tuple #[v1, v2, .int .i64 (winE c r)], A)) ∧ Pre H A ∧ OwnS H.length A v1 (winS c r) ∧ OwnS H.length A v2 (winM c r) := by
  by_cases hok : ChOk c
  rotate_left
  · have e1 : winE c r = 10 := by unfold winE; rw [if_neg hok]
    have e2 : winS c r = [] ∧ winM c r = [] := by unfold winS winM; rw [e1]; exact ⟨rfl, rfl⟩
    refine ⟨.slice none 0 0, .slice none 0 0, H, fun lim => ?_, Pre.refl H, .inl ⟨e2.1, rfl⟩, .inl ⟨e2.2, rfl⟩⟩
    rw [apL_func _ _ _ _ _ _ (by rfl), sf_cobleref01_Windows_eq]
    have hK := fun lim => run_CheckF c lim H d t s hc hok
    obtain ⟨⟨da, dc, ed, _⟩, ⟨ta, tc, et, _⟩, ⟨sa, sc, es, _⟩, _, _, _⟩ := hc
    simp only [chV, ed, et, es] at hK
    simp [sf_cobleref01_Windows, chV, rpV, ed, et, es, hK, e1, pf_pure, pureF]
  have hK := fun lim => run_CheckT c lim H d t s hc hok
  have hR := fun lim => run_IsRamp c hok r lim H d t s hc
  cases hr : rampB c r
  · have e1 : winE c r = 11 := by unfold winE; rw [if_pos hok, if_neg (by simp [hr])]
    have e2 : winS c r = [] ∧ winM c r = [] := by unfold winS winM; rw [e1]; exact ⟨rfl, rfl⟩
    refine ⟨.slice none 0 0, .slice none 0 0, H, fun lim => ?_, Pre.refl H, .inl ⟨e2.1, rfl⟩, .inl ⟨e2.2, rfl⟩⟩
    rw [apL_func _ _ _ _ _ _ (by rfl), sf_cobleref01_Windows_eq]
    obtain ⟨⟨da, dc, ed, _⟩, ⟨ta, tc, et, _⟩, ⟨sa, sc, es, _⟩, _, _, _⟩ := hc
    simp only [chV, rpV, ed, et, es] at hK hR
    simp [sf_cobleref01_Windows, chV, rpV, ed, et, es, hK, hR, hr, e1, pf_pure, pureF]
  have e1 : winE c r = 0 := by unfold winE; rw [if_pos hok, if_pos hr]
  have e2 : winS c r = spansTo (c.sureL r) c.ticks ∧ winM c r = spansTo (c.mayL r) c.ticks := by unfold winS winM; rw [e1]; exact ⟨rfl, rfl⟩
  have key : ∃ v1 v2 A, apL Tryd.prog pf (.func (.func 35) #[] #[]) [chV c d t s, rpV r] 0 H = some (.tuple #[v1, v2, .int .i64 0], A) ∧ Pre H A ∧ OwnS H.length A v1 (spansTo (c.sureL r) c.ticks) ∧ OwnS H.length A v2 (spansTo (c.mayL r) c.ticks) := by
    rw [apL_func _ _ _ _ _ _ (by rfl), sf_cobleref01_Windows_eq]
    have hc' := hc
    obtain ⟨⟨da, dc, ed, _⟩, ⟨ta, tc, et, _⟩, ⟨sa, sc, es, _⟩, _, _, _⟩ := hc
    simp only [chV, rpV, ed, et, es] at hK hR
    simp [sf_cobleref01_Windows, chV, rpV, ed, et, es, hK, hR, hr, pf_pure, pureF]
    generalize hS : ({ t := _, L := _, H := _, lim := _, rd := _ } : St) = S
    obtain ⟨⟨e, s1⟩, hr1, q1, q2, q3, q4⟩ := win_out c hok r hr H d t s hc' S (by subst hS; simp) (by subst hS; simp) (by subst hS; simp) (by subst hS; simp) (by subst hS; simp) (by subst hS; simp [ed, et, es]) (by subst hS; rfl) (by subst hS; rfl)
    simp [winOut, SC.loops, sf_cobleref01_Windows] at hr1
    rw [hr1]
    simp only at q1 q2 q3 q4
    subst q1
    cases hs : (sca (tget s1.t 4) && sca (tget s1.t 5))
    · refine ⟨tget s1.t 4, tget s1.t 5, s1.H, ?_, q2, q3, q4⟩
      have hs' : sca (tget s1.t 4) = true → sca (tget s1.t 5) = false := by
        intro h; rw [h] at hs; simpa using hs
      cases h4 : sca (tget s1.t 4)
      · simp [-sca, q3.nl, q4.nl, scaL, sca_tup, sca_int, h4]
      · simp [-sca, q3.nl, q4.nl, scaL, sca_tup, sca_int, h4, hs' h4]
    · simp only [Bool.and_eq_true] at hs
      obtain ⟨x1, x2⟩ := q3.sca hs.1
      obtain ⟨y1, y2⟩ := q4.sca hs.2
      refine ⟨.slice none 0 0, .slice none 0 0, H, ?_, Pre.refl H, .inl ⟨x1, rfl⟩, .inl ⟨y1, rfl⟩⟩
      simp [x2, y2, scaL, sca_tup, sca_int]
  obtain ⟨v1, v2, A, h1, h2, h3, h4⟩ := key
  exact ⟨v1, v2, A, fun lim => by rw [e1, ← h1]; exact apL_lim (by rfl) (by rfl) _ _, h2, by rw [e2.1]; exact h3, by rw [e2.2]; exact h4⟩

def sameSLoop : SC := sf_coblelaw01_sameSpans.body.loops.headD .skip

theorem sameS_loop (xs ys : List (Int × Int)) (hxy : xs.length = ys.length) (hlen : xs.length < 2 ^ 62) (H : AH) (a b : Value) (ha : Sl H a xs.length (spans xs)) (hb : Sl H b ys.length (spans ys)) (s : St) (h0 : tget s.t 0 = a) (h1 : tget s.t 1 = b) (h5 : tget s.t 5 = .int .i64 0) (hH : s.H = H) :
    ∃ r, exL Tryd.prog pf (.loop sameSLoop) s = some r ∧ r.2.H = H ∧ ((r.1 = .exit 0 ∧ xs = ys) ∨ (r.1 = .ret ∧ tget r.2.t 4 = .bool false ∧ xs ≠ ys)) := by
  obtain ⟨aa, ac, rfl, ha⟩ := ha
  obtain ⟨ba, bc, rfl, hb⟩ := hb
  refine loop_rule (I := fun n s => ∃ i, i ≤ xs.length ∧ n = xs.length - i ∧ tget s.t 0 = .slice aa xs.length ac ∧ tget s.t 1 = .slice ba ys.length bc ∧ tget s.t 5 = .int .i64 i ∧ s.H = H ∧ xs.take i = ys.take i) ?_ xs.length s ⟨0, by omega, by omega, h0, h1, h5, hH, rfl⟩
  rintro n s ⟨i, hi, rfl, e0, e1, e5, eH, et⟩
  by_cases hlt : i < xs.length
  · have hlt2 : i < ys.length := by omega
    obtain ⟨b1, o1, rfl, c1⟩ := ha _ _ (spans_get hlt).1
    obtain ⟨_, _, e, c2⟩ := ha _ _ (spans_get hlt).2
    cases e
    obtain ⟨b2, o2, rfl, d1⟩ := hb _ _ (spans_get hlt2).1
    obtain ⟨_, _, e, d2⟩ := hb _ _ (spans_get hlt2).2
    cases e
    rw [show o1 + (i * 2 + 1) = o1 + i * 2 + 1 by omega] at c2
    rw [show o2 + (i * 2 + 1) = o2 + i * 2 + 1 by omega] at d2
    have hw : IntKind.i64.wrap ((i : Int) + 1) = (i : Int) + 1 := wrap_i64 (by omega) (by omega)
    simp only [hcell] at c1 c2 d1 d2
    by_cases heq : xs[i] = ys[i]
    · have e1' : xs[i].1 = ys[i].1 := by rw [heq]
      have e2' : xs[i].2 = ys[i].2 := by rw [heq]
      simp [sameSLoop, SC.loops, sf_coblelaw01_sameSpans, e0, e1, e5, eH, hlt, hlt2, c1, c2, d1, d2, hw, e1', e2']
      exact ⟨_, by omega, i + 1, by omega, rfl, by omega, by rw [List.take_add_one, List.take_add_one, et]; simp [hlt, hlt2, heq]⟩
    · have hne : (xs[i].1 == ys[i].1 && xs[i].2 == ys[i].2) = false := by
        by_cases h1 : xs[i].1 = ys[i].1
        · have h2 : ¬ xs[i].2 = ys[i].2 := fun h2 => heq (Prod.ext h1 h2)
          simp [h2]
        · simp [h1]
      simp [-Bool.and_eq_false_imp, sameSLoop, SC.loops, sf_coblelaw01_sameSpans, e0, e1, e5, eH, hlt, hlt2, c1, c2, d1, d2, hw, hne]
      exact fun e => heq (by subst e; rfl)
  · have : i = xs.length := by omega
    subst this
    simp [sameSLoop, SC.loops, sf_coblelaw01_sameSpans, e0, e1, e5, eH]
    rw [List.take_length, hxy, List.take_length] at et
    exact et

theorem run_sameSpans (xs ys : List (Int × Int)) (hlen : xs.length < 2 ^ 62) (lim : Nat) (H : AH) (a b : Value) (ha : Sl H a xs.length (spans xs)) (hb : Sl H b ys.length (spans ys)) :
    apL Tryd.prog pf (.func (.func 36) #[] #[]) [a, b] lim H = some (.bool (decide (xs = ys)), H) := by
  rw [apL_func _ _ _ _ _ _ (by rfl), sf_coblelaw01_sameSpans_eq]
  obtain ⟨aa, ac, ea, ha'⟩ := ha
  obtain ⟨ba, bc, eb, hb'⟩ := hb
  by_cases hxy : xs.length = ys.length
  · have hh : ((xs.length : Int) != ys.length) = false := by simp [hxy]
    simp [sf_coblelaw01_sameSpans, ea, eb, hh]
    generalize hS : ({ t := _, L := _, H := _, lim := _, rd := _ } : St) = S
    obtain ⟨⟨e, s'⟩, hr, q2, q3⟩ := sameS_loop xs ys hxy hlen H a b ⟨aa, ac, ea, ha'⟩ ⟨ba, bc, eb, hb'⟩ S (by subst hS; simp [ea]) (by subst hS; simp [eb]) (by subst hS; simp) (by subst hS; rfl)
    simp [sameSLoop, SC.loops, sf_coblelaw01_sameSpans] at hr
    rw [hr]
    simp only at q2 q3
    rcases q3 with ⟨rfl, h⟩ | ⟨rfl, h4, h⟩
    · simp [h, q2, pf_pure, pureF]
    · simp [h, h4, q2, pf_pure, pureF]
  · have hne : xs ≠ ys := fun e => hxy (by rw [e])
    have hh : ((xs.length : Int) != ys.length) = true := by simp; omega
    simp [sf_coblelaw01_sameSpans, ea, eb, hh, hne, pf_pure, pureF]

theorem spansTo_short (p : Nat → Bool) (n : Nat) (h : n ≤ 1000) : (spansTo p n).length < 2 ^ 62 := by have := spansTo_length p n; omega

theorem winS_short (c : Ch) (r : Rp) : (winS c r).length < 2 ^ 62 ∧ (winM c r).length < 2 ^ 62 := by
  unfold winS winM
  by_cases h : winE c r = 0
  · have hok := (winE_zero h).1
    have hT : c.ticks ≤ 60 := hok.2.2.2.1.2
    rw [if_pos h, if_pos h]
    exact ⟨spansTo_short _ _ (by omega), spansTo_short _ _ (by omega)⟩
  · rw [if_neg h, if_neg h]; simp

theorem windows_law (c : Ch) (lim : Nat) (H : AH) (hG : H[waysG]? = some (.ro waysV)) (d t s : Value) (hs : ChSl H c d t s) (r : Rp) :
    apL Tryd.prog pf (.func (.func 6) #[] #[]) [chV c d t s, rpV r] lim H = some (.bool true, H) := by
  rw [apL_func _ _ _ _ _ _ (by rfl), sf_coblelaw01_ChartWindows_eq]
  by_cases hf : Far c
  · have hV := fun lim => run_VastFar c lim H d t s hs hf
    have hW := fun lim => run_works lim H hG
    obtain ⟨⟨da, dc, ed, _⟩, ⟨ta, tc, et, _⟩, ⟨sa, sc, es, _⟩⟩ := hs
    simp only [chV, ed, et, es] at hV
    simp [sf_coblelaw01_ChartWindows, chV, rpV, ed, et, es, hV, hW, pf_pure, pureF]
  have hc := hs.near hf
  have hl := Far.short hf
  have hV := fun lim => run_VastF c lim H d t s hc hf
  obtain ⟨d', t', s', hC, hc'⟩ := run_Copy c H.length H d t s hc hl
  obtain ⟨v1, v2, A1, w1, p1, o1, o2⟩ := run_Windows c _ d' t' s' hc' r
  have pA : Pre H A1 := ((Pre.refl H).push _).trans p1
  obtain ⟨u1, u2, A2, w2, p2, o3, o4⟩ := run_refWindows c A1 d t s (hc.ext pA.ext) r
  have hW := fun lim => run_works lim A2 ((pA.trans p2).ext _ _ hG)
  have s1 := fun lim => run_sameSpans (winS c r) (winS c r) (winS_short c r).1 lim A2 v1 u1 (o1.mono p2).sl o3.sl
  have s2 := fun lim => run_sameSpans (winM c r) (winM c r) (winS_short c r).2 lim A2 v2 u2 (o2.mono p2).sl o4.sl
  have n1 := o1.nl
  have n2 := o2.nl
  have n3 := o3.nl
  have n4 := o4.nl
  obtain ⟨a1, c1, q1⟩ := o1.one
  obtain ⟨a2, c2, q2⟩ := o2.one
  obtain ⟨a3, c3, q3⟩ := o3.one
  obtain ⟨a4, c4, q4⟩ := o4.one
  obtain ⟨⟨da, dc, ed, _⟩, ⟨ta, tc, et, _⟩, ⟨sa, sc, es, _⟩, _, _, _⟩ := hc
  obtain ⟨⟨da', dc', ed', _⟩, ⟨ta', tc', et', _⟩, ⟨sa', sc', es', _⟩, _, _, _⟩ := hc'
  subst q1 q2 q3 q4
  simp only [chV, rpV, ed, et, es, ed', et', es', decide_true] at hV hC w1 w2 s1 s2
  simp [sf_coblelaw01_ChartWindows, chV, rpV, ed, et, es, hV, hC, hW, w1, w2, s1, s2, pf_pure, pureF]
end Go.Proofs.YtjejcbiilimjkaaDoor
