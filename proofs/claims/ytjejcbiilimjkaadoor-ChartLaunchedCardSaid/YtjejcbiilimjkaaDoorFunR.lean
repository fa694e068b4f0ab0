/- Contracts of the functions, in the abstract machine: Windows. -/
import Derived.Test.YtjejcbiilimjkaaDoorFunQ
set_option linter.all false
namespace Go.Proofs.YtjejcbiilimjkaaDoor
open Go Go.RowKit

theorem apL_lim {f : FuncId} {first cap : Array Value} {args : List Value} {H : AH} (hp : pureF f = true) (hor : orcA pf f first cap args = none) (lim lim' : Nat) : apL Tryd.prog pf (.func (.func f) first cap) args lim H = apL Tryd.prog pf (.func (.func f) first cap) args lim' H := by
  rw [apL_func _ _ _ _ _ _ hor, apL_func _ _ _ _ _ _ hor]
  simp only [show pf.pure f = true from hp, if_true]

theorem OwnS.sca {n0 : Nat} {A : AH} {v : Value} {l : List (Int × Int)} (h : OwnS n0 A v l) (hs : sca v = true) : l = [] ∧ v = .slice none 0 0 := by
  rcases h with h | ⟨_, b, _, rfl, _⟩
  · exact h
  · simp [Go.Proofs.YtjejcbiilimjkaaDoor.sca] at hs

theorem OwnS.mono {n0 : Nat} {A B : AH} {v : Value} {l : List (Int × Int)} (h : OwnS n0 A v l) (hp : Pre A B) : OwnS n0 B v l := by
  rcases h with h | ⟨h1, b, h2, h3, h4⟩
  · exact .inl h
  · exact .inr ⟨h1, b, h2, h3, hp.ext _ _ h4⟩

theorem OwnS.le {n0 n1 : Nat} {A : AH} {v : Value} {l : List (Int × Int)} (h : OwnS n1 A v l) (hn : n0 ≤ n1) : OwnS n0 A v l := by
  rcases h with h | ⟨h1, b, h2, h3, h4⟩
  · exact .inl h
  · exact .inr ⟨h1, b, by omega, h3, h4⟩

theorem OwnS.nl {n0 : Nat} {A : AH} {v : Value} {l : List (Int × Int)} (h : OwnS n0 A v l) : nl v = true := by
  rcases h with ⟨_, rfl⟩ | ⟨_, b, _, rfl, _⟩ <;> simp

theorem OwnS.one {n0 : Nat} {A : AH} {v : Value} {l : List (Int × Int)} (h : OwnS n0 A v l) : ∃ a k, v = .slice a l.length k := by
  rcases h with ⟨rfl, rfl⟩ | ⟨_, b, _, rfl, _⟩
  · exact ⟨_, _, rfl⟩
  · exact ⟨_, _, rfl⟩

theorem run_spans (c : Ch) (hok : ChOk c) (H : AH) (d t s : Value) (hc : ChIn H c d t s) (f : Value) (p : Nat → Bool) (hp : IsT H f c.ticks p) :
    ∃ v A, (∀ lim, apL Tryd.prog pf (.func (.func 72) #[] #[]) [chV c d t s, f] lim H = some (v, A)) ∧ Pre H A ∧ OwnS H.length A v (spansTo p c.ticks) := by
  have hT : c.ticks ≤ 1000 := by have := hok.2.2.2.1.2; unfold Ch.ticks; omega
  have key : ∃ v A, apL Tryd.prog pf (.func (.func 72) #[] #[]) [chV c d t s, f] 0 H = some (v, A) ∧ Pre H A ∧ OwnS H.length A v (spansTo p c.ticks) := by
    rw [apL_func _ _ _ _ _ _ (by rfl), sf_chart_sea_spans_eq]
    obtain ⟨⟨da, dc, ed, _⟩, ⟨ta, tc, et, _⟩, ⟨sa, sc, es, _⟩, _, _, _⟩ := hc
    simp [sf_chart_sea_spans, chV, ed, et, es, pf_pure, pureF]
    generalize hS : ({ t := _, L := _, H := _, lim := _, rd := _ } : St) = S
    obtain ⟨⟨e, s1⟩, hr, q1, q2, q3⟩ := spans_loop c.ticks hT H f p hp S (by subst hS; simp) (by subst hS; simp) (by subst hS; simp [Ch.ticks]) (by subst hS; simp) (by subst hS; rfl) (by subst hS; rfl)
    simp [spansLoop, SC.loops, sf_chart_sea_spans] at hr
    rw [hr]
    simp only at q1 q2 q3
    subst q1
    simp [q3.nl]
    cases hsv : sca (tget s1.t 5)
    · simp [hsv]
      exact ⟨_, _, ⟨rfl, rfl⟩, q2, q3⟩
    · obtain ⟨h1, h2⟩ := q3.sca hsv
      simp [hsv]
      exact ⟨_, _, ⟨rfl, rfl⟩, Pre.refl H, .inl ⟨h1, h2⟩⟩
  obtain ⟨v, A, h1, h2⟩ := key
  exact ⟨v, A, fun lim => by rw [← h1]; exact apL_lim (by rfl) (by rfl) _ _, h2⟩

def sureF (c : Ch) (d t s : Value) (r : Rp) : Value := .func (.func 73) #[slV c d t s r] #[]
def mayF (c : Ch) (d t s : Value) (r : Rp) : Value := .func (.func 74) #[slV c d t s r] #[]

theorem isT_sure (c : Ch) (hok : ChOk c) (r : Rp) (hr : rampB c r = true) (H : AH) (d t s : Value) (hc : ChIn H c d t s) : IsT H (sureF c d t s r) c.ticks (c.sureL r) := by
  refine ⟨?_, fun A hA k lim hk => ?_⟩
  · obtain ⟨⟨da, dc, ed, _⟩, ⟨ta, tc, et, _⟩, ⟨sa, sc, es, _⟩, _, _, _⟩ := hc
    simp [sureF, slV, ed, et, es]
  · unfold sureF
    rw [apL_bound (by rfl) (by rfl)]
    exact run_surelyL c hok r hr lim A d t s (hc.ext hA.ext) hk

theorem isT_may (c : Ch) (hok : ChOk c) (r : Rp) (hr : rampB c r = true) (H : AH) (d t s : Value) (hc : ChIn H c d t s) : IsT H (mayF c d t s r) c.ticks (c.mayL r) := by
  refine ⟨?_, fun A hA k lim hk => ?_⟩
  · obtain ⟨⟨da, dc, ed, _⟩, ⟨ta, tc, et, _⟩, ⟨sa, sc, es, _⟩, _, _, _⟩ := hc
    simp [mayF, slV, ed, et, es]
  · unfold mayF
    rw [apL_bound (by rfl) (by rfl)]
    exact run_mayL c hok r hr lim A d t s (hc.ext hA.ext) hk

open Classical in
/-- The error of a chart and a ramp. -/
noncomputable def winE (c : Ch) (r : Rp) : Int := if ChOk c then (if rampB c r = true then 0 else 11) else 10
noncomputable def winS (c : Ch) (r : Rp) : List (Int × Int) := if winE c r = 0 then spansTo (c.sureL r) c.ticks else []
noncomputable def winM (c : Ch) (r : Rp) : List (Int × Int) := if winE c r = 0 then spansTo (c.mayL r) c.ticks else []

theorem winE_zero {c : Ch} {r : Rp} (h : winE c r = 0) : ChOk c ∧ rampB c r = true := by
  unfold winE at h
  split at h
  · split at h
    · exact ⟨‹_›, ‹_›⟩
    · cases h
  · cases h

theorem openE_nil {c : Ch} (hok : ChOk c) : openE c [] [] = 0 := by rw [openE_eq hok]; rfl

theorem sca_tup (a : Array Value) : sca (.tuple a) = scaL a.toList := by rw [sca]
theorem sca_int (k : IntKind) (n : Int) : sca (.int k n) = true := by unfold sca; rfl

set_option maxHeartbeats 1000000 in
theorem run_Windows (c : Ch) (H : AH) (d t s : Value) (hc : ChIn H c d t s) (r : Rp) :
    ∃ v1 v2 A, (∀ lim, apL Tryd.prog pf (.func (.func 34) #[] #[]) [chV c d t s, rpV r] lim H = some (.tuple #[v1, v2, .int .i64 (winE c r)], A)) ∧ Pre H A ∧ OwnS H.length A v1 (winS c r) ∧ OwnS H.length A v2 (winM c r) := by
  have ho := fun lim => run_open c lim H d t s hc [] [] (.slice none 0 0) (.slice none 0 0) Sl.nil Sl.nil (by simp) (by simp)
  by_cases hok : ChOk c
  rotate_left
  · have e1 : winE c r = 10 := by unfold winE; rw [if_neg hok]
    have e2 : winS c r = [] ∧ winM c r = [] := by unfold winS winM; rw [e1]; exact ⟨rfl, rfl⟩
    refine ⟨.slice none 0 0, .slice none 0 0, H, fun lim => ?_, Pre.refl H, .inl ⟨e2.1, rfl⟩, .inl ⟨e2.2, rfl⟩⟩
    rw [apL_func _ _ _ _ _ _ (by rfl), sf_chart_Windows_eq]
    obtain ⟨⟨da, dc, ed, _⟩, ⟨ta, tc, et, _⟩, ⟨sa, sc, es, _⟩, _, _, _⟩ := hc
    simp only [openE_bad hok, chV, ed, et, es, noCh] at ho
    simp [sf_chart_Windows, chV, rpV, ed, et, es, ho, e1, pf_pure, pureF]
  have hR := fun lim => run_hasRamp c r lim H d t s hc
  cases hr : rampB c r
  · have e1 : winE c r = 11 := by unfold winE; rw [if_pos hok, if_neg (by simp [hr])]
    have e2 : winS c r = [] ∧ winM c r = [] := by unfold winS winM; rw [e1]; exact ⟨rfl, rfl⟩
    refine ⟨.slice none 0 0, .slice none 0 0, H, fun lim => ?_, Pre.refl H, .inl ⟨e2.1, rfl⟩, .inl ⟨e2.2, rfl⟩⟩
    rw [apL_func _ _ _ _ _ _ (by rfl), sf_chart_Windows_eq]
    obtain ⟨⟨da, dc, ed, _⟩, ⟨ta, tc, et, _⟩, ⟨sa, sc, es, _⟩, _, _, _⟩ := hc
    simp only [openE_nil hok, if_true, chV, rpV, ed, et, es] at ho hR
    simp [sf_chart_Windows, chV, rpV, ed, et, es, ho, hR, hr, e1, pf_pure, pureF]
  have e1 : winE c r = 0 := by unfold winE; rw [if_pos hok, if_pos hr]
  have e2 : winS c r = spansTo (c.sureL r) c.ticks ∧ winM c r = spansTo (c.mayL r) c.ticks := by unfold winS winM; rw [e1]; exact ⟨rfl, rfl⟩
  obtain ⟨v1, A1, k1, p1, o1⟩ := run_spans c hok H d t s hc _ _ (isT_sure c hok r hr H d t s hc)
  obtain ⟨v2, A2, k2, p2, o2⟩ := run_spans c hok A1 d t s (hc.ext p1.ext) _ _ (isT_may c hok r hr A1 d t s (hc.ext p1.ext))
  have h1 := o1.mono p2
  have h2 := o2.le p1.le
  refine ⟨v1, v2, if sca v1 && sca v2 then H else A2, fun lim => ?_, ?_⟩
  · rw [apL_func _ _ _ _ _ _ (by rfl), sf_chart_Windows_eq]
    obtain ⟨⟨da, dc, ed, _⟩, ⟨ta, tc, et, _⟩, ⟨sa, sc, es, _⟩, _, _, _⟩ := hc
    obtain ⟨a1, c1, q1⟩ := o1.one
    obtain ⟨a2, c2, q2⟩ := o2.one
    simp only [openE_nil hok, if_true, chV, rpV, sureF, mayF, slV, ed, et, es] at ho hR k1 k2
    subst q1
    subst q2
    cases hs1 : sca (.slice a1 (spansTo (c.sureL r) c.ticks).length c1)
    · simp [-sca, sf_chart_Windows, chV, rpV, ed, et, es, ho, hR, hr, e1, k1, k2, pf_pure, pureF, scaL, sca_tup, hs1]
    · cases hs2 : sca (.slice a2 (spansTo (c.mayL r) c.ticks).length c2)
      · simp [-sca, sf_chart_Windows, chV, rpV, ed, et, es, ho, hR, hr, e1, k1, k2, pf_pure, pureF, scaL, sca_tup, hs1, hs2]
      · simp [-sca, sf_chart_Windows, chV, rpV, ed, et, es, ho, hR, hr, e1, k1, k2, pf_pure, pureF, scaL, sca_tup, sca_int, hs1, hs2]
  · rw [e2.1, e2.2]
    by_cases hs : (sca v1 && sca v2) = true
    · simp only [Bool.and_eq_true] at hs
      rw [if_pos (by simpa using hs)]
      exact ⟨Pre.refl H, .inl (h1.sca hs.1), .inl (h2.sca hs.2)⟩
    · rw [if_neg hs]
      exact ⟨p1.trans p2, h1, h2⟩
end Go.Proofs.YtjejcbiilimjkaaDoor
