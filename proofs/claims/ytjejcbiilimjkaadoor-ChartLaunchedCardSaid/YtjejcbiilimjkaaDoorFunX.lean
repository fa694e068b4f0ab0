/- Contracts of the functions, in the abstract machine: the law ChartLaunched, whole. -/
import Derived.Test.YtjejcbiilimjkaaDoorFunW
set_option linter.all false
namespace Go.Proofs.YtjejcbiilimjkaaDoor
open Go Go.RowKit

/-- The n-th statement of a piece of code; what is behind the first n. -/
def SC.nth : SC → Nat → SC
  | .seq a _, 0 => a
  | .seq _ b, n + 1 => b.nth n
  | c, _ => c
def SC.rest : SC → Nat → SC
  | c, 0 => c
  | .seq _ b, n + 1 => b.rest n
  | c, _ => c

theorem run_WindowsOk (c : Ch) (hok : ChOk c) (r : Rp) (hr : rampB c r = true) (H : AH) (d t s : Value) (hc : ChIn H c d t s) :
    ∃ v1 v2 A, (∀ lim, apL Tryd.prog pf (.func (.func 34) #[] #[]) [chV c d t s, rpV r] lim H = some (.tuple #[v1, v2, .int .i64 0], A)) ∧ Pre H A ∧ OwnS H.length A v1 (spansTo (c.sureL r) c.ticks) ∧ OwnS H.length A v2 (spansTo (c.mayL r) c.ticks) := by
  obtain ⟨v1, v2, A, h1, h2, h3, h4⟩ := run_Windows c H d t s hc r
  have e1 : winE c r = 0 := by unfold winE; rw [if_pos hok, if_pos hr]
  rw [e1] at h1
  unfold winS at h3
  unfold winM at h4
  rw [if_pos e1] at h3 h4
  exact ⟨v1, v2, A, h1, h2, h3, h4⟩

def lauB : SC := sf_coblelaw01_ChartLaunched.body
def lauT : SC := lauB.rest 7
theorem lau_split : sf_coblelaw01_ChartLaunched = ⟨202, [.tmp 8], .seq (lauB.nth 0) (.seq (lauB.nth 1) (.seq (lauB.nth 2) (.seq (lauB.nth 3) (.seq (lauB.nth 4) (.seq (lauB.nth 5) (.seq (lauB.nth 6) lauT))))))⟩ := rfl

set_option maxHeartbeats 1000000 in
theorem lau_tail (c : Ch) (hok : ChOk c) (r w : Rp) (u1 u2 : Int) (A : AH) (hG : A[waysG]? = some (.ro waysV)) (d t s : Value) (hc : ChIn A c d t s) (v1 v2 : Value) (o1 : Sl A v1 (spansTo (c.sureL r) c.ticks).length (spans (spansTo (c.sureL r) c.ticks))) (o2 : Sl A v2 (spansTo (c.mayL r) c.ticks).length (spans (spansTo (c.mayL r) c.ticks))) (S : St)
    (h4 : tget S.t 4 = .pointer (some ⟨4, 0, some 0⟩)) (h5 : tget S.t 5 = .pointer (some ⟨5, 0, some 0⟩)) (h6 : tget S.t 6 = .pointer (some ⟨6, 0, some 0⟩)) (h9 : tget S.t 9 = v1) (h10 : tget S.t 10 = v2) (hL : S.L = lauL c r w u1 u2 d t s) (hH : S.H = A) :
    ∃ q, exL Tryd.prog pf lauT S = some q ∧ q.1 = .ret ∧ tget q.2.t 8 = .bool true := by
  have hR := fun lim => run_IsRamp c hok w lim A d t s hc
  have hW := fun lim => run_works lim A hG
  have hc' := hc
  cases hr : rampB c w
  · obtain ⟨⟨da, dc, ed, _⟩, ⟨ta, tc, et, _⟩, ⟨sa, sc, es, _⟩, _, _, _⟩ := hc
    simp only [chV, rpV, lauL, ed, et, es] at hR hL
    simp [lauT, lauB, SC.rest, sf_coblelaw01_ChartLaunched, h4, h5, h6, hL, hH, hR, hr, hW]
  obtain ⟨v3, v4, A2, k1, p1, o3, o4⟩ := run_WindowsOk c hok w hr A d t s hc
  by_cases g1 : w.cell = r.cell
  rotate_left
  · have g1b : (w.cell != r.cell) = true := by simpa using g1
    obtain ⟨⟨da, dc, ed, _⟩, ⟨ta, tc, et, _⟩, ⟨sa, sc, es, _⟩, _, _, _⟩ := hc
    simp only [chV, rpV, lauL, ed, et, es] at hR hL
    simp [lauT, lauB, SC.rest, sf_coblelaw01_ChartLaunched, h4, h5, h6, hL, hH, hR, hr, hW, g1b]
  have g1b : (w.cell != r.cell) = false := by simpa using g1
  by_cases g2 : w.g = r.g
  rotate_left
  · have g2b : (w.g != r.g) = true := by simpa using g2
    obtain ⟨⟨da, dc, ed, _⟩, ⟨ta, tc, et, _⟩, ⟨sa, sc, es, _⟩, _, _, _⟩ := hc
    simp only [chV, rpV, lauL, ed, et, es] at hR hL
    simp [lauT, lauB, SC.rest, sf_coblelaw01_ChartLaunched, h4, h5, h6, hL, hH, hR, hr, hW, g1b, g2b]
  have g2b : (w.g != r.g) = false := by simpa using g2
  by_cases g3 : r.least < w.least
  · obtain ⟨⟨da, dc, ed, _⟩, ⟨ta, tc, et, _⟩, ⟨sa, sc, es, _⟩, _, _, _⟩ := hc
    simp only [chV, rpV, lauL, ed, et, es] at hR hL
    simp [lauT, lauB, SC.rest, sf_coblelaw01_ChartLaunched, h4, h5, h6, hL, hH, hR, hr, hW, g1b, g2b, g3]
  by_cases g4 : w.most < r.most
  · obtain ⟨⟨da, dc, ed, _⟩, ⟨ta, tc, et, _⟩, ⟨sa, sc, es, _⟩, _, _, _⟩ := hc
    simp only [chV, rpV, lauL, ed, et, es] at hR hL
    simp [lauT, lauB, SC.rest, sf_coblelaw01_ChartLaunched, h4, h5, h6, hL, hH, hR, hr, hW, g1b, g2b, g3, g4]
  by_cases g5 : w.surf < r.surf
  · obtain ⟨⟨da, dc, ed, _⟩, ⟨ta, tc, et, _⟩, ⟨sa, sc, es, _⟩, _, _, _⟩ := hc
    simp only [chV, rpV, lauL, ed, et, es] at hR hL
    simp [lauT, lauB, SC.rest, sf_coblelaw01_ChartLaunched, h4, h5, h6, hL, hH, hR, hr, hW, g1b, g2b, g3, g4, g5]
  have hw : Wider r w := ⟨g1, g2, by omega, by omega, by omega⟩
  have hW2 := fun lim => run_works lim A2 (p1.ext _ _ hG)
  have E : Ext A A2 := p1.ext
  obtain ⟨a3, c3, q3⟩ := o3.one
  obtain ⟨a4, c4, q4⟩ := o4.one
  have hL0 := hL
  obtain ⟨⟨da, dc, ed, _⟩, ⟨ta, tc, et, _⟩, ⟨sa, sc, es, _⟩, _, _, _⟩ := hc
  simp only [chV, rpV, lauL, ed, et, es] at hR hL k1
  rw [q3, q4] at k1
  simp [lauT, lauB, SC.rest, sf_coblelaw01_ChartLaunched, h4, h5, h6, hL, hH, hR, hr, g1b, g2b, g3, g4, g5, k1]
  generalize hS : ({ t := _, L := _, H := _, lim := _, rd := _ } : St) = S2
  obtain ⟨⟨e, s1⟩, hr1, q1, qH, q18⟩ := lau_loop2 c hok r w hw A2 u1 u2 d t s (hc'.t.ext E) v1 v2 v3 v4 (o1.ext E) (o2.ext E) o3.sl o4.sl S2 (by subst hS; simp [h4]) (by subst hS; simp [h9]) (by subst hS; simp [h10]) (by subst hS; simp [q3]) (by subst hS; simp [q4]) (by subst hS; simp) (by subst hS; simp [lauL, ed, et, es]) (by subst hS; rfl)
  simp [lauLoop2, SC.loops, sf_coblelaw01_ChartLaunched] at hr1
  rw [hr1]
  simp only at q1 qH q18
  subst q1
  have j18 : tget s1.t 18 = .int .i64 0 := by rw [q18]; subst hS; simp
  simp [and_assoc, j18, qH, hW2]

set_option maxHeartbeats 2000000 in
theorem launched_law (c : Ch) (lim : Nat) (H : AH) (hG : H[waysG]? = some (.ro waysV)) (d t s : Value) (hs : ChSl H c d t s) (r w : Rp) (u1 u2 : Int) :
    apL Tryd.prog pf (.func (.func 11) #[] #[]) [chV c d t s, rpV r, rpV w, .agg #[.int .i64 u1, .int .i64 u2]] lim H = some (.bool true, H) := by
  rw [apL_func _ _ _ _ _ _ (by rfl), sf_coblelaw01_ChartLaunched_eq, lau_split]
  have hW := fun lim => run_works lim H hG
  by_cases hf : Far c
  · have hV := fun lim => run_VastFar c lim H d t s hs hf
    obtain ⟨⟨da, dc, ed, _⟩, ⟨ta, tc, et, _⟩, ⟨sa, sc, es, _⟩⟩ := hs
    simp only [chV, ed, et, es] at hV
    simp [lauB, SC.nth, sf_coblelaw01_ChartLaunched, chV, rpV, ed, et, es, hV, hW, pf_pure, pureF]
  have hc := hs.near hf
  have hc' := hc
  have hV := fun lim => run_VastF c lim H d t s hc hf
  by_cases hok : ChOk c
  rotate_left
  · have hK := fun lim => run_CheckF c lim H d t s hc hok
    obtain ⟨⟨da, dc, ed, _⟩, ⟨ta, tc, et, _⟩, ⟨sa, sc, es, _⟩, _, _, _⟩ := hc
    simp only [chV, ed, et, es] at hV hK
    simp [lauB, SC.nth, sf_coblelaw01_ChartLaunched, chV, rpV, ed, et, es, hV, hK, hW, pf_pure, pureF]
  have hK := fun lim => run_CheckT c lim H d t s hc hok
  have hR := fun lim => run_IsRamp c hok r lim H d t s hc
  cases hr : rampB c r
  · obtain ⟨⟨da, dc, ed, _⟩, ⟨ta, tc, et, _⟩, ⟨sa, sc, es, _⟩, _, _, _⟩ := hc
    simp only [chV, rpV, ed, et, es] at hV hK hR
    simp [lauB, SC.nth, sf_coblelaw01_ChartLaunched, chV, rpV, ed, et, es, hV, hK, hR, hr, hW, pf_pure, pureF]
  have hT : c.ticks ≤ 60 := hok.2.2.2.1.2
  obtain ⟨v1, v2, A, k1, p1, o1, o2⟩ := run_WindowsOk c hok r hr H d t s hc
  have f1 := fun lim => run_ord _ (spansTo_short _ _ (by omega)) A lim v1 o1.sl (c.tide.length) (by rw [lenTicks]; omega) (spansTo_ok (c.sureL r) c.ticks).1
  have f2 := fun lim => run_ord _ (spansTo_short _ _ (by omega)) A lim v2 o2.sl (c.tide.length) (by rw [lenTicks]; omega) (spansTo_ok (c.mayL r) c.ticks).1
  have n1 := o1.nl
  have n2 := o2.nl
  have hcA := hc'.ext p1.ext
  have hTk := fun lim => run_IsTick c u1 lim A d t s hcA
  obtain ⟨a1, c1, q1⟩ := o1.one
  obtain ⟨a2, c2, q2⟩ := o2.one
  obtain ⟨⟨da, dc, ed, _⟩, ⟨ta, tc, et, _⟩, ⟨sa, sc, es, _⟩, _, _, _⟩ := hc
  simp only [chV, rpV, ed, et, es] at hV hK hR k1 hTk
  have k1' := k1
  have f1' := f1
  have f2' := f2
  rw [q1, q2] at k1'
  rw [q1] at f1'
  rw [q2] at f2'
  simp [lauB, SC.nth, sf_coblelaw01_ChartLaunched, chV, rpV, ed, et, es, hV, hK, hR, hr, k1', f1', f2']
  generalize hS : ({ t := _, L := _, H := _, lim := _, rd := _ } : St) = S
  obtain ⟨⟨e, s1⟩, hr1, x1, xH, xL, xl, x4, x5, x6, x7, x9, x10⟩ := lau_loop1 c hok r w hr A u1 u2 d t s (hc'.t.ext p1.ext) v1 v2 o1.sl o2.sl S (by subst hS; simp) (by subst hS; simp [q1]) (by subst hS; simp [q2]) (by subst hS; simp) (by subst hS; simp [lauL, ed, et, es]) (by subst hS; rfl)
  simp [lauLoop1, SC.loops, sf_coblelaw01_ChartLaunched] at hr1
  rw [hr1]
  simp only at x1 xH xL xl x4 x5 x6 x7 x9 x10
  subst x1
  have j4 : tget s1.t 4 = .pointer (some ⟨4, 0, some 0⟩) := by rw [x4]; subst hS; simp
  have j5 : tget s1.t 5 = .pointer (some ⟨5, 0, some 0⟩) := by rw [x5]; subst hS; simp
  have j6 : tget s1.t 6 = .pointer (some ⟨6, 0, some 0⟩) := by rw [x6]; subst hS; simp
  have j7 : tget s1.t 7 = .pointer (some ⟨7, 0, some 0⟩) := by rw [x7]; subst hS; simp
  have j9 : tget s1.t 9 = v1 := by rw [x9]; subst hS; simp [q1]
  have j10 : tget s1.t 10 = v2 := by rw [x10]; subst hS; simp [q2]
  have jL : s1.L = lauL c r w u1 u2 d t s := by rw [xL]; subst hS; simp [lauL, ed, et, es]
  have fin : ∀ S2 : St, tget S2.t 4 = tget s1.t 4 → tget S2.t 5 = tget s1.t 5 → tget S2.t 6 = tget s1.t 6 → tget S2.t 9 = tget s1.t 9 → tget S2.t 10 = tget s1.t 10 → S2.L = s1.L → S2.H = A → ∃ q, exL Tryd.prog pf lauT S2 = some q ∧ q.1 = .ret ∧ tget q.2.t 8 = .bool true := fun S2 y4 y5 y6 y9 y10 yL yH =>
    lau_tail c hok r w u1 u2 A (p1.ext _ _ hG) d t s hcA v1 v2 o1.sl o2.sl S2 (by rw [y4, j4]) (by rw [y5, j5]) (by rw [y6, j6]) (by rw [y9, j9]) (by rw [y10, j10]) (by rw [yL, jL]) yH
  have jL2 := jL
  simp only [lauL, ed, et, es] at jL2
  have W1 := fun {k : Nat} (hk : k < c.ticks) lim => run_wi' (c.sureL r) c.ticks (by omega) A v1 o1.sl hk lim
  have W2 := fun {k : Nat} (hk : k < c.ticks) lim => run_wi' (c.mayL r) c.ticks (by omega) A v2 o2.sl hk lim
  cases tk : inN c.ticks u1 with
  | false =>
    simp [lauB, SC.nth, sf_coblelaw01_ChartLaunched, j4, j5, j6, j7, j9, j10, jL2, xH, hTk, tk]
    generalize hS2 : ({ t := _, L := _, H := _, lim := _, rd := _ } : St) = S2
    obtain ⟨⟨e, s2⟩, z1, z2, z3⟩ := fin S2 (by subst hS2; simp) (by subst hS2; simp) (by subst hS2; simp) (by subst hS2; simp) (by subst hS2; simp) (by subst hS2; simp [jL2]) (by subst hS2; simp [xH])
    rw [z1]
    simp only at z2 z3
    subst z2
    simp [z3, pf_pure, pureF]
  | true =>
  have tk' := tk
  obtain ⟨k, hk, rfl⟩ := inN_iff.1 tk'
  obtain ⟨bt, ot, kt, et2, t1, t2⟩ := hcA.td hk
  have hk' : k < c.tide.length := hk
  have et3 := et.symm.trans et2
  cases et3
  simp only [hcell] at t1 t2
  by_cases g1 : c.lo k ≤ u2
  rotate_left
  · simp [lauB, SC.nth, sf_coblelaw01_ChartLaunched, j4, j5, j6, j7, j9, j10, jL2, xH, hTk, tk, hk', t1, t2, g1]
    generalize hS2 : ({ t := _, L := _, H := _, lim := _, rd := _ } : St) = S2
    obtain ⟨⟨e, s2⟩, z1, z2, z3⟩ := fin S2 (by subst hS2; simp) (by subst hS2; simp) (by subst hS2; simp) (by subst hS2; simp) (by subst hS2; simp) (by subst hS2; simp [jL2]) (by subst hS2; simp [xH])
    rw [z1]
    simp only at z2 z3
    subst z2
    simp [z3, pf_pure, pureF]
  by_cases g2 : u2 ≤ c.hi k
  rotate_left
  · simp [lauB, SC.nth, sf_coblelaw01_ChartLaunched, j4, j5, j6, j7, j9, j10, jL2, xH, hTk, tk, hk', t1, t2, g1, g2]
    generalize hS2 : ({ t := _, L := _, H := _, lim := _, rd := _ } : St) = S2
    obtain ⟨⟨e, s2⟩, z1, z2, z3⟩ := fin S2 (by subst hS2; simp) (by subst hS2; simp) (by subst hS2; simp) (by subst hS2; simp) (by subst hS2; simp) (by subst hS2; simp [jL2]) (by subst hS2; simp [xH])
    rw [z1]
    simp only at z2 z3
    subst z2
    simp [z3, pf_pure, pureF]
  obtain ⟨⟨i0, hi0, ei0⟩, _⟩ := rampB_iff.1 hr
  obtain ⟨_, ⟨b3, b4, b5⟩, _⟩ := hok.bounds hi0 hk
  have hLa := fun lim => run_Launches c hok r hr lim A d t s hcA hk u2 (by omega) (by omega)
  have w1 := fun lim => W1 hk lim
  have w2 := fun lim => W2 hk lim
  simp only [chV, rpV, ed, et, es] at hLa
  cases xl : c.launch r k u2 with
  | true =>
    have xm := launch_may c r g1 g2 xl
    simp [lauB, SC.nth, sf_coblelaw01_ChartLaunched, j4, j5, j6, j7, j9, j10, jL2, xH, hTk, tk, hk', t1, t2, g1, g2, hLa, xl, n1, n2, w1, w2, xm]
    generalize hS2 : ({ t := _, L := _, H := _, lim := _, rd := _ } : St) = S2
    obtain ⟨⟨e, s2⟩, z1, z2, z3⟩ := fin S2 (by subst hS2; simp) (by subst hS2; simp) (by subst hS2; simp) (by subst hS2; simp) (by subst hS2; simp) (by subst hS2; simp [jL2]) (by subst hS2; simp [xH])
    rw [z1]
    simp only at z2 z3
    subst z2
    simp [z3, pf_pure, pureF]
  | false =>
    have xs : c.sureL r k = false := by
      cases h : c.sureL r k
      · rfl
      · rw [sure_launch c r g1 g2 h] at xl; cases xl
    simp [lauB, SC.nth, sf_coblelaw01_ChartLaunched, j4, j5, j6, j7, j9, j10, jL2, xH, hTk, tk, hk', t1, t2, g1, g2, hLa, xl, n1, n2, w1, w2, xs]
    generalize hS2 : ({ t := _, L := _, H := _, lim := _, rd := _ } : St) = S2
    obtain ⟨⟨e, s2⟩, z1, z2, z3⟩ := fin S2 (by subst hS2; simp) (by subst hS2; simp) (by subst hS2; simp) (by subst hS2; simp) (by subst hS2; simp) (by subst hS2; simp [jL2]) (by subst hS2; simp [xH])
    rw [z1]
    simp only at z2 z3
    subst z2
    simp [z3, pf_pure, pureF]
end Go.Proofs.YtjejcbiilimjkaaDoor
