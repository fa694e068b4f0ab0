/- Contracts of the functions, in the abstract machine: the law ChartLess. -/
import Derived.Test.YtjejcbiilimjkaaDoorLessC
set_option linter.all false
namespace Go.Proofs.YtjejcbiilimjkaaDoor
open Go Go.RowKit

theorem with_lo {c : Ch} {nar : List (Int × Int)} (hn : nar.length = c.tide.length) (h : ∀ i (h : i < nar.length) (h' : i < c.tide.length), nOk nar[i] c.tide[i]) (k : Nat) : c.lo k ≤ (c.with nar).lo k ∧ (c.with nar).hi k ≤ c.hi k := by
  by_cases hk : k < nar.length
  · have hk' : k < c.tide.length := by omega
    have := h k hk hk'
    unfold nOk at this
    simp only [Ch.lo, Ch.hi, Ch.with, List.getD_eq_getElem?_getD, List.getElem?_eq_getElem hk, List.getElem?_eq_getElem hk', Option.getD_some]
    omega
  · have hk' : ¬ k < c.tide.length := by omega
    simp only [Ch.lo, Ch.hi, Ch.with, List.getD_eq_getElem?_getD, List.getElem?_eq_none (Nat.le_of_not_lt hk), List.getElem?_eq_none (Nat.le_of_not_lt hk'), Option.getD_none]
    omega

theorem with_ok {c : Ch} (hok : ChOk c) {nar : List (Int × Int)} (hn : nar.length = c.tide.length) (h : ∀ i (h : i < nar.length) (h' : i < c.tide.length), nOk nar[i] c.tide[i]) : ChOk (c.with nar) := by
  obtain ⟨h1, h2, h3, h4, h5, h6, h7⟩ := hok
  refine ⟨h1, h2, h3, ?_, ?_, h6, fun i hi hi' => ?_⟩
  · show 1 ≤ nar.length ∧ nar.length ≤ 60; omega
  · show c.swell.length = nar.length; omega
  · have hi2 : i < nar.length := hi
    have hi3 : i < c.tide.length := by omega
    obtain ⟨x1, x2, x3⟩ := h i hi2 hi3
    obtain ⟨y1, y2, y3, y4⟩ := h7 i hi3 hi'
    exact ⟨by show 0 ≤ nar[i].1; omega, x3, by show nar[i].2 ≤ 200; omega, y4⟩

theorem lo_le_hi {c : Ch} (hok : ChOk c) {k : Nat} (hk : k < c.ticks) : c.lo k ≤ c.hi k := by
  have := (hok.bounds hok.pos.1 hk).2.1
  omega

theorem less_facts {c : Ch} (hok : ChOk c) {nar : List (Int × Int)} (hn : nar.length = c.tide.length) (h : ∀ i (h : i < nar.length) (h' : i < c.tide.length), nOk nar[i] c.tide[i]) {g y : Int} (hg : 1 ≤ g ∧ g ≤ 100) (hy : 0 ≤ y ∧ y < g) {a k : Nat} (ha : a < c.cells) (hk : k < c.ticks) :
    ∀ i, i < c.cells → (c.sure g i k = true → c.may g i k = true ∧ c.sure (g - y) i k = true ∧ (c.with nar).sure g i k = true) ∧ ((c.with nar).may g i k = true → c.may g i k = true) ∧
      (0 ≤ (arrL c g a k).getD i 0 → 0 ≤ (arrL (c.with nar) (g - y) a k).getD i 0 ∧ (arrL (c.with nar) (g - y) a k).getD i 0 ≤ (arrL c g a k).getD i 0) := by
  have hoq := with_ok hok hn h
  intro i hi
  have hlo := with_lo hn h
  have hl := lo_le_hi hok hk
  have eo : ∀ i k x, (c.with nar).over i k x = c.over i k x := fun _ _ _ => rfl
  have ho : ∀ i k x z, x ≤ z → c.over i k x ≤ c.over i k z := fun i k x z h => by unfold Ch.over; omega
  have eT : (c.with nar).ticks = c.ticks := hn
  have eC : (c.with nar).cells = c.cells := rfl
  refine ⟨fun hs => ?_, fun hm => ?_, ?_⟩
  · simp only [Ch.sure, Ch.may, decide_eq_true_eq, eo] at hs ⊢
    have h1 := ho i k _ _ hl
    have h2 := ho i k _ _ (hlo k).1
    omega
  · simp only [Ch.may, decide_eq_true_eq, eo] at hm ⊢
    have h1 := ho i k _ _ (hlo k).2
    omega
  · have e1 := embE_ok hok hg ha hk
    have e2 := embE_ok (c := c.with nar) hoq (g := g - y) (by omega) (i := a) (k := k) ha (by omega)
    have l1 : arrL c g a k = nearL c g a k 1 (c.ticks - k) := by unfold arrL; rw [if_pos e1]; simp
    have l2 : arrL (c.with nar) (g - y) a k = nearL (c.with nar) (g - y) a k 1 (c.ticks - k) := by unfold arrL; rw [if_pos e2, eT]; simp
    rw [l1, l2]
    have mono := reach_mono (q := c.with nar) hok hoq rfl rfl (g := g) (g' := g - y) (cell := a) (tick := k) (step := 1) ha (fun i k' _ hs => by
      simp only [Ch.sure, decide_eq_true_eq, eo] at hs ⊢
      have := ho i k' _ _ (hlo k').1
      omega)
    rcases nearL_get c g a k 1 i hi (c.ticks - k) (fun m _ => by omega) with ⟨m, h1, h2, h3, h4⟩ | ⟨h1, h2⟩
    · rw [h4]
      rcases nearL_get (c.with nar) (g - y) a k 1 i hi (c.ticks - k) (fun m _ => by omega) with ⟨m', k1, k2, k3, k4⟩ | ⟨k1, k2⟩
      · rw [k4]
        intro _
        have : ¬ m < m' := fun hlt => k3 m hlt (mono m i h2)
        omega
      · exact absurd (mono m i h2) (k1 m h1)
    · rw [h2]; intro h; omega

def lessB : SC := sf_coblelaw01_ChartLess.body

set_option maxHeartbeats 2000000 in
theorem less_law (c : Ch) (lim : Nat) (H : AH) (hG : H[waysG]? = some (.ro waysV)) (d t s nv : Value) (hs : ChSl H c d t s) (g a b y : Int) (nar : List (Int × Int)) (hnv : Sl H nv nar.length (spans nar)) :
    apL Tryd.prog pf (.func (.func 10) #[] #[]) [chV c d t s, .agg #[.int .i64 g, .int .i64 a, .int .i64 b], .int .i64 y, nv] lim H = some (.bool true, H) := by
  rw [apL_func _ _ _ _ _ _ (by rfl), sf_coblelaw01_ChartLess_eq]
  have hW := fun lim => run_works lim H hG
  obtain ⟨na, nc, env, _⟩ := id hnv
  by_cases hf : Far c
  · have hV := fun lim => run_VastFar c lim H d t s hs hf
    obtain ⟨⟨da, dc, ed, _⟩, ⟨ta, tc, et, _⟩, ⟨sa, sc, es, _⟩⟩ := hs
    simp only [chV, ed, et, es] at hV
    simp [sf_coblelaw01_ChartLess, chV, ed, et, es, hV, hW, pf_pure, pureF]
  have hc := hs.near hf
  have hc' := hc
  have hV := fun lim => run_VastF c lim H d t s hc hf
  by_cases hok : ChOk c
  rotate_left
  · have hK := fun lim => run_CheckF c lim H d t s hc hok
    obtain ⟨⟨da, dc, ed, _⟩, ⟨ta, tc, et, _⟩, ⟨sa, sc, es, _⟩, _, _, _⟩ := hc
    simp only [chV, ed, et, es] at hV hK
    simp [sf_coblelaw01_ChartLess, chV, ed, et, es, hV, hK, hW, pf_pure, pureF]
  have hK := fun lim => run_CheckT c lim H d t s hc hok
  have hI := fun x lim => run_IsCellOk c hok x lim H d t s hc
  have hTk := fun x lim => run_IsTick c x lim H d t s hc
  have hD := fun lim => run_IsDraught g lim H
  have hCp := fun lim => run_CopyOk c hok lim H d t s hc (Far.short hf)
  have hCl := fun lim H => run_CellsCh c lim H d t s
  obtain ⟨m0, m1, m2⟩ := hok.mul
  have hwm : IntKind.i64.wrap (c.w * c.h) = (c.cells : Int) := by rw [m2]; exact wrap_i64 (by omega) (by omega)
  obtain ⟨⟨da, dc, ed, _⟩, ⟨ta, tc, et, _⟩, ⟨sa, sc, es, _⟩, _, _, _⟩ := hc
  simp only [chV, ed, et, es] at hV hK hI hTk hCp hCl
  cases ha : inN c.cells a
  · simp [sf_coblelaw01_ChartLess, chV, ed, et, es, hV, hK, hI, ha, hW, pf_pure, pureF]
  cases hb : inN c.ticks b
  · simp [sf_coblelaw01_ChartLess, chV, ed, et, es, hV, hK, hI, ha, hTk, hb, hW, pf_pure, pureF]
  cases hg : (decide (1 ≤ g) && decide (g ≤ 100))
  · rw [hg] at hD
    simp [-Bool.and_eq_false_imp, sf_coblelaw01_ChartLess, chV, ed, et, es, hV, hK, hI, ha, hTk, hb, hD, hW, pf_pure, pureF]
  rw [hg] at hD
  by_cases hy0 : y < 0
  · simp [sf_coblelaw01_ChartLess, chV, ed, et, es, hV, hK, hI, ha, hTk, hb, hD, hy0, hW, pf_pure, pureF]
  by_cases hy1 : g ≤ y
  · simp [sf_coblelaw01_ChartLess, chV, ed, et, es, hV, hK, hI, ha, hTk, hb, hD, hy0, hy1, hW, pf_pure, pureF]
  by_cases hn : nar.length = c.tide.length
  rotate_left
  · have hnb : ((nar.length : Int) != c.tide.length) = true := by simp; omega
    simp [sf_coblelaw01_ChartLess, chV, ed, et, es, env, hV, hK, hI, ha, hTk, hb, hD, hy0, hy1, hnb, hW, pf_pure, pureF]
  have hnb : ((nar.length : Int) != c.tide.length) = false := by simp [hn]
  have hg2 : 1 ≤ g ∧ g ≤ 100 := by simpa using hg
  simp [sf_coblelaw01_ChartLess, chV, cpd, cpt, cps, ed, et, es, env, hV, hK, hI, ha, hTk, hb, hD, hy0, hy1, hnb, hCp]
  generalize hS : ({ t := _, L := _, H := _, lim := _, rd := _ } : St) = S
  obtain ⟨⟨e, s1⟩, hr1, q⟩ := less_loop1 c hok H hG d t s nv hc' g a b y nar hn hnv S (by subst hS; simp) (by subst hS; simp [env]) (by subst hS; simp) (by subst hS; simp) (by subst hS; simp) (by subst hS; simp) (by subst hS; simp [lessL, cpd, cpt, cps, ed, et, es]) (by subst hS; rfl) (by subst hS; rfl)
  simp [lessLoop1, SC.loops, sf_coblelaw01_ChartLess] at hr1
  rw [hr1]
  simp only at q
  rcases q with ⟨rfl, q8⟩ | ⟨rfl, qn, qH, qL, ql, q2, q4, q5, q9⟩
  · simp [q8, pf_pure, pureF]
  have j2 : tget s1.t 2 = .int .i64 y := by rw [q2]; subst hS; simp
  have j4 : tget s1.t 4 = .pointer (some ⟨4, 0, some 0⟩) := by rw [q4]; subst hS; simp
  have j5 : tget s1.t 5 = .pointer (some ⟨5, 0, some 0⟩) := by rw [q5]; subst hS; simp
  have j9 : tget s1.t 9 = .pointer (some ⟨9, 0, some 0⟩) := by rw [q9]; subst hS; simp
  have jL : s1.L = lessL c H g a b d t s := by rw [qL]; subst hS; simp [lessL, cpd, cpt, cps, ed, et, es]
  have hoq := with_ok hok hn qn
  have hcq := cp_in c (Far.short hf) H nar hn
  have ha' := ha
  have hb' := hb
  obtain ⟨i0, hi0, rfl⟩ := inN_iff.1 ha'
  obtain ⟨k0, hk0, rfl⟩ := inN_iff.1 hb'
  have eT : (c.with nar).ticks = c.ticks := hn
  obtain ⟨va, A1, w1, ⟨J1, p1⟩, o1⟩ := run_Arrive c (H ++ cpX c nar) (hG_ext _ hG) d t s (hc'.ext (Ext.push H _)) g i0 k0
  have hcq1 : ChIn A1 (c.with nar) (cpd H c) (cpt H c) (cps H c) := by rw [p1]; exact hcq.ext (Ext.push _ _)
  have hG1 : A1[waysG]? = some (.ro waysV) := by rw [p1]; exact hG_ext _ (hG_ext _ hG)
  obtain ⟨vb, A2, w2, ⟨J2, p2⟩, o2⟩ := run_Arrive (c.with nar) A1 hG1 _ _ _ hcq1 (g - y) i0 k0
  have hcA : ChIn A2 c d t s := by rw [p2, p1]; exact ((hc'.ext (Ext.push H _)).ext (Ext.push _ _)).ext (Ext.push _ _)
  have hcq2 : ChIn A2 (c.with nar) (cpd H c) (cpt H c) (cps H c) := by rw [p2]; exact hcq1.ext (Ext.push _ _)
  have o1' : Sl A2 va (arrL c g i0 k0).length (ints (arrL c g i0 k0)) := by rw [p2]; exact o1.ext (Ext.push _ _)
  have hG2 : A2[waysG]? = some (.ro waysV) := by rw [p2]; exact hG_ext _ hG1
  have e1 := embE_ok hok hg2 hi0 hk0
  have e2 := embE_ok (c := c.with nar) hoq (g := g - y) (by omega) (i := i0) (k := k0) hi0 (by omega)
  rw [e1] at w1
  rw [e2] at w2
  have ll1 : (arrL c g i0 k0).length = c.cells := by unfold arrL; rw [if_pos e1, nearL_len]
  have ll2 : (arrL (c.with nar) (g - y) i0 k0).length = c.cells := by unfold arrL; rw [if_pos e2, nearL_len]; rfl
  have F := less_facts hok hn qn hg2 (y := y) (by omega) hi0 hk0
  have hwg : IntKind.i64.wrap (g - y) = g - y := wrap_i64 (by omega) (by omega)
  have hW2 := fun lim => run_works lim A2 hG2
  obtain ⟨aa, ac, ea, _⟩ := id o1'
  obtain ⟨ba, bc, eb, _⟩ := id o2
  rw [ll1] at ea
  rw [ll2] at eb
  have w1' := w1
  have w2' := w2
  have hCl2 := fun lim => hCl lim A2
  rw [hwm] at hCl2
  have ew : (c.with nar).w = c.w := rfl
  have eh : (c.with nar).h = c.h := rfl
  simp only [chV, ed, et, es, ea, ew, eh, cpd, cpt, cps] at w1'
  simp only [chV, ed, et, es, eb, ew, eh, cpd, cpt, cps] at w2'
  have jL2 := jL
  simp only [lessL, ed, et, es, cpd, cpt, cps] at jL2
  have hcc : ((c.cells : Int) != (c.cells : Int)) = false := by simp
  simp [j2, j4, j5, j9, jL2, qH, w1', w2', hwg, hCl2]
  generalize hS2 : ({ t := _, L := _, H := _, lim := _, rd := _ } : St) = S2
  obtain ⟨⟨e, s2⟩, hr2, y1, yH⟩ := less_loop2 c (c.with nar) hok hoq rfl eT A2 H d t s hcA hcq2 ⟨rfl, rfl⟩ g y hg2 (by omega) i0 hk0 va vb _ _ ll1 ll2 o1' o2 F S2 (by subst hS2; simp [j2]) (by subst hS2; simp [j4]) (by subst hS2; simp [j5]) (by subst hS2; simp [j9]) (by subst hS2; simp [ea]) (by subst hS2; simp [eb]) (by subst hS2; simp) (by subst hS2; simp [lessL, ed, et, es, cpd, cpt, cps]) (by subst hS2; rfl)
  simp [lessLoop2, SC.loops, sf_coblelaw01_ChartLess] at hr2
  rw [hr2]
  simp only at y1 yH
  subst y1
  simp [yH, hW2, pf_pure, pureF]
end Go.Proofs.YtjejcbiilimjkaaDoor
