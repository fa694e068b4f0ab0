/- Contracts of the functions, in the abstract machine: the law ChartBack, whole. -/
import Derived.Test.YtojplagenejhdaaDoorFunN
set_option linter.all false
namespace Go.Proofs.YtojplagenejhdaaDoor
open Go Go.RowKit

theorem openE_cells {c : Ch} (hok : ChOk c) {a b : Nat} (ha : a < c.cells) (hb : b < c.cells) : openE c [(a : Int), (b : Int)] [] = 0 := by
  rw [openE_eq hok]
  have h1 : inN c.cells (a : Int) = true := inN_iff.2 ⟨a, ha, rfl⟩
  have h2 : inN c.cells (b : Int) = true := inN_iff.2 ⟨b, hb, rfl⟩
  simp [h1, h2]

theorem apt_bounds {c : Ch} (hok : ChOk c) {a b : Nat} (ha : a < c.cells) (hb : b < c.cells) : 0 ≤ apt c.w a b ∧ apt c.w a b ≤ 10000 := by
  obtain ⟨m0, m1, m2⟩ := hok.mul
  obtain ⟨⟨r0, r1⟩, ⟨q0, q1⟩, _⟩ := rowcol (h := c.h) hok.1.1 (Int.natCast_nonneg a) (by rw [m2]; exact Int.ofNat_lt.2 ha)
  obtain ⟨⟨r0', r1'⟩, ⟨q0', q1'⟩, _⟩ := rowcol (h := c.h) hok.1.1 (Int.natCast_nonneg b) (by rw [m2]; exact Int.ofNat_lt.2 hb)
  have := hok.1.2
  have := hok.2.1.2
  unfold apt dst estN
  omega

set_option maxHeartbeats 2000000 in
theorem back_law (c : Ch) (lim : Nat) (H : AH) (hG : H[waysG]? = some (.ro waysV)) (d t s : Value) (hs : ChSl H c d t s) (a b o : Int) :
    apL Tryd.prog pf (.func (.func 7) #[] #[]) [chV c d t s, .int .i64 a, .int .i64 b, .int .i64 o] lim H = some (.bool true, H) := by
  rw [apL_func _ _ _ _ _ _ (by rfl), sf_coblelaw01_ChartBack_eq]
  have hW := fun lim => run_works lim H hG
  by_cases hf : Far c
  · have hV := fun lim => run_VastFar c lim H d t s hs hf
    obtain ⟨⟨da, dc, ed, _⟩, ⟨ta, tc, et, _⟩, ⟨sa, sc, es, _⟩⟩ := hs
    simp only [chV, ed, et, es] at hV
    simp [sf_coblelaw01_ChartBack, chV, ed, et, es, hV, hW, pf_pure, pureF]
  have hc := hs.near hf
  have hc' := hc
  have hV := fun lim => run_VastF c lim H d t s hc hf
  by_cases hok : ChOk c
  rotate_left
  · have hK := fun lim => run_CheckF c lim H d t s hc hok
    obtain ⟨⟨da, dc, ed, _⟩, ⟨ta, tc, et, _⟩, ⟨sa, sc, es, _⟩, _, _, _⟩ := hc
    simp only [chV, ed, et, es] at hV hK
    simp [sf_coblelaw01_ChartBack, chV, ed, et, es, hV, hK, hW, pf_pure, pureF]
  have hK := fun lim => run_CheckT c lim H d t s hc hok
  have hI := fun x lim => run_IsCellOk c hok x lim H d t s hc
  cases ha : inN c.cells a
  · obtain ⟨⟨da, dc, ed, _⟩, ⟨ta, tc, et, _⟩, ⟨sa, sc, es, _⟩, _, _, _⟩ := hc
    simp only [chV, ed, et, es] at hV hK hI
    simp [sf_coblelaw01_ChartBack, chV, ed, et, es, hV, hK, hW, hI, ha, pf_pure, pureF]
  cases hb : inN c.cells b
  · obtain ⟨⟨da, dc, ed, _⟩, ⟨ta, tc, et, _⟩, ⟨sa, sc, es, _⟩, _, _, _⟩ := hc
    simp only [chV, ed, et, es] at hV hK hI
    simp [sf_coblelaw01_ChartBack, chV, ed, et, es, hV, hK, hW, hI, ha, hb, pf_pure, pureF]
  cases ho : inN c.cells o
  · obtain ⟨⟨da, dc, ed, _⟩, ⟨ta, tc, et, _⟩, ⟨sa, sc, es, _⟩, _, _, _⟩ := hc
    simp only [chV, ed, et, es] at hV hK hI
    simp [sf_coblelaw01_ChartBack, chV, ed, et, es, hV, hK, hW, hI, ha, hb, ho, pf_pure, pureF]
  have ha' := ha
  have hb' := hb
  have ho' := ho
  obtain ⟨a, han, rfl⟩ := inN_iff.1 ha'
  obtain ⟨b, hbn, rfl⟩ := inN_iff.1 hb'
  obtain ⟨o, hon, rfl⟩ := inN_iff.1 ho'
  obtain ⟨m0, m1, m2⟩ := hok.mul
  have A := fun x y lim => run_Apart c lim H d t s hc x y
  obtain ⟨⟨da, dc, ed, _⟩, ⟨ta, tc, et, _⟩, ⟨sa, sc, es, _⟩, _, _, _⟩ := hc
  simp only [chV, ed, et, es] at hV hK hI A
  simp [sf_coblelaw01_ChartBack, chV, ed, et, es, hV, hK, hI, ha, hb, ho]
  generalize hS : ({ t := _, L := _, H := _, lim := _, rd := _ } : St) = S
  obtain ⟨⟨e, s1⟩, hr, q1, q9, k1, k2, k3, k4, kL, kH⟩ := back_loop c hok H hG d t s hc' (a := a) (b := b) han S (by subst hS; simp) (by subst hS; simp) (by subst hS; simp) (by subst hS; simp) (by subst hS; simp) (by subst hS; simp [ed, et, es]) (by subst hS; rfl)
  simp [backLoop, SC.loops, sf_coblelaw01_ChartBack] at hr
  rw [hr]
  simp only at q1 q9 k1 k2 k3 k4 kL kH
  subst q1
  have j1 : tget s1.t 1 = .int .i64 a := by rw [k1]; subst hS; simp
  have j2 : tget s1.t 2 = .int .i64 b := by rw [k2]; subst hS; simp
  have j3 : tget s1.t 3 = .int .i64 o := by rw [k3]; subst hS; simp
  have j4 : tget s1.t 4 = .pointer (some ⟨4, 0, some 0⟩) := by rw [k4]; subst hS; simp
  have jL : s1.L = [(4, 0, .cells [.int .i64 c.w, .int .i64 c.h, .slice da c.depth.length dc, .slice ta c.tide.length tc, .slice sa c.swell.length sc])] := by rw [kL]; subst hS; simp
  have ab := openE_cells hok han hbn
  have ba := openE_cells hok hbn han
  have ao := openE_cells hok han hon
  have ob := openE_cells hok hon hbn
  have n1 : apartN c a b = apt c.w a b := by unfold apartN; rw [if_pos ab]
  have n2 : apartN c b a = apt c.w a b := by unfold apartN; rw [if_pos ba, apt_symm]
  have n3 : apartN c a o = apt c.w a o := by unfold apartN; rw [if_pos ao]
  have n4 : apartN c o b = apt c.w o b := by unfold apartN; rw [if_pos ob]
  have la : (a : Int) < c.w * c.h := by rw [m2]; exact Int.ofNat_lt.2 han
  have lb : (b : Int) < c.w * c.h := by rw [m2]; exact Int.ofNat_lt.2 hbn
  have one := apt_one hok.1.1 hok.2.1.1 (Int.natCast_nonneg a) la (Int.natCast_nonneg b) lb
  have zero := apt_zero hok.1.1 (Int.natCast_nonneg a) la (Int.natCast_nonneg b) lb
  have tri := apt_tri c.w a b o
  have fx1 : (apt c.w a b == 1) = nearB c.w c.h a b 6 := by
    cases h : nearB c.w c.h a b 6
    · rw [h] at one; simpa using one
    · rw [h] at one; simpa using one
  have fx0 : (apt c.w a b == 0) = ((a : Int) == b) := by
    by_cases h : (a : Int) = b
    · rw [zero.2 h, h]; simp
    · have := mt zero.1 h; rw [beq_eq_false_iff_ne.2 this, beq_eq_false_iff_ne.2 h]
  have bo := apt_bounds hok han hon
  have bo2 := apt_bounds hok hon hbn
  have hwr : IntKind.i64.wrap (apt c.w a o + apt c.w o b) = apt c.w a o + apt c.w o b := wrap_i64 (by omega) (by omega)
  have fx2 : decide (apt c.w a b ≤ apt c.w a o + apt c.w o b) = true := decide_eq_true tri
  generalize apt c.w a b = X at *
  generalize apt c.w a o = Y at *
  generalize apt c.w o b = Z at *
  simp [-beq_iff_eq, j1, j2, j3, j4, jL, kH, q9, A, ab, ba, ao, ob, n1, n2, n3, n4, fx1, fx0, hwr, tri, hW, pf_pure, pureF]
end Go.Proofs.YtojplagenejhdaaDoor
