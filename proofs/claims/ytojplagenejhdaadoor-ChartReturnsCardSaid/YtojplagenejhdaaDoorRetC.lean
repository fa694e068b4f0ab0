/- Contracts of the functions, in the abstract machine: the law ChartReturns. -/
import Derived.Test.YtojplagenejhdaaDoorRetB
set_option linter.all false
namespace Go.Proofs.YtojplagenejhdaaDoor
open Go Go.RowKit

set_option maxHeartbeats 8000000 in
theorem returns_law (c : Ch) (lim : Nat) (H : AH) (hG : H[waysG]? = some (.ro waysV)) (d t s nv : Value) (hs : ChSl H c d t s) (g a b u : Int) (l : List Int) (hnv : Sl H nv l.length (ints l)) :
    apL Tryd.prog pf (.func (.func 9) #[] #[]) [chV c d t s, .agg #[.int .i64 g, .int .i64 a, .int .i64 b], .int .i64 u, nv] lim H = some (.bool true, H) := by
  rw [apL_func _ _ _ _ _ _ (by rfl), sf_coblelaw01_ChartReturns_eq]
  have hW := fun lim => run_works lim H hG
  obtain ⟨na, nc, env, hnv'⟩ := id hnv
  by_cases hf : Far c
  · have hV := fun lim => run_VastFar c lim H d t s hs hf
    obtain ⟨⟨da, dc, ed, _⟩, ⟨ta, tc, et, _⟩, ⟨sa, sc, es, _⟩⟩ := hs
    simp only [chV, ed, et, es] at hV
    simp [sf_coblelaw01_ChartReturns, chV, ed, et, es, hV, hW, pf_pure, pureF]
  have hc := hs.near hf
  have hc' := hc
  have hV := fun lim => run_VastF c lim H d t s hc hf
  by_cases hok : ChOk c
  rotate_left
  · have hK := fun lim => run_CheckF c lim H d t s hc hok
    obtain ⟨⟨da, dc, ed, _⟩, ⟨ta, tc, et, _⟩, ⟨sa, sc, es, _⟩, _, _, _⟩ := hc
    simp only [chV, ed, et, es] at hV hK
    simp [sf_coblelaw01_ChartReturns, chV, ed, et, es, hV, hK, hW, pf_pure, pureF]
  have hK := fun lim => run_CheckT c lim H d t s hc hok
  have hI := fun x lim => run_IsCellOk c hok x lim H d t s hc
  have hTk := fun x lim => run_IsTick c x lim H d t s hc
  have hD := fun lim => run_IsDraught g lim H
  have hCl := fun lim H => run_CellsCh c lim H d t s
  obtain ⟨m0, m1, m2⟩ := hok.mul
  have hwm : IntKind.i64.wrap (c.w * c.h) = (c.cells : Int) := by rw [m2]; exact wrap_i64 (by omega) (by omega)
  obtain ⟨⟨da, dc, ed, _⟩, ⟨ta, tc, et, _⟩, ⟨sa, sc, es, _⟩, _, _, _⟩ := hc
  simp only [chV, ed, et, es] at hV hK hI hTk hCl
  rw [hwm] at hCl
  cases ha : inN c.cells a
  · simp [sf_coblelaw01_ChartReturns, chV, ed, et, es, hV, hK, hI, ha, hW, pf_pure, pureF]
  cases hb : inN c.ticks b
  · simp [sf_coblelaw01_ChartReturns, chV, ed, et, es, hV, hK, hI, ha, hTk, hb, hW, pf_pure, pureF]
  cases hu : inN c.ticks u
  · simp [sf_coblelaw01_ChartReturns, chV, ed, et, es, hV, hK, hI, ha, hTk, hb, hu, hW, pf_pure, pureF]
  cases hg : (decide (1 ≤ g) && decide (g ≤ 100))
  · rw [hg] at hD
    simp [-Bool.and_eq_false_imp, sf_coblelaw01_ChartReturns, chV, ed, et, es, hV, hK, hI, ha, hTk, hb, hu, hD, hW, pf_pure, pureF]
  rw [hg] at hD
  have hg2 : 1 ≤ g ∧ g ≤ 100 := by simpa using hg
  by_cases hl60 : (60 : Int) < (l.length : Int)
  · simp [sf_coblelaw01_ChartReturns, chV, ed, et, es, env, hV, hK, hI, ha, hTk, hb, hu, hD, hl60, hW, pf_pure, pureF]
  obtain ⟨a, ha2, rfl⟩ := inN_iff.1 ha
  obtain ⟨k, hk2, rfl⟩ := inN_iff.1 hb
  obtain ⟨u, hu2, rfl⟩ := inN_iff.1 hu
  have hT : c.ticks ≤ 60 := hok.2.2.2.1.2
  obtain ⟨va, A1, w1, ⟨J1, p1⟩, o1⟩ := run_Moves c H hG d t s hc' g a k u
  rw [movL_ok hok hg2 ha2 hk2 hu2] at o1
  rw [embE_ok2 hok hg2 ha2 hk2 hu2] at w1
  have hG1 : A1[waysG]? = some (.ro waysV) := by rw [p1]; exact hG_ext _ hG
  have hc1 : ChIn A1 c d t s := by rw [p1]; exact hc'.ext (Ext.push _ _)
  obtain ⟨vb, A2, w2, ⟨J2, p2⟩, o2⟩ := run_Arrive c A1 hG1 d t s hc1 g a k
  rw [arrL_ok hok hg2 ha2 hk2] at o2
  rw [embE_ok hok hg2 ha2 hk2] at w2
  have hG2 : A2[waysG]? = some (.ro waysV) := by rw [p2]; exact hG_ext _ hG1
  have hc2 : ChIn A2 c d t s := by rw [p2]; exact hc1.ext (Ext.push _ _)
  have o1' : Sl A2 va (leastL c g a k u).length (ints (leastL c g a k u)) := by rw [p2]; exact o1.ext (Ext.push _ _)
  have ll1 := leastL_len c g a k u
  have ll2 : (nearL c g a k 1 (c.ticks - k)).length = c.cells := nearL_len ..
  obtain ⟨aa, ac, ea, hva'⟩ := id o1'
  obtain ⟨ba, bc, eb, _⟩ := id o2
  rw [ll1] at ea
  rw [ll2] at eb
  have w1' := w1
  have w2' := w2
  simp only [chV, ed, et, es, ea] at w1'
  simp only [chV, ed, et, es, eb] at w2'
  simp [sf_coblelaw01_ChartReturns, chV, ed, et, es, env, hV, hK, hI, ha, hTk, hb, hu, hD, hl60, w1', w2', hCl]
  generalize hS : ({ t := _, L := _, H := _, lim := _, rd := _ } : St) = S
  obtain ⟨⟨e, s1⟩, hr, q1, ⟨J, qH⟩, qL, ql, q2, q3, q4, q5, q9⟩ := ret_loop c hok A2 hG2 d t s hc2 g hg2 ha2 hk2 hu2 va vb _ _ ll1 ll2 o1' o2 (fun i hi => ret_facts hok ha2 hk2 hu2 hi) S (by subst hS; simp) (by subst hS; simp) (by subst hS; simp) (by subst hS; simp [ea]) (by subst hS; simp [eb]) (by subst hS; simp) (by subst hS; simp [retLS, ed, et, es]) (by subst hS; rfl)
  simp [retLoop, SC.loops, sf_coblelaw01_ChartReturns] at hr
  rw [hr]
  simp only at q1 qH qL ql q2 q3 q4 q5 q9
  subst q1
  have j2 : tget s1.t 2 = .int .i64 u := by rw [q2]; subst hS; simp
  have j3 : tget s1.t 3 = .slice na l.length nc := by rw [q3]; subst hS; simp [env]
  have j4 : tget s1.t 4 = .pointer (some ⟨4, 0, some 0⟩) := by rw [q4]; subst hS; simp
  have j5 : tget s1.t 5 = .pointer (some ⟨5, 0, some 0⟩) := by rw [q5]; subst hS; simp
  have j9 : tget s1.t 9 = .slice aa c.cells ac := by rw [q9]; subst hS; simp [ea]
  have jL : s1.L = retLS c g a k d t s := by rw [qL]; subst hS; simp [retLS, ed, et, es]
  have hHJ : A2 ++ J = H ++ (J1 ++ J2 ++ J) := by rw [p2, p1]; simp
  have hW2 := fun lim => run_works lim (A2 ++ J) (hG_ext _ hG2)
  have hcJ : ChIn (A2 ++ J) c d t s := hc2.ext (Ext.push _ _)
  have hnJ : Sl (A2 ++ J) nv l.length (ints l) := by rw [hHJ]; exact hnv.ext (Ext.push _ _)
  obtain ⟨_, _, env', hn2⟩ := id hnJ
  rw [env] at env'
  cases env'
  have hP := fun lim => run_IsPassage c hok lim (A2 ++ J) d t s hcJ g k l (by omega) (by omega) nv hnJ
  simp only [chV, ed, et, es, env] at hP
  simp only [retLS, ed, et, es] at jL
  by_cases hl0 : l.length = 0
  · have : (l.length : Int) = 0 := by omega
    simp [j2, j3, j4, j5, j9, jL, qH, hl0, hW2, pf_pure, pureF]
  have hl0b : ((l.length : Int) == 0) = false := by rw [beq_eq_false_iff_ne]; omega
  have hl0c : (0 : Int) < l.length := by omega
  have hl0d : 0 < l.length := by omega
  obtain ⟨b1, o1', rfl, c1⟩ := hn2 0 (.int .i64 (l.getD 0 0)) (ints_getE l 0 (by omega))
  by_cases hx0 : l.getD 0 0 = a
  rotate_left
  · have hx0b : (l.getD 0 0 != (a : Int)) = true := by simpa using hx0
    simp only [hcell, Nat.add_zero] at c1
    generalize l.getD 0 0 = X at *
    simp [j2, j3, j4, j5, j9, jL, qH, hl0b, hl0c, hl0d, c1, hx0b, hW2, pf_pure, pureF]
  have hx0b : ((a : Int) != (a : Int)) = false := by simp
  have hwl : IntKind.i64.wrap ((k : Int) + (l.length : Int)) = ((k + l.length : Nat) : Int) := by rw [wrap_i64 (by omega) (by omega)]; omega
  have hwl2 : IntKind.i64.wrap (((k + l.length : Nat) : Int) - 1) = ((k + l.length - 1 : Nat) : Int) := by rw [wrap_i64 (by omega) (by omega)]; omega
  rw [hx0] at c1
  simp only [hcell, Nat.add_zero] at c1
  by_cases hku : k + l.length - 1 = u
  rotate_left
  · have hkb : (((k + l.length - 1 : Nat) : Int) != (u : Int)) = true := by simp; omega
    simp [-Int.natCast_add, j2, j3, j4, j5, j9, jL, qH, hl0b, hl0c, hl0d, c1, hx0b, hwl, hwl2, hkb, hW2, pf_pure, pureF]
  have hkb : (((k + l.length - 1 : Nat) : Int) != (u : Int)) = false := by rw [hku]; simp
  cases hp : pasB c g k l
  · rw [hp] at hP
    simp [-Int.natCast_add, j2, j3, j4, j5, j9, jL, qH, hl0b, hl0c, hl0d, c1, hx0b, hwl, hwl2, hkb, hP, hW2, pf_pure, pureF]
  rw [hp] at hP
  obtain ⟨x, hx, ex, f1, f2⟩ := ret_path hok hp hx0 (u := u) (by omega)
  obtain ⟨_, _, e', c2⟩ := hn2 (l.length - 1) (.int .i64 x) (by rw [← ex]; exact ints_getE l _ (by omega))
  cases e'
  obtain ⟨b3, o3, rfl, c3⟩ := hva' x (.int .i64 ((leastL c g a k u).getD x 0)) (ints_getE _ x (by omega))
  have hM := fun lim => run_moves l (by omega) (by omega) lim (A2 ++ J) nv hnJ
  rw [env] at hM
  have c3 : hcell (A2 ++ J) b3 (o3 + x) = some (.int .i64 ((leastL c g a k u).getD x 0)) := by
    have hb : b3 < A2.length := by
      unfold hcell at c3
      cases hx : A2[b3]? with
      | none => rw [hx] at c3; simp at c3
      | some y => exact (List.getElem?_eq_some_iff.1 hx).1
    unfold hcell at c3 ⊢
    rw [List.getElem?_append_left hb]
    exact c3
  have hwl3 : IntKind.i64.wrap ((l.length : Int) - 1) = ((l.length - 1 : Nat) : Int) := by rw [wrap_i64 (by omega) (by omega)]; omega
  have hx' : (x : Int) < c.cells := by omega
  have hl1 : ((l.length - 1 : Nat) : Int) < l.length := by omega
  have hl1' : l.length - 1 < l.length := by omega
  simp only [hcell] at c2 c3
  generalize (leastL c g a k u).getD x 0 = R at *
  simp [-Int.natCast_add, j2, j3, j4, j5, j9, jL, qH, hl0b, hl0c, hl0d, c1, c2, c3, hx0b, hwl, hwl2, hwl3, hkb, hP, hW2, hx, hx', hl1, hl1', f1, f2, hM, pf_pure, pureF]
end Go.Proofs.YtojplagenejhdaaDoor
