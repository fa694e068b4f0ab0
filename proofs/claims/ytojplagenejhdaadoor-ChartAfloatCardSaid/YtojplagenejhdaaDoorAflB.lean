/- Contracts of the functions, in the abstract machine: the law ChartAfloat. -/
import Derived.Test.YtojplagenejhdaaDoorAflA
set_option linter.all false
namespace Go.Proofs.YtojplagenejhdaaDoor
open Go Go.RowKit

def aflLoop : SC := sf_coblelaw01_ChartAfloat.body.loops.headD .skip

theorem afl_loop (c : Ch) (hok : ChOk c) (A : AH) (d t s : Value) (hc : ChIn A c d t s) (g : Int) {a k j : Nat} (hj : k + j < c.ticks) (hv pv : Value) (hs l : List Int) (hll : l.length = j + 1) (hhv : Sl A hv hs.length (ints hs)) (hpv : Sl A pv l.length (ints l))
    (F : ∀ m, m ≤ j → ∃ x : Nat, x < c.cells ∧ l.getD m 0 = x ∧ c.sure g x (k + m) = true) (S : St)
    (h2 : tget S.t 2 = hv) (h4 : tget S.t 4 = .pointer (some ⟨4, 0, some 0⟩)) (h5 : tget S.t 5 = .pointer (some ⟨5, 0, some 0⟩)) (h12 : tget S.t 12 = pv) (h14 : tget S.t 14 = .int .i64 0) (hL : S.L = retLS c g a k d t s) (hH : S.H = A) :
    ∃ q, exL Tryd.prog pf (.loop aflLoop) S = some q ∧ q.1 = .exit 0 ∧ q.2.H = A ∧ q.2.L = S.L ∧ q.2.lim = S.lim ∧ q.2.rd = S.rd ∧ tget q.2.t 3 = tget S.t 3 ∧ tget q.2.t 4 = tget S.t 4 ∧ tget q.2.t 5 = tget S.t 5 ∧ tget q.2.t 9 = tget S.t 9 ∧ tget q.2.t 10 = tget S.t 10 ∧ tget q.2.t 13 = tget S.t 13 := by
  have hT : c.ticks ≤ 60 := hok.2.2.2.1.2
  have hTi := fun lim => run_tide c (by omega) lim A d t s hc hs hv hhv
  have hO := fun {i k : Nat} (hi : i < c.cells) (hk : k < c.ticks) (h : Int) h0 h1 lim => run_Over c hok lim A d t s hc hi hk h h0 h1
  obtain ⟨ha', hac, rfl, hhv'⟩ := id hhv
  obtain ⟨pa, pc, rfl, hpv'⟩ := id hpv
  have hok' := hok
  obtain ⟨⟨da, dc, ed, _⟩, ⟨ta, tc, et, _⟩, ⟨sa, sc, es, _⟩, _, _, _⟩ := hc
  simp only [chV, ed, et, es] at hTi hO
  refine loop_rule (I := fun n s' => ∃ i, i ≤ j + 1 ∧ n = j + 1 - i ∧ tget s'.t 2 = .slice ha' hs.length hac ∧ tget s'.t 3 = tget S.t 3 ∧ tget s'.t 4 = .pointer (some ⟨4, 0, some 0⟩) ∧ tget s'.t 5 = .pointer (some ⟨5, 0, some 0⟩) ∧ tget s'.t 9 = tget S.t 9 ∧ tget s'.t 10 = tget S.t 10 ∧ tget s'.t 13 = tget S.t 13 ∧ tget s'.t 12 = .slice pa l.length pc ∧ tget s'.t 14 = .int .i64 i ∧ s'.L = S.L ∧ s'.lim = S.lim ∧ s'.rd = S.rd ∧ s'.H = A) ?_ (j + 1) S
    ⟨0, by omega, by omega, h2, rfl, h4, h5, rfl, rfl, rfl, h12, h14, rfl, rfl, rfl, hH⟩
  rintro n s' ⟨i, hi, rfl, e2, e3, e4, e5, e9, e10, e13, e12, e14, eL, el, er, eH⟩
  rw [hL] at eL
  simp only [retLS, ed, et, es] at eL hL
  cases ht : tidB c hs
  · rw [ht] at hTi
    simp [aflLoop, SC.loops, sf_coblelaw01_ChartAfloat, e2, e3, e4, e5, e9, e10, e13, e12, e14, eL, el, er, eH, hTi, h4, h5, hL]
  rw [ht] at hTi
  by_cases hlt : i < j + 1
  rotate_left
  · have hnlt : ¬ (i : Int) < l.length := by omega
    simp [aflLoop, SC.loops, sf_coblelaw01_ChartAfloat, e2, e3, e4, e5, e9, e10, e13, e12, e14, eL, el, er, eH, hTi, hnlt, h4, h5, hL]
  have hil : i < l.length := by omega
  have hil' : (i : Int) < l.length := by omega
  unfold tidB at ht
  simp only [Bool.and_eq_true, decide_eq_true_eq, List.all_eq_true, List.mem_range] at ht
  obtain ⟨ht1, ht2⟩ := ht
  have hki : k + i < hs.length := by omega
  have hki' : ((k + i : Nat) : Int) < hs.length := by omega
  obtain ⟨hlo, hhi⟩ := ht2 (k + i) hki
  obtain ⟨x, hx, ex, hsu⟩ := F i (by omega)
  obtain ⟨b1, o1, rfl, c1⟩ := hpv' i (.int .i64 x) (by rw [← ex]; exact ints_getE l i hil)
  obtain ⟨b2, o2, rfl, c2⟩ := hhv' (k + i) (.int .i64 (hs.getD (k + i) 0)) (ints_getE hs _ hki)
  obtain ⟨_, ⟨lo0, lo1, lo2⟩, _⟩ := hok.bounds hx (show k + i < c.ticks by omega)
  have hO := fun lim => hO hx (show k + i < c.ticks by omega) (hs.getD (k + i) 0) (by omega) (by omega) lim
  have hge : ¬ c.over x (k + i) (hs.getD (k + i) 0) < g := by
    unfold Ch.sure at hsu
    simp only [decide_eq_true_eq] at hsu
    unfold Ch.over at hsu ⊢
    omega
  have hw1 : IntKind.i64.wrap ((i : Int) + 1) = (i : Int) + 1 := wrap_i64 (by omega) (by omega)
  have hw2 : IntKind.i64.wrap ((k : Int) + (i : Int)) = ((k + i : Nat) : Int) := by rw [wrap_i64 (by omega) (by omega)]; omega
  simp only [hcell] at c1 c2
  generalize hs.getD (k + i) 0 = X at *
  generalize c.over x (k + i) X = Y at *
  simp [-Int.natCast_add, aflLoop, SC.loops, sf_coblelaw01_ChartAfloat, e2, e3, e4, e5, e9, e10, e13, e12, e14, eL, el, er, eH, hTi, hil, hil', hki, hki', c1, c2, hw1, hw2, hO, hge, h4, h5, hL]
  exact ⟨_, by omega, i + 1, by omega, rfl, by omega⟩

set_option maxHeartbeats 8000000 in
theorem afloat_law (c : Ch) (lim : Nat) (H : AH) (hG : H[waysG]? = some (.ro waysV)) (d t s hv nv : Value) (hs : ChSl H c d t s) (g a b : Int) (hl l : List Int) (hhv : Sl H hv hl.length (ints hl)) (hnv : Sl H nv l.length (ints l)) :
    apL Tryd.prog pf (.func (.func 8) #[] #[]) [chV c d t s, .agg #[.int .i64 g, .int .i64 a, .int .i64 b], hv, nv] lim H = some (.bool true, H) := by
  rw [apL_func _ _ _ _ _ _ (by rfl), sf_coblelaw01_ChartAfloat_eq]
  have hW := fun lim => run_works lim H hG
  obtain ⟨na, nc, env, hnv'⟩ := id hnv
  obtain ⟨ha, hac, ehv, _⟩ := id hhv
  by_cases hf : Far c
  · have hV := fun lim => run_VastFar c lim H d t s hs hf
    obtain ⟨⟨da, dc, ed, _⟩, ⟨ta, tc, et, _⟩, ⟨sa, sc, es, _⟩⟩ := hs
    simp only [chV, ed, et, es] at hV
    simp [sf_coblelaw01_ChartAfloat, chV, ed, et, es, hV, hW, pf_pure, pureF]
  have hc := hs.near hf
  have hc' := hc
  have hV := fun lim => run_VastF c lim H d t s hc hf
  by_cases hok : ChOk c
  rotate_left
  · have hK := fun lim => run_CheckF c lim H d t s hc hok
    obtain ⟨⟨da, dc, ed, _⟩, ⟨ta, tc, et, _⟩, ⟨sa, sc, es, _⟩, _, _, _⟩ := hc
    simp only [chV, ed, et, es] at hV hK
    simp [sf_coblelaw01_ChartAfloat, chV, ed, et, es, hV, hK, hW, pf_pure, pureF]
  have hK := fun lim => run_CheckT c lim H d t s hc hok
  have hI := fun x lim => run_IsCellOk c hok x lim H d t s hc
  have hTk := fun x lim => run_IsTick c x lim H d t s hc
  have hD := fun lim => run_IsDraught g lim H
  have hCl := fun lim H => run_CellsCh c lim H d t s
  obtain ⟨m0, m1, m2⟩ := hok.mul
  have hwm : IntKind.i64.wrap (c.w * c.h) = (c.cells : Int) := by rw [m2]; exact wrap_i64 (by omega) (by omega)
  obtain ⟨⟨da, dc, ed, _⟩, ⟨ta, tc, et, _⟩, ⟨sa, sc, es, _⟩, _, _, _⟩ := hc
  simp only [chV, ed, et, es] at hV hK hI hTk hCl
  rw [hwm] at hCl
  cases ha : inN c.cells a
  · simp [sf_coblelaw01_ChartAfloat, chV, ed, et, es, hV, hK, hI, ha, hW, pf_pure, pureF]
  cases hb : inN c.ticks b
  · simp [sf_coblelaw01_ChartAfloat, chV, ed, et, es, hV, hK, hI, ha, hTk, hb, hW, pf_pure, pureF]
  cases hg : (decide (1 ≤ g) && decide (g ≤ 100))
  · rw [hg] at hD
    simp [-Bool.and_eq_false_imp, sf_coblelaw01_ChartAfloat, chV, ed, et, es, hV, hK, hI, ha, hTk, hb, hD, hW, pf_pure, pureF]
  rw [hg] at hD
  have hg2 : 1 ≤ g ∧ g ≤ 100 := by simpa using hg
  by_cases hl0 : l.length = 0
  · simp [sf_coblelaw01_ChartAfloat, chV, ed, et, es, env, hV, hK, hI, ha, hTk, hb, hD, hl0, hW, pf_pure, pureF]
  have hl0b : ((l.length : Int) == 0) = false := by rw [beq_eq_false_iff_ne]; omega
  have hl0c : (0 : Int) < l.length := by omega
  have hl0d : 0 < l.length := by omega
  by_cases hl60 : (60 : Int) < (l.length : Int)
  · simp [sf_coblelaw01_ChartAfloat, chV, ed, et, es, env, hV, hK, hI, ha, hTk, hb, hD, hl0b, hl60, hW, pf_pure, pureF]
  have hwl : IntKind.i64.wrap ((l.length : Int) - 1) = ((l.length - 1 : Nat) : Int) := by rw [wrap_i64 (by omega) (by omega)]; omega
  have hl1 : ((l.length - 1 : Nat) : Int) < l.length := by omega
  have hl1' : l.length - 1 < l.length := by omega
  obtain ⟨b1, o1, rfl, c1⟩ := hnv' (l.length - 1) (.int .i64 (l.getD (l.length - 1) 0)) (ints_getE l _ hl1')
  obtain ⟨_, _, e, c0⟩ := hnv' 0 (.int .i64 (l.getD 0 0)) (ints_getE l _ hl0d)
  cases e
  obtain ⟨to, hto⟩ : ∃ to, l.getD (l.length - 1) 0 = to := ⟨_, rfl⟩
  rw [hto] at c1
  have c1' := c1
  simp only [hcell] at c1'
  cases hto2 : inN c.cells to
  · simp [sf_coblelaw01_ChartAfloat, chV, ed, et, es, env, hV, hK, hI, ha, hTk, hb, hD, hl0b, hl60, hwl, hl1, hl1', c1', hto2, hW, pf_pure, pureF]
  obtain ⟨a, ha2, rfl⟩ := inN_iff.1 ha
  obtain ⟨k, hk2, rfl⟩ := inN_iff.1 hb
  obtain ⟨to, hto3, rfl⟩ := inN_iff.1 hto2
  have hT : c.ticks ≤ 60 := hok.2.2.2.1.2
  obtain ⟨va, A1, w1, ⟨J1, p1⟩, o1'⟩ := run_Arrive c H hG d t s hc' g a k
  rw [arrL_ok hok hg2 ha2 hk2] at o1'
  rw [embE_ok hok hg2 ha2 hk2] at w1
  have hG1 : A1[waysG]? = some (.ro waysV) := by rw [p1]; exact hG_ext _ hG
  have hc1 : ChIn A1 c d t s := by rw [p1]; exact hc'.ext (Ext.push _ _)
  obtain ⟨vb, A2, lp, ep, w2, ⟨J2, p2⟩, o2, hA⟩ := run_Passage c A1 hG1 d t s hc1 g a k to
  have hG2 : A2[waysG]? = some (.ro waysV) := by rw [p2]; exact hG_ext _ hG1
  have hc2 : ChIn A2 c d t s := by rw [p2]; exact hc1.ext (Ext.push _ _)
  have o1'' : Sl A2 va (nearL c g a k 1 (c.ticks - k)).length (ints (nearL c g a k 1 (c.ticks - k))) := by rw [p2]; exact o1'.ext (Ext.push _ _)
  have ll1 : (nearL c g a k 1 (c.ticks - k)).length = c.cells := nearL_len ..
  have hHJ : A2 = H ++ (J1 ++ J2) := by rw [p2, p1]; simp
  have hn2 : Sl A2 nv l.length (ints l) := by rw [hHJ]; exact hnv.ext (Ext.push _ _)
  have hh2 : Sl A2 hv hl.length (ints hl) := by rw [hHJ]; exact hhv.ext (Ext.push _ _)
  have hE : Ext H A2 := by rw [hHJ]; exact Ext.push _ _
  have c0' := hcellE hE c0
  simp only [hcell, Nat.add_zero] at c0'
  have hW2 := fun lim => run_works lim A2 hG2
  have hP := fun lim => run_IsPassage c hok lim A2 d t s hc2 g k l (by omega) (by omega) nv hn2
  obtain ⟨aa, ac, ea, hva'⟩ := id o1''
  rw [ll1] at ea
  obtain ⟨b3, o3, rfl, c3⟩ := hva' to (.int .i64 ((nearL c g a k 1 (c.ticks - k)).getD to 0)) (ints_getE _ to (by omega))
  have hto' : (to : Int) < c.cells := by omega
  have hw2 : IntKind.i64.wrap ((k : Int) + (l.length : Int)) = ((k + l.length : Nat) : Int) := by rw [wrap_i64 (by omega) (by omega)]; omega
  have hw3 : IntKind.i64.wrap (((k + l.length : Nat) : Int) - 1) = ((k + l.length - 1 : Nat) : Int) := by rw [wrap_i64 (by omega) (by omega)]; omega
  simp only [chV, ed, et, es, env] at hP
  simp only [chV, ed, et, es, ea] at w1
  simp only [chV, ed, et, es] at w2
  simp only [hcell] at c3
  have hemb : embE c g [(a : Int), (to : Int)] [(k : Int)] = 0 := by
    have h0 : openE c [(a : Int), (to : Int)] [(k : Int)] = 0 := by
      rw [openE_eq hok]
      simp [ha, hb, hto2]
    rw [embE_of0 h0, if_pos hg2]
  have hnear := nearL_get c g a k 1 to hto3 (c.ticks - k) (fun m _ => by omega)
  rcases hA with ⟨h, _⟩ | ⟨_, rfl, j, hj1, hj2, hj3, hj4⟩ | ⟨_, rfl, rfl, hj⟩
  · exact absurd hemb h
  · -- there is a passage
    simp only [Int.toNat_natCast] at hj1 hj2 hj3 hj4
    obtain ⟨f1, f2, f3, f4, f5, f6⟩ := psg_facts hok ha2 hj1 hj3 hj4
    have hnk : (nearL c g a k 1 (c.ticks - k)).getD to 0 = ((k + j : Nat) : Int) := by
      rcases hnear with ⟨m, n1, n2, n3, n4⟩ | ⟨n1, _⟩
      · have : m = j := by
          have x1 : ¬ m < j := fun h => hj2 m h n2
          have x2 : ¬ j < m := fun h => n3 j h hj3
          omega
        rw [n4]; omega
      · exact absurd hj3 (n1 j hj1)
    rw [hnk] at c3
    obtain ⟨pa, pc, evb, hpv⟩ := id o2
    obtain ⟨b4, o4, rfl, c4⟩ := hpv 0 (.int .i64 a) (by rw [← f3]; exact ints_getE lp 0 (by omega))
    obtain ⟨_, _, e, c5⟩ := hpv j (.int .i64 to) (by rw [← f4]; exact ints_getE lp j (by omega))
    cases e
    rw [f1] at evb
    have hP1 := fun lim => run_IsPassage c hok lim A2 d t s hc2 g k lp (by omega) (by omega) vb o2
    have hap := fun lim => run_lawApart c hok lim A2 d t s hc2 ha2 hto3
    rw [f2] at hP1
    simp only [chV, ed, et, es, evb] at hP1 w2
    simp only [chV, ed, et, es] at hap
    simp only [hcell, Nat.add_zero] at c4 c5
    have hj0 : (0 : Int) < ((j + 1 : Nat) : Int) := by omega
    have hjw : IntKind.i64.wrap (((j + 1 : Nat) : Int) - 1) = (j : Int) := by rw [wrap_i64 (by omega) (by omega)]; omega
    have hjw2 : IntKind.i64.wrap ((k : Int) + ((j + 1 : Nat) : Int)) = ((k + j + 1 : Nat) : Int) := by rw [wrap_i64 (by omega) (by omega)]; omega
    have hjw3 : IntKind.i64.wrap (((k + j + 1 : Nat) : Int) - 1) = ((k + j : Nat) : Int) := by rw [wrap_i64 (by omega) (by omega)]; omega
    have hjj : (j : Int) < ((j + 1 : Nat) : Int) := by omega
    have hapt : ¬ (j : Int) < apt c.w a to := by omega
    have hkj0 : (0 : Int) ≤ ((k + j : Nat) : Int) := by omega
    simp [-Int.natCast_add, sf_coblelaw01_ChartAfloat, chV, ed, et, es, env, ehv, hV, hK, hI, ha, hTk, hb, hD, hl0b, hl60, hwl, hl1, hl1', c1', hto2, w1, w2, hCl, hto', hto3, c3, hkj0, hP1, c4, c5, hj0, hjw, hjw2, hjw3, hjj, hap, hapt]
    generalize hS : ({ t := _, L := _, H := _, lim := _, rd := _ } : St) = S
    obtain ⟨⟨e, s1⟩, hr, q1, qH, qL, ql, qr, q3, q4, q5, q9, q10, q13⟩ := afl_loop c hok A2 d t s hc2 g (a := a) (k := k) (j := j) (by omega) hv vb hl lp f1 hh2 o2 f6 S (by subst hS; simp [ehv]) (by subst hS; simp) (by subst hS; simp) (by subst hS; simp [evb]) (by subst hS; simp) (by subst hS; simp [retLS, ed, et, es]) (by subst hS; rfl)
    simp [aflLoop, SC.loops, sf_coblelaw01_ChartAfloat] at hr
    rw [hr]
    simp only at q1 qH qL ql qr q3 q4 q5 q9 q10 q13
    subst q1
    have j3 : tget s1.t 3 = .slice (some ⟨b1, o1, none⟩) l.length nc := by rw [q3]; subst hS; simp [env]
    have j4 : tget s1.t 4 = .pointer (some ⟨4, 0, some 0⟩) := by rw [q4]; subst hS; simp
    have j5 : tget s1.t 5 = .pointer (some ⟨5, 0, some 0⟩) := by rw [q5]; subst hS; simp
    have j9 : tget s1.t 9 = .int .i64 to := by rw [q9]; subst hS; simp
    have j10 : tget s1.t 10 = .slice (some ⟨b3, o3, none⟩) c.cells ac := by rw [q10]; subst hS; simp [ea]
    have j13 : tget s1.t 13 = .int .i64 0 := by rw [q13]; subst hS; simp
    have jL : s1.L = retLS c g a k d t s := by rw [qL]; subst hS; simp [retLS, ed, et, es]
    simp only [retLS, ed, et, es] at jL
    by_cases hx0 : l.getD 0 0 = a
    rotate_left
    · have hx0b : (l.getD 0 0 != (a : Int)) = true := by simpa using hx0
      generalize l.getD 0 0 = X at *
      simp [-Int.natCast_add, j3, j4, j5, j9, j10, j13, jL, qH, hl0b, hl0c, hl0d, c0', hx0b, hW2, pf_pure, pureF]
    have hx0b : ((a : Int) != (a : Int)) = false := by simp
    rw [hx0] at c0'
    cases hp : pasB c g k l
    · rw [hp] at hP
      simp [-Int.natCast_add, j3, j4, j5, j9, j10, j13, jL, qH, hl0b, hl0c, hl0d, c0', hx0b, hP, hW2, pf_pure, pureF]
    rw [hp] at hP
    obtain ⟨r1, r2⟩ := pas_reach hok hp hx0 hto
    have hjl : j ≤ l.length - 1 := by
      apply Nat.le_of_not_lt
      intro h
      exact hj2 _ h r2
    have hle : ((k + j : Nat) : Int) ≤ ((k + l.length - 1 : Nat) : Int) := by omega
    simp [-Int.natCast_add, j3, j4, j5, j9, j10, j13, jL, qH, hl0b, hl0c, hl0d, c0', hx0b, hP, hto', hto3, c3, hw2, hw3, hle, hW2, pf_pure, pureF]
  · -- there is none
    simp only [Int.toNat_natCast] at hj
    have hnk : (nearL c g a k 1 (c.ticks - k)).getD to 0 = -1 := by
      rcases hnear with ⟨m, n1, n2, n3, n4⟩ | ⟨_, n1⟩
      · exact absurd n2 (hj m n1)
      · exact n1
    rw [hnk] at c3
    obtain ⟨pa, pc, evb, _⟩ := id o2
    simp only [evb] at w2
    by_cases hx0 : l.getD 0 0 = a
    rotate_left
    · have hx0b : (l.getD 0 0 != (a : Int)) = true := by simpa using hx0
      generalize l.getD 0 0 = X at *
      simp [-Int.natCast_add, sf_coblelaw01_ChartAfloat, chV, ed, et, es, env, ehv, hV, hK, hI, ha, hTk, hb, hD, hl0b, hl0c, hl0d, hl60, hwl, hl1, hl1', c1', hto2, w1, w2, hCl, hto', hto3, c3, c0', hx0b, hW2, pf_pure, pureF]
    have hx0b : ((a : Int) != (a : Int)) = false := by simp
    rw [hx0] at c0'
    have hp : pasB c g k l = false := by
      rw [Bool.eq_false_iff]
      intro h
      obtain ⟨r1, r2⟩ := pas_reach hok h hx0 hto
      exact hj _ r1 r2
    rw [hp] at hP
    simp [-Int.natCast_add, sf_coblelaw01_ChartAfloat, chV, ed, et, es, env, ehv, hV, hK, hI, ha, hTk, hb, hD, hl0b, hl0c, hl0d, hl60, hwl, hl1, hl1', c1', hto2, w1, w2, hCl, hto', hto3, c3, c0', hx0b, hP, hW2, pf_pure, pureF]
end Go.Proofs.YtojplagenejhdaaDoor
