/- Contracts of the functions, in the abstract machine: the law ChartPassages. -/
import Derived.Test.YtojplagenejhdaaDoorRefJ
set_option linter.all false
namespace Go.Proofs.YtojplagenejhdaaDoor
open Go Go.RowKit

theorem arrL_small (c : Ch) (g a b : Int) : (arrL c g a b).length < 2 ^ 62 := by
  unfold arrL
  split
  · rename_i h
    have := (embE_inv h).1.pos.2
    rw [nearL_len]; omega
  · simp
theorem depL_small (c : Ch) (g a b : Int) : (depL c g a b).length < 2 ^ 62 := by
  unfold depL
  split
  · rename_i h
    have := (embE_inv h).1.pos.2
    rw [nearL_len]; omega
  · simp
theorem movL_small (c : Ch) (g a b u : Int) : (movL c g a b u).length < 2 ^ 62 := by
  unfold movL
  split
  · rename_i h
    have : embE c g [a] [b] = 0 := by
      have := embE_two c g a b u
      rw [h] at this
      split at this
      · assumption
      · rename_i h2; exact absurd this.symm h2
    have := (embE_inv this).1.pos.2
    split
    · simp; omega
    · rw [rowP_len]; omega
  · simp

theorem psgA_small {c : Ch} {g a b u : Int} {l : List Int} {e : Int} (h : PsgA c g a b u l e) : l.length < 2 ^ 62 := by
  rcases h with ⟨_, rfl, _⟩ | ⟨h1, _, j, h2, _, _, rfl⟩ | ⟨_, _, rfl, _⟩
  · simp
  · have : embE c g [a] [b] = 0 := by
      have := embE_two' c g a b u
      rw [h1] at this
      split at this
      · assumption
      · rename_i h2; exact absurd this.symm h2
    have hok := (embE_inv this).1
    have : c.ticks ≤ 60 := hok.2.2.2.1.2
    rw [trT_len]
    omega
  · simp

set_option maxHeartbeats 4000000 in
theorem passages_law (c : Ch) (lim : Nat) (H : AH) (hG : H[waysG]? = some (.ro waysV)) (d t s : Value) (hs : ChSl H c d t s) (g a b p q : Int) :
    apL Tryd.prog pf (.func (.func 5) #[] #[]) [chV c d t s, .agg #[.int .i64 g, .int .i64 a, .int .i64 b], .agg #[.int .i64 p, .int .i64 q]] lim H = some (.bool true, H) := by
  rw [apL_func _ _ _ _ _ _ (by rfl), sf_coblelaw01_ChartPassages_eq]
  by_cases hf : Far c
  · have hV := fun lim => run_VastFar c lim H d t s hs hf
    have hW := fun lim => run_works lim H hG
    obtain ⟨⟨da, dc, ed, _⟩, ⟨ta, tc, et, _⟩, ⟨sa, sc, es, _⟩⟩ := hs
    simp only [chV, ed, et, es] at hV
    simp [sf_coblelaw01_ChartPassages, chV, ed, et, es, hV, hW, pf_pure, pureF]
  have hc := hs.near hf
  have hl := Far.short hf
  have hV := fun lim => run_VastF c lim H d t s hc hf
  obtain ⟨d', t', s', hC, hc'⟩ := run_Copy c H.length H d t s hc hl
  have E0 : Ext H (H ++ copyB c) := Ext.push _ _
  have hG0 := hG_ext (copyB c) hG
  obtain ⟨v1, A1, w1, ⟨J1, p1⟩, o1⟩ := run_Arrive c _ hG0 d' t' s' hc' g a b
  have E1 : Ext (H ++ copyB c) A1 := by rw [p1]; exact Ext.push _ _
  have hG1 := E1 _ _ hG0
  obtain ⟨v2, A2, w2, ⟨J2, p2⟩, o2⟩ := run_refArrive c A1 d t s ((hc.ext E0).ext E1) g a b
  have E2 : Ext A1 A2 := by rw [p2]; exact Ext.push _ _
  have hG2 := E2 _ _ hG1
  have s1 := fun lim => run_sameInts (arrL c g a b) (arrL c g a b) (arrL_small c g a b) lim A2 v1 v2 (o1.ext E2) o2
  obtain ⟨v3, A3, l3, e3, w3, ⟨J3, p3⟩, o3, x3⟩ := run_Passage c A2 hG2 d' t' s' ((hc'.ext E1).ext E2) g a b p
  have E3 : Ext A2 A3 := by rw [p3]; exact Ext.push _ _
  have hG3 := E3 _ _ hG2
  obtain ⟨v4, A4, l4, e4, w4, ⟨J4, p4⟩, o4, x4⟩ := run_refPassage c A3 d t s ((((hc.ext E0).ext E1).ext E2).ext E3) g a b p
  have E4 : Ext A3 A4 := by rw [p4]; exact Ext.push _ _
  have hG4 := E4 _ _ hG3
  obtain ⟨rfl, rfl⟩ := x3.unique x4
  have s2 := fun lim => run_sameInts l3 l3 (psgA_small x3) lim A4 v3 v4 (o3.ext E4) o4
  obtain ⟨v5, A5, w5, ⟨J5, p5⟩, o5⟩ := run_Depart c A4 hG4 d' t' s' ((((hc'.ext E1).ext E2).ext E3).ext E4) g a b
  have E5 : Ext A4 A5 := by rw [p5]; exact Ext.push _ _
  have hG5 := E5 _ _ hG4
  obtain ⟨v6, A6, w6, ⟨J6, p6⟩, o6⟩ := run_refDepart c A5 d t s ((((((hc.ext E0).ext E1).ext E2).ext E3).ext E4).ext E5) g a b
  have E6 : Ext A5 A6 := by rw [p6]; exact Ext.push _ _
  have hG6 := E6 _ _ hG5
  have s3 := fun lim => run_sameInts (depL c g a b) (depL c g a b) (depL_small c g a b) lim A6 v5 v6 (o5.ext E6) o6
  obtain ⟨v7, A7, w7, ⟨J7, p7⟩, o7⟩ := run_Moves c A6 hG6 d' t' s' ((((((hc'.ext E1).ext E2).ext E3).ext E4).ext E5).ext E6) g a b q
  have E7 : Ext A6 A7 := by rw [p7]; exact Ext.push _ _
  have hG7 := E7 _ _ hG6
  obtain ⟨v8, A8, w8, ⟨J8, p8⟩, o8⟩ := run_refMoves c A7 d t s ((((((((hc.ext E0).ext E1).ext E2).ext E3).ext E4).ext E5).ext E6).ext E7) g a b q
  have E8 : Ext A7 A8 := by rw [p8]; exact Ext.push _ _
  have hG8 := E8 _ _ hG7
  have s4 := fun lim => run_sameInts (movL c g a b q) (movL c g a b q) (movL_small c g a b q) lim A8 v7 v8 (o7.ext E8) o8
  have hW := fun lim => run_works lim A8 hG8
  simp only [decide_true] at s1 s2 s3 s4
  obtain ⟨a1, k1, f1, _⟩ := o1
  obtain ⟨a2, k2, f2, _⟩ := o2
  obtain ⟨a3, k3, f3, _⟩ := o3
  obtain ⟨a4, k4, f4, _⟩ := o4
  obtain ⟨a5, k5, f5, _⟩ := o5
  obtain ⟨a6, k6, f6, _⟩ := o6
  obtain ⟨a7, k7, f7, _⟩ := o7
  obtain ⟨a8, k8, f8, _⟩ := o8
  obtain ⟨⟨da, dc, ed, _⟩, ⟨ta, tc, et, _⟩, ⟨sa, sc, es, _⟩, _, _, _⟩ := hc
  obtain ⟨⟨da', dc', ed', _⟩, ⟨ta', tc', et', _⟩, ⟨sa', sc', es', _⟩, _, _, _⟩ := hc'
  simp only [chV, ed, et, es, ed', et', es', f1, f2, f3, f4, f5, f6, f7, f8] at hV hC w1 w2 w3 w4 w5 w6 w7 w8 s1 s2 s3 s4
  have n1 : (embE c g [a] [b] != embE c g [a] [b]) = false := by simp
  have n2 : (e3 != e3) = false := by simp
  have n3 : (embE c g [a] [b, q] == embE c g [a] [b, q]) = true := by simp
  generalize (arrL c g a b).length = L1 at *
  generalize (depL c g a b).length = L2 at *
  generalize (movL c g a b q).length = L3 at *
  generalize l3.length = L4 at *
  generalize embE c g [a] [b] = e1 at *
  generalize embE c g [a] [b, q] = e2 at *
  simp [sf_coblelaw01_ChartPassages, chV, ed, et, es, hV, hC, w1, w2, w3, w4, w5, w6, w7, w8, s1, s2, s3, s4, n1, n2, n3, hW, pf_pure, pureF]
end Go.Proofs.YtojplagenejhdaaDoor
