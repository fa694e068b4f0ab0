/- Contracts of the functions, in the abstract machine: Passage, the whole. -/
import Derived.Test.YtojplagenejhdaaDoorPsgC
set_option linter.all false
namespace Go.Proofs.YtojplagenejhdaaDoor
open Go Go.RowKit

/-- What Passage answers. -/
def PsgA (c : Ch) (g a b to : Int) (l : List Int) (e : Int) : Prop :=
  (embE c g [a, to] [b] ≠ 0 ∧ l = [] ∧ e = embE c g [a, to] [b]) ∨
  (embE c g [a, to] [b] = 0 ∧ e = 0 ∧ ∃ j, j < c.ticks - b.toNat ∧ (∀ m, m < j → ¬ Reach c g a.toNat b.toNat 1 m to.toNat) ∧ Reach c g a.toNat b.toNat 1 j to.toNat ∧ l = trT (psgT c g a.toNat b.toNat j to.toNat) (j + 1)) ∨
  (embE c g [a, to] [b] = 0 ∧ e = 3 ∧ l = [] ∧ ∀ m, m < c.ticks - b.toNat → ¬ Reach c g a.toNat b.toNat 1 m to.toNat)

theorem run_Passage (c : Ch) (H : AH) (hG : H[waysG]? = some (.ro waysV)) (d t s : Value) (hc : ChIn H c d t s) (g a b u : Int) :
    ∃ v A l e, (∀ lim, apL Tryd.prog pf (.func (.func 28) #[] #[]) [chV c d t s, .int .i64 g, .int .i64 a, .int .i64 b, .int .i64 u] lim H = some (.tuple #[v, .int .i64 e], A)) ∧ (∃ J, A = H ++ J) ∧ Sl A v l.length (ints l) ∧ PsgA c g a b u l e := by
  suffices key : ∃ v A l e, apL Tryd.prog pf (.func (.func 28) #[] #[]) [chV c d t s, .int .i64 g, .int .i64 a, .int .i64 b, .int .i64 u] 0 H = some (.tuple #[v, .int .i64 e], A) ∧ (∃ J, A = H ++ J) ∧ Sl A v l.length (ints l) ∧ PsgA c g a b u l e by
    obtain ⟨v, A, l, e, h1, h2⟩ := key
    refine ⟨v, A, l, e, fun lim => ?_, h2⟩
    rw [← h1, apL_func _ _ _ _ _ _ (by rfl), apL_func _ _ _ _ _ _ (by rfl)]
    simp only [pf_pure, show pureF 28 = true from rfl, if_true]
  have hc2 : ChIn (H ++ [.rw 1 (ints [a, u]), .rw 1 (ints [b])]) c d t s := hc.ext (Ext.push H _)
  have ho := fun lim => run_embark c lim _ d t s hc2 g [a, u] [b] (.slice (some ⟨H.length, 0, none⟩) 2 2) (.slice (some ⟨H.length + 1, 0, none⟩) 1 1) (Sl.made (by simp) rfl) (Sl.made (by simp) rfl) (by simp) (by simp)
  by_cases h0 : embE c g [a, u] [b] = 0
  · obtain ⟨h00, _⟩ := embE_zero h0
    obtain ⟨hok, h1, h2⟩ := openE_zero h00
    simp only [List.all_cons, List.all_nil, Bool.and_true, inN_iff, Bool.and_eq_true] at h1 h2
    obtain ⟨⟨i, hi, rfl⟩, ⟨u, hu, rfl⟩⟩ := h1
    obtain ⟨k, hk, rfl⟩ := h2
    have hT : c.ticks ≤ 60 := hok.2.2.2.1.2
    have hPs := fun lim => run_passages c lim (H ++ [.rw 1 (ints [(i : Int), (u : Int)]), .rw 1 (ints [(k : Int)])]) d t s hc2 g i k 1
    rw [apL_func _ _ _ _ _ _ (by rfl), sf_chart_Passage_eq]
    obtain ⟨⟨da, dc, ed, _⟩, ⟨ta, tc, et, _⟩, ⟨sa, sc, es, _⟩, _, _, _⟩ := id hc
    simp only [h0, if_true, boV, psV, chV, ed, et, es, ints, List.map, List.length_append, List.length_cons, List.length_nil, List.append_assoc, List.cons_append, List.nil_append] at ho hPs
    simp [sf_chart_Passage, chV, ed, et, es, ho, hPs, h0, pf_pure, pureF]
    generalize hS : ({ t := _, L := _, H := _, lim := _, rd := _ } : St) = S
    obtain ⟨H0, hH0⟩ : ∃ H0, H0 = H ++ [.rw 1 (ints [(i : Int), (u : Int)]), .rw 1 (ints [(k : Int)])] := ⟨_, rfl⟩
    have hH0l : H0.length = H.length + 2 := by rw [hH0]; simp
    have hcH0 : ChIn H0 c d t s := by rw [hH0]; exact hc2
    have hGH0 : H0[waysG]? = some (.ro waysV) := by rw [hH0]; exact hG_ext _ hG
    have eH : S.H = H0 ++ (psB c d t s g i k 1 .dead).take 4 := by subst hS; simp [hH0, psB, ed, et, es, ints]
    have el : S.lim = H.length := by subst hS; rfl
    have eLen : S.H.length = H.length + 6 := by rw [eH]; simp [psB, hH0l]
    have t9 : tget S.t 9 = .pointer (some ⟨9, 0, some 0⟩) := by subst hS; simp
    have t10 : tget S.t 10 = .pointer (some ⟨10, 0, some 0⟩) := by subst hS; simp
    have t11 : tget S.t 11 = .pointer (some ⟨11, 0, some 0⟩) := by subst hS; simp
    have t12 : tget S.t 12 = .pointer (some ⟨12, 0, some 0⟩) := by subst hS; simp
    have t14 : tget S.t 14 = .pointer (some ⟨14, 0, some 0⟩) := by subst hS; simp
    have l9 : lget S.L 9 = some (0, .cells [.int .i64 u]) := by subst hS; simp
    have l10 : lget S.L 10 = some (0, .cells [.slice none 0 0]) := by subst hS; simp
    have l11 : lget S.L 11 = some (0, .cells [.int .i64 0]) := by subst hS; simp
    have l12 : lget S.L 12 = some (0, .cells [.int .i64 c.w, .int .i64 c.h, d, t, s, .int .i64 g]) := by subst hS; simp [ed, et, es]
    have l14 : lget S.L 14 = some (0, .cells [.slice none 0 0]) := by subst hS; simp
    obtain ⟨A', y1, y2⟩ := run_ps c hok d t s g hi hk 1 (.inl rfl) (c.ticks - k) H0.length H.length (ticks_on hk) _ (by simp) _ _ (psg_C c hok H0 hGH0 d t s hcH0 g (cell := i) (tick := k) hu (c.ticks - k) H.length (by omega) (by omega) S.t t9 t10 t11 t12 t14) (H0 ++ (psB c d t s g i k 1 (.loop (psgR S.t S.L H.length)) ++ []))
      ⟨fun m hm => by omega, S.L, [], _, [], rfl, l14, l9, l10, l11, l12, rfl, rfl, .inl ⟨rfl, rfl⟩⟩
    have hcall : apL Tryd.prog pf (psV H0.length) [.func (.yield S.H.length) #[] #[]] S.lim (S.H ++ [.loop ⟨0, none, S.t, S.L, S.lim, [35, 36], psgAsg, psgBody⟩]) = some (.tuple #[], A') := by
      rw [eLen, el, ← y1, hH0l]; congr 1; rw [eH]; simp [psB, psgR]
    rcases y2 with ⟨hno, L', J, v, cs, hJ, _, _, k10, k11, _, _⟩ | ⟨m, bb, L', J, hm, hno, hyes, hJ, hb, hbA, k10, k11⟩
    · have hx := exL_range (f := .tmp 34) (ps := [35, 36]) (asg := psgAsg) (body := psgBody) (S := S) (fv := psV H0.length) (by subst hS; simp [psV, hH0l]) (by simp [psV]) rfl (by subst hS; rfl) (A' := A') (v := .tuple #[]) (r := psgR S.t L' H.length) hcall
        (by rw [eLen, hJ, show H.length + 6 = H0.length + 4 by omega, near_get _ _ _ _ (by simp [psB])]; rfl) (.inl rfl)
      simp only [psgAsg, psgBody, psgOps, psgRest, sf_chart_Passage] at hx
      rw [hx]
      refine ⟨.slice none 0 0, H, [], 3, ?_, ⟨[], by simp⟩, Sl.nil, .inr (.inr ⟨h0, rfl, rfl, fun m hm hr => hno m (by simpa using hm) (by simpa using hr.2)⟩)⟩
      simp [psgR, t10, t11, k10, k11, eLen]
    · have hx := exL_range (f := .tmp 34) (ps := [35, 36]) (asg := psgAsg) (body := psgBody) (S := S) (fv := psV H0.length) (by subst hS; simp [psV, hH0l]) (by simp [psV]) rfl (by subst hS; rfl) (A' := A') (v := .tuple #[]) (r := { psgR S.t L' H.length with st := 2, pend := some .ret }) hcall
        (by rw [eLen, hJ, show H.length + 6 = H0.length + 4 by omega, near_get _ _ _ _ (by simp [psB])]; rfl) (.inr rfl)
      simp only [psgAsg, psgBody, psgOps, psgRest, sf_chart_Passage] at hx
      rw [hx]
      have hB : A'.set (H.length + 6) .dead = H0 ++ (psB c d t s g i k 1 .dead ++ J) := by
        rw [hJ, show H.length + 6 = H0.length + 4 by omega, near_set _ _ _ _ (by simp [psB])]
        simp [psB]
      refine ⟨.slice (some ⟨bb, 0, none⟩) (m + 1) (m + 1), A'.set (H.length + 6) .dead, trT (psgT c g i k m u) (m + 1), 0, ?_, ⟨_, by rw [hB, hH0, List.append_assoc]⟩, Sl.made (by rw [List.getElem?_set_ne (by omega), hbA]) (by rw [trT_len]),
        .inr (.inl ⟨h0, rfl, m, by simpa using hm, fun n hn hr => hno n hn (by simpa using hr.2), ⟨hu, by simpa using hyes⟩, by simp⟩)⟩
      simp [psgR, t10, t11, k10, k11, eLen]
  · have h1 : (embE c g [a, u] [b] != 0) = true := by simpa using h0
    refine ⟨.slice none 0 0, H ++ if sca (.tuple #[.slice none 0 0, .int .i64 (embE c g [a, u] [b])]) = true then [] else [], [], _, ?_, ⟨_, rfl⟩, Sl.nil, .inl ⟨h0, rfl, rfl⟩⟩
    rw [apL_func _ _ _ _ _ _ (by rfl), sf_chart_Passage_eq]
    obtain ⟨⟨da, dc, ed, _⟩, ⟨ta, tc, et, _⟩, ⟨sa, sc, es, _⟩, _, _, _⟩ := hc
    simp only [h0, if_false, chV, ed, et, es, ints, List.map, noBo] at ho
    simp [sf_chart_Passage, chV, ed, et, es, ho, h0, h1, pf_pure, pureF]
end Go.Proofs.YtojplagenejhdaaDoor
