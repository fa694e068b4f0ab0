/- Contracts of the functions, in the abstract machine: Arrive, Depart. -/
import Derived.Test.YtojplagenejhdaaDoorPasE
set_option linter.all false
namespace Go.Proofs.YtojplagenejhdaaDoor
open Go Go.RowKit

theorem ticks_on {c : Ch} {tick : Nat} (h : tick < c.ticks) (j : Nat) : inN c.ticks ((tick : Int) + (j : Int) * 1) = true ↔ j < c.ticks - tick := by
  rw [inN_iff]
  constructor
  · rintro ⟨k, hk, e⟩; omega
  · intro hj; exact ⟨tick + j, by omega, by omega⟩
theorem ticks_back {c : Ch} {tick : Nat} (h : tick < c.ticks) (j : Nat) : inN c.ticks ((tick : Int) + (j : Int) * (-1)) = true ↔ j < tick + 1 := by
  rw [inN_iff]
  constructor
  · rintro ⟨k, hk, e⟩; omega
  · intro hj; exact ⟨tick - j, by omega, by omega⟩

noncomputable def arrL (c : Ch) (g a b : Int) : List Int := if embE c g [a] [b] = 0 then nearL c g a.toNat b.toNat 1 (c.ticks - b.toNat) else []
noncomputable def depL (c : Ch) (g a b : Int) : List Int := if embE c g [a] [b] = 0 then nearL c g a.toNat b.toNat (-1) (b.toNat + 1) else []

theorem run_Arrive (c : Ch) (H : AH) (hG : H[waysG]? = some (.ro waysV)) (d t s : Value) (hc : ChIn H c d t s) (g a b : Int) :
    ∃ v A, (∀ lim, apL Tryd.prog pf (.func (.func 25) #[] #[]) [chV c d t s, .int .i64 g, .int .i64 a, .int .i64 b] lim H = some (.tuple #[v, .int .i64 (embE c g [a] [b])], A)) ∧ (∃ J, A = H ++ J) ∧ Sl A v (arrL c g a b).length (ints (arrL c g a b)) := by
  have hc2 : ChIn (H ++ [.rw 1 (ints [a]), .rw 1 (ints [b])]) c d t s := hc.ext (Ext.push H _)
  have ho := fun lim => run_embark c lim _ d t s hc2 g [a] [b] (.slice (some ⟨H.length, 0, none⟩) 1 1) (.slice (some ⟨H.length + 1, 0, none⟩) 1 1) (Sl.made (by simp) rfl) (Sl.made (by simp) rfl) (by simp) (by simp)
  by_cases h0 : embE c g [a] [b] = 0
  · obtain ⟨h00, _⟩ := embE_zero h0
    obtain ⟨hok, h1, h2⟩ := openE_zero h00
    simp only [List.all_cons, List.all_nil, Bool.and_true, inN_iff] at h1 h2
    obtain ⟨i, hi, rfl⟩ := h1
    obtain ⟨k, hk, rfl⟩ := h2
    obtain ⟨A, w1, ⟨J, w2⟩, w3⟩ := run_nearest c hok (H ++ [.rw 1 (ints [(i : Int)]), .rw 1 (ints [(k : Int)])]) (hG_ext _ hG) d t s hc2 g hi hk 1 (.inl rfl) (c.ticks - k) (ticks_on hk)
    have hl : arrL c g i k = nearL c g i k 1 (c.ticks - k) := by unfold arrL; rw [if_pos h0]; simp
    refine ⟨.slice (some ⟨H.length + 3, 0, none⟩) c.cells c.cells, A, fun lim => ?_, ⟨_, by rw [w2, List.append_assoc]⟩, ?_⟩
    · rw [apL_func _ _ _ _ _ _ (by rfl), sf_chart_Arrive_eq]
      obtain ⟨⟨da, dc, ed, _⟩, ⟨ta, tc, et, _⟩, ⟨sa, sc, es, _⟩, _, _, _⟩ := hc
      simp only [h0, if_true, boV, chV, ed, et, es, ints, List.map, List.length_append, List.length_cons, List.length_nil] at ho w1
      simp [sf_chart_Arrive, chV, ed, et, es, ho, w1, h0, pf_pure, pureF]
    · rw [hl]
      refine ⟨_, c.cells, by rw [nearL_len], fun j x hx => ⟨H.length + 3, 0, rfl, ?_⟩⟩
      simp only [List.length_append, List.length_cons, List.length_nil] at w3
      simp only [hcell, w3, Nat.zero_add]
      exact hx
  · have h1 : (embE c g [a] [b] != 0) = true := by simpa using h0
    have hl : arrL c g a b = [] := by unfold arrL; rw [if_neg h0]
    rw [hl]
    refine ⟨.slice none 0 0, H ++ if sca (.tuple #[.slice none 0 0, .int .i64 (embE c g [a] [b])]) = true then [] else [], fun lim => ?_, ⟨_, rfl⟩, Sl.nil⟩
    rw [apL_func _ _ _ _ _ _ (by rfl), sf_chart_Arrive_eq]
    obtain ⟨⟨da, dc, ed, _⟩, ⟨ta, tc, et, _⟩, ⟨sa, sc, es, _⟩, _, _, _⟩ := hc
    simp only [h0, if_false, chV, ed, et, es, ints, List.map, noBo] at ho
    simp [sf_chart_Arrive, chV, ed, et, es, ho, h0, h1, pf_pure, pureF]

theorem run_Depart (c : Ch) (H : AH) (hG : H[waysG]? = some (.ro waysV)) (d t s : Value) (hc : ChIn H c d t s) (g a b : Int) :
    ∃ v A, (∀ lim, apL Tryd.prog pf (.func (.func 30) #[] #[]) [chV c d t s, .int .i64 g, .int .i64 a, .int .i64 b] lim H = some (.tuple #[v, .int .i64 (embE c g [a] [b])], A)) ∧ (∃ J, A = H ++ J) ∧ Sl A v (depL c g a b).length (ints (depL c g a b)) := by
  have hc2 : ChIn (H ++ [.rw 1 (ints [a]), .rw 1 (ints [b])]) c d t s := hc.ext (Ext.push H _)
  have ho := fun lim => run_embark c lim _ d t s hc2 g [a] [b] (.slice (some ⟨H.length, 0, none⟩) 1 1) (.slice (some ⟨H.length + 1, 0, none⟩) 1 1) (Sl.made (by simp) rfl) (Sl.made (by simp) rfl) (by simp) (by simp)
  by_cases h0 : embE c g [a] [b] = 0
  · obtain ⟨h00, _⟩ := embE_zero h0
    obtain ⟨hok, h1, h2⟩ := openE_zero h00
    simp only [List.all_cons, List.all_nil, Bool.and_true, inN_iff] at h1 h2
    obtain ⟨i, hi, rfl⟩ := h1
    obtain ⟨k, hk, rfl⟩ := h2
    obtain ⟨A, w1, ⟨J, w2⟩, w3⟩ := run_nearest c hok (H ++ [.rw 1 (ints [(i : Int)]), .rw 1 (ints [(k : Int)])]) (hG_ext _ hG) d t s hc2 g hi hk (-1) (.inr rfl) (k + 1) (ticks_back hk)
    have hl : depL c g i k = nearL c g i k (-1) (k + 1) := by unfold depL; rw [if_pos h0]; simp
    refine ⟨.slice (some ⟨H.length + 3, 0, none⟩) c.cells c.cells, A, fun lim => ?_, ⟨_, by rw [w2, List.append_assoc]⟩, ?_⟩
    · rw [apL_func _ _ _ _ _ _ (by rfl), sf_chart_Depart_eq]
      obtain ⟨⟨da, dc, ed, _⟩, ⟨ta, tc, et, _⟩, ⟨sa, sc, es, _⟩, _, _, _⟩ := hc
      simp only [h0, if_true, boV, chV, ed, et, es, ints, List.map, List.length_append, List.length_cons, List.length_nil] at ho w1
      simp [sf_chart_Depart, chV, ed, et, es, ho, w1, h0, pf_pure, pureF]
    · rw [hl]
      refine ⟨_, c.cells, by rw [nearL_len], fun j x hx => ⟨H.length + 3, 0, rfl, ?_⟩⟩
      simp only [List.length_append, List.length_cons, List.length_nil] at w3
      simp only [hcell, w3, Nat.zero_add]
      exact hx
  · have h1 : (embE c g [a] [b] != 0) = true := by simpa using h0
    have hl : depL c g a b = [] := by unfold depL; rw [if_neg h0]
    rw [hl]
    refine ⟨.slice none 0 0, H ++ if sca (.tuple #[.slice none 0 0, .int .i64 (embE c g [a] [b])]) = true then [] else [], fun lim => ?_, ⟨_, rfl⟩, Sl.nil⟩
    rw [apL_func _ _ _ _ _ _ (by rfl), sf_chart_Depart_eq]
    obtain ⟨⟨da, dc, ed, _⟩, ⟨ta, tc, et, _⟩, ⟨sa, sc, es, _⟩, _, _, _⟩ := hc
    simp only [h0, if_false, chV, ed, et, es, ints, List.map, noBo] at ho
    simp [sf_chart_Depart, chV, ed, et, es, ho, h0, h1, pf_pure, pureF]
end Go.Proofs.YtojplagenejhdaaDoor
