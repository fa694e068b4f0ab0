import Derived.Test.YtnpifaanhofonaaGreatDoorRigB
set_option linter.all false

/- Contracts of layer 5: Shed of the program. -/
namespace Go.Proofs.YtnpifaanhofonaaGreatDoor
open Go Go.RowKit

/-- The heel of some loads. -/
def heelsM (l : List Ld) (w : List Nat) : Int := (w.map fun i => match l[i]? with | some r => gHi r | none => 0).foldl (· + ·) 0
theorem heelsM_app (l : List Ld) (w : List Nat) (i : Nat) : heelsM l (w ++ [i]) = heelsM l w + (match l[i]? with | some r => gHi r | none => 0) := by
  simp [heelsM, List.foldl_append]
theorem heelsM_snoc (l : List Ld) (w : List Nat) {i : Nat} (hi : i < l.length) : heelsM l (w ++ [i]) = heelsM l w + gHi l[i] := by
  rw [heelsM_app, List.getElem?_eq_getElem hi]
theorem heelsM_bound {l : List Ld} (h : ∀ r ∈ l, 0 ≤ gHi r ∧ gHi r ≤ 50000) : ∀ (k : Nat) (w : List Nat), w.length = k → 0 ≤ heelsM l w ∧ heelsM l w ≤ 50000 * (k : Int)
  | 0, w, e => by
    have : w = [] := List.eq_nil_of_length_eq_zero e
    subst this
    simp [heelsM]
  | k + 1, w, e => by
    have hne : w ≠ [] := by rintro rfl; simp at e
    obtain ⟨m, i, rfl⟩ : ∃ m i, w = m ++ [i] := ⟨_, _, (List.dropLast_concat_getLast hne).symm⟩
    have ih := heelsM_bound h k m (by simpa using e)
    rw [heelsM_app]
    cases hc : l[i]? with
    | none => simp only []; omega
    | some c =>
      have := h c (List.mem_of_getElem? hc)
      simp only []; omega
theorem heelsM_chosen (l : List Ld) (s : Nat) : ∀ k, heelsM l (chosenM s k) = wS gHi l (fun i => s.testBit i) k
  | 0 => by simp [chosenM, heelsM, wS]
  | k + 1 => by
    rw [chosen_succ, wS, ← heelsM_chosen l s k]
    cases hb : s.testBit k with
    | false => simp
    | true => simp only [if_true]; exact heelsM_app l _ k

def pS (c : Cl) (l : List Ld) (w : List Nat) : Bool := decide (wS gHi l (awayQ w) l.length ≤ c.mom)
theorem heels_rest (l : List Ld) (s : Nat) (hs : s < 2 ^ l.length) : heelsM l (chosenM (2 ^ l.length - 1 - s) l.length) = wS gHi l (awayQ (chosenM s l.length)) l.length := by
  rw [heelsM_chosen]
  refine wS_congr _ fun i hi => ?_
  rw [show 2 ^ l.length - 1 - s = 2 ^ l.length - (s + 1) by omega, Nat.testBit_two_pow_sub_succ hs]
  unfold awayQ
  have := chosen_mem s l.length i
  cases hb : s.testBit i with
  | true =>
    have hm : i ∈ chosenM s l.length := this.2 ⟨hi, hb⟩
    simp [hi, hm]
  | false =>
    have hm : ¬ i ∈ chosenM s l.length := fun h => by have := (this.1 h).2; rw [hb] at this; cases this
    simp [hi, hm]

theorem LstO.weak' {n0 n1 : Nat} {A : AH} {v : Value} {l : List Nat} (h : LstO n0 A v l) (hn : n1 ≤ n0) : LstO n1 A v l := by
  rcases h with h | ⟨h1, b, h2, h3, h4⟩
  · exact .inl h
  · exact .inr ⟨h1, b, by omega, h3, h4⟩

def sdV (n : Nat) : Value := .func (.func 64) #[] #[.pointer (some ⟨n, 0, none⟩), .pointer (some ⟨n + 1, 0, none⟩)]

theorem isT_shed (c : Cl) (l : List Ld) (hl : l.length ≤ 10) (hok : l.all ldOk = true) (H : AH) (k : Nat) (lv : Value) (hlv : Sl H lv l.length (ldsV l)) (b0 : H[k]? = some (.rw 0 [lv])) (b1 : H[k + 1]? = some (.rw 0 c.vals)) :
    IsT l.length H (sdV k) (pS c l) := by
  refine ⟨⟨by simp [sdV], rfl, rfl, rfl⟩, fun H' hE w v lim hw hlt hv => ?_⟩
  have hlv' := hlv.ext hE
  have k0 := hE _ _ b0
  have k1 := hE _ _ b1
  have hh := fun lim => run_heelOf l hl hok w (by omega) lim H' lv v hlv' hv
  obtain ⟨la, lc, rfl, _⟩ := hlv
  obtain ⟨va, vc, rfl, _⟩ := hv
  unfold sdV pS
  rw [apL_func _ _ _ _ _ _ (by rfl), sf_launch_Shed_1_eq]
  simp [sf_launch_Shed_1, k0, k1, hh, Cl.vals, pf_pure, pureF]

/-- Shed: the list and its error. -/
def shedD (c : Cl) (l : List Ld) : List Nat × Int :=
  if loadsE c l ≠ 0 then ([], loadsE c l) else (((listsM l.length).find? (pS c l)).getD [], 0)
theorem shedD_ok {c : Cl} {l : List Ld} (h : loadsE c l = 0) : shedD c l = (((listsM l.length).find? (pS c l)).getD [], 0) := by
  unfold shedD
  rw [if_neg (by simpa using h)]
theorem shedD_no {c : Cl} {l : List Ld} (h : ¬ loadsE c l = 0) : shedD c l = ([], loadsE c l) := by
  unfold shedD
  rw [if_pos h]

set_option maxHeartbeats 1000000 in
theorem run_Shed (c : Cl) (l : List Ld) (hl : l.length < 2 ^ 62) (lim : Nat) (H : AH) (lv : Value) (hlv : Sl H lv l.length (ldsV l)) :
    ∃ v A, apL Tryz.prog pf (.func (.func 28) #[] #[]) [clV c, lv] lim H = some (.tuple #[v, .int .i64 (shedD c l).2], A) ∧ Aft H A ∧ LstO H.length A v (shedD c l).1 := by
  rw [apL_func _ _ _ _ _ _ (by rfl), sf_launch_Shed_eq]
  have hk := fun lim => run_checkLoads c l hl lim H lv hlv
  have hlv0 := hlv
  obtain ⟨la, lc, ev, _⟩ := hlv0
  by_cases h0 : loadsE c l = 0
  rotate_left
  · rw [shedD_no h0]
    simp only [clV, ev] at hk ⊢
    have h0' : (loadsE c l != 0) = true := by simpa using h0
    refine ⟨.slice none 0 0, H, ?_, Aft.refl H, .inl ⟨rfl, rfl⟩⟩
    simp [sf_launch_Shed, hk, h0', pf_pure, pureF]
  obtain ⟨h10, hok⟩ := loadsE_zero h0
  rw [h0] at hk
  rw [shedD_ok h0]
  obtain ⟨H2, hH2⟩ : ∃ H2, H2 = H ++ [ABlk.rw 0 [lv], .rw 0 c.vals] := ⟨_, rfl⟩
  have hE2 : Ext H H2 := by rw [hH2]; exact Ext.push H _
  obtain ⟨v, A, hF, hA, hv⟩ := run_fewestL l.length (by omega) _ H2 (sdV H.length) (isT_shed c l h10 hok H2 H.length lv (hlv.ext hE2) (by rw [hH2]; simp) (by rw [hH2]; simp)) H.length
  have hA2 : Aft H A := by rw [hH2] at hA; exact ((Aft.refl H).push _).trans hA
  have hl2 : H.length ≤ H2.length := by rw [hH2]; simp
  rw [hH2] at hF
  simp only [sdV, ev, Cl.vals] at hF
  simp only [clV, ev] at hk ⊢
  have hv' := hv.weak' hl2
  rcases hv' with ⟨e, rfl⟩ | ⟨h4, b', h5, rfl, h6⟩
  · refine ⟨.slice none 0 0, H, ?_, Aft.refl H, .inl ⟨e, rfl⟩⟩
    simp [-oneC, oneC_slice, oneC_int, -Array.all_toList, sf_launch_Shed, hk, hF, pf_pure, pureF]
  · refine ⟨_, A, ?_, hA2, .inr ⟨h4, b', by omega, rfl, h6⟩⟩
    simp [-oneC, oneC_slice, oneC_int, -Array.all_toList, sf_launch_Shed, hk, hF, pf_pure, pureF]
end Go.Proofs.YtnpifaanhofonaaGreatDoor
