import Derived.Test.YtnpifaanhofonaaGreatDoorSamE
set_option linter.all false

/- Contracts of layer 5: the reference's Shed, the whole; the law LaunchRights. -/
namespace Go.Proofs.YtnpifaanhofonaaGreatDoor
open Go Go.RowKit

set_option maxHeartbeats 1000000 in
theorem run_refShed (c : Cl) (l : List Ld) (hl : l.length < 2 ^ 62) (lim : Nat) (H : AH) (lv : Value) (hlv : Sl H lv l.length (ldsV l)) :
    ∃ v A, apL Tryz.prog pf (.func (.func 29) #[] #[]) [clV c, lv] lim H = some (.tuple #[v, .int .i64 (shedD c l).2], A) ∧ Aft H A ∧ LstO H.length A v (shedD c l).1 := by
  rw [apL_func _ _ _ _ _ _ (by rfl), sf_cobleref05_Shed_eq]
  have hk := fun lim => run_CheckLoads5 c l hl lim H lv hlv
  have hlv0 := hlv
  obtain ⟨la, lc, ev, _⟩ := hlv0
  by_cases h0 : loadsE c l = 0
  rotate_left
  · rw [shedD_no h0]
    simp only [clV, ev] at hk ⊢
    have h0' : (loadsE c l != 0) = true := by simpa using h0
    refine ⟨.slice none 0 0, H, ?_, Aft.refl H, .inl ⟨rfl, rfl⟩⟩
    simp [sf_cobleref05_Shed, hk, h0', pf_pure, pureF]
  obtain ⟨h10, hok⟩ := loadsE_zero h0
  rw [h0] at hk
  rw [shedD_ok h0]
  have hsh := shl_oneR l.length (by omega)
  have hu : IntKind.u64.wrap (l.length : Int) = (l.length : Int) := wrap_u64j (by omega)
  obtain ⟨p2, hp2⟩ : ∃ p2, p2 = 2 ^ l.length := ⟨_, rfl⟩
  have hp1 : 1 ≤ 2 ^ l.length := Nat.one_le_two_pow
  have hpm : 2 ^ l.length ≤ 1024 := by
    have : ∀ k, k < 11 → 2 ^ k ≤ 1024 := by decide
    exact this _ (by omega)
  rw [← hp2] at hsh
  have hs1 : IntKind.i64.wrap ((p2 : Int) - 1) = ((p2 - 1 : Nat) : Int) := by
    rw [show (p2 : Int) - 1 = ((p2 - 1 : Nat) : Int) by omega]
    exact wrap_i64 (by omega) (by omega)
  simp only [clV, ev] at hk ⊢
  simp [-oneC, oneC_slice, oneC_int, -Array.all_toList, sf_cobleref05_Shed, hk, hu, hsh, hs1, pf_pure, pureF]
  generalize hS : ({ t := _, L := _, H := _, lim := _, rd := _ } : St) = S
  obtain ⟨⟨q, s1⟩, hr, q1, q2, q3, q4⟩ := rs_sets c l h10 hok H lv hlv S (by subst hS; rfl) (by subst hS; rfl) (by subst hS; simp [ev]) (by subst hS; simp) (by subst hS; simp [Cl.vals]) (by subst hS; simp) (by subst hS; simp) (by subst hS; simp [hp2]) (by subst hS; simp)
  simp [rsLoop, SC.loops, sf_cobleref05_Shed] at hr
  rw [hr]
  simp only at q1 q2 q3 q4
  subst q1
  have xl : S.lim = H.length := by subst hS; rfl
  rcases q4 with ⟨e, hv⟩ | ⟨h4, b', h5, hv, h6⟩
  · refine ⟨.slice none 0 0, H, ?_, Aft.refl H, .inl ⟨e, rfl⟩⟩
    simp [hv]
  · refine ⟨_, s1.H, ?_, q3, .inr ⟨h4, b', h5, rfl, h6⟩⟩
    simp [hv]

theorem ldsV_copy {H : AH} {cs : List Ld} {ca : Option Addr} {cc : Nat} (hc : Sl H (.slice ca cs.length cc) cs.length (ldsV cs)) (hne : cs ≠ []) (L : LS) (X : AH) : ca.bind (cellsAt L (H ++ X) · (cs.length * 3)) = some (ldsV cs) := by
  obtain ⟨a, c, e, hd⟩ := hc
  cases e
  have hpos : 0 < (ldsV cs).length := by
    rw [ldsV_length]
    have := List.length_pos_iff.2 hne
    omega
  obtain ⟨b, o, rfl, _⟩ := hd 0 _ (List.getElem?_eq_getElem hpos)
  rw [← ldsV_length]
  simp only [Option.bind_some]
  refine cellsAt_of (ldsV cs) o fun j y hy => ?_
  obtain ⟨b', o', e', hb⟩ := hd j y hy
  cases e'
  exact hcell_ext (fun x => own_get (x := X) (z := x)) hb

theorem oneC_lds (cs : List Ld) : (ldsV cs).all oneC = true ∧ nlL (ldsV cs) = true := by
  have key : ∀ cs : List Ld, ∀ y ∈ ldsV cs, ∃ n, y = Value.int .i64 n := fun cs y hy => by
    unfold ldsV at hy
    obtain ⟨r, _, hr⟩ := List.mem_flatMap.1 hy
    simp only [Ld.vals, List.mem_cons, List.not_mem_nil, or_false] at hr
    rcases hr with h | h | h <;> exact ⟨_, h⟩
  refine ⟨List.all_eq_true.2 fun y hy => ?_, nlL_all fun y hy => ?_⟩
  · obtain ⟨n, rfl⟩ := key cs y hy; rfl
  · obtain ⟨n, rfl⟩ := key cs y hy; simp

theorem shedD_len (c : Cl) (l : List Ld) : (shedD c l).1.length < 2 ^ 62 := by
  by_cases h0 : loadsE c l = 0
  · obtain ⟨h10, _⟩ := loadsE_zero h0
    rw [shedD_ok h0]
    cases hx : (listsM l.length).find? (pS c l) with
    | none => simp
    | some m =>
      have := find_first hx
      have := asc_lenR this.1.2.1 this.1.2.2
      simp only [Option.getD_some]
      omega
  · rw [shedD_no h0]; simp

set_option maxHeartbeats 2000000 in
theorem rights_law (c : Cl) (l : List Ld) (lim : Nat) (H : AH) (hG : H[waysG]? = some (.ro waysV)) (lv : Value) (hlv : Sl H lv l.length (ldsV l)) :
    apL Tryz.prog pf (.func (.func 6) #[] #[]) [clV c, lv] lim H = some (.bool true, H) := by
  rw [apL_func _ _ _ _ _ _ (by rfl), sf_coblelaw05_LaunchRights_eq]
  have hw := fun lim H hG => run_works5 lim H hG
  have hlv0 := hlv
  obtain ⟨la, lc, rfl, _⟩ := hlv0
  by_cases h12 : 12 < l.length
  · have h12' : (12 : Int) < l.length := by omega
    simp [clV, sf_coblelaw05_LaunchRights, h12', hw _ _ hG, pf_pure, pureF]
  have h12' : ¬ (12 : Int) < l.length := by omega
  have hl : l.length < 2 ^ 62 := by omega
  obtain ⟨xv, H1, hH1, hE1, hx, hrun⟩ : ∃ xv H1, Aft H H1 ∧ Ext H H1 ∧ Sl H1 xv l.length (ldsV l) ∧ ((l = [] ∧ xv = .slice (some ⟨H.length, 0, none⟩) 0 0 ∧ H1 = H ++ [.rw 3 []]) ∨ (l ≠ [] ∧ xv = .slice (some ⟨H.length + 1, 0, none⟩) l.length (l.length + 1) ∧ H1 = H ++ [.rw 3 [], .rw 3 (ldsV l)])) := by
    by_cases he : l = []
    · subst he
      exact ⟨_, _, (Aft.refl H).push _, Ext.push H _, ⟨_, _, rfl, fun j x hx => by simp [ldsV] at hx⟩, .inl ⟨rfl, rfl, rfl⟩⟩
    · refine ⟨_, _, (Aft.refl H).push _, Ext.push H _, ⟨_, _, rfl, fun j x hx => ⟨H.length + 1, 0, rfl, ?_⟩⟩, .inr ⟨he, rfl, rfl⟩⟩
      simp only [hcell, Nat.zero_add]
      rw [List.getElem?_append_right (by omega), Nat.add_sub_cancel_left]
      exact hx
  have hl1 := hlv.ext hE1
  have hR1 := fun lim => run_Rights c l hl lim H1 xv hx
  have hR2 := fun lim => run_refRights c l hl lim H1 _ hl1
  obtain ⟨v, A, hB, hA, hv⟩ := run_Shed c l hl H.length H1 xv hx
  have hlA := hl1.ext hA.ext
  obtain ⟨w, B, hR, hBB, hwv⟩ := run_refShed c l hl H.length A _ hlA
  have hGA := (hE1.trans hA.ext).trans hBB.ext _ _ hG
  have hlen := shedD_len c l
  have hsame := fun lim => run_sameInts5 (natI (shedD c l).1) (natI (shedD c l).1) (by rw [natI_len]; exact hlen) lim B v w (by rw [natI_len]; exact (hv.ext' hBB.ext).sl) (by rw [natI_len]; exact hwv.sl)
  have hwB := fun lim => run_works5 lim B hGA
  obtain ⟨u1, u2, u3, u4, ua, un, uk, u5⟩ := hv.one
  obtain ⟨w1, w2, w3, w4, wa, wn, wk, w5⟩ := hwv.one
  obtain ⟨o1, o2⟩ := oneC_lds l
  rw [u5] at hB hsame
  rw [w5] at hR hsame
  simp at hsame
  generalize rightsD c l = rd at *
  generalize (shedD c l).2 = se at *
  simp only [clV] at hR1 hR2 hB hR ⊢
  rcases hrun with ⟨rfl, rfl, rfl⟩ | ⟨he, rfl, rfl⟩
  · simp at hB hR hR1 hR2
    simp [-oneC, oneC_slice, oneC_int, -Array.all_toList, sf_coblelaw05_LaunchRights, hR1, hR2, hB, hR, hsame, hwB, pf_pure, pureF]
  · have he' : ¬ l.length = 0 := by simpa using he
    have hmx : l.length ≤ maxA := Nat.le_trans (show l.length ≤ 12 by omega) (by decide)
    have hcp := fun L X => ldsV_copy hlv he L X
    generalize ldsV l = cl at *
    simp [-oneC, oneC_slice, oneC_int, -Array.all_toList, sf_coblelaw05_LaunchRights, h12', he, he', hmx, hcp, o1, o2, hR1, hR2, hB, hR, hsame, hwB, pf_pure, pureF]
end Go.Proofs.YtnpifaanhofonaaGreatDoor
