/- Contracts of layer 6, the laws: legs are copied, and appended to. -/
import Derived.Test.YthobfecblpnnnaaGreatDoorRouE
set_option linter.all false
namespace Go.Proofs.YthobfecblpnnnaaGreatDoor
open Go Go.RowKit

/-- A leg's own list, in a block of its own. -/
def RowL (A : AH) (s : Value) (l : Lg) : Prop := ∃ b k, s = .slice (some ⟨b, 0, none⟩) l.cs.length k ∧ A[b]? = some (.rw 1 (ints l.cs))
theorem RowL.sl {A : AH} {s : Value} {l : Lg} (h : RowL A s l) : Sl A s l.cs.length (ints l.cs) := by
  obtain ⟨b, k, rfl, hb⟩ := h
  exact Sl.made hb rfl
theorem RowL.ext {A B : AH} (hE : Ext A B) {s : Value} {l : Lg} (h : RowL A s l) : RowL B s l := by
  obtain ⟨b, k, e, hb⟩ := h
  exact ⟨b, k, e, hE _ _ hb⟩
theorem RowL.dead {A : AH} {b0 : Nat} {cs : List Value} (h0 : A[b0]? = some (.rw 5 cs)) (X : AH) {s : Value} {l : Lg} (h : RowL A s l) : RowL (A.set b0 .dead ++ X) s l := by
  obtain ⟨b, k, e, hb⟩ := h
  refine ⟨b, k, e, ?_⟩
  have hne : b ≠ b0 := by
    rintro rfl
    rw [hb] at h0
    cases h0
  exact own_get (by rw [List.getElem?_set_ne (Ne.symm hne)]; exact hb) X

/-- A list of legs of one's own that is appended to. -/
def LgO (n0 : Nat) (A : AH) (v : Value) (ls : List Lg) : Prop := ∃ ss : List Value, ss.length = ls.length ∧ (∀ i (h : i < ls.length) (h' : i < ss.length), RowL A ss[i] ls[i]) ∧ ((ls = [] ∧ v = .slice none 0 0) ∨ (ls ≠ [] ∧ ∃ b, n0 ≤ b ∧ v = .slice (some ⟨b, 0, none⟩) ls.length (ls.length + 1) ∧ A[b]? = some (.rw 5 (lgsV ls ss))))

theorem LgO.sl {n0 : Nat} {A : AH} {v : Value} {ls : List Lg} (h : LgO n0 A v ls) : LgSl A v ls := by
  obtain ⟨ss, hl, hr, hv⟩ := h
  refine ⟨ss, hl, ?_, fun i h h' => (hr i h h').sl⟩
  rcases hv with ⟨rfl, rfl⟩ | ⟨hne, b, hb, rfl, hbA⟩
  · exact ⟨none, 0, rfl, fun j x hx => by simp [lgsV] at hx⟩
  · exact ⟨_, _, rfl, fun j x hx => ⟨b, 0, rfl, by simp only [hcell, hbA, Nat.zero_add]; exact hx⟩⟩
theorem LgO.aft {n0 : Nat} {A B : AH} {v : Value} {ls : List Lg} (h : LgO n0 A v ls) (hE : Ext A B) : LgO n0 B v ls := by
  obtain ⟨ss, hl, hr, hv⟩ := h
  refine ⟨ss, hl, fun i h h' => (hr i h h').ext hE, ?_⟩
  rcases hv with hv | ⟨hne, b, hb, e, hbA⟩
  · exact .inl hv
  · exact .inr ⟨hne, b, hb, e, hE _ _ hbA⟩

theorem nlL_lgs : ∀ {ls : List Lg} {ss : List Value} (_ : ∀ i (h : i < ss.length), ∃ a n k, ss[i] = .slice a n k), nlL (lgsV ls ss) = true
  | [], _, _ => by simp [lgsV, nlL]
  | _ :: _, [], _ => by simp [lgsV, nlL]
  | l :: ls, s :: ss, h => by
    have ih := nlL_lgs (ls := ls) (ss := ss) (fun i hi => h (i + 1) (by simpa using hi))
    obtain ⟨a, n, k, e⟩ := h 0 (by simp)
    have e : s = .slice a n k := e
    subst e
    simp only [lgsV, Lg.vals, List.cons_append, List.nil_append]
    simp [nlL, ih]

/-- What is appended to such a list. -/
theorem LgO.push {n0 : Nat} {A A' : AH} {v s : Value} {ls : List Lg} {l : Lg} (h : LgO n0 A v ls) (h0 : n0 ≤ A.length) (hA : Aft A A') (hx : RowL A' s l) :
    (ls = [] ∧ v = .slice none 0 0 ∧ LgO n0 (A' ++ [.rw 5 (l.vals s), .rw 5 (l.vals s)]) (.slice (some ⟨A'.length + 1, 0, none⟩) 1 2) (ls ++ [l])) ∨
    ∃ b ss, n0 ≤ b ∧ ls ≠ [] ∧ ss.length = ls.length ∧ v = .slice (some ⟨b, 0, none⟩) ls.length (ls.length + 1) ∧ A[b]? = some (.rw 5 (lgsV ls ss)) ∧ nlL (lgsV ls ss) = true ∧ LgO n0 (A'.set b .dead ++ [.rw 5 (l.vals s), .rw 5 (lgsV ls ss ++ l.vals s)]) (.slice (some ⟨A'.length + 1, 0, none⟩) (ls.length + 1) (ls.length + 1 + 1)) (ls ++ [l]) := by
  have hle := hA.le
  obtain ⟨ss, hl, hr, ⟨rfl, rfl⟩ | ⟨hne, b, hb, rfl, hbA⟩⟩ := h
  · refine .inl ⟨rfl, rfl, [s], by simp, fun i h h' => ?_, .inr ⟨by simp, A'.length + 1, by omega, by simp, ?_⟩⟩
    · have : i = 0 := by simp at h; omega
      subst this
      exact hx.ext (Ext.push _ _)
    · rw [List.getElem?_append_right (by omega), Nat.add_sub_cancel_left]
      simp [lgsV]
  · have hbA' := hA.ext _ _ hbA
    have hvals : ∀ i (h : i < ss.length), ∃ a n k, ss[i] = .slice a n k := fun i h => by
      obtain ⟨rb, rk, e, _⟩ := hr i (by omega) h
      exact ⟨_, _, _, e⟩
    refine .inr ⟨b, ss, hb, hne, hl, rfl, hbA, nlL_lgs hvals, ss ++ [s], by simp [hl], fun i h h' => ?_, .inr ⟨by simp, A'.length + 1, by omega, by simp, ?_⟩⟩
    · by_cases hi : i < ls.length
      · rw [List.getElem_append_left hi, List.getElem_append_left (by omega)]
        exact ((hr i hi (by omega)).ext hA.ext).dead hbA' _
      · have hi' : i = ls.length := by simp at h; omega
        subst hi'
        have e1 : (ss ++ [s])[ls.length]'h' = s := by
          rw [List.getElem_append_right (by omega)]
          simp [hl]
        rw [e1]
        simp only [List.getElem_append_right (Nat.le_refl _), Nat.sub_self, List.getElem_cons_zero]
        exact hx.dead hbA' _
    · rw [List.getElem?_append_right (by simp)]
      simp [lgsV_snoc ls ss l s hl]

def cyLoop6 : SC := sf_cobleref06_Copy.body.loops.headD .skip

set_option maxHeartbeats 4000000 in
theorem run_Copy6 (ls : List Lg) (hn : ls.length ≤ 1000) (hcl : ∀ l ∈ ls, l.cs.length ≤ 1000) (H : AH) (v : Value) (hv : LgIn H v ls) :
    ∃ r A, (∀ lim, apL Tryz.prog pf (.func (.func 19) #[] #[]) [v] lim H = some (r, A)) ∧ Aft H A ∧ LgO H.length A r ls := by
  suffices key : ∀ lim, ∃ r A, apL Tryz.prog pf (.func (.func 19) #[] #[]) [v] lim H = some (r, A) ∧ Aft H A ∧ LgO H.length A r ls by
    obtain ⟨r, A, h1, h2⟩ := key 0
    refine ⟨r, A, fun lim => ?_, h2⟩
    rw [← h1, apL_func _ _ _ _ _ _ (by rfl), apL_func _ _ _ _ _ _ (by rfl)]
    simp only [pf_pure, show pureF 19 = true from rfl, if_true]
  intro lim
  rw [apL_func _ _ _ _ _ _ (by rfl), sf_cobleref06_Copy_eq]
  obtain ⟨va, vc, ev⟩ := hv.sl.one
  subst ev
  simp [-oneC, -Array.all_eq_false, -Array.all_toList, oneC_slice, oneC_int, oneC_boolW, sf_cobleref06_Copy, pf_pure, pureF]
  generalize hS : ({ t := _, L := _, H := _, lim := _, rd := _ } : St) = S
  have key : ∃ q, exL Tryz.prog pf (.loop cyLoop6) S = some q ∧ (q.1 = .exit 0 ∧ Aft H q.2.H ∧ LgO H.length q.2.H (tget q.2.t 3) ls) := by
    refine loop_rule (I := fun n s' => ∃ k, k ≤ ls.length ∧ n = ls.length - k ∧ tget s'.t 0 = .slice va ls.length vc ∧ tget s'.t 4 = .int .i64 k ∧ s'.lim = H.length ∧ Aft H s'.H ∧ LgO H.length s'.H (tget s'.t 3) (ls.take k)) ?_ ls.length S
      ⟨0, by omega, by omega, by subst hS; simp, by subst hS; simp, by subst hS; rfl, by subst hS; exact Aft.refl H, by subst hS; exact ⟨[], rfl, fun i h h' => by simp at h, .inl ⟨rfl, by simp⟩⟩⟩
    rintro n s' ⟨k, hk, rfl, f0, f4, fl, fA, fO⟩
    obtain ⟨A, hAA⟩ : ∃ A, s'.H = A := ⟨_, rfl⟩
    rw [hAA] at fA fO
    by_cases hlt : k < ls.length
    rotate_left
    · have : k = ls.length := by omega
      subst this
      rw [List.take_length] at fO
      simp [cyLoop6, SC.loops, sf_cobleref06_Copy, f0, f4, fl, hAA]
      exact ⟨fA, fO⟩
    have hltI : (k : Int) < (ls.length : Int) := by omega
    have hw : IntKind.i64.wrap ((k : Int) + 1) = ((k + 1 : Nat) : Int) := by rw [wrap_i64 (by omega) (by omega)]; omega
    obtain ⟨b1, o1, ac1, xa, xc, e, c0, c1, c2, c3, c4, hsl⟩ := (hv.ext fA.ext).sl.get hlt
    cases e
    simp only [hcell] at c0 c1 c2 c3 c4
    have hmem := List.getElem_mem hlt
    have hl1 := hcl _ hmem
    have htk : ls.take (k + 1) = ls.take k ++ [ls[k]] := List.take_succ_eq_append_getElem hlt
    obtain ⟨q, hq⟩ : ∃ q, ls[k] = q := ⟨_, rfl⟩
    rw [hq] at c0 c1 c2 c3 c4 hsl hl1 htk
    have hmq : q.cs.length ≤ maxA := Nat.le_trans hl1 (by decide)
    have hm1 : 1 ≤ maxA := by decide
    have i1 := nlL_ints q.cs
    have o1' := one_ints q.cs
    have hil := ints_length q.cs
    have hlen : (ls.take k).length = k := by simp; omega
    have hmx : k + 1 ≤ maxA := Nat.le_trans (show _ ≤ 100001 by omega) (by decide)
    -- the copy of the cells
    obtain ⟨s, hs⟩ : ∃ s, s = cpV A.length q.cs.length := ⟨_, rfl⟩
    have hrow : RowL (A ++ cpB 1 (ints q.cs)) s q := by
      unfold cpB
      rw [hil]
      by_cases h0 : q.cs.length = 0
      · rw [if_pos h0]
        refine ⟨A.length, 0, ?_, ?_⟩
        · rw [hs, cpV, if_pos h0, h0]
        · rw [List.eq_nil_of_length_eq_zero h0]
          simp [ints]
      · rw [if_neg h0]
        refine ⟨A.length + 1, q.cs.length + 1, ?_, ?_⟩
        · rw [hs, cpV, if_neg h0]
        · rw [List.getElem?_append_right (by omega), Nat.add_sub_cancel_left]; rfl
    have hAc : Aft A (A ++ cpB 1 (ints q.cs)) := by
      unfold cpB
      split
      · exact (Aft.refl A).push _
      · exact (Aft.refl A).push _
    have hp := fO.push fA.le hAc hrow
    rw [← htk] at hp
    have fin : ∀ {X : AH} {v : Value}, LgO H.length X v (ls.take (k + 1)) → LgO H.length X v (ls.take (k + 1)) := fun h => h
    rcases hp with ⟨hls, e3, hO⟩ | ⟨b, ss, hb, hne, hsl2, e3, hbA, hnl, hO⟩
    · by_cases h0 : q.cs.length = 0
      · have eB : cpB 1 (ints q.cs) = [ABlk.rw 1 []] := by unfold cpB; rw [hil, if_pos h0]
        have eV : s = .slice (some ⟨A.length, 0, none⟩) 0 0 := by rw [hs, cpV, if_pos h0]
        rw [eB] at hO
        rw [h0] at c4
        simp only [Lg.vals, eV] at hO
        simp [-nextG, -Int.natCast_add, -oneC, -Array.all_eq_false, -Array.all_toList, oneC_slice, oneC_int, oneC_boolW, cyLoop6, SC.loops, sf_cobleref06_Copy, f0, e3, f4, fl, hAA, hlt, hltI, c0, c1, c2, c3, c4, hw, hm1, and_assoc]
        exact ⟨_, by omega, k + 1, by omega, rfl, rfl, fA.push _, by simpa using hO⟩
      · have eB : cpB 1 (ints q.cs) = [ABlk.rw 1 [], .rw 1 (ints q.cs)] := by unfold cpB; rw [hil, if_neg h0]
        have eV : s = .slice (some ⟨A.length + 1, 0, none⟩) q.cs.length (q.cs.length + 1) := by rw [hs, cpV, if_neg h0]
        obtain ⟨xb, xo, xk, ex, hxc⟩ := (hsl.ext (Ext.push A [ABlk.rw 1 []])).cells (by rw [hil]; omega)
        cases ex
        rw [hil] at hxc
        rw [eB] at hO
        simp only [Lg.vals, eV] at hO
        generalize hcs : ints q.cs = cs at *
        simp [-nextG, -Int.natCast_add, -oneC, -Array.all_eq_false, -Array.all_toList, -List.all_eq_true, oneC_slice, oneC_int, oneC_boolW, cyLoop6, SC.loops, sf_cobleref06_Copy, f0, e3, f4, fl, hAA, hlt, hltI, c0, c1, c2, c3, c4, hw, hm1, hxc, h0, hmq, i1, o1', and_assoc]
        exact ⟨_, by omega, k + 1, by omega, rfl, rfl, fA.push _, by simpa using hO⟩
    · have hk0 : ¬ k = 0 := by
        have : (ls.take k).length ≠ 0 := by simpa using hne
        omega
      have hll : (lgsV (ls.take k) ss).length = k * 5 := by rw [lgsV_length _ _ hsl2, hlen]
      rw [hlen] at e3 hO
      have hcA : ∀ L x, cellsAt L (A ++ x) ⟨b, 0, none⟩ (k * 5) = some (lgsV (ls.take k) ss) := fun L x => by
        rw [← hll]
        exact cellsAt_of _ 0 fun m y hy => by simp only [hcell, Nat.zero_add]; rw [own_get hbA x]; exact hy
      have hbX := fun x => own_get hbA x
      have hsX := fun x y => own_set hbA x y
      generalize hgs : lgsV (ls.take k) ss = gs at *
      by_cases h0 : q.cs.length = 0
      · have eB : cpB 1 (ints q.cs) = [ABlk.rw 1 []] := by unfold cpB; rw [hil, if_pos h0]
        have eV : s = .slice (some ⟨A.length, 0, none⟩) 0 0 := by rw [hs, cpV, if_pos h0]
        rw [eB, hsX] at hO
        rw [h0] at c4
        simp only [Lg.vals, eV] at hO
        simp [-nextG, -Int.natCast_add, -oneC, -Array.all_eq_false, -Array.all_toList, oneC_slice, oneC_int, oneC_boolW, cyLoop6, SC.loops, sf_cobleref06_Copy, f0, e3, f4, fl, hAA, hlt, hltI, c0, c1, c2, c3, c4, hw, hk0, hmx, hll, hcA, hbX, hsX, hnl, hb, and_assoc]
        exact ⟨_, by omega, k + 1, by omega, rfl, rfl, (fA.set hb _).push _, by simpa using hO⟩
      · have eB : cpB 1 (ints q.cs) = [ABlk.rw 1 [], .rw 1 (ints q.cs)] := by unfold cpB; rw [hil, if_neg h0]
        have eV : s = .slice (some ⟨A.length + 1, 0, none⟩) q.cs.length (q.cs.length + 1) := by rw [hs, cpV, if_neg h0]
        obtain ⟨xb, xo, xk, ex, hxc⟩ := (hsl.ext (Ext.push A [ABlk.rw 1 []])).cells (by rw [hil]; omega)
        cases ex
        rw [hil] at hxc
        rw [eB, hsX] at hO
        simp only [Lg.vals, eV] at hO
        generalize hcs : ints q.cs = cs at *
        simp [-nextG, -Int.natCast_add, -oneC, -Array.all_eq_false, -Array.all_toList, -List.all_eq_true, oneC_slice, oneC_int, oneC_boolW, cyLoop6, SC.loops, sf_cobleref06_Copy, f0, e3, f4, fl, hAA, hlt, hltI, c0, c1, c2, c3, c4, hw, hm1, hxc, h0, hmq, i1, o1', hk0, hmx, hll, hcA, hbX, hsX, hnl, hb, and_assoc]
        exact ⟨_, by omega, k + 1, by omega, rfl, rfl, (fA.set hb _).push _, by simpa using hO⟩
  obtain ⟨⟨e, s1⟩, hr, q1, q2, q3⟩ := key
  simp [cyLoop6, SC.loops, sf_cobleref06_Copy] at hr
  rw [hr]
  simp only at q1 q2 q3
  subst q1
  obtain ⟨ss, hl, hr2, hv2⟩ := id q3
  rcases hv2 with ⟨e1, e2⟩ | ⟨_, b, hb, e2, _⟩
  · refine ⟨.slice none 0 0, H, ?_, Aft.refl H, [], by rw [e1]; rfl, fun i h h' => by simp at h', .inl ⟨e1, rfl⟩⟩
    simp [e2]
  · refine ⟨tget s1.t 3, s1.H, ?_, q2, q3⟩
    rw [e2]
    simp [e2]
end Go.Proofs.YthobfecblpnnnaaGreatDoor
