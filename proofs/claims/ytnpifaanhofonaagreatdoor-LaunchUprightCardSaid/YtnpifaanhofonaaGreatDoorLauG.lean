import Derived.Test.YtnpifaanhofonaaGreatDoorLauF
set_option linter.all false

/- Contracts of layer 5: the reference's lists; whether two lists of numbers are the same. -/
namespace Go.Proofs.YtnpifaanhofonaaGreatDoor
open Go Go.RowKit

/-- A list of one's own. -/
theorem OwnA_of {n0 : Nat} {A : AH} {v : Value} {l : List Nat} (h : LstO n0 A v l) : Sl A v l.length (ints (natI l)) := h.sl

def chLoop : SC := sf_cobleref05_chosen.body.loops.headD .skip

theorem shr_bit (s i : Nat) : ((s : Int).fdiv (2 ^ i)) % 2 = (if s.testBit i then 1 else 0) := by
  have h1 : ((s : Int).fdiv ((2 : Int) ^ i)) = ((s / 2 ^ i : Nat) : Int) := by
    rw [show ((2 : Int) ^ i) = ((2 ^ i : Nat) : Int) by simp]
    exact (Int.ofNat_fdiv s (2 ^ i)).symm
  rw [h1, Nat.testBit_eq_decide_div_mod_eq]
  by_cases h : s / 2 ^ i % 2 = 1
  · rw [decide_eq_true h, if_pos rfl]; omega
  · rw [decide_eq_false h, if_neg (by simp)]; omega

theorem and_one (x : Int) : IntKind.i64.wrap (((x % 2 ^ IntKind.i64.bits).toNat &&& 1 % 2 ^ IntKind.i64.bits : Nat) : Int) = x % 2 := by
  have e : IntKind.i64.bits = 64 := rfl
  rw [e, show (1 : Nat) % 2 ^ 64 = 1 from rfl, Nat.and_one_is_mod, wrap_i64 (by omega) (by omega)]
  omega

theorem wrap_u64j {n : Nat} (h : n < 2 ^ 62) : IntKind.u64.wrap (n : Int) = n := by
  rw [IntKind.wrap_u64]; omega

set_option maxHeartbeats 1000000 in
theorem run_chosen (s n : Nat) (hs : s < 2 ^ 62) (hn : n ≤ 12) (lim : Nat) (H : AH) :
    ∃ v A, apL Tryz.prog pf (.func (.func 65) #[] #[]) [.int .i64 s, .int .i64 n] lim H = some (v, A) ∧ Aft H A ∧ LstO H.length A v (chosenM s n) := by
  rw [apL_func _ _ _ _ _ _ (by rfl), sf_cobleref05_chosen_eq]
  simp [-oneC, oneC_slice, oneC_int, sf_cobleref05_chosen, pf_pure, pureF]
  generalize hS : ({ t := _, L := _, H := _, lim := _, rd := _ } : St) = S
  have key : ∃ q, exL Tryz.prog pf (.loop chLoop) S = some q ∧ (q.1 = .exit 0 ∧ Aft H q.2.H ∧ LstO H.length q.2.H (tget q.2.t 5) (chosenM s n)) := by
    refine loop_rule (I := fun m s' => ∃ j, j ≤ n ∧ m = n - j ∧ tget s'.t 0 = .int .i64 s ∧ tget s'.t 1 = .int .i64 n ∧ tget s'.t 6 = .int .i64 j ∧ s'.lim = H.length ∧ Aft H s'.H ∧ LstO H.length s'.H (tget s'.t 5) (chosenM s j)) ?_ n S
      ⟨0, by omega, by omega, by subst hS; simp, by subst hS; simp, by subst hS; simp, by subst hS; rfl, by subst hS; exact Aft.refl H, .inl ⟨rfl, by subst hS; simp⟩⟩
    rintro m s' ⟨j, hj, rfl, e0, e1, e6, el, eA, eL⟩
    obtain ⟨A, hA⟩ : ∃ A, s'.H = A := ⟨_, rfl⟩
    rw [hA] at eA eL
    by_cases hlt : j < n
    rotate_left
    · have : j = n := by omega
      subst this
      simp [chLoop, SC.loops, sf_cobleref05_chosen, e0, e1, e6, hA]
      exact ⟨eA, eL⟩
    have hltI : (j : Int) < n := by omega
    have hu : IntKind.u64.wrap (j : Int) = (j : Int) := wrap_u64j (by omega)
    have hmin : min j IntKind.i64.bits = j := by have e : IntKind.i64.bits = 64 := rfl; omega
    have hand := and_one ((s : Int).fdiv (2 ^ min j IntKind.i64.bits))
    have hsb := shr_bit s j
    rw [hmin, hsb] at hand
    have hw : IntKind.i64.wrap ((j : Int) + 1) = (j : Int) + 1 := wrap_i64 (by omega) (by omega)
    have hm1 : 1 ≤ maxA := by decide
    have hcs := chosen_succ s j
    cases hb : s.testBit j with
    | false =>
      rw [hb] at hcs hand
      simp only [if_false, Bool.false_eq_true, List.append_nil] at hcs hand
      simp [chLoop, SC.loops, sf_cobleref05_chosen, e0, e1, e6, hA, hltI, hu, hmin, hand, hw]
      exact ⟨_, by omega, j + 1, by omega, rfl, by omega, el, eA, by rw [hcs]; exact eL⟩
    | true =>
      rw [hb] at hcs hand
      simp only [if_true] at hcs hand
      have happ : ints (natI (chosenM s j)) ++ [.int .i64 (j : Int)] = ints (natI (chosenM s (j + 1))) := by rw [hcs]; simp [natI, ints]
      have hne : chosenM s (j + 1) ≠ [] := by rw [hcs]; simp
      have hlen : (chosenM s (j + 1)).length = (chosenM s j).length + 1 := by rw [hcs]; simp
      have hle : (chosenM s j).length ≤ j := by
        have := List.length_filter_le (fun i => s.testBit i) (List.range j)
        simpa [chosenM] using this
      have hlA := eA.le
      rcases eL with ⟨h0, e5⟩ | ⟨h0, b, hb0, e5, hbA⟩
      · rw [h0] at happ hlen
        simp [-oneC, oneC_slice, oneC_int, chLoop, SC.loops, sf_cobleref05_chosen, e0, e1, e5, e6, hA, hltI, hu, hmin, hand, hw, hm1]
        refine ⟨_, by omega, j + 1, by omega, rfl, by omega, el, eA.push _, .inr ⟨hne, A.length + 1, by omega, by rw [hlen]; rfl, ?_⟩⟩
        rw [List.getElem?_append_right (by omega), Nat.add_sub_cancel_left, ← happ]
        rfl
      · have hl0 : ¬ (chosenM s j).length = 0 := by simpa using h0
        have hmx : (chosenM s j).length + 1 ≤ maxA := Nat.le_trans (show _ ≤ 100 by omega) (by decide)
        have hcA := fun L x => own_cells hbA L x
        have hci : (ints (natI (chosenM s j))).length = (chosenM s j).length := by rw [ints_length, natI_len]
        rw [hci] at hcA
        have hbX := fun x => own_get hbA x
        have hsX := fun x y => own_set hbA x y
        have hcn : nlL (ints (natI (chosenM s j))) = true := nlL_ints _
        have hbl : b < A.length := (List.getElem?_eq_some_iff.1 hbA).1
        have hlb : H.length ≤ b := hb0
        generalize hcl : ints (natI (chosenM s j)) = cl at *
        simp [-oneC, oneC_slice, oneC_int, chLoop, SC.loops, sf_cobleref05_chosen, e0, e1, e5, e6, hA, hltI, hu, hmin, hand, hw, hm1, h0, hl0, hmx, hcA, hbX, hsX, hcn, hci, el, hlb]
        refine ⟨_, by omega, j + 1, by omega, rfl, by omega, (eA.set hb0 _).push _, .inr ⟨hne, A.length + 1, by omega, by rw [hlen], ?_⟩⟩
        rw [List.getElem?_append_right (by simp)]
        simp [happ]
  obtain ⟨⟨q, s1⟩, hr, q1, q2, q3⟩ := key
  simp [chLoop, SC.loops, sf_cobleref05_chosen] at hr
  rw [hr]
  simp only at q1 q2 q3
  subst q1
  rcases q3 with ⟨h0, h1⟩ | ⟨h0, b, hb0, h1, hbA⟩
  · refine ⟨.slice none 0 0, H, ?_, Aft.refl H, .inl ⟨h0, rfl⟩⟩
    simp [h1]
  · refine ⟨_, s1.H, ?_, q2, .inr ⟨h0, b, hb0, rfl, hbA⟩⟩
    simp [h1]
end Go.Proofs.YtnpifaanhofonaaGreatDoor
