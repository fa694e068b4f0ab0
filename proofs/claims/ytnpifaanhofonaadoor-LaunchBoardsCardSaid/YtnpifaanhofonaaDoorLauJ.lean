import Derived.Test.YtnpifaanhofonaaDoorLauI
set_option linter.all false

/- Contracts of layer 5: the reference's Board, the whole; the look at two lists. -/
namespace Go.Proofs.YtnpifaanhofonaaDoor
open Go Go.RowKit

theorem LstO.ext {n0 : Nat} {A B : AH} {v : Value} {l : List Nat} (h : LstO n0 A v l) (hE : Ext A B) : LstO n0 B v l := by
  rcases h with h | ⟨h1, b, h2, h3, h4⟩
  · exact .inl h
  · exact .inr ⟨h1, b, h2, h3, hE _ _ h4⟩
theorem LstO.weak {n0 n1 : Nat} {A : AH} {v : Value} {l : List Nat} (h : LstO n0 A v l) (hn : n1 ≤ n0) : LstO n1 A v l := by
  rcases h with h | ⟨h1, b, h2, h3, h4⟩
  · exact .inl h
  · exact .inr ⟨h1, b, by omega, h3, h4⟩

theorem asc_len {n : Nat} {l : List Nat} (h : Asc l) (hn : ∀ i ∈ l, i < n) : l.length ≤ n := by
  have h3 := asc_first _ l rfl h
  have h4 : firstN l ≤ n := by
    unfold firstN
    cases hx : l.getLast? with
    | none => simp
    | some j => have := hn j (List.mem_of_getLast? hx); simp; omega
  omega

theorem shl_one (n : Nat) (hn : n ≤ 12) : IntKind.i64.wrap (2 ^ min n IntKind.i64.bits) = ((2 ^ n : Nat) : Int) := by
  have e : IntKind.i64.bits = 64 := rfl
  rw [e, show min n 64 = n by omega]
  have : ∀ k, k < 13 → IntKind.i64.wrap (2 ^ k) = ((2 ^ k : Nat) : Int) := by decide
  exact this n (by omega)

set_option maxHeartbeats 2000000 in
theorem rb_sets (cs : List Cl) (hn : cs.length ≤ 10) (hs : SeatsOk cs) (people : Int) (H : AH) (cv : Value) (hc : Sl H cv cs.length (clsV cs)) (S : St) (hH : S.H = H) (hlim : S.lim = H.length) (h0 : tget S.t 0 = cv) (h1 : tget S.t 1 = .int .i64 people)
    (h7 : tget S.t 7 = .slice none 0 0) (h8 : tget S.t 8 = .bool false) (h9 : tget S.t 9 = .int .i64 0) :
    ∃ q, exL Tryd.prog pf (.loop rbLoop1) S = some q ∧ (q.1 = .exit 2 ∧ q.2.lim = S.lim ∧ Aft H q.2.H ∧ tget q.2.t 8 = .bool ((listsM cs.length).find? fun l => decide (people ≤ seatsM cs l)).isSome ∧ LstO H.length q.2.H (tget q.2.t 7) (((listsM cs.length).find? fun l => decide (people ≤ seatsM cs l)).getD [])) := by
  have hc0 := hc
  obtain ⟨aa, ac, ec, _⟩ := hc0
  obtain ⟨n, hnn⟩ : ∃ n, n = cs.length := ⟨_, rfl⟩
  rw [← hnn]
  have hp2 : 2 ^ n ≤ 1024 := by
    have : ∀ k, k < 11 → 2 ^ k ≤ 1024 := by decide
    exact this n (by omega)
  refine loop_rule (I := fun m s' => ∃ s r, s ≤ 2 ^ n ∧ m = 2 ^ n - s ∧ BestOf n (fun l => decide (people ≤ seatsM cs l)) s r ∧ tget s'.t 0 = cv ∧ tget s'.t 1 = .int .i64 people ∧ tget s'.t 8 = .bool r.isSome ∧ tget s'.t 9 = .int .i64 s ∧ s'.lim = S.lim ∧ Aft H s'.H ∧ LstO H.length s'.H (tget s'.t 7) (r.getD [])) ?_ (2 ^ n) S
    ⟨0, none, Nat.zero_le _, (Nat.sub_zero _).symm, fun s h => by omega, h0, h1, h8, h9, rfl, by rw [hH]; exact Aft.refl H, .inl ⟨rfl, h7⟩⟩
  rintro m s' ⟨s, r, hs2, rfl, hB, e0, e1, e8, e9, el, eA, eL⟩
  obtain ⟨A, hA⟩ : ∃ A, s'.H = A := ⟨_, rfl⟩
  rw [hA] at eA eL
  have hsh := shl_one n (by omega)
  have hu : IntKind.u64.wrap (n : Int) = (n : Int) := wrap_u64j (by omega)
  have hc' := hc.ext eA.ext
  rw [ec] at e0
  by_cases hlt : s < 2 ^ n
  rotate_left
  · have : s = 2 ^ n := by omega
    subst this
    have hge : ¬ (((2 ^ n : Nat) : Int) < ((2 ^ n : Nat) : Int)) := by omega
    rw [best_find hB]
    generalize 2 ^ n = p2 at *
    simp [-Int.natCast_pow, rbLoop1, SC.loops, sf_cobleref05_Board, e0, e1, e8, e9, hA, ← hnn, hu, hsh, hge]
    exact ⟨el, eA, eL⟩
  have hltI : (s : Int) < ((2 ^ n : Nat) : Int) := by omega
  obtain ⟨v, A2, hCh, hA2, hv⟩ := run_chosen s n (by omega) (by omega) s'.lim A
  have hHA2 := eA.trans hA2
  have hc2 := hc.ext hHA2.ext
  have hlc : (chosenM s n).length ≤ n := asc_len (chosen_asc s n) (chosen_lt s n)
  have hlt3 : ∀ i ∈ chosenM s n, i < cs.length := fun i hi => by have := chosen_lt s n i hi; omega
  have hst := best_step hB
  have hw : IntKind.i64.wrap ((s : Int) + 1) = (s : Int) + 1 := wrap_i64 (by omega) (by omega)
  obtain ⟨u1, u2, u3, u4, ua, un, uk, u5⟩ := hv.one
  have eL2 := eL.ext hA2.ext
  have hv2 := hv.weak eA.le
  have hrl : (r.getD []).length ≤ n := by
    cases r with
    | none => simp
    | some l => obtain ⟨_, b2, b3, _⟩ := hB; exact asc_len b2 b3
  have hbf := fun lim => run_before (chosenM s n) (r.getD []) (by omega) (by omega) lim A2 v (tget s'.t 7) hv.sl eL2.sl
  obtain ⟨w1, w2, w3, w4, wa, wn, wk, w5⟩ := eL.one
  obtain ⟨p, hp⟩ : ∃ p, p = decide (people ≤ seatsM cs (chosenM s n)) := ⟨_, rfl⟩
  rw [u5] at hCh
  rw [u5, w5] at hbf
  obtain ⟨p2, hp2e⟩ : ∃ p2, p2 = 2 ^ n := ⟨_, rfl⟩
  rw [← hp2e] at hltI hsh
  simp [-Int.natCast_pow, -isU, -Value.cells, -oneC, oneC_slice, isU_sl, cells_sl, rbLoop1, SC.loops, sf_cobleref05_Board, e0, e1, e8, e9, hA, ← hnn, hu, hsh, hltI, hCh]
  generalize hS2 : ({ t := _, L := _, H := _, lim := _, rd := _ } : St) = S2
  obtain ⟨⟨q, s2⟩, hr, z1, z2, z3, z4, z5, z6, z7, z8, z9, z10⟩ := rb_seats cs (by omega) hs (chosenM s n) (by omega) hlt3 A2 cv v hc2 hv.sl S2 (by subst hS2; rfl) (by subst hS2; simp [e0, ec]) (by subst hS2; simp [u5]) (by subst hS2; simp) (by subst hS2; simp)
  simp [rbLoop2, SC.loops, sf_cobleref05_Board] at hr
  rw [hr]
  simp only at z1 z2 z3 z4 z5 z6 z7 z8 z9 z10
  have x1 : tget S2.t 1 = .int .i64 people := by subst hS2; simp [e1]
  have x7 : tget S2.t 7 = .slice wa wn wk := by subst hS2; simp [w5]
  have x8 : tget S2.t 8 = .bool r.isSome := by subst hS2; simp [e8]
  have x9 : tget S2.t 9 = .int .i64 s := by subst hS2; simp [e9]
  have xl : S2.lim = s'.lim := by subst hS2; rfl
  subst z1
  rw [x1] at z7
  rw [x7] at z8
  rw [x8] at z9
  rw [x9] at z10
  rw [xl] at z3
  rw [u5] at z6
  rw [ec] at z5
  rw [← hp] at hst
  rw [w5] at eL2
  rw [u5] at hv2
  cases p with
  | false =>
    have hp' : ¬ people ≤ seatsM cs (chosenM s n) := by simpa using hp.symm
    rw [Bool.false_and, if_neg (by simp)] at hst
    simp [and_assoc, z2, z3, z4, z5, z6, z7, z8, z9, z10, hp', hw, ec]
    exact ⟨_, by omega, s + 1, by omega, rfl, r, hst, rfl, by omega, el, hHA2, eL2⟩
  | true =>
    have hp' : people ≤ seatsM cs (chosenM s n) := by simpa using hp.symm
    cases r with
    | none =>
      simp at hst
      simp at z9
      simp [and_assoc, z2, z3, z4, z5, z6, z7, z8, z9, z10, hp', hw, ec]
      exact ⟨_, by omega, s + 1, by omega, rfl, some (chosenM s n), hst, rfl, by omega, el, hHA2, hv2⟩
    | some l =>
      simp at z9
      simp only [Bool.true_and, Option.getD_some] at hst hbf
      cases hb : befB (chosenM s n) l with
      | false =>
        rw [hb] at hbf hst
        rw [if_neg (by simp)] at hst
        simp [and_assoc, z2, z3, z4, z5, z6, z7, z8, z9, z10, hp', hw, ec, hbf]
        exact ⟨_, by omega, s + 1, by omega, rfl, some l, hst, rfl, by omega, el, hHA2, eL2⟩
      | true =>
        rw [hb] at hbf hst
        rw [if_pos rfl] at hst
        simp [and_assoc, z2, z3, z4, z5, z6, z7, z8, z9, z10, hp', hw, ec, hbf]
        exact ⟨_, by omega, s + 1, by omega, rfl, some (chosenM s n), hst, rfl, by omega, el, hHA2, hv2⟩
end Go.Proofs.YtnpifaanhofonaaDoor
