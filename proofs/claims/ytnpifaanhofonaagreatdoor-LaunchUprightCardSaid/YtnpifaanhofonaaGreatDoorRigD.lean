import Derived.Test.YtnpifaanhofonaaGreatDoorRigC
set_option linter.all false

/- Contracts of layer 5: the reference's Shed. -/
namespace Go.Proofs.YtnpifaanhofonaaGreatDoor
open Go Go.RowKit

def hsLoop : SC := sf_cobleref05_Heels.body.loops.headD .skip

set_option maxHeartbeats 1000000 in
theorem run_Heels (l : List Ld) (hl : l.length ≤ 10) (hok : l.all ldOk = true) (w : List Nat) (hw : w.length ≤ 1000) (hlt : ∀ i ∈ w, i < l.length) (lim : Nat) (H : AH) (lv wv : Value) (hlv : Sl H lv l.length (ldsV l)) (hwv : Sl H wv w.length (ints (natI w))) :
    apL Tryz.prog pf (.func (.func 66) #[] #[]) [lv, wv] lim H = some (.int .i64 (heelsM l w), H) := by
  rw [apL_func _ _ _ _ _ _ (by rfl), sf_cobleref05_Heels_eq]
  obtain ⟨hb1, hb2⟩ := g_ok hok
  obtain ⟨wa, wc, rfl, hd⟩ := hwv
  simp [sf_cobleref05_Heels, pf_pure, pureF]
  generalize hS : ({ t := _, L := _, H := _, lim := _, rd := _ } : St) = S
  have key : ∃ q, exL Tryz.prog pf (.loop hsLoop) S = some q ∧ (q.1 = .exit 0 ∧ q.2.H = H ∧ tget q.2.t 5 = .int .i64 (heelsM l w)) := by
    refine loop_rule (I := fun m s' => ∃ j, j ≤ w.length ∧ m = w.length - j ∧ tget s'.t 0 = lv ∧ tget s'.t 1 = .slice wa w.length wc ∧ tget s'.t 6 = .int .i64 j ∧ s'.H = H ∧ tget s'.t 5 = .int .i64 (heelsM l (w.take j))) ?_ w.length S
      ⟨0, by omega, by omega, by subst hS; simp, by subst hS; simp, by subst hS; simp, by subst hS; rfl, by subst hS; simp [heelsM]⟩
    rintro m s' ⟨j, hj, rfl, e0, e1, e6, eH, e5⟩
    by_cases hlt' : j < w.length
    rotate_left
    · have : j = w.length := by omega
      subst this
      rw [List.take_length] at e5
      simp [hsLoop, SC.loops, sf_cobleref05_Heels, e0, e1, e5, e6, eH]
    have hm := hlt w[j] (List.getElem_mem hlt')
    obtain ⟨b, o, c, e, c0, c1, c2⟩ := ldV_cells hlv hm
    subst e
    obtain ⟨b1, o1, rfl, hc1⟩ := hd j _ (natI_get hlt')
    have hts : w.take (j + 1) = w.take j ++ [w[j]] := by rw [List.take_add_one]; simp [hlt']
    have hsm := heelsM_snoc l (w.take j) hm
    rw [← hts] at hsm
    have hb := heelsM_bound hb2 _ (w.take (j + 1)) rfl
    have m2 := hb2 l[w[j]] (List.getElem_mem hm)
    have hwr : IntKind.i64.wrap ((j : Int) + 1) = (j : Int) + 1 := wrap_i64 (by omega) (by omega)
    have hlen : (w.take (j + 1)).length ≤ 1000 := by simp; omega
    have w1 : IntKind.i64.wrap (l[w[j]].hi * l[w[j]].ht) = l[w[j]].hi * l[w[j]].ht := by unfold gHi at m2; exact wrap_i64 (by omega) (by omega)
    have w2 : IntKind.i64.wrap (heelsM l (w.take j) + l[w[j]].hi * l[w[j]].ht) = heelsM l (w.take (j + 1)) := by rw [show heelsM l (w.take j) + l[w[j]].hi * l[w[j]].ht = heelsM l (w.take (j + 1)) from hsm.symm]; exact wrap_i64 (by omega) (by omega)
    generalize hlj : w[j] = i at *
    generalize hq : l[i] = q at *
    simp only [hcell] at hc1 c0 c1 c2
    simp [hsLoop, SC.loops, sf_cobleref05_Heels, e0, e1, e5, e6, eH, hlt', hc1, hm, c0, c1, c2, hwr, w1, w2]
    exact ⟨_, by omega, j + 1, by omega, rfl, by omega, rfl⟩
  obtain ⟨⟨q, s1⟩, hr, q1, q2, q3⟩ := key
  simp [hsLoop, SC.loops, sf_cobleref05_Heels] at hr
  rw [hr]
  simp only at q1 q2 q3
  subst q1
  simp [q2, q3]

theorem asc_lenR {n : Nat} {l : List Nat} (h : Asc l) (hn : ∀ i ∈ l, i < n) : l.length ≤ n := by
  have h3 := asc_first _ l rfl h
  have h4 : firstN l ≤ n := by
    unfold firstN
    cases hx : l.getLast? with
    | none => simp
    | some j => have := hn j (List.mem_of_getLast? hx); simp; omega
  omega
theorem shl_oneR (n : Nat) (hn : n ≤ 12) : IntKind.i64.wrap (2 ^ min n IntKind.i64.bits) = ((2 ^ n : Nat) : Int) := by
  have e : IntKind.i64.bits = 64 := rfl
  rw [e, show min n 64 = n by omega]
  have : ∀ k, k < 13 → IntKind.i64.wrap (2 ^ k) = ((2 ^ k : Nat) : Int) := by decide
  exact this n (by omega)
theorem LstO.ext' {n0 : Nat} {A B : AH} {v : Value} {l : List Nat} (h : LstO n0 A v l) (hE : Ext A B) : LstO n0 B v l := by
  rcases h with h | ⟨h1, b, h2, h3, h4⟩
  · exact .inl h
  · exact .inr ⟨h1, b, h2, h3, hE _ _ h4⟩

def rsLoop : SC := sf_cobleref05_Shed.body.loops.headD .skip

set_option maxHeartbeats 2000000 in
theorem rs_sets (c : Cl) (l : List Ld) (hl : l.length ≤ 10) (hok : l.all ldOk = true) (H : AH) (lv : Value) (hlv : Sl H lv l.length (ldsV l)) (S : St) (hH : S.H = H) (hlim : S.lim = H.length) (h1 : tget S.t 1 = lv) (h2 : tget S.t 2 = .pointer (some ⟨2, 0, some 0⟩))
    (L2 : lget S.L 2 = some (0, .cells c.vals)) (h7 : tget S.t 7 = .slice none 0 0) (h8 : tget S.t 8 = .bool false) (h9 : tget S.t 9 = .int .i64 ((2 ^ l.length - 1 : Nat) : Int)) (h10 : tget S.t 10 = .int .i64 0) :
    ∃ q, exL Tryz.prog pf (.loop rsLoop) S = some q ∧ (q.1 = .exit 0 ∧ q.2.lim = S.lim ∧ Aft H q.2.H ∧ LstO H.length q.2.H (tget q.2.t 7) (((listsM l.length).find? (pS c l)).getD [])) := by
  have hlv0 := hlv
  obtain ⟨la, lc, ev, _⟩ := hlv0
  have hr3 := heels_rest l
  obtain ⟨n, hnn⟩ : ∃ n, n = l.length := ⟨_, rfl⟩
  rw [← hnn] at h9 hr3 ⊢
  have hp2 : 2 ^ n ≤ 1024 := by
    have : ∀ k, k < 11 → 2 ^ k ≤ 1024 := by decide
    exact this n (by omega)
  have hp1 : 1 ≤ 2 ^ n := Nat.one_le_two_pow
  obtain ⟨p2, hp2e⟩ : ∃ p2, p2 = 2 ^ n := ⟨_, rfl⟩
  rw [← hp2e] at h9
  refine loop_rule (I := fun m s' => ∃ s r, s ≤ 2 ^ n ∧ m = 2 ^ n - s ∧ BestOf n (pS c l) s r ∧ tget s'.t 1 = lv ∧ tget s'.t 2 = .pointer (some ⟨2, 0, some 0⟩) ∧ lget s'.L 2 = some (0, .cells c.vals) ∧ tget s'.t 8 = .bool r.isSome ∧ tget s'.t 9 = .int .i64 ((p2 - 1 : Nat) : Int) ∧ tget s'.t 10 = .int .i64 s ∧ s'.lim = S.lim ∧ Aft H s'.H ∧ LstO H.length s'.H (tget s'.t 7) (r.getD [])) ?_ (2 ^ n) S
    ⟨0, none, Nat.zero_le _, (Nat.sub_zero _).symm, fun s h => by omega, h1, h2, L2, h8, h9, h10, rfl, by rw [hH]; exact Aft.refl H, .inl ⟨rfl, h7⟩⟩
  rintro m s' ⟨s, r, hs2, rfl, hB, e1, e2, eL2, e8, e9, e10, el, eA, eL⟩
  obtain ⟨A, hA⟩ : ∃ A, s'.H = A := ⟨_, rfl⟩
  rw [hA] at eA eL
  rw [ev] at e1
  by_cases hlt : s < 2 ^ n
  rotate_left
  · have : s = 2 ^ n := by omega
    subst this
    have hge : ¬ (((2 ^ n : Nat) : Int) ≤ ((p2 - 1 : Nat) : Int)) := by omega
    rw [best_find hB]
    generalize 2 ^ n = p3 at *
    simp [-Int.natCast_pow, rsLoop, SC.loops, sf_cobleref05_Shed, e1, e8, e9, e10, hA, hge]
    exact ⟨el, eA, eL⟩
  have hltI : (s : Int) ≤ ((p2 - 1 : Nat) : Int) := by omega
  obtain ⟨v, A2, hCh, hA2, hv⟩ := run_chosen s n (by omega) (by omega) s'.lim A
  obtain ⟨v3, A3, hCh3, hA3, hv3⟩ := run_chosen (2 ^ n - 1 - s) n (by omega) (by omega) A2.length A2
  have hHA3 := (eA.trans hA2).trans hA3
  have hl3 := hlv.ext hHA3.ext
  have hlc : (chosenM s n).length ≤ n := asc_lenR (chosen_asc s n) (chosen_lt s n)
  have hlc3 : (chosenM (2 ^ n - 1 - s) n).length ≤ n := asc_lenR (chosen_asc _ n) (chosen_lt _ n)
  have hlt3 : ∀ i ∈ chosenM (2 ^ n - 1 - s) n, i < l.length := fun i hi => by have := chosen_lt _ n i hi; omega
  have hHe := fun lim => run_Heels l hl hok (chosenM (2 ^ n - 1 - s) n) (by omega) hlt3 lim A3 lv v3 hl3 hv3.sl
  rw [hr3 s hlt] at hHe
  have hst := best_step hB
  have hw : IntKind.i64.wrap ((s : Int) + 1) = (s : Int) + 1 := wrap_i64 (by omega) (by omega)
  have hsub : IntKind.i64.wrap (((p2 - 1 : Nat) : Int) - (s : Int)) = ((2 ^ n - 1 - s : Nat) : Int) := by
    rw [hp2e, show (((2 ^ n - 1 : Nat) : Int) - (s : Int)) = ((2 ^ n - 1 - s : Nat) : Int) by omega]
    exact wrap_i64 (by omega) (by omega)
  obtain ⟨u1, u2, u3, u4, ua, un, uk, u5⟩ := hv.one
  obtain ⟨y1, y2, y3, y4, ya, yn, yk, y5⟩ := hv3.one
  have eL3 := (eL.ext' hA2.ext).ext' hA3.ext
  have hv2 := (hv.weak' eA.le).ext' hA3.ext
  have hrl : (r.getD []).length ≤ n := by
    cases r with
    | none => simp
    | some l => obtain ⟨_, b2, b3, _⟩ := hB; exact asc_lenR b2 b3
  have hbf := fun lim => run_before (chosenM s n) (r.getD []) (by omega) (by omega) lim A3 v (tget s'.t 7) (hv.ext' hA3.ext).sl eL3.sl
  obtain ⟨w1, w2, w3, w4, wa, wn, wk, w5⟩ := eL.one
  obtain ⟨p, hp⟩ : ∃ p, p = pS c l (chosenM s n) := ⟨_, rfl⟩
  have hpd : decide (wS gHi l (awayQ (chosenM s n)) l.length ≤ c.mom) = p := hp.symm
  rw [← hnn] at hpd
  rw [u5] at hCh hv2
  rw [y5] at hCh3
  rw [u5, w5] at hbf
  rw [w5] at eL3
  rw [y5, ev, ← hnn] at hHe
  rw [← hp] at hst
  simp only [Cl.vals] at eL2
  generalize hX : wS gHi l (awayQ (chosenM s n)) n = X at *
  generalize hN3 : 2 ^ n - 1 - s = n3 at *
  cases p with
  | false =>
    have hp' : ¬ X ≤ c.mom := by simpa using hpd
    rw [Bool.false_and, if_neg (by simp)] at hst
    simp [-Int.natCast_pow, -oneC, oneC_slice, oneC_int, and_assoc, rsLoop, SC.loops, sf_cobleref05_Shed, e1, e2, eL2, e8, e9, e10, hA, ← hnn, hltI, hCh, hsub, hCh3, hHe, hp', hw, w5]
    exact ⟨_, by omega, s + 1, by omega, rfl, r, hst, by rw [ev, hnn], rfl, rfl, by omega, el, hHA3, eL3⟩
  | true =>
    have hp' : X ≤ c.mom := by simpa using hpd
    cases r with
    | none =>
      simp at hst
      simp at e8
      simp [-Int.natCast_pow, -oneC, oneC_slice, oneC_int, and_assoc, rsLoop, SC.loops, sf_cobleref05_Shed, e1, e2, eL2, e8, e9, e10, hA, ← hnn, hltI, hCh, hsub, hCh3, hHe, hp', hw, w5]
      exact ⟨_, by omega, s + 1, by omega, rfl, some (chosenM s n), hst, by rw [ev, hnn], rfl, rfl, by omega, el, hHA3, hv2⟩
    | some l' =>
      simp at e8
      simp only [Bool.true_and, Option.getD_some] at hst hbf
      cases hb : befB (chosenM s n) l' with
      | false =>
        rw [hb] at hbf hst
        rw [if_neg (by simp)] at hst
        simp [-Int.natCast_pow, -oneC, oneC_slice, oneC_int, and_assoc, rsLoop, SC.loops, sf_cobleref05_Shed, e1, e2, eL2, e8, e9, e10, hA, ← hnn, hltI, hCh, hsub, hCh3, hHe, hp', hw, w5, hbf]
        exact ⟨_, by omega, s + 1, by omega, rfl, some l', hst, by rw [ev, hnn], rfl, rfl, by omega, el, hHA3, eL3⟩
      | true =>
        rw [hb] at hbf hst
        rw [if_pos rfl] at hst
        simp [-Int.natCast_pow, -oneC, oneC_slice, oneC_int, and_assoc, rsLoop, SC.loops, sf_cobleref05_Shed, e1, e2, eL2, e8, e9, e10, hA, ← hnn, hltI, hCh, hsub, hCh3, hHe, hp', hw, w5, hbf]
        exact ⟨_, by omega, s + 1, by omega, rfl, some (chosenM s n), hst, by rw [ev, hnn], rfl, rfl, by omega, el, hHA3, hv2⟩
end Go.Proofs.YtnpifaanhofonaaGreatDoor
