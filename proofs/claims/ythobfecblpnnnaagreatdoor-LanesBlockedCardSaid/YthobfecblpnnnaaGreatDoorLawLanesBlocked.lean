import Derived.Test.YthobfecblpnnnaaGreatDoorRouR
import Derived.Test.YthobfecblpnnnaaGreatDoorTlLanesBlocked
import Derived.Test.YthobfecblpnnnaaGreatDoorDataT

/- Layer 6: what is in the way (mathematics), and the loops of the law LanesBlocked. -/
set_option linter.all false
namespace Go.Proofs.YthobfecblpnnnaaGreatDoor
open Go Go.RowKit

theorem needed_step {bl : List Int → Bool} {n : Nat} (k : Nat) : ∀ x, x ∈ neededTo bl n (k + 1) → x ∈ neededTo bl n k := fun x hx => by
  simp only [neededTo] at hx
  split at hx
  · exact (List.mem_filter.1 hx).1
  · exact hx
theorem needed_sub {bl : List Int → Bool} {n : Nat} (k : Nat) : ∀ j x, x ∈ neededTo bl n (k + j) → x ∈ neededTo bl n k
  | 0, _, hx => hx
  | j + 1, x, hx => needed_sub k j x (needed_step (k + j) x hx)
theorem needed_keep {bl : List Int → Bool} {n : Nat} (h : bl (neededTo bl n 0) = true) : ∀ k, bl (neededTo bl n k) = true
  | 0 => h
  | k + 1 => by
    simp only [neededTo]
    split
    · assumption
    · exact needed_keep h k
theorem needed_asc {bl : List Int → Bool} {n : Nat} : ∀ k, (neededTo bl n k).Pairwise (· < ·)
  | 0 => by
    simp only [neededTo]
    rw [List.pairwise_map]
    exact List.pairwise_lt_range.imp fun {a b} h => by
      show (a : Int) < (b : Int)
      omega
  | k + 1 => by
    simp only [neededTo]
    split
    · exact (needed_asc k).filter _
    · exact needed_asc k
theorem needed_least {bl : List Int → Bool} {n : Nat} (hm : ∀ l m : List Int, (∀ x ∈ l, x ∈ m) → bl l = true → bl m = true) {x : Int} (hx : x ∈ neededTo bl n n) : bl ((neededTo bl n n).filter (fun z => !(z == x))) = false := by
  obtain ⟨m, hmn, rfl⟩ := needed_mem n x hx
  obtain ⟨j, hj⟩ : ∃ j, n = (m + 1) + j := ⟨n - (m + 1), by omega⟩
  have h1 : (m : Int) ∈ neededTo bl n (m + 1) := needed_sub (m + 1) j _ (by rw [← hj]; exact hx)
  have h2 : bl ((neededTo bl n m).filter (fun z => !(z == (m : Int)))) = false := by
    cases hb : bl ((neededTo bl n m).filter (fun z => !(z == (m : Int)))) with
    | false => rfl
    | true =>
      simp only [neededTo, hb, if_true] at h1
      have := (List.mem_filter.1 h1).2
      simp at this
  cases hb : bl ((neededTo bl n n).filter (fun z => !(z == (m : Int)))) with
  | false => rfl
  | true =>
    have := hm _ ((neededTo bl n m).filter (fun z => !(z == (m : Int)))) (fun z hz => by
      obtain ⟨z1, z2⟩ := List.mem_filter.1 hz
      refine List.mem_filter.2 ⟨needed_sub m (1 + j) z ?_, z2⟩
      rw [show m + (1 + j) = n by omega]
      exact z1) hb
    rw [h2] at this
    exact absurd this (by decide)

theorem rt_mono' {c : Ch} {ls ls' : List Lg} {p : Tp} {cs : List Int} (hs : ∀ l ∈ ls', l ∈ ls) (h : IsRt c ls p cs) : IsRt c ls' p cs :=
  ⟨h.ok, h.hd, h.last, fun l hl k hk => h.free l (hs l hl) k hk⟩
theorem blkM_mono {c : Ch} {ls : List Lg} {p : Tp} (ht : tpOk c p = true) (l m : List Int) (h : ∀ x ∈ l, x ∈ m) (hb : blkM c ls p l = true) : blkM c ls p m = true := by
  unfold blkM at *
  cases ho : routeM c (selM ls m) p with
  | none => rfl
  | some ns =>
    have h1 := rt_mono' (selM_sub h) (routeM_some ht ho).1
    rw [Option.isNone_iff_eq_none] at hb
    exact absurd h1 (routeM_none ht hb _)

theorem selM_range (ls : List Lg) : ∀ k, k ≤ ls.length → selM ls ((List.range k).map Int.ofNat) = ls.take k
  | 0, _ => by simp [selM]
  | k + 1, h => by
    rw [List.range_succ, List.map_append, List.map_cons, List.map_nil, show Int.ofNat k = (k : Int) from rfl, selM_snoc (by omega), selM_range ls k (by omega), List.take_succ_eq_append_getElem (by omega)]

theorem blockM_all {c : Ch} {ls : List Lg} {p : Tp} (h : routeM c ls p = none) : blkM c ls p (blockM c ls p) = true := by
  refine needed_keep ?_ _
  unfold blkM
  simp only [neededTo]
  rw [selM_range ls _ (Nat.le_refl _), List.take_length, h]
  rfl
end Go.Proofs.YthobfecblpnnnaaGreatDoor

/- Layer 6: the loops of the law LanesBlocked. -/
set_option linter.all false
namespace Go.Proofs.YthobfecblpnnnaaGreatDoor
open Go Go.RowKit

def bwOut : SC := sf_coblelaw06_LanesBlocked.body.loops.headD .skip
def bwIn : SC := sf_coblelaw06_LanesBlocked.body.loops.getD 1 .skip
def bwHd : SC := match bwIn with | .seq a _ => a | _ => .skip
def bwChk : SC := match bwIn with | .seq _ (.seq (.block _ (.seq a _)) _) => a | _ => .skip
def bwApp : SC := match bwIn with | .seq _ (.seq (.block _ (.seq _ a)) _) => a | _ => .skip
def bwInc : SC := match bwIn with | .seq _ (.seq _ a) => a | _ => .skip
theorem bwIn_eq : bwIn = .seq bwHd (.seq (.block 3 (.seq bwChk bwApp)) bwInc) := rfl

/-- The numbers are in order. -/
theorem bw_chk (n : Nat) (H : AH) (l : List Int) (hl : l.length ≤ 100) (hmem : ∀ x ∈ l, ∃ m : Nat, m < n ∧ x = m) (hasc : l.Pairwise (· < ·)) (va xa : Option Addr) (vc xc : Nat) (hx : Sl H (.slice xa l.length xc) l.length (ints l)) (i : Nat) (hi : i < l.length) (S : St)
    (e1 : tget S.t 1 = .slice va n vc) (e7 : tget S.t 7 = .slice xa l.length xc) (e13 : tget S.t 13 = .int .i64 i) (hH : S.H = H) :
    ∃ t', exL Tryz.prog pf bwChk S = some (.normal, { S with t := t' }) ∧ tget t' 1 = tget S.t 1 ∧ tget t' 3 = tget S.t 3 ∧ tget t' 5 = tget S.t 5 ∧ tget t' 7 = tget S.t 7 ∧ tget t' 8 = tget S.t 8 ∧ tget t' 11 = tget S.t 11 ∧ tget t' 12 = tget S.t 12 ∧ tget t' 13 = tget S.t 13 := by
  obtain ⟨y1, y2, y3, hyd⟩ := hx
  cases y3
  obtain ⟨k, hk, ek⟩ := hmem l[i] (List.getElem_mem hi)
  obtain ⟨bx, ox, rfl, cx⟩ := hyd i (.int .i64 k) (by simp [ints, hi, ek])
  have hkI : (k : Int) < (n : Int) := by omega
  have hkI' : ¬ (n : Int) ≤ (k : Int) := by omega
  have hk0 : ¬ (k : Int) < 0 := by omega
  have hiI : (i : Int) < (l.length : Int) := by omega
  simp only [hcell] at cx
  rcases i with _ | q
  · simp only [Nat.add_zero, Int.ofNat_zero, Int.natCast_zero] at cx e13
    have h0l : 0 < l.length := hi
    refine ⟨_, by simp [bwChk, bwIn, SC.loops, sf_coblelaw06_LanesBlocked, e1, e7, e13, hH, cx, hi, h0l, hkI, hkI', hk0]; rfl, by simp, by simp, by simp, by simp, by simp, by simp, by simp, by simp⟩
  · obtain ⟨m, hm, em⟩ := hmem l[q] (List.getElem_mem (by omega))
    obtain ⟨bz, oz, ez, cz⟩ := hyd q (.int .i64 m) (by simp [ints, show q < l.length by omega, em])
    cases ez
    simp only [hcell] at cz
    have hlt : (m : Int) < (k : Int) := by
      have := List.pairwise_iff_getElem.1 hasc q (q + 1) (by omega) hi (by omega)
      rw [ek, em] at this
      exact this
    have hle : ¬ (k : Int) ≤ (m : Int) := by omega
    have hle' : ¬ k ≤ m := by omega
    obtain ⟨u, hu⟩ : ∃ u : Nat, u = q + 1 := ⟨_, rfl⟩
    rw [← hu] at cx e13 hi hiI
    have hu0 : (0 : Int) < (u : Int) := by omega
    have hw : IntKind.i64.wrap ((u : Int) - 1) = ((q : Nat) : Int) := by rw [wrap_i64 (by omega) (by omega)]; omega
    have hq : q < l.length := by omega
    have hu0' : 0 < u := by omega
    refine ⟨_, by simp [bwChk, bwIn, SC.loops, sf_coblelaw06_LanesBlocked, e1, e7, e13, hH, cx, cz, hi, hiI, hkI, hkI', hk0, hu0, hu0', hw, hq, hlt, hle, hle']; rfl, by simp, by simp, by simp, by simp, by simp, by simp, by simp, by simp⟩

set_option maxHeartbeats 4000000 in
theorem bw_in (ls : List Lg) (H : AH) (va : Option Addr) (vc : Nat) (hv : LgIn H (.slice va ls.length vc) ls) (l : List Int) (hl : l.length ≤ 100) (hmem : ∀ x ∈ l, ∃ m : Nat, m < ls.length ∧ x = m) (hasc : l.Pairwise (· < ·)) (xa : Option Addr) (xc : Nat) (hx : Sl H (.slice xa l.length xc) l.length (ints l)) (bt y : Int) (hy : ∀ i (h : i < l.length), (l[i] == y) = decide ((i : Int) = bt)) (S : St)
    (e1 : tget S.t 1 = .slice va ls.length vc) (e7 : tget S.t 7 = .slice xa l.length xc) (e11 : tget S.t 11 = .int .i64 bt) (e12 : tget S.t 12 = .slice none 0 0) (e13 : tget S.t 13 = .int .i64 0) (hH : S.H = H) (hlim : S.lim ≤ H.length) :
    ∃ r, exL Tryz.prog pf (.loop bwIn) S = some r ∧ (r.1 = .exit 2 ∧ r.2.L = S.L ∧ r.2.lim = S.lim ∧ tget r.2.t 1 = tget S.t 1 ∧ tget r.2.t 3 = tget S.t 3 ∧ tget r.2.t 5 = tget S.t 5 ∧ tget r.2.t 7 = tget S.t 7 ∧ tget r.2.t 8 = tget S.t 8 ∧ tget r.2.t 11 = tget S.t 11 ∧ Aft H r.2.H ∧ LgP H H.length r.2.H (tget r.2.t 12) (selM ls (l.filter (fun z => !(z == y))))) := by
  have hln := hv.n
  refine loop_rule (I := fun m s' => ∃ i, i ≤ l.length ∧ m = l.length - i ∧ tget s'.t 1 = tget S.t 1 ∧ tget s'.t 3 = tget S.t 3 ∧ tget s'.t 5 = tget S.t 5 ∧ tget s'.t 7 = tget S.t 7 ∧ tget s'.t 8 = tget S.t 8 ∧ tget s'.t 11 = tget S.t 11 ∧ tget s'.t 13 = .int .i64 i ∧ s'.L = S.L ∧ s'.lim = S.lim ∧ Aft H s'.H ∧ LgP H H.length s'.H (tget s'.t 12) (selM ls ((l.take i).filter (fun z => !(z == y))))) ?_ l.length S
    ⟨0, by omega, by omega, rfl, rfl, rfl, rfl, rfl, rfl, e13, rfl, rfl, by rw [hH]; exact Aft.refl H, [], rfl, fun i h => by simp [selM] at h, .inl ⟨by simp [selM], e12⟩⟩
  rintro m s' ⟨i, hi, rfl, f1, f3, f5, f7, f8, f11, f13, fL, fl, fA, fO⟩
  obtain ⟨A, hAA⟩ : ∃ A, s'.H = A := ⟨_, rfl⟩
  rw [hAA] at fA fO
  by_cases hlt : i < l.length
  rotate_left
  · have : i = l.length := by omega
    subst this
    rw [List.take_length] at fO
    simp [bwIn, SC.loops, sf_coblelaw06_LanesBlocked, f1, f3, f5, f7, f8, f11, f13, fL, fl, hAA, e7]
    exact ⟨fA, fO⟩
  have hltI : (i : Int) < (l.length : Int) := by omega
  have hw : IntKind.i64.wrap ((i : Int) + 1) = ((i + 1 : Nat) : Int) := by rw [wrap_i64 (by omega) (by omega)]; omega
  obtain ⟨k, hk, ek⟩ := hmem l[i] (List.getElem_mem hlt)
  have hlt5 : ls.length < 2 ^ 62 := by omega
  have htk : l.take (i + 1) = l.take i ++ [(k : Int)] := by rw [List.take_succ_eq_append_getElem hlt, ek]
  have hyi := hy i hlt
  rw [ek] at hyi
  have hck := fun S' h1 h7 h13 hH => bw_chk ls.length A l hl hmem hasc va xa vc xc (hx.ext fA.ext) i hlt S' h1 h7 h13 hH
  obtain ⟨y1, y2, y3, hyd⟩ := hx.ext fA.ext
  cases y3
  obtain ⟨bx, ox, rfl, cx⟩ := hyd i (.int .i64 k) (by simp [ints, hlt, ek])
  simp only [hcell] at cx
  obtain ⟨S1, hS1⟩ : ∃ S1, exL Tryz.prog pf bwHd s' = some (.normal, S1) ∧ tget S1.t 1 = tget S.t 1 ∧ tget S1.t 3 = tget S.t 3 ∧ tget S1.t 5 = tget S.t 5 ∧ tget S1.t 7 = tget S.t 7 ∧ tget S1.t 8 = tget S.t 8 ∧ tget S1.t 11 = tget S.t 11 ∧ tget S1.t 13 = .int .i64 i ∧ tget S1.t 12 = tget s'.t 12 ∧ S1.L = S.L ∧ S1.lim = S.lim ∧ S1.H = A := by
    refine ⟨_, by simp [bwHd, bwIn, SC.loops, sf_coblelaw06_LanesBlocked, f7, f13, e7, hltI]; rfl, ?_⟩
    simp [f1, f3, f5, f7, f8, f11, f13, fL, fl, hAA]
  obtain ⟨x0, x1, x3, x5, x7, x8, x11, x13, x12, xL, xl, xH⟩ := hS1
  obtain ⟨t2, z0, z1, z3, z5, z7, z8, z11, z12, z13⟩ := hck S1 (by rw [x1, e1]) (by rw [x7, e7]) x13 xH
  rw [x1] at z1
  rw [x3] at z3
  rw [x5] at z5
  rw [x7] at z7
  rw [x8] at z8
  rw [x11] at z11
  rw [x12] at z12
  rw [x13] at z13
  obtain ⟨ck, hckk⟩ : ∃ ck, ck = bwChk := ⟨_, rfl⟩
  obtain ⟨hd, hhd⟩ : ∃ hd, hd = bwHd := ⟨_, rfl⟩
  rw [← hckk] at z0
  rw [← hhd] at x0
  rw [bwIn_eq, ← hckk, ← hhd]
  have hm1 : 1 ≤ maxA := by decide
  by_cases hb : (i : Int) = bt
  · have hs : (l.take (i + 1)).filter (fun z => !(z == y)) = (l.take i).filter (fun z => !(z == y)) := by
      rw [htk, List.filter_append]
      simp only [hb, decide_true] at hyi
      simp [hyi]
    simp [-Int.natCast_add, bwApp, bwInc, bwIn, SC.loops, sf_coblelaw06_LanesBlocked, x0, z0, z1, z3, z5, z7, z8, z11, z12, z13, xL, xl, xH, e11, hb, and_assoc]
    rw [← hb]
    simp only [hw]
    exact ⟨l.length - (i + 1), by omega, i + 1, by omega, rfl, rfl, fA, by rw [hs]; exact fO⟩
  have hbe : ((i : Int) != bt) = true := by simpa using hb
  have hs : selM ls ((l.take (i + 1)).filter (fun z => !(z == y))) = selM ls ((l.take i).filter (fun z => !(z == y))) ++ [ls[k]] := by
    rw [htk, List.filter_append]
    simp only [hb, decide_false] at hyi
    rw [show [(k : Int)].filter (fun z => !(z == y)) = [(k : Int)] by simp [hyi], selM_snoc hk]
  obtain ⟨b1, o1, ac1, za, zc, e, c0, c1, c2, c3, c4, hsl⟩ := (hv.ext fA.ext).sl.get hk
  cases e
  obtain ⟨b0, o0, ac0, ya, yc, e0', _, _, _, _, d4, dsl⟩ := hv.sl.get hk
  cases e0'
  obtain ⟨q1, q2⟩ : ya = za ∧ yc = zc := by
    have := hcell_ext (fun x => fA.ext _ x) d4
    rw [c4] at this
    cases this
    exact ⟨rfl, rfl⟩
  subst q1 q2
  have hkI : (k : Int) < (ls.length : Int) := by omega
  have hp := fO.push fA.le dsl
  rw [← hs] at hp
  have hlen := selM_len ls ((l.take i).filter (fun z => !(z == y)))
  have hlen2 : ((l.take i).filter (fun z => !(z == y))).length ≤ i := Nat.le_trans (List.length_filter_le _ _) (by rw [List.length_take]; omega)
  simp only [hcell] at c0 c1 c2 c3 c4
  obtain ⟨us, hus⟩ : ∃ us, selM ls ((l.take i).filter (fun z => !(z == y))) = us := ⟨_, rfl⟩
  rw [hus] at hp hlen
  obtain ⟨q, hq⟩ : ∃ q, ls[k] = q := ⟨_, rfl⟩
  rw [hq] at hp c0 c1 c2 c3 c4
  simp only [Lg.vals] at hp
  rcases hp with ⟨hu0, e4', hO⟩ | ⟨b, old, hbb, hne, e4', hbA, hol, hnl, hO⟩
  · simp [-Int.natCast_add, -oneC, -Array.all_eq_false, -Array.all_toList, oneC_slice, oneC_int, oneC_boolW, bwApp, bwInc, bwIn, SC.loops, sf_coblelaw06_LanesBlocked, x0, z0, z1, z3, z5, z7, z8, z11, z12, z13, xL, xl, xH, e1, e7, e11, hb, hbe, e4', hlt, hltI, cx, hk, hkI, c0, c1, c2, c3, c4, hw, hm1, and_assoc]
    exact ⟨l.length - (i + 1), by omega, i + 1, by omega, rfl, rfl, fA.push _, hO⟩
  · have hu0 : ¬ us.length = 0 := by simpa using hne
    have hmx : us.length + 1 ≤ maxA := Nat.le_trans (show _ ≤ 1000 by omega) (by decide)
    have hcA : ∀ L x, cellsAt L (A ++ x) ⟨b, 0, none⟩ (us.length * 5) = some old := fun L x => by
      rw [← hol]
      exact cellsAt_of _ 0 fun m y hy => by simp only [hcell, Nat.zero_add]; rw [own_get hbA x]; exact hy
    have hbX := fun x => own_get hbA x
    have hsX := fun x y => own_set hbA x y
    have hbl : S.lim ≤ b := by omega
    simp [-Int.natCast_add, -oneC, -Array.all_eq_false, -Array.all_toList, oneC_slice, oneC_int, oneC_boolW, bwApp, bwInc, bwIn, SC.loops, sf_coblelaw06_LanesBlocked, x0, z0, z1, z3, z5, z7, z8, z11, z12, z13, xL, xl, xH, e1, e7, e11, hb, hbe, e4', hlt, hltI, cx, hk, hkI, c0, c1, c2, c3, c4, hw, hu0, hne, hmx, hcA, hbX, hsX, hol, hnl, hbl, and_assoc]
    exact ⟨l.length - (i + 1), by omega, i + 1, by omega, rfl, rfl, (fA.set hbb _).push _, hO⟩
end Go.Proofs.YthobfecblpnnnaaGreatDoor

/- Layer 6: the law LanesBlocked. -/
set_option linter.all false
namespace Go.Proofs.YthobfecblpnnnaaGreatDoor
open Go Go.RowKit

theorem bw_filt {l : List Int} (hasc : l.Pairwise (· < ·)) (hnn : ∀ x ∈ l, 0 ≤ x) (k : Nat) (hk : k ≤ l.length) :
    ∃ y : Int, (∀ i (h : i < l.length), (l[i] == y) = decide ((i : Int) = (k : Int) - 1)) ∧ ((k = 0 ∧ l.filter (fun z => !(z == y)) = l) ∨ (k ≠ 0 ∧ y ∈ l)) := by
  rcases k with _ | k
  · refine ⟨-1, fun i h => ?_, .inl ⟨rfl, ?_⟩⟩
    · have := hnn _ (List.getElem_mem h)
      have h1 : ¬ l[i] = -1 := by omega
      have h2 : ¬ ((i : Int) = ((0 : Nat) : Int) - 1) := by omega
      rw [decide_eq_false h2]
      simpa using h1
    · refine List.filter_eq_self.2 fun a ha => ?_
      have := hnn a ha
      have h1 : ¬ a = -1 := by omega
      simpa using h1
  · refine ⟨l[k], fun i h => ?_, .inr ⟨by omega, List.getElem_mem _⟩⟩
    have hp := List.pairwise_iff_getElem.1 hasc
    by_cases e : i = k
    · subst e
      simp
    · have h1 : ¬ l[i] = l[k] := by
        rcases Nat.lt_or_gt_of_ne e with q | q
        · have := hp i k h (by omega) q
          omega
        · have := hp k i (by omega) h q
          omega
      have h2 : ¬ ((i : Int) = ((k + 1 : Nat) : Int) - 1) := by omega
      rw [decide_eq_false h2]
      simpa using h1

set_option maxHeartbeats 4000000 in
theorem bw_out (c : Ch) (ls : List Lg) (h5 : ls.length ≤ 5) (he : legE c ls = 0) (p : Tp) (hp : tpOk c p = true) (A0 : AH) (hA : noLp A0 = true) (hG : A0[waysG]? = some (.ro waysV)) (d t s : Value) (hc : ChIn A0 c d t s) (va : Option Addr) (vc : Nat) (hv : LgIn A0 (.slice va ls.length vc) ls) (l : List Int) (hl : l.length ≤ 100) (hl5 : l.length ≤ ls.length) (hmem : ∀ x ∈ l, ∃ m : Nat, m < ls.length ∧ x = m) (hasc : l.Pairwise (· < ·)) (xa : Option Addr) (xc : Nat) (hx : Sl A0 (.slice xa l.length xc) l.length (ints l)) (hb1 : blkM c ls p l = true) (hb2 : ∀ x ∈ l, blkM c ls p (l.filter (fun z => !(z == x))) = false) (S : St)
    (e1 : tget S.t 1 = .slice va ls.length vc) (e3 : tget S.t 3 = .pointer (some ⟨3, 0, some 0⟩)) (e5 : tget S.t 5 = .pointer (some ⟨5, 0, some 0⟩)) (e7 : tget S.t 7 = .slice xa l.length xc) (e8 : tget S.t 8 = .int .i64 0) (e11 : tget S.t 11 = .int .i64 (-1)) (l3 : lget S.L 3 = some (0, .cells [.int .i64 c.w, .int .i64 c.h, d, t, s])) (l5 : lget S.L 5 = some (0, .cells [.int .i64 p.t0, .int .i64 p.lv, .int .i64 p.dr, .bool p.tl, .int .i64 p.fr, .int .i64 p.to])) (hH : S.H = A0) (hlim : S.lim ≤ A0.length) :
    ∃ r, exL Tryz.prog pf (.loop bwOut) S = some r ∧ (r.1 = .exit 0 ∧ Ext A0 r.2.H) := by
  obtain ⟨hok, hl12, hall⟩ := legE_zero.1 he
  obtain ⟨⟨da, dc, ed, _⟩, ⟨ta, tc, et, _⟩, ⟨sa, sc, es, _⟩, _⟩ := id hc
  refine loop_rule (I := fun m s' => ∃ k : Nat, k ≤ l.length + 1 ∧ m = l.length + 1 - k ∧ tget s'.t 1 = .slice va ls.length vc ∧ tget s'.t 3 = tget S.t 3 ∧ tget s'.t 5 = tget S.t 5 ∧ tget s'.t 7 = .slice xa l.length xc ∧ tget s'.t 8 = .int .i64 0 ∧ tget s'.t 11 = .int .i64 ((k : Int) - 1) ∧ s'.L = S.L ∧ s'.lim = S.lim ∧ Aft A0 s'.H) ?_ (l.length + 1) S
    ⟨0, by omega, by omega, e1, rfl, rfl, e7, e8, by rw [e11]; rfl, rfl, rfl, by rw [hH]; exact Aft.refl _⟩
  rintro m s' ⟨k, hk, rfl, f1, f3, f5, f7, f8, f11, fL, fl, fA⟩
  obtain ⟨A, hAA⟩ : ∃ A, s'.H = A := ⟨_, rfl⟩
  rw [hAA] at fA
  obtain ⟨bt, hbt⟩ : ∃ bt : Int, bt = (k : Int) - 1 := ⟨_, rfl⟩
  rw [← hbt] at f11
  rw [e3] at f3
  rw [e5] at f5
  by_cases hlt : k < l.length + 1
  rotate_left
  · have : ¬ bt < (l.length : Int) := by omega
    simp [bwOut, SC.loops, sf_coblelaw06_LanesBlocked, f1, f3, f5, f7, f8, f11, fL, fl, hAA, this]
    exact fA.ext
  have hltI : bt < (l.length : Int) := by omega
  have hw : IntKind.i64.wrap (bt + 1) = bt + 1 := wrap_i64 (by omega) (by omega)
  obtain ⟨y, hy, hyc⟩ := bw_filt hasc (fun x hx => by obtain ⟨m, _, rfl⟩ := hmem x hx; omega) k (by omega)
  rw [← hbt] at hy
  have hle := fA.le
  have hin := fun S1 a1 a7 a11 a12 a13 aH al => bw_in ls A va vc (hv.ext fA.ext) l hl hmem hasc xa xc (hx.ext fA.ext) bt y hy S1 a1 a7 a11 a12 a13 aH al
  have l3' := l3
  rw [ed, et, es] at l3'
  simp [-oneC, -Array.all_eq_false, -Array.all_toList, -List.all_eq_true, oneC_slice, oneC_int, oneC_boolW, bwOut, SC.loops, sf_coblelaw06_LanesBlocked, f1, f3, f5, f7, f8, f11, fL, fl, hAA, hltI]
  generalize hS : ({ t := _, L := _, H := _, lim := _, rd := _ } : St) = S1
  obtain ⟨⟨e, s1⟩, hr, g0, gL, gl, g1, g3, g5, g7, g8, g11, gA, gO⟩ := hin S1 (by subst hS; simp [f1]) (by subst hS; simp [f7]) (by subst hS; simp [f11]) (by subst hS; simp) (by subst hS; simp) (by subst hS; simp) (by subst hS; simp; omega)
  simp [bwIn, SC.loops, sf_coblelaw06_LanesBlocked] at hr
  rw [hr]
  simp only at g0 gL gl g1 g3 g5 g7 g8 g11 gA gO
  subst g0
  have z1 : tget S1.t 1 = .slice va ls.length vc := by subst hS; simp [f1]
  have z3 : tget S1.t 3 = .pointer (some ⟨3, 0, some 0⟩) := by subst hS; simp [f3]
  have z5 : tget S1.t 5 = .pointer (some ⟨5, 0, some 0⟩) := by subst hS; simp [f5]
  have z7 : tget S1.t 7 = .slice xa l.length xc := by subst hS; simp [f7]
  have z8 : tget S1.t 8 = .int .i64 0 := by subst hS; simp [f8]
  have z11 : tget S1.t 11 = .int .i64 bt := by subst hS; simp [f11]
  have zL : S1.L = S.L := by subst hS; simp
  have zl : S1.lim = S.lim := by subst hS; simp
  rw [z1] at g1
  rw [z3] at g3
  rw [z5] at g5
  rw [z7] at g7
  rw [z8] at g8
  rw [z11] at g11
  rw [zL] at gL
  rw [zl] at gl
  have gA' := fA.trans gA
  obtain ⟨B, hB⟩ : ∃ B, s1.H = B := ⟨_, rfl⟩
  rw [hB] at gA gO gA'
  obtain ⟨us, hus⟩ : ∃ us, l.filter (fun z => !(z == y)) = us := ⟨_, rfl⟩
  have hul : us.length ≤ l.length := by rw [← hus]; exact List.length_filter_le _ _
  rw [hus] at gO
  have hsl := gO.sl gA.ext
  have hse := selM_len ls us
  have hsub : ∀ x ∈ selM ls us, x ∈ ls := selM_mem
  have hlg : LgIn B (tget s1.t 12) (selM ls us) := ⟨hsl, fun x hx => hv.cl x (hsub x hx), by omega⟩
  have hes : legE c (selM ls us) = 0 := legE_zero.2 ⟨hok, by omega, List.all_eq_true.2 fun x hx => List.all_eq_true.1 hall x (hsub x hx)⟩
  obtain ⟨r, A2, r1, q1, q2⟩ := run_Route_ok c (selM ls us) p B (gA'.nlp hA) (gA'.ext _ _ hG) d t s _ (hc.ext gA'.ext) hlg hes hp
  have hA2 := gA'.trans q1
  obtain ⟨wa, wc, ew⟩ := hsl.one
  simp only [chV, tpV, ed, et, es, ew] at r1
  rcases hyc with ⟨rfl, hf⟩ | ⟨hk0, hyl⟩
  · have hn : routeM c (selM ls us) p = none := by
      rw [hf] at hus
      subst hus
      unfold blkM at hb1
      rwa [Option.isNone_iff_eq_none] at hb1
    rw [hn] at q2
    obtain ⟨rfl, rfl⟩ := q2
    have hb0 : bt < 0 := by omega
    have hb0' : ¬ 0 ≤ bt := by omega
    simp [-oneC, -Array.all_eq_false, -Array.all_toList, -List.all_eq_true, oneC_slice, oneC_int, oneC_boolW, g1, g3, g5, g7, g8, g11, gL, gl, ew, l3', l5, hB, r1, hb0, hb0', hw, and_assoc]
    exact ⟨l.length, by omega, 1, by omega, by omega, e3.symm, e5.symm, by omega, hA2⟩
  · obtain ⟨ns, hn⟩ : ∃ ns, routeM c (selM ls us) p = some ns := by
      have := hb2 y hyl
      rw [hus] at this
      unfold blkM at this
      cases ho : routeM c (selM ls us) p with
      | none => rw [ho] at this; exact absurd this (by decide)
      | some ns => exact ⟨ns, rfl⟩
    rw [hn] at q2
    obtain ⟨r0, rfl, b, hb0, rfl, hbA⟩ := q2
    have hge : 0 ≤ bt := by omega
    have hge' : ¬ bt < 0 := by omega
    simp [-oneC, -Array.all_eq_false, -Array.all_toList, -List.all_eq_true, oneC_slice, oneC_int, oneC_boolW, g1, g3, g5, g7, g8, g11, gL, gl, ew, l3', l5, hB, r1, hge, hge', hw, and_assoc]
    exact ⟨l.length + 1 - (k + 1), by omega, k + 1, by omega, by omega, e3.symm, e5.symm, by omega, hA2⟩

set_option maxHeartbeats 4000000 in
theorem blocked_law (c : Ch) (ls : List Lg) (hn : ls.length < 2 ^ 63) (p : Tp) (lim : Nat) (H : AH) (hH : noLp H = true) (hG : H[waysG]? = some (.ro waysV)) (d t s v : Value) (hs : ChSl H c d t s) (hv : LgSl H v ls) :
    ∃ H', apL Tryz.prog pf (.func (.func 6) #[] #[]) [chV c d t s, v, tpV p] lim H = some (.bool true, H') := by
  refine ⟨H, ?_⟩
  rw [apL_func _ _ _ _ _ _ (by rfl), sf_coblelaw06_LanesBlocked_eq]
  have hV := fun lim => run_valid6 c ls hn lim H d t s v hs hv
  have hW := fun lim => run_works6 lim H hG
  obtain ⟨va, vc, ev⟩ := hv.one
  obtain ⟨⟨da, dc, ed, _⟩, ⟨ta, tc, et, _⟩, ⟨sa, sc, es, _⟩⟩ := id hs
  cases a1 : valid6 c ls with
  | false =>
    rw [a1] at hV
    simp only [chV, ed, et, es, ev] at hV
    simp [sf_coblelaw06_LanesBlocked, chV, tpV, ed, et, es, ev, hV, hW, pf_pure, pureF]
  | true =>
  rw [a1] at hV
  obtain ⟨v1, v2, v3, v4⟩ := valid6_iff.1 a1
  obtain ⟨hok, hl12, hall⟩ := legE_zero.1 v4
  have hc : ChIn H c d t s := Far6.in hs v1
  have hv' : LgIn H v ls := FarL.in hv v2
  have hT := fun lim => run_IsTrip6 c hok p lim H d t s hc
  simp only [chV, tpV, ed, et, es, ev] at hV hT
  cases a2 : tpOk c p with
  | false =>
    rw [a2] at hT
    simp [sf_coblelaw06_LanesBlocked, chV, tpV, ed, et, es, ev, hV, hT, hW, pf_pure, pureF]
  | true =>
  rw [a2] at hT
  cases ho : routeM c ls p with
  | some ns =>
    have hB := fun lim => run_Block_some c ls p H hH hG d t s v hc hv' v4 a2 (by rw [ho]; rfl) lim
    obtain ⟨r, A, r1, g1, g2⟩ := run_Route_ok c ls p H hH hG d t s v hc hv' v4 a2
    rw [ho] at g2
    obtain ⟨r0, rfl, b, hb0, rfl, hbA⟩ := g2
    have hWA := fun lim => run_works6 lim A (g1.ext _ _ hG)
    simp only [chV, tpV, ed, et, es, ev] at hB r1
    simp [-oneC, -Array.all_eq_false, -Array.all_toList, -List.all_eq_true, oneC_slice, oneC_int, oneC_boolW, sf_coblelaw06_LanesBlocked, chV, tpV, ed, et, es, ev, hV, hT, hB, r1, pf_pure, pureF]
    have hlp : ∀ S : St, tget S.t 8 = .int .i64 3 → ∃ S', exL Tryz.prog pf (.loop bwOut) S = some (.exit 0, S') ∧ S'.H = S.H := fun S e8 => by
      obtain ⟨r, z1, z2, z3⟩ := loop_rule (P := Tryz.prog) (pf := pf) (a := bwOut) (I := fun _ s' => s' = S) (Q := fun r => r.1 = .exit 0 ∧ r.2.H = S.H) (by
        rintro m s' rfl
        simp [bwOut, SC.loops, sf_coblelaw06_LanesBlocked, e8]) 0 S rfl
      obtain ⟨e, s1⟩ := r
      simp only at z2 z3
      subst z2
      exact ⟨s1, z1, z3⟩
    generalize hS : ({ t := _, L := _, H := _, lim := _, rd := _ } : St) = S1
    obtain ⟨S', z1, z2⟩ := hlp S1 (by subst hS; simp)
    simp [bwOut, SC.loops, sf_coblelaw06_LanesBlocked] at z1
    rw [z1]
    have zH : S1.H = A := by subst hS; rfl
    rw [zH] at z2
    simp [z2, hWA]
  | none =>
    obtain ⟨r, A, r1, g1, g2⟩ := run_Block_none c ls p H hH hG d t s v hc hv' v4 a2 ho
    obtain ⟨r', A', r2, q1, q2⟩ := run_Route_ok c ls p A (g1.nlp hH) (g1.ext _ _ hG) d t s v (hc.ext g1.ext) (hv'.ext g1.ext) v4 a2
    rw [ho] at q2
    obtain ⟨rfl, rfl⟩ := q2
    rw [ev] at hv'
    have hx := g2.sl
    have hol := needed_len (bl := blkM c ls p) (n := ls.length) ls.length
    have hmem := needed_mem (bl := blkM c ls p) (n := ls.length) ls.length
    have hasc := needed_asc (bl := blkM c ls p) (n := ls.length) ls.length
    have hb1 := blockM_all ho
    have hb2 : ∀ x ∈ blockM c ls p, blkM c ls p ((blockM c ls p).filter (fun z => !(z == x))) = false := fun x hx => needed_least (blkM_mono a2) hx
    have hbm : neededTo (blkM c ls p) ls.length ls.length = blockM c ls p := rfl
    rw [hbm] at hol hmem hasc
    obtain ⟨l, hl⟩ : ∃ l, blockM c ls p = l := ⟨_, rfl⟩
    rw [hl] at g2 hx hol hmem hasc hb1 hb2
    obtain ⟨b, q, rest, rfl, hbA⟩ := g2
    have hlo := fun S => bw_out c ls v3 v4 p a2 A' (g1.nlp hH) (g1.ext _ _ hG) d t s (hc.ext g1.ext) va vc (hv'.ext g1.ext) l (by omega) hol hmem hasc (some ⟨b, 0, none⟩) q hx hb1 hb2 S
    have hle := g1.le
    simp only [chV, tpV, ed, et, es, ev] at r1 r2
    simp [-oneC, -Array.all_eq_false, -Array.all_toList, -List.all_eq_true, oneC_slice, oneC_int, oneC_boolW, sf_coblelaw06_LanesBlocked, chV, tpV, ed, et, es, ev, hV, hT, r1, r2, pf_pure, pureF]
    generalize hS : ({ t := _, L := _, H := _, lim := _, rd := _ } : St) = S1
    obtain ⟨⟨e, s1⟩, hr, z0, zE⟩ := hlo S1 (by subst hS; simp) (by subst hS; simp) (by subst hS; simp) (by subst hS; simp) (by subst hS; simp) (by subst hS; simp) (by subst hS; simp [ed, et, es]) (by subst hS; simp) (by subst hS; rfl) (by subst hS; exact hle)
    simp [bwOut, SC.loops, sf_coblelaw06_LanesBlocked] at hr
    rw [hr]
    simp only at z0 zE
    subst z0
    have hWA := fun lim => run_works6 lim s1.H (zE _ _ (g1.ext _ _ hG))
    simp [hWA]
end Go.Proofs.YthobfecblpnnnaaGreatDoor

/- The law LanesBlocked at what was read. -/
set_option linter.all false
namespace Go.Proofs.YthobfecblpnnnaaGreatDoor
open Go Go.RowKit
attribute [local irreducible] tyD

variable {H : Type}

theorem aggTBlocked : isAggT Tryz.prog 28 = true := by kernel_rfl

theorem lanesBlocked_true (ds : List (DataW H)) (h : All2 (tyD Tryz.prog 5) [25, 26, 28] ds) : ∃ H', apL Tryz.prog pf (.func (.func 6) #[] #[]) (absVs Tryz.prog [25, 26, 28] ds Tryz.prog.globals.size).1 0 (globH Tryz.prog tabs ++ (absVs Tryz.prog [25, 26, 28] ds Tryz.prog.globals.size).2) = some (.bool true, H') := by
  match ds, h with
  | [x, y, z], h =>
    obtain ⟨c, _, hc⟩ := dChart (n := 1) h.1
    obtain ⟨ls, hll, hl⟩ := dLegsS (n := 1) h.2.1
    obtain ⟨p, hz⟩ := dTrip (n := 3) h.2.2.1
    obtain ⟨dd, tt, ss, e, hS⟩ := hc (globH Tryz.prog tabs)
    obtain ⟨lv, el, hL⟩ := hl (globH Tryz.prog tabs ++ (absD x (globH Tryz.prog tabs).length).2)
    have hgl : (globH Tryz.prog tabs).length = Tryz.prog.globals.size := by simp [globH]
    rw [List.length_append] at el hL
    rw [hgl] at e hS el hL
    have hG := hG_ext (absD x Tryz.prog.globals.size).2 globGT
    obtain ⟨n2, hn2⟩ : ∃ n2, n2 = Tryz.prog.globals.size + (absD x Tryz.prog.globals.size).2.length := ⟨_, rfl⟩
    rw [← hn2] at el hL
    have ev : (absVs Tryz.prog [25, 26, 28] [x, y, z] Tryz.prog.globals.size) = ([chV c dd tt ss, lv, tpV p], (absD x Tryz.prog.globals.size).2 ++ (absD y n2).2) := by
      simp only [absVs, hz, e, List.append_nil, ← hn2, el]
      simp only [absV, aggCT, aggTBlocked, aggLT, if_true]
      rfl
    rw [ev]
    simp only [← List.append_assoc]
    have E : Ext (globH Tryz.prog tabs ++ (absD x Tryz.prog.globals.size).2) (globH Tryz.prog tabs ++ (absD x Tryz.prog.globals.size).2 ++ (absD y n2).2) := Ext.push _ _
    have hml : maxLen < 2 ^ 63 := by decide
    exact blocked_law c ls (by omega) p 0 _ (noLp_app (noLp_app globH_nlp (absD_nlp x _)) (absD_nlp y _)) (hG_ext _ hG) dd tt ss lv ⟨hS.d.ext E, hS.t.ext E, hS.s.ext E⟩ hL
  | [], h => exact h.elim
  | [_], h => exact h.2.elim
  | [_, _], h => exact h.2.2.elim
  | _ :: _ :: _ :: _ :: _, h => exact h.2.2.2.elim
end Go.Proofs.YthobfecblpnnnaaGreatDoor

/- The statement of LanesBlocked: its row and its card. For every readable input the law's function returns true, and leaves its arguments as they were. -/
set_option linter.all false
namespace Go.Proofs.YthobfecblpnnnaaGreatDoor.LawLanesBlocked
open Go Go.RowKit Go.ChangeShapes Go.WideShapes Go.ChangeAt Go.Proofs.YthobfecblpnnnaaGreatDoor

theorem args {α : Type} {r : TypeId → α → Prop} {ds : List α} (h : All2 r [25, 26, 28] ds) : ∃ d1 d2 d3, ds = [d1, d2, d3] := by
  match ds, h with
  | [d1, d2, d3], _ => exact ⟨d1, d2, d3, rfl⟩
  | [], h => exact h.elim
  | [_], h => exact h.2.elim
  | [_, _], h => exact h.2.2.elim
  | _ :: _ :: _ :: _ :: _, h => exact h.2.2.2.elim

set_option maxRecDepth 100000 in
theorem contract (H : Type) (enc : TypeId × Value → H) (W : World) (base : Nat) (args : Array Value) (ds gs : List (DataW H)) (before : List MemPlace)
    (hval : ∀ (j : Nat) t v, Tryz.f6.params[j]? = some t → args[j]? = some v → Value.okWide Tryz.prog W .any base t v)
    (hW : DataW.Whole enc Tryz.prog Tryz.f6.params.toList Rows.lanesBlockedSpec.vars false W args.toList ds gs before) (hL : laidMetH Tryz.prog Rows.lanesBlockedRow.laid W) (hS : W.ShapedOpen Tryz.prog) :
    Calls Tryz.prog 6 args W fun e W' => ∃ v, e = .returned v ∧ Rows.lanesBlockedSpec.post enc Tryz.prog Tryz.f6 false true false false W args v W' := by
  have hp : Tryz.f6.params.toList = [25, 26, 28] := by rw [Tryz.params6]
  have hsup : ∀ t ∈ Tryz.f6.params.toList, supT Tryz.prog 5 t = true := by
    rw [hp]
    intro t ht
    have := (show ([25, 26, 28] : List TypeId).all (supT Tryz.prog 5) = true by kernel_rfl)
    exact List.all_eq_true.1 this t ht
  have hA : DataW.TrodAll enc Tryz.prog W 0 (fun _ => true) true Tryz.f6.params.toList args.toList ds before := by
    obtain ⟨p, q, h1, h2, rfl, _⟩ := hW
    obtain ⟨rfl, rfl⟩ := trodVars_none h2
    simpa using h1
  have hty := args_ty _ _ _ _ hsup hA
  rw [hp] at hty
  obtain ⟨H', ht⟩ := lanesBlocked_true ds hty
  obtain ⟨d1, d2, d3, rfl⟩ := LawLanesBlocked.args hty
  rw [← hp] at ht
  obtain ⟨c, hbody⟩ := Option.isSome_iff_exists.1 (show Tryz.f6.body.isSome = true by kernel_rfl)
  refine (law_calls foll pf pf_sound Tryz.func6 hbody (by kernel_rfl) hsup hval hA (globals_there hS) (tabs_there hL) ht).mono ?_
  rintro e W' ⟨rfl, o', hk⟩
  exact ⟨_, rfl, post_true hW rfl ⟨rfl, rfl, rfl⟩ (tb := 4) (by kernel_rfl) Tryz.underlying4 kids (slices_full_of _ full) (by
    rw [hp]
    intro t ht
    have := (show ([25, 26, 28] : List TypeId).all (fun t => decide (t < Tryz.prog.types.size)) = true by kernel_rfl)
    exact of_decide_eq_true (List.all_eq_true.1 this t ht)) hk (fun _ => rfl)⟩

/-- A world for the witness: the table is laid. -/
noncomputable def laidWorld (os : Os) : World :=
  { World.holding Tryz.prog os ⟨#[], #[], []⟩ with heap := (World.holding Tryz.prog os ⟨#[], #[], []⟩).heap.modify waysG fun
      | .cells _ t frozen => .cells waysV.toArray t frozen
      | o => o }
def wit : Array Value := #[.agg #[.int .i64 0, .int .i64 0, .slice none 0 0, .slice none 0 0, .slice none 0 0], .slice none 0 0, .agg #[.int .i64 0, .int .i64 0, .int .i64 0, .bool false, .int .i64 0, .int .i64 0]]
theorem laid_met (os : Os) : laidMet Tryz.prog Rows.lanesBlockedRow.laid ((laidWorld os).forCall (fun _ _ => 0) ⟨#[], wit, []⟩).memory :=
  laidMet_of_run' 8 (by kernel_rfl) (by kernel_rfl)
theorem reads (os : Os) {H : Type} (enc : TypeId × Value → H) : ∃ places, DataW.whole enc Tryz.prog ((laidWorld os).forCall (fun _ _ => 0) ⟨#[], wit, []⟩).memory Tryz.f6.params.toList Rows.lanesBlockedSpec.vars false wit.toList 8 =
    some ([.agg [.lit (.int .i64 0), .lit (.int .i64 0), .nil, .nil, .nil], .nil, .agg [.lit (.int .i64 0), .lit (.int .i64 0), .lit (.int .i64 0), .lit (.bool false), .lit (.int .i64 0), .lit (.int .i64 0)]], [], places) :=
  ⟨[], by kernel_rfl⟩

set_option maxRecDepth 100000 in
theorem lifted (os : Os) (started : os.Started) (H : Type) (enc : TypeId × Value → H) (F : Stop.Interp) :
    ReturnsInHanded {} Tryz.checked os 6 .any ((OpenSpec.ofChange Rows.lanesBlockedSpec).preRow enc Tryz.prog Tryz.f6 Rows.lanesBlockedRow.domain false Rows.lanesBlockedRow.laid) (((OpenSpec.ofChange Rows.lanesBlockedSpec).at F).post enc Tryz.prog Tryz.f6 false true false false) := by
  obtain ⟨places, hx⟩ := reads os enc
  refine returnsInHanded_of_row (C := Tryz.checked) (s := OpenSpec.ofChange Rows.lanesBlockedSpec) own started (by kernel_rfl) Tryz.func6
    (witness_row_at (enc := enc) (C := Tryz.checked) false (laidWorld os) wit rfl (by kernel_rfl) (by kernel_rfl) (by kernel_rfl)
      (OpenSpec.preRow_of_cond 8 hx (by kernel_rfl) (fun k hk => by cases hk) (by kernel_rfl) (laid_met os))) ?_
  intro W base args ds gs before hval hW _ _ _ hL hS _
  exact contract H enc W base args ds gs before hval hW hL hS

theorem said : Rows.LanesBlockedSaid :=
  OpenClaim.holds_of_cond 6 Tryz.f6 rfl rfl rfl rfl rfl rfl rfl ⟨rfl, rfl, rfl, rfl, rfl⟩ rfl rfl rfl rfl rfl (by kernel_rfl) Tryz.func6 (by kernel_rfl)
    (of_decide_eq_true (by kernel_rfl)) (by unfold Func.isWrapper; first | (rw [if_pos (by decide +kernel)]; kernel_rfl) | (rw [if_neg (by decide +kernel)]; exact ⟨rfl, rfl⟩))
    (fun os started H enc _ F => by rw [OpenClaim.pre_eq_preRow]; exact lifted os started H enc F)

theorem plain (f : FuncId) (fn : Func) (hf : Tryz.pinned.checked.prog.funcNamed "coble/coblelaw06.LanesBlocked" = some f) (hfn : Tryz.pinned.checked.prog.funcs[f]? = some fn) :
    false = Tryz.pinned.checked.prog.looks [] ∧ ∀ (j : Nat) t, fn.params[j]? = some t → Tryz.pinned.checked.prog.wantsStandIn t = false := by
  obtain rfl : f = 6 := Option.some.inj ((show Tryz.prog.funcNamed "coble/coblelaw06.LanesBlocked" = some 6 by kernel_rfl).symm.trans hf) |>.symm
  obtain rfl : fn = Tryz.f6 := (Option.some.inj (Tryz.func6.symm.trans hfn)).symm
  refine ⟨by kernel_rfl, fun j t ht => ?_⟩
  rw [Tryz.params6] at ht
  have hm : t ∈ ([25, 26, 28] : List TypeId) := by simpa using Array.mem_of_getElem? ht
  have := (show ([25, 26, 28] : List TypeId).all (fun t => Tryz.prog.wantsStandIn t == false) = true by kernel_rfl)
  have e : Tryz.prog.wantsStandIn t = false := by simpa using List.all_eq_true.1 this t hm
  exact e

/-- The card. -/
theorem card : Rows.LanesBlockedCardSaid :=
  Claim7.holds_tied_plain_at .later [] _ _ _ _ said (fun _ h => by cases h) (by kernel_rfl) (fun _ h => by cases h) lanesBlocked_row_tie rfl ⟨rfl, rfl⟩ (by kernel_rfl) rfl plain (by kernel_rfl)
end Go.Proofs.YthobfecblpnnnaaGreatDoor.LawLanesBlocked
