import Derived.Test.YthobfecblpnnnaaGreatDoorRouA
import Derived.Test.YthobfecblpnnnaaGreatDoorLanE
import Derived.Test.YthobfecblpnnnaaGreatDoorRep

/- Contracts of layer 6, the program: spots; whether a spot is clear. -/
set_option linter.all false
namespace Go.Proofs.YthobfecblpnnnaaGreatDoor
open Go Go.RowKit

def spC (x : Sp) : List Value := [.int .i64 x.now, .int .i64 x.bef, .int .i64 x.rear]
def sps (l : List Sp) : List Value := l.flatMap spC
theorem sps_length : ∀ l : List Sp, (sps l).length = l.length * 3
  | [] => rfl
  | x :: l => by
    have := sps_length l
    simp only [sps, List.flatMap_cons, List.length_append, spC, List.length_cons, List.length_nil] at this ⊢
    rw [this]; omega
theorem nlL_sps : ∀ l : List Sp, nlL (sps l) = true
  | [] => by simp [sps, nlL]
  | x :: l => by
    have := nlL_sps l
    simp only [sps, List.flatMap_cons, spC] at this ⊢
    simp [this, nlL]
theorem sps_get : ∀ {l : List Sp} {i : Nat} (h : i < l.length), (sps l)[i * 3]? = some (.int .i64 l[i].now) ∧ (sps l)[i * 3 + 1]? = some (.int .i64 l[i].bef) ∧ (sps l)[i * 3 + 2]? = some (.int .i64 l[i].rear)
  | x :: l, 0, h => by simp [sps, spC]
  | x :: l, i + 1, h => by
    have := sps_get (l := l) (i := i) (by simpa using h)
    simp only [sps, List.flatMap_cons, spC] at this ⊢
    rw [show (i + 1) * 3 = i * 3 + 3 by omega, show i * 3 + 3 + 1 = (i * 3 + 1) + 3 by omega, show i * 3 + 3 + 2 = (i * 3 + 2) + 3 by omega]
    simpa using this

/-- A function value that says something of a spot. -/
def IsCl (H : AH) (f : Value) (p : Sp → Bool) : Prop := (nl f = true ∧ isU f = false ∧ f.cells = #[f]) ∧ ∀ H', Ext H H' → ∀ (o : Sp) lim, apL Tryz.prog pf f [spoV o] lim H' = some (.bool (p o), H')

def idxLoopS : SC := sf_slices_IndexFunc_lanes_spot_lanes_spot.body.loops.headD .skip

theorem run_idxS (xs : List Sp) (hlen : xs.length < 2 ^ 62) (H : AH) (lim : Nat) (v f : Value) (p : Sp → Bool) (hv : Sl H v xs.length (sps xs)) (hp : IsCl H f p) :
    apL Tryz.prog pf (.func (.func 125) #[] #[]) [v, f] lim H = some (.int .i64 (idxM p xs), H) := by
  rw [apL_func _ _ _ _ _ _ (by rfl), sf_slices_IndexFunc_lanes_spot_lanes_spot_eq]
  obtain ⟨aa, ac, ev, hd⟩ := hv
  obtain ⟨⟨hn, hu, hcl⟩, hp⟩ := hp
  have hp := fun o lim => hp H (Ext.refl H) o lim
  simp only [spoV] at hp
  simp [-isU, -Value.cells, sf_slices_IndexFunc_lanes_spot_lanes_spot, ev, hn, hu, hcl]
  generalize hS : ({ t := _, L := _, H := _, lim := _, rd := _ } : St) = S
  have key : ∃ r, exL Tryz.prog pf (.loop idxLoopS) S = some r ∧ r.2.H = H ∧ ((r.1 = .exit 0 ∧ idxM p xs = -1) ∨ (r.1 = .ret ∧ tget r.2.t 4 = .int .i64 (idxM p xs))) := by
    refine loop_rule (I := fun n s' => ∃ i, i ≤ xs.length ∧ n = xs.length - i ∧ tget s'.t 0 = .slice aa xs.length ac ∧ tget s'.t 1 = f ∧ tget s'.t 7 = .int .i64 xs.length ∧ tget s'.t 8 = .int .i64 i ∧ s'.H = H ∧ ∀ j (h : j < xs.length), j < i → p xs[j] = false) ?_ xs.length S
      ⟨0, by omega, by omega, by subst hS; simp [ev], by subst hS; simp, by subst hS; simp, by subst hS; simp, by subst hS; rfl, by omega⟩
    rintro n s' ⟨i, hi, rfl, e0, e1, e7, e8, eH, et⟩
    by_cases hlt : i < xs.length
    · obtain ⟨g0, g1, g2⟩ := sps_get hlt
      obtain ⟨b1, o1, rfl, c0⟩ := hd _ _ g0
      obtain ⟨_, _, e, c1⟩ := hd _ _ g1
      cases e
      obtain ⟨_, _, e, c2⟩ := hd _ _ g2
      cases e
      rw [← Nat.add_assoc] at c1 c2
      have hps := fun lim => hp xs[i] lim
      have hw : IntKind.i64.wrap ((i : Int) + 1) = (i : Int) + 1 := wrap_i64 (by omega) (by omega)
      generalize hq : xs[i] = q at *
      simp only [hcell] at c0 c1 c2
      cases hx : p q with
      | true =>
        have hi' := idxM_at p xs hlt et (by rw [hq]; exact hx)
        simp [-isU, -Value.cells, idxLoopS, SC.loops, sf_slices_IndexFunc_lanes_spot_lanes_spot, e0, e1, e7, e8, eH, hlt, c0, c1, c2, hw, hn, hu, hcl, hps, hx, hi']
      | false =>
        simp [-isU, -Value.cells, idxLoopS, SC.loops, sf_slices_IndexFunc_lanes_spot_lanes_spot, e0, e1, e7, e8, eH, hlt, c0, c1, c2, hw, hn, hu, hcl, hps, hx]
        exact ⟨_, by omega, i + 1, by omega, rfl, by omega, fun j h hj => by
          by_cases e : j = i
          · subst e; rw [hq]; exact hx
          · exact et j h (by omega)⟩
    · have : i = xs.length := by omega
      subst this
      have hi' : idxM p xs = -1 := idxM_none p xs fun x hx => by
        obtain ⟨j, h, rfl⟩ := List.mem_iff_getElem.1 hx
        exact et j h h
      simp [-isU, -Value.cells, idxLoopS, SC.loops, sf_slices_IndexFunc_lanes_spot_lanes_spot, e0, e1, e7, e8, eH, hi']
  obtain ⟨⟨e, s1⟩, hr, q2, q3⟩ := key
  simp [-isU, -Value.cells, idxLoopS, SC.loops, sf_slices_IndexFunc_lanes_spot_lanes_spot] at hr
  rw [hr]
  simp only at q2 q3
  rcases q3 with ⟨rfl, h⟩ | ⟨rfl, h⟩
  · simp [h, q2, pf_pure, pureF]
  · simp [h, q2, pf_pure, pureF]

theorem run_anyS (xs : List Sp) (hlen : xs.length < 2 ^ 62) (H : AH) (lim : Nat) (v f : Value) (p : Sp → Bool) (hv : Sl H v xs.length (sps xs)) (hp : IsCl H f p) :
    apL Tryz.prog pf (.func (.func 105) #[] #[]) [v, f] lim H = some (.bool (xs.any p), H) := by
  rw [apL_func _ _ _ _ _ _ (by rfl), sf_slices_ContainsFunc_lanes_spot_lanes_spot_eq]
  have hI := fun lim => run_idxS xs hlen H lim v f p hv hp
  obtain ⟨aa, ac, ev, _⟩ := hv
  obtain ⟨⟨hn, hu, hcl⟩, _⟩ := hp
  rw [← idxM_any]
  rw [ev] at hI
  simp [-isU, -Value.cells, sf_slices_ContainsFunc_lanes_spot_lanes_spot, ev, hn, hu, hcl, hI, pf_pure, pureF]

/-- The bound method: whether a spot clashes with another one. -/
def claF (s : Sp) : Value := .func (.func 80) #[spoV s] #[]
theorem isCl_cla (s : Sp) (H : AH) : IsCl H (claF s) s.cla := by
  refine ⟨⟨by simp [claF, spoV], rfl, rfl⟩, fun H' hH o lim => ?_⟩
  unfold claF
  rw [apL_bnd6 (by rfl) (by rfl)]
  exact run_cla s o lim H'

/-- What clear returns. -/
def clrV (b : Nat) : Value := .func (.func 104) #[] #[.pointer (some ⟨b, 0, none⟩)]

theorem isCl_clr (os : List Sp) (hlen : os.length < 2 ^ 62) (H : AH) (b : Nat) (v : Value) (hb : H[b]? = some (.rw 0 [v])) (hv : Sl H v os.length (sps os)) : IsCl H (clrV b) (fun s => !(os.any s.cla)) := by
  refine ⟨⟨by simp [clrV], rfl, rfl⟩, fun H' hH o lim => ?_⟩
  unfold clrV
  rw [apL_func _ _ _ _ _ _ (by rfl), sf_lanes_run_clear_1_eq]
  have hbx := hH _ _ hb
  have hA := fun lim => run_anyS os hlen H' lim v (claF o) o.cla (hv.ext hH) (isCl_cla o H')
  obtain ⟨aa, ac, rfl, _⟩ := hv
  simp only [claF, spoV] at hA
  simp [sf_lanes_run_clear_1, spoV, hbx, hA, pf_pure, pureF]

/-- A list of spots that is appended to. -/
def OwnSp (n0 : Nat) (A : AH) (v : Value) (l : List Sp) : Prop :=
  (l = [] ∧ v = .slice none 0 0) ∨ (l ≠ [] ∧ ∃ b, n0 ≤ b ∧ v = .slice (some ⟨b, 0, none⟩) l.length (l.length + 1) ∧ A[b]? = some (.rw 3 (sps l)))
theorem OwnSp.sl {n0 : Nat} {A : AH} {v : Value} {l : List Sp} (h : OwnSp n0 A v l) : Sl A v l.length (sps l) := by
  rcases h with ⟨rfl, rfl⟩ | ⟨_, b, _, rfl, hb⟩
  · exact ⟨none, 0, rfl, fun j x hx => by simp [sps] at hx⟩
  · exact ⟨_, _, rfl, fun j x hx => ⟨b, 0, rfl, by simp only [hcell, hb, Nat.zero_add]; exact hx⟩⟩

/-- The spots in a tick of the first k legs at a level. -/
def othM (ls : List Lg) (lv t : Int) (k : Nat) : List Sp := ((ls.take k).filter fun l => l.lv == lv).map fun l => l.sp t
theorem othM_len (ls : List Lg) (lv t : Int) (k : Nat) : (othM ls lv t k).length ≤ k := by
  unfold othM
  rw [List.length_map]
  exact Nat.le_trans (List.length_filter_le _ _) (by simp; omega)
theorem othM_succ {ls : List Lg} (lv t : Int) {k : Nat} (hk : k < ls.length) : othM ls lv t (k + 1) = othM ls lv t k ++ (if ls[k].lv = lv then [ls[k].sp t] else []) := by
  unfold othM
  rw [List.take_succ_eq_append_getElem hk, List.filter_append, List.map_append]
  congr 1
  by_cases h : ls[k].lv = lv <;> simp [h]
theorem oth_free (ls : List Lg) (lv t : Int) (s : Sp) : (!(othM ls lv t ls.length).any s.cla) = freeM ls lv s t := by
  unfold othM freeM
  rw [List.take_length]
  induction ls with
  | nil => rfl
  | cons l ls ih =>
    rw [List.all_cons, ← ih]
    by_cases h : l.lv = lv
    · have h' : (l.lv == lv) = true := by simpa using h
      simp only [List.filter_cons, h', if_true, List.map_cons, List.any_cons, Bool.not_or, Bool.true_and]
    · have h' : (l.lv == lv) = false := by simpa using h
      simp only [List.filter_cons, h', Bool.false_eq_true, if_false, Bool.false_and, Bool.not_false, Bool.true_and]

def clLoop6 : SC := sf_lanes_run_clear.body.loops.headD .skip

set_option maxHeartbeats 2000000 in
theorem cl_loop6 (ls : List Lg) (hn : ls.length ≤ 1000) (hin : LgsIn ls) (H : AH) (rc : List Value) (lv : Int) (hrc : rc[7]? = some (.int .i64 lv)) (va : Option Addr) (vc : Nat) (hv : LgIn H (.slice va ls.length vc) ls) (tick : Int) (ht : -900 ≤ tick ∧ tick ≤ 900) (S : St)
    (e2 : tget S.t 2 = .int .i64 tick) (e3 : tget S.t 3 = .pointer (some ⟨3, 0, some 0⟩)) (e7 : tget S.t 7 = .pointer (some ⟨7, 0, some 0⟩)) (e10 : tget S.t 10 = .slice va ls.length vc) (e11 : tget S.t 11 = .int .i64 ls.length) (e12 : tget S.t 12 = .int .i64 0)
    (hL3 : lget S.L 3 = some (0, .cells rc)) (hL7 : lget S.L 7 = some (0, .cells [.slice none 0 0])) (hH : S.H = H) (hlim : S.lim = H.length) :
    ∃ q, exL Tryz.prog pf (.loop clLoop6) S = some q ∧ q.1 = .exit 0 ∧ q.2.lim = S.lim ∧ tget q.2.t 7 = .pointer (some ⟨7, 0, some 0⟩) ∧ Aft H q.2.H ∧ ∃ ov, OwnSp H.length q.2.H ov (othM ls lv tick ls.length) ∧ lget q.2.L 7 = some (0, .cells [ov]) := by
  refine loop_rule (I := fun n s' => ∃ k ov, k ≤ ls.length ∧ n = ls.length - k ∧ tget s'.t 2 = .int .i64 tick ∧ tget s'.t 3 = .pointer (some ⟨3, 0, some 0⟩) ∧ tget s'.t 7 = .pointer (some ⟨7, 0, some 0⟩) ∧ tget s'.t 10 = .slice va ls.length vc ∧ tget s'.t 11 = .int .i64 ls.length ∧ tget s'.t 12 = .int .i64 k ∧ lget s'.L 3 = some (0, .cells rc) ∧ lget s'.L 7 = some (0, .cells [ov]) ∧ s'.lim = H.length ∧ Aft H s'.H ∧ OwnSp H.length s'.H ov (othM ls lv tick k)) ?_ ls.length S
    ⟨0, _, by omega, by omega, e2, e3, e7, e10, e11, e12, hL3, hL7, hlim, by rw [hH]; exact Aft.refl H, .inl ⟨by simp [othM], rfl⟩⟩
  rintro n s' ⟨k, ov, hk, rfl, f2, f3, f7, f10, f11, f12, fL3, fL7, fl, fA, fO⟩
  obtain ⟨A, hAA⟩ : ∃ A, s'.H = A := ⟨_, rfl⟩
  rw [hAA] at fA fO
  by_cases hlt : k < ls.length
  rotate_left
  · have : k = ls.length := by omega
    subst this
    simp [clLoop6, SC.loops, sf_lanes_run_clear, f2, f3, f7, f10, f11, f12, fL3, fL7, fl, hAA, hlim]
    exact ⟨fA, fO⟩
  have hltI : (k : Int) < (ls.length : Int) := by omega
  have hw : IntKind.i64.wrap ((k : Int) + 1) = ((k + 1 : Nat) : Int) := by rw [wrap_i64 (by omega) (by omega)]; omega
  have hvA := hv.ext fA.ext
  obtain ⟨b1, o1, ac1, xa, xc, e, c0, c1, c2, c3, c4, hsl⟩ := hvA.sl.get hlt
  cases e
  have hmem := List.getElem_mem hlt
  have hsp := fun lim => run_spotIn ls[k] tick ht (hin _ hmem) lim A (.slice xa ls[k].cs.length xc) ⟨hsl, hv.cl _ hmem⟩
  simp only [lgV, spoV] at hsp
  simp only [hcell] at c0 c1 c2 c3 c4
  have hsucc := othM_succ lv tick hlt
  have hlen := othM_len ls lv tick k
  by_cases hlv : ls[k].lv = lv
  rotate_left
  · have hlv' : (ls[k].lv == lv) = false := by simpa using hlv
    rw [if_neg hlv, List.append_nil] at hsucc
    simp [-nextG, -Int.natCast_add, -Array.all_toList, -Array.all_eq_false, -oneC, oneC_slice, oneC_int, oneC_boolW, clLoop6, SC.loops, sf_lanes_run_clear, f2, f3, f7, f10, f11, f12, fL3, fL7, fl, hAA, hlt, hltI, c0, c1, c2, c3, c4, hrc, hlv', hw, hlim, and_assoc]
    exact ⟨_, by omega, k + 1, by omega, rfl, rfl, fA, by rw [hsucc]; exact fO⟩
  have hlv' : (ls[k].lv == lv) = true := by simpa using hlv
  rw [if_pos hlv] at hsucc
  obtain ⟨l, hl⟩ : ∃ l, othM ls lv tick k = l := ⟨_, rfl⟩
  rw [hl] at hlen fO hsucc
  obtain ⟨q, hq⟩ : ∃ q, ls[k].sp tick = q := ⟨_, rfl⟩
  rw [hq] at hsucc hsp
  have happ : sps l ++ [.int .i64 q.now, .int .i64 q.bef, .int .i64 q.rear] = sps (l ++ [q]) := by simp [sps, spC]
  have hm1 : 1 ≤ maxA := by decide
  have hle := fA.le
  rcases fO with ⟨rfl, rfl⟩ | ⟨hne, bb, hb0, rfl, hbA⟩
  · simp [-nextG, -Int.natCast_add, -Array.all_toList, -Array.all_eq_false, -oneC, oneC_slice, oneC_int, oneC_boolW, clLoop6, SC.loops, sf_lanes_run_clear, f2, f3, f7, f10, f11, f12, fL3, fL7, fl, hAA, hlt, hltI, c0, c1, c2, c3, c4, hrc, hlv', hsp, hw, hm1, hlim, and_assoc]
    refine ⟨_, by omega, k + 1, by omega, rfl, rfl, fA.push _, ?_⟩
    rw [hsucc]
    refine .inr ⟨by simp, A.length + 1, by omega, by simp, ?_⟩
    rw [List.getElem?_append_right (by omega), Nat.add_sub_cancel_left]
    simp [sps, spC]
  · have hl0 : ¬ l.length = 0 := by simpa using hne
    have hmx : l.length + 1 ≤ maxA := Nat.le_trans (show _ ≤ 100001 by omega) (by decide)
    have hcA : ∀ L x, cellsAt L (A ++ x) ⟨bb, 0, none⟩ (l.length * 3) = some (sps l) := fun L x => by
      rw [← sps_length]; exact cellsAt_of (sps l) 0 fun m y hy => by simp only [hcell, Nat.zero_add]; rw [List.getElem?_append_left (List.getElem?_eq_some_iff.1 hbA).1, hbA]; exact hy
    have hbX := fun x => own_get hbA x
    have hsX := fun x y => own_set hbA x y
    have hcn : nlL (sps l) = true := nlL_sps l
    have hci := sps_length l
    have hbl : bb < A.length := (List.getElem?_eq_some_iff.1 hbA).1
    generalize hcl2 : sps l = cs at *
    simp [-nextG, -Int.natCast_add, -Array.all_toList, -Array.all_eq_false, -oneC, oneC_slice, oneC_int, oneC_boolW, clLoop6, SC.loops, sf_lanes_run_clear, f2, f3, f7, f10, f11, f12, fL3, fL7, fl, hAA, hlt, hltI, c0, c1, c2, c3, c4, hrc, hlv', hsp, hw, hl0, hne, hmx, hcA, hbX, hsX, hcn, hci, hb0, hlim, and_assoc]
    refine ⟨_, by omega, k + 1, by omega, rfl, rfl, (fA.set hb0 _).push _, ?_⟩
    rw [hsucc]
    refine .inr ⟨by simp, A.length + 1, by omega, by simp, ?_⟩
    rw [List.getElem?_append_right (by simp)]
    simp [happ]

theorem run_clear (c : Ch) (ls : List Lg) (hn : ls.length ≤ 1000) (hin : LgsIn ls) (H : AH) (d t s v : Value) (hd : ∃ a n k, d = .slice a n k) (ht : ∃ a n k, t = .slice a n k) (hs : ∃ a n k, s = .slice a n k) (hvv : ∃ a n k, v = .slice a n k) (p : Tp) (bs : Value) (hb : ∃ b n k, bs = .slice (some ⟨b, 0, none⟩) n k) (w : Value) (hw : LgIn H w ls) (tick : Int) (htk : -900 ≤ tick ∧ tick ≤ 900) :
    ∃ b A, (∀ lim, apL Tryz.prog pf (.func (.func 70) #[] #[]) [rnV c d t s v p bs, w, .int .i64 tick] lim H = some (clrV b, A)) ∧ Aft H A ∧ IsCl A (clrV b) (fun x => freeM ls p.lv x tick) := by
  obtain ⟨wa, wc, rfl⟩ := hw.sl.one
  obtain ⟨da, dn, dc, rfl⟩ := hd
  obtain ⟨ta, tn, tc, rfl⟩ := ht
  obtain ⟨sa, sn, sc, rfl⟩ := hs
  obtain ⟨va, vn, vc, rfl⟩ := hvv
  obtain ⟨bb, bn, bc, rfl⟩ := hb
  have hal := cl_loop6 ls hn hin H (rnC c (.slice da dn dc) (.slice ta tn tc) (.slice sa sn sc) (.slice va vn vc) p (.slice (some ⟨bb, 0, none⟩) bn bc)) p.lv rfl wa wc hw tick htk
  suffices key : ∀ lim, ∃ b A, apL Tryz.prog pf (.func (.func 70) #[] #[]) [rnV c (.slice da dn dc) (.slice ta tn tc) (.slice sa sn sc) (.slice va vn vc) p (.slice (some ⟨bb, 0, none⟩) bn bc), .slice wa ls.length wc, .int .i64 tick] lim H = some (clrV b, A) ∧ Aft H A ∧ IsCl A (clrV b) (fun x => freeM ls p.lv x tick) by
    obtain ⟨r, A, h1, h2⟩ := key 0
    refine ⟨r, A, fun lim => ?_, h2⟩
    rw [← h1, apL_func _ _ _ _ _ _ (by rfl), apL_func _ _ _ _ _ _ (by rfl)]
    simp only [pf_pure, show pureF 70 = true from rfl, if_true]
  intro lim
  rw [apL_func _ _ _ _ _ _ (by rfl), sf_lanes_run_clear_eq]
  simp [-oneC, -Array.all_eq_false, -Array.all_toList, oneC_slice, oneC_int, oneC_boolW, sf_lanes_run_clear, rnV, pf_pure, pureF]
  generalize hS : ({ t := _, L := _, H := _, lim := _, rd := _ } : St) = S
  obtain ⟨⟨e, s1⟩, hr, g1, g2, g7, gA, ov, gO, gL⟩ := hal S (by subst hS; simp) (by subst hS; simp) (by subst hS; simp) (by subst hS; simp) (by subst hS; simp) (by subst hS; simp) (by subst hS; simp [rnC]) (by subst hS; simp) (by subst hS; rfl) (by subst hS; rfl)
  simp [clLoop6, SC.loops, sf_lanes_run_clear] at hr
  rw [hr]
  simp only at g1 g2 g7 gA gO gL
  subst g1
  have hos := gO.sl
  have hlen := othM_len ls p.lv tick ls.length
  obtain ⟨oa, oc, eo, _⟩ := id hos
  refine ⟨s1.H.length, s1.H ++ [.rw 0 [ov]], ?_, gA.push _, ?_⟩
  · subst eo
    simp [g7, gL, clrV]
  · have := isCl_clr (othM ls p.lv tick ls.length) (by omega) (s1.H ++ [.rw 0 [ov]]) s1.H.length ov (by simp) (hos.ext (Ext.push _ _))
    have e : (fun x : Sp => !((othM ls p.lv tick ls.length).any x.cla)) = fun x => freeM ls p.lv x tick := by
      funext x
      exact oth_free ls p.lv tick x
    rw [e] at this
    exact this
end Go.Proofs.YthobfecblpnnnaaGreatDoor

/- Contracts of layer 6, the program: the first row, and what asks for the next one. -/
set_option linter.all false
namespace Go.Proofs.YthobfecblpnnnaaGreatDoor
open Go Go.RowKit

theorem run_none6 (c : Ch) (hok : ChOk c) (H : AH) (d t s v : Value) (hd : ∃ a n k, d = .slice a n k) (ht : ∃ a n k, t = .slice a n k) (hs : ∃ a n k, s = .slice a n k) (hv : ∃ a n k, v = .slice a n k) (p : Tp) (b k : Nat) (lim : Nat) :
    apL Tryz.prog pf (.func (.func 101) #[] #[]) [rnV c d t s v p (.slice (some ⟨b, 0, none⟩) c.cells k)] lim H = some (.slice (some ⟨H.length + 1, 0, none⟩) c.cells c.cells, H ++ [.rw 1 [.int .i64 (-1)], .rw 1 (ints (List.replicate c.cells (-1)))]) := by
  obtain ⟨da, dn, dc, rfl⟩ := hd
  obtain ⟨ta, tn, tc, rfl⟩ := ht
  obtain ⟨sa, sn, sc, rfl⟩ := hs
  obtain ⟨va, vn, vc, rfl⟩ := hv
  have hm := hok.mul
  have h1 := hok.1.1
  have h2 := hok.2.1.1
  have h4 : 0 < c.w * c.h := Int.mul_pos (by omega) (by omega)
  have hR := fun lim => run_Repeat c.cells (by omega) (by omega) lim (H ++ [.rw 1 [.int .i64 (-1)]]) H.length (by simp)
  simp only [List.length_append, List.length_cons, List.length_nil, List.append_assoc, List.cons_append, List.nil_append] at hR
  rw [apL_func _ _ _ _ _ _ (by rfl), sf_lanes_run_none_eq]
  simp [sf_lanes_run_none, rnV, hR, pf_pure, pureF]

/-- The first row of a trip. -/
theorem run_first6 (c : Ch) (hok : ChOk c) (ls : List Lg) (H : AH) (d t s : Value) (hc : ChIn H c d t s) (va : Option Addr) (vn vc : Nat) (p : Tp) (hp : tpOk c p = true) (b k : Nat) (fb : Nat) (hf : IsCl H (clrV fb) (fun x => freeM ls p.lv x p.t0)) :
    ∃ r A, (∀ lim, apL Tryz.prog pf (.func (.func 69) #[] #[]) [rnV c d t s (.slice va vn vc) p (.slice (some ⟨b, 0, none⟩) c.cells k), clrV fb] lim H = some (r, A)) ∧ Aft H A ∧ RowB H.length A r (wyM c ls p).row0 := by
  have hm := hok.mul
  simp only [tpOk, Bool.and_eq_true] at hp
  obtain ⟨⟨⟨hu, h0⟩, hfr⟩, hto⟩ := hp
  obtain ⟨n0, hn0, e0⟩ := inN_iff.1 h0
  obtain ⟨nf, hnf, ef⟩ := inN_iff.1 hfr
  have hNo := fun lim => run_none6 c hok H d t s (.slice va vn vc) (by obtain ⟨⟨da, dc, ed, _⟩, _⟩ := hc; exact ⟨_, _, _, ed⟩) (by obtain ⟨_, ⟨da, dc, ed, _⟩, _⟩ := hc; exact ⟨_, _, _, ed⟩) (by obtain ⟨_, _, ⟨da, dc, ed, _⟩, _⟩ := hc; exact ⟨_, _, _, ed⟩) ⟨_, _, _, rfl⟩ p b k lim
  obtain ⟨H1, hH1⟩ : ∃ H1, H1 = H ++ [ABlk.rw 1 [.int .i64 (-1)], .rw 1 (ints (List.replicate c.cells (-1)))] := ⟨_, rfl⟩
  rw [← hH1] at hNo
  have hE : Ext H H1 := by rw [hH1]; exact Ext.push H _
  have hA1 : Aft H H1 := by rw [hH1]; exact (Aft.refl H).push _
  have hH1b : H1[H.length + 1]? = some (.rw 1 (ints (List.replicate c.cells (-1)))) := by rw [hH1, List.getElem?_append_right (by omega), Nat.add_sub_cancel_left]; rfl
  have hhold := fun lim => run_holds c hok p.lv p.dr hu hnf hn0 lim H1 d t s (hc.ext hE) va vn vc
  have hspo := fun lim => run_spotOf p.fr (-1) p.tl lim H1
  obtain ⟨⟨fn, fu, fc⟩, hf⟩ := hf
  have hfv := fun lim => hf H1 hE (spOf p.fr (-1) p.tl) lim
  rw [← e0, ← ef] at hhold
  obtain ⟨⟨da, dc, ed, _⟩, ⟨ta, tc, et, _⟩, ⟨sa, sc, es, _⟩, _, _, _⟩ := id hc
  simp only [rnV, trV, ed, et, es] at hNo hhold
  simp only [spoV, clrV] at hspo hfv
  have hok0 : (wyM c ls p).ok0 = (freeM ls p.lv (spOf p.fr (-1) p.tl) p.t0 && c.can p.lv p.dr nf n0) := by
    show (freeM ls p.lv (spOf p.fr (-1) p.tl) p.t0 && c.can p.lv p.dr p.fr.toNat p.t0.toNat) = _
    rw [show p.fr.toNat = nf by omega, show p.t0.toNat = n0 by omega]
  have hrow : (wyM c ls p).row0 = (List.replicate c.cells (-1)).set nf (if (wyM c ls p).ok0 then (nf : Int) else -1) := by
    show (List.replicate c.cells (-1)).set p.fr.toNat (if (wyM c ls p).ok0 then ((p.fr.toNat : Nat) : Int) else -1) = _
    rw [show p.fr.toNat = nf by omega]
  suffices key : ∀ lim, ∃ r A, apL Tryz.prog pf (.func (.func 69) #[] #[]) [rnV c d t s (.slice va vn vc) p (.slice (some ⟨b, 0, none⟩) c.cells k), clrV fb] lim H = some (r, A) ∧ Aft H A ∧ RowB H.length A r (wyM c ls p).row0 by
    obtain ⟨r, A, h1, h2⟩ := key 0
    refine ⟨r, A, fun lim => ?_, h2⟩
    rw [← h1, apL_func _ _ _ _ _ _ (by rfl), apL_func _ _ _ _ _ _ (by rfl)]
    simp only [pf_pure, show pureF 69 = true from rfl, if_true]
  intro lim
  rw [apL_func _ _ _ _ _ _ (by rfl), sf_lanes_run_first_eq]
  have hset : (ints (List.replicate c.cells (-1))).set nf (.int .i64 nf) = ints ((List.replicate c.cells (-1)).set nf (nf : Int)) := by simp [ints, List.map_set]
  have hl : (ints (List.replicate c.cells (-1))).length = c.cells := by simp [ints]
  have hnfI : (nf : Int) < (c.cells : Int) := by omega
  have hn1 : nf + 1 ≤ c.cells := by omega
  have hlx : H.length ≤ H.length + 1 := by omega
  generalize hz : ints (List.replicate c.cells (-1)) = zz at *
  have hsame : (List.replicate c.cells (-1 : Int)).set nf (-1) = List.replicate c.cells (-1) := by
    refine List.ext_getElem (by simp) fun i h1 h2 => ?_
    rw [List.getElem_set]
    split <;> simp
  cases a1 : freeM ls p.lv (spOf p.fr (-1) p.tl) p.t0 with
  | false =>
    rw [a1] at hfv hok0
    simp only [Bool.false_and] at hok0
    refine ⟨.slice (some ⟨H.length + 1, 0, none⟩) c.cells c.cells, H1, ?_, hA1, ?_⟩
    · simp [sf_lanes_run_first, rnV, clrV, ed, et, es, hNo, hspo, hfv, pf_pure, pureF]
    · rw [hrow, hok0]
      simp only [Bool.false_eq_true, if_false]
      rw [hsame]
      exact ⟨H.length + 1, by omega, by simp, by rw [hz]; exact hH1b⟩
  | true =>
    rw [a1] at hfv hok0
    simp only [Bool.true_and] at hok0
    cases a2 : c.can p.lv p.dr nf n0 with
    | false =>
      rw [a2] at hhold hok0
      refine ⟨.slice (some ⟨H.length + 1, 0, none⟩) c.cells c.cells, H1, ?_, hA1, ?_⟩
      · simp [sf_lanes_run_first, rnV, clrV, ed, et, es, hNo, hspo, hfv, hhold, pf_pure, pureF]
      · rw [hrow, hok0]
        simp only [Bool.false_eq_true, if_false]
        rw [hsame]
        exact ⟨H.length + 1, by omega, by simp, by rw [hz]; exact hH1b⟩
    | true =>
      rw [a2] at hhold hok0
      refine ⟨.slice (some ⟨H.length + 1, 0, none⟩) c.cells c.cells, H1.set (H.length + 1) (.rw 1 (zz.set nf (.int .i64 nf))), ?_, hA1.set hlx _, ?_⟩
      · simp only [ef] at hNo hspo hfv hhold
        simp [sf_lanes_run_first, rnV, clrV, ed, et, es, hNo, hspo, hfv, hhold, ef, hnf, hnfI, hn1, hH1b, hl, pf_pure, pureF]
      · rw [hrow, hok0]
        simp only [if_true]
        refine ⟨H.length + 1, by omega, by simp, ?_⟩
        rw [List.getElem?_set_self (by rw [hH1]; simp), hset]
end Go.Proofs.YthobfecblpnnnaaGreatDoor

/- Contracts of layer 6, the program: the next row. -/
set_option linter.all false
namespace Go.Proofs.YthobfecblpnnnaaGreatDoor
open Go Go.RowKit

theorem isU_iW (k : IntKind) (n : Int) : isU (.int k n) = false := rfl
theorem cells_iW (k : IntKind) (n : Int) : (Value.int k n).cells = #[.int k n] := rfl

def idxLoopI : SC := sf_slices_IndexFunc_int_int.body.loops.headD .skip

/-- The first of some numbers of which a function value says yes. -/
theorem run_idxI (xs : List Int) (hlen : xs.length < 2 ^ 62) (H : AH) (lim : Nat) (v f : Value) (hnl : nl f = true ∧ isU f = false ∧ f.cells = #[f]) (p : Int → Bool) (hv : Sl H v xs.length (ints xs)) (hp : ∀ x ∈ xs, ∀ lim, apL Tryz.prog pf f [.int .i64 x] lim H = some (.bool (p x), H)) :
    apL Tryz.prog pf (.func (.func 106) #[] #[]) [v, f] lim H = some (.int .i64 (idxM p xs), H) := by
  rw [apL_func _ _ _ _ _ _ (by rfl), sf_slices_IndexFunc_int_int_eq]
  obtain ⟨aa, ac, ev, hd⟩ := hv
  obtain ⟨hn, hu, hcl⟩ := hnl
  simp [-isU, -Value.cells, sf_slices_IndexFunc_int_int, ev, hn, hu, hcl]
  generalize hS : ({ t := _, L := _, H := _, lim := _, rd := _ } : St) = S
  have key : ∃ r, exL Tryz.prog pf (.loop idxLoopI) S = some r ∧ r.2.H = H ∧ ((r.1 = .exit 0 ∧ idxM p xs = -1) ∨ (r.1 = .ret ∧ tget r.2.t 4 = .int .i64 (idxM p xs))) := by
    refine loop_rule (I := fun n s' => ∃ i, i ≤ xs.length ∧ n = xs.length - i ∧ tget s'.t 0 = .slice aa xs.length ac ∧ tget s'.t 1 = f ∧ tget s'.t 7 = .int .i64 xs.length ∧ tget s'.t 8 = .int .i64 i ∧ s'.H = H ∧ ∀ j (h : j < xs.length), j < i → p xs[j] = false) ?_ xs.length S
      ⟨0, by omega, by omega, by subst hS; simp [ev], by subst hS; simp, by subst hS; simp, by subst hS; simp, by subst hS; rfl, by omega⟩
    rintro n s' ⟨i, hi, rfl, e0, e1, e7, e8, eH, et⟩
    by_cases hlt : i < xs.length
    · obtain ⟨b1, o1, rfl, c0⟩ := hd i (.int .i64 xs[i]) (by simp [ints, hlt])
      have hps := fun lim => hp xs[i] (List.getElem_mem hlt) lim
      have hw : IntKind.i64.wrap ((i : Int) + 1) = (i : Int) + 1 := wrap_i64 (by omega) (by omega)
      generalize hq : xs[i] = q at *
      simp only [hcell] at c0
      cases hx : p q with
      | true =>
        have hi' := idxM_at p xs hlt et (by rw [hq]; exact hx)
        simp [-isU, -Value.cells, isU_iW, cells_iW, idxLoopI, SC.loops, sf_slices_IndexFunc_int_int, e0, e1, e7, e8, eH, hlt, c0, hw, hn, hu, hcl, hps, hx, hi']
      | false =>
        simp [-isU, -Value.cells, isU_iW, cells_iW, idxLoopI, SC.loops, sf_slices_IndexFunc_int_int, e0, e1, e7, e8, eH, hlt, c0, hw, hn, hu, hcl, hps, hx]
        exact ⟨_, by omega, i + 1, by omega, rfl, by omega, fun j h hj => by
          by_cases e : j = i
          · subst e; rw [hq]; exact hx
          · exact et j h (by omega)⟩
    · have : i = xs.length := by omega
      subst this
      have hi' : idxM p xs = -1 := idxM_none p xs fun x hx => by
        obtain ⟨j, h, rfl⟩ := List.mem_iff_getElem.1 hx
        exact et j h h
      simp [-isU, -Value.cells, idxLoopI, SC.loops, sf_slices_IndexFunc_int_int, e0, e1, e7, e8, eH, hi']
  obtain ⟨⟨e, s1⟩, hr, q2, q3⟩ := key
  simp [-isU, -Value.cells, idxLoopI, SC.loops, sf_slices_IndexFunc_int_int] at hr
  rw [hr]
  simp only at q2 q3
  rcases q3 with ⟨rfl, h⟩ | ⟨rfl, h⟩
  · simp [h, q2, pf_pure, pureF]
  · simp [h, q2, pf_pure, pureF]

/-- The function value that asks whether one can come from a cell. -/
def askV (b5 b7 b10 b4 : Nat) : Value := .func (.func 107) #[] #[.pointer (some ⟨b5, 0, none⟩), .pointer (some ⟨b7, 0, none⟩), .pointer (some ⟨b10, 0, none⟩), .pointer (some ⟨b4, 0, none⟩)]

theorem run_ask (c : Ch) (d t s v bs : Value) (p : Tp) (H : AH) (b5 b7 b10 b4 : Nat) (row : List Int) (hlen : row.length = c.cells) (rv : Value) (hrv : Sl H rv row.length (ints row)) (fb : Nat) (q : Sp → Bool) (hf : IsCl H (clrV fb) q) (i : Nat)
    (h5 : H[b5]? = some (.rw 0 [rv])) (h7 : H[b7]? = some (.rw 0 [clrV fb])) (h10 : H[b10]? = some (.rw 0 [.int .i64 i])) (h4 : H[b4]? = some (.rw 0 (rnC c d t s v p bs))) {x : Nat} (hx : x < c.cells) (lim : Nat) :
    apL Tryz.prog pf (askV b5 b7 b10 b4) [.int .i64 x] lim H = some (.bool (row.getD x (-1) != -1 && q (spOf i x p.tl)), H) := by
  unfold askV
  rw [apL_func _ _ _ _ _ _ (by rfl), sf_lanes_run_after_1_eq]
  obtain ⟨ra, rc, rfl, hd⟩ := hrv
  obtain ⟨b, o, rfl, c0⟩ := hd x (.int .i64 (row.getD x (-1))) (by simp [ints, show x < row.length by omega])
  have hxI : (x : Int) < (row.length : Int) := by omega
  have hxl : x < row.length := by omega
  have hsp := fun lim => run_spotOf i x p.tl lim H
  obtain ⟨_, hf⟩ := hf
  have hq := fun lim => hf H (Ext.refl H) (spOf i x p.tl) lim
  simp only [spoV, clrV] at hsp hq h7
  simp only [hcell] at c0
  simp only [rnC] at h4
  cases a1 : (row.getD x (-1) != -1) with
  | false =>
    generalize row.getD x (-1) = y at *
    simp [sf_lanes_run_after_1, h5, h7, h10, h4, c0, hxI, hxl, a1, pf_pure, pureF]
  | true =>
    generalize row.getD x (-1) = y at *
    simp [sf_lanes_run_after_1, h5, h7, h10, h4, c0, hxI, hxl, a1, hsp, hq, pf_pure, pureF]
end Go.Proofs.YthobfecblpnnnaaGreatDoor
