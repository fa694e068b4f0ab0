import Derived.Test.YthobfecblpnnnaaGreatDoorRouF
import Derived.Test.YthobfecblpnnnaaGreatDoorLanQ
import Derived.Test.YthobfecblpnnnaaGreatDoorTlLanesApart
import Derived.Test.YthobfecblpnnnaaGreatDoorDataT

/- Layer 6: the law LanesApart. -/
set_option linter.all false
namespace Go.Proofs.YthobfecblpnnnaaGreatDoor
open Go Go.RowKit

theorem firstC_none2 {T : Nat} {a b : Lg} (h : ∀ m, m < T → claM a b (m : Int) = false) : firstC T a b = none := by
  unfold firstC
  rw [List.find?_eq_none]
  intro m hm
  rw [h m (List.mem_range.1 hm)]
  simp

theorem pairC_snoc {T : Nat} {ls : List Lg} {l : Lg} {i k : Nat} (hi : i < ls.length) (hk : k < ls.length) : pairC T (ls ++ [l]) i k = pairC T ls i k := by
  unfold pairC
  rw [List.getElem?_append_left hi, List.getElem?_append_left hk]
theorem pairC_last {T : Nat} {ls : List Lg} {l : Lg} {i : Nat} (hi : i < ls.length) (h : ∀ a ∈ ls, ∀ k, k < T → claM a l (k : Int) = false) : pairC T (ls ++ [l]) i ls.length = [] := by
  unfold pairC
  rw [List.getElem?_append_left hi, List.getElem?_append_right (Nat.le_refl _), List.getElem?_eq_getElem hi, Nat.sub_self]
  simp only [List.getElem?_cons_zero]
  rw [firstC_none2 (h _ (List.getElem_mem hi))]
theorem clK_snoc {T : Nat} {ls : List Lg} {l : Lg} {i : Nat} (hi : i < ls.length) : ∀ k, k ≤ ls.length → clK T (ls ++ [l]) i k = clK T ls i k
  | 0, _ => rfl
  | k + 1, hk => by
    simp only [clK]
    rw [clK_snoc hi k (by omega), pairC_snoc hi (by omega)]
theorem clI_snoc {T : Nat} {ls : List Lg} {l : Lg} (h : ∀ a ∈ ls, ∀ k, k < T → claM a l (k : Int) = false) : ∀ i, i ≤ ls.length → clI T (ls ++ [l]) i = clI T ls i
  | 0, _ => rfl
  | i + 1, hi => by
    simp only [clI]
    rw [clI_snoc h i (by omega)]
    congr 1
    rw [List.length_append, List.length_singleton]
    simp only [clK]
    rw [clK_snoc (by omega) _ (Nat.le_refl _), pairC_last (by omega) h]
    simp
/-- A leg that clashes with none changes nothing. -/
theorem clashesM_snoc {T : Nat} {ls : List Lg} {l : Lg} (h : ∀ a ∈ ls, ∀ k, k < T → claM a l (k : Int) = false) : clashesM T (ls ++ [l]) = clashesM T ls := by
  unfold clashesM
  rw [List.length_append, List.length_singleton]
  simp only [clI]
  rw [clI_snoc h _ (Nat.le_refl _), List.length_append, List.length_singleton, clK_le _ _ _ _ (Nat.le_refl _), List.append_nil]

theorem run_ClashesL (c : Ch) (ls : List Lg) (H : AH) (d t s v : Value) (hc : ChIn H c d t s) (hv : LgIn H v ls) :
    ∃ r A, (∀ lim, apL Tryz.prog pf (.func (.func 18) #[] #[]) [chV c d t s, v] lim H = some (.tuple #[r, .int .i64 (legE c ls)], A)) ∧ Aft H A ∧ OwnW H.length A r (lclS c ls) := by
  obtain ⟨r, A, h1, h2⟩ := run_Clashes c ls H d t s v hc hv 0
  refine ⟨r, A, fun lim => ?_, h2⟩
  rw [← h1, apL_func _ _ _ _ _ _ (by rfl), apL_func _ _ _ _ _ _ (by rfl)]
  simp only [pf_pure, show pureF 18 = true from rfl, if_true]

def apLoop6 : SC := sf_coblelaw06_LanesApart.body.loops.headD .skip

theorem ap_loop6 (xs : List (Nat × Nat × Nat)) (hlen : xs.length ≤ 100000) (H : AH) (a b : Value) (ha : Sl H a xs.length (trips xs)) (hb : Sl H b xs.length (trips xs)) (S : St) (e9 : tget S.t 9 = a) (e11 : tget S.t 11 = b) (e13 : tget S.t 13 = .int .i64 0) (hH : S.H = H) :
    ∃ q, exL Tryz.prog pf (.loop apLoop6) S = some q ∧ q.1 = .exit 0 ∧ q.2.H = H := by
  obtain ⟨aa, ac, rfl, ad⟩ := ha
  obtain ⟨ba, bc, rfl, bd⟩ := hb
  refine loop_rule (I := fun n s' => ∃ i, i ≤ xs.length ∧ n = xs.length - i ∧ tget s'.t 9 = .slice aa xs.length ac ∧ tget s'.t 11 = .slice ba xs.length bc ∧ tget s'.t 13 = .int .i64 i ∧ s'.H = H) ?_ xs.length S
    ⟨0, by omega, by omega, e9, e11, e13, hH⟩
  rintro n s' ⟨i, hi, rfl, f9, f11, f13, fH⟩
  by_cases hlt : i < xs.length
  rotate_left
  · have : i = xs.length := by omega
    subst this
    simp [apLoop6, SC.loops, sf_coblelaw06_LanesApart, f9, f11, f13, fH]
  have hltI : (i : Int) < (xs.length : Int) := by omega
  have hw : IntKind.i64.wrap ((i : Int) + 1) = (i : Int) + 1 := wrap_i64 (by omega) (by omega)
  obtain ⟨g0, g1, g2⟩ := trips_get hlt
  obtain ⟨b1, o1, rfl, c0⟩ := ad _ _ g0
  obtain ⟨_, _, e, c1⟩ := ad _ _ g1
  cases e
  obtain ⟨_, _, e, c2⟩ := ad _ _ g2
  cases e
  obtain ⟨b2, o2, rfl, d0⟩ := bd _ _ g0
  obtain ⟨_, _, e, d1⟩ := bd _ _ g1
  cases e
  obtain ⟨_, _, e, d2⟩ := bd _ _ g2
  cases e
  rw [← Nat.add_assoc] at c1 c2 d1 d2
  simp only [hcell] at c0 c1 c2 d0 d1 d2
  simp [apLoop6, SC.loops, sf_coblelaw06_LanesApart, f9, f11, f13, fH, hlt, hltI, c0, c1, c2, d0, d1, d2, hw]
  exact ⟨_, by omega, i + 1, by omega, rfl, by omega⟩

set_option maxHeartbeats 4000000 in
theorem apart_law (c : Ch) (ls : List Lg) (hn : ls.length < 2 ^ 63) (p : Tp) (lim : Nat) (H : AH) (hH : noLp H = true) (hG : H[waysG]? = some (.ro waysV)) (d t s v : Value) (hs : ChSl H c d t s) (hv : LgSl H v ls) :
    ∃ H', apL Tryz.prog pf (.func (.func 3) #[] #[]) [chV c d t s, v, tpV p] lim H = some (.bool true, H') := by
  refine ⟨H, ?_⟩
  rw [apL_func _ _ _ _ _ _ (by rfl), sf_coblelaw06_LanesApart_eq]
  have hV := fun lim => run_valid6 c ls hn lim H d t s v hs hv
  have hW := fun lim => run_works6 lim H hG
  obtain ⟨va, vc, ev⟩ := hv.one
  obtain ⟨⟨da, dc, ed, _⟩, ⟨ta, tc, et, _⟩, ⟨sa, sc, es, _⟩⟩ := id hs
  cases a1 : valid6 c ls with
  | false =>
    rw [a1] at hV
    simp only [chV, ed, et, es, ev] at hV
    simp [sf_coblelaw06_LanesApart, chV, tpV, ed, et, es, ev, hV, hW, pf_pure, pureF]
  | true =>
  rw [a1] at hV
  obtain ⟨v1, v2, v3, v4⟩ := valid6_iff.1 a1
  obtain ⟨hok, hl12, hall⟩ := legE_zero.1 v4
  have hc : ChIn H c d t s := Far6.in hs v1
  have hv' : LgIn H v ls := FarL.in hv v2
  have hin := lgsIn_of hok hall
  have hnn := lgsNn_of hall
  have hT := fun lim => run_IsTrip6 c hok p lim H d t s hc
  simp only [chV, tpV, ed, et, es, ev] at hV hT
  cases a2 : tpOk c p with
  | false =>
    rw [a2] at hT
    simp [sf_coblelaw06_LanesApart, chV, tpV, ed, et, es, ev, hV, hT, hW, pf_pure, pureF]
  | true =>
  rw [a2] at hT
  obtain ⟨r, A, r1, g1, g2⟩ := run_Route_ok c ls p H hH hG d t s v hc hv' v4 a2
  cases hro : routeM c ls p with
  | none =>
    rw [hro] at g2
    obtain ⟨rfl, rfl⟩ := g2
    simp only [chV, tpV, ed, et, es, ev] at r1
    simp [sf_coblelaw06_LanesApart, chV, tpV, ed, et, es, ev, hV, hT, r1, hW, pf_pure, pureF]
  | some ns =>
  rw [hro] at g2
  obtain ⟨r0, rfl, b, hb, rfl, hbA⟩ := g2
  obtain ⟨m1, m2⟩ := routeM_some a2 hro
  have hnl : (ns.map Int.ofNat).length = ns.length := by simp
  have hTk : c.tide.length ≤ 60 := hok.2.2.2.1.2
  obtain ⟨mp, mn, mt0, mt1⟩ := lgOk_pos m1.ok
  have hnsl : ns.length ≤ 60 := by
    have h1 : (p.leg (ns.map Int.ofNat)).t0 + (p.leg (ns.map Int.ofNat)).cs.length ≤ (c.tide.length : Nat) := mt1
    have h2 : (p.leg (ns.map Int.ofNat)).cs.length = ns.length := hnl
    omega
  obtain ⟨leg, hleg⟩ : ∃ leg, leg = p.leg (ns.map Int.ofNat) := ⟨_, rfl⟩
  have hsl : Sl A (.slice (some ⟨b, 0, none⟩) (ns.map Int.ofNat).length (ns.map Int.ofNat).length) (ns.map Int.ofNat).length (ints (ns.map Int.ofNat)) := Sl.made hbA rfl
  have hI2 := fun lim => run_isRoute6 c hok ls hin hnn p (ns.map Int.ofNat) A d t s v _ (hc.ext g1.ext) (hv'.ext g1.ext) hsl (by simp; omega) lim
  have hrb : rtB c ls p (ns.map Int.ofNat) = true := rtB_iff.2 ⟨by simp; omega, m1⟩
  rw [hrb] at hI2
  rw [hnl] at hI2 r1
  -- the clashes of the legs
  obtain ⟨ra, A1, k1, q1, w1⟩ := run_ClashesL c ls A d t s v (hc.ext g1.ext) (hv'.ext g1.ext)
  have hlc : lclS c ls = clashesM c.tide.length ls := by unfold lclS; rw [if_pos v4]
  rw [hlc] at w1
  rw [v4] at k1
  have hE1 := g1.trans q1
  have hFar : ∀ l ∈ ls, l.cs.length ≤ 80 := fun l hl => by
    simp only [FarL, Bool.or_eq_false_iff, List.any_eq_false, decide_eq_true_eq] at v2
    have := v2.1.1 l hl
    omega
  obtain ⟨rc, A2, k2, q2, w2⟩ := run_Copy6 ls (by omega) (fun l hl => by have := hFar l hl; omega) A1 v (hv'.ext hE1.ext)
  have hLO := fun lim => run_LegOf p (ns.map Int.ofNat) (some ⟨b, 0, none⟩) ns.length ns.length lim A2
  have hE2 := hE1.trans q2
  have hrow : RowL A2 (.slice (some ⟨b, 0, none⟩) ns.length ns.length) leg := ⟨b, ns.length, by rw [hleg]; show _ = Value.slice _ (ns.map Int.ofNat).length _; rw [hnl], by rw [hleg]; exact (q1.trans q2).ext _ _ hbA⟩
  have hpush := w2.push q2.le (Aft.refl A2) hrow
  have hls' : (ls ++ [leg]).all (lgOk c) = true := by
    rw [List.all_append, hall]
    simp [hleg, m1.ok]
  have hlen' : (ls ++ [leg]).length = ls.length + 1 := by simp
  have v4' : legE c (ls ++ [leg]) = 0 := legE_zero.2 ⟨hok, by omega, hls'⟩
  have hfree : ∀ a ∈ ls, ∀ k, k < c.tide.length → claM a leg (k : Int) = false := fun a ha k hk => by
    rw [claM_comm, hleg]
    exact m1.free a ha k hk
  have hlc' : lclS c (ls ++ [leg]) = clashesM c.tide.length ls := by unfold lclS; rw [if_pos v4', clashesM_snoc hfree]
  have hcs' : ∀ l ∈ ls ++ [leg], l.cs.length < 2 ^ 62 := fun l hl => by
    rw [List.mem_append] at hl
    rcases hl with hl | hl
    · have := hFar l hl; omega
    · simp at hl
      rw [hl, hleg]
      show (ns.map Int.ofNat).length < 2 ^ 62
      rw [hnl]
      omega
  have hcl2 : ∀ A3 x, Aft H A3 → LgO A1.length A3 x (ls ++ [leg]) → ∃ rb A4, (∀ lim, apL Tryz.prog pf (.func (.func 18) #[] #[]) [chV c d t s, x] lim A3 = some (.tuple #[rb, .int .i64 0], A4)) ∧ Aft A3 A4 ∧ OwnW A3.length A4 rb (clashesM c.tide.length ls) := fun A3 x hA3 hO => by
    obtain ⟨rb, A4, z1, z2, z3⟩ := run_ClashesL c (ls ++ [leg]) A3 d t s x (hc.ext hA3.ext) ⟨hO.sl, hcs', by omega⟩
    rw [v4'] at z1
    rw [hlc'] at z3
    exact ⟨rb, A4, z1, z2, z3⟩
  have hm1 : 1 ≤ maxA := by decide
  have hclen : (clashesM c.tide.length ls).length ≤ 100000 := by
    have h1 := clI_len c.tide.length ls ls.length
    have h2 : ls.length * ls.length ≤ 5 * 5 := Nat.mul_le_mul v3 v3
    show (clI c.tide.length ls ls.length).length ≤ 100000
    omega
  obtain ⟨xs, hxs⟩ : ∃ xs, clashesM c.tide.length ls = xs := ⟨_, rfl⟩
  rw [hxs] at w1 hcl2 hclen
  have s1 := w1.sl
  obtain ⟨wa, wc, ew⟩ := w1.one
  simp only [chV, tpV, ed, et, es, ev] at r1 hI2 k1 k2 hcl2 hLO
  have hvals : leg.vals (.slice (some ⟨b, 0, none⟩) ns.length ns.length) = [.int .i64 p.t0, .int .i64 p.lv, .int .i64 p.dr, .bool p.tl, .slice (some ⟨b, 0, none⟩) ns.length ns.length] := by rw [hleg]; rfl
  have hlgv : lgV (p.leg (ns.map Int.ofNat)) (.slice (some ⟨b, 0, none⟩) ns.length ns.length) = .agg #[.int .i64 p.t0, .int .i64 p.lv, .int .i64 p.dr, .bool p.tl, .slice (some ⟨b, 0, none⟩) ns.length ns.length] := rfl
  rw [hlgv] at hLO
  rw [hvals] at hpush
  rw [ew] at k1 s1
  rcases hpush with ⟨hls0, e2, hO⟩ | ⟨bb, ss, hb2, hne, hssl, e2, hbA2, hnlv, hO⟩
  · have a3 : Aft H (A2 ++ [ABlk.rw 5 [.int .i64 p.t0, .int .i64 p.lv, .int .i64 p.dr, .bool p.tl, .slice (some ⟨b, 0, none⟩) ns.length ns.length], .rw 5 [.int .i64 p.t0, .int .i64 p.lv, .int .i64 p.dr, .bool p.tl, .slice (some ⟨b, 0, none⟩) ns.length ns.length]]) := hE2.push _
    obtain ⟨rb, A4, z1, z2, z3⟩ := hcl2 _ _ a3 hO
    have s2 := z3.sl
    obtain ⟨ya, yc, ey⟩ := z3.one
    rw [ey] at z1 s2
    have hq := hpEq_self ((a3.trans z2).nlp hH)
    have hWA := fun lim => run_works6 lim A4 ((a3.trans z2).ext _ _ hG)
    rw [e2] at k2
    simp [-oneC, -Array.all_eq_false, -Array.all_toList, -List.all_eq_true, -hpEq, -lsEq, -vEq, -lcEq, -vEqL, oneC_slice, oneC_int, oneC_boolW, lsEq_self, vEq_self, sf_coblelaw06_LanesApart, chV, tpV, ed, et, es, ev, hV, hT, r1, hI2, k1, k2, hLO, hm1, z1, hq, pf_pure, pureF]
    generalize hS : ({ t := _, L := _, H := _, lim := _, rd := _ } : St) = S
    obtain ⟨⟨e, s3⟩, hr, y1, y2⟩ := ap_loop6 xs hclen A4 _ _ (s1.ext (((q2.push _).trans z2).ext)) s2 S (by subst hS; simp) (by subst hS; simp) (by subst hS; simp) (by subst hS; rfl)
    simp [apLoop6, SC.loops, sf_coblelaw06_LanesApart] at hr
    rw [hr]
    simp only at y1 y2
    subst y1
    simp [y2, hWA]
  · have hl0 : ¬ ls.length = 0 := by simpa using hne
    have hbH : H.length ≤ bb := Nat.le_trans hE1.le hb2
    have hll : (lgsV ls ss).length = ls.length * 5 := lgsV_length _ _ hssl
    have hmx : ls.length + 1 ≤ maxA := Nat.le_trans (show _ ≤ 1000 by omega) (by decide)
    have hcA : ∀ L x, cellsAt L (A2 ++ x) ⟨bb, 0, none⟩ (ls.length * 5) = some (lgsV ls ss) := fun L x => by
      rw [← hll]
      exact cellsAt_of _ 0 fun m y hy => by simp only [hcell, Nat.zero_add]; rw [own_get hbA2 x]; exact hy
    have hbX := fun x => own_get hbA2 x
    have hsX := fun x y => own_set hbA2 x y
    have a3 : Aft H (A2.set bb .dead ++ [ABlk.rw 5 [.int .i64 p.t0, .int .i64 p.lv, .int .i64 p.dr, .bool p.tl, .slice (some ⟨b, 0, none⟩) ns.length ns.length], .rw 5 (lgsV ls ss ++ [.int .i64 p.t0, .int .i64 p.lv, .int .i64 p.dr, .bool p.tl, .slice (some ⟨b, 0, none⟩) ns.length ns.length])]) := (hE2.set hbH _).push _
    have a13 : Aft A1 (A2.set bb .dead ++ [ABlk.rw 5 [.int .i64 p.t0, .int .i64 p.lv, .int .i64 p.dr, .bool p.tl, .slice (some ⟨b, 0, none⟩) ns.length ns.length], .rw 5 (lgsV ls ss ++ [.int .i64 p.t0, .int .i64 p.lv, .int .i64 p.dr, .bool p.tl, .slice (some ⟨b, 0, none⟩) ns.length ns.length])]) := (q2.set hb2 _).push _
    obtain ⟨rb, A4, z1, z2, z3⟩ := hcl2 _ _ a3 hO
    have s2 := z3.sl
    obtain ⟨ya, yc, ey⟩ := z3.one
    rw [ey] at z1 s2
    have hq := hpEq_self ((a3.trans z2).nlp hH)
    have hWA := fun lim => run_works6 lim A4 ((a3.trans z2).ext _ _ hG)
    rw [e2] at k2
    have s1' := s1.ext ((a13.trans z2).ext)
    generalize hgs : lgsV ls ss = gs at *
    simp [-oneC, -Array.all_eq_false, -Array.all_toList, -List.all_eq_true, -hpEq, -lsEq, -vEq, -lcEq, -vEqL, oneC_slice, oneC_int, oneC_boolW, lsEq_self, vEq_self, sf_coblelaw06_LanesApart, chV, tpV, ed, et, es, ev, hV, hT, r1, hI2, k1, k2, hLO, hl0, hne, hbH, hll, hmx, hcA, hbX, hsX, hnlv, z1, hq, pf_pure, pureF]
    generalize hS : ({ t := _, L := _, H := _, lim := _, rd := _ } : St) = S
    obtain ⟨⟨e, s3⟩, hr, y1, y2⟩ := ap_loop6 xs hclen A4 _ _ s1' s2 S (by subst hS; simp) (by subst hS; simp) (by subst hS; simp) (by subst hS; rfl)
    simp [apLoop6, SC.loops, sf_coblelaw06_LanesApart] at hr
    rw [hr]
    simp only at y1 y2
    subst y1
    simp [y2, hWA]
end Go.Proofs.YthobfecblpnnnaaGreatDoor

/- The law LanesApart at what was read. -/
set_option linter.all false
namespace Go.Proofs.YthobfecblpnnnaaGreatDoor
open Go Go.RowKit
attribute [local irreducible] tyD

variable {H : Type}

theorem aggTApart : isAggT Tryz.prog 28 = true := by kernel_rfl

theorem lanesApart_true (ds : List (DataW H)) (h : All2 (tyD Tryz.prog 5) [25, 26, 28] ds) : ∃ H', apL Tryz.prog pf (.func (.func 3) #[] #[]) (absVs Tryz.prog [25, 26, 28] ds Tryz.prog.globals.size).1 0 (globH Tryz.prog tabs ++ (absVs Tryz.prog [25, 26, 28] ds Tryz.prog.globals.size).2) = some (.bool true, H') := by
  match ds, h with
  | [x, y, z], h =>
    obtain ⟨c, _, hc⟩ := dChart (n := 1) h.1
    obtain ⟨ls, hll, hl⟩ := dLegsS (n := 1) h.2.1
    obtain ⟨p, hz⟩ := dTrip (n := 3) h.2.2.1
    obtain ⟨dd, tt, ss, e, hS⟩ := hc (globH Tryz.prog tabs)
    obtain ⟨lv, el, hL⟩ := hl (globH Tryz.prog tabs ++ (absD x (globH Tryz.prog tabs).length).2)
    have hgl : (globH Tryz.prog tabs).length = Tryz.prog.globals.size := by simp [globH]
    rw [List.length_append] at el hL
    rw [hgl] at e hS el hL
    have hG := hG_ext (absD x Tryz.prog.globals.size).2 globGT
    obtain ⟨n2, hn2⟩ : ∃ n2, n2 = Tryz.prog.globals.size + (absD x Tryz.prog.globals.size).2.length := ⟨_, rfl⟩
    rw [← hn2] at el hL
    have ev : (absVs Tryz.prog [25, 26, 28] [x, y, z] Tryz.prog.globals.size) = ([chV c dd tt ss, lv, tpV p], (absD x Tryz.prog.globals.size).2 ++ (absD y n2).2) := by
      simp only [absVs, hz, e, List.append_nil, ← hn2, el]
      simp only [absV, aggCT, aggTApart, aggLT, if_true]
      rfl
    rw [ev]
    simp only [← List.append_assoc]
    have E : Ext (globH Tryz.prog tabs ++ (absD x Tryz.prog.globals.size).2) (globH Tryz.prog tabs ++ (absD x Tryz.prog.globals.size).2 ++ (absD y n2).2) := Ext.push _ _
    have hml : maxLen < 2 ^ 63 := by decide
    exact apart_law c ls (by omega) p 0 _ (noLp_app (noLp_app globH_nlp (absD_nlp x _)) (absD_nlp y _)) (hG_ext _ hG) dd tt ss lv ⟨hS.d.ext E, hS.t.ext E, hS.s.ext E⟩ hL
  | [], h => exact h.elim
  | [_], h => exact h.2.elim
  | [_, _], h => exact h.2.2.elim
  | _ :: _ :: _ :: _ :: _, h => exact h.2.2.2.elim
end Go.Proofs.YthobfecblpnnnaaGreatDoor

/- The statement of LanesApart: its row and its card. For every readable input the law's function returns true, and leaves its arguments as they were. -/
set_option linter.all false
namespace Go.Proofs.YthobfecblpnnnaaGreatDoor.LawLanesApart
open Go Go.RowKit Go.ChangeShapes Go.WideShapes Go.ChangeAt Go.Proofs.YthobfecblpnnnaaGreatDoor

theorem args {α : Type} {r : TypeId → α → Prop} {ds : List α} (h : All2 r [25, 26, 28] ds) : ∃ d1 d2 d3, ds = [d1, d2, d3] := by
  match ds, h with
  | [d1, d2, d3], _ => exact ⟨d1, d2, d3, rfl⟩
  | [], h => exact h.elim
  | [_], h => exact h.2.elim
  | [_, _], h => exact h.2.2.elim
  | _ :: _ :: _ :: _ :: _, h => exact h.2.2.2.elim

set_option maxRecDepth 100000 in
theorem contract (H : Type) (enc : TypeId × Value → H) (W : World) (base : Nat) (args : Array Value) (ds gs : List (DataW H)) (before : List MemPlace)
    (hval : ∀ (j : Nat) t v, Tryz.f3.params[j]? = some t → args[j]? = some v → Value.okWide Tryz.prog W .any base t v)
    (hW : DataW.Whole enc Tryz.prog Tryz.f3.params.toList Rows.lanesApartSpec.vars false W args.toList ds gs before) (hL : laidMetH Tryz.prog Rows.lanesApartRow.laid W) (hS : W.ShapedOpen Tryz.prog) :
    Calls Tryz.prog 3 args W fun e W' => ∃ v, e = .returned v ∧ Rows.lanesApartSpec.post enc Tryz.prog Tryz.f3 false true false false W args v W' := by
  have hp : Tryz.f3.params.toList = [25, 26, 28] := by rw [Tryz.params3]
  have hsup : ∀ t ∈ Tryz.f3.params.toList, supT Tryz.prog 5 t = true := by
    rw [hp]
    intro t ht
    have := (show ([25, 26, 28] : List TypeId).all (supT Tryz.prog 5) = true by kernel_rfl)
    exact List.all_eq_true.1 this t ht
  have hA : DataW.TrodAll enc Tryz.prog W 0 (fun _ => true) true Tryz.f3.params.toList args.toList ds before := by
    obtain ⟨p, q, h1, h2, rfl, _⟩ := hW
    obtain ⟨rfl, rfl⟩ := trodVars_none h2
    simpa using h1
  have hty := args_ty _ _ _ _ hsup hA
  rw [hp] at hty
  obtain ⟨H', ht⟩ := lanesApart_true ds hty
  obtain ⟨d1, d2, d3, rfl⟩ := LawLanesApart.args hty
  rw [← hp] at ht
  obtain ⟨c, hbody⟩ := Option.isSome_iff_exists.1 (show Tryz.f3.body.isSome = true by kernel_rfl)
  refine (law_calls foll pf pf_sound Tryz.func3 hbody (by kernel_rfl) hsup hval hA (globals_there hS) (tabs_there hL) ht).mono ?_
  rintro e W' ⟨rfl, o', hk⟩
  exact ⟨_, rfl, post_true hW rfl ⟨rfl, rfl, rfl⟩ (tb := 4) (by kernel_rfl) Tryz.underlying4 kids (slices_full_of _ full) (by
    rw [hp]
    intro t ht
    have := (show ([25, 26, 28] : List TypeId).all (fun t => decide (t < Tryz.prog.types.size)) = true by kernel_rfl)
    exact of_decide_eq_true (List.all_eq_true.1 this t ht)) hk (fun _ => rfl)⟩

/-- A world for the witness: the table is laid. -/
noncomputable def laidWorld (os : Os) : World :=
  { World.holding Tryz.prog os ⟨#[], #[], []⟩ with heap := (World.holding Tryz.prog os ⟨#[], #[], []⟩).heap.modify waysG fun
      | .cells _ t frozen => .cells waysV.toArray t frozen
      | o => o }
def wit : Array Value := #[.agg #[.int .i64 0, .int .i64 0, .slice none 0 0, .slice none 0 0, .slice none 0 0], .slice none 0 0, .agg #[.int .i64 0, .int .i64 0, .int .i64 0, .bool false, .int .i64 0, .int .i64 0]]
theorem laid_met (os : Os) : laidMet Tryz.prog Rows.lanesApartRow.laid ((laidWorld os).forCall (fun _ _ => 0) ⟨#[], wit, []⟩).memory :=
  laidMet_of_run' 8 (by kernel_rfl) (by kernel_rfl)
theorem reads (os : Os) {H : Type} (enc : TypeId × Value → H) : ∃ places, DataW.whole enc Tryz.prog ((laidWorld os).forCall (fun _ _ => 0) ⟨#[], wit, []⟩).memory Tryz.f3.params.toList Rows.lanesApartSpec.vars false wit.toList 8 =
    some ([.agg [.lit (.int .i64 0), .lit (.int .i64 0), .nil, .nil, .nil], .nil, .agg [.lit (.int .i64 0), .lit (.int .i64 0), .lit (.int .i64 0), .lit (.bool false), .lit (.int .i64 0), .lit (.int .i64 0)]], [], places) :=
  ⟨[], by kernel_rfl⟩

set_option maxRecDepth 100000 in
theorem lifted (os : Os) (started : os.Started) (H : Type) (enc : TypeId × Value → H) (F : Stop.Interp) :
    ReturnsInHanded {} Tryz.checked os 3 .any ((OpenSpec.ofChange Rows.lanesApartSpec).preRow enc Tryz.prog Tryz.f3 Rows.lanesApartRow.domain false Rows.lanesApartRow.laid) (((OpenSpec.ofChange Rows.lanesApartSpec).at F).post enc Tryz.prog Tryz.f3 false true false false) := by
  obtain ⟨places, hx⟩ := reads os enc
  refine returnsInHanded_of_row (C := Tryz.checked) (s := OpenSpec.ofChange Rows.lanesApartSpec) own started (by kernel_rfl) Tryz.func3
    (witness_row_at (enc := enc) (C := Tryz.checked) false (laidWorld os) wit rfl (by kernel_rfl) (by kernel_rfl) (by kernel_rfl)
      (OpenSpec.preRow_of_cond 8 hx (by kernel_rfl) (fun k hk => by cases hk) (by kernel_rfl) (laid_met os))) ?_
  intro W base args ds gs before hval hW _ _ _ hL hS _
  exact contract H enc W base args ds gs before hval hW hL hS

theorem said : Rows.LanesApartSaid :=
  OpenClaim.holds_of_cond 3 Tryz.f3 rfl rfl rfl rfl rfl rfl rfl ⟨rfl, rfl, rfl, rfl, rfl⟩ rfl rfl rfl rfl rfl (by kernel_rfl) Tryz.func3 (by kernel_rfl)
    (of_decide_eq_true (by kernel_rfl)) (by unfold Func.isWrapper; first | (rw [if_pos (by decide +kernel)]; kernel_rfl) | (rw [if_neg (by decide +kernel)]; exact ⟨rfl, rfl⟩))
    (fun os started H enc _ F => by rw [OpenClaim.pre_eq_preRow]; exact lifted os started H enc F)

theorem plain (f : FuncId) (fn : Func) (hf : Tryz.pinned.checked.prog.funcNamed "coble/coblelaw06.LanesApart" = some f) (hfn : Tryz.pinned.checked.prog.funcs[f]? = some fn) :
    false = Tryz.pinned.checked.prog.looks [] ∧ ∀ (j : Nat) t, fn.params[j]? = some t → Tryz.pinned.checked.prog.wantsStandIn t = false := by
  obtain rfl : f = 3 := Option.some.inj ((show Tryz.prog.funcNamed "coble/coblelaw06.LanesApart" = some 3 by kernel_rfl).symm.trans hf) |>.symm
  obtain rfl : fn = Tryz.f3 := (Option.some.inj (Tryz.func3.symm.trans hfn)).symm
  refine ⟨by kernel_rfl, fun j t ht => ?_⟩
  rw [Tryz.params3] at ht
  have hm : t ∈ ([25, 26, 28] : List TypeId) := by simpa using Array.mem_of_getElem? ht
  have := (show ([25, 26, 28] : List TypeId).all (fun t => Tryz.prog.wantsStandIn t == false) = true by kernel_rfl)
  have e : Tryz.prog.wantsStandIn t = false := by simpa using List.all_eq_true.1 this t hm
  exact e

/-- The card. -/
theorem card : Rows.LanesApartCardSaid :=
  Claim7.holds_tied_plain_at .later [] _ _ _ _ said (fun _ h => by cases h) (by kernel_rfl) (fun _ h => by cases h) lanesApart_row_tie rfl ⟨rfl, rfl⟩ (by kernel_rfl) rfl plain (by kernel_rfl)
end Go.Proofs.YthobfecblpnnnaaGreatDoor.LawLanesApart
