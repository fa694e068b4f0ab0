/- Contracts of layer 6, the reference: whether two legs clash. -/
import Derived.Test.YthobfecblpnnnaaGreatDoorLanH
set_option linter.all false
namespace Go.Proofs.YthobfecblpnnnaaGreatDoor
open Go Go.RowKit

def clLoop : SC := sf_cobleref06_Clash.body.loops.headD .skip
def clIn : SC := sf_cobleref06_Clash.body.loops.getD 1 .skip

theorem cl_in (xs ys : List Int) (hx : xs.length ≤ 2) (hy : ys.length ≤ 2) (A : AH) (x y : Value) (sx : Sl A x xs.length (ints xs)) (sy : Sl A y ys.length (ints ys)) {i : Nat} (hi : i < xs.length) (S : St) (e7 : tget S.t 7 = x) (e8 : tget S.t 8 = y) (e9 : tget S.t 9 = .int .i64 i) (e10 : tget S.t 10 = .int .i64 0) (hH : S.H = A) :
    ∃ q, exL Tryz.prog pf (.loop clIn) S = some q ∧ q.2.H = A ∧ q.2.L = S.L ∧ q.2.lim = S.lim ∧ tget q.2.t 2 = tget S.t 2 ∧ tget q.2.t 3 = tget S.t 3 ∧ tget q.2.t 4 = tget S.t 4 ∧ tget q.2.t 7 = tget S.t 7 ∧ tget q.2.t 8 = tget S.t 8 ∧ tget q.2.t 9 = tget S.t 9 ∧ ((q.1 = .exit 2 ∧ (ys.any fun y => xs[i] == y) = false) ∨ (q.1 = .ret ∧ tget q.2.t 6 = .bool true ∧ (ys.any fun y => xs[i] == y) = true)) := by
  obtain ⟨xa, xc, rfl, hdx⟩ := sx
  obtain ⟨ya, yc, rfl, hdy⟩ := sy
  obtain ⟨b1, o1, rfl, c1⟩ := hdx i (.int .i64 xs[i]) (by simp [ints, hi])
  have hiI : (i : Int) < xs.length := by omega
  simp only [hcell] at c1
  generalize hxi : xs[i] = u at *
  refine loop_rule (I := fun n s' => ∃ j, j ≤ ys.length ∧ n = ys.length - j ∧ tget s'.t 2 = tget S.t 2 ∧ tget s'.t 3 = tget S.t 3 ∧ tget s'.t 4 = tget S.t 4 ∧ tget s'.t 7 = .slice (some ⟨b1, o1, none⟩) xs.length xc ∧ tget s'.t 8 = .slice ya ys.length yc ∧ tget s'.t 9 = .int .i64 i ∧ tget s'.t 10 = .int .i64 j ∧ s'.H = A ∧ s'.L = S.L ∧ s'.lim = S.lim ∧ ∀ m (h : m < ys.length), m < j → u ≠ ys[m]) ?_ ys.length S
    ⟨0, by omega, by omega, rfl, rfl, rfl, e7, e8, e9, e10, hH, rfl, rfl, by omega⟩
  rintro n s' ⟨j, hj, rfl, f2, f3, f4, f7, f8, f9, f10, fH, fL, fl, et⟩
  by_cases hlt : j < ys.length
  rotate_left
  · have : j = ys.length := by omega
    subst this
    have hno : (ys.any fun y => u == y) = false := List.any_eq_false.2 fun y hy => by
      obtain ⟨m, hm, rfl⟩ := List.mem_iff_getElem.1 hy
      simpa using et m hm hm
    simp [-List.any_eq_false, clIn, SC.loops, sf_cobleref06_Clash, f2, f3, f4, f7, f8, f9, f10, fH, fL, fl, e7, e8, e9, hno]
  have hltI : (j : Int) < ys.length := by omega
  obtain ⟨b2, o2, rfl, c2⟩ := hdy j (.int .i64 ys[j]) (by simp [ints, hlt])
  have hw : IntKind.i64.wrap ((j : Int) + 1) = (j : Int) + 1 := wrap_i64 (by omega) (by omega)
  have hmem : ys[j] ∈ ys := List.getElem_mem hlt
  simp only [hcell] at c2
  generalize hyj : ys[j] = v at *
  by_cases huv : u = v
  · have hb : (u == v) = true := by simpa using huv
    have hany : (ys.any fun y => u == y) = true := List.any_eq_true.2 ⟨v, hmem, hb⟩
    simp [-List.any_eq_true, clIn, SC.loops, sf_cobleref06_Clash, f2, f3, f4, f7, f8, f9, f10, fH, fL, fl, e7, e8, e9, hlt, hltI, hi, hiI, c1, c2, hb, hany]
  · have hb : (u == v) = false := by simpa using huv
    simp [clIn, SC.loops, sf_cobleref06_Clash, f2, f3, f4, f7, f8, f9, f10, fH, fL, fl, e7, e8, e9, hlt, hltI, hi, hiI, c1, c2, hb, hw]
    exact ⟨_, by omega, j + 1, by omega, rfl, by omega, fun m h hm => by
      by_cases e : m = j
      · subst e; rw [hyj]; exact huv
      · exact et m h (by omega)⟩

theorem occs_len (l : Lg) (t : Int) : (l.occs t).length ≤ 2 := by unfold Lg.occs; split <;> (try split) <;> simp

set_option maxHeartbeats 2000000 in
theorem run_Clash (a b : Lg) (ha : a.nn) (hb : b.nn) (t : Int) (ht : -800 ≤ t ∧ t ≤ 800) (ha0 : -1000 ≤ a.t0 ∧ a.t0 ≤ 1000) (hb0 : -1000 ≤ b.t0 ∧ b.t0 ≤ 1000) (H : AH) (x y : Value) (hx : CsIn H x a) (hy : CsIn H y b) (lim : Nat) :
    apL Tryz.prog pf (.func (.func 25) #[] #[]) [lgV a x, lgV b y, .int .i64 t] lim H = some (.bool (claM a b t), H) := by
  rw [← claR_eq ha hb]
  rw [apL_func _ _ _ _ _ _ (by rfl), sf_cobleref06_Clash_eq]
  obtain ⟨r1, A1, k1, p1, s1⟩ := run_occupies a t (by omega) ha0 H x hx
  obtain ⟨r2, A2, k2, p2, s2⟩ := run_occupies b t (by omega) hb0 A1 y (hy.ext p1.ext)
  have hA2 := p1.trans p2
  have q1 := fun lim => run_At a (t - 1) (by omega) ha0 lim A2 x (hx.ext hA2.ext)
  have q2 := fun lim => run_At a t (by omega) ha0 lim A2 x (hx.ext hA2.ext)
  have q3 := fun lim => run_At b (t - 1) (by omega) hb0 lim A2 y (hy.ext hA2.ext)
  have q4 := fun lim => run_At b t (by omega) hb0 lim A2 y (hy.ext hA2.ext)
  have hw : IntKind.i64.wrap (t - 1) = t - 1 := wrap_i64 (by omega) (by omega)
  have s1' := s1.ext p2.ext
  have hin := fun {i : Nat} (hi : i < (a.occs t).length) => cl_in (a.occs t) (b.occs t) (occs_len a t) (occs_len b t) A2 r1 r2 s1' s2 hi
  obtain ⟨xa, xc, ex⟩ : ∃ i c, x = .slice i a.cs.length c := by obtain ⟨⟨i, c, e, _⟩, _⟩ := hx; exact ⟨i, c, e⟩
  obtain ⟨ya, yc, ey⟩ : ∃ i c, y = .slice i b.cs.length c := by obtain ⟨⟨i, c, e, _⟩, _⟩ := hy; exact ⟨i, c, e⟩
  obtain ⟨ra, rc, er1⟩ : ∃ i c, r1 = .slice i (a.occs t).length c := by obtain ⟨i, c, e, _⟩ := s1; exact ⟨i, c, e⟩
  obtain ⟨rb, rd, er2⟩ : ∃ i c, r2 = .slice i (b.occs t).length c := by obtain ⟨i, c, e, _⟩ := s2; exact ⟨i, c, e⟩
  have hl1 := occs_len a t
  subst ex ey
  simp only [lgV] at k1 k2 q1 q2 q3 q4
  unfold claR
  cases hlv : (a.lv == b.lv) with
  | false =>
    have hlv' : (a.lv != b.lv) = true := by simpa using hlv
    simp [sf_cobleref06_Clash, lgV, hlv', pf_pure, pureF]
  | true =>
  have hlv' : (a.lv != b.lv) = false := by simpa using hlv
  subst er1 er2
  simp [-Array.all_toList, sf_cobleref06_Clash, lgV, hlv', k1, k2, pf_pure, pureF]
  generalize hS : ({ t := _, L := _, H := _, lim := _, rd := _ } : St) = S
  have hL : S.L = [(4, 0, .cells [.int .i64 b.t0, .int .i64 b.lv, .int .i64 b.dr, .bool b.tl, .slice ya b.cs.length yc]), (3, 0, .cells [.int .i64 a.t0, .int .i64 a.lv, .int .i64 a.dr, .bool a.tl, .slice xa a.cs.length xc])] := by subst hS; simp
  have key : ∃ r, exL Tryz.prog pf (.loop clLoop) S = some r ∧ ((r.1 = .exit 0 ∧ anyEq (a.occs t) (b.occs t) = false ∧ r.2.H = A2 ∧ r.2.L = S.L ∧ tget r.2.t 2 = .int .i64 t ∧ tget r.2.t 3 = .pointer (some ⟨3, 0, some 0⟩) ∧ tget r.2.t 4 = .pointer (some ⟨4, 0, some 0⟩)) ∨ (r.1 = .ret ∧ tget r.2.t 6 = .bool true ∧ anyEq (a.occs t) (b.occs t) = true)) := by
    refine loop_rule (I := fun n s' => ∃ i, i ≤ (a.occs t).length ∧ n = (a.occs t).length - i ∧ tget s'.t 2 = .int .i64 t ∧ tget s'.t 3 = .pointer (some ⟨3, 0, some 0⟩) ∧ tget s'.t 4 = .pointer (some ⟨4, 0, some 0⟩) ∧ tget s'.t 7 = .slice ra (a.occs t).length rc ∧ tget s'.t 8 = .slice rb (b.occs t).length rd ∧ tget s'.t 9 = .int .i64 i ∧ s'.H = A2 ∧ s'.L = S.L ∧ ∀ m (h : m < (a.occs t).length), m < i → ((b.occs t).any fun y => (a.occs t)[m] == y) = false) ?_ (a.occs t).length S
      ⟨0, by omega, by omega, by subst hS; simp, by subst hS; simp, by subst hS; simp, by subst hS; simp, by subst hS; simp, by subst hS; simp, by subst hS; rfl, rfl, by omega⟩
    rintro n s' ⟨i, hi, rfl, e2, e3, e4, e7, e8, e9, eH, eL, et⟩
    by_cases hlt : i < (a.occs t).length
    rotate_left
    · have : i = (a.occs t).length := by omega
      subst this
      have hno : anyEq (a.occs t) (b.occs t) = false := List.any_eq_false.2 fun u hu => by
        obtain ⟨m, hm, rfl⟩ := List.mem_iff_getElem.1 hu
        rw [et m hm hm]; simp
      simp [clLoop, SC.loops, sf_cobleref06_Clash, e2, e3, e4, e7, e8, e9, eH, eL, hno]
    have hltI : (i : Int) < (a.occs t).length := by omega
    have hw : IntKind.i64.wrap ((i : Int) + 1) = (i : Int) + 1 := wrap_i64 (by omega) (by omega)
    simp [-Array.all_toList, clLoop, SC.loops, sf_cobleref06_Clash, e2, e3, e4, e7, e8, e9, eH, eL, hlt, hltI]
    generalize hS2 : ({ t := _, L := _, H := _, lim := _, rd := _ } : St) = S2
    obtain ⟨⟨e, s2'⟩, hr2, g1, g2, g3, g4, g5, g6, g7, g8, g9, g10⟩ := hin hlt S2 (by subst hS2; simp [e7]) (by subst hS2; simp [e8]) (by subst hS2; simp [e9]) (by subst hS2; simp) (by subst hS2; simp [eH])
    simp [clIn, SC.loops, sf_cobleref06_Clash] at hr2
    rw [hr2]
    simp only at g1 g2 g3 g4 g5 g6 g7 g8 g9 g10
    have z2 : tget S2.t 2 = .int .i64 t := by subst hS2; simp [e2]
    have z3 : tget S2.t 3 = .pointer (some ⟨3, 0, some 0⟩) := by subst hS2; simp [e3]
    have z4 : tget S2.t 4 = .pointer (some ⟨4, 0, some 0⟩) := by subst hS2; simp [e4]
    have z7 : tget S2.t 7 = .slice ra (a.occs t).length rc := by subst hS2; simp [e7]
    have z8 : tget S2.t 8 = .slice rb (b.occs t).length rd := by subst hS2; simp [e8]
    have z9 : tget S2.t 9 = .int .i64 i := by subst hS2; simp [e9]
    have zL : S2.L = S.L := by subst hS2; simp [eL]
    rcases g10 with ⟨rfl, hno⟩ | ⟨rfl, h6, hyes⟩
    · simp [and_assoc, g1, g2, g4, g5, g6, g7, g8, g9, z2, z3, z4, z7, z8, z9, zL, hw]
      exact ⟨_, by omega, i + 1, by omega, rfl, by omega, fun m h hm => by
        by_cases e : m = i
        · subst e; simpa using hno
        · simpa using et m h (by omega)⟩
    · have hany : anyEq (a.occs t) (b.occs t) = true := List.any_eq_true.2 ⟨_, List.getElem_mem hlt, hyes⟩
      simp [and_assoc, h6, hany]
  obtain ⟨⟨e, s1'⟩, hr, q⟩ := key
  simp [clLoop, SC.loops, sf_cobleref06_Clash] at hr
  rw [hr]
  simp only at q
  rcases q with ⟨rfl, hno, gH, gL, g2, g3, g4⟩ | ⟨rfl, h6, hyes⟩
  · rw [hno]
    rw [hL] at gL
    simp only [Bool.false_or, swapB]
    generalize a.cel (t - 1) = p at *
    generalize a.cel t = q at *
    generalize b.cel (t - 1) = r at *
    generalize b.cel t = u at *
    by_cases x1 : 0 ≤ p
    · by_cases x2 : 0 ≤ q
      · by_cases x3 : 0 ≤ r
        · by_cases x4 : 0 ≤ u
          · cases x5 : (q == r)
            · simp [gH, gL, g2, g3, g4, hw, q1, q2, q3, q4, x1, x2, x3, x4, x5]
            · cases x6 : (u == p)
              · simp [gH, gL, g2, g3, g4, hw, q1, q2, q3, q4, x1, x2, x3, x4, x5, x6]
              · simp [gH, gL, g2, g3, g4, hw, q1, q2, q3, q4, x1, x2, x3, x4, x5, x6]
          · simp [gH, gL, g2, g3, g4, hw, q1, q2, q3, q4, x1, x2, x3, x4]
        · simp [gH, gL, g2, g3, g4, hw, q1, q2, q3, q4, x1, x2, x3]
      · simp [gH, gL, g2, g3, g4, hw, q1, q2, q3, q4, x1, x2]
    · simp [gH, gL, g2, g3, g4, hw, q1, q2, q3, q4, x1]
  · rw [hyes]
    simp [h6]
end Go.Proofs.YthobfecblpnnnaaGreatDoor
