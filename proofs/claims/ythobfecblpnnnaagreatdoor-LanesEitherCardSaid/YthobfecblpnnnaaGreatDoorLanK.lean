/- Layer 6: the law LanesEither. -/
import Derived.Test.YthobfecblpnnnaaGreatDoorLanO
import Derived.Test.YthobfecblpnnnaaGreatDoorLanI
import Derived.Test.YthobfecblpnnnaaGreatDoorLanJ
set_option linter.all false
namespace Go.Proofs.YthobfecblpnnnaaGreatDoor
open Go Go.RowKit

theorem LgSl.pair {H : AH} {k : Nat} {a b : Lg} {x y : Value} (h : H[k]? = some (.rw 5 (a.vals x ++ b.vals y))) (hx : Sl H x a.cs.length (ints a.cs)) (hy : Sl H y b.cs.length (ints b.cs)) (n : Nat) : LgSl H (.slice (some ⟨k, 0, none⟩) 2 n) [a, b] :=
  ⟨[x, y], rfl, ⟨_, n, rfl, fun j z hz => ⟨k, 0, rfl, by simp only [hcell, h, Nat.zero_add]; simpa [lgsV] using hz⟩⟩, fun i hi hi' => by
    match i, hi with
    | 0, _ => exact hx
    | 1, _ => exact hy
    | n + 2, h => simp at h; omega⟩

theorem firstC_comm (T : Nat) (a b : Lg) : firstC T a b = firstC T b a := by
  unfold firstC
  congr 1
  funext k
  rw [claM_comm]

theorem clashesM_two (T : Nat) (a b : Lg) : clashesM T [a, b] = (match firstC T a b with | some t => [(0, 1, t)] | none => []) := by
  simp [clashesM, clI, clK, pairC]
  cases firstC T a b <;> rfl

theorem firstC_some {T : Nat} {a b : Lg} {i : Nat} (hi : i < T) (h : ∀ m, m < i → claM a b (m : Int) = false) (hc : claM a b (i : Int) = true) : firstC T a b = some i := by
  unfold firstC
  rw [List.find?_eq_some_iff_getElem]
  refine ⟨hc, i, by simpa using hi, by simp, fun m hm => ?_⟩
  rw [List.getElem_range, h m hm]
  rfl
theorem firstC_none {T : Nat} {a b : Lg} (h : ∀ m, m < T → claM a b (m : Int) = false) : firstC T a b = none := by
  unfold firstC
  rw [List.find?_eq_none]
  intro m hm
  rw [h m (List.mem_range.1 hm)]
  simp

/-- No clash at different levels, or at different times. -/
theorem claM_apart {a b : Lg} (h : a.lv ≠ b.lv ∨ b.t0 + b.cs.length ≤ a.t0 ∨ a.t0 + a.cs.length ≤ b.t0) (t : Int) : claM a b t = false := by
  unfold claM
  rw [Bool.and_eq_false_iff]
  by_cases hl : a.lv = b.lv
  · right
    have hcel : a.cel t = -1 ∨ b.cel t = -1 := by
      unfold Lg.cel
      by_cases h1 : a.t0 ≤ t ∧ t < a.t0 + a.cs.length
      · right
        rw [if_neg (by rcases h with h | h | h <;> omega)]
      · left
        rw [if_neg h1]
    unfold Sp.cla Lg.sp spOf
    rcases hcel with e | e <;> simp [e]
  · exact .inl (by simpa using hl)

def eiLoop : SC := sf_coblelaw06_LanesEither.body.loops.headD .skip

theorem ei_loop (c : Ch) (hT : c.tide.length ≤ 60) (a b : Lg) (ha : a.nn) (hb : b.nn) (ha0 : -1000 ≤ a.t0 ∧ a.t0 ≤ 1000) (hb0 : -1000 ≤ b.t0 ∧ b.t0 ≤ 1000) (H : AH) (hG : H[waysG]? = some (.ro waysV)) (x y : Value) (hx : CsIn H x a) (hy : CsIn H y b) (d s : Value) (ta : Option Addr) (tc : Nat) (r : Value) (n0 : Nat) (hr : OwnW n0 H r (clashesM c.tide.length [a, b])) (S : St)
    (e3 : tget S.t 3 = .pointer (some ⟨3, 0, some 0⟩)) (e4 : tget S.t 4 = .pointer (some ⟨4, 0, some 0⟩)) (e5 : tget S.t 5 = .pointer (some ⟨5, 0, some 0⟩)) (e7 : tget S.t 7 = r) (e11 : tget S.t 11 = .int .i64 0) (hL3 : lget S.L 3 = some (0, .cells [.int .i64 c.w, .int .i64 c.h, d, .slice ta c.tide.length tc, s])) (hL4 : lget S.L 4 = some (0, .cells (a.vals x))) (hL5 : lget S.L 5 = some (0, .cells (b.vals y))) (hH : S.H = H) :
    ∃ q, exL Tryz.prog pf (.loop eiLoop) S = some q ∧ q.2.H = H ∧ ((q.1 = .exit 0 ∧ tget q.2.t 7 = .slice none 0 0 ∧ q.2.lim = S.lim) ∨ (q.1 = .ret ∧ tget q.2.t 6 = .bool true)) := by
  have hC := fun {i : Nat} (hi : i ≤ 800) lim => run_Clash a b ha hb i (by omega) ha0 hb0 H x y hx hy lim
  have hW := fun lim => run_works6 lim H hG
  obtain ⟨xa, xc, ex⟩ : ∃ i c, x = .slice i a.cs.length c := by obtain ⟨⟨i, c, e, _⟩, _⟩ := hx; exact ⟨i, c, e⟩
  obtain ⟨ya, yc, ey⟩ : ∃ i c, y = .slice i b.cs.length c := by obtain ⟨⟨i, c, e, _⟩, _⟩ := hy; exact ⟨i, c, e⟩
  subst ex ey
  simp only [lgV] at hC
  simp only [Lg.vals] at hL4 hL5
  rw [clashesM_two] at hr
  refine loop_rule (I := fun n s' => ∃ i, i ≤ c.tide.length ∧ n = c.tide.length - i ∧ tget s'.t 3 = .pointer (some ⟨3, 0, some 0⟩) ∧ tget s'.t 4 = .pointer (some ⟨4, 0, some 0⟩) ∧ tget s'.t 5 = .pointer (some ⟨5, 0, some 0⟩) ∧ tget s'.t 7 = r ∧ tget s'.t 11 = .int .i64 i ∧ s'.L = S.L ∧ s'.H = H ∧ s'.lim = S.lim ∧ ∀ m, m < i → claM a b (m : Int) = false) ?_ c.tide.length S
    ⟨0, by omega, by omega, e3, e4, e5, e7, e11, rfl, hH, rfl, by omega⟩
  rintro n s' ⟨i, hi, rfl, f3, f4, f5, f7, f11, fL, fH, fl, et⟩
  by_cases hlt : i < c.tide.length
  rotate_left
  · have : i = c.tide.length := by omega
    subst this
    rw [firstC_none et] at hr
    have hr0 : r = .slice none 0 0 := by
      rcases hr with ⟨_, h⟩ | ⟨h, _⟩
      · exact h
      · exact absurd rfl h
    subst hr0
    simp [eiLoop, SC.loops, sf_coblelaw06_LanesEither, f3, f4, f5, f7, f11, fL, fH, fl, hL3]
  have hltI : (i : Int) < (c.tide.length : Int) := by omega
  have hw : IntKind.i64.wrap ((i : Int) + 1) = (i : Int) + 1 := wrap_i64 (by omega) (by omega)
  have hC := fun lim => hC (i := i) (by omega) lim
  cases hc : claM a b (i : Int) with
  | false =>
    rw [hc] at hC
    simp [eiLoop, SC.loops, sf_coblelaw06_LanesEither, f3, f4, f5, f7, f11, fL, fH, fl, hL3, hL4, hL5, hltI, hC, hw]
    exact ⟨_, by omega, i + 1, by omega, rfl, by omega, fun m hm => by
      by_cases e : m = i
      · subst e; exact hc
      · exact et m (by omega)⟩
  | true =>
    rw [hc] at hC
    rw [firstC_some hlt et hc] at hr
    rcases hr with ⟨h, _⟩ | ⟨_, bb, _, hr0, hbb⟩
    · cases h
    · subst hr0
      simp only [trips, List.flatMap_cons, List.flatMap_nil, List.append_nil] at hbb
      simp [eiLoop, SC.loops, sf_coblelaw06_LanesEither, f3, f4, f5, f7, f11, fL, fH, fl, hL3, hL4, hL5, hltI, hC, hbb, hW]

set_option maxHeartbeats 4000000 in
theorem either_law (c : Ch) (a b : Lg) (lim : Nat) (H : AH) (hG : H[waysG]? = some (.ro waysV)) (d t s x y : Value) (hs : ChSl H c d t s) (hx : Sl H x a.cs.length (ints a.cs)) (hy : Sl H y b.cs.length (ints b.cs)) :
    apL Tryz.prog pf (.func (.func 8) #[] #[]) [chV c d t s, lgV a x, lgV b y] lim H = some (.bool true, H) := by
  rw [apL_func _ _ _ _ _ _ (by rfl), sf_coblelaw06_LanesEither_eq]
  obtain ⟨H1, hH1⟩ : ∃ H1, H1 = H ++ [ABlk.rw 5 (a.vals x ++ b.vals y)] := ⟨_, rfl⟩
  have hE1 : Ext H H1 := by rw [hH1]; exact Ext.push H _
  have p1 : LgSl H1 (.slice (some ⟨H.length, 0, none⟩) 2 2) [a, b] := LgSl.pair (by rw [hH1]; simp) (hx.ext hE1) (hy.ext hE1) 2
  have hs1 : ChSl H1 c d t s := ⟨hs.d.ext hE1, hs.t.ext hE1, hs.s.ext hE1⟩
  have hV := fun lim => run_valid6 c [a, b] (by simp) lim H1 d t s _ hs1 p1
  have hW1 := fun lim => run_works6 lim H1 (hE1 _ _ hG)
  obtain ⟨xa, xc, ex⟩ : ∃ i c, x = .slice i a.cs.length c := by obtain ⟨i, c, e, _⟩ := hx; exact ⟨i, c, e⟩
  obtain ⟨ya, yc, ey⟩ : ∃ i c, y = .slice i b.cs.length c := by obtain ⟨i, c, e, _⟩ := hy; exact ⟨i, c, e⟩
  have hs0 := hs
  obtain ⟨⟨da, dc, ed, _⟩, ⟨ta, tc, et, _⟩, ⟨sa, sc, es, _⟩⟩ := hs
  cases a1 : valid6 c [a, b] with
  | false =>
    rw [a1] at hV
    rw [hH1] at hV hW1
    simp only [chV, Lg.vals, List.cons_append, List.nil_append, ed, et, es, ex, ey] at hV hW1
    simp [sf_coblelaw06_LanesEither, chV, lgV, ed, et, es, ex, ey, hV, hW1, pf_pure, pureF]
  | true =>
  rw [a1] at hV
  obtain ⟨v1, v2, v3, v4⟩ := valid6_iff.1 a1
  obtain ⟨hok, hl12, hall⟩ := legE_zero.1 v4
  have hT : c.tide.length ≤ 60 := hok.2.2.2.1.2
  have hin := lgsIn_of hok hall
  have hnn := lgsNn_of hall
  have ha0 := hin a (by simp)
  have hb0 := hin b (by simp)
  have hlen : a.cs.length ≤ 80 ∧ b.cs.length ≤ 80 := by
    simp only [FarL, Bool.or_eq_false_iff, List.any_eq_false, decide_eq_true_eq] at v2
    have h1 := v2.1.1 a (by simp)
    have h2 := v2.1.1 b (by simp)
    omega
  have hall' : [b, a].all (lgOk c) = true := by
    simp only [List.all_cons, List.all_nil, Bool.and_true, Bool.and_eq_true] at hall ⊢
    exact ⟨hall.2, hall.1⟩
  have v4' : legE c [b, a] = 0 := legE_zero.2 ⟨hok, by simp, hall'⟩
  obtain ⟨H2, hH2⟩ : ∃ H2, H2 = H1 ++ [ABlk.rw 5 (a.vals x ++ b.vals y)] := ⟨_, rfl⟩
  have hE2 : Ext H H2 := by rw [hH2]; exact hE1.trans (Ext.push H1 _)
  have p2 : LgSl H2 (.slice (some ⟨H1.length, 0, none⟩) 2 2) [a, b] := LgSl.pair (by rw [hH2]; simp) (hx.ext hE2) (hy.ext hE2) 2
  have i2 : LgIn H2 (.slice (some ⟨H1.length, 0, none⟩) 2 2) [a, b] := FarL.in p2 v2
  have hc2 : ChIn H2 c d t s := (Far6.in hs0 v1).ext hE2
  obtain ⟨r1, A1, k1, q1, w1⟩ := run_Clashes c [a, b] H2 d t s _ hc2 i2 H.length
  obtain ⟨H3, hH3⟩ : ∃ H3, H3 = A1 ++ [ABlk.rw 5 (b.vals y ++ a.vals x)] := ⟨_, rfl⟩
  have hE3' : Ext A1 H3 := by rw [hH3]; exact Ext.push A1 _
  have hE3 : Ext H H3 := (hE2.trans q1.ext).trans hE3'
  have p3 : LgSl H3 (.slice (some ⟨A1.length, 0, none⟩) 2 2) [b, a] := LgSl.pair (by rw [hH3]; simp) (hy.ext hE3) (hx.ext hE3) 2
  have v2' : FarL [b, a] = false := by
    simp only [FarL, Bool.or_eq_false_iff, List.any_eq_false, decide_eq_true_eq] at v2 ⊢
    exact ⟨⟨fun l hl => v2.1.1 l (by simp at hl ⊢; exact hl.symm), by simp⟩, by simp⟩
  have i3 : LgIn H3 (.slice (some ⟨A1.length, 0, none⟩) 2 2) [b, a] := FarL.in p3 v2'
  have hc3 : ChIn H3 c d t s := (Far6.in hs0 v1).ext hE3
  obtain ⟨r2, A2, k2, q2, w2⟩ := run_Clashes c [b, a] H3 d t s _ hc3 i3 H.length
  have hE4 : Ext H A2 := hE3.trans q2.ext
  have w1' : OwnW H2.length A2 r1 (clashesM c.tide.length [a, b]) := by
    unfold lclS at w1
    rw [if_pos v4] at w1
    rcases w1 with h | ⟨h1, bb, h2, h3, h4⟩
    · exact .inl h
    · exact .inr ⟨h1, bb, h2, h3, q2.ext _ _ (hE3' _ _ h4)⟩
  have w2' : OwnW H3.length A2 r2 (clashesM c.tide.length [a, b]) := by
    unfold lclS at w2
    rw [if_pos v4', clashesM_two, firstC_comm, ← clashesM_two] at w2
    have : clashesM c.tide.length [a, b] = (match firstC c.tide.length a b with | some t => [(0, 1, t)] | none => []) := clashesM_two _ _ _
    rw [this]
    rw [clashesM_two] at w2
    exact w2
  have hL := fun S => ei_loop c hT a b (hnn a (by simp)) (hnn b (by simp)) ha0 hb0 A2 (hE4 _ _ hG) x y ⟨hx.ext hE4, by omega⟩ ⟨hy.ext hE4, by omega⟩ d s ta tc r1 H2.length w1' S
  have hW2 := fun lim => run_works6 lim A2 (hE4 _ _ hG)
  have n1 := w1'.nl
  have n2 := w2'.nl
  rw [hH1] at hV
  rw [hH2, hH1] at k1
  rw [hH3] at k2
  have hwa : IntKind.i64.wrap (a.t0 + (a.cs.length : Int)) = a.t0 + (a.cs.length : Int) := wrap_i64 (by omega) (by omega)
  have hwb : IntKind.i64.wrap (b.t0 + (b.cs.length : Int)) = b.t0 + (b.cs.length : Int) := wrap_i64 (by omega) (by omega)
  simp only [chV, Lg.vals, List.cons_append, List.nil_append, ed, et, es, ex, ey, v4, v4', List.append_assoc, List.length_append, List.length_cons, List.length_nil] at hV k1 k2
  rw [clashesM_two] at w1' w2'
  have stp : ∀ (g : (firstC c.tide.length a b = none ∧ r1 = .slice none 0 0 ∧ r2 = .slice none 0 0) ∨ ∃ m b1 b2, firstC c.tide.length a b = some m ∧ r1 = .slice (some ⟨b1, 0, none⟩) 1 2 ∧ r2 = .slice (some ⟨b2, 0, none⟩) 1 2 ∧ A2[b1]? = some (.rw 3 [.int .i64 0, .int .i64 1, .int .i64 (m : Nat)]) ∧ A2[b2]? = some (.rw 3 [.int .i64 0, .int .i64 1, .int .i64 (m : Nat)])), True := fun _ => trivial
  have g : (firstC c.tide.length a b = none ∧ r1 = .slice none 0 0 ∧ r2 = .slice none 0 0) ∨ ∃ m b1 b2, firstC c.tide.length a b = some m ∧ r1 = .slice (some ⟨b1, 0, none⟩) 1 2 ∧ r2 = .slice (some ⟨b2, 0, none⟩) 1 2 ∧ A2[b1]? = some (.rw 3 [.int .i64 0, .int .i64 1, .int .i64 (m : Nat)]) ∧ A2[b2]? = some (.rw 3 [.int .i64 0, .int .i64 1, .int .i64 (m : Nat)]) := by
    cases hf : firstC c.tide.length a b with
    | none =>
      rw [hf] at w1' w2'
      rcases w1' with ⟨_, h1⟩ | ⟨h, _⟩
      · rcases w2' with ⟨_, h2⟩ | ⟨h, _⟩
        · exact .inl ⟨rfl, h1, h2⟩
        · exact absurd rfl h
      · exact absurd rfl h
    | some m =>
      rw [hf] at w1' w2'
      rcases w1' with ⟨h, _⟩ | ⟨_, b1, _, h1, z1⟩
      · cases h
      · rcases w2' with ⟨h, _⟩ | ⟨_, b2, _, h2, z2⟩
        · cases h
        · exact .inr ⟨m, b1, b2, rfl, h1, h2, by simpa [trips] using z1, by simpa [trips] using z2⟩
  by_cases hap : a.lv ≠ b.lv ∨ b.t0 + b.cs.length ≤ a.t0 ∨ a.t0 + a.cs.length ≤ b.t0
  · have hf : firstC c.tide.length a b = none := firstC_none fun m _ => claM_apart hap m
    rcases g with ⟨_, h1, h2⟩ | ⟨m, _, _, h, _⟩
    rotate_left
    · rw [hf] at h; cases h
    subst h1 h2
    by_cases x1 : a.lv = b.lv
    · have x1' : (a.lv != b.lv) = false := by simpa using x1
      by_cases x2 : b.t0 + (b.cs.length : Int) ≤ a.t0
      · simp [-oneC, oneC_slice, oneC_int, sf_coblelaw06_LanesEither, chV, lgV, ed, et, es, ex, ey, hV, k1, k2, x1', x2, hwa, hwb, hW2, pf_pure, pureF]
      · have x3 : a.t0 + (a.cs.length : Int) ≤ b.t0 := by rcases hap with h | h | h; exact absurd x1 h; exact absurd h x2; exact h
        simp [-oneC, oneC_slice, oneC_int, sf_coblelaw06_LanesEither, chV, lgV, ed, et, es, ex, ey, hV, k1, k2, x1', x2, x3, hwa, hwb, hW2, pf_pure, pureF]
    · have x1' : (a.lv != b.lv) = true := by simpa using x1
      simp [-oneC, oneC_slice, oneC_int, sf_coblelaw06_LanesEither, chV, lgV, ed, et, es, ex, ey, hV, k1, k2, x1', hwa, hwb, hW2, pf_pure, pureF]
  · have x1' : (a.lv != b.lv) = false := by
      have : a.lv = b.lv := Classical.not_not.1 (fun h => hap (.inl h))
      simpa using this
    have x2 : ¬ (b.t0 + (b.cs.length : Int) ≤ a.t0) := fun h => hap (.inr (.inl h))
    have x3 : ¬ (a.t0 + (a.cs.length : Int) ≤ b.t0) := fun h => hap (.inr (.inr h))
    rcases g with ⟨hf, h1, h2⟩ | ⟨m, b1, b2, hf, h1, h2, z1, z2⟩
    · subst h1 h2
      simp [-oneC, oneC_slice, oneC_int, sf_coblelaw06_LanesEither, chV, lgV, ed, et, es, ex, ey, hV, k1, k2, x1', x2, x3, hwa, hwb, pf_pure, pureF]
      generalize hS : ({ t := _, L := _, H := _, lim := _, rd := _ } : St) = S
      obtain ⟨⟨e, s1⟩, hr, g1, g2⟩ := hL S (by subst hS; simp) (by subst hS; simp) (by subst hS; simp) (by subst hS; simp) (by subst hS; simp) (by subst hS; simp [ed, et, es]) (by subst hS; simp [Lg.vals, ex]) (by subst hS; simp [Lg.vals, ey]) (by subst hS; rfl)
      simp [eiLoop, SC.loops, sf_coblelaw06_LanesEither] at hr
      rw [hr]
      simp only at g1 g2
      rcases g2 with ⟨rfl, h7, hl⟩ | ⟨rfl, h6⟩
      · simp [h7, g1, hl, hW2]
      · simp [h6, g1]
    · subst h1 h2
      simp [-oneC, oneC_slice, oneC_int, sf_coblelaw06_LanesEither, chV, lgV, ed, et, es, ex, ey, hV, k1, k2, z1, z2, x1', x2, x3, hwa, hwb, pf_pure, pureF]
      generalize hS : ({ t := _, L := _, H := _, lim := _, rd := _ } : St) = S
      obtain ⟨⟨e, s1⟩, hr, g1, g2⟩ := hL S (by subst hS; simp) (by subst hS; simp) (by subst hS; simp) (by subst hS; simp) (by subst hS; simp) (by subst hS; simp [ed, et, es]) (by subst hS; simp [Lg.vals, ex]) (by subst hS; simp [Lg.vals, ey]) (by subst hS; rfl)
      simp [eiLoop, SC.loops, sf_coblelaw06_LanesEither] at hr
      rw [hr]
      simp only at g1 g2
      rcases g2 with ⟨rfl, h7, hl⟩ | ⟨rfl, h6⟩
      · simp [h7, g1, hl, hW2]
      · simp [h6, g1]
end Go.Proofs.YthobfecblpnnnaaGreatDoor
