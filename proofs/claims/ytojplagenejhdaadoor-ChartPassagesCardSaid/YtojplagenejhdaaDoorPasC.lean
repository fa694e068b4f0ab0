/- Contracts of the functions, in the abstract machine: the next tick's moves. -/
import Derived.Test.YtojplagenejhdaaDoorPasB
set_option linter.all false
namespace Go.Proofs.YtojplagenejhdaaDoor
open Go Go.RowKit

theorem ChOk.pos {c : Ch} (hok : ChOk c) : 0 < c.cells ∧ c.cells ≤ 144 := by
  obtain ⟨m0, m1, m2⟩ := hok.mul
  have h : 0 < c.w * c.h := Int.mul_pos (by have := hok.1.1; omega) (by have := hok.2.1.1; omega)
  omega

theorem run_nowhere (c : Ch) (hok : ChOk c) (lim : Nat) (H : AH) (d t s : Value) (hc : ChIn H c d t s) (g : Int) :
    apL Tryd.prog pf (.func (.func 70) #[] #[]) [boV c d t s g] lim H = some (.slice (some ⟨H.length + 1, 0, none⟩) c.cells c.cells, H ++ [.rw 1 [.int .i64 (-1)], .rw 1 (ints (List.replicate c.cells (-1)))]) := by
  rw [apL_func _ _ _ _ _ _ (by rfl), sf_chart_boat_nowhere_eq]
  obtain ⟨p0, p1⟩ := hok.pos
  have hR := fun lim => run_Repeat c.cells p0 (by omega) lim (H ++ [.rw 1 [.int .i64 (-1)]]) H.length (by simp)
  obtain ⟨⟨da, dc, ed, _⟩, ⟨ta, tc, et, _⟩, ⟨sa, sc, es, _⟩, _, _, _⟩ := hc
  simp only [Ch.cells, List.append_assoc, List.length_append, List.length_cons, List.length_nil, Nat.zero_add, List.cons_append, List.nil_append] at hR
  simp [sf_chart_boat_nowhere, boV, ed, et, es, hR, Ch.cells, pf_pure, pureF]

/-- The least numbers of moves in the next tick k. -/
def aftL (c : Ch) (g : Int) (l : List Int) (k : Nat) : List Int := (List.range c.cells).map fun i => if c.sure g i k = true then fewN c.w c.h l i 6 else -1
/-- The first n of them. -/
def aftT (c : Ch) (g : Int) (l : List Int) (k n : Nat) : List Int := ((List.range n).map fun i => if c.sure g i k = true then fewN c.w c.h l i 6 else -1) ++ List.replicate (c.cells - n) (-1)

theorem aftT_zero (c : Ch) (g : Int) (l : List Int) (k : Nat) : aftT c g l k 0 = List.replicate c.cells (-1) := by simp [aftT]
theorem aftT_all (c : Ch) (g : Int) (l : List Int) (k : Nat) : aftT c g l k c.cells = aftL c g l k := by simp [aftT, aftL]
theorem aftT_len (c : Ch) (g : Int) (l : List Int) (k n : Nat) (h : n ≤ c.cells) : (aftT c g l k n).length = c.cells := by simp [aftT]; omega
theorem aftT_set (c : Ch) (g : Int) (l : List Int) (k n : Nat) (h : n < c.cells) : aftT c g l k (n + 1) = if c.sure g n k = true then (aftT c g l k n).set n (fewN c.w c.h l n 6) else aftT c g l k n := by
  unfold aftT
  obtain ⟨m, hm⟩ : ∃ m, c.cells - n = m + 1 := ⟨c.cells - n - 1, by omega⟩
  rw [show c.cells - (n + 1) = m by omega, hm, List.range_succ, List.map_append, List.append_assoc, List.set_append_right _ _ (by simp)]
  split <;> rename_i hs <;> simp [hs, List.replicate_succ]

def aftLoop : SC := sf_chart_boat_after.body.loops.headD .skip

theorem aft_loop (c : Ch) (hok : ChOk c) (H : AH) (hG : H[waysG]? = some (.ro waysV)) (d t s mv : Value) (hc : ChIn H c d t s) (g : Int) (l : List Int) (hl : l.length = c.cells) (hb : ∀ x ∈ l, -1 ≤ x ∧ x ≤ 1000) (hmv : Sl H mv l.length (ints l)) {k : Nat} (hk : k < c.ticks) (b : Nat) (hbl : H.length = b) (S : St)
    (h1 : tget S.t 1 = mv) (h2 : tget S.t 2 = .int .i64 k) (h3 : tget S.t 3 = .pointer (some ⟨3, 0, some 0⟩)) (h7 : tget S.t 7 = .slice (some ⟨b, 0, none⟩) c.cells c.cells) (h12 : tget S.t 12 = .int .i64 c.cells) (h13 : tget S.t 13 = .int .i64 0)
    (hL : S.L = [(3, 0, .cells [.int .i64 c.w, .int .i64 c.h, d, t, s, .int .i64 g])]) (hH : S.H = H ++ [.rw 1 (ints (aftT c g l k 0))]) (hlim : S.lim ≤ b) :
    ∃ q, exL Tryd.prog pf (.loop aftLoop) S = some q ∧ q.1 = .exit 0 ∧ tget q.2.t 7 = tget S.t 7 ∧ q.2.L = S.L ∧ q.2.H = H ++ [.rw 1 (ints (aftL c g l k))] := by
  subst hbl
  rw [← aftT_all]
  obtain ⟨p0, p1⟩ := hok.pos
  refine loop_rule (I := fun m s' => ∃ i, i ≤ c.cells ∧ m = c.cells - i ∧ tget s'.t 1 = mv ∧ tget s'.t 2 = .int .i64 k ∧ tget s'.t 3 = .pointer (some ⟨3, 0, some 0⟩) ∧ tget s'.t 7 = .slice (some ⟨H.length, 0, none⟩) c.cells c.cells ∧ tget s'.t 12 = .int .i64 c.cells ∧ tget s'.t 13 = .int .i64 i ∧ s'.L = S.L ∧ s'.lim ≤ H.length ∧ s'.H = H ++ [.rw 1 (ints (aftT c g l k i))]) ?_ c.cells S
    ⟨0, by omega, by omega, h1, h2, h3, h7, h12, h13, rfl, hlim, hH⟩
  rintro m s' ⟨i, hi, rfl, e1, e2, e3, e7, e12, e13, eL, el, eH⟩
  by_cases hlt : i < c.cells
  rotate_left
  · have : i = c.cells := by omega
    subst this
    simp [aftLoop, SC.loops, sf_chart_boat_after, e1, e2, e3, e7, e12, e13, eL, eH, h7]
  have hsucc := aftT_set c g l k i hlt
  have hlen := aftT_len c g l k i hi
  obtain ⟨cs, hcs⟩ : ∃ cs, cs = ints (aftT c g l k i) := ⟨_, rfl⟩
  rw [← hcs] at eH
  have hF := fun lim => run_fewest c hok lim (H ++ [.rw 1 cs]) (hG_ext _ hG) d t s mv (hc.ext (Ext.push H _)) g l hl hb (hmv.ext (Ext.push H _)) hlt
  have hS := fun lim => run_surely c hok lim (H ++ [.rw 1 cs]) d t s (hc.ext (Ext.push H _)) g hlt hk
  have hw1 : IntKind.i64.wrap ((i : Int) + 1) = (i : Int) + 1 := wrap_i64 (by omega) (by omega)
  have hn1 : nl mv = true := by obtain ⟨_, _, rfl, _⟩ := hmv; simp
  have hset : cs.set i (.int .i64 (fewN c.w c.h l i 6)) = ints ((aftT c g l k i).set i (fewN c.w c.h l i 6)) := by rw [hcs]; simp [ints, List.map_set]
  have hle : i + 1 ≤ cs.length := by rw [hcs, ints_length]; omega
  have hu : isU mv = false ∧ mv.cells = #[mv] := by obtain ⟨_, _, rfl, _⟩ := hmv; exact ⟨rfl, rfl⟩
  obtain ⟨⟨da, dc, ed, _⟩, ⟨ta, tc, et, _⟩, ⟨sa, sc, es, _⟩, _, _, _⟩ := hc
  rw [hL] at eL
  simp only [boV, ed, et, es] at hF hS eL hL
  cases hx : c.sure g i k with
  | false =>
    rw [hx] at hsucc
    simp only [Bool.false_eq_true, if_false] at hsucc
    simp [aftLoop, SC.loops, sf_chart_boat_after, e1, e2, e3, e7, e12, e13, eL, eH, el, hlt, hS, hx, hw1, h7, hL]
    exact ⟨_, by omega, i + 1, by omega, rfl, by omega, by rw [hsucc, hcs]⟩
  | true =>
    rw [hx] at hsucc
    simp only [if_true] at hsucc
    simp [aftLoop, SC.loops, sf_chart_boat_after, e1, e2, e3, e7, e12, e13, eL, eH, el, hlt, hS, hx, hw1, hF, hn1, hle, hset, h7, hL]
    exact ⟨_, by omega, i + 1, by omega, rfl, by omega, by rw [hsucc]⟩

theorem run_after (c : Ch) (hok : ChOk c) (lim : Nat) (H : AH) (hG : H[waysG]? = some (.ro waysV)) (d t s mv : Value) (hc : ChIn H c d t s) (g : Int) (l : List Int) (hl : l.length = c.cells) (hb : ∀ x ∈ l, -1 ≤ x ∧ x ≤ 1000) (hmv : Sl H mv l.length (ints l)) {k : Nat} (hk : k < c.ticks) :
    apL Tryd.prog pf (.func (.func 87) #[] #[]) [boV c d t s g, mv, .int .i64 k] lim H = some (.slice (some ⟨H.length + 1, 0, none⟩) c.cells c.cells, H ++ [.rw 1 [.int .i64 (-1)], .rw 1 (ints (aftL c g l k))]) := by
  rw [apL_func _ _ _ _ _ _ (by rfl), sf_chart_boat_after_eq]
  have hN := fun lim => run_nowhere c hok lim H d t s hc g
  have hc' := hc
  obtain ⟨⟨da, dc, ed, _⟩, ⟨ta, tc, et, _⟩, ⟨sa, sc, es, _⟩, _, _, _⟩ := hc
  simp only [boV, ed, et, es] at hN
  simp [sf_chart_boat_after, boV, ed, et, es, hN, pf_pure, pureF]
  generalize hS : ({ t := _, L := _, H := _, lim := _, rd := _ } : St) = S
  obtain ⟨⟨e, s1⟩, hr, q1, q7, qL, qH⟩ := aft_loop c hok (H ++ [.rw 1 [.int .i64 (-1)]]) (hG_ext _ hG) d t s mv (hc'.ext (Ext.push H _)) g l hl hb (hmv.ext (Ext.push H _)) hk (H.length + 1) (by simp) S (by subst hS; simp) (by subst hS; simp) (by subst hS; simp) (by subst hS; simp) (by subst hS; simp) (by subst hS; simp) (by subst hS; simp [ed, et, es]) (by subst hS; simp [aftT_zero]) (by subst hS; simp)
  simp [aftLoop, SC.loops, sf_chart_boat_after] at hr
  rw [hr]
  simp only at q1 q7 qL qH
  subst q1
  have j7 : tget s1.t 7 = .slice (some ⟨H.length + 1, 0, none⟩) c.cells c.cells := by rw [q7]; subst hS; simp
  simp [j7, qH]
end Go.Proofs.YtojplagenejhdaaDoor
