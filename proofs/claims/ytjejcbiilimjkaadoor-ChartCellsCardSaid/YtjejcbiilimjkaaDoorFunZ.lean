/- Contracts of the functions, in the abstract machine: the reference's steps, whole; the law ChartCells. -/
import Derived.Test.YtjejcbiilimjkaaDoorFunY
set_option linter.all false
namespace Go.Proofs.YtjejcbiilimjkaaDoor
open Go Go.RowKit

theorem st_d0 (c : Ch) (H : AH) (d t s : Value) (l : List Int) (hl : l.length = c.cells) {n i : Nat} (hi : i < c.cells) (hln : l.getD i 0 ≠ n) (S : St)
    (h5 : tget S.t 5 = .slice (some ⟨H.length, 0, none⟩) c.cells c.cells) (h7 : tget S.t 7 = .int .i64 n) (h8 : tget S.t 8 = .int .i64 i) (h9 : tget S.t 9 = .int .i64 0) (hH : S.H = H ++ [.rw 1 (ints l)]) :
    ∃ q, exL Tryd.prog pf (.loop stD) S = some q ∧ q.1 = .exit 6 ∧ q.2.H = S.H ∧ q.2.L = S.L ∧ q.2.lim = S.lim ∧ tget q.2.t 1 = tget S.t 1 ∧ tget q.2.t 2 = tget S.t 2 ∧ tget q.2.t 5 = tget S.t 5 ∧ tget q.2.t 7 = tget S.t 7 ∧ tget q.2.t 8 = tget S.t 8 := by
  have gi : (ints l)[i]? = some (.int .i64 (l.getD i 0)) := ints_get _ _ (by omega)
  have hb : (l.getD i 0 == (n : Int)) = false := by simpa using hln
  generalize l.getD i 0 = X at *
  rw [exL_loop]
  simp [stD, SC.loops, sf_cobleref01_Steps, h5, h7, h8, h9, hH, hi, gi, hb]

def stI : SC := sf_cobleref01_Steps.body.loops.getD 2 .skip

theorem foldI {w h : Int} (n : Int) (hw : 1 ≤ w) (hh : 1 ≤ h) (l : List Int) : ∀ m : Nat, ((List.range m).foldl (relI w h n) l).length = l.length
  | 0 => rfl
  | m + 1 => by
    rw [List.range_succ, List.foldl_append, List.foldl_cons, List.foldl_nil]
    have ih := foldI n hw hh l m
    generalize (List.range m).foldl (relI w h n) l = l1 at *
    unfold relI
    split
    · rw [(foldD hw hh l1 6 (Nat.le_refl _)).1, ih]
    · exact ih

theorem st_i (c : Ch) (hok : ChOk c) (H : AH) (d t s : Value) (hc : ChIn H c d t s) (l : List Int) (hl : l.length = c.cells) {n : Nat} (hn : n ≤ 1000) (S : St)
    (h2 : tget S.t 2 = .pointer (some ⟨2, 0, some 0⟩)) (h5 : tget S.t 5 = .slice (some ⟨H.length, 0, none⟩) c.cells c.cells) (h7 : tget S.t 7 = .int .i64 n) (h8 : tget S.t 8 = .int .i64 0) (hL : S.L = [(2, 0, .cells [.int .i64 c.w, .int .i64 c.h, d, t, s])]) (hH : S.H = H ++ [.rw 1 (ints l)]) (hlim : S.lim = H.length) :
    ∃ q, exL Tryd.prog pf (.loop stI) S = some q ∧ q.1 = .exit 4 ∧ q.2.H = H ++ [.rw 1 (ints (relN c.w c.h c.cells l n))] ∧ q.2.L = S.L ∧ q.2.lim = S.lim ∧ tget q.2.t 1 = tget S.t 1 ∧ tget q.2.t 2 = tget S.t 2 ∧ tget q.2.t 5 = tget S.t 5 ∧ tget q.2.t 7 = tget S.t 7 := by
  have hw := hok.1.1
  have hh := hok.2.1.1
  obtain ⟨m0, m1, m2⟩ := hok.mul
  refine loop_rule (I := fun m s' => ∃ i, i ≤ c.cells ∧ m = c.cells - i ∧ tget s'.t 1 = tget S.t 1 ∧ tget s'.t 2 = .pointer (some ⟨2, 0, some 0⟩) ∧ tget s'.t 5 = .slice (some ⟨H.length, 0, none⟩) c.cells c.cells ∧ tget s'.t 7 = .int .i64 n ∧ tget s'.t 8 = .int .i64 i ∧ s'.L = S.L ∧ s'.lim = H.length ∧ s'.H = H ++ [.rw 1 (ints ((List.range i).foldl (relI c.w c.h n) l))]) ?_ c.cells S
    ⟨0, by omega, by omega, rfl, h2, h5, h7, h8, rfl, hlim, hH⟩
  rintro m s' ⟨i, hi, rfl, e1, e2, e5, e7, e8, eL, el, eH⟩
  by_cases hlt : i < c.cells
  rotate_left
  · have : i = c.cells := by omega
    subst this
    simp [stI, SC.loops, sf_cobleref01_Steps, e1, e2, e5, e7, e8, eL, el, eH, h2, h5, h7, hlim, relN]
  have hsucc : (List.range (i + 1)).foldl (relI c.w c.h n) l = relI c.w c.h n ((List.range i).foldl (relI c.w c.h n) l) i := by rw [List.range_succ, List.foldl_append, List.foldl_cons, List.foldl_nil]
  have hlen := foldI (n : Int) hw hh l i
  obtain ⟨l1, hl1⟩ : ∃ l1, l1 = (List.range i).foldl (relI c.w c.h n) l := ⟨_, rfl⟩
  rw [← hl1] at eH hsucc hlen
  have hll : l1.length = c.cells := by rw [hlen, hl]
  have hw1 : IntKind.i64.wrap ((i : Int) + 1) = (i : Int) + 1 := wrap_i64 (by omega) (by omega)
  simp [stI, SC.loops, sf_cobleref01_Steps, e1, e2, e5, e7, e8, eL, el, eH, h2, h5, h7, hlt, hlim]
  generalize hS : ({ t := _, L := _, H := _, lim := _, rd := _ } : St) = S2
  have key : ∃ q, exL Tryd.prog pf (.loop stD) S2 = some q ∧ q.1 = .exit 6 ∧ q.2.H = H ++ [.rw 1 (ints (relI c.w c.h n l1 i))] ∧ q.2.L = S2.L ∧ q.2.lim = S2.lim ∧ tget q.2.t 1 = tget S2.t 1 ∧ tget q.2.t 2 = tget S2.t 2 ∧ tget q.2.t 5 = tget S2.t 5 ∧ tget q.2.t 7 = tget S2.t 7 ∧ tget q.2.t 8 = tget S2.t 8 := by
    by_cases hx : l1.getD i 0 = n
    · have := st_d c hok H d t s hc l1 hll hn hlt hx S2 (by subst hS; simp [e2]) (by subst hS; simp [e5]) (by subst hS; simp [e7]) (by subst hS; simp [e8]) (by subst hS; simp) (by subst hS; simp [hL]) (by subst hS; rfl) (by subst hS; rfl)
      unfold relI
      rw [if_pos hx]
      exact this
    · have := st_d0 c H d t s l1 hll hlt hx S2 (by subst hS; simp [e5]) (by subst hS; simp [e7]) (by subst hS; simp [e8]) (by subst hS; simp) (by subst hS; rfl)
      unfold relI
      rw [if_neg hx]
      obtain ⟨q, z1, z2, z3, z4⟩ := this
      exact ⟨q, z1, z2, by rw [z3]; subst hS; rfl, z4⟩
  obtain ⟨⟨e, s1⟩, hr, q1, qH, qL, ql, k1, k2, k5, k7, k8⟩ := key
  simp [stD, SC.loops, sf_cobleref01_Steps] at hr
  rw [hr]
  simp only at q1 qH qL ql k1 k2 k5 k7 k8
  subst q1
  have j1 : tget s1.t 1 = tget S.t 1 := by rw [k1]; subst hS; simp [e1]
  have j2 : tget s1.t 2 = .pointer (some ⟨2, 0, some 0⟩) := by rw [k2]; subst hS; simp [e2]
  have j5 : tget s1.t 5 = .slice (some ⟨H.length, 0, none⟩) c.cells c.cells := by rw [k5]; subst hS; simp [e5]
  have j7 : tget s1.t 7 = .int .i64 n := by rw [k7]; subst hS; simp [e7]
  have j8 : tget s1.t 8 = .int .i64 i := by rw [k8]; subst hS; simp [e8]
  have jL : s1.L = S.L := by rw [qL]; subst hS; rfl
  have jl : s1.lim = H.length := by rw [ql]; subst hS; rfl
  simp [and_assoc, j1, j2, j5, j7, j8, jL, jl, qH, hw1]
  exact ⟨_, by omega, i + 1, by omega, rfl, by omega, by rw [hsucc]⟩

def stN : SC := sf_cobleref01_Steps.body.loops.getD 1 .skip

theorem relN_len {w h : Int} (N : Nat) (hw : 1 ≤ w) (hh : 1 ≤ h) (l : List Int) : ∀ m : Nat, ((List.range m).foldl (relN w h N) l).length = l.length
  | 0 => rfl
  | m + 1 => by
    rw [List.range_succ, List.foldl_append, List.foldl_cons, List.foldl_nil]
    unfold relN
    rw [foldI _ hw hh]
    exact relN_len N hw hh l m

theorem st_n (c : Ch) (hok : ChOk c) (H : AH) (d t s : Value) (hc : ChIn H c d t s) (l : List Int) (hl : l.length = c.cells) (S : St)
    (h2 : tget S.t 2 = .pointer (some ⟨2, 0, some 0⟩)) (h5 : tget S.t 5 = .slice (some ⟨H.length, 0, none⟩) c.cells c.cells) (h7 : tget S.t 7 = .int .i64 0) (hL : S.L = [(2, 0, .cells [.int .i64 c.w, .int .i64 c.h, d, t, s])]) (hH : S.H = H ++ [.rw 1 (ints l)]) (hlim : S.lim = H.length) :
    ∃ q, exL Tryd.prog pf (.loop stN) S = some q ∧ q.1 = .exit 2 ∧ q.2.H = H ++ [.rw 1 (ints ((List.range c.cells).foldl (relN c.w c.h c.cells) l))] ∧ tget q.2.t 5 = tget S.t 5 := by
  have hw := hok.1.1
  have hh := hok.2.1.1
  obtain ⟨m0, m1, m2⟩ := hok.mul
  refine loop_rule (I := fun m s' => ∃ n, n ≤ c.cells ∧ m = c.cells - n ∧ tget s'.t 2 = .pointer (some ⟨2, 0, some 0⟩) ∧ tget s'.t 5 = .slice (some ⟨H.length, 0, none⟩) c.cells c.cells ∧ tget s'.t 7 = .int .i64 n ∧ s'.L = S.L ∧ s'.lim = H.length ∧ s'.H = H ++ [.rw 1 (ints ((List.range n).foldl (relN c.w c.h c.cells) l))]) ?_ c.cells S
    ⟨0, by omega, by omega, h2, h5, h7, rfl, hlim, hH⟩
  rintro m s' ⟨n, hn, rfl, e2, e5, e7, eL, el, eH⟩
  by_cases hlt : n < c.cells
  rotate_left
  · have : n = c.cells := by omega
    subst this
    simp [stN, SC.loops, sf_cobleref01_Steps, e2, e5, e7, eL, el, eH, h2, h5, h7, hlim]
  have hsucc : (List.range (n + 1)).foldl (relN c.w c.h c.cells) l = relN c.w c.h c.cells ((List.range n).foldl (relN c.w c.h c.cells) l) n := by rw [List.range_succ, List.foldl_append, List.foldl_cons, List.foldl_nil]
  have hlen := relN_len c.cells hw hh l n
  obtain ⟨l1, hl1⟩ : ∃ l1, l1 = (List.range n).foldl (relN c.w c.h c.cells) l := ⟨_, rfl⟩
  rw [← hl1] at eH hsucc hlen
  have hll : l1.length = c.cells := by rw [hlen, hl]
  have hw1 : IntKind.i64.wrap ((n : Int) + 1) = (n : Int) + 1 := wrap_i64 (by omega) (by omega)
  simp [stN, SC.loops, sf_cobleref01_Steps, e2, e5, e7, eL, el, eH, h2, h5, h7, hlt, hlim]
  generalize hS : ({ t := _, L := _, H := _, lim := _, rd := _ } : St) = S2
  obtain ⟨⟨e, s1⟩, hr, q1, qH, qL, ql, k1, k2, k5, k7⟩ := st_i c hok H d t s hc l1 hll (n := n) (by omega) S2 (by subst hS; simp [e2]) (by subst hS; simp [e5]) (by subst hS; simp [e7]) (by subst hS; simp) (by subst hS; simp [hL]) (by subst hS; rfl) (by subst hS; rfl)
  simp [stI, SC.loops, sf_cobleref01_Steps] at hr
  rw [hr]
  simp only at q1 qH qL ql k1 k2 k5 k7
  subst q1
  have j2 : tget s1.t 2 = .pointer (some ⟨2, 0, some 0⟩) := by rw [k2]; subst hS; simp [e2]
  have j5 : tget s1.t 5 = .slice (some ⟨H.length, 0, none⟩) c.cells c.cells := by rw [k5]; subst hS; simp [e5]
  have j7 : tget s1.t 7 = .int .i64 n := by rw [k7]; subst hS; simp [e7]
  have jL : s1.L = S.L := by rw [qL]; subst hS; rfl
  have jl : s1.lim = H.length := by rw [ql]; subst hS; rfl
  simp [and_assoc, j2, j5, j7, jL, jl, qH, hw1]
  exact ⟨_, by omega, n + 1, by omega, rfl, by omega, by rw [hsucc]⟩

def stF : SC := sf_cobleref01_Steps.body.loops.getD 0 .skip

def fillT (N i : Nat) : List Int := List.replicate i (N : Int) ++ List.replicate (N - i) 0

theorem rep_cons (i : Nat) (x : Int) (r : List Int) : List.replicate i x ++ x :: r = x :: (List.replicate i x ++ r) := by
  induction i with
  | zero => rfl
  | succ i ih => rw [List.replicate_succ, List.cons_append, ih, List.cons_append]

theorem fillT_set {N i : Nat} (h : i < N) : (fillT N i).set i (N : Int) = fillT N (i + 1) := by
  unfold fillT
  obtain ⟨m, hm⟩ : ∃ m, N - i = m + 1 := ⟨N - i - 1, by omega⟩
  rw [hm, show N - (i + 1) = m by omega, List.set_append_right _ _ (by simp)]
  simp [List.replicate_succ]
  exact rep_cons i _ _

theorem st_f (c : Ch) (hok : ChOk c) (H : AH) (S : St)
    (h5 : tget S.t 5 = .slice (some ⟨H.length, 0, none⟩) c.cells c.cells) (h6 : tget S.t 6 = .int .i64 0) (hH : S.H = H ++ [.rw 1 (ints (fillT c.cells 0))]) (hlim : S.lim = H.length) :
    ∃ q, exL Tryd.prog pf (.loop stF) S = some q ∧ q.1 = .exit 0 ∧ q.2.H = H ++ [.rw 1 (ints (fillT c.cells c.cells))] ∧ q.2.L = S.L ∧ q.2.lim = S.lim ∧ tget q.2.t 1 = tget S.t 1 ∧ tget q.2.t 2 = tget S.t 2 ∧ tget q.2.t 5 = tget S.t 5 := by
  obtain ⟨m0, m1, m2⟩ := hok.mul
  refine loop_rule (I := fun m s' => ∃ i, i ≤ c.cells ∧ m = c.cells - i ∧ tget s'.t 1 = tget S.t 1 ∧ tget s'.t 2 = tget S.t 2 ∧ tget s'.t 5 = .slice (some ⟨H.length, 0, none⟩) c.cells c.cells ∧ tget s'.t 6 = .int .i64 i ∧ s'.L = S.L ∧ s'.lim = H.length ∧ s'.H = H ++ [.rw 1 (ints (fillT c.cells i))]) ?_ c.cells S
    ⟨0, by omega, by omega, rfl, rfl, h5, h6, rfl, hlim, hH⟩
  rintro m s' ⟨i, hi, rfl, e1, e2, e5, e6, eL, el, eH⟩
  by_cases hlt : i < c.cells
  rotate_left
  · have : i = c.cells := by omega
    subst this
    simp [stF, SC.loops, sf_cobleref01_Steps, e1, e2, e5, e6, eL, el, eH, h5, hlim]
  have hw1 : IntKind.i64.wrap ((i : Int) + 1) = (i : Int) + 1 := wrap_i64 (by omega) (by omega)
  have hfl : i + 1 ≤ (fillT c.cells i).length := by simp [fillT]; omega
  have hset := fillT_set hlt
  obtain ⟨l1, hl1⟩ : ∃ l1, l1 = fillT c.cells i := ⟨_, rfl⟩
  rw [← hl1] at eH hfl hset
  simp [stF, SC.loops, sf_cobleref01_Steps, e1, e2, e5, e6, eL, el, eH, h5, hlim, hlt, hw1, ints_length, hfl, ints_set]
  exact ⟨_, by omega, i + 1, by omega, rfl, by omega, by rw [hset]⟩

theorem zeros_ints : ∀ n : Nat, zeros [.int .i64 0] n = ints (List.replicate n 0)
  | 0 => rfl
  | n + 1 => by simp only [zeros, zeros_ints n, List.replicate_succ, ints, List.map_cons]; rfl

/-- What Steps returns. -/
def stepsL (c : Ch) (a : Nat) : List Int := (List.range c.cells).foldl (relN c.w c.h c.cells) ((List.replicate c.cells (c.cells : Int)).set a 0)

theorem run_Steps (c : Ch) (hok : ChOk c) (lim : Nat) (H : AH) (d t s : Value) (hc : ChIn H c d t s) {a : Nat} (ha : a < c.cells) :
    apL Tryd.prog pf (.func (.func 57) #[] #[]) [chV c d t s, .int .i64 a] lim H = some (.slice (some ⟨H.length, 0, none⟩) c.cells c.cells, H ++ [.rw 1 (ints (stepsL c a))]) := by
  rw [apL_func _ _ _ _ _ _ (by rfl), sf_cobleref01_Steps_eq]
  obtain ⟨m0, m1, m2⟩ := hok.mul
  have hC := fun lim => run_CellsCh c lim H d t s
  have hwm : IntKind.i64.wrap (c.w * c.h) = (c.cells : Int) := by rw [m2]; exact wrap_i64 (by omega) (by omega)
  have hmx : c.cells ≤ maxA := Nat.le_trans (show c.cells ≤ 144 by omega) (by decide)
  have hc' := hc
  obtain ⟨⟨da, dc, ed, _⟩, ⟨ta, tc, et, _⟩, ⟨sa, sc, es, _⟩, _, _, _⟩ := hc'
  simp only [chV, ed, et, es, hwm] at hC
  simp [sf_cobleref01_Steps, chV, ed, et, es, hC, hmx, zeros_ints, pf_pure, pureF]
  generalize hS : ({ t := _, L := _, H := _, lim := _, rd := _ } : St) = S
  obtain ⟨⟨e, s1⟩, hr, q1, qH, qL, ql, k1, k2, k5⟩ := st_f c hok H S (by subst hS; simp) (by subst hS; simp) (by subst hS; simp [fillT]) (by subst hS; rfl)
  simp [stF, SC.loops, sf_cobleref01_Steps] at hr
  rw [hr]
  simp only at q1 qH qL ql k1 k2 k5
  subst q1
  have j1 : tget s1.t 1 = .int .i64 a := by rw [k1]; subst hS; simp
  have j2 : tget s1.t 2 = .pointer (some ⟨2, 0, some 0⟩) := by rw [k2]; subst hS; simp
  have j5 : tget s1.t 5 = .slice (some ⟨H.length, 0, none⟩) c.cells c.cells := by rw [k5]; subst hS; simp
  have jL : s1.L = [(2, 0, .cells [.int .i64 c.w, .int .i64 c.h, d, t, s])] := by rw [qL]; subst hS; simp [ed, et, es]
  have jl : s1.lim = H.length := by rw [ql]; subst hS; rfl
  have hf : fillT c.cells c.cells = List.replicate c.cells (c.cells : Int) := by simp [fillT]
  rw [hf] at qH
  have hal : a + 1 ≤ (List.replicate c.cells (c.cells : Int)).length := by simp; omega
  obtain ⟨l0, hl0⟩ : ∃ l0, l0 = List.replicate c.cells (c.cells : Int) := ⟨_, rfl⟩
  rw [← hl0] at qH hal
  simp [j1, j2, j5, jL, jl, qH, ha, ints_length, hal, ints_set]
  generalize hS2 : ({ t := _, L := _, H := _, lim := _, rd := _ } : St) = S2
  obtain ⟨⟨e, s2⟩, hr2, y1, yH, y5⟩ := st_n c hok H d t s hc (l0.set a 0) (by rw [List.length_set, hl0]; simp) S2 (by subst hS2; simp [j2]) (by subst hS2; simp [j5]) (by subst hS2; simp) (by subst hS2; simp [ed, et, es]) (by subst hS2; rfl) (by subst hS2; rfl)
  simp [stN, SC.loops, sf_cobleref01_Steps] at hr2
  rw [hr2]
  simp only at y1 yH y5
  subst y1
  have z5 : tget s2.t 5 = .slice (some ⟨H.length, 0, none⟩) c.cells c.cells := by rw [y5]; subst hS2; simp [j5]
  simp [z5, yH, pf_pure, pureF, stepsL, hl0]

theorem run_refApart (c : Ch) (lim : Nat) (H : AH) (d t s : Value) (hc : ChIn H c d t s) (a b : Int) :
    apL Tryd.prog pf (.func (.func 18) #[] #[]) [chV c d t s, .int .i64 a, .int .i64 b] lim H = some (.tuple #[.int .i64 (apartN c a b), .int .i64 (openE c [a, b] [])], H) := by
  rw [apL_func _ _ _ _ _ _ (by rfl), sf_cobleref01_Apart_eq]
  by_cases hok : ChOk c
  rotate_left
  · have hK := fun lim => run_CheckF c lim H d t s hc hok
    have h0 := openE_bad hok [a, b] []
    obtain ⟨⟨da, dc, ed, _⟩, ⟨ta, tc, et, _⟩, ⟨sa, sc, es, _⟩, _, _, _⟩ := hc
    simp only [chV, ed, et, es] at hK
    simp [sf_cobleref01_Apart, chV, ed, et, es, hK, apartN, h0, pf_pure, pureF]
  have hK := fun lim => run_CheckT c lim H d t s hc hok
  have hI := fun x lim => run_IsCellOk c hok x lim H d t s hc
  have hB := fun {i : Nat} (hi : i < c.cells) lim => run_Steps c hok lim H d t s hc hi
  obtain ⟨⟨da, dc, ed, _⟩, ⟨ta, tc, et, _⟩, ⟨sa, sc, es, _⟩, _, _, _⟩ := hc
  simp only [chV, ed, et, es] at hK hI hB
  cases ha : inN c.cells a
  · have h0 : openE c [a, b] [] = 1 := by rw [openE_eq hok]; simp [ha]
    simp [sf_cobleref01_Apart, chV, ed, et, es, hK, hI, ha, apartN, h0, pf_pure, pureF]
  cases hb : inN c.cells b
  · have h0 : openE c [a, b] [] = 1 := by rw [openE_eq hok]; simp [ha, hb]
    simp [sf_cobleref01_Apart, chV, ed, et, es, hK, hI, ha, hb, apartN, h0, pf_pure, pureF]
  have h0 : openE c [a, b] [] = 0 := by rw [openE_eq hok]; simp [ha, hb]
  have ha' := ha
  have hb' := hb
  obtain ⟨i, hi, rfl⟩ := inN_iff.1 ha'
  obtain ⟨k, hk, rfl⟩ := inN_iff.1 hb'
  have hS := fun lim => hB hi lim
  have hlen : (stepsL c i).length = c.cells := by unfold stepsL; rw [relN_len c.cells hok.1.1 hok.2.1.1]; simp
  have hend : (stepsL c i).getD k 0 = apt c.w i k := ring_end hok.1.1 hok.2.1.1 hok.mul.2.2 hi hk
  have g := ints_get (stepsL c i) k (by omega)
  rw [hend] at g
  generalize stepsL c i = l at *
  simp [sf_cobleref01_Apart, chV, ed, et, es, hK, hI, ha, hb, hS, hk, g, apartN, h0, pf_pure, pureF]

theorem cells_law (c : Ch) (lim : Nat) (H : AH) (hG : H[waysG]? = some (.ro waysV)) (d t s : Value) (hs : ChSl H c d t s) (a b : Int) :
    apL Tryd.prog pf (.func (.func 3) #[] #[]) [chV c d t s, .int .i64 a, .int .i64 b] lim H = some (.bool true, H) := by
  rw [apL_func _ _ _ _ _ _ (by rfl), sf_coblelaw01_ChartCells_eq]
  by_cases hf : Far c
  · have hV := fun lim => run_VastFar c lim H d t s hs hf
    have hW := fun lim => run_works lim H hG
    obtain ⟨⟨da, dc, ed, _⟩, ⟨ta, tc, et, _⟩, ⟨sa, sc, es, _⟩⟩ := hs
    simp only [chV, ed, et, es] at hV
    simp [sf_coblelaw01_ChartCells, chV, ed, et, es, hV, hW, pf_pure, pureF]
  have hc := hs.near hf
  have hl := Far.short hf
  have hV := fun lim => run_VastF c lim H d t s hc hf
  obtain ⟨d', t', s', hC, hc'⟩ := run_Copy c H.length H d t s hc hl
  have hcA : ChIn (H ++ copyB c) c d t s := hc.ext (Ext.push H _)
  have hGA := hG_ext (copyB c) hG
  have hW := fun lim => run_works lim (H ++ copyB c) hGA
  have w1 := fun lim => run_Next c lim (H ++ copyB c) hGA d' t' s' hc' a b
  have w2 := fun lim => run_refNext c lim (H ++ copyB c) d t s hcA a b
  have w3 := fun lim => run_Apart c lim (H ++ copyB c) d' t' s' hc' a b
  have w4 := fun lim => run_refApart c lim (H ++ copyB c) d t s hcA a b
  have w5 := fun lim => run_chartCheck c lim (H ++ copyB c) d' t' s' hc'
  have w6 := fun lim => run_Check c lim (H ++ copyB c) d t s hcA
  obtain ⟨⟨da, dc, ed, _⟩, ⟨ta, tc, et, _⟩, ⟨sa, sc, es, _⟩, _, _, _⟩ := hc
  obtain ⟨⟨da', dc', ed', _⟩, ⟨ta', tc', et', _⟩, ⟨sa', sc', es', _⟩, _, _, _⟩ := hc'
  simp only [chV, ed, et, es, ed', et', es'] at hV hC w1 w2 w3 w4 w5 w6
  simp [sf_coblelaw01_ChartCells, chV, ed, et, es, hV, hC, hW, w1, w2, w3, w4, w5, w6, pf_pure, pureF]
end Go.Proofs.YtjejcbiilimjkaaDoor
