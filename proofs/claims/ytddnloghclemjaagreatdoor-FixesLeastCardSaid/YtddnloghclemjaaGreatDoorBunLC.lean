import Derived.Test.YtddnloghclemjaaGreatDoorBunLB
set_option linter.all false
namespace Go.Proofs.YtddnloghclemjaaGreatDoor
open Go Go.RowKit
theorem tb_row {A : AH} {v : Value} {n : Nat} {l : Nat → List Value} (h : Tb A v n l) {k : Nat} (hk : k < n) :
    ∃ b o c w, v = .slice (some ⟨b, o, none⟩) n c ∧ hcell A b (o + k) = some w ∧ Sl A w (l k).length (l k) := by
  obtain ⟨rv, h1, ⟨a, c, rfl, h2⟩, h3⟩ := h
  obtain ⟨b, o, rfl, h4⟩ := h2 k rv[k] (List.getElem?_eq_getElem (by omega))
  exact ⟨b, o, c, _, rfl, h4, h3 k (by omega)⟩
theorem tb_cell {A : AH} {v : Value} {n : Nat} {l : Nat → List Value} (h : Tb A v n l) {k i : Nat} (hk : k < n) (hi : i < (l k).length) :
    ∃ b o c b' o' c', v = .slice (some ⟨b, o, none⟩) n c ∧ hcell A b (o + k) = some (.slice (some ⟨b', o', none⟩) (l k).length c') ∧ hcell A b' (o' + i) = some (l k)[i] := by
  obtain ⟨b, o, c, w, e, g, ⟨a', c', rfl, h5⟩⟩ := tb_row h hk
  obtain ⟨b', o', rfl, h6⟩ := h5 i (l k)[i] (by simp [hi])
  exact ⟨b, o, c, b', o', c', e, g, h6⟩
def IsPr (H : AH) (f : Value) (T n : Nat) (p : Nat → Nat → Int) : Prop := (nl f = true ∧ isU f = false ∧ f.cells = #[f]) ∧ ∀ H', Ext H H' → ∀ k i, k < T → i < n → ∀ lim, apL Tryz.prog pf f [.int .i64 k, .int .i64 i] lim H' = some (.int .i64 (p k i), H')
theorem IsPr.ext {H H' : AH} (h : Ext H H') {f : Value} {T n : Nat} {p : Nat → Nat → Int} (k : IsPr H f T n p) : IsPr H' f T n p := ⟨k.1, fun H'' h2 => k.2 H'' (h.trans h2)⟩
def partP (x : Ds) (fl : Nat → Bool) (p : Nat → Int) (prev : List Int) (i : Nat) : List Int := (List.range i).map (payV x fl p prev) ++ List.replicate (x.ch.cells - i) topN
theorem partP_len {x : Ds} {fl : Nat → Bool} {p : Nat → Int} {prev : List Int} {i : Nat} (h : i ≤ x.ch.cells) : (partP x fl p prev i).length = x.ch.cells := by simp [partP]; omega
theorem partP_set {x : Ds} {fl : Nat → Bool} {p : Nat → Int} {prev : List Int} {i : Nat} (h : i < x.ch.cells) : (partP x fl p prev i).set i (payV x fl p prev i) = partP x fl p prev (i + 1) := by
  unfold partP
  rw [List.set_append_right _ _ (by simp)]
  have : x.ch.cells - i = (x.ch.cells - (i + 1)) + 1 := by omega
  rw [this, List.replicate_succ]
  simp [List.range_succ]
theorem partP_same {x : Ds} {fl : Nat → Bool} {p : Nat → Int} {prev : List Int} {i : Nat} (h : i < x.ch.cells) (e : payV x fl p prev i = topN) : partP x fl p prev (i + 1) = partP x fl p prev i := by
  rw [← partP_set h, e]
  apply List.ext_getElem?
  intro c
  by_cases hc : i = c
  · subst hc
    rw [List.getElem?_set_self (by rw [partP_len (by omega)]; exact h)]
    unfold partP
    rw [List.getElem?_append_right (by simp)]
    simp only [List.length_map, List.length_range, Nat.sub_self, List.getElem?_replicate]
    rw [if_pos (by omega)]
  · rw [List.getElem?_set_ne hc]
theorem partP_end {x : Ds} {fl : Nat → Bool} {p : Nat → Int} {prev : List Int} : partP x fl p prev x.ch.cells = payN x fl p prev := by simp [partP, payN]
theorem ints_set' (l : List Int) (i : Nat) (v : Int) : (ints l).set i (.int .i64 v) = ints (l.set i v) := by simp [ints, List.map_set]
theorem min_comm_val (q : Int) : min topN q = if q < 1201 then q else 1201 := by have : topN = 1201 := rfl; split <;> omega
def paLoop : SC := sf_fixes_search_pay.body.loops.headD .skip
set_option maxHeartbeats 1000000 in
theorem pay_loop (x : Ds) (hok : ChOk x.ch) (hdo : dsOk x = true) (H : AH) (d t s r a b e f pv : Value) (h : DsIn H x d t s r) (fl : Nat → Nat → Bool) (hsr : SrIn H x fl a b e) (p : Nat → Nat → Int) (hp : IsPr H f x.ch.ticks x.ch.cells p) (prev : List Int) (hpl : prev.length = x.ch.cells) (hpv : Sl H pv prev.length (ints prev)) (hpb : ∀ j, 0 ≤ prev.getD j 0 ∧ prev.getD j 0 ≤ topN) {k : Nat} (hk : k < x.ch.ticks) (hp0 : ∀ i, i < x.ch.cells → 0 ≤ p k i)
    (S : St) (h1 : tget S.t 1 = f) (h2 : tget S.t 2 = .int .i64 k) (h3 : tget S.t 3 = pv) (h4 : tget S.t 4 = .pointer (some ⟨4, 0, some 0⟩)) (h9 : tget S.t 9 = .slice (some ⟨H.length + 1, 0, none⟩) x.ch.cells x.ch.cells) (h17 : tget S.t 17 = .int .i64 x.ch.cells) (h18 : tget S.t 18 = .int .i64 0)
    (hL : lget S.L 4 = some (0, .cells (sV x d t s r a b e))) (hH : S.H = H ++ [.rw 1 [.int .i64 1201], .rw 1 (ints (partP x (fl k) (p k) prev 0))]) (hlim : S.lim ≤ H.length) :
    ∃ q, exL Tryz.prog pf (.loop paLoop) S = some q ∧ q.1 = .exit 0 ∧ q.2.H = H ++ [.rw 1 [.int .i64 1201], .rw 1 (ints (payN x (fl k) (p k) prev))] ∧ tget q.2.t 9 = tget S.t 9 := by
  obtain ⟨m0, m1, m2⟩ := hok.mul
  have h0 := h
  have ha0 := hsr.near.one
  have hb0 := hsr.flo.one
  have he0 := hsr.unt.one
  obtain ⟨⟨⟨da, dc, ed, _⟩, ⟨ta, tc, et, _⟩, ⟨sa, sc, es, _⟩, _, htl, _⟩, ⟨ra, rc, er, _⟩, _⟩ := h
  obtain ⟨e1', e2', e3', ee⟩ := he0
  refine loop_rule (I := fun m s' => ∃ i, i ≤ x.ch.cells ∧ m = x.ch.cells - i ∧ tget s'.t 1 = f ∧ tget s'.t 2 = .int .i64 k ∧ tget s'.t 3 = pv ∧ tget s'.t 4 = .pointer (some ⟨4, 0, some 0⟩) ∧ tget s'.t 9 = .slice (some ⟨H.length + 1, 0, none⟩) x.ch.cells x.ch.cells ∧ tget s'.t 17 = .int .i64 x.ch.cells ∧ tget s'.t 18 = .int .i64 i ∧ lget s'.L 4 = some (0, .cells (sV x d t s r a b e)) ∧ s'.lim = S.lim ∧ s'.H = H ++ [.rw 1 [.int .i64 1201], .rw 1 (ints (partP x (fl k) (p k) prev i))]) ?_ x.ch.cells S
    ⟨0, by omega, by omega, h1, h2, h3, h4, h9, h17, h18, hL, rfl, hH⟩
  rintro m s' ⟨i, hi, rfl, e1, e2, e3, e4, e9, e17, e18, eL, el, eH⟩
  by_cases hlt : i < x.ch.cells
  rotate_left
  · have : i = x.ch.cells := by omega
    subst this
    rw [partP_end] at eH
    simp [paLoop, SC.loops, sf_fixes_search_pay, e17, e18, e9, eH, h9]
  obtain ⟨A, hA⟩ : ∃ A, A = H ++ [.rw 1 [.int .i64 1201], .rw 1 (ints (partP x (fl k) (p k) prev i))] := ⟨_, rfl⟩
  rw [← hA] at eH
  have hE : Ext H A := by rw [hA]; exact Ext.push H _
  have hAl : A.length = H.length + 2 := by rw [hA]; simp
  have hsA := hsr.ext hE
  obtain ⟨fb, fo, fc, fb', fo', fc', efl, f1, f2⟩ := tb_cell hsA.flo hk (i := i) (by simpa [bools] using hlt)
  obtain ⟨nb, no, nc, nw, enr, n1, n2⟩ := tb_row hsA.near hlt
  have hbf : (bools ((List.range x.ch.cells).map (fl k)))[i]? = some (.bool (fl k i)) := by simp [bools, hlt]
  have f2' : hcell A fb' (fo' + i) = some (.bool (fl k i)) := by
    rw [f2]
    rw [List.getElem?_eq_getElem (by simpa [bools] using hlt)] at hbf
    exact hbf
  have hbl : (bools ((List.range x.ch.cells).map (fl k))).length = x.ch.cells := by simp [bools]
  simp only [hbl] at f1
  have hpr := fun lim => hp.2 A hE k i hk hlt lim
  obtain ⟨hnf, huf, hcf⟩ := hp.1
  have hself := hops_self hdo i
  have h0l := upto_pos hlt hself
  have hnl2 : (nearV x i).length = (upto (hops x i) x.ch.cells).length := by simp [nearV, nearI, ints]
  have hch := fun lim => run_cheapest x (upto (hops x i) x.ch.cells) (by have := List.length_filter_le (hops x i) (List.range x.ch.cells); simp [upto] at this ⊢; omega) prev (fun j hj => by rw [hpl]; exact (upto_mem.1 hj).1) h0l lim A d t s r a b e nw pv (h0.ext hE) hsA.near.one hsA.flo.one hsA.unt.one (by rw [← hnl2]; exact n2) (hpv.ext hE)
  have hck : cheapM (fun j => prev.getD j 0) (upto (hops x i) x.ch.cells)[0] (upto (hops x i) x.ch.cells) < prev.length := by
    rcases cheapM_mem (fun j => prev.getD j 0) (upto (hops x i) x.ch.cells) (upto (hops x i) x.ch.cells)[0] with h | h
    · rw [h, hpl]; exact (upto_mem.1 (List.getElem_mem h0l)).1
    · rw [hpl]; exact (upto_mem.1 h).1
  have hpay : payV x (fl k) (p k) prev i = if fl k i && decide (p k i < topN) then min topN (p k i + prev.getD (cheapM (fun j => prev.getD j 0) (upto (hops x i) x.ch.cells)[0] (upto (hops x i) x.ch.cells)) 0) else topN := by
    unfold payV
    rw [headD_zero h0l]
  have hset := partP_set (x := x) (fl := fl k) (p := p k) (prev := prev) hlt
  have hsame := fun e => partP_same (x := x) (fl := fl k) (p := p k) (prev := prev) hlt e
  have hplen := partP_len (x := x) (fl := fl k) (p := p k) (prev := prev) hi
  have hP0 := hp0 i hlt
  generalize hcc : cheapM (fun j => prev.getD j 0) (upto (hops x i) x.ch.cells)[0] (upto (hops x i) x.ch.cells) = c at *
  have hcb := hpb c
  obtain ⟨pb, po, epv, g1⟩ : ∃ pb po pc, pv = .slice (some ⟨pb, po, none⟩) prev.length pc ∧ hcell A pb (po + c) = some (.int .i64 (prev.getD c 0)) := by
    obtain ⟨pa, pc, e, hd⟩ := hpv.ext hE
    obtain ⟨pb, po, rfl, g⟩ := hd c _ (ints_get prev c hck)
    exact ⟨pb, po, pc, e, g⟩
  obtain ⟨epv, g1⟩ := g1
  generalize hV : payV x (fl k) (p k) prev i = V at *
  generalize hC : prev.getD c 0 = C at *
  generalize hP : p k i = P at *
  have hT0 : topN = 1201 := rfl
  have hw1 : IntKind.i64.wrap ((i : Int) + 1) = (i : Int) + 1 := wrap_i64 (by omega) (by omega)
  simp only [hcell] at f1 f2' n1 g1
  have hAg : A[H.length + 1]? = some (.rw 1 (ints (partP x (fl k) (p k) prev i))) := by rw [hA, List.getElem?_append_right (by omega)]; simp
  have eL0 := eL
  simp only [sV, srV, ed, et, es, er, efl, enr, ee] at eL hch
  have hpl2 : (ints (partP x (fl k) (p k) prev i)).length = x.ch.cells := by rw [ints_length, hplen]
  have hii : i + 1 ≤ x.ch.cells := hlt
  have hSl : S.lim ≤ H.length + 1 := by omega
  obtain ⟨na, ncp, enw, _⟩ := n2
  rw [enw] at hch n1
  rw [epv] at hch e3
  cases hfl : fl k i with
  | false =>
    rw [hfl] at f2' hpay
    simp only [Bool.false_and, Bool.false_eq_true, if_false] at hpay
    simp [paLoop, SC.loops, sf_fixes_search_pay, e1, e2, e3, e4, e9, e17, e18, eL, el, eH, hlt, f1, f2', hk, hw1]
    exact ⟨_, by omega, i + 1, by omega, rfl, epv.symm, by omega, by rw [ed, et, es, er, efl, enr, ee]; rfl, by rw [hsame hpay, hA]⟩
  | true =>
    rw [hfl] at f2' hpay
    simp only [Bool.true_and, decide_eq_true_eq] at hpay
    by_cases hPt : P < 1201
    · have hw2 : IntKind.i64.wrap (P + C) = P + C := wrap_i64 (by omega) (by omega)
      simp [paLoop, SC.loops, sf_fixes_search_pay, e1, e2, e3, e4, e9, e17, e18, eL, el, eH, hlt, f1, f2', hk, hw1, hpr, hnf, hPt, n1, hch, g1, hck, hAg, hw2, hpl2, hii, hSl]
      rw [if_pos (show P < topN from hPt), min_comm_val] at hpay
      exact ⟨_, by omega, i + 1, by omega, rfl, epv.symm, by omega, by rw [ed, et, es, er, efl, enr, ee]; rfl, by
        rw [hA, ← hset, hpay, ints_set', List.set_append_right _ _ (by omega), Nat.add_sub_cancel_left]; rfl⟩
    · simp [paLoop, SC.loops, sf_fixes_search_pay, e1, e2, e3, e4, e9, e17, e18, eL, el, eH, hlt, f1, f2', hk, hw1, hpr, hnf, hPt]
      exact ⟨_, by omega, i + 1, by omega, rfl, epv.symm, by omega, by rw [ed, et, es, er, efl, enr, ee]; rfl, by rw [hsame (by rw [hpay, if_neg (by omega)]), hA]⟩
theorem run_pay (x : Ds) (hok : ChOk x.ch) (hdo : dsOk x = true) (lim : Nat) (H : AH) (d t s r a b e f pv : Value) (h : DsIn H x d t s r) (fl : Nat → Nat → Bool) (hsr : SrIn H x fl a b e) (p : Nat → Nat → Int) (hp : IsPr H f x.ch.ticks x.ch.cells p) (prev : List Int) (hpl : prev.length = x.ch.cells) (hpv : Sl H pv prev.length (ints prev)) (hpb : ∀ j, 0 ≤ prev.getD j 0 ∧ prev.getD j 0 ≤ topN) {k : Nat} (hk : k < x.ch.ticks) (hp0 : ∀ i, i < x.ch.cells → 0 ≤ p k i) :
    apL Tryz.prog pf (.func (.func 116) #[] #[]) [srV x d t s r a b e, f, .int .i64 k, pv] lim H = some (.slice (some ⟨H.length + 1, 0, none⟩) x.ch.cells x.ch.cells, H ++ [.rw 1 [.int .i64 1201], .rw 1 (ints (payN x (fl k) (p k) prev))]) := by
  rw [apL_func _ _ _ _ _ _ (by rfl), sf_fixes_search_pay_eq]
  obtain ⟨p0, p1⟩ := hok.pos
  have h0 := h
  have hpv0 := hpv
  obtain ⟨⟨⟨da, dc, ed, _⟩, ⟨ta, tc, et, _⟩, ⟨sa, sc, es, _⟩, _, htl, _⟩, ⟨ra, rc, er, _⟩, _⟩ := h
  obtain ⟨a1, a2, a3, ea⟩ := hsr.near.one
  obtain ⟨b1, b2, b3, eb⟩ := hsr.flo.one
  obtain ⟨e1, e2, e3, ee⟩ := hsr.unt.one
  obtain ⟨pa, pc, ep, _⟩ := hpv
  obtain ⟨hnf, huf, hcf⟩ := hp.1
  have hR := fun lim => run_Repeat 1201 x.ch.cells p0 (by omega) lim (H ++ [.rw 1 [.int .i64 1201]]) H.length (by simp)
  have hz : List.replicate x.ch.cells 1201 = partP x (fl k) (p k) prev 0 := by simp [partP, topN]
  rw [hz] at hR
  rw [hpl] at ep
  simp only [List.append_assoc, List.length_append, List.length_cons, List.length_nil, Nat.zero_add, List.cons_append, List.nil_append] at hR
  simp [sf_fixes_search_pay, srV, ed, et, es, er, ea, eb, ee, ep, hR, hnf, huf, hcf, pf_pure, pureF]
  generalize hS : ({ t := _, L := _, H := _, lim := _, rd := _ } : St) = S
  obtain ⟨⟨q, s1⟩, hr, q1, q2, q3⟩ := pay_loop x hok hdo H d t s r a b e f pv h0 fl hsr p hp prev hpl hpv0 hpb hk hp0 S (by subst hS; simp) (by subst hS; simp) (by subst hS; simp [ep]) (by subst hS; simp) (by subst hS; simp) (by subst hS; simp) (by subst hS; simp) (by subst hS; simp [sV, ed, et, es, er, ea, eb, ee]) (by subst hS; simp) (by subst hS; simp)
  simp [paLoop, SC.loops, sf_fixes_search_pay] at hr
  rw [hr]
  simp only at q1 q2 q3
  subst q1
  have y9 : tget S.t 9 = .slice (some ⟨H.length + 1, 0, none⟩) x.ch.cells x.ch.cells := by subst hS; simp
  rw [y9] at q3
  simp [q3, q2]
end Go.Proofs.YtddnloghclemjaaGreatDoor
namespace Go.Proofs.YtddnloghclemjaaGreatDoor
open Go Go.RowKit
def ptV (n : Nat) : Value := .func (.func 115) #[] #[.pointer (some ⟨n, 0, none⟩), .pointer (some ⟨n + 1, 0, none⟩), .pointer (some ⟨n + 2, 0, none⟩), .pointer (some ⟨n + 3, 0, none⟩)]
theorem isU_agg (cs : Array Value) : isU (.agg cs) = false := rfl
theorem cells_agg (cs : Array Value) : (Value.agg cs).cells = cs := rfl
theorem isU_i (k : IntKind) (n : Int) : isU (.int k n) = false := rfl
theorem cells_i (k : IntKind) (n : Int) : (Value.int k n).cells = #[.int k n] := rfl
theorem isU_sl (a : Option Addr) (n c : Nat) : isU (.slice a n c) = false := rfl
theorem cells_sl (a : Option Addr) (n c : Nat) : (Value.slice a n c).cells = #[.slice a n c] := rfl
theorem run_parts (x : Ds) (lim : Nat) (H : AH) (d t s r a b e f : Value) (h : DsIn H x d t s r) (ha : OneS a) (hb : OneS b) (he : OneS e) (hf : nl f = true ∧ isU f = false ∧ f.cells = #[f]) (fr st : Int) :
    apL Tryz.prog pf (.func (.func 87) #[] #[]) [srV x d t s r a b e, f, .int .i64 fr, .int .i64 st] lim H = some (ptV H.length, H ++ [.rw 0 (sV x d t s r a b e), .rw 0 [.int .i64 fr], .rw 0 [.int .i64 st], .rw 0 [f]]) := by
  rw [apL_func _ _ _ _ _ _ (by rfl), sf_fixes_search_parts_eq]
  obtain ⟨⟨⟨da, dc, ed, _⟩, ⟨ta, tc, et, _⟩, ⟨sa, sc, es, _⟩, _, htl, _⟩, ⟨ra, rc, er, _⟩, _⟩ := h
  obtain ⟨a1, a2, a3, ea⟩ := ha
  obtain ⟨b1, b2, b3, eb⟩ := hb
  obtain ⟨e1, e2, e3, ee⟩ := he
  obtain ⟨hf1, hf2, hf3⟩ := hf
  simp [-isU, -Value.cells, isU_agg, cells_agg, isU_i, cells_i, sf_fixes_search_parts, srV, sV, ptV, ed, et, es, er, ea, eb, ee, hf1, hf2, hf3, pf_pure, pureF]
structure PtS (x : Ds) (fl : Nat → Nat → Bool) (p : Nat → Nat → Int) (fr st : Int) (kp : Nat → Nat) (rho : Nat → List Int) : Prop where
  first : 0 < x.ch.ticks → fr = kp 0
  next : ∀ j, j + 1 < x.ch.ticks → (kp j : Int) + st = kp (j + 1)
  last : ∀ j, j + 1 = x.ch.ticks → inN x.ticks ((kp j : Int) + st) = false ∧ -9223372036854775808 ≤ (kp j : Int) + st ∧ (kp j : Int) + st < 9223372036854775808
  lt : ∀ j, j < x.ch.ticks → kp j < x.ch.ticks
  zero : rho 0 = List.replicate x.ch.cells 0
  succ : ∀ j, j < x.ch.ticks → rho (j + 1) = payN x (fl (kp j)) (p (kp j)) (rho j)
structure PtC (x : Ds) (H : AH) (d t s r a b e f : Value) (st : Int) (kp : Nat → Nat) (rho : Nat → List Int) (n lim : Nat) (fv : Value) (Inv : Nat → AH → Value → Prop) (Done : AH → Prop) : Prop where
  there : ∀ j A v, Inv j A v → A[n]? = some (.rw 0 (sV x d t s r a b e)) ∧ A[n + 2]? = some (.rw 0 [.int .i64 st]) ∧ A[n + 3]? = some (.rw 0 [f]) ∧ Ext H A ∧ Sl A v x.ch.cells (ints (rho j))
  yield : ∀ j A v, j < x.ch.ticks → Inv j A v → ∃ ok A2, apL Tryz.prog pf fv [.int .i64 (kp j : Nat), .slice (some ⟨A.length + 1, 0, none⟩) x.ch.cells x.ch.cells] lim (A ++ [.rw 1 [.int .i64 1201], .rw 1 (ints (rho (j + 1)))]) = some (.bool ok, A2) ∧
    (ok = true → Inv (j + 1) A2 (.slice (some ⟨A.length + 1, 0, none⟩) x.ch.cells x.ch.cells)) ∧ (ok = false → Done A2)
  fin : ∀ A v, Inv x.ch.ticks A v → Done A
def ptLoop : SC := sf_fixes_search_parts_1.body.loops.headD .skip
theorem rho_bound {x : Ds} {fl : Nat → Nat → Bool} {p : Nat → Nat → Int} {fr st : Int} {kp : Nat → Nat} {rho : Nat → List Int} (hP : PtS x fl p fr st kp rho) (hp : ∀ k i, k < x.ch.ticks → i < x.ch.cells → 0 ≤ p k i) : ∀ j, j ≤ x.ch.ticks → (rho j).length = x.ch.cells ∧ ∀ c, 0 ≤ (rho j).getD c 0 ∧ (rho j).getD c 0 ≤ topN
  | 0, _ => by rw [hP.zero]; exact ⟨by simp, fun c => zeros_bound _ c⟩
  | j + 1, hj => by
    have ih := rho_bound hP hp j (by omega)
    rw [hP.succ j (by omega)]
    exact ⟨payN_len .., fun c => payN_bound (fun i hi => hp _ i (hP.lt j (by omega)) hi) (fun c => (ih.2 c).1) c⟩
set_option maxHeartbeats 1000000 in
theorem pt_loop (x : Ds) (hok : ChOk x.ch) (hdo : dsOk x = true) (H : AH) (d t s r a b e f : Value) (h : DsIn H x d t s r) (fl : Nat → Nat → Bool) (hsr : SrIn H x fl a b e) (p : Nat → Nat → Int) (hp : IsPr H f x.ch.ticks x.ch.cells p) (hp0 : ∀ k i, k < x.ch.ticks → i < x.ch.cells → 0 ≤ p k i) (fr st : Int) (kp : Nat → Nat) (rho : Nat → List Int) (hP : PtS x fl p fr st kp rho) (n lim : Nat) (fv : Value) (hn : nl fv = true) (Inv : Nat → AH → Value → Prop) (Done : AH → Prop) (hC : PtC x H d t s r a b e f st kp rho n lim fv Inv Done)
    (S : St) (h0 : tget S.t 0 = fv) (h1 : tget S.t 1 = .pointer (some ⟨n, 0, none⟩)) (h3 : tget S.t 3 = .pointer (some ⟨n + 2, 0, none⟩)) (h4 : tget S.t 4 = .pointer (some ⟨n + 3, 0, none⟩)) (h7 : tget S.t 7 = .int .i64 fr) (hI : Inv 0 S.H (tget S.t 6)) (hlim : S.lim = lim) :
    ∃ q, exL Tryz.prog pf (.loop ptLoop) S = some q ∧ (q.1 = .exit 0 ∨ q.1 = .ret) ∧ Done q.2.H := by
  have htk0 : 0 < x.ch.ticks := hok.2.2.2.1.1
  have htk : x.ch.ticks ≤ 60 := hok.2.2.2.1.2
  have hin : ∀ j, j < x.ch.ticks → inN x.ticks (kp j : Int) = true := fun j hj => inN_of (hP.lt j hj)
  refine loop_rule (I := fun m s' => ∃ j, j ≤ x.ch.ticks ∧ m = x.ch.ticks - j ∧ tget s'.t 0 = fv ∧ tget s'.t 1 = .pointer (some ⟨n, 0, none⟩) ∧ tget s'.t 3 = .pointer (some ⟨n + 2, 0, none⟩) ∧ tget s'.t 4 = .pointer (some ⟨n + 3, 0, none⟩) ∧ s'.lim = lim ∧ Inv j s'.H (tget s'.t 6) ∧
      ∃ y, tget s'.t 7 = .int .i64 y ∧ ((j < x.ch.ticks ∧ y = kp j) ∨ (j = x.ch.ticks ∧ inN x.ticks y = false))) ?_ x.ch.ticks S
    ⟨0, by omega, by omega, h0, h1, h3, h4, hlim, hI, fr, h7, .inl ⟨htk0, hP.first htk0⟩⟩
  rintro m s' ⟨j, hj, rfl, e0, e1, e3, e4, el, eI, y, e7, ey⟩
  obtain ⟨A, hA⟩ : ∃ A, s'.H = A := ⟨_, rfl⟩
  obtain ⟨v, hv⟩ : ∃ v, tget s'.t 6 = v := ⟨_, rfl⟩
  rw [hA, hv] at eI
  obtain ⟨c1, c2, c3, cE, cS⟩ := hC.there j A v eI
  have hT := fun lim => run_srIsTick x lim A d t s r a b e (h.ext cE) (hsr.near.one) (hsr.flo.one) (hsr.unt.one) y
  have hsx := hsr.ext cE
  have hpx := hp.ext cE
  have h00 := h
  have hb := rho_bound hP hp0 j hj
  obtain ⟨⟨⟨da, dc, ed, _⟩, ⟨ta, tc, et, _⟩, ⟨sa, sc, es, _⟩, _, htl, _⟩, ⟨ra, rc, er, _⟩, _⟩ := h
  obtain ⟨a1, a2, a3, ea⟩ := hsr.near.one
  obtain ⟨b1, b2, b3, eb⟩ := hsr.flo.one
  obtain ⟨e1', e2', e3', ee⟩ := hsr.unt.one
  have cc1 := c1
  simp only [sV, srV, ed, et, es, er, ea, eb, ee] at hT cc1
  by_cases hlt : j < x.ch.ticks
  rotate_left
  · have : j = x.ch.ticks := by omega
    subst this
    have hy : inN x.ticks y = false := by rcases ey with h | h; omega; exact h.2
    rw [hy] at hT
    simp [ptLoop, SC.loops, sf_fixes_search_parts_1, e0, e1, e3, e4, e7, hA, cc1, hT]
    exact hC.fin A v eI
  have hy : y = kp j := by rcases ey with h | h; exact h.2; omega
  rw [hy, hin j hlt] at hT
  rw [hy] at e7
  have hpay := fun lim => run_pay x hok hdo lim A d t s r a b e f v (h00.ext cE) fl hsx p hpx (rho j) hb.1 (by rw [hb.1]; exact cS) hb.2 (hP.lt j hlt) (fun i hi => hp0 _ i (hP.lt j hlt) hi)
  rw [← hP.succ j hlt] at hpay
  obtain ⟨ok, A2, y1, y2, y3⟩ := hC.yield j A v hlt eI
  obtain ⟨va, vc, ev, _⟩ := cS
  obtain ⟨hnf, huf, hcf⟩ := hp.1
  rw [ev] at hpay hv
  simp only [srV, ed, et, es, er, ea, eb, ee] at hpay
  cases ok with
  | false =>
    simp [ptLoop, SC.loops, sf_fixes_search_parts_1, e0, e1, e3, e4, e7, hv, el, hA, cc1, c2, c3, hT, hpay, hn, hnf, y1]
    exact y3 rfl
  | true =>
    have hIn := y2 rfl
    obtain ⟨k1, k2, k3, kE, kS⟩ := hC.there _ _ _ hIn
    obtain ⟨w0, w1, hw⟩ : ∃ w, IntKind.i64.wrap ((kp j : Int) + st) = w ∧ ((j + 1 < x.ch.ticks ∧ w = kp (j + 1)) ∨ (j + 1 = x.ch.ticks ∧ inN x.ticks w = false)) := by
      by_cases h1 : j + 1 < x.ch.ticks
      · have := hP.next j h1
        have h2 := hP.lt (j + 1) h1
        refine ⟨kp (j + 1), ?_, .inl ⟨h1, rfl⟩⟩
        rw [this]; exact wrap_i64 (by omega) (by omega)
      · obtain ⟨l1, l2, l3⟩ := hP.last j (by omega)
        exact ⟨_, wrap_i64 l2 l3, .inr ⟨by omega, l1⟩⟩
    simp [ptLoop, SC.loops, sf_fixes_search_parts_1, e0, e1, e3, e4, e7, hv, el, hA, cc1, c2, c3, hT, hpay, hn, hnf, y1, k1, k2, k3, w1]
    exact ⟨_, by omega, j + 1, by omega, rfl, hIn, hw⟩
end Go.Proofs.YtddnloghclemjaaGreatDoor
namespace Go.Proofs.YtddnloghclemjaaGreatDoor
open Go Go.RowKit
theorem yield_round {l : Nat} {B : AH} {r : ARec} {args : List Value} {lim : Nat} (hl : B[l]? = some (.loop r)) (h0 : r.st = 0) (hlim : lim ≤ r.lim) (hlim2 : lim ≤ l) (hlen : args.length = r.ps.length) {t1 : TS}
    (ha : ∀ X, exL Tryz.prog pf r.asg ⟨(r.ps.zip args).reverse ++ r.t, r.L, X, r.lim, some l⟩ = some (.normal, ⟨t1, r.L, X, r.lim, some l⟩)) {e : Ex} {s' : St}
    (hb : exL Tryz.prog pf r.body ⟨t1, r.L, B.set l (.loop { r with st := 1, L := [] }), r.lim, some l⟩ = some (e, s')) {r2 : ARec} (h4 : s'.H[l]? = some (.loop r2)) :
    apL Tryz.prog pf (.func (.yield l) #[] #[]) args lim B = some (.bool (decide (e = .normal)), s'.H.set l (.loop { r with st := if e = .normal then 0 else 2, pend := if e = .normal then none else some e, L := s'.L })) := by
  have hll : l < B.length := (List.getElem?_eq_some_iff.1 hl).1
  refine apL_yield (r := r) (r1 := { r with st := 4, L := [] }) hl ⟨rfl, h0, hlim, hlim2, hlen⟩ (ha _) (by simp [hll]) rfl (s' := s') ?_ h4
  simp only [List.set_set]
  exact hb
theorem exL_range {f : Operand} {ps : List Tmp} {asg body : SC} {S : St} {fv : Value} (hf : S.ev f = fv) (hn : nl fv = true) (hi : isFn fv = true) (hrd : S.rd = none) {A' : AH} {v : Value} {r : ARec}
    (hcall : apL Tryz.prog pf fv [.func (.yield S.H.length) #[] #[]] S.lim (S.H ++ [.loop ⟨0, none, S.t, S.L, S.lim, ps, asg, body⟩]) = some (v, A')) (hr : A'[S.H.length]? = some (.loop r)) (hst : r.st = 0 ∨ r.st = 2) :
    exL Tryz.prog pf (.rng f ps asg body) S = some (r.pend.getD .normal, { S with L := r.L, H := A'.set S.H.length .dead }) := by
  have hg : ¬ (rdOk S = false ∨ nl (S.ev f) = false ∨ isFn (S.ev f) = false) := by
    have h1 : rdOk S = true := by unfold rdOk; rw [hrd]
    rw [hf, h1, hn, hi]; simp
  rw [exL_rng, if_neg hg, hf, hcall]
  simp only [hr]
  rw [if_neg (by omega)]
theorem run_pt (x : Ds) (hok : ChOk x.ch) (hdo : dsOk x = true) (H : AH) (d t s r a b e f : Value) (h : DsIn H x d t s r) (fl : Nat → Nat → Bool) (hsr : SrIn H x fl a b e) (p : Nat → Nat → Int) (hp : IsPr H f x.ch.ticks x.ch.cells p) (hp0 : ∀ k i, k < x.ch.ticks → i < x.ch.cells → 0 ≤ p k i) (fr st : Int) (kp : Nat → Nat) (rho : Nat → List Int) (hP : PtS x fl p fr st kp rho) (n lim : Nat) (fv : Value) (hn : nl fv = true) (Inv : Nat → AH → Value → Prop) (Done : AH → Prop) (hC : PtC x H d t s r a b e f st kp rho n lim fv Inv Done)
    (A : AH) (hA1 : A[n]? = some (.rw 0 (sV x d t s r a b e))) (hA2 : A[n + 1]? = some (.rw 0 [.int .i64 fr])) (hI : Inv 0 (A ++ [.rw 1 (ints (rho 0))]) (.slice (some ⟨A.length, 0, none⟩) x.ch.cells x.ch.cells)) :
    ∃ A', apL Tryz.prog pf (ptV n) [fv] lim A = some (.tuple #[], A') ∧ Done A' := by
  unfold ptV
  rw [apL_func _ _ _ _ _ _ (by rfl), sf_fixes_search_parts_1_eq]
  have h00 := h
  obtain ⟨p0, p1⟩ := hok.pos
  obtain ⟨⟨⟨da, dc, ed, _⟩, ⟨ta, tc, et, _⟩, ⟨sa, sc, es, _⟩, _, htl, _⟩, ⟨ra, rc, er, _⟩, _⟩ := h
  obtain ⟨a1, a2, a3, ea⟩ := hsr.near.one
  obtain ⟨b1, b2, b3, eb⟩ := hsr.flo.one
  obtain ⟨e1', e2', e3', ee⟩ := hsr.unt.one
  have cc1 := hA1
  simp only [sV, ed, et, es, er, ea, eb, ee] at cc1
  have hmx : x.ch.cells ≤ maxA := Nat.le_trans (show x.ch.cells ≤ 144 by omega) (by decide)
  have hdl : x.ch.depth.length = x.ch.cells := rfl
  have hrz : ints (List.replicate x.ch.cells 0) = ints (rho 0) := by rw [hP.zero]
  have hA2' : ∀ y : AH, (A ++ y)[n + 1]? = some (.rw 0 [.int .i64 fr]) := fun y => own_get hA2 y
  simp [sf_fixes_search_parts_1, cc1, hA2', hdl, hmx, zeros_ints, hrz, pf_pure, pureF]
  generalize hS : ({ t := _, L := _, H := _, lim := _, rd := _ } : St) = S
  obtain ⟨⟨q, s1⟩, hr, q1, q2⟩ := pt_loop x hok hdo H d t s r a b e f h00 fl hsr p hp hp0 fr st kp rho hP n lim fv hn Inv Done hC S (by subst hS; simp) (by subst hS; simp) (by subst hS; simp) (by subst hS; simp) (by subst hS; simp) (by subst hS; simpa using hI) (by subst hS; rfl)
  simp [ptLoop, SC.loops, sf_fixes_search_parts_1] at hr
  rw [hr]
  simp only at q1 q2
  rcases q1 with rfl | rfl
  · simp; exact q2
  · simp; exact q2
def atAsg : SC := match sf_fixes_search_partsAt.body with | .seq _ (.seq (.seq _ (.block _ (.rng _ _ a _))) _) => a | _ => .skip
def atBody : SC := match sf_fixes_search_partsAt.body with | .seq _ (.seq (.seq _ (.block _ (.rng _ _ _ b))) _) => b | _ => .skip
def atR (T : TS) (L : LS) (lim : Nat) : ARec := ⟨0, none, T, L, lim, [10, 11], atAsg, atBody⟩
theorem set_same {A : AH} {l : Nat} {x : ABlk} (h : A[l]? = some x) : A.set l x = A := by
  apply List.ext_getElem?
  intro c
  by_cases hc : l = c
  · subst hc; rw [List.getElem?_set_self (List.getElem?_eq_some_iff.1 h).1, h]
  · rw [List.getElem?_set_ne hc]
def AtI (x : Ds) (H : AH) (T : TS) (L : LS) (kp : Nat → Nat) (rho : Nat → List Int) (J : Nat) (j : Nat) (A : AH) (v : Value) : Prop :=
  j ≤ J ∧ Aft H A ∧ A[H.length]? = some (.loop (atR T L H.length)) ∧ Sl A v x.ch.cells (ints (rho j))
def AtD (x : Ds) (H : AH) (T : TS) (L : LS) (rho : Nat → List Int) (J : Nat) (A : AH) : Prop :=
  Aft H A ∧ ∃ bw L', H.length < bw ∧ A[H.length]? = some (.loop { atR T L H.length with st := 2, pend := some .ret, L := L' }) ∧ lget L' 6 = some (0, .cells [.slice (some ⟨bw, 0, none⟩) x.ch.cells x.ch.cells]) ∧ A[bw]? = some (.rw 1 (ints (rho (J + 1))))
theorem at_C (x : Ds) (H : AH) (d t s r a b e f : Value) (fl : Nat → Nat → Bool) (p : Nat → Nat → Int) (fr st : Int) (kp : Nat → Nat) (rho : Nat → List Int) (hinj : ∀ i j, i < x.ch.ticks → j < x.ch.ticks → kp i = kp j → i = j) {J : Nat} (hJ : J < x.ch.ticks) (hrl : ∀ j, j ≤ x.ch.ticks → (rho j).length = x.ch.cells) (n : Nat) (hn1 : H[n]? = some (.rw 0 (sV x d t s r a b e))) (hn2 : H[n + 2]? = some (.rw 0 [.int .i64 st])) (hn3 : H[n + 3]? = some (.rw 0 [f])) (T : TS) (L : LS)
    (h4 : tget T 4 = .pointer (some ⟨4, 0, some 0⟩)) (h6 : tget T 6 = .pointer (some ⟨6, 0, some 0⟩)) (hL4 : lget L 4 = some (0, .cells [.int .i64 (kp J : Nat)])) (hL6 : lget L 6 = some (0, .cells [.slice none 0 0])) :
    PtC x H d t s r a b e f st kp rho n H.length (.func (.yield H.length) #[] #[]) (AtI x H T L kp rho J) (AtD x H T L rho J) := by
  refine ⟨fun j A v hI => ?_, fun j A v hj hI => ?_, fun A v hI => ?_⟩
  · obtain ⟨i1, ⟨K, rfl⟩, i3, i4⟩ := hI
    exact ⟨own_get hn1 K, own_get hn2 K, own_get hn3 K, Ext.push H K, i4⟩
  · obtain ⟨i1, i2, i3, i4⟩ := hI
    have hle := i2.le
    have hl : H.length < A.length := (List.getElem?_eq_some_iff.1 i3).1
    obtain ⟨B, hB⟩ : ∃ B, B = A ++ [.rw 1 [.int .i64 1201], .rw 1 (ints (rho (j + 1)))] := ⟨_, rfl⟩
    have hBl : B[H.length]? = some (.loop (atR T L H.length)) := by rw [hB]; exact own_get i3 _
    have hBA : Aft H B := by rw [hB]; exact i2.push _
    have hBw : B[A.length + 1]? = some (.rw 1 (ints (rho (j + 1)))) := by rw [hB, List.getElem?_append_right (by omega)]; simp
    rw [← hB]
    have ha : ∀ Y, exL Tryz.prog pf atAsg ⟨([10, 11].zip [Value.int .i64 (kp j : Nat), .slice (some ⟨A.length + 1, 0, none⟩) x.ch.cells x.ch.cells]).reverse ++ T, L, Y, H.length, some H.length⟩ = some (.normal, ⟨(8, .slice (some ⟨A.length + 1, 0, none⟩) x.ch.cells x.ch.cells) :: (7, .int .i64 (kp j : Nat)) :: (11, .slice (some ⟨A.length + 1, 0, none⟩) x.ch.cells x.ch.cells) :: (10, .int .i64 (kp j : Nat)) :: T, L, Y, H.length, some H.length⟩) := fun Y => by
      simp [atAsg, sf_fixes_search_partsAt]
    have hset1 : ∀ z, (B.set H.length z)[H.length]? = some z := fun z => by rw [List.getElem?_set_self (by rw [hB]; simp; omega)]
    by_cases hjJ : j = J
    · have key : ∃ s', exL Tryz.prog pf atBody ⟨(8, .slice (some ⟨A.length + 1, 0, none⟩) x.ch.cells x.ch.cells) :: (7, .int .i64 (kp j : Nat)) :: (11, .slice (some ⟨A.length + 1, 0, none⟩) x.ch.cells x.ch.cells) :: (10, .int .i64 (kp j : Nat)) :: T, L, B.set H.length (.loop { atR T L H.length with st := 1, L := [] }), H.length, some H.length⟩ = some (.ret, s') ∧ s'.H = B.set H.length (.loop { atR T L H.length with st := 1, L := [] }) ∧ lget s'.L 6 = some (0, .cells [.slice (some ⟨A.length + 1, 0, none⟩) x.ch.cells x.ch.cells]) := by
        simp [atBody, sf_fixes_search_partsAt, h4, h6, hL4, hL6, hjJ]
      obtain ⟨s', z1, z2, z3⟩ := key
      have hy := yield_round (l := H.length) (B := B) (r := atR T L H.length) (args := [.int .i64 (kp j : Nat), .slice (some ⟨A.length + 1, 0, none⟩) x.ch.cells x.ch.cells]) (lim := H.length) hBl rfl (Nat.le_refl _) (Nat.le_refl _) rfl ha (e := .ret) (s' := s') z1 (r2 := { atR T L H.length with st := 1, L := [] }) (by rw [z2, hset1])
      refine ⟨false, _, hy, (fun h => by cases h), fun _ => ?_⟩
      rw [z2, List.set_set]
      refine ⟨hBA.set (Nat.le_refl _) _, A.length + 1, s'.L, by omega, ?_, z3, ?_⟩
      · exact hset1 _
      · rw [List.getElem?_set_ne (by omega), hBw, hjJ]
    · have hne : ((kp j : Int) == (kp J : Int)) = false := by
        have : kp j ≠ kp J := fun e => hjJ (hinj j J hj hJ e)
        simp; omega
      have key : ∃ s', exL Tryz.prog pf atBody ⟨(8, .slice (some ⟨A.length + 1, 0, none⟩) x.ch.cells x.ch.cells) :: (7, .int .i64 (kp j : Nat)) :: (11, .slice (some ⟨A.length + 1, 0, none⟩) x.ch.cells x.ch.cells) :: (10, .int .i64 (kp j : Nat)) :: T, L, B.set H.length (.loop { atR T L H.length with st := 1, L := [] }), H.length, some H.length⟩ = some (.normal, s') ∧ s'.H = B.set H.length (.loop { atR T L H.length with st := 1, L := [] }) ∧ s'.L = L := by
        simp [atBody, sf_fixes_search_partsAt, h4, h6, hL4, hL6, hne]
      obtain ⟨s', z1, z2, z3⟩ := key
      have hy := yield_round (l := H.length) (B := B) (r := atR T L H.length) (args := [.int .i64 (kp j : Nat), .slice (some ⟨A.length + 1, 0, none⟩) x.ch.cells x.ch.cells]) (lim := H.length) hBl rfl (Nat.le_refl _) (Nat.le_refl _) rfl ha (e := .normal) (s' := s') z1 (r2 := { atR T L H.length with st := 1, L := [] }) (by rw [z2, hset1])
      have hA2 : s'.H.set H.length (.loop { atR T L H.length with st := if Ex.normal = Ex.normal then 0 else 2, pend := if Ex.normal = Ex.normal then none else some .normal, L := s'.L }) = B := by
        rw [z2, List.set_set, z3]
        exact set_same hBl
      rw [hA2] at hy
      refine ⟨true, B, hy, fun _ => ⟨by omega, hBA, hBl, ?_⟩, fun h => by cases h⟩
      have := Sl.made hBw rfl (k := x.ch.cells)
      rw [hrl (j + 1) (by omega)] at this
      exact this
  · obtain ⟨i1, _⟩ := hI
    omega
theorem run_partsAt (x : Ds) (hok : ChOk x.ch) (hdo : dsOk x = true) (lim : Nat) (H : AH) (d t s r a b e f : Value) (h : DsIn H x d t s r) (fl : Nat → Nat → Bool) (hsr : SrIn H x fl a b e) (p : Nat → Nat → Int) (hp : IsPr H f x.ch.ticks x.ch.cells p) (hp0 : ∀ k i, k < x.ch.ticks → i < x.ch.cells → 0 ≤ p k i) (fr st : Int) (kp : Nat → Nat) (rho : Nat → List Int) (hP : PtS x fl p fr st kp rho) (hinj : ∀ i j, i < x.ch.ticks → j < x.ch.ticks → kp i = kp j → i = j) {J : Nat} (hJ : J < x.ch.ticks) (n : Nat) (hn1 : H[n]? = some (.rw 0 (sV x d t s r a b e))) (hn0 : H[n + 1]? = some (.rw 0 [.int .i64 fr])) (hn2 : H[n + 2]? = some (.rw 0 [.int .i64 st])) (hn3 : H[n + 3]? = some (.rw 0 [f])) :
    ∃ A bw, apL Tryz.prog pf (.func (.func 86) #[] #[]) [srV x d t s r a b e, .int .i64 (kp J : Nat), ptV n] lim H = some (.slice (some ⟨bw, 0, none⟩) x.ch.cells x.ch.cells, A) ∧ Aft H A ∧ H.length ≤ bw ∧ A[bw]? = some (.rw 1 (ints (rho (J + 1)))) := by
  rw [apL_func _ _ _ _ _ _ (by rfl), sf_fixes_search_partsAt_eq]
  have h00 := h
  obtain ⟨⟨⟨da, dc, ed, _⟩, ⟨ta, tc, et, _⟩, ⟨sa, sc, es, _⟩, _, htl, _⟩, ⟨ra, rc, er, _⟩, _⟩ := h
  obtain ⟨a1, a2, a3, ea⟩ := hsr.near.one
  obtain ⟨b1, b2, b3, eb⟩ := hsr.flo.one
  obtain ⟨e1', e2', e3', ee⟩ := hsr.unt.one
  simp [-oneC, oneC_slice, sf_fixes_search_partsAt, srV, ptV, ed, et, es, er, ea, eb, ee, pf_pure, pureF]
  generalize hS : ({ t := _, L := _, H := _, lim := _, rd := _ } : St) = S
  have eH : S.H = H := by subst hS; rfl
  have el : S.lim = H.length := by subst hS; rfl
  have hrl : ∀ j, j ≤ x.ch.ticks → (rho j).length = x.ch.cells := fun j hj => (rho_bound hP hp0 j hj).1
  have hr0 : (H ++ [.loop (atR S.t S.L H.length)] ++ [.rw 1 (ints (rho 0))] : AH)[H.length + 1]? = some (.rw 1 (ints (rho 0))) := by rw [List.getElem?_append_right (by simp)]; simp
  obtain ⟨A', y1, y2, bw, L', y3, y4, y5, y6⟩ := run_pt x hok hdo H d t s r a b e f h00 fl hsr p hp hp0 fr st kp rho hP n H.length (.func (.yield H.length) #[] #[]) (by simp) _ _ (at_C x H d t s r a b e f fl p fr st kp rho hinj hJ hrl n hn1 hn2 hn3 S.t S.L (by subst hS; simp) (by subst hS; simp) (by subst hS; simp) (by subst hS; simp))
    (H ++ [.loop (atR S.t S.L H.length)]) (own_get hn1 _) (own_get hn0 _) ⟨by omega, ((Aft.refl H).push _).push _, by rw [List.append_assoc, List.getElem?_append_right (Nat.le_refl _), Nat.sub_self]; rfl, by
      have := Sl.made (n := x.ch.cells) (k := x.ch.cells) hr0 (hrl 0 (by omega)).symm
      rw [hrl 0 (by omega)] at this
      simpa using this⟩
  have hx := exL_range (f := .tmp 9) (ps := [10, 11]) (asg := atAsg) (body := atBody) (S := S) (fv := ptV n) (by subst hS; simp [ptV]) (by simp [ptV]) rfl (by subst hS; rfl) (A' := A') (v := .tuple #[]) (r := { atR S.t S.L H.length with st := 2, pend := some .ret, L := L' })
    (by rw [eH, el]; exact y1) (by rw [eH]; exact y4) (.inr rfl)
  simp only [atAsg, atBody, sf_fixes_search_partsAt] at hx
  rw [hx]
  have j6 : tget S.t 6 = .pointer (some ⟨6, 0, some 0⟩) := by subst hS; simp
  rw [eH]
  simp [j6, y5]
  refine ⟨A'.set H.length .dead, bw, ?_, y2.set (Nat.le_refl _) _, by omega, ?_⟩
  · first | exact ⟨rfl, rfl⟩ | simp
  rw [List.getElem?_set_ne (by omega), y6]
end Go.Proofs.YtddnloghclemjaaGreatDoor
namespace Go.Proofs.YtddnloghclemjaaGreatDoor
open Go Go.RowKit
def demP (x : Ds) (all : Nat) (k i : Nat) : Int := if denyM x k i x.reps.length &&& all = 0 then ((bitsN (denyM x k i x.reps.length) 12 : Nat) : Int) else 1201
def demF (sb ab : Nat) : Value := .func (.func 90) #[] #[.pointer (some ⟨sb, 0, none⟩), .pointer (some ⟨ab, 0, none⟩)]
theorem unt_cell {x : Ds} {H : AH} {fl : Nat → Nat → Bool} {a b e : Value} (hsr : SrIn H x fl a b e) {k i : Nat} (hk : k < x.ch.ticks) (hi : i < x.ch.cells) :
    ∃ eb eo ec eb' eo' ec', e = .slice (some ⟨eb, eo, none⟩) x.ch.ticks ec ∧ hcell H eb (eo + k) = some (.slice (some ⟨eb', eo', none⟩) x.ch.cells ec') ∧ hcell H eb' (eo' + i) = some (.int .u64 (denyM x k i x.reps.length : Nat)) := by
  have hl : (untV x k).length = x.ch.cells := by simp [untV, u64s]
  obtain ⟨eb, eo, ec, eb', eo', ec', h1, h2, h3⟩ := tb_cell hsr.unt hk (i := i) (by rw [hl]; exact hi)
  refine ⟨eb, eo, ec, eb', eo', ec', h1, by rw [h2, hl], ?_⟩
  rw [h3]
  simp [untV, u64s]
theorem isPr_dem (x : Ds) (H : AH) (d t s r a b e : Value) (h : DsIn H x d t s r) (hl : x.reps.length ≤ 12) (fl : Nat → Nat → Bool) (hsr : SrIn H x fl a b e) (sb ab all : Nat) (hall : all < 2 ^ 64) (h1 : H[sb]? = some (.rw 0 (sV x d t s r a b e))) (h2 : H[ab]? = some (.rw 0 [.int .u64 all])) :
    IsPr H (demF sb ab) x.ch.ticks x.ch.cells (demP x all) := by
  refine ⟨⟨by simp [demF], rfl, rfl⟩, fun H' hH k i hk hi lim => ?_⟩
  have k1 := hH _ _ h1
  have k2 := hH _ _ h2
  unfold demF
  rw [apL_func _ _ _ _ _ _ (by rfl), sf_fixes_search_demands_1_eq]
  obtain ⟨eb, eo, ec, eb', eo', ec', ee, g1, g2⟩ := unt_cell (hsr.ext hH) hk hi
  obtain ⟨⟨⟨da, dc, ed, _⟩, ⟨ta, tc, et, _⟩, ⟨sa, sc, es, _⟩, _, htl, _⟩, ⟨ra, rc, er, _⟩, _⟩ := h
  have hlt := denyM_lt x k i hl
  have hsz := fun lim => run_size (n := denyM x k i x.reps.length) hlt lim H'
  have hand := u64_and (a := denyM x k i x.reps.length) (b := all) (by omega) hall
  simp only [sV] at k1
  simp only [hcell] at g1 g2
  have hdp : demP x all k i = if denyM x k i x.reps.length &&& all = 0 then ((bitsN (denyM x k i x.reps.length) 12 : Nat) : Int) else 1201 := rfl
  rw [hdp]
  generalize denyM x k i x.reps.length = n at *
  have hbits : IntKind.u64.bits = 64 := rfl
  have hnm : n % 18446744073709551616 = n := Nat.mod_eq_of_lt (by omega)
  have ham : all % 18446744073709551616 = all := Nat.mod_eq_of_lt (by omega)
  have hw : IntKind.u64.wrap ((n &&& all : Nat) : Int) = ((n &&& all : Nat) : Int) := wrap_u64 (Nat.lt_of_le_of_lt Nat.and_le_left (by omega))
  by_cases hc : n &&& all = 0
  · have hb : (IntKind.u64.wrap 0 != 0) = false := by decide
    simp [hb, sf_fixes_search_demands_1, k1, k2, ee, g1, g2, hk, hi, hbits, hnm, ham, hw, hsz, hc, pf_pure, pureF]
  · have hb : (((n &&& all : Nat) : Int) != 0) = true := by simp; omega
    simp [sf_fixes_search_demands_1, k1, k2, ee, g1, g2, hk, hi, hbits, hnm, ham, hw, hsz, hc, hb, pf_pure, pureF]
theorem run_demands (x : Ds) (lim : Nat) (H : AH) (d t s r a b e : Value) (h : DsIn H x d t s r) (ha : OneS a) (hb : OneS b) (he : OneS e) (all : Nat) :
    apL Tryz.prog pf (.func (.func 46) #[] #[]) [srV x d t s r a b e, .int .u64 all] lim H = some (demF H.length (H.length + 1), H ++ [.rw 0 (sV x d t s r a b e), .rw 0 [.int .u64 all]]) := by
  rw [apL_func _ _ _ _ _ _ (by rfl), sf_fixes_search_demands_eq]
  obtain ⟨⟨⟨da, dc, ed, _⟩, ⟨ta, tc, et, _⟩, ⟨sa, sc, es, _⟩, _, htl, _⟩, ⟨ra, rc, er, _⟩, _⟩ := h
  obtain ⟨a1, a2, a3, ea⟩ := ha
  obtain ⟨b1, b2, b3, eb⟩ := hb
  obtain ⟨e1, e2, e3, ee⟩ := he
  simp [sf_fixes_search_demands, srV, sV, demF, ed, et, es, er, ea, eb, ee, pf_pure, pureF]
end Go.Proofs.YtddnloghclemjaaGreatDoor
namespace Go.Proofs.YtddnloghclemjaaGreatDoor
open Go Go.RowKit
theorem ptS_fore {x : Ds} (hok : ChOk x.ch) (fl : Nat → Nat → Bool) (p : Nat → Nat → Int) : PtS x fl p 0 1 (fun j => j) (foreN x fl p) := by
  have htk : x.ch.ticks ≤ 60 := hok.2.2.2.1.2
  have hd : x.ticks = x.ch.ticks := rfl
  refine ⟨fun _ => rfl, fun j _ => by omega, fun j hj => ⟨?_, by omega, by omega⟩, fun j hj => hj, rfl, fun j _ => rfl⟩
  unfold inN
  rw [hd]
  simp
  omega
theorem ptS_back {x : Ds} (hok : ChOk x.ch) (fl : Nat → Nat → Bool) (p : Nat → Nat → Int) : PtS x fl p ((x.ch.tide.length : Int) - 1) (-1) (fun j => x.ch.ticks - 1 - j) (backN x fl p) := by
  have htk : x.ch.ticks ≤ 60 := hok.2.2.2.1.2
  have htk0 : 0 < x.ch.ticks := hok.2.2.2.1.1
  have hd : x.ticks = x.ch.ticks := rfl
  have hd2 : x.ch.tide.length = x.ch.ticks := rfl
  refine ⟨fun _ => ?_, fun j hj => ?_, fun j hj => ⟨?_, by omega, by omega⟩, fun j hj => ?_, rfl, fun j _ => rfl⟩
  · show ((x.ch.tide.length : Int) - 1) = ((x.ch.ticks - 1 - 0 : Nat) : Int); rw [hd2]; omega
  · show ((x.ch.ticks - 1 - j : Nat) : Int) + -1 = ((x.ch.ticks - 1 - (j + 1) : Nat) : Int); omega
  · unfold inN
    simp
    omega
  · show x.ch.ticks - 1 - j < x.ch.ticks; omega
theorem run_lastTick (x : Ds) (lim : Nat) (H : AH) (d t s r a b e : Value) (h : DsIn H x d t s r) (ha : OneS a) (hb : OneS b) (he : OneS e) : apL Tryz.prog pf (.func (.func 88) #[] #[]) [srV x d t s r a b e] lim H = some (.int .i64 ((x.ch.tide.length : Int) - 1), H) := by
  rw [apL_func _ _ _ _ _ _ (by rfl), sf_fixes_search_lastTick_eq]
  obtain ⟨⟨⟨da, dc, ed, _⟩, ⟨ta, tc, et, _⟩, ⟨sa, sc, es, _⟩, _, htl, _⟩, ⟨ra, rc, er, _⟩, _⟩ := h
  obtain ⟨a1, a2, a3, ea⟩ := ha
  obtain ⟨b1, b2, b3, eb⟩ := hb
  obtain ⟨e1, e2, e3, ee⟩ := he
  have hw : IntKind.i64.wrap ((x.ch.tide.length : Int) - 1) = (x.ch.tide.length : Int) - 1 := wrap_i64 (by omega) (by omega)
  simp [sf_fixes_search_lastTick, srV, ed, et, es, er, ea, eb, ee, hw, pf_pure, pureF]
def wiF (bb ab pb tb mb : Nat) : Value := .func (.func 89) #[] #[.pointer (some ⟨bb, 0, none⟩), .pointer (some ⟨ab, 0, none⟩), .pointer (some ⟨pb, 0, none⟩), .pointer (some ⟨tb, 0, none⟩), .pointer (some ⟨mb, 0, none⟩)]
theorem max_dec (P Q : Int) : (max P Q : Int) = if P < Q then Q else P := by split <;> omega
theorem isPn_within (x : Ds) (H : AH) (f : Value) (p : Nat → Nat → Int) (hp : IsPr H f x.ch.ticks x.ch.cells p) {k : Nat} (hk : k < x.ch.ticks) (most : Int) (F B : List Int) (hF : F.length = x.ch.cells) (hB : B.length = x.ch.cells) (hFb : ∀ j, 0 ≤ F.getD j 0 ∧ F.getD j 0 ≤ topN) (hBb : ∀ j, 0 ≤ B.getD j 0 ∧ B.getD j 0 ≤ topN) (hpb : ∀ k i, k < x.ch.ticks → i < x.ch.cells → 0 ≤ p k i ∧ p k i ≤ topN) (bv av : Value) (hbv : Sl H bv F.length (ints F)) (hav : Sl H av B.length (ints B)) (bb ab pb tb mb : Nat)
    (h1 : H[bb]? = some (.rw 0 [bv])) (h2 : H[ab]? = some (.rw 0 [av])) (h3 : H[pb]? = some (.rw 0 [f])) (h4 : H[tb]? = some (.rw 0 [.int .i64 k])) (h5 : H[mb]? = some (.rw 0 [.int .i64 most])) :
    IsPn H (wiF bb ab pb tb mb) x.cells (fun i => decide (max (F.getD i.toNat 0) (B.getD i.toNat 0) < topN) && decide (F.getD i.toNat 0 + B.getD i.toNat 0 - p k i.toNat ≤ most)) := by
  refine ⟨⟨by simp [wiF], rfl, rfl⟩, fun H' hH i hi lim => ?_⟩
  replace hi : i < x.ch.cells := hi
  have k1 := hH _ _ h1
  have k2 := hH _ _ h2
  have k3 := hH _ _ h3
  have k4 := hH _ _ h4
  have k5 := hH _ _ h5
  have hpr := fun lim => hp.2 H' hH k i hk hi lim
  obtain ⟨hnf, huf, hcf⟩ := hp.1
  unfold wiF
  rw [apL_func _ _ _ _ _ _ (by rfl), sf_fixes_search_within_1_eq]
  obtain ⟨fa, fc, ebv, hfd⟩ := hbv.ext hH
  obtain ⟨ba, bc, eav, hbd⟩ := hav.ext hH
  obtain ⟨fb, fo, rfl, g1⟩ := hfd i _ (ints_get F i (by omega))
  obtain ⟨bb', bo, rfl, g2⟩ := hbd i _ (ints_get B i (by omega))
  have q1 := hFb i
  have q2 := hBb i
  have q3 := hpb k i hk hi
  have hT0 : topN = 1201 := rfl
  simp only [hcell] at g1 g2
  have hi1 : i < F.length := by omega
  have hi2 : i < B.length := by omega
  rw [ebv] at k1
  rw [eav] at k2
  show _ = some (Value.bool (decide (max (F.getD (i : Int).toNat 0) (B.getD (i : Int).toNat 0) < topN) && decide (F.getD (i : Int).toNat 0 + B.getD (i : Int).toNat 0 - p k (i : Int).toNat ≤ most)), H')
  rw [Int.toNat_natCast]
  generalize F.getD i 0 = P at *
  generalize B.getD i 0 = Q at *
  generalize p k i = R at *
  have w1 : IntKind.i64.wrap (P + Q) = P + Q := wrap_i64 (by omega) (by omega)
  have w2 : IntKind.i64.wrap (P + Q - R) = P + Q - R := wrap_i64 (by omega) (by omega)
  rw [max_dec]
  by_cases hc : (if P < Q then Q else P) < 1201
  · have hd : decide ((if P < Q then Q else P) < topN) = true := by simpa [hT0] using hc
    rw [hd]
    simp [sf_fixes_search_within_1, k1, k2, k3, k4, k5, g1, g2, hi1, hi2, hpr, hnf, w1, w2, hc, pf_pure, pureF]
  · have hd : decide ((if P < Q then Q else P) < topN) = false := by simpa [hT0] using hc
    rw [hd]
    simp [sf_fixes_search_within_1, k1, k2, k3, k4, k5, g1, g2, hi1, hi2, hc, pf_pure, pureF]
end Go.Proofs.YtddnloghclemjaaGreatDoor
namespace Go.Proofs.YtddnloghclemjaaGreatDoor
open Go Go.RowKit
set_option maxHeartbeats 2000000 in
theorem run_swithin (x : Ds) (hok : ChOk x.ch) (hdo : dsOk x = true) (lim : Nat) (H : AH) (d t s r a b e f : Value) (h : DsIn H x d t s r) (fl : Nat → Nat → Bool) (hsr : SrIn H x fl a b e) (p : Nat → Nat → Int) (hp : IsPr H f x.ch.ticks x.ch.cells p) (hpb : ∀ k i, k < x.ch.ticks → i < x.ch.cells → 0 ≤ p k i ∧ p k i ≤ topN) {k : Nat} (hk : k < x.ch.ticks) (most : Int) :
    ∃ v A, apL Tryz.prog pf (.func (.func 45) #[] #[]) [srV x d t s r a b e, f, .int .i64 k, .int .i64 most] lim H = some (v, A) ∧ Aft H A ∧ OwnA H.length A v (thoseN (fun i => withinB x fl p k most i.toNat) x.cells) := by
  rw [apL_func _ _ _ _ _ _ (by rfl), sf_fixes_search_within_eq]
  have hp0 : ∀ k i, k < x.ch.ticks → i < x.ch.cells → 0 ≤ p k i := fun k i hk hi => (hpb k i hk hi).1
  have h0 := h
  have oa := hsr.near.one
  have ob := hsr.flo.one
  have oe := hsr.unt.one
  obtain ⟨H1, hH1⟩ : ∃ H1, H1 = H ++ [.rw 0 (sV x d t s r a b e), .rw 0 [.int .i64 0], .rw 0 [.int .i64 1], .rw 0 [f]] := ⟨_, rfl⟩
  have hP1 := fun lim => run_parts x lim H d t s r a b e f h oa ob oe hp.1 0 1
  rw [← hH1] at hP1
  have hl1 : H1.length = H.length + 4 := by rw [hH1]; simp
  have hA1 : Aft H H1 := by rw [hH1]; exact (Aft.refl H).push _
  have g10 : H1[H.length]? = some (.rw 0 (sV x d t s r a b e)) := by rw [hH1, List.getElem?_append_right (Nat.le_refl _), Nat.sub_self]; rfl
  have g11 : H1[H.length + 1]? = some (.rw 0 [.int .i64 0]) := by rw [hH1, List.getElem?_append_right (by omega), Nat.add_sub_cancel_left]; rfl
  have g12 : H1[H.length + 2]? = some (.rw 0 [.int .i64 1]) := by rw [hH1, List.getElem?_append_right (by omega), Nat.add_sub_cancel_left]; rfl
  have g13 : H1[H.length + 3]? = some (.rw 0 [f]) := by rw [hH1, List.getElem?_append_right (by omega), Nat.add_sub_cancel_left]; rfl
  obtain ⟨B1, bw1, hQ1, hB1, hbw1, hBw1⟩ := run_partsAt x hok hdo (H.length + 4) H1 d t s r a b e f (h.ext hA1.ext) fl (hsr.ext hA1.ext) p (hp.ext hA1.ext) hp0 0 1 (fun j => j) (foreN x fl p) (ptS_fore hok fl p) (fun i j _ _ e => e) hk H.length g10 g11 g12 g13
  have hHB1 := hA1.trans hB1
  obtain ⟨H2, hH2⟩ : ∃ H2, H2 = B1 ++ [.rw 0 (sV x d t s r a b e), .rw 0 [.int .i64 ((x.ch.tide.length : Int) - 1)], .rw 0 [.int .i64 (-1)], .rw 0 [f]] := ⟨_, rfl⟩
  have hP2 := fun lim => run_parts x lim B1 d t s r a b e f (h.ext hHB1.ext) oa ob oe hp.1 ((x.ch.tide.length : Int) - 1) (-1)
  rw [← hH2] at hP2
  have hLT := fun lim => run_lastTick x lim B1 d t s r a b e (h.ext hHB1.ext) oa ob oe
  have hA2 : Aft B1 H2 := by rw [hH2]; exact (Aft.refl B1).push _
  have hHH2 := hHB1.trans hA2
  have g20 : H2[B1.length]? = some (.rw 0 (sV x d t s r a b e)) := by rw [hH2, List.getElem?_append_right (Nat.le_refl _), Nat.sub_self]; rfl
  have g21 : H2[B1.length + 1]? = some (.rw 0 [.int .i64 ((x.ch.tide.length : Int) - 1)]) := by rw [hH2, List.getElem?_append_right (by omega), Nat.add_sub_cancel_left]; rfl
  have g22 : H2[B1.length + 2]? = some (.rw 0 [.int .i64 (-1)]) := by rw [hH2, List.getElem?_append_right (by omega), Nat.add_sub_cancel_left]; rfl
  have g23 : H2[B1.length + 3]? = some (.rw 0 [f]) := by rw [hH2, List.getElem?_append_right (by omega), Nat.add_sub_cancel_left]; rfl
  obtain ⟨B2, bw2, hQ2, hB2, hbw2, hBw2⟩ := run_partsAt x hok hdo H.length H2 d t s r a b e f (h.ext hHH2.ext) fl (hsr.ext hHH2.ext) p (hp.ext hHH2.ext) hp0 ((x.ch.tide.length : Int) - 1) (-1) (fun j => x.ch.ticks - 1 - j) (backN x fl p) (ptS_back hok fl p) (fun i j hi hj e => by have e' : x.ch.ticks - 1 - i = x.ch.ticks - 1 - j := e; omega) (J := x.ch.ticks - 1 - k) (by omega) B1.length g20 g21 g22 g23
  have hHB2 := hHH2.trans hB2
  have ek : x.ch.ticks - 1 - (x.ch.ticks - 1 - k) = k := by omega
  have ek2 : x.ch.ticks - 1 - k + 1 = x.ch.ticks - k := by omega
  simp only [ek] at hQ2
  rw [ek2] at hBw2
  have hBw1' : B2[bw1]? = some (.rw 1 (ints (foreN x fl p (k + 1)))) := by
    obtain ⟨K, hK⟩ := hA2.trans hB2
    rw [hK]; exact own_get hBw1 K
  obtain ⟨H3, hH3⟩ : ∃ H3, H3 = B2 ++ [.rw 0 [.slice (some ⟨bw1, 0, none⟩) x.ch.cells x.ch.cells], .rw 0 [.slice (some ⟨bw2, 0, none⟩) x.ch.cells x.ch.cells], .rw 0 [f], .rw 0 [.int .i64 (k : Int)], .rw 0 [.int .i64 most]] := ⟨_, rfl⟩
  have hA3 : Aft B2 H3 := by rw [hH3]; exact (Aft.refl B2).push _
  have hHH3 := hHB2.trans hA3
  have hfl := foreN_len x fl p (k + 1)
  have hbl := backN_len x fl p (x.ch.ticks - k)
  have sl1 : Sl H3 (.slice (some ⟨bw1, 0, none⟩) x.ch.cells x.ch.cells) (foreN x fl p (k + 1)).length (ints (foreN x fl p (k + 1))) := Sl.made (by rw [hH3]; exact own_get hBw1' _) hfl.symm
  have sl2 : Sl H3 (.slice (some ⟨bw2, 0, none⟩) x.ch.cells x.ch.cells) (backN x fl p (x.ch.ticks - k)).length (ints (backN x fl p (x.ch.ticks - k))) := Sl.made (by rw [hH3]; exact own_get hBw2 _) hbl.symm
  have hPn := isPn_within x H3 f p (hp.ext hHH3.ext) hk most (foreN x fl p (k + 1)) (backN x fl p (x.ch.ticks - k)) hfl hbl (foreN_bound hp0 (k + 1) (by omega)) (backN_bound hp0 (x.ch.ticks - k) (by omega)) hpb _ _ sl1 sl2 B2.length (B2.length + 1) (B2.length + 2) (B2.length + 3) (B2.length + 4)
    (by rw [hH3, List.getElem?_append_right (Nat.le_refl _), Nat.sub_self]; rfl) (by rw [hH3, List.getElem?_append_right (by omega), Nat.add_sub_cancel_left]; rfl) (by rw [hH3, List.getElem?_append_right (by omega), Nat.add_sub_cancel_left]; rfl) (by rw [hH3, List.getElem?_append_right (by omega), Nat.add_sub_cancel_left]; rfl) (by rw [hH3, List.getElem?_append_right (by omega), Nat.add_sub_cancel_left]; rfl)
  replace hPn : IsPn H3 (wiF B2.length (B2.length + 1) (B2.length + 2) (B2.length + 3) (B2.length + 4)) x.cells (fun i => withinB x fl p k most i.toNat) := hPn
  obtain ⟨v, A, hC, hA, hO⟩ := run_cells x (by have := hok.pos.2; show x.ch.cells ≤ 1000; omega) _ H.length H3 d t s r a b e _ (h.ext hHH3.ext) oa ob oe hPn
  have hHA := hHH3.trans hA
  rw [hH3] at hC
  obtain ⟨⟨⟨da, dc, ed, _⟩, ⟨ta, tc, et, _⟩, ⟨sa, sc, es, _⟩, _, htl, _⟩, ⟨ra, rc, er, _⟩, _⟩ := h
  obtain ⟨a1, a2, a3, ea⟩ := oa
  obtain ⟨b1, b2, b3, eb⟩ := ob
  obtain ⟨e1, e2, e3, ee⟩ := oe
  obtain ⟨hf1, hf2, hf3⟩ := hp.1
  simp only [srV, ptV, wiF, ed, et, es, er, ea, eb, ee] at hP1 hP2 hQ1 hQ2 hLT hC
  rcases hO with ⟨z1, rfl⟩ | ⟨z1, b', z2, rfl, z3⟩
  · refine ⟨_, H, ?_, Aft.refl H, .inl ⟨z1, rfl⟩⟩
    simp [-isU, -Value.cells, -oneC, isU_agg, cells_agg, isU_i, cells_i, isU_sl, cells_sl, oneC_slice, -Array.all_toList, sf_fixes_search_within, srV, ed, et, es, er, ea, eb, ee, hf1, hf2, hf3, hP1, hQ1, hP2, hQ2, hLT, hl1, hC, pf_pure, pureF]
  · refine ⟨_, A, ?_, hHA, .inr ⟨z1, b', Nat.le_trans hHH3.le z2, rfl, z3⟩⟩
    simp [-isU, -Value.cells, -oneC, isU_agg, cells_agg, isU_i, cells_i, isU_sl, cells_sl, oneC_slice, -Array.all_toList, sf_fixes_search_within, srV, ed, et, es, er, ea, eb, ee, hf1, hf2, hf3, hP1, hQ1, hP2, hQ2, hLT, hl1, hC, pf_pure, pureF]
end Go.Proofs.YtddnloghclemjaaGreatDoor
namespace Go.Proofs.YtddnloghclemjaaGreatDoor
open Go Go.RowKit
def miLoop : SC := sf_slices_Min_int_int.body.loops.headD .skip
def leastM (l : List Int) (n : Nat) : Int := bestOf (fun _ => true) (fun j => l.getD j 0) n
theorem min_loop (l : List Int) (hl : l.length ≤ 1000) (h0l : 0 < l.length) (hb : ∀ j, l.getD j 0 ≤ neverR) (H : AH) (v : Value) (hv : Sl H v l.length (ints l)) (S : St) (h0 : tget S.t 0 = v) (h3 : tget S.t 3 = .int .i64 (l.getD 0 0)) (h4 : tget S.t 4 = .int .i64 1) (hH : S.H = H) :
    ∃ q, exL Tryz.prog pf (.loop miLoop) S = some q ∧ q.1 = .exit 0 ∧ q.2.H = H ∧ tget q.2.t 3 = .int .i64 (leastM l l.length) := by
  obtain ⟨aa, ac, rfl, hd⟩ := hv
  refine loop_rule (I := fun m s' => ∃ i, 1 ≤ i ∧ i ≤ l.length ∧ m = l.length - i ∧ tget s'.t 0 = .slice aa l.length ac ∧ tget s'.t 4 = .int .i64 i ∧ s'.H = H ∧ tget s'.t 3 = .int .i64 (leastM l i)) ?_ (l.length - 1) S
    ⟨1, by omega, by omega, rfl, h0, h4, hH, by
      rw [h3]
      show Value.int .i64 (l.getD 0 0) = .int .i64 (min neverR (l.getD 0 0))
      have := hb 0
      rw [Int.min_eq_right this]⟩
  rintro m s' ⟨i, i1, hi, rfl, e0, e4, eH, e3⟩
  by_cases hlt : i < l.length
  rotate_left
  · have : i = l.length := by omega
    subst this
    simp [miLoop, SC.loops, sf_slices_Min_int_int, e0, e3, e4, eH]
  obtain ⟨b, o, rfl, g⟩ := hd i _ (ints_get l i hlt)
  simp only [hcell] at g
  have hw : IntKind.i64.wrap ((i : Int) + 1) = (i : Int) + 1 := wrap_i64 (by omega) (by omega)
  have hs : leastM l (i + 1) = min (leastM l i) (l.getD i 0) := rfl
  generalize l.getD i 0 = N at *
  generalize leastM l i = M at *
  simp [miLoop, SC.loops, sf_slices_Min_int_int, e0, e3, e4, eH, hlt, g, hw]
  exact ⟨_, by omega, i + 1, by omega, by omega, rfl, by omega, (min_val M N).trans hs.symm⟩
theorem run_Min (l : List Int) (hl : l.length ≤ 1000) (h0l : 0 < l.length) (hb : ∀ j, l.getD j 0 ≤ neverR) (lim : Nat) (H : AH) (v : Value) (hv : Sl H v l.length (ints l)) :
    apL Tryz.prog pf (.func (.func 95) #[] #[]) [v] lim H = some (.int .i64 (leastM l l.length), H) := by
  rw [apL_func _ _ _ _ _ _ (by rfl), sf_slices_Min_int_int_eq]
  have hv0 := hv
  obtain ⟨aa, ac, ev, hd⟩ := hv
  obtain ⟨b, o, rfl, g⟩ := hd 0 _ (ints_get l 0 h0l)
  simp only [hcell, Nat.add_zero] at g
  have hne : ¬ ((l.length : Int) < 1) := by omega
  have hne2 : ¬ (l.length < 1) := by omega
  have hn0 : ¬ l = [] := by intro e; rw [e] at h0l; simp at h0l
  simp [sf_slices_Min_int_int, ev, hne, hne2, hn0, h0l, g, pf_pure, pureF]
  generalize hS : ({ t := _, L := _, H := _, lim := _, rd := _ } : St) = S
  obtain ⟨⟨e, s1⟩, hr, q1, q2, q3⟩ := min_loop l hl h0l hb H v hv0 S (by subst hS; simp [ev]) (by subst hS; simp [h0l]) (by subst hS; simp) (by subst hS; rfl)
  simp [miLoop, SC.loops, sf_slices_Min_int_int] at hr
  rw [hr]
  simp only at q1 q2 q3
  subst q1
  simp [q2, q3]
def beAsg : SC := match sf_fixes_search_best.body with | .seq _ (.seq _ (.seq (.seq _ (.block _ (.rng _ _ a _))) _)) => a | _ => .skip
def beBody : SC := match sf_fixes_search_best.body with | .seq _ (.seq _ (.seq (.seq _ (.block _ (.rng _ _ _ b))) _)) => b | _ => .skip
def beR (T : TS) (L : LS) (lim : Nat) : ARec := ⟨0, none, T, L, lim, [25, 26], beAsg, beBody⟩
def Rest (x : Ds) (rho : Nat → List Int) (R : Nat) (A : AH) (rv : List Value) (j : Nat) : Prop :=
  rv.length = x.ch.ticks ∧ ∀ i, i < j → ∃ w, R < w ∧ rv[x.ch.ticks - 1 - i]? = some (.slice (some ⟨w, 0, none⟩) x.ch.cells x.ch.cells) ∧ A[w]? = some (.rw 1 (ints (rho (i + 1))))
def BeI (x : Ds) (H : AH) (d t s r a b e f : Value) (T : TS) (L : LS) (rho : Nat → List Int) (j : Nat) (A : AH) (v : Value) : Prop :=
  Aft H A ∧ A[H.length + 1]? = some (.rw 0 (sV x d t s r a b e)) ∧ A[H.length + 3]? = some (.rw 0 [.int .i64 (-1)]) ∧ A[H.length + 4]? = some (.rw 0 [f]) ∧ A[H.length + 5]? = some (.loop (beR T L H.length)) ∧ Sl A v x.ch.cells (ints (rho j)) ∧
    ∃ rv, A[H.length]? = some (.rw 1 rv) ∧ nlL rv = true ∧ Rest x rho (H.length + 5) A rv j
def BeD (x : Ds) (H : AH) (T : TS) (L : LS) (rho : Nat → List Int) (A : AH) : Prop :=
  Aft H A ∧ A[H.length + 5]? = some (.loop (beR T L H.length)) ∧ ∃ rv, A[H.length]? = some (.rw 1 rv) ∧ Rest x rho (H.length + 5) A rv x.ch.ticks
theorem nlL_setV : ∀ (l : List Value) (i : Nat) (v : Value), nlL l = true → nl v = true → nlL (l.set i v) = true
  | [], i, v, h, _ => by cases i <;> exact h
  | a :: l, 0, v, h, hv => by unfold nlL at h; simp only [Bool.and_eq_true] at h; show nlL (v :: l) = true; unfold nlL; simp only [Bool.and_eq_true]; exact ⟨hv, h.2⟩
  | a :: l, i + 1, v, h, hv => by unfold nlL at h; simp only [Bool.and_eq_true] at h; show nlL (a :: l.set i v) = true; unfold nlL; simp only [Bool.and_eq_true]; exact ⟨h.1, nlL_setV l i v h.2 hv⟩
theorem be_C (x : Ds) (H : AH) (d t s r a b e f : Value) (rho : Nat → List Int) (hrl : ∀ j, j ≤ x.ch.ticks → (rho j).length = x.ch.cells) (T : TS) (L : LS) (c7 : Nat)
    (h7 : tget T 7 = .pointer (some ⟨7, 0, some 0⟩)) (hL7 : lget L 7 = some (0, .cells [.slice (some ⟨H.length, 0, none⟩) x.ch.ticks c7])) :
    PtC x H d t s r a b e f (-1) (fun j => x.ch.ticks - 1 - j) rho (H.length + 1) H.length (.func (.yield (H.length + 5)) #[] #[]) (BeI x H d t s r a b e f T L rho) (BeD x H T L rho) := by
  refine ⟨fun j A v hI => ?_, fun j A v hj hI => ?_, fun A v hI => ?_⟩
  · obtain ⟨i1, i2, i3, i4, i5, i6, _⟩ := hI
    exact ⟨i2, i3, i4, i1.ext, i6⟩
  · obtain ⟨i1, i2, i3, i4, i5, i6, rv, i7, i8, i9, i10⟩ := hI
    have hl : H.length + 5 < A.length := (List.getElem?_eq_some_iff.1 i5).1
    obtain ⟨B, hB⟩ : ∃ B, B = A ++ [.rw 1 [.int .i64 1201], .rw 1 (ints (rho (j + 1)))] := ⟨_, rfl⟩
    have hBl : B[H.length + 5]? = some (.loop (beR T L H.length)) := by rw [hB]; exact own_get i5 _
    have hBR : B[H.length]? = some (.rw 1 rv) := by rw [hB]; exact own_get i7 _
    have hBA : Aft H B := by rw [hB]; exact i1.push _
    have hBw : B[A.length + 1]? = some (.rw 1 (ints (rho (j + 1)))) := by rw [hB, List.getElem?_append_right (by omega)]; simp
    have hBk : ∀ c z, A[c]? = some z → B[c]? = some z := fun c z hz => by rw [hB]; exact own_get hz _
    have hBlen : B.length = A.length + 2 := by rw [hB]; simp
    rw [← hB]
    have ha : ∀ Y, exL Tryz.prog pf beAsg ⟨([25, 26].zip [Value.int .i64 (x.ch.ticks - 1 - j : Nat), .slice (some ⟨A.length + 1, 0, none⟩) x.ch.cells x.ch.cells]).reverse ++ T, L, Y, H.length, some (H.length + 5)⟩ = some (.normal, ⟨(9, .slice (some ⟨A.length + 1, 0, none⟩) x.ch.cells x.ch.cells) :: (8, .int .i64 (x.ch.ticks - 1 - j : Nat)) :: (26, .slice (some ⟨A.length + 1, 0, none⟩) x.ch.cells x.ch.cells) :: (25, .int .i64 (x.ch.ticks - 1 - j : Nat)) :: T, L, Y, H.length, some (H.length + 5)⟩) := fun Y => by
      simp [beAsg, sf_fixes_search_best]
    have hjt : x.ch.ticks - 1 - j < x.ch.ticks := by omega
    have hjr : x.ch.ticks - 1 - j + 1 ≤ rv.length := by omega
    have hBR' : ∀ z, (B.set (H.length + 5) z)[H.length]? = some (.rw 1 rv) := fun z => by rw [List.getElem?_set_ne (by omega), hBR]
    obtain ⟨k, hk⟩ : ∃ k, k = x.ch.ticks - 1 - j := ⟨_, rfl⟩
    rw [← hk] at hjt hjr ha ⊢
    have key : ∃ s', exL Tryz.prog pf beBody ⟨(9, .slice (some ⟨A.length + 1, 0, none⟩) x.ch.cells x.ch.cells) :: (8, .int .i64 k) :: (26, .slice (some ⟨A.length + 1, 0, none⟩) x.ch.cells x.ch.cells) :: (25, .int .i64 k) :: T, L, B.set (H.length + 5) (.loop { beR T L H.length with st := 1, L := [] }), H.length, some (H.length + 5)⟩ = some (.normal, s') ∧ s'.H = (B.set (H.length + 5) (.loop { beR T L H.length with st := 1, L := [] })).set H.length (.rw 1 (rv.set k (.slice (some ⟨A.length + 1, 0, none⟩) x.ch.cells x.ch.cells))) ∧ s'.L = L := by
      simp [-oneC, oneC_slice, beBody, sf_fixes_search_best, h7, hL7, hjt, hjr, hBR']
    obtain ⟨s', z1, z2, z3⟩ := key
    have hy := yield_round (l := H.length + 5) (B := B) (r := beR T L H.length) (args := [.int .i64 k, .slice (some ⟨A.length + 1, 0, none⟩) x.ch.cells x.ch.cells]) (lim := H.length) hBl rfl (Nat.le_refl _) (by omega) rfl ha (e := .normal) (s' := s') z1 (r2 := { beR T L H.length with st := 1, L := [] }) (by rw [z2, List.getElem?_set_ne (by omega), List.getElem?_set_self (by omega)])
    have hA2 : s'.H.set (H.length + 5) (.loop { beR T L H.length with st := if Ex.normal = Ex.normal then 0 else 2, pend := if Ex.normal = Ex.normal then none else some .normal, L := s'.L }) = B.set H.length (.rw 1 (rv.set k (.slice (some ⟨A.length + 1, 0, none⟩) x.ch.cells x.ch.cells))) := by
      rw [z2, z3, List.set_comm _ _ (by omega : H.length ≠ H.length + 5), List.set_set]
      congr 1
      exact set_same hBl
    rw [hA2] at hy
    have keep : ∀ c z, c ≠ H.length → B[c]? = some z → (B.set H.length (.rw 1 (rv.set k (.slice (some ⟨A.length + 1, 0, none⟩) x.ch.cells x.ch.cells))))[c]? = some z := fun c z hc hz => by rw [List.getElem?_set_ne (Ne.symm hc), hz]
    refine ⟨true, _, hy, fun _ => ⟨hBA.set (Nat.le_refl _) _, keep _ _ (by omega) (hBk _ _ i2), keep _ _ (by omega) (hBk _ _ i3), keep _ _ (by omega) (hBk _ _ i4), keep _ _ (by omega) hBl, ?_, _, List.getElem?_set_self (by omega), nlL_setV _ _ _ i8 (by simp), ⟨by simpa using i9, fun i hi => ?_⟩⟩, fun h => by cases h⟩
    · have := Sl.made (keep _ _ (by omega) hBw) rfl (k := x.ch.cells)
      rw [hrl (j + 1) (by omega)] at this
      exact this
    · by_cases hij : i = j
      · subst hij
        refine ⟨A.length + 1, by omega, ?_, keep _ _ (by omega) hBw⟩
        rw [← hk, List.getElem?_set_self (by omega)]
      · obtain ⟨w, w1, w2, w3⟩ := i10 i (by omega)
        exact ⟨w, w1, by rw [List.getElem?_set_ne (by omega), w2], keep _ _ (by omega) (hBk _ _ w3)⟩
  · obtain ⟨i1, i2, i3, i4, i5, i6, rv, i7, i8, i9⟩ := hI
    exact ⟨i1, i5, rv, i7, i9⟩
end Go.Proofs.YtddnloghclemjaaGreatDoor
namespace Go.Proofs.YtddnloghclemjaaGreatDoor
open Go Go.RowKit
def nextL (x : Ds) (fl : Nat → Nat → Bool) (p : Nat → Nat → Int) : Nat → List Nat
  | 0 => upto (fun _ => true) x.ch.cells
  | k + 1 => upto (hops x (cP x fl p k)) x.ch.cells
theorem cP_eq (x : Ds) (fl : Nat → Nat → Bool) (p : Nat → Nat → Int) (k : Nat) : cP x fl p k = cheapM (fun j => (backN x fl p (x.ch.ticks - k)).getD j 0) ((nextL x fl p k).headD 0) (nextL x fl p k) := by cases k <;> rfl
theorem nextL_lt {x : Ds} {fl : Nat → Nat → Bool} {p : Nat → Nat → Int} {k j : Nat} (h : j ∈ nextL x fl p k) : j < x.ch.cells := by
  cases k <;> exact (upto_mem.1 h).1
theorem nextL_len (x : Ds) (fl : Nat → Nat → Bool) (p : Nat → Nat → Int) (k : Nat) : (nextL x fl p k).length ≤ x.ch.cells := by
  have : ∀ q : Nat → Bool, (upto q x.ch.cells).length ≤ x.ch.cells := fun q => by
    have := List.length_filter_le q (List.range x.ch.cells)
    simpa [upto] using this
  cases k <;> exact this _
theorem cP_lt {x : Ds} (hdo : dsOk x = true) (hc : 0 < x.ch.cells) (fl : Nat → Nat → Bool) (p : Nat → Nat → Int) : ∀ k, 0 < (nextL x fl p k).length ∧ cP x fl p k < x.ch.cells := by
  have key : ∀ k, 0 < (nextL x fl p k).length → cP x fl p k < x.ch.cells := fun k h => by
    rw [cP_eq, headD_zero h]
    rcases cheapM_mem (fun j => (backN x fl p (x.ch.ticks - k)).getD j 0) (nextL x fl p k) (nextL x fl p k)[0] with e | e
    · rw [e]; exact nextL_lt (List.getElem_mem h)
    · exact nextL_lt e
  intro k
  induction k with
  | zero =>
    have : 0 < (nextL x fl p 0).length := List.length_pos_of_mem (upto_mem.2 ⟨hc, rfl⟩)
    exact ⟨this, key 0 this⟩
  | succ k ih =>
    have : 0 < (nextL x fl p (k + 1)).length := upto_pos ih.2 (hops_self hdo _)
    exact ⟨this, key _ this⟩
def courseM (x : Ds) (fl : Nat → Nat → Bool) (p : Nat → Nat → Int) (k : Nat) : List Int := (List.range k).map fun t => (cP x fl p t : Int)
theorem courseM_succ (x : Ds) (fl : Nat → Nat → Bool) (p : Nat → Nat → Int) (k : Nat) : courseM x fl p (k + 1) = courseM x fl p k ++ [(cP x fl p k : Int)] := by simp [courseM, List.range_succ]
theorem courseM_len (x : Ds) (fl : Nat → Nat → Bool) (p : Nat → Nat → Int) (k : Nat) : (courseM x fl p k).length = k := by simp [courseM]
def beLoop : SC := sf_fixes_search_best.body.loops.headD .skip
set_option maxHeartbeats 1000000 in
theorem best_loop (x : Ds) (hok : ChOk x.ch) (hdo : dsOk x = true) (H2 : AH) (d t s r a b e : Value) (h : DsIn H2 x d t s r) (fl fl' : Nat → Nat → Bool) (hsr : SrIn H2 x fl' a b e) (p : Nat → Nat → Int) {R : Nat} (rv : List Value) (hR : H2[R]? = some (.rw 1 rv)) (hrest : Rest x (backN x fl p) (R + 5) H2 rv x.ch.ticks) (c41 : Nat) (S : St) (hlim : S.lim ≤ H2.length)
    (h2 : tget S.t 2 = .pointer (some ⟨2, 0, some 0⟩)) (h5 : tget S.t 5 = .slice none 0 0) (h41 : tget S.t 41 = .slice (some ⟨R, 0, none⟩) x.ch.ticks c41) (h42 : tget S.t 42 = .int .i64 x.ch.ticks) (h43 : tget S.t 43 = .int .i64 0) (h10 : Sl S.H (tget S.t 10) (nextL x fl p 0).length (ints ((nextL x fl p 0).map fun (j : Nat) => (j : Int))))
    (hL : lget S.L 2 = some (0, .cells (sV x d t s r a b e))) (hH : S.H = H2) :
    ∃ q, exL Tryz.prog pf (.loop beLoop) S = some q ∧ q.1 = .exit 2 ∧ Aft H2 q.2.H ∧ OwnA H2.length q.2.H (tget q.2.t 5) (courseM x fl p x.ch.ticks) ∧ tget q.2.t 4 = tget S.t 4 := by
  have htk : x.ch.ticks ≤ 60 := hok.2.2.2.1.2
  obtain ⟨p0, p1⟩ := hok.pos
  have h00 := h
  obtain ⟨⟨⟨da, dc, ed, _⟩, ⟨ta, tc, et, _⟩, ⟨sa, sc, es, _⟩, _, htl, _⟩, ⟨ra, rc, er, _⟩, _⟩ := h
  obtain ⟨a1, a2, a3, ea⟩ := hsr.near.one
  obtain ⟨b1, b2, b3, eb⟩ := hsr.flo.one
  obtain ⟨e1', e2', e3', ee⟩ := hsr.unt.one
  refine loop_rule (I := fun m s' => ∃ k, k ≤ x.ch.ticks ∧ m = x.ch.ticks - k ∧ tget s'.t 2 = .pointer (some ⟨2, 0, some 0⟩) ∧ tget s'.t 41 = .slice (some ⟨R, 0, none⟩) x.ch.ticks c41 ∧ tget s'.t 42 = .int .i64 x.ch.ticks ∧ tget s'.t 43 = .int .i64 k ∧ lget s'.L 2 = some (0, .cells (sV x d t s r a b e)) ∧ s'.lim = S.lim ∧ tget s'.t 4 = tget S.t 4 ∧ Aft H2 s'.H ∧
      Sl s'.H (tget s'.t 10) (nextL x fl p k).length (ints ((nextL x fl p k).map fun (j : Nat) => (j : Int))) ∧ OwnA H2.length s'.H (tget s'.t 5) (courseM x fl p k)) ?_ x.ch.ticks S
    ⟨0, by omega, by omega, h2, h41, h42, h43, hL, rfl, rfl, by rw [hH]; exact Aft.refl H2, h10, .inl ⟨rfl, h5⟩⟩
  rintro m s' ⟨k, hk, rfl, e2, e41, e42, e43, eL, el, e4, eA, eC, eO⟩
  obtain ⟨A, hA⟩ : ∃ A, s'.H = A := ⟨_, rfl⟩
  obtain ⟨cv, hcv⟩ : ∃ cv, tget s'.t 10 = cv := ⟨_, rfl⟩
  rw [hA] at eA eC eO
  rw [hcv] at eC
  by_cases hlt : k < x.ch.ticks
  rotate_left
  · have : k = x.ch.ticks := by omega
    subst this
    simp [beLoop, SC.loops, sf_fixes_search_best, e2, e41, e42, e43, hA, e4]
    exact ⟨eA, eO⟩
  have hAE := eA.ext
  have hw : IntKind.i64.wrap ((k : Int) + 1) = (k : Int) + 1 := wrap_i64 (by omega) (by omega)
  obtain ⟨hpos, hcl⟩ := cP_lt hdo p0 fl p k
  obtain ⟨hrvl, hrows⟩ := hrest
  obtain ⟨w, w1, w2, w3⟩ := hrows (x.ch.ticks - 1 - k) (by omega)
  rw [show x.ch.ticks - 1 - (x.ch.ticks - 1 - k) = k by omega] at w2
  rw [show x.ch.ticks - 1 - k + 1 = x.ch.ticks - k by omega] at w3
  have hAR : A[R]? = some (.rw 1 rv) := hAE _ _ hR
  have hAw : A[w]? = some (.rw 1 (ints (backN x fl p (x.ch.ticks - k)))) := hAE _ _ w3
  have hbl := backN_len x fl p (x.ch.ticks - k)
  have hsx := hsr.ext hAE
  have hch := fun lim => run_cheapest x (nextL x fl p k) (by have := nextL_len x fl p k; omega) (backN x fl p (x.ch.ticks - k)) (fun j hj => by rw [hbl]; exact nextL_lt hj) hpos lim A d t s r a b e cv (.slice (some ⟨w, 0, none⟩) x.ch.cells x.ch.cells) (h00.ext hAE) hsx.near.one hsx.flo.one hsx.unt.one eC (Sl.made hAw hbl.symm)
  rw [← headD_zero hpos, ← cP_eq] at hch
  obtain ⟨nb, no, nc, nw, enr, n1, n2⟩ := tb_row hsr.near hcl
  have hnl2 : nearV x (cP x fl p k) = ints ((nextL x fl p (k + 1)).map fun (j : Nat) => (j : Int)) := rfl
  have hnl3 : (nearV x (cP x fl p k)).length = (nextL x fl p (k + 1)).length := by rw [hnl2]; simp [ints]
  rw [hnl3, hnl2] at n2
  have hs := courseM_succ x fl p k
  have hlen := courseM_len x fl p k
  obtain ⟨va, vc, ecv, _⟩ := eC
  obtain ⟨na, ncp, enw, _⟩ : ∃ na ncp, nw = .slice na (nextL x fl p (k + 1)).length ncp ∧ True := by obtain ⟨na, nc, e, _⟩ := n2; exact ⟨na, nc, e, trivial⟩
  rw [ecv] at hch hcv
  have eL0 := eL
  have hsV : sV x d t s r a b e = [Value.int IntKind.i64 x.ch.w, Value.int IntKind.i64 x.ch.h, d, t, s, Value.int IntKind.i64 x.g, Value.int IntKind.i64 x.pace, r, a, b, e] := rfl
  rw [hsV, ed, et, es, er, enr, eb, ee] at eL
  simp only [srV, ed, et, es, er, enr, eb, ee] at hch
  rw [enw] at n1
  have n1F : ∀ F : AH, Aft H2 F → hcell F nb (no + cP x fl p k) = some (.slice na (nextL x fl p (k + 1)).length ncp) := fun F hF => by
    obtain ⟨K, rfl⟩ := hF
    have hnb : nb < H2.length := by
      unfold hcell at n1
      cases hx : H2[nb]? with
      | none => rw [hx] at n1; simp at n1
      | some y => exact (List.getElem?_eq_some_iff.1 hx).1
    unfold hcell at n1 ⊢
    rw [List.getElem?_append_left hnb]
    exact n1
  have hrk : k < rv.length := by omega
  have hrvk : ∀ hh : k < rv.length, rv[k]'hh = .slice (some ⟨w, 0, none⟩) x.ch.cells x.ch.cells := fun hh => by rw [List.getElem?_eq_getElem hh] at w2; exact Option.some.inj w2
  generalize hcc : cP x fl p k = c at *
  obtain ⟨ws, hws⟩ : ∃ ws, ws = courseM x fl p k := ⟨_, rfl⟩
  rw [← hws] at eO hs hlen
  have hm1 : 1 ≤ maxA := by decide
  have hfin : ∀ (F : AH), Aft H2 F → Sl F (.slice na (nextL x fl p (k + 1)).length ncp) (nextL x fl p (k + 1)).length (ints ((nextL x fl p (k + 1)).map fun (j : Nat) => (j : Int))) := fun F hE => by
    rw [← enw]; exact n2.ext hE.ext
  have hx1 := fun y : AH => n1F (A ++ y) (eA.push y)
  simp only [hcell] at hx1
  rcases eO with ⟨hw0, e5⟩ | ⟨hw0, b', hb', e5, hbA⟩
  · have hk0 : k = 0 := by rw [← hlen, hw0]; rfl
    simp [-oneC, oneC_int, beLoop, SC.loops, sf_fixes_search_best, e2, e41, e42, e43, e5, hcv, eL, hA, hlt, hAR, hrvk, w2, hch, hm1, hx1, hcl, hw]
    refine ⟨_, by omega, k + 1, by omega, rfl, by omega, ?_, el, e4, eA.push _, hfin _ (eA.push _), .inr ⟨by rw [hs]; simp, A.length + 1, by have := eA.le; omega, by rw [hs, hw0]; simp, ?_⟩⟩
    · rw [hsV, ed, et, es, er, enr, eb, ee]
    · rw [hs, hw0, List.getElem?_append_right (by omega), Nat.add_sub_cancel_left]; rfl
  · have hbl' : b' < A.length := (List.getElem?_eq_some_iff.1 hbA).1
    have hl0 : ¬ ws.length = 0 := by simpa using hw0
    have hl0' : ¬ k = 0 := by omega
    have hmx : k + 1 ≤ maxA := Nat.le_trans (show k + 1 ≤ 2000 by omega) (by decide)
    have hcn : nlL (ints ws) = true := nlL_ints ws
    have hci : (ints ws).length = ws.length := ints_length ws
    have happ : ints ws ++ [.int .i64 (c : Int)] = ints (ws ++ [(c : Int)]) := by rw [ints_append]; rfl
    have hcA := fun L x => own_cells hbA L x
    have hbX := fun x => own_get hbA x
    have hsX := fun x y => own_set hbA x y
    have hlb : S.lim ≤ b' := by omega
    rw [hci, hlen] at hcA
    rw [hlen] at e5 hci
    have hx2 := fun y : AH => n1F (A.set b' .dead ++ y) ((eA.set hb' _).push y)
    simp only [hcell] at hx2
    generalize hcs : ints ws = cs at *
    simp [-oneC, oneC_int, beLoop, SC.loops, sf_fixes_search_best, e2, e41, e42, e43, e5, hcv, eL, hA, hlt, hAR, hrvk, w2, hch, hm1, hx2, hcl, hw, hl0', hmx, hcA, hbX, hsX, hcn, happ, hci, el, hlb]
    refine ⟨_, by omega, k + 1, by omega, rfl, by omega, ?_, e4, (eA.set hb' _).push _, hfin _ ((eA.set hb' _).push _), .inr ⟨by rw [hs]; simp, A.length + 1, by have := eA.le; omega, by rw [hs]; simp [hlen], ?_⟩⟩
    · rw [hsV, ed, et, es, er, enr, eb, ee]
    · rw [hs, List.getElem?_append_right (by simp)]
      simp
end Go.Proofs.YtddnloghclemjaaGreatDoor
namespace Go.Proofs.YtddnloghclemjaaGreatDoor
open Go Go.RowKit
theorem those_all {x : Ds} : thoseN (inN x.cells) x.cells = (upto (fun _ => true) x.ch.cells).map fun (j : Nat) => (j : Int) := by
  unfold thoseN upto
  congr 1
  refine List.filter_congr fun j hj => ?_
  exact inN_of (List.mem_range.1 hj)
set_option maxHeartbeats 2000000 in
theorem run_best (x : Ds) (hok : ChOk x.ch) (hdo : dsOk x = true) (lim : Nat) (H : AH) (d t s r a b e f : Value) (h : DsIn H x d t s r) (fl : Nat → Nat → Bool) (hsr : SrIn H x fl a b e) (p : Nat → Nat → Int) (hp : IsPr H f x.ch.ticks x.ch.cells p) (hp0 : ∀ k i, k < x.ch.ticks → i < x.ch.cells → 0 ≤ p k i) :
    (leastM (backN x fl p x.ch.ticks) x.ch.cells = topN → apL Tryz.prog pf (.func (.func 53) #[] #[]) [srV x d t s r a b e, f] lim H = some (.tuple #[.int .i64 0, .slice none 0 0, .int .i64 3], H)) ∧
    (leastM (backN x fl p x.ch.ticks) x.ch.cells ≠ topN → ∃ v A, apL Tryz.prog pf (.func (.func 53) #[] #[]) [srV x d t s r a b e, f] lim H = some (.tuple #[.int .i64 (leastM (backN x fl p x.ch.ticks) x.ch.cells), v, .int .i64 0], A) ∧ Aft H A ∧ OwnA H.length A v (courseM x fl p x.ch.ticks)) := by
  rw [apL_func _ _ _ _ _ _ (by rfl), sf_fixes_search_best_eq]
  obtain ⟨p0, p1⟩ := hok.pos
  have htk0 : 0 < x.ch.ticks := hok.2.2.2.1.1
  have htk : x.ch.ticks ≤ 60 := hok.2.2.2.1.2
  have h0 := h
  have oa := hsr.near.one
  have ob := hsr.flo.one
  have oe := hsr.unt.one
  have hnlr : ∀ n : Nat, nlL (List.replicate n (Value.slice none 0 0)) = true := fun n => nlL_of _ fun v hv => by
    rw [(List.mem_replicate.1 hv).2]; simp
  obtain ⟨H1, hH1⟩ : ∃ H1, H1 = H ++ [.rw 1 (List.replicate x.ch.ticks (.slice none 0 0))] := ⟨_, rfl⟩
  have hl1 : H1.length = H.length + 1 := by rw [hH1]; simp
  have hA1 : Aft H H1 := by rw [hH1]; exact (Aft.refl H).push _
  have hLT := fun lim => run_lastTick x lim H1 d t s r a b e (h.ext hA1.ext) oa ob oe
  have hP2 := fun lim => run_parts x lim H1 d t s r a b e f (h.ext hA1.ext) oa ob oe hp.1 ((x.ch.tide.length : Int) - 1) (-1)
  obtain ⟨H2, hH2⟩ : ∃ H2, H2 = H1 ++ [.rw 0 (sV x d t s r a b e), .rw 0 [.int .i64 ((x.ch.tide.length : Int) - 1)], .rw 0 [.int .i64 (-1)], .rw 0 [f]] := ⟨_, rfl⟩
  rw [← hH2] at hP2
  have hl2 : H2.length = H.length + 5 := by rw [hH2]; simp [hl1]
  have hA2 : Aft H H2 := by rw [hH2]; exact hA1.push _
  have g2R : H2[H.length]? = some (.rw 1 (List.replicate x.ch.ticks (.slice none 0 0))) := by
    rw [hH2]; refine own_get ?_ _
    rw [hH1, List.getElem?_append_right (Nat.le_refl _), Nat.sub_self]; rfl
  have g20 : H2[H.length + 1]? = some (.rw 0 (sV x d t s r a b e)) := by rw [hH2, ← hl1, List.getElem?_append_right (Nat.le_refl _), Nat.sub_self]; rfl
  have g21 : H2[H.length + 1 + 1]? = some (.rw 0 [.int .i64 ((x.ch.tide.length : Int) - 1)]) := by rw [hH2, ← hl1, List.getElem?_append_right (by omega), Nat.add_sub_cancel_left]; rfl
  have g22 : H2[H.length + 3]? = some (.rw 0 [.int .i64 (-1)]) := by rw [hH2, List.getElem?_append_right (by omega), show H.length + 3 - H1.length = 2 by omega]; rfl
  have g23 : H2[H.length + 4]? = some (.rw 0 [f]) := by rw [hH2, List.getElem?_append_right (by omega), show H.length + 4 - H1.length = 3 by omega]; rfl
  obtain ⟨hf1, hf2, hf3⟩ := hp.1
  have hmx : x.ch.ticks ≤ maxA := Nat.le_trans (show x.ch.ticks ≤ 60 by omega) (by decide)
  have hdl : x.ch.tide.length = x.ch.ticks := rfl
  have hz : ∀ n, zeros [.slice none 0 0] n = List.replicate n (Value.slice none 0 0) := by
    intro n
    induction n with
    | zero => rfl
    | succ n ih => simp only [zeros, ih, List.replicate_succ]; rfl
  have hrl : ∀ j, j ≤ x.ch.ticks → (backN x fl p j).length = x.ch.cells := fun j _ => backN_len ..
  obtain ⟨⟨⟨da, dc, ed, _⟩, ⟨ta, tc, et, _⟩, ⟨sa, sc, es, _⟩, _, htl, _⟩, ⟨ra, rc, er, _⟩, _⟩ := h
  obtain ⟨a1, a2, a3, ea⟩ := oa
  obtain ⟨b1, b2, b3, eb⟩ := ob
  obtain ⟨e1, e2, e3, ee⟩ := oe
  simp only [srV, ptV, ed, et, es, er, ea, eb, ee] at hP2 hLT
  rw [hH1] at hP2 hLT
  simp only [hdl] at hP2 hLT
  simp [-oneC, oneC_slice, -Array.all_toList, sf_fixes_search_best, srV, ed, et, es, er, ea, eb, ee, hdl, hmx, hz, hnlr, hf1, hP2, hLT, pf_pure, pureF]
  generalize hS : ({ t := _, L := _, H := _, lim := _, rd := _ } : St) = S
  have eH : S.H = H2 := by subst hS; rfl
  have el : S.lim = H.length := by subst hS; rfl
  have hr0 : (H2 ++ [.loop (beR S.t S.L H.length)] ++ [.rw 1 (ints (backN x fl p 0))] : AH)[H.length + 6]? = some (.rw 1 (ints (backN x fl p 0))) := by rw [List.getElem?_append_right (by simp [hl2])]; simp [hl2]
  have hlH : (H2 ++ [.loop (beR S.t S.L H.length)] : AH).length = H.length + 6 := by simp [hl2]
  obtain ⟨A', y1, y2, y3, rv, y4, y5⟩ := run_pt x hok hdo H d t s r a b e f h0 fl hsr p hp hp0 ((x.ch.tide.length : Int) - 1) (-1) (fun j => x.ch.ticks - 1 - j) (backN x fl p) (ptS_back hok fl p) (H.length + 1) H.length (.func (.yield (H.length + 5)) #[] #[]) (by simp) _ _ (be_C x H d t s r a b e f (backN x fl p) hrl S.t S.L x.ch.ticks (by subst hS; simp) (by subst hS; simp))
    (H2 ++ [.loop (beR S.t S.L H.length)]) (own_get g20 _) (own_get g21 _) ⟨(hA2.push _).push _, own_get (own_get g20 _) _, own_get (own_get g22 _) _, own_get (own_get g23 _) _, by rw [List.append_assoc, List.getElem?_append_right (by omega), hl2, Nat.sub_self]; rfl, by
      have := Sl.made (n := x.ch.cells) (k := x.ch.cells) hr0 (hrl 0 (by omega)).symm
      rw [hrl 0 (by omega)] at this
      rw [hlH]; exact this, _, own_get (own_get g2R _) _, hnlr _, by simp, fun i hi => by omega⟩
  have hx := exL_range (f := .tmp 24) (ps := [25, 26]) (asg := beAsg) (body := beBody) (S := S) (fv := ptV (H.length + 1)) (by subst hS; simp [ptV]) (by simp [ptV]) rfl (by subst hS; rfl) (A' := A') (v := .tuple #[]) (r := beR S.t S.L H.length)
    (by rw [eH, el, hl2]; exact y1) (by rw [eH, hl2]; exact y3) (.inl rfl)
  simp only [beAsg, beBody, sf_fixes_search_best] at hx
  rw [hx]
  obtain ⟨H3, hH3⟩ : ∃ H3, H3 = A'.set (H.length + 5) .dead := ⟨_, rfl⟩
  have hA3 : Aft H H3 := by rw [hH3]; exact y2.set (by omega) _
  have eH3 : A'.set S.H.length .dead = H3 := by rw [eH, hl2, hH3]
  rw [eH3]
  have r1 : H3[H.length]? = some (.rw 1 rv) := by rw [hH3, List.getElem?_set_ne (by omega), y4]
  have r2 : Rest x (backN x fl p) (H.length + 5) H3 rv x.ch.ticks := ⟨y5.1, fun i hi => by
    obtain ⟨w, w1, w2, w3⟩ := y5.2 i hi
    exact ⟨w, w1, w2, by rw [hH3, List.getElem?_set_ne (by omega), w3]⟩⟩
  obtain ⟨w, w1, w2, w3⟩ := r2.2 (x.ch.ticks - 1) (by omega)
  rw [Nat.sub_self] at w2
  rw [show x.ch.ticks - 1 + 1 = x.ch.ticks by omega] at w3
  have hbl := backN_len x fl p x.ch.ticks
  have hbb := backN_bound (x := x) (fl := fl) (p := p) hp0 x.ch.ticks (Nat.le_refl _)
  have hM := fun lim => run_Min (backN x fl p x.ch.ticks) (by omega) (by omega) (fun j => Int.le_trans (hbb j).2 (by decide)) lim H3 _ (Sl.made w3 hbl.symm (k := x.ch.cells))
  rw [hbl] at hM
  have j7 : tget S.t 7 = .pointer (some ⟨7, 0, some 0⟩) := by subst hS; simp
  have jL7 : lget S.L 7 = some (0, .cells [.slice (some ⟨H.length, 0, none⟩) x.ch.ticks x.ch.ticks]) := by subst hS; simp
  have j2 : tget S.t 2 = .pointer (some ⟨2, 0, some 0⟩) := by subst hS; simp
  have jL2 : lget S.L 2 = some (0, .cells (sV x d t s r a b e)) := by subst hS; simp [sV, ed, et, es, er, ea, eb, ee, hdl]
  have j5 : tget S.t 5 = .slice none 0 0 := by subst hS; simp
  have oa' : OneS a := ⟨_, _, _, ea⟩
  have ob' : OneS b := ⟨_, _, _, eb⟩
  have oe' : OneS e := ⟨_, _, _, ee⟩
  obtain ⟨v, A, hC, hA, hO⟩ := run_cells x (by show x.ch.cells ≤ 1000; omega) _ H.length H3 d t s r a b e _ (h0.ext hA3.ext) oa' ob' oe' ((isP_srCell x H3 d t s r a b e (h0.ext hA3.ext) oa' ob' oe').n _)
  rw [those_all] at hO
  have hup : 0 < (upto (fun _ => true) x.ch.cells).length := List.length_pos_of_mem (upto_mem.2 ⟨p0, rfl⟩)
  obtain ⟨bv, hbv, hev, hBv⟩ : ∃ bv, H3.length ≤ bv ∧ v = .slice (some ⟨bv, 0, none⟩) (upto (fun _ => true) x.ch.cells).length ((upto (fun _ => true) x.ch.cells).length + 1) ∧ A[bv]? = some (.rw 1 (ints ((upto (fun _ => true) x.ch.cells).map fun (j : Nat) => (j : Int)))) := by
    rcases hO with ⟨e0, _⟩ | ⟨_, bv, z1, z2, z3⟩
    · rw [List.map_eq_nil_iff] at e0
      rw [e0] at hup; simp at hup
    · refine ⟨bv, z1, ?_, z3⟩
      simpa using z2
  have jsV : sV x d t s r a b e = [Value.int IntKind.i64 x.ch.w, Value.int IntKind.i64 x.ch.h, d, t, s, Value.int IntKind.i64 x.g, Value.int IntKind.i64 x.pace, r, a, b, e] := rfl
  have jL2' := jL2
  rw [jsV] at jL2'
  rw [hev] at hC
  simp only [srV, ed, et, es, er, ea, eb, ee, hdl] at hC
  rw [ed, et, es, er, ea, eb, ee, hdl] at jL2'
  have hT0 : topN = 1201 := rfl
  have hrv0 : 0 < rv.length := by rw [y5.1]; exact htk0
  have hrve : ∀ hh : 0 < rv.length, rv[0]'hh = .slice (some ⟨w, 0, none⟩) x.ch.cells x.ch.cells := fun hh => by rw [List.getElem?_eq_getElem hh] at w2; exact Option.some.inj w2
  generalize hm : leastM (backN x fl p x.ch.ticks) x.ch.cells = m at *
  rw [hT0]
  constructor
  · intro hm1
    subst hm1
    simp [beR, j7, jL7, r1, htk0, hrv0, hrve, w2, hM]
  · intro hm1
    have hmb : (m == 1201) = false := by simpa using hm1
    simp [beR, j7, jL7, r1, htk0, hrv0, hrve, w2, hM, hmb, j2, jL2', hC, el]
    generalize hS2 : ({ t := _, L := _, H := _, lim := _, rd := _ } : St) = S2
    have q2 : tget S2.t 2 = .pointer (some ⟨2, 0, some 0⟩) := by subst hS2; simp [j2]
    have q5 : tget S2.t 5 = .slice none 0 0 := by subst hS2; simp [j5]
    have q10 : tget S2.t 10 = .slice (some ⟨bv, 0, none⟩) (upto (fun _ => true) x.ch.cells).length ((upto (fun _ => true) x.ch.cells).length + 1) := by subst hS2; simp
    have qH : S2.H = A := by subst hS2; rfl
    have ql : S2.lim = H.length := by subst hS2; simp [el]
    have qL : lget S2.L 2 = some (0, .cells (sV x d t s r a b e)) := by subst hS2; exact jL2
    have hHA := hA3.trans hA
    obtain ⟨⟨q, s3⟩, hr3, u1, u2, u3, u4⟩ := best_loop x hok hdo A d t s r a b e (h0.ext hHA.ext) fl fl (hsr.ext hHA.ext) p (R := H.length) rv (hA.ext _ _ r1) ⟨r2.1, fun i hi => by
      obtain ⟨w, w1, w2, w3⟩ := r2.2 i hi
      exact ⟨w, w1, w2, hA.ext _ _ w3⟩⟩ x.ch.ticks S2 (by have := hHA.le; omega) q2 q5 (by subst hS2; simp) (by subst hS2; simp) (by subst hS2; simp) (by
        rw [q10, qH]
        exact ⟨_, _, rfl, fun j y hy => ⟨bv, 0, rfl, by simp only [hcell, hBv, Nat.zero_add]; exact hy⟩⟩) qL qH
    simp [beLoop, SC.loops, sf_fixes_search_best] at hr3
    rw [hr3]
    simp only at u1 u2 u3 u4
    subst u1
    have q4 : tget S2.t 4 = .int .i64 m := by subst hS2; simp
    rw [q4] at u4
    rcases u3 with ⟨e0, _⟩ | ⟨_, b', z1, z2, z3⟩
    · exfalso
      have := courseM_len x fl p x.ch.ticks
      rw [e0] at this
      simp at this
      omega
    · simp [u4, z2]
      refine ⟨_, _, ⟨rfl, rfl⟩, hHA.trans u2, .inr ⟨?_, b', by have := hHA.le; omega, rfl, z3⟩⟩
      intro e0
      have := courseM_len x fl p x.ch.ticks
      rw [e0] at this
      simp at this
      omega
end Go.Proofs.YtddnloghclemjaaGreatDoor
namespace Go.Proofs.YtddnloghclemjaaGreatDoor
open Go Go.RowKit
theorem setM_bit (l : List Nat) (j : Nat) : (setM l).testBit j = decide (j ∈ l) := by
  have key : ∀ (l : List Nat) (a : Nat), (l.foldl (fun a i => a ||| 2 ^ i) a).testBit j = (a.testBit j || decide (j ∈ l)) := by
    intro l
    induction l with
    | nil => intro a; simp
    | cons i l ih =>
      intro a
      rw [List.foldl_cons, ih, Nat.testBit_or, Nat.testBit_two_pow]
      by_cases h : i = j
      · subst h; simp
      · have : ¬ j = i := fun e => h e.symm
        simp [h, this]
  have := key l 0
  simpa [setM] using this
def denyB (x : Ds) (k i j : Nat) : Bool := match x.reps[j]? with | some q => denies x k q i | none => false
theorem deny_bit (x : Ds) (k i m j : Nat) : (denyM x k i m).testBit j = (decide (j < m) && denyB x k i j) := by
  unfold denyM
  rw [setM_bit]
  rw [Bool.eq_iff_iff]
  simp only [decide_eq_true_eq, List.mem_filter, List.mem_range, Bool.and_eq_true, denyB]
  all_goals (cases x.reps[j]? <;> exact Iff.rfl)
theorem bits_zero : bitsN 0 12 = 0 := by decide
theorem dem_bound (x : Ds) (all k i : Nat) : 0 ≤ demP x all k i ∧ demP x all k i ≤ topN := by
  unfold demP
  have hT : topN = 1201 := rfl
  have := bitsN_le (denyM x k i x.reps.length) 12
  split <;> omega
theorem full_bit {n j : Nat} (h : j < n) : (2 ^ n - 1).testBit j = true := by simp [h]
end Go.Proofs.YtddnloghclemjaaGreatDoor
namespace Go.Proofs.YtddnloghclemjaaGreatDoor
open Go Go.RowKit
def allP (x : Ds) : Nat → Nat → Int := demP x (2 ^ x.reps.length - 1)
def bestE (x : Ds) (fl : Nat → Nat → Bool) (p : Nat → Nat → Int) : List Int × Int := if leastM (backN x fl p x.ch.ticks) x.ch.cells = topN then ([], 3) else (courseM x fl p x.ch.ticks, 0)
noncomputable def courseD (x : Ds) : List Int × Int := if dsE x = 0 then bestE x (mayF x) (allP x) else ([], dsE x)
theorem fx_reps {x : Ds} (hdo : dsOk x = true) : x.reps.length ≤ 12 := by
  unfold dsOk at hdo
  simp only [Bool.and_eq_true, decide_eq_true_eq] at hdo
  exact hdo.1.2
theorem all_lt {n : Nat} (h : n ≤ 12) : 2 ^ n - 1 < 2 ^ 64 := by
  have : 2 ^ n ≤ 2 ^ 12 := Nat.pow_le_pow_right (by omega) h
  omega
set_option maxHeartbeats 1000000 in
theorem run_fCourse (x : Ds) (lim : Nat) (H : AH) (d t s r : Value) (h : DsIn H x d t s r) :
    ∃ v A, apL Tryz.prog pf (.func (.func 18) #[] #[]) [dsV x d t s r] lim H = some (.tuple #[v, .int .i64 (courseD x).2], A) ∧ Aft H A ∧ OwnA H.length A v (courseD x).1 := by
  rw [apL_func _ _ _ _ _ _ (by rfl), sf_fixes_Course_eq]
  have h0 := h
  by_cases he : dsE x = 0
  rotate_left
  · have hO := fun lim => run_fopen_bad x lim H d t s r h (.slice none 0 0) (.slice none 0 0) oneS_nil oneS_nil he
    refine ⟨.slice none 0 0, H, ?_, Aft.refl H, .inl ⟨by simp [courseD, he], rfl⟩⟩
    have hne : (dsE x != 0) = true := by simpa using he
    obtain ⟨⟨⟨da, dc, ed, _⟩, ⟨ta, tc, et, _⟩, ⟨sa, sc, es, _⟩, _, htl, _⟩, ⟨ra, rc, er, _⟩, _⟩ := h
    simp only [dsV, srZ, nilS, ed, et, es, er] at hO
    have hd : (courseD x).2 = dsE x := by simp [courseD, he]
    rw [hd]
    generalize dsE x = z at *
    simp [sf_fixes_Course, dsV, ed, et, es, er, hO, hne, pf_pure, pureF]
  obtain ⟨hok, hdo⟩ := dsE_zero he
  obtain ⟨a, b, e, A, hO, hA, hsr⟩ := run_fopen x H.length H d t s r h (.slice none 0 0) (.slice none 0 0) [] [] (by simp) (by simp) Sl.nil Sl.nil he rfl rfl
  have hl12 := fx_reps hdo
  have hx := h.ext hA.ext
  have oa := hsr.near.one
  have ob := hsr.flo.one
  have oe := hsr.unt.one
  have hAl := fun lim => run_all3 x hl12 lim A d t s r a b e hx oa ob oe
  have hDm := fun lim => run_demands x lim A d t s r a b e hx oa ob oe (2 ^ x.reps.length - 1)
  obtain ⟨A1, hA1⟩ : ∃ A1, A1 = A ++ [.rw 0 (sV x d t s r a b e), .rw 0 [.int .u64 ((2 ^ x.reps.length - 1 : Nat) : Int)]] := ⟨_, rfl⟩
  rw [← hA1] at hDm
  have hAA1 : Aft A A1 := by rw [hA1]; exact (Aft.refl A).push _
  have hHA1 := hA.trans hAA1
  have hpr := isPr_dem x A1 d t s r a b e (h.ext hHA1.ext) hl12 (mayF x) (hsr.ext hAA1.ext) A.length (A.length + 1) (2 ^ x.reps.length - 1) (all_lt hl12) (by rw [hA1, List.getElem?_append_right (Nat.le_refl _), Nat.sub_self]; rfl) (by rw [hA1, List.getElem?_append_right (by omega), Nat.add_sub_cancel_left]; rfl)
  obtain ⟨hB1, hB2⟩ := run_best x hok hdo H.length A1 d t s r a b e _ (h.ext hHA1.ext) (mayF x) (hsr.ext hAA1.ext) (demP x (2 ^ x.reps.length - 1)) hpr (fun k i _ _ => (dem_bound x _ k i).1)
  have hcd : courseD x = bestE x (mayF x) (allP x) := by simp [courseD, he]
  rw [hcd]
  unfold bestE
  have hap : allP x = demP x (2 ^ x.reps.length - 1) := rfl
  rw [hap]
  obtain ⟨⟨⟨da, dc, ed, _⟩, ⟨ta, tc, et, _⟩, ⟨sa, sc, es, _⟩, _, htl, _⟩, ⟨ra, rc, er, _⟩, _⟩ := h
  obtain ⟨a1, a2, a3, ea⟩ := oa
  obtain ⟨b1, b2, b3, eb⟩ := ob
  obtain ⟨e1, e2, e3, ee⟩ := oe
  generalize 2 ^ x.reps.length - 1 = al at *
  simp only [dsV, srV, demF, ed, et, es, er, ea, eb, ee] at hO hAl hDm hB1 hB2
  by_cases hm : leastM (backN x (mayF x) (demP x al) x.ch.ticks) x.ch.cells = topN
  · have hB := hB1 hm
    rw [if_pos hm]
    refine ⟨.slice none 0 0, H, ?_, Aft.refl H, .inl ⟨rfl, rfl⟩⟩
    simp [-oneC, oneC_slice, oneC_int, -Array.all_toList, sf_fixes_Course, dsV, ed, et, es, er, hO, hAl, hDm, hB, pf_pure, pureF]
  · obtain ⟨v, F, hB, hF, hOw⟩ := hB2 hm
    rw [if_neg hm]
    have hAF := hHA1.trans hF
    rcases hOw with ⟨z1, rfl⟩ | ⟨z1, b', z2, rfl, z3⟩
    · exfalso
      have := courseM_len x (mayF x) (demP x al) x.ch.ticks
      rw [z1] at this
      have := hok.2.2.2.1.1
      simp [Ch.ticks] at *
      omega
    · refine ⟨_, F, ?_, hAF, .inr ⟨z1, b', Nat.le_trans hHA1.le z2, rfl, z3⟩⟩
      simp [-oneC, oneC_slice, oneC_int, -Array.all_toList, sf_fixes_Course, dsV, ed, et, es, er, hO, hAl, hDm, hB, pf_pure, pureF]
end Go.Proofs.YtddnloghclemjaaGreatDoor
namespace Go.Proofs.YtddnloghclemjaaGreatDoor
open Go Go.RowKit
def withM (x : Ds) (fl : Nat → Nat → Bool) (p : Nat → Nat → Int) (k : Nat) (most : Int) : List Int := thoseN (fun i => withinB x fl p k most i.toNat) x.cells
noncomputable def whereD (x : Ds) (k : Int) : List Int × Int :=
  if dsE x = 0 then (if inN x.ticks k = true then (if withM x (mayF x) (allP x) k.toNat 0 = [] then ([], 3) else (withM x (mayF x) (allP x) k.toNat 0, 0)) else ([], 1)) else ([], dsE x)
set_option maxHeartbeats 1000000 in
theorem run_fWhere (x : Ds) (lim : Nat) (H : AH) (d t s r : Value) (h : DsIn H x d t s r) (k : Int) :
    ∃ v A, apL Tryz.prog pf (.func (.func 16) #[] #[]) [dsV x d t s r, .int .i64 k] lim H = some (.tuple #[v, .int .i64 (whereD x k).2], A) ∧ Aft H A ∧ OwnA H.length A v (whereD x k).1 := by
  rw [apL_func _ _ _ _ _ _ (by rfl), sf_fixes_Where_eq]
  have h0 := h
  obtain ⟨H0, hH0⟩ : ∃ H0, H0 = H ++ [.rw 1 [.int .i64 k]] := ⟨_, rfl⟩
  have hHH0 : Aft H H0 := by rw [hH0]; exact (Aft.refl H).push _
  have hx0 := h.ext hHH0.ext
  have htv : Sl H0 (.slice (some ⟨H.length, 0, none⟩) 1 1) [k].length (ints [k]) := Sl.made (l := [k]) (by rw [hH0, List.getElem?_append_right (Nat.le_refl _), Nat.sub_self]; rfl) rfl
  by_cases he : dsE x = 0
  rotate_left
  · have hO := fun lim => run_fopen_bad x lim H0 d t s r hx0 (.slice (some ⟨H.length, 0, none⟩) 1 1) (.slice none 0 0) ⟨_, _, _, rfl⟩ oneS_nil he
    refine ⟨.slice none 0 0, H, ?_, Aft.refl H, .inl ⟨by simp [whereD, he], rfl⟩⟩
    have hne : (dsE x != 0) = true := by simpa using he
    obtain ⟨⟨⟨da, dc, ed, _⟩, ⟨ta, tc, et, _⟩, ⟨sa, sc, es, _⟩, _, htl, _⟩, ⟨ra, rc, er, _⟩, _⟩ := h
    simp only [dsV, srZ, nilS, ed, et, es, er] at hO
    rw [hH0] at hO
    have hd : (whereD x k).2 = dsE x := by simp [whereD, he]
    rw [hd]
    generalize dsE x = z at *
    simp [sf_fixes_Where, dsV, ed, et, es, er, hO, hne, pf_pure, pureF]
  by_cases hk : inN x.ticks k = true
  rotate_left
  · have hk' : inN x.ticks k = false := by simpa using hk
    have hO := fun lim => run_fopen_arg x lim H0 d t s r hx0 (.slice (some ⟨H.length, 0, none⟩) 1 1) (.slice none 0 0) [k] [] (by simp) (by simp) htv Sl.nil he (by simp [hk'])
    refine ⟨.slice none 0 0, H, ?_, Aft.refl H, .inl ⟨by simp [whereD, he, hk'], rfl⟩⟩
    obtain ⟨⟨⟨da, dc, ed, _⟩, ⟨ta, tc, et, _⟩, ⟨sa, sc, es, _⟩, _, htl, _⟩, ⟨ra, rc, er, _⟩, _⟩ := h
    simp only [dsV, srZ, nilS, ed, et, es, er] at hO
    rw [hH0] at hO
    have hd : (whereD x k).2 = 1 := by simp [whereD, he, hk']
    rw [hd]
    simp [sf_fixes_Where, dsV, ed, et, es, er, hO, pf_pure, pureF]
  obtain ⟨hok, hdo⟩ := dsE_zero he
  obtain ⟨j, hj, rfl⟩ := inN_iff.1 hk
  obtain ⟨a, b, e, A, hO, hA0, hsr⟩ := run_fopen x H.length H0 d t s r hx0 (.slice (some ⟨H.length, 0, none⟩) 1 1) (.slice none 0 0) [(j : Int)] [] (by simp) (by simp) htv Sl.nil he (by simp [hk]) rfl
  have hA := hHH0.trans hA0
  have hl12 := fx_reps hdo
  have hx := h.ext hA.ext
  have oa := hsr.near.one
  have ob := hsr.flo.one
  have oe := hsr.unt.one
  have hAl := fun lim => run_all3 x hl12 lim A d t s r a b e hx oa ob oe
  have hDm := fun lim => run_demands x lim A d t s r a b e hx oa ob oe (2 ^ x.reps.length - 1)
  obtain ⟨A1, hA1⟩ : ∃ A1, A1 = A ++ [.rw 0 (sV x d t s r a b e), .rw 0 [.int .u64 ((2 ^ x.reps.length - 1 : Nat) : Int)]] := ⟨_, rfl⟩
  rw [← hA1] at hDm
  have hAA1 : Aft A A1 := by rw [hA1]; exact (Aft.refl A).push _
  have hHA1 := hA.trans hAA1
  have hpr := isPr_dem x A1 d t s r a b e (h.ext hHA1.ext) hl12 (mayF x) (hsr.ext hAA1.ext) A.length (A.length + 1) (2 ^ x.reps.length - 1) (all_lt hl12) (by rw [hA1, List.getElem?_append_right (Nat.le_refl _), Nat.sub_self]; rfl) (by rw [hA1, List.getElem?_append_right (by omega), Nat.add_sub_cancel_left]; rfl)
  obtain ⟨v, F, hB, hF, hOw⟩ := run_swithin x hok hdo H.length A1 d t s r a b e _ (h.ext hHA1.ext) (mayF x) (hsr.ext hAA1.ext) (demP x (2 ^ x.reps.length - 1)) hpr (fun k i _ _ => dem_bound x _ k i) (k := j) hj 0
  have hwd : whereD x j = if withM x (mayF x) (allP x) j 0 = [] then ([], 3) else (withM x (mayF x) (allP x) j 0, 0) := by simp [whereD, he, hk]
  have hap : withM x (mayF x) (allP x) j 0 = thoseN (fun i => withinB x (mayF x) (demP x (2 ^ x.reps.length - 1)) j 0 i.toNat) x.cells := rfl
  rw [← hap] at hOw
  rw [hwd]
  generalize withM x (mayF x) (allP x) j 0 = W at *
  obtain ⟨⟨⟨da, dc, ed, _⟩, ⟨ta, tc, et, _⟩, ⟨sa, sc, es, _⟩, _, htl, _⟩, ⟨ra, rc, er, _⟩, _⟩ := h
  obtain ⟨a1, a2, a3, ea⟩ := oa
  obtain ⟨b1, b2, b3, eb⟩ := ob
  obtain ⟨e1, e2, e3, ee⟩ := oe
  generalize 2 ^ x.reps.length - 1 = al at *
  simp only [dsV, srV, demF, ed, et, es, er, ea, eb, ee] at hO hAl hDm hB
  rw [hH0] at hO
  have hAF := hHA1.trans hF
  rcases hOw with ⟨z1, rfl⟩ | ⟨z1, b', z2, rfl, z3⟩
  · rw [if_pos z1]
    refine ⟨.slice none 0 0, H, ?_, Aft.refl H, .inl ⟨rfl, rfl⟩⟩
    simp [-oneC, oneC_slice, oneC_int, -Array.all_toList, sf_fixes_Where, dsV, ed, et, es, er, hO, hAl, hDm, hB, pf_pure, pureF]
  · rw [if_neg z1]
    have hW0 : ((W.length : Int) == 0) = false := by
      have : W.length ≠ 0 := by simpa using z1
      simp; exact z1
    refine ⟨_, F, ?_, hAF, .inr ⟨z1, b', Nat.le_trans hHA1.le z2, rfl, z3⟩⟩
    simp [-oneC, oneC_slice, oneC_int, -Array.all_toList, sf_fixes_Where, dsV, ed, et, es, er, hO, hAl, hDm, hB, hW0, pf_pure, pureF]
end Go.Proofs.YtddnloghclemjaaGreatDoor
namespace Go.Proofs.YtddnloghclemjaaGreatDoor
open Go Go.RowKit
end Go.Proofs.YtddnloghclemjaaGreatDoor
namespace Go.Proofs.YtddnloghclemjaaGreatDoor
open Go Go.RowKit
end Go.Proofs.YtddnloghclemjaaGreatDoor
namespace Go.Proofs.YtddnloghclemjaaGreatDoor
open Go Go.RowKit
def upC (C : Nat → Nat) (t : Nat) : List Int := (List.range t).map fun i => (C i : Int)
theorem upC_len (C : Nat → Nat) (t : Nat) : (upC C t).length = t := by simp [upC]
theorem upC_get (C : Nat → Nat) {t i : Nat} (h : i < t) : (upC C t).getD i 0 = C i := by simp [upC, h]
theorem hcell_aft {H0 : AH} {b o : Nat} {v : Value} (hv : hcell H0 b o = some v) {F : AH} (hF : Aft H0 F) : hcell F b o = some v := by
  obtain ⟨K, rfl⟩ := hF
  have hb : b < H0.length := by
    unfold hcell at hv
    cases hx : H0[b]? with
    | none => rw [hx] at hv; simp at hv
    | some y => exact (List.getElem?_eq_some_iff.1 hx).1
  unfold hcell at hv ⊢
  rw [List.getElem?_append_left hb]
  exact hv
end Go.Proofs.YtddnloghclemjaaGreatDoor
namespace Go.Proofs.YtddnloghclemjaaGreatDoor
open Go Go.RowKit
end Go.Proofs.YtddnloghclemjaaGreatDoor
namespace Go.Proofs.YtddnloghclemjaaGreatDoor
open Go Go.RowKit
end Go.Proofs.YtddnloghclemjaaGreatDoor
namespace Go.Proofs.YtddnloghclemjaaGreatDoor
open Go Go.RowKit
def membL (n : Nat) : List Nat := (List.range 12).filter fun j => n.testBit j
theorem membL_zero : membL 0 = [] := by decide
theorem membL_step (n : Nat) (hn : n < 4096) : n ≠ 0 → membL n = lowN n 12 :: membL (n &&& (n - 1)) ∧ n &&& (n - 1) < n := by
  revert hn
  revert n
  refine split64 ?_
  decide +kernel
def mbV (n : Nat) : Value := .func (.func 124) #[] #[.pointer (some ⟨n, 0, none⟩)]
theorem run_members (n : Nat) (lim : Nat) (H : AH) : apL Tryz.prog pf (.func (.func 101) #[] #[]) [.int .u64 n] lim H = some (mbV H.length, H ++ [.rw 0 [.int .u64 n]]) := by
  rw [apL_func _ _ _ _ _ _ (by rfl), sf_fixes_set_members_eq]
  simp [sf_fixes_set_members, mbV, pf_pure, pureF]
structure MbC (lim : Nat) (fv : Value) (Inv : List Nat → AH → Prop) (Done : AH → Prop) : Prop where
  there : ∀ l A, Inv l A → A[bitsG]? = some (.ro bitsV)
  yield : ∀ (j : Nat) l A, Inv (j :: l) A → ∃ ok A2, apL Tryz.prog pf fv [.int .i64 j] lim A = some (.bool ok, A2) ∧ (ok = true → Inv l A2) ∧ (ok = false → Done A2)
  fin : ∀ A, Inv [] A → Done A
def mbLoop : SC := sf_fixes_set_members_1.body.loops.headD .skip
theorem mb_loop (lim : Nat) (fv : Value) (hn : nl fv = true) (Inv : List Nat → AH → Prop) (Done : AH → Prop) (hC : MbC lim fv Inv Done) (n0 : Nat) (hn0 : n0 < 4096) (S : St) (h0 : tget S.t 0 = fv) (h3 : tget S.t 3 = .int .u64 n0) (hI : Inv (membL n0) S.H) (hlim : S.lim = lim) :
    ∃ q, exL Tryz.prog pf (.loop mbLoop) S = some q ∧ (q.1 = .exit 0 ∨ q.1 = .ret) ∧ Done q.2.H := by
  refine loop_rule (I := fun m s' => ∃ n : Nat, n < 4096 ∧ m = n ∧ tget s'.t 0 = fv ∧ tget s'.t 3 = .int .u64 n ∧ s'.lim = lim ∧ Inv (membL n) s'.H) ?_ n0 S ⟨n0, hn0, rfl, h0, h3, hlim, hI⟩
  rintro n s' ⟨n', hn4, rfl, e0, e3, el, eI⟩
  by_cases hz : n = 0
  · subst hz
    have hb : (((0 : Nat) : Int) != 0) = false := by decide
    rw [membL_zero] at eI
    simp [mbLoop, SC.loops, sf_fixes_set_members_1, e0, e3]
    exact hC.fin _ eI
  obtain ⟨A, hA⟩ : ∃ A, s'.H = A := ⟨_, rfl⟩
  rw [hA] at eI
  obtain ⟨hm, hlt⟩ := membL_step n hn4 hz
  rw [hm] at eI
  have hG := hC.there _ A eI
  have hT := fun lim => run_TZ0 hn4 hz lim A hG
  obtain ⟨ok, A2, y1, y2, y3⟩ := hC.yield _ _ A eI
  have hb : ((n : Int) != 0) = true := by simpa using hz
  have hw1 : IntKind.u64.wrap ((n : Int) - 1) = ((n - 1 : Nat) : Int) := by
    rw [show ((n : Int) - 1) = ((n - 1 : Nat) : Int) by omega]
    exact wrap_u64 (by omega)
  have hand := u64_and (a := n) (b := n - 1) (by omega) (by omega)
  have hbits : IntKind.u64.bits = 64 := rfl
  have hnm : n % 18446744073709551616 = n := Nat.mod_eq_of_lt (by omega)
  have hnm1 : (n - 1) % 18446744073709551616 = n - 1 := Nat.mod_eq_of_lt (by omega)
  have hw : IntKind.u64.wrap ((n &&& (n - 1) : Nat) : Int) = ((n &&& (n - 1) : Nat) : Int) := wrap_u64 (by omega)
  generalize lowN n 12 = j at *
  cases ok with
  | false =>
    simp [mbLoop, SC.loops, sf_fixes_set_members_1, e0, e3, hA, el, hb, hT, hn, y1]
    exact y3 rfl
  | true =>
    obtain ⟨p, hp⟩ : ∃ p, p = n - 1 := ⟨_, rfl⟩
    rw [← hp] at hw1 hand hnm1 hw hlt y2
    simp [mbLoop, SC.loops, sf_fixes_set_members_1, e0, e3, hA, el, hb, hT, hn, y1, hw1, hbits, hnm, hnm1, hw]
    exact ⟨n &&& p, hlt, n &&& p, Nat.lt_trans hlt hn4, rfl, rfl, y2 rfl⟩
theorem run_mb (lim : Nat) (fv : Value) (hn : nl fv = true) (Inv : List Nat → AH → Prop) (Done : AH → Prop) (hC : MbC lim fv Inv Done) (n0 b : Nat) (hn0 : n0 < 4096) (A : AH) (hb : A[b]? = some (.rw 0 [.int .u64 n0])) (hI : Inv (membL n0) A) :
    ∃ A', apL Tryz.prog pf (mbV b) [fv] lim A = some (.tuple #[], A') ∧ Done A' := by
  unfold mbV
  rw [apL_func _ _ _ _ _ _ (by rfl), sf_fixes_set_members_1_eq]
  simp [sf_fixes_set_members_1, hb, pf_pure, pureF]
  generalize hS : ({ t := _, L := _, H := _, lim := _, rd := _ } : St) = S
  obtain ⟨⟨q, s1⟩, hr, q1, q2⟩ := mb_loop lim fv hn Inv Done hC n0 hn0 S (by subst hS; simp) (by subst hS; simp) (by subst hS; simpa using hI) (by subst hS; rfl)
  simp [mbLoop, SC.loops, sf_fixes_set_members_1] at hr
  rw [hr]
  simp only at q1 q2
  rcases q1 with rfl | rfl
  · simp; exact q2
  · simp; exact q2
def dbGo (x : Ds) : List Nat → Int → Int
  | [], n => n
  | j :: l, n => match x.reps[j]? with
    | some q => if q.sure then 1201 else dbGo x l (n + q.w)
    | none => n
def doubtP (x : Ds) (k i : Nat) : Int := dbGo x (membL (denyM x k i x.reps.length)) 0
def doAsg : SC := match sf_fixes_search_doubt.body with | .seq _ (.seq _ (.seq (.seq _ (.block _ (.rng _ _ a _))) _)) => a | _ => .skip
def doBody : SC := match sf_fixes_search_doubt.body with | .seq _ (.seq _ (.seq (.seq _ (.block _ (.rng _ _ _ b))) _)) => b | _ => .skip
def doR (T : TS) (L : LS) (lim : Nat) : ARec := ⟨0, none, T, L, lim, [18], doAsg, doBody⟩
end Go.Proofs.YtddnloghclemjaaGreatDoor
namespace Go.Proofs.YtddnloghclemjaaGreatDoor
open Go Go.RowKit
theorem set_last2 (H : AH) (a x y : ABlk) : (H ++ [a, x]).set (H.length + 1) y = H ++ [a, y] := by
  rw [List.set_append_right _ _ (by omega), Nat.add_sub_cancel_left]; rfl
theorem get_last2 (H : AH) (a x : ABlk) : (H ++ [a, x])[H.length + 1]? = some x := by
  rw [List.getElem?_append_right (by omega), Nat.add_sub_cancel_left]; rfl
def DoI (x : Ds) (H : AH) (d t s r a b e : Value) (T : TS) (n : Nat) (D : Int) (l : List Nat) (A : AH) : Prop :=
  ∃ L sum, A = H ++ [.rw 0 [.int .u64 n], .loop (doR T L H.length)] ∧ lget L 3 = some (0, .cells (sV x d t s r a b e)) ∧ lget L 6 = some (0, .cells [.int .i64 0]) ∧ lget L 7 = some (0, .cells [.int .i64 sum]) ∧ dbGo x l sum = D ∧ 0 ≤ sum ∧ sum + 100 * l.length ≤ 1200 ∧ ∀ j ∈ l, j < x.reps.length
def DoD (x : Ds) (H : AH) (T : TS) (n : Nat) (D : Int) (A : AH) : Prop :=
  ∃ L, (A = H ++ [.rw 0 [.int .u64 n], .loop (doR T L H.length)] ∧ (∃ c, lget L 6 = some (0, .cells [c])) ∧ lget L 7 = some (0, .cells [.int .i64 D])) ∨ (A = H ++ [.rw 0 [.int .u64 n], .loop { doR T L H.length with st := 2, pend := some .ret }] ∧ lget L 6 = some (0, .cells [.int .i64 1201]) ∧ D = 1201)
set_option maxHeartbeats 1000000 in
theorem do_C (x : Ds) (hdo : dsOk x = true) (H : AH) (hG : H[bitsG]? = some (.ro bitsV)) (d t s r a b e : Value) (h : DsIn H x d t s r) (oa : OneS a) (ob : OneS b) (oe : OneS e) (T : TS) (n : Nat) (D : Int) (h3 : tget T 3 = .pointer (some ⟨3, 0, some 0⟩)) (h6 : tget T 6 = .pointer (some ⟨6, 0, some 0⟩)) (h7 : tget T 7 = .pointer (some ⟨7, 0, some 0⟩)) :
    MbC H.length (.func (.yield (H.length + 1)) #[] #[]) (DoI x H d t s r a b e T n D) (DoD x H T n D) := by
  have hl12 := fx_reps hdo
  obtain ⟨_, hw⟩ := rep_w hdo
  refine ⟨fun l A hI => ?_, fun j l A hI => ?_, fun A hI => ?_⟩
  · obtain ⟨L, sum, rfl, _⟩ := hI
    exact own_get hG _
  · obtain ⟨L, sum, rfl, g3, g6, g7, gD, g0, gb, gl⟩ := hI
    have hj := gl j (by simp)
    have hv := h.r.ext (Ext.push H [.rw 0 [.int .u64 n], .loop { doR T L H.length with st := 1, L := [] }])
    obtain ⟨rb, ro, rc', erc, c0, c1, c2, c3, c4, c5, c6, c7, c8⟩ := rep_cells hv hj
    have hwq := hw _ (List.getElem_mem hj)
    have hrj : x.reps[j]? = some x.reps[j] := List.getElem?_eq_getElem hj
    obtain ⟨⟨⟨da, dc, ed, _⟩, ⟨ta, tc, et, _⟩, ⟨sa, sc, es, _⟩, _, htl, _⟩, ⟨ra, rc, er, _⟩, _⟩ := h
    obtain ⟨a1, a2, a3, ea⟩ := oa
    obtain ⟨b1, b2, b3, eb⟩ := ob
    obtain ⟨e1, e2, e3, ee⟩ := oe
    have g3' := g3
    rw [show sV x d t s r a b e = [Value.int IntKind.i64 x.ch.w, Value.int IntKind.i64 x.ch.h, d, t, s, Value.int IntKind.i64 x.g, Value.int IntKind.i64 x.pace, r, a, b, e] from rfl, ed, et, es, erc, ea, eb, ee] at g3'
    simp only [hcell] at c7 c8
    have ha : ∀ Y, exL Tryz.prog pf doAsg ⟨([18].zip [Value.int .i64 j]).reverse ++ T, L, Y, H.length, some (H.length + 1)⟩ = some (.normal, ⟨(8, .int .i64 j) :: (18, .int .i64 j) :: T, L, Y, H.length, some (H.length + 1)⟩) := fun Y => by
      simp [doAsg, sf_fixes_search_doubt]
    have gD' : dbGo x (j :: l) sum = if x.reps[j].sure then 1201 else dbGo x l (sum + x.reps[j].w) := by
      show (match x.reps[j]? with | some q => if q.sure then 1201 else dbGo x l (sum + q.w) | none => sum) = _
      rw [hrj]
    rw [gD'] at gD
    generalize hq : x.reps[j] = q at *
    have hlen : (j :: l).length = l.length + 1 := rfl
    rw [hlen] at gb
    cases hsu : q.sure with
    | true =>
      rw [hsu] at gD c7
      rw [if_pos rfl] at gD
      have key : ∃ s', exL Tryz.prog pf doBody ⟨(8, .int .i64 j) :: (18, .int .i64 j) :: T, L, H ++ [.rw 0 [.int .u64 n], .loop { doR T L H.length with st := 1, L := [] }], H.length, some (H.length + 1)⟩ = some (.ret, s') ∧ s'.H = H ++ [.rw 0 [.int .u64 n], .loop { doR T L H.length with st := 1, L := [] }] ∧ lget s'.L 6 = some (0, .cells [.int .i64 1201]) := by
        simp [doBody, sf_fixes_search_doubt, h3, h6, h7, g3', g6, g7, hj, c7]
      obtain ⟨s', z1, z2, z3⟩ := key
      have hy := yield_round (l := H.length + 1) (B := H ++ [.rw 0 [.int .u64 n], .loop (doR T L H.length)]) (r := doR T L H.length) (args := [.int .i64 j]) (lim := H.length) (get_last2 _ _ _) rfl (Nat.le_refl _) (by omega) rfl ha (e := .ret) (s' := s') (by rw [set_last2]; exact z1) (r2 := { doR T L H.length with st := 1, L := [] }) (by rw [z2, get_last2])
      refine ⟨false, _, hy, (fun h => by cases h), fun _ => ⟨s'.L, .inr ⟨?_, z3, gD.symm⟩⟩⟩
      rw [z2, set_last2]
      rfl
    | false =>
      rw [hsu] at gD c7
      rw [if_neg (by simp)] at gD
      have hws : IntKind.i64.wrap (sum + q.w) = sum + q.w := wrap_i64 (by omega) (by omega)
      have key : ∃ s', exL Tryz.prog pf doBody ⟨(8, .int .i64 j) :: (18, .int .i64 j) :: T, L, H ++ [.rw 0 [.int .u64 n], .loop { doR T L H.length with st := 1, L := [] }], H.length, some (H.length + 1)⟩ = some (.normal, s') ∧ s'.H = H ++ [.rw 0 [.int .u64 n], .loop { doR T L H.length with st := 1, L := [] }] ∧ lget s'.L 3 = lget L 3 ∧ lget s'.L 6 = lget L 6 ∧ lget s'.L 7 = some (0, .cells [.int .i64 (sum + q.w)]) := by
        simp [doBody, sf_fixes_search_doubt, h3, h6, h7, g3', g6, g7, hj, c7, c8, hws]
      obtain ⟨s', z1, z2, z3, z4, z5⟩ := key
      have hy := yield_round (l := H.length + 1) (B := H ++ [.rw 0 [.int .u64 n], .loop (doR T L H.length)]) (r := doR T L H.length) (args := [.int .i64 j]) (lim := H.length) (get_last2 _ _ _) rfl (Nat.le_refl _) (by omega) rfl ha (e := .normal) (s' := s') (by rw [set_last2]; exact z1) (r2 := { doR T L H.length with st := 1, L := [] }) (by rw [z2, get_last2])
      refine ⟨true, _, hy, (fun _ => ⟨s'.L, sum + q.w, ?_, by rw [z3, g3], by rw [z4, g6], z5, gD, by omega, by omega, fun i hi => gl i (by simp [hi])⟩), fun h => by cases h⟩
      rw [z2, set_last2]
      rfl
  · obtain ⟨L, sum, rfl, g3, g6, g7, gD, g0, gb, gl⟩ := hI
    exact ⟨L, .inl ⟨rfl, ⟨_, g6⟩, by rw [g7]; congr 5⟩⟩
end Go.Proofs.YtddnloghclemjaaGreatDoor
namespace Go.Proofs.YtddnloghclemjaaGreatDoor
open Go Go.RowKit
theorem memb_len (n : Nat) : (membL n).length ≤ 12 := by
  have := List.length_filter_le (fun j => n.testBit j) (List.range 12)
  simpa [membL] using this
theorem memb_lt {x : Ds} {k i j : Nat} (h : j ∈ membL (denyM x k i x.reps.length)) : j < x.reps.length := by
  have := (List.mem_filter.1 h).2
  rw [deny_bit] at this
  simp only [Bool.and_eq_true, decide_eq_true_eq] at this
  exact this.1
set_option maxHeartbeats 1000000 in
theorem run_doubt (x : Ds) (hdo : dsOk x = true) (lim : Nat) (H : AH) (hG : H[bitsG]? = some (.ro bitsV)) (d t s r a b e : Value) (h : DsIn H x d t s r) (fl : Nat → Nat → Bool) (hsr : SrIn H x fl a b e) {k i : Nat} (hk : k < x.ch.ticks) (hi : i < x.ch.cells) :
    apL Tryz.prog pf (.func (.func 61) #[] #[]) [srV x d t s r a b e, .int .i64 k, .int .i64 i] lim H = some (.int .i64 (doubtP x k i), H) := by
  rw [apL_func _ _ _ _ _ _ (by rfl), sf_fixes_search_doubt_eq]
  have hl12 := fx_reps hdo
  have h00 := h
  have oa := hsr.near.one
  have ob := hsr.flo.one
  have oe := hsr.unt.one
  have hM := fun lim => run_members (denyM x k i x.reps.length) lim H
  obtain ⟨eb, eo, ec, eb', eo', ec', ee, g1, g2⟩ := unt_cell hsr hk hi
  have hn4 := denyM_lt x k i hl12
  have hml := memb_len (denyM x k i x.reps.length)
  have hlt := fun j (h : j ∈ membL (denyM x k i x.reps.length)) => memb_lt h
  have hdp : doubtP x k i = dbGo x (membL (denyM x k i x.reps.length)) 0 := rfl
  obtain ⟨⟨⟨da, dc, ed, _⟩, ⟨ta, tc, et, _⟩, ⟨sa, sc, es, _⟩, _, htl, _⟩, ⟨ra, rc, er, _⟩, _⟩ := h
  obtain ⟨a1, a2, a3, ea⟩ := oa
  obtain ⟨b1, b2, b3, ebb⟩ := ob
  simp only [hcell] at g1 g2
  rw [hdp]
  simp only [mbV] at hM
  generalize hnn : denyM x k i x.reps.length = n at *
  generalize hD : dbGo x (membL n) 0 = D at *
  simp [sf_fixes_search_doubt, srV, ed, et, es, er, ea, ebb, ee, g1, g2, hk, hi, hM, pf_pure, pureF]
  generalize hS : ({ t := _, L := _, H := _, lim := _, rd := _ } : St) = S
  have eH : S.H = H ++ [.rw 0 [.int .u64 n]] := by subst hS; rfl
  have el : S.lim = H.length := by subst hS; rfl
  have eLen : S.H.length = H.length + 1 := by rw [eH]; simp
  have eHx : ∀ y : ABlk, S.H ++ [y] = H ++ [.rw 0 [.int .u64 n], y] := fun y => by rw [eH, List.append_assoc]; rfl
  have t3 : tget S.t 3 = .pointer (some ⟨3, 0, some 0⟩) := by subst hS; simp
  have t6 : tget S.t 6 = .pointer (some ⟨6, 0, some 0⟩) := by subst hS; simp
  have t7 : tget S.t 7 = .pointer (some ⟨7, 0, some 0⟩) := by subst hS; simp
  obtain ⟨A', y1, L, y2⟩ := run_mb H.length (.func (.yield (H.length + 1)) #[] #[]) (by simp) _ _ (do_C x hdo H hG d t s r a b e h00 hsr.near.one hsr.flo.one hsr.unt.one S.t n D t3 t6 t7) n H.length (by omega) (H ++ [.rw 0 [.int .u64 n], .loop (doR S.t S.L H.length)]) (by rw [List.getElem?_append_right (Nat.le_refl _), Nat.sub_self]; rfl)
    ⟨S.L, 0, rfl, by subst hS; simp [sV, ed, et, es, er, ea, ebb, ee], by subst hS; simp, by subst hS; simp, hD, by omega, by omega, hlt⟩
  have hx := fun (r : ARec) (hr : A'[H.length + 1]? = some (.loop r)) (hst : r.st = 0 ∨ r.st = 2) => exL_range (f := .tmp 17) (ps := [18]) (asg := doAsg) (body := doBody) (S := S) (fv := mbV H.length) (by subst hS; simp [mbV]) (by simp [mbV]) rfl (by subst hS; rfl) (A' := A') (v := .tuple #[]) (r := r)
    (by rw [eLen, el, eHx]; exact y1) (by rw [eLen]; exact hr) hst
  simp only [doAsg, doBody, sf_fixes_search_doubt] at hx
  rcases y2 with ⟨rfl, ⟨c6, y6⟩, y7⟩ | ⟨rfl, y6, rfl⟩
  · have hx := hx _ (get_last2 _ _ _) (.inl rfl)
    rw [hx]
    simp [doR, t3, t6, t7, y6, y7]
  · have hx := hx _ (get_last2 _ _ _) (.inr rfl)
    rw [hx]
    simp [doR, t3, t6, t7, y6]
def doubtF (x : Ds) (d t s r a b e : Value) : Value := .func (.func 61) #[srV x d t s r a b e] #[]
theorem isPr_doubt (x : Ds) (hdo : dsOk x = true) (H : AH) (hG : H[bitsG]? = some (.ro bitsV)) (d t s r a b e : Value) (h : DsIn H x d t s r) (fl : Nat → Nat → Bool) (hsr : SrIn H x fl a b e) : IsPr H (doubtF x d t s r a b e) x.ch.ticks x.ch.cells (doubtP x) := by
  refine ⟨?_, fun H' hH k i hk hi lim => ?_⟩
  · obtain ⟨⟨⟨da, dc, ed, _⟩, ⟨ta, tc, et, _⟩, ⟨sa, sc, es, _⟩, _, htl, _⟩, ⟨ra, rc, er, _⟩, _⟩ := h
    obtain ⟨a1, a2, a3, ea⟩ := hsr.near.one
    obtain ⟨b1, b2, b3, eb⟩ := hsr.flo.one
    obtain ⟨e1, e2, e3, ee⟩ := hsr.unt.one
    exact ⟨by simp [doubtF, srV, ed, et, es, er, ea, eb, ee], rfl, rfl⟩
  · unfold doubtF
    rw [apL_meth _ _ _ _ _ (by rfl) (by rfl)]
    exact run_doubt x hdo lim H' (hH _ _ hG) d t s r a b e (h.ext hH) fl (hsr.ext hH) hk hi
theorem dbGo_bound (x : Ds) (hw : ∀ q ∈ x.reps, 0 ≤ q.w ∧ q.w ≤ 100) : ∀ (l : List Nat) (n : Int), 0 ≤ n → n + 100 * l.length ≤ 1200 → 0 ≤ dbGo x l n ∧ dbGo x l n ≤ topN
  | [], n, h0, h1 => by
    have hT : topN = 1201 := rfl
    unfold dbGo
    simp at h1
    omega
  | j :: l, n, h0, h1 => by
    have hT : topN = 1201 := rfl
    simp only [List.length_cons] at h1
    unfold dbGo
    split
    · rename_i q hq
      have := hw q (List.mem_of_getElem? hq)
      split
      · omega
      · exact dbGo_bound x hw l (n + q.w) (by omega) (by omega)
    · omega
theorem doubt_bound {x : Ds} (hdo : dsOk x = true) (k i : Nat) : 0 ≤ doubtP x k i ∧ doubtP x k i ≤ topN := by
  have := memb_len (denyM x k i x.reps.length)
  exact dbGo_bound x (rep_w hdo).2 _ 0 (by omega) (by omega)
noncomputable def doubtD (x : Ds) : Int × List Int × Int := if dsE x = 0 then ((if leastM (backN x (mayF x) (doubtP x) x.ch.ticks) x.ch.cells = topN then 0 else leastM (backN x (mayF x) (doubtP x) x.ch.ticks) x.ch.cells), bestE x (mayF x) (doubtP x)) else (0, [], dsE x)
set_option maxHeartbeats 1000000 in
theorem run_fDoubt (x : Ds) (lim : Nat) (H : AH) (hG : H[bitsG]? = some (.ro bitsV)) (d t s r : Value) (h : DsIn H x d t s r) :
    ∃ v A, apL Tryz.prog pf (.func (.func 23) #[] #[]) [dsV x d t s r] lim H = some (.tuple #[.int .i64 (doubtD x).1, v, .int .i64 (doubtD x).2.2], A) ∧ Aft H A ∧ OwnA H.length A v (doubtD x).2.1 := by
  rw [apL_func _ _ _ _ _ _ (by rfl), sf_fixes_Doubt_eq]
  have h0 := h
  by_cases he : dsE x = 0
  rotate_left
  · have hO := fun lim => run_fopen_bad x lim H d t s r h (.slice none 0 0) (.slice none 0 0) oneS_nil oneS_nil he
    have hdd : doubtD x = (0, [], dsE x) := by simp [doubtD, he]
    rw [hdd]
    refine ⟨.slice none 0 0, H, ?_, Aft.refl H, .inl ⟨rfl, rfl⟩⟩
    have hne : (dsE x != 0) = true := by simpa using he
    obtain ⟨⟨⟨da, dc, ed, _⟩, ⟨ta, tc, et, _⟩, ⟨sa, sc, es, _⟩, _, htl, _⟩, ⟨ra, rc, er, _⟩, _⟩ := h
    simp only [dsV, srZ, nilS, ed, et, es, er] at hO
    generalize dsE x = z at *
    simp [sf_fixes_Doubt, dsV, ed, et, es, er, hO, hne, pf_pure, pureF]
  obtain ⟨hok, hdo⟩ := dsE_zero he
  obtain ⟨a, b, e, A, hO, hA, hsr⟩ := run_fopen x H.length H d t s r h (.slice none 0 0) (.slice none 0 0) [] [] (by simp) (by simp) Sl.nil Sl.nil he rfl rfl
  have hx := h.ext hA.ext
  have oa := hsr.near.one
  have ob := hsr.flo.one
  have oe := hsr.unt.one
  have hpr := isPr_doubt x hdo A (hA.ext _ _ hG) d t s r a b e hx (mayF x) hsr
  obtain ⟨hB1, hB2⟩ := run_best x hok hdo H.length A d t s r a b e _ hx (mayF x) hsr (doubtP x) hpr (fun k i _ _ => (doubt_bound hdo k i).1)
  have hdd : doubtD x = ((if leastM (backN x (mayF x) (doubtP x) x.ch.ticks) x.ch.cells = topN then 0 else leastM (backN x (mayF x) (doubtP x) x.ch.ticks) x.ch.cells), bestE x (mayF x) (doubtP x)) := by simp [doubtD, he]
  rw [hdd]
  unfold bestE
  obtain ⟨⟨⟨da, dc, ed, _⟩, ⟨ta, tc, et, _⟩, ⟨sa, sc, es, _⟩, _, htl, _⟩, ⟨ra, rc, er, _⟩, _⟩ := h
  obtain ⟨a1, a2, a3, ea⟩ := oa
  obtain ⟨b1, b2, b3, eb⟩ := ob
  obtain ⟨e1, e2, e3, ee⟩ := oe
  simp only [dsV, srV, doubtF, ed, et, es, er, ea, eb, ee] at hO hB1 hB2
  have hml := courseM_len x (mayF x) (doubtP x) x.ch.ticks
  generalize leastM (backN x (mayF x) (doubtP x) x.ch.ticks) x.ch.cells = M at *
  by_cases hm : M = topN
  · have hB := hB1 hm
    simp only [if_pos hm]
    refine ⟨.slice none 0 0, H, ?_, Aft.refl H, .inl ⟨rfl, rfl⟩⟩
    simp [-oneC, oneC_slice, oneC_int, -Array.all_toList, sf_fixes_Doubt, dsV, ed, et, es, er, hO, hB, pf_pure, pureF]
  · obtain ⟨v, F, hB, hF, hOw⟩ := hB2 hm
    simp only [if_neg hm]
    have hAF := hA.trans hF
    rcases hOw with ⟨z1, rfl⟩ | ⟨z1, b', z2, rfl, z3⟩
    · exfalso
      rw [z1] at hml
      have := hok.2.2.2.1.1
      simp [Ch.ticks] at *
      omega
    · refine ⟨_, F, ?_, hAF, .inr ⟨z1, b', Nat.le_trans hA.le z2, rfl, z3⟩⟩
      simp [-oneC, oneC_slice, oneC_int, -Array.all_toList, sf_fixes_Doubt, dsV, ed, et, es, er, hO, hB, pf_pure, pureF]
end Go.Proofs.YtddnloghclemjaaGreatDoor
namespace Go.Proofs.YtddnloghclemjaaGreatDoor
open Go Go.RowKit
structure Way (x : Ds) (c : Nat → Nat) : Prop where
  lt : ∀ t, t < x.ch.ticks → c t < x.ch.cells
  may : ∀ t, t < x.ch.ticks → x.ch.may x.g (c t) t = true
  hop : ∀ t, t + 1 < x.ch.ticks → hops x (c t) (c (t + 1)) = true
def fitM (x : Ds) (l : Nat) : Bool := decide (leastM (backN x (mayF x) (demP x l) x.ch.ticks) x.ch.cells < topN)
theorem payV_le {x : Ds} {fl : Nat → Bool} {p : Nat → Int} {prev : List Int} {i j : Nat} (hi : i < x.ch.cells) (hs : hops x i i = true) (hf : fl i = true) (hp : p i < topN) (hj : j < x.ch.cells) (hij : hops x i j = true) : payV x fl p prev i ≤ p i + prev.getD j 0 := by
  have h0 := upto_pos hi hs
  have hl := (cheapM_le (fun j => prev.getD j 0) (upto (hops x i) x.ch.cells) ((upto (hops x i) x.ch.cells).headD 0)).2 j (upto_mem.2 ⟨hj, hij⟩)
  have hl2 : prev.getD (cheapM (fun j => prev.getD j 0) ((upto (hops x i) x.ch.cells).headD 0) (upto (hops x i) x.ch.cells)) 0 ≤ prev.getD j 0 := hl
  unfold payV
  rw [hf]
  simp only [Bool.true_and, decide_eq_true_eq]
  rw [if_pos hp]
  generalize prev.getD (cheapM (fun j => prev.getD j 0) ((upto (hops x i) x.ch.cells).headD 0) (upto (hops x i) x.ch.cells)) 0 = V at *
  omega
theorem way_back {x : Ds} (hdo : dsOk x = true) {c : Nat → Nat} (hc : Way x c) {l : Nat} (hl : ∀ t, t < x.ch.ticks → denyM x t (c t) x.reps.length &&& l = 0) : ∀ s, s < x.ch.ticks → (backN x (mayF x) (demP x l) (s + 1)).getD (c (x.ch.ticks - 1 - s)) 0 ≤ 12 * (s + 1 : Nat)
  | 0, hs => by
    have hlt := hc.lt (x.ch.ticks - 1 - 0) (by omega)
    have hd : demP x l (x.ch.ticks - 1 - 0) (c (x.ch.ticks - 1 - 0)) ≤ 12 := by
      unfold demP; rw [if_pos (hl _ (by omega))]
      have := bitsN_le (denyM x (x.ch.ticks - 1 - 0) (c (x.ch.ticks - 1 - 0)) x.reps.length) 12
      omega
    have hT : topN = 1201 := rfl
    show (payN x (mayF x (x.ch.ticks - 1 - 0)) (demP x l (x.ch.ticks - 1 - 0)) (backN x (mayF x) (demP x l) 0)).getD _ 0 ≤ _
    rw [payN_get _ _ _ _ hlt]
    have h1 := payV_le (prev := backN x (mayF x) (demP x l) 0) hlt (hops_self hdo _) (fl := mayF x (x.ch.ticks - 1 - 0)) (hc.may _ (by omega)) (p := demP x l (x.ch.ticks - 1 - 0)) (by omega) hlt (hops_self hdo _)
    have hz : (backN x (mayF x) (demP x l) 0).getD (c (x.ch.ticks - 1 - 0)) 0 = 0 := by
      show (List.replicate x.ch.cells (0 : Int)).getD _ 0 = 0
      rw [List.getD_eq_getElem?_getD, List.getElem?_replicate]
      split <;> rfl
    rw [hz] at h1
    omega
  | s + 1, hs => by
    have ih := way_back hdo hc hl s (by omega)
    have hlt := hc.lt (x.ch.ticks - 1 - (s + 1)) (by omega)
    have hlt2 := hc.lt (x.ch.ticks - 1 - s) (by omega)
    have hd : demP x l (x.ch.ticks - 1 - (s + 1)) (c (x.ch.ticks - 1 - (s + 1))) ≤ 12 := by
      unfold demP; rw [if_pos (hl _ (by omega))]
      have := bitsN_le (denyM x (x.ch.ticks - 1 - (s + 1)) (c (x.ch.ticks - 1 - (s + 1))) x.reps.length) 12
      omega
    have hT : topN = 1201 := rfl
    have hh := hc.hop (x.ch.ticks - 1 - (s + 1)) (by omega)
    rw [show x.ch.ticks - 1 - (s + 1) + 1 = x.ch.ticks - 1 - s by omega] at hh
    show (payN x (mayF x (x.ch.ticks - 1 - (s + 1))) (demP x l (x.ch.ticks - 1 - (s + 1))) (backN x (mayF x) (demP x l) (s + 1))).getD _ 0 ≤ _
    rw [payN_get _ _ _ _ hlt]
    have h1 := payV_le (prev := backN x (mayF x) (demP x l) (s + 1)) hlt (hops_self hdo _) (fl := mayF x (x.ch.ticks - 1 - (s + 1))) (hc.may _ (by omega)) (p := demP x l (x.ch.ticks - 1 - (s + 1))) (by omega) hlt2 hh
    omega
theorem fit_of_way {x : Ds} (hok : ChOk x.ch) (hdo : dsOk x = true) {c : Nat → Nat} (hc : Way x c) {l : Nat} (hl : ∀ t, t < x.ch.ticks → denyM x t (c t) x.reps.length &&& l = 0) : fitM x l = true := by
  have htk : x.ch.ticks ≤ 60 := hok.2.2.2.1.2
  have htk0 : 0 < x.ch.ticks := hok.2.2.2.1.1
  have h := way_back hdo hc hl (x.ch.ticks - 1) (by omega)
  rw [show x.ch.ticks - 1 + 1 = x.ch.ticks by omega, show x.ch.ticks - 1 - (x.ch.ticks - 1) = 0 by omega] at h
  have hm := bestOf_le (fun _ => true) (fun j => (backN x (mayF x) (demP x l) x.ch.ticks).getD j 0) x.ch.cells (c 0) (hc.lt 0 htk0) rfl
  have hT : topN = 1201 := rfl
  have hm2 : leastM (backN x (mayF x) (demP x l) x.ch.ticks) x.ch.cells ≤ (backN x (mayF x) (demP x l) x.ch.ticks).getD (c 0) 0 := hm
  unfold fitM
  rw [decide_eq_true_eq]
  omega
theorem pay_fin {x : Ds} (hdo : dsOk x = true) (l s : Nat) {i : Nat} (hi : i < x.ch.cells) (h : (backN x (mayF x) (demP x l) (s + 1)).getD i 0 < topN) :
    x.ch.may x.g i (x.ch.ticks - 1 - s) = true ∧ denyM x (x.ch.ticks - 1 - s) i x.reps.length &&& l = 0 ∧ (backN x (mayF x) (demP x l) s).getD (cheapM (fun j => (backN x (mayF x) (demP x l) s).getD j 0) ((upto (hops x i) x.ch.cells).headD 0) (upto (hops x i) x.ch.cells)) 0 < topN := by
  have e : (backN x (mayF x) (demP x l) (s + 1)).getD i 0 = payV x (mayF x (x.ch.ticks - 1 - s)) (demP x l (x.ch.ticks - 1 - s)) (backN x (mayF x) (demP x l) s) i := payN_get _ _ _ _ hi
  rw [e] at h
  unfold payV at h
  have hd := dem_bound x l (x.ch.ticks - 1 - s) i
  have hT : topN = 1201 := rfl
  split at h
  · rename_i hc
    simp only [Bool.and_eq_true, decide_eq_true_eq] at hc
    refine ⟨hc.1, ?_, by omega⟩
    unfold demP at hc
    by_cases hz : denyM x (x.ch.ticks - 1 - s) i x.reps.length &&& l = 0
    · exact hz
    · rw [if_neg hz] at hc; omega
  · omega
theorem way_of_fit {x : Ds} (hok : ChOk x.ch) (hdo : dsOk x = true) {l : Nat} (h : fitM x l = true) : Way x (cP x (mayF x) (demP x l)) ∧ ∀ t, t < x.ch.ticks → denyM x t (cP x (mayF x) (demP x l) t) x.reps.length &&& l = 0 := by
  obtain ⟨p0, p1⟩ := hok.pos
  have htk0 : 0 < x.ch.ticks := hok.2.2.2.1.1
  have hlt := fun t => (cP_lt hdo p0 (mayF x) (demP x l) t).2
  have hT : topN = 1201 := rfl
  have hbb := fun s hs => backN_bound (x := x) (fl := mayF x) (p := demP x l) (fun k i _ _ => (dem_bound x l k i).1) s hs
  have h0 : (backN x (mayF x) (demP x l) x.ch.ticks).getD (cP x (mayF x) (demP x l) 0) 0 < topN := by
    unfold fitM at h
    rw [decide_eq_true_eq] at h
    have hup : 0 < (upto (fun _ => true) x.ch.cells).length := List.length_pos_of_mem (upto_mem.2 ⟨p0, rfl⟩)
    have := cheap_best (fun _ => true) (fun j => (backN x (mayF x) (demP x l) x.ch.ticks).getD j 0) x.ch.cells hup (fun j _ => Int.le_trans (hbb _ (Nat.le_refl _) j).2 (by decide))
    have e : cP x (mayF x) (demP x l) 0 = cheapM (fun j => (backN x (mayF x) (demP x l) x.ch.ticks).getD j 0) ((upto (fun _ => true) x.ch.cells)[0]) (upto (fun _ => true) x.ch.cells) := by
      show cheapM _ ((upto (fun _ => true) x.ch.cells).headD 0) _ = _
      rw [headD_zero hup]
    rw [e]
    have e2 : leastM (backN x (mayF x) (demP x l) x.ch.ticks) x.ch.cells = bestOf (fun _ => true) (fun j => (backN x (mayF x) (demP x l) x.ch.ticks).getD j 0) x.ch.cells := rfl
    rw [e2, ← this] at h
    exact h
  have fin : ∀ t, t < x.ch.ticks → (backN x (mayF x) (demP x l) (x.ch.ticks - t)).getD (cP x (mayF x) (demP x l) t) 0 < topN := by
    intro t
    induction t with
    | zero => intro _; exact h0
    | succ t ih =>
      intro ht
      have := ih (by omega)
      rw [show x.ch.ticks - t = (x.ch.ticks - (t + 1)) + 1 by omega] at this
      exact (pay_fin hdo l _ (hlt t) this).2.2
  refine ⟨⟨fun t _ => hlt t, fun t ht => ?_, fun t ht => ?_⟩, fun t ht => ?_⟩
  · have := fin t ht
    rw [show x.ch.ticks - t = (x.ch.ticks - 1 - t) + 1 by omega] at this
    have := (pay_fin hdo l _ (hlt t) this).1
    rwa [show x.ch.ticks - 1 - (x.ch.ticks - 1 - t) = t by omega] at this
  · have hp := cP_lt hdo p0 (mayF x) (demP x l) (t + 1)
    have e := cP_eq x (mayF x) (demP x l) (t + 1)
    rw [headD_zero hp.1] at e
    have hm : cP x (mayF x) (demP x l) (t + 1) ∈ nextL x (mayF x) (demP x l) (t + 1) := by
      rw [e]
      rcases cheapM_mem (fun j => (backN x (mayF x) (demP x l) (x.ch.ticks - (t + 1))).getD j 0) (nextL x (mayF x) (demP x l) (t + 1)) (nextL x (mayF x) (demP x l) (t + 1))[0] with h | h
      · rw [h]; exact List.getElem_mem _
      · exact h
    exact (upto_mem.1 hm).2
  · have := fin t ht
    rw [show x.ch.ticks - t = (x.ch.ticks - 1 - t) + 1 by omega] at this
    have := (pay_fin hdo l _ (hlt t) this).2.1
    rwa [show x.ch.ticks - 1 - (x.ch.ticks - 1 - t) = t by omega] at this
theorem sub_bit {a b : Nat} : subM a b = true ↔ ∀ j, a.testBit j = true → b.testBit j = true := by
  unfold subM
  rw [beq_iff_eq]
  constructor
  · intro h j hj
    rw [← h, Nat.testBit_and] at hj
    simp only [Bool.and_eq_true] at hj
    exact hj.2
  · intro h
    apply Nat.eq_of_testBit_eq
    intro j
    rw [Nat.testBit_and]
    cases ha : a.testBit j
    · simp
    · simp [h j ha]
theorem fit_mono {x : Ds} (hok : ChOk x.ch) (hdo : dsOk x = true) {a b : Nat} (hab : subM a b = true) (h : fitM x b = true) : fitM x a = true := by
  obtain ⟨h1, h2⟩ := way_of_fit hok hdo h
  refine fit_of_way hok hdo h1 fun t ht => ?_
  apply Nat.eq_of_testBit_eq
  intro j
  have h3 : (denyM x t (cP x (mayF x) (demP x b) t) x.reps.length &&& b).testBit j = false := by rw [h2 t ht]; simp
  rw [Nat.testBit_and] at h3 ⊢
  rw [Nat.zero_testBit]
  cases ha : a.testBit j
  · simp
  · rw [sub_bit.1 hab j ha] at h3; simpa using h3
end Go.Proofs.YtddnloghclemjaaGreatDoor
namespace Go.Proofs.YtddnloghclemjaaGreatDoor
open Go Go.RowKit
def IsU (H : AH) (f : Value) (p : Nat → Bool) : Prop := (nl f = true ∧ isU f = false ∧ f.cells = #[f]) ∧ ∀ H', Ext H H' → ∀ n : Nat, n < 4096 → ∀ lim, apL Tryz.prog pf f [.int .u64 n] lim H' = some (.bool (p n), H')
theorem isU_in (H : AH) (a : Nat) (ha : a < 4096) : IsU H (.func (.func 129) #[.int .u64 a] #[]) (subM a) := by
  refine ⟨⟨by simp, rfl, rfl⟩, fun H' _ n hn lim => ?_⟩
  rw [apL_meth _ _ _ _ _ (by rfl) (by rfl)]
  exact run_isIn (by omega) (by omega) lim H'
theorem isU_holds (H : AH) (a : Nat) (ha : a < 4096) : IsU H (.func (.func 130) #[.int .u64 a] #[]) (fun b => subM b a) := by
  refine ⟨⟨by simp, rfl, rfl⟩, fun H' _ n hn lim => ?_⟩
  rw [apL_meth _ _ _ _ _ (by rfl) (by rfl)]
  exact run_holds (by omega) (by omega) lim H'
def ixLoop : SC := sf_slices_IndexFunc_fixes_set_fixes_set.body.loops.headD .skip
theorem ix_loop (l : List Nat) (hl : l.length < 2 ^ 62) (h4 : ∀ n ∈ l, n < 4096) (H : AH) (v f : Value) (p : Nat → Bool) (hv : Sl H v l.length (u64s l)) (hp : IsU H f p) (S : St) (h0 : tget S.t 0 = v) (h1 : tget S.t 1 = f) (h6 : tget S.t 6 = v) (h7 : tget S.t 7 = .int .i64 l.length) (h8 : tget S.t 8 = .int .i64 0) (hH : S.H = H) :
    ∃ q, exL Tryz.prog pf (.loop ixLoop) S = some q ∧ q.2.H = H ∧ ((q.1 = .exit 0 ∧ l.any p = false) ∨ (q.1 = .ret ∧ l.any p = true ∧ ∃ i : Nat, tget q.2.t 4 = .int .i64 i)) := by
  obtain ⟨aa, ac, rfl, hd⟩ := hv
  obtain ⟨hnf, huf, hcf⟩ := hp.1
  refine loop_rule (I := fun m s' => ∃ i, i ≤ l.length ∧ m = l.length - i ∧ tget s'.t 0 = .slice aa l.length ac ∧ tget s'.t 1 = f ∧ tget s'.t 7 = .int .i64 l.length ∧ tget s'.t 8 = .int .i64 i ∧ s'.H = H ∧ (l.take i).any p = false) ?_ l.length S
    ⟨0, by omega, by omega, h0, h1, h7, h8, hH, rfl⟩
  rintro m s' ⟨i, hi, rfl, e0, e1, e7, e8, eH, eN⟩
  by_cases hlt : i < l.length
  rotate_left
  · have : i = l.length := by omega
    subst this
    rw [List.take_length] at eN
    simp [ixLoop, SC.loops, sf_slices_IndexFunc_fixes_set_fixes_set, e0, e1, e7, e8, eH]
    simpa using eN
  obtain ⟨b, o, rfl, g⟩ := hd i _ (u64s_get hlt)
  have hps := fun lim => hp.2 H (Ext.refl H) l[i] (h4 _ (List.getElem_mem hlt)) lim
  have hw : IntKind.i64.wrap ((i : Int) + 1) = (i : Int) + 1 := wrap_i64 (by omega) (by omega)
  have hs : (l.take (i + 1)).any p = ((l.take i).any p || p l[i]) := by rw [List.take_add_one, List.any_append]; simp [hlt]
  have hmem : l[i] ∈ l := List.getElem_mem hlt
  generalize hq : l[i] = q at *
  simp only [hcell] at g
  cases hc : p q with
  | false =>
    rw [hc] at hps hs
    simp [ixLoop, SC.loops, sf_slices_IndexFunc_fixes_set_fixes_set, e0, e1, e7, e8, eH, hlt, g, hps, hnf, hw]
    exact ⟨_, by omega, i + 1, by omega, rfl, by omega, by simpa [eN] using hs⟩
  | true =>
    rw [hc] at hps
    simp [ixLoop, SC.loops, sf_slices_IndexFunc_fixes_set_fixes_set, e0, e1, e7, e8, eH, hlt, g, hps, hnf, hw]
    exact ⟨⟨q, hmem, hc⟩, i, rfl⟩
theorem run_anyU (l : List Nat) (hl : l.length < 2 ^ 62) (h4 : ∀ n ∈ l, n < 4096) (lim : Nat) (H : AH) (v f : Value) (p : Nat → Bool) (hv : Sl H v l.length (u64s l)) (hp : IsU H f p) :
    apL Tryz.prog pf (.func (.func 128) #[] #[]) [v, f] lim H = some (.bool (l.any p), H) := by
  have hI : ∀ lim, ∃ i : Int, apL Tryz.prog pf (.func (.func 146) #[] #[]) [v, f] lim H = some (.int .i64 i, H) ∧ decide (0 ≤ i) = l.any p := by
    intro lim
    rw [apL_func _ _ _ _ _ _ (by rfl), sf_slices_IndexFunc_fixes_set_fixes_set_eq]
    have hv0 := hv
    obtain ⟨aa, ac, ev, _⟩ := hv
    simp [sf_slices_IndexFunc_fixes_set_fixes_set, ev, pf_pure, pureF]
    generalize hS : ({ t := _, L := _, H := _, lim := _, rd := _ } : St) = S
    obtain ⟨⟨q, s1⟩, hr, q1, q2⟩ := ix_loop l hl h4 H v f p hv0 hp S (by subst hS; simp [ev]) (by subst hS; simp) (by subst hS; simp [ev]) (by subst hS; simp) (by subst hS; simp) (by subst hS; rfl)
    simp [ixLoop, SC.loops, sf_slices_IndexFunc_fixes_set_fixes_set] at hr
    rw [hr]
    simp only at q1 q2
    rcases q2 with ⟨rfl, h⟩ | ⟨rfl, h, i, hi⟩
    · rw [h]
      simp [q1]
    · rw [h]
      simp [q1, hi]
  rw [apL_func _ _ _ _ _ _ (by rfl), sf_slices_ContainsFunc_fixes_set_fixes_set_eq]
  obtain ⟨i, hr, hi⟩ := hI H.length
  obtain ⟨aa, ac, ev, _⟩ := hv
  obtain ⟨hnf, huf, hcf⟩ := hp.1
  rw [ev] at hr
  simp [sf_slices_ContainsFunc_fixes_set_fixes_set, ev, hnf, hr, pf_pure, pureF]
  simpa using hi
def clearM (a b : Nat) : Nat := (BitVec.ofInt 64 (a : Int) &&& ~~~ BitVec.ofInt 64 (b : Int)).toNat
theorem clear_bit {a : Nat} (ha : a < 2 ^ 64) (b i : Nat) : (clearM a b).testBit i = (a.testBit i && !b.testBit i) := by
  unfold clearM
  rw [← BitVec.getLsbD, BitVec.getLsbD_and, BitVec.getLsbD_not, BitVec.ofInt_natCast, BitVec.ofInt_natCast, BitVec.getLsbD_ofNat, BitVec.getLsbD_ofNat]
  by_cases hi : i < 64
  · simp [hi]
  · have : a.testBit i = false := Nat.testBit_lt_two_pow (Nat.lt_of_lt_of_le ha (Nat.pow_le_pow_right (by omega) (by omega)))
    simp [hi, this]
theorem clear_lt {a : Nat} (ha : a < 2 ^ 12) (b : Nat) : clearM a b < 2 ^ 12 := by
  refine Nat.lt_pow_two_of_testBit _ fun i hi => ?_
  rw [clear_bit (by omega)]
  have : a.testBit i = false := Nat.testBit_lt_two_pow (Nat.lt_of_lt_of_le ha (Nat.pow_le_pow_right (by omega) hi))
  rw [this]; rfl
theorem clear_wrap {a : Nat} (ha : a < 2 ^ 12) (b : Nat) : IntKind.u64.wrap (((BitVec.ofInt 64 (a : Int) &&& ~~~ BitVec.ofInt 64 (b : Int)).toNat : Nat) : Int) = ((clearM a b : Nat) : Int) := wrap_u64 (by have := clear_lt ha b; unfold clearM at this; omega)
def trueM (x : Ds) (c : Nat → Nat) : Nat → Nat
  | 0 => 2 ^ x.reps.length - 1
  | k + 1 => clearM (trueM x c k) (denyM x k (c k) x.reps.length)
theorem trueM_lt {x : Ds} (hl : x.reps.length ≤ 12) (c : Nat → Nat) : ∀ k, trueM x c k < 2 ^ 12
  | 0 => by
    have : 2 ^ x.reps.length ≤ 2 ^ 12 := Nat.pow_le_pow_right (by omega) hl
    unfold trueM; omega
  | k + 1 => clear_lt (trueM_lt hl c k) _
theorem trueM_none {x : Ds} (hl : x.reps.length ≤ 12) (c : Nat → Nat) : ∀ k t, t < k → denyM x t (c t) x.reps.length &&& trueM x c k = 0
  | k + 1, t, ht => by
    have hb := trueM_lt hl c k
    apply Nat.eq_of_testBit_eq
    intro j
    rw [Nat.testBit_and, Nat.zero_testBit]
    show (_ && (clearM (trueM x c k) _).testBit j) = false
    rw [clear_bit (by omega)]
    by_cases h : t = k
    · subst h
      cases (denyM x t (c t) x.reps.length).testBit j <;> simp
    · have ih := trueM_none hl c k t (by omega)
      have h2 : (denyM x t (c t) x.reps.length &&& trueM x c k).testBit j = false := by rw [ih]; simp
      rw [Nat.testBit_and] at h2
      cases h3 : (denyM x t (c t) x.reps.length).testBit j
      · simp
      · rw [h3] at h2; simp at h2; simp [h2]
def trLoop : SC := sf_fixes_search_trueOf.body.loops.headD .skip
theorem run_trueOf (x : Ds) (hok : ChOk x.ch) (hl12 : x.reps.length ≤ 12) (lim : Nat) (H : AH) (d t s r a b e v : Value) (h : DsIn H x d t s r) (fl : Nat → Nat → Bool) (hsr : SrIn H x fl a b e) (c : Nat → Nat) (hc : ∀ t, t < x.ch.ticks → c t < x.ch.cells) (hv : Sl H v x.ch.ticks (ints (upC c x.ch.ticks))) :
    apL Tryz.prog pf (.func (.func 131) #[] #[]) [srV x d t s r a b e, v] lim H = some (.int .u64 (trueM x c x.ch.ticks : Nat), H) := by
  rw [apL_func _ _ _ _ _ _ (by rfl), sf_fixes_search_trueOf_eq]
  have htk : x.ch.ticks ≤ 60 := hok.2.2.2.1.2
  have hAl := fun lim => run_all3 x hl12 lim H d t s r a b e h hsr.near.one hsr.flo.one hsr.unt.one
  have hsr0 := hsr
  obtain ⟨⟨⟨da, dc, ed, _⟩, ⟨ta, tc, et, _⟩, ⟨sa, sc, es, _⟩, _, htl, _⟩, ⟨ra, rc, er, _⟩, _⟩ := h
  obtain ⟨a1, a2, a3, ea⟩ := hsr.near.one
  obtain ⟨b1, b2, b3, eb⟩ := hsr.flo.one
  obtain ⟨e1', e2', e3', ee⟩ := hsr.unt.one
  obtain ⟨va, vc, ev, hd⟩ := hv
  simp only [srV, ed, et, es, er, ea, eb, ee] at hAl
  have ht0 : trueM x c 0 = 2 ^ x.reps.length - 1 := rfl
  rw [← ht0] at hAl
  simp [sf_fixes_search_trueOf, srV, ed, et, es, er, ea, eb, ee, ev, hAl, pf_pure, pureF]
  generalize hS : ({ t := _, L := _, H := _, lim := _, rd := _ } : St) = S
  have key : ∃ q, exL Tryz.prog pf (.loop trLoop) S = some q ∧ q.1 = .exit 0 ∧ q.2.H = H ∧ tget q.2.t 5 = .int .u64 (trueM x c x.ch.ticks : Nat) := by
    refine loop_rule (I := fun m s' => ∃ k, k ≤ x.ch.ticks ∧ m = x.ch.ticks - k ∧ tget s'.t 2 = .pointer (some ⟨2, 0, some 0⟩) ∧ tget s'.t 10 = .slice va x.ch.ticks vc ∧ tget s'.t 11 = .int .i64 x.ch.ticks ∧ tget s'.t 12 = .int .i64 k ∧ s'.L = S.L ∧ s'.H = H ∧ tget s'.t 5 = .int .u64 (trueM x c k : Nat)) ?_ x.ch.ticks S
      ⟨0, by omega, by omega, by subst hS; simp, by subst hS; simp, by subst hS; simp, by subst hS; simp, rfl, by subst hS; rfl, by subst hS; simp⟩
    rintro m s' ⟨k, hk, rfl, e2, e10, e11, e12, eL, eH, e5⟩
    have hL : S.L = [(2, 0, .cells [Value.int IntKind.i64 x.ch.w, Value.int IntKind.i64 x.ch.h, .slice da x.ch.depth.length dc, .slice ta x.ch.tide.length tc, .slice sa x.ch.swell.length sc, Value.int IntKind.i64 x.g, Value.int IntKind.i64 x.pace, .slice ra x.reps.length rc, .slice a1 a2 a3, .slice b1 b2 b3, .slice e1' e2' e3'])] := by subst hS; simp
    by_cases hlt : k < x.ch.ticks
    rotate_left
    · have : k = x.ch.ticks := by omega
      subst this
      simp [trLoop, SC.loops, sf_fixes_search_trueOf, e2, e10, e11, e12, e5, eH]
    have hck := hc k hlt
    obtain ⟨eb', eo, ec, eb2, eo', ec', ee2, g1, g2⟩ := unt_cell hsr0 hlt hck
    obtain ⟨vb, vo, rfl, g⟩ := hd k _ (ints_get (upC c x.ch.ticks) k (by rw [upC_len]; exact hlt))
    rw [upC_get c hlt] at g
    have hw : IntKind.i64.wrap ((k : Int) + 1) = (k : Int) + 1 := wrap_i64 (by omega) (by omega)
    have hcw := clear_wrap (trueM_lt hl12 c k) (denyM x k (c k) x.reps.length)
    have hts : trueM x c (k + 1) = clearM (trueM x c k) (denyM x k (c k) x.reps.length) := rfl
    rw [← hts] at hcw
    have hdl := denyM_lt x k (c k) hl12
    have htl := trueM_lt hl12 c k
    simp only [hcell] at g g1 g2
    rw [ee] at ee2
    rw [ee2] at hL
    generalize denyM x k (c k) x.reps.length = dn at *
    generalize trueM x c k = tn at *
    have hcw' : IntKind.u64.wrap ↑(BitVec.ofInt IntKind.u64.bits (tn : Int) &&& ~~~BitVec.ofInt IntKind.u64.bits (dn : Int)).toNat = ((trueM x c (k + 1) : Nat) : Int) := hcw
    simp [-BitVec.ofInt_natCast, -BitVec.toNat_and, -BitVec.toNat_ofInt, trLoop, SC.loops, sf_fixes_search_trueOf, e2, e10, e11, e12, e5, eL, hL, eH, hlt, g, g1, g2, hck, hw, hcw']
    exact ⟨_, by omega, k + 1, by omega, rfl, by omega, rfl⟩
  obtain ⟨⟨q, s1⟩, hr, q1, q2, q3⟩ := key
  simp [trLoop, SC.loops, sf_fixes_search_trueOf] at hr
  rw [hr]
  simp only at q1 q2 q3
  subst q1
  simp [q2, q3]
end Go.Proofs.YtddnloghclemjaaGreatDoor
namespace Go.Proofs.YtddnloghclemjaaGreatDoor
open Go Go.RowKit
theorem u64s_inj : ∀ {a b : List Nat}, u64s a = u64s b → a = b
  | [], [], _ => rfl
  | x :: a, y :: b, h => by
    simp only [u64s, List.map_cons] at h
    injection h with h1 h2
    injection h1 with _ h3
    have : x = y := Int.ofNat_inj.1 h3
    rw [this, u64s_inj h2]
  | [], _ :: _, h => by simp [u64s] at h
  | _ :: _, [], h => by simp [u64s] at h
theorem u64s_append (a b : List Nat) : u64s (a ++ b) = u64s a ++ u64s b := by simp [u64s]
theorem nlL_u64s (l : List Nat) : nlL (u64s l) = true := nlL_of _ fun v hv => by
  unfold u64s at hv
  obtain ⟨z, _, rfl⟩ := List.mem_map.1 hv
  simp
structure Found (x : Ds) (H : AH) (d t s r a b e : Value) (fb : Nat) (A : AH) (tv ov : Value) (tl ol : List Nat) : Prop where
  cell : A[fb]? = some (.rw 0 (sV x d t s r a b e ++ [tv, ov]))
  tog : OwnV H.length A tv (u64s tl)
  opp : OwnV H.length A ov (u64s ol)
  tfit : ∀ g ∈ tl, g < 4096 ∧ fitM x g = true
  ofit : ∀ g ∈ ol, g < 4096 ∧ fitM x g = false
theorem Found.other {x : Ds} {tl ol : List Nat} (ht : ∀ g ∈ tl, g < 4096 ∧ fitM x g = true) (ho : ∀ g ∈ ol, g < 4096 ∧ fitM x g = false) (h : tl ≠ []) : tl ≠ ol := by
  rintro rfl
  obtain ⟨g, t, e⟩ : ∃ g t, tl = g :: t := by cases tl with | nil => exact absurd rfl h | cons g t => exact ⟨g, t, rfl⟩
  have h1 := (ht g (by rw [e]; simp)).2
  have h2 := (ho g (by rw [e]; simp)).2
  rw [h1] at h2
  cases h2
def Kept (fb : Nat) (A A' : AH) : Prop := ∀ c z, A[c]? = some z → c ≠ fb → (∀ w : List Nat, w ≠ [] → z ≠ .rw 1 (u64s w)) → A'[c]? = some z
theorem Kept.refl (fb : Nat) (A : AH) : Kept fb A A := fun _ _ h _ _ => h
theorem Aft.ext' {A B : AH} (h : Aft A B) {c : Nat} {z : ABlk} (hz : A[c]? = some z) : B[c]? = some z := by
  obtain ⟨K, rfl⟩ := h
  exact own_get hz K
theorem ownV_push {n0 : Nat} {A : AH} {v : Value} {cs : List Value} (h : OwnV n0 A v cs) (y : AH) : OwnV n0 (A ++ y) v cs := by
  rcases h with h | ⟨h1, b, h2, h3, h4⟩
  · exact .inl h
  · exact .inr ⟨h1, b, h2, h3, own_get h4 y⟩
theorem ownV_aft {n0 : Nat} {A B : AH} {v : Value} {cs : List Value} (h : OwnV n0 A v cs) (hA : Aft A B) : OwnV n0 B v cs := by
  obtain ⟨K, rfl⟩ := hA
  exact ownV_push h K
theorem found_app {n0 fb g : Nat} {F : AH} {v w : Value} {l m : List Nat} {vs ws : List Value} (hfb : F[fb]? = some (.rw 0 vs)) (hfb0 : n0 ≤ fb) (hv : OwnV n0 F v (u64s l)) (hw : OwnV n0 F w (u64s m)) (hne : l ≠ [] → l ≠ m) {F' : AH} {v' : Value}
    (hF : (l = [] ∧ F' = (F ++ [ABlk.rw 1 [.int .u64 (g : Int)], ABlk.rw 1 (u64s (l ++ [g]))]).set fb (.rw 0 ws) ∧ v' = .slice (some ⟨F.length + 1, 0, none⟩) 1 2) ∨ (∃ b, v = .slice (some ⟨b, 0, none⟩) l.length (l.length + 1) ∧ n0 ≤ b ∧ F[b]? = some (.rw 1 (u64s l)) ∧ l ≠ [] ∧ F' = (F.set b .dead ++ [ABlk.rw 1 [.int .u64 (g : Int)], ABlk.rw 1 (u64s (l ++ [g]))]).set fb (.rw 0 ws) ∧ v' = .slice (some ⟨F.length + 1, 0, none⟩) (l.length + 1) (l.length + 1 + 1))) (hn0 : n0 ≤ F.length) :
    F'[fb]? = some (.rw 0 ws) ∧ OwnV n0 F' v' (u64s (l ++ [g])) ∧ OwnV n0 F' w (u64s m) ∧ Kept fb F F' := by
  have hfl : fb < F.length := (List.getElem?_eq_some_iff.1 hfb).1
  rcases hF with ⟨rfl, rfl, rfl⟩ | ⟨b, rfl, hb0, hb, hl, rfl, rfl⟩
  · refine ⟨by rw [List.getElem?_set_self (by simp; omega)], .inr ⟨by simp [u64s], F.length + 1, by omega, by simp [u64s], ?_⟩, ?_, fun c z hz hc _ => ?_⟩
    · rw [List.getElem?_set_ne (by omega), List.getElem?_append_right (by omega), Nat.add_sub_cancel_left]; rfl
    · rcases hw with h | ⟨h1, b, h2, h3, h4⟩
      · exact .inl h
      · refine .inr ⟨h1, b, h2, h3, ?_⟩
        have : b ≠ fb := by rintro rfl; rw [hfb] at h4; cases h4
        rw [List.getElem?_set_ne (Ne.symm this)]; exact own_get h4 _
    · rw [List.getElem?_set_ne (Ne.symm hc)]; exact own_get hz _
  · have hbl : b < F.length := (List.getElem?_eq_some_iff.1 hb).1
    have hbf : b ≠ fb := by rintro rfl; rw [hfb] at hb; cases hb
    refine ⟨by rw [List.getElem?_set_self (by simp; omega)], .inr ⟨by simp [u64s], F.length + 1, by omega, by simp [u64s], ?_⟩, ?_, fun c z hz hc hzw => ?_⟩
    · rw [List.getElem?_set_ne (by omega), List.getElem?_append_right (by simp), List.length_set, Nat.add_sub_cancel_left]; rfl
    · rcases hw with h | ⟨h1, b2, h2, h3, h4⟩
      · exact .inl h
      · refine .inr ⟨h1, b2, h2, h3, ?_⟩
        have h5 : b2 ≠ fb := by rintro rfl; rw [hfb] at h4; cases h4
        have h6 : b2 ≠ b := by
          rintro rfl
          rw [hb] at h4
          simp only [Option.some.injEq, ABlk.rw.injEq, true_and] at h4
          exact hne hl (u64s_inj h4)
        have h7 : b2 < F.length := (List.getElem?_eq_some_iff.1 h4).1
        rw [List.getElem?_set_ne (Ne.symm h5), List.getElem?_append_left (by simpa using h7), List.getElem?_set_ne (Ne.symm h6), h4]
    · have h6 : c ≠ b := by
        rintro rfl
        rw [hb] at hz
        exact hzw l hl (Option.some.inj hz).symm
      have h7 : c < F.length := (List.getElem?_eq_some_iff.1 hz).1
      rw [List.getElem?_set_ne (Ne.symm hc), List.getElem?_append_left (by simpa using h7), List.getElem?_set_ne (Ne.symm h6), hz]
set_option maxHeartbeats 4000000 in
theorem run_fit (x : Ds) (hok : ChOk x.ch) (hdo : dsOk x = true) (lim : Nat) (H A : AH) (hlim : lim ≤ H.length) (hA : Aft H A) (d t s r a b e tv ov : Value) (h : DsIn H x d t s r) (hsr : SrIn H x (mayF x) a b e) {fb : Nat} (hfb : H.length ≤ fb) (tl ol : List Nat) (hF : Found x H d t s r a b e fb A tv ov tl ol) (hlen : tl.length ≤ 10000 ∧ ol.length ≤ 10000) (l : Nat) (hl : l < 4096) :
    ∃ A' tv' ov' tl' ol', apL Tryz.prog pf (.func (.func 104) #[] #[]) [.pointer (some ⟨fb, 0, none⟩), .int .u64 l] lim A = some (.bool (fitM x l), A') ∧ Aft H A' ∧ Found x H d t s r a b e fb A' tv' ov' tl' ol' ∧ tl'.length ≤ tl.length + 1 ∧ ol'.length ≤ ol.length + 1 ∧ Kept fb A A' := by
  rw [apL_func _ _ _ _ _ _ (by rfl), sf_fixes_sharing_fit_eq]
  have hl12 := fx_reps hdo
  have hx := h.ext hA.ext
  have hsx := hsr.ext hA.ext
  have oa := hsr.near.one
  have ob := hsr.flo.one
  have oe := hsr.unt.one
  have hF0 := hF
  obtain ⟨hc, htog, hopp, htf, hof⟩ := hF
  have hfl : fb < A.length := (List.getElem?_eq_some_iff.1 hc).1
  have hsT := htog.sl
  have hsO := hopp.sl
  rw [u64s_length] at hsT hsO
  have hAT := fun lim => run_anyU tl (by omega) (fun g hg => (htf g hg).1) lim A tv _ _ hsT (isU_in A l hl)
  have hAO := fun lim => run_anyU ol (by omega) (fun g hg => (hof g hg).1) lim A ov _ _ hsO (isU_holds A l hl)
  have hDm := fun lim => run_demands x lim A d t s r a b e hx oa ob oe l
  obtain ⟨A1, hA1⟩ : ∃ A1, A1 = A ++ [ABlk.rw 0 (sV x d t s r a b e), ABlk.rw 0 [.int .u64 (l : Int)]] := ⟨_, rfl⟩
  rw [← hA1] at hDm
  have hAA1 : Aft A A1 := by rw [hA1]; exact (Aft.refl A).push _
  have hHA1 := hA.trans hAA1
  have hpr := isPr_dem x A1 d t s r a b e (h.ext hHA1.ext) hl12 (mayF x) (hsr.ext hHA1.ext) A.length (A.length + 1) l (by omega) (by rw [hA1, List.getElem?_append_right (Nat.le_refl _), Nat.sub_self]; rfl) (by rw [hA1, List.getElem?_append_right (by omega), Nat.add_sub_cancel_left]; rfl)
  obtain ⟨hB1, hB2⟩ := run_best x hok hdo lim A1 d t s r a b e _ (h.ext hHA1.ext) (mayF x) (hsr.ext hHA1.ext) (demP x l) hpr (fun k i _ _ => (dem_bound x l k i).1)
  have hlm : leastM (backN x (mayF x) (demP x l) x.ch.ticks) x.ch.cells ≤ topN := by
    have h1 := bestOf_le (fun _ => true) (fun j => (backN x (mayF x) (demP x l) x.ch.ticks).getD j 0) x.ch.cells 0 hok.pos.1 rfl
    have h2 := (backN_bound (x := x) (fl := mayF x) (p := demP x l) (fun k i _ _ => (dem_bound x l k i).1) x.ch.ticks (Nat.le_refl _) 0).2
    exact Int.le_trans h1 h2
  have hfit : fitM x l = decide (leastM (backN x (mayF x) (demP x l) x.ch.ticks) x.ch.cells < topN) := rfl
  have hT : topN = 1201 := rfl
  obtain ⟨ta', tc', etv⟩ : ∃ a c, tv = .slice a tl.length c := by obtain ⟨a, c, e, _⟩ := hsT; exact ⟨a, c, e⟩
  obtain ⟨oa', oc', eov⟩ : ∃ a c, ov = .slice a ol.length c := by obtain ⟨a, c, e, _⟩ := hsO; exact ⟨a, c, e⟩
  have hcc := hc
  have hh := h
  obtain ⟨⟨⟨da, dc, ed, _⟩, ⟨ta, tc, et, _⟩, ⟨sa, sc, es, _⟩, _, htl, _⟩, ⟨ra, rc, er, _⟩, _⟩ := h
  obtain ⟨a1, a2, a3, ea⟩ := oa
  obtain ⟨b1, b2, b3, eb⟩ := ob
  obtain ⟨e1, e2, e3, ee⟩ := oe
  simp only [sV, ed, et, es, er, ea, eb, ee, etv, eov, List.cons_append, List.nil_append] at hcc
  rw [etv] at hAT
  rw [eov] at hAO
  simp only [srV, demF, ed, et, es, er, ea, eb, ee] at hDm hB1 hB2
  by_cases hany : tl.any (subM l) = true
  · rw [hany] at hAT
    have hft : fitM x l = true := by
      obtain ⟨g, hg, hs⟩ := List.any_eq_true.1 hany
      exact fit_mono hok hdo hs (htf g hg).2
    refine ⟨A, tv, ov, tl, ol, ?_, hA, hF0, by omega, by omega, Kept.refl fb A⟩
    simp [sf_fixes_sharing_fit, hcc, hAT, hft, pf_pure, pureF]
  have hany' : tl.any (subM l) = false := by simpa using hany
  rw [hany'] at hAT
  by_cases hanyO : (ol.any fun b => subM b l) = true
  · rw [hanyO] at hAO
    have hft : fitM x l = false := by
      obtain ⟨g, hg, hs⟩ := List.any_eq_true.1 hanyO
      cases hfl' : fitM x l with
      | false => rfl
      | true => have := fit_mono hok hdo hs hfl'; rw [(hof g hg).2] at this; cases this
    refine ⟨A, tv, ov, tl, ol, ?_, hA, hF0, by omega, by omega, Kept.refl fb A⟩
    simp [sf_fixes_sharing_fit, hcc, hAT, hAO, hft, pf_pure, pureF]
  have hanyO' : (ol.any fun b => subM b l) = false := by simpa using hanyO
  rw [hanyO'] at hAO
  have hA1f : A1[fb]? = some (.rw 0 (sV x d t s r a b e ++ [tv, ov])) := by rw [hA1]; exact own_get hc _
  have hm1 : 1 ≤ maxA := by decide
  have hlfb : lim ≤ fb := by omega
  by_cases hm : leastM (backN x (mayF x) (demP x l) x.ch.ticks) x.ch.cells = topN
  · have hft : fitM x l = false := by rw [hfit, hm]; simp
    have hB := hB1 hm
    have hA1c := hA1f
    simp only [sV, ed, et, es, er, ea, eb, ee, etv, eov, List.cons_append, List.nil_append] at hA1c
    have hA1X : ∀ y : AH, (A1 ++ y)[fb]? = some (.rw 0 _) := fun y => own_get hA1c y
    have htog1 := ownV_aft htog hAA1
    have hopp1 := ownV_aft hopp hAA1
    have hone : ol ≠ [] → ol ≠ tl := fun h e => by
      have h2 : tl ≠ [] := by rw [← e]; exact h
      exact Found.other htf hof h2 e.symm
    have hof' : ∀ g ∈ ol ++ [l], g < 4096 ∧ fitM x g = false := fun g hg => by
      rcases List.mem_append.1 hg with h | h
      · exact hof g h
      · simp at h; subst h; exact ⟨hl, hft⟩
    rcases hopp1 with ⟨z1, z2⟩ | ⟨z1, b', z2, z3, z4⟩
    · have ho0 : ol = [] := by cases ol with | nil => rfl | cons _ _ => simp [u64s] at z1
      rw [eov] at z2
      simp only [Value.slice.injEq] at z2
      obtain ⟨rfl, _, rfl⟩ := z2
      have hr := found_app (g := l) (ws := sV x d t s r a b e ++ [tv, .slice (some ⟨A1.length + 1, 0, none⟩) 1 2]) hA1f hfb (ownV_aft hopp hAA1) htog1 hone (.inl ⟨ho0, rfl, rfl⟩) hHA1.le
      obtain ⟨k1, k2, k3, k4⟩ := hr
      refine ⟨_, tv, _, tl, ol ++ [l], ?_, (hHA1.push _).set hfb _, ⟨k1, k3, k2, htf, hof'⟩, by omega, by simp, fun c z hz hc' hw => k4 c z (hAA1.ext' hz) hc' hw⟩
      subst ho0
      simp only [List.length_nil] at hAO hcc hA1c hA1X
      simp [-oneC, oneC_int, oneC_slice, -Array.all_toList, sf_fixes_sharing_fit, hcc, hAT, hAO, hDm, hB, hA1c, hA1X, hm1, hlfb, hft, sV, ed, et, es, er, ea, eb, ee, etv, u64s, pf_pure, pureF]
    · rw [eov] at z3
      simp only [Value.slice.injEq, u64s_length] at z3
      obtain ⟨rfl, _, rfl⟩ := z3
      have ho0 : ol ≠ [] := fun e => z1 (by rw [e]; rfl)
      have hr := found_app (g := l) (ws := sV x d t s r a b e ++ [tv, .slice (some ⟨A1.length + 1, 0, none⟩) (ol.length + 1) (ol.length + 1 + 1)]) hA1f hfb (ownV_aft hopp hAA1) htog1 hone (.inr ⟨b', eov, z2, z4, ho0, rfl, rfl⟩) hHA1.le
      obtain ⟨k1, k2, k3, k4⟩ := hr
      refine ⟨_, tv, _, tl, ol ++ [l], ?_, (((hHA1.set z2 _).push _).set hfb _), ⟨k1, k3, k2, htf, hof'⟩, by omega, by simp, fun c z hz hc' hw => k4 c z (hAA1.ext' hz) hc' hw⟩
      have hbl' : b' < A1.length := (List.getElem?_eq_some_iff.1 z4).1
      have hl0 : ¬ ol.length = 0 := by simpa using ho0
      have hmx : ol.length + 1 ≤ maxA := Nat.le_trans (show ol.length + 1 ≤ 20000 by omega) (by decide)
      have hcn : nlL (u64s ol) = true := nlL_u64s ol
      have hci : (u64s ol).length = ol.length := u64s_length ol
      have happ : u64s ol ++ [.int .u64 (l : Int)] = u64s (ol ++ [l]) := by rw [u64s_append]; rfl
      have hcA := fun L x => own_cells z4 L x
      have hbX := fun x => own_get z4 x
      have hsX := fun x y => own_set z4 x y
      have hlb : lim ≤ b' := by omega
      have hbf : b' ≠ fb := by rintro rfl; rw [hA1f] at z4; cases z4
      have hA1s : ∀ y : AH, (A1.set b' .dead ++ y)[fb]? = A1[fb]? := fun y => by rw [List.getElem?_append_left (by simpa using (List.getElem?_eq_some_iff.1 hA1f).1), List.getElem?_set_ne hbf]
      rw [hA1c] at hA1s
      rw [hci] at hcA
      generalize hcs : u64s ol = cs at *
      simp [-oneC, oneC_int, oneC_slice, -Array.all_toList, sf_fixes_sharing_fit, hcc, hAT, hAO, hDm, hB, hA1c, hA1X, hm1, hlfb, hft, sV, ed, et, es, er, ea, eb, ee, etv, hl0, ho0, hmx, hcn, hci, happ, hcA, hbX, hsX, hlb, hA1s, pf_pure, pureF]
  · have hft : fitM x l = true := by rw [hfit]; simp; omega
    obtain ⟨v, F, hB, hAF, hO⟩ := hB2 hm
    obtain ⟨hway, hnone⟩ := way_of_fit hok hdo hft
    have hclen := courseM_len x (mayF x) (demP x l) x.ch.ticks
    have hsv : Sl F v x.ch.ticks (ints (upC (cP x (mayF x) (demP x l)) x.ch.ticks)) := by
      have := hO.sl
      rw [hclen] at this
      exact this
    have hHF := hHA1.trans hAF
    have hTr := fun lim => run_trueOf x hok hl12 lim F d t s r a b e v (hh.ext hHF.ext) (mayF x) (hsr.ext hHF.ext) (cP x (mayF x) (demP x l)) hway.lt hsv
    have hglt := trueM_lt hl12 (cP x (mayF x) (demP x l)) x.ch.ticks
    have hgfit : fitM x (trueM x (cP x (mayF x) (demP x l)) x.ch.ticks) = true := fit_of_way hok hdo hway fun t ht => trueM_none hl12 _ _ _ ht
    generalize trueM x (cP x (mayF x) (demP x l)) x.ch.ticks = g at *
    have hFf : F[fb]? = some (.rw 0 (sV x d t s r a b e ++ [tv, ov])) := hAF.ext' hA1f
    have hFc := hFf
    simp only [sV, ed, et, es, er, ea, eb, ee, etv, eov, List.cons_append, List.nil_append] at hFc
    have hFX : ∀ y : AH, (F ++ y)[fb]? = some (.rw 0 _) := fun y => own_get hFc y
    have htogF := ownV_aft htog (hAA1.trans hAF)
    have hoppF := ownV_aft hopp (hAA1.trans hAF)
    have hone : tl ≠ [] → tl ≠ ol := fun h => Found.other htf hof h
    have htf' : ∀ q ∈ tl ++ [g], q < 4096 ∧ fitM x q = true := fun q hq => by
      rcases List.mem_append.1 hq with h | h
      · exact htf q h
      · simp at h; subst h; exact ⟨hglt, hgfit⟩
    obtain ⟨va, vc, ev, _⟩ := hsv
    rw [ev] at hB hTr
    simp only [srV, ed, et, es, er, ea, eb, ee] at hTr
    rcases htogF with ⟨z1, z2⟩ | ⟨z1, b', z2, z3, z4⟩
    · have ho0 : tl = [] := by cases tl with | nil => rfl | cons _ _ => simp [u64s] at z1
      rw [etv] at z2
      simp only [Value.slice.injEq] at z2
      obtain ⟨rfl, _, rfl⟩ := z2
      have hr := found_app (g := g) (ws := sV x d t s r a b e ++ [.slice (some ⟨F.length + 1, 0, none⟩) 1 2, ov]) hFf hfb (ownV_aft htog (hAA1.trans hAF)) hoppF hone (.inl ⟨ho0, rfl, rfl⟩) hHF.le
      obtain ⟨k1, k2, k3, k4⟩ := hr
      refine ⟨_, _, ov, tl ++ [g], ol, ?_, (hHF.push _).set hfb _, ⟨k1, k2, k3, htf', hof⟩, by simp, by omega, fun c z hz hc' hw => k4 c z ((hAA1.trans hAF).ext' hz) hc' hw⟩
      subst ho0
      simp only [List.length_nil] at hAT hcc hFc hFX
      simp [-oneC, oneC_int, oneC_slice, -Array.all_toList, sf_fixes_sharing_fit, hcc, hAT, hAO, hDm, hB, hTr, hFc, hFX, hm1, hlfb, hft, sV, ed, et, es, er, ea, eb, ee, eov, u64s, pf_pure, pureF]
    · rw [etv] at z3
      simp only [Value.slice.injEq, u64s_length] at z3
      obtain ⟨rfl, _, rfl⟩ := z3
      have ho0 : tl ≠ [] := fun e => z1 (by rw [e]; rfl)
      have hr := found_app (g := g) (ws := sV x d t s r a b e ++ [.slice (some ⟨F.length + 1, 0, none⟩) (tl.length + 1) (tl.length + 1 + 1), ov]) hFf hfb (ownV_aft htog (hAA1.trans hAF)) hoppF hone (.inr ⟨b', etv, z2, z4, ho0, rfl, rfl⟩) hHF.le
      obtain ⟨k1, k2, k3, k4⟩ := hr
      refine ⟨_, _, ov, tl ++ [g], ol, ?_, (((hHF.set z2 _).push _).set hfb _), ⟨k1, k2, k3, htf', hof⟩, by simp, by omega, fun c z hz hc' hw => k4 c z ((hAA1.trans hAF).ext' hz) hc' hw⟩
      have hbl' : b' < F.length := (List.getElem?_eq_some_iff.1 z4).1
      have hl0 : ¬ tl.length = 0 := by simpa using ho0
      have hmx : tl.length + 1 ≤ maxA := Nat.le_trans (show tl.length + 1 ≤ 20000 by omega) (by decide)
      have hcn : nlL (u64s tl) = true := nlL_u64s tl
      have hci : (u64s tl).length = tl.length := u64s_length tl
      have happ : u64s tl ++ [.int .u64 (g : Int)] = u64s (tl ++ [g]) := by rw [u64s_append]; rfl
      have hcA := fun L x => own_cells z4 L x
      have hbX := fun x => own_get z4 x
      have hsX := fun x y => own_set z4 x y
      have hlb : lim ≤ b' := by omega
      have hbf : b' ≠ fb := by rintro rfl; rw [hFf] at z4; cases z4
      have hFs : ∀ y : AH, (F.set b' .dead ++ y)[fb]? = F[fb]? := fun y => by rw [List.getElem?_append_left (by simpa using (List.getElem?_eq_some_iff.1 hFf).1), List.getElem?_set_ne hbf]
      rw [hFc] at hFs
      rw [hci] at hcA
      generalize hcs : u64s tl = cs at *
      simp [-oneC, oneC_int, oneC_slice, -Array.all_toList, sf_fixes_sharing_fit, hcc, hAT, hAO, hDm, hB, hTr, hFc, hFX, hm1, hlfb, hft, sV, ed, et, es, er, ea, eb, ee, eov, hl0, ho0, hmx, hcn, hci, happ, hcA, hbX, hsX, hlb, hFs, pf_pure, pureF]
end Go.Proofs.YtddnloghclemjaaGreatDoor
namespace Go.Proofs.YtddnloghclemjaaGreatDoor
open Go Go.RowKit
def firstN (l : List Nat) : Nat := match l.getLast? with | some j => j + 1 | none => 0
def extM (n : Nat) (l : List Nat) : List (List Nat) := (List.range (n - firstN l)).map fun i => l ++ [firstN l + i]
def longM (n : Nat) (ls : List (List Nat)) : List (List Nat) := ls.flatMap (extM n)
def levelM (n : Nat) : Nat → List (List Nat)
  | 0 => [[]]
  | k + 1 => longM n (levelM n k)
def prefL (n k : Nat) : List (List Nat) := (List.range k).flatMap (levelM n)
def listsM (n : Nat) : List (List Nat) := prefL n (n + 1)
theorem prefL_succ (n k : Nat) : prefL n (k + 1) = prefL n k ++ levelM n k := by simp [prefL, List.range_succ]
theorem extM_spec {n : Nat} {l m : List Nat} (h : m ∈ extM n l) : ∃ i, firstN l ≤ i ∧ i < n ∧ m = l ++ [i] := by
  unfold extM at h
  obtain ⟨i, hi, rfl⟩ := List.mem_map.1 h
  rw [List.mem_range] at hi
  exact ⟨firstN l + i, by omega, by omega, rfl⟩
theorem first_snoc (l : List Nat) (i : Nat) : firstN (l ++ [i]) = i + 1 := by simp [firstN]
theorem level_spec (n : Nat) : ∀ k, ∀ l ∈ levelM n k, l.length = k ∧ k ≤ firstN l ∧ ∀ i ∈ l, i < n
  | 0, l, h => by
    have : l = [] := by simpa [levelM] using h
    subst this
    exact ⟨rfl, by simp, by simp⟩
  | k + 1, l, h => by
    unfold levelM longM at h
    obtain ⟨m, hm, hl⟩ := List.mem_flatMap.1 h
    obtain ⟨h1, h2, h3⟩ := level_spec n k m hm
    obtain ⟨i, i1, i2, rfl⟩ := extM_spec hl
    refine ⟨by simp [h1], by rw [first_snoc]; omega, fun j hj => ?_⟩
    rcases List.mem_append.1 hj with hj | hj
    · exact h3 j hj
    · simp at hj; omega
theorem level_end (n k : Nat) (hk : n < k) : levelM n k = [] := by
  obtain ⟨k, rfl⟩ : ∃ m, k = m + 1 := ⟨k - 1, by omega⟩
  unfold levelM longM
  rw [List.flatMap_eq_nil_iff]
  intro l hl
  obtain ⟨h1, h2, h3⟩ := level_spec n k l hl
  unfold extM
  rw [show n - firstN l = 0 by omega]
  rfl
theorem level_nil {n k : Nat} (h : levelM n k = []) : ∀ j, k ≤ j → levelM n j = [] := by
  intro j hj
  obtain ⟨m, rfl⟩ : ∃ m, j = k + m := ⟨j - k, by omega⟩
  induction m with
  | zero => exact h
  | succ m ih =>
    show longM n (levelM n (k + m)) = []
    rw [ih (by omega)]; rfl
theorem pref_end {n k : Nat} (h : levelM n k = []) (hk : k ≤ n + 1) : prefL n k = listsM n := by
  unfold listsM
  obtain ⟨m, hm⟩ : ∃ m, n + 1 = k + m := ⟨n + 1 - k, by omega⟩
  rw [hm]
  clear hm hk
  induction m with
  | zero => rfl
  | succ m ih => rw [← Nat.add_assoc, prefL_succ, ← ih, level_nil h (k + m) (by omega), List.append_nil]
theorem lists_len : ∀ n, n < 13 → (listsM n).length ≤ 4096 := by decide +kernel
def natI (l : List Nat) : List Int := l.map fun (i : Nat) => (i : Int)
theorem natI_len (l : List Nat) : (natI l).length = l.length := by simp [natI]
def LstIn (A : AH) (v : Value) (l : List Nat) : Prop := (l = [] ∧ v = .slice none 0 0) ∨ (l ≠ [] ∧ ∃ b, v = .slice (some ⟨b, 0, none⟩) l.length (l.length + 1) ∧ A[b]? = some (.rw 1 (ints (natI l))))
theorem LstIn.sl {A : AH} {v : Value} {l : List Nat} (h : LstIn A v l) : Sl A v l.length (ints (natI l)) := by
  rcases h with ⟨rfl, rfl⟩ | ⟨_, b, rfl, hb⟩
  · exact Sl.nil
  · have := Sl.made (n := l.length) (k := l.length + 1) hb (natI_len l).symm
    rw [natI_len] at this
    exact this
theorem LstIn.nl {A : AH} {v : Value} {l : List Nat} (h : LstIn A v l) : nl v = true := by
  rcases h with ⟨rfl, rfl⟩ | ⟨_, b, rfl, hb⟩ <;> simp
theorem run_extended (l : List Nat) (hl : l.length ≤ 1000) (i : Nat) (lim : Nat) (A : AH) (v : Value) (hv : LstIn A v l) :
    apL Tryz.prog pf (.func (.func 132) #[] #[]) [v, .int .i64 i] lim A = some (.slice (some ⟨A.length + 1, 0, none⟩) (l.length + 1) (l.length + 1 + 1), A ++ [.rw 1 [.int .i64 i], .rw 1 (ints (natI (l ++ [i])))]) := by
  rw [apL_func _ _ _ _ _ _ (by rfl), sf_fixes_extended_eq]
  have hmx : l.length + 1 ≤ maxA := Nat.le_trans (show l.length + 1 ≤ 2000 by omega) (by decide)
  have hm1 : 1 ≤ maxA := by decide
  have happ : ints (natI l) ++ [.int .i64 (i : Int)] = ints (natI (l ++ [i])) := by simp [natI, ints]
  rcases hv with ⟨rfl, rfl⟩ | ⟨hn, b, rfl, hb⟩
  · simp [-oneC, oneC_int, fitA, sf_fixes_extended, hm1, pf_pure, pureF]
    rfl
  · have hl0 : ¬ l.length = 0 := by simpa using hn
    have hcA := fun L x => own_cells hb L x
    have hbX := fun x => own_get hb x
    have hci : (ints (natI l)).length = l.length := by rw [ints_length, natI_len]
    have hcn : nlL (ints (natI l)) = true := nlL_ints _
    rw [hci] at hcA
    generalize hcs : ints (natI l) = cs at *
    simp [-oneC, oneC_int, fitA, bndA, sf_fixes_extended, hm1, hl0, hn, hmx, hcA, hb, hbX, hcn, happ, pf_pure, pureF]
end Go.Proofs.YtddnloghclemjaaGreatDoor
namespace Go.Proofs.YtddnloghclemjaaGreatDoor
open Go Go.RowKit
theorem LstIn.aft {A B : AH} {v : Value} {l : List Nat} (h : LstIn A v l) (hA : Aft A B) : LstIn B v l := by
  rcases h with h | ⟨h1, b, h2, h3⟩
  · exact .inl h
  · exact .inr ⟨h1, b, h2, hA.ext' h3⟩
structure OutIn (n0 : Nat) (A : AH) (v : Value) (os : List (List Nat)) (cs : List Value) : Prop where
  len : cs.length = os.length
  own : OwnV n0 A v cs
  rows : ∀ j (h : j < cs.length) (h' : j < os.length), LstIn A cs[j] os[j] ∧ os[j] ≠ []
theorem OutIn.nl {n0 : Nat} {A : AH} {v : Value} {os : List (List Nat)} {cs : List Value} (h : OutIn n0 A v os cs) : nlL cs = true := nlL_of cs fun w hw => by
  obtain ⟨j, hj, rfl⟩ := List.mem_iff_getElem.1 hw
  exact (h.rows j hj (by rw [← h.len]; exact hj)).1.nl
theorem lst_keep {A F : AH} {b : Nat} {cs : List Value} {v : Value} {l : List Nat} (h : LstIn A v l) (hl : l ≠ []) (hb : A[b]? = some (.rw 1 cs)) (hcs : ∀ y ∈ cs, ∃ a n k, y = Value.slice a n k) (hF : ∀ (c : Nat) (z : ABlk), c ≠ b → A[c]? = some z → F[c]? = some z) : LstIn F v l := by
  rcases h with h | ⟨h1, b', h2, h3⟩
  · exact .inl h
  · refine .inr ⟨h1, b', h2, hF b' _ ?_ h3⟩
    rintro rfl
    rw [hb] at h3
    simp only [Option.some.injEq, ABlk.rw.injEq, true_and] at h3
    obtain ⟨y, t, e⟩ : ∃ y t, l = y :: t := by cases l with | nil => exact absurd rfl h1 | cons y t => exact ⟨y, t, rfl⟩
    obtain ⟨a, n, k, e2⟩ := hcs (.int .i64 (y : Nat)) (by rw [h3, e]; simp [natI, ints])
    cases e2
theorem out_snoc {n0 : Nat} {A F : AH} {v v' w : Value} {os : List (List Nat)} {cs : List Value} {l : List Nat} (h : OutIn n0 A v os cs) (hl : l ≠ []) (hw : LstIn F w l) (hn0 : n0 ≤ A.length)
    (hF : (cs = [] ∧ Aft A F ∧ ∃ b : Nat, A.length ≤ b ∧ v' = .slice (some ⟨b, 0, none⟩) 1 2 ∧ F[b]? = some (ABlk.rw 1 [w])) ∨ (cs ≠ [] ∧ ∃ b : Nat, A[b]? = some (ABlk.rw 1 cs) ∧ (∀ (c : Nat) (z : ABlk), c ≠ b → A[c]? = some z → F[c]? = some z) ∧ ∃ b' : Nat, A.length ≤ b' ∧ v' = .slice (some ⟨b', 0, none⟩) (cs.length + 1) (cs.length + 1 + 1) ∧ F[b']? = some (ABlk.rw 1 (cs ++ [w])))) :
    OutIn n0 F v' (os ++ [l]) (cs ++ [w]) := by
  have hlen := h.len
  have rows' : (∀ j (h : j < cs.length) (h' : j < os.length), LstIn F cs[j] os[j] ∧ os[j] ≠ []) → ∀ j (h : j < (cs ++ [w]).length) (h' : j < (os ++ [l]).length), LstIn F (cs ++ [w])[j] (os ++ [l])[j] ∧ (os ++ [l])[j] ≠ [] := fun hr j hj hj' => by
    by_cases hjc : j < cs.length
    · rw [List.getElem_append_left hjc, List.getElem_append_left (by omega)]
      exact hr j hjc (by omega)
    · have : j = cs.length := by simp at hj; omega
      subst this
      rw [List.getElem_append_right (Nat.le_refl _), List.getElem_append_right (by omega)]
      simp [hw, hl]
  rcases hF with ⟨rfl, hA, b, hb, rfl, hFb⟩ | ⟨hc, b, hb, hF, b', hb', rfl, hFb⟩
  · exact ⟨by simp [← hlen], .inr ⟨by simp, b, by omega, rfl, hFb⟩, rows' fun j hj => by simp at hj⟩
  · refine ⟨by simp [hlen], .inr ⟨by simp, b', by omega, by simp, hFb⟩, rows' fun j hj hj' => ?_⟩
    obtain ⟨h1, h2⟩ := h.rows j hj hj'
    refine ⟨lst_keep h1 h2 hb (fun y hy => ?_) hF, h2⟩
    obtain ⟨i, hi, rfl⟩ := List.mem_iff_getElem.1 hy
    obtain ⟨h3, h4⟩ := h.rows i hi (by omega)
    rcases h3 with ⟨e, _⟩ | ⟨_, b2, e, _⟩
    · exact absurd e h4
    · exact ⟨_, _, _, e⟩
def loLoop1 : SC := sf_fixes_longer.body.loops.tail.headD .skip
set_option maxHeartbeats 1000000 in
theorem lo_inner (n : Nat) (hn : n ≤ 12) (n0 : Nat) (A0 : AH) (l : List Nat) (lv : Value) (hl : LstIn A0 lv l) (hll : l.length ≤ 12) (hf : firstN l ≤ 12) (os : List (List Nat)) (hos : os.length ≤ 100000) (cs : List Value) (S : St) (hA0 : Aft A0 S.H) (hn0 : n0 = A0.length) (hlim : S.lim ≤ n0)
    (h1 : tget S.t 1 = .int .i64 n) (h7 : tget S.t 7 = lv) (h9 : tget S.t 9 = .int .i64 (firstN l : Nat)) (hO : OutIn n0 S.H (tget S.t 5) os cs) :
    ∃ q cs', exL Tryz.prog pf (.loop loLoop1) S = some q ∧ q.1 = .exit 2 ∧ q.2.lim = S.lim ∧ Aft A0 q.2.H ∧ OutIn n0 q.2.H (tget q.2.t 5) (os ++ extM n l) cs' ∧ tget q.2.t 1 = tget S.t 1 ∧ tget q.2.t 10 = tget S.t 10 ∧ tget q.2.t 11 = tget S.t 11 ∧ tget q.2.t 12 = tget S.t 12 := by
  have key : ∃ q, exL Tryz.prog pf (.loop loLoop1) S = some q ∧ (q.1 = .exit 2 ∧ q.2.lim = S.lim ∧ Aft A0 q.2.H ∧ (∃ cs', OutIn n0 q.2.H (tget q.2.t 5) (os ++ extM n l) cs') ∧ tget q.2.t 1 = tget S.t 1 ∧ tget q.2.t 10 = tget S.t 10 ∧ tget q.2.t 11 = tget S.t 11 ∧ tget q.2.t 12 = tget S.t 12) := by
    refine loop_rule (I := fun m' s' => ∃ m, m ≤ n - firstN l ∧ m' = n - firstN l - m ∧ tget s'.t 1 = .int .i64 n ∧ tget s'.t 7 = lv ∧ tget s'.t 9 = .int .i64 (firstN l + m : Nat) ∧ s'.lim = S.lim ∧ Aft A0 s'.H ∧ (∃ cs', OutIn n0 s'.H (tget s'.t 5) (os ++ (List.range m).map fun i => l ++ [firstN l + i]) cs') ∧ tget s'.t 10 = tget S.t 10 ∧ tget s'.t 11 = tget S.t 11 ∧ tget s'.t 12 = tget S.t 12) ?_ (n - firstN l) S
      ⟨0, by omega, by omega, h1, h7, h9, rfl, hA0, ⟨cs, by simpa using hO⟩, rfl, rfl, rfl⟩
    rintro m' s' ⟨m, hm, rfl, e1, e7, e9, el, eA, ⟨cs', eO⟩, e10, e11, e12⟩
    obtain ⟨A, hA⟩ : ∃ A, s'.H = A := ⟨_, rfl⟩
    rw [hA] at eA eO
    by_cases hlt : firstN l + m < n
    rotate_left
    · have hme : m = n - firstN l := by omega
      subst hme
      have hge : ¬ ((firstN l + (n - firstN l) : Nat) : Int) < n := by omega
      simp [-Int.natCast_add, loLoop1, SC.loops, sf_fixes_longer, e1, e7, e9, hA, hge, h1, e10, e11, e12]
      exact ⟨el, eA, cs', eO⟩
    have hltI : ((firstN l + m : Nat) : Int) < n := by omega
    have hEx := fun lim => run_extended l (by omega) (firstN l + m) lim A lv (hl.aft eA)
    have hw : IntKind.i64.wrap (((firstN l + m : Nat) : Int) + 1) = ((firstN l + (m + 1) : Nat) : Int) := by rw [wrap_i64 (by omega) (by omega)]; omega
    have hos' : os ++ (List.range (m + 1)).map (fun i => l ++ [firstN l + i]) = (os ++ (List.range m).map fun i => l ++ [firstN l + i]) ++ [l ++ [firstN l + m]] := by rw [List.range_succ]; simp
    have hcl := eO.len
    have hcl2 : cs'.length = os.length + m := by rw [hcl]; simp
    have hnl := hl.nl
    have hm1 : 1 ≤ maxA := by decide
    have hls : LstIn (A ++ [.rw 1 [.int .i64 (firstN l + m : Nat)], .rw 1 (ints (natI (l ++ [firstN l + m])))]) (.slice (some ⟨A.length + 1, 0, none⟩) (l.length + 1) (l.length + 1 + 1)) (l ++ [firstN l + m]) := .inr ⟨by simp, A.length + 1, by simp, by rw [List.getElem?_append_right (by omega), Nat.add_sub_cancel_left]; rfl⟩
    obtain ⟨j, hj⟩ : ∃ j, j = firstN l + m := ⟨_, rfl⟩
    rw [← hj] at hltI hEx hw hls e9 hos'
    have huse : isU lv = false ∧ lv.cells = #[lv] := by rcases hl with ⟨_, rfl⟩ | ⟨_, b, rfl, _⟩ <;> exact ⟨rfl, rfl⟩
    rcases eO.own with ⟨hc0, e5⟩ | ⟨hc0, b, hb, e5, hbA⟩
    · subst hc0
      simp [-oneC, oneC_slice, -Int.natCast_add, loLoop1, SC.loops, sf_fixes_longer, e1, e5, e7, e9, hA, hltI, hEx, hnl, hm1, hw]
      refine ⟨_, by omega, m + 1, by omega, rfl, rfl, el, eA.push _, ⟨[] ++ [.slice (some ⟨A.length + 1, 0, none⟩) (l.length + 1) (l.length + 1 + 1)], ?_⟩, e10, e11, e12⟩
      rw [hos']
      refine out_snoc eO (by simp) ?_ (by have := eA.le; omega) (.inl ⟨rfl, (Aft.refl A).push _, A.length + 3, by omega, rfl, ?_⟩)
      · exact .inr ⟨by simp, A.length + 1, by simp, by rw [List.getElem?_append_right (by omega), Nat.add_sub_cancel_left]; rfl⟩
      · rw [List.getElem?_append_right (by omega), Nat.add_sub_cancel_left]; rfl
    · have hbl' : b < A.length := (List.getElem?_eq_some_iff.1 hbA).1
      have hl0 : ¬ cs'.length = 0 := by simpa using hc0
      have hmx : cs'.length + 1 ≤ maxA := Nat.le_trans (show cs'.length + 1 ≤ 200000 by omega) (by decide)
      have hcn : nlL cs' = true := eO.nl
      have hcA := fun L x => own_cells hbA L x
      have hbX := fun x => own_get hbA x
      have hsX := fun x y => own_set hbA x y
      have hlb : S.lim ≤ b := by omega
      simp [-oneC, oneC_slice, -Int.natCast_add, loLoop1, SC.loops, sf_fixes_longer, e1, e5, e7, e9, hA, hltI, hEx, hnl, hm1, hw, hl0, hc0, hmx, hcn, hcA, hbX, hsX, el, hlb]
      refine ⟨_, by omega, m + 1, by omega, rfl, rfl, ?_, ⟨cs' ++ [.slice (some ⟨A.length + 1, 0, none⟩) (l.length + 1) (l.length + 1 + 1)], ?_⟩, e10, e11, e12⟩
      · exact (eA.set (by omega) _).push _
      rw [hos']
      refine out_snoc eO (by simp) ?_ (by have := eA.le; omega) (.inr ⟨hc0, b, hbA, fun c z hc hz => ?_, A.length + 3, by omega, rfl, ?_⟩)
      · exact .inr ⟨by simp, A.length + 1, by simp, by rw [List.getElem?_append_right (by simp)]; simp⟩
      · have hcl' : c < A.length := (List.getElem?_eq_some_iff.1 hz).1
        rw [List.getElem?_append_left (by simpa using hcl'), List.getElem?_set_ne (Ne.symm hc), hz]
      · rw [List.getElem?_append_right (by simp)]; simp
  obtain ⟨q, h1, h2, h3, h4, ⟨cs', h5⟩, h6⟩ := key
  exact ⟨q, cs', h1, h2, h3, h4, h5, h6⟩
def AllIn (A : AH) (v : Value) (ls : List (List Nat)) : Prop := ∃ cs : List Value, cs.length = ls.length ∧ Sl A v ls.length cs ∧ ∀ j (_ : j < cs.length) (_ : j < ls.length), LstIn A cs[j] ls[j]
def loLoop0 : SC := sf_fixes_longer.body.loops.headD .skip
set_option maxHeartbeats 1000000 in
theorem run_longer (n : Nat) (hn : n ≤ 12) (lim : Nat) (A0 : AH) (v : Value) (ls : List (List Nat)) (hls : ls.length ≤ 5000) (hl : ∀ l ∈ ls, l.length ≤ 12 ∧ firstN l ≤ 12) (hall : AllIn A0 v ls) :
    ∃ w A, apL Tryz.prog pf (.func (.func 127) #[] #[]) [v, .int .i64 n] lim A0 = some (w, A) ∧ Aft A0 A ∧ (∃ cs, OutIn A0.length A w (longM n ls) cs) := by
  rw [apL_func _ _ _ _ _ _ (by rfl), sf_fixes_longer_eq]
  obtain ⟨cs0, c1, c2, c3⟩ := hall
  obtain ⟨va, vc, rfl, hd⟩ := c2
  simp [sf_fixes_longer, pf_pure, pureF]
  generalize hS : ({ t := _, L := _, H := _, lim := _, rd := _ } : St) = S
  have hlen : ∀ j, j ≤ ls.length → (longM n (ls.take j)).length ≤ 12 * j := by
    intro j
    induction j with
    | zero => intro _; simp [longM]
    | succ j ih =>
      intro hj
      have h1 := ih (by omega)
      have h2 : ls.take (j + 1) = ls.take j ++ [ls[j]] := by rw [List.take_add_one]; simp [show j < ls.length by omega]
      rw [h2]
      have h3 : (extM n ls[j]).length ≤ 12 := by simp [extM]; omega
      simp only [longM, List.flatMap_append, List.flatMap_cons, List.flatMap_nil, List.append_nil, List.length_append] at h1 ⊢
      omega
  have key : ∃ q, exL Tryz.prog pf (.loop loLoop0) S = some q ∧ (q.1 = .exit 0 ∧ Aft A0 q.2.H ∧ ∃ cs, OutIn A0.length q.2.H (tget q.2.t 5) (longM n ls) cs) := by
    refine loop_rule (I := fun m s' => ∃ j, j ≤ ls.length ∧ m = ls.length - j ∧ tget s'.t 1 = .int .i64 n ∧ tget s'.t 10 = .slice va ls.length vc ∧ tget s'.t 11 = .int .i64 ls.length ∧ tget s'.t 12 = .int .i64 j ∧ s'.lim = A0.length ∧ Aft A0 s'.H ∧ ∃ cs, OutIn A0.length s'.H (tget s'.t 5) (longM n (ls.take j)) cs) ?_ ls.length S
      ⟨0, by omega, by omega, by subst hS; simp, by subst hS; simp, by subst hS; simp, by subst hS; simp, by subst hS; rfl, by subst hS; exact Aft.refl A0, [], rfl, .inl ⟨rfl, by subst hS; simp⟩, fun j hj => by simp at hj⟩
    rintro m s' ⟨j, hj, rfl, e1, e10, e11, e12, el, eA, cs, eO⟩
    by_cases hlt : j < ls.length
    rotate_left
    · have : j = ls.length := by omega
      subst this
      rw [List.take_length] at eO
      simp [loLoop0, SC.loops, sf_fixes_longer, e1, e10, e11, e12]
      exact ⟨eA, cs, eO⟩
    obtain ⟨A, hA⟩ : ∃ A, s'.H = A := ⟨_, rfl⟩
    rw [hA] at eA eO
    have hjc : j < cs0.length := by omega
    obtain ⟨b, o, rfl, g⟩ := hd j _ (List.getElem?_eq_getElem hjc)
    have gA := hcell_aft g eA
    have hl0 := c3 j hjc hlt
    have hlb := hl _ (List.getElem_mem hlt)
    have hw : IntKind.i64.wrap ((j : Int) + 1) = (j : Int) + 1 := wrap_i64 (by omega) (by omega)
    have htk : ls.take (j + 1) = ls.take j ++ [ls[j]] := by rw [List.take_add_one]; simp [hlt]
    have hlm : longM n (ls.take (j + 1)) = longM n (ls.take j) ++ extM n ls[j] := by unfold longM; rw [htk, List.flatMap_append, List.flatMap_cons, List.flatMap_nil, List.append_nil]
    have hos := hlen j (by omega)
    simp only [hcell] at gA
    generalize hq : ls[j] = q at *
    generalize hqv : cs0[j] = qv at *
    have hqA := hl0.aft eA
    have hfin : ∀ S2 : St, S2.H = A → S2.lim = A0.length → tget S2.t 1 = .int .i64 n → tget S2.t 7 = qv → tget S2.t 9 = .int .i64 (firstN q : Nat) → tget S2.t 5 = tget s'.t 5 → ∃ q' cs', exL Tryz.prog pf (.loop loLoop1) S2 = some q' ∧ q'.1 = .exit 2 ∧ q'.2.lim = S2.lim ∧ Aft A0 q'.2.H ∧ OutIn A0.length q'.2.H (tget q'.2.t 5) (longM n (ls.take j) ++ extM n q) cs' ∧ tget q'.2.t 1 = tget S2.t 1 ∧ tget q'.2.t 10 = tget S2.t 10 ∧ tget q'.2.t 11 = tget S2.t 11 ∧ tget q'.2.t 12 = tget S2.t 12 := fun S2 h1 h2 h3 h4 h5 h6 =>
      lo_inner n hn A0.length A0 q qv hl0 hlb.1 hlb.2 _ (by omega) cs S2 (by rw [h1]; exact eA) rfl (by omega) h3 h4 h5 (by rw [h1, h6]; exact eO)
    rcases hqA with ⟨rfl, rfl⟩ | ⟨hq0, qb, rfl, hqb⟩
    · simp [loLoop0, SC.loops, sf_fixes_longer, e1, e10, e11, e12, hA, hlt, gA]
      generalize hS2 : ({ t := _, L := _, H := _, lim := _, rd := _ } : St) = S2
      obtain ⟨⟨q', s2⟩, cs', hr, z1, z2, z3, z4, z5, z6, z7, z8⟩ := hfin S2 (by subst hS2; rfl) (by subst hS2; simp [el]) (by subst hS2; simp [e1]) (by subst hS2; simp) (by subst hS2; simp [firstN]) (by subst hS2; simp)
      simp [loLoop1, SC.loops, sf_fixes_longer] at hr
      rw [hr]
      simp only at z1 z2 z3 z4 z5 z6 z7 z8
      have y1 : tget S2.t 1 = .int .i64 n := by subst hS2; simp [e1]
      have y10 : tget S2.t 10 = .slice (some ⟨b, o, none⟩) ls.length vc := by subst hS2; simp [e10]
      have y11 : tget S2.t 11 = .int .i64 ls.length := by subst hS2; simp [e11]
      have y12 : tget S2.t 12 = .int .i64 j := by subst hS2; simp [e12]
      have yl : S2.lim = A0.length := by subst hS2; simp [el]
      subst z1
      simp [and_assoc, z2, z5, z6, z7, z8, y1, y10, y11, y12, yl, hw]
      exact ⟨_, by omega, j + 1, by omega, rfl, by omega, z3, cs', by rw [hlm]; exact z4⟩
    · have hq1 : 0 < q.length := List.length_pos_iff.2 hq0
      have hq1' : (0 : Int) < q.length := by omega
      have hlast : (natI q)[q.length - 1]? = some ((firstN q - 1 : Nat) : Int) ∧ 1 ≤ firstN q := by
        unfold firstN natI
        rw [List.getLast?_eq_getElem?]
        have : q.length - 1 < q.length := by omega
        rw [List.getElem?_eq_getElem this]
        simp [this]
      have hcl : (ints (natI q))[q.length - 1]? = some (.int .i64 ((firstN q - 1 : Nat) : Int)) := by
        unfold ints
        rw [List.getElem?_map, hlast.1]; rfl
      have hw2 : IntKind.i64.wrap ((q.length : Int) - 1) = ((q.length - 1 : Nat) : Int) := by rw [wrap_i64 (by omega) (by omega)]; omega
      have hw3 : IntKind.i64.wrap (((firstN q - 1 : Nat) : Int) + 1) = ((firstN q : Nat) : Int) := by rw [wrap_i64 (by omega) (by omega)]; omega
      have hlt2 : q.length - 1 < q.length := by omega
      obtain ⟨qm, hqm⟩ : ∃ qm, qm = q.length - 1 := ⟨_, rfl⟩
      rw [← hqm] at hw2 hcl hlt2
      obtain ⟨fm, hfm⟩ : ∃ fm, fm = firstN q - 1 := ⟨_, rfl⟩
      rw [← hfm] at hw3 hcl
      simp [-Int.natCast_add, loLoop0, SC.loops, sf_fixes_longer, e1, e10, e11, e12, hA, hlt, gA, hq1, hq1', hw2, hlt2, hqb, hcl, hw3]
      generalize hS2 : ({ t := _, L := _, H := _, lim := _, rd := _ } : St) = S2
      obtain ⟨⟨q', s2⟩, cs', hr, z1, z2, z3, z4, z5, z6, z7, z8⟩ := hfin S2 (by subst hS2; rfl) (by subst hS2; simp [el]) (by subst hS2; simp [e1]) (by subst hS2; simp) (by subst hS2; simp) (by subst hS2; simp)
      simp [loLoop1, SC.loops, sf_fixes_longer] at hr
      rw [hr]
      simp only at z1 z2 z3 z4 z5 z6 z7 z8
      have y1 : tget S2.t 1 = .int .i64 n := by subst hS2; simp [e1]
      have y10 : tget S2.t 10 = .slice (some ⟨b, o, none⟩) ls.length vc := by subst hS2; simp [e10]
      have y11 : tget S2.t 11 = .int .i64 ls.length := by subst hS2; simp [e11]
      have y12 : tget S2.t 12 = .int .i64 j := by subst hS2; simp [e12]
      have yl : S2.lim = A0.length := by subst hS2; simp [el]
      subst z1
      simp [and_assoc, z2, z5, z6, z7, z8, y1, y10, y11, y12, yl, hw]
      exact ⟨_, by omega, j + 1, by omega, rfl, by omega, z3, cs', by rw [hlm]; exact z4⟩
  obtain ⟨⟨q, s1⟩, hr, q1, q2, cs, q3⟩ := key
  simp [loLoop0, SC.loops, sf_fixes_longer] at hr
  rw [hr]
  simp only at q1 q2 q3
  subst q1
  have ow := q3.own
  rcases ow with ⟨h1, h2⟩ | ⟨h1, b, h2, h3, h4⟩
  · have hl0 : longM n ls = [] := by
      have := q3.len
      rw [h1] at this
      simpa using this.symm
    simp [h2]
    exact ⟨_, _, ⟨rfl, rfl⟩, Aft.refl A0, [], by rw [hl0]; exact ⟨rfl, .inl ⟨rfl, rfl⟩, fun j hj => by simp at hj⟩⟩
  · have h3' := h3
    rw [h3'] at q3
    simp [h3]
    exact ⟨_, _, ⟨rfl, rfl⟩, q2, cs, q3⟩
end Go.Proofs.YtddnloghclemjaaGreatDoor
namespace Go.Proofs.YtddnloghclemjaaGreatDoor
open Go Go.RowKit
def lsV (b : Nat) : Value := .func (.func 126) #[] #[.pointer (some ⟨b, 0, none⟩)]
theorem run_lists (n : Nat) (lim : Nat) (H : AH) : apL Tryz.prog pf (.func (.func 103) #[] #[]) [.int .i64 n] lim H = some (lsV H.length, H ++ [.rw 0 [.int .i64 n]]) := by
  rw [apL_func _ _ _ _ _ _ (by rfl), sf_fixes_lists_eq]
  simp [sf_fixes_lists, lsV, pf_pure, pureF]
structure LsC (n nb lim : Nat) (fv : Value) (Inv : List (List Nat) → AH → Prop) (Done : AH → Prop) : Prop where
  nbox : ∀ P A, Inv P A → A[nb]? = some (.rw 0 [.int .i64 n])
  add : ∀ P A B, Inv P A → Aft A B → Inv P B
  yield : ∀ P A l v, Inv P A → LstIn A v l → (∃ R, P ++ l :: R = listsM n) → ∃ ok A2, apL Tryz.prog pf fv [v] lim A = some (.bool ok, A2) ∧ (∀ (c : Nat) (cs : List Value), A[c]? = some (.rw 1 cs) → (∀ w : List Nat, w ≠ [] → cs ≠ u64s w) → A2[c]? = some (.rw 1 cs)) ∧ (ok = true → Inv (P ++ [l]) A2) ∧ (ok = false → Done A2)
  fin : ∀ A, Inv (listsM n) A → Done A
theorem natI_u64 {l w : List Nat} (hl : l ≠ []) : ints (natI l) ≠ u64s w := by
  intro e
  cases l with
  | nil => exact hl rfl
  | cons a l =>
    cases w with
    | nil => simp [natI, ints, u64s] at e
    | cons b w =>
      simp only [natI, ints, u64s, List.map_cons] at e
      injection e with e1 _
      injection e1 with e2 _
      cases e2
structure LevIn (A : AH) (v : Value) (ls : List (List Nat)) (cs : List Value) : Prop where
  len : cs.length = ls.length
  at_ : (ls = [] ∧ v = .slice none 0 0) ∨ (ls ≠ [] ∧ ∃ b c, v = .slice (some ⟨b, 0, none⟩) ls.length c ∧ A[b]? = some (.rw 1 cs))
  rows : ∀ j (h : j < cs.length) (h' : j < ls.length), LstIn A cs[j] ls[j]
theorem LevIn.keep {A B : AH} {v : Value} {ls : List (List Nat)} {cs : List Value} (h : LevIn A v ls cs) (hk : ∀ (c : Nat) (cs : List Value), A[c]? = some (.rw 1 cs) → (∀ w : List Nat, w ≠ [] → cs ≠ u64s w) → B[c]? = some (.rw 1 cs)) : LevIn B v ls cs := by
  refine ⟨h.len, ?_, fun j a b => ?_⟩
  · rcases h.at_ with h1 | ⟨h1, b, c, h2, h3⟩
    · exact .inl h1
    · refine .inr ⟨h1, b, c, h2, hk _ _ h3 fun w hw e => ?_⟩
      obtain ⟨y, t, hy⟩ : ∃ y t, w = y :: t := by cases w with | nil => exact absurd rfl hw | cons y t => exact ⟨y, t, rfl⟩
      have hl := h.len
      have h0 : 0 < cs.length := by rw [e, hy]; simp [u64s]
      have h4 := h.rows 0 h0 (by omega)
      have h5 : cs[0] = .int .u64 (y : Nat) := by
        have : cs[0]? = (u64s w)[0]? := by rw [e]
        rw [List.getElem?_eq_getElem h0, hy] at this
        simpa [u64s] using this
      rw [h5] at h4
      rcases h4 with ⟨_, e2⟩ | ⟨_, _, e2, _⟩ <;> cases e2
  · rcases h.rows j a b with h1 | ⟨h1, b', h2, h3⟩
    · exact .inl h1
    · exact .inr ⟨h1, b', h2, hk _ _ h3 fun w hw => natI_u64 h1⟩
theorem LevIn.all {A : AH} {v : Value} {ls : List (List Nat)} {cs : List Value} (h : LevIn A v ls cs) : AllIn A v ls := by
  refine ⟨cs, h.len, ?_, h.rows⟩
  rcases h.at_ with ⟨rfl, rfl⟩ | ⟨_, b, c, rfl, hb⟩
  · exact ⟨none, 0, rfl, fun j y hy => by have := h.len; simp at this; subst this; simp at hy⟩
  · exact ⟨_, _, rfl, fun j y hy => ⟨b, 0, rfl, by simp only [hcell, hb, Nat.zero_add]; exact hy⟩⟩
theorem OutIn.lev {n0 : Nat} {A : AH} {v : Value} {os : List (List Nat)} {cs : List Value} (h : OutIn n0 A v os cs) : LevIn A v os cs := by
  refine ⟨h.len, ?_, fun j a b => (h.rows j a b).1⟩
  have hl := h.len
  rcases h.own with ⟨h1, h2⟩ | ⟨h1, b, h2, h3, h4⟩
  · left; subst h1; exact ⟨by simpa using hl.symm, h2⟩
  · right
    rw [hl] at h3
    exact ⟨fun e => h1 (by rw [e] at hl; simpa using hl), b, _, h3, h4⟩
theorem pref_split {n k : Nat} (hk : k ≤ n) : ∃ R, listsM n = prefL n (k + 1) ++ R := by
  obtain ⟨m, rfl⟩ : ∃ m, n = k + m := ⟨n - k, by omega⟩
  unfold listsM
  have : ∀ N j, ∃ R, prefL N (k + j + 1) = prefL N (k + 1) ++ R := by
    intro N j
    induction j with
    | zero => exact ⟨[], by simp⟩
    | succ j ih =>
      obtain ⟨R, hR⟩ := ih
      exact ⟨R ++ levelM N (k + j + 1), by rw [show k + (j + 1) + 1 = (k + j + 1) + 1 by omega, prefL_succ, hR, List.append_assoc]⟩
  exact this (k + m) m
def liLoop0 : SC := sf_fixes_lists_1.body.loops.headD .skip
def liLoop1 : SC := sf_fixes_lists_1.body.loops.tail.headD .skip
set_option maxHeartbeats 1000000 in
theorem li_inner (n nb lim : Nat) (fv : Value) (hn : nl fv = true) (Inv : List (List Nat) → AH → Prop) (Done : AH → Prop) (hC : LsC n nb lim fv Inv Done) {k : Nat} (hk : k ≤ n) (hlen : (levelM n k).length ≤ 5000) (v : Value) (cs : List Value) (hne : levelM n k ≠ []) (S : St) (h0 : tget S.t 0 = fv) (h13 : tget S.t 13 = v) (h14 : tget S.t 14 = .int .i64 (levelM n k).length) (h15 : tget S.t 15 = .int .i64 0) (hlim : S.lim = lim) (hL : LevIn S.H v (levelM n k) cs) (hI : Inv (prefL n k) S.H) :
    ∃ q, exL Tryz.prog pf (.loop liLoop1) S = some q ∧ ((q.1 = .exit 2 ∧ q.2.lim = lim ∧ LevIn q.2.H v (levelM n k) cs ∧ Inv (prefL n (k + 1)) q.2.H ∧ tget q.2.t 0 = fv ∧ tget q.2.t 1 = tget S.t 1 ∧ tget q.2.t 3 = tget S.t 3) ∨ (q.1 = .ret ∧ Done q.2.H)) := by
  obtain ⟨R0, hR0⟩ := pref_split hk
  refine loop_rule (I := fun m s' => ∃ j, j ≤ (levelM n k).length ∧ m = (levelM n k).length - j ∧ tget s'.t 0 = fv ∧ tget s'.t 13 = v ∧ tget s'.t 14 = .int .i64 (levelM n k).length ∧ tget s'.t 15 = .int .i64 j ∧ s'.lim = lim ∧ LevIn s'.H v (levelM n k) cs ∧ Inv (prefL n k ++ (levelM n k).take j) s'.H ∧ tget s'.t 1 = tget S.t 1 ∧ tget s'.t 3 = tget S.t 3) ?_ (levelM n k).length S
    ⟨0, by omega, by omega, h0, h13, h14, h15, hlim, hL, by simpa using hI, rfl, rfl⟩
  rintro m s' ⟨j, hj, rfl, e0, e13, e14, e15, el, eL, eI, e1, e3⟩
  by_cases hlt : j < (levelM n k).length
  rotate_left
  · have : j = (levelM n k).length := by omega
    subst this
    rw [List.take_length, ← prefL_succ] at eI
    simp [liLoop1, SC.loops, sf_fixes_lists_1, e0, e13, e14, e15, e1, e3]
    exact ⟨el, eL, eI⟩
  obtain ⟨A, hA⟩ : ∃ A, s'.H = A := ⟨_, rfl⟩
  rw [hA] at eL eI
  have hjc : j < cs.length := by rw [eL.len]; exact hlt
  have hrow := eL.rows j hjc hlt
  obtain ⟨b, c, ev, hb⟩ : ∃ b c, v = .slice (some ⟨b, 0, none⟩) (levelM n k).length c ∧ A[b]? = some (.rw 1 cs) := by
    rcases eL.at_ with ⟨h, _⟩ | ⟨_, b, c, h1, h2⟩
    · exact absurd h hne
    · exact ⟨b, c, h1, h2⟩
  have hcj : cs[j]? = some cs[j] := List.getElem?_eq_getElem hjc
  have hts : (levelM n k).take (j + 1) = (levelM n k).take j ++ [(levelM n k)[j]] := by rw [List.take_add_one]; simp [hlt]
  have hsplit : ∃ R, (prefL n k ++ (levelM n k).take j) ++ (levelM n k)[j] :: R = listsM n := by
    refine ⟨(levelM n k).drop (j + 1) ++ R0, ?_⟩
    rw [hR0, prefL_succ]
    have : levelM n k = (levelM n k).take j ++ (levelM n k)[j] :: (levelM n k).drop (j + 1) := by rw [← List.drop_eq_getElem_cons hlt, List.take_append_drop]
    have e : ((levelM n k).take j ++ (levelM n k)[j] :: (levelM n k).drop (j + 1)) ++ R0 = levelM n k ++ R0 := by rw [← this]
    rw [List.append_assoc, List.append_assoc, ← e, List.append_assoc]
    rfl
  obtain ⟨ok, A2, y1, y2, y3, y4⟩ := hC.yield _ A _ _ eI hrow hsplit
  have hw : IntKind.i64.wrap ((j : Int) + 1) = (j : Int) + 1 := wrap_i64 (by omega) (by omega)
  have hnq := hrow.nl
  rw [ev] at e13
  generalize hq : cs[j] = q at *
  have hcje : ∀ hh : j < cs.length, cs[j]'hh = q := fun hh => hq
  cases ok with
  | false =>
    simp [liLoop1, SC.loops, sf_fixes_lists_1, e0, e13, e14, e15, el, hA, hlt, hb, hjc, hcje, hcj, hn, hnq, y1]
    exact y4 rfl
  | true =>
    simp [liLoop1, SC.loops, sf_fixes_lists_1, e0, e13, e14, e15, el, hA, hlt, hb, hjc, hcje, hcj, hn, hnq, y1, hw]
    exact ⟨_, by omega, j + 1, by omega, rfl, ev.symm, by omega, eL.keep y2, by rw [hts, ← List.append_assoc]; exact y3 rfl, e1, e3⟩
set_option maxHeartbeats 1000000 in
theorem run_ls (n nb lim : Nat) (hn12 : n ≤ 12) (fv : Value) (hn : nl fv = true) (Inv : List (List Nat) → AH → Prop) (Done : AH → Prop) (hC : LsC n nb lim fv Inv Done) (A : AH) (hI : Inv [] A) :
    ∃ A', apL Tryz.prog pf (lsV nb) [fv] lim A = some (.tuple #[], A') ∧ Done A' := by
  unfold lsV
  rw [apL_func _ _ _ _ _ _ (by rfl), sf_fixes_lists_1_eq]
  simp [-oneC, oneC_slice, sf_fixes_lists_1, pf_pure, pureF]
  generalize hS : ({ t := _, L := _, H := _, lim := _, rd := _ } : St) = S
  have hlv : ∀ k, k ≤ n → (levelM n k).length ≤ 4096 := fun k hk => by
    obtain ⟨R, hR⟩ := pref_split hk
    have := lists_len n (by omega)
    rw [hR, prefL_succ] at this
    simp only [List.length_append] at this
    omega
  have key : ∃ q, exL Tryz.prog pf (.loop liLoop0) S = some q ∧ ((q.1 = .exit 0 ∨ q.1 = .ret) ∧ Done q.2.H) := by
    refine loop_rule (I := fun m s' => ∃ k, k ≤ n + 1 ∧ m = n + 1 - k ∧ tget s'.t 0 = fv ∧ tget s'.t 1 = .pointer (some ⟨nb, 0, none⟩) ∧ s'.lim = lim ∧ Inv (prefL n k) s'.H ∧ ∃ cs, LevIn s'.H (tget s'.t 3) (levelM n k) cs) ?_ (n + 1) S
      ⟨0, by omega, by omega, by subst hS; simp, by subst hS; simp, by subst hS; rfl, by subst hS; exact hC.add _ _ _ hI ((Aft.refl A).push _), [.slice none 0 0], rfl, .inr ⟨by simp [levelM], A.length, 1, by subst hS; simp [levelM], by subst hS; simp⟩, fun j a b => by
        have : j = 0 := by simp at a; omega
        subst this
        exact .inl ⟨rfl, rfl⟩⟩
    rintro m s' ⟨k, hk, rfl, e0, e1, el, eI, cs, eL⟩
    obtain ⟨v, hv⟩ : ∃ v, tget s'.t 3 = v := ⟨_, rfl⟩
    rw [hv] at eL
    obtain ⟨a, c, ev⟩ : ∃ a c, v = .slice a (levelM n k).length c := by
      rcases eL.at_ with ⟨h1, h2⟩ | ⟨_, b, c, h1, _⟩
      · rw [h1]; exact ⟨_, _, h2⟩
      · exact ⟨_, _, h1⟩
    have hv0 := hv
    rw [ev] at hv
    by_cases hne : levelM n k = []
    · have hpe := pref_end hne hk
      rw [hpe] at eI
      rw [hne] at hv
      simp [liLoop0, SC.loops, sf_fixes_lists_1, hv]
      exact hC.fin _ eI
    have hkn : k ≤ n := by
      by_cases h : k ≤ n
      · exact h
      · exact absurd (level_end n k (by omega)) hne
    have hl5 := hlv k hkn
    have hpos : 0 < (levelM n k).length := List.length_pos_iff.2 hne
    have hpos' : (0 : Int) < (levelM n k).length := by omega
    simp [liLoop0, SC.loops, sf_fixes_lists_1, e0, hv, hpos, hpos']
    generalize hS2 : ({ t := _, L := _, H := _, lim := _, rd := _ } : St) = S2
    obtain ⟨⟨q, s2⟩, hr, hq⟩ := li_inner n nb lim fv hn Inv Done hC hkn (by omega) v cs hne S2 (by subst hS2; simp [e0]) (by subst hS2; simp [ev]) (by subst hS2; simp) (by subst hS2; simp) (by subst hS2; simp [el]) (by subst hS2; exact eL) (by subst hS2; exact eI)
    simp [liLoop1, SC.loops, sf_fixes_lists_1] at hr
    rw [hr]
    have y1 : tget S2.t 1 = .pointer (some ⟨nb, 0, none⟩) := by subst hS2; simp [e1]
    have y3 : tget S2.t 3 = v := by subst hS2; simp [hv0]
    simp only at hq
    rcases hq with ⟨rfl, z2, z3, z4, z5, z6, z7⟩ | ⟨rfl, z2⟩
    rotate_left
    · simp
      exact ⟨_, _, ⟨rfl, rfl⟩, .inr rfl, z2⟩
    obtain ⟨B, hB⟩ : ∃ B, s2.H = B := ⟨_, rfl⟩
    rw [hB] at z3 z4
    have hnb := hC.nbox _ _ z4
    obtain ⟨w, B2, hLo, hBB, cs2, hOut⟩ := run_longer n hn12 lim B v (levelM n k) (by omega) (fun l hl => by
      obtain ⟨h1, h2, h3⟩ := level_spec n k l hl
      refine ⟨by omega, ?_⟩
      unfold firstN
      cases hx : l.getLast? with
      | none => simp
      | some j => have := h3 j (List.mem_of_getLast? hx); simp; omega) z3.all
    have hwn : nl w = true ∧ isU w = false := by
      rcases hOut.own with ⟨_, rfl⟩ | ⟨_, b, _, rfl, _⟩ <;> exact ⟨by simp, rfl⟩
    rw [ev] at hLo y3
    rw [y1] at z6
    rw [y3] at z7
    have hLV : LevIn B2 w (levelM n (k + 1)) cs2 := hOut.lev
    simp [and_assoc, z2, z5, z6, z7, hB, hnb, hLo]
    exact ⟨_, by omega, k + 1, by omega, rfl, hC.add _ _ _ z4 hBB, cs2, hLV⟩
  obtain ⟨⟨q, s1⟩, hr, q1, q2⟩ := key
  simp [liLoop0, SC.loops, sf_fixes_lists_1] at hr
  rw [hr]
  simp only at q1 q2
  rcases q1 with rfl | rfl
  · simp; exact q2
  · simp; exact q2
end Go.Proofs.YtddnloghclemjaaGreatDoor
namespace Go.Proofs.YtddnloghclemjaaGreatDoor
open Go Go.RowKit
def coAsg : SC := match sf_fixes_search_contradiction.body with | .seq _ (.seq _ (.seq (.seq _ (.block _ (.rng _ _ a _))) _)) => a | _ => .skip
def coBody : SC := match sf_fixes_search_contradiction.body with | .seq _ (.seq _ (.seq (.seq _ (.block _ (.rng _ _ _ b))) _)) => b | _ => .skip
def coR (T : TS) (L : LS) (lim : Nat) : ARec := ⟨0, none, T, L, lim, [13], coAsg, coBody⟩
def conflictM (x : Ds) : Option (List Nat) := (listsM x.reps.length).find? fun l => !fitM x (setM l)
theorem ownV_set {n0 l : Nat} {A : AH} {v : Value} {cs : List Value} {r : ARec} {z : ABlk} (hl : A[l]? = some (.loop r)) (h : OwnV n0 A v cs) : OwnV n0 (A.set l z) v cs := by
  rcases h with h | ⟨h1, b, h2, h3, h4⟩
  · exact .inl h
  · refine .inr ⟨h1, b, h2, h3, ?_⟩
    have : l ≠ b := by rintro rfl; rw [hl] at h4; cases h4
    rw [List.getElem?_set_ne this, h4]
theorem Found.set {x : Ds} {H : AH} {d t s r a b e tv ov : Value} {fb l : Nat} {A : AH} {tl ol : List Nat} {rc : ARec} {z : ABlk} (hl : A[l]? = some (.loop rc)) (h : Found x H d t s r a b e fb A tv ov tl ol) : Found x H d t s r a b e fb (A.set l z) tv ov tl ol := by
  refine ⟨?_, ownV_set hl h.tog, ownV_set hl h.opp, h.tfit, h.ofit⟩
  have : l ≠ fb := by rintro rfl; have := h.cell; rw [hl] at this; cases this
  rw [List.getElem?_set_ne this, h.cell]
theorem Found.aft {x : Ds} {H : AH} {d t s r a b e tv ov : Value} {fb : Nat} {A B : AH} {tl ol : List Nat} (h : Found x H d t s r a b e fb A tv ov tl ol) (hA : Aft A B) : Found x H d t s r a b e fb B tv ov tl ol :=
  ⟨hA.ext' h.cell, ownV_aft h.tog hA, ownV_aft h.opp hA, h.tfit, h.ofit⟩
theorem LstIn.set {A : AH} {v : Value} {l : List Nat} {k : Nat} {rc : ARec} {z : ABlk} (hk : A[k]? = some (.loop rc)) (h : LstIn A v l) : LstIn (A.set k z) v l := by
  rcases h with h | ⟨h1, b, h2, h3⟩
  · exact .inl h
  · refine .inr ⟨h1, b, h2, ?_⟩
    have : k ≠ b := by rintro rfl; rw [hk] at h3; cases h3
    rw [List.getElem?_set_ne this, h3]
def CoI (x : Ds) (H : AH) (d t s r a b e : Value) (T : TS) (P : List (List Nat)) (A : AH) : Prop :=
  Aft H A ∧ A[H.length]? = some (.rw 0 [.int .i64 x.reps.length]) ∧ (∀ l ∈ P, fitM x (setM l) = true) ∧ ∃ L, A[H.length + 1]? = some (.loop (coR T L H.length)) ∧ (∃ c2, lget L 2 = some (0, .cells [c2])) ∧ (∃ c3, lget L 3 = some (0, .cells [c3])) ∧
    ((P = [] ∧ lget L 4 = some (0, .cells (sV x d t s r a b e ++ [nilS, nilS]))) ∨ (∃ fb tv ov tl ol, lget L 4 = some (0, .fwd fb) ∧ H.length + 1 < fb ∧ Found x H d t s r a b e fb A tv ov tl ol ∧ tl.length ≤ P.length ∧ ol.length ≤ P.length))
def CoD (x : Ds) (H : AH) (T : TS) (A : AH) : Prop :=
  Aft H A ∧ ∃ L, (A[H.length + 1]? = some (.loop (coR T L H.length)) ∧ conflictM x = none ∧ (∃ c2, lget L 2 = some (0, .cells [c2])) ∧ (∃ c3, lget L 3 = some (0, .cells [c3]))) ∨
    (∃ v l, A[H.length + 1]? = some (.loop { coR T L H.length with st := 2, pend := some .ret }) ∧ conflictM x = some l ∧ lget L 2 = some (0, .cells [v]) ∧ lget L 3 = some (0, .cells [.int .i64 0]) ∧ LstIn A v l)
theorem lists_lt (n : Nat) : ∀ l ∈ listsM n, ∀ i ∈ l, i < n := by
  intro l hl i hi
  unfold listsM prefL at hl
  obtain ⟨k, _, hk⟩ := List.mem_flatMap.1 hl
  exact (level_spec n k l hk).2.2 i hi
set_option maxHeartbeats 2000000 in
theorem co_C (x : Ds) (hok : ChOk x.ch) (hdo : dsOk x = true) (H : AH) (d t s r a b e : Value) (h : DsIn H x d t s r) (hsr : SrIn H x (mayF x) a b e) (T : TS) (h2 : tget T 2 = .pointer (some ⟨2, 0, some 0⟩)) (h3 : tget T 3 = .pointer (some ⟨3, 0, some 0⟩)) (h4 : tget T 4 = .pointer (some ⟨4, 0, some 0⟩)) :
    LsC x.reps.length H.length H.length (.func (.yield (H.length + 1)) #[] #[]) (CoI x H d t s r a b e T) (CoD x H T) := by
  have hl12 := fx_reps hdo
  refine ⟨fun P A hI => hI.2.1, fun P A B hI hAB => ?_, fun P A l v hI hv hR => ?_, fun A hI => ?_⟩
  · obtain ⟨i1, i2, i3, L, i4, i5, i6, i7⟩ := hI
    refine ⟨i1.trans hAB, hAB.ext' i2, i3, L, hAB.ext' i4, i5, i6, ?_⟩
    rcases i7 with h | ⟨fb, tv, ov, tl, ol, k1, k2, k3, k4⟩
    · exact .inl h
    · exact .inr ⟨fb, tv, ov, tl, ol, k1, k2, k3.aft hAB, k4⟩
  · obtain ⟨i1, i2, i3, L, i4, ⟨c2, i5⟩, ⟨c3, i6⟩, i7⟩ := hI
    obtain ⟨R, hR⟩ := hR
    have hPl : P.length ≤ 4096 := by
      have := lists_len x.reps.length (by omega)
      rw [← hR] at this
      simp at this
      omega
    have hlm : ∀ i ∈ l, i < 12 := fun i hi => by
      have := lists_lt x.reps.length l (by rw [← hR]; simp) i hi
      omega
    have hll : l.length ≤ 100 := by
      have hmem : l ∈ listsM x.reps.length := by rw [← hR]; simp
      unfold listsM prefL at hmem
      obtain ⟨k, hk1, hk⟩ := List.mem_flatMap.1 hmem
      rw [List.mem_range] at hk1
      have := (level_spec _ k l hk).1
      omega
    have hg := setM_lt l hlm
    have hll1 : H.length + 1 < A.length := (List.getElem?_eq_some_iff.1 i4).1
    obtain ⟨B, hB⟩ : ∃ B, B = A.set (H.length + 1) (.loop { coR T L H.length with st := 1, L := [] }) := ⟨_, rfl⟩
    have hBl : B[H.length + 1]? = some (.loop { coR T L H.length with st := 1, L := [] }) := by rw [hB, List.getElem?_set_self hll1]
    have hHB : Aft H B := by rw [hB]; exact i1.set (by omega) _
    have hvB : LstIn B v l := by rw [hB]; exact hv.set i4
    have hBn : B[H.length]? = some (.rw 0 [.int .i64 x.reps.length]) := by rw [hB, List.getElem?_set_ne (by omega), i2]
    have hnv := hv.nl
    have huv : isU v = false ∧ v.cells = #[v] ∧ oneC v = true := by rcases hv with ⟨_, rfl⟩ | ⟨_, _, rfl, _⟩ <;> exact ⟨rfl, rfl, by unfold oneC; rfl⟩
    have ha : ∀ Y, exL Tryz.prog pf coAsg ⟨([13].zip [v]).reverse ++ T, L, Y, H.length, some (H.length + 1)⟩ = some (.normal, ⟨(5, v) :: (13, v) :: T, L, Y, H.length, some (H.length + 1)⟩) := fun Y => by
      simp [coAsg, sf_fixes_search_contradiction]
    obtain ⟨fb, B2, L2, tv, ov, tl, ol, f1, f2, f3, f4, f5, f6, f7, f8, f9, f10⟩ : ∃ fb B2 L2 tv ov tl ol, glob L B (.pointer (some ⟨4, 0, some 0⟩)) = some (.pointer (some ⟨fb, 0, none⟩), L2, B2) ∧ Aft B B2 ∧ H.length + 1 < fb ∧ Found x H d t s r a b e fb B2 tv ov tl ol ∧ tl.length ≤ P.length ∧ ol.length ≤ P.length ∧ lget L2 4 = some (0, .fwd fb) ∧ lget L2 2 = some (0, .cells [c2]) ∧ lget L2 3 = some (0, .cells [c3]) ∧ B2[H.length + 1]? = B[H.length + 1]? := by
      rcases i7 with ⟨hP, i7⟩ | ⟨fb, tv, ov, tl, ol, k1, k2, k3, k4, k5⟩
      · have hnl : nlL (sV x d t s r a b e ++ [nilS, nilS]) = true := by
          obtain ⟨⟨⟨da, dc, ed, _⟩, ⟨ta, tc, et, _⟩, ⟨sa, sc, es, _⟩, _, htl, _⟩, ⟨ra, rc, er, _⟩, _⟩ := h
          obtain ⟨a1, a2, a3, ea⟩ := hsr.near.one
          obtain ⟨b1, b2, b3, eb⟩ := hsr.flo.one
          obtain ⟨e1, e2, e3, ee⟩ := hsr.unt.one
          simp [sV, nilS, ed, et, es, er, ea, eb, ee]
        have hbl : B.length = A.length := by rw [hB]; simp
        refine ⟨B.length, B ++ [.rw 0 (sV x d t s r a b e ++ [nilS, nilS])], (4, 0, .fwd B.length) :: L, nilS, nilS, [], [], ?_, (Aft.refl B).push _, by omega, ⟨by rw [List.getElem?_append_right (Nat.le_refl _), Nat.sub_self]; rfl, .inl ⟨rfl, rfl⟩, .inl ⟨rfl, rfl⟩, by simp, by simp⟩, by simp, by simp, by simp [lget], by simp [lget, i5], by simp [lget, i6], by rw [List.getElem?_append_left (by omega)]⟩
        unfold glob
        simp only [i7]
        rw [if_pos ⟨trivial, hnl⟩]
      · refine ⟨fb, B, L, tv, ov, tl, ol, ?_, Aft.refl B, k2, by rw [hB]; exact k3.set i4, k4, k5, k1, i5, i6, rfl⟩
        unfold glob
        simp only [k1]
        rw [if_pos trivial]
    have hHB2 := hHB.trans f2
    have hvB2 := hvB.aft f2
    have hSo := fun lim => run_setOf l hll hlm lim B v (by rw [show (l.map fun (i : Nat) => (i : Int)) = natI l from rfl]; exact hvB.sl)
    obtain ⟨A', tv', ov', tl', ol', q1, q2, q3, q4, q5, q6⟩ := run_fit x hok hdo H.length H B2 (Nat.le_refl _) hHB2 d t s r a b e tv ov h hsr (fb := fb) (by omega) tl ol f4 ⟨by omega, by omega⟩ (setM l) (by omega)
    have hA'l : A'[H.length + 1]? = some (.loop { coR T L H.length with st := 1, L := [] }) := q6 _ _ (by rw [f10, hBl]) (by omega) (fun w _ e => by cases e)
    have hA'n : A'[H.length]? = some (.rw 0 [.int .i64 x.reps.length]) := q6 _ _ (f2.ext' hBn) (by omega) (fun w _ e => by cases e)
    have keepR : ∀ (c : Nat) (cs : List Value), A[c]? = some (.rw 1 cs) → (∀ w : List Nat, w ≠ [] → cs ≠ u64s w) → ∀ z, (A'.set (H.length + 1) z)[c]? = some (.rw 1 cs) := fun c cs hc hw z => by
      have h1 : c ≠ H.length + 1 := by rintro rfl; rw [i4] at hc; cases hc
      have h2 : B2[c]? = some (.rw 1 cs) := f2.ext' (by rw [hB, List.getElem?_set_ne (Ne.symm h1), hc])
      have h3 : c ≠ fb := by rintro rfl; rw [f4.cell] at h2; cases h2
      rw [List.getElem?_set_ne (Ne.symm h1)]
      exact q6 c _ h2 h3 fun w hw' e => by injection e with _ e2; exact hw w hw' e2
    have hvA' : ∀ z, LstIn (A'.set (H.length + 1) z) v l := fun z => by
      rcases hv with h' | ⟨h1, b', h2', h3'⟩
      · exact .inl h'
      · exact .inr ⟨h1, b', h2', keepR _ _ h3' (fun w _ => natI_u64 h1) z⟩
    cases hft : fitM x (setM l) with
    | false =>
      rw [hft] at q1
      have key : ∃ s', exL Tryz.prog pf coBody ⟨(5, v) :: (13, v) :: T, L, B, H.length, some (H.length + 1)⟩ = some (.ret, s') ∧ s'.H = A' ∧ lget s'.L 2 = some (0, .cells [v]) ∧ lget s'.L 3 = some (0, .cells [.int .i64 0]) := by
        simp [-isU, -Value.cells, -oneC, oneC_int, isU_i, cells_i, huv, coBody, sf_fixes_search_contradiction, h2, h3, h4, hnv, hSo, f1, f8, f9, q1]
      obtain ⟨s', z1, z2, z3, z4⟩ := key
      have hy := yield_round (l := H.length + 1) (B := A) (r := coR T L H.length) (args := [v]) (lim := H.length) i4 rfl (Nat.le_refl _) (by omega) rfl ha (e := .ret) (s' := s') (by rw [← hB]; exact z1) (r2 := { coR T L H.length with st := 1, L := [] }) (by rw [z2, hA'l])
      rw [z2] at hy
      refine ⟨false, _, hy, fun c cs hc hw => keepR c cs hc hw _, (fun h => by cases h), fun _ => ⟨q2.set (by omega) _, s'.L, .inr ⟨v, l, ?_, ?_, z3, z4, hvA' _⟩⟩⟩
      · rw [List.getElem?_set_self (List.getElem?_eq_some_iff.1 hA'l).1]; rfl
      · unfold conflictM
        rw [← hR, List.find?_append]
        have hnone : P.find? (fun l => !fitM x (setM l)) = none := by
          rw [List.find?_eq_none]
          intro m hm
          simp [i3 m hm]
        rw [hnone, List.find?_cons, hft]
        rfl
    | true =>
      rw [hft] at q1
      have key : ∃ s', exL Tryz.prog pf coBody ⟨(5, v) :: (13, v) :: T, L, B, H.length, some (H.length + 1)⟩ = some (.normal, s') ∧ s'.H = A' ∧ lget s'.L 2 = some (0, .cells [c2]) ∧ lget s'.L 3 = some (0, .cells [c3]) ∧ lget s'.L 4 = some (0, .fwd fb) := by
        simp [-isU, -Value.cells, coBody, sf_fixes_search_contradiction, h2, h3, h4, hnv, hSo, f1, f7, f8, f9, q1]
      obtain ⟨s', z1, z2, z3, z4, z5⟩ := key
      have hy := yield_round (l := H.length + 1) (B := A) (r := coR T L H.length) (args := [v]) (lim := H.length) i4 rfl (Nat.le_refl _) (by omega) rfl ha (e := .normal) (s' := s') (by rw [← hB]; exact z1) (r2 := { coR T L H.length with st := 1, L := [] }) (by rw [z2, hA'l])
      rw [z2] at hy
      refine ⟨true, _, hy, fun c cs hc hw => keepR c cs hc hw _, (fun _ => ⟨q2.set (by omega) _, by rw [List.getElem?_set_ne (by omega), hA'n], fun m hm => ?_, s'.L, by rw [List.getElem?_set_self (List.getElem?_eq_some_iff.1 hA'l).1]; rfl, ⟨_, z3⟩, ⟨_, z4⟩, .inr ⟨fb, tv', ov', tl', ol', z5, f3, q3.set hA'l, by simp; omega, by simp; omega⟩⟩), fun h => by cases h⟩
      rcases List.mem_append.1 hm with h | h
      · exact i3 m h
      · simp at h; subst h; exact hft
  · obtain ⟨i1, i2, i3, L, i4, i5, i6, i7⟩ := hI
    refine ⟨i1, L, .inl ⟨i4, ?_, i5, i6⟩⟩
    unfold conflictM
    rw [List.find?_eq_none]
    intro m hm
    simp [i3 m hm]
end Go.Proofs.YtddnloghclemjaaGreatDoor
namespace Go.Proofs.YtddnloghclemjaaGreatDoor
open Go Go.RowKit
set_option maxHeartbeats 1000000 in
theorem run_contradiction (x : Ds) (hok : ChOk x.ch) (hdo : dsOk x = true) (lim : Nat) (H : AH) (d t s r a b e : Value) (h : DsIn H x d t s r) (hsr : SrIn H x (mayF x) a b e) :
    ∃ v A, apL Tryz.prog pf (.func (.func 64) #[] #[]) [srV x d t s r a b e] lim H = some (.tuple #[v, .int .i64 (match conflictM x with | some _ => 0 | none => 3)], A) ∧ Aft H A ∧ LstIn A v ((conflictM x).getD []) := by
  rw [apL_func _ _ _ _ _ _ (by rfl), sf_fixes_search_contradiction_eq]
  have hl12 := fx_reps hdo
  have h00 := h
  have hLi := fun lim => run_lists x.reps.length lim H
  simp only [lsV] at hLi
  obtain ⟨⟨⟨da, dc, ed, _⟩, ⟨ta, tc, et, _⟩, ⟨sa, sc, es, _⟩, _, htl, _⟩, ⟨ra, rc, er, _⟩, _⟩ := h
  obtain ⟨a1, a2, a3, ea⟩ := hsr.near.one
  obtain ⟨b1, b2, b3, eb⟩ := hsr.flo.one
  obtain ⟨e1, e2, e3, ee⟩ := hsr.unt.one
  simp [-oneC, oneC_slice, oneC_int, -Array.all_toList, sf_fixes_search_contradiction, srV, ed, et, es, er, ea, eb, ee, hLi, pf_pure, pureF]
  generalize hS : ({ t := _, L := _, H := _, lim := _, rd := _ } : St) = S
  have eH : S.H = H ++ [.rw 0 [.int .i64 x.reps.length]] := by subst hS; rfl
  have el : S.lim = H.length := by subst hS; rfl
  have eLen : S.H.length = H.length + 1 := by rw [eH]; simp
  have eHx : ∀ y : ABlk, S.H ++ [y] = H ++ [.rw 0 [.int .i64 x.reps.length], y] := fun y => by rw [eH, List.append_assoc]; rfl
  have t2 : tget S.t 2 = .pointer (some ⟨2, 0, some 0⟩) := by subst hS; simp
  have t3 : tget S.t 3 = .pointer (some ⟨3, 0, some 0⟩) := by subst hS; simp
  have t4 : tget S.t 4 = .pointer (some ⟨4, 0, some 0⟩) := by subst hS; simp
  obtain ⟨A', y1, y2, L, y3⟩ := run_ls x.reps.length H.length H.length hl12 (.func (.yield (H.length + 1)) #[] #[]) (by simp) _ _ (co_C x hok hdo H d t s r a b e h00 hsr S.t t2 t3 t4) (H ++ [.rw 0 [.int .i64 x.reps.length], .loop (coR S.t S.L H.length)])
    ⟨(Aft.refl H).push _, by rw [List.getElem?_append_right (Nat.le_refl _), Nat.sub_self]; rfl, by simp, S.L, get_last2 _ _ _, ⟨.slice none 0 0, by subst hS; simp⟩, ⟨.int .i64 0, by subst hS; simp⟩, .inl ⟨rfl, by subst hS; simp [sV, nilS, ed, et, es, er, ea, eb, ee]⟩⟩
  have hx := fun (r : ARec) (hr : A'[H.length + 1]? = some (.loop r)) (hst : r.st = 0 ∨ r.st = 2) => exL_range (f := .tmp 12) (ps := [13]) (asg := coAsg) (body := coBody) (S := S) (fv := lsV H.length) (by subst hS; simp [lsV]) (by simp [lsV]) rfl (by subst hS; rfl) (A' := A') (v := .tuple #[]) (r := r)
    (by rw [eLen, el, eHx]; exact y1) (by rw [eLen]; exact hr) hst
  simp only [coAsg, coBody, sf_fixes_search_contradiction] at hx
  rcases y3 with ⟨y3, y4, ⟨c2, y5⟩, ⟨c3, y6⟩⟩ | ⟨v, l, y3, y4, y5, y6, y7⟩
  · have hx := hx _ y3 (.inl rfl)
    rw [hx, y4]
    refine ⟨.slice none 0 0, H, ?_, Aft.refl H, .inl ⟨rfl, rfl⟩⟩
    simp [-isU, -Value.cells, -oneC, oneC_int, oneC_slice, isU_i, cells_i, isU_sl, cells_sl, coR, t2, t3, t4, y5, y6]
  · have hx := hx _ y3 (.inr rfl)
    rw [hx, y4]
    rcases y7 with ⟨h1, rfl⟩ | ⟨h1, b', rfl, h3⟩
    · refine ⟨.slice none 0 0, H, ?_, Aft.refl H, .inl ⟨by simp [h1], rfl⟩⟩
      simp [coR, t2, t3, t4, y5, y6]
    · refine ⟨.slice (some ⟨b', 0, none⟩) l.length (l.length + 1), A'.set (H.length + 1) .dead, ?_, y2.set (by omega) _, .inr ⟨by simpa using h1, b', rfl, ?_⟩⟩
      · simp [coR, t2, t3, t4, y5, y6, eLen]
      · have : H.length + 1 ≠ b' := by rintro rfl; rw [y3] at h3; cases h3
        rw [List.getElem?_set_ne this, h3]
        rfl
noncomputable def conflictD (x : Ds) : List Nat × Int := if dsE x = 0 then ((conflictM x).getD [], match conflictM x with | some _ => 0 | none => 3) else ([], dsE x)
set_option maxHeartbeats 1000000 in
theorem run_fConflict (x : Ds) (lim : Nat) (H : AH) (d t s r : Value) (h : DsIn H x d t s r) :
    ∃ v A, apL Tryz.prog pf (.func (.func 27) #[] #[]) [dsV x d t s r] lim H = some (.tuple #[v, .int .i64 (conflictD x).2], A) ∧ Aft H A ∧ LstIn A v (conflictD x).1 := by
  rw [apL_func _ _ _ _ _ _ (by rfl), sf_fixes_Conflict_eq]
  by_cases he : dsE x = 0
  rotate_left
  · have hO := fun lim => run_fopen_bad x lim H d t s r h (.slice none 0 0) (.slice none 0 0) oneS_nil oneS_nil he
    have hdd : conflictD x = ([], dsE x) := by simp [conflictD, he]
    rw [hdd]
    refine ⟨.slice none 0 0, H, ?_, Aft.refl H, .inl ⟨rfl, rfl⟩⟩
    have hne : (dsE x != 0) = true := by simpa using he
    obtain ⟨⟨⟨da, dc, ed, _⟩, ⟨ta, tc, et, _⟩, ⟨sa, sc, es, _⟩, _, htl, _⟩, ⟨ra, rc, er, _⟩, _⟩ := h
    simp only [dsV, srZ, nilS, ed, et, es, er] at hO
    generalize dsE x = z at *
    simp [sf_fixes_Conflict, dsV, ed, et, es, er, hO, hne, pf_pure, pureF]
  obtain ⟨hok, hdo⟩ := dsE_zero he
  obtain ⟨a, b, e, A, hO, hA, hsr⟩ := run_fopen x H.length H d t s r h (.slice none 0 0) (.slice none 0 0) [] [] (by simp) (by simp) Sl.nil Sl.nil he rfl rfl
  obtain ⟨v, F, hC, hF, hv⟩ := run_contradiction x hok hdo H.length A d t s r a b e (h.ext hA.ext) hsr
  have hdd : conflictD x = ((conflictM x).getD [], match conflictM x with | some _ => 0 | none => 3) := by simp [conflictD, he]
  rw [hdd]
  have oa := hsr.near.one
  have ob := hsr.flo.one
  have oe := hsr.unt.one
  obtain ⟨⟨⟨da, dc, ed, _⟩, ⟨ta, tc, et, _⟩, ⟨sa, sc, es, _⟩, _, htl, _⟩, ⟨ra, rc, er, _⟩, _⟩ := h
  obtain ⟨a1, a2, a3, ea⟩ := oa
  obtain ⟨b1, b2, b3, eb⟩ := ob
  obtain ⟨e1, e2, e3, ee⟩ := oe
  simp only [dsV, srV, ed, et, es, er, ea, eb, ee] at hO hC
  generalize (match conflictM x with | some _ => (0 : Int) | none => 3) = z at *
  generalize (conflictM x).getD [] = l at *
  rcases hv with ⟨h1, rfl⟩ | ⟨h1, b', rfl, h3⟩
  · refine ⟨.slice none 0 0, H, ?_, Aft.refl H, .inl ⟨h1, rfl⟩⟩
    simp [-oneC, oneC_slice, oneC_int, -Array.all_toList, sf_fixes_Conflict, dsV, ed, et, es, er, hO, hC, pf_pure, pureF]
  · refine ⟨_, F, ?_, hA.trans hF, .inr ⟨h1, b', rfl, h3⟩⟩
    simp [-oneC, oneC_slice, oneC_int, -Array.all_toList, sf_fixes_Conflict, dsV, ed, et, es, er, hO, hC, pf_pure, pureF]
end Go.Proofs.YtddnloghclemjaaGreatDoor
namespace Go.Proofs.YtddnloghclemjaaGreatDoor
open Go Go.RowKit
def exC : Ch := ⟨4, 3, [0, 0, -50, -90, 30, 20, 10, -20, 60, 60, 40, 30], [(10, 14), (20, 26), (30, 36), (20, 26), (10, 14)], [5, 5, 5, 5, 5]⟩
def exRs : List Rep := [⟨0, 1, 0, 1, 2, 0, 0, false, 2⟩, ⟨1, 2, 8, 1, -1, 1, 0, false, 4⟩, ⟨2, 3, 0, 2, 2, 0, 3, false, 1⟩]
def exR : Rep := ⟨1, 1, 11, 0, 0, 0, 0, false, 3⟩
def exD : Ds := ⟨exC, 5, 1, exRs⟩
def exD2 : Ds := ⟨exC, 5, 1, exRs ++ [exR]⟩
theorem exC_ok : ChOk exC := by
  refine ⟨by decide, by decide, by decide, by decide, by decide, by decide, fun i h h' => ?_⟩
  have hi : i < 5 := h
  match i, hi with
  | 0, _ => exact (show tickOk (10, 14) 5 from by unfold tickOk; decide)
  | 1, _ => exact (show tickOk (20, 26) 5 from by unfold tickOk; decide)
  | 2, _ => exact (show tickOk (30, 36) 5 from by unfold tickOk; decide)
  | 3, _ => exact (show tickOk (20, 26) 5 from by unfold tickOk; decide)
  | 4, _ => exact (show tickOk (10, 14) 5 from by unfold tickOk; decide)
theorem exD_ok : dsOk exD = true := by decide +kernel
theorem exD2_ok : dsOk exD2 = true := by decide +kernel
theorem ex_course : courseM exD (mayF exD) (allP exD) 5 = [1, 5, 9, 4, 0] := by decide +kernel
theorem ex_least : leastM (backN exD (mayF exD) (allP exD) 5) 12 ≠ topN := by decide +kernel
theorem ex_doubt : leastM (backN exD2 (mayF exD2) (doubtP exD2) 5) 12 = 2 := by decide +kernel
theorem ex_conflict : conflictM exD2 = some [0, 3] := by decide +kernel
end Go.Proofs.YtddnloghclemjaaGreatDoor
namespace Go.Proofs.YtddnloghclemjaaGreatDoor
open Go Go.RowKit
theorem dsE_of {x : Ds} (h1 : ChOk x.ch) (h2 : dsOk x = true) : dsE x = 0 := by unfold dsE; rw [if_pos h1, if_pos h2]
theorem exD_c : courseD exD = ([1, 5, 9, 4, 0], 0) := by
  unfold courseD bestE
  rw [if_pos (dsE_of exC_ok exD_ok)]
  have h : exD.ch.ticks = 5 := rfl
  have h2 : exD.ch.cells = 12 := rfl
  rw [h, h2, if_neg ex_least, ex_course]
theorem exD2_c : conflictD exD2 = ([0, 3], 0) := by
  unfold conflictD
  rw [if_pos (dsE_of exC_ok exD2_ok), ex_conflict]
  rfl
theorem exD2_d : (doubtD exD2).1 = 2 ∧ (doubtD exD2).2.2 = 0 := by
  unfold doubtD bestE
  rw [if_pos (dsE_of exC_ok exD2_ok)]
  have h : exD2.ch.ticks = 5 := rfl
  have h2 : exD2.ch.cells = 12 := rfl
  rw [h, h2, ex_doubt]
  have h3 : ¬ (2 : Int) = topN := by decide
  rw [if_neg h3, if_neg h3]
  exact ⟨rfl, rfl⟩
theorem run_Ex1 (lim : Nat) (H : AH) : apL Tryz.prog pf (.func (.func 77) #[] #[]) [] lim H = some (chV exC (.slice (some ⟨H.length, 0, none⟩) 12 12) (.slice (some ⟨H.length + 1, 0, none⟩) 5 5) (.slice (some ⟨H.length + 2, 0, none⟩) 5 5), H ++ [.rw 1 (ints exC.depth), .rw 2 (spans exC.tide), .rw 1 (ints exC.swell)]) := by
  rw [apL_func _ _ _ _ _ _ (by rfl), sf_coblelaw01_Example_eq]
  simp [sf_coblelaw01_Example, chV, exC, ints, spans, pf_pure, pureF]
theorem run_Ex3 (lim : Nat) (H : AH) : apL Tryz.prog pf (.func (.func 42) #[] #[]) [] lim H = some (.tuple #[dsV exD (.slice (some ⟨H.length, 0, none⟩) 12 12) (.slice (some ⟨H.length + 1, 0, none⟩) 5 5) (.slice (some ⟨H.length + 2, 0, none⟩) 5 5) (.slice (some ⟨H.length + 3, 0, none⟩) 3 3), repV exR], H ++ [.rw 1 (ints exC.depth), .rw 2 (spans exC.tide), .rw 1 (ints exC.swell), .rw 9 (repsV exRs)]) := by
  rw [apL_func _ _ _ _ _ _ (by rfl), sf_coblelaw03_Example_eq]
  have h := fun lim => run_Ex1 lim H
  simp only [chV, exC] at h
  simp [sf_coblelaw03_Example, h, dsV, repV, exD, exC, exR, exRs, repsV, Rep.vals, pf_pure, pureF]
end Go.Proofs.YtddnloghclemjaaGreatDoor
namespace Go.Proofs.YtddnloghclemjaaGreatDoor
open Go Go.RowKit
theorem sl_rw {A : AH} {b e : Nat} {cs : List Value} {n k : Nat} (h : A[b]? = some (.rw e cs)) : Sl A (.slice (some ⟨b, 0, none⟩) n k) n cs :=
  ⟨_, _, rfl, fun j x hx => ⟨b, 0, rfl, by simp only [hcell, h, Nat.zero_add]; exact hx⟩⟩
set_option maxHeartbeats 4000000 in
theorem run_works (lim : Nat) (H : AH) (hG : H[bitsG]? = some (.ro bitsV)) : apL Tryz.prog pf (.func (.func 14) #[] #[]) [] lim H = some (.bool true, H) := by
  rw [apL_func _ _ _ _ _ _ (by rfl), sf_coblelaw03_works_eq]
  have hEx := fun lim => run_Ex3 lim H
  obtain ⟨H1, hH1⟩ : ∃ H1, H1 = H ++ [ABlk.rw 1 (ints exC.depth), ABlk.rw 2 (spans exC.tide), ABlk.rw 1 (ints exC.swell), ABlk.rw 9 (repsV exRs)] := ⟨_, rfl⟩
  have hA1 : Aft H H1 := by rw [hH1]; exact (Aft.refl H).push _
  have b0 : H1[H.length]? = some (.rw 1 (ints exC.depth)) := by rw [hH1, List.getElem?_append_right (Nat.le_refl _), Nat.sub_self]; rfl
  have b1 : H1[H.length + 1]? = some (.rw 2 (spans exC.tide)) := by rw [hH1, List.getElem?_append_right (by omega), Nat.add_sub_cancel_left]; rfl
  have b2 : H1[H.length + 2]? = some (.rw 1 (ints exC.swell)) := by rw [hH1, List.getElem?_append_right (by omega), Nat.add_sub_cancel_left]; rfl
  have b3 : H1[H.length + 3]? = some (.rw 9 (repsV exRs)) := by rw [hH1, List.getElem?_append_right (by omega), Nat.add_sub_cancel_left]; rfl
  have hch : ChIn H1 exC (.slice (some ⟨H.length, 0, none⟩) 12 12) (.slice (some ⟨H.length + 1, 0, none⟩) 5 5) (.slice (some ⟨H.length + 2, 0, none⟩) 5 5) := ⟨sl_rw b0, sl_rw b1, sl_rw b2, by decide, by decide, by decide⟩
  have hD1 : DsIn H1 exD (.slice (some ⟨H.length, 0, none⟩) 12 12) (.slice (some ⟨H.length + 1, 0, none⟩) 5 5) (.slice (some ⟨H.length + 2, 0, none⟩) 5 5) (.slice (some ⟨H.length + 3, 0, none⟩) 3 3) := ⟨hch, sl_rw b3, by decide⟩
  obtain ⟨v1, A1, hC1, hAA1, hO1⟩ := run_fCourse exD H.length H1 _ _ _ _ hD1
  rw [exD_c] at hC1 hO1
  obtain ⟨p1, rfl, hp1⟩ : ∃ p1, v1 = .slice (some ⟨p1, 0, none⟩) 5 6 ∧ A1[p1]? = some (.rw 1 (ints [1, 5, 9, 4, 0])) := by
    rcases hO1 with ⟨e, _⟩ | ⟨_, b, _, h2, h3⟩
    · cases e
    · exact ⟨b, h2, h3⟩
  have c3 : A1[H.length + 3]? = some (.rw 9 (repsV exRs)) := hAA1.ext' b3
  obtain ⟨A2, hA2⟩ : ∃ A2, A2 = A1 ++ [ABlk.rw 9 exR.vals, ABlk.rw 9 (repsV (exRs ++ [exR]))] := ⟨_, rfl⟩
  have hAA2 : Aft A1 A2 := by rw [hA2]; exact (Aft.refl A1).push _
  have d4 : A2[A1.length + 1]? = some (.rw 9 (repsV (exRs ++ [exR]))) := by rw [hA2, List.getElem?_append_right (by omega), Nat.add_sub_cancel_left]; rfl
  have hD2 : DsIn A2 exD2 (.slice (some ⟨H.length, 0, none⟩) 12 12) (.slice (some ⟨H.length + 1, 0, none⟩) 5 5) (.slice (some ⟨H.length + 2, 0, none⟩) 5 5) (.slice (some ⟨A1.length + 1, 0, none⟩) 4 5) := ⟨hch.ext (hAA1.trans hAA2).ext, sl_rw d4, by decide⟩
  obtain ⟨v2, A3, hC2, hAA3, hO2⟩ := run_fConflict exD2 H.length A2 _ _ _ _ hD2
  rw [exD2_c] at hC2 hO2
  obtain ⟨p2, rfl, hp2⟩ : ∃ p2, v2 = .slice (some ⟨p2, 0, none⟩) 2 3 ∧ A3[p2]? = some (.rw 1 (ints [0, 3])) := by
    rcases hO2 with ⟨e, _⟩ | ⟨_, b, h2, h3⟩
    · cases e
    · exact ⟨b, h2, h3⟩
  have hHA3 := ((hA1.trans hAA1).trans hAA2).trans hAA3
  obtain ⟨v3, A4, hC3, hAA4, hO3⟩ := run_fDoubt exD2 H.length A3 (hHA3.ext _ _ hG) _ _ _ _ (hD2.ext hAA3.ext)
  obtain ⟨hd1, hd2⟩ := exD2_d
  rw [hd1, hd2] at hC3
  obtain ⟨xa, xn, xc, rfl, hv3⟩ : ∃ xa xn xc, v3 = .slice xa xn xc ∧ nl v3 = true := by
    rcases hO3 with ⟨_, rfl⟩ | ⟨_, b, _, rfl, _⟩
    · exact ⟨_, _, _, rfl, by simp⟩
    · exact ⟨_, _, _, rfl, by simp⟩
  have q1 : A4[p1]? = some (.rw 1 (ints [1, 5, 9, 4, 0])) := (hAA2.trans (hAA3.trans hAA4)).ext' hp1
  have q2 : A4[p2]? = some (.rw 1 (ints [0, 3])) := hAA4.ext' hp2
  have hs1 := fun lim => run_sameInts3 [1, 5, 9, 4, 0] [1, 5, 9, 4, 0] (by decide) lim (A4 ++ [.rw 1 (ints [1, 5, 9, 4, 0])]) (.slice (some ⟨p1, 0, none⟩) 5 6) (.slice (some ⟨A4.length, 0, none⟩) 5 5) (Sl.made (own_get q1 _) rfl) (Sl.made (by rw [List.getElem?_append_right (Nat.le_refl _), Nat.sub_self]; rfl) rfl)
  have hs2 := fun lim => run_sameInts3 [0, 3] [0, 3] (by decide) lim (A4 ++ [.rw 1 (ints [1, 5, 9, 4, 0]), .rw 1 (ints [0, 3])]) (.slice (some ⟨p2, 0, none⟩) 2 3) (.slice (some ⟨A4.length + 1, 0, none⟩) 2 2) (Sl.made (own_get q2 _) rfl) (Sl.made (by rw [List.getElem?_append_right (by omega), Nat.add_sub_cancel_left]; rfl) rfl)
  have c3X : ∀ y : AH, (A1 ++ y)[H.length + 3]? = some (.rw 9 (repsV exRs)) := fun y => own_get c3 y
  have hrs : repsV exRs = [Value.int .i64 0, Value.int .i64 1, Value.int .i64 0, Value.int .i64 1, Value.int .i64 2, Value.int .i64 0, Value.int .i64 0, .bool false, Value.int .i64 2, Value.int .i64 1, Value.int .i64 2, Value.int .i64 8, Value.int .i64 1, Value.int .i64 (-1), Value.int .i64 1, Value.int .i64 0, .bool false, Value.int .i64 4, Value.int .i64 2, Value.int .i64 3, Value.int .i64 0, Value.int .i64 2, Value.int .i64 2, Value.int .i64 0, Value.int .i64 3, .bool false, Value.int .i64 1] := rfl
  have hrv : repsV (exRs ++ [exR]) = repsV exRs ++ exR.vals := by simp [repsV]
  have hvals : exR.vals = [Value.int .i64 1, .int .i64 1, .int .i64 11, .int .i64 0, .int .i64 0, .int .i64 0, .int .i64 0, .bool false, .int .i64 3] := rfl
  have hm4 : 4 ≤ maxA := by decide
  rw [hrv, hvals, hrs] at hA2
  rw [← hH1] at hEx
  rw [hA2] at hC2
  simp only [hrs] at c3 c3X
  simp only [dsV, repV, exD, exD2, exC, exR, List.cons_append, List.nil_append] at hEx hC1 hC2 hC3
  simp only [ints, List.map_cons, List.map_nil] at hs1 hs2
  simp [-oneC, oneC_int, oneC_slice, sf_coblelaw03_works, hEx, hC1, c3, c3X, hm4, hC2, hC3, hs1, hs2, hv3, oneC_bool, pf_pure, pureF]
end Go.Proofs.YtddnloghclemjaaGreatDoor
namespace Go.Proofs.YtddnloghclemjaaGreatDoor
open Go Go.RowKit
theorem ownA_slice {n0 : Nat} {A : AH} {v : Value} {l : List Int} (h : OwnA n0 A v l) : ∃ a c, v = .slice a l.length c ∧ nl v = true := by
  rcases h with ⟨rfl, rfl⟩ | ⟨_, b, _, rfl, _⟩
  · exact ⟨_, _, rfl, by simp⟩
  · exact ⟨_, _, rfl, by simp⟩
end Go.Proofs.YtddnloghclemjaaGreatDoor
namespace Go.Proofs.YtddnloghclemjaaGreatDoor
open Go Go.RowKit
theorem membL_deny (x : Ds) (k i : Nat) (h : x.reps.length ≤ 12) : membL (denyM x k i x.reps.length) = (List.range' 0 x.reps.length).filter (denyB x k i) := by
  obtain ⟨b, hb⟩ : ∃ b, 12 = x.reps.length + b := ⟨12 - x.reps.length, by omega⟩
  unfold membL
  rw [hb, List.range_add, List.filter_append, ← List.range_eq_range']
  have h1 : (List.range x.reps.length).filter (fun j => (denyM x k i x.reps.length).testBit j) = (List.range x.reps.length).filter (denyB x k i) :=
    List.filter_congr fun j hj => by rw [deny_bit, decide_eq_true (List.mem_range.1 hj), Bool.true_and]
  have h2 : ((List.range b).map (x.reps.length + ·)).filter (fun j => (denyM x k i x.reps.length).testBit j) = [] := by
    rw [List.filter_eq_nil_iff]
    intro j hj
    obtain ⟨z, _, rfl⟩ := List.mem_map.1 hj
    rw [deny_bit, decide_eq_false (by omega), Bool.false_and]
    simp
  rw [h1, h2, List.append_nil]
end Go.Proofs.YtddnloghclemjaaGreatDoor
namespace Go.Proofs.YtddnloghclemjaaGreatDoor
open Go Go.RowKit
def dbtB (q : Int) : Bool := decide (0 ≤ q) && decide (q ≤ 1200)
noncomputable def withinD (x : Ds) (k q : Int) : List Int × Int :=
  if dsE x = 0 then (if inN x.ticks k = true ∧ dbtB q = true then (withM x (mayF x) (doubtP x) k.toNat q, 0) else ([], 1)) else ([], dsE x)
end Go.Proofs.YtddnloghclemjaaGreatDoor
namespace Go.Proofs.YtddnloghclemjaaGreatDoor
open Go Go.RowKit
set_option maxHeartbeats 1000000 in
theorem run_fWithin (x : Ds) (lim : Nat) (H : AH) (hG : H[bitsG]? = some (.ro bitsV)) (d t s r : Value) (h : DsIn H x d t s r) (k q : Int) :
    ∃ v A, apL Tryz.prog pf (.func (.func 25) #[] #[]) [dsV x d t s r, .int .i64 k, .int .i64 q] lim H = some (.tuple #[v, .int .i64 (withinD x k q).2], A) ∧ Aft H A ∧ OwnA H.length A v (withinD x k q).1 := by
  rw [apL_func _ _ _ _ _ _ (by rfl), sf_fixes_Within_eq]
  have h0 := h
  obtain ⟨H0, hH0⟩ : ∃ H0, H0 = H ++ [.rw 1 [.int .i64 k]] := ⟨_, rfl⟩
  have hHH0 : Aft H H0 := by rw [hH0]; exact (Aft.refl H).push _
  have hx0 := h.ext hHH0.ext
  have htv : Sl H0 (.slice (some ⟨H.length, 0, none⟩) 1 1) [k].length (ints [k]) := Sl.made (l := [k]) (by rw [hH0, List.getElem?_append_right (Nat.le_refl _), Nat.sub_self]; rfl) rfl
  by_cases he : dsE x = 0
  rotate_left
  · have hO := fun lim => run_fopen_bad x lim H0 d t s r hx0 (.slice (some ⟨H.length, 0, none⟩) 1 1) (.slice none 0 0) ⟨_, _, _, rfl⟩ oneS_nil he
    refine ⟨.slice none 0 0, H, ?_, Aft.refl H, .inl ⟨by simp [withinD, he], rfl⟩⟩
    have hne : (dsE x != 0) = true := by simpa using he
    obtain ⟨⟨⟨da, dc, ed, _⟩, ⟨ta, tc, et, _⟩, ⟨sa, sc, es, _⟩, _, htl, _⟩, ⟨ra, rc, er, _⟩, _⟩ := h
    simp only [dsV, srZ, nilS, ed, et, es, er] at hO
    rw [hH0] at hO
    have hd : (withinD x k q).2 = dsE x := by simp [withinD, he]
    rw [hd]
    generalize dsE x = z at *
    simp [sf_fixes_Within, dsV, ed, et, es, er, hO, hne, pf_pure, pureF]
  by_cases hk : inN x.ticks k = true
  rotate_left
  · have hk' : inN x.ticks k = false := by simpa using hk
    have hO := fun lim => run_fopen_arg x lim H0 d t s r hx0 (.slice (some ⟨H.length, 0, none⟩) 1 1) (.slice none 0 0) [k] [] (by simp) (by simp) htv Sl.nil he (by simp [hk'])
    refine ⟨.slice none 0 0, H, ?_, Aft.refl H, .inl ⟨by simp [withinD, he, hk'], rfl⟩⟩
    obtain ⟨⟨⟨da, dc, ed, _⟩, ⟨ta, tc, et, _⟩, ⟨sa, sc, es, _⟩, _, htl, _⟩, ⟨ra, rc, er, _⟩, _⟩ := h
    simp only [dsV, srZ, nilS, ed, et, es, er] at hO
    rw [hH0] at hO
    have hd : (withinD x k q).2 = 1 := by simp [withinD, he, hk']
    rw [hd]
    simp [sf_fixes_Within, dsV, ed, et, es, er, hO, pf_pure, pureF]
  obtain ⟨hok, hdo⟩ := dsE_zero he
  obtain ⟨j, hj, rfl⟩ := inN_iff.1 hk
  obtain ⟨a, b, e, A, hO, hA0, hsr⟩ := run_fopen x H.length H0 d t s r hx0 (.slice (some ⟨H.length, 0, none⟩) 1 1) (.slice none 0 0) [(j : Int)] [] (by simp) (by simp) htv Sl.nil he (by simp [hk]) rfl
  have hA := hHH0.trans hA0
  have hl12 := fx_reps hdo
  have hx := h.ext hA.ext
  have oa := hsr.near.one
  have ob := hsr.flo.one
  have oe := hsr.unt.one
  obtain ⟨A1, hA1⟩ : ∃ A1, A1 = A ++ [.rw 0 [.int .i64 0], .rw 0 [.int .i64 1200]] := ⟨_, rfl⟩
  have hAA1 : Aft A A1 := by rw [hA1]; exact (Aft.refl A).push _
  have hHA1 := hA.trans hAA1
  have hBt := fun lim => run_between 0 1200 lim A
  have hBx := fun lim => ext_between A 0 1200 q lim
  rw [← hA1] at hBt hBx
  by_cases hq : dbtB q = true
  rotate_left
  · have hq' : (decide (0 ≤ q) && decide (q ≤ 1200)) = false := by simpa [dbtB] using hq
    have hwd : withinD x j q = ([], 1) := by simp [withinD, he, hq]
    rw [hwd]
    rw [hq'] at hBx
    refine ⟨.slice none 0 0, H, ?_, Aft.refl H, .inl ⟨rfl, rfl⟩⟩
    obtain ⟨⟨⟨da, dc, ed, _⟩, ⟨ta, tc, et, _⟩, ⟨sa, sc, es, _⟩, _, htl, _⟩, ⟨ra, rc, er, _⟩, _⟩ := h
    obtain ⟨a1, a2, a3, ea⟩ := oa
    obtain ⟨b1, b2, b3, eb⟩ := ob
    obtain ⟨e1, e2, e3, ee⟩ := oe
    simp only [dsV, srV, betweenV, ed, et, es, er, ea, eb, ee] at hO hBt hBx
    rw [hH0] at hO
    simp [sf_fixes_Within, dsV, ed, et, es, er, hO, hBt, hBx, pf_pure, pureF]
  have hq' : (decide (0 ≤ q) && decide (q ≤ 1200)) = true := hq
  rw [hq'] at hBx
  have hpr := isPr_doubt x hdo A1 (hHA1.ext _ _ hG) d t s r a b e (h.ext hHA1.ext) (mayF x) (hsr.ext hAA1.ext)
  obtain ⟨v, F, hB, hF, hOw⟩ := run_swithin x hok hdo H.length A1 d t s r a b e _ (h.ext hHA1.ext) (mayF x) (hsr.ext hAA1.ext) (doubtP x) hpr (fun k i _ _ => doubt_bound hdo k i) (k := j) hj q
  have hwd : withinD x j q = (withM x (mayF x) (doubtP x) j q, 0) := by simp [withinD, he, hk, hq]
  have hap : withM x (mayF x) (doubtP x) j q = thoseN (fun i => withinB x (mayF x) (doubtP x) j q i.toNat) x.cells := rfl
  rw [← hap] at hOw
  rw [hwd]
  generalize withM x (mayF x) (doubtP x) j q = W at *
  obtain ⟨⟨⟨da, dc, ed, _⟩, ⟨ta, tc, et, _⟩, ⟨sa, sc, es, _⟩, _, htl, _⟩, ⟨ra, rc, er, _⟩, _⟩ := h
  obtain ⟨a1, a2, a3, ea⟩ := oa
  obtain ⟨b1, b2, b3, eb⟩ := ob
  obtain ⟨e1, e2, e3, ee⟩ := oe
  simp only [dsV, srV, doubtF, betweenV, ed, et, es, er, ea, eb, ee] at hO hB hBt hBx
  rw [hH0] at hO
  have hAF := hHA1.trans hF
  rcases hOw with ⟨z1, rfl⟩ | ⟨z1, b', z2, rfl, z3⟩
  · refine ⟨.slice none 0 0, H, ?_, Aft.refl H, .inl ⟨z1, rfl⟩⟩
    simp [-oneC, oneC_slice, oneC_int, -Array.all_toList, sf_fixes_Within, dsV, ed, et, es, er, hO, hBt, hBx, hB, pf_pure, pureF]
  · refine ⟨_, F, ?_, hAF, .inr ⟨z1, b', Nat.le_trans hHA1.le z2, rfl, z3⟩⟩
    simp [-oneC, oneC_slice, oneC_int, -Array.all_toList, sf_fixes_Within, dsV, ed, et, es, er, hO, hBt, hBx, hB, pf_pure, pureF]
end Go.Proofs.YtddnloghclemjaaGreatDoor
namespace Go.Proofs.YtddnloghclemjaaGreatDoor
open Go Go.RowKit
end Go.Proofs.YtddnloghclemjaaGreatDoor
namespace Go.Proofs.YtddnloghclemjaaGreatDoor
open Go Go.RowKit
def okC (x : Ds) (cs : List Int) (t : Nat) : Bool := inN x.ch.cells (cs.getD t 0) && (x.ch.may x.g (cs.getD t 0).toNat t && (t == 0 || hops x (cs.getD (t - 1) 0).toNat (cs.getD t 0).toNat))
theorem okC_in {x : Ds} {cs : List Int} {t : Nat} (h : okC x cs t = true) : ∃ i : Nat, i < x.ch.cells ∧ cs.getD t 0 = (i : Nat) := by
  unfold okC at h
  simp only [Bool.and_eq_true] at h
  obtain ⟨i, hi, e⟩ := inN_iff.1 h.1
  exact ⟨i, hi, e⟩
def dtLoop1 : SC := sf_coblelaw03_doubted.body.loops.headD .skip
def dtLoop2 : SC := sf_coblelaw03_doubted.body.loops.tail.headD .skip
set_option maxHeartbeats 2000000 in
theorem dt_loop1 (x : Ds) (hok : ChOk x.ch) (H : AH) (d t s r m cv : Value) (h : DsIn H x d t s r) (hm : Tab H m (mapM x.ch)) (cs : List Int) (hcl : cs.length = x.ch.ticks) (hcv : Sl H cv cs.length (ints cs)) (S : St)
    (h1 : tget S.t 1 = cv) (h2 : tget S.t 2 = .pointer (some ⟨2, 0, some 0⟩)) (h7 : tget S.t 7 = m) (h8 : tget S.t 8 = .int .i64 0) (hL : lget S.L 2 = some (0, .cells [.int .i64 x.ch.w, .int .i64 x.ch.h, d, t, s, .int .i64 x.g, .int .i64 x.pace, r])) (hH : S.H = H) :
    ∃ q, exL Tryz.prog pf (.loop dtLoop1) S = some q ∧ q.2.H = H ∧
      ((q.1 = .exit 0 ∧ (∀ j, j < x.ch.ticks → okC x cs j = true) ∧ tget q.2.t 1 = cv ∧ tget q.2.t 2 = .pointer (some ⟨2, 0, some 0⟩) ∧ tget q.2.t 7 = m ∧ lget q.2.L 2 = lget S.L 2 ∧ q.2.lim = S.lim) ∨
       (q.1 = .ret ∧ (∃ j, j < x.ch.ticks ∧ okC x cs j = false) ∧ tget q.2.t 4 = .int .i64 0 ∧ tget q.2.t 5 = .bool false ∧ tget q.2.t 6 = .bool false)) := by
  have hIC := fun z lim => run_IsCellOk x.ch hok z lim H d t s h.c
  have hMy := fun (i j : Nat) (hi : i < x.ch.cells) (hj : j < x.ch.ticks) lim => run_May x hok lim H d t s r h hi hj
  have hmc := fun (i j : Nat) (hi : i < x.ch.cells) (hj : j < x.ch.cells) => map_cell hok hm hi hj
  have htk : x.ch.ticks ≤ 60 := hok.2.2.2.1.2
  obtain ⟨⟨⟨da, dc, ed, _⟩, ⟨ta, tc, et, _⟩, ⟨sa, sc, es, _⟩, _, htl, _⟩, ⟨ra, rc, er, _⟩, _⟩ := h
  obtain ⟨ma, mc, em⟩ : ∃ a c, m = .slice a x.ch.cells c := by
    obtain ⟨rv, _, ⟨a, c, e, _⟩, _⟩ := hm
    exact ⟨a, c, by rw [e]; simp [mapM]⟩
  obtain ⟨ca, cc, ecv, hcd⟩ := hcv
  have hcget : ∀ j, j < cs.length → ∃ b o, ca = some ⟨b, o, none⟩ ∧ hcell H b (o + j) = some (.int .i64 (cs.getD j 0)) := by
    intro j hj
    obtain ⟨b, o, e, g⟩ := hcd j (.int .i64 cs[j]) (by simp [ints, hj])
    exact ⟨b, o, e, by rw [g]; simp [List.getD_eq_getElem?_getD, hj]⟩
  simp only [chV, dsV, ed, et, es, er] at hIC hMy
  rw [ed, et, es, er] at hL
  refine loop_rule (I := fun n s' => ∃ j, j ≤ cs.length ∧ n = cs.length - j ∧ tget s'.t 1 = cv ∧ tget s'.t 2 = .pointer (some ⟨2, 0, some 0⟩) ∧ tget s'.t 7 = m ∧ tget s'.t 8 = .int .i64 j ∧ lget s'.L 2 = lget S.L 2 ∧ s'.lim = S.lim ∧ s'.H = H ∧ ∀ z, z < j → okC x cs z = true) ?_ cs.length S
    ⟨0, by omega, by omega, h1, h2, h7, h8, rfl, rfl, hH, fun z hz => by omega⟩
  rintro n s' ⟨j, hj, rfl, e1, e2, e7, e8, eL, el, eH, hz⟩
  rw [hL] at eL
  rw [ecv] at e1
  rw [em] at e7
  by_cases hlt : j < cs.length
  rotate_left
  · have : j = cs.length := by omega
    subst this
    simp [dtLoop1, SC.loops, sf_coblelaw03_doubted, e1, e2, e7, e8, eL, eH, el]
    exact ⟨fun z hz' => hz z (by omega), ecv.symm, em.symm, hL.symm⟩
  obtain ⟨cb, co, eca, g⟩ := hcget j hlt
  subst eca
  have hcp := hcget (j - 1) (by omega)
  obtain ⟨cb', co', e', gp⟩ := hcp
  cases e'
  have hjt : j < x.ch.ticks := by omega
  have hw : IntKind.i64.wrap ((j : Int) + 1) = (j : Int) + 1 := wrap_i64 (by omega) (by omega)
  have hok' : okC x cs j = (inN x.ch.cells (cs.getD j 0) && (x.ch.may x.g (cs.getD j 0).toNat j && (j == 0 || hops x (cs.getD (j - 1) 0).toNat (cs.getD j 0).toNat))) := rfl
  have hI := hIC (cs.getD j 0)
  simp only [hcell] at g gp
  cases hin : inN x.ch.cells (cs.getD j 0) with
  | false =>
    rw [hin] at hI hok'
    generalize cs.getD j 0 = v at *
    simp [dtLoop1, SC.loops, sf_coblelaw03_doubted, e1, e2, e7, e8, eL, eH, el, hlt, g, hI]
    exact ⟨j, hjt, hok'⟩
  | true =>
  rw [hin] at hI hok'
  obtain ⟨i, hi, ei⟩ := inN_iff.1 hin
  rw [ei] at hI hok' g
  simp only [Int.toNat_natCast, Bool.true_and] at hok'
  have hM := fun lim => hMy i j hi hjt lim
  cases hmy : x.ch.may x.g i j with
  | false =>
    rw [hmy] at hM hok'
    simp [dtLoop1, SC.loops, sf_coblelaw03_doubted, e1, e2, e7, e8, eL, eH, el, hlt, g, hI, hM]
    exact ⟨j, hjt, hok'⟩
  | true =>
  rw [hmy] at hM hok'
  rw [Bool.true_and] at hok'
  by_cases hj0 : j = 0
  · subst hj0
    rw [Nat.add_zero] at g
    simp only [show ((0 : Nat) : Int) = 0 from rfl] at hM
    simp [dtLoop1, SC.loops, sf_coblelaw03_doubted, e1, e2, e7, e8, eL, eH, el, hlt, g, hI, hM]
    exact ⟨_, by omega, 1, by omega, rfl, ecv.symm, em.symm, by decide, hL.symm, fun z hz' => by
      obtain rfl : z = 0 := by omega
      simpa using hok'⟩
  obtain ⟨p, hp, ep⟩ := okC_in (hz (j - 1) (by omega))
  rw [ep] at gp hok'
  rw [Int.toNat_natCast] at hok'
  have hjb : (j == 0) = false := by simpa using hj0
  rw [hjb, Bool.false_or] at hok'
  obtain ⟨b, o, cp, b', o', c', em2, g1, g2⟩ := hmc p i hp hi
  rw [em] at em2
  cases em2
  have hw2 : IntKind.i64.wrap ((j : Int) - 1) = ((j - 1 : Nat) : Int) := by
    rw [show ((j : Int) - 1) = ((j - 1 : Nat) : Int) by omega]
    exact wrap_i64 (by omega) (by omega)
  have hj1 : j - 1 < cs.length := by omega
  have hjp : 0 < j := by omega
  simp only [hcell] at g1 g2
  by_cases hh : apt x.ch.w p i ≤ x.pace
  · have hp' : hops x p i = true := by simp [hops, hh]
    rw [hp'] at hok'
    have hng : ¬ x.pace < apt x.ch.w p i := by omega
    simp [dtLoop1, SC.loops, sf_coblelaw03_doubted, e1, e2, e7, e8, eL, eH, el, hlt, g, gp, g1, g2, hI, hM, hj0, hjp, hj1, hp, hi, hw, hw2, hng]
    exact ⟨_, by omega, j + 1, by omega, rfl, ecv.symm, em.symm, by omega, hL.symm, fun z hz' => by
      by_cases h' : z = j
      · subst h'; exact hok'
      · exact hz z (by omega)⟩
  · have hp' : hops x p i = false := by simp [hops, hh]
    rw [hp'] at hok'
    have hng : x.pace < apt x.ch.w p i := by omega
    simp [dtLoop1, SC.loops, sf_coblelaw03_doubted, e1, e2, e7, e8, eL, eH, el, hlt, g, gp, g1, g2, hI, hM, hj0, hjp, hj1, hp, hi, hw, hw2, hng]
    exact ⟨j, hjt, hok'⟩
end Go.Proofs.YtddnloghclemjaaGreatDoor
namespace Go.Proofs.YtddnloghclemjaaGreatDoor
open Go Go.RowKit
def dsumM (w : Int) (cs : List Int) : List Rep → Int → Bool → Int × Bool
  | [], n, b => (n, b)
  | q :: l, n, b => if holdsM w q (cs.getD q.tick.toNat 0).toNat then dsumM w cs l n b else dsumM w cs l (n + q.w) (b && !q.sure)
def doubtedM (x : Ds) (cs : List Int) : Int × Bool × Bool :=
  if cs.length = x.ch.ticks ∧ (∀ j, j < x.ch.ticks → okC x cs j = true) then ((dsumM x.ch.w cs x.reps 0 true).1, (dsumM x.ch.w cs x.reps 0 true).2, true) else (0, false, false)
set_option maxHeartbeats 2000000 in
theorem dt_loop2 (x : Ds) (hok : ChOk x.ch) (hdo : dsOk x = true) (H : AH) (d t s r m cv : Value) (h : DsIn H x d t s r) (hm : Tab H m (mapM x.ch)) (cs : List Int) (hcl : cs.length = x.ch.ticks) (hco : ∀ j, j < x.ch.ticks → okC x cs j = true) (hcv : Sl H cv cs.length (ints cs)) (S : St)
    (h1 : tget S.t 1 = cv) (h2 : tget S.t 2 = .pointer (some ⟨2, 0, some 0⟩)) (h7 : tget S.t 7 = m) (h9 : tget S.t 9 = .int .i64 0) (h10 : tget S.t 10 = .bool true) (h11 : tget S.t 11 = .int .i64 0) (hL : lget S.L 2 = some (0, .cells [.int .i64 x.ch.w, .int .i64 x.ch.h, d, t, s, .int .i64 x.g, .int .i64 x.pace, r])) (hH : S.H = H) :
    ∃ q, exL Tryz.prog pf (.loop dtLoop2) S = some q ∧ q.2.H = H ∧ q.1 = .exit 2 ∧ tget q.2.t 9 = .int .i64 (dsumM x.ch.w cs x.reps 0 true).1 ∧ tget q.2.t 10 = .bool (dsumM x.ch.w cs x.reps 0 true).2 := by
  have hd12 : x.reps.length ≤ 12 ∧ ∀ q ∈ x.reps, repOk x.cells x.ticks q = true := by
    unfold dsOk at hdo
    simp only [Bool.and_eq_true, decide_eq_true_eq, List.all_eq_true] at hdo
    exact ⟨hdo.1.2, hdo.2⟩
  have hHo := fun q (hq : q ∈ x.reps) (i : Nat) (hi : i < x.ch.cells) lim => run_Holds x hok lim H d t s m h.c hm q (hd12.2 q hq) hi
  have hv := h.r
  obtain ⟨⟨⟨da, dc, ed, _⟩, ⟨ta, tc, et, _⟩, ⟨sa, sc, es, _⟩, _, htl, _⟩, ⟨ra, rc, er, _⟩, _⟩ := h
  rw [er] at hv
  obtain ⟨ma, mc, em⟩ : ∃ a c, m = .slice a x.ch.cells c := by
    obtain ⟨rv, _, ⟨a, c, e, _⟩, _⟩ := hm
    exact ⟨a, c, by rw [e]; simp [mapM]⟩
  obtain ⟨ca, cc, ecv, hcd⟩ := hcv
  have hcget : ∀ j, j < cs.length → ∃ b o, ca = some ⟨b, o, none⟩ ∧ hcell H b (o + j) = some (.int .i64 (cs.getD j 0)) := by
    intro j hj
    obtain ⟨b, o, e, g⟩ := hcd j (.int .i64 cs[j]) (by simp [ints, hj])
    exact ⟨b, o, e, by rw [g]; simp [List.getD_eq_getElem?_getD, hj]⟩
  simp only [chV, ed, et, es, em] at hHo
  rw [ed, et, es, er] at hL
  refine loop_rule (I := fun n s' => ∃ j, j ≤ x.reps.length ∧ n = x.reps.length - j ∧ tget s'.t 1 = cv ∧ tget s'.t 2 = .pointer (some ⟨2, 0, some 0⟩) ∧ tget s'.t 7 = m ∧ tget s'.t 11 = .int .i64 j ∧ lget s'.L 2 = lget S.L 2 ∧ s'.H = H ∧
    ∃ (n : Int) (b : Bool), tget s'.t 9 = .int .i64 n ∧ tget s'.t 10 = .bool b ∧ 0 ≤ n ∧ n ≤ j * 100 ∧ dsumM x.ch.w cs (x.reps.drop j) n b = dsumM x.ch.w cs x.reps 0 true) ?_ x.reps.length S
    ⟨0, by omega, by omega, h1, h2, h7, h11, rfl, hH, 0, true, h9, h10, by omega, by omega, by simp⟩
  rintro n s' ⟨j, hj, rfl, e1, e2, e7, e11, eL, eH, v, b, e9, e10, v0, v1, ev⟩
  rw [hL] at eL
  rw [em] at e7
  rw [ecv] at e1
  by_cases hlt : j < x.reps.length
  rotate_left
  · have : j = x.reps.length := by omega
    subst this
    rw [List.drop_length] at ev
    rw [← ev]
    simp [dtLoop2, SC.loops, sf_coblelaw03_doubted, e1, e2, e7, e9, e10, e11, eL, eH, dsumM]
  obtain ⟨b1, o1, ac1, e, c0, c1, c2, c3, c4, c5, c6, c7, c8⟩ := rep_cells hv hlt
  cases e
  have hw : IntKind.i64.wrap ((j : Int) + 1) = (j : Int) + 1 := wrap_i64 (by omega) (by omega)
  have hmem : x.reps[j] ∈ x.reps := List.getElem_mem hlt
  have hps := hHo _ hmem
  have hrw : 0 ≤ x.reps[j].w ∧ x.reps[j].w ≤ 100 := (rep_w hdo).2 _ hmem
  have hrt : inN x.ticks x.reps[j].tick = true := by
    have := hd12.2 _ hmem
    unfold repOk at this
    simp only [Bool.and_eq_true] at this
    exact this.1.1.1
  obtain ⟨k, hk, ek⟩ := inN_iff.1 hrt
  have hk' : k < x.ch.ticks := hk
  obtain ⟨cb, co, eca, g⟩ := hcget k (by omega)
  subst eca
  obtain ⟨i, hi, ei⟩ := okC_in (hco k hk')
  have hps := hps i hi
  have hstep : dsumM x.ch.w cs (x.reps.drop j) v b = if holdsM x.ch.w x.reps[j] i then dsumM x.ch.w cs (x.reps.drop (j + 1)) v b else dsumM x.ch.w cs (x.reps.drop (j + 1)) (v + x.reps[j].w) (b && !x.reps[j].sure) := by
    rw [List.drop_eq_getElem_cons hlt]
    show (if holdsM x.ch.w x.reps[j] (cs.getD x.reps[j].tick.toNat 0).toNat then _ else _) = _
    rw [ek, Int.toNat_natCast, ei, Int.toNat_natCast]
  rw [ei] at g
  generalize hq : x.reps[j] = q at *
  simp only [hcell, repV] at c0 c1 c2 c3 c4 c5 c6 c7 c8 hps g
  rw [ek] at c0 hps
  have hkl : k < cs.length := by omega
  have hv1 : IntKind.i64.wrap (v + q.w) = v + q.w := wrap_i64 (by omega) (by omega)
  cases hh : holdsM x.ch.w q i with
  | true =>
    rw [hh] at hps hstep
    simp [dtLoop2, SC.loops, sf_coblelaw03_doubted, e1, e2, e7, e9, e10, e11, eL, eH, hlt, c0, c1, c2, c3, c4, c5, c6, c7, c8, g, hkl, hw, hps]
    exact ⟨_, by omega, j + 1, by omega, rfl, ecv.symm, em.symm, by omega, hL.symm, by
      cases b with
      | false => exact .inl ⟨rfl, v0, by omega, by rw [← ev, hstep]; simp⟩
      | true => exact .inr ⟨rfl, v0, by omega, by rw [← ev, hstep]; simp⟩⟩
  | false =>
    rw [hh] at hps hstep
    rw [if_neg (by simp)] at hstep
    cases b with
    | true =>
      simp [dtLoop2, SC.loops, sf_coblelaw03_doubted, e1, e2, e7, e9, e10, e11, eL, eH, hlt, c0, c1, c2, c3, c4, c5, c6, c7, c8, g, hkl, hw, hps, hv1]
      exact ⟨_, by omega, j + 1, by omega, rfl, ecv.symm, em.symm, by omega, hL.symm, by
        cases hs : q.sure with
        | true => exact .inl ⟨rfl, by omega, by omega, by rw [← ev, hstep, hs]; rfl⟩
        | false => exact .inr ⟨rfl, by omega, by omega, by rw [← ev, hstep, hs]; rfl⟩⟩
    | false =>
      simp [dtLoop2, SC.loops, sf_coblelaw03_doubted, e1, e2, e7, e9, e10, e11, eL, eH, hlt, c0, c1, c2, c3, c4, c5, c6, c7, c8, g, hkl, hw, hps, hv1]
      exact ⟨_, by omega, j + 1, by omega, rfl, ecv.symm, em.symm, by omega, hL.symm, by omega, by omega, by rw [← ev, hstep]; simp⟩
end Go.Proofs.YtddnloghclemjaaGreatDoor
namespace Go.Proofs.YtddnloghclemjaaGreatDoor
open Go Go.RowKit
set_option maxHeartbeats 2000000 in
theorem run_doubted (x : Ds) (hok : ChOk x.ch) (hdo : dsOk x = true) (lim : Nat) (H : AH) (d t s r cv : Value) (h : DsIn H x d t s r) (cs : List Int) (hcv : Sl H cv cs.length (ints cs)) :
    apL Tryz.prog pf (.func (.func 33) #[] #[]) [dsV x d t s r, cv] lim H = some (.tuple #[.int .i64 (doubtedM x cs).1, .bool (doubtedM x cs).2.1, .bool (doubtedM x cs).2.2], H) := by
  rw [apL_func _ _ _ _ _ _ (by rfl), sf_coblelaw03_doubted_eq]
  by_cases hcl : cs.length = x.ch.ticks
  rotate_left
  · have hd : doubtedM x cs = (0, false, false) := by unfold doubtedM; rw [if_neg (fun e => hcl e.1)]
    rw [hd]
    obtain ⟨ca, cc, ecv, _⟩ := hcv
    obtain ⟨⟨⟨da, dc, ed, _⟩, ⟨ta, tc, et, _⟩, ⟨sa, sc, es, _⟩, _, htl, _⟩, ⟨ra, rc, er, _⟩, _⟩ := h
    have hne : ((cs.length : Int) != (x.ch.tide.length : Int)) = true := by
      simp only [bne_iff_ne, ne_eq]
      intro e
      exact hcl (by have : cs.length = x.ch.tide.length := by omega
                    exact this)
    simp [sf_coblelaw03_doubted, dsV, ed, et, es, er, ecv, hne, pf_pure, pureF]
  obtain ⟨m, H1, hM, hH1, hm⟩ := run_Map x.ch hok H.length H d t s h.c
  have h00 := h.ext hH1.ext
  have hcv1 := hcv.ext hH1.ext
  obtain ⟨ma, mc, em⟩ : ∃ a c, m = .slice a x.ch.cells c := by
    obtain ⟨rv, _, ⟨a, c, e, _⟩, _⟩ := hm
    exact ⟨a, c, by rw [e]; simp [mapM]⟩
  obtain ⟨ca, cc, ecv, _⟩ := hcv
  obtain ⟨⟨⟨da, dc, ed, _⟩, ⟨ta, tc, et, _⟩, ⟨sa, sc, es, _⟩, _, htl, _⟩, ⟨ra, rc, er, _⟩, _⟩ := h
  have hcl' : ((cs.length : Int) != (x.ch.tide.length : Int)) = false := by
    have : cs.length = x.ch.tide.length := hcl
    simp [this]
  simp only [chV, ed, et, es, em] at hM
  simp [sf_coblelaw03_doubted, dsV, ed, et, es, er, ecv, hcl', hM, pf_pure, pureF]
  generalize hS : ({ t := _, L := _, H := _, lim := _, rd := _ } : St) = S
  obtain ⟨⟨q, s1⟩, hr, q1, q2⟩ := dt_loop1 x hok H1 d t s r m cv h00 hm cs hcl hcv1 S (by subst hS; simp [ecv]) (by subst hS; simp) (by subst hS; simp [em]) (by subst hS; simp) (by subst hS; simp [ed, et, es, er]) (by subst hS; rfl)
  simp [dtLoop1, SC.loops, sf_coblelaw03_doubted] at hr
  rw [hr]
  simp only at q1 q2
  rcases q2 with ⟨rfl, hall, e1, e2, e7, eL, el⟩ | ⟨rfl, ⟨j, hj, hbad⟩, e4, e5, e6⟩
  rotate_left
  · have hd : doubtedM x cs = (0, false, false) := by
      unfold doubtedM
      rw [if_neg]
      rintro ⟨_, hall⟩
      rw [hall j hj] at hbad
      cases hbad
    rw [hd]
    simp [e4, e5, e6]
  have hd : doubtedM x cs = ((dsumM x.ch.w cs x.reps 0 true).1, (dsumM x.ch.w cs x.reps 0 true).2, true) := by
    unfold doubtedM
    rw [if_pos ⟨hcl, hall⟩]
  rw [hd]
  have hL2 : lget s1.L 2 = some (0, .cells [.int .i64 x.ch.w, .int .i64 x.ch.h, d, t, s, .int .i64 x.g, .int .i64 x.pace, r]) := by
    rw [eL]; subst hS; simp [ed, et, es, er]
  simp [q1]
  generalize hS2 : ({ t := _, L := _, H := _, lim := _, rd := _ } : St) = S2
  obtain ⟨⟨q', s2⟩, hr2, z1, z2, z3, z4⟩ := dt_loop2 x hok hdo H1 d t s r m cv h00 hm cs hcl hall hcv1 S2 (by subst hS2; simp [e1]) (by subst hS2; simp [e2]) (by subst hS2; simp [e7]) (by subst hS2; simp) (by subst hS2; simp) (by subst hS2; simp) (by subst hS2; simp [hL2]) (by subst hS2; simp [q1])
  simp [dtLoop2, SC.loops, sf_coblelaw03_doubted] at hr2
  rw [hr2]
  simp only at z1 z2 z3 z4
  subst z2
  simp [z3, z4]
end Go.Proofs.YtddnloghclemjaaGreatDoor
namespace Go.Proofs.YtddnloghclemjaaGreatDoor
open Go Go.RowKit
def sumW (p : Nat → Nat → Int) (c : Nat → Nat) (a : Nat) : Nat → Int
  | 0 => 0
  | n + 1 => sumW p c a n + p (a + n) (c (a + n))
theorem sumW_add (p : Nat → Nat → Int) (c : Nat → Nat) (a m : Nat) : ∀ n, sumW p c a (m + n) = sumW p c a m + sumW p c (a + m) n
  | 0 => by simp [sumW]
  | n + 1 => by
    show sumW p c a (m + n) + p (a + (m + n)) (c (a + (m + n))) = sumW p c a m + (sumW p c (a + m) n + p (a + m + n) (c (a + m + n)))
    rw [sumW_add p c a m n, Nat.add_assoc]
    omega
theorem sumW_one (p : Nat → Nat → Int) (c : Nat → Nat) (a : Nat) : sumW p c a 1 = p a (c a) := by simp [sumW]
theorem sumW_cons (p : Nat → Nat → Int) (c : Nat → Nat) (a n : Nat) : sumW p c a (n + 1) = p a (c a) + sumW p c (a + 1) n := by
  rw [Nat.add_comm n 1, sumW_add, sumW_one]
theorem sumW_congr (p : Nat → Nat → Int) {c c' : Nat → Nat} (a : Nat) : ∀ n, (∀ t, a ≤ t → t < a + n → c t = c' t) → sumW p c a n = sumW p c' a n
  | 0, _ => rfl
  | n + 1, h => by
    show sumW p c a n + p (a + n) (c (a + n)) = sumW p c' a n + p (a + n) (c' (a + n))
    rw [sumW_congr p a n fun t h1 h2 => h t h1 (by omega), h (a + n) (by omega) (by omega)]
theorem sumW_pos {p : Nat → Nat → Int} {c : Nat → Nat} (a : Nat) : ∀ n, (∀ t, a ≤ t → t < a + n → 0 ≤ p t (c t)) → 0 ≤ sumW p c a n
  | 0, _ => Int.le_refl _
  | n + 1, h => by
    have h1 := sumW_pos a n fun t h1 h2 => h t h1 (by omega)
    have h2 := h (a + n) (by omega) (by omega)
    show 0 ≤ sumW p c a n + p (a + n) (c (a + n))
    omega
theorem sumW_le {p : Nat → Nat → Int} {c : Nat → Nat} (a : Nat) : ∀ n, (∀ t, a ≤ t → t < a + n → 0 ≤ p t (c t)) → ∀ t, a ≤ t → t < a + n → p t (c t) ≤ sumW p c a n
  | 0, _, t, h1, h2 => by omega
  | n + 1, h, t, h1, h2 => by
    have h3 := sumW_pos a n fun t h1 h2 => h t h1 (by omega)
    have h4 := h (a + n) (by omega) (by omega)
    show p t (c t) ≤ sumW p c a n + p (a + n) (c (a + n))
    by_cases e : t = a + n
    · subst e; omega
    · have := sumW_le a n (fun t h1 h2 => h t h1 (by omega)) t h1 (by omega)
      omega
structure Seg (x : Ds) (fl : Nat → Nat → Bool) (c : Nat → Nat) (a b : Nat) : Prop where
  lt : ∀ t, a ≤ t → t < b → c t < x.ch.cells
  fl : ∀ t, a ≤ t → t < b → fl t (c t) = true
  hop : ∀ t, a ≤ t → t + 1 < b → hops x (c t) (c (t + 1)) = true
theorem Seg.sub {x : Ds} {fl : Nat → Nat → Bool} {c : Nat → Nat} {a b a' b' : Nat} (h : Seg x fl c a b) (ha : a ≤ a') (hb : b' ≤ b) : Seg x fl c a' b' :=
  ⟨fun t h1 h2 => h.lt t (by omega) (by omega), fun t h1 h2 => h.fl t (by omega) (by omega), fun t h1 h2 => h.hop t (by omega) (by omega)⟩
theorem pay_inv {x : Ds} {fl : Nat → Bool} {p : Nat → Int} {prev : List Int} {i : Nat} (hi : i < x.ch.cells) (hs : hops x i i = true) (h : payV x fl p prev i < topN) :
    fl i = true ∧ ∃ j, j < x.ch.cells ∧ hops x i j = true ∧ payV x fl p prev i = p i + prev.getD j 0 := by
  have h0 := upto_pos hi hs
  have hm : cheapM (fun j => prev.getD j 0) ((upto (hops x i) x.ch.cells).headD 0) (upto (hops x i) x.ch.cells) ∈ upto (hops x i) x.ch.cells := by
    rcases cheapM_mem (fun j => prev.getD j 0) (upto (hops x i) x.ch.cells) ((upto (hops x i) x.ch.cells).headD 0) with e | e
    · rw [e, headD_zero h0]; exact List.getElem_mem h0
    · exact e
  obtain ⟨m1, m2⟩ := upto_mem.1 hm
  unfold payV at h ⊢
  generalize cheapM (fun j => prev.getD j 0) ((upto (hops x i) x.ch.cells).headD 0) (upto (hops x i) x.ch.cells) = m at *
  split at h
  · rename_i hc
    rw [if_pos hc]
    simp only [Bool.and_eq_true] at hc
    exact ⟨hc.1, m, m1, m2, by omega⟩
  · exact absurd h (by omega)
theorem zero_get (n i : Nat) : (List.replicate n (0 : Int)).getD i 0 = 0 := by
  rw [List.getD_eq_getElem?_getD, List.getElem?_replicate]
  split <;> rfl
theorem back_le {x : Ds} (hs : ∀ i, hops x i i = true) {fl : Nat → Nat → Bool} {p : Nat → Nat → Int} {c : Nat → Nat} : ∀ s, s < x.ch.ticks → Seg x fl c (x.ch.ticks - 1 - s) x.ch.ticks → (∀ t, x.ch.ticks - 1 - s ≤ t → t < x.ch.ticks → p t (c t) < topN) →
    (backN x fl p (s + 1)).getD (c (x.ch.ticks - 1 - s)) 0 ≤ sumW p c (x.ch.ticks - 1 - s) (s + 1)
  | 0, h, hc, hp => by
    have hl := hc.lt (x.ch.ticks - 1 - 0) (by omega) (by omega)
    show (payN x (fl (x.ch.ticks - 1 - 0)) (p (x.ch.ticks - 1 - 0)) (backN x fl p 0)).getD _ 0 ≤ _
    rw [payN_get _ _ _ _ hl, sumW_one]
    have h1 := payV_le (prev := backN x fl p 0) hl (hs _) (hc.fl (x.ch.ticks - 1 - 0) (by omega) (by omega)) (p := p (x.ch.ticks - 1 - 0)) (hp _ (by omega) (by omega)) hl (hs _)
    have hz : (backN x fl p 0).getD (c (x.ch.ticks - 1 - 0)) 0 = 0 := zero_get _ _
    omega
  | s + 1, h, hc, hp => by
    have e : x.ch.ticks - 1 - (s + 1) + 1 = x.ch.ticks - 1 - s := by omega
    have ih := back_le hs s (by omega) (hc.sub (by omega) (Nat.le_refl _)) fun t h1 h2 => hp t (by omega) h2
    have hl := hc.lt (x.ch.ticks - 1 - (s + 1)) (by omega) (by omega)
    have hl2 := hc.lt (x.ch.ticks - 1 - s) (by omega) (by omega)
    have hh := hc.hop (x.ch.ticks - 1 - (s + 1)) (by omega) (by omega)
    rw [e] at hh
    show (payN x (fl (x.ch.ticks - 1 - (s + 1))) (p (x.ch.ticks - 1 - (s + 1))) (backN x fl p (s + 1))).getD _ 0 ≤ _
    rw [payN_get _ _ _ _ hl, sumW_cons, e]
    have h1 := payV_le (prev := backN x fl p (s + 1)) hl (hs _) (hc.fl (x.ch.ticks - 1 - (s + 1)) (by omega) (by omega)) (p := p (x.ch.ticks - 1 - (s + 1))) (hp _ (by omega) (by omega)) hl2 hh
    omega
theorem back_way {x : Ds} (hs : ∀ i, hops x i i = true) {fl : Nat → Nat → Bool} {p : Nat → Nat → Int} (hp0 : ∀ k i, k < x.ch.ticks → i < x.ch.cells → 0 ≤ p k i) : ∀ s, s < x.ch.ticks → ∀ i, i < x.ch.cells → (backN x fl p (s + 1)).getD i 0 < topN →
    ∃ c, c (x.ch.ticks - 1 - s) = i ∧ Seg x fl c (x.ch.ticks - 1 - s) x.ch.ticks ∧ sumW p c (x.ch.ticks - 1 - s) (s + 1) = (backN x fl p (s + 1)).getD i 0
  | 0, h, i, hi, hb => by
    have e : (backN x fl p (0 + 1)).getD i 0 = payV x (fl (x.ch.ticks - 1 - 0)) (p (x.ch.ticks - 1 - 0)) (backN x fl p 0) i := payN_get _ _ _ _ hi
    rw [e] at hb ⊢
    obtain ⟨h1, j, h2, h3, h4⟩ := pay_inv hi (hs i) hb
    have hz : (backN x fl p 0).getD j 0 = 0 := zero_get _ _
    refine ⟨fun _ => i, rfl, ⟨fun t _ _ => hi, fun t t1 t2 => ?_, fun t t1 t2 => hs i⟩, ?_⟩
    · have : t = x.ch.ticks - 1 - 0 := by omega
      subst this; exact h1
    · rw [h4, hz, sumW_one]; omega
  | s + 1, h, i, hi, hb => by
    have e : (backN x fl p (s + 1 + 1)).getD i 0 = payV x (fl (x.ch.ticks - 1 - (s + 1))) (p (x.ch.ticks - 1 - (s + 1))) (backN x fl p (s + 1)) i := payN_get _ _ _ _ hi
    rw [e] at hb ⊢
    obtain ⟨h1, j, h2, h3, h4⟩ := pay_inv hi (hs i) hb
    have hpi := hp0 (x.ch.ticks - 1 - (s + 1)) i (by omega) hi
    obtain ⟨c, c1, c2, c3⟩ := back_way (fl := fl) hs hp0 s (by omega) j h2 (by omega)
    have e1 : x.ch.ticks - 1 - (s + 1) + 1 = x.ch.ticks - 1 - s := by omega
    refine ⟨fun t => if t = x.ch.ticks - 1 - (s + 1) then i else c t, by simp, ⟨fun t t1 t2 => ?_, fun t t1 t2 => ?_, fun t t1 t2 => ?_⟩, ?_⟩
    · by_cases ht : t = x.ch.ticks - 1 - (s + 1)
      · simp only [ht, if_true]; exact hi
      · simp only [ht, if_false]; exact c2.lt t (by omega) t2
    · by_cases ht : t = x.ch.ticks - 1 - (s + 1)
      · simp only [ht, if_true]; exact h1
      · simp only [ht, if_false]; exact c2.fl t (by omega) t2
    · by_cases ht : t = x.ch.ticks - 1 - (s + 1)
      · have : ¬ t + 1 = x.ch.ticks - 1 - (s + 1) := by omega
        simp only [this, if_false]
        rw [if_pos ht, ht, e1, c1]; exact h3
      · have : ¬ t + 1 = x.ch.ticks - 1 - (s + 1) := by omega
        simp only [ht, this, if_false]; exact c2.hop t (by omega) t2
    · rw [sumW_cons, e1, h4, ← c3]
      simp only [if_true]
      rw [sumW_congr p (c' := c) _ _ fun t t1 t2 => by rw [if_neg (by omega)]]
end Go.Proofs.YtddnloghclemjaaGreatDoor
namespace Go.Proofs.YtddnloghclemjaaGreatDoor
open Go Go.RowKit
theorem fore_le {x : Ds} (hs : ∀ i, hops x i i = true) (hsym : ∀ i k, hops x i k = hops x k i) {fl : Nat → Nat → Bool} {p : Nat → Nat → Int} {c : Nat → Nat} : ∀ s, Seg x fl c 0 (s + 1) → (∀ t, t ≤ s → p t (c t) < topN) →
    (foreN x fl p (s + 1)).getD (c s) 0 ≤ sumW p c 0 (s + 1)
  | 0, hc, hp => by
    have hl := hc.lt 0 (by omega) (by omega)
    show (payN x (fl 0) (p 0) (foreN x fl p 0)).getD _ 0 ≤ _
    rw [payN_get _ _ _ _ hl, sumW_one]
    have h1 := payV_le (prev := foreN x fl p 0) hl (hs _) (hc.fl 0 (by omega) (by omega)) (p := p 0) (hp _ (by omega)) hl (hs _)
    have hz : (foreN x fl p 0).getD (c 0) 0 = 0 := zero_get _ _
    omega
  | s + 1, hc, hp => by
    have ih := fore_le hs hsym s (hc.sub (by omega) (by omega)) fun t h2 => hp t (by omega)
    have hl := hc.lt (s + 1) (by omega) (by omega)
    have hl2 := hc.lt s (by omega) (by omega)
    have hh := hc.hop s (by omega) (by omega)
    rw [hsym] at hh
    show (payN x (fl (s + 1)) (p (s + 1)) (foreN x fl p (s + 1))).getD _ 0 ≤ sumW p c 0 (s + 1) + p (0 + (s + 1)) (c (0 + (s + 1)))
    rw [payN_get _ _ _ _ hl, Nat.zero_add]
    have h1 := payV_le (prev := foreN x fl p (s + 1)) hl (hs _) (hc.fl (s + 1) (by omega) (by omega)) (p := p (s + 1)) (hp _ (by omega)) hl2 hh
    omega
theorem fore_way {x : Ds} (hs : ∀ i, hops x i i = true) (hsym : ∀ i k, hops x i k = hops x k i) {fl : Nat → Nat → Bool} {p : Nat → Nat → Int} (hp0 : ∀ k i, k < x.ch.ticks → i < x.ch.cells → 0 ≤ p k i) : ∀ s, s < x.ch.ticks → ∀ i, i < x.ch.cells → (foreN x fl p (s + 1)).getD i 0 < topN →
    ∃ c, c s = i ∧ Seg x fl c 0 (s + 1) ∧ sumW p c 0 (s + 1) = (foreN x fl p (s + 1)).getD i 0
  | 0, h, i, hi, hb => by
    have e : (foreN x fl p (0 + 1)).getD i 0 = payV x (fl 0) (p 0) (foreN x fl p 0) i := payN_get _ _ _ _ hi
    rw [e] at hb ⊢
    obtain ⟨h1, j, h2, h3, h4⟩ := pay_inv hi (hs i) hb
    have hz : (foreN x fl p 0).getD j 0 = 0 := zero_get _ _
    refine ⟨fun _ => i, rfl, ⟨fun t _ _ => hi, fun t t1 t2 => ?_, fun t t1 t2 => hs i⟩, ?_⟩
    · have : t = 0 := by omega
      subst this; exact h1
    · rw [h4, hz, sumW_one]; omega
  | s + 1, h, i, hi, hb => by
    have e : (foreN x fl p (s + 1 + 1)).getD i 0 = payV x (fl (s + 1)) (p (s + 1)) (foreN x fl p (s + 1)) i := payN_get _ _ _ _ hi
    rw [e] at hb ⊢
    obtain ⟨h1, j, h2, h3, h4⟩ := pay_inv hi (hs i) hb
    have hpi := hp0 (s + 1) i (by omega) hi
    obtain ⟨c, c1, c2, c3⟩ := fore_way (fl := fl) hs hsym hp0 s (by omega) j h2 (by omega)
    refine ⟨fun t => if t = s + 1 then i else c t, by simp, ⟨fun t t1 t2 => ?_, fun t t1 t2 => ?_, fun t t1 t2 => ?_⟩, ?_⟩
    · by_cases ht : t = s + 1
      · simp only [ht, if_true]; exact hi
      · simp only [ht, if_false]; exact c2.lt t (by omega) (by omega)
    · by_cases ht : t = s + 1
      · simp only [ht, if_true]; exact h1
      · simp only [ht, if_false]; exact c2.fl t (by omega) (by omega)
    · by_cases ht : t + 1 = s + 1
      · have hts : t = s := by omega
        have : ¬ t = s + 1 := by omega
        simp only [this, if_false]
        rw [if_pos ht, hts, c1, hsym]; exact h3
      · have : ¬ t = s + 1 := by omega
        simp only [ht, this, if_false]; exact c2.hop t (by omega) (by omega)
    · show sumW p _ 0 (s + 1) + p (0 + (s + 1)) (if 0 + (s + 1) = s + 1 then i else c (0 + (s + 1))) = _
      rw [Nat.zero_add, if_pos rfl, h4, ← c3, sumW_congr p (c' := c) _ _ fun t t1 t2 => by rw [if_neg (by omega)]]
      omega
theorem within_way {x : Ds} (hs : ∀ i, hops x i i = true) (hsym : ∀ i k, hops x i k = hops x k i) {fl : Nat → Nat → Bool} {p : Nat → Nat → Int} (hp0 : ∀ k i, k < x.ch.ticks → i < x.ch.cells → 0 ≤ p k i) {t : Nat} (ht : t < x.ch.ticks) {i : Nat} (hi : i < x.ch.cells) {most : Int} (hm : most ≤ 1200) :
    withinB x fl p t most i = true ↔ ∃ c, c t = i ∧ Seg x fl c 0 x.ch.ticks ∧ sumW p c 0 x.ch.ticks ≤ most := by
  have hT : topN = 1201 := rfl
  have e1 : x.ch.ticks - 1 - (x.ch.ticks - 1 - t) = t := by omega
  have e2 : x.ch.ticks - 1 - t + 1 = x.ch.ticks - t := by omega
  unfold withinB
  rw [Bool.and_eq_true, decide_eq_true_eq, decide_eq_true_eq]
  constructor
  · rintro ⟨h1, h2⟩
    have hf : (foreN x fl p (t + 1)).getD i 0 < topN := Int.lt_of_le_of_lt (Int.le_max_left _ _) h1
    have hb : (backN x fl p (x.ch.ticks - t)).getD i 0 < topN := Int.lt_of_le_of_lt (Int.le_max_right _ _) h1
    obtain ⟨c, c1, c2, c3⟩ := fore_way hs hsym hp0 t ht i hi hf
    obtain ⟨c', d1, d2, d3⟩ := back_way (fl := fl) hs hp0 (x.ch.ticks - 1 - t) (by omega) i hi (by rw [e2]; exact hb)
    rw [e1] at d1 d2 d3
    rw [e2] at d3
    refine ⟨fun u => if u ≤ t then c u else c' u, by simp [c1], ⟨fun u u1 u2 => ?_, fun u u1 u2 => ?_, fun u u1 u2 => ?_⟩, ?_⟩
    · by_cases hu : u ≤ t
      · simp only [hu, if_true]; exact c2.lt u (by omega) (by omega)
      · simp only [hu, if_false]; exact d2.lt u (by omega) (by omega)
    · by_cases hu : u ≤ t
      · simp only [hu, if_true]; exact c2.fl u (by omega) (by omega)
      · simp only [hu, if_false]; exact d2.fl u (by omega) (by omega)
    · by_cases hu : u + 1 ≤ t
      · have : u ≤ t := by omega
        simp only [hu, this, if_true]; exact c2.hop u (by omega) (by omega)
      · by_cases hu2 : u = t
        · have h3 := d2.hop t (by omega) (by omega)
          rw [d1, ← c1] at h3
          subst hu2
          simp only [Nat.le_refl, hu, if_true, if_false]
          exact h3
        · have : ¬ u ≤ t := by omega
          simp only [hu, this, if_false]; exact d2.hop u (by omega) (by omega)
    · have e3 : x.ch.ticks = (t + 1) + (x.ch.ticks - 1 - t) := by omega
      rw [e3, sumW_add, Nat.zero_add]
      rw [sumW_congr p (c' := c) 0 (t + 1) fun u u1 u2 => by rw [if_pos (by omega)]]
      rw [sumW_congr p (c' := c') (t + 1) (x.ch.ticks - 1 - t) fun u u1 u2 => by rw [if_neg (by omega)]]
      have e4 : sumW p c' t (x.ch.ticks - t) = p t (c' t) + sumW p c' (t + 1) (x.ch.ticks - 1 - t) := by rw [← e2, sumW_cons]
      rw [e4, d1] at d3
      omega
  · rintro ⟨c, rfl, c2, c3⟩
    have hpc : ∀ u, 0 ≤ u → u < 0 + x.ch.ticks → 0 ≤ p u (c u) := fun u _ u2 => hp0 u _ (by omega) (c2.lt u (by omega) (by omega))
    have hpt : ∀ u, u < x.ch.ticks → p u (c u) < topN := fun u hu => by
      have := sumW_le 0 x.ch.ticks hpc u (by omega) (by omega)
      omega
    have h1 := fore_le hs hsym t (c2.sub (Nat.le_refl _) (by omega)) fun u hu => hpt u (by omega)
    have h2 := back_le hs (x.ch.ticks - 1 - t) (by omega) (by rw [e1]; exact c2.sub (by omega) (Nat.le_refl _)) (p := p) fun u _ hu => hpt u hu
    rw [e1, e2] at h2
    have e3 : x.ch.ticks = (t + 1) + (x.ch.ticks - 1 - t) := by omega
    have e4 : sumW p c t (x.ch.ticks - t) = p t (c t) + sumW p c (t + 1) (x.ch.ticks - 1 - t) := by rw [← e2, sumW_cons]
    have e5 : sumW p c 0 x.ch.ticks = sumW p c 0 (t + 1) + sumW p c (t + 1) (x.ch.ticks - 1 - t) := by
      have := sumW_add p c 0 (t + 1) (x.ch.ticks - 1 - t)
      rw [← e3, Nat.zero_add] at this
      exact this
    have h0 : 0 ≤ sumW p c (t + 1) (x.ch.ticks - 1 - t) := sumW_pos _ _ fun u u1 u2 => hpc u (by omega) (by omega)
    have h3 : 0 ≤ sumW p c 0 t := sumW_pos _ _ fun u u1 u2 => hpc u (by omega) (by omega)
    have h4 := hpc t (by omega) (by omega)
    have e6 : sumW p c 0 (t + 1) = sumW p c 0 t + p t (c t) := by
      show sumW p c 0 t + p (0 + t) (c (0 + t)) = _
      rw [Nat.zero_add]
    rw [e4] at h2
    refine ⟨?_, by omega⟩
    rw [Int.max_lt]
    constructor <;> omega
theorem least_way {x : Ds} (hs : ∀ i, hops x i i = true) (htk : 0 < x.ch.ticks) {fl : Nat → Nat → Bool} {p : Nat → Nat → Int} (hp0 : ∀ k i, k < x.ch.ticks → i < x.ch.cells → 0 ≤ p k i) (h : leastM (backN x fl p x.ch.ticks) x.ch.cells < topN) :
    ∃ c, Seg x fl c 0 x.ch.ticks ∧ sumW p c 0 x.ch.ticks = leastM (backN x fl p x.ch.ticks) x.ch.cells := by
  have hN : neverR = 1073741824 := rfl
  have hT : topN = 1201 := rfl
  have e1 : x.ch.ticks - 1 - (x.ch.ticks - 1) = 0 := by omega
  have e2 : x.ch.ticks - 1 + 1 = x.ch.ticks := by omega
  rcases bestOf_mem (fun _ => true) (fun j => (backN x fl p x.ch.ticks).getD j 0) x.ch.cells with h1 | ⟨j, j1, _, j3⟩
  · have : leastM (backN x fl p x.ch.ticks) x.ch.cells = neverR := h1
    omega
  · have h2 : leastM (backN x fl p x.ch.ticks) x.ch.cells = (backN x fl p x.ch.ticks).getD j 0 := j3
    obtain ⟨c, c1, c2, c3⟩ := back_way (fl := fl) (p := p) hs hp0 (x.ch.ticks - 1) (by omega) j j1 (by rw [e2]; omega)
    rw [e1] at c2 c3
    rw [e2] at c3
    exact ⟨c, c2, by rw [c3, h2]⟩
theorem least_min {x : Ds} (hs : ∀ i, hops x i i = true) (htk : 0 < x.ch.ticks) {fl : Nat → Nat → Bool} {p : Nat → Nat → Int} {c : Nat → Nat} (hc : Seg x fl c 0 x.ch.ticks) (hp : ∀ t, t < x.ch.ticks → p t (c t) < topN) :
    leastM (backN x fl p x.ch.ticks) x.ch.cells ≤ sumW p c 0 x.ch.ticks := by
  have e1 : x.ch.ticks - 1 - (x.ch.ticks - 1) = 0 := by omega
  have e2 : x.ch.ticks - 1 + 1 = x.ch.ticks := by omega
  have h1 := back_le hs (x.ch.ticks - 1) (by omega) (by rw [e1]; exact hc) (p := p) fun t _ ht => hp t ht
  rw [e1, e2] at h1
  have h2 := bestOf_le (fun _ => true) (fun j => (backN x fl p x.ch.ticks).getD j 0) x.ch.cells (c 0) (hc.lt 0 (by omega) htk) rfl
  have h3 : leastM (backN x fl p x.ch.ticks) x.ch.cells ≤ (backN x fl p x.ch.ticks).getD (c 0) 0 := h2
  omega
end Go.Proofs.YtddnloghclemjaaGreatDoor
namespace Go.Proofs.YtddnloghclemjaaGreatDoor
open Go Go.RowKit
theorem pay_fin2 {x : Ds} {fl : Nat → Bool} {p : Nat → Int} {prev : List Int} {i : Nat} (h : payV x fl p prev i < topN) :
    fl i = true ∧ payV x fl p prev i = p i + prev.getD (cheapM (fun j => prev.getD j 0) ((upto (hops x i) x.ch.cells).headD 0) (upto (hops x i) x.ch.cells)) 0 := by
  unfold payV at h ⊢
  generalize cheapM (fun j => prev.getD j 0) ((upto (hops x i) x.ch.cells).headD 0) (upto (hops x i) x.ch.cells) = m at *
  split at h
  · rename_i hc
    rw [if_pos hc]
    simp only [Bool.and_eq_true] at hc
    exact ⟨hc.1, by omega⟩
  · exact absurd h (by omega)
theorem cP_fin {x : Ds} (hok : ChOk x.ch) (hdo : dsOk x = true) {fl : Nat → Nat → Bool} {p : Nat → Nat → Int} (hp0 : ∀ k i, k < x.ch.ticks → i < x.ch.cells → 0 ≤ p k i) (h : leastM (backN x fl p x.ch.ticks) x.ch.cells < topN) :
    (backN x fl p x.ch.ticks).getD (cP x fl p 0) 0 = leastM (backN x fl p x.ch.ticks) x.ch.cells ∧ ∀ t, t < x.ch.ticks → (backN x fl p (x.ch.ticks - t)).getD (cP x fl p t) 0 < topN := by
  obtain ⟨p0, p1⟩ := hok.pos
  have hlt := fun t => (cP_lt hdo p0 fl p t).2
  have hT : topN = 1201 := rfl
  have h0 : (backN x fl p x.ch.ticks).getD (cP x fl p 0) 0 = leastM (backN x fl p x.ch.ticks) x.ch.cells := by
    have hup : 0 < (upto (fun _ => true) x.ch.cells).length := List.length_pos_of_mem (upto_mem.2 ⟨p0, rfl⟩)
    have := cheap_best (fun _ => true) (fun j => (backN x fl p x.ch.ticks).getD j 0) x.ch.cells hup (fun j _ => Int.le_trans (backN_bound hp0 _ (Nat.le_refl _) j).2 (by decide))
    have e : cP x fl p 0 = cheapM (fun j => (backN x fl p x.ch.ticks).getD j 0) ((upto (fun _ => true) x.ch.cells)[0]) (upto (fun _ => true) x.ch.cells) := by
      show cheapM _ ((upto (fun _ => true) x.ch.cells).headD 0) _ = _
      rw [headD_zero hup]
    rw [e]
    exact this
  refine ⟨h0, fun t => ?_⟩
  induction t with
  | zero => intro _; rw [Nat.sub_zero, h0]; exact h
  | succ t ih =>
    intro ht
    have h1 := ih (by omega)
    rw [show x.ch.ticks - t = (x.ch.ticks - (t + 1)) + 1 by omega] at h1
    have e : (backN x fl p (x.ch.ticks - (t + 1) + 1)).getD (cP x fl p t) 0 = payV x (fl (x.ch.ticks - 1 - (x.ch.ticks - (t + 1)))) (p (x.ch.ticks - 1 - (x.ch.ticks - (t + 1)))) (backN x fl p (x.ch.ticks - (t + 1))) (cP x fl p t) := payN_get _ _ _ _ (hlt t)
    rw [e] at h1
    obtain ⟨_, h2⟩ := pay_fin2 h1
    rw [h2] at h1
    have h3 := hp0 (x.ch.ticks - 1 - (x.ch.ticks - (t + 1))) (cP x fl p t) (by omega) (hlt t)
    have h4 : (backN x fl p (x.ch.ticks - (t + 1))).getD (cP x fl p (t + 1)) 0 = (backN x fl p (x.ch.ticks - (t + 1))).getD (cheapM (fun j => (backN x fl p (x.ch.ticks - (t + 1))).getD j 0) ((upto (hops x (cP x fl p t)) x.ch.cells).headD 0) (upto (hops x (cP x fl p t)) x.ch.cells)) 0 := rfl
    rw [h4]
    omega
theorem cP_seg {x : Ds} (hok : ChOk x.ch) (hdo : dsOk x = true) {fl : Nat → Nat → Bool} {p : Nat → Nat → Int} (hp0 : ∀ k i, k < x.ch.ticks → i < x.ch.cells → 0 ≤ p k i) (h : leastM (backN x fl p x.ch.ticks) x.ch.cells < topN) :
    Seg x fl (cP x fl p) 0 x.ch.ticks ∧ sumW p (cP x fl p) 0 x.ch.ticks = leastM (backN x fl p x.ch.ticks) x.ch.cells := by
  obtain ⟨p0, p1⟩ := hok.pos
  have htk0 : 0 < x.ch.ticks := hok.2.2.2.1.1
  have hlt := fun t => (cP_lt hdo p0 fl p t).2
  obtain ⟨f0, fin⟩ := cP_fin hok hdo hp0 h
  have step : ∀ t, t < x.ch.ticks → fl t (cP x fl p t) = true ∧ (backN x fl p (x.ch.ticks - t)).getD (cP x fl p t) 0 = p t (cP x fl p t) + (backN x fl p (x.ch.ticks - (t + 1))).getD (cP x fl p (t + 1)) 0 := by
    intro t ht
    have h1 := fin t ht
    have e0 : x.ch.ticks - t = (x.ch.ticks - (t + 1)) + 1 := by omega
    have e1 : x.ch.ticks - 1 - (x.ch.ticks - (t + 1)) = t := by omega
    rw [e0] at h1 ⊢
    have e : (backN x fl p (x.ch.ticks - (t + 1) + 1)).getD (cP x fl p t) 0 = payV x (fl (x.ch.ticks - 1 - (x.ch.ticks - (t + 1)))) (p (x.ch.ticks - 1 - (x.ch.ticks - (t + 1)))) (backN x fl p (x.ch.ticks - (t + 1))) (cP x fl p t) := payN_get _ _ _ _ (hlt t)
    rw [e, e1] at h1
    rw [e, e1]
    obtain ⟨h2, h3⟩ := pay_fin2 h1
    exact ⟨h2, h3⟩
  refine ⟨⟨fun t _ _ => hlt t, fun t _ ht => (step t ht).1, fun t _ ht => ?_⟩, ?_⟩
  · have hp := cP_lt hdo p0 fl p (t + 1)
    have e := cP_eq x fl p (t + 1)
    rw [headD_zero hp.1] at e
    have hm : cP x fl p (t + 1) ∈ nextL x fl p (t + 1) := by
      rw [e]
      rcases cheapM_mem (fun j => (backN x fl p (x.ch.ticks - (t + 1))).getD j 0) (nextL x fl p (t + 1)) (nextL x fl p (t + 1))[0] with h | h
      · rw [h]; exact List.getElem_mem _
      · exact h
    exact (upto_mem.1 hm).2
  · have key : ∀ s, s ≤ x.ch.ticks → sumW p (cP x fl p) (x.ch.ticks - s) s = (backN x fl p s).getD (cP x fl p (x.ch.ticks - s)) 0 := by
      intro s
      induction s with
      | zero => intro _; exact (zero_get _ _).symm
      | succ s ih =>
        intro hs
        have h1 := ih (by omega)
        have h2 := (step (x.ch.ticks - (s + 1)) (by omega)).2
        rw [show x.ch.ticks - (x.ch.ticks - (s + 1)) = s + 1 by omega, show x.ch.ticks - (s + 1) + 1 = x.ch.ticks - s by omega, show x.ch.ticks - (x.ch.ticks - s) = s by omega] at h2
        rw [sumW_cons, show x.ch.ticks - (s + 1) + 1 = x.ch.ticks - s by omega, h1, h2]
    have := key x.ch.ticks (Nat.le_refl _)
    rw [Nat.sub_self] at this
    rw [this, f0]
def costL (x : Ds) : List Rep → Nat → Nat → Int
  | [], _, _ => 0
  | q :: l, k, i => (if denies x k q i then q.w else 0) + costL x l k i
def sureL (x : Ds) : List Rep → Nat → Nat → Bool
  | [], _, _ => false
  | q :: l, k, i => (denies x k q i && q.sure) || sureL x l k i
theorem dbGo_cost (x : Ds) (k i : Nat) : ∀ (l : List Rep) (m : Nat), x.reps.drop m = l → ∀ n : Int,
    dbGo x ((List.range' m l.length).filter (denyB x k i)) n = if sureL x l k i then 1201 else n + costL x l k i
  | [], m, _, n => by simp [dbGo, sureL, costL]
  | q :: l, m, h, n => by
    have hq : x.reps[m]? = some q := by
      have : (x.reps.drop m)[0]? = some q := by rw [h]; rfl
      simpa using this
    have ih := dbGo_cost x k i l (m + 1) (by rw [← List.drop_drop, h]; rfl)
    have hd : denyB x k i m = denies x k q i := by unfold denyB; rw [hq]
    rw [List.length_cons, List.range'_succ, List.filter_cons, hd]
    show _ = if ((denies x k q i && q.sure) || sureL x l k i) = true then 1201 else n + ((if denies x k q i then q.w else 0) + costL x l k i)
    cases hc : denies x k q i with
    | false =>
      simp only [Bool.false_eq_true, if_false, Bool.false_and, Bool.false_or]
      rw [ih n, Int.zero_add]
    | true =>
      simp only [if_true, Bool.true_and]
      have e : dbGo x (m :: (List.range' (m + 1) l.length).filter (denyB x k i)) n = if q.sure then 1201 else dbGo x ((List.range' (m + 1) l.length).filter (denyB x k i)) (n + q.w) := by
        show (match x.reps[m]? with | some q => if q.sure then 1201 else dbGo x _ (n + q.w) | none => n) = _
        rw [hq]
      rw [e]
      cases q.sure with
      | true => simp only [if_true, Bool.true_or]
      | false =>
        simp only [Bool.false_eq_true, if_false, Bool.false_or]
        rw [ih (n + q.w), Int.add_assoc]
theorem doubtP_cost (x : Ds) (hdo : dsOk x = true) (k i : Nat) : doubtP x k i = if sureL x x.reps k i then 1201 else costL x x.reps k i := by
  have := dbGo_cost x k i x.reps 0 rfl 0
  unfold doubtP
  rw [membL_deny x k i (fx_reps hdo), this, Int.zero_add]
theorem sumW_plus (a b : Nat → Nat → Int) (c : Nat → Nat) (s : Nat) : ∀ n, sumW (fun k i => a k i + b k i) c s n = sumW a c s n + sumW b c s n
  | 0 => rfl
  | n + 1 => by
    show sumW (fun k i => a k i + b k i) c s n + (a (s + n) (c (s + n)) + b (s + n) (c (s + n))) = sumW a c s n + a (s + n) (c (s + n)) + (sumW b c s n + b (s + n) (c (s + n)))
    rw [sumW_plus a b c s n]
    omega
theorem sumW_zero (c : Nat → Nat) (s : Nat) : ∀ n, sumW (fun _ _ => 0) c s n = 0
  | 0 => rfl
  | n + 1 => by
    show sumW (fun _ _ => 0) c s n + 0 = 0
    rw [sumW_zero c s n]; rfl
theorem sumW_single (x : Ds) (q : Rep) (c : Nat → Nat) {k : Nat} (hk : q.tick = (k : Nat)) : ∀ n, sumW (fun t i => if denies x t q i then q.w else 0) c 0 n = if k < n ∧ holdsM x.ch.w q (c k) = false then q.w else 0
  | 0 => by simp [sumW]
  | n + 1 => by
    show sumW (fun t i => if denies x t q i then q.w else 0) c 0 n + (if denies x (0 + n) q (c (0 + n)) then q.w else 0) = _
    rw [sumW_single x q c hk n, Nat.zero_add]
    have hd : denies x n q (c n) = ((k : Int) == (n : Int) && !holdsM x.ch.w q (c n)) := by unfold denies; rw [hk]
    rw [hd]
    by_cases hkn : k = n
    · subst hkn
      rw [if_neg (by omega)]
      cases holdsM x.ch.w q (c k) <;> simp
    · have h1 : ((k : Int) == (n : Int)) = false := by
        rw [beq_eq_false_iff_ne]; omega
      rw [h1]
      have h2 : (k < n + 1) ↔ (k < n) := by omega
      simp [h2]
theorem dsum_cost (x : Ds) (c : Nat → Nat) (cs : List Int) (hcs : ∀ t, t < x.ch.ticks → cs.getD t 0 = (c t : Nat)) : ∀ (l : List Rep), (∀ q ∈ l, inN x.ch.ticks q.tick = true) → ∀ (n : Int) (b : Bool),
    (dsumM x.ch.w cs l n b).1 = n + sumW (costL x l) c 0 x.ch.ticks ∧ ((dsumM x.ch.w cs l n b).2 = true ↔ b = true ∧ ∀ t, t < x.ch.ticks → sureL x l t (c t) = false)
  | [], _, n, b => by
    refine ⟨?_, ?_⟩
    · show n = n + sumW (fun _ _ => 0) c 0 x.ch.ticks
      rw [sumW_zero]; omega
    · show b = true ↔ _
      simp [sureL]
  | q :: l, hl, n, b => by
    obtain ⟨k, hk, ek⟩ := inN_iff.1 (hl q (by simp))
    have ih := dsum_cost x c cs hcs l fun q hq => hl q (by simp [hq])
    have e : dsumM x.ch.w cs (q :: l) n b = if holdsM x.ch.w q (c k) then dsumM x.ch.w cs l n b else dsumM x.ch.w cs l (n + q.w) (b && !q.sure) := by
      show (if holdsM x.ch.w q (cs.getD q.tick.toNat 0).toNat then _ else _) = _
      rw [ek, Int.toNat_natCast, hcs k hk, Int.toNat_natCast]
    have hs : sumW (costL x (q :: l)) c 0 x.ch.ticks = (if k < x.ch.ticks ∧ holdsM x.ch.w q (c k) = false then q.w else 0) + sumW (costL x l) c 0 x.ch.ticks := by
      rw [← sumW_single x q c ek, ← sumW_plus]
      rfl
    have hsu : (∀ t, t < x.ch.ticks → sureL x (q :: l) t (c t) = false) ↔ (holdsM x.ch.w q (c k) = true ∨ q.sure = false) ∧ ∀ t, t < x.ch.ticks → sureL x l t (c t) = false := by
      have ed : ∀ t, sureL x (q :: l) t (c t) = ((((k : Int) == (t : Int) && !holdsM x.ch.w q (c t)) && q.sure) || sureL x l t (c t)) := fun t => by
        show ((denies x t q (c t) && q.sure) || _) = _
        unfold denies; rw [ek]
      constructor
      · intro h
        refine ⟨?_, fun t ht => ?_⟩
        · have := h k hk
          rw [ed, beq_self_eq_true] at this
          cases hh : holdsM x.ch.w q (c k) <;> cases hq : q.sure <;> simp_all
        · have := h t ht
          rw [ed, Bool.or_eq_false_iff] at this
          exact this.2
      · rintro ⟨h1, h2⟩ t ht
        rw [ed, h2 t ht, Bool.or_false]
        by_cases hkt : k = t
        · subst hkt
          rcases h1 with h1 | h1 <;> simp [h1]
        · have : ((k : Int) == (t : Int)) = false := by rw [beq_eq_false_iff_ne]; omega
          simp [this]
    rw [e, hs, hsu]
    cases hh : holdsM x.ch.w q (c k) with
    | true =>
      obtain ⟨i1, i2⟩ := ih n b
      simp only [if_true, Bool.true_eq_false, and_false, if_false, true_or, true_and]
      exact ⟨by rw [i1]; omega, i2⟩
    | false =>
      obtain ⟨i1, i2⟩ := ih (n + q.w) (b && !q.sure)
      simp only [Bool.false_eq_true, if_false, hk, true_and, if_true, false_or]
      refine ⟨by rw [i1]; omega, ?_⟩
      rw [i2]
      cases b <;> cases q.sure <;> simp
end Go.Proofs.YtddnloghclemjaaGreatDoor
namespace Go.Proofs.YtddnloghclemjaaGreatDoor
open Go Go.RowKit
theorem rep_tick {x : Ds} (hdo : dsOk x = true) : ∀ q ∈ x.reps, inN x.ch.ticks q.tick = true := by
  intro q hq
  unfold dsOk at hdo
  simp only [Bool.and_eq_true, decide_eq_true_eq, List.all_eq_true] at hdo
  have := hdo.2 q hq
  unfold repOk at this
  simp only [Bool.and_eq_true] at this
  exact this.1.1.1
theorem seg_ok {x : Ds} {c : Nat → Nat} (hc : Seg x (mayF x) c 0 x.ch.ticks) {cs : List Int} (hcs : ∀ t, t < x.ch.ticks → cs.getD t 0 = (c t : Nat)) : ∀ j, j < x.ch.ticks → okC x cs j = true := by
  intro j hj
  unfold okC
  rw [hcs j hj, Int.toNat_natCast, inN_iff.2 ⟨c j, hc.lt j (by omega) hj, rfl⟩, Bool.true_and]
  have h1 : x.ch.may x.g (c j) j = true := hc.fl j (by omega) hj
  rw [h1, Bool.true_and]
  by_cases h0 : j = 0
  · subst h0; rfl
  · have h2 := hc.hop (j - 1) (by omega) (by omega)
    rw [show j - 1 + 1 = j by omega] at h2
    rw [hcs (j - 1) (by omega), Int.toNat_natCast, h2, Bool.or_true]
theorem ok_seg {x : Ds} {cs : List Int} (h : ∀ j, j < x.ch.ticks → okC x cs j = true) : Seg x (mayF x) (fun t => (cs.getD t 0).toNat) 0 x.ch.ticks ∧ ∀ t, t < x.ch.ticks → cs.getD t 0 = ((cs.getD t 0).toNat : Nat) := by
  have key : ∀ t, t < x.ch.ticks → cs.getD t 0 = ((cs.getD t 0).toNat : Nat) ∧ (cs.getD t 0).toNat < x.ch.cells := fun t ht => by
    obtain ⟨i, hi, e⟩ := okC_in (h t ht)
    rw [e, Int.toNat_natCast]
    exact ⟨rfl, hi⟩
  refine ⟨⟨fun t _ ht => (key t ht).2, fun t _ ht => ?_, fun t _ ht => ?_⟩, fun t ht => (key t ht).1⟩
  · have := h t ht
    unfold okC at this
    simp only [Bool.and_eq_true] at this
    exact this.2.1
  · have := h (t + 1) ht
    unfold okC at this
    simp only [Bool.and_eq_true, Bool.or_eq_true] at this
    rcases this.2.2 with h1 | h1
    · exact absurd h1 (by simp)
    · exact h1
theorem sumW_ext {p p' : Nat → Nat → Int} (c : Nat → Nat) (a : Nat) : ∀ n, (∀ t, a ≤ t → t < a + n → p t (c t) = p' t (c t)) → sumW p c a n = sumW p' c a n
  | 0, _ => rfl
  | n + 1, h => by
    show sumW p c a n + p (a + n) (c (a + n)) = sumW p' c a n + p' (a + n) (c (a + n))
    rw [sumW_ext c a n fun t h1 h2 => h t h1 (by omega), h (a + n) (by omega) (by omega)]
theorem doubted_seg {x : Ds} (hdo : dsOk x = true) {c : Nat → Nat} (hc : Seg x (mayF x) c 0 x.ch.ticks) {cs : List Int} (hl : cs.length = x.ch.ticks) (hcs : ∀ t, t < x.ch.ticks → cs.getD t 0 = (c t : Nat)) :
    (doubtedM x cs).2.2 = true ∧ ((doubtedM x cs).2.1 = true → (doubtedM x cs).1 = sumW (doubtP x) c 0 x.ch.ticks) ∧ ((doubtedM x cs).2.1 = false → ∃ t, t < x.ch.ticks ∧ doubtP x t (c t) = 1201) := by
  obtain ⟨d1, d2⟩ := dsum_cost x c cs hcs x.reps (rep_tick hdo) 0 true
  have e : doubtedM x cs = ((dsumM x.ch.w cs x.reps 0 true).1, (dsumM x.ch.w cs x.reps 0 true).2, true) := by
    unfold doubtedM; rw [if_pos ⟨hl, seg_ok hc hcs⟩]
  rw [e]
  refine ⟨rfl, fun h => ?_, fun h => ?_⟩
  · have h1 := (d2.1 h).2
    show (dsumM x.ch.w cs x.reps 0 true).1 = _
    rw [d1, Int.zero_add]
    exact sumW_ext c 0 _ fun t _ ht => by
      rw [doubtP_cost x hdo, h1 t (by omega)]
      rfl
  · by_cases hall : ∀ t, t < x.ch.ticks → sureL x x.reps t (c t) = false
    · have h2 := d2.2 ⟨rfl, hall⟩
      have h3 : (dsumM x.ch.w cs x.reps 0 true).2 = false := h
      rw [h2] at h3; cases h3
    · obtain ⟨t, h0⟩ := Classical.not_forall.1 hall
      obtain ⟨ht, h1⟩ := Classical.not_imp.1 h0
      rw [Bool.not_eq_false] at h1
      exact ⟨t, ht, by rw [doubtP_cost x hdo, h1]; rfl⟩
theorem doubted_sum {x : Ds} (hdo : dsOk x = true) {c : Nat → Nat} (hc : Seg x (mayF x) c 0 x.ch.ticks) {cs : List Int} (hl : cs.length = x.ch.ticks) (hcs : ∀ t, t < x.ch.ticks → cs.getD t 0 = (c t : Nat)) (h : sumW (doubtP x) c 0 x.ch.ticks < topN) :
    doubtedM x cs = (sumW (doubtP x) c 0 x.ch.ticks, true, true) := by
  obtain ⟨h1, h2, h3⟩ := doubted_seg hdo hc hl hcs
  have hT : topN = 1201 := rfl
  cases hb : (doubtedM x cs).2.1 with
  | true => exact Prod.ext (h2 hb) (Prod.ext hb h1)
  | false =>
    obtain ⟨t, ht, e⟩ := h3 hb
    have := sumW_le (p := doubtP x) (c := c) 0 x.ch.ticks (fun t _ _ => (doubt_bound hdo t _).1) t (by omega) (by omega)
    omega
theorem dsum_le (w : Int) (cs : List Int) : ∀ (l : List Rep) (n : Int) (b : Bool), (∀ q ∈ l, 0 ≤ q.w ∧ q.w ≤ 100) → n ≤ (dsumM w cs l n b).1 ∧ (dsumM w cs l n b).1 ≤ n + 100 * l.length
  | [], n, b, _ => by simp [dsumM]
  | q :: l, n, b, h => by
    have hq := h q (by simp)
    show n ≤ (if _ then dsumM w cs l n b else dsumM w cs l (n + q.w) (b && !q.sure)).1 ∧ (if _ then dsumM w cs l n b else dsumM w cs l (n + q.w) (b && !q.sure)).1 ≤ _
    have hl : (q :: l).length = l.length + 1 := rfl
    split
    · have := dsum_le w cs l n b fun z hz => h z (by simp [hz])
      omega
    · have := dsum_le w cs l (n + q.w) (b && !q.sure) fun z hz => h z (by simp [hz])
      omega
theorem doubted_le {x : Ds} (hdo : dsOk x = true) (cs : List Int) : 0 ≤ (doubtedM x cs).1 ∧ (doubtedM x cs).1 ≤ 1200 := by
  have h1 := dsum_le x.ch.w cs x.reps 0 true (rep_w hdo).2
  have h2 := fx_reps hdo
  unfold doubtedM
  split
  · simp only; omega
  · simp only; omega
theorem doubted_inv {x : Ds} (hdo : dsOk x = true) {cs : List Int} (h : (doubtedM x cs).2.2 = true) : cs.length = x.ch.ticks ∧ ∃ c, Seg x (mayF x) c 0 x.ch.ticks ∧ (∀ t, t < x.ch.ticks → cs.getD t 0 = (c t : Nat)) ∧ ((doubtedM x cs).2.1 = true → sumW (doubtP x) c 0 x.ch.ticks = (doubtedM x cs).1) := by
  by_cases hc : cs.length = x.ch.ticks ∧ (∀ j, j < x.ch.ticks → okC x cs j = true)
  · obtain ⟨h1, h2⟩ := ok_seg hc.2
    refine ⟨hc.1, _, h1, h2, fun hb => ?_⟩
    exact ((doubted_seg hdo h1 hc.1 h2).2.1 hb).symm
  · exfalso
    unfold doubtedM at h
    rw [if_neg hc] at h
    cases h
theorem cost_zero {x : Ds} {k i : Nat} : ∀ (l : List Rep), (∀ q ∈ l, weightOk q = true) → (((sureL x l k i = false) ∧ costL x l k i ≤ 0) ↔ ∀ q ∈ l, denies x k q i = false) ∧ 0 ≤ costL x l k i
  | [], _ => by simp [sureL, costL]
  | q :: l, h => by
    obtain ⟨ih, ih0⟩ := cost_zero l fun z hz => h z (by simp [hz])
    have hq := h q (by simp)
    unfold weightOk at hq
    have e1 : sureL x (q :: l) k i = ((denies x k q i && q.sure) || sureL x l k i) := rfl
    have e2 : costL x (q :: l) k i = (if denies x k q i then q.w else 0) + costL x l k i := rfl
    rw [e1, e2, List.forall_mem_cons, ← ih]
    cases hd : denies x k q i with
    | false => simp; exact ih0
    | true =>
      cases hs : q.sure with
      | true => rw [hs] at hq; simp at hq; simp [hq]; exact ih0
      | false =>
        rw [hs] at hq
        simp at hq
        simp
        refine ⟨fun _ => by omega, by omega⟩
theorem rep_weight {x : Ds} (hdo : dsOk x = true) : ∀ q ∈ x.reps, weightOk q = true := by
  intro q hq
  unfold dsOk at hdo
  simp only [Bool.and_eq_true, decide_eq_true_eq, List.all_eq_true] at hdo
  have := hdo.2 q hq
  unfold repOk at this
  simp only [Bool.and_eq_true] at this
  exact this.1.2
theorem doubtP_zero {x : Ds} (hdo : dsOk x = true) (k i : Nat) : doubtP x k i ≤ 0 ↔ ∀ q ∈ x.reps, denies x k q i = false := by
  obtain ⟨h1, h2⟩ := cost_zero (x := x) (k := k) (i := i) x.reps (rep_weight hdo)
  rw [doubtP_cost x hdo, ← h1]
  cases sureL x x.reps k i <;> simp
theorem allP_zero {x : Ds} (k i : Nat) : allP x k i ≤ 0 ↔ ∀ q ∈ x.reps, denies x k q i = false := by
  have h1 : (denyM x k i x.reps.length = 0) ↔ ∀ q ∈ x.reps, denies x k q i = false := by
    constructor
    · intro h q hq
      obtain ⟨j, hj, e⟩ := List.getElem_of_mem hq
      have h2 : (denyM x k i x.reps.length).testBit j = false := by rw [h]; simp
      rw [deny_bit, decide_eq_true hj, Bool.true_and] at h2
      unfold denyB at h2
      rw [List.getElem?_eq_getElem hj, e] at h2
      exact h2
    · intro h
      apply Nat.eq_of_testBit_eq
      intro j
      rw [deny_bit, Nat.zero_testBit]
      by_cases hj : j < x.reps.length
      · unfold denyB
        rw [List.getElem?_eq_getElem hj]
        simp [h _ (List.getElem_mem hj)]
      · simp [hj]
  rw [← h1]
  have hall : denyM x k i x.reps.length &&& (2 ^ x.reps.length - 1) = denyM x k i x.reps.length := by
    apply Nat.eq_of_testBit_eq
    intro j
    rw [Nat.testBit_and, deny_bit]
    by_cases hj : j < x.reps.length
    · rw [full_bit hj]; simp
    · simp [hj]
  unfold allP demP
  rw [hall]
  constructor
  · intro h
    by_cases hz : denyM x k i x.reps.length = 0
    · exact hz
    · rw [if_neg hz] at h; omega
  · intro h
    rw [h, if_pos rfl, bits_zero]
    exact Int.le_refl _
theorem sumW_none {p : Nat → Nat → Int} {c : Nat → Nat} (n : Nat) (h0 : ∀ t, t < n → 0 ≤ p t (c t)) : sumW p c 0 n ≤ 0 ↔ ∀ t, t < n → p t (c t) ≤ 0 := by
  constructor
  · intro h t ht
    have := sumW_le (p := p) (c := c) 0 n (fun t _ h2 => h0 t (by omega)) t (by omega) (by omega)
    omega
  · intro h
    have : sumW p c 0 n = sumW (fun _ _ => 0) c 0 n := sumW_ext c 0 n fun t _ h2 => by
      have h1 := h t (by omega)
      have h2 := h0 t (by omega)
      omega
    rw [this, sumW_zero]
    exact Int.le_refl _
theorem sum_zero {x : Ds} (hdo : dsOk x = true) (c : Nat → Nat) : sumW (doubtP x) c 0 x.ch.ticks ≤ 0 ↔ sumW (allP x) c 0 x.ch.ticks ≤ 0 := by
  rw [sumW_none (p := doubtP x) _ fun t _ => (doubt_bound hdo t _).1, sumW_none (p := allP x) _ fun t _ => (dem_bound x _ t _).1]
  exact forall_congr' fun t => forall_congr' fun _ => (doubtP_zero hdo t _).trans (allP_zero t _).symm
theorem within_zero {x : Ds} (hok : ChOk x.ch) (hdo : dsOk x = true) {t : Nat} (ht : t < x.ch.ticks) : withM x (mayF x) (doubtP x) t 0 = withM x (mayF x) (allP x) t 0 := by
  unfold withM thoseN
  congr 1
  refine List.filter_congr fun i hi => ?_
  show withinB x (mayF x) (doubtP x) t 0 ((i : Nat) : Int).toNat = withinB x (mayF x) (allP x) t 0 ((i : Nat) : Int).toNat
  rw [Int.toNat_natCast]
  have hi' : i < x.ch.cells := List.mem_range.1 hi
  rw [Bool.eq_iff_iff, within_way (hops_self hdo) (hops_symm x) (fun k i _ _ => (doubt_bound hdo k i).1) ht hi' (by omega), within_way (p := allP x) (hops_self hdo) (hops_symm x) (fun k i _ _ => (dem_bound x _ k i).1) ht hi' (by omega)]
  exact exists_congr fun c => and_congr_right fun _ => and_congr_right fun _ => sum_zero hdo c
end Go.Proofs.YtddnloghclemjaaGreatDoor
