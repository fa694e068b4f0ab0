import Derived.Test.YthobfecblpnnnaaGreatDoorRouF
import Derived.Test.YthobfecblpnnnaaGreatDoorTlLanesFewer
import Derived.Test.YthobfecblpnnnaaGreatDoorDataT

/- Layer 6: fewer legs, no tow, nobody else at the level (mathematics). -/
set_option linter.all false
namespace Go.Proofs.YthobfecblpnnnaaGreatDoor
open Go Go.RowKit

theorem rt_mono {c : Ch} {ls ls' : List Lg} {p : Tp} {cs : List Int} (hs : ∀ l ∈ ls', l ∈ ls) (h : IsRt c ls p cs) : IsRt c ls' p cs :=
  ⟨h.ok, h.hd, h.last, fun l hl k hk => h.free l (hs l hl) k hk⟩

/-- A trip without its tow. -/
def Tp.light (p : Tp) : Tp := ⟨p.t0, p.lv, p.dr, false, p.fr, p.to⟩

theorem cla_light {n b : Int} {tl : Bool} {o : Sp} (h : (spOf n b false).cla o = true) : (spOf n b tl).cla o = true := by
  cases tl with
  | false => exact h
  | true =>
    by_cases h1 : n = -1
    · subst h1
      simp [Sp.cla, spOf] at h
    by_cases h2 : b = -1
    · subst h2
      simpa [Sp.cla, spOf, Sp.occ] using h
    simp only [Sp.cla, spOf, Sp.occ, Bool.false_eq_true, false_and, if_false, Bool.and_eq_true, Bool.or_eq_true, beq_iff_eq, Bool.or_self, h1, h2, ne_eq, not_false_eq_true, and_self, if_true] at h ⊢
    obtain ⟨h3, h4⟩ := h
    refine ⟨h3, ?_⟩
    rcases h4 with (h4 | h4) | h4
    · exact .inl (.inl (.inl h4))
    · exact .inl (.inr (.inl h4))
    · exact .inr h4

theorem rt_light {c : Ch} {ls : List Lg} {p : Tp} {cs : List Int} (h : IsRt c ls p cs) : IsRt c ls p.light cs := by
  refine ⟨h.ok, h.hd, h.last, fun l hl k hk => ?_⟩
  have h1 := h.free l hl k hk
  unfold claM at h1 ⊢
  cases hc : (p.light.leg cs).lv == l.lv && ((p.light.leg cs).sp (k : Int)).cla (l.sp k) with
  | false => rfl
  | true =>
    rw [Bool.and_eq_true] at hc
    have h2 : ((p.leg cs).sp (k : Int)).cla (l.sp k) = true := cla_light (n := (p.leg cs).cel k) (b := (p.leg cs).cel (k - 1)) (tl := p.tl) hc.2
    have h3 : ((p.leg cs).lv == l.lv) = true := hc.1
    rw [h2, h3] at h1
    cases h1

theorem tp_light (c : Ch) (p : Tp) : tpOk c p.light = tpOk c p := rfl

theorem fewer_some {c : Ch} {ls ls' : List Lg} {p : Tp} (ht : tpOk c p = true) (hs : ∀ l ∈ ls', l ∈ ls) {a : List Nat} (h : routeM c ls p = some a) : ∃ b, routeM c ls' p = some b ∧ b.length ≤ a.length := by
  obtain ⟨h1, _⟩ := routeM_some ht h
  have h2 := rt_mono hs h1
  cases hb : routeM c ls' p with
  | none => exact absurd h2 (routeM_none ht hb _)
  | some b =>
    refine ⟨b, rfl, ?_⟩
    have := (routeM_some ht hb).2 _ h2
    simpa using this

theorem light_some {c : Ch} {ls : List Lg} {p : Tp} (ht : tpOk c p = true) {a : List Nat} (h : routeM c ls p = some a) : ∃ b, routeM c ls p.light = some b ∧ b.length ≤ a.length := by
  obtain ⟨h1, _⟩ := routeM_some ht h
  have h2 := rt_light h1
  cases hb : routeM c ls p.light with
  | none => exact absurd h2 (routeM_none (show tpOk c p.light = true from ht) hb _)
  | some b =>
    refine ⟨b, rfl, ?_⟩
    have := (routeM_some (show tpOk c p.light = true from ht) hb).2 _ h2
    simpa using this

theorem Wy.Way.snoc {W : Wy} {m : List Nat} {b i : Nat} (h : W.Way (m ++ [b])) (hb : b ∈ W.near i) (hi : i < W.N) (hok : W.ok (m.length + 1) b i = true) : W.Way (m ++ [b] ++ [i]) := by
  refine ⟨h.ok0, ?_, fun x hx => ?_, fun j hj => ?_⟩
  · have := h.hd
    cases m with
    | nil => simpa using this
    | cons a l => simpa using this
  · rw [List.mem_append] at hx
    rcases hx with hx | hx
    · exact h.lt x hx
    · simp at hx; omega
  · by_cases e : j + 1 < (m ++ [b]).length
    · have e' : ∀ q, q < (m ++ [b]).length → (m ++ [b] ++ [i]).getD q 0 = (m ++ [b]).getD q 0 := fun q hq => by
        rw [List.getD_eq_getElem?_getD, List.getElem?_append_left hq, ← List.getD_eq_getElem?_getD]
      rw [e' j (by omega), e' (j + 1) e]
      exact h.st j e
    · have hj' : j = m.length := by simp at hj e; omega
      subst hj'
      have e1 : (m ++ [b] ++ [i]).getD m.length 0 = b := by
        rw [List.append_assoc, List.getD_eq_getElem?_getD, List.getElem?_append_right (Nat.le_refl _)]; simp
      have e2 : (m ++ [b] ++ [i]).getD (m.length + 1) 0 = i := by
        have := getD_last (m ++ [b]) i
        simpa using this
      rw [e1, e2]
      exact ⟨hb, hok⟩

/-- Nobody else is at the level. -/
def aloneB (ls : List Lg) (lv : Int) : Bool := ls.all fun l => l.lv != lv

theorem alone_free {ls : List Lg} {lv : Int} (h : aloneB ls lv = true) (s : Sp) (t : Int) : freeM ls lv s t = true := by
  unfold freeM
  rw [List.all_eq_true]
  intro l hl
  have := List.all_eq_true.1 h l hl
  have : (l.lv == lv) = false := by simpa using this
  rw [this]
  rfl

theorem alone_way {c : Ch} (hok : ChOk c) {ls : List Lg} {p : Tp} (ht : tpOk c p = true) (ha : aloneB ls p.lv = true) (hlv : p.lv ≠ 0) :
    ∀ (n : Nat) (b : Nat), b < c.cells → apt c.w p.fr b = n → ∃ m, (wyM c ls p).Way (m ++ [b]) ∧ m.length = n := by
  have hw := hok.1.1
  have hh := hok.2.1.1
  have hN := hok.mul.2.2
  simp only [tpOk, Bool.and_eq_true] at ht
  obtain ⟨⟨⟨hu, h0⟩, hf⟩, hto⟩ := ht
  obtain ⟨nf, hnf, ef⟩ := inN_iff.1 hf
  have hcan : ∀ i t, c.can p.lv p.dr i t = true := fun i t => by
    unfold Ch.can
    have : (p.lv != 0) = true := by simpa using hlv
    rw [this]; rfl
  have hall : ∀ k b i, (wyM c ls p).ok k b i = true := fun k b i => by
    show (freeM ls p.lv (spOf i b p.tl) (p.t0 + k) && c.can p.lv p.dr i (p.t0.toNat + k)) = true
    rw [alone_free ha, hcan]; rfl
  have hok0 : (wyM c ls p).ok0 = true := by
    show (freeM ls p.lv (spOf p.fr (-1) p.tl) p.t0 && c.can p.lv p.dr p.fr.toNat p.t0.toNat) = true
    rw [alone_free ha, hcan]; rfl
  intro n
  induction n with
  | zero =>
    intro b hb hd
    have : p.fr = b := by
      have := (apt_zero (a := p.fr) (b := (b : Int)) hw (by omega) (by rw [hN]; omega) (by omega) (by rw [hN]; omega)).1 hd
      exact this
    refine ⟨[], ⟨hok0, ?_, fun x hx => ?_, fun j hj => by simp at hj⟩, rfl⟩
    · show some b = some p.fr.toNat
      congr 1
      omega
    · simp at hx
      show x < c.cells
      omega
  | succ n ih =>
    intro b hb hd
    obtain ⟨k, b', hk, hx, hb0, hb1, hd'⟩ := apt_pred (a := p.fr) (b := (b : Int)) hw hh (by omega) (by rw [hN]; omega) (by omega) (by rw [hN]; omega) (n : Int) (by omega) (by rw [hd]; rfl)
    rw [hN] at hb1
    obtain ⟨bn, hbn⟩ : ∃ bn : Nat, b' = bn := ⟨b'.toNat, by omega⟩
    subst hbn
    obtain ⟨m, hm, hl⟩ := ih bn (by omega) hd'
    refine ⟨m ++ [bn], hm.snoc ?_ hb (hall _ _ _), by simp [hl]⟩
    show bn ∈ nearM c b
    unfold nearM
    rw [List.mem_filter, List.mem_range, decide_eq_true_eq]
    refine ⟨by omega, ?_⟩
    have : apt c.w (b : Int) (bn : Int) = 1 := (apt_one hw hh (by omega) (by rw [hN]; omega) (by omega) (by rw [hN]; omega)).2 (by
      unfold nearB
      rw [List.any_eq_true]
      exact ⟨k, List.mem_range.2 hk, by simpa using hx⟩)
    omega

theorem way_far {c : Ch} {ls : List Lg} {p : Tp} {ns : List Nat} (h : (wyM c ls p).Way ns) (hf : 0 ≤ p.fr) : ∀ j, j < ns.length → apt c.w p.fr (ns.getD j 0 : Nat) ≤ j
  | 0, hj => by
    have h1 := h.hd
    cases ns with
    | nil => simp at hj
    | cons a l =>
      have h1 : some a = some p.fr.toNat := h1
      cases h1
      have e : ((List.getD (p.fr.toNat :: l) 0 0 : Nat) : Int) = p.fr := by
        show ((p.fr.toNat : Nat) : Int) = p.fr
        omega
      rw [e]
      unfold apt dst
      omega
  | j + 1, hj => by
    have ih := way_far h hf j (by omega)
    obtain ⟨h1, _⟩ := h.st j hj
    have h1 : ns.getD j 0 ∈ nearM c (ns.getD (j + 1) 0) := h1
    unfold nearM at h1
    rw [List.mem_filter, decide_eq_true_eq, apt_symm] at h1
    have := apt_tri c.w p.fr (ns.getD (j + 1) 0 : Nat) (ns.getD j 0 : Nat)
    omega

/-- An aircraft alone at its level goes straight. -/
theorem alone_route {c : Ch} (hok : ChOk c) {ls : List Lg} {p : Tp} (ht : tpOk c p = true) (ha : aloneB ls p.lv = true) (hlv : p.lv ≠ 0) :
    ((routeM c ls p).isSome = true ↔ p.t0 + apt c.w p.fr p.to < c.ticks) ∧ ∀ a, routeM c ls p = some a → (a.length : Int) = apt c.w p.fr p.to + 1 := by
  have ht0 := ht
  simp only [tpOk, Bool.and_eq_true] at ht
  obtain ⟨⟨⟨hu, h0⟩, hf⟩, hto⟩ := ht
  obtain ⟨n0, hn0, e0⟩ := inN_iff.1 h0
  obtain ⟨nf, hnf, ef⟩ := inN_iff.1 hf
  obtain ⟨nt, hnt, et⟩ := inN_iff.1 hto
  have hnn := apt_nonneg c.w p.fr p.to
  obtain ⟨n, hn⟩ : ∃ n : Nat, apt c.w p.fr p.to = n := ⟨(apt c.w p.fr p.to).toNat, by omega⟩
  have low : ∀ a, routeM c ls p = some a → n + 1 ≤ a.length ∧ p.t0 + a.length ≤ c.ticks := fun a h => by
    obtain ⟨h1, _⟩ := routeM_some ht0 h
    obtain ⟨w1, ⟨m, w2⟩, w3⟩ := (rt_iff ht0).1 h1
    subst w2
    have := way_far w1 (by omega) m.length (by simp)
    rw [getD_last, show ((p.to.toNat : Nat) : Int) = p.to by omega, hn] at this
    refine ⟨?_, w3⟩
    simp
    omega
  have up : p.t0 + apt c.w p.fr p.to < c.ticks → ∃ a, routeM c ls p = some a ∧ a.length ≤ n + 1 := fun hlt => by
    obtain ⟨m, hm, hl⟩ := alone_way hok ht0 ha hlv n nt hnt (by rw [← et]; exact hn)
    have hr : IsRt c ls p ((m ++ [nt]).map Int.ofNat) := (rt_iff ht0).2 ⟨hm, ⟨m, by rw [show p.to.toNat = nt by omega]⟩, by simp; omega⟩
    cases hb : routeM c ls p with
    | none => exact absurd hr (routeM_none ht0 hb _)
    | some a =>
      refine ⟨a, rfl, ?_⟩
      have := (routeM_some ht0 hb).2 _ hr
      simp at this
      omega
  constructor
  · constructor
    · intro h
      cases hb : routeM c ls p with
      | none => rw [hb] at h; cases h
      | some a => have := low a hb; omega
    · intro h
      obtain ⟨a, ha, _⟩ := up h
      rw [ha]; rfl
  · intro a h
    obtain ⟨h1, h2⟩ := low a h
    obtain ⟨a', ha', h3⟩ := up (by omega)
    rw [h] at ha'
    cases ha'
    omega
end Go.Proofs.YthobfecblpnnnaaGreatDoor

/- Layer 6: the law LanesFewer, its last part. -/
set_option linter.all false
namespace Go.Proofs.YthobfecblpnnnaaGreatDoor
open Go Go.RowKit

def fw0 : SC := match sf_coblelaw06_LanesFewer.body with | .seq a _ => a | _ => .skip
def fw1 : SC := match sf_coblelaw06_LanesFewer.body with | .seq _ (.seq a _) => a | _ => .skip
def fw2 : SC := match sf_coblelaw06_LanesFewer.body with | .seq _ (.seq _ (.seq a _)) => a | _ => .skip
def fw3 : SC := match sf_coblelaw06_LanesFewer.body with | .seq _ (.seq _ (.seq _ (.seq a _))) => a | _ => .skip
def fw4 : SC := match sf_coblelaw06_LanesFewer.body with | .seq _ (.seq _ (.seq _ (.seq _ (.seq a _)))) => a | _ => .skip
def fw5 : SC := match sf_coblelaw06_LanesFewer.body with | .seq _ (.seq _ (.seq _ (.seq _ (.seq _ (.seq a _))))) => a | _ => .skip
def fw6 : SC := match sf_coblelaw06_LanesFewer.body with | .seq _ (.seq _ (.seq _ (.seq _ (.seq _ (.seq _ (.seq a _)))))) => a | _ => .skip
def fw7 : SC := match sf_coblelaw06_LanesFewer.body with | .seq _ (.seq _ (.seq _ (.seq _ (.seq _ (.seq _ (.seq _ (.seq a _))))))) => a | _ => .skip
def fw8 : SC := match sf_coblelaw06_LanesFewer.body with | .seq _ (.seq _ (.seq _ (.seq _ (.seq _ (.seq _ (.seq _ (.seq _ (.seq a _)))))))) => a | _ => .skip
def fw9 : SC := match sf_coblelaw06_LanesFewer.body with | .seq _ (.seq _ (.seq _ (.seq _ (.seq _ (.seq _ (.seq _ (.seq _ (.seq _ (.seq a _))))))))) => a | _ => .skip
def fwT : SC := match sf_coblelaw06_LanesFewer.body with | .seq _ (.seq _ (.seq _ (.seq _ (.seq _ (.seq _ (.seq _ (.seq _ (.seq _ (.seq _ a))))))))) => a | _ => .skip
def fwL : SC := .seq fw6 (.seq fw7 (.seq fw8 (.seq fw9 fwT)))
def fwB : SC := .seq fw5 fwL
theorem fw_body : sf_coblelaw06_LanesFewer.body = .seq fw0 (.seq fw1 (.seq fw2 (.seq fw3 (.seq fw4 fwB)))) := rfl

def fwLoop : SC := sf_coblelaw06_LanesFewer.body.loops.headD .skip
def tpC6 (p : Tp) : List Value := [.int .i64 p.t0, .int .i64 p.lv, .int .i64 p.dr, .bool p.tl, .int .i64 p.fr, .int .i64 p.to]

theorem fw_loop (ls : List Lg) (p : Tp) (A : AH) (va : Option Addr) (vc : Nat) (hv : LgIn A (.slice va ls.length vc) ls) (S : St)
    (e1 : tget S.t 1 = .slice va ls.length vc) (e7 : tget S.t 7 = .pointer (some ⟨7, 0, some 0⟩)) (e16 : tget S.t 16 = .bool true) (e17 : tget S.t 17 = .int .i64 0) (hL : lget S.L 7 = some (0, .cells (tpC6 p))) (hH : S.H = A) :
    ∃ q, exL Tryz.prog pf (.loop fwLoop) S = some q ∧ (q.1 = .exit 0 ∧ q.2.H = A ∧ q.2.L = S.L ∧ q.2.lim = S.lim ∧ tget q.2.t 3 = tget S.t 3 ∧ tget q.2.t 7 = tget S.t 7 ∧ tget q.2.t 8 = tget S.t 8 ∧ tget q.2.t 9 = tget S.t 9 ∧ tget q.2.t 16 = .bool (aloneB ls p.lv)) := by
  simp only [tpC6] at hL
  refine loop_rule (I := fun n s' => ∃ i, i ≤ ls.length ∧ n = ls.length - i ∧ tget s'.t 1 = .slice va ls.length vc ∧ tget s'.t 3 = tget S.t 3 ∧ tget s'.t 7 = tget S.t 7 ∧ tget s'.t 8 = tget S.t 8 ∧ tget s'.t 9 = tget S.t 9 ∧ tget s'.t 16 = .bool (aloneB (ls.take i) p.lv) ∧ tget s'.t 17 = .int .i64 i ∧ s'.L = S.L ∧ s'.lim = S.lim ∧ s'.H = A) ?_ ls.length S
    ⟨0, by omega, by omega, e1, rfl, rfl, rfl, rfl, by rw [e16]; rfl, e17, rfl, rfl, hH⟩
  rintro n s' ⟨i, hi, rfl, f1, f3, f7, f8, f9, f16, f17, fL, fl, fH⟩
  have hln := hv.n
  rw [e7] at f7
  by_cases hlt : i < ls.length
  rotate_left
  · have : i = ls.length := by omega
    subst this
    rw [List.take_length] at f16
    simp [fwLoop, SC.loops, sf_coblelaw06_LanesFewer, f1, f3, f7, f8, f9, f16, f17, fL, fl, fH, e7]
  have hltI : (i : Int) < (ls.length : Int) := by omega
  have hw : IntKind.i64.wrap ((i : Int) + 1) = (i : Int) + 1 := wrap_i64 (by omega) (by omega)
  obtain ⟨b1, o1, ac1, xa, xc, e, c0, c1, c2, c3, c4, hsl⟩ := hv.sl.get hlt
  cases e
  simp only [hcell] at c0 c1 c2 c3 c4
  have hsx : aloneB (ls.take (i + 1)) p.lv = (aloneB (ls.take i) p.lv && (ls[i].lv != p.lv)) := by
    unfold aloneB
    rw [List.take_succ_eq_append_getElem hlt, List.all_append, List.all_cons, List.all_nil, Bool.and_true]
  cases ha : aloneB (ls.take i) p.lv with
  | false =>
    rw [ha] at f16 hsx
    generalize hq : ls[i] = q at *
    simp [fwLoop, SC.loops, sf_coblelaw06_LanesFewer, f1, f3, f7, f8, f9, f16, f17, fL, fl, fH, e7, hltI, hw]
    exact ⟨_, by omega, i + 1, by omega, rfl, by simpa using hsx.symm, rfl⟩
  | true =>
    rw [ha] at f16 hsx
    generalize hq : ls[i] = q at *
    simp [fwLoop, SC.loops, sf_coblelaw06_LanesFewer, f1, f3, f7, f8, f9, f16, f17, fL, fl, fH, e7, hL, hltI, hlt, c1, hw]
    exact ⟨_, by omega, i + 1, by omega, rfl, by simpa using hsx.symm, rfl⟩

/-- What Route has answered. -/
def RoE (o : Option (List Nat)) (n : Nat) (e : Int) : Prop := (o = none ∧ e = 3 ∧ n = 0) ∨ ∃ ns, o = some ns ∧ e = 0 ∧ n = ns.length

theorem fw_tail (c : Ch) (hok : ChOk c) (ls : List Lg) (p : Tp) (hp : tpOk c p = true) (A : AH) (hG : A[waysG]? = some (.ro waysV)) (d t s : Value) (hc : ChIn A c d t s) (va : Option Addr) (vc : Nat) (hv : LgIn A (.slice va ls.length vc) ls) (a0 : Option Addr) (n0 k0 : Nat) (e0 : Int) (hR : RoE (routeM c ls p) n0 e0) (S : St)
    (e1 : tget S.t 1 = .slice va ls.length vc) (e3 : tget S.t 3 = .pointer (some ⟨3, 0, some 0⟩)) (e7 : tget S.t 7 = .pointer (some ⟨7, 0, some 0⟩)) (e8 : tget S.t 8 = .slice a0 n0 k0) (e9 : tget S.t 9 = .int .i64 e0) (hL3 : lget S.L 3 = some (0, .cells [.int .i64 c.w, .int .i64 c.h, d, t, s])) (hL : lget S.L 7 = some (0, .cells (tpC6 p))) (hH : S.H = A) :
    ∃ S', exL Tryz.prog pf fwT S = some (.ret, S') ∧ tget S'.t 6 = .bool true ∧ S'.H = A := by
  have hW := fun lim => run_works6 lim A hG
  have hm := hok.mul
  have hT : c.tide.length ≤ 60 := hok.2.2.2.1.2
  have hp0 := hp
  simp only [tpOk, Bool.and_eq_true] at hp
  obtain ⟨⟨⟨hu, h0⟩, hf⟩, hto⟩ := hp
  obtain ⟨n1, hn1, en1⟩ := inN_iff.1 h0
  obtain ⟨nf, hnf, ef⟩ := inN_iff.1 hf
  obtain ⟨nt, hnt, et⟩ := inN_iff.1 hto
  have hn1' : n1 < c.tide.length := hn1
  have hAp := fun lim => run_Apart c lim A d t s hc p.fr p.to
  have hop : openE c [p.fr, p.to] [] = 0 := by rw [ef, et]; exact openE_two hok hnf hnt
  simp only [apartN, hop, if_true] at hAp
  have hapn := apt_nonneg c.w p.fr p.to
  have hapl : apt c.w p.fr p.to < 1000 := by
    have := apt_lt (a := p.fr) (b := p.to) hok.1.1 hok.2.1.1 (by omega) (by rw [hm.2.2]; omega) (by omega) (by rw [hm.2.2]; omega)
    omega
  obtain ⟨⟨da, dc, ed, _⟩, ⟨ta, tc, et', _⟩, ⟨sa, sc, es, _⟩, _⟩ := id hc
  simp only [chV, ed, et', es] at hAp
  rw [ed, et', es] at hL3
  have hlo := fun S => fw_loop ls p A va vc hv S
  simp [fwT, sf_coblelaw06_LanesFewer]
  generalize hS : ({ t := _, L := _, H := _, lim := _, rd := _ } : St) = S1
  obtain ⟨⟨e, s1⟩, hr, g0, gH, gL, gl, g3, g7, g8, g9, g16⟩ := hlo S1 (by subst hS; simp [e1]) (by subst hS; simp [e7]) (by subst hS; simp) (by subst hS; simp) (by subst hS; simp [hL]) (by subst hS; simp [hH])
  have z3 : tget S1.t 3 = .pointer (some ⟨3, 0, some 0⟩) := by subst hS; simp [e3]
  have z7 : tget S1.t 7 = .pointer (some ⟨7, 0, some 0⟩) := by subst hS; simp [e7]
  have z8 : tget S1.t 8 = .slice a0 n0 k0 := by subst hS; simp [e8]
  have z9 : tget S1.t 9 = .int .i64 e0 := by subst hS; simp [e9]
  have zL3 : lget S1.L 3 = some (0, .cells [.int .i64 c.w, .int .i64 c.h, .slice da c.depth.length dc, .slice ta c.tide.length tc, .slice sa c.swell.length sc]) := by subst hS; simp [hL3]
  have zL7 : lget S1.L 7 = some (0, .cells (tpC6 p)) := by subst hS; simp [hL]
  simp [fwLoop, SC.loops, sf_coblelaw06_LanesFewer] at hr
  rw [hr]
  simp only at g0 gH gL gl g3 g7 g8 g9 g16
  subst g0
  rw [z3] at g3
  rw [z7] at g7
  rw [z8] at g8
  rw [z9] at g9
  rw [← gL] at zL3 zL7
  simp only [tpC6] at zL7
  cases ha : aloneB ls p.lv with
  | false =>
    rw [ha] at g16
    simp [g3, g7, g8, g9, g16, gH, hW]
  | true =>
  rw [ha] at g16
  by_cases hlv : p.lv = 0
  · have hlv' : (p.lv == 0) = true := by simpa using hlv
    simp [g3, g7, g8, g9, g16, gH, zL7, hlv', hW]
  have hlv' : (p.lv == 0) = false := by simpa using hlv
  obtain ⟨r1, r2⟩ := alone_route hok hp0 ha hlv
  obtain ⟨u, hu'⟩ : ∃ u, apt c.w p.fr p.to = u := ⟨_, rfl⟩
  rw [hu'] at hAp r1 r2 hapn hapl
  have hw1 : IntKind.i64.wrap (p.t0 + u) = p.t0 + u := wrap_i64 (by omega) (by omega)
  have hw2 : IntKind.i64.wrap (u + 1) = u + 1 := wrap_i64 (by omega) (by omega)
  rcases hR with ⟨ho, rfl, rfl⟩ | ⟨ns, ho, rfl, rfl⟩
  · have hno : ¬ p.t0 + u < (c.tide.length : Int) := fun h => by
      have := r1.2 h
      rw [ho] at this
      cases this
    simp [g3, g7, g8, g9, g16, gH, zL3, zL7, hlv', hAp, hw1, hno, hW]
  · have hyes : p.t0 + u < (c.tide.length : Int) := r1.1 (by rw [ho]; rfl)
    have hl := r2 ns ho
    have hl' : ((ns.length : Int) == u + 1) = true := by simpa using hl
    simp [g3, g7, g8, g9, g16, gH, zL3, zL7, hlv', hAp, hw1, hw2, hyes, hl', hW]
end Go.Proofs.YthobfecblpnnnaaGreatDoor

/- Layer 6: the law LanesFewer, the part without a tow. -/
set_option linter.all false
namespace Go.Proofs.YthobfecblpnnnaaGreatDoor
open Go Go.RowKit

/-- What is so between the parts of the law. -/
structure FwI (c : Ch) (ls : List Lg) (p : Tp) (d t s : Value) (va : Option Addr) (vc : Nat) (a0 : Option Addr) (n0 k0 : Nat) (e0 : Int) (A : AH) (S : St) : Prop where
  e1 : tget S.t 1 = .slice va ls.length vc
  e3 : tget S.t 3 = .pointer (some ⟨3, 0, some 0⟩)
  e7 : tget S.t 7 = .pointer (some ⟨7, 0, some 0⟩)
  e8 : tget S.t 8 = .slice a0 n0 k0
  e9 : tget S.t 9 = .int .i64 e0
  l3 : lget S.L 3 = some (0, .cells [.int .i64 c.w, .int .i64 c.h, d, t, s])
  l7 : lget S.L 7 = some (0, .cells (tpC6 p))
  hH : S.H = A

theorem fw_light (c : Ch) (hok : ChOk c) (ls : List Lg) (he : legE c ls = 0) (p : Tp) (hp : tpOk c p = true) (A : AH) (hA : noLp A = true) (hG : A[waysG]? = some (.ro waysV)) (d t s : Value) (hc : ChIn A c d t s) (va : Option Addr) (vc : Nat) (hv : LgIn A (.slice va ls.length vc) ls) (a0 : Option Addr) (n0 k0 : Nat) (e0 : Int) (hR : RoE (routeM c ls p) n0 e0) (S : St) (hI : FwI c ls p d t s va vc a0 n0 k0 e0 A S) :
    ∃ S' A', exL Tryz.prog pf fwL S = some (.ret, S') ∧ tget S'.t 6 = .bool true ∧ S'.H = A' := by
  obtain ⟨e1, e3, e7, e8, e9, l3, l7, hH⟩ := hI
  obtain ⟨r, A2, r1, g1, g2⟩ := run_Route_ok c ls p.light A hA hG d t s _ hc hv he hp
  have htl := fun a0 n0 k0 e0 hR S => fw_tail c hok ls p hp A2 (g1.ext _ _ hG) d t s (hc.ext g1.ext) va vc (hv.ext g1.ext) a0 n0 k0 e0 hR S
  obtain ⟨⟨da, dc, ed, _⟩, ⟨ta, tc, et, _⟩, ⟨sa, sc, es, _⟩, _⟩ := id hc
  simp only [chV, tpV, Tp.light, ed, et, es] at r1
  have l3' := l3
  rw [ed, et, es] at l3'
  have l7' := l7
  simp only [tpC6] at l7'
  cases ho : routeM c ls p.light with
  | none =>
    rw [ho] at g2
    obtain ⟨rfl, rfl⟩ := g2
    rcases hR with ⟨hn, rfl, rfl⟩ | ⟨ns, hn, rfl, rfl⟩
    rotate_left
    · obtain ⟨b, hb, _⟩ := light_some hp hn
      rw [ho] at hb
      cases hb
    simp [-oneC, -Array.all_eq_false, -Array.all_toList, -List.all_eq_true, oneC_slice, oneC_int, oneC_boolW, fwL, fw6, fw7, fw8, fw9, sf_coblelaw06_LanesFewer, e1, e3, e7, e8, e9, l3', l7', hH, r1]
    generalize hS : ({ t := _, L := _, H := _, lim := _, rd := _ } : St) = S1
    obtain ⟨S', z1, z2, z3⟩ := htl a0 0 k0 3 (.inl ⟨hn, rfl, rfl⟩) S1 (by subst hS; simp [e1]) (by subst hS; simp [e3]) (by subst hS; simp [e7]) (by subst hS; simp [e8]) (by subst hS; simp [e9]) (by subst hS; simp [l3]) (by subst hS; simp [l7]) (by subst hS; rfl)
    rw [z1]
    exact ⟨S', rfl, z2⟩
  | some ms =>
    rw [ho] at g2
    obtain ⟨r0, rfl, b, hb, rfl, hbA⟩ := g2
    rcases hR with ⟨hn, rfl, rfl⟩ | ⟨ns, hn, rfl, rfl⟩
    · simp [-oneC, -Array.all_eq_false, -Array.all_toList, -List.all_eq_true, oneC_slice, oneC_int, oneC_boolW, fwL, fw6, fw7, fw8, fw9, sf_coblelaw06_LanesFewer, e1, e3, e7, e8, e9, l3', l7', hH, r1]
      generalize hS : ({ t := _, L := _, H := _, lim := _, rd := _ } : St) = S1
      obtain ⟨S', z1, z2, z3⟩ := htl a0 0 k0 3 (.inl ⟨hn, rfl, rfl⟩) S1 (by subst hS; simp [e1]) (by subst hS; simp [e3]) (by subst hS; simp [e7]) (by subst hS; simp [e8]) (by subst hS; simp [e9]) (by subst hS; simp [l3]) (by subst hS; simp [l7]) (by subst hS; rfl)
      rw [z1]
      exact ⟨S', rfl, z2⟩
    · obtain ⟨b', hb', hle⟩ := light_some hp hn
      rw [ho] at hb'
      cases hb'
      have hnle : ¬ (ns.length : Int) < (ms.length : Int) := by omega
      have hnle' : ¬ ns.length < ms.length := by omega
      simp [-oneC, -Array.all_eq_false, -Array.all_toList, -List.all_eq_true, oneC_slice, oneC_int, oneC_boolW, fwL, fw6, fw7, fw8, fw9, sf_coblelaw06_LanesFewer, e1, e3, e7, e8, e9, l3', l7', hH, r1, hnle, hnle']
      generalize hS : ({ t := _, L := _, H := _, lim := _, rd := _ } : St) = S1
      obtain ⟨S', z1, z2, z3⟩ := htl a0 ns.length k0 0 (.inr ⟨ns, hn, rfl, rfl⟩) S1 (by subst hS; simp [e1]) (by subst hS; simp [e3]) (by subst hS; simp [e7]) (by subst hS; simp [e8]) (by subst hS; simp [e9]) (by subst hS; simp [l3]) (by subst hS; simp [l7]) (by subst hS; rfl)
      rw [z1]
      exact ⟨S', rfl, z2⟩

/-! A list of legs without one of them. -/

theorem lgsV_app : ∀ (ls ms : List Lg) (ss tt : List Value), ss.length = ls.length → lgsV (ls ++ ms) (ss ++ tt) = lgsV ls ss ++ lgsV ms tt
  | [], ms, [], tt, _ => rfl
  | l :: ls, ms, s :: ss, tt, h => by
    have := lgsV_app ls ms ss tt (by simpa using h)
    simp [lgsV, this]
  | [], _, _ :: _, _, h => by cases h
  | _ :: _, _, [], _, h => by cases h

theorem fitA_extF {H A : AH} (hE : Ext H A) {a : Option Addr} {e : Nat} (h : fitA H a e = true) : fitA A a e = true := by
  cases a with
  | none => rfl
  | some a =>
    unfold fitA at h ⊢
    simp only at h ⊢
    cases hb : H[a.block]? with
    | none => rw [hb] at h; cases h
    | some x => rw [hE _ _ hb]; rw [hb] at h; exact h

theorem LgSl.take {H : AH} {va : Option Addr} {n vc : Nat} {ls : List Lg} (hv : LgSl H (.slice va n vc) ls) {k q : Nat} (hk : k ≤ ls.length) : LgSl H (.slice va k q) (ls.take k) := by
  obtain ⟨ss, hl, ⟨a, c, e, hd⟩, hr⟩ := hv.ex
  cases e
  refine ⟨ss.take k, by simp; omega, ⟨va, q, by rw [List.length_take, Nat.min_eq_left hk], fun j x hx => hd j x ?_⟩, fun i h h' => ?_⟩
  · have e : lgsV ls ss = lgsV (ls.take k) (ss.take k) ++ lgsV (ls.drop k) (ss.drop k) := by
      rw [← lgsV_app _ _ _ _ (by simp; omega), List.take_append_drop, List.take_append_drop]
    rw [e, List.getElem?_append_left (List.getElem?_eq_some_iff.1 hx).1]
    exact hx
  · rw [List.getElem_take, List.getElem_take]
    exact hr i (by simp at h; omega) (by simp at h'; omega)

theorem LgSl.drop {H : AH} {va : Option Addr} {n vc : Nat} {ls : List Lg} (hv : LgSl H (.slice va n vc) ls) {k q : Nat} (hk : k < ls.length) : LgSl H (.slice (va.map (aadd · (k * 5))) (ls.length - k) q) (ls.drop k) := by
  obtain ⟨ss, hl, ⟨a, c, e, hd⟩, hr⟩ := hv.ex
  cases e
  refine ⟨ss.drop k, by simp; omega, ⟨_, q, by rw [List.length_drop], fun j x hx => ?_⟩, fun i h h' => ?_⟩
  · have e : lgsV ls ss = lgsV (ls.take k) (ss.take k) ++ lgsV (ls.drop k) (ss.drop k) := by
      rw [← lgsV_app _ _ _ _ (by simp; omega), List.take_append_drop, List.take_append_drop]
    have hl2 : (lgsV (ls.take k) (ss.take k)).length = k * 5 := by rw [lgsV_length _ _ (by simp; omega)]; simp; omega
    obtain ⟨b, o, eb, hc⟩ := hd (k * 5 + j) x (by rw [e, List.getElem?_append_right (by omega), hl2, Nat.add_sub_cancel_left]; exact hx)
    subst eb
    exact ⟨b, o + k * 5, rfl, by rw [Nat.add_assoc]; exact hc⟩
  · rw [List.getElem_drop, List.getElem_drop]
    exact hr (k + i) (by simp at h; omega) (by simp at h'; omega)
end Go.Proofs.YthobfecblpnnnaaGreatDoor

/- Layer 6: the law LanesFewer. -/
set_option linter.all false
namespace Go.Proofs.YthobfecblpnnnaaGreatDoor
open Go Go.RowKit

theorem one_lgs {ls : List Lg} : ∀ {ss : List Value} (_ : ∀ i (h : i < ss.length), ∃ a n k, ss[i] = .slice a n k), (lgsV ls ss).all oneC = true := by
  induction ls with
  | nil => intro ss _; simp [lgsV]
  | cons l ls ih =>
    intro ss h
    cases ss with
    | nil => simp [lgsV]
    | cons s ss =>
      have ih := ih (ss := ss) (fun i hi => h (i + 1) (by simpa using hi))
      obtain ⟨a, n, k, e⟩ := h 0 (by simp)
      have e : s = .slice a n k := e
      subst e
      simp only [lgsV, Lg.vals, List.cons_append, List.nil_append, List.all_cons, oneC_int, oneC_slice, oneC_boolW, ih, Bool.and_self]

theorem less_app {n0 n1 : Nat} {A1 A2 : AH} {r1 r2 : Value} {us bs : List Lg} (h1 : LgO n0 A1 r1 us) (hA : Aft A1 A2) (h2 : LgO n1 A2 r2 bs) (hb : bs ≠ []) :
    ∃ b2 new, r2 = .slice (some ⟨b2, 0, none⟩) bs.length (bs.length + 1) ∧ A2[b2]? = some (.rw 5 new) ∧ new.length = bs.length * 5 ∧ new.all oneC = true ∧ nlL new = true ∧
    ((us = [] ∧ r1 = .slice none 0 0 ∧ LgSl (A2 ++ [.rw 5 new]) (.slice (some ⟨A2.length, 0, none⟩) bs.length (bs.length + 1)) (us ++ bs)) ∨
    ∃ b old, n0 ≤ b ∧ us ≠ [] ∧ r1 = .slice (some ⟨b, 0, none⟩) us.length (us.length + 1) ∧ A2[b]? = some (.rw 5 old) ∧ old.length = us.length * 5 ∧ nlL old = true ∧ LgSl (A2.set b .dead ++ [.rw 5 (old ++ new)]) (.slice (some ⟨A2.length, 0, none⟩) (us.length + bs.length) (us.length + bs.length + 1)) (us ++ bs)) := by
  obtain ⟨tt, tl, tr, ⟨hx, _⟩ | ⟨_, b2, hb2, rfl, hbA2⟩⟩ := h2
  · exact absurd hx hb
  have tv : ∀ i (h : i < tt.length), ∃ a n k, tt[i] = .slice a n k := fun i h => by
    obtain ⟨rb, rk, e, _⟩ := tr i (by omega) h
    exact ⟨_, _, _, e⟩
  refine ⟨b2, lgsV bs tt, rfl, hbA2, lgsV_length _ _ tl, one_lgs tv, nlL_lgs tv, ?_⟩
  obtain ⟨ss, sl, sr, ⟨rfl, rfl⟩ | ⟨hne, b, hb1, rfl, hbA⟩⟩ := h1
  · refine .inl ⟨rfl, rfl, tt, by simpa using tl, ⟨some ⟨A2.length, 0, none⟩, bs.length + 1, by simp, fun j x hx => ⟨A2.length, 0, rfl, ?_⟩⟩, fun i h h' => ?_⟩
    · simp only [hcell, Nat.zero_add, List.getElem?_append_right (Nat.le_refl _), Nat.sub_self, List.getElem?_cons_zero]
      simpa using hx
    · simp only [List.nil_append] at h ⊢
      exact ((tr i h h').ext (Ext.push _ _)).sl
  · have hbA' := hA.ext _ _ hbA
    have sv : ∀ i (h : i < ss.length), ∃ a n k, ss[i] = .slice a n k := fun i h => by
      obtain ⟨rb, rk, e, _⟩ := sr i (by omega) h
      exact ⟨_, _, _, e⟩
    refine .inr ⟨b, lgsV us ss, hb1, hne, rfl, hbA', lgsV_length _ _ sl, nlL_lgs sv, ss ++ tt, by simp [sl, tl], ⟨some ⟨A2.length, 0, none⟩, us.length + bs.length + 1, by simp, fun j x hx => ⟨A2.length, 0, rfl, ?_⟩⟩, fun i h h' => ?_⟩
    · rw [lgsV_app _ _ _ _ sl] at hx
      simp only [hcell, Nat.zero_add]
      rw [List.getElem?_append_right (by simp)]
      simpa using hx
    · by_cases hi : i < us.length
      · simp only [List.getElem_append_left hi, List.getElem_append_left (show i < ss.length by omega)]
        exact (((sr i hi (by omega)).ext hA.ext).dead hbA' _).sl
      · simp only [List.getElem_append_right (show us.length ≤ i by omega), List.getElem_append_right (show ss.length ≤ i by omega)]
        have e2 : i - ss.length = i - us.length := by omega
        simp only [e2]
        have hi2 : i - us.length < bs.length := by simp at h; omega
        exact ((tr (i - us.length) hi2 (by omega)).dead hbA' _).sl

def fwC5 : SC := match fw5 with | .seq a _ => a | _ => .skip
def fwDrw : SC := match fw5 with | .seq _ (.cond _ (.seq a _) _) => a | _ => .skip
def fwRest : SC := match fw5 with | .seq _ (.cond _ (.seq _ a) _) => a | _ => .skip
theorem fw5_eq : fw5 = .seq fwC5 (.cond (.tmp 55) (.seq fwDrw fwRest) .skip) := rfl

/-- The trip among fewer legs. -/
theorem fw_rest (c : Ch) (ls less : List Lg) (hsub : ∀ l ∈ less, l ∈ ls) (hes : legE c less = 0) (p : Tp) (hp : tpOk c p = true) (A : AH) (hA : noLp A = true) (hG : A[waysG]? = some (.ro waysV)) (d t s : Value) (hc : ChIn A c d t s) (va : Option Addr) (vc : Nat) (a1 : Option Addr) (n1 k1 : Nat) (hv : LgIn A (.slice a1 n1 k1) less) (a0 : Option Addr) (n0 k0 : Nat) (e0 : Int) (hR : RoE (routeM c ls p) n0 e0) (S : St) (hI : FwI c ls p d t s va vc a0 n0 k0 e0 A S) (e10 : tget S.t 10 = .slice a1 n1 k1) :
    ∃ S' A', exL Tryz.prog pf fwRest S = some (.normal, S') ∧ Aft A A' ∧ FwI c ls p d t s va vc a0 n0 k0 e0 A' S' := by
  obtain ⟨e1, e3, e7, e8, e9, l3, l7, hH⟩ := hI
  obtain ⟨r, A2, r1, g1, g2⟩ := run_Route_ok c less p A hA hG d t s _ hc hv hes hp
  obtain ⟨⟨da, dc, ed, _⟩, ⟨ta, tc, et, _⟩, ⟨sa, sc, es, _⟩, _⟩ := id hc
  simp only [chV, tpV, ed, et, es] at r1
  have l3' := l3
  rw [ed, et, es] at l3'
  have l7' := l7
  simp only [tpC6] at l7'
  cases ho : routeM c less p with
  | none =>
    rw [ho] at g2
    obtain ⟨rfl, rfl⟩ := g2
    rcases hR with ⟨hn, rfl, rfl⟩ | ⟨ns, hn, rfl, rfl⟩
    rotate_left
    · obtain ⟨b, hb, _⟩ := fewer_some hp hsub hn
      rw [ho] at hb
      cases hb
    refine ⟨?_, A2, ?_, g1, ?_⟩
    rotate_left
    · simp [-oneC, -Array.all_eq_false, -Array.all_toList, -List.all_eq_true, oneC_slice, oneC_int, oneC_boolW, fwRest, fw5, sf_coblelaw06_LanesFewer, e1, e3, e7, e8, e9, e10, l3', l7', hH, r1]
      rfl
    · exact ⟨by simp [e1], by simp [e3], by simp [e7], by simp [e8], by simp [e9], by simp [l3], by simp [l7], by simp⟩
  | some ms =>
    rw [ho] at g2
    obtain ⟨r0, rfl, b, hb, rfl, hbA⟩ := g2
    rcases hR with ⟨hn, rfl, rfl⟩ | ⟨ns, hn, rfl, rfl⟩
    · refine ⟨?_, A2, ?_, g1, ?_⟩
      rotate_left
      · simp [-oneC, -Array.all_eq_false, -Array.all_toList, -List.all_eq_true, oneC_slice, oneC_int, oneC_boolW, fwRest, fw5, sf_coblelaw06_LanesFewer, e1, e3, e7, e8, e9, e10, l3', l7', hH, r1]
        rfl
      · exact ⟨by simp [e1], by simp [e3], by simp [e7], by simp [e8], by simp [e9], by simp [l3], by simp [l7], by simp⟩
    · obtain ⟨b', hb', hle⟩ := fewer_some hp hsub hn
      rw [ho] at hb'
      cases hb'
      have hnle : ¬ (ns.length : Int) < (ms.length : Int) := by omega
      have hnle' : ¬ ns.length < ms.length := by omega
      refine ⟨?_, A2, ?_, g1, ?_⟩
      rotate_left
      · simp [-oneC, -Array.all_eq_false, -Array.all_toList, -List.all_eq_true, oneC_slice, oneC_int, oneC_boolW, fwRest, fw5, sf_coblelaw06_LanesFewer, e1, e3, e7, e8, e9, e10, l3', l7', hH, r1, hnle, hnle']
        rfl
      · exact ⟨by simp [e1], by simp [e3], by simp [e7], by simp [e8], by simp [e9], by simp [l3], by simp [l7], by simp⟩

theorem fw_but (c : Ch) (hok : ChOk c) (ls : List Lg) (hl5 : ls.length ≤ 5) (hl80 : ∀ l ∈ ls, l.cs.length ≤ 80) (he : legE c ls = 0) (p : Tp) (hp : tpOk c p = true) (but : Int) (A : AH) (hA : noLp A = true) (hG : A[waysG]? = some (.ro waysV)) (d t s : Value) (hc : ChIn A c d t s) (va : Option Addr) (vc : Nat) (hv : LgIn A (.slice va ls.length vc) ls) (hfit : fitA A va 5 = true) (a0 : Option Addr) (n0 k0 : Nat) (e0 : Int) (hR : RoE (routeM c ls p) n0 e0) (S : St) (hI : FwI c ls p d t s va vc a0 n0 k0 e0 A S) (e5 : tget S.t 5 = .pointer (some ⟨5, 0, some 0⟩)) (l5 : lget S.L 5 = some (0, .cells (tpC6 p ++ [.int .i64 but]))) (hlim : S.lim ≤ A.length) :
    ∃ S' A', exL Tryz.prog pf fwB S = some (.ret, S') ∧ tget S'.t 6 = .bool true ∧ S'.H = A' := by
  obtain ⟨e1, e3, e7, e8, e9, l3, l7, hH⟩ := hI
  have hln : ls.length < 2 ^ 62 := by omega
  simp only [tpC6, List.cons_append, List.nil_append] at l5
  by_cases hin : 0 ≤ but ∧ but < ls.length
  rotate_left
  · have hlt := fun S h => fw_light c hok ls he p hp A hA hG d t s hc va vc hv a0 n0 k0 e0 hR S h
    have hfin : ∃ S1, exL Tryz.prog pf fwB S = exL Tryz.prog pf fwL S1 ∧ FwI c ls p d t s va vc a0 n0 k0 e0 A S1 := by
      by_cases h0 : 0 ≤ but
      · have h1 : ¬ but < (ls.length : Int) := fun h => hin ⟨h0, h⟩
        obtain ⟨fl, hfl⟩ : ∃ fl, fl = fwL := ⟨_, rfl⟩
        unfold fwB
        rw [← hfl]
        refine ⟨?_, ?_, ?_⟩
        rotate_left
        · simp [fw5, sf_coblelaw06_LanesFewer, e1, e5, l5, h0, h1]
          rfl
        · exact ⟨by simp [e1], by simp [e3], by simp [e7], by simp [e8], by simp [e9], by simp [l3], by simp [l7], by simp [hH]⟩
      · obtain ⟨fl, hfl⟩ : ∃ fl, fl = fwL := ⟨_, rfl⟩
        unfold fwB
        rw [← hfl]
        refine ⟨?_, ?_, ?_⟩
        rotate_left
        · simp [fw5, sf_coblelaw06_LanesFewer, e1, e5, l5, h0]
          rfl
        · exact ⟨by simp [e1], by simp [e3], by simp [e7], by simp [e8], by simp [e9], by simp [l3], by simp [l7], by simp [hH]⟩
    obtain ⟨S1, h1, h2⟩ := hfin
    rw [h1]
    exact hlt S1 h2
  obtain ⟨k, hk⟩ : ∃ k : Nat, but = k := ⟨but.toNat, by omega⟩
  subst hk
  have hkn : k < ls.length := by omega
  have hkI : (k : Int) < (ls.length : Int) := by omega
  obtain ⟨b1, o1, ac1, xa, xc, e, c0, c1, c2, c3, c4, hsl⟩ := hv.sl.get hkn
  cases e
  have hw : IntKind.i64.wrap ((k : Int) + 1) = ((k + 1 : Nat) : Int) := by rw [wrap_i64 (by omega) (by omega)]; omega
  have hk1 : k ≤ ls.length := by omega
  have hk2 : k + 1 ≤ ls.length := by omega
  have hk1I : (k : Int) ≤ (ls.length : Int) := by omega
  have hk2I : ((k + 1 : Nat) : Int) ≤ (ls.length : Int) := by omega
  have htakeL : ∀ l ∈ ls.take k, l ∈ ls := fun l h => List.mem_of_mem_take h
  have hdropL : ∀ l ∈ ls.drop (k + 1), l ∈ ls := fun l h => List.mem_of_mem_drop h
  have v1 : LgIn A (.slice (some ⟨b1, o1, none⟩) k (if vc = ls.length then ls.length else k + 1)) (ls.take k) := ⟨LgSl.take hv.sl hk1, fun l h => hv.cl l (htakeL l h), by simp; omega⟩
  obtain ⟨r1, A1, z1, g1, w1⟩ := run_Copy6 (ls.take k) (by simp; omega) (fun l h => by have := hl80 l (htakeL l h); omega) A _ v1
  have hlen1 : (ls.take k).length = k := by simp; omega
  have hlen2 : (ls.drop (k + 1)).length = ls.length - (k + 1) := by simp
  have hfitX : ∀ X, Ext A X → fitA X (some ⟨b1, o1, none⟩) 5 = true := fun X hE => fitA_extF hE hfit
  have hf1 := hfitX A1 g1.ext
  have hlt := fun A2 (h2 : Aft A A2) S h => fw_light c hok ls he p hp A2 (h2.nlp hA) (h2.ext _ _ hG) d t s (hc.ext h2.ext) _ vc (hv.ext h2.ext) a0 n0 k0 e0 hR S h
  obtain ⟨hok', hl12, hall⟩ := legE_zero.1 he
  have hes : ∀ less : List Lg, (∀ l ∈ less, l ∈ ls) → less.length ≤ 12 → legE c less = 0 := fun less h1 h2 => legE_zero.2 ⟨hok, h2, List.all_eq_true.2 fun l hl => List.all_eq_true.1 hall l (h1 l hl)⟩
  have hrest := fun less (hsub : ∀ l ∈ less, l ∈ ls) (hl : less.length ≤ 12) A2 (h2 : Aft A A2) a1 n1 k1 hv1 S hI h10 => fw_rest c ls less hsub (hes less hsub hl) p hp A2 (h2.nlp hA) (h2.ext _ _ hG) d t s (hc.ext h2.ext) (some ⟨b1, o1, none⟩) vc a1 n1 k1 hv1 a0 n0 k0 e0 hR S hI h10
  -- what is left when the list is made
  have fin : ∀ less (hsub : ∀ l ∈ less, l ∈ ls) (hl : less.length ≤ 12) A2 (h2 : Aft A A2) a1 n1 k1 (hv1 : LgIn A2 (.slice a1 n1 k1) less) S2, FwI c ls p d t s (some ⟨b1, o1, none⟩) vc a0 n0 k0 e0 A2 S2 → tget S2.t 10 = .slice a1 n1 k1 → (exL Tryz.prog pf fwB S = (match exL Tryz.prog pf fwRest S2 with | some (.normal, s') => exL Tryz.prog pf fwL s' | r => r)) → ∃ S' A', exL Tryz.prog pf fwB S = some (.ret, S') ∧ tget S'.t 6 = .bool true ∧ S'.H = A' := fun less hsub hl A2 h2 a1 n1 k1 hv1 S2 hI2 h10 heq => by
    obtain ⟨S3, A3, x1, x2, x3⟩ := hrest less hsub hl A2 h2 a1 n1 k1 hv1 S2 hI2 h10
    rw [heq, x1]
    exact hlt A3 (h2.trans x2) S3 x3
  have hdropL2 : ∀ l ∈ ls.take k ++ ls.drop (k + 1), l ∈ ls := fun l h => by
    rw [List.mem_append] at h
    rcases h with h | h
    · exact htakeL l h
    · exact hdropL l h
  have hlen3 : (ls.take k ++ ls.drop (k + 1)).length ≤ 12 := by rw [List.length_append, hlen1, hlen2]; omega
  obtain ⟨fl, hfl⟩ : ∃ fl, fl = fwL := ⟨_, rfl⟩
  obtain ⟨fr, hfr⟩ : ∃ fr, fr = fwRest := ⟨_, rfl⟩
  have hB : fwB = .seq (.seq fwC5 (.cond (.tmp 55) (.seq fwDrw fr) .skip)) fl := by rw [hfl, hfr]; rfl
  have hcond : ∀ {S4 : St} {o : Option (Ex × St)}, (match (match exL Tryz.prog pf fr S4 with | some (.normal, s') => some (Ex.normal, s') | r => r) with | some (.normal, s') => exL Tryz.prog pf fl s' | r => r) = (match exL Tryz.prog pf fr S4 with | some (.normal, s') => exL Tryz.prog pf fl s' | r => r) := fun {S4 o} => by
    cases exL Tryz.prog pf fr S4 with
    | none => rfl
    | some q => obtain ⟨e, s'⟩ := q; cases e <;> rfl
  by_cases hlast : k + 1 = ls.length
  · have hlastI : ((k + 1 : Nat) : Int) = (ls.length : Int) := by omega
    have hd0 : ls.drop (k + 1) = [] := by rw [hlast, List.drop_length]
    have hm0 : ls.length - (k + 1) = 0 := by omega
    have hls0 : ¬ ls = [] := fun h => by rw [h] at hkn; simp at hkn
    obtain ⟨r2, A2, z2, g2, w2⟩ := run_Copy6 [] (by simp) (fun l h => by simp at h) A1 (.slice none 0 (if vc = ls.length then 0 else 1)) ⟨⟨[], rfl, ⟨none, _, rfl, fun j x hx => by simp [lgsV] at hx⟩, fun i h => by simp at h⟩, fun l h => by simp at h, by simp⟩
    obtain ⟨tt, tl, _, ⟨_, er⟩ | ⟨hx, _⟩⟩ := w2
    rotate_left
    · exact absurd rfl hx
    subst er
    have g12 := g1.trans g2
    have hf2 := hfitX A2 g12.ext
    have hv1 : LgIn A2 r1 (ls.take k) := ⟨w1.sl.ext g2.ext, fun l h => hv.cl l (htakeL l h), by omega⟩
    obtain ⟨ra, rc, er1⟩ := w1.sl.one
    rw [er1, hlen1] at z1 hv1
    refine fin (ls.take k) htakeL (by omega) A2 g12 ra k rc hv1 ?_ ?_ ?_ ?_
    rotate_left 3
    · rw [hB, ← hfl, ← hfr]
      simp [-Int.natCast_add, -fitA, fwC5, fwDrw, fw5, sf_coblelaw06_LanesFewer, e1, e5, l5, hkI, hH, hfit, hk1, hk2, hk1I, hk2I, hw, z1, hf1, hlastI, hm0, hls0, z2, hf2]
      rfl
    · exact ⟨by simp [e1], by simp [e3], by simp [e7], by simp [e8], by simp [e9], by simp [l3], by simp [l7], by simp⟩
    · simp
  · have hlastI : ¬ ((k + 1 : Nat) : Int) = (ls.length : Int) := by omega
    have hk3 : k + 1 < ls.length := by omega
    have v2 : LgIn A1 (.slice (some ⟨b1, o1 + (k + 1) * 5, none⟩) (ls.length - (k + 1)) (if vc = ls.length then ls.length - (k + 1) else ls.length - (k + 1) + 1)) (ls.drop (k + 1)) := ⟨LgSl.drop (hv.sl.ext g1.ext) hk3, fun l h => hv.cl l (hdropL l h), by omega⟩
    obtain ⟨r2, A2, z2, g2, w2⟩ := run_Copy6 (ls.drop (k + 1)) (by omega) (fun l h => by have := hl80 l (hdropL l h); omega) A1 _ v2
    have g12 := g1.trans g2
    have hf2 := hfitX A2 g12.ext
    have hdne : ls.drop (k + 1) ≠ [] := fun h => by rw [h] at hlen2; simp at hlen2; omega
    obtain ⟨b2, new, er2, hb2, hnl, hn1, hn2, hcase⟩ := less_app w1 g2 w2 hdne
    rw [hlen2] at er2 hnl
    have hcN : ∀ L, cellsAt L A2 ⟨b2, 0, none⟩ ((ls.length - (k + 1)) * 5) = some new := fun L => by
      rw [← hnl]
      exact cellsAt_of _ 0 fun m y hy => by simp only [hcell, Nat.zero_add, hb2]; exact hy
    have hm0 : ¬ ls.length - (k + 1) = 0 := by omega
    have hlessN : ∀ {X : AH} {v : Value}, LgSl X v (ls.take k ++ ls.drop (k + 1)) → LgIn X v (ls.take k ++ ls.drop (k + 1)) := fun h => ⟨h, fun l h => hv.cl l (hdropL2 l h), by omega⟩
    rw [er2] at z2
    rcases hcase with ⟨hx0, er1, hsl⟩ | ⟨b, old, hb, hx0, er1, hbA, hol, hnlo, hsl⟩
    · rw [er1] at z1
      rw [hlen2] at hsl
      have hmx : ls.length - (k + 1) ≤ maxA := Nat.le_trans (show _ ≤ 1000 by omega) (by decide)
      refine fin _ hdropL2 hlen3 (A2 ++ [.rw 5 new]) (g12.push _) (some ⟨A2.length, 0, none⟩) (ls.length - (k + 1)) (ls.length - (k + 1) + 1) (hlessN hsl) ?_ ?_ ?_ ?_
      rotate_left 3
      · rw [hB, ← hfl, ← hfr]
        simp [-Int.natCast_add, -fitA, -List.all_eq_true, fwC5, fwDrw, fw5, sf_coblelaw06_LanesFewer, e1, e5, l5, hkI, hH, hfit, hk1, hk2, hk1I, hk2I, hw, z1, hf1, hlastI, hm0, z2, hf2, hcN, hn1, hn2, hmx]
        rfl
      · exact ⟨by simp [e1], by simp [e3], by simp [e7], by simp [e8], by simp [e9], by simp [l3], by simp [l7], by simp⟩
      · simp
    · have hk0 : ¬ k = 0 := fun h => by
        rw [h] at hx0
        exact hx0 rfl
      rw [hlen1] at er1 hol hsl
      rw [hlen2] at hsl
      rw [er1] at z1
      have hcO : ∀ L, cellsAt L A2 ⟨b, 0, none⟩ (k * 5) = some old := fun L => by
        rw [← hol]
        exact cellsAt_of _ 0 fun m y hy => by simp only [hcell, Nat.zero_add, hbA]; exact hy
      have hmx : k + (ls.length - (k + 1)) ≤ maxA := Nat.le_trans (show _ ≤ 1000 by omega) (by decide)
      have hlb : S.lim ≤ b := by omega
      refine fin _ hdropL2 hlen3 (A2.set b .dead ++ [.rw 5 (old ++ new)]) ((g12.set hb _).push _) (some ⟨A2.length, 0, none⟩) (k + (ls.length - (k + 1))) (k + (ls.length - (k + 1)) + 1) (hlessN hsl) ?_ ?_ ?_ ?_
      rotate_left 3
      · rw [hB, ← hfl, ← hfr]
        simp [-Int.natCast_add, -fitA, -List.all_eq_true, fwC5, fwDrw, fw5, sf_coblelaw06_LanesFewer, e1, e5, l5, hkI, hH, hfit, hk1, hk2, hk1I, hk2I, hw, z1, hf1, hlastI, hm0, z2, hf2, hcN, hcO, hn1, hn2, hmx, hk0, hbA, hol, hnlo, hlb]
        rfl
      · exact ⟨by simp [e1], by simp [e3], by simp [e7], by simp [e8], by simp [e9], by simp [l3], by simp [l7], by simp⟩
      · simp

/-- A trip and the place of a leg, as a value. -/
def shV (p : Tp) (but : Int) : Value := .agg #[.int .i64 p.t0, .int .i64 p.lv, .int .i64 p.dr, .bool p.tl, .int .i64 p.fr, .int .i64 p.to, .int .i64 but]

set_option maxHeartbeats 8000000 in
theorem fewer_law (c : Ch) (ls : List Lg) (hn : ls.length < 2 ^ 63) (p : Tp) (but : Int) (lim : Nat) (H : AH) (hH : noLp H = true) (hG : H[waysG]? = some (.ro waysV)) (d t s : Value) (va : Option Addr) (n vc : Nat) (hs : ChSl H c d t s) (hv : LgSl H (.slice va n vc) ls) (hfit : fitA H va 5 = true) :
    ∃ H', apL Tryz.prog pf (.func (.func 5) #[] #[]) [chV c d t s, .slice va n vc, shV p but] lim H = some (.bool true, H') := by
  refine ⟨H, ?_⟩
  rw [apL_func _ _ _ _ _ _ (by rfl), sf_coblelaw06_LanesFewer_eq]
  have hV := fun lim => run_valid6 c ls hn lim H d t s _ hs hv
  have hW := fun lim => run_works6 lim H hG
  obtain ⟨va', vc', ev⟩ := hv.one
  cases ev
  obtain ⟨⟨da, dc, ed, _⟩, ⟨ta, tc, et, _⟩, ⟨sa, sc, es, _⟩⟩ := id hs
  have hb : sf_coblelaw06_LanesFewer.body = .seq fw0 (.seq fw1 (.seq fw2 (.seq fw3 (.seq fw4 fwB)))) := fw_body
  have hres : sf_coblelaw06_LanesFewer.res = [.tmp 6] := rfl
  cases a1 : valid6 c ls with
  | false =>
    rw [a1] at hV
    simp only [chV, ed, et, es] at hV
    simp only [hb, hres]
    simp [fw0, fw1, fw2, sf_coblelaw06_LanesFewer, chV, shV, ed, et, es, hV, hW, pf_pure, pureF]
  | true =>
  rw [a1] at hV
  obtain ⟨v1, v2, v3, v4⟩ := valid6_iff.1 a1
  obtain ⟨hok, hl12, hall⟩ := legE_zero.1 v4
  have hc : ChIn H c d t s := Far6.in hs v1
  have hv' : LgIn H (.slice va ls.length vc) ls := FarL.in hv v2
  have hl80 : ∀ l ∈ ls, l.cs.length ≤ 80 := fun l hl => by
    simp only [FarL, Bool.or_eq_false_iff, List.any_eq_false, decide_eq_true_eq] at v2
    have := v2.1.1 l hl
    omega
  have hT := fun lim => run_IsTrip6 c hok p lim H d t s hc
  simp only [chV, tpV, ed, et, es] at hV hT
  cases a2 : tpOk c p with
  | false =>
    rw [a2] at hT
    simp only [hb, hres]
    simp [fw0, fw1, fw2, sf_coblelaw06_LanesFewer, chV, shV, ed, et, es, hV, hT, hW, pf_pure, pureF]
  | true =>
  rw [a2] at hT
  obtain ⟨r, A, r1, g1, g2⟩ := run_Route_ok c ls p H hH hG d t s _ hc hv' v4 a2
  have hbt := fun a0 n0 k0 e0 hR S => fw_but c hok ls v3 hl80 v4 p a2 but A (g1.nlp hH) (g1.ext _ _ hG) d t s (hc.ext g1.ext) va vc (hv'.ext g1.ext) (fitA_extF g1.ext hfit) a0 n0 k0 e0 hR S
  have hle := g1.le
  simp only [chV, tpV, ed, et, es] at r1
  obtain ⟨fb, hfb⟩ : ∃ fb, fb = fwB := ⟨_, rfl⟩
  rw [← hfb] at hb hbt
  cases ho : routeM c ls p with
  | none =>
    rw [ho] at g2
    obtain ⟨rfl, rfl⟩ := g2
    simp only [hb, hres]
    simp [-oneC, -Array.all_eq_false, -Array.all_toList, -List.all_eq_true, oneC_slice, oneC_int, oneC_boolW, fw0, fw1, fw2, fw3, fw4, sf_coblelaw06_LanesFewer, chV, shV, ed, et, es, hV, hT, r1, pf_pure, pureF]
    generalize hS : ({ t := _, L := _, H := _, lim := _, rd := _ } : St) = S1
    obtain ⟨S', A', z1, z2, z3⟩ := hbt none 0 0 3 (.inl ⟨ho, rfl, rfl⟩) S1 ⟨by subst hS; simp, by subst hS; simp, by subst hS; simp, by subst hS; simp, by subst hS; simp, by subst hS; simp [ed, et, es], by subst hS; simp [tpC6], by subst hS; rfl⟩ (by subst hS; simp) (by subst hS; simp [tpC6]) (by subst hS; simp)
    rw [z1]
    simp [z2]
  | some ns =>
    rw [ho] at g2
    obtain ⟨r0, rfl, b, hb0, rfl, hbA⟩ := g2
    have hnl : (ns.map Int.ofNat).length = ns.length := by simp
    rw [hnl] at r1
    simp only [hb, hres]
    simp [-oneC, -Array.all_eq_false, -Array.all_toList, -List.all_eq_true, oneC_slice, oneC_int, oneC_boolW, fw0, fw1, fw2, fw3, fw4, sf_coblelaw06_LanesFewer, chV, shV, ed, et, es, hV, hT, r1, pf_pure, pureF]
    generalize hS : ({ t := _, L := _, H := _, lim := _, rd := _ } : St) = S1
    obtain ⟨S', A', z1, z2, z3⟩ := hbt (some ⟨b, 0, none⟩) ns.length ns.length 0 (.inr ⟨ns, ho, rfl, rfl⟩) S1 ⟨by subst hS; simp, by subst hS; simp, by subst hS; simp, by subst hS; simp, by subst hS; simp, by subst hS; simp [ed, et, es], by subst hS; simp [tpC6], by subst hS; rfl⟩ (by subst hS; simp) (by subst hS; simp [tpC6]) (by subst hS; exact hle)
    rw [z1]
    simp [z2]
end Go.Proofs.YthobfecblpnnnaaGreatDoor

/- The law LanesFewer at what was read. -/
set_option linter.all false
namespace Go.Proofs.YthobfecblpnnnaaGreatDoor
open Go Go.RowKit
attribute [local irreducible] tyD

variable {H : Type}

theorem dShort {n : Nat} {d : DataW H} (h : tyD Tryz.prog (n + 3) 49 d) : ∃ (p : Tp) (b : Int), ∀ k, absD d k = (tpC p ++ [.int .i64 b], []) := by
  unfold tyD at h
  simp only [Tryz.underlying49] at h
  obtain ⟨parts, rfl, hp⟩ := h
  match parts, hp with
  | [x1, x2], hp =>
    obtain ⟨p, h1⟩ := dTrip (n := n) hp.1
    obtain ⟨b, _, h2⟩ := dInt (n := n + 1) hp.2.1
    exact ⟨p, b, fun k => by simp [absD, absDs, h1, h2]⟩
  | [], hp => exact hp.elim
  | [_], hp => exact hp.2.elim
  | _ :: _ :: _ :: _, hp => exact hp.2.2.elim

theorem aggST : isAggT Tryz.prog 49 = true := by kernel_rfl

/-- A list that was read begins a block. -/
theorem dFit {n : Nat} {d : DataW H} (h : tyD Tryz.prog (n + 4) 26 d) (k : Nat) : ∃ a m q, (absD d k).1 = [.slice a m q] ∧ ∀ H0 : AH, H0.length = k → fitA (H0 ++ (absD d k).2) a 5 = true := by
  unfold tyD at h
  simp only [Tryz.underlying26] at h
  rcases h with rfl | ⟨elems, spare, rfl, hl, hp⟩
  · exact ⟨none, 0, 1, rfl, fun H0 _ => rfl⟩
  · match elems with
    | [] => exact ⟨none, 0, 1, rfl, fun H0 _ => rfl⟩
    | d :: ds =>
      refine ⟨some ⟨k, 0, none⟩, ds.length + 1, ds.length + 2, rfl, fun H0 hk => ?_⟩
      subst hk
      unfold fitA
      simp only [absD, List.getElem?_append_right (Nat.le_refl _), Nat.sub_self, List.getElem?_cons_zero]

theorem lanesFewer_true (ds : List (DataW H)) (h : All2 (tyD Tryz.prog 5) [25, 26, 49] ds) : ∃ H', apL Tryz.prog pf (.func (.func 5) #[] #[]) (absVs Tryz.prog [25, 26, 49] ds Tryz.prog.globals.size).1 0 (globH Tryz.prog tabs ++ (absVs Tryz.prog [25, 26, 49] ds Tryz.prog.globals.size).2) = some (.bool true, H') := by
  match ds, h with
  | [x, y, z], h =>
    obtain ⟨c, _, hc⟩ := dChart (n := 1) h.1
    obtain ⟨ls, hll, hl⟩ := dLegsS (n := 1) h.2.1
    obtain ⟨p, b, hz⟩ := dShort (n := 2) h.2.2.1
    obtain ⟨dd, tt, ss, e, hS⟩ := hc (globH Tryz.prog tabs)
    obtain ⟨lv, el, hL⟩ := hl (globH Tryz.prog tabs ++ (absD x (globH Tryz.prog tabs).length).2)
    have hgl : (globH Tryz.prog tabs).length = Tryz.prog.globals.size := by simp [globH]
    rw [List.length_append] at el hL
    rw [hgl] at e hS el hL
    have hG := hG_ext (absD x Tryz.prog.globals.size).2 globGT
    obtain ⟨n2, hn2⟩ : ∃ n2, n2 = Tryz.prog.globals.size + (absD x Tryz.prog.globals.size).2.length := ⟨_, rfl⟩
    rw [← hn2] at el hL
    obtain ⟨va, m, q, ea, hfit⟩ := dFit (n := 1) h.2.1 n2
    rw [el] at ea
    simp only [List.cons.injEq, and_true] at ea
    subst ea
    have hfit := hfit (globH Tryz.prog tabs ++ (absD x Tryz.prog.globals.size).2) (by rw [List.length_append, hgl, hn2])
    have ev : (absVs Tryz.prog [25, 26, 49] [x, y, z] Tryz.prog.globals.size) = ([chV c dd tt ss, .slice va m q, shV p b], (absD x Tryz.prog.globals.size).2 ++ (absD y n2).2) := by
      simp only [absVs, hz, e, List.append_nil, ← hn2, el]
      simp only [absV, aggCT, aggST, aggLT, if_true]
      rfl
    rw [ev]
    simp only [← List.append_assoc]
    have E : Ext (globH Tryz.prog tabs ++ (absD x Tryz.prog.globals.size).2) (globH Tryz.prog tabs ++ (absD x Tryz.prog.globals.size).2 ++ (absD y n2).2) := Ext.push _ _
    have hml : maxLen < 2 ^ 63 := by decide
    exact fewer_law c ls (by omega) p b 0 _ (noLp_app (noLp_app globH_nlp (absD_nlp x _)) (absD_nlp y _)) (hG_ext _ hG) dd tt ss va m q ⟨hS.d.ext E, hS.t.ext E, hS.s.ext E⟩ hL hfit
  | [], h => exact h.elim
  | [_], h => exact h.2.elim
  | [_, _], h => exact h.2.2.elim
  | _ :: _ :: _ :: _ :: _, h => exact h.2.2.2.elim
end Go.Proofs.YthobfecblpnnnaaGreatDoor

/- The statement of LanesFewer: its row and its card. For every readable input the law's function returns true, and leaves its arguments as they were. -/
set_option linter.all false
namespace Go.Proofs.YthobfecblpnnnaaGreatDoor.LawLanesFewer
open Go Go.RowKit Go.ChangeShapes Go.WideShapes Go.ChangeAt Go.Proofs.YthobfecblpnnnaaGreatDoor

theorem args {α : Type} {r : TypeId → α → Prop} {ds : List α} (h : All2 r [25, 26, 49] ds) : ∃ d1 d2 d3, ds = [d1, d2, d3] := by
  match ds, h with
  | [d1, d2, d3], _ => exact ⟨d1, d2, d3, rfl⟩
  | [], h => exact h.elim
  | [_], h => exact h.2.elim
  | [_, _], h => exact h.2.2.elim
  | _ :: _ :: _ :: _ :: _, h => exact h.2.2.2.elim

set_option maxRecDepth 100000 in
theorem contract (H : Type) (enc : TypeId × Value → H) (W : World) (base : Nat) (args : Array Value) (ds gs : List (DataW H)) (before : List MemPlace)
    (hval : ∀ (j : Nat) t v, Tryz.f5.params[j]? = some t → args[j]? = some v → Value.okWide Tryz.prog W .any base t v)
    (hW : DataW.Whole enc Tryz.prog Tryz.f5.params.toList Rows.lanesFewerSpec.vars false W args.toList ds gs before) (hL : laidMetH Tryz.prog Rows.lanesFewerRow.laid W) (hS : W.ShapedOpen Tryz.prog) :
    Calls Tryz.prog 5 args W fun e W' => ∃ v, e = .returned v ∧ Rows.lanesFewerSpec.post enc Tryz.prog Tryz.f5 false true false false W args v W' := by
  have hp : Tryz.f5.params.toList = [25, 26, 49] := by rw [Tryz.params5]
  have hsup : ∀ t ∈ Tryz.f5.params.toList, supT Tryz.prog 5 t = true := by
    rw [hp]
    intro t ht
    have := (show ([25, 26, 49] : List TypeId).all (supT Tryz.prog 5) = true by kernel_rfl)
    exact List.all_eq_true.1 this t ht
  have hA : DataW.TrodAll enc Tryz.prog W 0 (fun _ => true) true Tryz.f5.params.toList args.toList ds before := by
    obtain ⟨p, q, h1, h2, rfl, _⟩ := hW
    obtain ⟨rfl, rfl⟩ := trodVars_none h2
    simpa using h1
  have hty := args_ty _ _ _ _ hsup hA
  rw [hp] at hty
  obtain ⟨H', ht⟩ := lanesFewer_true ds hty
  obtain ⟨d1, d2, d3, rfl⟩ := LawLanesFewer.args hty
  rw [← hp] at ht
  obtain ⟨c, hbody⟩ := Option.isSome_iff_exists.1 (show Tryz.f5.body.isSome = true by kernel_rfl)
  refine (law_calls foll pf pf_sound Tryz.func5 hbody (by kernel_rfl) hsup hval hA (globals_there hS) (tabs_there hL) ht).mono ?_
  rintro e W' ⟨rfl, o', hk⟩
  exact ⟨_, rfl, post_true hW rfl ⟨rfl, rfl, rfl⟩ (tb := 4) (by kernel_rfl) Tryz.underlying4 kids (slices_full_of _ full) (by
    rw [hp]
    intro t ht
    have := (show ([25, 26, 49] : List TypeId).all (fun t => decide (t < Tryz.prog.types.size)) = true by kernel_rfl)
    exact of_decide_eq_true (List.all_eq_true.1 this t ht)) hk (fun _ => rfl)⟩

/-- A world for the witness: the table is laid. -/
noncomputable def laidWorld (os : Os) : World :=
  { World.holding Tryz.prog os ⟨#[], #[], []⟩ with heap := (World.holding Tryz.prog os ⟨#[], #[], []⟩).heap.modify waysG fun
      | .cells _ t frozen => .cells waysV.toArray t frozen
      | o => o }
def wit : Array Value := #[.agg #[.int .i64 0, .int .i64 0, .slice none 0 0, .slice none 0 0, .slice none 0 0], .slice none 0 0, .agg #[.int .i64 0, .int .i64 0, .int .i64 0, .bool false, .int .i64 0, .int .i64 0, .int .i64 0]]
theorem laid_met (os : Os) : laidMet Tryz.prog Rows.lanesFewerRow.laid ((laidWorld os).forCall (fun _ _ => 0) ⟨#[], wit, []⟩).memory :=
  laidMet_of_run' 8 (by kernel_rfl) (by kernel_rfl)
theorem reads (os : Os) {H : Type} (enc : TypeId × Value → H) : ∃ places, DataW.whole enc Tryz.prog ((laidWorld os).forCall (fun _ _ => 0) ⟨#[], wit, []⟩).memory Tryz.f5.params.toList Rows.lanesFewerSpec.vars false wit.toList 8 =
    some ([.agg [.lit (.int .i64 0), .lit (.int .i64 0), .nil, .nil, .nil], .nil, .agg [.agg [.lit (.int .i64 0), .lit (.int .i64 0), .lit (.int .i64 0), .lit (.bool false), .lit (.int .i64 0), .lit (.int .i64 0)], .lit (.int .i64 0)]], [], places) :=
  ⟨[], by kernel_rfl⟩

set_option maxRecDepth 100000 in
theorem lifted (os : Os) (started : os.Started) (H : Type) (enc : TypeId × Value → H) (F : Stop.Interp) :
    ReturnsInHanded {} Tryz.checked os 5 .any ((OpenSpec.ofChange Rows.lanesFewerSpec).preRow enc Tryz.prog Tryz.f5 Rows.lanesFewerRow.domain false Rows.lanesFewerRow.laid) (((OpenSpec.ofChange Rows.lanesFewerSpec).at F).post enc Tryz.prog Tryz.f5 false true false false) := by
  obtain ⟨places, hx⟩ := reads os enc
  refine returnsInHanded_of_row (C := Tryz.checked) (s := OpenSpec.ofChange Rows.lanesFewerSpec) own started (by kernel_rfl) Tryz.func5
    (witness_row_at (enc := enc) (C := Tryz.checked) false (laidWorld os) wit rfl (by kernel_rfl) (by kernel_rfl) (by kernel_rfl)
      (OpenSpec.preRow_of_cond 8 hx (by kernel_rfl) (fun k hk => by cases hk) (by kernel_rfl) (laid_met os))) ?_
  intro W base args ds gs before hval hW _ _ _ hL hS _
  exact contract H enc W base args ds gs before hval hW hL hS

theorem said : Rows.LanesFewerSaid :=
  OpenClaim.holds_of_cond 5 Tryz.f5 rfl rfl rfl rfl rfl rfl rfl ⟨rfl, rfl, rfl, rfl, rfl⟩ rfl rfl rfl rfl rfl (by kernel_rfl) Tryz.func5 (by kernel_rfl)
    (of_decide_eq_true (by kernel_rfl)) (by unfold Func.isWrapper; first | (rw [if_pos (by decide +kernel)]; kernel_rfl) | (rw [if_neg (by decide +kernel)]; exact ⟨rfl, rfl⟩))
    (fun os started H enc _ F => by rw [OpenClaim.pre_eq_preRow]; exact lifted os started H enc F)

theorem plain (f : FuncId) (fn : Func) (hf : Tryz.pinned.checked.prog.funcNamed "coble/coblelaw06.LanesFewer" = some f) (hfn : Tryz.pinned.checked.prog.funcs[f]? = some fn) :
    false = Tryz.pinned.checked.prog.looks [] ∧ ∀ (j : Nat) t, fn.params[j]? = some t → Tryz.pinned.checked.prog.wantsStandIn t = false := by
  obtain rfl : f = 5 := Option.some.inj ((show Tryz.prog.funcNamed "coble/coblelaw06.LanesFewer" = some 5 by kernel_rfl).symm.trans hf) |>.symm
  obtain rfl : fn = Tryz.f5 := (Option.some.inj (Tryz.func5.symm.trans hfn)).symm
  refine ⟨by kernel_rfl, fun j t ht => ?_⟩
  rw [Tryz.params5] at ht
  have hm : t ∈ ([25, 26, 49] : List TypeId) := by simpa using Array.mem_of_getElem? ht
  have := (show ([25, 26, 49] : List TypeId).all (fun t => Tryz.prog.wantsStandIn t == false) = true by kernel_rfl)
  have e : Tryz.prog.wantsStandIn t = false := by simpa using List.all_eq_true.1 this t hm
  exact e

/-- The card. -/
theorem card : Rows.LanesFewerCardSaid :=
  Claim7.holds_tied_plain_at .later [] _ _ _ _ said (fun _ h => by cases h) (by kernel_rfl) (fun _ h => by cases h) lanesFewer_row_tie rfl ⟨rfl, rfl⟩ (by kernel_rfl) rfl plain (by kernel_rfl)
end Go.Proofs.YthobfecblpnnnaaGreatDoor.LawLanesFewer
