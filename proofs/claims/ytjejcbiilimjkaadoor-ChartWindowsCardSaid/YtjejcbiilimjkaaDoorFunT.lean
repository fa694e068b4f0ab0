/- Contracts of the functions, in the abstract machine: the reference's windows, whole. -/
import Derived.Test.YtjejcbiilimjkaaDoorFunS
set_option linter.all false
namespace Go.Proofs.YtjejcbiilimjkaaDoor
open Go Go.RowKit

/-- The block of a slice. -/
def bk : Value → Option Nat
  | .slice (some a) _ _ => some a.block
  | _ => none
def Dis (v w : Value) : Prop := ∀ b, bk v = some b → bk w ≠ some b
theorem Dis.symm {v w : Value} (h : Dis v w) : Dis w v := fun b h1 h2 => h b h2 h1

theorem OwnS.lt {n0 : Nat} {A : AH} {v : Value} {l : List (Int × Int)} (h : OwnS n0 A v l) : ∀ b, bk v = some b → b < A.length := by
  rcases h with ⟨_, rfl⟩ | ⟨_, b, _, rfl, hb⟩
  · intro b h; cases h
  · intro b' h; cases h; exact (List.getElem?_eq_some_iff.1 hb).1

/-- What a tick more leaves of others' blocks. -/
def Kept (A A' : AH) (v : Value) : Prop := ∀ j x, A[j]? = some x → bk v ≠ some j → A'[j]? = some x

theorem OwnS.kept {n0 : Nat} {A A' : AH} {v w : Value} {l : List (Int × Int)} (h : OwnS n0 A w l) (hk : Kept A A' v) (hd : Dis v w) : OwnS n0 A' w l := by
  rcases h with h | ⟨h1, b, h2, rfl, hb⟩
  · exact .inl h
  · exact .inr ⟨h1, b, h2, rfl, hk b _ hb fun e => hd b e rfl⟩

theorem run_grow (n0 lim : Nat) (A : AH) (hA : n0 ≤ A.length) (v : Value) (l : List (Int × Int)) (h : OwnS n0 A v l) (hlim : lim ≤ n0) (hl : l.length ≤ 1000) (k : Int) (k0 : 0 ≤ k) (k1 : k ≤ 1000) :
    ∃ v' A', apL Tryd.prog pf (.func (.func 75) #[] #[]) [v, .int .i64 k] lim A = some (v', A') ∧ OwnS n0 A' v' (growL l k) ∧ Kept A A' v ∧ A.length ≤ A'.length ∧ (∀ H : AH, H.length ≤ n0 → Pre H A → Pre H A') ∧ (∀ b, bk v' = some b → bk v = some b ∨ A.length ≤ b) := by
  have hwm : IntKind.i64.wrap (k - 1) = k - 1 := wrap_i64 (by omega) (by omega)
  have hmx0 : 1 ≤ maxA := by decide
  rcases h with ⟨rfl, rfl⟩ | ⟨hne, b, hb, rfl, hbA⟩
  · refine ⟨.slice (some ⟨A.length + 1, 0, none⟩) 1 2, A ++ [.rw 2 [.int .i64 k, .int .i64 k], .rw 2 [.int .i64 k, .int .i64 k]], ?_, .inr ⟨by simp [growL_nil], A.length + 1, by omega, by simp [growL_nil], by simp [growL_nil, spans]⟩, fun j x hj _ => (Ext.push A _) j x hj, by simp, fun H hH hp => hp.push _, fun b h => by simp [bk] at h; exact .inr (by omega)⟩
    rw [apL_func _ _ _ _ _ _ (by rfl), sf_cobleref01_grow_eq]
    simp [sf_cobleref01_grow, hmx0, pf_pure, pureF]
  · rcases List.eq_nil_or_concat l with rfl | ⟨m, ⟨a, z⟩, hm⟩
    · exact absurd rfl hne
    rw [List.concat_eq_append] at hm
    obtain ⟨cs, hcs⟩ : ∃ cs, cs = spans l := ⟨_, rfl⟩
    have hml : l.length = m.length + 1 := by rw [hm]; simp
    have hcl : cs.length = (m.length + 1) * 2 := by rw [hcs, spans_length, hml]
    have hcz : cs[m.length * 2 + 1]? = some (.int .i64 z) := by
      have := (spans_get (l := l) (i := m.length) (by omega)).2
      rw [hcs, this]
      simp [hm]
    have hcn : nlL cs = true := by rw [hcs]; exact nlL_spans l
    have hA2 : ∀ L x, cellsAt L (A ++ x) ⟨b, 0, none⟩ ((m.length + 1) * 2) = some cs := fun L x => by
      rw [← hcl]
      refine cellsAt_of cs 0 fun j y hy => ?_
      simp only [hcell, Nat.zero_add]
      rw [List.getElem?_append_left (List.getElem?_eq_some_iff.1 hbA).1, hbA, ← hcs]
      exact hy
    rw [← hcs] at hbA
    rw [hml] at hl
    have hbl : b < A.length := (List.getElem?_eq_some_iff.1 hbA).1
    have hbX : ∀ x : AH, (A ++ x)[b]? = some (.rw 2 cs) := fun x => by rw [List.getElem?_append_left hbl, hbA]
    have hwl : IntKind.i64.wrap (((m.length : Int) + 1) - 1) = (m.length : Int) := by rw [wrap_i64 (by omega) (by omega)]; omega
    have hwl' : IntKind.i64.wrap (m.length : Int) = (m.length : Int) := wrap_i64 (by omega) (by omega)
    have hmx : m.length + 1 + 1 ≤ maxA := Nat.le_trans (show m.length + 1 + 1 ≤ 2000 by omega) (by decide)
    have hmx' : m.length + 2 ≤ maxA := hmx
    have hix : (m.length : Int) < (m.length : Int) + 1 := by omega
    have hpos : (0 : Int) < (m.length : Int) + 1 := by omega
    have hi2 : m.length * 2 + 1 + 1 ≤ (m.length + 1) * 2 := by omega
    have hi3 : m.length * 2 + 2 ≤ (m.length + 1) * 2 := by omega
    have hbl2 : lim ≤ b := by omega
    have hg : growL l k = if z = k - 1 then m ++ [(a, k)] else m ++ [(a, z)] ++ [(k, k)] := by rw [hm, growL_snoc]
    by_cases hz : z = k - 1
    · refine ⟨.slice (some ⟨b, 0, none⟩) l.length (l.length + 1), A.set b (.rw 2 (cs.set (m.length * 2 + 1) (.int .i64 k))), ?_, ?_, fun j x hj hne => ?_, by simp, fun H hH hp => hp.set (by omega) _, fun b' h => .inl h⟩
      · rw [apL_func _ _ _ _ _ _ (by rfl), sf_cobleref01_grow_eq]
        simp [sf_cobleref01_grow, hml, hwl, hwl', hpos, hix, hbA, hcz, hz, hbl2, hcl, hi2, hi3, hwm, pf_pure, pureF]
      · rw [hg, if_pos hz]
        refine .inr ⟨by simp, b, hb, by simp [hml], ?_⟩
        rw [List.getElem?_set_self hbl, hcs, hm, spans_append, spans_append]
        have e2 : m.length * 2 + 1 = (spans m).length + 1 := by rw [spans_length]
        rw [e2, List.set_append_right _ _ (by omega), Nat.add_sub_cancel_left]
        simp [spans]
      · rw [List.getElem?_set_ne (fun e => hne (by subst e; rfl))]; exact hj
    · have hzb : (z == k - 1) = false := by simpa using hz
      refine ⟨.slice (some ⟨A.length + 1, 0, none⟩) (m.length + 2) (m.length + 3), (A ++ [ABlk.rw 2 [.int .i64 k, .int .i64 k]]).set b .dead ++ [ABlk.rw 2 (cs ++ [.int .i64 k, .int .i64 k])], ?_, ?_, fun j x hj hne => ?_, by simp; omega, fun H hH hp => ((hp.push _).set (by omega) _).push _, fun b' h => by simp [bk] at h; exact .inr (by omega)⟩
      · rw [apL_func _ _ _ _ _ _ (by rfl), sf_cobleref01_grow_eq]
        simp [sf_cobleref01_grow, hml, hwl, hwl', hpos, hix, hbA, hcz, hzb, hbl2, hcl, hi2, hi3, hwm, hA2, hbX, hcn, hmx, hmx', pf_pure, pureF]
      · rw [hg, if_neg hz]
        refine .inr ⟨by simp, A.length + 1, by omega, by simp, ?_⟩
        rw [List.getElem?_append_right (by simp), hcs, hm, spans_append (m ++ [(a, z)])]
        simp [spans]
      · have hjl : j < A.length := (List.getElem?_eq_some_iff.1 hj).1
        rw [List.getElem?_append_left (by simp; omega), List.getElem?_set_ne (fun e => hne (by subst e; rfl)), List.getElem?_append_left hjl]
        exact hj

def winOut : SC := sf_cobleref01_Windows.body.loops.headD .skip

theorem win_out (c : Ch) (hok : ChOk c) (r : Rp) (hr : rampB c r = true) (H : AH) (d t s : Value) (hc : ChIn H c d t s) (S : St) (h2 : tget S.t 2 = .pointer (some ⟨2, 0, some 0⟩)) (h3 : tget S.t 3 = .pointer (some ⟨3, 0, some 0⟩)) (h4 : tget S.t 4 = .slice none 0 0) (h5 : tget S.t 5 = .slice none 0 0) (h7 : tget S.t 7 = .int .i64 0)
    (hL : S.L = [(3, 0, .cells [.int .i64 r.cell, .int .i64 r.g, .int .i64 r.least, .int .i64 r.most, .int .i64 r.surf]), (2, 0, .cells [.int .i64 c.w, .int .i64 c.h, d, t, s])]) (hH : S.H = H) (hlim : S.lim = H.length) :
    ∃ q, exL Tryd.prog pf (.loop winOut) S = some q ∧ q.1 = .exit 0 ∧ Pre H q.2.H ∧ OwnS H.length q.2.H (tget q.2.t 4) (spansTo (c.sureL r) c.ticks) ∧ OwnS H.length q.2.H (tget q.2.t 5) (spansTo (c.mayL r) c.ticks) := by
  have hT : c.ticks ≤ 60 := hok.2.2.2.1.2
  refine loop_rule (I := fun n s' => ∃ i, i ≤ c.ticks ∧ n = c.ticks - i ∧ tget s'.t 2 = .pointer (some ⟨2, 0, some 0⟩) ∧ tget s'.t 3 = .pointer (some ⟨3, 0, some 0⟩) ∧ tget s'.t 7 = .int .i64 i ∧ s'.L = S.L ∧ s'.lim = H.length ∧ Pre H s'.H ∧ OwnS H.length s'.H (tget s'.t 4) (spansTo (c.sureL r) i) ∧ OwnS H.length s'.H (tget s'.t 5) (spansTo (c.mayL r) i) ∧ Dis (tget s'.t 4) (tget s'.t 5)) ?_ c.ticks S
    ⟨0, by omega, by omega, h2, h3, h7, rfl, hlim, by rw [hH]; exact Pre.refl H, .inl ⟨rfl, h4⟩, .inl ⟨rfl, h5⟩, by rw [h4]; intro b h; cases h⟩
  rintro n s' ⟨i, hi, rfl, e2, e3, e7, eL, el, hp, o4, o5, hdis⟩
  by_cases hlt : i < c.ticks
  rotate_left
  · have : i = c.ticks := by omega
    subst this
    obtain ⟨ta, tc, et, _⟩ := hc.t
    rw [hL, et] at eL
    simp [winOut, SC.loops, sf_cobleref01_Windows, e2, e3, e7, eL, Ch.ticks]
    exact ⟨hp, o4, o5⟩
  have hcA := hc.ext hp.ext
  obtain ⟨bt, ot, kt, et, t1, t2⟩ := hcA.td hlt
  have hk' : i < c.tide.length := hlt
  have eL' := eL
  have hL' := hL
  rw [hL, et] at eL
  rw [et] at hL
  simp only [hcell] at t1 t2
  simp [winOut, SC.loops, sf_cobleref01_Windows, e2, e3, e7, eL, hk', t1, hL]
  generalize hS : ({ t := _, L := _, H := _, lim := _, rd := _ } : St) = S2
  obtain ⟨⟨e, s1⟩, hr1, q1, q8, q9, k2, k3, k4, k5, k7, kL, kH, kl⟩ := win_in c hok r hr s'.H d t s hcA hlt S2 (by subst hS; simp [e2]) (by subst hS; simp [e3]) (by subst hS; simp [e7]) (by subst hS; simp) (by subst hS; simp) (by subst hS; simp) (by subst hS; simp [et]) (by subst hS; rfl)
  simp [winIn, SC.loops, sf_cobleref01_Windows] at hr1
  rw [hr1]
  simp only at q1 q8 q9 k2 k3 k4 k5 k7 kL kH kl
  subst q1
  rw [sure_eq c hok r hr hlt] at q8
  rw [may_eq c hok r hr hlt] at q9
  have j2 : tget s1.t 2 = .pointer (some ⟨2, 0, some 0⟩) := by rw [k2]; subst hS; simp [e2]
  have j3 : tget s1.t 3 = .pointer (some ⟨3, 0, some 0⟩) := by rw [k3]; subst hS; simp [e3]
  have j4 : tget s1.t 4 = tget s'.t 4 := by rw [k4]; subst hS; simp
  have j5 : tget s1.t 5 = tget s'.t 5 := by rw [k5]; subst hS; simp
  have j7 : tget s1.t 7 = .int .i64 i := by rw [k7]; subst hS; simp [e7]
  have jL : s1.L = S.L := by rw [kL]; subst hS; simp [hL]
  have jl : s1.lim = H.length := by rw [kl]; subst hS; exact el
  have hw : IntKind.i64.wrap ((i : Int) + 1) = ((i + 1 : Nat) : Int) := by rw [wrap_i64 (by omega) (by omega)]; omega
  have len4 := spansTo_length (c.sureL r) i
  have len5 := spansTo_length (c.mayL r) i
  have su4 : spansTo (c.sureL r) (i + 1) = if c.sureL r i then growL (spansTo (c.sureL r) i) i else spansTo (c.sureL r) i := rfl
  have su5 : spansTo (c.mayL r) (i + 1) = if c.mayL r i then growL (spansTo (c.mayL r) i) i else spansTo (c.mayL r) i := rfl
  rw [hL] at jL
  cases x8 : c.sureL r i with
  | false =>
    rw [x8] at q8 su4
    simp only [Bool.false_eq_true, if_false] at su4
    cases x9 : c.mayL r i with
    | false =>
      rw [x9] at q9 su5
      simp only [Bool.false_eq_true, if_false] at su5
      simp [and_assoc, -Int.natCast_add, q8, q9, j2, j3, j4, j5, j7, jL, jl, kH, hw]
      exact ⟨_, by omega, i + 1, by omega, rfl, rfl, hp, by rw [su4]; exact o4, by rw [su5]; exact o5, hdis⟩
    | true =>
      rw [x9] at q9 su5
      simp only [if_true] at su5
      obtain ⟨v', A', g1, g2, g3, g4, g5, g6⟩ := run_grow H.length H.length s'.H hp.le _ _ o5 (Nat.le_refl _) (by omega) i (by omega) (by omega)
      simp [and_assoc, -Int.natCast_add, q8, q9, j2, j3, j4, j5, j7, jL, jl, kH, hw, o5.nl, g1]
      refine ⟨_, by omega, i + 1, by omega, rfl, rfl, g5 H (Nat.le_refl _) hp, by rw [su4]; exact o4.kept g3 hdis.symm, by rw [su5]; exact g2, fun b h1 h2 => ?_⟩
      rcases g6 b h2 with h | h
      · exact hdis b h1 h
      · have := o4.lt b h1; omega
  | true =>
    rw [x8] at q8 su4
    simp only [if_true] at su4
    obtain ⟨v', A', g1, g2, g3, g4, g5, g6⟩ := run_grow H.length H.length s'.H hp.le _ _ o4 (Nat.le_refl _) (by omega) i (by omega) (by omega)
    have hp' := g5 H (Nat.le_refl _) hp
    have o5' := o5.kept g3 hdis
    have hdis' : Dis v' (tget s'.t 5) := fun b h1 h2 => by
      rcases g6 b h1 with h | h
      · exact hdis b h h2
      · have := o5.lt b h2; omega
    cases x9 : c.mayL r i with
    | false =>
      rw [x9] at q9 su5
      simp only [Bool.false_eq_true, if_false] at su5
      simp [and_assoc, -Int.natCast_add, q8, q9, j2, j3, j4, j5, j7, jL, jl, kH, hw, o4.nl, g1]
      exact ⟨_, by omega, i + 1, by omega, rfl, rfl, hp', by rw [su4]; exact g2, by rw [su5]; exact o5', hdis'⟩
    | true =>
      rw [x9] at q9 su5
      simp only [if_true] at su5
      obtain ⟨v2, A2, f1, f2, f3, f4, f5, f6⟩ := run_grow H.length H.length A' hp'.le _ _ o5' (Nat.le_refl _) (by omega) i (by omega) (by omega)
      simp [and_assoc, -Int.natCast_add, q8, q9, j2, j3, j4, j5, j7, jL, jl, kH, hw, o4.nl, o5.nl, g1, f1]
      refine ⟨_, by omega, i + 1, by omega, rfl, rfl, f5 H (Nat.le_refl _) hp', by rw [su4]; exact g2.kept f3 hdis'.symm, by rw [su5]; exact f2, fun b h1 h2 => ?_⟩
      rcases f6 b h2 with h | h
      · exact hdis' b h1 h
      · have := g2.lt b h1; omega
end Go.Proofs.YtjejcbiilimjkaaDoor
