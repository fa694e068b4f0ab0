/- What is so of the way back; the loop of the law ChartReturns. -/
import Derived.Test.YtojplagenejhdaaDoorRetA
import Derived.Test.YtojplagenejhdaaDoorLessC
set_option linter.all false
namespace Go.Proofs.YtojplagenejhdaaDoor
open Go Go.RowKit

/-- The least moves until a tick. -/
def leastL (c : Ch) (g : Int) (a k u : Nat) : List Int := if u < k then List.replicate c.cells (-1) else rowP c g a k 1 (u - k)
theorem leastL_len (c : Ch) (g : Int) (a k u : Nat) : (leastL c g a k u).length = c.cells := by unfold leastL; split <;> simp [rowP_len]

theorem embE_ok2 {c : Ch} (hok : ChOk c) {g : Int} (hg : 1 ≤ g ∧ g ≤ 100) {i k u : Nat} (hi : i < c.cells) (hk : k < c.ticks) (hu : u < c.ticks) : embE c g [(i : Int)] [(k : Int), (u : Int)] = 0 := by
  have h0 : openE c [(i : Int)] [(k : Int), (u : Int)] = 0 := by
    rw [openE_eq hok]
    have h1 : inN c.cells (i : Int) = true := inN_iff.2 ⟨i, hi, rfl⟩
    have h2 : inN c.ticks (k : Int) = true := inN_iff.2 ⟨k, hk, rfl⟩
    have h3 : inN c.ticks (u : Int) = true := inN_iff.2 ⟨u, hu, rfl⟩
    simp [h1, h2, h3]
  rw [embE_of0 h0, if_pos hg]

theorem movL_ok {c : Ch} (hok : ChOk c) {g : Int} (hg : 1 ≤ g ∧ g ≤ 100) {i k u : Nat} (hi : i < c.cells) (hk : k < c.ticks) (hu : u < c.ticks) : movL c g i k u = leastL c g i k u := by
  unfold movL leastL
  rw [if_pos (embE_ok2 hok hg hi hk hu)]
  by_cases h : u < k
  · rw [if_pos h, if_pos (by omega)]
  · rw [if_neg h, if_neg (by omega)]
    simp [show ((u : Int) - (k : Int)).toNat = u - k by omega]
theorem arrL_ok {c : Ch} (hok : ChOk c) {g : Int} (hg : 1 ≤ g ∧ g ≤ 100) {i k : Nat} (hi : i < c.cells) (hk : k < c.ticks) : arrL c g i k = nearL c g i k 1 (c.ticks - k) := by
  unfold arrL; rw [if_pos (embE_ok hok hg hi hk)]; simp
theorem depL_ok {c : Ch} (hok : ChOk c) {g : Int} (hg : 1 ≤ g ∧ g ≤ 100) {i k : Nat} (hi : i < c.cells) (hk : k < c.ticks) : depL c g i k = nearL c g i k (-1) (k + 1) := by
  unfold depL; rw [if_pos (embE_ok hok hg hi hk)]; simp

theorem least_reach {c : Ch} {g : Int} {a k u i : Nat} (hi : i < c.cells) : 0 ≤ (leastL c g a k u).getD i 0 ↔ k ≤ u ∧ Reach c g a k 1 (u - k) i := by
  unfold leastL
  by_cases h : u < k
  · rw [if_pos h]
    simp [List.getD_eq_getElem?_getD, hi]
    omega
  · rw [if_neg h]
    unfold Reach
    constructor
    · intro h'; exact ⟨by omega, hi, h'⟩
    · rintro ⟨_, _, h'⟩; exact h'

theorem ret_facts {c : Ch} (hok : ChOk c) {g : Int} {a k u : Nat} (ha : a < c.cells) (hk : k < c.ticks) (hu : u < c.ticks) {i : Nat} (hi : i < c.cells) :
    (0 ≤ (leastL c g a k u).getD i 0 → (k : Int) ≤ (nearL c g a k 1 (c.ticks - k)).getD i 0 ∧ (nearL c g a k 1 (c.ticks - k)).getD i 0 ≤ u ∧ (k : Int) ≤ (nearL c g i u (-1) (u + 1)).getD a 0 ∧ (nearL c g i u (-1) (u + 1)).getD a 0 ≤ u ∧ (leastL c g a k u).getD i 0 ≤ (u : Int) - k) ∧
    ((nearL c g i u (-1) (u + 1)).getD a 0 = k → 0 ≤ (leastL c g a k u).getD i 0) := by
  have hn := nearL_get c g a k 1 i hi (c.ticks - k) (fun m _ => by omega)
  have hb := nearL_get c g i u (-1) a ha (u + 1) (fun m hm => by omega)
  constructor
  · intro h
    obtain ⟨hku, hr⟩ := (least_reach hi).1 h
    have hr2 : Reach c g i u (-1) (u - k) a := by
      have := (reach_rev (t := k) (m := u - k) hok ha hi).1 hr
      rwa [show k + (u - k) = u by omega] at this
    have h5 : (leastL c g a k u).getD i 0 ≤ (u : Int) - k := by
      unfold leastL
      rw [if_neg (by omega)]
      have := (rowP_le c g a k 1 (u - k) i).2
      omega
    rcases hn with ⟨m, m1, m2, m3, m4⟩ | ⟨m1, _⟩
    rotate_left
    · exact absurd hr (m1 _ (by omega))
    rcases hb with ⟨n, n1, n2, n3, n4⟩ | ⟨n1, _⟩
    rotate_left
    · exact absurd hr2 (n1 _ (by omega))
    rw [m4, n4]
    have x1 : ¬ u - k < m := fun h => m3 _ h hr
    have x2 : ¬ u - k < n := fun h => n3 _ h hr2
    omega
  · intro h
    rcases hb with ⟨n, n1, n2, n3, n4⟩ | ⟨_, n2⟩
    · rw [n4] at h
      have hn' : k + n = u := by omega
      rw [← hn'] at n2
      have := (reach_rev hok ha hi).2 n2
      exact (least_reach hi).2 ⟨by omega, by rwa [show u - k = n by omega]⟩
    · omega

theorem pas_path {c : Ch} {g : Int} {k : Nat} {l : List Int} (h : pasB c g k l = true) : 0 < l.length ∧ k + l.length ≤ c.ticks ∧ PathF c g k 1 (fun m => (l.getD m 0).toNat) (l.length - 1) ∧ ∀ m, m < l.length → ∃ x : Nat, x < c.cells ∧ l.getD m 0 = x := by
  unfold pasB at h
  simp only [Bool.and_eq_true, decide_eq_true_eq, List.all_eq_true, List.mem_range] at h
  obtain ⟨⟨h0, h1⟩, h2⟩ := h
  have h3 : ∀ m, m < l.length → ∃ x : Nat, x < c.cells ∧ l.getD m 0 = x := fun m hm => by
    have := h2 m hm
    unfold okAt at this
    simp only [Bool.and_eq_true] at this
    exact inN_iff.1 this.1.1
  refine ⟨h0, h1, ⟨fun m hm => ?_, fun m hm => ?_⟩, h3⟩
  · obtain ⟨x, hx, e⟩ := h3 m (by omega)
    have := h2 m (by omega)
    unfold okAt at this
    simp only [Bool.and_eq_true] at this
    refine ⟨by simp only [e]; omega, ?_⟩
    rw [show ((k : Int) + (m : Int) * 1).toNat = k + m by omega]
    exact this.1.2
  · obtain ⟨x, hx, e⟩ := h3 m (by omega)
    obtain ⟨y, hy, e'⟩ := h3 (m + 1) (by omega)
    have := h2 (m + 1) (by omega)
    unfold okAt at this
    simp only [Bool.and_eq_true, Bool.or_eq_true, decide_eq_true_eq, Nat.add_sub_cancel, beq_iff_eq] at this
    simp only [e, e', Int.toNat_natCast] at this ⊢
    rcases this.2 with (h | h) | h
    · omega
    · exact .inl (by omega)
    · unfold nearB at h
      simp only [List.any_eq_true, List.mem_range, beq_iff_eq] at h
      obtain ⟨n, hn, hx⟩ := h
      exact .inr ⟨n, hn, hx⟩

theorem movC_movN {c : Ch} {l : List Int} (h : ∀ m, m < l.length → ∃ x : Nat, x < c.cells ∧ l.getD m 0 = x) : ∀ j, j < l.length → movC l j = movN (fun m => (l.getD m 0).toNat) j
  | 0, _ => rfl
  | j + 1, hj => by
    obtain ⟨x, _, ex⟩ := h j (by omega)
    obtain ⟨y, _, ey⟩ := h (j + 1) hj
    unfold movC movN
    rw [movC_movN h j (by omega)]
    simp only [ex, ey, Int.toNat_natCast]
    by_cases e : y = x
    · rw [if_pos (by omega), if_pos e]
    · rw [if_neg (by omega), if_neg e]

theorem ret_path {c : Ch} (hok : ChOk c) {g : Int} {a k u : Nat} {l : List Int} (h : pasB c g k l = true) (h0 : l.getD 0 0 = a) (hu : k + l.length = u + 1) : ∃ x : Nat, x < c.cells ∧ l.getD (l.length - 1) 0 = x ∧ 0 ≤ (leastL c g a k u).getD x 0 ∧ (leastL c g a k u).getD x 0 ≤ movC l (l.length - 1) := by
  obtain ⟨p0, p1, p2, p3⟩ := pas_path h
  obtain ⟨x, hx, ex⟩ := p3 (l.length - 1) (by omega)
  refine ⟨x, hx, ex, ?_⟩
  have := path_moves hok p2
  simp only [h0, ex, Int.toNat_natCast] at this
  rw [← movC_movN p3 _ (by omega)] at this
  unfold leastL
  rw [if_neg (by omega), show u - k = l.length - 1 by omega]
  exact this

/-! ### the loop -/

def retLoop : SC := sf_coblelaw01_ChartReturns.body.loops.headD .skip
def retLS (c : Ch) (g a b : Int) (d t s : Value) : LS := [(5, 0, .cells [.int .i64 g, .int .i64 a, .int .i64 b]), (4, 0, .cells [.int .i64 c.w, .int .i64 c.h, d, t, s])]

set_option maxHeartbeats 4000000 in
theorem ret_loop (c : Ch) (hok : ChOk c) (A : AH) (hG : A[waysG]? = some (.ro waysV)) (d t s : Value) (hc : ChIn A c d t s) (g : Int) (hg : 1 ≤ g ∧ g ≤ 100) {a k u : Nat} (ha : a < c.cells) (hk : k < c.ticks) (hu : u < c.ticks) (va vb : Value) (la lb : List Int) (hla : la.length = c.cells) (hlb : lb.length = c.cells) (hva : Sl A va la.length (ints la)) (hvb : Sl A vb lb.length (ints lb))
    (F : ∀ i, i < c.cells → (0 ≤ la.getD i 0 → (k : Int) ≤ lb.getD i 0 ∧ lb.getD i 0 ≤ u ∧ (k : Int) ≤ (nearL c g i u (-1) (u + 1)).getD a 0 ∧ (nearL c g i u (-1) (u + 1)).getD a 0 ≤ u ∧ la.getD i 0 ≤ (u : Int) - k) ∧
      ((nearL c g i u (-1) (u + 1)).getD a 0 = k → 0 ≤ la.getD i 0)) (S : St)
    (h2 : tget S.t 2 = .int .i64 u) (h4 : tget S.t 4 = .pointer (some ⟨4, 0, some 0⟩)) (h5 : tget S.t 5 = .pointer (some ⟨5, 0, some 0⟩)) (h9 : tget S.t 9 = va) (h11 : tget S.t 11 = vb) (h13 : tget S.t 13 = .int .i64 0) (hL : S.L = retLS c g a k d t s) (hH : S.H = A) :
    ∃ q, exL Tryd.prog pf (.loop retLoop) S = some q ∧ q.1 = .exit 0 ∧ (∃ J, q.2.H = A ++ J) ∧ q.2.L = S.L ∧ q.2.lim = S.lim ∧ tget q.2.t 2 = tget S.t 2 ∧ tget q.2.t 3 = tget S.t 3 ∧ tget q.2.t 4 = tget S.t 4 ∧ tget q.2.t 5 = tget S.t 5 ∧ tget q.2.t 9 = tget S.t 9 := by
  obtain ⟨m0, m1, m2⟩ := hok.mul
  obtain ⟨p0, p1⟩ := hok.pos
  have hT : c.ticks ≤ 60 := hok.2.2.2.1.2
  refine loop_rule (I := fun n s' => ∃ i J, i ≤ c.cells ∧ n = c.cells - i ∧ tget s'.t 2 = .int .i64 u ∧ tget s'.t 3 = tget S.t 3 ∧ tget s'.t 4 = .pointer (some ⟨4, 0, some 0⟩) ∧ tget s'.t 5 = .pointer (some ⟨5, 0, some 0⟩) ∧ tget s'.t 9 = va ∧ tget s'.t 11 = vb ∧ tget s'.t 13 = .int .i64 i ∧ s'.L = S.L ∧ s'.lim = S.lim ∧ s'.H = A ++ J) ?_ c.cells S
    ⟨0, [], by omega, by omega, h2, rfl, h4, h5, h9, h11, h13, rfl, rfl, by simpa using hH⟩
  rintro n s' ⟨i, J, hi, rfl, e2, e3, e4, e5, e9, e11, e13, eL, el, eH⟩
  obtain ⟨aa, ac, ea, hva'⟩ := id hva
  obtain ⟨ba, bc, eb, hvb'⟩ := id hvb
  rw [hla] at ea
  rw [hlb] at eb
  subst ea
  subst eb
  by_cases hlt : i < c.cells
  rotate_left
  · have : i = c.cells := by omega
    subst this
    simp [retLoop, SC.loops, sf_coblelaw01_ChartReturns, e2, e3, e4, e5, e9, e11, e13, eL, eH, el, h2, h4, h5, h9]
  have hcJ := hc.ext (Ext.push A J)
  obtain ⟨v, A2, w1, ⟨J2, w2⟩, w3⟩ := run_Depart c (A ++ J) (hG_ext _ hG) d t s hcJ g i u
  rw [depL_ok hok hg hlt hu] at w3
  rw [embE_ok hok hg hlt hu] at w1
  have hll : (nearL c g i u (-1) (u + 1)).length = c.cells := by rw [nearL_len]
  obtain ⟨F1, F2⟩ := F i hlt
  obtain ⟨b1, o1, rfl, c1⟩ := hva' i (.int .i64 (la.getD i 0)) (ints_getE la i (by omega))
  obtain ⟨b2, o2, rfl, c2⟩ := hvb' i (.int .i64 (lb.getD i 0)) (ints_getE lb i (by omega))
  obtain ⟨xa, xc, ex, hx⟩ := w3
  obtain ⟨b3, o3, rfl, c3⟩ := hx a (.int .i64 ((nearL c g i u (-1) (u + 1)).getD a 0)) (ints_getE _ a (by omega))
  rw [hll] at ex
  subst ex
  have cx : ∀ {b k : Nat} {x : Value}, hcell A b k = some x → hcell A2 b k = some x := fun {b k x} h => by
    have hb : b < A.length := by
      unfold hcell at h
      cases hx : A[b]? with
      | none => rw [hx] at h; simp at h
      | some y => exact (List.getElem?_eq_some_iff.1 hx).1
    unfold hcell at h ⊢
    rw [w2, List.append_assoc, List.getElem?_append_left hb]
    exact h
  have c1 := cx c1
  have c2 := cx c2
  have hw1 : IntKind.i64.wrap ((i : Int) + 1) = (i : Int) + 1 := wrap_i64 (by omega) (by omega)
  have hw2 : IntKind.i64.wrap ((u : Int) - (k : Int)) = (u : Int) - k := wrap_i64 (by omega) (by omega)
  have hlt' : (i : Int) < c.cells := by omega
  have ha' : (a : Int) < c.cells := by omega
  have eH2 : A2 = A ++ (J ++ J2) := by rw [w2, List.append_assoc]
  obtain ⟨⟨da, dc, ed, _⟩, ⟨ta, tc, et, _⟩, ⟨sa, sc, es, _⟩, _, _, _⟩ := hc
  rw [hL] at eL
  simp only [chV, retLS, ed, et, es] at w1 eL hL
  simp only [hcell] at c1 c2 c3
  generalize la.getD i 0 = X at *
  generalize lb.getD i 0 = Y at *
  generalize (nearL c g i u (-1) (u + 1)).getD a 0 = Z at *
  by_cases hX : 0 ≤ X
  · obtain ⟨f1, f2, f3, f4, f5⟩ := F1 hX
    have g1 : ¬ Y < (k : Int) := by omega
    have g2 : ¬ (u : Int) < Y := by omega
    have g3 : ¬ Z < (k : Int) := by omega
    have g4 : ¬ (u : Int) < Z := by omega
    have g5 : ¬ ((u : Int) - k) < X := by omega
    have g6 : ¬ X < 0 := by omega
    by_cases hZ : Z = k
    · have hZ' : (Z == (k : Int)) = true := by simp [hZ]
      simp [retLoop, SC.loops, sf_coblelaw01_ChartReturns, e2, e3, e4, e5, e9, e11, e13, eL, eH, el, hlt, hlt', ha, ha', w1, c1, c2, c3, hw1, hw2, hX, g1, g2, g3, g4, g5, g6, hZ', h2, h4, h5, h9, hL]
      exact ⟨_, by omega, i + 1, by omega, rfl, by omega, _, eH2⟩
    · have hZ' : (Z == (k : Int)) = false := by simp [hZ]
      simp [retLoop, SC.loops, sf_coblelaw01_ChartReturns, e2, e3, e4, e5, e9, e11, e13, eL, eH, el, hlt, hlt', ha, ha', w1, c1, c2, c3, hw1, hw2, hX, g1, g2, g3, g4, g5, g6, hZ', h2, h4, h5, h9, hL]
      exact ⟨_, by omega, i + 1, by omega, rfl, by omega, _, eH2⟩
  · have hZ : ¬ Z = k := fun h => hX (F2 h)
    have hZ' : (Z == (k : Int)) = false := by simp [hZ]
    simp [retLoop, SC.loops, sf_coblelaw01_ChartReturns, e2, e3, e4, e5, e9, e11, e13, eL, eH, el, hlt, hlt', ha, ha', w1, c1, c2, c3, hw1, hX, hZ', h2, h4, h5, h9, hL]
    exact ⟨_, by omega, i + 1, by omega, rfl, by omega, _, eH2⟩
end Go.Proofs.YtojplagenejhdaaDoor
