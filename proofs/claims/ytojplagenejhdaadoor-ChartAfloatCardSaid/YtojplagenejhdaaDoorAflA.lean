/- Contracts of the functions, in the abstract machine: tides; what the law ChartAfloat needs. -/
import Derived.Test.YtojplagenejhdaaDoorRetB
import Derived.Test.YtojplagenejhdaaDoorPsgD
set_option linter.all false
namespace Go.Proofs.YtojplagenejhdaaDoor
open Go Go.RowKit

theorem run_lawApart (c : Ch) (hok : ChOk c) (lim : Nat) (H : AH) (d t s : Value) (hc : ChIn H c d t s) {a b : Nat} (ha : a < c.cells) (hb : b < c.cells) :
    apL Tryd.prog pf (.func (.func 42) #[] #[]) [chV c d t s, .int .i64 a, .int .i64 b] lim H = some (.int .i64 (apt c.w a b), H) := by
  rw [apL_func _ _ _ _ _ _ (by rfl), sf_coblelaw01_apart_eq]
  have hA := fun lim => run_Apart c lim H d t s hc a b
  have h0 : openE c [(a : Int), (b : Int)] [] = 0 := by
    rw [openE_eq hok]
    have h1 : inN c.cells (a : Int) = true := inN_iff.2 ⟨a, ha, rfl⟩
    have h2 : inN c.cells (b : Int) = true := inN_iff.2 ⟨b, hb, rfl⟩
    simp [h1, h2]
  have h1 : apartN c a b = apt c.w a b := by unfold apartN; rw [if_pos h0]
  rw [h0, h1] at hA
  obtain ⟨⟨da, dc, ed, _⟩, ⟨ta, tc, et, _⟩, ⟨sa, sc, es, _⟩, _, _, _⟩ := hc
  simp only [chV, ed, et, es] at hA
  simp [sf_coblelaw01_apart, chV, ed, et, es, hA, pf_pure, pureF]

/-! ### tide -/

/-- Heights are a tide. -/
def tidB (c : Ch) (l : List Int) : Bool := decide (l.length = c.ticks) && (List.range l.length).all fun k => decide (c.lo k ≤ l.getD k 0) && decide (l.getD k 0 ≤ c.hi k)

def tidLoop : SC := sf_coblelaw01_tide.body.loops.headD .skip

theorem tid_loop (c : Ch) (H : AH) (d t s : Value) (hc : ChIn H c d t s) (l : List Int) (hl : l.length = c.ticks) (hl2 : l.length ≤ 1000) (v : Value) (hv : Sl H v l.length (ints l)) (S : St) (h1 : tget S.t 1 = v) (h2 : tget S.t 2 = .pointer (some ⟨2, 0, some 0⟩)) (h5 : tget S.t 5 = .int .i64 0) (hL : S.L = [(2, 0, .cells [.int .i64 c.w, .int .i64 c.h, d, t, s])]) (hH : S.H = H) :
    ∃ r, exL Tryd.prog pf (.loop tidLoop) S = some r ∧ r.2.H = H ∧ ((r.1 = .exit 0 ∧ tidB c l = true) ∨ (r.1 = .ret ∧ tget r.2.t 4 = .bool false ∧ tidB c l = false)) := by
  obtain ⟨va, vc, rfl, hv⟩ := hv
  have hb : tidB c l = (List.range l.length).all fun k => decide (c.lo k ≤ l.getD k 0) && decide (l.getD k 0 ≤ c.hi k) := by unfold tidB; simp [hl]
  have hno : ∀ i, i < l.length → (decide (c.lo i ≤ l.getD i 0) && decide (l.getD i 0 ≤ c.hi i)) = false → tidB c l = false := fun i hi h => by
    rw [hb, Bool.eq_false_iff]
    intro h'
    rw [List.all_eq_true] at h'
    have := h' i (List.mem_range.2 hi)
    rw [h] at this
    cases this
  refine loop_rule (I := fun n s' => ∃ i, i ≤ l.length ∧ n = l.length - i ∧ tget s'.t 1 = .slice va l.length vc ∧ tget s'.t 2 = .pointer (some ⟨2, 0, some 0⟩) ∧ tget s'.t 5 = .int .i64 i ∧ s'.L = S.L ∧ s'.H = H ∧ ∀ m, m < i → (decide (c.lo m ≤ l.getD m 0) && decide (l.getD m 0 ≤ c.hi m)) = true) ?_ l.length S ⟨0, by omega, by omega, h1, h2, h5, rfl, hH, fun m hm => by omega⟩
  rintro n s' ⟨i, hi, rfl, e1, e2, e5, eL, eH, eO⟩
  rw [hL] at eL
  by_cases hlt : i < l.length
  rotate_left
  · have : i = l.length := by omega
    subst this
    have : tidB c l = true := by rw [hb, List.all_eq_true]; exact fun m hm => eO m (List.mem_range.1 hm)
    simp [tidLoop, SC.loops, sf_coblelaw01_tide, e1, e2, e5, eL, eH, this]
  obtain ⟨b1, o1, rfl, c1⟩ := hv i (.int .i64 (l.getD i 0)) (ints_getE l i hlt)
  have hlk : i < c.ticks := by omega
  obtain ⟨b2, o2, k2, rfl, c2, c3⟩ := hc.td hlk
  have hno := hno i hlt
  have hw1 : IntKind.i64.wrap ((i : Int) + 1) = (i : Int) + 1 := wrap_i64 (by omega) (by omega)
  have hlk' : i < c.tide.length := hlk
  have hlk2 : (i : Int) < c.tide.length := by omega
  obtain ⟨⟨da, dc, ed, _⟩, _, ⟨sa, sc, es, _⟩, _, _, _⟩ := hc
  rw [ed, es] at eL hL
  have hO : (decide (c.lo i ≤ l.getD i 0) && decide (l.getD i 0 ≤ c.hi i)) = true → ∀ m, m < i + 1 → (decide (c.lo m ≤ l.getD m 0) && decide (l.getD m 0 ≤ c.hi m)) = true := fun h m hm => by
    by_cases e : m = i
    · subst e; exact h
    · exact eO m (by omega)
  simp only [hcell] at c1 c2 c3
  by_cases p1 : l.getD i 0 < c.lo i
  · have := hno (by rw [decide_eq_false (by omega), Bool.false_and])
    generalize l.getD i 0 = X at *
    generalize c.lo i = lo at *
    simp [tidLoop, SC.loops, sf_coblelaw01_tide, e1, e2, e5, eL, eH, hlt, c1, c2, c3, hlk', hlk2, p1, this]
  by_cases p2 : c.hi i < l.getD i 0
  · have := hno (by rw [decide_eq_false (p := l.getD i 0 ≤ c.hi i) (by omega), Bool.and_false])
    generalize l.getD i 0 = X at *
    generalize c.lo i = lo at *
    generalize c.hi i = hi' at *
    simp [tidLoop, SC.loops, sf_coblelaw01_tide, e1, e2, e5, eL, eH, hlt, c1, c2, c3, hlk', hlk2, p1, p2, this]
  replace hO := hO (by rw [decide_eq_true (p := c.lo i ≤ l.getD i 0) (by omega), decide_eq_true (p := l.getD i 0 ≤ c.hi i) (by omega)]; rfl)
  generalize l.getD i 0 = X at *
  generalize c.lo i = lo at *
  generalize c.hi i = hi' at *
  simp [tidLoop, SC.loops, sf_coblelaw01_tide, e1, e2, e5, eL, eH, hlt, c1, c2, c3, hlk', hlk2, p1, p2, hw1, hL]
  exact ⟨_, by omega, i + 1, by omega, rfl, by omega, by simpa using hO⟩

theorem run_tide (c : Ch) (hT : c.ticks ≤ 1000) (lim : Nat) (H : AH) (d t s : Value) (hc : ChIn H c d t s) (l : List Int) (v : Value) (hv : Sl H v l.length (ints l)) :
    apL Tryd.prog pf (.func (.func 43) #[] #[]) [chV c d t s, v] lim H = some (.bool (tidB c l), H) := by
  rw [apL_func _ _ _ _ _ _ (by rfl), sf_coblelaw01_tide_eq]
  obtain ⟨⟨da, dc, ed, _⟩, ⟨ta, tc, et, _⟩, ⟨sa, sc, es, _⟩, _, _, _⟩ := id hc
  obtain ⟨va, vc, ev, _⟩ := id hv
  by_cases hl : l.length = c.tide.length
  rotate_left
  · have hlb : ((l.length : Int) != c.tide.length) = true := by simp; omega
    have : tidB c l = false := by unfold tidB Ch.ticks; simp [hl]
    simp [sf_coblelaw01_tide, chV, ed, et, es, ev, hlb, this, pf_pure, pureF]
  have hlb : ((l.length : Int) != c.tide.length) = false := by simp; omega
  simp [sf_coblelaw01_tide, chV, ed, et, es, ev, hlb]
  generalize hS : ({ t := _, L := _, H := _, lim := _, rd := _ } : St) = S
  obtain ⟨⟨e, s1⟩, hr, qH, q⟩ := tid_loop c H d t s hc l hl (by unfold Ch.ticks at hT; omega) v hv S (by subst hS; simp [ev]) (by subst hS; simp) (by subst hS; simp) (by subst hS; simp [ed, et, es]) (by subst hS; rfl)
  simp [tidLoop, SC.loops, sf_coblelaw01_tide] at hr
  rw [hr]
  simp only at q qH
  rcases q with ⟨rfl, q⟩ | ⟨rfl, q4, q⟩
  · simp [q, qH, pf_pure, pureF]
  · simp [q, q4, qH, pf_pure, pureF]

/-! ### what is so of the passage -/

theorem path_apt {c : Ch} (hok : ChOk c) {g : Int} {tick : Nat} {step : Int} {f : Nat → Nat} : ∀ {j : Nat}, PathF c g tick step f j → apt c.w (f 0) (f j) ≤ j
  | 0, h => by
    obtain ⟨m0, m1, m2⟩ := hok.mul
    have h0 := (h.1 0 (by omega)).1
    rw [(apt_zero (h := c.h) hok.1.1 (Int.natCast_nonneg _) (by rw [m2]; exact Int.ofNat_lt.2 h0) (Int.natCast_nonneg _) (by rw [m2]; exact Int.ofNat_lt.2 h0)).2 rfl]
    omega
  | j + 1, h => by
    obtain ⟨m0, m1, m2⟩ := hok.mul
    have hp : PathF c g tick step f j := ⟨fun m hm => h.1 m (by omega), fun m hm => h.2 m (by omega)⟩
    have ih := path_apt hok hp
    have h0 := (h.1 j (by omega)).1
    have h1 := (h.1 (j + 1) (by omega)).1
    have ht := apt_tri c.w (f 0) (f (j + 1)) (f j)
    have : apt c.w (f j) (f (j + 1)) ≤ 1 := by
      rcases h.2 j (by omega) with e | ⟨k, hk, e⟩
      · rw [← e, (apt_zero (h := c.h) hok.1.1 (Int.natCast_nonneg _) (by rw [m2]; exact Int.ofNat_lt.2 h0) (Int.natCast_nonneg _) (by rw [m2]; exact Int.ofNat_lt.2 h0)).2 rfl]
        omega
      · have : nearB c.w c.h (f j) (f (j + 1)) 6 = true := by
          unfold nearB
          rw [List.any_eq_true]
          exact ⟨k, List.mem_range.2 hk, by simp [e]⟩
        have := (apt_one hok.1.1 hok.2.1.1 (Int.natCast_nonneg _) (by rw [m2]; exact Int.ofNat_lt.2 h0) (Int.natCast_nonneg _) (by rw [m2]; exact Int.ofNat_lt.2 h1)).2 this
        omega
    omega

/-- Cells along a path are a passage. -/
theorem path_pas {c : Ch} (hok : ChOk c) {g : Int} {k j : Nat} {f : Nat → Nat} (h : PathF c g k 1 f j) (hk : k + j < c.ticks) {l : List Int} (hl : l.length = j + 1) (hf : ∀ m, m ≤ j → l.getD m 0 = f m) : pasB c g k l = true := by
  unfold pasB
  simp only [Bool.and_eq_true, decide_eq_true_eq, List.all_eq_true, List.mem_range]
  refine ⟨⟨by omega, by omega⟩, fun m hm => ?_⟩
  have h1 := h.1 m (by omega)
  unfold okAt
  rw [hf m (by omega), Int.toNat_natCast]
  rw [show ((k : Int) + (m : Int) * 1).toNat = k + m by omega] at h1
  simp only [Bool.and_eq_true, Bool.or_eq_true, decide_eq_true_eq, beq_iff_eq]
  refine ⟨⟨inN_iff.2 ⟨_, h1.1, rfl⟩, h1.2⟩, ?_⟩
  by_cases e : m = 0
  · exact .inl (.inl e)
  · rw [hf (m - 1) (by omega)]
    have hn := h.2 (m - 1) (by omega)
    rw [show m - 1 + 1 = m by omega] at hn
    rcases hn with e | ⟨n, hn, e⟩
    · exact .inl (.inr (by omega))
    · refine .inr ?_
      unfold nearB
      rw [List.any_eq_true]
      exact ⟨n, List.mem_range.2 hn, by simp [e]⟩

/-- The passage that Passage names is one. -/
theorem psg_path {c : Ch} (hok : ChOk c) {g : Int} {a k j to : Nat} (ha : a < c.cells) (h : Reach c g a k 1 j to) : PathF c g k 1 (fun m => psgT c g a k j to (j - m)) j ∧ psgT c g a k j to j = a := by
  have hr := psgT_reach hok h
  have h0 := hr j (Nat.le_refl _)
  rw [Nat.sub_self] at h0
  refine ⟨⟨fun m hm => ?_, fun m hm => ?_⟩, ((reach_zero ha).1 h0).1⟩
  · have h1 := hr (j - m) (by omega)
    rw [show j - (j - m) = m by omega] at h1
    refine ⟨h1.1, ?_⟩
    cases m with
    | zero =>
      have := (reach_zero ha).1 h1
      simp only [Nat.sub_zero] at this ⊢
      rw [this.1]
      simpa using this.2
    | succ m => exact ((reach_succ hok).1 h1).2.1
  · have h1 := hr (j - m - 1) (by omega)
    have := (psgT_step hok (show j - m - 1 < j by omega) h1).2.1
    rw [show j - m - 1 + 1 = j - m by omega] at this
    have := nigh_comm hok h1.1 this
    simpa [Nat.sub_sub] using this

theorem psg_facts {c : Ch} (hok : ChOk c) {g : Int} {a k j to : Nat} (ha : a < c.cells) (hj : j < c.ticks - k) (h : Reach c g a k 1 j to) {l : List Int} (hl : l = trT (psgT c g a k j to) (j + 1)) :
    l.length = j + 1 ∧ pasB c g k l = true ∧ l.getD 0 0 = a ∧ l.getD j 0 = to ∧ apt c.w a to ≤ j ∧ ∀ m, m ≤ j → ∃ x : Nat, x < c.cells ∧ l.getD m 0 = x ∧ c.sure g x (k + m) = true := by
  obtain ⟨hp, h0⟩ := psg_path hok ha h
  have hg : ∀ m, m ≤ j → l.getD m 0 = psgT c g a k j to (j - m) := fun m hm => by
    rw [hl, trT_get _ _ _ (by omega)]
    rfl
  have hlen : l.length = j + 1 := by rw [hl, trT_len]
  refine ⟨hlen, path_pas hok hp (by omega) hlen hg, by rw [hg 0 (by omega), Nat.sub_zero, h0], by rw [hg j (by omega), Nat.sub_self]; rfl, ?_, fun m hm => ⟨_, (hp.1 m hm).1, hg m hm, ?_⟩⟩
  · have := path_apt hok hp
    simp only [Nat.sub_zero, Nat.sub_self, h0] at this
    exact this
  · have := (hp.1 m hm).2
    rwa [show ((k : Int) + (m : Int) * 1).toNat = k + m by omega] at this

/-- The cells of a passage are reached. -/
theorem pas_reach {c : Ch} (hok : ChOk c) {g : Int} {a k to : Nat} {l : List Int} (h : pasB c g k l = true) (h0 : l.getD 0 0 = a) (h1 : l.getD (l.length - 1) 0 = to) : l.length - 1 < c.ticks - k ∧ Reach c g a k 1 (l.length - 1) to := by
  obtain ⟨p0, p1, p2, p3⟩ := pas_path h
  have := path_reach hok p2
  simp only [h0, h1, Int.toNat_natCast] at this
  exact ⟨by omega, this⟩
end Go.Proofs.YtojplagenejhdaaDoor
