/- Layer 6: trips and routes (mathematics): a route is a way. -/
import Derived.Test.YthobfecblpnnnaaGreatDoorLanR
set_option linter.all false
namespace Go.Proofs.YthobfecblpnnnaaGreatDoor
open Go Go.RowKit

/-- A trip, as it is read. -/
structure Tp where
  (t0 lv dr : Int)
  tl : Bool
  (fr to : Int)
def Tp.leg (t : Tp) (cs : List Int) : Lg := ⟨t.t0, t.lv, t.dr, t.tl, cs⟩

/-- Whether there are such boats, or such aircraft. -/
def unitB (lv dr : Int) : Bool := if lv = 0 then decide (1 ≤ dr) && decide (dr ≤ 100) else decide (0 ≤ lv) && decide (lv ≤ 3) && dr == 0
/-- Whether a unit can be in a cell in a tick. -/
def Ch.can (c : Ch) (lv dr : Int) (i t : Nat) : Bool := lv != 0 || c.sure dr i t

/-- Whether the unit of a leg can go so. -/
def wayB (c : Ch) (l : Lg) : Bool := (List.range l.cs.length).all fun i => c.can l.lv l.dr (l.cs.getD i 0).toNat (l.t0.toNat + i) && (i == 0 || decide (apt c.w (l.cs.getD (i - 1) 0) (l.cs.getD i 0) ≤ 1))
/-- Whether a leg is valid. -/
def lgOk (c : Ch) (l : Lg) : Bool := unitB l.lv l.dr && decide (0 < l.cs.length) && inN c.ticks l.t0 && decide (l.t0 + l.cs.length ≤ c.ticks) && l.cs.all (inN c.cells) && wayB c l

/-- Whether a trip is valid. -/
def tpOk (c : Ch) (t : Tp) : Bool := unitB t.lv t.dr && inN c.ticks t.t0 && inN c.cells t.fr && inN c.cells t.to

/-- No leg clashes with a unit in a spot. -/
def freeM (ls : List Lg) (lv : Int) (s : Sp) (t : Int) : Bool := ls.all fun l => !(l.lv == lv && s.cla (l.sp t))

/-- A route that clashes with none of the legs. -/
structure IsRt (c : Ch) (ls : List Lg) (t : Tp) (cs : List Int) : Prop where
  ok : lgOk c (t.leg cs) = true
  hd : cs.head? = some t.fr
  last : cs.getLast? = some t.to
  free : ∀ l ∈ ls, ∀ k : Nat, k < c.ticks → claM (t.leg cs) l k = false

def nearM (c : Ch) (i : Nat) : List Nat := (List.range c.cells).filter fun j => decide (apt c.w i j ≤ 1)
def wyM (c : Ch) (ls : List Lg) (t : Tp) : Wy where
  N := c.cells
  fr := t.fr.toNat
  ok0 := freeM ls t.lv (spOf t.fr (-1) t.tl) t.t0 && c.can t.lv t.dr t.fr.toNat t.t0.toNat
  near := nearM c
  ok := fun k b i => freeM ls t.lv (spOf i b t.tl) (t.t0 + k) && c.can t.lv t.dr i (t.t0.toNat + k)

theorem nearM_lt {c : Ch} {i b : Nat} (h : b ∈ nearM c i) : b < c.cells := by
  unfold nearM at h
  rw [List.mem_filter, List.mem_range] at h
  exact h.1

/-- Where the unit of a leg of a trip is, tick by tick. -/
theorem leg_cel {t : Tp} {cs : List Int} {j : Nat} (hj : j < cs.length) : (t.leg cs).cel (t.t0 + j) = cs.getD j 0 := by
  unfold Lg.cel Tp.leg
  simp only
  rw [if_pos (by omega), show (t.t0 + (j : Int) - t.t0).toNat = j by omega]
theorem leg_cel_out {t : Tp} {cs : List Int} {k : Int} (h : k < t.t0 ∨ t.t0 + cs.length ≤ k) : (t.leg cs).cel k = -1 := by
  unfold Lg.cel Tp.leg
  simp only
  rw [if_neg (by omega)]

theorem cla_nowhere {s o : Sp} (h : s.now = -1) : s.cla o = false := by simp [Sp.cla, h]

theorem free_iff {c : Ch} {ls : List Lg} {t : Tp} {cs : List Int} (h0 : inN c.ticks t.t0 = true) (hl : t.t0 + cs.length ≤ c.ticks) (hne : 0 < cs.length) :
    (∀ l ∈ ls, ∀ k : Nat, k < c.ticks → claM (t.leg cs) l k = false) ↔
      freeM ls t.lv (spOf (cs.getD 0 0) (-1) t.tl) t.t0 = true ∧ ∀ j, j + 1 < cs.length → freeM ls t.lv (spOf (cs.getD (j + 1) 0) (cs.getD j 0) t.tl) (t.t0 + ((j + 1 : Nat) : Int)) = true := by
  obtain ⟨n0, hn0, e0⟩ := inN_iff.1 h0
  have sp0 : (t.leg cs).sp t.t0 = spOf (cs.getD 0 0) (-1) t.tl := by
    unfold Lg.sp
    have := leg_cel (t := t) hne
    simp only [Int.natCast_zero, Int.add_zero] at this
    rw [this, leg_cel_out (.inl (by omega))]
    rfl
  have spS : ∀ j, j + 1 < cs.length → (t.leg cs).sp (t.t0 + ((j + 1 : Nat) : Int)) = spOf (cs.getD (j + 1) 0) (cs.getD j 0) t.tl := fun j hj => by
    unfold Lg.sp
    rw [leg_cel hj, show t.t0 + ((j + 1 : Nat) : Int) - 1 = t.t0 + (j : Int) by omega, leg_cel (by omega)]
    rfl
  have key : ∀ l k, (claM (t.leg cs) l k = false ↔ (!(l.lv == t.lv && ((t.leg cs).sp k).cla (l.sp k))) = true) := fun l k => by
    unfold claM
    rw [show ((t.leg cs).lv == l.lv) = (l.lv == t.lv) from BEq.comm]
    cases (l.lv == t.lv && ((t.leg cs).sp k).cla (l.sp k)) <;> simp
  constructor
  · intro h
    refine ⟨List.all_eq_true.2 fun l hl' => ?_, fun j hj => List.all_eq_true.2 fun l hl' => ?_⟩
    · have := (key l _).1 (h l hl' n0 hn0)
      rw [← e0, sp0] at this
      exact this
    · have := (key l _).1 (h l hl' (n0 + (j + 1)) (by omega))
      rw [show ((n0 + (j + 1) : Nat) : Int) = t.t0 + ((j + 1 : Nat) : Int) by omega, spS j hj] at this
      exact this
  · rintro ⟨h1, h2⟩ l hl' k hk
    rw [key]
    by_cases hin : t.t0 ≤ k ∧ (k : Int) < t.t0 + cs.length
    · obtain ⟨j, hj⟩ : ∃ j : Nat, (k : Int) = t.t0 + j := ⟨(k - t.t0).toNat, by omega⟩
      rw [hj]
      cases j with
      | zero =>
        simp only [Int.natCast_zero, Int.add_zero]
        rw [sp0]
        exact List.all_eq_true.1 h1 l hl'
      | succ j =>
        rw [spS j (by omega)]
        exact List.all_eq_true.1 (h2 j (by omega)) l hl'
    · have e : ((t.leg cs).sp k).now = -1 := by
        unfold Lg.sp spOf
        simp only
        exact leg_cel_out (by omega)
      rw [cla_nowhere e]
      simp

theorem natI_getD (ns : List Nat) (j : Nat) : (ns.map (Int.ofNat)).getD j 0 = ((ns.getD j 0 : Nat) : Int) := by
  rw [List.getD_eq_getElem?_getD, List.getElem?_map, List.getD_eq_getElem?_getD]
  cases ns[j]? <;> rfl

theorem rt_iff {c : Ch} {ls : List Lg} {t : Tp} (ht : tpOk c t = true) {ns : List Nat} : IsRt c ls t (ns.map Int.ofNat) ↔ (wyM c ls t).Way ns ∧ (∃ m, ns = m ++ [t.to.toNat]) ∧ t.t0 + ns.length ≤ c.ticks := by
  simp only [tpOk, Bool.and_eq_true] at ht
  obtain ⟨⟨⟨hu, h0⟩, hf⟩, hto⟩ := ht
  obtain ⟨n0, hn0, e0⟩ := inN_iff.1 h0
  obtain ⟨nf, hnf, ef⟩ := inN_iff.1 hf
  obtain ⟨nt, hnt, et⟩ := inN_iff.1 hto
  have hlast : (ns.map Int.ofNat).getLast? = some t.to ↔ ∃ m, ns = m ++ [t.to.toNat] := by
    rw [et]
    rw [List.getLast?_map, Int.toNat_natCast]
    constructor
    · intro h
      cases hl : ns.getLast? with
      | none => rw [hl] at h; cases h
      | some x =>
        rw [hl] at h
        simp only [Option.map_some, Option.some.injEq] at h
        have : x = nt := by have h : (x : Int) = nt := h; omega
        subst this
        obtain ⟨m, hm⟩ := List.getLast?_eq_some_iff.1 hl
        exact ⟨m, hm⟩
    · rintro ⟨m, rfl⟩
      simp
  constructor
  · rintro ⟨ok, hd, la, fr⟩
    simp only [lgOk, Bool.and_eq_true, decide_eq_true_eq] at ok
    obtain ⟨⟨⟨⟨⟨_, h1⟩, h2⟩, h3⟩, h4⟩, h5⟩ := ok
    have h1' : 0 < (ns.map Int.ofNat).length := h1
    have h3' : t.t0 + (ns.map Int.ofNat).length ≤ c.ticks := h3
    obtain ⟨f0, fS⟩ := (free_iff h0 h3' h1').1 fr
    rw [List.length_map] at h1' h3'
    have hway := List.all_eq_true.1 h5
    have hd' : ns.head? = some t.fr.toNat := by
      cases ns with
      | nil => simp at h1'
      | cons a l => simp only [List.map_cons, List.head?_cons, Option.some.injEq] at hd ⊢; rw [← hd]; rfl
    have hg0 : ns.getD 0 0 = t.fr.toNat := by
      cases ns with
      | nil => simp at h1'
      | cons a l => simpa using hd'
    refine ⟨⟨?_, hd', fun x hx => ?_, fun j hj => ?_⟩, hlast.1 la, h3'⟩
    · have w0 := hway 0 (by show 0 ∈ List.range (ns.map Int.ofNat).length; simp; omega)
      simp only [Tp.leg, natI_getD, hg0, Bool.and_eq_true, Int.toNat_natCast, Nat.add_zero] at w0
      simp only [natI_getD, hg0] at f0
      show (freeM ls t.lv (spOf t.fr (-1) t.tl) t.t0 && c.can t.lv t.dr t.fr.toNat t.t0.toNat) = true
      rw [show ((t.fr.toNat : Nat) : Int) = t.fr by omega] at f0
      rw [f0, w0.1]; rfl
    · have := List.all_eq_true.1 h4 (x : Int) (by show (x : Int) ∈ ns.map Int.ofNat; exact List.mem_map.2 ⟨x, hx, rfl⟩)
      obtain ⟨y, hy, e⟩ := inN_iff.1 this
      have : x = y := by omega
      show x < c.cells
      omega
    · have w1 := hway (j + 1) (by show j + 1 ∈ List.range (ns.map Int.ofNat).length; simp; omega)
      simp only [Tp.leg, natI_getD, Bool.and_eq_true, Int.toNat_natCast, Nat.add_sub_cancel, Bool.or_eq_true, beq_iff_eq, decide_eq_true_eq] at w1
      have f1 := fS j (by simpa using hj)
      simp only [natI_getD] at f1
      have hmem : ∀ m, m < ns.length → ns.getD m 0 < c.cells := fun m hm => by
        have := List.all_eq_true.1 h4 ((ns.getD m 0 : Nat) : Int) (by
          show _ ∈ ns.map Int.ofNat
          refine List.mem_map.2 ⟨ns.getD m 0, ?_, rfl⟩
          rw [List.getD_eq_getElem?_getD, List.getElem?_eq_getElem hm]
          exact List.getElem_mem hm)
        obtain ⟨y, hy, e⟩ := inN_iff.1 this
        omega
      refine ⟨?_, ?_⟩
      · show ns.getD j 0 ∈ nearM c (ns.getD (j + 1) 0)
        unfold nearM
        rw [List.mem_filter, List.mem_range, decide_eq_true_eq, apt_symm]
        exact ⟨hmem j (by omega), by rcases w1.2 with h | h; · omega
                                     · exact h⟩
      · show (freeM ls t.lv (spOf ((ns.getD (j + 1) 0 : Nat) : Int) ((ns.getD j 0 : Nat) : Int) t.tl) (t.t0 + ((j + 1 : Nat) : Int)) && c.can t.lv t.dr (ns.getD (j + 1) 0) (t.t0.toNat + (j + 1))) = true
        rw [f1, w1.1]; rfl
  · rintro ⟨hw, hl, h3⟩
    have hla := hlast.2 hl
    have hne : 0 < ns.length := by obtain ⟨m, rfl⟩ := hl; simp
    have hok0 := hw.ok0
    have hok0 : (freeM ls t.lv (spOf t.fr (-1) t.tl) t.t0 && c.can t.lv t.dr t.fr.toNat t.t0.toNat) = true := hok0
    rw [Bool.and_eq_true] at hok0
    have hg0 : ns.getD 0 0 = t.fr.toNat := by
      have := hw.hd
      cases ns with
      | nil => simp at hne
      | cons a l => simp only [List.head?_cons, Option.some.injEq] at this; exact this
    have hst := hw.st
    have hst' : ∀ j, j + 1 < ns.length → apt c.w (ns.getD j 0 : Nat) (ns.getD (j + 1) 0 : Nat) ≤ 1 ∧ freeM ls t.lv (spOf ((ns.getD (j + 1) 0 : Nat) : Int) ((ns.getD j 0 : Nat) : Int) t.tl) (t.t0 + ((j + 1 : Nat) : Int)) = true ∧ c.can t.lv t.dr (ns.getD (j + 1) 0) (t.t0.toNat + (j + 1)) = true := fun j hj => by
      obtain ⟨a, b⟩ := hst j hj
      have a : ns.getD j 0 ∈ nearM c (ns.getD (j + 1) 0) := a
      unfold nearM at a
      rw [List.mem_filter, decide_eq_true_eq, apt_symm] at a
      have b : (freeM ls t.lv (spOf ((ns.getD (j + 1) 0 : Nat) : Int) ((ns.getD j 0 : Nat) : Int) t.tl) (t.t0 + ((j + 1 : Nat) : Int)) && c.can t.lv t.dr (ns.getD (j + 1) 0) (t.t0.toNat + (j + 1))) = true := b
      rw [Bool.and_eq_true] at b
      exact ⟨a.2, b.1, b.2⟩
    refine ⟨?_, ?_, hla, (free_iff h0 (by simpa using h3) (by simpa using hne)).2 ⟨?_, fun j hj => ?_⟩⟩
    · simp only [lgOk, Bool.and_eq_true, decide_eq_true_eq]
      refine ⟨⟨⟨⟨⟨hu, by simpa [Tp.leg] using hne⟩, h0⟩, by simpa [Tp.leg] using h3⟩, List.all_eq_true.2 fun x hx => ?_⟩, List.all_eq_true.2 fun i hi => ?_⟩
      · have hx : x ∈ ns.map Int.ofNat := hx
        obtain ⟨y, hy, rfl⟩ := List.mem_map.1 hx
        exact inN_iff.2 ⟨y, hw.lt y hy, rfl⟩
      · have hi : i ∈ List.range (ns.map Int.ofNat).length := hi
        rw [List.mem_range, List.length_map] at hi
        simp only [Tp.leg, natI_getD, Int.toNat_natCast]
        cases i with
        | zero => rw [hg0, Nat.add_zero, hok0.2]; rfl
        | succ j =>
          obtain ⟨a, _, b⟩ := hst' j hi
          rw [b, Nat.add_sub_cancel, decide_eq_true a]
          simp
    · have := hw.hd
      cases ns with
      | nil => simp at hne
      | cons a l =>
        have this : some a = some t.fr.toNat := this
        cases this
        simp only [List.map_cons, List.head?_cons, Option.some.injEq]
        show ((t.fr.toNat : Nat) : Int) = t.fr
        omega
    · rw [natI_getD, hg0, show ((t.fr.toNat : Nat) : Int) = t.fr by omega]
      exact hok0.1
    · rw [natI_getD, natI_getD]
      exact (hst' j (by simpa using hj)).2.1

/-- The route that is found: that of the way. -/
def routeM (c : Ch) (ls : List Lg) (t : Tp) : Option (List Nat) := (wyM c ls t).route (c.ticks - t.t0.toNat) t.to.toNat

theorem rt_nats {c : Ch} {ls : List Lg} {t : Tp} {cs : List Int} (h : IsRt c ls t cs) : ∃ ns : List Nat, cs = ns.map Int.ofNat := by
  have ok := h.ok
  simp only [lgOk, Bool.and_eq_true] at ok
  have h4 := List.all_eq_true.1 ok.1.2
  have h4 : ∀ x ∈ cs, inN c.cells x = true := h4
  refine ⟨cs.map Int.toNat, ?_⟩
  rw [List.map_map]
  refine (List.map_id cs).symm.trans (List.map_congr_left fun x hx => ?_)
  obtain ⟨y, _, rfl⟩ := inN_iff.1 (h4 x hx)
  rfl

theorem routeM_some {c : Ch} {ls : List Lg} {t : Tp} (ht : tpOk c t = true) {ns : List Nat} (h : routeM c ls t = some ns) : IsRt c ls t (ns.map Int.ofNat) ∧ ∀ cs, IsRt c ls t cs → ns.length ≤ cs.length := by
  have ht0 := ht
  simp only [tpOk, Bool.and_eq_true] at ht
  obtain ⟨⟨⟨hu, h0⟩, hf⟩, hto⟩ := ht
  obtain ⟨n0, hn0, e0⟩ := inN_iff.1 h0
  obtain ⟨nf, hnf, ef⟩ := inN_iff.1 hf
  obtain ⟨nt, hnt, et⟩ := inN_iff.1 hto
  obtain ⟨a1, a2, a3, a4, a5⟩ := Wy.route_some (W := wyM c ls t) (fun i hi b hb => nearM_lt hb) (by show t.fr.toNat < c.cells; omega) (by show t.to.toNat < c.cells; omega) h
  refine ⟨(rt_iff ht0).2 ⟨a1, a2, by omega⟩, fun cs hcs => ?_⟩
  obtain ⟨ms, rfl⟩ := rt_nats hcs
  obtain ⟨b1, ⟨m, rfl⟩, b3⟩ := (rt_iff ht0).1 hcs
  have := a5 m b1 (by omega)
  simpa using this

theorem routeM_none {c : Ch} {ls : List Lg} {t : Tp} (ht : tpOk c t = true) (h : routeM c ls t = none) : ∀ cs, ¬ IsRt c ls t cs := fun cs hcs => by
  have ht0 := ht
  simp only [tpOk, Bool.and_eq_true] at ht
  obtain ⟨⟨⟨hu, h0⟩, hf⟩, hto⟩ := ht
  obtain ⟨n0, hn0, e0⟩ := inN_iff.1 h0
  obtain ⟨ms, rfl⟩ := rt_nats hcs
  obtain ⟨b1, ⟨m, rfl⟩, b3⟩ := (rt_iff ht0).1 hcs
  exact Wy.route_none (W := wyM c ls t) h m b1 (by omega)
end Go.Proofs.YthobfecblpnnnaaGreatDoor
