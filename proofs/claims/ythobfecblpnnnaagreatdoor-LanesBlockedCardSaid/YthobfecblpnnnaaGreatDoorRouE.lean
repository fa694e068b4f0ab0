import Derived.Test.YthobfecblpnnnaaGreatDoorRouD
import Derived.Test.YthobfecblpnnnaaGreatDoorLanI
import Derived.Test.YthobfecblpnnnaaGreatDoorLanO

/- Contracts of layer 6, the program: Route; Block if there is a route. -/
set_option linter.all false
namespace Go.Proofs.YthobfecblpnnnaaGreatDoor
open Go Go.RowKit

theorem run_isTrip6 (c : Ch) (p : Tp) (lim : Nat) (H : AH) (d t s : Value) (hc : ChIn H c d t s) (va : Option Addr) (vn vc : Nat) :
    apL Tryz.prog pf (.func (.func 57) #[] #[]) [trV c d t s (.slice va vn vc), tpV p] lim H = some (.bool (tpOk c p), H) := by
  rw [apL_func _ _ _ _ _ _ (by rfl), sf_lanes_traffic_isTrip_eq]
  have h1 := fun lim => run_isUnit p.lv p.dr lim H
  have h2 := fun lim => run_trTick c p.t0 lim H d t s hc va vn vc
  have h3 := fun x lim => run_trCell c x lim H d t s hc va vn vc
  obtain ⟨⟨da, dn, dc, ed⟩, ⟨ta, tn, tc, et⟩, ⟨sa, sn, sc, es⟩⟩ := hc.vals
  simp only [trV, ed, et, es] at h2 h3
  unfold tpOk
  cases a1 : unitB p.lv p.dr with
  | false =>
    rw [a1] at h1
    simp [sf_lanes_traffic_isTrip, trV, tpV, ed, et, es, h1, pf_pure, pureF]
  | true =>
  rw [a1] at h1
  have e2 : inN c.ticks p.t0 = inN c.tide.length p.t0 := rfl
  have e3 : ∀ x, inN c.cells x = inN c.depth.length x := fun _ => rfl
  cases a2 : inN c.tide.length p.t0 with
  | false =>
    rw [a2] at h2
    simp [sf_lanes_traffic_isTrip, trV, tpV, ed, et, es, h1, h2, e2, a2, pf_pure, pureF]
  | true =>
  rw [a2] at h2
  have h4 := fun lim => h3 p.fr lim
  have h5 := fun lim => h3 p.to lim
  cases a3 : inN c.depth.length p.fr with
  | false =>
    rw [a3] at h4
    simp [sf_lanes_traffic_isTrip, trV, tpV, ed, et, es, h1, h2, h4, e2, e3, a2, a3, pf_pure, pureF]
  | true =>
    rw [a3] at h4
    simp [sf_lanes_traffic_isTrip, trV, tpV, ed, et, es, h1, h2, h4, h5, e2, e3, a2, a3, pf_pure, pureF]

theorem run_ready_ok (c : Ch) (ls : List Lg) (p : Tp) (H : AH) (d t s v : Value) (hc : ChIn H c d t s) (hv : LgIn H v ls) (he : legE c ls = 0) (hp : tpOk c p = true) (lim : Nat) :
    apL Tryz.prog pf (.func (.func 42) #[] #[]) [chV c d t s, v, tpV p] lim H = some (.tuple #[trV c d t s v, .int .i64 0], H) := by
  rw [apL_func _ _ _ _ _ _ (by rfl), sf_lanes_ready_eq]
  have ho := fun lim => run_lopen c ls H d t s v hc hv lim
  obtain ⟨va, vc, ev⟩ := hv.sl.one
  have ht := fun lim => run_isTrip6 c p lim H d t s hc va ls.length vc
  obtain ⟨⟨da, dn, dc, ed⟩, ⟨ta, tn, tc, et⟩, ⟨sa, sn, sc, es⟩⟩ := hc.vals
  simp only [he, if_true, chV, trV, ed, et, es, ev] at ho
  simp only [trV, hp, ed, et, es] at ht
  simp only [tpV] at ht
  simp [-oneC, -Array.all_eq_false, -Array.all_toList, -List.all_eq_true, oneC_slice, oneC_int, oneC_boolW, sf_lanes_ready, chV, trV, tpV, ed, et, es, ev, ho, ht, pf_pure, pureF]

/-- What Route answers. -/
def RoR (H A : AH) (v : Value) (o : Option (List Nat)) : Prop := match o with
  | some ns => ∃ r, v = .tuple #[r, .int .i64 0] ∧ RowB H.length A r (ns.map Int.ofNat)
  | none => v = .tuple #[.slice none 0 0, .int .i64 3] ∧ A = H

theorem rtc_of {c : Ch} {ls : List Lg} {H : AH} {d t s v : Value} (hc : ChIn H c d t s) (hv : LgIn H v ls) (he : legE c ls = 0) {p : Tp} (hp : tpOk c p = true) (hG : H[waysG]? = some (.ro waysV)) (va : Option Addr) (vn vc : Nat) :
    ∃ b0 k0 A, (∀ lim, apL Tryz.prog pf (.func (.func 43) #[] #[]) [trV c d t s (.slice va vn vc), tpV p] lim H = some (rnV c d t s (.slice va vn vc) p (.slice (some ⟨b0, 0, none⟩) c.cells k0), A)) ∧ Aft H A ∧ RtC c ls A d t s va vn vc p b0 k0 v := by
  obtain ⟨hok, hl12, hall⟩ := legE_zero.1 he
  obtain ⟨bs, A, r1, a1, hT⟩ := run_start c hok H hG d t s hc va vn vc p
  have hTab := hT.tab
  obtain ⟨rv, hl, hrv⟩ := hT
  have h1 := hok.1.1
  have h2 := hok.2.1.1
  have h3 := hok.mul.2.2
  have h4 : 0 < c.w * c.h := Int.mul_pos (by omega) (by omega)
  have hl' : rv.length = c.cells := by rw [hl]; simp [nearT]
  rcases hrv with ⟨rfl, _⟩ | ⟨_, b, _, rfl, _⟩
  · simp at hl'
    omega
  · rw [hl'] at r1 hTab
    exact ⟨b, c.cells + 1, A, r1, a1, hok, by omega, lgsIn_of hok hall, hc.ext a1.ext, hp, hTab, hv.ext a1.ext⟩

theorem run_Route_ok (c : Ch) (ls : List Lg) (p : Tp) (H : AH) (hH : noLp H = true) (hG : H[waysG]? = some (.ro waysV)) (d t s v : Value) (hc : ChIn H c d t s) (hv : LgIn H v ls) (he : legE c ls = 0) (hp : tpOk c p = true) :
    ∃ r A, (∀ lim, apL Tryz.prog pf (.func (.func 16) #[] #[]) [chV c d t s, v, tpV p] lim H = some (r, A)) ∧ Aft H A ∧ RoR H A r (routeM c ls p) := by
  have hrd := fun lim => run_ready_ok c ls p H d t s v hc hv he hp lim
  obtain ⟨va, vc, ev⟩ := hv.sl.one
  obtain ⟨b0, k0, A1, r1, a1, hR⟩ := rtc_of hc hv he hp hG va ls.length vc
  obtain ⟨r, A2, r2, a2, hr⟩ := run_route (a1.nlp hH) hR
  obtain ⟨⟨da, dn, dc, ed⟩, ⟨ta, tn, tc, et⟩, ⟨sa, sn, sc, es⟩⟩ := hc.vals
  have hle := a1.le
  suffices key : ∀ lim, ∃ r A, apL Tryz.prog pf (.func (.func 16) #[] #[]) [chV c d t s, v, tpV p] lim H = some (r, A) ∧ Aft H A ∧ RoR H A r (routeM c ls p) by
    obtain ⟨r, A, h1, h2⟩ := key 0
    refine ⟨r, A, fun lim => ?_, h2⟩
    rw [← h1, apL_func _ _ _ _ _ _ (by rfl), apL_func _ _ _ _ _ _ (by rfl)]
    simp only [pf_pure, show pureF 16 = true from rfl, if_true]
  intro lim
  rw [apL_func _ _ _ _ _ _ (by rfl), sf_lanes_Route_eq]
  simp only [chV, trV, tpV, rnV, ed, et, es, ev] at hrd r1 r2 ⊢
  cases ho : routeM c ls p with
  | none =>
    rw [ho] at hr
    obtain ⟨rfl, rfl⟩ := hr
    refine ⟨.tuple #[.slice none 0 0, .int .i64 3], H, ?_, Aft.refl H, rfl, rfl⟩
    simp [-oneC, -Array.all_eq_false, -Array.all_toList, -List.all_eq_true, oneC_slice, oneC_int, oneC_boolW, sf_lanes_Route, hrd, r1, r2, pf_pure, pureF]
  | some ns =>
    rw [ho] at hr
    obtain ⟨b, hb, rfl, hbA⟩ := hr
    refine ⟨.tuple #[.slice (some ⟨b, 0, none⟩) ns.length ns.length, .int .i64 0], A2, ?_, a1.trans a2, _, rfl, b, by omega, by simp, hbA⟩
    simp [-oneC, -Array.all_eq_false, -Array.all_toList, -List.all_eq_true, oneC_slice, oneC_int, oneC_boolW, sf_lanes_Route, hrd, r1, r2, pf_pure, pureF]

theorem run_Block_some (c : Ch) (ls : List Lg) (p : Tp) (H : AH) (hH : noLp H = true) (hG : H[waysG]? = some (.ro waysV)) (d t s v : Value) (hc : ChIn H c d t s) (hv : LgIn H v ls) (he : legE c ls = 0) (hp : tpOk c p = true) (hs : (routeM c ls p).isSome = true) (lim : Nat) :
    apL Tryz.prog pf (.func (.func 21) #[] #[]) [chV c d t s, v, tpV p] lim H = some (.tuple #[.slice none 0 0, .int .i64 3], H) := by
  have hrd := fun lim => run_ready_ok c ls p H d t s v hc hv he hp lim
  obtain ⟨va, vc, ev⟩ := hv.sl.one
  obtain ⟨b0, k0, A1, r1, a1, hR⟩ := rtc_of hc hv he hp hG va ls.length vc
  obtain ⟨r, A2, r2, a2, hr⟩ := run_route (a1.nlp hH) hR
  obtain ⟨⟨da, dn, dc, ed⟩, ⟨ta, tn, tc, et⟩, ⟨sa, sn, sc, es⟩⟩ := hc.vals
  rw [apL_func _ _ _ _ _ _ (by rfl), sf_lanes_Block_eq]
  simp only [chV, trV, tpV, rnV, ed, et, es, ev] at hrd r1 r2 ⊢
  cases ho : routeM c ls p with
  | none => rw [ho] at hs; cases hs
  | some ns =>
    rw [ho] at hr
    obtain ⟨b, hb, rfl, hbA⟩ := hr
    simp [-oneC, -Array.all_eq_false, -Array.all_toList, -List.all_eq_true, oneC_slice, oneC_int, oneC_boolW, sf_lanes_Block, hrd, r1, r2, pf_pure, pureF]
end Go.Proofs.YthobfecblpnnnaaGreatDoor

/- Contracts of layer 6, the laws: whether a trip is valid, the leg of a trip, whether cells are a route. -/
set_option linter.all false
namespace Go.Proofs.YthobfecblpnnnaaGreatDoor
open Go Go.RowKit

theorem run_IsTrip6 (c : Ch) (hok : ChOk c) (p : Tp) (lim : Nat) (H : AH) (d t s : Value) (hc : ChIn H c d t s) :
    apL Tryz.prog pf (.func (.func 14) #[] #[]) [chV c d t s, tpV p] lim H = some (.bool (tpOk c p), H) := by
  rw [apL_func _ _ _ _ _ _ (by rfl), sf_cobleref06_IsTrip_eq]
  have h1 := fun lim => run_refUnit p.lv p.dr lim H
  have h2 := fun lim => run_IsTick c p.t0 lim H d t s hc
  have h3 := fun x lim => run_IsCellOk c hok x lim H d t s hc
  obtain ⟨⟨da, dn, dc, ed⟩, ⟨ta, tn, tc, et⟩, ⟨sa, sn, sc, es⟩⟩ := hc.vals
  simp only [chV, ed, et, es] at h2 h3
  have e0 : tpOk c p = (inN c.ticks p.t0 && inN c.cells p.fr && inN c.cells p.to && unitB p.lv p.dr) := by
    unfold tpOk
    cases unitB p.lv p.dr <;> simp
  rw [e0]
  cases a2 : inN c.ticks p.t0 with
  | false =>
    rw [a2] at h2
    simp [sf_cobleref06_IsTrip, chV, tpV, ed, et, es, h2, pf_pure, pureF]
  | true =>
  rw [a2] at h2
  have h4 := fun lim => h3 p.fr lim
  have h5 := fun lim => h3 p.to lim
  cases a3 : inN c.cells p.fr with
  | false =>
    rw [a3] at h4
    simp [sf_cobleref06_IsTrip, chV, tpV, ed, et, es, h2, h4, pf_pure, pureF]
  | true =>
  rw [a3] at h4
  cases a4 : inN c.cells p.to with
  | false =>
    rw [a4] at h5
    simp [sf_cobleref06_IsTrip, chV, tpV, ed, et, es, h2, h4, h5, pf_pure, pureF]
  | true =>
    rw [a4] at h5
    simp [sf_cobleref06_IsTrip, chV, tpV, ed, et, es, h1, h2, h4, h5, pf_pure, pureF]

theorem run_LegOf (p : Tp) (cs : List Int) (a : Option Addr) (n k : Nat) (lim : Nat) (H : AH) :
    apL Tryz.prog pf (.func (.func 20) #[] #[]) [tpV p, .slice a n k] lim H = some (lgV (p.leg cs) (.slice a n k), H) := by
  rw [apL_func _ _ _ _ _ _ (by rfl), sf_cobleref06_LegOf_eq]
  simp [-oneC, -Array.all_eq_false, -Array.all_toList, -List.all_eq_true, oneC_slice, oneC_int, oneC_boolW, sf_cobleref06_LegOf, tpV, lgV, Tp.leg, pf_pure, pureF]

/-- No clash of a leg with the others in any tick. -/
def noCl (T : Nat) (a : Lg) (ls : List Lg) : Bool := ls.all fun l => (List.range T).all fun k => !(claM a l (k : Int))
theorem noCl_iff {T : Nat} {a : Lg} {ls : List Lg} : noCl T a ls = true ↔ ∀ l ∈ ls, ∀ k : Nat, k < T → claM a l k = false := by
  unfold noCl
  rw [List.all_eq_true]
  constructor
  · intro h l hl k hk
    have := List.all_eq_true.1 (h l hl) k (List.mem_range.2 hk)
    simpa using this
  · intro h l hl
    rw [List.all_eq_true]
    intro k hk
    rw [h l hl k (List.mem_range.1 hk)]
    rfl

/-- Whether cells are a route. -/
def rtB (c : Ch) (ls : List Lg) (p : Tp) (cs : List Int) : Bool := decide (cs.length ≤ 80) && lgOk c (p.leg cs) && (cs.getD 0 0 == p.fr) && (cs.getD (cs.length - 1) 0 == p.to) && noCl c.ticks (p.leg cs) ls

theorem lgOk_pos {c : Ch} {l : Lg} (h : lgOk c l = true) : 0 < l.cs.length ∧ l.nn ∧ (0 ≤ l.t0 ∧ l.t0 + l.cs.length ≤ c.ticks) := by
  simp only [lgOk, Bool.and_eq_true, decide_eq_true_eq] at h
  obtain ⟨⟨⟨⟨⟨_, h1⟩, h2⟩, h3⟩, h4⟩, _⟩ := h
  obtain ⟨n, hn, e⟩ := inN_iff.1 h2
  refine ⟨h1, fun x hx => ?_, by omega, h3⟩
  obtain ⟨y, _, e⟩ := inN_iff.1 (List.all_eq_true.1 h4 x hx)
  omega

theorem rtB_iff {c : Ch} {ls : List Lg} {p : Tp} {cs : List Int} : rtB c ls p cs = true ↔ cs.length ≤ 80 ∧ IsRt c ls p cs := by
  unfold rtB
  simp only [Bool.and_eq_true, decide_eq_true_eq, beq_iff_eq, noCl_iff]
  constructor
  · rintro ⟨⟨⟨⟨h1, h2⟩, h3⟩, h4⟩, h5⟩
    have h0 := (lgOk_pos h2).1
    have h0 : 0 < cs.length := h0
    refine ⟨h1, h2, ?_, ?_, h5⟩
    · rw [List.head?_eq_getElem?, List.getElem?_eq_getElem h0]
      simp [h0] at h3
      rw [h3]
    · rw [List.getLast?_eq_getElem?, List.getElem?_eq_getElem (by omega)]
      simp [show cs.length - 1 < cs.length by omega] at h4
      rw [h4]
  · rintro ⟨h1, h2, h3, h4, h5⟩
    have h0 := (lgOk_pos h2).1
    have h0 : 0 < cs.length := h0
    rw [List.head?_eq_getElem?, List.getElem?_eq_getElem h0] at h3
    rw [List.getLast?_eq_getElem?, List.getElem?_eq_getElem (by omega)] at h4
    refine ⟨⟨⟨⟨h1, h2⟩, ?_⟩, ?_⟩, h5⟩
    · simp [h0]
      exact Option.some.inj h3
    · simp [show cs.length - 1 < cs.length by omega]
      exact Option.some.inj h4

def irOut : SC := sf_coblelaw06_isRoute.body.loops.headD .skip
def irIn : SC := sf_coblelaw06_isRoute.body.loops.getD 1 .skip

theorem ir_in (c : Ch) (a : Lg) (hnn : a.nn) (ha0 : -1000 ≤ a.t0 ∧ a.t0 ≤ 1000) (ls : List Lg) (hin : LgsIn ls) (hlnn : LgsNn ls) (T : Nat) (hT : T ≤ 60) (H : AH) (d s x : Value) (ta : Option Addr) (tc : Nat) (hx : CsIn H x a) (va : Option Addr) (vc : Nat) (hv : LgIn H (.slice va ls.length vc) ls) {i : Nat} (hi : i < ls.length) (S : St)
    (e1 : tget S.t 1 = .slice va ls.length vc) (e4 : tget S.t 4 = .pointer (some ⟨4, 0, some 0⟩)) (e9 : tget S.t 9 = .pointer (some ⟨9, 0, some 0⟩)) (e10 : tget S.t 10 = .int .i64 i) (e11 : tget S.t 11 = .int .i64 0) (hL4 : lget S.L 4 = some (0, .cells [.int .i64 c.w, .int .i64 c.h, d, .slice ta T tc, s])) (hL9 : lget S.L 9 = some (0, .cells (a.vals x))) (hH : S.H = H) :
    ∃ q, exL Tryz.prog pf (.loop irIn) S = some q ∧ q.2.H = H ∧ ((q.1 = .exit 2 ∧ q.2.L = S.L ∧ tget q.2.t 1 = tget S.t 1 ∧ tget q.2.t 4 = tget S.t 4 ∧ tget q.2.t 9 = tget S.t 9 ∧ tget q.2.t 10 = tget S.t 10 ∧ ((List.range T).all fun k => !(claM a ls[i] (k : Int))) = true) ∨ (q.1 = .ret ∧ tget q.2.t 8 = .bool false ∧ ((List.range T).all fun k => !(claM a ls[i] (k : Int))) = false)) := by
  obtain ⟨xa, xc, ex⟩ : ∃ i c, x = .slice i a.cs.length c := by obtain ⟨⟨i, c, e, _⟩, _⟩ := hx; exact ⟨i, c, e⟩
  subst ex
  obtain ⟨b1, o1, ac1, ya, yc, e, c0, c1, c2, c3, c4, hsl⟩ := hv.sl.get hi
  cases e
  have hmem := List.getElem_mem hi
  have hC := fun {k : Nat} (hk : k ≤ 800) lim => run_Clash a ls[i] hnn (hlnn _ hmem) (k : Int) (by omega) ha0 (hin _ hmem) H _ _ hx ⟨hsl, hv.cl _ hmem⟩ lim
  simp only [lgV] at hC
  simp only [Lg.vals] at hL9
  simp only [hcell] at c0 c1 c2 c3 c4
  refine loop_rule (I := fun n s' => ∃ k, k ≤ T ∧ n = T - k ∧ tget s'.t 1 = tget S.t 1 ∧ tget s'.t 4 = tget S.t 4 ∧ tget s'.t 9 = tget S.t 9 ∧ tget s'.t 10 = tget S.t 10 ∧ tget s'.t 11 = .int .i64 k ∧ s'.L = S.L ∧ s'.H = H ∧ ∀ m, m < k → claM a ls[i] (m : Int) = false) ?_ T S
    ⟨0, by omega, by omega, rfl, rfl, rfl, rfl, e11, rfl, hH, by omega⟩
  rintro n s' ⟨k, hk, rfl, f1, f4, f9, f10, f11, fL, fH, ft⟩
  rw [e1] at f1
  rw [e4] at f4
  rw [e9] at f9
  rw [e10] at f10
  by_cases hlt : k < T
  rotate_left
  · have : k = T := by omega
    subst this
    have hall : ((List.range k).all fun m => !(claM a ls[i] (m : Int))) = true := by
      rw [List.all_eq_true]
      intro m hm
      rw [ft m (List.mem_range.1 hm)]
      rfl
    simp [-List.all_eq_true, -List.all_eq_false, irIn, SC.loops, sf_coblelaw06_isRoute, f1, f4, f9, f10, f11, fL, fH, hL4, e1, e4, e9, e10, hall]
  have hltI : (k : Int) < (T : Int) := by omega
  have hw : IntKind.i64.wrap ((k : Int) + 1) = (k : Int) + 1 := wrap_i64 (by omega) (by omega)
  have hC := fun lim => hC (k := k) (by omega) lim
  have hiI : (i : Int) < (ls.length : Int) := by omega
  cases hc : claM a ls[i] (k : Int) with
  | false =>
    rw [hc] at hC
    generalize hq : ls[i] = q at *
    simp [-List.all_eq_true, -List.all_eq_false, irIn, SC.loops, sf_coblelaw06_isRoute, f1, f4, f9, f10, f11, fL, fH, hL4, hL9, hltI, hi, hiI, c0, c1, c2, c3, c4, hC, hw, e1, e4, e9, e10]
    exact ⟨_, by omega, k + 1, by omega, rfl, by omega, fun m hm => by
      by_cases e : m = k
      · subst e; exact hc
      · exact ft m (by omega)⟩
  | true =>
    rw [hc] at hC
    have hno : ((List.range T).all fun m => !(claM a ls[i] (m : Int))) = false := by
      rw [Bool.eq_false_iff]
      intro h
      have := List.all_eq_true.1 h k (List.mem_range.2 hlt)
      rw [hc] at this
      cases this
    generalize hq : ls[i] = q at *
    simp [-List.all_eq_true, -List.all_eq_false, irIn, SC.loops, sf_coblelaw06_isRoute, f1, f4, f9, f10, f11, fL, fH, hL4, hL9, hltI, hi, hiI, c0, c1, c2, c3, c4, hC, hno]

theorem run_isRoute6 (c : Ch) (hok : ChOk c) (ls : List Lg) (hin : LgsIn ls) (hlnn : LgsNn ls) (p : Tp) (cs : List Int) (H : AH) (d t s v sv : Value) (hc : ChIn H c d t s) (hv : LgIn H v ls) (hs : Sl H sv cs.length (ints cs)) (hcl : cs.length < 2 ^ 62) (lim : Nat) :
    apL Tryz.prog pf (.func (.func 17) #[] #[]) [chV c d t s, v, tpV p, sv] lim H = some (.bool (rtB c ls p cs), H) := by
  rw [apL_func _ _ _ _ _ _ (by rfl), sf_coblelaw06_isRoute_eq]
  have hLeg := fun lim => run_IsLeg6 c hok (p.leg cs) H d t s hc sv ⟨hs, hcl⟩ lim
  have hs0 := hs
  obtain ⟨xa, xc, ex, hd⟩ := hs
  have hLO := fun lim => run_LegOf p cs xa cs.length xc lim H
  obtain ⟨va, vc, ev⟩ := hv.sl.one
  have hv0 := hv
  rw [ev] at hv0
  obtain ⟨⟨da, dc, ed, _⟩, ⟨ta, tc, et, _⟩, ⟨sa, sc, es, _⟩, _⟩ := id hc
  have hT : c.tide.length ≤ 60 := hok.2.2.2.1.2
  subst ex
  simp only [chV, lgV, tpV, ed, et, es, Tp.leg] at hLeg hLO
  have hwl : IntKind.i64.wrap ((cs.length : Int) - 1) = (cs.length : Int) - 1 := wrap_i64 (by omega) (by omega)
  unfold rtB
  by_cases h80 : cs.length ≤ 80
  rotate_left
  · have h80' : (80 : Int) < (cs.length : Int) := by omega
    simp [-oneC, -Array.all_eq_false, -Array.all_toList, -List.all_eq_true, oneC_slice, oneC_int, oneC_boolW, sf_coblelaw06_isRoute, chV, tpV, ed, et, es, ev, hLO, h80, h80', pf_pure, pureF]
  have h80' : ¬ (80 : Int) < (cs.length : Int) := by omega
  have hlg : ∀ z, (⟨p.t0, p.lv, p.dr, p.tl, cs⟩ : Lg) = z → z = p.leg cs := fun z h => h.symm
  cases a1 : lgOk c (p.leg cs) with
  | false =>
    have a1' : lgOk c ⟨p.t0, p.lv, p.dr, p.tl, cs⟩ = false := a1
    rw [a1'] at hLeg
    simp [-oneC, -Array.all_eq_false, -Array.all_toList, -List.all_eq_true, oneC_slice, oneC_int, oneC_boolW, sf_coblelaw06_isRoute, chV, tpV, ed, et, es, ev, hLO, h80, h80', hLeg, pf_pure, pureF]
  | true =>
  have a1' : lgOk c ⟨p.t0, p.lv, p.dr, p.tl, cs⟩ = true := a1
  rw [a1'] at hLeg
  obtain ⟨hpos, hnn, ht0, ht1⟩ := lgOk_pos a1
  have hpos : 0 < cs.length := hpos
  have hposI : (0 : Int) < (cs.length : Int) := by omega
  obtain ⟨b1, o1, rfl, c0⟩ := hd 0 (.int .i64 (cs.getD 0 0)) (by simp [ints, hpos])
  obtain ⟨_, _, e, c1⟩ := hd (cs.length - 1) (.int .i64 (cs.getD (cs.length - 1) 0)) (by rw [ints, List.getElem?_map, List.getD_eq_getElem?_getD, List.getElem?_eq_getElem (by omega)]; rfl)
  cases e
  simp only [hcell, Nat.add_zero] at c0 c1
  have hlast : ((cs.length : Int) - 1).toNat = cs.length - 1 := by omega
  have hlI : 0 ≤ (cs.length : Int) - 1 ∧ (cs.length : Int) - 1 < cs.length := by omega
  have hI1 : 0 ≤ (cs.length : Int) - 1 := by omega
  have hI2 : (cs.length : Int) - 1 < cs.length := by omega
  have hn1 : cs.length - 1 < cs.length := by omega
  have e1' : ((cs.length : Int) - 1) = ((cs.length - 1 : Nat) : Int) := by omega
  cases a2 : (cs.getD 0 0 == p.fr) with
  | false =>
    have a2' : (cs.getD 0 0 != p.fr) = true := by unfold bne; rw [a2]; rfl
    generalize cs.getD 0 0 = f0 at *
    simp [-oneC, -Array.all_eq_false, -Array.all_toList, -List.all_eq_true, oneC_slice, oneC_int, oneC_boolW, sf_coblelaw06_isRoute, chV, tpV, ed, et, es, ev, hLO, h80, h80', hLeg, hpos, hposI, c0, a2', pf_pure, pureF]
  | true =>
  have a2' : (cs.getD 0 0 != p.fr) = false := by unfold bne; rw [a2]; rfl
  cases a3 : (cs.getD (cs.length - 1) 0 == p.to) with
  | false =>
    have a3' : (cs.getD (cs.length - 1) 0 != p.to) = true := by unfold bne; rw [a3]; rfl
    generalize cs.getD (cs.length - 1) 0 = f1 at *
    generalize cs.getD 0 0 = f0 at *
    rw [e1'] at hwl
    simp [-oneC, -Array.all_eq_false, -Array.all_toList, -List.all_eq_true, oneC_slice, oneC_int, oneC_boolW, sf_coblelaw06_isRoute, chV, tpV, ed, et, es, ev, hLO, h80, h80', hLeg, hpos, hposI, c0, c1, a2', a3', e1', hwl, hn1, pf_pure, pureF]
  | true =>
  have a3' : (cs.getD (cs.length - 1) 0 != p.to) = false := by unfold bne; rw [a3]; rfl
  generalize cs.getD (cs.length - 1) 0 = f1 at *
  generalize cs.getD 0 0 = f0 at *
  rw [e1'] at hwl
  simp [-oneC, -Array.all_eq_false, -Array.all_toList, -List.all_eq_true, oneC_slice, oneC_int, oneC_boolW, sf_coblelaw06_isRoute, chV, tpV, ed, et, es, ev, hLO, h80, h80', hLeg, hpos, hposI, c0, c1, a2', a3', e1', hwl, hn1, pf_pure, pureF]
  generalize hS : ({ t := _, L := _, H := _, lim := _, rd := _ } : St) = S
  have ha0 : -1000 ≤ (p.leg cs).t0 ∧ (p.leg cs).t0 ≤ 1000 := by
    have : (p.leg cs).t0 + (p.leg cs).cs.length ≤ (c.tide.length : Nat) := ht1
    omega
  have hii := fun {i : Nat} (hi : i < ls.length) S => ir_in c (p.leg cs) hnn ha0 ls hin hlnn c.tide.length hT H (.slice da c.depth.length dc) (.slice sa c.swell.length sc) (.slice (some ⟨b1, o1, none⟩) cs.length xc) ta tc ⟨hs0, hcl⟩ va vc hv0 hi S
  have eL4 : lget S.L 4 = some (0, .cells [.int .i64 c.w, .int .i64 c.h, .slice da c.depth.length dc, .slice ta c.tide.length tc, .slice sa c.swell.length sc]) := by subst hS; simp [ed, et, es]
  have eL9 : lget S.L 9 = some (0, .cells ((p.leg cs).vals (.slice (some ⟨b1, o1, none⟩) cs.length xc))) := by subst hS; simp [Lg.vals, Tp.leg]
  have eTT : c.ticks = c.tide.length := rfl
  have key : ∃ q, exL Tryz.prog pf (.loop irOut) S = some q ∧ (q.2.H = H ∧ ((q.1 = .exit 0 ∧ noCl c.ticks (p.leg cs) ls = true) ∨ (q.1 = .ret ∧ tget q.2.t 8 = .bool false ∧ noCl c.ticks (p.leg cs) ls = false))) := by
    refine loop_rule (I := fun n s' => ∃ i, i ≤ ls.length ∧ n = ls.length - i ∧ tget s'.t 1 = .slice va ls.length vc ∧ tget s'.t 4 = .pointer (some ⟨4, 0, some 0⟩) ∧ tget s'.t 9 = .pointer (some ⟨9, 0, some 0⟩) ∧ tget s'.t 10 = .int .i64 i ∧ s'.L = S.L ∧ s'.H = H ∧ ∀ m (h : m < ls.length), m < i → ((List.range c.tide.length).all fun k => !(claM (p.leg cs) ls[m] (k : Int))) = true) ?_ ls.length S
      ⟨0, by omega, by omega, by subst hS; simp [ev], by subst hS; simp, by subst hS; simp, by subst hS; simp, rfl, by subst hS; rfl, fun m h hm => by omega⟩
    rintro n s' ⟨i, hi, rfl, g1, g4, g9, g10, gL, gH, gt⟩
    by_cases hlt : i < ls.length
    rotate_left
    · have : i = ls.length := by omega
      subst this
      have hall : noCl c.ticks (p.leg cs) ls = true := by
        unfold noCl
        rw [List.all_eq_true]
        intro l hl
        obtain ⟨m, hm, rfl⟩ := List.mem_iff_getElem.1 hl
        exact gt m hm hm
      simp [irOut, SC.loops, sf_coblelaw06_isRoute, g1, g4, g9, g10, gL, gH, hall]
    have hltI : (i : Int) < (ls.length : Int) := by omega
    have hln : ls.length < 2 ^ 62 := hv.n
    have hw : IntKind.i64.wrap ((i : Int) + 1) = (i : Int) + 1 := wrap_i64 (by omega) (by omega)
    simp [irOut, SC.loops, sf_coblelaw06_isRoute, g1, g4, g9, g10, gL, gH, hltI]
    generalize hS2 : ({ t := _, L := _, H := _, lim := _, rd := _ } : St) = S2
    obtain ⟨⟨e, s2⟩, hr2, z1, z⟩ := hii hlt S2 (by subst hS2; simp [g1]) (by subst hS2; simp [g4]) (by subst hS2; simp [g9]) (by subst hS2; simp [g10]) (by subst hS2; simp) (by subst hS2; simp [gL, eL4]) (by subst hS2; simp [gL, eL9]) (by subst hS2; simp [gH])
    have q1 : tget S2.t 1 = .slice va ls.length vc := by subst hS2; simp [g1]
    have q4 : tget S2.t 4 = .pointer (some ⟨4, 0, some 0⟩) := by subst hS2; simp [g4]
    have q9 : tget S2.t 9 = .pointer (some ⟨9, 0, some 0⟩) := by subst hS2; simp [g9]
    have q10 : tget S2.t 10 = .int .i64 i := by subst hS2; simp [g10]
    have qL : S2.L = S.L := by subst hS2; simp [gL]
    simp [irIn, SC.loops, sf_coblelaw06_isRoute] at hr2
    rw [hr2]
    simp only at z1 z
    rcases z with ⟨rfl, z2, z3, z4, z5, z6, z7⟩ | ⟨rfl, z8, z7⟩
    · simp [z1, z2, z3, z4, z5, z6, q1, q4, q9, q10, qL, hw, and_assoc]
      refine ⟨ls.length - (i + 1), by omega, i + 1, by omega, rfl, by omega, fun m h hm => ?_⟩
      by_cases e : m = i
      · subst e
        simpa using z7
      · simpa using gt m h (by omega)
    · have hno : noCl c.ticks (p.leg cs) ls = false := by
        rw [Bool.eq_false_iff]
        intro h
        unfold noCl at h
        have := List.all_eq_true.1 h ls[i] (List.getElem_mem hlt)
        rw [eTT] at this
        rw [z7] at this
        cases this
      simp [z1, z8, hno, and_assoc]
  obtain ⟨⟨e, s1⟩, hr, q1, q⟩ := key
  simp [irOut, SC.loops, sf_coblelaw06_isRoute] at hr
  rw [hr]
  simp only at q1 q
  rcases q with ⟨rfl, q2⟩ | ⟨rfl, q8, q2⟩
  · simp [q1, q2]
  · simp [q1, q8, q2]
end Go.Proofs.YthobfecblpnnnaaGreatDoor
