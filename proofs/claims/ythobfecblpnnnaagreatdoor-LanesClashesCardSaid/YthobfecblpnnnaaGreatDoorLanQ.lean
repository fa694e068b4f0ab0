import Derived.Test.YthobfecblpnnnaaGreatDoorLanE

/- Contracts of layer 6, the program: which legs clash. -/
set_option linter.all false
namespace Go.Proofs.YthobfecblpnnnaaGreatDoor
open Go Go.RowKit

/-- The first tick in which two legs clash. -/
def firstC (T : Nat) (a b : Lg) : Option Nat := (List.range T).find? fun k => claM a b (k : Int)
def pairC (T : Nat) (ls : List Lg) (i k : Nat) : List (Nat × Nat × Nat) := match ls[i]?, ls[k]? with
  | some a, some b => (match firstC T a b with | some t => [(i, k, t)] | none => [])
  | _, _ => []
def clK (T : Nat) (ls : List Lg) (i : Nat) : Nat → List (Nat × Nat × Nat)
  | 0 => []
  | k + 1 => clK T ls i k ++ (if i < k then pairC T ls i k else [])
def clI (T : Nat) (ls : List Lg) : Nat → List (Nat × Nat × Nat)
  | 0 => []
  | i + 1 => clI T ls i ++ clK T ls i ls.length
/-- Each two legs that clash, and the first tick in which they do. -/
def clashesM (T : Nat) (ls : List Lg) : List (Nat × Nat × Nat) := clI T ls ls.length

theorem clK_le (T : Nat) (ls : List Lg) (i : Nat) : ∀ k, k ≤ i + 1 → clK T ls i k = []
  | 0, _ => rfl
  | k + 1, h => by simp [clK, clK_le T ls i k (by omega), show ¬ i < k by omega]

theorem pairC_len (T : Nat) (ls : List Lg) (i k : Nat) : (pairC T ls i k).length ≤ 1 := by
  unfold pairC
  split
  · split <;> simp
  · simp
theorem clK_len (T : Nat) (ls : List Lg) (i : Nat) : ∀ k, (clK T ls i k).length ≤ k
  | 0 => by simp [clK]
  | k + 1 => by
    have h1 := clK_len T ls i k
    have h2 := pairC_len T ls i k
    simp only [clK, List.length_append]
    split
    · omega
    · simp; omega
theorem clI_len (T : Nat) (ls : List Lg) : ∀ i, (clI T ls i).length ≤ i * ls.length
  | 0 => by simp [clI]
  | i + 1 => by
    have h1 := clI_len T ls i
    have h2 := clK_len T ls i ls.length
    simp only [clI, List.length_append]
    rw [Nat.add_mul]
    omega

def trips (l : List (Nat × Nat × Nat)) : List Value := l.flatMap fun (a, b, c) => [.int .i64 (a : Nat), .int .i64 (b : Nat), .int .i64 (c : Nat)]
theorem trips_length : ∀ l : List (Nat × Nat × Nat), (trips l).length = l.length * 3
  | [] => rfl
  | (a, b, c) :: l => by
    have := trips_length l
    simp only [trips, List.flatMap_cons, List.length_append, List.length_cons, List.length_nil] at this ⊢
    rw [this]; omega
theorem trips_append (l m : List (Nat × Nat × Nat)) : trips (l ++ m) = trips l ++ trips m := by simp [trips]
theorem nlL_trips : ∀ l : List (Nat × Nat × Nat), nlL (trips l) = true
  | [] => by simp [trips, nlL]
  | (a, b, c) :: l => by
    have := nlL_trips l
    simp only [trips, List.flatMap_cons] at this ⊢
    simp [this, nlL]
theorem trips_get : ∀ {l : List (Nat × Nat × Nat)} {i : Nat} (h : i < l.length), (trips l)[i * 3]? = some (.int .i64 (l[i].1 : Nat)) ∧ (trips l)[i * 3 + 1]? = some (.int .i64 (l[i].2.1 : Nat)) ∧ (trips l)[i * 3 + 2]? = some (.int .i64 (l[i].2.2 : Nat))
  | (a, b, c) :: l, 0, h => by simp [trips]
  | (a, b, c) :: l, i + 1, h => by
    have := trips_get (l := l) (i := i) (by simpa using h)
    simp only [trips, List.flatMap_cons] at this ⊢
    rw [show (i + 1) * 3 = i * 3 + 3 by omega, show i * 3 + 3 + 1 = (i * 3 + 1) + 3 by omega, show i * 3 + 3 + 2 = (i * 3 + 2) + 3 by omega]
    simpa using this

/-- A list of triples that is appended to. -/
def OwnW (n0 : Nat) (A : AH) (v : Value) (l : List (Nat × Nat × Nat)) : Prop :=
  (l = [] ∧ v = .slice none 0 0) ∨ (l ≠ [] ∧ ∃ b, n0 ≤ b ∧ v = .slice (some ⟨b, 0, none⟩) l.length (l.length + 1) ∧ A[b]? = some (.rw 3 (trips l)))
theorem OwnW.sl {n0 : Nat} {A : AH} {v : Value} {l : List (Nat × Nat × Nat)} (h : OwnW n0 A v l) : Sl A v l.length (trips l) := by
  rcases h with ⟨rfl, rfl⟩ | ⟨_, b, _, rfl, hb⟩
  · exact ⟨none, 0, rfl, fun j x hx => by simp [trips] at hx⟩
  · exact ⟨_, _, rfl, fun j x hx => ⟨b, 0, rfl, by simp only [hcell, hb, Nat.zero_add]; exact hx⟩⟩
theorem OwnW.nl {n0 : Nat} {A : AH} {v : Value} {l : List (Nat × Nat × Nat)} (h : OwnW n0 A v l) : nl v = true := by
  rcases h with ⟨_, rfl⟩ | ⟨_, b, _, rfl, _⟩ <;> simp
theorem OwnW.one {n0 : Nat} {A : AH} {v : Value} {l : List (Nat × Nat × Nat)} (h : OwnW n0 A v l) : ∃ a k, v = .slice a l.length k := by
  rcases h with ⟨rfl, rfl⟩ | ⟨_, b, _, rfl, _⟩
  · exact ⟨_, _, rfl⟩
  · exact ⟨_, _, rfl⟩
theorem OwnW.sca {n0 : Nat} {A : AH} {v : Value} {l : List (Nat × Nat × Nat)} (h : OwnW n0 A v l) (hs : sca v = true) : l = [] ∧ v = .slice none 0 0 := by
  rcases h with h | ⟨_, b, _, rfl, _⟩
  · exact h
  · simp [Go.Proofs.YthobfecblpnnnaaGreatDoor.sca] at hs

/-- A trip of a clash, if there is one. -/
def oneM (o : Option Nat) (i k : Nat) : List (Nat × Nat × Nat) := match o with | some t => [(i, k, t)] | none => []

def ctLoop : SC := sf_lanes_traffic_clashes.body.loops.getD 2 .skip

set_option maxHeartbeats 2000000 in
/-- The ticks of two legs. -/
theorem ct_loop (T : Nat) (hT : T ≤ 60) (a b : Lg) (ha : -1000 ≤ a.t0 ∧ a.t0 ≤ 1000) (hb : -1000 ≤ b.t0 ∧ b.t0 ≤ 1000) (i k : Nat) (hi : i ≤ 1000) (hk : k ≤ 1000) (H A : AH) (hA : Aft H A) (sa sb : Value) (ca : CsIn H sa a) (cb : CsIn H sb b) (l : List (Nat × Nat × Nat)) (hl : l.length ≤ 100000) (v : Value) (hv : OwnW H.length A v l) (S : St) (g5 g7 : Nat)
    (e3 : tget S.t 3 = v) (e4 : tget S.t 4 = .int .i64 i) (e5 : tget S.t 5 = .pointer (some ⟨5, 0, some g5⟩)) (e6 : tget S.t 6 = .int .i64 k) (e7 : tget S.t 7 = .pointer (some ⟨7, 0, some g7⟩)) (e34 : tget S.t 34 = .int .i64 T) (e35 : tget S.t 35 = .int .i64 0)
    (hL5 : lget S.L 5 = some (g5, .cells [.int .i64 a.t0, .int .i64 a.lv, .int .i64 a.dr, .bool a.tl, sa])) (hL7 : lget S.L 7 = some (g7, .cells [.int .i64 b.t0, .int .i64 b.lv, .int .i64 b.dr, .bool b.tl, sb])) (hH : S.H = A) (hlim : S.lim = H.length) :
    ∃ q, exL Tryz.prog pf (.loop ctLoop) S = some q ∧ q.2.L = S.L ∧ q.2.lim = S.lim ∧ Aft H q.2.H ∧ tget q.2.t 1 = tget S.t 1 ∧ tget q.2.t 4 = tget S.t 4 ∧ tget q.2.t 5 = tget S.t 5 ∧ tget q.2.t 6 = tget S.t 6 ∧ tget q.2.t 10 = tget S.t 10 ∧ tget q.2.t 11 = tget S.t 11 ∧ tget q.2.t 12 = tget S.t 12 ∧ (q.1 = .exit 4 ∨ q.1 = .exit 3) ∧ OwnW H.length q.2.H (tget q.2.t 3) (l ++ oneM (firstC T a b) i k) := by
  unfold oneM
  have sp1 := fun {t : Nat} (ht : t ≤ 800) lim => run_spotIn a t (by omega) ha lim A sa (ca.ext hA.ext)
  have sp2 := fun {t : Nat} (ht : t ≤ 800) lim => run_spotIn b t (by omega) hb lim A sb (cb.ext hA.ext)
  have hcl := fun (x y : Sp) lim => run_cla x y lim A
  obtain ⟨xa, xc, ex⟩ : ∃ i c, sa = .slice i a.cs.length c := by obtain ⟨⟨i, c, e, _⟩, _⟩ := ca; exact ⟨i, c, e⟩
  obtain ⟨ya, yc, ey⟩ : ∃ i c, sb = .slice i b.cs.length c := by obtain ⟨⟨i, c, e, _⟩, _⟩ := cb; exact ⟨i, c, e⟩
  subst ex ey
  simp only [lgV, spoV] at sp1 sp2 hcl
  refine loop_rule (I := fun n s' => ∃ j, j ≤ T ∧ n = T - j ∧ tget s'.t 1 = tget S.t 1 ∧ tget s'.t 3 = v ∧ tget s'.t 4 = .int .i64 i ∧ tget s'.t 5 = .pointer (some ⟨5, 0, some g5⟩) ∧ tget s'.t 6 = .int .i64 k ∧ tget s'.t 7 = .pointer (some ⟨7, 0, some g7⟩) ∧ tget s'.t 10 = tget S.t 10 ∧ tget s'.t 11 = tget S.t 11 ∧ tget s'.t 12 = tget S.t 12 ∧ tget s'.t 34 = .int .i64 T ∧ tget s'.t 35 = .int .i64 j ∧ s'.L = S.L ∧ s'.H = A ∧ s'.lim = H.length ∧ ∀ m, m < j → claM a b (m : Int) = false) ?_ T S
    ⟨0, by omega, by omega, rfl, e3, e4, e5, e6, e7, rfl, rfl, rfl, e34, e35, rfl, hH, hlim, by omega⟩
  rintro n s' ⟨j, hj, rfl, f1, f3, f4, f5, f6, f7, f10, f11, f12, f34, f35, fL, fH, fl, et⟩
  by_cases hlt : j < T
  rotate_left
  · have : j = T := by omega
    subst this
    have hno : firstC j a b = none := by
      unfold firstC
      rw [List.find?_eq_none]
      intro m hm
      rw [et m (List.mem_range.1 hm)]
      simp
    simp [ctLoop, SC.loops, sf_lanes_traffic_clashes, f1, f3, f4, f5, f6, f10, f11, f12, f34, f35, fL, fH, fl, e4, e5, e6, hlim, hno]
    exact ⟨hA, hv⟩
  have hltI : (j : Int) < (T : Int) := by omega
  have hw : IntKind.i64.wrap ((j : Int) + 1) = (j : Int) + 1 := wrap_i64 (by omega) (by omega)
  have sp1 := fun lim => sp1 (t := j) (by omega) lim
  have sp2 := fun lim => sp2 (t := j) (by omega) lim
  have next : claM a b (j : Int) = false → ∀ m, m < j + 1 → claM a b (m : Int) = false := fun hh m hm => by
    by_cases e : m = j
    · subst e; exact hh
    · exact et m (by omega)
  cases hlv : (a.lv == b.lv) with
  | false =>
    have hc : claM a b (j : Int) = false := by unfold claM; rw [hlv]; rfl
    simp [ctLoop, SC.loops, sf_lanes_traffic_clashes, f1, f3, f4, f5, f6, f7, f10, f11, f12, f34, f35, fL, fH, fl, hL5, hL7, hltI, hlv, hw]
    exact ⟨_, by omega, j + 1, by omega, rfl, by omega, next hc⟩
  | true =>
  have hcl := fun lim => hcl (a.sp j) (b.sp j) lim
  have hcc : claM a b (j : Int) = (a.sp j).cla (b.sp j) := by unfold claM; rw [hlv]; rfl
  cases hc : (a.sp j).cla (b.sp j) with
  | false =>
    rw [hc] at hcc hcl
    simp [ctLoop, SC.loops, sf_lanes_traffic_clashes, f1, f3, f4, f5, f6, f7, f10, f11, f12, f34, f35, fL, fH, fl, hL5, hL7, hltI, hlv, sp1, sp2, hcl, hw]
    exact ⟨_, by omega, j + 1, by omega, rfl, by omega, next hcc⟩
  | true =>
    rw [hc] at hcc hcl
    have hf : firstC T a b = some j := by
      unfold firstC
      rw [List.find?_eq_some_iff_getElem]
      refine ⟨hcc, j, by simpa using hlt, by simp, fun m hm => ?_⟩
      rw [List.getElem_range, et m hm]
      rfl
    have happ : trips l ++ [.int .i64 (i : Nat), .int .i64 (k : Nat), .int .i64 (j : Nat)] = trips (l ++ [(i, k, j)]) := by simp [trips]
    have hle := hA.le
    have hm1 : 1 ≤ maxA := by decide
    rw [hf]
    rcases hv with ⟨rfl, rfl⟩ | ⟨hne, bb, hb0, rfl, hbA⟩
    · simp [-oneC, oneC_slice, oneC_int, ctLoop, SC.loops, sf_lanes_traffic_clashes, f1, f3, f4, f5, f6, f7, f10, f11, f12, f34, f35, fL, fH, fl, hL5, hL7, hltI, hlv, sp1, sp2, hcl, hm1, e4, e5, e6, hlim]
      refine ⟨hA.push _, .inr ⟨by simp, A.length + 1, by omega, by simp, ?_⟩⟩
      rw [List.getElem?_append_right (by omega), Nat.add_sub_cancel_left]
      simp [trips]
    · have hl0 : ¬ l.length = 0 := by simpa using hne
      have hmx : l.length + 1 ≤ maxA := Nat.le_trans (show _ ≤ 100001 by omega) (by decide)
      have hcA : ∀ L x, cellsAt L (A ++ x) ⟨bb, 0, none⟩ (l.length * 3) = some (trips l) := fun L x => by
        rw [← trips_length]; exact cellsAt_of (trips l) 0 fun m y hy => by simp only [hcell, Nat.zero_add]; rw [List.getElem?_append_left (List.getElem?_eq_some_iff.1 hbA).1, hbA]; exact hy
      have hbX := fun x => own_get hbA x
      have hsX := fun x y => own_set hbA x y
      have hcn : nlL (trips l) = true := nlL_trips l
      have hci := trips_length l
      have hbl : bb < A.length := (List.getElem?_eq_some_iff.1 hbA).1
      generalize hcl2 : trips l = cs at *
      simp [-oneC, oneC_slice, oneC_int, ctLoop, SC.loops, sf_lanes_traffic_clashes, f1, f3, f4, f5, f6, f7, f10, f11, f12, f34, f35, fL, fH, fl, hL5, hL7, hltI, hlv, sp1, sp2, hcl, hne, hl0, hmx, hcA, hbX, hsX, hcn, hci, hb0, e4, e5, e6, hlim]
      refine ⟨(hA.set hb0 _).push _, .inr ⟨by simp, A.length + 1, by omega, by simp, ?_⟩⟩
      rw [List.getElem?_append_right (by simp)]
      simp [happ]
end Go.Proofs.YthobfecblpnnnaaGreatDoor

/- Contracts of layer 6, the program: Clashes. -/
set_option linter.all false
namespace Go.Proofs.YthobfecblpnnnaaGreatDoor
open Go Go.RowKit

theorem oneC_bool6 (b : Bool) : oneC (.bool b) = true := by cases b <;> rfl

def mcLoop : SC := sf_lanes_traffic_clashes.body.loops.getD 1 .skip
def ocLoopC : SC := sf_lanes_traffic_clashes.body.loops.headD .skip

theorem pairC_eq {T : Nat} {ls : List Lg} {i k : Nat} (hi : i < ls.length) (hk : k < ls.length) : pairC T ls i k = oneM (firstC T ls[i] ls[k]) i k := by
  unfold pairC
  rw [List.getElem?_eq_getElem hi, List.getElem?_eq_getElem hk]
  rfl

set_option maxHeartbeats 2000000 in
theorem mc_loop (c : Ch) (hT : c.tide.length ≤ 60) (ls : List Lg) (hn : ls.length ≤ 12) (hin : LgsIn ls) (H : AH) (d s : Value) (ta : Option Addr) (tc : Nat) (va : Option Addr) (vc : Nat) (hv : LgIn H (.slice va ls.length vc) ls) {i : Nat} (hi : i < ls.length) (l : List (Nat × Nat × Nat)) (hl : l.length ≤ 5000) (S : St) (g5 : Nat) (sa : Value) (ca : CsIn H sa ls[i])
    (e1 : tget S.t 1 = .pointer (some ⟨1, 0, some 0⟩)) (e4 : tget S.t 4 = .int .i64 i) (e5 : tget S.t 5 = .pointer (some ⟨5, 0, some g5⟩)) (e6 : tget S.t 6 = .int .i64 ((i + 1 : Nat) : Int)) (hL1 : lget S.L 1 = some (0, .cells [.int .i64 c.w, .int .i64 c.h, d, .slice ta c.tide.length tc, s, .slice va ls.length vc])) (hL5 : lget S.L 5 = some (g5, .cells [.int .i64 ls[i].t0, .int .i64 ls[i].lv, .int .i64 ls[i].dr, .bool ls[i].tl, sa]))
    (hA : Aft H S.H) (hO : OwnW H.length S.H (tget S.t 3) l) (hlim : S.lim = H.length) :
    ∃ q, exL Tryz.prog pf (.loop mcLoop) S = some q ∧ q.1 = .exit 2 ∧ q.2.lim = S.lim ∧ Aft H q.2.H ∧ lget q.2.L 1 = lget S.L 1 ∧ tget q.2.t 1 = tget S.t 1 ∧ tget q.2.t 10 = tget S.t 10 ∧ tget q.2.t 11 = tget S.t 11 ∧ tget q.2.t 12 = tget S.t 12 ∧ OwnW H.length q.2.H (tget q.2.t 3) (l ++ clK c.tide.length ls i ls.length) := by
  refine loop_rule (I := fun n s' => ∃ k, i + 1 ≤ k ∧ k ≤ ls.length ∧ n = ls.length - k ∧ tget s'.t 1 = .pointer (some ⟨1, 0, some 0⟩) ∧ tget s'.t 4 = .int .i64 i ∧ tget s'.t 5 = .pointer (some ⟨5, 0, some g5⟩) ∧ tget s'.t 6 = .int .i64 k ∧ tget s'.t 10 = tget S.t 10 ∧ tget s'.t 11 = tget S.t 11 ∧ tget s'.t 12 = tget S.t 12 ∧ lget s'.L 1 = some (0, .cells [.int .i64 c.w, .int .i64 c.h, d, .slice ta c.tide.length tc, s, .slice va ls.length vc]) ∧ lget s'.L 5 = some (g5, .cells [.int .i64 ls[i].t0, .int .i64 ls[i].lv, .int .i64 ls[i].dr, .bool ls[i].tl, sa]) ∧ s'.lim = H.length ∧ Aft H s'.H ∧ OwnW H.length s'.H (tget s'.t 3) (l ++ clK c.tide.length ls i k)) ?_ (ls.length - (i + 1)) S
    ⟨i + 1, by omega, by omega, rfl, e1, e4, e5, e6, rfl, rfl, rfl, hL1, hL5, hlim, hA, by rw [clK_le _ _ _ _ (Nat.le_refl _), List.append_nil]; exact hO⟩
  rintro n s' ⟨k, hik, hk, rfl, f1, f4, f5, f6, f10, f11, f12, fL1, fL5, fl, fA, fO⟩
  obtain ⟨A, hAA⟩ : ∃ A, s'.H = A := ⟨_, rfl⟩
  rw [hAA] at fA fO
  by_cases hlt : k < ls.length
  rotate_left
  · have : k = ls.length := by omega
    subst this
    simp [-nextG, mcLoop, SC.loops, sf_lanes_traffic_clashes, f1, f4, f5, f6, f10, f11, f12, fL1, fl, hAA, e1, hL1, hlim]
    exact ⟨fA, fO⟩
  have hltI : (k : Int) < (ls.length : Int) := by omega
  have hw : IntKind.i64.wrap ((k : Int) + 1) = ((k + 1 : Nat) : Int) := by rw [wrap_i64 (by omega) (by omega)]; omega
  have hvA := hv.ext fA.ext
  obtain ⟨b1, o1, ac1, xa, xc, e, c0, c1, c2, c3, c4, hsl⟩ := hvA.sl.get hlt
  cases e
  have hmemi := List.getElem_mem hi
  have hmemk := List.getElem_mem hlt
  have hcl : (l ++ clK c.tide.length ls i k).length ≤ 100000 := by
    have := clK_len c.tide.length ls i k
    simp; omega
  have hkx : l ++ clK c.tide.length ls i (k + 1) = (l ++ clK c.tide.length ls i k) ++ oneM (firstC c.tide.length ls[i] ls[k]) i k := by
    simp only [clK]
    rw [if_pos (by omega), pairC_eq hi hlt, List.append_assoc]
  obtain ⟨b0, o0, ac0, ya, yc, e0', _, _, _, _, d4, dsl⟩ := hv.sl.get hlt
  cases e0'
  obtain ⟨q1, q2⟩ : ya = xa ∧ yc = xc := by
    have := hcell_ext (fun x => fA.ext _ x) d4
    rw [c4] at this
    cases this
    exact ⟨rfl, rfl⟩
  subst q1 q2
  have hct := ct_loop c.tide.length hT ls[i] ls[k] (hin _ hmemi) (hin _ hmemk) i k (by omega) (by omega) H A fA sa (.slice ya ls[k].cs.length yc) ca ⟨dsl, hv.cl _ hmemk⟩ (l ++ clK c.tide.length ls i k) hcl (tget s'.t 3) fO
  rw [← hkx] at hct
  simp only [hcell] at c0 c1 c2 c3 c4
  simp [-nextG, -Array.all_toList, -oneC, oneC_slice, oneC_int, oneC_bool6, mcLoop, SC.loops, sf_lanes_traffic_clashes, f1, f4, f5, f6, f10, f11, f12, fL1, fL5, fl, hAA, hlt, hltI, c0, c1, c2, c3, c4]
  generalize hS2 : ({ t := _, L := _, H := _, lim := _, rd := _ } : St) = S2
  obtain ⟨⟨e, s2⟩, hr2, g1, g2, g3, g4, g5', g6, g7, g8, g9, g10, g11, g12⟩ := hct S2 g5 (nextG s'.L 7) (by subst hS2; simp) (by subst hS2; simp [f4]) (by subst hS2; simp [f5]) (by subst hS2; simp [f6]) (by subst hS2; simp) (by subst hS2; simp) (by subst hS2; simp) (by subst hS2; simp [fL5]) (by subst hS2; simp) (by subst hS2; rfl) (by subst hS2; simp [fl])
  simp [ctLoop, SC.loops, sf_lanes_traffic_clashes] at hr2
  rw [hr2]
  simp only at g1 g2 g3 g4 g5' g6 g7 g8 g9 g10 g11 g12
  have z1 : tget S2.t 1 = .pointer (some ⟨1, 0, some 0⟩) := by subst hS2; simp [f1]
  have z4 : tget S2.t 4 = .int .i64 i := by subst hS2; simp [f4]
  have z5 : tget S2.t 5 = .pointer (some ⟨5, 0, some g5⟩) := by subst hS2; simp [f5]
  have z6 : tget S2.t 6 = .int .i64 k := by subst hS2; simp [f6]
  have z10 : tget S2.t 10 = tget S.t 10 := by subst hS2; simp [f10]
  have z11 : tget S2.t 11 = tget S.t 11 := by subst hS2; simp [f11]
  have z12 : tget S2.t 12 = tget S.t 12 := by subst hS2; simp [f12]
  have zL1 : lget S2.L 1 = some (0, .cells [.int .i64 c.w, .int .i64 c.h, d, .slice ta c.tide.length tc, s, .slice (some ⟨b1, o1, none⟩) ls.length vc]) := by subst hS2; simp [fL1]
  have zL5 : lget S2.L 5 = some (g5, .cells [.int .i64 ls[i].t0, .int .i64 ls[i].lv, .int .i64 ls[i].dr, .bool ls[i].tl, sa]) := by subst hS2; simp [fL5]
  have zl : S2.lim = H.length := by subst hS2; simp [fl]
  rcases g11 with rfl | rfl
  · simp [-Int.natCast_add, g1, g2, g4, g5', g6, g7, g8, g9, g10, z1, z4, z5, z6, z10, z11, z12, zL1, zL5, zl, hw, and_assoc]
    exact ⟨_, by omega, k + 1, by omega, by omega, rfl, rfl, g3, g12⟩
  · simp [-Int.natCast_add, g1, g2, g4, g5', g6, g7, g8, g9, g10, z1, z4, z5, z6, z10, z11, z12, zL1, zL5, zl, hw, and_assoc]
    exact ⟨_, by omega, k + 1, by omega, by omega, rfl, rfl, g3, g12⟩

set_option maxHeartbeats 2000000 in
theorem run_clashes (c : Ch) (hT : c.tide.length ≤ 60) (ls : List Lg) (hn : ls.length ≤ 12) (hin : LgsIn ls) (H : AH) (d t s v : Value) (hc : ChIn H c d t s) (hv : LgIn H v ls) (lim : Nat) :
    ∃ r A, apL Tryz.prog pf (.func (.func 47) #[] #[]) [trV c d t s v] lim H = some (r, A) ∧ Aft H A ∧ OwnW H.length A r (clashesM c.tide.length ls) := by
  rw [apL_func _ _ _ _ _ _ (by rfl), sf_lanes_traffic_clashes_eq]
  obtain ⟨va, vc, ev⟩ := hv.sl.one
  obtain ⟨⟨da, dc, ed, _⟩, ⟨ta, tc, et, _⟩, ⟨sa, sc, es, _⟩, _, _, _⟩ := hc
  subst ev
  simp [-nextG, sf_lanes_traffic_clashes, trV, ed, et, es, pf_pure, pureF]
  generalize hS : ({ t := _, L := _, H := _, lim := _, rd := _ } : St) = S
  have key : ∃ q, exL Tryz.prog pf (.loop ocLoopC) S = some q ∧ q.1 = .exit 0 ∧ Aft H q.2.H ∧ OwnW H.length q.2.H (tget q.2.t 3) (clashesM c.tide.length ls) := by
    refine loop_rule (I := fun n s' => ∃ i, i ≤ ls.length ∧ n = ls.length - i ∧ tget s'.t 1 = .pointer (some ⟨1, 0, some 0⟩) ∧ tget s'.t 10 = .slice va ls.length vc ∧ tget s'.t 11 = .int .i64 ls.length ∧ tget s'.t 12 = .int .i64 i ∧ lget s'.L 1 = some (0, .cells [.int .i64 c.w, .int .i64 c.h, d, .slice ta c.tide.length tc, s, .slice va ls.length vc]) ∧ s'.lim = H.length ∧ Aft H s'.H ∧ OwnW H.length s'.H (tget s'.t 3) (clI c.tide.length ls i)) ?_ ls.length S
      ⟨0, by omega, by omega, by subst hS; simp, by subst hS; simp, by subst hS; simp, by subst hS; simp, by subst hS; simp [ed, et, es], by subst hS; rfl, by subst hS; exact Aft.refl H, .inl ⟨rfl, by subst hS; simp⟩⟩
    rintro n s' ⟨i, hi, rfl, f1, f10, f11, f12, fL1, fl, fA, fO⟩
    obtain ⟨A, hAA⟩ : ∃ A, s'.H = A := ⟨_, rfl⟩
    rw [hAA] at fA fO
    by_cases hlt : i < ls.length
    rotate_left
    · have : i = ls.length := by omega
      subst this
      simp [-nextG, ocLoopC, SC.loops, sf_lanes_traffic_clashes, f1, f10, f11, f12, hAA]
      exact ⟨fA, fO⟩
    have hltI : (i : Int) < (ls.length : Int) := by omega
    have hw : IntKind.i64.wrap ((i : Int) + 1) = ((i + 1 : Nat) : Int) := by rw [wrap_i64 (by omega) (by omega)]; omega
    have hvA := hv.ext fA.ext
    obtain ⟨b1, o1, ac1, xa, xc, e, c0, c1, c2, c3, c4, hsl⟩ := hvA.sl.get hlt
    cases e
    obtain ⟨b0, o0, ac0, ya, yc, e0', _, _, _, _, d4, dsl⟩ := hv.sl.get hlt
    cases e0'
    obtain ⟨q1, q2⟩ : ya = xa ∧ yc = xc := by
      have := hcell_ext (fun x => fA.ext _ x) d4
      rw [c4] at this
      cases this
      exact ⟨rfl, rfl⟩
    subst q1 q2
    have hmem := List.getElem_mem hlt
    have hll : (clI c.tide.length ls i).length ≤ 5000 := by
      have h1 := clI_len c.tide.length ls i
      have h2 : i * ls.length ≤ 12 * 12 := Nat.mul_le_mul (by omega) hn
      omega
    have hmc := mc_loop c hT ls hn hin H d s ta tc _ vc hv hlt (clI c.tide.length ls i) hll
    simp only [hcell] at c0 c1 c2 c3 c4
    simp [-nextG, -Int.natCast_add, -Array.all_toList, -oneC, oneC_slice, oneC_int, oneC_bool6, ocLoopC, SC.loops, sf_lanes_traffic_clashes, f1, f10, f11, f12, fL1, fl, hAA, hlt, hltI, c0, c1, c2, c3, c4, hw]
    generalize hS2 : ({ t := _, L := _, H := _, lim := _, rd := _ } : St) = S2
    obtain ⟨⟨e, s2⟩, hr2, g1, g2, g3, g4, g5, g6, g7, g8, g9⟩ := hmc S2 (nextG s'.L 5) (.slice ya ls[i].cs.length yc) ⟨dsl, hv.cl _ hmem⟩ (by subst hS2; simp [f1]) (by subst hS2; simp) (by subst hS2; simp) (by subst hS2; simp) (by subst hS2; simp [fL1]) (by subst hS2; simp) (by subst hS2; exact fA) (by subst hS2; simpa using fO) (by subst hS2; simp [fl])
    simp [mcLoop, SC.loops, sf_lanes_traffic_clashes] at hr2
    rw [hr2]
    simp only at g1 g2 g3 g4 g5 g6 g7 g8 g9
    subst g1
    have z1 : tget S2.t 1 = .pointer (some ⟨1, 0, some 0⟩) := by subst hS2; simp [f1]
    have z10 : tget S2.t 10 = .slice (some ⟨b1, o1, none⟩) ls.length vc := by subst hS2; simp [f10]
    have z11 : tget S2.t 11 = .int .i64 ls.length := by subst hS2; simp [f11]
    have z12 : tget S2.t 12 = .int .i64 i := by subst hS2; simp [f12]
    have zL1 : lget S2.L 1 = some (0, .cells [.int .i64 c.w, .int .i64 c.h, d, .slice ta c.tide.length tc, s, .slice (some ⟨b1, o1, none⟩) ls.length vc]) := by subst hS2; simp [fL1]
    have zl : S2.lim = H.length := by subst hS2; simp [fl]
    simp [-Int.natCast_add, g2, g4, g5, g6, g7, g8, z1, z10, z11, z12, zL1, zl, hw, and_assoc]
    exact ⟨_, by omega, i + 1, by omega, rfl, rfl, g3, g9⟩
  obtain ⟨⟨e, s1⟩, hr, q1, q2, q3⟩ := key
  simp [ocLoopC, SC.loops, sf_lanes_traffic_clashes] at hr
  rw [hr]
  simp only at q1 q2 q3
  subst q1
  simp [q3.nl]
  cases hsv : Go.Proofs.YthobfecblpnnnaaGreatDoor.sca (tget s1.t 3)
  · simp [hsv]
    exact ⟨_, _, ⟨rfl, rfl⟩, q2, q3⟩
  · obtain ⟨h1, h2⟩ := q3.sca hsv
    simp [hsv]
    exact ⟨_, _, ⟨rfl, rfl⟩, Aft.refl H, .inl ⟨h1, h2⟩⟩

noncomputable def lclS (c : Ch) (ls : List Lg) : List (Nat × Nat × Nat) := if legE c ls = 0 then clashesM c.tide.length ls else []

theorem run_Clashes (c : Ch) (ls : List Lg) (H : AH) (d t s v : Value) (hc : ChIn H c d t s) (hv : LgIn H v ls) (lim : Nat) :
    ∃ r A, apL Tryz.prog pf (.func (.func 18) #[] #[]) [chV c d t s, v] lim H = some (.tuple #[r, .int .i64 (legE c ls)], A) ∧ Aft H A ∧ OwnW H.length A r (lclS c ls) := by
  rw [apL_func _ _ _ _ _ _ (by rfl), sf_lanes_Clashes_eq]
  have hO := fun lim => run_lopen c ls H d t s v hc hv lim
  by_cases h0 : legE c ls = 0
  rotate_left
  · have e2 : lclS c ls = [] := by unfold lclS; rw [if_neg h0]
    have h0' : (legE c ls != 0) = true := by simpa using h0
    refine ⟨.slice none 0 0, H, ?_, Aft.refl H, .inl ⟨e2, rfl⟩⟩
    obtain ⟨va, vc, ev⟩ := hv.sl.one
    obtain ⟨⟨da, dc, ed, _⟩, ⟨ta, tc, et, _⟩, ⟨sa, sc, es, _⟩, _, _, _⟩ := hc
    simp only [chV, noTr, ed, et, es, ev, h0, if_false] at hO
    simp [sf_lanes_Clashes, chV, ed, et, es, ev, hO, h0', pf_pure, pureF]
  obtain ⟨hok, hl12, hall⟩ := legE_zero.1 h0
  have hT : c.tide.length ≤ 60 := hok.2.2.2.1.2
  obtain ⟨r, A, hF, hA, hOw⟩ := run_clashes c hT ls hl12 (lgsIn_of hok hall) H d t s v hc hv H.length
  have e2 : lclS c ls = clashesM c.tide.length ls := by unfold lclS; rw [if_pos h0]
  have hnl := hOw.nl
  obtain ⟨ra, rc, er⟩ := hOw.one
  obtain ⟨va, vc, ev⟩ := hv.sl.one
  obtain ⟨⟨da, dc, ed, _⟩, ⟨ta, tc, et, _⟩, ⟨sa, sc, es, _⟩, _, _, _⟩ := hc
  simp only [chV, trV, ed, et, es, ev, h0, if_true] at hO hF
  rw [e2]
  cases hsv : Go.Proofs.YthobfecblpnnnaaGreatDoor.sca r with
  | false =>
    refine ⟨r, A, ?_, hA, hOw⟩
    subst er
    have hst : Go.Proofs.YthobfecblpnnnaaGreatDoor.sca (.tuple #[.slice ra (clashesM c.tide.length ls).length rc, .int .i64 0]) = false := by
      rw [sca_tup6]
      simp only [scaL, hsv, Bool.false_and]
    simp [-Go.Proofs.YthobfecblpnnnaaGreatDoor.sca, sf_lanes_Clashes, chV, ed, et, es, ev, hO, hF, h0, hsv, hst, pf_pure, pureF]
  | true =>
    obtain ⟨h1, h2⟩ := hOw.sca hsv
    refine ⟨r, H, ?_, Aft.refl H, .inl ⟨h1, h2⟩⟩
    subst h2
    simp only [h1, List.length_nil] at er
    simp [sf_lanes_Clashes, chV, ed, et, es, ev, hO, hF, h0, pf_pure, pureF]
end Go.Proofs.YthobfecblpnnnaaGreatDoor
