/- Contracts of the functions, in the abstract machine: Passage. -/
import Derived.Test.YtojplagenejhdaaDoorPsgB
import Derived.Test.YtojplagenejhdaaDoorMovA
set_option linter.all false
namespace Go.Proofs.YtojplagenejhdaaDoor
open Go Go.RowKit

/-- The passage back from a cell. -/
def psgT (c : Ch) (g : Int) (cell tick j to : Nat) : Nat → Nat
  | 0 => to
  | q + 1 => (befN c.w c.h (rowP c g cell tick 1 (j - 1 - q)) (psgT c g cell tick j to q) 6).toNat

theorem psgT_step {c : Ch} (hok : ChOk c) {g : Int} {cell tick j to q : Nat} (hq : q < j) (h : Reach c g cell tick 1 (j - q) (psgT c g cell tick j to q)) :
    befN c.w c.h (rowP c g cell tick 1 (j - 1 - q)) (psgT c g cell tick j to q) 6 = psgT c g cell tick j to (q + 1) ∧ nigh c (psgT c g cell tick j to q) (psgT c g cell tick j to (q + 1)) ∧ Reach c g cell tick 1 (j - 1 - q) (psgT c g cell tick j to (q + 1)) ∧
      ∀ y, nigh c (psgT c g cell tick j to q) y → Reach c g cell tick 1 (j - 1 - q) y → psgT c g cell tick j to (q + 1) ≤ y := by
  rw [show j - q = j - 1 - q + 1 by omega] at h
  obtain ⟨hi, _, h⟩ := (reach_succ hok).1 h
  have key : ∀ y, nigh c (psgT c g cell tick j to q) y → Reach c g cell tick 1 (j - 1 - q) y → ∃ n : Nat, befN c.w c.h (rowP c g cell tick 1 (j - 1 - q)) (psgT c g cell tick j to q) 6 = n ∧ n < c.cells ∧ nigh c (psgT c g cell tick j to q) n ∧ 0 ≤ (rowP c g cell tick 1 (j - 1 - q)).getD n 0 ∧ n ≤ y :=
    fun y hy hr => befN_get hok (rowP_len ..) hi hr.1 hy hr.2
  have e : psgT c g cell tick j to (q + 1) = (befN c.w c.h (rowP c g cell tick 1 (j - 1 - q)) (psgT c g cell tick j to q) 6).toNat := rfl
  have ex : ∃ y, nigh c (psgT c g cell tick j to q) y ∧ Reach c g cell tick 1 (j - 1 - q) y := by
    rcases h with h | ⟨k, i', hk, e, h⟩
    · exact ⟨_, .inl rfl, h⟩
    · exact ⟨i', .inr ⟨k, hk, e⟩, h⟩
  obtain ⟨y, hy, hr⟩ := ex
  obtain ⟨n, e1, e2, e3, e4, _⟩ := key y hy hr
  rw [e1, Int.toNat_natCast] at e
  rw [e]
  refine ⟨e1, e3, ⟨e2, e4⟩, fun y hy hr => ?_⟩
  obtain ⟨n', e1', _, _, _, e5'⟩ := key y hy hr
  have : n' = n := by rw [e1] at e1'; omega
  omega

theorem psgT_reach {c : Ch} (hok : ChOk c) {g : Int} {cell tick j to : Nat} (h : Reach c g cell tick 1 j to) : ∀ q, q ≤ j → Reach c g cell tick 1 (j - q) (psgT c g cell tick j to q)
  | 0, _ => h
  | q + 1, hq => by
    have := (psgT_step hok (show q < j by omega) (psgT_reach hok h q (by omega))).2.2.1
    rwa [show j - 1 - q = j - (q + 1) by omega] at this

def psgAsg : SC := match sf_chart_Passage.body with | .seq _ (.seq _ (.seq _ (.seq _ (.seq (.seq _ (.block _ (.rng _ _ a _))) _)))) => a | _ => .skip
def psgOps : SC := match sf_chart_Passage.body with | .seq _ (.seq _ (.seq _ (.seq _ (.seq (.seq _ (.block _ (.rng _ _ _ (.block _ (.seq a _))))) _)))) => a | _ => .skip
def psgRest : SC := match sf_chart_Passage.body with | .seq _ (.seq _ (.seq _ (.seq _ (.seq (.seq _ (.block _ (.rng _ _ _ (.block _ (.seq _ b))))) _)))) => b | _ => .skip
def psgBody : SC := .block 1 (.seq psgOps psgRest)
def psgR (T : TS) (L : LS) (lim : Nat) : ARec := ⟨0, none, T, L, lim, [35, 36], psgAsg, psgBody⟩

/-- The list of rows before it is appended to. -/
def OldP (X : AH) (v : Value) (j lim : Nat) (cs : List Value) (Y : AH) : Prop :=
  (j = 0 ∧ v = .slice none 0 0 ∧ cs = [] ∧ Y = X) ∨ (0 < j ∧ ∃ pb, v = .slice (some ⟨pb, 0, none⟩) j (j + 1) ∧ X[pb]? = some (.rw 1 cs) ∧ lim ≤ pb ∧ Y = X.set pb .dead)

theorem psg_app (N : Nat) (X : AH) (T : TS) (L : LS) (lim : Nat) (rd : Option Nat) (b j : Nat) (hj : j ≤ 1000) (v : Value) (cs : List Value) (Y : AH) (hcl : cs.length = j) (hcn : nlL cs = true) (hold : OldP X v j lim cs Y)
    (h16 : tget T 16 = .slice (some ⟨b, 0, none⟩) N N) (h14 : tget T 14 = .pointer (some ⟨14, 0, some 0⟩)) (l14 : lget L 14 = some (0, .cells [v])) :
    ∃ s', exL Tryd.prog pf psgOps ⟨T, L, X, lim, rd⟩ = some (.normal, s') ∧ s'.lim = lim ∧ s'.rd = rd ∧ s'.H = Y ++ [.rw 1 [.slice (some ⟨b, 0, none⟩) N N], .rw 1 (cs ++ [.slice (some ⟨b, 0, none⟩) N N])] ∧
      lget s'.L 14 = some (0, .cells [.slice (some ⟨X.length + 1, 0, none⟩) (j + 1) (j + 2)]) ∧ lget s'.L 9 = lget L 9 ∧ lget s'.L 10 = lget L 10 ∧ lget s'.L 11 = lget L 11 ∧ lget s'.L 12 = lget L 12 ∧
      tget s'.t 9 = tget T 9 ∧ tget s'.t 10 = tget T 10 ∧ tget s'.t 11 = tget T 11 ∧ tget s'.t 12 = tget T 12 ∧ tget s'.t 14 = tget T 14 ∧ tget s'.t 16 = tget T 16 := by
  have hmx : j + 1 ≤ maxA := Nat.le_trans (show j + 1 ≤ 2000 by omega) (by decide)
  rcases hold with ⟨rfl, rfl, rfl, rfl⟩ | ⟨hj0, pb, rfl, hpb, hlim, rfl⟩
  · have hmx : 1 ≤ maxA := by decide
    simp [-oneC, oneC_slice, psgOps, sf_chart_Passage, h16, h14, l14, hmx]
  · have hpl : pb < X.length := (List.getElem?_eq_some_iff.1 hpb).1
    have hcA : ∀ L x, cellsAt L (X ++ x) ⟨pb, 0, none⟩ j = some cs := fun L x => by
      rw [← hcl]
      refine cellsAt_of cs 0 fun i y hy => ?_
      simp only [hcell, Nat.zero_add]
      rw [List.getElem?_append_left hpl, hpb]
      exact hy
    have hpX : ∀ x : AH, (X ++ x)[pb]? = some (.rw 1 cs) := fun x => by rw [List.getElem?_append_left hpl, hpb]
    have hj1 : ¬ j = 0 := by omega
    have hsX : ∀ x y : AH, (X ++ x).set pb .dead ++ y = X.set pb .dead ++ (x ++ y) := fun x y => by rw [List.set_append_left _ _ hpl, List.append_assoc]
    simp [-oneC, oneC_slice, psgOps, sf_chart_Passage, h16, h14, l14, hmx, hcA, hpX, hj1, hcn, hlim, hcl, hsX]

/-- The rows that have been laid by. -/
def Rows (c : Ch) (g : Int) (cell tick : Nat) (A : AH) (n j : Nat) (v : Value) (cs : List Value) : Prop :=
  cs.length = j ∧ nlL cs = true ∧ ((j = 0 ∧ v = .slice none 0 0) ∨ (0 < j ∧ ∃ pb, v = .slice (some ⟨pb, 0, none⟩) j (j + 1) ∧ A[pb]? = some (.rw 1 cs) ∧ n + 5 ≤ pb ∧
    ∀ m, m < j → ∃ bm, cs[m]? = some (.slice (some ⟨bm, 0, none⟩) c.cells c.cells) ∧ bm ≠ pb ∧ n + 5 ≤ bm ∧ A[bm]? = some (.rw 1 (ints (rowP c g cell tick 1 m)))))

def PsgI (c : Ch) (H : AH) (d t s : Value) (g : Int) (cell tick to lim : Nat) (T : TS) (j : Nat) (A : AH) : Prop :=
  (∀ m, m < j → ¬ 0 ≤ (rowP c g cell tick 1 m).getD to 0) ∧ ∃ (L : LS) (J : AH) (v : Value) (cs : List Value), A = H ++ (psB c d t s g cell tick 1 (.loop (psgR T L lim)) ++ J) ∧ lget L 14 = some (0, .cells [v]) ∧ lget L 9 = some (0, .cells [.int .i64 to]) ∧ lget L 10 = some (0, .cells [.slice none 0 0]) ∧ lget L 11 = some (0, .cells [.int .i64 0]) ∧
    lget L 12 = some (0, .cells [.int .i64 c.w, .int .i64 c.h, d, t, s, .int .i64 g]) ∧ Rows c g cell tick A H.length j v cs
def PsgF (c : Ch) (H : AH) (d t s : Value) (g : Int) (cell tick to lim : Nat) (T : TS) (M : Nat) (A : AH) : Prop :=
  ∃ (j b : Nat) (L' : LS) (J : AH), j < M ∧ (∀ m, m < j → ¬ 0 ≤ (rowP c g cell tick 1 m).getD to 0) ∧ 0 ≤ (rowP c g cell tick 1 j).getD to 0 ∧ A = H ++ (psB c d t s g cell tick 1 (.loop { psgR T L' lim with st := 2, pend := some .ret }) ++ J) ∧ H.length + 4 < b ∧ A[b]? = some (.rw 1 (ints (trT (psgT c g cell tick j to) (j + 1)))) ∧
    lget L' 10 = some (0, .cells [.slice (some ⟨b, 0, none⟩) (j + 1) (j + 1)]) ∧ lget L' 11 = some (0, .cells [.int .i64 0])

theorem get_J (H B J : AH) {n k : Nat} (hB : B.length = n) (hk : H.length + n ≤ k) : (H ++ (B ++ J))[k]? = J[k - H.length - n]? := by
  rw [List.getElem?_append_right (by omega), List.getElem?_append_right (by omega)]
  congr 1
  omega
theorem set_J (H B J : AH) {n k : Nat} (hB : B.length = n) (hk : H.length + n ≤ k) (x : ABlk) : (H ++ (B ++ J)).set k x = H ++ (B ++ J.set (k - H.length - n) x) := by
  rw [List.set_append_right _ _ (by omega), List.set_append_right _ _ (by omega)]
  congr 3
  omega

set_option maxHeartbeats 2000000 in
theorem psg_C (c : Ch) (hok : ChOk c) (H : AH) (hG : H[waysG]? = some (.ro waysV)) (d t s : Value) (hc : ChIn H c d t s) (g : Int) {cell tick to : Nat} (hto : to < c.cells) (M lim : Nat) (hM : M ≤ 900) (hlim : lim ≤ H.length) (T : TS)
    (h9 : tget T 9 = .pointer (some ⟨9, 0, some 0⟩)) (h10 : tget T 10 = .pointer (some ⟨10, 0, some 0⟩)) (h11 : tget T 11 = .pointer (some ⟨11, 0, some 0⟩)) (h12 : tget T 12 = .pointer (some ⟨12, 0, some 0⟩)) (h14 : tget T 14 = .pointer (some ⟨14, 0, some 0⟩)) :
    PsC c d t s g cell tick 1 M H.length lim (.func (.yield (H.length + 4)) #[] #[]) (PsgI c H d t s g cell tick to lim T) (PsgF c H d t s g cell tick to lim T M) := by
  refine ⟨fun j A hA => ?_, fun j A X hA => ?_, fun j A b hj hA hb hbA => ?_⟩
  · obtain ⟨_, L, J, v, cs, rfl, _⟩ := hA
    have gg := fun k hk => near_get H (psB c d t s g cell tick 1 (.loop (psgR T L lim))) J k hk
    exact ⟨gg 0 (by simp [psB]), gg 1 (by simp [psB]), gg 2 (by simp [psB]), gg 3 (by simp [psB]), hc.ext (Ext.push H _), hG_ext _ hG, by simp [psB] <;> omega, by simp [psB] <;> omega⟩
  · obtain ⟨hu, L, J, v, cs, e, k14, k9, k10, k11, k12, r1, r2, r3⟩ := hA
    refine ⟨hu, L, J ++ X, v, cs, by rw [e]; simp [List.append_assoc], k14, k9, k10, k11, k12, r1, r2, ?_⟩
    rcases r3 with r3 | ⟨r3, pb, r4, r5, r6, r7⟩
    · exact .inl r3
    · refine .inr ⟨r3, pb, r4, Ext.push A X _ _ r5, r6, fun m hm => ?_⟩
      obtain ⟨bm, s1, s2, s3, s4⟩ := r7 m hm
      exact ⟨bm, s1, s2, s3, Ext.push A X _ _ s4⟩
  · obtain ⟨hu, L, J, v, cs, eA, k14, k9, k10, k11, k12, r1, r2, r3⟩ := hA
    obtain ⟨B, hB⟩ : ∃ B, B = psB c d t s g cell tick 1 (.loop (psgR T L lim)) := ⟨_, rfl⟩
    have hBl : B.length = 5 := by rw [hB]; rfl
    rw [← hB] at eA
    have hsetA : A.set (H.length + 4) (.loop { psgR T L lim with st := 1, L := [] }) = H ++ (B.set 4 (.loop { psgR T L lim with st := 1, L := [] }) ++ J) := by rw [eA, near_set _ _ _ _ (by omega)]
    have g4 : A[H.length + 4]? = some (.loop (psgR T L lim)) := by rw [eA, near_get _ _ _ _ (by omega), hB]; rfl
    obtain ⟨tk, htk⟩ : ∃ tk : Int, (tick : Int) + (j : Int) * 1 = tk := ⟨_, rfl⟩
    have ha : ∀ Y, exL Tryd.prog pf psgAsg ⟨([35, 36].zip [Value.int .i64 tk, .slice (some ⟨b, 0, none⟩) c.cells c.cells]).reverse ++ T, L, Y, lim, some (H.length + 4)⟩ = some (.normal, ⟨(16, .slice (some ⟨b, 0, none⟩) c.cells c.cells) :: (36, .slice (some ⟨b, 0, none⟩) c.cells c.cells) :: (35, .int .i64 tk) :: T, L, Y, lim, some (H.length + 4)⟩) := fun Y => by
      simp [psgAsg, sf_chart_Passage]
    obtain ⟨X, hX⟩ : ∃ X, X = H ++ (B.set 4 (.loop { psgR T L lim with st := 1, L := [] }) ++ J) := ⟨_, rfl⟩
    have hBs : (B.set 4 (.loop { psgR T L lim with st := 1, L := [] })).length = 5 := by simp [hBl]
    have hXA : ∀ k, H.length + 4 < k → X[k]? = A[k]? := fun k hk => by rw [hX, eA, get_J _ _ _ hBs (by omega), get_J _ _ _ hBl (by omega)]
    have hXl : X.length = A.length := by rw [hX, eA]; simp
    have g4' : X[H.length + 4]? = some (.loop { psgR T L lim with st := 1, L := [] }) := by rw [hX, near_get _ _ _ _ (by omega), List.getElem?_set_self (by omega)]
    have hXb : X[b]? = some (.rw 1 (ints (rowP c g cell tick 1 j))) := by rw [hXA b (by omega), hbA]
    have hbl : b < X.length := (List.getElem?_eq_some_iff.1 hXb).1
    rw [htk]
    -- the row is laid by
    have hY : ∃ Y J', OldP X v j lim cs Y ∧ Y = H ++ (B.set 4 (.loop { psgR T L lim with st := 1, L := [] }) ++ J') ∧ J'.length = J.length ∧ (∀ k, (∀ pb n m, v = .slice (some ⟨pb, 0, none⟩) n m → k ≠ pb) → Y[k]? = X[k]?) := by
      rcases r3 with ⟨r3, r4⟩ | ⟨r3, pb, r4, r5, r6, r7⟩
      · refine ⟨X, J, .inl ⟨r3, r4, List.eq_nil_of_length_eq_zero (by omega), rfl⟩, hX, rfl, fun _ _ => rfl⟩
      · refine ⟨X.set pb .dead, J.set (pb - H.length - 5) .dead, .inr ⟨r3, pb, r4, by rw [hXA pb (by omega), r5], by omega, rfl⟩, by rw [hX, set_J _ _ _ hBs (by omega)], by simp, fun k hk => ?_⟩
        have := hk pb _ _ r4
        rw [List.getElem?_set_ne (fun e => this e.symm)]
    obtain ⟨Y, J', hold, eY, hJ', hYX⟩ := hY
    have hYl : Y.length = X.length := by rw [eY, hX]; simp [hJ']
    obtain ⟨s1, w1, wl, wr, wH, m14, m9, m10, m11, m12, t9, t10, t11, t12, t14, t16⟩ := psg_app c.cells X ((16, .slice (some ⟨b, 0, none⟩) c.cells c.cells) :: (36, .slice (some ⟨b, 0, none⟩) c.cells c.cells) :: (35, .int .i64 tk) :: T) L lim (some (H.length + 4)) b j (by omega) v cs Y r1 r2 hold (by simp) (by simp [h14]) k14
    simp only [tget] at t9 t10 t11 t12 t14 t16
    have t9 : tget s1.t 9 = .pointer (some ⟨9, 0, some 0⟩) := by rw [t9]; simp [h9]
    have t10 : tget s1.t 10 = .pointer (some ⟨10, 0, some 0⟩) := by rw [t10]; simp [h10]
    have t11 : tget s1.t 11 = .pointer (some ⟨11, 0, some 0⟩) := by rw [t11]; simp [h11]
    have t12 : tget s1.t 12 = .pointer (some ⟨12, 0, some 0⟩) := by rw [t12]; simp [h12]
    have t14 : tget s1.t 14 = .pointer (some ⟨14, 0, some 0⟩) := by rw [t14]; simp [h14]
    have t16 : tget s1.t 16 = .slice (some ⟨b, 0, none⟩) c.cells c.cells := by rw [t16]; simp
    rw [k9] at m9
    rw [k10] at m10
    rw [k11] at m11
    rw [k12] at m12
    obtain ⟨cs', hcs'⟩ : ∃ cs', cs' = cs ++ [.slice (some ⟨b, 0, none⟩) c.cells c.cells] := ⟨_, rfl⟩
    rw [← hcs'] at wH
    obtain ⟨Z, hZ⟩ : ∃ Z, Z = Y ++ [.rw 1 [.slice (some ⟨b, 0, none⟩) c.cells c.cells], .rw 1 cs'] := ⟨_, rfl⟩
    rw [← hZ] at wH
    have hcl' : cs'.length = j + 1 := by rw [hcs']; simp [r1]
    have hZp : Z[X.length + 1]? = some (.rw 1 cs') := by rw [hZ, ← hYl, List.getElem?_append_right (by omega)]; simp
    have hZY : ∀ k x, Y[k]? = some x → Z[k]? = some x := fun k x h => by rw [hZ]; exact Ext.push Y _ k x h
    have hbv : ∀ pb n m, v = .slice (some ⟨pb, 0, none⟩) n m → X[pb]? = some (.rw 1 cs) → b ≠ pb := fun pb n m e h e' => by
      subst e'
      rw [hXb] at h
      have h := Option.some.inj h
      simp only [ABlk.rw.injEq, true_and] at h
      rcases r3 with ⟨_, r4⟩ | ⟨r3, pb, r4, r5, r6, r7⟩
      · rw [r4] at e; cases e
      · obtain ⟨bm, s1, _⟩ := r7 0 r3
        rw [← h] at s1
        simp [ints] at s1
    have hZb : Z[b]? = some (.rw 1 (ints (rowP c g cell tick 1 j))) := by
      refine hZY _ _ ?_
      rw [hYX b fun pb n m e => hbv pb n m e ?_, hXb]
      rcases hold with ⟨_, e2, _⟩ | ⟨_, pb', e2, e3, _⟩
      · rw [e2] at e; cases e
      · rw [e2] at e; cases e; exact e3
    have hrow : ∀ m, m < j + 1 → ∃ bm, cs'[m]? = some (.slice (some ⟨bm, 0, none⟩) c.cells c.cells) ∧ bm ≠ X.length + 1 ∧ H.length + 5 ≤ bm ∧ Z[bm]? = some (.rw 1 (ints (rowP c g cell tick 1 m))) := fun m hm => by
      by_cases e : m = j
      · subst e
        refine ⟨b, ?_, by omega, by omega, hZb⟩
        rw [hcs', List.getElem?_append_right (by omega), r1]; simp
      · rcases r3 with ⟨r3, _⟩ | ⟨r3, pb, r4, r5, r6, r7⟩
        · omega
        · obtain ⟨bm, s1, s2, s3, s4⟩ := r7 m (by omega)
          have hX4 : X[bm]? = some (.rw 1 (ints (rowP c g cell tick 1 m))) := by rw [hXA bm (by omega), s4]
          have := (List.getElem?_eq_some_iff.1 hX4).1
          refine ⟨bm, by rw [hcs', List.getElem?_append_left (by omega), s1], by omega, s3, hZY _ _ ?_⟩
          rw [hYX bm fun pb' n m' e => ?_, hX4]
          rw [r4] at e; cases e; exact s2
    have hZl : Z.length = X.length + 2 := by rw [hZ]; simp [hYl]
    have eZ : Z = H ++ (B.set 4 (.loop { psgR T L lim with st := 1, L := [] }) ++ (J' ++ [.rw 1 [.slice (some ⟨b, 0, none⟩) c.cells c.cells], .rw 1 cs'])) := by rw [hZ, eY]; simp
    have g4Z : Z[H.length + 4]? = some (.loop { psgR T L lim with st := 1, L := [] }) := by rw [eZ, near_get _ _ _ _ (by omega), List.getElem?_set_self (by omega)]
    have hgi := ints_getE (rowP c g cell tick 1 j) to (by rw [rowP_len]; exact hto)
    have hto' : (to : Int) < c.cells := by omega
    have hAX : A.length ≤ X.length := by omega
    by_cases hr : 0 ≤ (rowP c g cell tick 1 j).getD to 0
    · -- found
      have hre : Reach c g cell tick 1 j to := ⟨hto, hr⟩
      have hZE : Ext H Z := by rw [eZ]; exact Ext.push H _
      obtain ⟨A2, y1, ⟨J2, y2⟩, y3⟩ := run_trace c hok lim Z (by rw [eZ]; exact hG_ext _ hG) d t s (hc.ext hZE) g (some ⟨X.length + 1, 0, none⟩) (j + 1) (j + 2) (by omega) (by omega) (rowP c g cell tick 1) (fun m hm => rowP_len ..) (fun m hm => by
          obtain ⟨bm, s1, s2, s3, s4⟩ := hrow m hm
          exact ⟨X.length + 1, 0, bm, rfl, by simp only [hcell, hZp, Nat.zero_add]; exact s1, s4⟩) (psgT c g cell tick j to) (fun q hq => (psgT_reach hok hre q (by omega)).1) (fun q i hqi => by
          have := (psgT_step hok (show q < j by omega) (psgT_reach hok hre q (by omega))).1
          rwa [show j - 1 - q = i by omega] at this)
      have y1 := fun lim => y1 lim
      obtain ⟨⟨da, dc, ed, _⟩, ⟨ta, tc, et, _⟩, ⟨sa, sc, es, _⟩, _, _, _⟩ := id hc
      have m12' := m12
      simp only [psgT, boV, ed, et, es] at y1 m12'
      have key : ∃ s', exL Tryd.prog pf psgBody ⟨(16, .slice (some ⟨b, 0, none⟩) c.cells c.cells) :: (36, .slice (some ⟨b, 0, none⟩) c.cells c.cells) :: (35, .int .i64 tk) :: T, L, X, lim, some (H.length + 4)⟩ = some (.ret, s') ∧ s'.H = A2 ∧ lget s'.L 10 = some (0, .cells [.slice (some ⟨Z.length, 0, none⟩) (j + 1) (j + 1)]) ∧ lget s'.L 11 = some (0, .cells [.int .i64 0]) := by
        unfold psgBody
        rw [exL_block, exL_seq, w1]
        generalize (rowP c g cell tick 1 j).getD to 0 = R at *
        generalize ints (rowP c g cell tick 1 j) = rs at *
        simp [psgRest, sf_chart_Passage, t9, t10, t11, t12, t14, t16, m9, m10, m11, m12', m14, wH, wl, wr, hZb, hto, hto', hgi, hr, y1]
      obtain ⟨s', z1, z2, z3, z4⟩ := key
      have g4A : A2[H.length + 4]? = some (.loop { psgR T L lim with st := 1, L := [] }) := by rw [y2]; exact Ext.push Z J2 _ _ g4Z
      have hy := yield_round (l := H.length + 4) (B := A) (r := psgR T L lim) (args := [.int .i64 tk, .slice (some ⟨b, 0, none⟩) c.cells c.cells]) (lim := lim) g4 rfl (Nat.le_refl _) (by omega) rfl ha (e := .ret) (s' := s') (by rw [hsetA, ← hX]; exact z1) (r2 := { psgR T L lim with st := 1, L := [] }) (by rw [z2]; exact g4A)
      refine ⟨_, _, hy, ?_, fun h => by simp at h, fun _ => ?_⟩
      · rw [z2, List.getElem?_set_ne (by omega), y2, Ext.push Z J2 _ _ hZb, hbA]
      · refine ⟨j, Z.length, s'.L, J' ++ [.rw 1 [.slice (some ⟨b, 0, none⟩) c.cells c.cells], .rw 1 cs'] ++ J2, hj, hu, hr, ?_, by omega, ?_, z3, z4⟩
        · rw [z2, y2, eZ, List.append_assoc, List.append_assoc, near_set _ _ _ _ (by omega), List.set_set, hB]
          simp [psB, psgR]
        · rw [z2, List.getElem?_set_ne (by omega), y3]
    · have key : ∃ s', exL Tryd.prog pf psgBody ⟨(16, .slice (some ⟨b, 0, none⟩) c.cells c.cells) :: (36, .slice (some ⟨b, 0, none⟩) c.cells c.cells) :: (35, .int .i64 tk) :: T, L, X, lim, some (H.length + 4)⟩ = some (.normal, s') ∧ s'.H = Z ∧ s'.L = s1.L := by
        unfold psgBody
        rw [exL_block, exL_seq, w1]
        generalize (rowP c g cell tick 1 j).getD to 0 = R at *
        generalize ints (rowP c g cell tick 1 j) = rs at *
        simp [psgRest, sf_chart_Passage, t9, t10, t11, t12, t14, t16, m9, m10, m11, m12, m14, wH, wl, wr, hZb, hto, hto', hgi, hr]
      obtain ⟨s', z1, z2, z3⟩ := key
      have hy := yield_round (l := H.length + 4) (B := A) (r := psgR T L lim) (args := [.int .i64 tk, .slice (some ⟨b, 0, none⟩) c.cells c.cells]) (lim := lim) g4 rfl (Nat.le_refl _) (by omega) rfl ha (e := .normal) (s' := s') (by rw [hsetA, ← hX]; exact z1) (r2 := { psgR T L lim with st := 1, L := [] }) (by rw [z2]; exact g4Z)
      refine ⟨_, _, hy, ?_, fun _ => ⟨fun m hm => ?_, s1.L, J' ++ [.rw 1 [.slice (some ⟨b, 0, none⟩) c.cells c.cells], .rw 1 cs'], _, cs', ?_, m14, m9, m10, m11, m12, hcl', by rw [hcs', nlL_append]; simp [r2], .inr ⟨by omega, X.length + 1, rfl, ?_, by omega, fun m hm => ?_⟩⟩, fun h => by simp at h⟩
      · rw [z2, List.getElem?_set_ne (by omega), hZb, hbA]
      · by_cases e : m = j
        · subst e; exact hr
        · exact hu m (by omega)
      · rw [z2, z3, eZ, near_set _ _ _ _ (by omega), List.set_set, hB]
        simp [psB, psgR]
      · rw [z2, List.getElem?_set_ne (by omega), hZp]
      · obtain ⟨bm, s1', s2, s3, s4⟩ := hrow m hm
        exact ⟨bm, s1', s2, s3, by rw [z2, List.getElem?_set_ne (by omega), s4]⟩
end Go.Proofs.YtojplagenejhdaaDoor
