/- Regions whose order is drawn: what holds after each operation, in whatever order. -/
import Derived.Test.YtjejcbiilimjkaaDoorAbsR
import Derived.Test.YtjejcbiilimjkaaDoorAbsM
import Derived.OrdersIn
namespace Go.Proofs.YtjejcbiilimjkaaDoor
open Go Go.RowKit

variable {P : Program} {B0 : Nat}

theorem cSOp_spec {nt : Nat} {ops : Array Oper} {oper : Oper} {so : SOp} (hc : cSOp P nt ops oper = some so) : so.op = cOp P oper ∧ so.dst = oper.dst ∧ oper.dst.all (· < nt) = true ∧ (so.guard = none → oper.guard = none) := by
  unfold cSOp at hc
  split at hc
  · rename_i hdst
    split at hc
    · rename_i hg; cases hc; exact ⟨rfl, rfl, hdst, fun _ => hg⟩
    · rename_i j wv hg
      simp only [Option.map_eq_some_iff] at hc
      obtain ⟨d, hd, rfl⟩ := hc
      exact ⟨rfl, rfl, hdst, fun e => by cases e⟩
  · cases hc

theorem cOp_some {oper : Oper} {so : SO} (h : cOp P oper = so) (hb : so ≠ .bad) (hn : so.isCall = false) : cOp? P oper = some so := by
  unfold cOp at h
  split at h
  · split at h
    · subst h; simp [SO.isCall] at hn
    · exact absurd h.symm hb
  · split at h
    · split at h
      · rename_i hc _; rw [hc, h]
      · exact absurd h.symm hb
    · exact absurd h.symm hb

theorem cOp_box {oper : Oper} {x : Operand} (h : cOp P oper = .box x) : ∃ e, oper.op = .box e x ∨ (oper.op = .alloc e ∧ ∃ z, x = .const z ∧ zeroOf P e = some z) := by
  have h := cOp_some h (by simp) rfl
  unfold cOp? at h
  split at h
  case h_5 e y hop => cases h; exact ⟨e, .inl hop⟩
  case h_4 e hop =>
    simp only [bind, Option.bind_eq_some_iff, Option.some.injEq] at h
    obtain ⟨z, hz, e'⟩ := h
    cases e'
    exact ⟨e, .inr ⟨hop, z, rfl, hz⟩⟩
  all_goals
    exfalso
    repeat' (first | (cases h; done) | split at h | (simp only [bind, cEq, Option.bind_eq_some_iff] at h) | (obtain ⟨_, _, h⟩ := h))

theorem cOp_st {oper : Oper} {n : Nat} {x v : Operand} (h : cOp P oper = .st n x v) : ∃ ty i, oper.op = .store ty x v ∧ P.info? ty = some i ∧ n = i.size := by
  have h := cOp_some h (by simp) rfl
  unfold cOp? at h
  split at h
  case h_9 ty a b hop =>
    simp only [bind, Option.bind_eq_some_iff, Option.some.injEq] at h
    obtain ⟨i, hi, e'⟩ := h
    cases e'
    exact ⟨ty, i, hop, hi, rfl⟩
  all_goals
    exfalso
    repeat' (first | (cases h; done) | split at h | (simp only [bind, cEq, Option.bind_eq_some_iff] at h) | (obtain ⟨_, _, h⟩ := h))

/-- What the check says of a region. -/
structure DEnv (P : Program) (C : CallA) (nt : Nat) (ops : Array Oper) (l : List (DK × SOp)) (bx : List BX) (ms : List Nat) (σ : Nat → St) : Prop where
  len : l.length = ops.size
  cop : ∀ i (h : i < l.length), ∃ oper, ops[i]? = some oper ∧ cSOp P nt ops oper = some l[i].2
  hms : ∀ i (h : i < ops.toList.length), ms.getD i 0 = maskOf ms ops.toList[i].after.toList
  hlt : ∀ i (h : i < ops.toList.length), ∀ e ∈ ops.toList[i].after.toList, bindE e = true → e.on < i
  p1 : ∀ i j (hi : i < l.length) (hj : j < l.length) x, i ≠ j → l[i].2.dst = some x → l[j].2.dst ≠ some x
  p2 : ∀ i j (hi : i < l.length) (hj : j < l.length) x, i ≠ j → l[j].2.dst = some x → x ∈ l[i].2.look → cmpB ms i j = true ∧ (l[j].1 = .late → l[i].1 = .late)
  p3 : ∀ i j (hi : i < l.length) (hj : j < l.length), i ≠ j → isC l[i].1 = true → isC l[j].1 = true → cmpB ms i j = true
  p4 : ∀ i j (hi : i < l.length) (hj : j < l.length), i ≠ j → l[i].1 = .bar → l[j].2.op.isRead = true → cmpB ms i j = true
  free : ∀ i (hi : i < l.length), l[i].1 = .free → l[i].2.op.isFree = true
  b1 : ∀ b ∈ bx, ∃ h : b.i < l.length, l[b.i] = (.late, ⟨some b.d, none, .box (.const b.z)⟩) ∧ sca b.z = true ∧ b.z.cells.size = b.n
  b2 : ∀ b ∈ bx, b.k = none → b.v = .const b.z ∧ ∀ j (h : j < l.length), b.d ∉ l[j].2.look
  b3 : ∀ b ∈ bx, ∀ k, b.k = some k → b.i < k ∧ (∃ h : k < l.length, l[k] = (.late, ⟨none, none, .st b.n (.tmp b.d) b.v⟩)) ∧ ∀ j (h : j < l.length), j ≠ k → b.d ∉ l[j].2.look
  b4 : ∀ b ∈ bx, ∀ k x, b.k = some k → b.v = .tmp x → x ≠ b.d ∧ ∀ j (h : j < l.length), l[j].2.dst = some x → l[j].1 ≠ .late ∧ (ms.getD k 0).testBit j = true
  b5 : ∀ b ∈ bx, xOk P b.v = true
  b6 : ∀ i (h : i < l.length), l[i].1 = .late → ∃ b ∈ bx, b.i = i ∨ b.k = some i
  st : ∀ i (h : i < l.length), dOp C l[i].1 l[i].2 (σ i) = some (σ (i + 1))
  ds : ∀ i (h : i < l.length), DStep l[i].1 l[i].2 (σ i) (σ (i + 1))
  fin : ∀ b ∈ bx, isU ((σ l.length).ev b.v) = false ∧ ((σ l.length).ev b.v).cells.size = b.n ∧ ((σ l.length).ev b.v).cells.toList.all oneC = true

/-- A boxed variable that is made within the region, as it stands. -/
def Boxed (m : Mp) (o : Nat → Ow) (l : List (DK × SOp)) (σ : Nat → St) (n0 : Nat) (R : Nat → Prop) (b : BX) (a : Act) (w : World) (B : Nat) : Prop :=
  n0 ≤ B ∧ o B = .other ∧ a.tmps.getD b.d undef = .pointer (some ⟨B, 0, none⟩) ∧ ∃ arr te, w.heap[B]? = some (.cells arr te (0, 0)) ∧ arr.size = b.n ∧
    ((∀ k, b.k = some k → R k) → LsRel m ((σ l.length).ev b.v).cells.toList arr.toList)

/-- What holds when the operations of R are done. -/
def DInv (P : Program) (B0 : Nat) (rd : Option Nat) (ds : List Nat) (nt : Nat) (m0 : Mp) (o0 : Nat → Ow) (w0 : World) (l : List (DK × SOp)) (bx : List BX) (σ : Nat → St) (R : Nat → Prop) (a : Act) (w : World) : Prop :=
  ∃ (q : Nat) (m : Mp) (o : Nat → Ow) (t : TS), q ≤ l.length ∧ (∀ j (h : j < l.length), isC l[j].1 = true → (j < q ↔ R j)) ∧
    SRel P B0 rd ds nt m o ⟨t, (σ q).L, (σ q).H, (σ 0).lim, (σ 0).rd⟩ a w ∧ Keep o0 w0 o w ∧ m0.le m ∧
    (∀ j (h : j < l.length), R j → l[j].1 ≠ .late → ∀ x, l[j].2.dst = some x → tget t x = tget (σ (j + 1)).t x) ∧
    (∀ x, (∀ j (h : j < l.length), R j → l[j].2.dst ≠ some x) → tget t x = tget (σ 0).t x) ∧
    (∀ j (h : j < l.length), R j → l[j].1 = .late → ∀ x, l[j].2.dst = some x → tget t x = .tuple #[]) ∧
    (∀ b ∈ bx, R b.i → ∃ B, Boxed m o l σ w0.heap.size R b a w B) ∧
    (∀ b ∈ bx, ∀ b' ∈ bx, R b.i → R b'.i → b.i ≠ b'.i → a.tmps.getD b.d undef ≠ a.tmps.getD b'.d undef)

theorem SRel.relim {rd : Option Nat} {ds : List Nat} {nt : Nat} {m : Mp} {o : Nat → Ow} {t : TS} {L : LS} {H : AH} {lim lim' : Nat} {srd : Option Nat} {a : Act} {w : World} (r : SRel P B0 rd ds nt m o ⟨t, L, H, lim, srd⟩ a w) : SRel P B0 rd ds nt m o ⟨t, L, H, lim', srd⟩ a w :=
  ⟨r.T, r.sz, r.tie, r.G, r.D, r.R⟩

theorem noLoc_congr {s s' : St} (op : SO) (h : ∀ x ∈ op.xs, s'.ev x = s.ev x) : noLoc s' op = noLoc s op := by
  cases op with
  | call f args => simp only [noLoc]; rw [List.map_congr_left fun x hx => h x (by simp [SO.xs, hx])]
  | mkf fn x y => simp only [noLoc]; rw [List.map_congr_left (l := x) fun z hz => h z (by simp [SO.xs, hz]), List.map_congr_left (l := y) fun z hz => h z (by simp [SO.xs, hz])]
  | _ => rfl

theorem late_look {o : SOp} {d : Option Tmp} {g : Option (Tmp × Bool)} {x : Tmp} {op : SO} (ho : o = ⟨d, g, op⟩) (h : .tmp x ∈ op.xs) : x ∈ o.look := by
  subst ho
  exact List.mem_append_left _ (List.mem_filterMap.2 ⟨_, h, rfl⟩)

/-- The temporaries that an operation looks at. -/
theorem view_look {C : CallA} {nt : Nat} {ops : Array Oper} {l : List (DK × SOp)} {bx : List BX} {ms : List Nat} {σ : Nat → St} (E : DEnv P C nt ops l bx ms σ) {R : Nat → Prop} {t : TS}
    (htv : ∀ j (h : j < l.length), R j → l[j].1 ≠ .late → ∀ x, l[j].2.dst = some x → tget t x = tget (σ (j + 1)).t x) (ht0 : ∀ x, (∀ j (h : j < l.length), R j → l[j].2.dst ≠ some x) → tget t x = tget (σ 0).t x)
    {i : Nat} (hi : i < l.length) (hn : ¬ R i) (hcmp : ∀ j, j < l.length → j ≠ i → cmpB ms i j = true → (j < i → R j) ∧ (i < j → ¬ R j)) (hl : l[i].1 ≠ .late) (x : Tmp) (hx : x ∈ l[i].2.look) : tget t x = tget (σ i).t x := by
  by_cases hw : ∃ j, ∃ h : j < l.length, l[j].2.dst = some x
  · obtain ⟨j, hj, hd⟩ := hw
    have huniq : ∀ j' (h : j' < l.length), j' ≠ j → l[j'].2.dst ≠ some x := fun j' h hne => E.p1 j j' hj h x (Ne.symm hne) hd
    by_cases hji : j = i
    · subst hji
      have e1 := states_t E.ds (x := x) 0 j (by omega) (fun j' h _ hlt => .inr (huniq j' h (by omega)))
      rw [Nat.zero_add] at e1
      rw [e1]
      exact ht0 x fun j' h hR => huniq j' h (fun e => hn (e ▸ hR))
    · obtain ⟨hc, hlate⟩ := E.p2 i j hi hj x (Ne.symm hji) hd hx
      have hnl : l[j].1 ≠ .late := fun e => hl (hlate e)
      obtain ⟨c1, c2⟩ := hcmp j hj hji hc
      by_cases hlt : j < i
      · rw [htv j hj (c1 hlt) hnl x hd]
        have e1 := states_t E.ds (x := x) (j + 1) (i - (j + 1)) (by omega) (fun j' h a b => .inr (huniq j' h (by omega)))
        rw [show j + 1 + (i - (j + 1)) = i by omega] at e1
        exact e1.symm
      · have e1 := states_t E.ds (x := x) 0 i (by omega) (fun j' h _ b => .inr (huniq j' h (by omega)))
        rw [Nat.zero_add] at e1
        rw [e1]
        exact ht0 x fun j' h hR => huniq j' h (fun e => c2 (by omega) (e ▸ hR))
  · have e1 := states_t E.ds (x := x) 0 i (by omega) (fun j' h _ b => .inr (fun e => hw ⟨j', h, e⟩))
    rw [Nat.zero_add] at e1
    rw [e1]
    exact ht0 x fun j' h hR e => hw ⟨j', h, e⟩

theorem getD_put {a : Act} {d : Option Tmp} {v : Value} {x : Tmp} (h : d ≠ some x) : (a.put d v).tmps.getD x undef = a.tmps.getD x undef := by
  cases d with
  | none => rfl
  | some y =>
    have hne : y ≠ x := fun e => h (by rw [e])
    simp [Act.put, Array.getD_eq_getD_getElem?, Array.getElem?_setIfInBounds_ne hne]

/-- An operation that is no maker of a boxed variable is done: what held holds on. -/
theorem DInv.next {C : CallA} {nt : Nat} {ops : Array Oper} {l : List (DK × SOp)} {bx : List BX} {ms : List Nat} {σ : Nat → St} (E : DEnv P C nt ops l bx ms σ) {R : Nat → Prop} {rd : Option Nat} {ds : List Nat} {m0 m m' : Mp} {o0 o o' : Nat → Ow} {w0 w w' : World} {a a' : Act} {t : TS} {q' : Nat}
    {i : Nat} (hi : i < l.length) (hn : ¬ R i) (hl : l[i].1 ≠ .late) (hq : q' ≤ l.length) (hqR : ∀ j (h : j < l.length), isC l[j].1 = true → (j < q' ↔ (R j ∨ j = i)))
    {v v' : Value} (ha : a' = a.put l[i].2.dst v') (hS : SRel P B0 rd ds nt m' o' ⟨(({ (σ i) with t := t } : St).put l[i].2.dst v).t, (σ q').L, (σ q').H, (σ 0).lim, (σ 0).rd⟩ a' w') (hv : ∀ x, l[i].2.dst = some x → tget (σ (i + 1)).t x = v)
    (hK : Keep o0 w0 o w) (hm : m0.le m) (hK' : Keep o w o' w') (hm' : m.le m')
    (htv : ∀ j (h : j < l.length), R j → l[j].1 ≠ .late → ∀ x, l[j].2.dst = some x → tget t x = tget (σ (j + 1)).t x) (ht0 : ∀ x, (∀ j (h : j < l.length), R j → l[j].2.dst ≠ some x) → tget t x = tget (σ 0).t x)
    (htl : ∀ j (h : j < l.length), R j → l[j].1 = .late → ∀ x, l[j].2.dst = some x → tget t x = .tuple #[])
    (hB : ∀ b ∈ bx, R b.i → ∃ B, Boxed m o l σ w0.heap.size R b a w B) (hdist : ∀ b ∈ bx, ∀ b' ∈ bx, R b.i → R b'.i → b.i ≠ b'.i → a.tmps.getD b.d undef ≠ a.tmps.getD b'.d undef) :
    DInv P B0 rd ds nt m0 o0 w0 l bx σ (fun j => R j ∨ j = i) a' w' := by
  have hdst : ∀ b ∈ bx, l[i].2.dst ≠ some b.d := fun b hb e => by
    obtain ⟨h, e1, _⟩ := E.b1 b hb
    have hne : i ≠ b.i := fun e2 => hl (by subst e2; rw [e1])
    exact E.p1 i b.i hi h b.d hne e (by rw [e1])
  have hRb : ∀ b ∈ bx, (R b.i ∨ b.i = i) → R b.i := fun b hb h => by
    rcases h with h | h
    · exact h
    · obtain ⟨h1, e1, _⟩ := E.b1 b hb
      exact absurd (by subst h; rw [e1]) hl
  have tg : ∀ x, tget (({ (σ i) with t := t } : St).put l[i].2.dst v).t x = if l[i].2.dst = some x then v else tget t x := fun x => tget_put _ _ _ _
  refine ⟨q', m', o', _, hq, hqR, hS, hK.trans hK', Mp.le_trans hm hm', ?_, ?_, ?_, ?_, ?_⟩
  · intro j hj hR hjl x hx
    rw [tg]
    rcases hR with hR | rfl
    · have hne : j ≠ i := fun e => hn (e ▸ hR)
      rw [if_neg (E.p1 j i hj hi x hne hx)]
      exact htv j hj hR hjl x hx
    · rw [if_pos hx]; exact (hv x hx).symm
  · intro x hx
    rw [tg, if_neg (hx i hi (.inr rfl))]
    exact ht0 x fun j hj hR => hx j hj (.inl hR)
  · intro j hj hR hjl x hx
    rcases hR with hR | rfl
    · have hne : j ≠ i := fun e => hn (e ▸ hR)
      rw [tg, if_neg (E.p1 j i hj hi x hne hx)]
      exact htl j hj hR hjl x hx
    · exact absurd hjl hl
  · intro b hb hR
    obtain ⟨B, k1, k2, k3, arr, te, k4, k5, k6⟩ := hB b hb (hRb b hb hR)
    obtain ⟨j1, j2⟩ := hK'.same B (lt_of_heap k4) k2
    refine ⟨B, k1, j2, by rw [ha, getD_put (hdst b hb)]; exact k3, arr, te, j1.trans k4, k5, fun h => (k6 fun k hk => ?_).mono hm'⟩
    rcases h k hk with h | h
    · exact h
    · obtain ⟨_, ⟨h1, e1⟩, _⟩ := E.b3 b hb k hk
      exact absurd (by subst h; rw [e1]) hl
  · intro b hb b' hb' hR hR' hne
    rw [ha, getD_put (hdst b hb), getD_put (hdst b' hb')]
    exact hdist b hb b' hb' (hRb b hb hR) (hRb b' hb' hR') hne
end Go.Proofs.YtjejcbiilimjkaaDoor
