/- Operation by operation, the last: structs compared and built, slices made, cut, appended to, copied. -/
import Derived.Test.YtjejcbiilimjkaaDoorAbsG
import Derived.Deep.DeepAppendWide
namespace Go.Proofs.YtjejcbiilimjkaaDoor
open Go Go.RowKit

variable {P : Program} {B0 : Nat} {m : Mp} {o : Nat → Ow} {w : World} {s : St} {a : Act} {d : Option Tmp}

theorem zeros_length (z : List Value) : ∀ n, (zeros z n).length = n * z.length
  | 0 => by simp [zeros]
  | n + 1 => by rw [zeros, List.length_append, zeros_length z n, Nat.add_mul]; omega

theorem zeros_get (z : List Value) : ∀ (n j : Nat) (h : j < n * z.length), (zeros z n)[j]? = z[j % z.length]?
  | 0, j, h => by omega
  | n + 1, j, h => by
    rw [zeros]
    by_cases hj : j < z.length
    · rw [List.getElem?_append_left hj, Nat.mod_eq_of_lt hj]
    · rw [List.getElem?_append_right (by omega), zeros_get z n (j - z.length) (by rw [Nat.add_mul] at h; omega), ← Nat.mod_eq_sub_mod (by omega)]

/-- The model's row of zero values. -/
theorem zeros_arr (z : Array Value) (n : Nat) (h0 : 0 < z.size) : ((Array.range (n * z.size)).map (z[· % z.size]!)).toList = zeros z.toList n := by
  apply List.ext_getElem?
  intro j
  by_cases hj : j < n * z.size
  · rw [zeros_get _ _ _ (by simpa using hj)]
    have hm := Nat.mod_lt j h0
    simp [hj, hm, getElem!_pos, List.getElem?_eq_getElem]
  · rw [List.getElem?_eq_none (by simpa using Nat.le_of_not_lt hj), List.getElem?_eq_none (by rw [zeros_length]; simpa using Nat.le_of_not_lt hj)]

theorem zerosCells (z : Array Value) (n : Nat) : (Builtin.zeroCells z n).size = n * z.size := by simp [Builtin.zeroCells]

theorem nlL_zeros {z : List Value} (h : nlL z = true) (n : Nat) : nlL (zeros z n) = true := by
  induction n with
  | zero => rfl
  | succ n ih => rw [zeros, nlL_append, h, ih]; rfl

mutual
theorem nl_of_sca : ∀ (v : Value), sca v = true → nl v = true
  | .pointer a, h => by cases a <;> simp [sca, nl] at *
  | .agg ⟨l⟩, h => by simp only [sca, nl] at *; exact nlL_of_scaL l h
  | .tuple ⟨l⟩, h => by simp only [sca, nl] at *; exact nlL_of_scaL l h
  | .func _ _ _, h => by simp [sca] at h
  | .iface _ v, h => by simp only [sca, nl] at *; exact nl_of_sca v h
  | .bool _, _ | .int _ _, _ | .float _ _, _ | .complex _ _ _, _ | .string _, _ | .slice _ _ _, _ | .map _, _ | .chan _, _ | .nilFunc, _ | .nilIface, _ => rfl
theorem nlL_of_scaL : ∀ (l : List Value), scaL l = true → nlL l = true
  | [], _ => rfl
  | v :: r, h => by simp only [scaL, nlL, Bool.and_eq_true] at *; exact ⟨nl_of_sca v h.1, nlL_of_scaL r h.2⟩
end

theorem LsRel.refl_sca (m : Mp) {l : List Value} (h : scaL l = true) : LsRel m l l := by
  refine ⟨rfl, fun i a _ => ?_⟩
  induction l generalizing i with
  | nil => simp at a
  | cons v r ih =>
    simp only [scaL, Bool.and_eq_true] at h
    cases i with
    | zero => exact VRel.refl_sca m v h.1
    | succ i => exact ih h.2 i (by simpa using a) (by simpa using a)

theorem LsRel.zeros (m : Mp) {z : List Value} (h : scaL z = true) (n : Nat) : LsRel m (zeros z n) (zeros z n) := by
  induction n with
  | zero => exact LsRel.nil m
  | succ n ih => exact (LsRel.refl_sca m h).append ih

theorem partsAt_spec {place : Nat → Option (Nat × Nat)} : ∀ {src : List (Nat × Operand)} {parts : List (Nat × Nat × Operand)}, partsAt place src = some parts →
    parts.length = src.length ∧ ∀ j (h : j < parts.length) (h' : j < src.length), place src[j].1 = some (parts[j].1, parts[j].2.1) ∧ parts[j].2.2 = src[j].2
  | [], parts, h => by simp only [partsAt, Option.some.injEq] at h; subst h; simp
  | (i, x) :: src, parts, h => by
    simp only [partsAt] at h
    split at h
    · rename_i o k l h1 h2
      cases h
      obtain ⟨k1, k2⟩ := partsAt_spec h2
      refine ⟨by simp [k1], fun j p q => ?_⟩
      cases j with
      | zero => exact ⟨h1, rfl⟩
      | succ j => exact k2 j (by simpa using p) (by simpa using q)
    · cases h

theorem fill_sound (place : Nat → Option (Nat × Nat)) : ∀ (parts : List (Nat × Nat × Operand)) (src : List (Nat × Operand)) (cells : List Value) (cells' : Array Value) (cs : List Value),
    parts.length = src.length → (∀ j (h : j < parts.length) (h' : j < src.length), place src[j].1 = some (parts[j].1, parts[j].2.1) ∧ parts[j].2.2 = src[j].2) →
    (∀ x ∈ parts.map (·.2.2), VRel m (s.ev x) (a.eval x)) → LsRel m cells cells'.toList → fillA cells (parts.map fun (o, k, x) => (o, k, s.ev x)) = some cs →
    ∃ cs', Instr.fill place cells' (src.map fun (i, x) => (i, a.eval x)) = some cs' ∧ LsRel m cs cs'.toList ∧ cs.length = cells.length
  | [], src, cells, cells', cs, hl, _, _, hr, h => by
    cases src with
    | cons => simp at hl
    | nil => simp only [List.map_nil, fillA, Option.some.injEq] at h; subst h; exact ⟨cells', by simp [Instr.fill], hr, rfl⟩
  | (off, k, x) :: parts, src, cells, cells', cs, hl, hp, hx, hr, h => by
    cases src with
    | nil => simp at hl
    | cons y src =>
      obtain ⟨i, y⟩ := y
      simp only [List.map_cons, fillA] at h
      split at h
      · rename_i hc
        obtain ⟨c1, c2, c3⟩ := hc
        have h0 := hp 0 (by simp) (by simp)
        simp only [List.getElem_cons_zero] at h0
        obtain ⟨p1, p2⟩ := h0
        subst p2
        have hxr := cells_rel (hx x (by simp)) c1
        have hsz : (a.eval x).cells.size = k := by have := hxr.1; simp at this; rw [← this]; exact c2
        have hcl := hr.1
        simp only [Array.length_toList] at hcl
        have hset : (((a.eval x).cells.zipIdx.foldl (fun cs (c, j) => cs.setIfInBounds (off + j) c) cells')).toList = over cells'.toList off (a.eval x).cells.toList := by
          have key : ∀ (l : List Value) (n : Nat) (arr : Array Value), ((l.zipIdx n).foldl (fun (cs : Array Value) (p : Value × Nat) => cs.setIfInBounds (off + p.2) p.1) arr).toList = over arr.toList (off + n) l := by
            intro l
            induction l with
            | nil => intro n arr; rfl
            | cons v l ih => intro n arr; rw [List.zipIdx_cons, List.foldl_cons, ih, over]; simp [Nat.add_assoc]
          have := key (a.eval x).cells.toList 0 cells'
          rw [← Array.foldl_toList, Array.toList_zipIdx]
          simpa using this
        obtain ⟨cs', k1, k2, k3⟩ := fill_sound place parts src _ ((a.eval x).cells.zipIdx.foldl (fun cs (c, j) => cs.setIfInBounds (off + j) c) cells') cs (by simpa using hl)
          (fun j h1 h2 => by have := hp (j + 1) (by simpa using h1) (by simpa using h2); simpa using this) (fun z hz => hx z (by simp only [List.map_cons, List.mem_cons]; exact .inr hz))
          (by rw [hset]; exact LsRel.over hxr hr off) h
        refine ⟨cs', ?_, k2, by rw [k3, over_length]⟩
        simp only [List.map_cons, Instr.fill, p1]
        rw [if_neg (by simp [hsz]; omega)]
        exact k1
      · cases h

theorem run_buildSlice (ty e len : Nat) (i : TypeInfo) (z : Value) (parts : Array (Nat × Value)) (cs' : Array Value) (hu : P.underlying ty = some (.slice e)) (hi : P.info? e = some i) (hz : i.zero = some z) (hlen : ¬ 2 ^ 24 < len * i.size)
    (k : Instr.fill (fun j => some (j * i.size, i.size)) ((Array.range (len * i.size)).map (z.cells[· % z.cells.size]!)) parts.toList = some cs') :
    (Instr.buildSlice ty len parts).run P w = .ok (.slice (some ⟨w.heap.size, 0, none⟩) len len) (w.alloc (.cells cs' e)) := by
  unfold Instr.buildSlice
  rw [Sem.run_bind, run_underlying hu]
  simp only [Result.andThen_ok]
  rw [Sem.run_bind]
  have hs : (sizeOf e).run P w = .ok i.size w := by simp [sizeOf, typeInfo, hi]
  rw [hs]
  simp only [Result.andThen_ok, if_neg hlen]
  by_cases h0 : len * i.size = 0
  · rw [h0] at k
    have e0 : ∀ f : Nat → Value, (Array.range 0).map f = #[] := fun f => by apply Array.ext <;> simp
    rw [e0] at k
    simp [h0, e0, k, newRow]
  · simp [h0, zeroValue, typeInfo, hi, hz, k, newRow]

section
variable (t : Tied P B0 m o s.L s.H w) {oper : Oper} {v : Value} {L' : LS} {H' : AH}
include t

theorem do_build {ty : TypeId} {z : Value} {src : Array (Nat × Operand)} {parts : List (Nat × Nat × Operand)} (hop : oper.op = .build ty src) (hz : zeroOf P ty = some z) (hsz : scaL z.cells.toList = true) (hp : partsOf P ty src.toList = some parts) (hx : ∀ x ∈ parts.map (·.2.2), VRel m (s.ev x) (a.eval x)) (h : popA s (.build z.cells.toList parts) d = some (v, L', H')) : Does P B0 m o w a oper v L' H' := by
  simp only [popA, Option.bind_eq_some_iff, Option.some.injEq, Prod.mk.injEq] at h
  obtain ⟨cs, hcs, rfl, rfl, rfl⟩ := h
  have hi : ∃ i, P.info? ty = some i ∧ i.zero = some z := by simp only [zeroOf, Option.bind_eq_some_iff] at hz; exact hz
  obtain ⟨i, hi, hiz⟩ := hi
  have key : ∀ cs' : Array Value, P.built ty (src.map fun (i, x) => (i, a.eval x)).toList = some cs' → LsRel m cs cs'.toList → Does P B0 m o w a oper (.agg cs.toArray) s.L s.H := fun cs' k1 k2 => by
    refine t.pure (v' := .agg cs') ?_ (by have := VRel.aggL k2; simpa using this)
    simp only [execOp, hop, Sem.run_bind, run_build w ty _ cs' k1, Result.andThen_ok]
    rfl
  unfold partsOf at hp
  split at hp
  · rename_i fs hu
    split at hp
    · rename_i places hpl
      obtain ⟨p1, p2⟩ := partsAt_spec hp
      obtain ⟨cs', k1, k2, k3⟩ := fill_sound (m := m) (s := s) (a := a) (places[·]?) parts src.toList _ z.cells cs p1 p2 hx (LsRel.refl_sca m hsz) hcs
      exact key cs' (by simpa [Program.built, hi, hu, hiz, hpl] using k1) k2
    · cases hp
  · rename_i n e hu
    split at hp
    · rename_i ie he
      obtain ⟨p1, p2⟩ := partsAt_spec hp
      obtain ⟨cs', k1, k2, k3⟩ := fill_sound (m := m) (s := s) (a := a) (fun i => some (i * ie.size, ie.size)) parts src.toList _ z.cells cs p1 p2 hx (LsRel.refl_sca m hsz) hcs
      exact key cs' (by simpa [Program.built, hi, hu, hiz, he] using k1) k2
    · cases hp
  · cases hp

theorem push_does {v' : Value} {arr : Array Value} {te : TypeId} {e : Nat} {vs : List Value} {w2 : World} {oper : Oper} (hr : (execOp a.eval oper).run P w = .ok (.value v') w2) (h1 : w2.os = w.os) (h2 : w2.tape = w.tape) (h3 : w2.output = w.output)
    (h4 : w2.heap = w.heap.push (.cells arr te (0, 0))) (hn : nlL vs = true) (hle : vs.length ≤ arr.size) (hl : LsRel m vs (arr.toList.take vs.length)) {u : Value}
    (hv : ∀ m' : Mp, m.le m' → m'.h s.H.length = some ⟨w.heap.size, 0, e, arr.size, none⟩ → VRel m' u v') : Does P B0 m o w a oper u s.L (s.H ++ [.rw e vs]) := by
  obtain ⟨m', o', hm', k1, k2, k3, k4⟩ := WRel.push t.tH t.tL h1 h2 h3 arr te h4 e vs hn hle hl
  exact ⟨_, _, hr, .inl ⟨_, rfl, m', o', k1, hv m' k1 (by rw [hm']; simp), k3, t.tF.same_l (by rw [hm']), k2, k4⟩⟩

theorem do_buildS {ty e len : Nat} {i : TypeInfo} {z : Value} {src : Array (Nat × Operand)} {parts : List (Nat × Nat × Operand)} (hop : oper.op = .buildSlice ty len src) (hu : P.underlying ty = some (.slice e)) (hi : P.info? e = some i) (hz : i.zero = some z) (hlen : ¬ len * i.size > 2 ^ 16)
    (hzs : z.cells.size = i.size) (h0 : i.size ≠ 0) (hsz : scaL z.cells.toList = true) (hp : partsAt (fun j => some (j * i.size, i.size)) src.toList = some parts) (hx : ∀ x ∈ parts.map (·.2.2), VRel m (s.ev x) (a.eval x)) (h : popA s (.buildS len z.cells.toList parts) d = some (v, L', H')) : Does P B0 m o w a oper v L' H' := by
  simp only [popA] at h
  split at h
  · rename_i cs hcs
    split at h
    · rename_i hn
      simp only [Option.some.injEq, Prod.mk.injEq] at h
      obtain ⟨rfl, rfl, rfl⟩ := h
      obtain ⟨p1, p2⟩ := partsAt_spec hp
      have hz0 : ((Array.range (len * i.size)).map (z.cells[· % z.cells.size]!)).toList = zeros z.cells.toList len := by rw [← hzs]; exact zeros_arr z.cells len (by omega)
      obtain ⟨cs', k1, k2, k3⟩ := fill_sound (m := m) (s := s) (a := a) (fun j => some (j * i.size, i.size)) parts src.toList _ ((Array.range (len * i.size)).map (z.cells[· % z.cells.size]!)) cs p1 p2 hx (by rw [hz0]; exact LsRel.zeros m hsz len) hcs
      have hl := k2.1
      simp only [Array.length_toList] at hl
      have hrun : (execOp a.eval oper).run P w = .ok (.value (.slice (some ⟨w.heap.size, 0, none⟩) len len)) (w.alloc (.cells cs' e)) := by
        simp only [execOp, hop]
        rw [Sem.run_bind, run_buildSlice ty e len i z (src.map fun (i, x) => (i, a.eval x)) cs' hu hi hz (by omega) (by simpa using k1)]
        rfl
      refine push_does t hrun rfl rfl rfl rfl hn (by omega) (by rw [hl, ← Array.length_toList, List.take_length]; exact k2) fun m' hm hb => ?_
      refine .sl _ _ _ _ _ _ rfl ⟨rfl, ⟨w.heap.size, 0, z.cells.toList.length, cs'.size, none⟩, hb, rfl, rfl⟩ hb (fun _ => ?_) (Nat.le_refl _) (fun h => h)
      simp only [Nat.zero_add, Array.length_toList]
      rw [← hl, k3, zeros_length, Array.length_toList]
      exact Nat.le_refl _
    · cases h
  · cases h

theorem do_mks {l c : Operand} {ty e : TypeId} {i : TypeInfo} {z : Value} (hop : oper.op = .makeSlice ty l c) (hu : P.underlying ty = some (.slice e)) (hi : P.info? e = some i) (hz : i.zero = some z) (hsz : scaL z.cells.toList = true)
    (hx : VRel m (s.ev l) (a.eval l)) (hy : VRel m (s.ev c) (a.eval c)) (h : popA s (.mks i.size i.bytes z.cells.toList l c) d = some (v, L', H')) : Does P B0 m o w a oper v L' H' := by
  simp only [popA] at h
  split at h
  · rename_i k1 n k2 q hp hq
    rw [hp] at hx
    rw [hq] at hy
    split at h
    · rename_i hc
      obtain ⟨c1, c2, c3, c4, c5, c6⟩ := hc
      simp only [Option.some.injEq, Prod.mk.injEq] at h
      obtain ⟨rfl, rfl, rfl⟩ := h
      generalize he : a.eval l = x at hx
      generalize hg : a.eval c = y at hy
      cases hx
      cases hy
      simp only [Array.length_toList] at c4
      have hm30 : maxA = 1073741824 := rfl
      rw [hm30] at c3
      have w1 : IntKind.i64.wrap n = n := IntWalk.i64_in n ⟨by omega, by omega⟩
      have w2 : IntKind.i64.wrap q = q := IntWalk.i64_in q ⟨by omega, by omega⟩
      have hbig : ¬ (281474976710656 < (i.bytes : Int) * q) := by
        have : (i.bytes : Int) * q ≤ 65536 * 1073741824 := Int.mul_le_mul (by omega) c3 (by omega) (by omega)
        omega
      have hroom : ¬ (q.toNat * i.bytes > roomBytes) := by
        have : q.toNat * i.bytes ≤ 1073741824 * 65536 := Nat.mul_le_mul (by omega) (by omega)
        simp only [roomBytes]; omega
      have hz0 : ((Array.range (q.toNat * i.size)).map (z.cells[· % z.cells.size]!)).toList = zeros z.cells.toList q.toNat := by rw [← c4]; exact zeros_arr z.cells q.toNat (by omega)
      have hrun : (execOp a.eval oper).run P w = .ok (.value (.slice (some ⟨w.heap.size, 0, none⟩) n.toNat q.toNat)) (w.alloc (.cells ((Array.range (q.toNat * i.size)).map (z.cells[· % z.cells.size]!)) e)) := by
        simp only [execOp, hop, he, hg]
        rw [Sem.run_bind]
        have : (Instr.makeSlice ty (.int k1 n) (.int k2 q)).run P w = .ok (.slice (some ⟨w.heap.size, 0, none⟩) n.toNat q.toNat) (w.alloc (.cells ((Array.range (q.toNat * i.size)).map (z.cells[· % z.cells.size]!)) e)) := by
          unfold Instr.makeSlice
          rw [Sem.run_bind, run_underlying hu]
          simp only [Result.andThen_ok]
          by_cases h0 : q.toNat * i.size = 0
          · have hq0 : q.toNat = 0 := by rcases Nat.mul_eq_zero.1 h0 with h | h <;> omega
            have e0 : ∀ f : Nat → Value, (Array.range 0).map f = #[] := fun f => by apply Array.ext <;> simp
            rw [h0, e0]
            simp [asInt, asIntOf, typeInfo, hi, w1, w2, hbig, show ¬ q < 0 by omega, show ¬ n < 0 by omega, show ¬ q < n by omega, askRoom, hroom, sizeOf, h0, newRow, e0]
          · simp [asInt, asIntOf, typeInfo, hi, w1, w2, hbig, show ¬ q < 0 by omega, show ¬ n < 0 by omega, show ¬ q < n by omega, askRoom, hroom, sizeOf, h0, newRow, zeroValue, hz]
        rw [this]
        rfl
      have hlen : (zeros z.cells.toList n.toNat).length = n.toNat * i.size := by rw [zeros_length, Array.length_toList, c4]
      have hle : n.toNat * i.size ≤ q.toNat * i.size := Nat.mul_le_mul_right _ (by omega)
      refine push_does t hrun rfl rfl rfl rfl (nlL_zeros (nlL_of_scaL _ hsz) _) (by rw [hlen]; simpa using hle) ?_ fun m' hm hb => ?_
      · rw [hlen, hz0]
        have : (zeros z.cells.toList q.toNat).take (n.toNat * i.size) = zeros z.cells.toList n.toNat := by
          apply List.ext_getElem?
          intro j
          rw [List.getElem?_take]
          split
          · rename_i hj
            rw [zeros_get _ _ _ (by rw [Array.length_toList, c4]; omega), zeros_get _ _ _ (by rw [Array.length_toList, c4]; omega)]
          · rw [List.getElem?_eq_none (by rw [hlen]; omega)]
        rw [this]
        exact LsRel.zeros m hsz _
      · refine .sl _ _ _ _ _ _ rfl ⟨rfl, _, hb, rfl, rfl⟩ hb (fun _ => ?_) (by omega) (fun h => h)
        simp
    · cases h
  · cases h
end
end Go.Proofs.YtjejcbiilimjkaaDoor
