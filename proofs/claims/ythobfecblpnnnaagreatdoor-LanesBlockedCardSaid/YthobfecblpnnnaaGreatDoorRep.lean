/- Contracts of the functions, in the abstract machine: lists of equal numbers. -/
import Derived.Test.YthobfecblpnnnaaGreatDoorFunY
set_option linter.all false
namespace Go.Proofs.YthobfecblpnnnaaGreatDoor
open Go Go.RowKit

theorem u64_wrap {n : Int} (h0 : 0 ≤ n) (h1 : n < 18446744073709551616) : IntKind.u64.wrap n = n := by
  have : IntKind.u64.wrap n = n % 18446744073709551616 := by
    unfold IntKind.wrap
    simp [IntKind.signed, IntKind.bits]
  rw [this]
  exact Int.emod_eq_of_lt h0 h1

theorem u64_andR {n : Nat} (h : n < 4294967296) : (BitVec.ofInt IntKind.u64.bits (n : Int) &&& BitVec.ofInt IntKind.u64.bits 4294967295).toNat = n := by
  have e1 : BitVec.ofInt IntKind.u64.bits (n : Int) = BitVec.ofNat 64 n := BitVec.ofInt_natCast 64 n
  have e2 : BitVec.ofInt IntKind.u64.bits 4294967295 = BitVec.ofNat 64 4294967295 := rfl
  rw [e1, e2]
  show (BitVec.ofNat 64 n &&& BitVec.ofNat 64 4294967295).toNat = n
  rw [BitVec.toNat_and, BitVec.toNat_ofNat, BitVec.toNat_ofNat, Nat.mod_eq_of_lt (by omega), show 4294967295 % 2 ^ 64 = 2 ^ 32 - 1 from rfl, Nat.and_two_pow_sub_one_eq_mod]
  exact Nat.mod_eq_of_lt h

theorem u64_shr {n : Int} (h0 : 0 ≤ n) (h1 : n < 4294967296) : n.fdiv (2 ^ min (32 : Int).toNat IntKind.u64.bits) = 0 := by
  have : (2 : Int) ^ min (32 : Int).toNat IntKind.u64.bits = 4294967296 := by decide
  rw [this, Int.fdiv_eq_ediv_of_nonneg _ (by omega)]
  exact Int.ediv_eq_zero_of_lt h0 h1

theorem run_Mul64 (n : Nat) (hn : n ≤ 1000) (lim : Nat) (H : AH) : apL Tryz.prog pf (.func (.func 152) #[] #[]) [.int .u64 1, .int .u64 n] lim H = some (.tuple #[.int .u64 0, .int .u64 n], H) := by
  rw [apL_func _ _ _ _ _ _ (by rfl), sf_math_bits_Mul64_eq]
  have a1 : (1#IntKind.u64.bits &&& 4294967295#IntKind.u64.bits).toNat = 1 := u64_andR (n := 1) (by omega)
  have a2 : (BitVec.ofInt IntKind.u64.bits ↑n &&& 4294967295#IntKind.u64.bits).toNat = n := u64_andR (n := n) (by omega)
  have a0 : (0#IntKind.u64.bits &&& 4294967295#IntKind.u64.bits).toNat = 0 := u64_andR (n := 0) (by omega)
  have s1 : Int.fdiv 1 (2 ^ min 32 IntKind.u64.bits) = 0 := u64_shr (n := 1) (by omega) (by omega)
  have s2 : (n : Int).fdiv (2 ^ min 32 IntKind.u64.bits) = 0 := u64_shr (n := (n : Int)) (by omega) (by omega)
  have s0 : Int.fdiv 0 (2 ^ min 32 IntKind.u64.bits) = 0 := u64_shr (n := 0) (by omega) (by omega)
  have w2 : IntKind.u64.wrap (n : Int) = n := u64_wrap (by omega) (by omega)
  have w1 : IntKind.u64.wrap 1 = 1 := u64_wrap (by omega) (by omega)
  have w0 : IntKind.u64.wrap 0 = 0 := u64_wrap (by omega) (by omega)
  simp [-BitVec.toNat_and, -BitVec.ofInt_natCast, -BitVec.toNat_ofInt, sf_math_bits_Mul64, a0, a1, a2, s0, s1, s2, w0, w1, w2, pf_pure, pureF]

theorem run_Mul (n : Nat) (hn : n ≤ 1000) (lim : Nat) (H : AH) : apL Tryz.prog pf (.func (.func 141) #[] #[]) [.int .u64 1, .int .u64 n] lim H = some (.tuple #[.int .u64 0, .int .u64 n], H) := by
  rw [apL_func _ _ _ _ _ _ (by rfl), sf_math_bits_Mul_eq]
  have h := run_Mul64 n hn
  simp [sf_math_bits_Mul, h, pf_pure, pureF]

theorem zeros_ints' : ∀ n : Nat, zeros [.int .i64 0] n = ints (List.replicate n 0)
  | 0 => rfl
  | n + 1 => by simp only [zeros, zeros_ints' n, List.replicate_succ, ints, List.map_cons]; rfl

def rpLoop : SC := sf_slices_Repeat_int_int.body.loops.headD .skip

theorem repV_cons (i : Nat) (x : Value) (r : List Value) : List.replicate i x ++ x :: r = x :: (List.replicate i x ++ r) := by
  induction i with
  | zero => rfl
  | succ i ih => rw [List.replicate_succ, List.cons_append, ih, List.cons_append]

theorem over_rep {a b k : Nat} (x y : Int) (hk : k ≤ b) : over (ints (List.replicate a x ++ List.replicate b y)) a (ints (List.replicate k x)) = ints (List.replicate (a + k) x ++ List.replicate (b - k) y) := by
  induction k generalizing a b with
  | zero => simp [over, ints]
  | succ k ih =>
    obtain ⟨b, rfl⟩ : ∃ m, b = m + 1 := ⟨b - 1, by omega⟩
    have e : (ints (List.replicate a x ++ List.replicate (b + 1) y)).set a (.int .i64 x) = ints (List.replicate (a + 1) x ++ List.replicate b y) := by
      simp only [ints, List.map_append, List.map_replicate]
      rw [List.set_append_right _ _ (by simp)]
      simp only [List.length_replicate, Nat.sub_self, List.replicate_succ, List.set_cons_zero, List.cons_append]
      exact repV_cons a _ _
    rw [show ints (List.replicate (k + 1) x) = .int .i64 x :: ints (List.replicate k x) by simp [ints, List.replicate_succ]]
    simp only [over]
    rw [e, ih (by omega)]
    congr 3 <;> omega

/-- Doubling. -/
theorem rp_loop (N : Nat) (hN0 : 0 < N) (hN : N ≤ 1000) (H : AH) (S : St) (h7 : tget S.t 7 = .slice (some ⟨H.length, 0, none⟩) N N) (h8 : tget S.t 8 = .int .i64 1) (hH : S.H = H ++ [.rw 1 (ints (List.replicate 1 (-1) ++ List.replicate (N - 1) 0))]) (hlim : S.lim ≤ H.length) :
    ∃ q, exL Tryz.prog pf (.loop rpLoop) S = some q ∧ q.1 = .exit 0 ∧ tget q.2.t 7 = .slice (some ⟨H.length, 0, none⟩) N N ∧ q.2.H = H ++ [.rw 1 (ints (List.replicate N (-1)))] := by
  refine loop_rule (I := fun m s' => ∃ k, 0 < k ∧ k ≤ N ∧ m = N - k ∧ tget s'.t 7 = .slice (some ⟨H.length, 0, none⟩) N N ∧ tget s'.t 8 = .int .i64 k ∧ s'.lim = S.lim ∧ s'.H = H ++ [.rw 1 (ints (List.replicate k (-1) ++ List.replicate (N - k) 0))]) ?_ (N - 1) S
    ⟨1, by omega, by omega, rfl, h7, h8, rfl, hH⟩
  rintro m s' ⟨k, k0, k1, rfl, e7, e8, el, eH⟩
  by_cases hlt : k < N
  rotate_left
  · have : k = N := by omega
    subst this
    simp [rpLoop, SC.loops, sf_slices_Repeat_int_int, e7, e8, eH]
  obtain ⟨q, hq⟩ : ∃ q, q = min k (N - k) := ⟨_, rfl⟩
  have hq0 : ¬ q = 0 := by omega
  have hov := over_rep (a := k) (b := N - k) (-1) 0 (show q ≤ N - k by omega)
  obtain ⟨cs, hcs⟩ : ∃ cs, cs = ints (List.replicate k (-1) ++ List.replicate (N - k) 0) := ⟨_, rfl⟩
  obtain ⟨ws, hws⟩ : ∃ ws, ws = ints (List.replicate q (-1)) := ⟨_, rfl⟩
  have hcl : cs.length = N := by rw [hcs, ints_length]; simp; omega
  have hwl : ws.length = q := by rw [hws, ints_length]; simp
  have hcells : ∀ L, cellsAt L (H ++ [.rw 1 cs]) ⟨H.length, 0, none⟩ q = some ws := fun L => by
    rw [← hwl]
    refine cellsAt_of ws 0 fun j x hx => ?_
    have hj : j < q := by rw [← hwl]; exact (List.getElem?_eq_some_iff.1 hx).1
    simp only [hcell, Nat.zero_add, List.getElem?_append_right (Nat.le_refl _), Nat.sub_self, List.getElem?_cons_zero]
    rw [← hx, hcs, hws]
    simp only [ints, List.map_append, List.map_replicate]
    rw [List.getElem?_append_left (by simp; omega), List.getElem?_replicate, List.getElem?_replicate]
    simp [show j < k by omega, hj]
  have hone : ws.all oneC = true := by rw [hws]; exact one_ints _
  have hnl : nlL ws = true := by rw [hws]; exact nlL_ints _
  rw [← hcs, ← hws] at hov
  rw [← hcs] at eH
  have hle : k + ws.length ≤ cs.length := by omega
  have hle' : k + ws.length ≤ N := by omega
  have hkq : k + q ≤ N := by omega
  have hkN : (k : Int) < N := by omega
  have hkN' : (k : Int) ≤ N := by omega
  have hkN2 : ¬ (k : Int) = N := by omega
  have hkN3 : ¬ k = N := by omega
  have hts : ((N : Int) - (k : Int)).toNat = N - k := by omega
  have hwr : IntKind.i64.wrap ((k : Int) + (q : Int)) = ((k + q : Nat) : Int) := by rw [wrap_i64 (by omega) (by omega)]; omega
  have hls : s'.lim ≤ H.length := by rw [el]; exact hlim
  have hq' : min k (N - k) = q := hq.symm
  simp [-oneC, -Int.natCast_add, rpLoop, SC.loops, sf_slices_Repeat_int_int, e7, e8, eH, hkN, hkN', hkN2, hkN3, hts, hq', hq0, hcells, hone, hnl, hle, hle', hov, hwr, hls, hcl, hwl, hkq]
  exact ⟨_, by omega, k + q, by omega, by omega, rfl, rfl, el, by rw [show N - k - q = N - (k + q) by omega]⟩

theorem run_Repeat (N : Nat) (hN0 : 0 < N) (hN : N ≤ 1000) (lim : Nat) (H : AH) (b : Nat) (hb : H[b]? = some (.rw 1 [.int .i64 (-1)])) :
    apL Tryz.prog pf (.func (.func 123) #[] #[]) [.slice (some ⟨b, 0, none⟩) 1 1, .int .i64 N] lim H = some (.slice (some ⟨H.length, 0, none⟩) N N, H ++ [.rw 1 (ints (List.replicate N (-1)))]) := by
  rw [apL_func _ _ _ _ _ _ (by rfl), sf_slices_Repeat_int_int_eq]
  have hM := run_Mul N hN
  have hbl : b < H.length := (List.getElem?_eq_some_iff.1 hb).1
  have hmx : N ≤ maxA := Nat.le_trans hN (by decide)
  have u1 : IntKind.u64.wrap 1 = 1 := u64_wrap (by omega) (by omega)
  have uN : IntKind.u64.wrap (N : Int) = N := u64_wrap (by omega) (by omega)
  have iN : IntKind.i64.wrap (N : Int) = N := wrap_i64 (by omega) (by omega)
  have hbig : ¬ ((N : Int) > 9223372036854775807) := by omega
  have hbig' : ¬ (9223372036854775807 < (N : Int)) := by omega
  have hmin : min 1 N = 1 := by omega
  have hbX : ∀ X : AH, (H ++ X)[b]? = some (.rw 1 [.int .i64 (-1)]) := fun X => by rw [List.getElem?_append_left hbl, hb]
  have hN1 : ¬ N = 0 := by omega
  have hz : 1 ≤ (ints (List.replicate N 0)).length := by rw [ints_length]; simp; omega
  have hset : (ints (List.replicate N 0)).set 0 (.int .i64 (-1)) = ints (List.replicate 1 (-1) ++ List.replicate (N - 1) 0) := by
    obtain ⟨m, rfl⟩ : ∃ m, N = m + 1 := ⟨N - 1, by omega⟩
    simp [ints, List.replicate_succ]
  have hN0' : ¬ (N : Int) < 0 := by omega
  generalize hzz : ints (List.replicate N 0) = zz at *
  simp [sf_slices_Repeat_int_int, hM, hmx, u1, uN, iN, hbig', hmin, hbX, hN1, zeros_ints', hzz, hz, hset, hN0', pf_pure, pureF]
  generalize hS : ({ t := _, L := _, H := _, lim := _, rd := _ } : St) = S
  obtain ⟨⟨e, s1⟩, hr, q1, q7, qH⟩ := rp_loop N hN0 hN H S (by subst hS; simp) (by subst hS; simp) (by subst hS; rfl) (by subst hS; simp)
  simp [rpLoop, SC.loops, sf_slices_Repeat_int_int] at hr
  rw [hr]
  simp only at q1 q7 qH
  subst q1
  simp [q7, qH]
end Go.Proofs.YthobfecblpnnnaaGreatDoor
