import Derived.Test.YtnpifaanhofonaaGreatDoorLisA
set_option linter.all false

/- Contracts of layer 5: classes of boats, loads. -/
namespace Go.Proofs.YtnpifaanhofonaaGreatDoor
open Go Go.RowKit

/-- A class of boats, as it is read. -/
structure Cl where
  (dr seas mv idle res seats mom : Int)

def Cl.vals (r : Cl) : List Value := [.int .i64 r.dr, .int .i64 r.seas, .int .i64 r.mv, .int .i64 r.idle, .int .i64 r.res, .int .i64 r.seats, .int .i64 r.mom]
def clV (r : Cl) : Value := .agg #[.int .i64 r.dr, .int .i64 r.seas, .int .i64 r.mv, .int .i64 r.idle, .int .i64 r.res, .int .i64 r.seats, .int .i64 r.mom]
def clsV (l : List Cl) : List Value := l.flatMap Cl.vals

theorem clsV_length : ∀ (l : List Cl), (clsV l).length = l.length * 7
  | [] => rfl
  | r :: l => by
    have := clsV_length l
    simp only [clsV, List.flatMap_cons, List.length_append, List.length_cons] at this ⊢
    rw [this]
    simp [Cl.vals]
    omega

theorem clsV_get : ∀ {l : List Cl} {i : Nat} (h : i < l.length) (j : Nat) (_ : j < 7), (clsV l)[i * 7 + j]? = l[i].vals[j]?
  | r :: l, 0, h, j, hj => by
    have : j < r.vals.length := by simpa [Cl.vals] using hj
    simp only [clsV, List.flatMap_cons]
    rw [List.getElem?_append_left (by omega)]
    simp
  | r :: l, i + 1, h, j, hj => by
    have := clsV_get (l := l) (i := i) (by simpa using h) j hj
    simp only [clsV, List.flatMap_cons] at this ⊢
    rw [List.getElem?_append_right (by simp [Cl.vals]; omega)]
    simp only [List.getElem_cons_succ]
    rw [← this]
    congr 1
    simp [Cl.vals]
    omega

/-- A function value that says of one whether p holds, and does nothing else. -/
def IsK (H : AH) (f : Value) (p : Cl → Bool) : Prop := (nl f = true ∧ isU f = false ∧ f.cells = #[f]) ∧ ∀ H', Ext H H' → ∀ x lim, apL Tryz.prog pf f [clV x] lim H' = some (.bool (p x), H')

theorem clV_cells {H : AH} {xs : List Cl} {v : Value} (hv : Sl H v xs.length (clsV xs)) {i : Nat} (hi : i < xs.length) : ∃ b o c, v = .slice (some ⟨b, o, none⟩) xs.length c ∧
    hcell H b (o + i * 7) = some (.int .i64 xs[i].dr) ∧ hcell H b (o + i * 7 + 1) = some (.int .i64 xs[i].seas) ∧ hcell H b (o + i * 7 + 2) = some (.int .i64 xs[i].mv) ∧ hcell H b (o + i * 7 + 3) = some (.int .i64 xs[i].idle) ∧ hcell H b (o + i * 7 + 4) = some (.int .i64 xs[i].res) ∧ hcell H b (o + i * 7 + 5) = some (.int .i64 xs[i].seats) ∧ hcell H b (o + i * 7 + 6) = some (.int .i64 xs[i].mom) := by
  obtain ⟨aa, ac, rfl, hd⟩ := hv
  obtain ⟨b, o, rfl, _⟩ := hd (i * 7) _ (by have := clsV_get hi 0 (by omega); rw [Nat.add_zero] at this; exact this)
  have key : ∀ j (hj : j < 7) x, xs[i].vals[j]? = some x → hcell H b (o + i * 7 + j) = some x := by
    intro j hj x hx
    obtain ⟨b', o', e, c⟩ := hd (i * 7 + j) x ((clsV_get hi j hj).trans hx)
    cases e
    rw [Nat.add_assoc]; exact c
  refine ⟨b, o, ac, rfl, key 0 (by omega) _ rfl, key 1 (by omega) _ rfl, key 2 (by omega) _ rfl, key 3 (by omega) _ rfl, key 4 (by omega) _ rfl, key 5 (by omega) _ rfl, key 6 (by omega) _ rfl⟩

def clOk (r : Cl) : Bool := (decide (1 ≤ r.dr) && decide (r.dr ≤ 100)) && (decide (0 ≤ r.seas) && decide (r.seas ≤ 100)) && (decide (1 ≤ r.mv) && decide (r.mv ≤ 100)) && (decide (0 ≤ r.idle) && decide (r.idle ≤ r.mv)) && (decide (0 ≤ r.res) && decide (r.res ≤ 5000)) && (decide (0 ≤ r.seats) && decide (r.seats ≤ 40)) && (decide (0 ≤ r.mom) && decide (r.mom ≤ 1000000))

theorem run_isClass (r : Cl) (lim : Nat) (H0 : AH) : apL Tryz.prog pf (.func (.func 39) #[] #[]) [clV r] lim H0 = some (.bool (clOk r), H0) := by
  rw [apL_func _ _ _ _ _ _ (by rfl), sf_launch_isClass_eq]
  generalize hH1 : H0 ++ [ABlk.rw 0 [.int .i64 1], .rw 0 [.int .i64 100]] = H1
  have b0 := fun lim => run_between 1 100 lim H0
  have e0 := fun x lim => ext_between H0 1 100 x lim
  rw [hH1] at b0 e0
  generalize hH2 : H1 ++ [ABlk.rw 0 [.int .i64 0], .rw 0 [.int .i64 100]] = H2
  have b1 := fun lim => run_between 0 100 lim H1
  have e1 := fun x lim => ext_between H1 0 100 x lim
  rw [hH2] at b1 e1
  generalize hH3 : H2 ++ [ABlk.rw 0 [.int .i64 1], .rw 0 [.int .i64 100]] = H3
  have b2 := fun lim => run_between 1 100 lim H2
  have e2 := fun x lim => ext_between H2 1 100 x lim
  rw [hH3] at b2 e2
  generalize hH4 : H3 ++ [ABlk.rw 0 [.int .i64 0], .rw 0 [.int .i64 r.mv]] = H4
  have b3 := fun lim => run_between 0 r.mv lim H3
  have e3 := fun x lim => ext_between H3 0 r.mv x lim
  rw [hH4] at b3 e3
  generalize hH5 : H4 ++ [ABlk.rw 0 [.int .i64 0], .rw 0 [.int .i64 5000]] = H5
  have b4 := fun lim => run_between 0 5000 lim H4
  have e4 := fun x lim => ext_between H4 0 5000 x lim
  rw [hH5] at b4 e4
  generalize hH6 : H5 ++ [ABlk.rw 0 [.int .i64 0], .rw 0 [.int .i64 40]] = H6
  have b5 := fun lim => run_between 0 40 lim H5
  have e5 := fun x lim => ext_between H5 0 40 x lim
  rw [hH6] at b5 e5
  generalize hH7 : H6 ++ [ABlk.rw 0 [.int .i64 0], .rw 0 [.int .i64 1000000]] = H7
  have b6 := fun lim => run_between 0 1000000 lim H6
  have e6 := fun x lim => ext_between H6 0 1000000 x lim
  rw [hH7] at b6 e6
  simp only [betweenV] at b0 e0 b1 e1 b2 e2 b3 e3 b4 e4 b5 e5 b6 e6
  simp only [clV]
  cases c0 : (decide (1 ≤ r.dr) && decide (r.dr ≤ 100)) with
  | false => simp [sf_launch_isClass, b0, e0, c0, clOk, pf_pure, pureF]
  | true =>
  cases c1 : (decide (0 ≤ r.seas) && decide (r.seas ≤ 100)) with
  | false => simp [sf_launch_isClass, b0, e0, b1, e1, c0, c1, clOk, pf_pure, pureF]
  | true =>
  cases c2 : (decide (1 ≤ r.mv) && decide (r.mv ≤ 100)) with
  | false => simp [sf_launch_isClass, b0, e0, b1, e1, b2, e2, c0, c1, c2, clOk, pf_pure, pureF]
  | true =>
  cases c3 : (decide (0 ≤ r.idle) && decide (r.idle ≤ r.mv)) with
  | false => simp [sf_launch_isClass, b0, e0, b1, e1, b2, e2, b3, e3, c0, c1, c2, c3, clOk, pf_pure, pureF]
  | true =>
  cases c4 : (decide (0 ≤ r.res) && decide (r.res ≤ 5000)) with
  | false => simp [sf_launch_isClass, b0, e0, b1, e1, b2, e2, b3, e3, b4, e4, c0, c1, c2, c3, c4, clOk, pf_pure, pureF]
  | true =>
  cases c5 : (decide (0 ≤ r.seats) && decide (r.seats ≤ 40)) with
  | false => simp [sf_launch_isClass, b0, e0, b1, e1, b2, e2, b3, e3, b4, e4, b5, e5, c0, c1, c2, c3, c4, c5, clOk, pf_pure, pureF]
  | true =>
  cases c6 : (decide (0 ≤ r.mom) && decide (r.mom ≤ 1000000)) with
  | false => simp [sf_launch_isClass, b0, e0, b1, e1, b2, e2, b3, e3, b4, e4, b5, e5, b6, e6, c0, c1, c2, c3, c4, c5, c6, clOk, pf_pure, pureF]
  | true =>
  simp [sf_launch_isClass, b0, e0, b1, e1, b2, e2, b3, e3, b4, e4, b5, e5, b6, e6, c0, c1, c2, c3, c4, c5, c6, clOk, pf_pure, pureF]

def classF : Value := .func (.func 39) #[] #[]
theorem isK_class (H : AH) : IsK H classF clOk := ⟨⟨by simp [classF], rfl, rfl⟩, fun H' _ x lim => run_isClass x lim H'⟩

theorem run_launchCheck (r : Cl) (lim : Nat) (H : AH) : apL Tryz.prog pf (.func (.func 15) #[] #[]) [clV r] lim H = some (.int .i64 (if clOk r then 0 else 50), H) := by
  rw [apL_func _ _ _ _ _ _ (by rfl), sf_launch_Check_eq]
  have h := fun lim => run_isClass r lim H
  simp only [clV] at h ⊢
  cases hk : clOk r <;> simp [sf_launch_Check, h, hk, pf_pure, pureF]

@[simp] theorem run_from5 (n l h : Int) (lim : Nat) (H : AH) : apL Tryz.prog pf (.func (.func 41) #[] #[]) [.int .i64 n, .int .i64 l, .int .i64 h] lim H = some (.bool (decide (l ≤ n) && decide (n ≤ h)), H) := by
  rw [apL_func _ _ _ _ _ _ (by rfl), sf_cobleref05_from_eq]
  by_cases h1 : l ≤ n <;> simp [sf_cobleref05_from, h1, pf_pure, pureF]

set_option maxHeartbeats 1000000 in
theorem run_Check5 (r : Cl) (lim : Nat) (H : AH) : apL Tryz.prog pf (.func (.func 16) #[] #[]) [clV r] lim H = some (.int .i64 (if clOk r then 0 else 50), H) := by
  rw [apL_func _ _ _ _ _ _ (by rfl), sf_cobleref05_Check_eq]
  simp only [clV]
  cases c0 : (decide (1 ≤ r.dr) && decide (r.dr ≤ 100)) with
  | false => simp [sf_cobleref05_Check, run_IsDraught, c0, clOk, pf_pure, pureF]
  | true =>
  cases c1 : (decide (0 ≤ r.seas) && decide (r.seas ≤ 100)) with
  | false => simp [sf_cobleref05_Check, run_IsDraught, c0, c1, clOk, pf_pure, pureF]
  | true =>
  cases c2 : (decide (1 ≤ r.mv) && decide (r.mv ≤ 100)) with
  | false => simp [sf_cobleref05_Check, run_IsDraught, c0, c1, c2, clOk, pf_pure, pureF]
  | true =>
  cases c3 : (decide (0 ≤ r.idle) && decide (r.idle ≤ r.mv)) with
  | false => simp [sf_cobleref05_Check, run_IsDraught, c0, c1, c2, c3, clOk, pf_pure, pureF]
  | true =>
  cases c4 : (decide (0 ≤ r.res) && decide (r.res ≤ 5000)) with
  | false => simp [sf_cobleref05_Check, run_IsDraught, c0, c1, c2, c3, c4, clOk, pf_pure, pureF]
  | true =>
  cases c5 : (decide (0 ≤ r.seats) && decide (r.seats ≤ 40)) with
  | false => simp [sf_cobleref05_Check, run_IsDraught, c0, c1, c2, c3, c4, c5, clOk, pf_pure, pureF]
  | true =>
  cases c6 : (decide (0 ≤ r.mom) && decide (r.mom ≤ 1000000)) with
  | false => simp [sf_cobleref05_Check, run_IsDraught, c0, c1, c2, c3, c4, c5, c6, clOk, pf_pure, pureF]
  | true =>
  simp [sf_cobleref05_Check, run_IsDraught, c0, c1, c2, c3, c4, c5, c6, clOk, pf_pure, pureF]
end Go.Proofs.YtnpifaanhofonaaGreatDoor
