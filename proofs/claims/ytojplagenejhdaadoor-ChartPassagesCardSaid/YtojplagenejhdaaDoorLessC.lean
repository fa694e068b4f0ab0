/- Contracts of the functions, in the abstract machine: the second loop of the law ChartLess. -/
import Derived.Test.YtojplagenejhdaaDoorLessB
set_option linter.all false
namespace Go.Proofs.YtojplagenejhdaaDoor
open Go Go.RowKit

theorem embE_ok {c : Ch} (hok : ChOk c) {g : Int} (hg : 1 ≤ g ∧ g ≤ 100) {i k : Nat} (hi : i < c.cells) (hk : k < c.ticks) : embE c g [(i : Int)] [(k : Int)] = 0 := by
  have h0 : openE c [(i : Int)] [(k : Int)] = 0 := by
    rw [openE_eq hok]
    have h1 : inN c.cells (i : Int) = true := inN_iff.2 ⟨i, hi, rfl⟩
    have h2 : inN c.ticks (k : Int) = true := inN_iff.2 ⟨k, hk, rfl⟩
    simp [h1, h2]
  rw [embE_of0 h0, if_pos hg]

theorem floats_ok {c : Ch} (hok : ChOk c) {g : Int} (hg : 1 ≤ g ∧ g ≤ 100) {i k : Nat} (hi : i < c.cells) (hk : k < c.ticks) : floatsR c g i k = .tuple #[.bool (c.sure g i k), .bool (c.may g i k), .int .i64 0] := by
  unfold floatsR
  rw [embE_ok hok hg hi hk]
  simp

set_option maxHeartbeats 2000000 in
theorem less_loop2 (c q : Ch) (hok : ChOk c) (hoq : ChOk q) (ec : q.cells = c.cells) (ek : q.ticks = c.ticks) (A H : AH) (d t s : Value) (hc : ChIn A c d t s) (hq : ChIn A q (cpd H c) (cpt H c) (cps H c)) (hqw : q.w = c.w ∧ q.h = c.h) (g y : Int) (hg : 1 ≤ g ∧ g ≤ 100) (hy : 0 ≤ y ∧ y < g) (a : Int) {k : Nat} (hk : k < c.ticks) (va vb : Value) (la lb : List Int) (hla : la.length = c.cells) (hlb : lb.length = c.cells) (hva : Sl A va la.length (ints la)) (hvb : Sl A vb lb.length (ints lb))
    (F : ∀ i, i < c.cells → (c.sure g i k = true → c.may g i k = true ∧ c.sure (g - y) i k = true ∧ q.sure g i k = true) ∧ (q.may g i k = true → c.may g i k = true) ∧ (0 ≤ la.getD i 0 → 0 ≤ lb.getD i 0 ∧ lb.getD i 0 ≤ la.getD i 0)) (S : St)
    (h2 : tget S.t 2 = .int .i64 y) (h4 : tget S.t 4 = .pointer (some ⟨4, 0, some 0⟩)) (h5 : tget S.t 5 = .pointer (some ⟨5, 0, some 0⟩)) (h9 : tget S.t 9 = .pointer (some ⟨9, 0, some 0⟩)) (h11 : tget S.t 11 = va) (h13 : tget S.t 13 = vb) (h15 : tget S.t 15 = .int .i64 0) (hL : S.L = lessL c H g a k d t s) (hH : S.H = A) :
    ∃ r, exL Tryd.prog pf (.loop lessLoop2) S = some r ∧ r.1 = .exit 2 ∧ r.2.H = A := by
  have f1 := fun x lim => run_Floats c lim A d t s hc g x k
  have f2 := fun x lim => run_Floats c lim A d t s hc (g - y) x k
  have f3 := fun x lim => run_Floats q lim A _ _ _ hq g x k
  have hwg : IntKind.i64.wrap (g - y) = g - y := wrap_i64 (by omega) (by omega)
  obtain ⟨p0, p1⟩ := hok.pos
  obtain ⟨aa, ac, rfl, hda⟩ := hva
  obtain ⟨ba, bc, rfl, hdb⟩ := hvb
  obtain ⟨da, dc, ed, _⟩ := hc.d
  obtain ⟨ta, tc, et, _⟩ := hc.t
  obtain ⟨sa, sc, es, _⟩ := hc.s
  simp only [chV, ed, et, es, hqw.1, hqw.2, cpd, cpt, cps] at f1 f2 f3
  refine loop_rule (I := fun m s' => ∃ i, i ≤ c.cells ∧ m = c.cells - i ∧ tget s'.t 2 = .int .i64 y ∧ tget s'.t 4 = .pointer (some ⟨4, 0, some 0⟩) ∧ tget s'.t 5 = .pointer (some ⟨5, 0, some 0⟩) ∧ tget s'.t 9 = .pointer (some ⟨9, 0, some 0⟩) ∧ tget s'.t 11 = .slice aa la.length ac ∧ tget s'.t 13 = .slice ba lb.length bc ∧ tget s'.t 15 = .int .i64 i ∧ s'.L = S.L ∧ s'.H = A) ?_ c.cells S
    ⟨0, by omega, by omega, h2, h4, h5, h9, h11, h13, h15, rfl, hH⟩
  rintro m s' ⟨i, hi, rfl, e2, e4, e5, e9, e11, e13, e15, eL, eH⟩
  rw [hL] at eL
  by_cases hlt : i < c.cells
  rotate_left
  · have : i = c.cells := by omega
    subst this
    simp [lessLoop2, SC.loops, sf_coblelaw01_ChartLess, e11, e15, eH, hla]
  have hw1 : IntKind.i64.wrap ((i : Int) + 1) = (i : Int) + 1 := wrap_i64 (by omega) (by omega)
  have f1 := fun lim => f1 i lim
  have f2 := fun lim => f2 i lim
  have f3 := fun lim => f3 i lim
  rw [floats_ok hok hg hlt hk] at f1
  rw [floats_ok hok (by omega) hlt hk] at f2
  rw [floats_ok hoq hg (by omega) (by omega)] at f3
  obtain ⟨b1, o1, rfl, c1⟩ := hda i (.int .i64 (la.getD i 0)) (ints_getE la i (by omega))
  obtain ⟨b2, o2, rfl, c2⟩ := hdb i (.int .i64 (lb.getD i 0)) (ints_getE lb i (by omega))
  obtain ⟨F1, F2, F3⟩ := F i hlt
  simp only [hcell] at c1 c2
  simp only [lessL, ed, et, es, cpd, cpt, cps] at eL hL
  generalize la.getD i 0 = X at *
  generalize lb.getD i 0 = Y at *
  generalize c.sure g i k = s0 at *
  generalize c.may g i k = m0 at *
  generalize c.sure (g - y) i k = is at *
  generalize q.sure g i k = so at *
  generalize q.may g i k = cn at *
  have hlt1 : i < la.length := by omega
  have fin : ∀ s0 m0 is so cn : Bool, (s0 = true → m0 = true ∧ is = true ∧ so = true) → (cn = true → m0 = true) → (s0 = true ∧ m0 = true ∧ is = true ∧ so = true) ∨ (s0 = false ∧ cn = false) ∨ (s0 = false ∧ cn = true ∧ m0 = true) := by
    intro s0 m0 is so cn
    cases s0 <;> cases m0 <;> cases is <;> cases so <;> cases cn <;> simp
  rcases fin s0 m0 is so cn F1 F2 with ⟨rfl, rfl, rfl, rfl⟩ | ⟨rfl, rfl⟩ | ⟨rfl, rfl, rfl⟩
  all_goals
    by_cases px : 0 ≤ X
    · have hY := F3 px
      have hy1 : ¬ Y < 0 := by omega
      have hy2 : ¬ X < Y := by omega
      (try cases cn) <;>
      · simp [lessLoop2, SC.loops, sf_coblelaw01_ChartLess, e2, e4, e5, e9, e11, e13, e15, eL, eH, hla, hlb, hlt, hlt1, f1, f2, f3, hwg, hw1, c1, c2, px, hy1, hy2, hL]
        exact ⟨_, by omega, i + 1, by omega, rfl, by omega⟩
    · (try cases cn) <;>
      · simp [lessLoop2, SC.loops, sf_coblelaw01_ChartLess, e2, e4, e5, e9, e11, e13, e15, eL, eH, hla, hlb, hlt, hlt1, f1, f2, f3, hwg, hw1, c1, c2, px, hL]
        exact ⟨_, by omega, i + 1, by omega, rfl, by omega⟩
end Go.Proofs.YtojplagenejhdaaDoor
