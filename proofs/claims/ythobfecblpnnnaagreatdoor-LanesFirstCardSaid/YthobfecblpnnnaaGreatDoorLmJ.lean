/- Layer 6: the law LanesFirst. -/
import Derived.Test.YthobfecblpnnnaaGreatDoorRouE
import Derived.Test.YthobfecblpnnnaaGreatDoorTlLanesFirst
set_option linter.all false
namespace Go.Proofs.YthobfecblpnnnaaGreatDoor
open Go Go.RowKit

/-- A trip with cells, as a value. -/
def wyV (p : Tp) (s : Value) : Value := .agg #[.int .i64 p.t0, .int .i64 p.lv, .int .i64 p.dr, .bool p.tl, .int .i64 p.fr, .int .i64 p.to, s]

set_option maxHeartbeats 4000000 in
theorem first_law (c : Ch) (ls : List Lg) (hn : ls.length < 2 ^ 63) (p : Tp) (cs : List Int) (lim : Nat) (H : AH) (hH : noLp H = true) (hG : H[waysG]? = some (.ro waysV)) (d t s v sv : Value) (hs : ChSl H c d t s) (hv : LgSl H v ls) (hsv : Sl H sv cs.length (ints cs)) (hcl : cs.length < 2 ^ 63) :
    ∃ H', apL Tryz.prog pf (.func (.func 4) #[] #[]) [chV c d t s, v, wyV p sv] lim H = some (.bool true, H') := by
  refine ⟨H, ?_⟩
  rw [apL_func _ _ _ _ _ _ (by rfl), sf_coblelaw06_LanesFirst_eq]
  have hV := fun lim => run_valid6 c ls hn lim H d t s v hs hv
  have hW := fun lim => run_works6 lim H hG
  obtain ⟨va, vc, ev⟩ := hv.one
  obtain ⟨xa, xc, ex, _⟩ := id hsv
  obtain ⟨⟨da, dc, ed, _⟩, ⟨ta, tc, et, _⟩, ⟨sa, sc, es, _⟩⟩ := id hs
  cases a1 : valid6 c ls with
  | false =>
    rw [a1] at hV
    simp only [chV, ed, et, es, ev] at hV
    simp [sf_coblelaw06_LanesFirst, chV, wyV, ed, et, es, ev, ex, hV, hW, pf_pure, pureF]
  | true =>
  rw [a1] at hV
  obtain ⟨v1, v2, v3, v4⟩ := valid6_iff.1 a1
  obtain ⟨hok, hl12, hall⟩ := legE_zero.1 v4
  have hc : ChIn H c d t s := Far6.in hs v1
  have hv' : LgIn H v ls := FarL.in hv v2
  have hin := lgsIn_of hok hall
  have hnn := lgsNn_of hall
  have hT := fun lim => run_IsTrip6 c hok p lim H d t s hc
  have hV0 := hV
  simp only [chV, tpV, ed, et, es, ev] at hV hT
  cases a2 : tpOk c p with
  | false =>
    rw [a2] at hT
    simp [sf_coblelaw06_LanesFirst, chV, wyV, ed, et, es, ev, ex, hV, hT, hW, pf_pure, pureF]
  | true =>
  rw [a2] at hT
  by_cases a3 : cs.length = 0
  · have a3' : ((cs.length : Int) == 0) = true := by simp [a3]
    simp [sf_coblelaw06_LanesFirst, chV, wyV, ed, et, es, ev, ex, hV, hT, a3, hW, pf_pure, pureF]
  have a3' : ((cs.length : Int) == 0) = false := by simpa using a3
  by_cases a4 : 80 < cs.length
  · have a4' : (80 : Int) < (cs.length : Int) := by omega
    simp [sf_coblelaw06_LanesFirst, chV, wyV, ed, et, es, ev, ex, hV, hT, a3, a3', a4, a4', hW, pf_pure, pureF]
  have a4' : ¬ (80 : Int) < (cs.length : Int) := by omega
  have hI := fun lim => run_isRoute6 c hok ls hin hnn p cs H d t s v sv hc hv' hsv (by omega) lim
  simp only [chV, tpV, ed, et, es, ev, ex] at hI
  cases a5 : rtB c ls p cs with
  | false =>
    rw [a5] at hI
    simp [sf_coblelaw06_LanesFirst, chV, wyV, ed, et, es, ev, ex, hV, hT, a3, a3', a4, a4', hI, hW, pf_pure, pureF]
  | true =>
  rw [a5] at hI
  obtain ⟨_, hrt⟩ := rtB_iff.1 a5
  obtain ⟨r, A, r1, g1, g2⟩ := run_Route_ok c ls p H hH hG d t s v hc hv' v4 a2
  cases hro : routeM c ls p with
  | none => exact absurd hrt (routeM_none a2 hro cs)
  | some ns =>
    rw [hro] at g2
    obtain ⟨r0, rfl, b, hb, rfl, hbA⟩ := g2
    obtain ⟨m1, m2⟩ := routeM_some a2 hro
    have m3 := m2 cs hrt
    have hB := fun lim => run_Block_some c ls p A (g1.nlp hH) (g1.ext _ _ hG) d t s v (hc.ext g1.ext) (hv'.ext g1.ext) v4 a2 (by rw [hro]; rfl) lim
    have hsl : Sl A (.slice (some ⟨b, 0, none⟩) (ns.map Int.ofNat).length (ns.map Int.ofNat).length) (ns.map Int.ofNat).length (ints (ns.map Int.ofNat)) := Sl.made hbA rfl
    have hI2 := fun lim => run_isRoute6 c hok ls hin hnn p (ns.map Int.ofNat) A d t s v _ (hc.ext g1.ext) (hv'.ext g1.ext) hsl (by simp; omega) lim
    have hrb : rtB c ls p (ns.map Int.ofNat) = true := rtB_iff.2 ⟨by simp; omega, m1⟩
    rw [hrb] at hI2
    have hWA := fun lim => run_works6 lim A (g1.ext _ _ hG)
    have hnl : (ns.map Int.ofNat).length = ns.length := by simp
    rw [hnl] at hI2 r1
    have m4 : (ns.length : Int) ≤ (cs.length : Int) := by omega
    simp only [chV, tpV, ed, et, es, ev] at r1 hB hI2
    simp [sf_coblelaw06_LanesFirst, chV, wyV, ed, et, es, ev, ex, hV, hT, a3, a3', a4, a4', hI, r1, hB, hI2, hWA, m4, hW, pf_pure, pureF]
end Go.Proofs.YthobfecblpnnnaaGreatDoor
