/- Layer 6: legs in the heap. -/
import Derived.Test.YthobfecblpnnnaaGreatDoorLanT
import Derived.Test.YthobfecblpnnnaaGreatDoorOwn
set_option linter.all false
namespace Go.Proofs.YthobfecblpnnnaaGreatDoor
open Go Go.RowKit

def Lg.vals (l : Lg) (s : Value) : List Value := [.int .i64 l.t0, .int .i64 l.lv, .int .i64 l.dr, .bool l.tl, s]
def lgV (l : Lg) (s : Value) : Value := .agg #[.int .i64 l.t0, .int .i64 l.lv, .int .i64 l.dr, .bool l.tl, s]
/-- The cells of a list of legs: their own lists are ss. -/
def lgsV : List Lg → List Value → List Value
  | l :: ls, s :: ss => l.vals s ++ lgsV ls ss
  | _, _ => []

theorem lgsV_length : ∀ (ls : List Lg) (ss : List Value), ss.length = ls.length → (lgsV ls ss).length = ls.length * 5
  | [], [], _ => rfl
  | l :: ls, s :: ss, h => by
    have := lgsV_length ls ss (by simpa using h)
    simp only [lgsV, List.length_append, this, List.length_cons]
    simp [Lg.vals]
    omega
  | [], _ :: _, h => by cases h
  | _ :: _, [], h => by cases h

theorem lgsV_get : ∀ {ls : List Lg} {ss : List Value} {i : Nat} (h : i < ls.length) (h' : i < ss.length) (j : Nat) (_ : j < 5), (lgsV ls ss)[i * 5 + j]? = (ls[i].vals ss[i])[j]?
  | l :: ls, s :: ss, 0, h, h', j, hj => by
    have : j < (l.vals s).length := by simpa [Lg.vals] using hj
    simp only [lgsV]
    rw [List.getElem?_append_left (by omega)]
    simp
  | l :: ls, s :: ss, i + 1, h, h', j, hj => by
    have := lgsV_get (ls := ls) (ss := ss) (i := i) (by simpa using h) (by simpa using h') j hj
    simp only [lgsV] at this ⊢
    rw [List.getElem?_append_right (by simp [Lg.vals]; omega)]
    simp only [List.getElem_cons_succ]
    rw [← this]
    congr 1
    simp [Lg.vals]
    omega
  | [], _, _, h, _, _, _ => by simp at h
  | _ :: _, [], _, _, h', _, _ => by simp at h'

theorem lgsV_snoc : ∀ (ls : List Lg) (ss : List Value) (l : Lg) (s : Value), ss.length = ls.length → lgsV (ls ++ [l]) (ss ++ [s]) = lgsV ls ss ++ l.vals s
  | [], [], l, s, _ => by simp [lgsV]
  | a :: ls, b :: ss, l, s, h => by
    have := lgsV_snoc ls ss l s (by simpa using h)
    simp [lgsV, this]
  | [], _ :: _, _, _, h => by cases h
  | _ :: _, [], _, _, h => by cases h

/-- A list of legs in the heap, whatever the lengths of their own lists. -/
structure LgSl (H : AH) (v : Value) (ls : List Lg) : Prop where
  ex : ∃ ss : List Value, ss.length = ls.length ∧ Sl H v ls.length (lgsV ls ss) ∧ ∀ i (h : i < ls.length) (h' : i < ss.length), Sl H ss[i] ls[i].cs.length (ints ls[i].cs)

/-- A leg's own list. -/
def CsIn (H : AH) (s : Value) (l : Lg) : Prop := Sl H s l.cs.length (ints l.cs) ∧ l.cs.length < 2 ^ 62

structure LgIn (H : AH) (v : Value) (ls : List Lg) : Prop where
  sl : LgSl H v ls
  cl : ∀ l ∈ ls, l.cs.length < 2 ^ 62
  n : ls.length < 2 ^ 62

theorem LgSl.ext {H H' : AH} (hE : Ext H H') {v : Value} {ls : List Lg} (h : LgSl H v ls) : LgSl H' v ls := by
  obtain ⟨ss, h1, h2, h3⟩ := h.ex
  exact ⟨ss, h1, h2.ext hE, fun i a b => (h3 i a b).ext hE⟩
theorem LgIn.ext {H H' : AH} (hE : Ext H H') {v : Value} {ls : List Lg} (h : LgIn H v ls) : LgIn H' v ls := ⟨h.sl.ext hE, h.cl, h.n⟩
theorem CsIn.ext {H H' : AH} (hE : Ext H H') {v : Value} {l : Lg} (h : CsIn H v l) : CsIn H' v l := ⟨h.1.ext hE, h.2⟩

/-- The leg i, cell by cell. -/
theorem LgSl.get {H : AH} {v : Value} {ls : List Lg} (hv : LgSl H v ls) {i : Nat} (hi : i < ls.length) : ∃ b o c sa sc, v = .slice (some ⟨b, o, none⟩) ls.length c ∧
    hcell H b (o + i * 5) = some (.int .i64 ls[i].t0) ∧ hcell H b (o + i * 5 + 1) = some (.int .i64 ls[i].lv) ∧ hcell H b (o + i * 5 + 2) = some (.int .i64 ls[i].dr) ∧ hcell H b (o + i * 5 + 3) = some (.bool ls[i].tl) ∧
    hcell H b (o + i * 5 + 4) = some (.slice sa ls[i].cs.length sc) ∧ Sl H (.slice sa ls[i].cs.length sc) ls[i].cs.length (ints ls[i].cs) := by
  obtain ⟨ss, hl, ⟨aa, ac, rfl, hd⟩, hs⟩ := hv.ex
  have hi' : i < ss.length := by omega
  obtain ⟨b, o, rfl, _⟩ := hd (i * 5) _ (by have := lgsV_get hi hi' 0 (by omega); rw [Nat.add_zero] at this; exact this)
  have key : ∀ j (hj : j < 5) x, (ls[i].vals ss[i])[j]? = some x → hcell H b (o + i * 5 + j) = some x := by
    intro j hj x hx
    obtain ⟨b', o', e, c⟩ := hd (i * 5 + j) x ((lgsV_get hi hi' j hj).trans hx)
    cases e
    rw [Nat.add_assoc]; exact c
  have hsl := hs i hi hi'
  have hsl0 := hsl
  obtain ⟨sa, sc, es, _⟩ := hsl
  refine ⟨b, o, ac, sa, sc, rfl, key 0 (by omega) _ rfl, key 1 (by omega) _ rfl, key 2 (by omega) _ rfl, key 3 (by omega) _ rfl, ?_, by rw [← es]; exact hsl0⟩
  exact key 4 (by omega) _ (by rw [← es]; rfl)

theorem LgSl.one {H : AH} {v : Value} {ls : List Lg} (hv : LgSl H v ls) : ∃ a c, v = .slice a ls.length c := by
  obtain ⟨ss, hl, ⟨aa, ac, e, _⟩, _⟩ := hv.ex
  exact ⟨aa, ac, e⟩

/-- A function value that says of a leg whether p holds, and does nothing else. -/
def IsG (H : AH) (f : Value) (p : Lg → Bool) : Prop := (nl f = true ∧ isU f = false ∧ f.cells = #[f]) ∧ ∀ H', Ext H H' → ∀ (l : Lg) s, CsIn H' s l → ∀ lim, apL Tryz.prog pf f [lgV l s] lim H' = some (.bool (p l), H')

/-- One that says it of those of a list. -/
def IsGo (ls : List Lg) (H : AH) (f : Value) (p : Lg → Bool) : Prop := (nl f = true ∧ isU f = false ∧ f.cells = #[f]) ∧ ∀ H', Ext H H' → ∀ l ∈ ls, ∀ s, CsIn H' s l → ∀ lim, apL Tryz.prog pf f [lgV l s] lim H' = some (.bool (p l), H')
theorem IsG.on {H : AH} {f : Value} {p : Lg → Bool} (h : IsG H f p) (ls : List Lg) : IsGo ls H f p := ⟨h.1, fun H' hE l _ s hs lim => h.2 H' hE l s hs lim⟩
end Go.Proofs.YthobfecblpnnnaaGreatDoor
