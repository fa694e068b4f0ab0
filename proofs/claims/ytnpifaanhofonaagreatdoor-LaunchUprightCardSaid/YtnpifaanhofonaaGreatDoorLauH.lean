import Derived.Test.YtnpifaanhofonaaGreatDoorLauG
set_option linter.all false

/- Contracts of layer 5: the reference's order of lists, its Board; lists of numbers compared. -/
namespace Go.Proofs.YtnpifaanhofonaaGreatDoor
open Go Go.RowKit

def beLoop : SC := sf_cobleref05_before.body.loops.headD .skip

theorem natI_get {l : List Nat} {j : Nat} (h : j < l.length) : (ints (natI l))[j]? = some (.int .i64 (l[j] : Nat)) := by simp [ints, natI, h]

theorem lexB_drop : ∀ (l m : List Nat) (j : Nat), l.length = m.length → (∀ i (h : i < l.length) (h' : i < m.length), i < j → l[i] = m[i]) → lexB l m = lexB (l.drop j) (m.drop j)
  | l, m, 0, _, _ => rfl
  | [], [], j + 1, _, _ => by simp
  | [], _ :: _, _ + 1, h, _ => by simp at h
  | _ :: _, [], _ + 1, h, _ => by simp at h
  | a :: l, b :: m, j + 1, h, hs => by
    have e := hs 0 (by simp) (by simp) (by omega)
    simp only [List.getElem_cons_zero] at e
    subst e
    rw [List.drop_succ_cons, List.drop_succ_cons, ← lexB_drop l m j (by simpa using h) fun i h1 h2 h3 => by
      have := hs (i + 1) (by simpa using h1) (by simpa using h2) (by omega)
      simpa using this]
    rw [lexB, if_pos rfl]

theorem run_before (l m : List Nat) (hl : l.length ≤ 1000) (hm : m.length ≤ 1000) (lim : Nat) (H : AH) (a b : Value) (ha : Sl H a l.length (ints (natI l))) (hb : Sl H b m.length (ints (natI m))) :
    apL Tryz.prog pf (.func (.func 67) #[] #[]) [a, b] lim H = some (.bool (befB l m), H) := by
  rw [apL_func _ _ _ _ _ _ (by rfl), sf_cobleref05_before_eq]
  obtain ⟨aa, ac, rfl, hda⟩ := ha
  obtain ⟨ba, bc, rfl, hdb⟩ := hb
  by_cases hlen : l.length = m.length
  rotate_left
  · have h1 : ((l.length : Int) != m.length) = true := by simpa using (by omega : ¬ (l.length : Int) = m.length)
    simp [sf_cobleref05_before, h1, befB, hlen, pf_pure, pureF]
  have hbe : befB l m = lexB l m := by unfold befB; rw [if_pos hlen]
  rw [hbe]
  rw [← hlen]
  simp [sf_cobleref05_before, pf_pure, pureF]
  generalize hS : ({ t := _, L := _, H := _, lim := _, rd := _ } : St) = S
  have key : ∃ q, exL Tryz.prog pf (.loop beLoop) S = some q ∧ (q.2.H = H ∧ ((q.1 = .exit 0 ∧ lexB l m = false) ∨ (q.1 = .ret ∧ tget q.2.t 4 = .bool (lexB l m)))) := by
    refine loop_rule (I := fun k s' => ∃ j, j ≤ l.length ∧ k = l.length - j ∧ tget s'.t 0 = .slice aa l.length ac ∧ tget s'.t 1 = .slice ba l.length bc ∧ tget s'.t 5 = .int .i64 j ∧ s'.H = H ∧ s'.lim = S.lim ∧ ∀ i (h : i < l.length) (h' : i < m.length), i < j → l[i] = m[i]) ?_ l.length S
      ⟨0, by omega, by omega, by subst hS; simp, by subst hS; simp, by subst hS; simp, by subst hS; rfl, rfl, fun i h h' h0 => by omega⟩
    rintro k s' ⟨j, hj, rfl, e0, e1, e5, eH, el, eq⟩
    by_cases hlt : j < l.length
    rotate_left
    · have : j = l.length := by omega
      subst this
      have : lexB l m = false := by rw [lexB_drop l m l.length hlen eq]; simp [lexB]
      simp [beLoop, SC.loops, sf_cobleref05_before, e0, e1, e5, eH, this]
    have hltm : j < m.length := by omega
    obtain ⟨b1, o1, rfl, c1⟩ := hda j _ (natI_get hlt)
    obtain ⟨b2, o2, rfl, c2⟩ := hdb j _ (natI_get hltm)
    have hld : lexB l m = if l[j] = m[j] then lexB (l.drop (j + 1)) (m.drop (j + 1)) else decide (l[j] < m[j]) := by
      rw [lexB_drop l m j hlen eq, List.drop_eq_getElem_cons hlt, List.drop_eq_getElem_cons hltm, lexB]
    have hw : IntKind.i64.wrap ((j : Int) + 1) = (j : Int) + 1 := wrap_i64 (by omega) (by omega)
    simp only [hcell] at c1 c2
    by_cases hx : l[j] = m[j]
    · have hx' : ((l[j] : Nat) : Int) = (m[j] : Nat) := by rw [hx]
      have hx2 : (((l[j] : Nat) : Int) != (m[j] : Nat)) = false := by simpa using hx'
      generalize hlj : l[j] = p at *
      generalize hmj : m[j] = q at *
      subst hx
      simp [beLoop, SC.loops, sf_cobleref05_before, e0, e1, e5, eH, el, hlt, c1, c2, hw]
      refine ⟨_, by omega, j + 1, by omega, rfl, by omega, fun i h h' hi => ?_⟩
      by_cases e : i = j
      · subst e; rw [hlj, hmj]
      · exact eq i h h' (by omega)
    · rw [if_neg hx] at hld
      have hx2 : (((l[j] : Nat) : Int) != (m[j] : Nat)) = true := by simpa using (by omega : ¬ ((l[j] : Nat) : Int) = (m[j] : Nat))
      rw [hld]
      generalize l[j] = p at *
      generalize m[j] = q at *
      simp [beLoop, SC.loops, sf_cobleref05_before, e0, e1, e5, eH, el, hlt, c1, c2, hx2]
  obtain ⟨⟨q, s1⟩, hr, q1, q2⟩ := key
  simp [beLoop, SC.loops, sf_cobleref05_before] at hr
  rw [hr]
  simp only at q1 q2
  rcases q2 with ⟨rfl, h⟩ | ⟨rfl, h⟩
  · simp [q1, h]
  · simp [q1, h]
end Go.Proofs.YtnpifaanhofonaaGreatDoor
