import Derived.Test.YthobfecblpnnnaaGreatDoorCoreC
import Derived.ChangeShapes
import Derived.OpenShut
import Derived.RowKit3
import Derived.RowKit
import Derived.ChangeSame
import Derived.ReadAgain
set_option linter.all false

/- What readable arguments are to the abstract machine. -/
namespace Go.Proofs.YthobfecblpnnnaaGreatDoor
open Go Go.RowKit

variable {P : Program} {H : Type} {enc : TypeId × Value → H}

mutual
/-- The cells of a datum, and the blocks that it lays from the n-th one on. -/
def absD : DataW H → Nat → List Value × List ABlk
  | .lit l, _ => ([l.value], [])
  | .slice [] _, _ => ([.slice none 0 1], [])
  | .slice (d :: ds) _, n =>
    let r := absDs (d :: ds) (n + 1)
    ([.slice (some ⟨n, 0, none⟩) (ds.length + 1) (ds.length + 2)], .ro r.1 :: r.2)
  | .agg parts, n => absDs parts n
  | .nil, _ => ([.slice none 0 1], [])
  | .ptr _, _ => ([], [])
  | .iface _ _, _ => ([], [])
  | .map _, _ => ([], [])
  | .held _, _ => ([], [])
def absDs : List (DataW H) → Nat → List Value × List ABlk
  | [], _ => ([], [])
  | d :: ds, n =>
    let r := absD d n
    let q := absDs ds (n + r.2.length)
    (r.1 ++ q.1, r.2 ++ q.2)
end

/-- Types whose values are read so: numbers, truth values, strings, structures, arrays, slices of these. -/
def supT (P : Program) : Nat → TypeId → Bool
  | 0, _ => false
  | n + 1, t => match P.underlying t with
    | some .bool | some (.int _) | some .string => true
    | some (.struct fs) => fs.toList.all (fun f => supT P n f.type) && tile fs.toList 0 == some (P.cellsOf t)
    | some (.array k e) => supT P n e && P.cellsOf t == k * P.cellsOf e
    | some (.slice e) => supT P n e && decide (0 < P.cellsOf e)
    | _ => false
where
  tile : List Field → Nat → Option Nat
    | [], k => some k
    | f :: r, k => if f.offset = k then tile r (k + P.cellsOf f.type) else none

def chunks : List Nat → Nat → List Value → List (List Value)
  | [], _, _ => []
  | s :: r, k, cs => (cs.drop k).take s :: chunks r (k + s) cs

theorem chunks_flatten : ∀ (szs : List Nat) (k : Nat) (cs : List Value), (chunks szs k cs).flatten = (cs.drop k).take szs.sum
  | [], k, cs => by simp [chunks]
  | s :: r, k, cs => by
    rw [chunks, List.flatten_cons, chunks_flatten r, List.sum_cons, List.take_add, List.drop_drop]

theorem chunks_length : ∀ (szs : List Nat) (k : Nat) (cs : List Value), (chunks szs k cs).length = szs.length
  | [], _, _ => rfl
  | s :: r, k, cs => by simp [chunks, chunks_length r]

/-- The world's cells are what the datum says, in the abstract heap laid out. -/
def Lays (P : Program) (W : World) (cs : List Value) (a : Nat → List Value × List ABlk) : Prop :=
  ∀ h0 H0, WRel P W.heap.size (Mp0 h0) (fun _ => .other) H0 W → ∃ h', (∀ b i, h0 b = some i → h' b = some i) ∧ WRel P W.heap.size (Mp0 h') (fun _ => .other) (H0 ++ (a H0.length).2) W ∧ LsRel (Mp0 h') (a H0.length).1 cs ∧ nlL (a H0.length).1 = true

theorem Mp0_le {h h' : Nat → Option HI} (k : ∀ b i, h b = some i → h' b = some i) : (Mp0 h).le (Mp0 h') := ⟨k, fun _ _ _ h => h⟩

theorem Lays.flat {W : World} {cs : List Value} {vs : List Value} (hv : ∀ h, LsRel (Mp0 h) vs cs) (hn : nlL vs = true) : Lays P W cs (fun _ => (vs, [])) := fun h0 H0 hW =>
  ⟨h0, fun _ _ h => h, by simpa using hW, hv h0, hn⟩

theorem Lays.parts {W : World} : ∀ (css : List (List Value)) (ds : List (DataW H)) (_ : css.length = ds.length) (_ : ∀ j (h : j < css.length) (h' : j < ds.length), Lays P W css[j] (absD ds[j])), Lays P W css.flatten (absDs ds)
  | [], [], _, _ => Lays.flat (fun h => LsRel.nil _) rfl
  | [], _ :: _, h, _ => by simp at h
  | _ :: _, [], h, _ => by simp at h
  | c :: css, d :: ds, hl, h => fun h0 H0 hW => by
    obtain ⟨h1, k1, k2, k3, k4⟩ := h 0 (by simp) (by simp) h0 H0 hW
    obtain ⟨h2, j1, j2, j3, j4⟩ := Lays.parts css ds (by simpa using hl) (fun j p q => by have := h (j + 1) (by simpa using p) (by simpa using q); simpa using this) h1 _ k2
    refine ⟨h2, fun b i e => j1 b i (k1 b i e), ?_, ?_, ?_⟩
    · simp only [List.getElem_cons_zero] at j2 k2
      rw [absDs]
      simp only
      rw [← List.append_assoc]
      simpa using j2
    · rw [absDs, List.flatten_cons]
      simp only [List.getElem_cons_zero, List.length_append] at k3 j3 ⊢
      exact (k3.mono (Mp0_le j1)).append j3
    · rw [absDs]
      simp only [List.getElem_cons_zero, List.length_append] at k4 j4 ⊢
      rw [nlL_append, k4, j4]; rfl

/-- A row that holds the cells. -/
theorem Lays.row {W : World} {a : Addr} (hs : a.spot = none) {len cap : Nat} (hcap : len + 1 ≤ cap + 1) {ds : List (DataW H)} {d : DataW H} (hlen : len = ds.length + 1) {CS : List Value} (hcs : ∀ j (h : j < CS.length), W.cell? ⟨a.block, a.off + j, none⟩ = some CS[j])
    (hpos : 0 < CS.length) (h : Lays P W CS (absDs (d :: ds))) (sp : List (DataW H)) : Lays P W [.slice (some a) len cap] (absD (.slice (d :: ds) sp)) := fun h0 H0 hW => by
  have hblk : a.block < W.heap.size := by
    have := hcs 0 hpos
    simp only [World.cell?] at this
    split at this
    · rename_i hh; exact lt_of_heap hh
    · cases this
  have hs0 := hW.snoc (o2 := fun _ => .other) ⟨a.block, a.off, 0, 0, none⟩ .dead hblk (Nat.le_refl _) (fun _ _ => rfl) (fun _ _ _ => ⟨rfl, rfl⟩) trivial
  obtain ⟨hm1, hW1⟩ := hs0
  obtain ⟨h2, k1, k2, k3, k4⟩ := h (fun b => if b = H0.length then some ⟨a.block, a.off, 0, 0, none⟩ else h0 b) (H0 ++ [ABlk.dead]) hW1
  have hlen1 : (H0 ++ [ABlk.dead]).length = H0.length + 1 := by simp
  rw [hlen1] at k2 k3 k4
  have hi : h2 H0.length = some ⟨a.block, a.off, 0, 0, none⟩ := k1 _ _ (by simp)
  have hturn := k2.turn (m' := Mp0 h2) (o2 := fun _ => .other) (w2 := W) rfl (fun _ _ _ h => h) hi (.ro (absDs (d :: ds) (H0.length + 1)).1) (Nat.le_refl _) (fun _ _ => rfl) (fun _ _ _ => ⟨rfl, rfl⟩)
    ⟨rfl, hblk, k4, fun j hj => by
      have hj2 : j < CS.length := by rw [← k3.1]; exact hj
      exact ⟨CS[j], hcs j hj2, k3.2 j hj hj2⟩⟩
  have hset : (H0 ++ [ABlk.dead] ++ (absDs (d :: ds) (H0.length + 1)).2).set H0.length (.ro (absDs (d :: ds) (H0.length + 1)).1) = H0 ++ (.ro (absDs (d :: ds) (H0.length + 1)).1 :: (absDs (d :: ds) (H0.length + 1)).2) := by
    rw [List.append_assoc, List.set_append_right _ _ (Nat.le_refl _)]
    simp
  rw [hset] at hturn
  refine ⟨h2, fun b i e => k1 b i (hm1.1 _ _ e), ?_, ?_, rfl⟩
  · rw [absD]; exact hturn
  · rw [absD]
    refine LsRel.cons ?_ (LsRel.nil _)
    rw [hlen]
    exact .sl _ _ _ _ _ ⟨a.block, a.off, 0, 0, none⟩ rfl ⟨hs, _, hi, rfl, by simp⟩ hi (fun h => absurd rfl h) (by omega) (fun h => by omega)

theorem Lays.one {W : World} {v : Value} (h : sca v = true) : Lays P W [v] (fun _ => ([v], [])) :=
  Lays.flat (fun h0 => LsRel.cons (VRel.refl_sca _ v h) (LsRel.nil _)) (by simp [nlL, nl_of_sca v h])

theorem chunks_get : ∀ (szs : List Nat) (k : Nat) (cs : List Value) (j : Nat) (h : j < szs.length), (chunks szs k cs)[j]? = some ((cs.drop (k + (szs.take j).sum)).take szs[j])
  | [], _, _, j, h => by simp at h
  | s :: r, k, cs, 0, h => by simp [chunks]
  | s :: r, k, cs, j + 1, h => by
    rw [chunks, List.getElem?_cons_succ, chunks_get r (k + s) cs j (by simpa using h)]
    simp [Nat.add_assoc]

theorem tile_off : ∀ (fs : List Field) (k n : Nat) (_ : supT.tile P fs k = some n), (∀ j (h : j < fs.length), fs[j].offset = k + ((fs.map fun f => P.cellsOf f.type).take j).sum) ∧ n = k + (fs.map fun f => P.cellsOf f.type).sum
  | [], k, n, h => by simp only [supT.tile, Option.some.injEq] at h; exact ⟨fun j h => absurd h (by simp), by simp [h]⟩
  | f :: r, k, n, h => by
    simp only [supT.tile] at h
    split at h
    · rename_i ho
      obtain ⟨h1, h2⟩ := tile_off r _ n h
      refine ⟨fun j hj => ?_, by simp [h2, Nat.add_assoc]⟩
      cases j with
      | zero => simpa using ho
      | succ j => have := h1 j (by simpa using hj); simp [this, Nat.add_assoc]
    · cases h

/-- **What a datum says of cells, the abstract heap holds.** -/
theorem trod_lays {W : World} {base : Nat} {sp : Nat → Bool} {held : Bool} : ∀ (n fuel : Nat) (t : TypeId) (cs : List Value) (d : DataW H) (pl : List MemPlace), supT P n t = true → DataW.trod enc P W base sp held fuel t cs = some (d, pl) → Lays P W cs (absD d)
  | 0, _, _, _, _, _, h, _ => by simp [supT] at h
  | n + 1, fuel, t, cs, d, pl, hs, h => by
    have parts : ∀ (szs : List Nat) (ts : List TypeId) (xs : List (DataW H × List MemPlace)) (m : Nat) (_ : ts.length = szs.length) (_ : xs.length = szs.length) (_ : ∀ j (h : j < ts.length), supT P n ts[j] = true)
        (_ : ∀ j (h : j < szs.length) (h' : j < ts.length), DataW.trod enc P W base sp held m ts[j] ((cs.drop (szs.take j).sum).take szs[j]) = xs[j]?) (_ : cs.length = szs.sum), Lays P W cs (absDs (xs.map (·.1))) := by
      intro szs ts xs m hl hx hsup htr hcs
      have hflat : (chunks szs 0 cs).flatten = cs := by rw [chunks_flatten]; simp [← hcs]
      rw [← hflat]
      refine Lays.parts _ _ (by rw [chunks_length]; simp [hx]) fun j h1 h2 => ?_
      have hj : j < szs.length := by rw [← chunks_length szs 0 cs]; exact h1
      have hg := chunks_get szs 0 cs j hj
      rw [List.getElem?_eq_getElem h1] at hg
      simp only [Option.some.injEq, Nat.zero_add] at hg
      rw [hg]
      have h3 : j < xs.length := by omega
      have := htr j hj (by omega)
      rw [List.getElem?_eq_getElem h3] at this
      have hd : (xs.map (·.1))[j] = xs[j].1 := by simp
      rw [hd]
      exact trod_lays n m _ _ xs[j].1 xs[j].2 (hsup j (by omega)) this
    unfold supT at hs
    split at hs
    · rename_i hu
      obtain ⟨b, rfl, hx⟩ := DataW.trod_bool hu h
      cases hx
      exact Lays.one rfl
    · rename_i k hu
      obtain ⟨i, rfl, hx, _⟩ := DataW.trod_int hu h
      cases hx
      exact Lays.one rfl
    · rename_i hu
      obtain ⟨st, rfl, hx, _⟩ := DataW.trod_string hu h
      cases hx
      have : (Lit.string st.data.toList).value = .string st := by simp [Lit.value]
      have e : absD (H := H) (.lit (.string st.data.toList)) = fun _ => ([.string st], []) := by funext n; rw [absD, this]
      rw [e]
      exact Lays.one rfl
    · rename_i fs hu
      obtain ⟨xs, m, rfl, hx, hlen, hxl, htr⟩ := DataW.trod_struct hu h
      simp only [Prod.mk.injEq] at hx
      obtain ⟨rfl, rfl⟩ := hx
      simp only [Bool.and_eq_true, beq_iff_eq, List.all_eq_true] at hs
      obtain ⟨h1, h2⟩ := hs
      obtain ⟨k1, k2⟩ := tile_off _ _ _ h2
      have e : absD (H := H) (.agg (xs.map (·.1))) = absDs (xs.map (·.1)) := by funext n; rw [absD]
      rw [e]
      refine parts (fs.toList.map fun f => P.cellsOf f.type) (fs.toList.map (·.type)) xs m (by simp) (by simp [hxl]) (fun j hj => by
          have := h1 (fs.toList[j]'(by simpa using hj)) (List.getElem_mem _)
          simpa using this) (fun j hj hj' => ?_) (by rw [hlen, k2]; simp)
      have hj2 : j < fs.size := by simpa using hj
      have := htr j fs[j] (by simp [hj2])
      rw [← this]
      have ho := k1 j (by simpa using hj2)
      simp only [Array.getElem_toList, Nat.zero_add] at ho
      simp only [List.getElem_map, Array.getElem_toList, ho]
    · rename_i k e hu
      obtain ⟨xs, m, rfl, hx, hlen, hxl, htr⟩ := DataW.trod_array hu h
      simp only [Prod.mk.injEq] at hx
      obtain ⟨rfl, rfl⟩ := hx
      simp only [Bool.and_eq_true, beq_iff_eq] at hs
      obtain ⟨h1, h2⟩ := hs
      have e' : absD (H := H) (.agg (xs.map (·.1))) = absDs (xs.map (·.1)) := by funext n; rw [absD]
      rw [e']
      refine parts (List.replicate k (P.cellsOf e)) (List.replicate k e) xs m (by simp) (by simp [hxl]) (fun j hj => by simpa using h1) (fun j hj hj' => ?_) (by rw [hlen, h2]; simp)
      have hj2 : j < k := by simpa using hj
      have := htr j hj2
      rw [← this]
      simp [List.take_replicate, Nat.min_eq_left (Nat.le_of_lt hj2)]
    · rename_i e hu
      simp only [Bool.and_eq_true, decide_eq_true_eq] at hs
      obtain ⟨h1, h2⟩ := hs
      rcases DataW.trod_slice hu h with ⟨rfl, hx⟩ | ⟨a, len, cap, elems, rest, m, rfl, rfl, hx, hb, hlc, hcm, hel, htr, _, _⟩
      · cases hx
        have e' : absD (H := H) .nil = fun _ => ([.slice none 0 1], []) := by funext n; rw [absD]
        rw [e']
        exact Lays.flat (fun h0 => LsRel.cons (.slN _ _ _ (by simp) (by simp)) (LsRel.nil _)) rfl
      · simp only [Prod.mk.injEq] at hx
        obtain ⟨rfl, rfl⟩ := hx
        cases elems with
        | nil =>
          simp only [List.length_nil] at hel
          subst hel
          have e' : absD (H := H) (.slice [] (rest.map (·.1))) = fun _ => ([.slice none 0 1], []) := by funext n; rw [absD]
          rw [List.map_nil, e']
          exact Lays.flat (fun h0 => LsRel.cons (.slN _ _ _ (by simp) (by simp)) (LsRel.nil _)) rfl
        | cons x xs =>
          have hg : ∀ i (hi : i < len), ∃ cs', W.cells? base (a.add (i * P.cellsOf e)) (P.cellsOf e) = some cs' ∧ ∃ hi' : i < (x :: xs).length, DataW.trod enc P W base sp held m e cs' = some (x :: xs)[i] := fun i hi => by
            have := htr i hi
            have hi' : i < (x :: xs).length := by omega
            rw [List.getElem?_eq_getElem hi', Option.bind_eq_some_iff] at this
            obtain ⟨cs', k1, k2⟩ := this
            exact ⟨cs', k1, hi', k2⟩
          have hl0 : 0 < len := by simp at hel; omega
          have hspot : a.spot = none := by
            obtain ⟨cs', k1, _⟩ := hg 0 hl0
            obtain ⟨_, k3, k4⟩ := World.cells?_some k1
            have := k4 0 h2
            rw [Nat.zero_mul] at this
            simp only [Addr.add, if_true] at this
            rw [List.getElem?_eq_getElem (by omega)] at this
            simp only [World.cell?] at this
            cases hsp : a.spot with
            | none => rfl
            | some g => rw [hsp] at this; split at this <;> simp at this
          have haddr : ∀ k, a.add k = ⟨a.block, a.off + k, none⟩ := fun k => by
            obtain ⟨ab, ao, as⟩ := a
            simp only at hspot
            subst hspot
            unfold Addr.add
            split
            · rename_i hk; subst hk; rfl
            · rfl
          have haddr2 : ∀ k q, (a.add k).add q = ⟨a.block, a.off + (k + q), none⟩ := fun k q => by
            rw [haddr k]
            unfold Addr.add
            split
            · rename_i hq; subst hq; rfl
            · simp [Nat.add_assoc]
          -- the cells of the row
          obtain ⟨CS, hCS⟩ : ∃ CS, CS = (List.range (len * P.cellsOf e)).map fun j => (W.cell? ⟨a.block, a.off + j, none⟩).getD (.tuple #[]) := ⟨_, rfl⟩
          have hCSl : CS.length = len * P.cellsOf e := by rw [hCS]; simp
          have hcell : ∀ i, i < len → ∀ q, q < P.cellsOf e → ∃ v, W.cell? ⟨a.block, a.off + (i * P.cellsOf e + q), none⟩ = some v ∧ CS[i * P.cellsOf e + q]? = some v := fun i hi q hq => by
            obtain ⟨cs', k1, _⟩ := hg i hi
            obtain ⟨_, k3, k4⟩ := World.cells?_some k1
            have := k4 q hq
            rw [haddr2, List.getElem?_eq_getElem (by omega)] at this
            refine ⟨_, this, ?_⟩
            have hlt : i * P.cellsOf e + q < len * P.cellsOf e := by
              have : (i + 1) * P.cellsOf e ≤ len * P.cellsOf e := Nat.mul_le_mul_right _ (by omega)
              rw [Nat.succ_mul] at this; omega
            rw [hCS, List.getElem?_map, List.getElem?_range hlt, Option.map_some, this]; rfl
          have hcells : ∀ j (h : j < CS.length), W.cell? ⟨a.block, a.off + j, none⟩ = some CS[j] := fun j hj => by
            have hq : j % P.cellsOf e < P.cellsOf e := Nat.mod_lt _ h2
            have hi : j / P.cellsOf e < len := Nat.div_lt_of_lt_mul (by rw [Nat.mul_comm]; omega)
            obtain ⟨v, k1, k2⟩ := hcell _ hi _ hq
            have ej : j / P.cellsOf e * P.cellsOf e + j % P.cellsOf e = j := by rw [Nat.mul_comm]; exact Nat.div_add_mod j _
            rw [ej] at k1 k2
            rw [List.getElem?_eq_getElem hj] at k2
            rw [k1, k2]
          have hlay : Lays P W CS (absDs ((x :: xs).map (·.1))) := by
            have hflat : (chunks (List.replicate len (P.cellsOf e)) 0 CS).flatten = CS := by rw [chunks_flatten]; simp [← hCSl]
            rw [← hflat]
            refine Lays.parts _ _ (by rw [chunks_length]; simp at hel ⊢; omega) fun j p1 p2 => ?_
            have hj : j < len := by rw [chunks_length] at p1; simpa using p1
            have hgc := chunks_get (List.replicate len (P.cellsOf e)) 0 CS j (by simpa using hj)
            rw [List.getElem?_eq_getElem p1] at hgc
            simp only [Option.some.injEq, Nat.zero_add, List.getElem_replicate, List.take_replicate, List.sum_replicate_nat, Nat.min_eq_left (Nat.le_of_lt hj)] at hgc
            rw [hgc]
            obtain ⟨cs', k1, hi', k2⟩ := hg j hj
            obtain ⟨_, k3, k4⟩ := World.cells?_some k1
            have ecs : (CS.drop (j * P.cellsOf e)).take (P.cellsOf e) = cs' := by
              apply List.ext_getElem?
              intro q
              rw [List.getElem?_take]
              split
              · rename_i hq
                obtain ⟨v, u1, u2⟩ := hcell j hj q hq
                rw [List.getElem?_drop, u2]
                have := k4 q hq
                rw [haddr2, u1] at this
                exact this
              · rename_i hq; rw [List.getElem?_eq_none (by omega)]
            rw [ecs]
            have hd : ((x :: xs).map (·.1))[j] = (x :: xs)[j].1 := by rw [List.getElem_map]
            rw [hd]
            exact trod_lays n m e cs' _ _ h1 k2
          have := Lays.row hspot (len := len) (cap := cap) (by omega) (ds := xs.map (·.1)) (d := x.1) (by simp at hel ⊢; omega) hcells (by rw [hCSl]; exact Nat.mul_pos hl0 h2) (by simpa using hlay) (rest.map (·.1))
          simpa using this
    · cases hs

/-- The value of an argument. -/
def absV (P : Program) (t : TypeId) (cells : List Value) : Value := if isAggT P t then .agg cells.toArray else cells.headD (.tuple #[])

def absVs (P : Program) : List TypeId → List (DataW H) → Nat → List Value × List ABlk
  | t :: ts, d :: ds, n =>
    let r := absD d n
    let q := absVs P ts ds (n + r.2.length)
    (absV P t r.1 :: q.1, r.2 ++ q.2)
  | _, _, _ => ([], [])

theorem absV_rel {W : World} {m : Mp} {n : Nat} {t : TypeId} (hs : supT P n t = true) {r : Reach} {b : Nat} {v : Value} (hv : Value.okWide P W r b t v) {cells : List Value} (h : LsRel m cells v.cells.toList) (hn : nlL cells = true) : VRel m (absV P t cells) v ∧ nl (absV P t cells) = true := by
  cases n with
  | zero => simp [supT] at hs
  | succ n =>
    have single : v.cells.toList = [v] → isAggT P t = false → VRel m (absV P t cells) v ∧ nl (absV P t cells) = true := by
      intro hc ha
      rw [hc] at h
      unfold absV
      rw [ha]
      match cells, h, hn with
      | [], h, _ => simp [LsRel] at h
      | [c], h, hn => exact ⟨h.head, by simpa [nlL] using hn⟩
      | _ :: _ :: _, h, _ => simp [LsRel] at h
    unfold supT at hs
    split at hs
    · rename_i hu
      obtain ⟨x, rfl⟩ := WideShapes.okWide_bool hu hv
      exact single rfl (by simp [isAggT, hu])
    · rename_i k hu
      obtain ⟨x, rfl⟩ := WideShapes.okWide_int hu hv
      exact single rfl (by simp [isAggT, hu])
    · rename_i hu
      obtain ⟨x, rfl⟩ := WideShapes.okWide_string hu hv
      exact single rfl (by simp [isAggT, hu])
    · rename_i fs hu
      obtain ⟨x, rfl, _⟩ := WideShapes.okWide_struct hu hv
      have ha : isAggT P t = true := by simp [isAggT, hu]
      unfold absV
      rw [ha]
      exact ⟨VRel.aggL (x' := x.toList) h, by simpa [nl] using hn⟩
    · rename_i k e hu
      have : ∃ cs, v = .agg cs := by
        unfold Value.okWide at hv
        rw [hu] at hv
        obtain ⟨cs, h1, _⟩ := hv
        exact ⟨cs, h1⟩
      obtain ⟨x, rfl⟩ := this
      have ha : isAggT P t = true := by simp [isAggT, hu]
      unfold absV
      rw [ha]
      exact ⟨VRel.aggL (x' := x.toList) h, by simpa [nl] using hn⟩
    · rename_i e hu
      obtain ⟨x, y, z, rfl⟩ := WideShapes.okWide_slice hu hv
      exact single rfl (by simp [isAggT, hu])
    · cases hs

/-- **Readable arguments, to the abstract machine.** -/
theorem args_lay {W : World} {base b0 : Nat} {sp : Nat → Bool} {held : Bool} {n : Nat} {rch : Reach} : ∀ (ts : List TypeId) (vs : List Value) (ds : List (DataW H)) (ps : List MemPlace), (∀ t ∈ ts, supT P n t = true) → (∀ (j : Nat) t v, ts[j]? = some t → vs[j]? = some v → Value.okWide P W rch b0 t v) → DataW.TrodAll enc P W base sp held ts vs ds ps →
    ∀ h0 H0, WRel P W.heap.size (Mp0 h0) (fun _ => .other) H0 W → ∃ h', (∀ b i, h0 b = some i → h' b = some i) ∧ WRel P W.heap.size (Mp0 h') (fun _ => .other) (H0 ++ (absVs P ts ds H0.length).2) W ∧ LsRel (Mp0 h') (absVs P ts ds H0.length).1 vs ∧ nlL (absVs P ts ds H0.length).1 = true
  | [], [], [], ps, _, _, _, h0, H0, hW => ⟨h0, fun _ _ h => h, by simpa [absVs] using hW, LsRel.nil _, rfl⟩
  | t :: ts, v :: vs, d :: ds, ps, hsup, hok, h, h0, H0, hW => by
    obtain ⟨p, q, ⟨fuel, hd⟩, hr, rfl⟩ := h
    obtain ⟨h1, k1, k2, k3, k4⟩ := trod_lays n fuel t _ d p (hsup t (by simp)) hd h0 H0 hW
    obtain ⟨h2, j1, j2, j3, j4⟩ := args_lay ts vs ds q (fun t ht => hsup t (by simp [ht])) (fun j t v ht hv => hok (j + 1) t v (by simpa using ht) (by simpa using hv)) hr h1 _ k2
    obtain ⟨e1, e2⟩ := absV_rel (hsup t (by simp)) (hok 0 t v (by simp) (by simp)) (k3.mono (Mp0_le j1)) k4
    refine ⟨h2, fun b i e => j1 b i (k1 b i e), ?_, ?_, ?_⟩
    · rw [absVs]; simp only; rw [← List.append_assoc]; simpa using j2
    · rw [absVs]; simp only [List.length_append] at j3 ⊢; exact LsRel.cons e1 j3
    · rw [absVs]; simp only [List.length_append] at j4 ⊢; simp [nlL, e2, j4]
  | [], _ :: _, _, _, _, _, h, _, _, _ => by simp [DataW.TrodAll] at h
  | [], [], _ :: _, _, _, _, h, _, _, _ => by simp [DataW.TrodAll] at h
  | _ :: _, [], _, _, _, _, h, _, _, _ => by simp [DataW.TrodAll] at h
  | _ :: _, _ :: _, [], _, _, _, h, _, _, _ => by simp [DataW.TrodAll] at h
end Go.Proofs.YthobfecblpnnnaaGreatDoor

/- From a call in the abstract machine to the call in the model. -/
namespace Go.Proofs.YthobfecblpnnnaaGreatDoor
open Go Go.RowKit

variable {P : Program} {H : Type} {enc : TypeId × Value → H}

/-- The blocks of the package-level variables: those that are listed can be read, the others are not spoken of. -/
def globA (tabs : List (Nat × List Value)) (g : Nat) : ABlk := match tabs.lookup g with | some vs => .ro vs | none => .dead

def globH (P : Program) (tabs : List (Nat × List Value)) : AH := (List.range P.globals.size).map (globA tabs)

theorem globs_lay {W : World} {tabs : List (Nat × List Value)} (hg : P.globals.size ≤ W.heap.size) (ht : ∀ g vs, tabs.lookup g = some vs → scaL vs = true ∧ ∀ j (h : j < vs.length), W.cell? ⟨g, j, none⟩ = some vs[j]) :
    WRel P W.heap.size (Mp0 fun b => if b < P.globals.size then some ⟨b, 0, 0, 0, none⟩ else none) (fun _ => .other) (globH P tabs) W where
  dom b i e := by
    simp only [Mp0] at e
    split at e
    · rename_i hb; cases e; exact ⟨by simpa [globH] using hb, by simp only; omega⟩
    · cases e
  base _ _ := rfl
  low := Nat.le_refl _
  blk b i x e hx := by
    simp only [Mp0] at e
    split at e
    · rename_i hb
      cases e
      have : x = globA tabs b := by
        rw [globH, List.getElem?_map, List.getElem?_range hb] at hx
        simpa using hx.symm
      subst this
      unfold globA
      cases hl : tabs.lookup b with
      | none => trivial
      | some vs =>
        obtain ⟨k1, k2⟩ := ht b vs hl
        refine ⟨rfl, by simp only; omega, nlL_of_scaL vs k1, fun j hj => ⟨vs[j], by simpa using k2 j hj, VRel.refl_sca _ _ (scaL_get vs k1 j hj)⟩⟩
    · cases e

theorem Keep.kept {o o' : Nat → Ow} {W w' : World} (h : Keep o W o' w') (ho : ∀ B, o B = .other) (may : MemPlace → Prop) : W.keptBut w' may := by
  refine ⟨h.os, h.output, fun i hi => ?_⟩
  rw [(h.same i hi (ho i)).1]
  cases hx : W.heap[i]? with
  | none => rfl
  | some x =>
    cases x with
    | cells c t fr => exact ⟨rfl, rfl, rfl, fun _ _ => rfl⟩
    | map es clock => exact .inr ⟨rfl, rfl⟩
    | _ => rfl

theorem trodAll_carry {W W' : World} {base : Nat} {sp : Nat → Bool} {held : Bool} : ∀ {ts : List TypeId} {vs : List Value} {ds : List (DataW H)} {ps : List MemPlace}, DataW.TrodAll enc P W base sp held ts vs ds ps → (∀ p ∈ ps, W.sameAt W' p) → DataW.TrodAll enc P W' base sp held ts vs ds ps
  | [], [], [], _, h, _ => h
  | _ :: _, _ :: _, _ :: _, _, ⟨p, q, ⟨n, h1⟩, h2, e⟩, hs => ⟨p, q, ⟨n, DataW.trod_carry n _ _ _ h1 (fun x hx => hs x (by rw [e]; exact List.mem_append_left _ hx))⟩, trodAll_carry h2 (fun x hx => hs x (by rw [e]; exact List.mem_append_right _ hx)), e⟩
  | [], _ :: _, _, _, h, _ => by simp [DataW.TrodAll] at h
  | [], [], _ :: _, _, h, _ => by simp [DataW.TrodAll] at h
  | _ :: _, [], _, _, h, _ => by simp [DataW.TrodAll] at h
  | _ :: _, _ :: _, [], _, h, _ => by simp [DataW.TrodAll] at h

/-- **A law that returns true and changes nothing that was there**: what its row asks behind the call. -/
theorem post_true {f : Func} {s : ChangeSpec} {apart fresh handsOn again : Bool} {W W' : World} {args : Array Value} {ds gs : List (DataW H)} {before : List MemPlace} (hW : DataW.Whole enc P f.params.toList s.vars apart W args.toList ds gs before) (hvars : s.vars = [])
    (hfn : (s.fn H ds).results = [.lit (.bool true)] ∧ (s.fn H ds).args = ds ∧ (s.fn H ds).vars = []) {tb : TypeId} (hres : f.resultTypes = #[tb]) (hb : P.underlying tb = some .bool)
    {T : TypeId → Prop} (K : Kids P T) (hz : ∀ t e, T t → P.underlying t = some (.slice e) → 0 < P.cellsOf e) (hT : ∀ t ∈ f.params.toList, T t) {o o' : Nat → Ow} (hk : Keep o W o' W') (ho : ∀ B, o B = .other) :
    s.post enc P f apart fresh handsOn again W args (.bool true) W' := by
  have hlt := hW.lt
  have hW0 := hW
  obtain ⟨p, q, h1, h2, rfl, hfz, hnd⟩ := hW
  rw [hvars] at h2
  obtain ⟨rfl, rfl⟩ := ChangeShapes.trodVars_none h2
  simp only [List.append_nil] at hlt hfz hnd hW0 ⊢
  have hsame : ∀ B, B < W.heap.size → W'.heap[B]? = W.heap[B]? := fun B hB => (hk.same B hB (ho B)).1
  have hsa : ∀ x ∈ p, W.sameAt W' x := fun x hx => by
    have := hlt x hx
    cases x with
    | cell b off => simp only [World.sameAt, World.cell?]; rw [hsame b this]
    | map b => exact hsame b this
  have hold : ∀ x ∈ p, (fun b => decide (b < W.heap.size)) x.block = true := fun x hx => by simpa using hlt x hx
  have hargs : ∀ sp : Nat → Bool, (∀ x ∈ p, sp x.block = true) → DataW.TrodAll enc P W' 0 sp true f.params.toList args.toList ds p := fun sp hsp => (trodAll_carry h1 hsa).respare K hz hT hsp
  have hrl : Value.resultList f.resultTypes.size (.bool true) = [.bool true] := by rw [hres]; rfl
  have hresl : ∀ (b : Nat) (sp : Nat → Bool) (hd : Bool), DataW.TrodAll enc P W' b sp hd f.resultTypes.toList (Value.resultList f.resultTypes.size (.bool true)) [.lit (.bool true)] [] := fun b sp hd => by
    rw [hrl, hres]
    exact ChangeShapes.trodAll_mk1 (RowKit.shut_bool hb true)
  refine ⟨ds, [], p, [], p, [], by simpa using hW0, ?_, ?_, ?_, ?_, fun _ => ?_⟩
  · simp only [List.append_nil]; rw [hfn.1]; exact hresl _ _ _
  · simp only [List.append_nil]; rw [hfn.2.1]; exact hargs _ hold
  · simp only [List.append_nil]; rw [hfn.2.2, hvars]; rfl
  · exact World.keptBut_mono (fun x hx => hx) (hk.kept ho _)
  · refine ⟨fun j t r ht hr => ?_, _, [], ([] ++ p) ++ [], ⟨[] ++ p, [], ChangeShapes.trodAll_append (hargs _ (fun _ _ => rfl)) (hresl _ _ _), by rw [hvars]; exact (rfl : DataW.TrodVars enc P W' (fun _ => true) [] [] []), rfl, ?_, ?_⟩, ?_⟩
    · rw [hrl] at hr
      rw [hres] at ht
      cases j with
      | zero => simp at ht hr; subst ht; subst hr; simp [Value.okWide, hb, Cell.okWide, Cell.ok]
      | succ j => simp at hr
    · intro b off hp
      have hp' : MemPlace.cell b off ∈ p := by simpa using hp
      have hlt2 : b < W.heap.size := hlt _ hp'
      have : W'.frozen? ⟨b, off, none⟩ = W.frozen? ⟨b, off, none⟩ := by simp only [World.frozen?]; rw [hsame b hlt2]
      rw [this]
      exact hfz b off hp'
    · intro ha
      simpa using hnd ha
    · intro x hx _
      simpa using hx
end Go.Proofs.YthobfecblpnnnaaGreatDoor
