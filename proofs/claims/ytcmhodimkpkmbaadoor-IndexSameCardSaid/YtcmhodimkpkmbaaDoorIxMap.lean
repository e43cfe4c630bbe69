/-
  A map from numbers to places, as the program's index has one of an object's slices: it reads as the list of slices, by rising numbers.
-/
import Derived.Test.YtcmhodimkpkmbaaDoorIxBound
import Derived.Maps.OwnSet
import Derived.Maps.RangeWalk
import Derived.Maps.Ext
import Derived.Laws.IdiomRangeMap
import Derived.WalkKit
import Derived.ProofKit
namespace Go.Proofs.YtcmhodimkpkmbaaDoor
open Go.ChangeShapes Go.WideShapes Go.ChangeAt Go.RowKit Go.Maps
set_option maxRecDepth 100000

theorem intKey : Keyed Tryd.prog 3 := int_keyed Tryd.underlying3
theorem adZero (w : World) : (zeroValue 30).run Tryd.prog w = .ok (adV (0, 0)) w := by kernel_rfl
abbrev W64 (x : Int) : Prop := (Lit.int .i64 x).wf = true
abbrev il (x : Int) : Lit := .int .i64 x
/-- a place is read as itself -/
def rda : Value → Option (DataW Value × List MemPlace)
  | .agg cs => match cs.toList with
    | [.int .i64 x, .int .i64 y] => some (.held (adV (x, y)), [])
    | _ => none
  | _ => none
theorem rda_mk (a : Ix.Ad) : rda (adV a) = some (.held (adV a), []) := rfl
theorem rda_inv {v : Value} {y : DataW Value × List MemPlace} (h : rda v = some y) : ∃ a : Ix.Ad, v = adV a ∧ y = (.held (adV a), []) := by
  unfold rda at h
  split at h
  · rename_i cs
    split at h
    · rename_i x z e
      injection h with h
      refine ⟨(x, z), ?_, h.symm⟩
      obtain ⟨l⟩ := cs
      simp only at e
      subst e
      rfl
    · cases h
  · cases h
/-- a slice as an entry, slices as a map -/
def ent (z : Ix.Sc) : Lit × DataW Value := (il z.1, .held (adV z.2))
def mapD (l : List Ix.Sc) : DataW Value := .map (l.map ent)
/-- a slice's place -/
def Ix.look (l : List Ix.Sc) (i : Int) : Option Ix.Ad := (l.find? fun z => z.1 == i).map (·.2)
theorem il_same (a b : Int) : (il a).sameKey (il b) = (a == b) := by
  show decide (IntKind.i64 = IntKind.i64 ∧ a = b) = _
  rw [Bool.eq_iff_iff, decide_eq_true_iff, beq_iff_eq]
  exact ⟨fun h => h.2, fun h => ⟨rfl, h⟩⟩
theorem has_mapD (l : List Ix.Sc) (i : Int) : Maps.has (mapD l) (il i) = (Ix.look l i).isSome := by
  unfold mapD Ix.look
  rw [has_eq]
  induction l with
  | nil => rfl
  | cons z l ih =>
    rw [List.map_cons, List.any_cons, ih, List.find?_cons]
    show ((il z.1).sameKey (il i) || _) = _
    rw [il_same]
    cases z.1 == i <;> simp
theorem at_mapD (l : List Ix.Sc) (i : Int) (zd : DataW Value) : (mapD l).atKey (il i) zd = match Ix.look l i with | some a => .held (adV a) | none => zd := by
  unfold mapD Ix.look DataW.atKey
  dsimp only
  induction l with
  | nil => rfl
  | cons z l ih =>
    rw [List.map_cons, List.find?_cons, List.find?_cons]
    have e : (ent z).1.sameKey (il i) = (z.1 == i) := il_same _ _
    rw [e]
    cases z.1 == i
    · exact ih
    · rfl
theorem size_mapD (l : List Ix.Sc) : Maps.size (mapD l) = l.length := by simp [mapD, Maps.size]
theorem canon_mapD {l : List Ix.Sc} (h : Ix.Rise l) : Canon (mapD l) := by
  refine ⟨_, rfl, ?_, ?_⟩
  · rw [List.pairwise_map]
    refine h.imp fun {a b} hab => ?_
    show decide (a.1 < b.1) = true
    exact decide_eq_true hab
  · intro p hp
    obtain ⟨z, _, rfl⟩ := List.mem_map.1 hp
    exact True.intro
theorem filter_ent (i : Int) (l : List Ix.Sc) : (l.map ent).filter (fun p => !p.1.sameKey (il i)) = (l.filter fun z => decide (z.1 ≠ i)).map ent := by
  induction l with
  | nil => rfl
  | cons z l ih =>
    rw [List.map_cons, List.filter_cons, List.filter_cons, ih]
    have e : (ent z).1.sameKey (il i) = (z.1 == i) := il_same _ _
    rw [e]
    by_cases h : z.1 = i <;> simp [h]
theorem insert_head (i : Int) (a : Ix.Ad) : ∀ l : List Ix.Sc, (∀ z ∈ l, i < z.1) → DataW.insert (il i, .held (adV a)) (l.map ent) = ent (i, a) :: l.map ent
  | [], _ => rfl
  | z :: l, h => by
    rw [List.map_cons, DataW.insert]
    have e : Lit.before (il i) (ent z).1 = true := decide_eq_true (h z (List.mem_cons_self ..))
    rw [if_pos e]
    rfl
theorem put_ent (i : Int) (a : Ix.Ad) : ∀ l : List Ix.Sc, Ix.Rise l → DataW.insert (il i, .held (adV a)) ((l.filter fun z => decide (z.1 ≠ i)).map ent) = (Ix.ins i a l).map ent
  | [], _ => rfl
  | z :: l, hr => by
    obtain ⟨h1, h2⟩ := List.pairwise_cons.1 hr
    rcases Int.lt_trichotomy z.1 i with h | h | h
    · have e : Ix.ins i a (z :: l) = z :: Ix.ins i a l := by
        unfold Ix.ins
        rw [List.filter_cons, List.filter_cons, if_pos (by simpa using h), if_neg (by simp; omega)]
        rfl
      rw [e, List.map_cons, ← put_ent i a l h2, List.filter_cons, if_pos (by simp; omega), List.map_cons, DataW.insert]
      have e2 : Lit.before (il i) (ent z).1 = false := decide_eq_false (by show ¬ i < z.1; omega)
      rw [if_neg (by rw [e2]; simp)]
    · have e : Ix.ins i a (z :: l) = (i, a) :: l := by
        unfold Ix.ins
        rw [List.filter_cons, List.filter_cons, if_neg (by simp; omega), if_neg (by simp; omega)]
        rw [Ix.filter_none (p := fun z => decide (z.1 < i)) (fun y hy => by have := h1 y hy; simp; omega), Ix.filter_all (p := fun z => decide (i < z.1)) (fun y hy => by have := h1 y hy; simp; omega)]
        rfl
      rw [e, List.filter_cons, if_neg (by simp [h]), Ix.filter_all (p := fun z => decide (z.1 ≠ i)) (fun y hy => by have := h1 y hy; simp; omega), insert_head i a l (fun y hy => by have := h1 y hy; omega)]
      rfl
    · have e : Ix.ins i a (z :: l) = (i, a) :: z :: l := by
        unfold Ix.ins
        rw [List.filter_cons, List.filter_cons, if_neg (by simp; omega), if_pos (by simpa using h)]
        rw [Ix.filter_none (p := fun z => decide (z.1 < i)) (fun y hy => by have := h1 y hy; simp; omega), Ix.filter_all (p := fun z => decide (i < z.1)) (fun y hy => by have := h1 y hy; simp; omega)]
        rfl
      rw [e, Ix.filter_all (p := fun z => decide (z.1 ≠ i)) (fun y hy => by
        rcases List.mem_cons.1 hy with rfl | hy
        · simp; omega
        · have := h1 y hy; simp; omega), insert_head i a (z :: l) (fun y hy => by
        rcases List.mem_cons.1 hy with rfl | hy
        · exact h
        · have := h1 y hy; omega)]
      rfl
theorem put_mapD {l : List Ix.Sc} (h : Ix.Rise l) (i : Int) (a : Ix.Ad) : (mapD l).put (il i) (.held (adV a)) = mapD (Ix.ins i a l) := by
  unfold mapD DataW.put
  dsimp only
  rw [filter_ent, put_ent i a l h]
/-- block mb is a map of just these slices -/
def Mpi (W : World) (mb : Nat) (l : List Ix.Sc) : Prop := W.ownsMap Tryd.prog 3 rda mb l.length (mapD l)
section
variable {W W' : World} {mb : Nat} {l : List Ix.Sc}
theorem Mpi.lt (h : Mpi W mb l) : mb < W.heap.size := World.ownsMap.lt h
theorem Mpi.same (h : Mpi W mb l) (e : W'.heap[mb]? = W.heap[mb]?) : Mpi W' mb l := by
  obtain ⟨es, clock, hb, r⟩ := h
  exact ⟨es, clock, e.trans hb, r⟩
theorem shrink_i {n : Nat} {D : DataW Value} (h : W.ownsMap Tryd.prog 3 rda mb n D) : W.ownsMap Tryd.prog 3 rda mb (Maps.size D) D := by
  obtain ⟨es, clock, hb, F, hs, rfl⟩ := h
  exact ⟨es, clock, hb, F, by rw [Maps.size_eq, length_sorted]; simp, rfl⟩
theorem Mpi.of {n : Nat} (h : W.ownsMap Tryd.prog 3 rda mb n (mapD l)) : Mpi W mb l := by
  have := shrink_i h
  rwa [size_mapD] at this
/-- what a slot has of slices: no map, or one -/
def MapOf (W : World) (v : Value) (l : List Ix.Sc) : Prop := (v = .map none ∧ l = []) ∨ ∃ mb, v = .map (some mb) ∧ Mpi W mb l
theorem look_run {v : Value} (h : MapOf W v l) {i : Int} (hi : W64 i) (c : Bool) :
    (Instr.lookup 26 v (.int .i64 i) c).run Tryd.prog W = .ok (if c then .tuple #[adV ((Ix.look l i).getD (0, 0)), .bool (Ix.look l i).isSome] else adV ((Ix.look l i).getD (0, 0))) W := by
  have hk := keyOf_int_mk Tryd.underlying3 hi
  rcases h with ⟨rfl, rfl⟩ | ⟨mb, rfl, h⟩
  · have := Maps.look_nil c intKey Tryd.underlying26 (adZero W) hk
    rw [this]
    rfl
  · have hv : ∀ v ps, rda v = some ((mapD l).atKey (il i) (.held (adV (0, 0))), ps) → v = adV ((Ix.look l i).getD (0, 0)) := fun v ps hv => by
      obtain ⟨a, rfl, e⟩ := rda_inv hv
      rw [at_mapD] at e
      cases hl : Ix.look l i with
      | none =>
        rw [hl] at e
        injection e with e _
        injection e with e
        exact e.symm
      | some b =>
        rw [hl] at e
        injection e with e _
        injection e with e
        exact e.symm
    cases c
    · obtain ⟨v, ps, hrun, h2⟩ := World.ownsMap.lookup h intKey Tryd.underlying26 (adZero W) (rda_mk (0, 0)) hk
      rw [hrun, hv v ps h2]
      rfl
    · obtain ⟨v, ps, hrun, h2⟩ := World.ownsMap.look_ok h intKey Tryd.underlying26 (adZero W) (rda_mk (0, 0)) hk
      rw [hrun, hv v ps h2, ← has_mapD]
      rfl
theorem len_run {v : Value} (h : MapOf W v l) (ty : TypeId) : (Builtin.len_ #[26] ty #[v]).run Tryd.prog W = .ok (.int .i64 (l.length : Int)) W := by
  rcases h with ⟨rfl, rfl⟩ | ⟨mb, rfl, h⟩
  · exact Maps.len_nil Tryd.underlying26 ty
  · have := World.ownsMap.len h Tryd.underlying26 ty
    rwa [size_mapD] at this
theorem Mpi.store (h : Mpi W mb l) (hr : Ix.Rise l) {i : Int} (hi : W64 i) (hn : l.length < maxLen) (a : Ix.Ad) :
    ∃ w', (Instr.mapUpdate 26 (.map (some mb)) (.int .i64 i) (adV a)).run Tryd.prog W = .ok () w' ∧ W.mapTurned w' mb ∧ Mpi w' mb (Ix.ins i a l) := by
  obtain ⟨w', hrun, r1, r2⟩ := World.ownsMap.store h intKey Tryd.underlying26 hn (keyOf_int_mk Tryd.underlying3 hi) (rda_mk a)
  rw [put_mapD hr] at r1
  exact ⟨w', hrun, r2, Mpi.of r1⟩
theorem Mpi.made (W : World) : Mpi (W.alloc (.map #[] 0)) W.heap.size [] := World.ownsMap_made _ _ _ _
theorem run_makeMapI (n : Int) (w : World) : (Instr.makeMap 26 (some (.int .i64 n))).run Tryd.prog w = .ok (.map (some w.heap.size)) (w.alloc (.map #[] 0)) := by
  simp [Instr.makeMap, run_underlying Tryd.underlying26, asInt]
  rfl
end
end Go.Proofs.YtcmhodimkpkmbaaDoor
