/-
  A slice of specs (three cells each) that reads as a list; a block of the call's own that is just these specs; made, and written.
-/
import Derived.Test.YtokknicfnnkldaaDoorRRSpecOne
import Derived.Test.YtokknicfnnkldaaDoorRRVals
import Derived.Laws.MakeOwn
import Derived.Laws.Entries
namespace Go.Proofs.YtokknicfnnkldaaDoorRR
open Go.ChangeShapes Go.WideShapes Go.ChangeAt Go.RowKit

/-- a spec's cells, and those of a list -/
def cells3 (x : Int × Int × Int) : List Value := [.int .i64 x.1, .int .i64 x.2.1, .int .i64 x.2.2]
def flat (L : List (Int × Int × Int)) : List Value := L.flatMap cells3
theorem flat_nil : flat [] = [] := rfl
theorem flat_cons (x : Int × Int × Int) (L : List (Int × Int × Int)) : flat (x :: L) = .int .i64 x.1 :: .int .i64 x.2.1 :: .int .i64 x.2.2 :: flat L := rfl
theorem flat_append (L M : List (Int × Int × Int)) : flat L ++ flat M = flat (L ++ M) := by simp [flat]
theorem flat_length (L : List (Int × Int × Int)) : (flat L).length = L.length * 3 := by
  induction L with
  | nil => rfl
  | cons x L ih => rw [flat_cons]; simp only [List.length_cons, ih]; omega
theorem flat_one (L : List (Int × Int × Int)) : ∀ u ∈ flat L, u.oneCell' = true := by
  intro u hu
  obtain ⟨x, _, hx⟩ := List.mem_flatMap.1 hu
  simp only [cells3, List.mem_cons, List.not_mem_nil, or_false] at hx
  rcases hx with rfl | rfl | rfl <;> rfl
theorem flat_get : ∀ (L : List (Int × Int × Int)) (k : Nat) (h : k < L.length), (flat L)[k * 3]? = some (.int .i64 L[k].1) ∧ (flat L)[k * 3 + 1]? = some (.int .i64 L[k].2.1) ∧ (flat L)[k * 3 + 2]? = some (.int .i64 L[k].2.2)
  | [], k, h => absurd h (by simp)
  | x :: L, 0, _ => ⟨rfl, rfl, rfl⟩
  | x :: L, k + 1, h => by
    have := flat_get L k (by simpa using h)
    rw [flat_cons]
    have e : (k + 1) * 3 = k * 3 + 1 + 1 + 1 := by omega
    rw [e]
    simpa using this
theorem flat_set : ∀ (L : List (Int × Int × Int)) (k : Nat) (x : Int × Int × Int), k < L.length → (((flat L).set (k * 3) (.int .i64 x.1)).set (k * 3 + 1) (.int .i64 x.2.1)).set (k * 3 + 2) (.int .i64 x.2.2) = flat (L.set k x)
  | [], k, _, h => absurd h (by simp)
  | y :: L, 0, x, _ => rfl
  | y :: L, k + 1, x, h => by
    have := flat_set L k x (by simpa using h)
    rw [flat_cons]
    have e : (k + 1) * 3 = k * 3 + 1 + 1 + 1 := by omega
    rw [e]
    simp only [List.set_cons_succ, this, flat_cons]
theorem flat_zeros (n : Nat) : flat (List.replicate n Sp.zero) = List.replicate (n * 3) (.int .i64 0) := by
  induction n with
  | zero => rfl
  | succ n ih =>
    rw [List.replicate_succ, flat_cons, ih]
    have e : (n + 1) * 3 = n * 3 + 1 + 1 + 1 := by omega
    rw [e, List.replicate_succ, List.replicate_succ, List.replicate_succ]
    rfl

/-- n specs from the address on, all below block B -/
def Ss (w : World) (B : Nat) (A : Option Addr) (n : Nat) (L : List (Int × Int × Int)) : Prop := Vs w B A (n * 3) (flat L)
theorem Ss.len {w : World} {B n : Nat} {A : Option Addr} {L : List (Int × Int × Int)} (h : Ss w B A n L) : L.length = n := by
  have := Vs.len h
  rw [flat_length] at this
  omega
theorem Ss.nil (w : World) (B : Nat) (A : Option Addr) : Ss w B A 0 [] := Vs.nil w B A

/-- a block that is just these specs -/
def Blk3 (T : TypeId) (w : World) (g : Nat) (L : List (Int × Int × Int)) : Prop := w.heap[g]? = some (.cells (flat L).toArray T (0, 0))
section
variable {w w' : World} {T : TypeId} {g : Nat} {L : List (Int × Int × Int)}
theorem Blk3.lt (h : Blk3 T w g L) : g < w.heap.size := by
  rcases Nat.lt_or_ge g w.heap.size with hlt | hge
  · exact hlt
  · unfold Blk3 at h
    rw [Array.getElem?_eq_none hge] at h
    cases h
theorem Blk3.cell (h : Blk3 T w g L) (j : Nat) : w.cell? ⟨g, j, none⟩ = (flat L)[j]? := by
  rw [cell_of_row w g j (flat L).toArray T (0, 0) h]
  simp
theorem Blk3.frozen (h : Blk3 T w g L) (j : Nat) : w.frozen? ⟨g, j, none⟩ = false := by
  unfold Blk3 at h
  simp [World.frozen?, h]
theorem Blk3.three (h : Blk3 T w g L) {k : Nat} (hk : k < L.length) :
    ∃ a b c : Int, w.cell? ⟨g, k * 3, none⟩ = some (.int .i64 a) ∧ w.cell? ⟨g, k * 3 + 1, none⟩ = some (.int .i64 b) ∧ w.cell? ⟨g, k * 3 + 2, none⟩ = some (.int .i64 c) ∧
      w.frozen? ⟨g, k * 3, none⟩ = false ∧ w.frozen? ⟨g, k * 3 + 1, none⟩ = false ∧ w.frozen? ⟨g, k * 3 + 2, none⟩ = false := by
  obtain ⟨q1, q2, q3⟩ := flat_get L k hk
  exact ⟨_, _, _, (h.cell _).trans q1, (h.cell _).trans q2, (h.cell _).trans q3, h.frozen _, h.frozen _, h.frozen _⟩
theorem Blk3.below {B : Nat} (h : Blk3 T w g L) (hb : Below B w w') (hg : g < B) : Blk3 T w' g L := (hb.block g hg).trans h
theorem Blk3.alloc (h : Blk3 T w g L) (o : Obj) : Blk3 T (w.alloc o) g L := h.below ((Below.refl w.heap.size w).alloc (Nat.le_refl _) o) h.lt
theorem Blk3.put1 {cs : List Value} (h : w.heap[g]? = some (.cells cs.toArray T (0, 0))) (j : Nat) (u : Value) : (w.setCell ⟨g, j, none⟩ u).heap[g]? = some (.cells (cs.set j u).toArray T (0, 0)) := by
  have e : cs.toArray.setIfInBounds j u = (cs.set j u).toArray := by simp
  rw [← e]
  simp [World.setCell, Array.getElem?_modify, h]
theorem Blk3.put (h : Blk3 T w g L) (k : Nat) (hk : k < L.length) (x : Int × Int × Int) :
    Blk3 T (((w.setCell ⟨g, k * 3, none⟩ (.int .i64 x.1)).setCell ⟨g, k * 3 + 1, none⟩ (.int .i64 x.2.1)).setCell ⟨g, k * 3 + 2, none⟩ (.int .i64 x.2.2)) g (L.set k x) := by
  have := Blk3.put1 (Blk3.put1 (Blk3.put1 (w := w) h (k * 3) (.int .i64 x.1)) (k * 3 + 1) (.int .i64 x.2.1)) (k * 3 + 2) (.int .i64 x.2.2)
  rw [flat_set L k x hk] at this
  exact this
theorem Blk3.new (w : World) (T : TypeId) (L : List (Int × Int × Int)) : Blk3 T (w.alloc (.cells (flat L).toArray T)) w.heap.size L := heap_alloc_new w _
theorem Blk3.specs (h : Blk3 T w g L) {B : Nat} (hB : g < B) : Ss w B (some ⟨g, 0, none⟩) L.length L :=
  ⟨flat_length L, fun _ => ⟨g, 0, rfl, hB, fun j hj => by
    rw [Nat.zero_add, h.cell j]
    exact List.getElem?_eq_getElem hj⟩⟩
end

theorem spec_info : (Tryd.prog.info? 33).map (fun i => (i.zero, i.size, i.bytes)) = some (some (.agg #[.int .i64 0, .int .i64 0, .int .i64 0]), 3, 24) := by kernel_rfl
theorem spec_parts : ∃ i, Tryd.prog.info? 33 = some i ∧ i.zero = some (.agg #[.int .i64 0, .int .i64 0, .int .i64 0]) ∧ i.size = 3 ∧ i.bytes = 24 := by
  have h := spec_info
  cases hi : Tryd.prog.info? 33 with
  | none => rw [hi] at h; cases h
  | some i =>
    rw [hi] at h
    simp only [Option.map_some, Option.some.injEq, Prod.mk.injEq] at h
    exact ⟨i, rfl, h.1, h.2.1, h.2.2⟩
theorem made3 (n : Nat) : madeCells (Value.cells (.agg #[.int .i64 0, .int .i64 0, .int .i64 0])) (n * 3) = (flat (List.replicate n Sp.zero)).toArray := by
  rw [flat_zeros]
  unfold madeCells
  apply Array.ext
  · simp
  · intro j h1 h2
    simp only [Array.getElem_map, Array.getElem_range, List.getElem_toArray, List.getElem_replicate]
    show (#[Value.int .i64 0, Value.int .i64 0, Value.int .i64 0])[j % 3]! = Value.int .i64 0
    have : j % 3 = 0 ∨ j % 3 = 1 ∨ j % 3 = 2 := by omega
    rcases this with h | h | h <;> rw [h] <;> rfl
theorem make_specs (n : Nat) (hn : n ≤ 1000001) (W : World) :
    (Instr.makeSlice 23 (.int .i64 (n : Int)) (.int .i64 (n : Int))).run Tryd.prog W = .ok (.slice (some ⟨W.heap.size, 0, none⟩) n n) (W.alloc (.cells (flat (List.replicate n Sp.zero)).toArray 33)) := by
  obtain ⟨i, hi, hz, hs, hb⟩ := spec_parts
  have := run_make (P := Tryd.prog) W 23 33 i _ Tryd.underlying23 hi hz .i64 .i64 n n (by omega) (by omega) (by rw [hb]; omega) (by omega)
  rw [hs, Int.toNat_natCast, made3] at this
  exact this
end Go.Proofs.YtokknicfnnkldaaDoorRR
