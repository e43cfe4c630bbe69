/-
  Spans as cells, two each: a row of the call's own that is just these spans; what is appended to it; read as a list.
-/
import Derived.Test.YtlonpimnjjkfpaaSpans
import Derived.Test.YtlonpimnjjkfpaaAppendCells
namespace Go.Proofs.Ytlonpimnjjkfpaa
open Go.ChangeShapes Go.WideShapes Go.ChangeAt Go.RowKit

/-- a span's cells, and those of a list -/
def cells2 (x : Int × Int) : List Value := [.int .i64 x.1, .int .i64 x.2]
def duos (L : List (Int × Int)) : List Value := L.flatMap cells2
theorem duos_nil : duos [] = [] := rfl
theorem duos_cons (x : Int × Int) (L : List (Int × Int)) : duos (x :: L) = .int .i64 x.1 :: .int .i64 x.2 :: duos L := rfl
theorem duos_append (L M : List (Int × Int)) : duos L ++ duos M = duos (L ++ M) := by simp [duos]
theorem duos_length (L : List (Int × Int)) : (duos L).length = L.length * 2 := by
  induction L with
  | nil => rfl
  | cons x L ih => rw [duos_cons]; simp only [List.length_cons, ih]; omega
theorem duos_one (L : List (Int × Int)) : ∀ u ∈ duos L, u.oneCell' = true := by
  intro u hu
  obtain ⟨x, _, hx⟩ := List.mem_flatMap.1 hu
  simp only [cells2, List.mem_cons, List.not_mem_nil, or_false] at hx
  rcases hx with rfl | rfl <;> rfl
theorem duos_get : ∀ (L : List (Int × Int)) (k : Nat) (h : k < L.length), (duos L)[k * 2]? = some (.int .i64 L[k].1) ∧ (duos L)[k * 2 + 1]? = some (.int .i64 L[k].2)
  | [], k, h => absurd h (by simp)
  | x :: L, 0, _ => ⟨rfl, rfl⟩
  | x :: L, k + 1, h => by
    have := duos_get L k (by simpa using h)
    rw [duos_cons]
    have e : (k + 1) * 2 = k * 2 + 1 + 1 := by omega
    rw [e]
    simpa using this
/-- a span's second number is another one -/
theorem duos_set2 : ∀ (L : List (Int × Int)) (k : Nat) (h : k < L.length) (y : Int), (duos L).set (k * 2 + 1) (.int .i64 y) = duos (L.set k (L[k].1, y))
  | [], k, h, _ => absurd h (by simp)
  | x :: L, 0, _, y => rfl
  | x :: L, k + 1, h, y => by
    have := duos_set2 L k (by simpa using h) y
    rw [duos_cons]
    have e : (k + 1) * 2 = k * 2 + 1 + 1 := by omega
    rw [e]
    simp only [List.set_cons_succ, this, duos_cons, List.getElem_cons_succ]

theorem span_info : (Try.prog.info? 23).map (fun i => (i.zero, i.size, i.bytes)) = some (some (.agg #[.int .i64 0, .int .i64 0]), 2, 16) := by kernel_rfl
theorem span_parts : ∃ i, Try.prog.info? 23 = some i ∧ i.zero = some (.agg #[.int .i64 0, .int .i64 0]) ∧ i.size = 2 ∧ i.bytes = 16 := by
  have h := span_info
  cases hi : Try.prog.info? 23 with
  | none => rw [hi] at h; cases h
  | some i =>
    rw [hi] at h
    simp only [Option.map_some, Option.some.injEq, Prod.mk.injEq] at h
    exact ⟨i, rfl, h.1, h.2.1, h.2.2⟩

/-- a row of the call's own that is just these spans -/
def Own2 (w : World) (base : Nat) (v : Value) (L : List (Int × Int)) : Prop := w.ownsRow base 23 2 v L.length (duos L)
section
variable {w w' : World} {base : Nat} {v : Value} {L : List (Int × Int)}
theorem Own2.nil (w : World) (base : Nat) : Own2 w base (.slice none 0 0) [] := World.ownsRow_nil _ _ _ _
theorem Own2.below (h : Own2 w base v L) (hb : Below w.heap.size w w') : Own2 w' base v L := own_belowN h hb
theorem Own2.alloc (h : Own2 w base v L) (o : Obj) : Own2 (w.alloc o) base v L := World.ownsRow.alloc h o
/-- such a row, cell by cell: none, or a block of its own that may be written -/
theorem Own2.parts (h : Own2 w base v L) : (v = .slice none 0 0 ∧ L = []) ∨ ∃ g c, v = .slice (some ⟨g, 0, none⟩) L.length c ∧ base ≤ g ∧ g < w.heap.size ∧ L.length ≤ c ∧
    ∀ j (hj : j < L.length), w.cell? ⟨g, j * 2, none⟩ = some (.int .i64 L[j].1) ∧ w.cell? ⟨g, j * 2 + 1, none⟩ = some (.int .i64 L[j].2) ∧ w.frozen? ⟨g, j * 2, none⟩ = false ∧ w.frozen? ⟨g, j * 2 + 1, none⟩ = false := by
  have h0 : w.ownsRow base 23 2 v L.length (duos L) := h
  rcases h0.2 with ⟨rfl, hl⟩ | ⟨g, c, cur, rfl, hbg, hg, hnc, hsz, hcur⟩
  · exact .inl ⟨rfl, List.eq_nil_of_length_eq_zero hl⟩
  · have hlt : g < w.heap.size := by
      rcases Nat.lt_or_ge g w.heap.size with hlt | hge
      · exact hlt
      · rw [Array.getElem?_eq_none hge] at hg
        cases hg
    refine .inr ⟨g, c, rfl, hbg, hlt, hnc, fun j hj => ?_⟩
    obtain ⟨q1, q2⟩ := duos_get L j hj
    have e1 := h0.cellAt (j * 2) (by omega)
    have e2 := h0.cellAt (j * 2 + 1) (by omega)
    refine ⟨e1.trans q1, e2.trans q2, ?_, ?_⟩ <;> simp [World.frozen?, hg]
/-- such a row reads as a list -/
theorem Own2.sps (h : Own2 w base v L) : ∃ A c, v = .slice A L.length c ∧ Sps w w.heap.size A L.length L ∧ L.length ≤ c := by
  rcases h.parts with ⟨rfl, rfl⟩ | ⟨g, c, rfl, _, hg, hc, hx⟩
  · exact ⟨none, 0, rfl, Sps.nil _ _ _, Nat.le_refl _⟩
  · exact ⟨_, c, rfl, ⟨rfl, fun _ => ⟨g, 0, rfl, hg, fun j hj => by
      obtain ⟨x1, x2, _⟩ := hx j hj
      rw [Nat.zero_add]
      exact ⟨x1, x2⟩⟩⟩, hc⟩
end
end Go.Proofs.Ytlonpimnjjkfpaa
