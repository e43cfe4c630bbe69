/-
  The document's pages, one by one.
-/
import Derived.Test.YtgnncbbfbhipaaaFlashRefErase
namespace Go.Proofs.Ytgnncbbfbhipaaa
open Go.ChangeShapes Go.WideShapes Go.ChangeAt Go.RowKit Fl
set_option maxRecDepth 100000

/-- one page of the copy -/
theorem copied_at {w : World} {v : Nat → Nat} {k S P B cb : Nat} {N : List Pg} (h : Rdv w v k S P B cb N) {j : Nat} (hj : j < N.length) :
    ∃ g cu A c, w.cell? ⟨cb, 3, none⟩ = some (.slice (some ⟨g, 0, none⟩) N.length cu) ∧ w.cell? ⟨g, j * 4, none⟩ = some (.int .i64 N[j].seg) ∧ w.cell? ⟨g, j * 4 + 1, none⟩ = some (.int .i64 N[j].page) ∧ w.cell? ⟨g, j * 4 + 2, none⟩ = some (.slice A B c) ∧
      w.cell? ⟨g, j * 4 + 3, none⟩ = some (.bool N[j].dirty) ∧ Bs w w.heap.size A B (full B N[j].raw) := by
  obtain ⟨u, Q, -, -, -, -, c3, -, hQ, hown, -, hdat⟩ := h.four
  rcases own_form hown with ⟨_, _, h0⟩ | ⟨g, c', rfl, hgl, _⟩
  · omega
  have hQL : Q.length = N.length := by rw [← hQ, List.length_map]
  obtain ⟨e0, e1, e2, e3, -⟩ := own_quad hown hQL hj
  obtain ⟨A, c, hx, hc, hbs, -⟩ := hdat _ (List.getElem_mem (show j < Q.length by omega))
  have hLQ : N[j] = (Q[j]'(by omega)).1 := by simp [← hQ]
  rw [full_length] at hx hbs
  rw [hx] at e2
  rw [hLQ]
  exact ⟨g, c', A, c, c3, e0, e1, e2, e3, hbs⟩
theorem copied_row {w : World} {v : Nat → Nat} {k S P B cb : Nat} {N : List Pg} (h : Rdv w v k S P B cb N) : ∃ A cu, w.cell? ⟨cb, 3, none⟩ = some (.slice A N.length cu) := by
  obtain ⟨u, Q, -, -, -, -, c3, -, hQ, hown, -, hdat⟩ := h.four
  obtain ⟨A, cu, rfl⟩ := own_len hown
  exact ⟨A, cu, c3⟩
end Go.Proofs.Ytgnncbbfbhipaaa
