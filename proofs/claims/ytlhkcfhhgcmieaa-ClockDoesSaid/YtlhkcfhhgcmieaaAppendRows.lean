/-
  append of a slice of structs of several cells, whole, onto a row of the call's own: whether the source is none, empty or not; within a region that draws, too.
-/
import Derived.Test.YtlhkcfhhgcmieaaVals
import Derived.Test.YtlhkcfhhgcmieaaAppendCells
import Derived.Deep.RegionHeld3
namespace Go.Proofs.Ytlhkcfhhgcmieaa
open Go.ChangeShapes Go.WideShapes Go.ChangeAt Go.RowKit
section
variable {P : Program} {w : World}
theorem append_rows_run (base : Nat) (t ty e : TypeId) (i : TypeInfo) (z : Value) (size by_ : Nat) (ht : P.underlying t = some (.slice e)) (hi : P.info? e = some i) (hz : i.zero = some z) (hsize : i.size = size) (hby : i.bytes = by_) (hz1 : z.cells.size = size) (hs0 : 0 < size)
    (v : Value) (n : Nat) (L : List Value) (hown : w.ownsRow base e size v n L) (B : Nat) (A : Option Addr) (m c : Nat) (M : List Value) (hb : Vs w B A (m * size) M) (hone : ∀ u ∈ M, u.oneCell' = true)
    (hlen : n + m ≤ 9223372036854775807) (hbytes : (n + m) * by_ ≤ 140737488355328) (hbase : base ≤ w.heap.size) :
    ∃ v' w', (Builtin.append_ #[t, t] ty #[v, .slice A m c]).run P w = .ok v' w' ∧ w'.ownsRow base e size v' (n + m) (L ++ M) ∧ w.grownBy w' v.ownBlock := by
  rcases A with _ | ad
  · have hm : m = 0 := by
      rcases Nat.eq_zero_or_pos m with h | h
      · exact h
      · obtain ⟨b, off, hno, _⟩ := hb.2 (Nat.mul_pos h hs0)
        cases hno
    subst hm
    obtain rfl : M = [] := List.eq_nil_of_length_eq_zero (by rw [hb.1, Nat.zero_mul])
    refine ⟨v, w, ?_, by simpa using hown, ⟨rfl, rfl, rfl, Nat.le_refl _, fun _ _ _ => rfl⟩⟩
    rcases hown.2 with ⟨rfl, rfl⟩ | ⟨g, cap, cur, rfl, _, _, hnc, _⟩
    · simp [Builtin.append_, run_underlying ht, sizeOf, typeInfo, hi, Builtin.lenOf, Builtin.firstCells]
    · simp [Builtin.append_, run_underlying ht, sizeOf, typeInfo, hi, Builtin.lenOf, Builtin.firstCells, hnc, storeCells]
  · have hcells : ∀ j u, M[j]? = some u → w.cell? (ad.add j) = some u := by
      rcases Nat.eq_zero_or_pos (m * size) with h | h
      · obtain rfl : M = [] := List.eq_nil_of_length_eq_zero (by rw [hb.1, h])
        intro j u hu
        simp at hu
      · obtain ⟨ad', he, _, hc⟩ := hb.src h
        injection he with he
        subst he
        exact hc
    obtain ⟨v', w', hr, h2, h3, _⟩ := run_append_own (P := P) w base t ty e i z size by_ ht hi hz hsize hby hz1 hs0 v n L hown ad m c M hb.1 hcells hone (by unfold maxLen; omega) hbytes hbase
    exact ⟨v', w', hr, h2, h3⟩
theorem step_append_rows {ops : Array Oper} {o : Oper} {a : Act} {K : Act → World → Prop} {Q : Exit → Act → World → Prop} {E : Prop} (hw : Region.wanted o (yielded ops a.tmps) = true) (s x : Operand) (t : TypeId)
    (ho : o.op = .call { callee := .builtin .append, args := #[s, x], argTypes := #[t, t] })
    (base : Nat) (e : TypeId) (i : TypeInfo) (z : Value) (size by_ : Nat) (ht : P.underlying t = some (.slice e)) (hi : P.info? e = some i) (hz : i.zero = some z) (hsize : i.size = size) (hby : i.bytes = by_) (hz1 : z.cells.size = size) (hs0 : 0 < size)
    (v : Value) (n : Nat) (L : List Value) (hs : a.eval s = v) (hown : w.ownsRow base e size v n L) (B : Nat) (A : Option Addr) (m c : Nat) (M : List Value) (hx : a.eval x = .slice A m c) (hb : Vs w B A (m * size) M) (hone : ∀ u ∈ M, u.oneCell' = true)
    (k : Nat) (hk : n + m = k) (R : List Value) (hR : L ++ M = R) (hlen : n + m ≤ 9223372036854775807) (hbytes : (n + m) * by_ ≤ 140737488355328) (hbase : base ≤ w.heap.size)
    (h : ∀ A' c' w', w'.ownsRow base e size (.slice A' k c') k R → w.grownBy w' v.ownBlock → K (a.put o.dst (.slice A' k c')) w') : if Region.wanted o (yielded ops a.tmps) = true then Oper.wp P o a w K Q else E := by
  rw [if_pos hw]
  subst hk hR
  obtain ⟨v', w', hrun, h2, h3⟩ := append_rows_run (P := P) base t o.type e i z size by_ ht hi hz hsize hby hz1 hs0 v n L hown B A m c M hb hone hlen hbytes hbase
  obtain ⟨A', c', rfl, -, -⟩ := Vs.of_ownN h2
  unfold Oper.wp execOp
  simp only [ho, resolve, invoke, builtin, Sem.run_bind, Sem.run_pure, Result.andThen_ok, List.map_toArray, List.map_cons, List.map_nil, hs, hx, hrun]
  exact h A' c' w' h2 h3
end
end Go.Proofs.Ytlhkcfhhgcmieaa
