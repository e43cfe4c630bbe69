/-
  append of bytes onto a row of the call's own: one law, whether the source is none, empty or not.
-/
import Derived.Test.YtidjajdgphkbbaaRRBytes
import Derived.Laws.AppendOwn
import Derived.Tactics
namespace Go.Proofs.YtidjajdgphkbbaaRR
open Go.RowKit

section
variable {P : Program} {w w' : World}
/-- a row of the call's own reads as bytes -/
theorem own_bs {base : Nat} {e : TypeId} {v : Value} {n : Nat} {L : List UInt8} (h : w.ownsRow base e 1 v n (vals L)) :
    ∃ A cap, v = .slice A n cap ∧ Bs w w.heap.size A n L ∧ n ≤ cap := by
  have hl : L.length = n := by have := h.1; rw [vals_length] at this; omega
  rcases h.2 with ⟨rfl, rfl⟩ | ⟨g, cap, cur, rfl, _, hg, hnc, _, _, _⟩
  · exact ⟨none, 0, rfl, ⟨hl, fun h => absurd h (by omega)⟩, Nat.le_refl _⟩
  · refine ⟨_, cap, rfl, ⟨hl, fun _ => ⟨g, 0, rfl, ?_, fun j hj => ?_⟩⟩, hnc⟩
    · rcases Nat.lt_or_ge g w.heap.size with hlt | hge
      · exact hlt
      · rw [Array.getElem?_eq_none hge] at hg
        cases hg
    · rw [Nat.zero_add, h.cellAt j (by omega)]
      exact vals_get L j hj

theorem append_bytes_run (base : Nat) (t ty e : TypeId) (i : TypeInfo) (ht : P.underlying t = some (.slice e)) (hi : P.info? e = some i) (hz : i.zero = some (.int .u8 0)) (hsize : i.size = 1) (hby : i.bytes = 1)
    (v : Value) (n : Nat) (L : List UInt8) (hown : w.ownsRow base e 1 v n (vals L)) (B : Nat) (A : Option Addr) (m c : Nat) (M : List UInt8) (hb : Bs w B A m M)
    (hlen : n + m ≤ 140737488355328) (hbase : base ≤ w.heap.size) :
    ∃ v' w', (Builtin.append_ #[t, t] ty #[v, .slice A m c]).run P w = .ok v' w' ∧ w'.ownsRow base e 1 v' (n + m) (vals (L ++ M)) ∧ w.grownBy w' v.ownBlock := by
  rcases A with _ | ad
  · have hm : m = 0 := by
      rcases Nat.eq_zero_or_pos m with h | h
      · exact h
      · obtain ⟨b, off, hno, _⟩ := hb.2 h
        cases hno
    subst hm
    obtain rfl : M = [] := List.eq_nil_of_length_eq_zero hb.1
    refine ⟨v, w, ?_, by simpa using hown, ⟨rfl, rfl, rfl, Nat.le_refl _, fun _ _ _ => rfl⟩⟩
    rcases hown.2 with ⟨rfl, rfl⟩ | ⟨g, cap, cur, rfl, _, _, hnc, _⟩
    · simp [Builtin.append_, run_underlying ht, sizeOf, typeInfo, hi, Builtin.lenOf, Builtin.firstCells]
    · simp [Builtin.append_, run_underlying ht, sizeOf, typeInfo, hi, Builtin.lenOf, Builtin.firstCells, hnc, storeCells]
  · have hcells : ∀ j u, (vals M)[j]? = some u → w.cell? (ad.add j) = some u := by
      rcases Nat.eq_zero_or_pos m with h | h
      · obtain rfl : M = [] := List.eq_nil_of_length_eq_zero (by rw [hb.1, h])
        intro j u hu
        simp [vals] at hu
      · obtain ⟨ad', he, _, hc⟩ := hb.src h
        injection he with he
        subst he
        exact hc
    obtain ⟨v', w', hr, h2, h3, _⟩ := run_append_own (P := P) w base t ty e i (.int .u8 0) 1 1 ht hi hz hsize hby rfl (by omega) v n (vals L) hown ad m c (vals M) (by rw [vals_length, hb.1]; omega) hcells (vals_one M) (by unfold maxLen; omega) (by omega) hbase
    exact ⟨v', w', hr, by rw [← vals_append]; exact h2, h3⟩

theorem wpList_append_bytes {ops : Array Oper} {rest : List Oper} {o : Oper} {a : Act} {Q : Exit → Act → World → Prop} (hgd : o.guard = none) (s x : Operand) (t : TypeId)
    (ho : o.op = .call { callee := .builtin .append, args := #[s, x], argTypes := #[t, t] })
    (base : Nat) (e : TypeId) (i : TypeInfo) (ht : P.underlying t = some (.slice e)) (hi : P.info? e = some i) (hz : i.zero = some (.int .u8 0)) (hsize : i.size = 1) (hby : i.bytes = 1)
    (v : Value) (n : Nat) (L : List UInt8) (hs : a.eval s = v) (hown : w.ownsRow base e 1 v n (vals L)) (B : Nat) (A : Option Addr) (m c : Nat) (M : List UInt8) (hx : a.eval x = .slice A m c) (hb : Bs w B A m M)
    (hlen : n + m ≤ 140737488355328) (hbase : base ≤ w.heap.size)
    (h : ∀ v' w', Hid (w'.ownsRow base e 1 v' (n + m) (vals (L ++ M))) → Hid (w.grownBy w' v.ownBlock) → wpList P ops Q rest (a.put o.dst v') w') : wpList P ops Q (o :: rest) a w := by
  refine wpList_plain hgd fun K hK => ?_
  obtain ⟨v', w', hrun, h2, h3⟩ := append_bytes_run (P := P) base t o.type e i ht hi hz hsize hby v n L hown B A m c M hb hlen hbase
  unfold Oper.wp execOp
  simp only [ho, resolve, invoke, builtin, Sem.run_bind, Sem.run_pure, Result.andThen_ok, List.map_toArray, List.map_cons, List.map_nil, hs, hx, hrun]
  exact hK _ _ (h v' w' h2 h3)
end
end Go.Proofs.YtidjajdgphkbbaaRR
