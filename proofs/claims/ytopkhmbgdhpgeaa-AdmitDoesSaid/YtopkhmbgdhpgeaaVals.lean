/-
  A slice of one-cell elements that reads as a list of values: kept where nothing below a block has turned; made; appended to. (XBytes has the same for bytes.)
-/
import Derived.Test.YtopkhmbgdhpgeaaBytes
import Derived.Laws.AppendOwn
import Derived.Tactics
namespace Go.Proofs.Ytopkhmbgdhpgeaa
open Go.RowKit

/-- n values from the address on (which may be none where there are none), all below block B -/
def Vs (w : World) (B : Nat) (A : Option Addr) (n : Nat) (xs : List Value) : Prop :=
  xs.length = n ∧ (0 < n → ∃ b off, A = some ⟨b, off, none⟩ ∧ b < B ∧ ∀ j (h : j < xs.length), w.cell? ⟨b, off + j, none⟩ = some xs[j])

section
variable {w w' : World} {B n : Nat} {A : Option Addr} {xs : List Value}
theorem Vs.len (h : Vs w B A n xs) : xs.length = n := h.1
theorem Vs.nil (w : World) (B : Nat) (A : Option Addr) : Vs w B A 0 [] := ⟨rfl, fun h => absurd h (by omega)⟩
theorem Vs.below (h : Vs w B A n xs) (hb : Below B w w') : Vs w' B A n xs :=
  ⟨h.1, fun hn => by
    obtain ⟨b, off, e, hB, hc⟩ := h.2 hn
    exact ⟨b, off, e, hB, fun j hj => (hb.cell (p := ⟨b, off + j, none⟩) hB).trans (hc j hj)⟩⟩
theorem Vs.drewN (h : Vs w B A n xs) (m : Nat) : Vs (w.drewN m) B A n xs := h
theorem Vs.mono (h : Vs w B A n xs) {B' : Nat} (hB : B ≤ B') : Vs w B' A n xs :=
  ⟨h.1, fun hn => by
    obtain ⟨b, off, e, hb, hc⟩ := h.2 hn
    exact ⟨b, off, e, by omega, hc⟩⟩
theorem Vs.alloc (h : Vs w B A n xs) (hB : B ≤ w.heap.size) (o : Obj) : Vs (w.alloc o) B A n xs := h.below ((Below.refl B w).alloc hB o)
theorem Vs.of_block {g off : Nat} {cs : Array Value} {t : TypeId} {fr : Nat × Nat} (hg : w.heap[g]? = some (.cells cs t fr)) (hB : g < B) (hl : xs.length = n) (hcs : ∀ j (h : j < xs.length), cs[off + j]? = some xs[j]) :
    Vs w B (some ⟨g, off, none⟩) n xs :=
  ⟨hl, fun _ => ⟨g, off, rfl, hB, fun j hj => by
    rw [cell_of_row w g (off + j) cs t fr hg]
    exact hcs j hj⟩⟩
/-- a block just made -/
theorem Vs.new (w : World) (t : TypeId) (fr : Nat × Nat) (cs : Array Value) : Vs (w.alloc (.cells cs t fr)) (w.heap.size + 1) (some ⟨w.heap.size, 0, none⟩) cs.size cs.toList :=
  Vs.of_block (heap_alloc_new w _) (by omega) (by simp) (fun j hj => by rw [Nat.zero_add]; simp at hj; simp [hj])
theorem Vs.src (h : Vs w B A n xs) (h0 : 0 < n) : ∃ ad, A = some ad ∧ ad.block < B ∧ ∀ j v, xs[j]? = some v → w.cell? (ad.add j) = some v := by
  obtain ⟨b, off, rfl, hB, hc⟩ := h.2 h0
  refine ⟨_, rfl, hB, fun j v hv => ?_⟩
  obtain ⟨hj, rfl⟩ := List.getElem?_eq_some_iff.1 hv
  have e : (⟨b, off, none⟩ : Addr).add j = ⟨b, off + j, none⟩ := by
    simp only [Addr.add]
    split <;> simp_all
  rw [e]
  exact hc j hj
/-- a row of the call's own reads as a list -/
theorem Vs.of_own {base : Nat} {e : TypeId} {v : Value} (h : w.ownsRow base e 1 v n xs) : ∃ A cap, v = .slice A n cap ∧ Vs w w.heap.size A n xs ∧ n ≤ cap := by
  have hl : xs.length = n := by have := h.1; omega
  rcases h.2 with ⟨rfl, rfl⟩ | ⟨g, cap, cur, rfl, _, hg, hnc, _⟩
  · exact ⟨none, 0, rfl, ⟨hl, fun h => absurd h (by omega)⟩, Nat.le_refl _⟩
  · refine ⟨_, cap, rfl, ⟨hl, fun _ => ⟨g, 0, rfl, ?_, fun j hj => ?_⟩⟩, hnc⟩
    · rcases Nat.lt_or_ge g w.heap.size with hlt | hge
      · exact hlt
      · rw [Array.getElem?_eq_none hge] at hg
        cases hg
    · rw [Nat.zero_add, h.cellAt j (by omega)]
      exact List.getElem?_eq_getElem hj
end

section
variable {P : Program} {w w' : World}
/-- append onto a row of the call's own, whether the source is none, empty or not -/
theorem append_vals_run (base : Nat) (t ty e : TypeId) (i : TypeInfo) (z : Value) (by_ : Nat) (ht : P.underlying t = some (.slice e)) (hi : P.info? e = some i) (hz : i.zero = some z) (hsize : i.size = 1) (hby : i.bytes = by_) (hz1 : z.cells.size = 1)
    (v : Value) (n : Nat) (L : List Value) (hown : w.ownsRow base e 1 v n L) (B : Nat) (A : Option Addr) (m c : Nat) (M : List Value) (hb : Vs w B A m M) (hone : ∀ u ∈ M, u.oneCell' = true)
    (hlen : n + m ≤ 9223372036854775807) (hbytes : (n + m) * by_ ≤ 140737488355328) (hbase : base ≤ w.heap.size) :
    ∃ v' w', (Builtin.append_ #[t, t] ty #[v, .slice A m c]).run P w = .ok v' w' ∧ w'.ownsRow base e 1 v' (n + m) (L ++ M) ∧ w.grownBy w' v.ownBlock := by
  rcases A with _ | ad
  · have hm : m = 0 := by
      rcases Nat.eq_zero_or_pos m with h | h
      · exact h
      · obtain ⟨b, off, hno, _⟩ := hb.2 h
        cases hno
    subst hm
    obtain rfl : M = [] := List.eq_nil_of_length_eq_zero hb.1
    refine ⟨v, w, ?_, by simpa using hown, ⟨rfl, rfl, rfl, Nat.le_refl _, fun _ _ _ => rfl⟩⟩
    rcases hown.2 with ⟨rfl, rfl⟩ | ⟨g, cap, cur, rfl, _, _, hnc, _⟩
    · simp [Builtin.append_, run_underlying ht, sizeOf, typeInfo, hi, Builtin.lenOf, Builtin.firstCells]
    · simp [Builtin.append_, run_underlying ht, sizeOf, typeInfo, hi, Builtin.lenOf, Builtin.firstCells, hnc, storeCells]
  · have hcells : ∀ j u, M[j]? = some u → w.cell? (ad.add j) = some u := by
      rcases Nat.eq_zero_or_pos m with h | h
      · obtain rfl : M = [] := List.eq_nil_of_length_eq_zero (by rw [hb.1, h])
        intro j u hu
        simp at hu
      · obtain ⟨ad', he, _, hc⟩ := hb.src h
        injection he with he
        subst he
        exact hc
    obtain ⟨v', w', hr, h2, h3, _⟩ := run_append_own (P := P) w base t ty e i z 1 by_ ht hi hz hsize hby hz1 (by omega) v n L hown ad m c M (by rw [hb.1]; omega) hcells hone (by unfold maxLen; omega) hbytes hbase
    exact ⟨v', w', hr, h2, h3⟩

theorem wpList_append_vals {ops : Array Oper} {rest : List Oper} {o : Oper} {a : Act} {Q : Exit → Act → World → Prop} (hgd : o.guard = none) (s x : Operand) (t : TypeId)
    (ho : o.op = .call { callee := .builtin .append, args := #[s, x], argTypes := #[t, t] })
    (base : Nat) (e : TypeId) (i : TypeInfo) (z : Value) (by_ : Nat) (ht : P.underlying t = some (.slice e)) (hi : P.info? e = some i) (hz : i.zero = some z) (hsize : i.size = 1) (hby : i.bytes = by_) (hz1 : z.cells.size = 1)
    (v : Value) (n : Nat) (L : List Value) (hs : a.eval s = v) (hown : w.ownsRow base e 1 v n L) (B : Nat) (A : Option Addr) (m c : Nat) (M : List Value) (hx : a.eval x = .slice A m c) (hb : Vs w B A m M) (hone : ∀ u ∈ M, u.oneCell' = true)
    (hlen : n + m ≤ 9223372036854775807) (hbytes : (n + m) * by_ ≤ 140737488355328) (hbase : base ≤ w.heap.size)
    (h : ∀ v' w', Hid (w'.ownsRow base e 1 v' (n + m) (L ++ M)) → Hid (w.grownBy w' v.ownBlock) → wpList P ops Q rest (a.put o.dst v') w') : wpList P ops Q (o :: rest) a w := by
  refine wpList_plain hgd fun K hK => ?_
  obtain ⟨v', w', hrun, h2, h3⟩ := append_vals_run (P := P) base t o.type e i z by_ ht hi hz hsize hby hz1 v n L hown B A m c M hb hone hlen hbytes hbase
  unfold Oper.wp execOp
  simp only [ho, resolve, invoke, builtin, Sem.run_bind, Sem.run_pure, Result.andThen_ok, List.map_toArray, List.map_cons, List.map_nil, hs, hx, hrun]
  exact hK _ _ (h v' w' h2 h3)
end
end Go.Proofs.Ytopkhmbgdhpgeaa
