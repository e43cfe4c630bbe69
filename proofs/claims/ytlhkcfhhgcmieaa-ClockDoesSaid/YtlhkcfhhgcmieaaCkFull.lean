/-
  append(x[:len(x):len(x)], place): always a row of its own.
-/
import Derived.Test.YtlhkcfhhgcmieaaCkSits
import Derived.Deep.RegionHeld3
namespace Go.Proofs.Ytlhkcfhhgcmieaa
open Go.ChangeShapes Go.WideShapes Go.ChangeAt Go.RowKit
set_option maxRecDepth 100000

theorem sit_full (A : Option Addr) (n c : Nat) (h : n ≤ c) (w : World) :
    (Instr.slice 30 (.slice A n c) none (some (.int .i64 (n : Int))) (some (.int .i64 (n : Int)))).run Try.prog w = .ok (.slice A n n) w := by
  have h1 := run_slice_hm (P := Try.prog) w 30 A n c (by kernel_rfl) .i64 .i64 (n : Int) (n : Int) (by omega) (by omega) (by omega)
  have h2 : (sizeOf (Try.prog.elem 30)).run Try.prog w = .ok 2 w := by kernel_rfl
  have h3 : A.map (·.add 0) = A := by
    cases A with
    | none => rfl
    | some a => obtain ⟨b, o, q⟩ := a; cases q <;> simp [Addr.add]
  rw [h1, h2]
  simp [sliced, Result.andThen, h3]
theorem run_append_full {W : World} {B n c : Nat} {A : Option Addr} {m : List Ck.Sit} (h : SitRow W B (.slice A n c) m) (hn : m.length ≤ 1000) (p : Ck.Sit) (ad : Addr) (hc : ∀ j u, (sitC p)[j]? = some u → W.cell? (ad.add j) = some u) (ty : TypeId) :
    ∃ v' W', (Builtin.append_ #[30, 30] ty #[.slice A n n, .slice (some ad) 1 1]).run Try.prog W = .ok v' W' ∧ SitRow W' W.heap.size v' (m ++ [p]) ∧ Below W.heap.size W W' := by
  obtain ⟨i0, zz, hi0, hz0, hz1, hz2, hz3⟩ := sit_parts
  obtain ⟨hnm, hnc, -⟩ := h.cells
  have hll : (m ++ [p]).length = n + 1 := by rw [List.length_append, List.length_singleton, hnm]
  have key : ∀ (cells : Array Value) (cap : Nat) (W' : World), W' = W.drew.alloc (.cells cells 36) → n + 1 ≤ cap → cells.toList.take ((n + 1) * 2) = sitV (m ++ [p]) → SitRow W' W.heap.size (.slice (some ⟨W.heap.size, 0, none⟩) (n + 1) cap) (m ++ [p]) ∧ Below W.heap.size W W' := fun cells cap W' e hcap ht => by
    subst e
    refine ⟨⟨_, cap, by rw [hll], by rw [hll]; exact hcap, fun e => (by cases e), fun ad e => ?_⟩, (Below.refl _ _).drew.alloc (Nat.le_refl _) _⟩
    injection e with e
    subst e
    exact ⟨W.heap.size, cells.toList, rfl, Nat.le_refl _, by have := heap_alloc_new W.drew (.cells cells 36); simpa [Bx] using this, by rw [hll]; exact ht⟩
  have hts : ∀ z : List Value, (sitV m ++ sitC p ++ z).take ((n + 1) * 2) = sitV (m ++ [p]) := fun z => by
    rw [← sitV_one1, sitV_append]
    have : (sitV (m ++ [p])).length = (n + 1) * 2 := by rw [sitV_length, hll]
    rw [← this, List.take_left]
  cases A with
  | none =>
    obtain ⟨A', c', h1, h2, h3, h4⟩ := h
    injection h1 with e1 e2 e3
    subst e1 e2 e3
    have hc0 := h3 rfl
    have hm0 : m = [] := List.eq_nil_of_length_eq_zero (by omega)
    subst hm0
    have hr := run_append_nil (P := Try.prog) W 30 ty 36 i0 zz (by kernel_rfl) hi0 hz0 ad 1 1 (sitC p) (by rw [hz2]; rfl) hc (by omega) (by omega) (by rw [hz3]; omega)
    obtain ⟨k1, k2⟩ := key ((sitC p).toArray ++ Builtin.zeroCells zz.cells (grownCap W 1 0 36 - 1)) (grownCap W 1 0 36) _ rfl (grownCap_ge W 1 0 _) (by have := hts (Builtin.zeroCells zz.cells (grownCap W 1 0 36 - 1)).toList; simpa [show sitV [] = [] from rfl] using this)
    exact ⟨_, _, hr, k1, k2⟩
  | some a =>
    obtain ⟨A', c', h1, h2, h3, h4⟩ := h
    injection h1 with e1 e2 e3
    subst e1 e2 e3
    obtain ⟨g, cur, k1, k2, k3, k4⟩ := h4 a rfl
    subst k1
    have holds : ∀ j v, (sitV m)[j]? = some v → W.cell? ((⟨g, 0, none⟩ : Addr).add j) = some v := fun j v hj => by
      have hl := (List.getElem?_eq_some_iff.1 hj).1
      rw [sitV_length] at hl
      rw [Addr.add_mid, Nat.zero_add, k3.at, ← hj, ← k4, List.getElem?_take, if_pos hl]
    have hr := run_append_grow (P := Try.prog) W 30 ty 36 i0 zz (by kernel_rfl) hi0 hz0 ⟨g, 0, none⟩ m.length m.length (sitV m) (by rw [sitV_length, hz2]) holds ad 1 1 (sitC p) (by rw [hz2]; rfl) hc (by omega) (by omega) (growslice_fits (by omega) (by rw [hz3]; omega))
    obtain ⟨q1, q2⟩ := key ((sitV m).toArray ++ (sitC p).toArray ++ Builtin.zeroCells zz.cells (grownCap W (m.length + 1) m.length 36 - (m.length + 1))) (grownCap W (m.length + 1) m.length 36) _ rfl (grownCap_ge W _ _ _) (by have := hts (Builtin.zeroCells zz.cells (grownCap W (m.length + 1) m.length 36 - (m.length + 1))).toList; simpa using this)
    exact ⟨_, _, hr, q1, q2⟩
theorem step_append_full {ops : Array Oper} {o : Oper} {a : Act} {K : Act → World → Prop} {Q : Exit → Act → World → Prop} {E : Prop} {w : World} (hw : Region.wanted o (yielded ops a.tmps) = true) (s x : Operand)
    (ho : o.op = .call { callee := .builtin .append, args := #[s, x], argTypes := #[30, 30] })
    {B n c : Nat} {A : Option Addr} {m : List Ck.Sit} (hs : a.eval s = .slice A n n) (h : SitRow w B (.slice A n c) m) (hn : m.length ≤ 1000) (p : Ck.Sit) (ad : Addr) (hx : a.eval x = .slice (some ad) 1 1) (hc : ∀ j u, (sitC p)[j]? = some u → w.cell? (ad.add j) = some u)
    (hk : ∀ v' w', SitRow w' w.heap.size v' (m ++ [p]) → Below w.heap.size w w' → K (a.put o.dst v') w') : if Region.wanted o (yielded ops a.tmps) = true then Oper.wp Try.prog o a w K Q else E := by
  rw [if_pos hw]
  obtain ⟨v', w', hrun, h2, h3⟩ := run_append_full h hn p ad hc o.type
  unfold Oper.wp execOp
  simp only [ho, resolve, invoke, builtin, Sem.run_bind, Sem.run_pure, Result.andThen_ok, List.map_toArray, List.map_cons, List.map_nil, hs, hx, hrun]
  exact hk v' w' h2 h3
end Go.Proofs.Ytlhkcfhhgcmieaa
