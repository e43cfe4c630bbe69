/-
  A slice of bytes that reads as a list: kept where nothing below a block has turned; cut; made.
  Slices of bytes, cut: where they lie, what they read.
  append of bytes onto a row of the call's own: one law, whether the source is none, empty or not.
  make of bytes: a block of noughts of the call's own; a copy into it.
  A slice of one-cell elements that reads as a list of values: kept where nothing below a block has turned; made; appended to. (XBytes has the same for bytes.)
  A list of integers as values.
  append of one element of several cells, just made, onto a row of the call's own. (XVals has the same for elements of one cell.)
  A slice of bytes that came in, as the row's step opens it, read as a list of bytes.
  Contract of the document's own look whether two rows of bytes are alike.
-/
import Derived.WalkKit
import Derived.ProofKit
import Derived.OpenShut
import Derived.Below
import Derived.Laws.OwnMore
import Derived.Deep.Draws
import Derived.OwnWalk
import Derived.Test.YtndbjdnfibpicaaRChecked
import Derived.KernelRfl
import Derived.Laws.AppendOwn
import Derived.Tactics
import Derived.Laws.CopyOwn
import Derived.Laws.MakeOwn
import Derived.Outline
import Derived.Lib.Hide
import Derived.LoopTactic
import Derived.Deep.QuietTactic
import Derived.BigQuiet
import Derived.IntWalk
section
namespace Go.Proofs.YtndbjdnfibpicaaR
open Go.RowKit

theorem block_of_add (a : Addr) (j : Nat) : (a.add j).block = a.block := by
  unfold Addr.add
  split <;> rfl

/-- n bytes from the address on (which may be none where there are none), all below block B -/
def Bs (w : World) (B : Nat) (A : Option Addr) (n : Nat) (l : List UInt8) : Prop :=
  l.length = n ∧ (0 < n → ∃ b off, A = some ⟨b, off, none⟩ ∧ b < B ∧ ∀ j (h : j < l.length), w.cell? ⟨b, off + j, none⟩ = some (.int .u8 (l[j].toNat : Int)))

section
variable {w w' : World} {B : Nat} {A : Option Addr} {n : Nat} {l : List UInt8}
theorem Bs.len (h : Bs w B A n l) : l.length = n := h.1
theorem Bs.below (h : Bs w B A n l) (hb : Below B w w') : Bs w' B A n l :=
  ⟨h.1, fun hn => by
    obtain ⟨b, off, e, hB, hc⟩ := h.2 hn
    exact ⟨b, off, e, hB, fun j hj => (hb.cell (p := ⟨b, off + j, none⟩) hB).trans (hc j hj)⟩⟩
theorem below_drewN {a : World} (h : Below B a w) (m : Nat) : Below B a (w.drewN m) := ⟨h.os, h.tape, h.output, h.size, h.block⟩
theorem Bs.drewN (h : Bs w B A n l) (m : Nat) : Bs (w.drewN m) B A n l := h
theorem Bs.mono (h : Bs w B A n l) {B' : Nat} (hB : B ≤ B') : Bs w B' A n l :=
  ⟨h.1, fun hn => by
    obtain ⟨b, off, e, hb, hc⟩ := h.2 hn
    exact ⟨b, off, e, by omega, hc⟩⟩
theorem Bs.nil (w : World) (B : Nat) (A : Option Addr) : Bs w B A 0 [] := ⟨rfl, fun h => absurd h (by omega)⟩
/-- the first k of them, the address kept -/
theorem Bs.front (h : Bs w B A n l) {k : Nat} (hk : k ≤ n) : Bs w B A k (l.take k) :=
  ⟨by rw [List.length_take, h.1]; omega, fun h0 => by
    obtain ⟨b, off, e, hB, hc⟩ := h.2 (by omega)
    refine ⟨b, off, e, hB, fun j hj => ?_⟩
    rw [List.length_take] at hj
    rw [List.getElem_take]
    exact hc j (by omega)⟩
/-- all behind the first k of them -/
theorem Bs.back (h : Bs w B A n l) {k cap : Nat} (hk : k ≤ n) (hc : n ≤ cap) : Bs w B (if cap = k then A else A.map (·.add k)) (n - k) (l.drop k) :=
  ⟨by rw [List.length_drop, h.1], fun h0 => by
    obtain ⟨b, off, rfl, hB, hcell⟩ := h.2 (by omega)
    rw [if_neg (by omega)]
    refine ⟨b, off + k, ?_, hB, fun j hj => ?_⟩
    · simp only [Option.map_some, Addr.add]
      split <;> simp_all
    rw [List.length_drop] at hj
    rw [List.getElem_drop, Nat.add_assoc]
    exact hcell (k + j) (by omega)⟩
/-- a row of the call's own -/
def vals (l : List UInt8) : List Value := l.map fun x => .int .u8 (x.toNat : Int)
theorem vals_length (l : List UInt8) : (vals l).length = l.length := by simp [vals]
theorem vals_get (l : List UInt8) (j : Nat) (h : j < l.length) : (vals l)[j]? = some (.int .u8 (l[j].toNat : Int)) := by simp [vals, h]
theorem vals_one (l : List UInt8) : ∀ u ∈ vals l, u.oneCell' = true := by
  intro u hu
  obtain ⟨x, _, rfl⟩ := List.mem_map.1 hu
  rfl
theorem vals_append (l m : List UInt8) : vals l ++ vals m = vals (l ++ m) := by simp [vals]
/-- a block of the call's own that is just these cells -/
theorem Bs.of_block {g off : Nat} {cs : List Value} {t : TypeId} (hg : w.heap[g]? = some (.cells cs.toArray t (0, 0))) (hB : g < B) (hl : l.length = n) (hcs : ∀ j (h : j < l.length), cs[off + j]? = some (.int .u8 (l[j].toNat : Int))) :
    Bs w B (some ⟨g, off, none⟩) n l :=
  ⟨hl, fun _ => ⟨g, off, rfl, hB, fun j hj => by
    rw [cell_of_row w g (off + j) cs.toArray t (0, 0) hg]
    simpa using hcs j hj⟩⟩
/-- what the copy or append of a slice asks: its cells, from its address on -/
theorem Bs.src (h : Bs w B A n l) (h0 : 0 < n) : ∃ ad, A = some ad ∧ ad.block < B ∧ ∀ j v, (vals l)[j]? = some v → w.cell? (ad.add j) = some v := by
  obtain ⟨b, off, rfl, hB, hc⟩ := h.2 h0
  refine ⟨_, rfl, hB, fun j v hv => ?_⟩
  by_cases hj : j < l.length
  · rw [vals_get l j hj] at hv
    injection hv with hv
    subst hv
    have e : (⟨b, off, none⟩ : Addr).add j = ⟨b, off + j, none⟩ := by
      simp only [Addr.add]
      split <;> simp_all
    rw [e]
    exact hc j hj
  · rw [List.getElem?_eq_none (by rw [vals_length]; omega)] at hv
    cases hv
/-- the same, in the words of the law of copy -/
theorem Bs.copies (h : Bs w B A n l) (d : Option Addr) : 0 < (vals l).length → d = d ∧ ∃ ad, A = some ad ∧ ∀ j v, (vals l)[j]? = some v → w.cell? (ad.add j) = some v := by
  intro h0
  obtain ⟨ad, e, _, hc⟩ := h.src (by rw [vals_length, h.1] at h0; exact h0)
  exact ⟨rfl, ad, e, hc⟩
theorem Bs.alloc (h : Bs w B A n l) (hB : B ≤ w.heap.size) (o : Obj) : Bs (w.alloc o) B A n l := h.below ((Below.refl B w).alloc hB o)
end
/-- a block that is known whole: just these bytes (T: the number of the type of its cells) -/
def Row (T : TypeId) (w : World) (g : Nat) (L : List UInt8) : Prop := w.heap[g]? = some (.cells (vals L).toArray T (0, 0))
section
variable {w w' : World} {T : TypeId} {g : Nat} {L : List UInt8}
theorem Row.lt (h : Row T w g L) : g < w.heap.size := by
  rcases Nat.lt_or_ge g w.heap.size with hlt | hge
  · exact hlt
  · unfold Row at h
    rw [Array.getElem?_eq_none hge] at h
    cases h
theorem Row.cell (h : Row T w g L) {j : Nat} (hj : j < L.length) : w.cell? ⟨g, j, none⟩ = some (.int .u8 (L[j].toNat : Int)) := by
  rw [cell_of_row w g j (vals L).toArray T (0, 0) h]
  simpa using vals_get L j hj
theorem Row.frozen (h : Row T w g L) (j : Nat) : w.frozen? ⟨g, j, none⟩ = false := by
  unfold Row at h
  simp [World.frozen?, h]
theorem Row.drewN (h : Row T w g L) (m : Nat) : Row T (w.drewN m) g L := h
theorem Row.below {B : Nat} (h : Row T w g L) (hb : Below B w w') (hg : g < B) : Row T w' g L := (hb.block g hg).trans h
theorem Row.far (h : Row T w g L) {p : Addr} (hp : g ≠ p.block) (u : Value) : Row T (w.setCell p u) g L := (Below.heap_setCell w p u g hp).trans h
theorem vals_set (L : List UInt8) (j : Nat) (x : UInt8) : (vals L).set j (.int .u8 (x.toNat : Int)) = vals (L.set j x) := by simp [vals, List.map_set]
theorem Row.put (h : Row T w g L) (j : Nat) (x : UInt8) : Row T (w.setCell ⟨g, j, none⟩ (.int .u8 (x.toNat : Int))) g (L.set j x) := by
  have e : (vals L).toArray.setIfInBounds j (.int .u8 (x.toNat : Int)) = (vals (L.set j x)).toArray := by
    rw [← vals_set]
    simp
  unfold Row at h ⊢
  rw [← e]
  simp [World.setCell, Array.getElem?_modify, h]
theorem Row.bs (h : Row T w g L) {B : Nat} (hB : g < B) : Bs w B (some ⟨g, 0, none⟩) L.length L :=
  ⟨rfl, fun _ => ⟨g, 0, rfl, hB, fun j hj => by rw [Nat.zero_add]; exact h.cell hj⟩⟩
theorem Row.new (w : World) (T : TypeId) (L : List UInt8) : Row T (w.alloc (.cells (vals L).toArray T)) w.heap.size L := heap_alloc_new w _
end
theorem take_put {L M : List UInt8} {k : Nat} {x : UInt8} (hk : k < L.length) (h : L.take k = M) : (L.set k x).take (k + 1) = M ++ [x] := by
  rw [List.take_succ_eq_append_getElem (by simpa using hk), List.take_set_of_le (Nat.le_refl _), h]
  simp
end Go.Proofs.YtndbjdnfibpicaaR
end
section
namespace Go.Proofs.YtndbjdnfibpicaaR
open Go.RowKit

theorem map_add0 (A : Option Addr) : A.map (·.add 0) = A := by
  cases A with
  | none => rfl
  | some a => obtain ⟨b, o, q⟩ := a; cases q <;> simp [Addr.add]
/-- what stands behind the first k bytes: where it lies -/
def behindN (A : Option Addr) (c k : Nat) : Option Addr := if c = k then A else A.map (·.add k)
theorem cut_pre (A : Option Addr) (n c k : Nat) (h : k ≤ c) (w : World) :
    (Instr.slice 54 (.slice A n c) none (some (.int .i64 (k : Int))) none).run Try.prog w = .ok (.slice A k c) w := by
  have h1 := run_slice_h (P := Try.prog) w 54 A n c (by kernel_rfl) .i64 (k : Int) (by omega) (by omega)
  have h2 : (sizeOf (Try.prog.elem 54)).run Try.prog w = .ok 1 w := by kernel_rfl
  rw [h1, h2]
  simp [sliced, Result.andThen, map_add0]
theorem cut_mid (A : Option Addr) (n c j k : Nat) (h : j ≤ k) (hk : k ≤ c) (w : World) :
    (Instr.slice 54 (.slice A n c) (some (.int .i64 (j : Int))) (some (.int .i64 (k : Int))) none).run Try.prog w = .ok (.slice (behindN A c j) (k - j) (c - j)) w := by
  have h1 := run_slice_lh (P := Try.prog) w 54 A n c (by kernel_rfl) .i64 .i64 (j : Int) (k : Int) (by omega) (by omega) (by omega)
  have h2 : (sizeOf (Try.prog.elem 54)).run Try.prog w = .ok 1 w := by kernel_rfl
  rw [h1, h2]
  simp [sliced, Result.andThen, behindN]
theorem Bs.mid {w : World} {B n c j k : Nat} {A : Option Addr} {l : List UInt8} (h : Bs w B A n l) (hj : j ≤ k) (hk : k ≤ n) (hc : n ≤ c) : Bs w B (behindN A c j) (k - j) ((l.drop j).take (k - j)) :=
  (h.back (k := j) (by omega) hc).front (by omega)
end Go.Proofs.YtndbjdnfibpicaaR
end
section
namespace Go.Proofs.YtndbjdnfibpicaaR
open Go.RowKit

section
variable {P : Program} {w w' : World}
/-- a row of the call's own reads as bytes -/
theorem own_bs {base : Nat} {e : TypeId} {v : Value} {n : Nat} {L : List UInt8} (h : w.ownsRow base e 1 v n (vals L)) :
    ∃ A cap, v = .slice A n cap ∧ Bs w w.heap.size A n L ∧ n ≤ cap := by
  have hl : L.length = n := by have := h.1; rw [vals_length] at this; omega
  rcases h.2 with ⟨rfl, rfl⟩ | ⟨g, cap, cur, rfl, _, hg, hnc, _, _, _⟩
  · exact ⟨none, 0, rfl, ⟨hl, fun h => absurd h (by omega)⟩, Nat.le_refl _⟩
  · refine ⟨_, cap, rfl, ⟨hl, fun _ => ⟨g, 0, rfl, ?_, fun j hj => ?_⟩⟩, hnc⟩
    · rcases Nat.lt_or_ge g w.heap.size with hlt | hge
      · exact hlt
      · rw [Array.getElem?_eq_none hge] at hg
        cases hg
    · rw [Nat.zero_add, h.cellAt j (by omega)]
      exact vals_get L j hj

theorem append_bytes_run (base : Nat) (t ty e : TypeId) (i : TypeInfo) (ht : P.underlying t = some (.slice e)) (hi : P.info? e = some i) (hz : i.zero = some (.int .u8 0)) (hsize : i.size = 1) (hby : i.bytes = 1)
    (v : Value) (n : Nat) (L : List UInt8) (hown : w.ownsRow base e 1 v n (vals L)) (B : Nat) (A : Option Addr) (m c : Nat) (M : List UInt8) (hb : Bs w B A m M)
    (hlen : n + m ≤ 140737488355328) (hbase : base ≤ w.heap.size) :
    ∃ v' w', (Builtin.append_ #[t, t] ty #[v, .slice A m c]).run P w = .ok v' w' ∧ w'.ownsRow base e 1 v' (n + m) (vals (L ++ M)) ∧ w.grownBy w' v.ownBlock := by
  rcases A with _ | ad
  · have hm : m = 0 := by
      rcases Nat.eq_zero_or_pos m with h | h
      · exact h
      · obtain ⟨b, off, hno, _⟩ := hb.2 h
        cases hno
    subst hm
    obtain rfl : M = [] := List.eq_nil_of_length_eq_zero hb.1
    refine ⟨v, w, ?_, by simpa using hown, ⟨rfl, rfl, rfl, Nat.le_refl _, fun _ _ _ => rfl⟩⟩
    rcases hown.2 with ⟨rfl, rfl⟩ | ⟨g, cap, cur, rfl, _, _, hnc, _⟩
    · simp [Builtin.append_, run_underlying ht, sizeOf, typeInfo, hi, Builtin.lenOf, Builtin.firstCells]
    · simp [Builtin.append_, run_underlying ht, sizeOf, typeInfo, hi, Builtin.lenOf, Builtin.firstCells, hnc, storeCells]
  · have hcells : ∀ j u, (vals M)[j]? = some u → w.cell? (ad.add j) = some u := by
      rcases Nat.eq_zero_or_pos m with h | h
      · obtain rfl : M = [] := List.eq_nil_of_length_eq_zero (by rw [hb.1, h])
        intro j u hu
        simp [vals] at hu
      · obtain ⟨ad', he, _, hc⟩ := hb.src h
        injection he with he
        subst he
        exact hc
    obtain ⟨v', w', hr, h2, h3, _⟩ := run_append_own (P := P) w base t ty e i (.int .u8 0) 1 1 ht hi hz hsize hby rfl (by omega) v n (vals L) hown ad m c (vals M) (by rw [vals_length, hb.1]; omega) hcells (vals_one M) (by unfold maxLen; omega) (by omega) hbase
    exact ⟨v', w', hr, by rw [← vals_append]; exact h2, h3⟩

theorem wpList_append_bytes {ops : Array Oper} {rest : List Oper} {o : Oper} {a : Act} {Q : Exit → Act → World → Prop} (hgd : o.guard = none) (s x : Operand) (t : TypeId)
    (ho : o.op = .call { callee := .builtin .append, args := #[s, x], argTypes := #[t, t] })
    (base : Nat) (e : TypeId) (i : TypeInfo) (ht : P.underlying t = some (.slice e)) (hi : P.info? e = some i) (hz : i.zero = some (.int .u8 0)) (hsize : i.size = 1) (hby : i.bytes = 1)
    (v : Value) (n : Nat) (L : List UInt8) (hs : a.eval s = v) (hown : w.ownsRow base e 1 v n (vals L)) (B : Nat) (A : Option Addr) (m c : Nat) (M : List UInt8) (hx : a.eval x = .slice A m c) (hb : Bs w B A m M)
    (hlen : n + m ≤ 140737488355328) (hbase : base ≤ w.heap.size)
    (h : ∀ v' w', Hid (w'.ownsRow base e 1 v' (n + m) (vals (L ++ M))) → Hid (w.grownBy w' v.ownBlock) → wpList P ops Q rest (a.put o.dst v') w') : wpList P ops Q (o :: rest) a w := by
  refine wpList_plain hgd fun K hK => ?_
  obtain ⟨v', w', hrun, h2, h3⟩ := append_bytes_run (P := P) base t o.type e i ht hi hz hsize hby v n L hown B A m c M hb hlen hbase
  unfold Oper.wp execOp
  simp only [ho, resolve, invoke, builtin, Sem.run_bind, Sem.run_pure, Result.andThen_ok, List.map_toArray, List.map_cons, List.map_nil, hs, hx, hrun]
  exact hK _ _ (h v' w' h2 h3)
end
end Go.Proofs.YtndbjdnfibpicaaR
end
section
namespace Go.Proofs.YtndbjdnfibpicaaR
open Go.ChangeShapes Go.WideShapes Go.ChangeAt Go.RowKit

theorem u8_info : (Try.prog.info? 5).map (fun i => (i.zero, i.size, i.bytes)) = some (some (.int .u8 0), 1, 1) := by kernel_rfl

theorem made_vals (n : Nat) : madeCells (Value.int .u8 0).cells n = (vals (List.replicate n 0)).toArray := by
  apply Array.toList_inj.1
  have h : (Value.int IntKind.u8 0).cells = #[.int .u8 0] := rfl
  rw [h, toList_madeCells_one]
  simp [vals]

/-- make([]byte, n): a block of noughts of the call's own -/
theorem make_bytes (n : Nat) (hn : n ≤ 281474976710656) (w : World) :
    (Instr.makeSlice 54 (.int .i64 (n : Int)) (.int .i64 (n : Int))).run Try.prog w = .ok (.slice (some ⟨w.heap.size, 0, none⟩) n n) (w.alloc (.cells (vals (List.replicate n 0)).toArray 5)) := by
  obtain ⟨i, hi, hz, hs, hb⟩ := info_parts u8_info
  have h := run_make (P := Try.prog) w 54 5 i (.int .u8 0) Try.underlying54 hi hz .i64 .i64 n n (by omega) (Int.le_refl _) (by rw [hb]; omega) (by omega)
  simp only [Int.toNat_natCast, hs, Nat.mul_one] at h
  rw [h, made_vals]

theorem u8_one : (Try.prog.info? 5).map (·.size) = some 1 := by kernel_rfl
theorem splice_vals (Z l : List UInt8) : splice (vals Z) 0 (vals l) = vals (l ++ Z.drop l.length) := by simp [splice, vals]
end Go.Proofs.YtndbjdnfibpicaaR
end
section
namespace Go.Proofs.YtndbjdnfibpicaaR
open Go.RowKit

/-- n values from the address on (which may be none where there are none), all below block B -/
def Vs (w : World) (B : Nat) (A : Option Addr) (n : Nat) (xs : List Value) : Prop :=
  xs.length = n ∧ (0 < n → ∃ b off, A = some ⟨b, off, none⟩ ∧ b < B ∧ ∀ j (h : j < xs.length), w.cell? ⟨b, off + j, none⟩ = some xs[j])

section
variable {w w' : World} {B n : Nat} {A : Option Addr} {xs : List Value}
theorem Vs.len (h : Vs w B A n xs) : xs.length = n := h.1
theorem Vs.nil (w : World) (B : Nat) (A : Option Addr) : Vs w B A 0 [] := ⟨rfl, fun h => absurd h (by omega)⟩
theorem Vs.below (h : Vs w B A n xs) (hb : Below B w w') : Vs w' B A n xs :=
  ⟨h.1, fun hn => by
    obtain ⟨b, off, e, hB, hc⟩ := h.2 hn
    exact ⟨b, off, e, hB, fun j hj => (hb.cell (p := ⟨b, off + j, none⟩) hB).trans (hc j hj)⟩⟩
theorem Vs.drewN (h : Vs w B A n xs) (m : Nat) : Vs (w.drewN m) B A n xs := h
theorem Vs.mono (h : Vs w B A n xs) {B' : Nat} (hB : B ≤ B') : Vs w B' A n xs :=
  ⟨h.1, fun hn => by
    obtain ⟨b, off, e, hb, hc⟩ := h.2 hn
    exact ⟨b, off, e, by omega, hc⟩⟩
theorem Vs.alloc (h : Vs w B A n xs) (hB : B ≤ w.heap.size) (o : Obj) : Vs (w.alloc o) B A n xs := h.below ((Below.refl B w).alloc hB o)
theorem Vs.of_block {g off : Nat} {cs : Array Value} {t : TypeId} {fr : Nat × Nat} (hg : w.heap[g]? = some (.cells cs t fr)) (hB : g < B) (hl : xs.length = n) (hcs : ∀ j (h : j < xs.length), cs[off + j]? = some xs[j]) :
    Vs w B (some ⟨g, off, none⟩) n xs :=
  ⟨hl, fun _ => ⟨g, off, rfl, hB, fun j hj => by
    rw [cell_of_row w g (off + j) cs t fr hg]
    exact hcs j hj⟩⟩
/-- a block just made -/
theorem Vs.new (w : World) (t : TypeId) (fr : Nat × Nat) (cs : Array Value) : Vs (w.alloc (.cells cs t fr)) (w.heap.size + 1) (some ⟨w.heap.size, 0, none⟩) cs.size cs.toList :=
  Vs.of_block (heap_alloc_new w _) (by omega) (by simp) (fun j hj => by rw [Nat.zero_add]; simp at hj; simp [hj])
theorem Vs.src (h : Vs w B A n xs) (h0 : 0 < n) : ∃ ad, A = some ad ∧ ad.block < B ∧ ∀ j v, xs[j]? = some v → w.cell? (ad.add j) = some v := by
  obtain ⟨b, off, rfl, hB, hc⟩ := h.2 h0
  refine ⟨_, rfl, hB, fun j v hv => ?_⟩
  obtain ⟨hj, rfl⟩ := List.getElem?_eq_some_iff.1 hv
  have e : (⟨b, off, none⟩ : Addr).add j = ⟨b, off + j, none⟩ := by
    simp only [Addr.add]
    split <;> simp_all
  rw [e]
  exact hc j hj
/-- a row of the call's own reads as a list -/
theorem Vs.of_own {base : Nat} {e : TypeId} {v : Value} (h : w.ownsRow base e 1 v n xs) : ∃ A cap, v = .slice A n cap ∧ Vs w w.heap.size A n xs ∧ n ≤ cap := by
  have hl : xs.length = n := by have := h.1; omega
  rcases h.2 with ⟨rfl, rfl⟩ | ⟨g, cap, cur, rfl, _, hg, hnc, _⟩
  · exact ⟨none, 0, rfl, ⟨hl, fun h => absurd h (by omega)⟩, Nat.le_refl _⟩
  · refine ⟨_, cap, rfl, ⟨hl, fun _ => ⟨g, 0, rfl, ?_, fun j hj => ?_⟩⟩, hnc⟩
    · rcases Nat.lt_or_ge g w.heap.size with hlt | hge
      · exact hlt
      · rw [Array.getElem?_eq_none hge] at hg
        cases hg
    · rw [Nat.zero_add, h.cellAt j (by omega)]
      exact List.getElem?_eq_getElem hj
end

section
variable {P : Program} {w w' : World}
/-- append onto a row of the call's own, whether the source is none, empty or not -/
theorem append_vals_run (base : Nat) (t ty e : TypeId) (i : TypeInfo) (z : Value) (by_ : Nat) (ht : P.underlying t = some (.slice e)) (hi : P.info? e = some i) (hz : i.zero = some z) (hsize : i.size = 1) (hby : i.bytes = by_) (hz1 : z.cells.size = 1)
    (v : Value) (n : Nat) (L : List Value) (hown : w.ownsRow base e 1 v n L) (B : Nat) (A : Option Addr) (m c : Nat) (M : List Value) (hb : Vs w B A m M) (hone : ∀ u ∈ M, u.oneCell' = true)
    (hlen : n + m ≤ 9223372036854775807) (hbytes : (n + m) * by_ ≤ 140737488355328) (hbase : base ≤ w.heap.size) :
    ∃ v' w', (Builtin.append_ #[t, t] ty #[v, .slice A m c]).run P w = .ok v' w' ∧ w'.ownsRow base e 1 v' (n + m) (L ++ M) ∧ w.grownBy w' v.ownBlock := by
  rcases A with _ | ad
  · have hm : m = 0 := by
      rcases Nat.eq_zero_or_pos m with h | h
      · exact h
      · obtain ⟨b, off, hno, _⟩ := hb.2 h
        cases hno
    subst hm
    obtain rfl : M = [] := List.eq_nil_of_length_eq_zero hb.1
    refine ⟨v, w, ?_, by simpa using hown, ⟨rfl, rfl, rfl, Nat.le_refl _, fun _ _ _ => rfl⟩⟩
    rcases hown.2 with ⟨rfl, rfl⟩ | ⟨g, cap, cur, rfl, _, _, hnc, _⟩
    · simp [Builtin.append_, run_underlying ht, sizeOf, typeInfo, hi, Builtin.lenOf, Builtin.firstCells]
    · simp [Builtin.append_, run_underlying ht, sizeOf, typeInfo, hi, Builtin.lenOf, Builtin.firstCells, hnc, storeCells]
  · have hcells : ∀ j u, M[j]? = some u → w.cell? (ad.add j) = some u := by
      rcases Nat.eq_zero_or_pos m with h | h
      · obtain rfl : M = [] := List.eq_nil_of_length_eq_zero (by rw [hb.1, h])
        intro j u hu
        simp at hu
      · obtain ⟨ad', he, _, hc⟩ := hb.src h
        injection he with he
        subst he
        exact hc
    obtain ⟨v', w', hr, h2, h3, _⟩ := run_append_own (P := P) w base t ty e i z 1 by_ ht hi hz hsize hby hz1 (by omega) v n L hown ad m c M (by rw [hb.1]; omega) hcells hone (by unfold maxLen; omega) hbytes hbase
    exact ⟨v', w', hr, h2, h3⟩

theorem wpList_append_vals {ops : Array Oper} {rest : List Oper} {o : Oper} {a : Act} {Q : Exit → Act → World → Prop} (hgd : o.guard = none) (s x : Operand) (t : TypeId)
    (ho : o.op = .call { callee := .builtin .append, args := #[s, x], argTypes := #[t, t] })
    (base : Nat) (e : TypeId) (i : TypeInfo) (z : Value) (by_ : Nat) (ht : P.underlying t = some (.slice e)) (hi : P.info? e = some i) (hz : i.zero = some z) (hsize : i.size = 1) (hby : i.bytes = by_) (hz1 : z.cells.size = 1)
    (v : Value) (n : Nat) (L : List Value) (hs : a.eval s = v) (hown : w.ownsRow base e 1 v n L) (B : Nat) (A : Option Addr) (m c : Nat) (M : List Value) (hx : a.eval x = .slice A m c) (hb : Vs w B A m M) (hone : ∀ u ∈ M, u.oneCell' = true)
    (hlen : n + m ≤ 9223372036854775807) (hbytes : (n + m) * by_ ≤ 140737488355328) (hbase : base ≤ w.heap.size)
    (h : ∀ v' w', Hid (w'.ownsRow base e 1 v' (n + m) (L ++ M)) → Hid (w.grownBy w' v.ownBlock) → wpList P ops Q rest (a.put o.dst v') w') : wpList P ops Q (o :: rest) a w := by
  refine wpList_plain hgd fun K hK => ?_
  obtain ⟨v', w', hrun, h2, h3⟩ := append_vals_run (P := P) base t o.type e i z by_ ht hi hz hsize hby hz1 v n L hown B A m c M hb hone hlen hbytes hbase
  unfold Oper.wp execOp
  simp only [ho, resolve, invoke, builtin, Sem.run_bind, Sem.run_pure, Result.andThen_ok, List.map_toArray, List.map_cons, List.map_nil, hs, hx, hrun]
  exact hK _ _ (h v' w' h2 h3)
end
end Go.Proofs.YtndbjdnfibpicaaR
end
section
namespace Go.Proofs.YtndbjdnfibpicaaR

/-- a list of integers as values -/
def nums (k : IntKind) (l : List Int) : List Value := l.map (.int k)
theorem nums_length (k : IntKind) (l : List Int) : (nums k l).length = l.length := by simp [nums]
theorem nums_get (k : IntKind) (l : List Int) (j : Nat) (h : j < (nums k l).length) (h' : j < l.length) : (nums k l)[j] = .int k l[j] := by simp [nums]
theorem nums_append (k : IntKind) (l m : List Int) : nums k l ++ nums k m = nums k (l ++ m) := by simp [nums]
end Go.Proofs.YtndbjdnfibpicaaR
end
section
namespace Go.Proofs.YtndbjdnfibpicaaR
open Go.RowKit

section
variable {P : Program} {w w' : World}
theorem wpList_append_one {ops : Array Oper} {rest : List Oper} {o : Oper} {a : Act} {Q : Exit → Act → World → Prop} (hgd : o.guard = none) (s x : Operand) (t : TypeId)
    (ho : o.op = .call { callee := .builtin .append, args := #[s, x], argTypes := #[t, t] })
    (base : Nat) (e : TypeId) (i : TypeInfo) (z : Value) (size by_ : Nat) (ht : P.underlying t = some (.slice e)) (hi : P.info? e = some i) (hz : i.zero = some z) (hsize : i.size = size) (hby : i.bytes = by_) (hz1 : z.cells.size = size) (hs0 : 0 < size)
    (v : Value) (n : Nat) (L : List Value) (hs : a.eval s = v) (hown : w.ownsRow base e size v n L) (ad : Addr) (c : Nat) (M : List Value) (hx : a.eval x = .slice (some ad) 1 c) (hM : M.length = size) (hc : ∀ j u, M[j]? = some u → w.cell? (ad.add j) = some u) (hone : ∀ u ∈ M, u.oneCell' = true)
    (hlen : n + 1 ≤ 9223372036854775807) (hbytes : (n + 1) * by_ ≤ 140737488355328) (hbase : base ≤ w.heap.size)
    (h : ∀ v' w', Hid (w'.ownsRow base e size v' (n + 1) (L ++ M)) → Hid (w.grownBy w' v.ownBlock) → wpList P ops Q rest (a.put o.dst v') w') : wpList P ops Q (o :: rest) a w := by
  refine wpList_plain hgd fun K hK => ?_
  obtain ⟨v', w', hrun, h2, h3, _⟩ := run_append_own (P := P) w base t o.type e i z size by_ ht hi hz hsize hby hz1 hs0 v n L hown ad 1 c M (by rw [hM, Nat.one_mul]) hc hone (by unfold maxLen; omega) hbytes hbase
  unfold Oper.wp execOp
  simp only [ho, resolve, invoke, builtin, Sem.run_bind, Sem.run_pure, Result.andThen_ok, List.map_toArray, List.map_cons, List.map_nil, hs, hx, hrun]
  exact hK _ _ (h v' w' h2 h3)
/-- the cells of a block just made -/
theorem new_cells (w : World) (t : TypeId) (cs : Array Value) : ∀ j u, cs.toList[j]? = some u → (w.alloc (.cells cs t)).cell? ((⟨w.heap.size, 0, none⟩ : Addr).add j) = some u := by
  intro j u hj
  have e : (⟨w.heap.size, 0, none⟩ : Addr).add j = ⟨w.heap.size, j, none⟩ := by
    simp only [Addr.add]
    split <;> simp_all
  rw [e, cell_of_row (w.alloc (.cells cs t)) w.heap.size j cs t (0, 0) (heap_alloc_new w _)]
  simpa using hj
/-- the same, where another block was made just ahead of it -/
theorem new_cells2 (w : World) (o : Obj) (t : TypeId) (cs : Array Value) : ∀ j u, cs.toList[j]? = some u → ((w.alloc o).alloc (.cells cs t)).cell? ((⟨w.heap.size + 1, 0, none⟩ : Addr).add j) = some u := by
  have h := new_cells (w.alloc o) t cs
  have e : (w.alloc o).heap.size = w.heap.size + 1 := by simp
  rw [e] at h
  exact h
theorem own_belowN {base size : Nat} {T : TypeId} {v : Value} {n : Nat} {xs : List Value} (h : w.ownsRow base T size v n xs) (hb : Below w.heap.size w w') : w'.ownsRow base T size v n xs :=
  h.kept (row := none) ⟨hb.os, hb.tape, hb.output, hb.size, fun k hk _ => hb.block k hk⟩ (Classical.em _)
/-- a row of the call's own, of elements of several cells, reads as a list -/
theorem Vs.of_ownN {base size : Nat} {e : TypeId} {v : Value} {n : Nat} {xs : List Value} (h : w.ownsRow base e size v n xs) : ∃ A cap, v = .slice A n cap ∧ Vs w w.heap.size A (n * size) xs ∧ n ≤ cap := by
  have hl : xs.length = n * size := h.1
  rcases h.2 with ⟨rfl, rfl⟩ | ⟨g, cap, cur, rfl, _, hg, hnc, _⟩
  · exact ⟨none, 0, rfl, ⟨hl, fun h => absurd h (by simp)⟩, Nat.le_refl _⟩
  · refine ⟨_, cap, rfl, ⟨hl, fun _ => ⟨g, 0, rfl, ?_, fun j hj => ?_⟩⟩, hnc⟩
    · rcases Nat.lt_or_ge g w.heap.size with hlt | hge
      · exact hlt
      · rw [Array.getElem?_eq_none hge] at hg
        cases hg
    · rw [Nat.zero_add, h.cellAt j (by omega)]
      exact List.getElem?_eq_getElem hj
end
end Go.Proofs.YtndbjdnfibpicaaR
end
section
namespace Go.Proofs.YtndbjdnfibpicaaR
open Go.ChangeShapes Go.WideShapes Go.ChangeAt Go.RowKit

/-- a slice of integers that came in: none, or a row of cells, spare ones too -/
def RowIn (k : IntKind) (w : World) (a : Option Addr) (len cap : Nat) (zs : List Int) : Prop :=
  (a = none ∧ len = 0 ∧ cap = 0 ∧ zs = []) ∨
  ∃ x, a = some x ∧ len ≤ cap ∧ cap ≤ maxLen ∧ zs.length = cap ∧ (∀ i, i < zs.length → w.cell? (x.add i) = some (.int k (zs.getD i 0))) ∧ ∀ n ∈ zs, (Lit.int k n).wf = true

theorem u8_of {z : Int} (h : (Lit.int .u8 z).wf = true) : ∃ x : UInt8, z = (x.toNat : Int) := by
  have hb := bounds_u8 h
  refine ⟨UInt8.ofNat z.toNat, ?_⟩
  have : (UInt8.ofNat z.toNat).toNat = z.toNat % 256 := by simp
  omega

theorem bs_of_rowIn {w : World} {a : Option Addr} {len cap : Nat} {zs : List Int} (h : RowIn .u8 w a len cap zs) : ∃ l : List UInt8, Bs w w.heap.size a len l ∧ len ≤ cap := by
  rcases h with ⟨rfl, rfl, rfl, rfl⟩ | ⟨x, rfl, hl, hm, hz, hcell, hwz⟩
  · exact ⟨[], Bs.nil _ _ _, Nat.le_refl _⟩
  · refine ⟨(zs.take len).map fun z => UInt8.ofNat z.toNat, ⟨by simp; omega, fun h0 => ?_⟩, hl⟩
    obtain ⟨b, off, spot⟩ := x
    have hc0 := hcell 0 (by omega)
    have hspot : spot = none := by simpa [Addr.add] using World.cell?_spot hc0
    subst hspot
    refine ⟨b, off, rfl, ?_, fun j hj => ?_⟩
    · have := World.block_lt_of_cell? w _ hc0
      rwa [block_of_add] at this
    · have hj' : j < zs.length := by simp at hj; omega
      have hc := hcell j hj'
      have e : (⟨b, off, none⟩ : Addr).add j = ⟨b, off + j, none⟩ := by
        simp only [Addr.add]
        split <;> simp_all
      rw [e] at hc
      rw [hc]
      obtain ⟨x, hx⟩ := u8_of (hwz zs[j] (List.getElem_mem hj'))
      rw [List.getElem_map, List.getElem_take, List.getD_eq_getElem?_getD, List.getElem?_eq_getElem hj', Option.getD_some, hx]
      simp
end Go.Proofs.YtndbjdnfibpicaaR
end
section
namespace Go.Proofs.YtndbjdnfibpicaaR
open Go.ChangeShapes Go.WideShapes Go.ChangeAt Go.RowKit

def NoMore (w : World) (v : Value) (e : Ending) (w' : World) : Prop := e = .returned v ∧ ∃ m, w' = w.drewN m

theorem bytes_lens (A1 A2 : Option Addr) (n1 c1 n2 c2 : Nat) (w : World) (h : n1 ≠ n2) :
    Calls Try.prog 38 #[.slice A1 n1 c1, .slice A2 n2 c2] w (NoMore w (.bool false)) := by
  have h1 : ((n1 : Int) != (n2 : Int)) = true := by simp; omega
  clear h
  go_enter Try.func38, Try.ntmps38
  go_wp2
  go_ret
  exact ⟨rfl, 0, rfl⟩

set_option maxHeartbeats 400000 in
theorem bytes_same (A1 A2 : Option Addr) (n c1 c2 B : Nat) (l : List UInt8) (w : World) (h1 : Bs w B A1 n l) (h2 : Bs w B A2 n l) (hn : n ≤ 9223372036854775807) :
    Calls Try.prog 38 #[.slice A1 n c1, .slice A2 n c2] w (NoMore w (.bool true)) := by
  have HL : Hid (l.length = n) := Lib.hid h1.1
  have C1 := Lib.hid h1.2
  have C2 := Lib.hid h2.2
  clear h1 h2
  have hne : ((n : Int) != (n : Int)) = false := by simp
  go_enter Try.func38, Try.ntmps38
  go_wp2
  go_loopw [13] (fun i wr => ∃ k m : Nat, k ≤ n ∧ i = .int .i64 k ∧ wr = w.drewN m) (fun i _ => n - (intOf i).toNat)
  case atStart => exact ⟨0, 0, by omega, rfl, rfl⟩
  case round =>
    obtain ⟨k, m, hk, rfl, rfl⟩ := hrel
    clear hne
    by_cases hlt : k < n
    · obtain ⟨b1, o1, rfl, hB1, hc1⟩ := C1.out (by omega)
      obtain ⟨b2, o2, rfl, hB2, hc2⟩ := C2.out (by omega)
      have hkl : k < l.length := by rw [HL.out]; exact hlt
      have e1 := hc1 k hkl
      have e2 := hc2 k hkl
      obtain ⟨x, hx⟩ : ∃ x, x = l[k] := ⟨_, rfl⟩
      rw [← hx] at e1 e2
      have ht : ((x.toNat : Int) != (x.toNat : Int)) = false := by simp
      clear hc1 hc2 C1 C2 HL hx
      go_wp2
      go_quiet (fail)
      go_wp2
      go_roundw
      case rel => exact ⟨k + 1, _, by omega, by go_num, rfl⟩
      case measure => simp [intOf]; omega
    · go_wp2
      go_ret
      exact ⟨rfl, m, rfl⟩

set_option maxHeartbeats 400000 in
/-- the first places that differ: at one of them it stops -/
theorem bytes_other (A1 A2 : Option Addr) (n c1 c2 B : Nat) (l1 l2 : List UInt8) (w : World) (h1 : Bs w B A1 n l1) (h2 : Bs w B A2 n l2) (hn : n ≤ 9223372036854775807) (hd : l1 ≠ l2) :
    Calls Try.prog 38 #[.slice A1 n c1, .slice A2 n c2] w (NoMore w (.bool false)) := by
  have HL1 : Hid (l1.length = n) := Lib.hid h1.1
  have HL2 : Hid (l2.length = n) := Lib.hid h2.1
  have C1 := Lib.hid h1.2
  have C2 := Lib.hid h2.2
  have HD := Lib.hid hd
  clear h1 h2 hd
  have hne : ((n : Int) != (n : Int)) = false := by simp
  go_enter Try.func38, Try.ntmps38
  go_wp2
  go_loopw [13] (fun i wr => ∃ k m : Nat, k ≤ n ∧ i = .int .i64 k ∧ wr = w.drewN m ∧ Hid (l1.take k = l2.take k)) (fun i _ => n - (intOf i).toNat)
  case atStart => exact ⟨0, 0, by omega, rfl, rfl, Lib.hid (by simp)⟩
  case round =>
    obtain ⟨k, m, hk, rfl, rfl, HT⟩ := hrel
    clear hne
    by_cases hlt : k < n
    · obtain ⟨b1, o1, rfl, hB1, hc1⟩ := C1.out (by omega)
      obtain ⟨b2, o2, rfl, hB2, hc2⟩ := C2.out (by omega)
      have hk1 : k < l1.length := by rw [HL1.out]; exact hlt
      have hk2 : k < l2.length := by rw [HL2.out]; exact hlt
      have e1 := hc1 k hk1
      have e2 := hc2 k hk2
      obtain ⟨x, hx⟩ : ∃ x, x = l1[k] := ⟨_, rfl⟩
      obtain ⟨y, hy⟩ : ∃ y, y = l2[k] := ⟨_, rfl⟩
      rw [← hx] at e1
      rw [← hy] at e2
      by_cases hxy : x = y
      · have HT2 : Hid (l1.take (k + 1) = l2.take (k + 1)) := Lib.hid (by rw [List.take_succ_eq_append_getElem hk1, List.take_succ_eq_append_getElem hk2, ← hx, ← hy, HT.out, hxy])
        subst hxy
        have ht : ((x.toNat : Int) != (x.toNat : Int)) = false := by simp
        clear hc1 hc2 C1 C2 HL1 HL2 hx hy HT HD
        go_wp2
        go_quiet (fail)
        go_wp2
        go_roundw
        case rel => exact ⟨k + 1, _, by omega, by go_num, rfl, HT2⟩
        case measure => simp [intOf]; omega
      · have ht : ((x.toNat : Int) != (y.toNat : Int)) = true := by
          have : x.toNat ≠ y.toNat := fun e => hxy (UInt8.toNat_inj.1 e)
          simp
          omega
        clear hc1 hc2 C1 C2 HL1 HL2 hx hy HT HD hxy
        go_wp2
        go_quiet (fail)
        go_wp2
        go_ret
        exact ⟨rfl, _, World.drewN_drewN _ _ _⟩
    · refine absurd ?_ HD.out
      have := HT.out
      rw [List.take_of_length_le (by rw [HL1.out]; omega), List.take_of_length_le (by rw [HL2.out]; omega)] at this
      exact this

/-- two rows of bytes: whether they are alike -/
theorem bytes_any (A1 A2 : Option Addr) (n1 c1 n2 c2 B : Nat) (l1 l2 : List UInt8) (w : World) (h1 : Bs w B A1 n1 l1) (h2 : Bs w B A2 n2 l2) (hn : n1 ≤ 9223372036854775807) :
    Calls Try.prog 38 #[.slice A1 n1 c1, .slice A2 n2 c2] w (NoMore w (.bool (decide (l1 = l2)))) := by
  by_cases hl : n1 = n2
  · subst hl
    by_cases hd : l1 = l2
    · subst hd
      rw [decide_eq_true rfl]
      exact bytes_same A1 A2 n1 c1 c2 B l1 w h1 h2 hn
    · rw [decide_eq_false hd]
      exact bytes_other A1 A2 n1 c1 c2 B l1 l2 w h1 h2 hn hd
  · rw [decide_eq_false (fun e => hl (by rw [← h1.1, ← h2.1, e]))]
    exact bytes_lens A1 A2 n1 c1 n2 c2 w hl
end Go.Proofs.YtndbjdnfibpicaaR
end
