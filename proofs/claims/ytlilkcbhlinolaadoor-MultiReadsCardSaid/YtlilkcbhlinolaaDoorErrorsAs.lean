/-
  Contracts of errors.As at multi.argError, multi.formError (written by tools/gen_errorsas2.py).
-/
import Derived.Test.YtlilkcbhlinolaaDoorChecked
import Derived.WalkKit
import Derived.ProofKit
import Derived.OpenShut
import Derived.Below
import Derived.BigQuiet
import Derived.Stop.Asserts
namespace Go.Proofs.YtlilkcbhlinolaaDoor
open Go.ChangeShapes Go.WideShapes Go.ChangeAt Go.RowKit
/-- the block of the types' descriptors -/
noncomputable def HG : Nat := Tryd.prog.globals.size
theorem m_kind (t n : Nat) (w : World) : (method (n + 1) 97 (.agg #[.pointer (some ⟨HG, t, none⟩)]) "Kind").run Tryd.prog w = .ok (100, .pointer (some ⟨HG, t, none⟩)) w := by kernel_rfl
theorem m_elem (t n : Nat) (w : World) : (method (n + 1) 97 (.agg #[.pointer (some ⟨HG, t, none⟩)]) "Elem").run Tryd.prog w = .ok (111, .agg #[.pointer (some ⟨HG, t, none⟩)]) w := by kernel_rfl
theorem m_impl (t n : Nat) (w : World) : (method (n + 1) 97 (.agg #[.pointer (some ⟨HG, t, none⟩)]) "Implements").run Tryd.prog w = .ok (112, .agg #[.pointer (some ⟨HG, t, none⟩)]) w := by kernel_rfl
theorem m_assg (t n : Nat) (w : World) : (method (n + 1) 97 (.agg #[.pointer (some ⟨HG, t, none⟩)]) "AssignableTo").run Tryd.prog w = .ok (109, .agg #[.pointer (some ⟨HG, t, none⟩)]) w := by kernel_rfl

/-- block g's one cell was written; new blocks may have been laid -/
def PutOn (g : Nat) (v : Value) (w w' : World) : Prop :=
  w'.os = w.os ∧ w'.tape = w.tape ∧ w'.output = w.output ∧ w.heap.size ≤ w'.heap.size ∧ (∀ k, k < w.heap.size → k ≠ g → w'.heap[k]? = w.heap[k]?) ∧ w'.cell? ⟨g, 0, none⟩ = some v ∧ w'.frozen? ⟨g, 0, none⟩ = false
theorem PutOn.below {g : Nat} {v : Value} {w w' : World} (h : PutOn g v w w') (hg : g ≤ w.heap.size) : Below g w w' :=
  ⟨h.1, h.2.1, h.2.2.1, h.2.2.2.1, fun k hk => h.2.2.2.2.1 k (by omega) (by omega)⟩
theorem PutOn.after {g : Nat} {v : Value} {w w1 w' : World} (hb : Below w.heap.size w w1) (h : PutOn g v w1 w') : PutOn g v w w' := by
  obtain ⟨h1, h2, h3, h4, h5, h6⟩ := h
  exact ⟨h1.trans hb.os, h2.trans hb.tape, h3.trans hb.output, Nat.le_trans hb.size h4, fun k hk hne => (h5 k (Nat.lt_of_lt_of_le hk hb.size) hne).trans (hb.block k hk), h6⟩
theorem PutOn.laid {g : Nat} {v u : Value} {w : World} (hg : g < w.heap.size) (h : w.cell? ⟨g, 0, none⟩ = some u) (hf : w.frozen? ⟨g, 0, none⟩ = false) (o o2 : Obj) : PutOn g v w (((w.setCell ⟨g, 0, none⟩ v).alloc o).alloc o2) := by
  have hs : (w.setCell ⟨g, 0, none⟩ v).heap.size = w.heap.size := by simp
  have hb : Below w.heap.size (w.setCell ⟨g, 0, none⟩ v) (((w.setCell ⟨g, 0, none⟩ v).alloc o).alloc o2) :=
    ((Below.refl _ _).alloc (by rw [hs]; exact Nat.le_refl _) _).alloc (by simp) _
  refine ⟨hb.os, hb.tape, hb.output, by simp; omega, fun k hk hne => (hb.block k hk).trans (Below.heap_setCell _ _ _ k hne), ?_, ?_⟩
  · rw [hb.cell (p := ⟨g, 0, none⟩) hg, World.cell?_setCell_same' _ _ _ (by rw [h]; rfl)]
  · rw [hb.frozen (p := ⟨g, 0, none⟩) hg, World.frozen?_setCell]; exact hf
theorem below_new (w : World) (o : Obj) : Below w.heap.size w (w.alloc o) := (Below.refl _ _).alloc (Nat.le_refl _) o
theorem as_nil (T : Value) (w : World) :
    Calls Tryd.prog 30 #[.nilIface, T] w fun e w' => e = .returned (.bool false) ∧ w = w' := by
  go_enter Tryd.func30, Tryd.ntmps30
  go_wp2
  go_ret
  exact ⟨rfl, rfl⟩

theorem valueOf_run_argError (g : Nat) (w : World) : (callFunc 39 #[.iface 65 (.pointer (some ⟨g, 0, none⟩))]).run Tryd.prog w = .ok (.value (.agg #[.pointer (some ⟨HG, 65, none⟩), .pointer (some ⟨w.heap.size, 0, none⟩), .int .u64 150])) (w.alloc (.cells #[.pointer (some ⟨g, 0, none⟩)] 65)) := by
  kernel_rfl
theorem valueOf2_run_argError (x : ByteArray) (w : World) : (callFunc 39 #[.iface 60 (.agg #[.string x])]).run Tryd.prog w = .ok (.value (.agg #[.pointer (some ⟨HG, 60, none⟩), .pointer (some ⟨w.heap.size, 0, none⟩), .int .u64 153])) (w.alloc (.cells #[.string x] 60)) := by
  kernel_rfl
theorem typeOf_run_argError (x : ByteArray) (w : World) : (callFunc 49 #[.iface 60 (.agg #[.string x])]).run Tryd.prog w = .ok (.value (.iface 97 (.agg #[.pointer (some ⟨HG, 60, none⟩)]))) w := by
  kernel_rfl
theorem type_run_argError (g : Nat) (w : World) : (callFunc 40 #[.agg #[.pointer (some ⟨HG, 65, none⟩), .pointer (some ⟨g, 0, none⟩), .int .u64 150]]).run Tryd.prog w = .ok (.value (.iface 97 (.agg #[.pointer (some ⟨HG, 65, none⟩)]))) w := by
  kernel_rfl
theorem elemT_run_argError (w : World) : (callFunc 111 #[.agg #[.pointer (some ⟨HG, 65, none⟩)]]).run Tryd.prog w = .ok (.value (.iface 97 (.agg #[.pointer (some ⟨HG, 60, none⟩)]))) w := by
  kernel_rfl
theorem assignable_run_argError (w : World) : (callFunc 109 #[.agg #[.pointer (some ⟨HG, 60, none⟩)], .iface 97 (.agg #[.pointer (some ⟨HG, 60, none⟩)])]).run Tryd.prog w = .ok (.value (.bool true)) w := by
  kernel_rfl
theorem implements_run_argError (w : World) : (callFunc 112 #[.agg #[.pointer (some ⟨HG, 60, none⟩)], .iface 97 (.agg #[.pointer (some ⟨HG, 46, none⟩)])]).run Tryd.prog w = .ok (.value (.bool true)) w := by
  kernel_rfl
theorem isNil_run_argError (g b : Nat) (w : World) (h : w.cell? ⟨b, 0, none⟩ = some (.pointer (some ⟨g, 0, none⟩))) : (callFunc 41 #[.agg #[.pointer (some ⟨HG, 65, none⟩), .pointer (some ⟨b, 0, none⟩), .int .u64 150]]).run Tryd.prog w = .ok (.value (.bool false)) w := by
  have e1 : Sem.run Tryd.prog (callFunc 41 #[.agg #[.pointer (some ⟨HG, 65, none⟩), .pointer (some ⟨b, 0, none⟩), .int .u64 150]]) w = Sem.run Tryd.prog (do let v ← Extern.ReflectliteValue.isNil 65 ⟨b, 0, none⟩ 150 22; pure (Next.value v)) w := by kernel_rfl
  rw [e1]
  simp [Extern.ReflectliteValue.isNil, loadVar, go_sem, h]
theorem elemV_run_argError (g b : Nat) (w : World) (h : w.cell? ⟨b, 0, none⟩ = some (.pointer (some ⟨g, 0, none⟩))) : (callFunc 50 #[.agg #[.pointer (some ⟨HG, 65, none⟩), .pointer (some ⟨b, 0, none⟩), .int .u64 150]]).run Tryd.prog w = .ok (.value (.agg #[.pointer (some ⟨HG, 60, none⟩), .pointer (some ⟨g, 0, none⟩), .int .u64 409])) w := by
  have e1 : Sem.run Tryd.prog (callFunc 50 #[.agg #[.pointer (some ⟨HG, 65, none⟩), .pointer (some ⟨b, 0, none⟩), .int .u64 150]]) w = Sem.run Tryd.prog (do let v ← (do match ← loadVar 65 ⟨b, 0, none⟩ with | .pointer none => pure Extern.ReflectliteValue.zeroV | .pointer (some p) => Extern.ReflectliteValue.mk 60 p 256 | _ => Extern.ReflectliteValue.valueError "reflectlite.Value.Elem" 22); pure (Next.value v)) w := by kernel_rfl
  have mk : Sem.run Tryd.prog (Extern.ReflectliteValue.mk 60 ⟨g, 0, none⟩ 256) w = .ok (.agg #[.pointer (some ⟨HG, 60, none⟩), .pointer (some ⟨g, 0, none⟩), .int .u64 409]) w := by kernel_rfl
  rw [e1]
  simp [loadVar, go_sem, h, mk]
theorem set_run_argError (g b : Nat) (x : ByteArray) (u : Value) (w : World) (h : w.cell? ⟨b, 0, none⟩ = some (.string x)) (hg : w.cell? ⟨g, 0, none⟩ = some u) (hf : w.frozen? ⟨g, 0, none⟩ = false) :
   (callFunc 51 #[.agg #[.pointer (some ⟨HG, 60, none⟩), .pointer (some ⟨g, 0, none⟩), .int .u64 409], .agg #[.pointer (some ⟨HG, 60, none⟩), .pointer (some ⟨b, 0, none⟩), .int .u64 153]]).run Tryd.prog w = .ok (.value (.tuple #[])) (w.setCell ⟨g, 0, none⟩ (.string x)) := by
  have e1 : Sem.run Tryd.prog (callFunc 51 #[.agg #[.pointer (some ⟨HG, 60, none⟩), .pointer (some ⟨g, 0, none⟩), .int .u64 409], .agg #[.pointer (some ⟨HG, 60, none⟩), .pointer (some ⟨b, 0, none⟩), .int .u64 153]]) w = Sem.run Tryd.prog (do let v ← loadVar 60 ⟨b, 0, none⟩; storeVar 60 ⟨g, 0, none⟩ v; pure (Next.value (.tuple #[]))) w := by kernel_rfl
  rw [e1]
  simp [loadVar, storeVar, go_sem, h, hg, hf, Value.cells]
theorem k_ptr_argError (w : World) : (callFunc 100 #[.pointer (some ⟨HG, 65, none⟩)]).run Tryd.prog w = .ok (.value (.int .u8 22)) w := by kernel_rfl
theorem k_str_argError (w : World) : (callFunc 100 #[.pointer (some ⟨HG, 60, none⟩)]).run Tryd.prog w = .ok (.value (.int .u8 25)) w := by kernel_rfl
theorem noAs_argError (v : Value) (xT : TypeId) (w : World) : (Instr.typeAssert (.iface 60 v) xT 102 true).run Tryd.prog w = .ok (.tuple #[.nilIface, .bool false]) w := run_typeAssert_lacksB Tryd.underlying102 (by kernel_rfl) (by kernel_rfl) v xT w
theorem noUn_argError (v : Value) (xT : TypeId) (w : World) : (Instr.typeAssert (.iface 60 v) xT 105 true).run Tryd.prog w = .ok (.tuple #[.nilIface, .bool false]) w := run_typeAssert_lacksB Tryd.underlying105 (by kernel_rfl) (by kernel_rfl) v xT w
theorem noUns_argError (v : Value) (xT : TypeId) (w : World) : (Instr.typeAssert (.iface 60 v) xT 107 true).run Tryd.prog w = .ok (.tuple #[.nilIface, .bool false]) w := run_typeAssert_lacksB Tryd.underlying107 (by kernel_rfl) (by kernel_rfl) v xT w
set_option maxHeartbeats 2000000 in
set_option maxRecDepth 100000 in
theorem as_in_argError (g b : Nat) (x : ByteArray) (u : Value) (w : World) (hb : w.cell? ⟨b, 0, none⟩ = some (.pointer (some ⟨g, 0, none⟩))) (hbl : b < w.heap.size) (hgl : g < w.heap.size) (h : w.cell? ⟨g, 0, none⟩ = some u) (hf : w.frozen? ⟨g, 0, none⟩ = false) (T : Value) :
    Calls Tryd.prog 42 #[.iface 60 (.agg #[.string x]), T, .agg #[.pointer (some ⟨HG, 65, none⟩), .pointer (some ⟨b, 0, none⟩), .int .u64 150], .iface 97 (.agg #[.pointer (some ⟨HG, 60, none⟩)])] w
      fun e w' => e = .returned (.bool true) ∧ PutOn g (.string x) w w' := by
  have r1 := typeOf_run_argError x
  have r2 := m_assg
  have r3 := assignable_run_argError
  have r4 := elemV_run_argError g b
  have r5 := valueOf2_run_argError x
  have hB : Below w.heap.size w ((w.alloc (.cells #[.pointer (some ⟨HG, 65, none⟩), .pointer (some ⟨b, 0, none⟩), .int .u64 150] 77)).alloc (.cells #[.string x] 60)) := (below_new w _).alloc (by simp) _
  have r6 := set_run_argError g (w.heap.size + 1) x u ((w.alloc (.cells #[.pointer (some ⟨HG, 65, none⟩), .pointer (some ⟨b, 0, none⟩), .int .u64 150] 77)).alloc (.cells #[.string x] 60)) (by simp) ((hB.cell (p := ⟨g, 0, none⟩) hgl).trans h) ((hB.frozen (p := ⟨g, 0, none⟩) hgl).trans hf)
  go_enter Tryd.func42, Tryd.ntmps42
  go_wp2
  refine wp_loop_rounds 1 ?_
  rw [rounds_succ]
  go_wp2
  go_ret
  exact ⟨rfl, PutOn.laid hgl h hf _ _⟩
set_option maxHeartbeats 2000000 in
set_option maxRecDepth 100000 in
theorem as_same_argError (g : Nat) (x : ByteArray) (u : Value) (w : World) (h0 : 0 < w.heap.size) (hg : g < w.heap.size) (h : w.cell? ⟨g, 0, none⟩ = some u) (hf : w.frozen? ⟨g, 0, none⟩ = false) (ht : w.cell? ⟨0, 0, none⟩ = some (.iface 97 (.agg #[.pointer (some ⟨HG, 46, none⟩)]))) :
    Calls Tryd.prog 30 #[.iface 60 (.agg #[.string x]), .iface 65 (.pointer (some ⟨g, 0, none⟩))] w fun e w' => e = .returned (.bool true) ∧ PutOn g (.string x) w w' := by
  have r1 := valueOf_run_argError g
  have r2 := type_run_argError
  have r3 := m_kind
  have r4 := m_elem
  have r5 := m_impl
  have r6 := k_ptr_argError
  have r7 := k_str_argError
  have r8 := elemT_run_argError
  have r9 := implements_run_argError
  have r10 := isNil_run_argError g
  have hB : Below w.heap.size w ((w.alloc (.cells #[.pointer (some ⟨g, 0, none⟩)] 65)).alloc (.cells #[.pointer (some ⟨HG, 65, none⟩), .pointer (some ⟨w.heap.size, 0, none⟩), .int .u64 150] 77)) := (below_new w _).alloc (by simp) _
  have ci := as_in_argError g w.heap.size x u ((w.alloc (.cells #[.pointer (some ⟨g, 0, none⟩)] 65)).alloc (.cells #[.pointer (some ⟨HG, 65, none⟩), .pointer (some ⟨w.heap.size, 0, none⟩), .int .u64 150] 77)) (by simp) (by simp; omega) (by simp; omega) ((hB.cell (p := ⟨g, 0, none⟩) hg).trans h) ((hB.frozen (p := ⟨g, 0, none⟩) hg).trans hf)
  go_enter Tryd.func30, Tryd.ntmps30
  go_wp2_with (go_at_call 42; refine (ci _).mono ?_; rintro e w2 ⟨rfl, hp⟩)
  go_ret
  exact ⟨rfl, hp.after hB⟩

theorem valueOf_run_formError (g : Nat) (w : World) : (callFunc 39 #[.iface 66 (.pointer (some ⟨g, 0, none⟩))]).run Tryd.prog w = .ok (.value (.agg #[.pointer (some ⟨HG, 66, none⟩), .pointer (some ⟨w.heap.size, 0, none⟩), .int .u64 150])) (w.alloc (.cells #[.pointer (some ⟨g, 0, none⟩)] 66)) := by
  kernel_rfl
theorem valueOf2_run_formError (x : ByteArray) (w : World) : (callFunc 39 #[.iface 63 (.agg #[.string x])]).run Tryd.prog w = .ok (.value (.agg #[.pointer (some ⟨HG, 63, none⟩), .pointer (some ⟨w.heap.size, 0, none⟩), .int .u64 153])) (w.alloc (.cells #[.string x] 63)) := by
  kernel_rfl
theorem typeOf_run_formError (x : ByteArray) (w : World) : (callFunc 49 #[.iface 63 (.agg #[.string x])]).run Tryd.prog w = .ok (.value (.iface 97 (.agg #[.pointer (some ⟨HG, 63, none⟩)]))) w := by
  kernel_rfl
theorem type_run_formError (g : Nat) (w : World) : (callFunc 40 #[.agg #[.pointer (some ⟨HG, 66, none⟩), .pointer (some ⟨g, 0, none⟩), .int .u64 150]]).run Tryd.prog w = .ok (.value (.iface 97 (.agg #[.pointer (some ⟨HG, 66, none⟩)]))) w := by
  kernel_rfl
theorem elemT_run_formError (w : World) : (callFunc 111 #[.agg #[.pointer (some ⟨HG, 66, none⟩)]]).run Tryd.prog w = .ok (.value (.iface 97 (.agg #[.pointer (some ⟨HG, 63, none⟩)]))) w := by
  kernel_rfl
theorem assignable_run_formError (w : World) : (callFunc 109 #[.agg #[.pointer (some ⟨HG, 63, none⟩)], .iface 97 (.agg #[.pointer (some ⟨HG, 63, none⟩)])]).run Tryd.prog w = .ok (.value (.bool true)) w := by
  kernel_rfl
theorem implements_run_formError (w : World) : (callFunc 112 #[.agg #[.pointer (some ⟨HG, 63, none⟩)], .iface 97 (.agg #[.pointer (some ⟨HG, 46, none⟩)])]).run Tryd.prog w = .ok (.value (.bool true)) w := by
  kernel_rfl
theorem isNil_run_formError (g b : Nat) (w : World) (h : w.cell? ⟨b, 0, none⟩ = some (.pointer (some ⟨g, 0, none⟩))) : (callFunc 41 #[.agg #[.pointer (some ⟨HG, 66, none⟩), .pointer (some ⟨b, 0, none⟩), .int .u64 150]]).run Tryd.prog w = .ok (.value (.bool false)) w := by
  have e1 : Sem.run Tryd.prog (callFunc 41 #[.agg #[.pointer (some ⟨HG, 66, none⟩), .pointer (some ⟨b, 0, none⟩), .int .u64 150]]) w = Sem.run Tryd.prog (do let v ← Extern.ReflectliteValue.isNil 66 ⟨b, 0, none⟩ 150 22; pure (Next.value v)) w := by kernel_rfl
  rw [e1]
  simp [Extern.ReflectliteValue.isNil, loadVar, go_sem, h]
theorem elemV_run_formError (g b : Nat) (w : World) (h : w.cell? ⟨b, 0, none⟩ = some (.pointer (some ⟨g, 0, none⟩))) : (callFunc 50 #[.agg #[.pointer (some ⟨HG, 66, none⟩), .pointer (some ⟨b, 0, none⟩), .int .u64 150]]).run Tryd.prog w = .ok (.value (.agg #[.pointer (some ⟨HG, 63, none⟩), .pointer (some ⟨g, 0, none⟩), .int .u64 409])) w := by
  have e1 : Sem.run Tryd.prog (callFunc 50 #[.agg #[.pointer (some ⟨HG, 66, none⟩), .pointer (some ⟨b, 0, none⟩), .int .u64 150]]) w = Sem.run Tryd.prog (do let v ← (do match ← loadVar 66 ⟨b, 0, none⟩ with | .pointer none => pure Extern.ReflectliteValue.zeroV | .pointer (some p) => Extern.ReflectliteValue.mk 63 p 256 | _ => Extern.ReflectliteValue.valueError "reflectlite.Value.Elem" 22); pure (Next.value v)) w := by kernel_rfl
  have mk : Sem.run Tryd.prog (Extern.ReflectliteValue.mk 63 ⟨g, 0, none⟩ 256) w = .ok (.agg #[.pointer (some ⟨HG, 63, none⟩), .pointer (some ⟨g, 0, none⟩), .int .u64 409]) w := by kernel_rfl
  rw [e1]
  simp [loadVar, go_sem, h, mk]
theorem set_run_formError (g b : Nat) (x : ByteArray) (u : Value) (w : World) (h : w.cell? ⟨b, 0, none⟩ = some (.string x)) (hg : w.cell? ⟨g, 0, none⟩ = some u) (hf : w.frozen? ⟨g, 0, none⟩ = false) :
   (callFunc 51 #[.agg #[.pointer (some ⟨HG, 63, none⟩), .pointer (some ⟨g, 0, none⟩), .int .u64 409], .agg #[.pointer (some ⟨HG, 63, none⟩), .pointer (some ⟨b, 0, none⟩), .int .u64 153]]).run Tryd.prog w = .ok (.value (.tuple #[])) (w.setCell ⟨g, 0, none⟩ (.string x)) := by
  have e1 : Sem.run Tryd.prog (callFunc 51 #[.agg #[.pointer (some ⟨HG, 63, none⟩), .pointer (some ⟨g, 0, none⟩), .int .u64 409], .agg #[.pointer (some ⟨HG, 63, none⟩), .pointer (some ⟨b, 0, none⟩), .int .u64 153]]) w = Sem.run Tryd.prog (do let v ← loadVar 63 ⟨b, 0, none⟩; storeVar 63 ⟨g, 0, none⟩ v; pure (Next.value (.tuple #[]))) w := by kernel_rfl
  rw [e1]
  simp [loadVar, storeVar, go_sem, h, hg, hf, Value.cells]
theorem k_ptr_formError (w : World) : (callFunc 100 #[.pointer (some ⟨HG, 66, none⟩)]).run Tryd.prog w = .ok (.value (.int .u8 22)) w := by kernel_rfl
theorem k_str_formError (w : World) : (callFunc 100 #[.pointer (some ⟨HG, 63, none⟩)]).run Tryd.prog w = .ok (.value (.int .u8 25)) w := by kernel_rfl
theorem noAs_formError (v : Value) (xT : TypeId) (w : World) : (Instr.typeAssert (.iface 63 v) xT 102 true).run Tryd.prog w = .ok (.tuple #[.nilIface, .bool false]) w := run_typeAssert_lacksB Tryd.underlying102 (by kernel_rfl) (by kernel_rfl) v xT w
theorem noUn_formError (v : Value) (xT : TypeId) (w : World) : (Instr.typeAssert (.iface 63 v) xT 105 true).run Tryd.prog w = .ok (.tuple #[.nilIface, .bool false]) w := run_typeAssert_lacksB Tryd.underlying105 (by kernel_rfl) (by kernel_rfl) v xT w
theorem noUns_formError (v : Value) (xT : TypeId) (w : World) : (Instr.typeAssert (.iface 63 v) xT 107 true).run Tryd.prog w = .ok (.tuple #[.nilIface, .bool false]) w := run_typeAssert_lacksB Tryd.underlying107 (by kernel_rfl) (by kernel_rfl) v xT w
set_option maxHeartbeats 2000000 in
set_option maxRecDepth 100000 in
theorem as_in_formError (g b : Nat) (x : ByteArray) (u : Value) (w : World) (hb : w.cell? ⟨b, 0, none⟩ = some (.pointer (some ⟨g, 0, none⟩))) (hbl : b < w.heap.size) (hgl : g < w.heap.size) (h : w.cell? ⟨g, 0, none⟩ = some u) (hf : w.frozen? ⟨g, 0, none⟩ = false) (T : Value) :
    Calls Tryd.prog 42 #[.iface 63 (.agg #[.string x]), T, .agg #[.pointer (some ⟨HG, 66, none⟩), .pointer (some ⟨b, 0, none⟩), .int .u64 150], .iface 97 (.agg #[.pointer (some ⟨HG, 63, none⟩)])] w
      fun e w' => e = .returned (.bool true) ∧ PutOn g (.string x) w w' := by
  have r1 := typeOf_run_formError x
  have r2 := m_assg
  have r3 := assignable_run_formError
  have r4 := elemV_run_formError g b
  have r5 := valueOf2_run_formError x
  have hB : Below w.heap.size w ((w.alloc (.cells #[.pointer (some ⟨HG, 66, none⟩), .pointer (some ⟨b, 0, none⟩), .int .u64 150] 77)).alloc (.cells #[.string x] 63)) := (below_new w _).alloc (by simp) _
  have r6 := set_run_formError g (w.heap.size + 1) x u ((w.alloc (.cells #[.pointer (some ⟨HG, 66, none⟩), .pointer (some ⟨b, 0, none⟩), .int .u64 150] 77)).alloc (.cells #[.string x] 63)) (by simp) ((hB.cell (p := ⟨g, 0, none⟩) hgl).trans h) ((hB.frozen (p := ⟨g, 0, none⟩) hgl).trans hf)
  go_enter Tryd.func42, Tryd.ntmps42
  go_wp2
  refine wp_loop_rounds 1 ?_
  rw [rounds_succ]
  go_wp2
  go_ret
  exact ⟨rfl, PutOn.laid hgl h hf _ _⟩
set_option maxHeartbeats 2000000 in
set_option maxRecDepth 100000 in
theorem as_same_formError (g : Nat) (x : ByteArray) (u : Value) (w : World) (h0 : 0 < w.heap.size) (hg : g < w.heap.size) (h : w.cell? ⟨g, 0, none⟩ = some u) (hf : w.frozen? ⟨g, 0, none⟩ = false) (ht : w.cell? ⟨0, 0, none⟩ = some (.iface 97 (.agg #[.pointer (some ⟨HG, 46, none⟩)]))) :
    Calls Tryd.prog 30 #[.iface 63 (.agg #[.string x]), .iface 66 (.pointer (some ⟨g, 0, none⟩))] w fun e w' => e = .returned (.bool true) ∧ PutOn g (.string x) w w' := by
  have r1 := valueOf_run_formError g
  have r2 := type_run_formError
  have r3 := m_kind
  have r4 := m_elem
  have r5 := m_impl
  have r6 := k_ptr_formError
  have r7 := k_str_formError
  have r8 := elemT_run_formError
  have r9 := implements_run_formError
  have r10 := isNil_run_formError g
  have hB : Below w.heap.size w ((w.alloc (.cells #[.pointer (some ⟨g, 0, none⟩)] 66)).alloc (.cells #[.pointer (some ⟨HG, 66, none⟩), .pointer (some ⟨w.heap.size, 0, none⟩), .int .u64 150] 77)) := (below_new w _).alloc (by simp) _
  have ci := as_in_formError g w.heap.size x u ((w.alloc (.cells #[.pointer (some ⟨g, 0, none⟩)] 66)).alloc (.cells #[.pointer (some ⟨HG, 66, none⟩), .pointer (some ⟨w.heap.size, 0, none⟩), .int .u64 150] 77)) (by simp) (by simp; omega) (by simp; omega) ((hB.cell (p := ⟨g, 0, none⟩) hg).trans h) ((hB.frozen (p := ⟨g, 0, none⟩) hg).trans hf)
  go_enter Tryd.func30, Tryd.ntmps30
  go_wp2_with (go_at_call 42; refine (ci _).mono ?_; rintro e w2 ⟨rfl, hp⟩)
  go_ret
  exact ⟨rfl, hp.after hB⟩

theorem assignable_no_formError_argError (w : World) : (callFunc 109 #[.agg #[.pointer (some ⟨HG, 63, none⟩)], .iface 97 (.agg #[.pointer (some ⟨HG, 60, none⟩)])]).run Tryd.prog w = .ok (.value (.bool false)) w := by
  kernel_rfl
set_option maxHeartbeats 2000000 in
set_option maxRecDepth 100000 in
theorem as_in_formError_argError (b : Nat) (x : ByteArray) (w : World) (T : Value) :
    Calls Tryd.prog 42 #[.iface 63 (.agg #[.string x]), T, .agg #[.pointer (some ⟨HG, 65, none⟩), .pointer (some ⟨b, 0, none⟩), .int .u64 150], .iface 97 (.agg #[.pointer (some ⟨HG, 60, none⟩)])] w
      fun e w' => e = .returned (.bool false) ∧ Below w.heap.size w w' := by
  have r1 := typeOf_run_formError x
  have r2 := m_assg
  have r3 := assignable_no_formError_argError
  have r4 := noAs_formError
  have r5 := noUn_formError
  have r6 := noUns_formError
  go_enter Tryd.func42, Tryd.ntmps42
  go_wp2
  refine wp_loop_rounds 1 ?_
  rw [rounds_succ]
  go_wp2
  go_ret
  exact ⟨rfl, below_new w _⟩
set_option maxHeartbeats 2000000 in
set_option maxRecDepth 100000 in
theorem as_other_formError_argError (g : Nat) (x : ByteArray) (w : World) (h0 : 0 < w.heap.size) (ht : w.cell? ⟨0, 0, none⟩ = some (.iface 97 (.agg #[.pointer (some ⟨HG, 46, none⟩)]))) :
    Calls Tryd.prog 30 #[.iface 63 (.agg #[.string x]), .iface 65 (.pointer (some ⟨g, 0, none⟩))] w fun e w' => e = .returned (.bool false) ∧ Below w.heap.size w w' := by
  have r1 := valueOf_run_argError g
  have r2 := type_run_argError
  have r3 := m_kind
  have r4 := m_elem
  have r5 := m_impl
  have r6 := k_ptr_argError
  have r7 := k_str_argError
  have r8 := elemT_run_argError
  have r9 := implements_run_argError
  have r10 := isNil_run_argError g
  have hB : Below w.heap.size w ((w.alloc (.cells #[.pointer (some ⟨g, 0, none⟩)] 65)).alloc (.cells #[.pointer (some ⟨HG, 65, none⟩), .pointer (some ⟨w.heap.size, 0, none⟩), .int .u64 150] 77)) := (below_new w _).alloc (by simp) _
  have ci := as_in_formError_argError w.heap.size x ((w.alloc (.cells #[.pointer (some ⟨g, 0, none⟩)] 65)).alloc (.cells #[.pointer (some ⟨HG, 65, none⟩), .pointer (some ⟨w.heap.size, 0, none⟩), .int .u64 150] 77))
  go_enter Tryd.func30, Tryd.ntmps30
  go_wp2_with (go_at_call 42; refine (ci _).mono ?_; rintro e w2 ⟨rfl, hp⟩)
  go_ret
  exact ⟨rfl, hB.trans (hp.mono hB.size)⟩

theorem assignable_no_argError_formError (w : World) : (callFunc 109 #[.agg #[.pointer (some ⟨HG, 60, none⟩)], .iface 97 (.agg #[.pointer (some ⟨HG, 63, none⟩)])]).run Tryd.prog w = .ok (.value (.bool false)) w := by
  kernel_rfl
set_option maxHeartbeats 2000000 in
set_option maxRecDepth 100000 in
theorem as_in_argError_formError (b : Nat) (x : ByteArray) (w : World) (T : Value) :
    Calls Tryd.prog 42 #[.iface 60 (.agg #[.string x]), T, .agg #[.pointer (some ⟨HG, 66, none⟩), .pointer (some ⟨b, 0, none⟩), .int .u64 150], .iface 97 (.agg #[.pointer (some ⟨HG, 63, none⟩)])] w
      fun e w' => e = .returned (.bool false) ∧ Below w.heap.size w w' := by
  have r1 := typeOf_run_argError x
  have r2 := m_assg
  have r3 := assignable_no_argError_formError
  have r4 := noAs_argError
  have r5 := noUn_argError
  have r6 := noUns_argError
  go_enter Tryd.func42, Tryd.ntmps42
  go_wp2
  refine wp_loop_rounds 1 ?_
  rw [rounds_succ]
  go_wp2
  go_ret
  exact ⟨rfl, below_new w _⟩
set_option maxHeartbeats 2000000 in
set_option maxRecDepth 100000 in
theorem as_other_argError_formError (g : Nat) (x : ByteArray) (w : World) (h0 : 0 < w.heap.size) (ht : w.cell? ⟨0, 0, none⟩ = some (.iface 97 (.agg #[.pointer (some ⟨HG, 46, none⟩)]))) :
    Calls Tryd.prog 30 #[.iface 60 (.agg #[.string x]), .iface 66 (.pointer (some ⟨g, 0, none⟩))] w fun e w' => e = .returned (.bool false) ∧ Below w.heap.size w w' := by
  have r1 := valueOf_run_formError g
  have r2 := type_run_formError
  have r3 := m_kind
  have r4 := m_elem
  have r5 := m_impl
  have r6 := k_ptr_formError
  have r7 := k_str_formError
  have r8 := elemT_run_formError
  have r9 := implements_run_formError
  have r10 := isNil_run_formError g
  have hB : Below w.heap.size w ((w.alloc (.cells #[.pointer (some ⟨g, 0, none⟩)] 66)).alloc (.cells #[.pointer (some ⟨HG, 66, none⟩), .pointer (some ⟨w.heap.size, 0, none⟩), .int .u64 150] 77)) := (below_new w _).alloc (by simp) _
  have ci := as_in_argError_formError w.heap.size x ((w.alloc (.cells #[.pointer (some ⟨g, 0, none⟩)] 66)).alloc (.cells #[.pointer (some ⟨HG, 66, none⟩), .pointer (some ⟨w.heap.size, 0, none⟩), .int .u64 150] 77))
  go_enter Tryd.func30, Tryd.ntmps30
  go_wp2_with (go_at_call 42; refine (ci _).mono ?_; rintro e w2 ⟨rfl, hp⟩)
  go_ret
  exact ⟨rfl, hB.trans (hp.mono hB.size)⟩
end Go.Proofs.YtlilkcbhlinolaaDoor
