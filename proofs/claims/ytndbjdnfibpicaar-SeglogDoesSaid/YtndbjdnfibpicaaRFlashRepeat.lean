/-
  slices.Repeat of one byte.
-/
import Derived.Test.YtndbjdnfibpicaaRFlashClone
import Derived.Test.YtndbjdnfibpicaaRMBytes
import Derived.LoopTactic
import Derived.IntWalk
import Derived.Deep.QuietTactic
import Derived.BigQuiet
import Derived.KernelRfl
import Derived.Deep.RegionHeld3
namespace Go.Proofs.YtndbjdnfibpicaaR
open Go.ChangeShapes Go.WideShapes Go.ChangeAt Go.RowKit Fl
set_option maxRecDepth 100000

theorem and_all : (List.range 257).all (fun n => bits BinOp.and .u64 n 4294967295 == (n : Int)) = true := by kernel_rfl
theorem and_one {n : Nat} (hn : n ≤ 256) : bits BinOp.and .u64 (n : Int) 4294967295 = (n : Int) := by
  have := List.all_eq_true.1 and_all n (List.mem_range.2 (by omega))
  simpa using this
set_option maxHeartbeats 1000000 in
theorem mul64_any (n : Nat) (w : World) (hn : n ≤ 256) : Calls Try.prog 74 #[.int .u64 1, .int .u64 n] w fun e w' => e = .returned (.tuple #[.int .u64 0, .int .u64 n]) ∧ w = w' := by
  have b1 : bits BinOp.and .u64 1 4294967295 = 1 := and_one (n := 1) (by omega)
  have b0 : bits BinOp.and .u64 0 4294967295 = 0 := and_one (n := 0) (by omega)
  have bn := and_one hn
  have d0 : (n : Int) / 4294967296 = 0 := by omega
  have w0 : IntKind.u64.wrap 0 = 0 := by decide
  have wn : IntKind.u64.wrap (n : Int) = n := IntWalk.u64_in _ (by omega)
  go_enter Try.func74, Try.ntmps74
  go_wp2
  go_ret2
  exact ⟨rfl, rfl⟩
set_option maxHeartbeats 1000000 in
theorem mul_any (n : Nat) (w : World) (hn : n ≤ 256) : Calls Try.prog 67 #[.int .u64 1, .int .u64 n] w fun e w' => e = .returned (.tuple #[.int .u64 0, .int .u64 n]) ∧ w = w' := by
  go_enter Try.func67, Try.ntmps67
  go_wp2_with (go_at_call 74; refine (mul64_any _ _ hn).mono ?_; rintro e w' ⟨rfl, rfl⟩)
  go_ret2
  exact ⟨rfl, rfl⟩

/-- so many bytes of its own, all alike -/
def RepeatTo (n : Nat) (w : World) (e : Ending) (w' : World) : Prop :=
  ∃ g, e = .returned (.slice (some ⟨g, 0, none⟩) n n) ∧ w.heap.size ≤ g ∧ Row 5 w' g (List.replicate n 255) ∧ Below w.heap.size w w'
theorem half_step (n k : Nat) : splice (vals (List.replicate k 255 ++ List.replicate (n - k) 0)) k (vals (List.replicate (min k (n - k)) 255)) = vals (List.replicate (k + min k (n - k)) 255 ++ List.replicate (n - (k + min k (n - k))) 0) := by
  have e1 : (vals (List.replicate k 255 ++ List.replicate (n - k) 0)).take k = vals (List.replicate k 255) := by
    simp [vals]
  have e2 : (vals (List.replicate k 255 ++ List.replicate (n - k) 0)).drop (k + min k (n - k)) = vals (List.replicate (n - (k + min k (n - k))) 0) := by
    simp [vals, List.drop_append]
    omega
  unfold splice
  rw [vals_length, List.length_replicate, e1, e2, vals_append, vals_append]
  congr 1
  rw [← List.append_assoc, List.replicate_append_replicate]
set_option maxHeartbeats 4000000 in
theorem repeat_any (ad : Addr) (n c B : Nat) (w : World) (h : Bs w B (some ad) 1 [255]) (hB : B ≤ w.heap.size) (h1 : 1 ≤ n) (hn : n ≤ 256) :
    Calls Try.prog 54 #[.slice (some ad) 1 c, .int .i64 n] w (RepeatTo n w) := by
  have hm := make_bytes n (by omega)
  have HS := Lib.hid h
  clear h
  obtain ⟨Z, hZ⟩ : ∃ Z, Z = List.replicate n (0 : UInt8) := ⟨_, rfl⟩
  rw [← hZ] at hm
  have HZ := Lib.hid hZ
  clear hZ
  have wn : IntKind.u64.wrap (n : Int) = n := IntWalk.u64_in _ (by omega)
  have wi : IntKind.i64.wrap (n : Int) = n := IntWalk.i64_in _ (by omega)
  have HN : Hid ((vals [255]).length = Nat.min 1 n) := Lib.hid (by show 1 = min 1 n; omega)
  have HF : Hid (0 + (vals [255]).length ≤ (vals Z).length) := Lib.hid (by rw [vals_length, vals_length, HZ.out, List.length_replicate]; exact h1)
  have n0 : ¬ ((n : Int) < 0) := by omega
  have c1 : (0 : Int) ≤ n := by omega
  have c2 : (n : Int) ≤ 9223372036854775807 := by omega
  go_enter Try.func54, Try.ntmps54
  go_wp2_with (first
    | (go_at_call 67; refine (mul_any _ _ hn).mono ?_; rintro e w' ⟨rfl, rfl⟩)
    | (refine wpList_copy_splice (o := ⟨some 33, _, _, _, _, _⟩) rfl (.tmp 31) (.tmp 32) 54 54 rfl 5 Try.underlying54 u8_one (some ⟨w.heap.size, 0, none⟩) (some ad) n n 1 c rfl rfl w.heap.size 0 (vals Z) 5 (Row.new w _ Z) (vals [255]) HN.out ((HS.out.alloc hB _).copies _) HF.out (vals_one _) w.heap.size w ((Below.refl _ _).alloc (Nat.le_refl _) _) (Nat.le_refl _) ?_; intro w1 HG1 HB1))
  have HR1 : Hid (w1.heap[w.heap.size]? = some (.cells (vals (List.replicate 1 255 ++ List.replicate (n - 1) 0)).toArray 5 (0, 0))) := Lib.hid (by
    have h2 := HG1.out
    rw [splice_vals, HZ.out, List.drop_replicate] at h2
    exact h2)
  clear hm HG1
  go_loopw [8] (fun x wr => ∃ k : Nat, 1 ≤ k ∧ k ≤ n ∧ x = .int .i64 k ∧ Hid (wr.heap[w.heap.size]? = some (.cells (vals (List.replicate k 255 ++ List.replicate (n - k) 0)).toArray 5 (0, 0))) ∧ Below w.heap.size w wr) (fun x _ => n - (intOf x).toNat)
  case atStart => exact ⟨1, Nat.le_refl _, h1, rfl, HR1, HB1⟩
  case round =>
    obtain ⟨k, hk1, hk, rfl, HR, hb⟩ := hrel
    by_cases hlt : k < n
    · have hkn : (k : Int) < n := by omega
      have hk0 : ¬ ((k : Int) < 0) := by omega
      have hne : ¬ n = k := by omega
      have HS1 : Hid (∀ j v, (vals (List.replicate (min k (n - k)) 255))[j]? = some v → wr.drew.cell? ((⟨w.heap.size, 0, none⟩ : Addr).add j) = some v) := Lib.hid fun j v hv => by
        have e : (⟨w.heap.size, 0, none⟩ : Addr).add j = ⟨w.heap.size, j, none⟩ := by
          simp only [Addr.add]
          split <;> simp_all
        rw [e, cell_of_row wr.drew w.heap.size j _ _ (0, 0) HR.out]
        have hj : j < min k (n - k) := by
          rcases Nat.lt_or_ge j (min k (n - k)) with h | h
          · exact h
          · rw [List.getElem?_eq_none (by rw [vals_length, List.length_replicate]; exact h)] at hv
            cases hv
        rw [vals_get _ _ (by rw [List.length_replicate]; exact hj), List.getElem_replicate] at hv
        have := vals_get (List.replicate k 255 ++ List.replicate (n - k) 0) j (by simp; omega)
        rw [List.getElem_append_left (by rw [List.length_replicate]; omega), List.getElem_replicate] at this
        simpa [this] using hv
      have HST := Lib.hid (half_step n k)
      have HML : Hid ((vals (List.replicate (min k (n - k)) (255 : UInt8))).length = Nat.min k (n - k)) := Lib.hid (by rw [vals_length, List.length_replicate])
      have HCL : Hid (k + (vals (List.replicate (min k (n - k)) (255 : UInt8))).length ≤ (vals (List.replicate k (255 : UInt8) ++ List.replicate (n - k) 0)).length) := Lib.hid (by rw [vals_length, vals_length]; simp only [List.length_append, List.length_replicate]; omega)
      have HLL : Hid ((vals (List.replicate (min k (n - k)) (255 : UInt8))).length = min k (n - k)) := Lib.hid (by rw [vals_length, List.length_replicate])
      have HBD := Lib.hid hb.drew
      generalize vals (List.replicate k (255 : UInt8) ++ List.replicate (n - k) 0) = C at HR HST HCL
      generalize hM : vals (List.replicate (min k (n - k)) (255 : UInt8)) = M at HS1 HST HML HCL HLL
      have HM1 : Hid (∀ u ∈ M, u.oneCell' = true) := Lib.hid (by rw [← hM]; exact vals_one _)
      clear hM hb
      go_wp2
      go_region_held3 (fun _ => True) (trivial)
        ((refine step_copy_splice rfl (.tmp 41) (.tmp 44) 54 54 rfl 5 Try.underlying54 u8_one (some ⟨w.heap.size, k, none⟩) (some ⟨w.heap.size, 0, none⟩) (n - k) (n - k) k n rfl rfl w.heap.size k C 5 HR.out M HML.out (fun _ => ⟨rfl, _, rfl, HS1.out⟩) HCL.out HM1.out w.heap.size w HBD.out (Nat.le_refl _) ?_; intro w4 HG4 hb4))
      have hw : IntKind.i64.wrap ((k : Int) + (M.length : Int)) = ((k + min k (n - k) : Nat) : Int) := by rw [HLL.out, IntWalk.i64_in _ (by omega)]; omega
      rw [hw]
      have HG5 := HG4.out
      rw [HST.out] at HG5
      go_wp2
      go_roundw
      case rel => exact ⟨k + min k (n - k), by omega, by omega, rfl, HG5, hb4⟩
      case measure => simp [intOf]; omega
    · obtain rfl : k = n := by omega
      go_wp2
      go_ret
      have h3 := HR.out
      rw [Nat.sub_self, List.replicate_zero, List.append_nil] at h3
      exact ⟨_, rfl, Nat.le_refl _, h3, hb⟩
end Go.Proofs.YtndbjdnfibpicaaR
