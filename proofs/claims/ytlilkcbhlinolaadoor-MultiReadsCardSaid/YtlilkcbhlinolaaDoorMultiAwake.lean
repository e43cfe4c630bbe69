/-
  The example that the statements of layer 8 ask first; what the row's first world holds of the library's variables.
-/
import Derived.Test.YtlilkcbhlinolaaDoorMultiPut
namespace Go.Proofs.YtlilkcbhlinolaaDoor
open Go.ChangeShapes Go.WideShapes Go.ChangeAt Go.RowKit

/-- the library's variables as the row lists them, at its first world -/
theorem env_of {w : World} (ht : Lib.TabIs Tryd.prog w "internal/strconv.uint64pow10" .u64 Lib.pow10Tab) (h1 : 0 < w.heap.size)
    (h2 : w.cell? ⟨0, 0, none⟩ = some (.iface 97 (.agg #[.pointer (some ⟨HG, 46, none⟩)]))) (h3 : ∃ m, w.cell? ⟨1, 0, none⟩ = some (.int .i64 m)) : Env w := by
  obtain ⟨m, hm⟩ := h3
  exact ⟨Lib.tabBelow_of_tabIs ht, ⟨h1, h2⟩, World.block_lt_of_cell? w _ hm, m, hm⟩
/-- the example's one part -/
def one7 : List Mu.Part := [(0, 1, [7])]
theorem one7_fine : Mu.fine one7 3 (ByteArray.mk #[120]).data.toList = true := by decide +kernel
theorem one7_len : decide ((10 : Int) < ((Mu.put one7 3 (ByteArray.mk #[120]).data.toList).length : Nat)) = true := by decide +kernel
theorem one7_at (w : World) (t u : TypeId) : Ps ((w.alloc (.cells #[.int .u8 7] t)).alloc (.cells #[.int .i64 0, .int .i64 1, .slice (some ⟨w.heap.size, 0, none⟩) 1 1] u)) (w.heap.size + 2) (some ⟨w.heap.size + 1, 0, none⟩) 1 one7 := by
  refine ⟨rfl, fun _ => ⟨w.heap.size + 1, 0, rfl, by omega, fun j hj => ?_⟩⟩
  obtain rfl : j = 0 := by have : one7.length = 1 := rfl; omega
  have hs : (w.alloc (.cells #[.int .u8 7] t)).heap.size = w.heap.size + 1 := by simp
  have hn := Three.new (w.alloc (.cells #[.int .u8 7] t)) (.int .i64 0) (.int .i64 1) (.slice (some ⟨w.heap.size, 0, none⟩) 1 1) u
  rw [hs] at hn
  refine ⟨hn.2.1, hn.2.2.1, some ⟨w.heap.size, 0, none⟩, 1, hn.2.2.2.1, Nat.le_refl _, ⟨rfl, fun _ => ⟨w.heap.size, 0, rfl, by omega, fun j hj => ?_⟩⟩⟩
  obtain rfl : j = 0 := by
    have h1 : one7[0].2.2.length = 1 := rfl
    omega
  have hb := (below_new4 (w.alloc (.cells #[.int .u8 7] t)) (.cells #[.int .i64 0, .int .i64 1, .slice (some ⟨w.heap.size, 0, none⟩) 1 1] u)).cell (p := ⟨w.heap.size, 0, none⟩) (by show w.heap.size < _; rw [hs]; omega)
  refine hb.trans ?_
  simp
  rfl
set_option maxHeartbeats 1000000 in
theorem awake8_yes (w : World) (hE : Env w) :
    Calls Tryd.prog 6 #[] w fun e w' => e = .returned (.bool true) ∧ Below w.heap.size w w' := by
  have hb := (below_new4 w (.cells #[.int .u8 7] 5)).alloc (by simp) (.cells #[.int .i64 0, .int .i64 1, .slice (some ⟨w.heap.size, 0, none⟩) 1 1] 43)
  have hs : ((w.alloc (.cells #[.int .u8 7] 5)).alloc (.cells #[.int .i64 0, .int .i64 1, .slice (some ⟨w.heap.size, 0, none⟩) 1 1] 43)).heap.size = w.heap.size + 2 := by simp
  have cp := put_any (some ⟨w.heap.size + 1, 0, none⟩) 1 1 (w.heap.size + 2) one7 3 ⟨#[120]⟩ _ (one7_at w 5 43) (by rw [hs]; exact Nat.le_refl _) (by omega) (by decide) (by decide) (hE.on hb)
  rw [one7_fine, if_pos rfl] at cp
  have hl := one7_len
  generalize Mu.put one7 3 (ByteArray.mk #[120]).data.toList = M at *
  have HB := Lib.hid hb
  clear hE hb hs
  go_enter Tryd.func6, Tryd.ntmps6
  go_wp2_with (first
    | (go_at_call 8; refine cp.mono ?_; rintro e w1 ⟨hb, ⟨_, A3, c3, rfl, hs3, hc3⟩ | ⟨hx, _⟩⟩; (first | cases hx | skip); replace HB := Lib.hid (HB.out.trans (hb.mono HB.out.size)); clear hb hs3)
    | (go_at_call 17; refine (type_x _).mono ?_; rintro e w2 ⟨rfl, rfl⟩))
  go_ret
  exact ⟨rfl, HB.out⟩
end Go.Proofs.YtlilkcbhlinolaaDoor
