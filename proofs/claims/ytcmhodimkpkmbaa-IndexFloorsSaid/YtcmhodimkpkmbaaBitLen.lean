/-
  Len (over a program of 65 words).
-/
import Derived.Test.YtcmhodimkpkmbaaBitSets
import Derived.Test.YtcmhodimkpkmbaaBitLib
import Derived.LoopTactic
namespace Go.Proofs.Ytcmhodimkpkmbaa
open Go.ChangeShapes Go.WideShapes Go.ChangeAt Go.RowKit
set_option maxRecDepth 100000

set_option maxHeartbeats 1000000 in
theorem len_any (s : Nat → Bool) (w : World) : Calls Try.prog 9 #[mapV s] w fun e w' => e = .returned (.int .i64 ((Bm.cnt s 4160 : Nat) : Int)) ∧ Below w.heap.size w w' := by
  unfold mapV
  have a0 := MapAt.new w s
  have hb : Below w.heap.size w (w.alloc (.cells (mapC s).toArray 47)) := (Below.refl _ w).alloc (Nat.le_refl _) _
  have HRT := Lib.hid a0.range
  have HB := Lib.hid hb
  have HCG := Lib.hid (fun k h W => map_index s k h W)
  have HLT : Hid ((Try.prog.info? 45).map (·.size) = some (mapC s).length) := Lib.hid (by rw [mapC_length]; exact words_size)
  have HCW := Lib.hid (Bm.cnt_word s)
  have HLE := Lib.hid (Bm.cnt_le s)
  have HON := Lib.hid (fun k W => ones_any (Bm.word s k) (Bm.word_lt s k) W)
  have hz : Bm.cnt s (64 * 0) = 0 := rfl
  clear a0 hb
  generalize mapC s = cs at *
  go_enter Try.func9, Try.ntmps9
  go_wp2_with (refine wpList_load_mid (by rfl) 45 (.tmp 6) (by rfl) w.heap.size 0 (by rfl) cs _ HRT.out Try.underlying45 (by rfl) HLT.out ?_)
  go_loop [3, 8] (fun n i => ∃ k : Nat, k ≤ 65 ∧ i = .int .i64 k ∧ n = .int .i64 (Bm.cnt s (64 * k) : Nat)) (fun _ i => 65 - (intOf i).toNat)
  case atStart => exact ⟨0, by omega, rfl, by rw [hz]; rfl⟩
  case round =>
    obtain ⟨k, hk, rfl, rfl⟩ := hrel
    by_cases hlt : k < 65
    · have c1 := fun W => HCG.out k hlt W
      have co := fun W => HON.out k W
      have hk65 : (k : Int) < 65 := by omega
      have hcw := HCW.out k
      have hle := HLE.out (64 * k)
      have hle2 := HLE.out (64 * (k + 1))
      have HCK := Lib.hid hcw
      have g1 : IntKind.i64.wrap (((Bm.cnt s (64 * k) : Nat) : Int) + ((Bm.cnt (Bm.word s k).testBit 64 : Nat) : Int)) = ((Bm.cnt s (64 * (k + 1)) : Nat) : Int) := by rw [hcw, IntWalk.i64_in _ (by omega)]; rfl
      generalize Bm.cnt s (64 * k) = n0 at *
      generalize Bm.cnt (Bm.word s k).testBit 64 = n1 at *
      generalize Bm.word s k = x at *
      clear hcw hle hle2
      go_wp2_with (go_at_call 22; (with_reducible refine (co _).mono ?_); rintro e w1 ⟨rfl, rfl⟩)
      go_round
      case rel => exact ⟨k + 1, by omega, by go_num, by first | rfl | rw [g1]⟩
      case measure => simp [intOf]; omega
    · obtain rfl : k = 65 := by omega
      go_wp2
      go_ret
      exact ⟨rfl, HB.out⟩
end Go.Proofs.Ytcmhodimkpkmbaa
