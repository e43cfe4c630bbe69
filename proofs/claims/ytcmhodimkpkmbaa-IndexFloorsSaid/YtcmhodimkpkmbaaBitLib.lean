/-
  The library's OnesCount64, TrailingZeros64 and the table that it reads.
-/
import Derived.Test.YtcmhodimkpkmbaaBitMap
import Derived.Test.YtcmhodimkpkmbaaBitLow
import Derived.Test.YtcmhodimkpkmbaaBitOnes
import Derived.LoopTactic
import Derived.Laws.BitsAllLaws
import Derived.Laws.Bits128
import Derived.Lib.AppendIntMem
namespace Go.Proofs.Ytcmhodimkpkmbaa
open Go.ChangeShapes Go.WideShapes Go.ChangeAt Go.RowKit
set_option maxRecDepth 100000

theorem ones_any (x : Nat) (hx : x < 18446744073709551616) (w : World) : Calls Try.prog 22 #[.int .u64 (x : Int)] w fun e w' => e = .returned (.int .i64 ((Bm.cnt x.testBit 64 : Nat) : Int)) ∧ w = w' := by
  have hm1 : Bm.mask 85 8 = 6148914691236517205 := by decide
  have hm2 : Bm.mask 51 8 = 3689348814741910323 := by decide
  have hm3 : Bm.mask 15 8 = 1085102592571150095 := by decide
  have k1 : ∀ y : Nat, y &&& 6148914691236517205 ≤ 6148914691236517205 := fun y => Nat.and_le_right
  have k2 : ∀ y : Nat, y &&& 3689348814741910323 ≤ 3689348814741910323 := fun y => Nat.and_le_right
  obtain ⟨s1, hs1⟩ : ∃ s1, s1 = Bm.st1 8 x := ⟨_, rfl⟩
  obtain ⟨s2, hs2⟩ : ∃ s2, s2 = Bm.st2 8 s1 := ⟨_, rfl⟩
  obtain ⟨z, hz⟩ : ∃ z, z = Bm.st3 8 s2 := ⟨_, rfl⟩
  obtain ⟨z1, hz1⟩ : ∃ z1, z1 = z + z / 256 := ⟨_, rfl⟩
  obtain ⟨z2, hz2⟩ : ∃ z2, z2 = z1 + z1 / 65536 := ⟨_, rfl⟩
  obtain ⟨b0, b1, b2, b3, hr⟩ := Bm.ones_word x z z1 z2 (by rw [hz, hs2, hs1]; rfl) hz1 hz2
  unfold Bm.st1 at hs1
  unfold Bm.st2 at hs2
  unfold Bm.st3 at hz
  rw [hm1] at hs1
  rw [hm2] at hs2
  rw [hm3] at hz
  have q1 := k1 (x / 2)
  have q2 := k1 x
  have q3 := k2 (s1 / 4)
  have q4 := k2 s1
  have g1 : bits BinOp.and IntKind.u64 ((x : Int) / 2) 6148914691236517205 = ((x / 2 &&& 6148914691236517205 : Nat) : Int) := u64_and_nat (x / 2) 6148914691236517205 (by omega) (by omega)
  have g2 : bits BinOp.and IntKind.u64 (x : Int) 6148914691236517205 = ((x &&& 6148914691236517205 : Nat) : Int) := u64_and_nat x 6148914691236517205 hx (by omega)
  generalize x / 2 &&& 6148914691236517205 = a1 at *
  generalize x &&& 6148914691236517205 = a2 at *
  have g3 : IntKind.u64.wrap ((a1 : Int) + (a2 : Int)) = (s1 : Int) := by rw [IntWalk.u64_in _ (by omega)]; omega
  have g4 : bits BinOp.and IntKind.u64 ((s1 : Int) / 4) 3689348814741910323 = ((s1 / 4 &&& 3689348814741910323 : Nat) : Int) := u64_and_nat (s1 / 4) 3689348814741910323 (by omega) (by omega)
  have g5 : bits BinOp.and IntKind.u64 (s1 : Int) 3689348814741910323 = ((s1 &&& 3689348814741910323 : Nat) : Int) := u64_and_nat s1 3689348814741910323 (by omega) (by omega)
  generalize s1 / 4 &&& 3689348814741910323 = a3 at *
  generalize s1 &&& 3689348814741910323 = a4 at *
  have g6 : IntKind.u64.wrap ((a3 : Int) + (a4 : Int)) = (s2 : Int) := by rw [IntWalk.u64_in _ (by omega)]; omega
  have g7 : IntKind.u64.wrap ((s2 : Int) / 16 + (s2 : Int)) = ((s2 / 16 + s2 : Nat) : Int) := by rw [IntWalk.u64_in _ (by omega)]; omega
  have g8 : bits BinOp.and IntKind.u64 ((s2 / 16 + s2 : Nat) : Int) 1085102592571150095 = (z : Int) := by
    rw [hz]
    exact u64_and_nat (s2 / 16 + s2) 1085102592571150095 (by omega) (by omega)
  generalize s2 / 16 + s2 = a5 at *
  have g9 : IntKind.u64.wrap ((z : Int) + (z : Int) / 256) = (z1 : Int) := by rw [IntWalk.u64_in _ (by omega)]; omega
  have g10 : IntKind.u64.wrap ((z1 : Int) + (z1 : Int) / 65536) = (z2 : Int) := by rw [IntWalk.u64_in _ (by omega)]; omega
  obtain ⟨z3, hz3⟩ : ∃ z3, z3 = z2 + z2 / 4294967296 := ⟨_, rfl⟩
  have g11 : IntKind.u64.wrap ((z2 : Int) + (z2 : Int) / 4294967296) = (z3 : Int) := by rw [IntWalk.u64_in _ (by omega)]; omega
  have g12 : IntKind.i64.wrap (z3 : Int) = (z3 : Int) := IntWalk.i64_in _ (by omega)
  have g13 : bits BinOp.and IntKind.i64 (z3 : Int) 127 = ((Bm.cnt x.testBit 64 : Nat) : Int) := by
    rw [i64_and127, ← hr, hz3]
    omega
  generalize Bm.cnt x.testBit 64 = r at *
  clear hr hz3 hz2 hz1 hz hs2 hs1 b0 b1 b2 b3 k1 k2 q1 q2 q3 q4 hm1 hm2 hm3
  go_enter Try.func22, Try.ntmps22
  go_wp2
  go_ret
  exact ⟨rfl, rfl⟩
def db64 : List Int := [0, 1, 56, 2, 57, 49, 28, 3, 61, 58, 42, 50, 38, 29, 17, 4, 62, 47, 59, 36, 45, 43, 51, 22, 53, 39, 33, 30, 24, 18, 12, 5, 63, 55, 48, 27, 60, 41, 37, 16, 46, 35, 44, 21, 52, 32, 23, 11, 54, 26, 40, 15, 34, 20, 31, 10, 25, 14, 19, 9, 13, 8, 7, 6]
theorem db_all : ∀ j : Nat, j < 64 → (2 ^ j * 285870213051353865 % 18446744073709551616 / 288230376151711744 < 64 ∧ db64.getD (2 ^ j * 285870213051353865 % 18446744073709551616 / 288230376151711744) 0 = (j : Int)) := by decide +kernel
end Go.Proofs.Ytcmhodimkpkmbaa
