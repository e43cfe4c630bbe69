/-
  The library's OnesCount64, TrailingZeros64 and the table that it reads.
-/
import Derived.Test.YtcmhodimkpkmbaaDoorBitMap
import Derived.Test.YtcmhodimkpkmbaaDoorBitLow
import Derived.Test.YtcmhodimkpkmbaaDoorBitOnes
import Derived.LoopTactic
import Derived.Laws.BitsAllLaws
import Derived.Laws.Bits128
import Derived.Lib.AppendIntMem
namespace Go.Proofs.YtcmhodimkpkmbaaDoor
open Go.ChangeShapes Go.WideShapes Go.ChangeAt Go.RowKit
set_option maxRecDepth 100000

def db64 : List Int := [0, 1, 56, 2, 57, 49, 28, 3, 61, 58, 42, 50, 38, 29, 17, 4, 62, 47, 59, 36, 45, 43, 51, 22, 53, 39, 33, 30, 24, 18, 12, 5, 63, 55, 48, 27, 60, 41, 37, 16, 46, 35, 44, 21, 52, 32, 23, 11, 54, 26, 40, 15, 34, 20, 31, 10, 25, 14, 19, 9, 13, 8, 7, 6]
/-- the table, below a world -/
abbrev Tab64 (w : World) : Prop := Lib.TabBelow Tryd.prog w.heap.size w "math/bits.deBruijn64tab" .u8 db64
theorem Tab64.on {w w1 : World} (h : Tab64 w) (hb : Below w.heap.size w w1) : Tab64 w1 := fun w' h' => h w' (hb.trans (h'.mono hb.size))
theorem gDb64 : Tryd.prog.globalNamed "math/bits.deBruijn64tab" = some 0 := by kernel_rfl
/-- its block as it lies -/
def TabAt (w : World) : Prop := ∀ j, j < 64 → w.cell? ⟨0, j, none⟩ = some (.int .u8 (db64.getD j 0))
theorem Tab64.at {w : World} (h : Tab64 w) : TabAt w := fun j hj => by
  have h1 := (h.here).cell gDb64 j (by simpa [db64] using hj)
  rw [h1]
theorem db_all : ∀ j : Nat, j < 64 → (2 ^ j * 285870213051353865 % 18446744073709551616 / 288230376151711744 < 64 ∧ db64.getD (2 ^ j * 285870213051353865 % 18446744073709551616 / 288230376151711744) 0 = (j : Int)) := by decide +kernel
/-- the number of the lowest bit -/
theorem zeros_any (x j : Nat) (hx : x < 18446744073709551616) (h0 : x ≠ 0) (hj : j < 64) (hl : x &&& (18446744073709551616 - x) = 2 ^ j) (w : World) (ht : TabAt w) : Calls Tryd.prog 45 #[.int .u64 (x : Int)] w fun e w' => e = .returned (.int .i64 (j : Int)) ∧ w = w' := by
  have e1 : ((x : Int) == 0) = false := by simpa using h0
  have hlt : 2 ^ j < 2 ^ 64 := Nat.pow_lt_pow_right (by omega) hj
  have g1 : IntKind.u64.wrap (-(x : Int)) = ((18446744073709551616 - x : Nat) : Int) := by rw [IntKind.wrap_u64]; omega
  have g2 : bits BinOp.and IntKind.u64 (x : Int) ((18446744073709551616 - x : Nat) : Int) = ((2 ^ j : Nat) : Int) := by rw [← hl]; exact u64_and_nat _ _ hx (by omega)
  have g3 : IntKind.u64.wrap (((2 ^ j : Nat) : Int) * 285870213051353865) = ((2 ^ j * 285870213051353865 % 18446744073709551616 : Nat) : Int) := by rw [IntKind.wrap_u64]; omega
  obtain ⟨hq, hv⟩ := db_all j hj
  obtain ⟨i, hi⟩ : ∃ i, i = 2 ^ j * 285870213051353865 % 18446744073709551616 / 288230376151711744 := ⟨_, rfl⟩
  rw [← hi] at hq hv
  have g4 : ((2 ^ j * 285870213051353865 % 18446744073709551616 : Nat) : Int) / 288230376151711744 = (i : Int) := by rw [hi]; omega
  have hc := ht i hq
  rw [hv] at hc
  generalize 2 ^ j * 285870213051353865 % 18446744073709551616 = m at *
  obtain ⟨p, hp⟩ : ∃ p : Int, p = ((2 ^ j : Nat) : Int) := ⟨_, rfl⟩
  rw [← hp] at g2 g3
  obtain ⟨n, hn⟩ : ∃ n : Int, n = ((18446744073709551616 - x : Nat) : Int) := ⟨_, rfl⟩
  rw [← hn] at g1 g2
  have i0 : (0 : Int) ≤ (i : Int) := by omega
  have i1 : (i : Int) < 64 := by omega
  have g5 : IntKind.i64.wrap (j : Int) = (j : Int) := IntWalk.i64_in _ (by omega)
  clear hn hp hi hv hl hlt ht h0
  go_enter Tryd.func45, Tryd.ntmps45
  go_wp2
  go_ret
  exact ⟨rfl, rfl⟩
end Go.Proofs.YtcmhodimkpkmbaaDoor
