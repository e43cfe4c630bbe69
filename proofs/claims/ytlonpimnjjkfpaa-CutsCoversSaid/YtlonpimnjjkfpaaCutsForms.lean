/-
  What the seven functions of the package are asked to answer (each proved in a text of its own), and the chapter's example out of it.
-/
import Derived.Test.YtlonpimnjjkfpaaCutsRef
import Derived.Test.YtlonpimnjjkfpaaRefCover
namespace Go.Proofs.Ytlonpimnjjkfpaa
open Go.ChangeShapes Go.WideShapes Go.ChangeAt Go.RowKit

def I64 (x : Int) : Prop := -9223372036854775808 ≤ x ∧ x ≤ 9223372036854775807
def Cu.of (a b s : Int) : Int × Int := if Cr.spanB a b && decide (1 ≤ s) && decide (s ≤ 64) then (a / s, (b - 1) / s + 1) else (0, 0)
def Cu.last (n s : Int) : Int := (Cu.bd (Cu.cnt n s - 1) n s).2 - (Cu.bd (Cu.cnt n s - 1) n s).1

def CutsRight : Prop := ∀ (n s : Int) (W : World), I64 n → I64 s → Calls Try.prog 11 #[.int .i64 n, .int .i64 s] W fun e w' => e = .returned (.bool (Cu.ok n s)) ∧ Below W.heap.size W w'
def CutsCount : Prop := ∀ (n s : Int) (W : World), I64 n → I64 s → Calls Try.prog 15 #[.int .i64 n, .int .i64 s] W fun e w' => e = .returned (.int .i64 (Cu.cnt n s)) ∧ Below W.heap.size W w'
def CutsLast : Prop := ∀ (n s : Int) (W : World), I64 n → I64 s → Calls Try.prog 16 #[.int .i64 n, .int .i64 s] W fun e w' => e = .returned (.int .i64 (Cu.last n s)) ∧ Below W.heap.size W w'
def CutsBounds : Prop := ∀ (i n s : Int) (W : World), I64 i → I64 n → I64 s → Calls Try.prog 7 #[.int .i64 i, .int .i64 n, .int .i64 s] W fun e w' =>
  e = .returned (.tuple #[.agg #[.int .i64 (Cu.bd i n s).1, .int .i64 (Cu.bd i n s).2], .bool (Cu.has i n s)]) ∧ Below W.heap.size W w'
def CutsPart : Prop := ∀ (a b i n s : Int) (W : World), I64 a → I64 b → I64 i → I64 n → I64 s → Calls Try.prog 9 #[.agg #[.int .i64 a, .int .i64 b], .int .i64 i, .int .i64 n, .int .i64 s] W fun e w' =>
  e = .returned (.tuple #[.agg #[.int .i64 (Cu.meet a b (Cu.bd i n s).1 (Cu.bd i n s).2).1, .int .i64 (Cu.meet a b (Cu.bd i n s).1 (Cu.bd i n s).2).2], .bool (Cu.meets a b (Cu.bd i n s).1 (Cu.bd i n s).2)]) ∧ Below W.heap.size W w'
def CutsOf : Prop := ∀ (a b s : Int) (W : World), I64 a → I64 b → I64 s → Calls Try.prog 13 #[.agg #[.int .i64 a, .int .i64 b], .int .i64 s] W fun e w' =>
  e = .returned (.tuple #[.int .i64 (Cu.of a b s).1, .int .i64 (Cu.of a b s).2]) ∧ Below W.heap.size W w'
def CutsCover : Prop := ∀ (A : Option Addr) (n c B : Nat) (L : List (Int × Int)) (N S : Int) (W : World), Sps W B A n L → B ≤ W.heap.size → n ≤ 9223372036854775807 → I64 N → I64 S → (∀ x ∈ L, I64 x.1 ∧ I64 x.2) → Calls Try.prog 18 #[.slice A n c, .int .i64 N, .int .i64 S] W (CovTo (Cu.cover L N S (Cu.cnt N S).toNat) W)

theorem cuts_awake (hb : CutsBounds) (w : World) :
    Calls Try.prog 6 #[] w fun e w' => e = .returned (.bool true) ∧ Below w.heap.size w w' := by
  have cb := fun W => hb 2 10 4 W ⟨by omega, by omega⟩ ⟨by omega, by omega⟩ ⟨by omega, by omega⟩
  rw [show Cu.has 2 10 4 = true from rfl, show Cu.bd 2 10 4 = (8, 10) from rfl] at cb
  clear hb
  go_enter Try.func6, Try.ntmps6
  go_wp2_with (go_at_call 7; refine (cb _).mono ?_; rintro e w1 ⟨rfl, HB⟩)
  go_ret
  exact ⟨rfl, HB.alloc HB.size _⟩
end Go.Proofs.Ytlonpimnjjkfpaa
