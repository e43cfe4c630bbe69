/-
  The document's SamePiece of layer 17.
-/
import Derived.Test.YtidjajdgphkbbaaRRCodecGot
import Derived.Test.YtidjajdgphkbbaaRRRefBytes
namespace Go.Proofs.YtidjajdgphkbbaaRR
open Go.ChangeShapes Go.WideShapes Go.ChangeAt Go.RowKit
set_option maxRecDepth 100000

set_option maxHeartbeats 1000000 in
/-- two pieces: whether they are alike in all -/
theorem same17_any (o1 g1 i1 o2 g2 i2 : Int) (A1 A2 : Option Addr) (n1 c1 n2 c2 : Nat) (l1 l2 : List UInt8) (B : Nat) (w : World) (h1 : Bs w B A1 n1 l1) (h2 : Bs w B A2 n2 l2) (hB : B ≤ w.heap.size) (hn : n1 ≤ 100000) :
    Calls Try.prog 8 #[pieceV o1 g1 i1 A1 n1 c1, pieceV o2 g2 i2 A2 n2 c2] w fun e w' =>
      e = .returned (.bool ((o1 == o2) && (g1 == g2) && (i1 == i2) && decide (l1 = l2))) ∧ Below w.heap.size w w' := by
  have hb1 := below_new4 w (.cells #[.int .i64 o1, .int .i64 g1, .int .i64 i1, .slice A1 n1 c1] 24)
  have hb2 := hb1.alloc hb1.size (.cells #[.int .i64 o2, .int .i64 g2, .int .i64 i2, .slice A2 n2 c2] 24)
  have cb := bytes_any A1 A2 n1 c1 n2 c2 B l1 l2 _ (h1.below (hb2.mono hB)) (h2.below (hb2.mono hB)) (by omega)
  have HB := Lib.hid hb2
  generalize decide (l1 = l2) = q4 at *
  obtain ⟨q1, e1⟩ : ∃ q, (o1 == o2) = q := ⟨_, rfl⟩
  obtain ⟨q2, e2⟩ : ∃ q, (g1 == g2) = q := ⟨_, rfl⟩
  obtain ⟨q3, e3⟩ : ∃ q, (i1 == i2) = q := ⟨_, rfl⟩
  rw [e1, e2, e3]
  clear h1 h2 hb1 hb2
  cases q1
  case' true => cases q2
  case' true.true => cases q3
  all_goals
    simp only [Bool.false_and, Bool.true_and]
    go_enter Try.func8, Try.ntmps8
    go_wp2_with (go_at_call 10; (with_reducible refine cb.mono ?_); rintro e w4 ⟨rfl, m4, rfl⟩; replace HB := Lib.hid (below_drewN HB.out m4); clear cb)
    go_ret
    exact ⟨rfl, HB.out⟩
end Go.Proofs.YtidjajdgphkbbaaRR
