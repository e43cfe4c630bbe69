/-
  Contract of span.Len.
-/
import Derived.Test.YtlonpimnjjkfpaaSpanRight
import Derived.Lib.Hide
namespace Go.Proofs.Ytlonpimnjjkfpaa
open Go.ChangeShapes Go.WideShapes Go.ChangeAt Go.RowKit

theorem spanLen_walk (a b : Int) (s : Bool) (w : World) (hs : s = true → 0 ≤ a ∧ a < b ∧ b ≤ 4611686018427387903)
    (cs : ∀ W, Calls Try.prog 21 #[.agg #[.int .i64 a, .int .i64 b]] W fun e w' => e = .returned (.bool s) ∧ Below W.heap.size W w') :
    Calls Try.prog 22 #[.agg #[.int .i64 a, .int .i64 b]] w fun e w' => e = .returned (.int .i64 (if s then b - a else 0)) ∧ Below w.heap.size w w' := by
  have HB := below_new4 w (.cells #[.int .i64 a, .int .i64 b] 23)
  have HT := Lib.hid (Two.new w (.int .i64 a) (.int .i64 b) 23)
  cases s with
  | false =>
    clear hs
    go_enter Try.func22, Try.ntmps22
    go_wp2_with (go_at_call 21; refine (cs _).mono ?_; rintro e w1 ⟨rfl, hb⟩; replace HB := HB.trans (hb.mono HB.size); clear hb)
    go_ret
    exact ⟨rfl, HB⟩
  | true =>
    obtain ⟨h1, h2, h3⟩ := hs rfl
    go_enter Try.func22, Try.ntmps22
    go_wp2_with (go_at_call 21; refine (cs _).mono ?_; rintro e w1 ⟨rfl, hb⟩; obtain ⟨n1, x1, y1⟩ := HT.out.below hb; replace HB := HB.trans (hb.mono HB.size); clear hb)
    go_ret
    exact ⟨rfl, HB⟩
theorem spanLen_any (a b : Int) (w : World) :
    Calls Try.prog 22 #[.agg #[.int .i64 a, .int .i64 b]] w fun e w' => e = .returned (.int .i64 (if Cr.spanB a b then b - a else 0)) ∧ Below w.heap.size w w' :=
  spanLen_walk a b _ w spanB_parts (fun W => spanRight_any a b W)
end Go.Proofs.Ytlonpimnjjkfpaa
