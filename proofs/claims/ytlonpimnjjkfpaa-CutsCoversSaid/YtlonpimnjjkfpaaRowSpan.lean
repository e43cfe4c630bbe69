/-
  A struct of two numbers, as a row opens and shuts it.
-/
import Derived.Test.YtlonpimnjjkfpaaChecked
import Derived.WalkKit
import Derived.ProofKit
import Derived.OpenShut
import Derived.ChangeArms
import Derived.ChangeSame
import Derived.Lib.SmallJoins
namespace Go.Proofs.Ytlonpimnjjkfpaa
open Go.ChangeShapes Go.WideShapes Go.ChangeAt Go.RowKit Go.Joins
section
variable {H : Type} {enc : TypeId × Value → H} {w : World} {base : Nat} {spare : Nat → Bool} {held : Bool}
theorem cells23 : Try.prog.cellsOf 23 = 2 := by kernel_rfl
theorem cells3 : Try.prog.cellsOf 3 = 1 := by kernel_rfl

theorem open_span {r : Reach} {b0 : Nat} {v : Value} {d : DataW H} {p : List MemPlace} (hv : Value.okWide Try.prog w r b0 23 v) (h : DataW.Trod enc Try.prog w base spare held 23 v d p) :
    ∃ a b : Int, v = .agg #[.int .i64 a, .int .i64 b] ∧ d = .agg [.lit (.int .i64 a), .lit (.int .i64 b)] ∧ p = [] ∧ (Lit.int .i64 a).wf = true ∧ (Lit.int .i64 b).wf = true := by
  obtain ⟨x, z, y, u, m, rfl, rfl, rfl, hy, hu⟩ := Joins.open_agg2 Try.underlying23 (by kernel_rfl) cells23 hv h
  obtain ⟨a, ea, rfl, ha⟩ := DataW.trod_int Try.underlying3 hy
  obtain ⟨b, eb, rfl, hb⟩ := DataW.trod_int Try.underlying3 hu
  obtain rfl : x = .int .i64 a := by simpa using ea
  obtain rfl : z = .int .i64 b := by simpa using eb
  exact ⟨a, b, rfl, rfl, rfl, ha, hb⟩
theorem trod_span (n : Nat) {a b : Int} (ha : (Lit.int .i64 a).wf = true) (hb : (Lit.int .i64 b).wf = true) :
    DataW.trod enc Try.prog w base spare held (n + 2) 23 [.int .i64 a, .int .i64 b] = some (.agg [.lit (.int .i64 a), .lit (.int .i64 b)], []) :=
  trod_struct2_mk (n := n + 1) (y0 := (.lit (.int .i64 a), [])) (y1 := (.lit (.int .i64 b), [])) Try.underlying23 (by rw [cells23]; rfl)
    (by rw [show Try.prog.cellsOf _ = 1 from cells3]; exact trod_int_mk n Try.underlying3 ha) (by rw [show Try.prog.cellsOf _ = 1 from cells3]; exact trod_int_mk n Try.underlying3 hb)
theorem shut_span {a b : Int} (ha : (Lit.int .i64 a).wf = true) (hb : (Lit.int .i64 b).wf = true) :
    DataW.Trod enc Try.prog w base spare held 23 (.agg #[.int .i64 a, .int .i64 b]) (.agg [.lit (.int .i64 a), .lit (.int .i64 b)]) [] := ⟨2, trod_span 0 ha hb⟩
end
end Go.Proofs.Ytlonpimnjjkfpaa
