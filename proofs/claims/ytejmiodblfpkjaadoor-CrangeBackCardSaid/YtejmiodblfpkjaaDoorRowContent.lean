/-
  A struct of two numbers, and one that holds a bool, such a struct and a number, as a row opens and shuts them.
-/
import Derived.Test.YtejmiodblfpkjaaDoorChecked
import Derived.WalkKit
import Derived.ProofKit
import Derived.OpenShut
import Derived.ChangeArms
import Derived.ChangeSame
import Derived.Lib.SmallJoins
namespace Go.Proofs.YtejmiodblfpkjaaDoor
open Go.ChangeShapes Go.WideShapes Go.ChangeAt Go.RowKit Go.Joins
section
variable {H : Type} {enc : TypeId × Value → H} {w : World} {base : Nat} {spare : Nat → Bool} {held : Bool}
theorem cells24 : Tryd.prog.cellsOf 24 = 2 := by kernel_rfl
theorem cells26 : Tryd.prog.cellsOf 26 = 4 := by kernel_rfl
theorem cells4 : Tryd.prog.cellsOf 4 = 1 := by kernel_rfl
theorem cells3 : Tryd.prog.cellsOf 3 = 1 := by kernel_rfl

theorem open_span {r : Reach} {b0 : Nat} {v : Value} {d : DataW H} {p : List MemPlace} (hv : Value.okWide Tryd.prog w r b0 24 v) (h : DataW.Trod enc Tryd.prog w base spare held 24 v d p) :
    ∃ a b : Int, v = .agg #[.int .i64 a, .int .i64 b] ∧ d = .agg [.lit (.int .i64 a), .lit (.int .i64 b)] ∧ p = [] ∧ (Lit.int .i64 a).wf = true ∧ (Lit.int .i64 b).wf = true := by
  obtain ⟨x, z, y, u, m, rfl, rfl, rfl, hy, hu⟩ := Joins.open_agg2 Tryd.underlying24 (by kernel_rfl) cells24 hv h
  obtain ⟨a, ea, rfl, ha⟩ := DataW.trod_int Tryd.underlying3 hy
  obtain ⟨b, eb, rfl, hb⟩ := DataW.trod_int Tryd.underlying3 hu
  obtain rfl : x = .int .i64 a := by simpa using ea
  obtain rfl : z = .int .i64 b := by simpa using eb
  exact ⟨a, b, rfl, rfl, rfl, ha, hb⟩
theorem trod_span (n : Nat) {a b : Int} (ha : (Lit.int .i64 a).wf = true) (hb : (Lit.int .i64 b).wf = true) :
    DataW.trod enc Tryd.prog w base spare held (n + 2) 24 [.int .i64 a, .int .i64 b] = some (.agg [.lit (.int .i64 a), .lit (.int .i64 b)], []) :=
  trod_struct2_mk (n := n + 1) (y0 := (.lit (.int .i64 a), [])) (y1 := (.lit (.int .i64 b), [])) Tryd.underlying24 (by rw [cells24]; rfl)
    (by rw [show Tryd.prog.cellsOf _ = 1 from cells3]; exact trod_int_mk n Tryd.underlying3 ha) (by rw [show Tryd.prog.cellsOf _ = 1 from cells3]; exact trod_int_mk n Tryd.underlying3 hb)
theorem shut_span {a b : Int} (ha : (Lit.int .i64 a).wf = true) (hb : (Lit.int .i64 b).wf = true) :
    DataW.Trod enc Tryd.prog w base spare held 24 (.agg #[.int .i64 a, .int .i64 b]) (.agg [.lit (.int .i64 a), .lit (.int .i64 b)]) [] := ⟨2, trod_span 0 ha hb⟩

theorem open_content {r : Reach} {b0 : Nat} {v : Value} {d : DataW H} {p : List MemPlace} (hv : Value.okWide Tryd.prog w r b0 26 v) (h : DataW.Trod enc Tryd.prog w base spare held 26 v d p) :
    ∃ (k : Bool) (a b n : Int), v = .agg #[.bool k, .int .i64 a, .int .i64 b, .int .i64 n] ∧ d = .agg [.lit (.bool k), .agg [.lit (.int .i64 a), .lit (.int .i64 b)], .lit (.int .i64 n)] ∧ p = [] ∧
      (Lit.int .i64 a).wf = true ∧ (Lit.int .i64 b).wf = true ∧ (Lit.int .i64 n).wf = true := by
  obtain ⟨cs, rfl, hsz⟩ := okWide_struct Tryd.underlying26 hv
  rw [cells26] at hsz
  obtain ⟨l⟩ := cs
  match l, hsz with
  | [c0, c1, c2, c3], _ =>
    obtain ⟨fuel, hf⟩ := h
    obtain ⟨xs, n, _, hx, _, hlen, hg⟩ := DataW.trod_struct Tryd.underlying26 hf
    match xs, hlen with
    | [y0, y1, y2], _ =>
      have g0 := hg 0 _ rfl
      have g1 := hg 1 _ rfl
      have g2 := hg 2 _ rfl
      change DataW.trod enc Tryd.prog w base spare held n 4 (List.take (Tryd.prog.cellsOf 4) (List.drop 0 [c0, c1, c2, c3])) = some y0 at g0
      change DataW.trod enc Tryd.prog w base spare held n 24 (List.take (Tryd.prog.cellsOf 24) (List.drop 1 [c0, c1, c2, c3])) = some y1 at g1
      change DataW.trod enc Tryd.prog w base spare held n 3 (List.take (Tryd.prog.cellsOf 3) (List.drop 3 [c0, c1, c2, c3])) = some y2 at g2
      rw [cells4] at g0
      rw [cells24] at g1
      rw [cells3] at g2
      obtain ⟨k, ek, e0⟩ := DataW.trod_bool Tryd.underlying4 g0
      obtain ⟨z0, z1, m, hx1, _, t0, t1⟩ := trod_struct2 Tryd.underlying24 g1
      try dsimp only at t0 t1
      rw [cells3] at t0 t1
      obtain ⟨a, ea, rfl, ha⟩ := DataW.trod_int Tryd.underlying3 t0
      obtain ⟨b, eb, rfl, hb⟩ := DataW.trod_int Tryd.underlying3 t1
      obtain ⟨n, en, e2, hn⟩ := DataW.trod_int Tryd.underlying3 g2
      subst e0 hx1 e2
      obtain rfl : c0 = .bool k := by simpa [Value.cells] using ek
      obtain rfl : c1 = .int .i64 a := by simpa [Value.cells] using ea
      obtain rfl : c2 = .int .i64 b := by simpa [Value.cells] using eb
      obtain rfl : c3 = .int .i64 n := by simpa [Value.cells] using en
      simp only [Prod.mk.injEq] at hx
      exact ⟨k, a, b, n, rfl, by simpa using hx.1, by simpa using hx.2, ha, hb, hn⟩
theorem shut_content {a b n : Int} (k : Bool) (ha : (Lit.int .i64 a).wf = true) (hb : (Lit.int .i64 b).wf = true) (hn : (Lit.int .i64 n).wf = true) :
    DataW.Trod enc Tryd.prog w base spare held 26 (.agg #[.bool k, .int .i64 a, .int .i64 b, .int .i64 n]) (.agg [.lit (.bool k), .agg [.lit (.int .i64 a), .lit (.int .i64 b)], .lit (.int .i64 n)]) [] := by
  have h0 : DataW.trod enc Tryd.prog w base spare held 2 4 [.bool k] = some (.lit (.bool k), []) := by simp [DataW.trod, Tryd.underlying4]
  have h1 := trod_span (enc := enc) (w := w) (base := base) (spare := spare) (held := held) 0 ha hb
  have h2 : DataW.trod enc Tryd.prog w base spare held 2 3 [.int .i64 n] = some (.lit (.int .i64 n), []) := trod_int_mk 1 Tryd.underlying3 hn
  have := trod_struct_mk (enc := enc) (w := w) (base := base) (spare := spare) (held := held) (n := 2) (cs := [.bool k, .int .i64 a, .int .i64 b, .int .i64 n]) (xs := [(.lit (.bool k), []), (.agg [.lit (.int .i64 a), .lit (.int .i64 b)], []), (.lit (.int .i64 n), [])])
    Tryd.underlying26 (by rw [cells26]; rfl) (by simp [cells4, cells3, cells24, h0, h1, h2])
  exact ⟨3, by simpa [Value.cells] using this⟩
end
end Go.Proofs.YtejmiodblfpkjaaDoor
