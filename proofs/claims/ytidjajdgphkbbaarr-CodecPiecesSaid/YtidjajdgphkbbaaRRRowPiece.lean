/-
  A struct of three ints and a slice of bytes (a piece), as the row's step opens it.
-/
import Derived.Test.YtidjajdgphkbbaaRRChecked
import Derived.Test.YtidjajdgphkbbaaRRRowBytes
import Derived.WalkKit
import Derived.ProofKit
import Derived.OpenShut
import Derived.ChangeArms
import Derived.ChangeSame
import Derived.ChangeSlices
import Derived.Deep.Slices
import Derived.Deep.Strs
import Derived.Lib.SmallJoins
namespace Go.Proofs.YtidjajdgphkbbaaRR
open Go.ChangeShapes Go.WideShapes Go.ChangeAt Go.RowKit Go.Deep
set_option maxRecDepth 100000

theorem cells24 : Try.prog.cellsOf 24 = 4 := by kernel_rfl
section
variable {H : Type} {enc : TypeId × Value → H} {W : World} {base : Nat} {held : Bool}
theorem open_piece {r : Reach} {b0 : Nat} {v : Value} {d : DataW H} {p : List MemPlace} (hv : Value.okWide Try.prog W r b0 24 v) (h : DataW.Trod enc Try.prog W base (fun _ => true) held 24 v d p) :
    ∃ (o g i : Int) (A : Option Addr) (n c : Nat) (l : List UInt8), v = .agg #[.int .i64 o, .int .i64 g, .int .i64 i, .slice A n c] ∧ Bs W W.heap.size A n l ∧ n ≤ c := by
  obtain ⟨x0, x1, x2, x3, y0, y1, y2, y3, m, rfl, rfl, rfl, h0, h1, h2, h3⟩ := Joins.open_agg4 Try.underlying24 (by kernel_rfl) cells24 hv h
  obtain ⟨o, eo, -, -⟩ := DataW.trod_int Try.underlying3 h0
  obtain ⟨g, eg, -, -⟩ := DataW.trod_int Try.underlying3 h1
  obtain ⟨i, ei, -, -⟩ := DataW.trod_int Try.underlying3 h2
  obtain rfl : x0 = .int .i64 o := by simpa using eo
  obtain rfl : x1 = .int .i64 g := by simpa using eg
  obtain rfl : x2 = .int .i64 i := by simpa using ei
  rcases open_ints Try.underlying22 Try.underlying5 (by kernel_rfl) h3 with ⟨hcs, -⟩ | ⟨a, len, cap, zs, hcs, _, hlc, hm, hz, -, hcell, hwz⟩
  · obtain rfl : x3 = .slice none 0 0 := by simpa using hcs
    exact ⟨o, g, i, none, 0, 0, [], rfl, Bs.nil _ _ _, Nat.le_refl _⟩
  · obtain rfl : x3 = .slice (some a) len cap := by simpa using hcs
    have hz' : zs.length = cap := by simpa using hz
    obtain ⟨l, hbs, hle⟩ := bs_of_rowIn (w := W) (a := some a) (len := len) (cap := cap) (.inr ⟨a, rfl, hlc, hm, hz', hcell, hwz⟩)
    exact ⟨o, g, i, some a, len, cap, l, rfl, hbs, hle⟩
end
end Go.Proofs.YtidjajdgphkbbaaRR
