/-
  No cell of these rows narrows 'for every input' (looked for: loops, veiled, ifaces, maps, wideKeys, modest, calm, conditions, laid).
  DERIVED. THE GIVEN ROWS OF THIS SEAT. 3 by the template 'for every input the law returns true; each argument reads behind the call as it read before'; 0 by the template 'total and deterministic' (their statements: YtlonpimnjjkfpaaTotals.lean).
  GIVEN WITH THE SEED: the statements are not yours to turn. If you find one false, say at which input.
  Laid BY PROGRAM, IN A SANDBOX (cutbox-rows.mjs): the forced cells as the released guide's own fill.sh prints them over the translation 8f2ec11e48461282… (all of the seat's roots in one cut). By AI agents, Wed Nov 11 2026. No macro, syntax, notation, axiom, sorry.
-/
import Derived.Test.YtlonpimnjjkfpaaChecked
import GoSem.Claim
import GoSem.ClaimJoined
import GoSem.ClaimMapViews
import Derived.JoinedTies
import Derived.KernelRfl
namespace Go.Proofs.Ytlonpimnjjkfpaa
/- THE CELL 'sum', in the pinned program and in every row, IS THE sha256 OF THE DUMP (.gsa) THAT YtlonpimnjjkfpaaProg.lean LOADS. Nothing in Lean hashes anything: it is a label: what it is worth is what the hold of that sum in a sandbox is worth. -/
noncomputable def Try.pinned : Pinned := { name := "ytlonpimnjjkfpaa", sum := "8f2ec11e484612826b2be89f4968c16e9666c568ed95c600786e75e7bd2ef042", checked := Try.checked }
namespace Rows
def none {H : Type} : Left H := { results := [], args := [] }

/-- 'spencelaw10.CutsTells': WHATEVER THE INPUT: true; the input reads as it did. -/
def cutsTellsSpec : ChangeSpec := { name := "cutsTells", fn := fun _ => fun
  | [d1, d2, d3, d4] => { results := [.lit (.bool true)], args := [d1, d2, d3, d4] }
  | _ => none }
def cutsTellsRow : OpenClaim := { program := "ytlonpimnjjkfpaa", sum := "8f2ec11e484612826b2be89f4968c16e9666c568ed95c600786e75e7bd2ef042", func := "spence/spencelaw10.CutsTells", spec := "cutsTells", apart := false }
def CutsTellsSaid : Prop := cutsTellsRow.holds Try.pinned (OpenSpec.ofChange cutsTellsSpec)

/-- ITS FALSE NEIGHBOUR: 'it returns false'. Refute it at one input. -/
def cutsTellsWrong : ChangeSpec := { name := "cutsTells", fn := fun _ => fun
  | [d1, d2, d3, d4] => { results := [.lit (.bool false)], args := [d1, d2, d3, d4] }
  | _ => none }
def CutsTellsWrongFalsely : Prop := cutsTellsRow.holds Try.pinned (OpenSpec.ofChange cutsTellsWrong)

/-- 'spencelaw10.CutsCovers': WHATEVER THE INPUT: true; the input reads as it did. -/
def cutsCoversSpec : ChangeSpec := { name := "cutsCovers", fn := fun _ => fun
  | [d1, d2, d3] => { results := [.lit (.bool true)], args := [d1, d2, d3] }
  | _ => none }
def cutsCoversRow : OpenClaim := { program := "ytlonpimnjjkfpaa", sum := "8f2ec11e484612826b2be89f4968c16e9666c568ed95c600786e75e7bd2ef042", func := "spence/spencelaw10.CutsCovers", spec := "cutsCovers", unfollowed := true, recurses := true, apart := false }
def CutsCoversSaid : Prop := cutsCoversRow.holds Try.pinned (OpenSpec.ofChange cutsCoversSpec)

/-- ITS FALSE NEIGHBOUR: 'it returns false'. Refute it at one input. -/
def cutsCoversWrong : ChangeSpec := { name := "cutsCovers", fn := fun _ => fun
  | [d1, d2, d3] => { results := [.lit (.bool false)], args := [d1, d2, d3] }
  | _ => none }
def CutsCoversWrongFalsely : Prop := cutsCoversRow.holds Try.pinned (OpenSpec.ofChange cutsCoversWrong)

/-- 'spencelaw10.CutsWhole': WHATEVER THE INPUT: true; the input reads as it did. -/
def cutsWholeSpec : ChangeSpec := { name := "cutsWhole", fn := fun _ => fun
  | [d1, d2, d3] => { results := [.lit (.bool true)], args := [d1, d2, d3] }
  | _ => none }
def cutsWholeRow : OpenClaim := { program := "ytlonpimnjjkfpaa", sum := "8f2ec11e484612826b2be89f4968c16e9666c568ed95c600786e75e7bd2ef042", func := "spence/spencelaw10.CutsWhole", spec := "cutsWhole", apart := false }
def CutsWholeSaid : Prop := cutsWholeRow.holds Try.pinned (OpenSpec.ofChange cutsWholeSpec)

/-- ITS FALSE NEIGHBOUR: 'it returns false'. Refute it at one input. -/
def cutsWholeWrong : ChangeSpec := { name := "cutsWhole", fn := fun _ => fun
  | [d1, d2, d3] => { results := [.lit (.bool false)], args := [d1, d2, d3] }
  | _ => none }
def CutsWholeWrongFalsely : Prop := cutsWholeRow.holds Try.pinned (OpenSpec.ofChange cutsWholeWrong)

/- THE SECOND FORM. 'bulk': how many values and letters a reading holds, each counted each time it is reached (what is shared counts as often as it is met; a slice's spare places count too). A statement '..UptoSaid' is the law's where the arguments, and the package variables that the reading takes, are together of bulk at most 1048576: NARROWER than '..Said'. Prove '..Said' where nothing that the law and all that it calls make is longer than what came in: it says more and counts as full. Else prove '..UptoSaid'. A law counts once. -/
mutual
def uptoBulk {H : Type} : DataW H → Nat
  | .lit (.string bytes) => bytes.length + 1
  | .lit _ => 1
  | .nil => 1
  | .ptr d => uptoBulk d + 1
  | .slice elems spare => uptoBulkAll elems + uptoBulkAll spare + 1
  | .agg parts => uptoBulkAll parts + 1
  | .iface _ d => uptoBulk d + 1
  | .map entries => uptoBulkEntries entries + 1
  | .held _ => 1
def uptoBulkAll {H : Type} : List (DataW H) → Nat
  | [] => 0
  | d :: r => uptoBulk d + uptoBulkAll r
def uptoBulkEntries {H : Type} : List (Lit × DataW H) → Nat
  | [] => 0
  | x :: r => uptoBulkEntry x + uptoBulkEntries r
def uptoBulkEntry {H : Type} : Lit × DataW H → Nat
  | (.string bytes, d) => bytes.length + uptoBulk d + 1
  | (_, d) => uptoBulk d + 1
 end
def uptoSmall : (H : Type) → List (DataW H) → Bool := fun _ ds => decide (uptoBulkAll ds ≤ 1048576)
def OpenSpec.upto (s : _root_.Go.ChangeSpec) : _root_.Go.OpenSpec := { _root_.Go.OpenSpec.ofChange s with cond := some uptoSmall }

/-- 'spencelaw10.CutsTells', WHERE WHAT IT READS IS OF BULK AT MOST 1048576: true; the input reads as it did. -/
def cutsTellsUptoRow : OpenClaim := { program := "ytlonpimnjjkfpaa", sum := "8f2ec11e484612826b2be89f4968c16e9666c568ed95c600786e75e7bd2ef042", func := "spence/spencelaw10.CutsTells", spec := "cutsTells", apart := false, narrowed := true }
def CutsTellsUptoSaid : Prop := cutsTellsUptoRow.holds Try.pinned (OpenSpec.upto cutsTellsSpec)

/-- 'spencelaw10.CutsCovers', WHERE WHAT IT READS IS OF BULK AT MOST 1048576: true; the input reads as it did. -/
def cutsCoversUptoRow : OpenClaim := { program := "ytlonpimnjjkfpaa", sum := "8f2ec11e484612826b2be89f4968c16e9666c568ed95c600786e75e7bd2ef042", func := "spence/spencelaw10.CutsCovers", spec := "cutsCovers", unfollowed := true, recurses := true, apart := false, narrowed := true }
def CutsCoversUptoSaid : Prop := cutsCoversUptoRow.holds Try.pinned (OpenSpec.upto cutsCoversSpec)

/-- 'spencelaw10.CutsWhole', WHERE WHAT IT READS IS OF BULK AT MOST 1048576: true; the input reads as it did. -/
def cutsWholeUptoRow : OpenClaim := { program := "ytlonpimnjjkfpaa", sum := "8f2ec11e484612826b2be89f4968c16e9666c568ed95c600786e75e7bd2ef042", func := "spence/spencelaw10.CutsWhole", spec := "cutsWhole", apart := false, narrowed := true }
def CutsWholeUptoSaid : Prop := cutsWholeUptoRow.holds Try.pinned (OpenSpec.upto cutsWholeSpec)

end Rows
end Go.Proofs.Ytlonpimnjjkfpaa
