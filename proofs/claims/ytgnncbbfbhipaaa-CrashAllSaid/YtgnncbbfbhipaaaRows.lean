/-
  No cell of these rows narrows 'for every input' (looked for: loops, veiled, ifaces, maps, wideKeys, modest, calm, conditions, laid).
  DERIVED. THE GIVEN ROWS OF THIS SEAT. 3 by the template 'for every input the law returns true; each argument reads behind the call as it read before'; 0 by the template 'total and deterministic' (their statements: YtgnncbbfbhipaaaTotals.lean).
  GIVEN WITH THE SEED: the statements are not yours to turn. If you find one false, say at which input.
  Laid BY PROGRAM, IN A SANDBOX (cutbox-rows.mjs): the forced cells as the released guide's own fill.sh prints them over the translation bfbfffc5c8536441… (all of the seat's roots in one cut). By AI agents, Wed Nov 11 2026. No macro, syntax, notation, axiom, sorry.
-/
import Derived.Test.YtgnncbbfbhipaaaChecked
import GoSem.Claim
import GoSem.ClaimJoined
import GoSem.ClaimMapViews
import Derived.JoinedTies
import Derived.KernelRfl
namespace Go.Proofs.Ytgnncbbfbhipaaa
/- THE CELL 'sum', in the pinned program and in every row, IS THE sha256 OF THE DUMP (.gsa) THAT YtgnncbbfbhipaaaProg.lean LOADS. Nothing in Lean hashes anything: it is a label: what it is worth is what the hold of that sum in a sandbox is worth. -/
noncomputable def Try.pinned : Pinned := { name := "ytgnncbbfbhipaaa", sum := "bfbfffc5c85364411acbea7aada260aedbf03dbdcaeb1698126e7610221ef9c3", checked := Try.checked }
namespace Rows
def none {H : Type} : Left H := { results := [], args := [] }

/-- 'spencelaw12.CrashAfter': WHATEVER THE INPUT: true; the input reads as it did. -/
def crashAfterSpec : ChangeSpec := { name := "crashAfter", fn := fun _ => fun
  | [d1, d2, d3] => { results := [.lit (.bool true)], args := [d1, d2, d3] }
  | _ => none }
def crashAfterRow : OpenClaim := { program := "ytgnncbbfbhipaaa", sum := "bfbfffc5c85364411acbea7aada260aedbf03dbdcaeb1698126e7610221ef9c3", func := "spence/spencelaw12.CrashAfter", spec := "crashAfter", unfollowed := true, recurses := true, plainKeys := false, apart := false }
def CrashAfterSaid : Prop := crashAfterRow.holds Try.pinned (OpenSpec.ofChange crashAfterSpec)

/-- ITS FALSE NEIGHBOUR: 'it returns false'. Refute it at one input. -/
def crashAfterWrong : ChangeSpec := { name := "crashAfter", fn := fun _ => fun
  | [d1, d2, d3] => { results := [.lit (.bool false)], args := [d1, d2, d3] }
  | _ => none }
def CrashAfterWrongFalsely : Prop := crashAfterRow.holds Try.pinned (OpenSpec.ofChange crashAfterWrong)

/-- 'spencelaw12.CrashAll': WHATEVER THE INPUT: true; the input reads as it did. -/
def crashAllSpec : ChangeSpec := { name := "crashAll", fn := fun _ => fun
  | [d1, d2, d3, d4, d5] => { results := [.lit (.bool true)], args := [d1, d2, d3, d4, d5] }
  | _ => none }
def crashAllRow : OpenClaim := { program := "ytgnncbbfbhipaaa", sum := "bfbfffc5c85364411acbea7aada260aedbf03dbdcaeb1698126e7610221ef9c3", func := "spence/spencelaw12.CrashAll", spec := "crashAll", unfollowed := true, recurses := true, plainKeys := false, apart := false }
def CrashAllSaid : Prop := crashAllRow.holds Try.pinned (OpenSpec.ofChange crashAllSpec)

/-- ITS FALSE NEIGHBOUR: 'it returns false'. Refute it at one input. -/
def crashAllWrong : ChangeSpec := { name := "crashAll", fn := fun _ => fun
  | [d1, d2, d3, d4, d5] => { results := [.lit (.bool false)], args := [d1, d2, d3, d4, d5] }
  | _ => none }
def CrashAllWrongFalsely : Prop := crashAllRow.holds Try.pinned (OpenSpec.ofChange crashAllWrong)

/-- 'spencelaw12.CrashWithin': WHATEVER THE INPUT: true; the input reads as it did. -/
def crashWithinSpec : ChangeSpec := { name := "crashWithin", fn := fun _ => fun
  | [d1, d2, d3, d4] => { results := [.lit (.bool true)], args := [d1, d2, d3, d4] }
  | _ => none }
def crashWithinRow : OpenClaim := { program := "ytgnncbbfbhipaaa", sum := "bfbfffc5c85364411acbea7aada260aedbf03dbdcaeb1698126e7610221ef9c3", func := "spence/spencelaw12.CrashWithin", spec := "crashWithin", unfollowed := true, recurses := true, plainKeys := false, apart := false }
def CrashWithinSaid : Prop := crashWithinRow.holds Try.pinned (OpenSpec.ofChange crashWithinSpec)

/-- ITS FALSE NEIGHBOUR: 'it returns false'. Refute it at one input. -/
def crashWithinWrong : ChangeSpec := { name := "crashWithin", fn := fun _ => fun
  | [d1, d2, d3, d4] => { results := [.lit (.bool false)], args := [d1, d2, d3, d4] }
  | _ => none }
def CrashWithinWrongFalsely : Prop := crashWithinRow.holds Try.pinned (OpenSpec.ofChange crashWithinWrong)

/- THE SECOND FORM. 'bulk': how many values and letters a reading holds, each counted each time it is reached (what is shared counts as often as it is met; a slice's spare places count too). A statement '..UptoSaid' is the law's where the arguments, and the package variables that the reading takes, are together of bulk at most 1048576: NARROWER than '..Said'. Prove '..Said' where nothing that the law and all that it calls make is longer than what came in: it says more and counts as full. Else prove '..UptoSaid'. A law counts once. -/
mutual
def uptoBulk {H : Type} : DataW H → Nat
  | .lit (.string bytes) => bytes.length + 1
  | .lit _ => 1
  | .nil => 1
  | .ptr d => uptoBulk d + 1
  | .slice elems spare => uptoBulkAll elems + uptoBulkAll spare + 1
  | .agg parts => uptoBulkAll parts + 1
  | .iface _ d => uptoBulk d + 1
  | .map entries => uptoBulkEntries entries + 1
  | .held _ => 1
def uptoBulkAll {H : Type} : List (DataW H) → Nat
  | [] => 0
  | d :: r => uptoBulk d + uptoBulkAll r
def uptoBulkEntries {H : Type} : List (Lit × DataW H) → Nat
  | [] => 0
  | x :: r => uptoBulkEntry x + uptoBulkEntries r
def uptoBulkEntry {H : Type} : Lit × DataW H → Nat
  | (.string bytes, d) => bytes.length + uptoBulk d + 1
  | (_, d) => uptoBulk d + 1
 end
def uptoSmall : (H : Type) → List (DataW H) → Bool := fun _ ds => decide (uptoBulkAll ds ≤ 1048576)
def OpenSpec.upto (s : _root_.Go.ChangeSpec) : _root_.Go.OpenSpec := { _root_.Go.OpenSpec.ofChange s with cond := some uptoSmall }

/-- 'spencelaw12.CrashAfter', WHERE WHAT IT READS IS OF BULK AT MOST 1048576: true; the input reads as it did. -/
def crashAfterUptoRow : OpenClaim := { program := "ytgnncbbfbhipaaa", sum := "bfbfffc5c85364411acbea7aada260aedbf03dbdcaeb1698126e7610221ef9c3", func := "spence/spencelaw12.CrashAfter", spec := "crashAfter", unfollowed := true, recurses := true, plainKeys := false, apart := false, narrowed := true }
def CrashAfterUptoSaid : Prop := crashAfterUptoRow.holds Try.pinned (OpenSpec.upto crashAfterSpec)

/-- 'spencelaw12.CrashAll', WHERE WHAT IT READS IS OF BULK AT MOST 1048576: true; the input reads as it did. -/
def crashAllUptoRow : OpenClaim := { program := "ytgnncbbfbhipaaa", sum := "bfbfffc5c85364411acbea7aada260aedbf03dbdcaeb1698126e7610221ef9c3", func := "spence/spencelaw12.CrashAll", spec := "crashAll", unfollowed := true, recurses := true, plainKeys := false, apart := false, narrowed := true }
def CrashAllUptoSaid : Prop := crashAllUptoRow.holds Try.pinned (OpenSpec.upto crashAllSpec)

/-- 'spencelaw12.CrashWithin', WHERE WHAT IT READS IS OF BULK AT MOST 1048576: true; the input reads as it did. -/
def crashWithinUptoRow : OpenClaim := { program := "ytgnncbbfbhipaaa", sum := "bfbfffc5c85364411acbea7aada260aedbf03dbdcaeb1698126e7610221ef9c3", func := "spence/spencelaw12.CrashWithin", spec := "crashWithin", unfollowed := true, recurses := true, plainKeys := false, apart := false, narrowed := true }
def CrashWithinUptoSaid : Prop := crashWithinUptoRow.holds Try.pinned (OpenSpec.upto crashWithinSpec)

end Rows
end Go.Proofs.Ytgnncbbfbhipaaa
