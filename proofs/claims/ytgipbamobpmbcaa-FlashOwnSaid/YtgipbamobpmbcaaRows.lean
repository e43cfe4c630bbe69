/-
  No cell of these rows narrows 'for every input' (looked for: loops, veiled, ifaces, maps, wideKeys, modest, calm, conditions, laid).
  DERIVED. THE GIVEN ROWS OF THIS SEAT. 3 by the template 'for every input the law returns true; each argument reads behind the call as it read before'; 0 by the template 'total and deterministic' (their statements: YtgipbamobpmbcaaTotals.lean).
  GIVEN WITH THE SEED: the statements are not yours to turn. If you find one false, say at which input.
  Laid BY PROGRAM, IN A SANDBOX (cutbox-rows.mjs): the forced cells as the released guide's own fill.sh prints them over the translation c75a12192eb723d5… (all of the seat's roots in one cut). By AI agents, Wed Nov 11 2026. No macro, syntax, notation, axiom, sorry.
-/
import Derived.Test.YtgipbamobpmbcaaChecked
import GoSem.Claim
import GoSem.ClaimJoined
import GoSem.ClaimMapViews
import Derived.JoinedTies
import Derived.KernelRfl
namespace Go.Proofs.Ytgipbamobpmbcaa
/- THE CELL 'sum', in the pinned program and in every row, IS THE sha256 OF THE DUMP (.gsa) THAT YtgipbamobpmbcaaProg.lean LOADS. Nothing in Lean hashes anything: it is a label: what it is worth is what the hold of that sum in a sandbox is worth. -/
noncomputable def Try.pinned : Pinned := { name := "ytgipbamobpmbcaa", sum := "c75a12192eb723d503e11df98c6c0a668fc527c06d7a4ec0ebd85be58453ebaa", checked := Try.checked }
namespace Rows
def none {H : Type} : Left H := { results := [], args := [] }

/-- 'spencelaw11.FlashDoes': WHATEVER THE INPUT: true; the input reads as it did. -/
def flashDoesSpec : ChangeSpec := { name := "flashDoes", fn := fun _ => fun
  | [d1, d2] => { results := [.lit (.bool true)], args := [d1, d2] }
  | _ => none }
def flashDoesRow : OpenClaim := { program := "ytgipbamobpmbcaa", sum := "c75a12192eb723d503e11df98c6c0a668fc527c06d7a4ec0ebd85be58453ebaa", func := "spence/spencelaw11.FlashDoes", spec := "flashDoes", unfollowed := true, recurses := true, plainKeys := false, apart := false }
def FlashDoesSaid : Prop := flashDoesRow.holds Try.pinned (OpenSpec.ofChange flashDoesSpec)

/-- ITS FALSE NEIGHBOUR: 'it returns false'. Refute it at one input. -/
def flashDoesWrong : ChangeSpec := { name := "flashDoes", fn := fun _ => fun
  | [d1, d2] => { results := [.lit (.bool false)], args := [d1, d2] }
  | _ => none }
def FlashDoesWrongFalsely : Prop := flashDoesRow.holds Try.pinned (OpenSpec.ofChange flashDoesWrong)

/-- 'spencelaw11.FlashCrashes': WHATEVER THE INPUT: true; the input reads as it did. -/
def flashCrashesSpec : ChangeSpec := { name := "flashCrashes", fn := fun _ => fun
  | [d1, d2, d3, d4] => { results := [.lit (.bool true)], args := [d1, d2, d3, d4] }
  | _ => none }
def flashCrashesRow : OpenClaim := { program := "ytgipbamobpmbcaa", sum := "c75a12192eb723d503e11df98c6c0a668fc527c06d7a4ec0ebd85be58453ebaa", func := "spence/spencelaw11.FlashCrashes", spec := "flashCrashes", unfollowed := true, recurses := true, plainKeys := false, apart := false }
def FlashCrashesSaid : Prop := flashCrashesRow.holds Try.pinned (OpenSpec.ofChange flashCrashesSpec)

/-- ITS FALSE NEIGHBOUR: 'it returns false'. Refute it at one input. -/
def flashCrashesWrong : ChangeSpec := { name := "flashCrashes", fn := fun _ => fun
  | [d1, d2, d3, d4] => { results := [.lit (.bool false)], args := [d1, d2, d3, d4] }
  | _ => none }
def FlashCrashesWrongFalsely : Prop := flashCrashesRow.holds Try.pinned (OpenSpec.ofChange flashCrashesWrong)

/-- 'spencelaw11.FlashOwn': WHATEVER THE INPUT: true; the input reads as it did. -/
def flashOwnSpec : ChangeSpec := { name := "flashOwn", fn := fun _ => fun
  | [d1, d2, d3, d4, d5] => { results := [.lit (.bool true)], args := [d1, d2, d3, d4, d5] }
  | _ => none }
def flashOwnRow : OpenClaim := { program := "ytgipbamobpmbcaa", sum := "c75a12192eb723d503e11df98c6c0a668fc527c06d7a4ec0ebd85be58453ebaa", func := "spence/spencelaw11.FlashOwn", spec := "flashOwn", unfollowed := true, recurses := true, plainKeys := false, apart := false }
def FlashOwnSaid : Prop := flashOwnRow.holds Try.pinned (OpenSpec.ofChange flashOwnSpec)

/-- ITS FALSE NEIGHBOUR: 'it returns false'. Refute it at one input. -/
def flashOwnWrong : ChangeSpec := { name := "flashOwn", fn := fun _ => fun
  | [d1, d2, d3, d4, d5] => { results := [.lit (.bool false)], args := [d1, d2, d3, d4, d5] }
  | _ => none }
def FlashOwnWrongFalsely : Prop := flashOwnRow.holds Try.pinned (OpenSpec.ofChange flashOwnWrong)

/- THE SECOND FORM. 'bulk': how many values and letters a reading holds, each counted each time it is reached (what is shared counts as often as it is met; a slice's spare places count too). A statement '..UptoSaid' is the law's where the arguments, and the package variables that the reading takes, are together of bulk at most 1048576: NARROWER than '..Said'. Prove '..Said' where nothing that the law and all that it calls make is longer than what came in: it says more and counts as full. Else prove '..UptoSaid'. A law counts once. -/
mutual
def uptoBulk {H : Type} : DataW H → Nat
  | .lit (.string bytes) => bytes.length + 1
  | .lit _ => 1
  | .nil => 1
  | .ptr d => uptoBulk d + 1
  | .slice elems spare => uptoBulkAll elems + uptoBulkAll spare + 1
  | .agg parts => uptoBulkAll parts + 1
  | .iface _ d => uptoBulk d + 1
  | .map entries => uptoBulkEntries entries + 1
  | .held _ => 1
def uptoBulkAll {H : Type} : List (DataW H) → Nat
  | [] => 0
  | d :: r => uptoBulk d + uptoBulkAll r
def uptoBulkEntries {H : Type} : List (Lit × DataW H) → Nat
  | [] => 0
  | x :: r => uptoBulkEntry x + uptoBulkEntries r
def uptoBulkEntry {H : Type} : Lit × DataW H → Nat
  | (.string bytes, d) => bytes.length + uptoBulk d + 1
  | (_, d) => uptoBulk d + 1
 end
def uptoSmall : (H : Type) → List (DataW H) → Bool := fun _ ds => decide (uptoBulkAll ds ≤ 1048576)
def OpenSpec.upto (s : _root_.Go.ChangeSpec) : _root_.Go.OpenSpec := { _root_.Go.OpenSpec.ofChange s with cond := some uptoSmall }

/-- 'spencelaw11.FlashDoes', WHERE WHAT IT READS IS OF BULK AT MOST 1048576: true; the input reads as it did. -/
def flashDoesUptoRow : OpenClaim := { program := "ytgipbamobpmbcaa", sum := "c75a12192eb723d503e11df98c6c0a668fc527c06d7a4ec0ebd85be58453ebaa", func := "spence/spencelaw11.FlashDoes", spec := "flashDoes", unfollowed := true, recurses := true, plainKeys := false, apart := false, narrowed := true }
def FlashDoesUptoSaid : Prop := flashDoesUptoRow.holds Try.pinned (OpenSpec.upto flashDoesSpec)

/-- 'spencelaw11.FlashCrashes', WHERE WHAT IT READS IS OF BULK AT MOST 1048576: true; the input reads as it did. -/
def flashCrashesUptoRow : OpenClaim := { program := "ytgipbamobpmbcaa", sum := "c75a12192eb723d503e11df98c6c0a668fc527c06d7a4ec0ebd85be58453ebaa", func := "spence/spencelaw11.FlashCrashes", spec := "flashCrashes", unfollowed := true, recurses := true, plainKeys := false, apart := false, narrowed := true }
def FlashCrashesUptoSaid : Prop := flashCrashesUptoRow.holds Try.pinned (OpenSpec.upto flashCrashesSpec)

/-- 'spencelaw11.FlashOwn', WHERE WHAT IT READS IS OF BULK AT MOST 1048576: true; the input reads as it did. -/
def flashOwnUptoRow : OpenClaim := { program := "ytgipbamobpmbcaa", sum := "c75a12192eb723d503e11df98c6c0a668fc527c06d7a4ec0ebd85be58453ebaa", func := "spence/spencelaw11.FlashOwn", spec := "flashOwn", unfollowed := true, recurses := true, plainKeys := false, apart := false, narrowed := true }
def FlashOwnUptoSaid : Prop := flashOwnUptoRow.holds Try.pinned (OpenSpec.upto flashOwnSpec)

end Rows
end Go.Proofs.Ytgipbamobpmbcaa
