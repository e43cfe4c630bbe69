/-
  DERIVED. GIVEN WITH THE SEED: THE CARDS: each row of YtlilkcbhlinolaaDoorRows.lean that lists a variable, with what it lists TIED to the program's text (the seventh form; the later family's looks); each row that meets fmt, with fmt's text TOLD by the authors' own Lean function (tested against real Go, not proved from fmt's source: count such statements apart). THE CARD IS WHAT COUNTS. Prove the row's statement (the work); the ties are given (YtlilkcbhlinolaaDoorTie.lean); close each card by the builder's one call (the guide's Derived/Test/ToyasCard.lean, 'card_holds'). Laid BY PROGRAM, IN A SANDBOX (cutbox-door.mjs). By AI agents, Wed Nov 11 2026. No macro, syntax, notation, axiom, sorry.
-/
import Derived.Test.YtlilkcbhlinolaaDoorRows
import GoSem.ClaimSeven
namespace Go.Proofs.YtlilkcbhlinolaaDoor
namespace Rows

/-- THE TIED CARD OF 'spencelaw08.MultiPuts'. -/
def multiPutsCard : Claim7 := { stood := { row := multiPutsRow, standIns := [], harness := (true, "00a77eaa94779305d51ef80cc7f429101eedb5324cf7d8f1664a6e1e7723786e"), looks := true }, kinds := [], alts := [], laidByText := true, laidKinds := [.data, .data, .data, .handle], laidTests := true, laidLooks := .later }
def MultiPutsCardSaid : Prop := Claim7.holds Tryd.pinned (.plain (OpenSpec.ofChange multiPutsSpec)) multiPutsCard

/-- THE TIED CARD OF 'spencelaw08.MultiBack'. -/
def multiBackCard : Claim7 := { stood := { row := multiBackRow, standIns := [], harness := (true, "00a77eaa94779305d51ef80cc7f429101eedb5324cf7d8f1664a6e1e7723786e"), looks := true }, kinds := [], alts := [], laidByText := true, laidKinds := [.data, .data, .data, .handle], laidTests := true, laidLooks := .later }
def MultiBackCardSaid : Prop := Claim7.holds Tryd.pinned (.plain (OpenSpec.ofChange multiBackSpec)) multiBackCard

/-- THE TIED CARD OF 'spencelaw08.MultiReads'. -/
def multiReadsCard : Claim7 := { stood := { row := multiReadsRow, standIns := [], harness := (true, "00a77eaa94779305d51ef80cc7f429101eedb5324cf7d8f1664a6e1e7723786e"), looks := true }, kinds := [], alts := [], laidByText := true, laidKinds := [.data, .data, .data, .handle], laidTests := true, laidLooks := .later }
def MultiReadsCardSaid : Prop := Claim7.holds Tryd.pinned (.plain (OpenSpec.ofChange multiReadsSpec)) multiReadsCard

/-- THE SECOND FORM's CARD OF 'spencelaw08.MultiPuts'. -/
def multiPutsUptoCard : Claim7 := { stood := { row := multiPutsUptoRow, standIns := [], harness := (true, "00a77eaa94779305d51ef80cc7f429101eedb5324cf7d8f1664a6e1e7723786e"), looks := true }, kinds := [], alts := [], laidByText := true, laidKinds := [.data, .data, .data, .handle], laidTests := true, laidLooks := .later }
def MultiPutsUptoCardSaid : Prop := Claim7.holds Tryd.pinned (.plain (OpenSpec.upto multiPutsSpec)) multiPutsUptoCard

/-- THE SECOND FORM's CARD OF 'spencelaw08.MultiBack'. -/
def multiBackUptoCard : Claim7 := { stood := { row := multiBackUptoRow, standIns := [], harness := (true, "00a77eaa94779305d51ef80cc7f429101eedb5324cf7d8f1664a6e1e7723786e"), looks := true }, kinds := [], alts := [], laidByText := true, laidKinds := [.data, .data, .data, .handle], laidTests := true, laidLooks := .later }
def MultiBackUptoCardSaid : Prop := Claim7.holds Tryd.pinned (.plain (OpenSpec.upto multiBackSpec)) multiBackUptoCard

/-- THE SECOND FORM's CARD OF 'spencelaw08.MultiReads'. -/
def multiReadsUptoCard : Claim7 := { stood := { row := multiReadsUptoRow, standIns := [], harness := (true, "00a77eaa94779305d51ef80cc7f429101eedb5324cf7d8f1664a6e1e7723786e"), looks := true }, kinds := [], alts := [], laidByText := true, laidKinds := [.data, .data, .data, .handle], laidTests := true, laidLooks := .later }
def MultiReadsUptoCardSaid : Prop := Claim7.holds Tryd.pinned (.plain (OpenSpec.upto multiReadsSpec)) multiReadsUptoCard
end Rows
end Go.Proofs.YtlilkcbhlinolaaDoor
