/-
  DERIVED. GIVEN WITH THE SEED: THE CARDS: each row of YtejmiodblfpkjaaDoorRows.lean that lists a variable, with what it lists TIED to the program's text (the seventh form; the later family's looks); each row that meets fmt, with fmt's text TOLD by the authors' own Lean function (tested against real Go, not proved from fmt's source: count such statements apart). THE CARD IS WHAT COUNTS. Prove the row's statement (the work); the ties are given (YtejmiodblfpkjaaDoorTie.lean); close each card by the builder's one call (the guide's Derived/Test/ToyasCard.lean, 'card_holds'). Laid BY PROGRAM, IN A SANDBOX (cutbox-door.mjs). By AI agents, Wed Nov 11 2026. No macro, syntax, notation, axiom, sorry.
-/
import Derived.Test.YtejmiodblfpkjaaDoorRows
import GoSem.ClaimSeven
namespace Go.Proofs.YtejmiodblfpkjaaDoor
namespace Rows

/-- THE TIED CARD OF 'spencelaw07.CrangeParses'. -/
def crangeParsesCard : Claim7 := { stood := { row := crangeParsesRow, standIns := [], harness := (true, "fa1a07998f4314b03ca01c8bbbd5ce78a8637e0e2c6707866fea708d2fc1afcb"), looks := false }, kinds := [], alts := [], laidByText := true, laidKinds := [.data, .data, .data], laidTests := true, laidLooks := .later }
def CrangeParsesCardSaid : Prop := Claim7.holds Tryd.pinned (.plain (OpenSpec.ofChange crangeParsesSpec)) crangeParsesCard

/-- THE TIED CARD OF 'spencelaw07.CrangeBack'. -/
def crangeBackCard : Claim7 := { stood := { row := crangeBackRow, standIns := [], harness := (true, "fa1a07998f4314b03ca01c8bbbd5ce78a8637e0e2c6707866fea708d2fc1afcb"), looks := false }, kinds := [], alts := [], laidByText := true, laidKinds := [.data, .data, .data], laidTests := true, laidLooks := .later }
def CrangeBackCardSaid : Prop := Claim7.holds Tryd.pinned (.plain (OpenSpec.ofChange crangeBackSpec)) crangeBackCard

/-- THE TIED CARD OF 'spencelaw07.CrangeNoughts'. -/
def crangeNoughtsCard : Claim7 := { stood := { row := crangeNoughtsRow, standIns := [], harness := (true, "fa1a07998f4314b03ca01c8bbbd5ce78a8637e0e2c6707866fea708d2fc1afcb"), looks := false }, kinds := [], alts := [], laidByText := true, laidKinds := [.data, .data, .data], laidTests := true, laidLooks := .later }
def CrangeNoughtsCardSaid : Prop := Claim7.holds Tryd.pinned (.plain (OpenSpec.ofChange crangeNoughtsSpec)) crangeNoughtsCard

/-- THE SECOND FORM's CARD OF 'spencelaw07.CrangeParses'. -/
def crangeParsesUptoCard : Claim7 := { stood := { row := crangeParsesUptoRow, standIns := [], harness := (true, "fa1a07998f4314b03ca01c8bbbd5ce78a8637e0e2c6707866fea708d2fc1afcb"), looks := false }, kinds := [], alts := [], laidByText := true, laidKinds := [.data, .data, .data], laidTests := true, laidLooks := .later }
def CrangeParsesUptoCardSaid : Prop := Claim7.holds Tryd.pinned (.plain (OpenSpec.upto crangeParsesSpec)) crangeParsesUptoCard

/-- THE SECOND FORM's CARD OF 'spencelaw07.CrangeBack'. -/
def crangeBackUptoCard : Claim7 := { stood := { row := crangeBackUptoRow, standIns := [], harness := (true, "fa1a07998f4314b03ca01c8bbbd5ce78a8637e0e2c6707866fea708d2fc1afcb"), looks := false }, kinds := [], alts := [], laidByText := true, laidKinds := [.data, .data, .data], laidTests := true, laidLooks := .later }
def CrangeBackUptoCardSaid : Prop := Claim7.holds Tryd.pinned (.plain (OpenSpec.upto crangeBackSpec)) crangeBackUptoCard

/-- THE SECOND FORM's CARD OF 'spencelaw07.CrangeNoughts'. -/
def crangeNoughtsUptoCard : Claim7 := { stood := { row := crangeNoughtsUptoRow, standIns := [], harness := (true, "fa1a07998f4314b03ca01c8bbbd5ce78a8637e0e2c6707866fea708d2fc1afcb"), looks := false }, kinds := [], alts := [], laidByText := true, laidKinds := [.data, .data, .data], laidTests := true, laidLooks := .later }
def CrangeNoughtsUptoCardSaid : Prop := Claim7.holds Tryd.pinned (.plain (OpenSpec.upto crangeNoughtsSpec)) crangeNoughtsUptoCard
end Rows
end Go.Proofs.YtejmiodblfpkjaaDoor
