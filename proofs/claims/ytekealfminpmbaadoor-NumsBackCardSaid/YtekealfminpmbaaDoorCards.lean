/-
  DERIVED. GIVEN WITH THE SEED: THE CARDS: each row of YtekealfminpmbaaDoorRows.lean that lists a variable, with what it lists TIED to the program's text (the seventh form; the later family's looks); each row that meets fmt, with fmt's text TOLD by the authors' own Lean function (tested against real Go, not proved from fmt's source: count such statements apart). THE CARD IS WHAT COUNTS. Prove the row's statement (the work); the ties are given (YtekealfminpmbaaDoorTie.lean); close each card by the builder's one call (the guide's Derived/Test/ToyasCard.lean, 'card_holds'). Laid BY PROGRAM, IN A SANDBOX (cutbox-door.mjs). By AI agents, Wed Nov 11 2026. No macro, syntax, notation, axiom, sorry.
-/
import Derived.Test.YtekealfminpmbaaDoorRows
import GoSem.ClaimSeven
namespace Go.Proofs.YtekealfminpmbaaDoor
namespace Rows

/-- THE TIED CARD OF 'spencelaw01.NumsParses'. -/
def numsParsesCard : Claim7 := { stood := { row := numsParsesRow, standIns := [], harness := (true, "4fd6cfc0f4b184cc4df439c169a93caa32f1314bc157176c8dc06f137a6cc561"), looks := false }, kinds := [], alts := [], laidByText := true, laidKinds := [.data, .data, .data], laidTests := true, laidLooks := .later }
def NumsParsesCardSaid : Prop := Claim7.holds Tryd.pinned (.plain (OpenSpec.ofChange numsParsesSpec)) numsParsesCard

/-- THE TIED CARD OF 'spencelaw01.NumsBack'. -/
def numsBackCard : Claim7 := { stood := { row := numsBackRow, standIns := [], harness := (true, "4fd6cfc0f4b184cc4df439c169a93caa32f1314bc157176c8dc06f137a6cc561"), looks := false }, kinds := [], alts := [], laidByText := true, laidKinds := [.data, .data, .data], laidTests := true, laidLooks := .later }
def NumsBackCardSaid : Prop := Claim7.holds Tryd.pinned (.plain (OpenSpec.ofChange numsBackSpec)) numsBackCard

/-- THE SECOND FORM's CARD OF 'spencelaw01.NumsParses'. -/
def numsParsesUptoCard : Claim7 := { stood := { row := numsParsesUptoRow, standIns := [], harness := (true, "4fd6cfc0f4b184cc4df439c169a93caa32f1314bc157176c8dc06f137a6cc561"), looks := false }, kinds := [], alts := [], laidByText := true, laidKinds := [.data, .data, .data], laidTests := true, laidLooks := .later }
def NumsParsesUptoCardSaid : Prop := Claim7.holds Tryd.pinned (.plain (OpenSpec.upto numsParsesSpec)) numsParsesUptoCard

/-- THE SECOND FORM's CARD OF 'spencelaw01.NumsBack'. -/
def numsBackUptoCard : Claim7 := { stood := { row := numsBackUptoRow, standIns := [], harness := (true, "4fd6cfc0f4b184cc4df439c169a93caa32f1314bc157176c8dc06f137a6cc561"), looks := false }, kinds := [], alts := [], laidByText := true, laidKinds := [.data, .data, .data], laidTests := true, laidLooks := .later }
def NumsBackUptoCardSaid : Prop := Claim7.holds Tryd.pinned (.plain (OpenSpec.upto numsBackSpec)) numsBackUptoCard
end Rows
end Go.Proofs.YtekealfminpmbaaDoor
