/-
  DERIVED. GIVEN WITH THE SEED: THE CARDS: each row of YtokknicfnnkldaaDoorRRRows.lean that lists a variable, with what it lists TIED to the program's text (the seventh form; the later family's looks); each row that meets fmt, with fmt's text TOLD by the authors' own Lean function (tested against real Go, not proved from fmt's source: count such statements apart). THE CARD IS WHAT COUNTS. Prove the row's statement (the work); the ties are given (YtokknicfnnkldaaDoorRRTie.lean); close each card by the builder's one call (the guide's Derived/Test/ToyasCard.lean, 'card_holds'). Laid BY PROGRAM, IN A SANDBOX (cutbox-door.mjs). By AI agents, Wed Nov 11 2026. No macro, syntax, notation, axiom, sorry.
-/
import Derived.Test.YtokknicfnnkldaaDoorRRRows
import GoSem.ClaimSeven
namespace Go.Proofs.YtokknicfnnkldaaDoorRR
namespace Rows

/-- THE TIED CARD OF 'spencelaw05.SpecParses'. -/
def specParsesCard : Claim7 := { stood := { row := specParsesRow, standIns := [], harness := (true, "8355aded8c39e7167070d9ab663aa1c27f4ac9baf32ce51047ce9b034d042bb9"), looks := false }, kinds := [], alts := [], laidByText := true, laidKinds := [.data, .pinned], laidTests := true, laidLooks := .later }
def SpecParsesCardSaid : Prop := Claim7.holds Tryd.pinned (.plain (OpenSpec.ofChange specParsesSpec)) specParsesCard

/-- THE SECOND FORM's CARD OF 'spencelaw05.SpecParses'. -/
def specParsesUptoCard : Claim7 := { stood := { row := specParsesUptoRow, standIns := [], harness := (true, "8355aded8c39e7167070d9ab663aa1c27f4ac9baf32ce51047ce9b034d042bb9"), looks := false }, kinds := [], alts := [], laidByText := true, laidKinds := [.data, .pinned], laidTests := true, laidLooks := .later }
def SpecParsesUptoCardSaid : Prop := Claim7.holds Tryd.pinned (.plain (OpenSpec.upto specParsesSpec)) specParsesUptoCard
end Rows
end Go.Proofs.YtokknicfnnkldaaDoorRR
