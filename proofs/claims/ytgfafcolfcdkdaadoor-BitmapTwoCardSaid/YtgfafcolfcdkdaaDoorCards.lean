/-
  DERIVED. GIVEN WITH THE SEED: THE CARDS: each row of YtgfafcolfcdkdaaDoorRows.lean that lists a variable, with what it lists TIED to the program's text (the seventh form; the later family's looks); each row that meets fmt, with fmt's text TOLD by the authors' own Lean function (tested against real Go, not proved from fmt's source: count such statements apart). THE CARD IS WHAT COUNTS. Prove the row's statement (the work); the ties are given (YtgfafcolfcdkdaaDoorTie.lean); close each card by the builder's one call (the guide's Derived/Test/ToyasCard.lean, 'card_holds'). Laid BY PROGRAM, IN A SANDBOX (cutbox-door.mjs). By AI agents, Wed Nov 11 2026. No macro, syntax, notation, axiom, sorry.
-/
import Derived.Test.YtgfafcolfcdkdaaDoorRows
import GoSem.ClaimSeven
namespace Go.Proofs.YtgfafcolfcdkdaaDoor
namespace Rows

/-- THE TIED CARD OF 'spencelaw18.BitmapTells'. -/
def bitmapTellsCard : Claim7 := { stood := { row := bitmapTellsRow, standIns := [], harness := (true, "c1d940d9be1f1df28757a9575ba664a7bd8a91ea212781f03079b3da061709bf"), looks := false }, kinds := [], alts := [], laidByText := true, laidKinds := [.data], laidTests := true, laidLooks := .later }
def BitmapTellsCardSaid : Prop := Claim7.holds Tryd.pinned (.plain (OpenSpec.ofChange bitmapTellsSpec)) bitmapTellsCard

/-- THE TIED CARD OF 'spencelaw18.BitmapTwo'. -/
def bitmapTwoCard : Claim7 := { stood := { row := bitmapTwoRow, standIns := [], harness := (true, "c1d940d9be1f1df28757a9575ba664a7bd8a91ea212781f03079b3da061709bf"), looks := false }, kinds := [], alts := [], laidByText := true, laidKinds := [.data], laidTests := true, laidLooks := .later }
def BitmapTwoCardSaid : Prop := Claim7.holds Tryd.pinned (.plain (OpenSpec.ofChange bitmapTwoSpec)) bitmapTwoCard

/-- THE TIED CARD OF 'spencelaw18.BitmapRuns'. -/
def bitmapRunsCard : Claim7 := { stood := { row := bitmapRunsRow, standIns := [], harness := (true, "c1d940d9be1f1df28757a9575ba664a7bd8a91ea212781f03079b3da061709bf"), looks := false }, kinds := [], alts := [], laidByText := true, laidKinds := [.data], laidTests := true, laidLooks := .later }
def BitmapRunsCardSaid : Prop := Claim7.holds Tryd.pinned (.plain (OpenSpec.ofChange bitmapRunsSpec)) bitmapRunsCard

/-- THE SECOND FORM's CARD OF 'spencelaw18.BitmapTells'. -/
def bitmapTellsUptoCard : Claim7 := { stood := { row := bitmapTellsUptoRow, standIns := [], harness := (true, "c1d940d9be1f1df28757a9575ba664a7bd8a91ea212781f03079b3da061709bf"), looks := false }, kinds := [], alts := [], laidByText := true, laidKinds := [.data], laidTests := true, laidLooks := .later }
def BitmapTellsUptoCardSaid : Prop := Claim7.holds Tryd.pinned (.plain (OpenSpec.upto bitmapTellsSpec)) bitmapTellsUptoCard

/-- THE SECOND FORM's CARD OF 'spencelaw18.BitmapTwo'. -/
def bitmapTwoUptoCard : Claim7 := { stood := { row := bitmapTwoUptoRow, standIns := [], harness := (true, "c1d940d9be1f1df28757a9575ba664a7bd8a91ea212781f03079b3da061709bf"), looks := false }, kinds := [], alts := [], laidByText := true, laidKinds := [.data], laidTests := true, laidLooks := .later }
def BitmapTwoUptoCardSaid : Prop := Claim7.holds Tryd.pinned (.plain (OpenSpec.upto bitmapTwoSpec)) bitmapTwoUptoCard

/-- THE SECOND FORM's CARD OF 'spencelaw18.BitmapRuns'. -/
def bitmapRunsUptoCard : Claim7 := { stood := { row := bitmapRunsUptoRow, standIns := [], harness := (true, "c1d940d9be1f1df28757a9575ba664a7bd8a91ea212781f03079b3da061709bf"), looks := false }, kinds := [], alts := [], laidByText := true, laidKinds := [.data], laidTests := true, laidLooks := .later }
def BitmapRunsUptoCardSaid : Prop := Claim7.holds Tryd.pinned (.plain (OpenSpec.upto bitmapRunsSpec)) bitmapRunsUptoCard
end Rows
end Go.Proofs.YtgfafcolfcdkdaaDoor
