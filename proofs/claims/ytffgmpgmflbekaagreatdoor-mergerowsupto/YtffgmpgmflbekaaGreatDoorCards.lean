/-
  DERIVED. GIVEN WITH THE SEED: THE CARDS: each row of YtffgmpgmflbekaaGreatDoorRows.lean that lists a variable, with what it lists TIED to the program's text (the seventh form; the later family's looks); each row that meets fmt, with fmt's text TOLD by the authors' own Lean function (tested against real Go, not proved from fmt's source: count such statements apart). THE CARD IS WHAT COUNTS. Prove the row's statement (the work); the ties are given (YtffgmpgmflbekaaGreatDoorTie.lean); close each card by the builder's one call (the guide's Derived/Test/ToyasCard.lean, 'card_holds'). Laid BY PROGRAM, IN A SANDBOX (cutbox-door.mjs). By AI agents, Wed Nov 11 2026. No macro, syntax, notation, axiom, sorry.
-/
import Derived.Test.YtffgmpgmflbekaaGreatDoorRows
import GoSem.ClaimSeven
namespace Go.Proofs.YtffgmpgmflbekaaGreatDoor
namespace Rows

/-- THE TIED CARD OF 'varvelaw14.MergeRows'. -/
def mergeRowsCard : Claim7 := { stood := { row := mergeRowsRow, standIns := [], harness := (true, "2af4a771cf05de8636a5b087fd2037d519c829ca41a5139ae5654df1d6ecbffa"), looks := true }, kinds := [], alts := [], laidByText := true, laidKinds := [.data, .data, .data], laidTests := true, laidLooks := .later }
def MergeRowsCardSaid : Prop := Claim7.holds Tryz.pinned (.plain (OpenSpec.ofChange mergeRowsSpec)) mergeRowsCard

/-- THE TIED CARD OF 'varvelaw14.MergePlays'. -/
def mergePlaysCard : Claim7 := { stood := { row := mergePlaysRow, standIns := [], harness := (true, "2af4a771cf05de8636a5b087fd2037d519c829ca41a5139ae5654df1d6ecbffa"), looks := true }, kinds := [], alts := [], laidByText := true, laidKinds := [.data, .data, .data], laidTests := true, laidLooks := .later }
def MergePlaysCardSaid : Prop := Claim7.holds Tryz.pinned (.plain (OpenSpec.ofChange mergePlaysSpec)) mergePlaysCard

/-- THE TIED CARD OF 'varvelaw14.MergeSame'. -/
def mergeSameCard : Claim7 := { stood := { row := mergeSameRow, standIns := [], harness := (true, "2af4a771cf05de8636a5b087fd2037d519c829ca41a5139ae5654df1d6ecbffa"), looks := true }, kinds := [], alts := [], laidByText := true, laidKinds := [.data, .data, .data], laidTests := true, laidLooks := .later }
def MergeSameCardSaid : Prop := Claim7.holds Tryz.pinned (.plain (OpenSpec.ofChange mergeSameSpec)) mergeSameCard

/-- THE TIED CARD OF 'varvelaw14.MergeOne'. -/
def mergeOneCard : Claim7 := { stood := { row := mergeOneRow, standIns := [], harness := (true, "2af4a771cf05de8636a5b087fd2037d519c829ca41a5139ae5654df1d6ecbffa"), looks := true }, kinds := [], alts := [], laidByText := true, laidKinds := [.data, .data, .data, .sentinel, .sentinel], laidTests := true, laidLooks := .later }
def MergeOneCardSaid : Prop := Claim7.holds Tryz.pinned (.plain (OpenSpec.ofChange mergeOneSpec)) mergeOneCard

/-- THE TIED CARD OF 'varvelaw14.MergeWhole'. -/
def mergeWholeCard : Claim7 := { stood := { row := mergeWholeRow, standIns := [], harness := (true, "2af4a771cf05de8636a5b087fd2037d519c829ca41a5139ae5654df1d6ecbffa"), looks := true }, kinds := [], alts := [], laidByText := true, laidKinds := [.data, .data, .data], laidTests := true, laidLooks := .later }
def MergeWholeCardSaid : Prop := Claim7.holds Tryz.pinned (.plain (OpenSpec.ofChange mergeWholeSpec)) mergeWholeCard

/-- THE SECOND FORM's CARD OF 'varvelaw14.MergeRows'. -/
def mergeRowsUptoCard : Claim7 := { stood := { row := mergeRowsUptoRow, standIns := [], harness := (true, "2af4a771cf05de8636a5b087fd2037d519c829ca41a5139ae5654df1d6ecbffa"), looks := true }, kinds := [], alts := [], laidByText := true, laidKinds := [.data, .data, .data], laidTests := true, laidLooks := .later }
def MergeRowsUptoCardSaid : Prop := Claim7.holds Tryz.pinned (.plain (OpenSpec.upto mergeRowsSpec)) mergeRowsUptoCard

/-- THE SECOND FORM's CARD OF 'varvelaw14.MergePlays'. -/
def mergePlaysUptoCard : Claim7 := { stood := { row := mergePlaysUptoRow, standIns := [], harness := (true, "2af4a771cf05de8636a5b087fd2037d519c829ca41a5139ae5654df1d6ecbffa"), looks := true }, kinds := [], alts := [], laidByText := true, laidKinds := [.data, .data, .data], laidTests := true, laidLooks := .later }
def MergePlaysUptoCardSaid : Prop := Claim7.holds Tryz.pinned (.plain (OpenSpec.upto mergePlaysSpec)) mergePlaysUptoCard

/-- THE SECOND FORM's CARD OF 'varvelaw14.MergeSame'. -/
def mergeSameUptoCard : Claim7 := { stood := { row := mergeSameUptoRow, standIns := [], harness := (true, "2af4a771cf05de8636a5b087fd2037d519c829ca41a5139ae5654df1d6ecbffa"), looks := true }, kinds := [], alts := [], laidByText := true, laidKinds := [.data, .data, .data], laidTests := true, laidLooks := .later }
def MergeSameUptoCardSaid : Prop := Claim7.holds Tryz.pinned (.plain (OpenSpec.upto mergeSameSpec)) mergeSameUptoCard

/-- THE SECOND FORM's CARD OF 'varvelaw14.MergeOne'. -/
def mergeOneUptoCard : Claim7 := { stood := { row := mergeOneUptoRow, standIns := [], harness := (true, "2af4a771cf05de8636a5b087fd2037d519c829ca41a5139ae5654df1d6ecbffa"), looks := true }, kinds := [], alts := [], laidByText := true, laidKinds := [.data, .data, .data, .sentinel, .sentinel], laidTests := true, laidLooks := .later }
def MergeOneUptoCardSaid : Prop := Claim7.holds Tryz.pinned (.plain (OpenSpec.upto mergeOneSpec)) mergeOneUptoCard

/-- THE SECOND FORM's CARD OF 'varvelaw14.MergeWhole'. -/
def mergeWholeUptoCard : Claim7 := { stood := { row := mergeWholeUptoRow, standIns := [], harness := (true, "2af4a771cf05de8636a5b087fd2037d519c829ca41a5139ae5654df1d6ecbffa"), looks := true }, kinds := [], alts := [], laidByText := true, laidKinds := [.data, .data, .data], laidTests := true, laidLooks := .later }
def MergeWholeUptoCardSaid : Prop := Claim7.holds Tryz.pinned (.plain (OpenSpec.upto mergeWholeSpec)) mergeWholeUptoCard
end Rows
end Go.Proofs.YtffgmpgmflbekaaGreatDoor
