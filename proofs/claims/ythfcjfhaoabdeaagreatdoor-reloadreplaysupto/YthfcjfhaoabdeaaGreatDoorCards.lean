/-
  DERIVED. GIVEN WITH THE SEED: THE CARDS: each row of YthfcjfhaoabdeaaGreatDoorRows.lean that lists a variable, with what it lists TIED to the program's text (the seventh form; the later family's looks); each row that meets fmt, with fmt's text TOLD by the authors' own Lean function (tested against real Go, not proved from fmt's source: count such statements apart). THE CARD IS WHAT COUNTS. Prove the row's statement (the work); the ties are given (YthfcjfhaoabdeaaGreatDoorTie.lean); close each card by the builder's one call (the guide's Derived/Test/ToyasCard.lean, 'card_holds'). Laid BY PROGRAM, IN A SANDBOX (cutbox-door.mjs). By AI agents, Wed Nov 11 2026. No macro, syntax, notation, axiom, sorry.
-/
import Derived.Test.YthfcjfhaoabdeaaGreatDoorRows
import GoSem.ClaimSeven
namespace Go.Proofs.YthfcjfhaoabdeaaGreatDoor
namespace Rows

/-- THE TIED CARD OF 'varvelaw16.ReloadReplays'. -/
def reloadReplaysCard : Claim7 := { stood := { row := reloadReplaysRow, standIns := [], harness := (true, "81913041dcc745c862a929e90a6f9fa7a2989a155eab1df11db477494546fc45"), looks := true }, kinds := [], alts := [], laidByText := true, laidKinds := [.data, .data, .data, .handle, .sentinel, .sentinel], laidTests := true, laidLooks := .later }
def ReloadReplaysCardSaid : Prop := Claim7.holds Tryz.pinned (.plain (OpenSpec.ofChange reloadReplaysSpec)) reloadReplaysCard

/-- THE SECOND FORM's CARD OF 'varvelaw16.ReloadReplays'. -/
def reloadReplaysUptoCard : Claim7 := { stood := { row := reloadReplaysUptoRow, standIns := [], harness := (true, "81913041dcc745c862a929e90a6f9fa7a2989a155eab1df11db477494546fc45"), looks := true }, kinds := [], alts := [], laidByText := true, laidKinds := [.data, .data, .data, .handle, .sentinel, .sentinel], laidTests := true, laidLooks := .later }
def ReloadReplaysUptoCardSaid : Prop := Claim7.holds Tryz.pinned (.plain (OpenSpec.upto reloadReplaysSpec)) reloadReplaysUptoCard
end Rows
end Go.Proofs.YthfcjfhaoabdeaaGreatDoor
