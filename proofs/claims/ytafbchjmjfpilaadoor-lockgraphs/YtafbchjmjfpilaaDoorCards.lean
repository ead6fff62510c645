/-
  DERIVED. GIVEN WITH THE SEED: THE CARDS: each row of YtafbchjmjfpilaaDoorRows.lean that lists a variable, with what it lists TIED to the program's text (the seventh form; the later family's looks); each row that meets fmt, with fmt's text TOLD by the authors' own Lean function (tested against real Go, not proved from fmt's source: count such statements apart). THE CARD IS WHAT COUNTS. Prove the row's statement (the work); the ties are given (YtafbchjmjfpilaaDoorTie.lean); close each card by the builder's one call (the guide's Derived/Test/ToyasCard.lean, 'card_holds'). Laid BY PROGRAM, IN A SANDBOX (cutbox-door.mjs). By AI agents, Wed Nov 11 2026. No macro, syntax, notation, axiom, sorry.
-/
import Derived.Test.YtafbchjmjfpilaaDoorRows
import GoSem.ClaimSeven
namespace Go.Proofs.YtafbchjmjfpilaaDoor
namespace Rows

/-- THE TIED CARD OF 'varvelaw13.LockBreaks'. -/
def lockBreaksCard : Claim7 := { stood := { row := lockBreaksRow, standIns := [], harness := (true, "f867c4771b2a68d1a4128b6334c514afb28db2e2d742675f2961414c339d2742"), looks := false }, kinds := [], alts := [], laidByText := true, laidKinds := [.data], laidTests := true, laidLooks := .later }
def LockBreaksCardSaid : Prop := Claim7.holds Tryd.pinned (.plain (OpenSpec.ofChange lockBreaksSpec)) lockBreaksCard

/-- THE TIED CARD OF 'varvelaw13.LockGraphs'. -/
def lockGraphsCard : Claim7 := { stood := { row := lockGraphsRow, standIns := [], harness := (true, "f867c4771b2a68d1a4128b6334c514afb28db2e2d742675f2961414c339d2742"), looks := false }, kinds := [], alts := [], laidByText := true, laidKinds := [.data], laidTests := true, laidLooks := .later }
def LockGraphsCardSaid : Prop := Claim7.holds Tryd.pinned (.plain (OpenSpec.ofChange lockGraphsSpec)) lockGraphsCard

/-- THE SECOND FORM's CARD OF 'varvelaw13.LockBreaks'. -/
def lockBreaksUptoCard : Claim7 := { stood := { row := lockBreaksUptoRow, standIns := [], harness := (true, "f867c4771b2a68d1a4128b6334c514afb28db2e2d742675f2961414c339d2742"), looks := false }, kinds := [], alts := [], laidByText := true, laidKinds := [.data], laidTests := true, laidLooks := .later }
def LockBreaksUptoCardSaid : Prop := Claim7.holds Tryd.pinned (.plain (OpenSpec.upto lockBreaksSpec)) lockBreaksUptoCard

/-- THE SECOND FORM's CARD OF 'varvelaw13.LockGraphs'. -/
def lockGraphsUptoCard : Claim7 := { stood := { row := lockGraphsUptoRow, standIns := [], harness := (true, "f867c4771b2a68d1a4128b6334c514afb28db2e2d742675f2961414c339d2742"), looks := false }, kinds := [], alts := [], laidByText := true, laidKinds := [.data], laidTests := true, laidLooks := .later }
def LockGraphsUptoCardSaid : Prop := Claim7.holds Tryd.pinned (.plain (OpenSpec.upto lockGraphsSpec)) lockGraphsUptoCard
end Rows
end Go.Proofs.YtafbchjmjfpilaaDoor
