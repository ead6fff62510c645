/-
  DERIVED. GIVEN WITH THE SEED: THE CARDS: each row of YtbmgclnhooaniabDoorRows.lean that lists a variable, with what it lists TIED to the program's text (the seventh form; the later family's looks); each row that meets fmt, with fmt's text TOLD by the authors' own Lean function (tested against real Go, not proved from fmt's source: count such statements apart). THE CARD IS WHAT COUNTS. Prove the row's statement (the work); the ties are given (YtbmgclnhooaniabDoorTie.lean); close each card by the builder's one call (the guide's Derived/Test/ToyasCard.lean, 'card_holds'). Laid BY PROGRAM, IN A SANDBOX (cutbox-door.mjs). By AI agents, Wed Nov 11 2026. No macro, syntax, notation, axiom, sorry.
-/
import Derived.Test.YtbmgclnhooaniabDoorRows
import GoSem.ClaimSeven
namespace Go.Proofs.YtbmgclnhooaniabDoor
namespace Rows

/-- THE TIED CARD OF 'varvelaw13.LockNone'. -/
def lockNoneCard : Claim7 := { stood := { row := lockNoneRow, standIns := [], harness := (true, "db306144e72198e6a3d53a7c97a2d04248cc5b6859da4c1deaf9a60dd69c885e"), looks := false }, kinds := [], alts := [], laidByText := true, laidKinds := [.data], laidTests := true, laidLooks := .later }
def LockNoneCardSaid : Prop := Claim7.holds Tryd.pinned (.plain (OpenSpec.ofChange lockNoneSpec)) lockNoneCard

/-- THE TIED CARD OF 'varvelaw13.LockAgrees'. -/
def lockAgreesCard : Claim7 := { stood := { row := lockAgreesRow, standIns := [], harness := (true, "db306144e72198e6a3d53a7c97a2d04248cc5b6859da4c1deaf9a60dd69c885e"), looks := false }, kinds := [], alts := [], laidByText := true, laidKinds := [.data], laidTests := true, laidLooks := .later }
def LockAgreesCardSaid : Prop := Claim7.holds Tryd.pinned (.plain (OpenSpec.ofChange lockAgreesSpec)) lockAgreesCard

/-- THE SECOND FORM's CARD OF 'varvelaw13.LockNone'. -/
def lockNoneUptoCard : Claim7 := { stood := { row := lockNoneUptoRow, standIns := [], harness := (true, "db306144e72198e6a3d53a7c97a2d04248cc5b6859da4c1deaf9a60dd69c885e"), looks := false }, kinds := [], alts := [], laidByText := true, laidKinds := [.data], laidTests := true, laidLooks := .later }
def LockNoneUptoCardSaid : Prop := Claim7.holds Tryd.pinned (.plain (OpenSpec.upto lockNoneSpec)) lockNoneUptoCard

/-- THE SECOND FORM's CARD OF 'varvelaw13.LockAgrees'. -/
def lockAgreesUptoCard : Claim7 := { stood := { row := lockAgreesUptoRow, standIns := [], harness := (true, "db306144e72198e6a3d53a7c97a2d04248cc5b6859da4c1deaf9a60dd69c885e"), looks := false }, kinds := [], alts := [], laidByText := true, laidKinds := [.data], laidTests := true, laidLooks := .later }
def LockAgreesUptoCardSaid : Prop := Claim7.holds Tryd.pinned (.plain (OpenSpec.upto lockAgreesSpec)) lockAgreesUptoCard
end Rows
end Go.Proofs.YtbmgclnhooaniabDoor
