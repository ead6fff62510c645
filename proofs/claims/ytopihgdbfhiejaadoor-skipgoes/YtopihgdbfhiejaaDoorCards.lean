/-
  DERIVED. GIVEN WITH THE SEED: THE CARDS: each row of YtopihgdbfhiejaaDoorRows.lean that lists a variable, with what it lists TIED to the program's text (the seventh form; the later family's looks); each row that meets fmt, with fmt's text TOLD by the authors' own Lean function (tested against real Go, not proved from fmt's source: count such statements apart). THE CARD IS WHAT COUNTS. Prove the row's statement (the work); the ties are given (YtopihgdbfhiejaaDoorTie.lean); close each card by the builder's one call (the guide's Derived/Test/ToyasCard.lean, 'card_holds'). Laid BY PROGRAM, IN A SANDBOX (cutbox-door.mjs). By AI agents, Wed Nov 11 2026. No macro, syntax, notation, axiom, sorry.
-/
import Derived.Test.YtopihgdbfhiejaaDoorRows
import GoSem.ClaimSeven
namespace Go.Proofs.YtopihgdbfhiejaaDoor
namespace Rows

/-- THE TIED CARD OF 'varvelaw10.SkipAlone'. -/
def skipAloneCard : Claim7 := { stood := { row := skipAloneRow, standIns := [], harness := (true, "6eeb1edfbb484cb5c767abdb3b24fe64f98f5ad6ecbac2d00061bd881501943f"), looks := false }, kinds := [], alts := [], laidByText := true, laidKinds := [.data], laidTests := true, laidLooks := .later }
def SkipAloneCardSaid : Prop := Claim7.holds Tryd.pinned (.plain (OpenSpec.ofChange skipAloneSpec)) skipAloneCard

/-- THE TIED CARD OF 'varvelaw10.SkipTogether'. -/
def skipTogetherCard : Claim7 := { stood := { row := skipTogetherRow, standIns := [], harness := (true, "6eeb1edfbb484cb5c767abdb3b24fe64f98f5ad6ecbac2d00061bd881501943f"), looks := false }, kinds := [], alts := [], laidByText := true, laidKinds := [.data], laidTests := true, laidLooks := .later }
def SkipTogetherCardSaid : Prop := Claim7.holds Tryd.pinned (.plain (OpenSpec.ofChange skipTogetherSpec)) skipTogetherCard

/-- THE TIED CARD OF 'varvelaw10.SkipHolds'. -/
def skipHoldsCard : Claim7 := { stood := { row := skipHoldsRow, standIns := [], harness := (true, "6eeb1edfbb484cb5c767abdb3b24fe64f98f5ad6ecbac2d00061bd881501943f"), looks := false }, kinds := [], alts := [], laidByText := true, laidKinds := [.data], laidTests := true, laidLooks := .later }
def SkipHoldsCardSaid : Prop := Claim7.holds Tryd.pinned (.plain (OpenSpec.ofChange skipHoldsSpec)) skipHoldsCard

/-- THE TIED CARD OF 'varvelaw10.SkipGoes'. -/
def skipGoesCard : Claim7 := { stood := { row := skipGoesRow, standIns := [], harness := (true, "6eeb1edfbb484cb5c767abdb3b24fe64f98f5ad6ecbac2d00061bd881501943f"), looks := false }, kinds := [], alts := [], laidByText := true, laidKinds := [.data], laidTests := true, laidLooks := .later }
def SkipGoesCardSaid : Prop := Claim7.holds Tryd.pinned (.plain (OpenSpec.ofChange skipGoesSpec)) skipGoesCard

/-- THE TIED CARD OF 'varvelaw10.SkipNone'. -/
def skipNoneCard : Claim7 := { stood := { row := skipNoneRow, standIns := [], harness := (true, "6eeb1edfbb484cb5c767abdb3b24fe64f98f5ad6ecbac2d00061bd881501943f"), looks := false }, kinds := [], alts := [], laidByText := true, laidKinds := [.data], laidTests := true, laidLooks := .later }
def SkipNoneCardSaid : Prop := Claim7.holds Tryd.pinned (.plain (OpenSpec.ofChange skipNoneSpec)) skipNoneCard

/-- THE SECOND FORM's CARD OF 'varvelaw10.SkipAlone'. -/
def skipAloneUptoCard : Claim7 := { stood := { row := skipAloneUptoRow, standIns := [], harness := (true, "6eeb1edfbb484cb5c767abdb3b24fe64f98f5ad6ecbac2d00061bd881501943f"), looks := false }, kinds := [], alts := [], laidByText := true, laidKinds := [.data], laidTests := true, laidLooks := .later }
def SkipAloneUptoCardSaid : Prop := Claim7.holds Tryd.pinned (.plain (OpenSpec.upto skipAloneSpec)) skipAloneUptoCard

/-- THE SECOND FORM's CARD OF 'varvelaw10.SkipTogether'. -/
def skipTogetherUptoCard : Claim7 := { stood := { row := skipTogetherUptoRow, standIns := [], harness := (true, "6eeb1edfbb484cb5c767abdb3b24fe64f98f5ad6ecbac2d00061bd881501943f"), looks := false }, kinds := [], alts := [], laidByText := true, laidKinds := [.data], laidTests := true, laidLooks := .later }
def SkipTogetherUptoCardSaid : Prop := Claim7.holds Tryd.pinned (.plain (OpenSpec.upto skipTogetherSpec)) skipTogetherUptoCard

/-- THE SECOND FORM's CARD OF 'varvelaw10.SkipHolds'. -/
def skipHoldsUptoCard : Claim7 := { stood := { row := skipHoldsUptoRow, standIns := [], harness := (true, "6eeb1edfbb484cb5c767abdb3b24fe64f98f5ad6ecbac2d00061bd881501943f"), looks := false }, kinds := [], alts := [], laidByText := true, laidKinds := [.data], laidTests := true, laidLooks := .later }
def SkipHoldsUptoCardSaid : Prop := Claim7.holds Tryd.pinned (.plain (OpenSpec.upto skipHoldsSpec)) skipHoldsUptoCard

/-- THE SECOND FORM's CARD OF 'varvelaw10.SkipGoes'. -/
def skipGoesUptoCard : Claim7 := { stood := { row := skipGoesUptoRow, standIns := [], harness := (true, "6eeb1edfbb484cb5c767abdb3b24fe64f98f5ad6ecbac2d00061bd881501943f"), looks := false }, kinds := [], alts := [], laidByText := true, laidKinds := [.data], laidTests := true, laidLooks := .later }
def SkipGoesUptoCardSaid : Prop := Claim7.holds Tryd.pinned (.plain (OpenSpec.upto skipGoesSpec)) skipGoesUptoCard

/-- THE SECOND FORM's CARD OF 'varvelaw10.SkipNone'. -/
def skipNoneUptoCard : Claim7 := { stood := { row := skipNoneUptoRow, standIns := [], harness := (true, "6eeb1edfbb484cb5c767abdb3b24fe64f98f5ad6ecbac2d00061bd881501943f"), looks := false }, kinds := [], alts := [], laidByText := true, laidKinds := [.data], laidTests := true, laidLooks := .later }
def SkipNoneUptoCardSaid : Prop := Claim7.holds Tryd.pinned (.plain (OpenSpec.upto skipNoneSpec)) skipNoneUptoCard
end Rows
end Go.Proofs.YtopihgdbfhiejaaDoor
