/-
  The listed table, from the row's condition to what the walks ask; the witness's own start.
-/
import Derived.Test.YtfhcphgjaobnoaaDoorC9
import Derived.Test.YtfhcphgjaobnoaaDoorTie
import Derived.Test.YtfhcphgjaobnoaaDoorCards
import Derived.ProofKit
import Derived.LaidMore
import Derived.Lib.LaidTab
import Derived.Stop.Joined
set_option linter.unusedVariables false
namespace Go.Proofs.YtfhcphgjaobnoaaDoor
open Go.RowKit

theorem gTab : Tryd.prog.globalNamed "math/bits.deBruijn64tab" = some 0 := by kernel_rfl
theorem gTy : (Tryd.prog.globals[0]?).map (·.type) = some 151 := by kernel_rfl
def theLaid : List (String × DataW Unit) := [("math/bits.deBruijn64tab", Rows.laid_math_bits_deBruijn64tab)]
def tabInts : List Int := Lib.deBruijn64tab.map fun n : Nat => (n : Int)

theorem laid_is : (Rows.laid_math_bits_deBruijn64tab : DataW Unit) = Lib.tabData .u8 tabInts := by
  simp [Rows.laid_math_bits_deBruijn64tab, Lib.tabData, tabInts, Lib.deBruijn64tab]

theorem tab_of_laid {W : World} (h : laidMetH Tryd.prog theLaid W) : Tab W := by
  rw [MakeChecks.laidMetH_plain _ _ _ (by kernel_rfl)] at h
  unfold theLaid at h
  rw [laid_is] at h
  have h1 := Lib.tabIs_of_head (k := .u8) (t := 151) (e := 5) (n := 64) gTab gTy Tryd.underlying151 Tryd.underlying5 (by kernel_rfl) (by kernel_rfl) h
  unfold Lib.TabIs at h1
  have hc : ∀ j, j < 64 → W.cell? ⟨0, j, none⟩ = some (.int .u8 (Lib.deBruijn64tab.getD j 0 : Nat)) := by
    intro j hj
    have h2 := World.var?_cell gTab h1 j
    rw [h2]
    have hl : j < Lib.deBruijn64tab.length := hj
    simp [tabInts, List.getD, List.getElem?_eq_getElem hl]
  refine ⟨?_, hc⟩
  have h0 := hc 0 (by decide)
  rcases Nat.eq_zero_or_pos W.heap.size with e | e
  · unfold World.cell? at h0
    simp [Array.getElem?_eq_none (by omega : W.heap.size ≤ 0)] at h0
  · exact e

theorem door_met (os : Os) (args : Array Value) : laidMetH Tryd.prog theLaid ((World.doorLaid Tryd.prog 400 os).forCall (fun _ _ => 0) ⟨#[], args, []⟩).memory :=
  laidMetH_of_parts3 (fuel := 8) (laidMet_of_run' 8 (by kernel_rfl) (by kernel_rfl)) (by kernel_rfl) (by kernel_rfl)
end Go.Proofs.YtfhcphgjaobnoaaDoor
