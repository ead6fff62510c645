/-
  LkL: The listed table of math/bits, from the row's condition to what the walks ask; the witness's own start; integers that come in.
-/
import Derived.Test.YtafbchjmjfpilaaDoorLa1
import Derived.Test.YtafbchjmjfpilaaDoorSeq
import Derived.Test.YtafbchjmjfpilaaDoorTie
import Derived.Test.YtafbchjmjfpilaaDoorCards
import Derived.ProofKit
import Derived.LaidMore
import Derived.Lib.LaidTab
import Derived.Stop.Joined
import Derived.OpenShut
set_option linter.unusedVariables false
namespace Go.Proofs.YtafbchjmjfpilaaDoor
open Go.RowKit Go.ChangeShapes Go.WideShapes Go.ChangeAt

theorem gTab : Tryd.prog.globalNamed "math/bits.deBruijn32tab" = some 0 := by kernel_rfl
theorem gTy : (Tryd.prog.globals[0]?).map (·.type) = some 74 := by kernel_rfl
def theLaid : List (String × DataW Unit) := [("math/bits.deBruijn32tab", Rows.laid_math_bits_deBruijn32tab)]
def tabInts : List Int := Lib.deBruijn32tab.map fun n : Nat => (n : Int)

theorem laid_is : (Rows.laid_math_bits_deBruijn32tab : DataW Unit) = Lib.tabData .u8 tabInts := by
  simp [Rows.laid_math_bits_deBruijn32tab, Lib.tabData, tabInts, Lib.deBruijn32tab]

theorem tab_of_laid {W : World} (h : laidMetH Tryd.prog theLaid W) : Tab W := by
  rw [MakeChecks.laidMetH_plain _ _ _ (by kernel_rfl)] at h
  unfold theLaid at h
  rw [laid_is] at h
  have h1 := Lib.tabIs_of_head (k := .u8) (t := 74) (e := 5) (n := 32) gTab gTy Tryd.underlying74 Tryd.underlying5 (by kernel_rfl) (by kernel_rfl) h
  unfold Lib.TabIs at h1
  have hc : ∀ j, j < 32 → W.cell? ⟨0, j, none⟩ = some (.int .u8 (Lib.deBruijn32tab.getD j 0 : Nat)) := by
    intro j hj
    have h2 := World.var?_cell gTab h1 j
    rw [h2]
    have hl : j < Lib.deBruijn32tab.length := hj
    simp [tabInts, List.getD, List.getElem?_eq_getElem hl]
  refine ⟨?_, hc⟩
  have h0 := hc 0 (by decide)
  rcases Nat.eq_zero_or_pos W.heap.size with e | e
  · unfold World.cell? at h0
    simp [Array.getElem?_eq_none (by omega : W.heap.size ≤ 0)] at h0
  · exact e

theorem door_met (os : Os) (args : Array Value) : laidMetH Tryd.prog theLaid ((World.doorLaid Tryd.prog 400 os).forCall (fun _ _ => 0) ⟨#[], args, []⟩).memory :=
  laidMetH_of_parts3 (fuel := 8) (laidMet_of_run' 8 (by kernel_rfl) (by kernel_rfl)) (by kernel_rfl) (by kernel_rfl)

abbrev I64 (x : Int) : Prop := -9223372036854775808 ≤ x ∧ x ≤ 9223372036854775807
theorem open_i64s {H : Type} {enc : TypeId × Value → H} {W : World} {a : Option Addr} {len cap : Nat} {d : DataW H} {p : List MemPlace} (h : DataW.Trod enc Tryd.prog W 0 (fun _ => true) true 33 (.slice a len cap) d p) : ∃ xs : List Int, (∀ x ∈ xs, I64 x) ∧ Ints .i64 W a len cap xs ∧ Long d len := by
  obtain ⟨xs, h1, h2⟩ := open_ints_of Tryd.underlying33 Tryd.underlying3 (by kernel_rfl) h
  exact ⟨xs, fun x hx => bounds_i64 (h1 x hx), h2⟩
end Go.Proofs.YtafbchjmjfpilaaDoor
