/-
  The listed variables, from the row's condition to what the walks ask; the witness's own start.
-/
import Derived.Test.YtgifcgniphncdaaGreatDoorPk21
import Derived.Test.YtgifcgniphncdaaGreatDoorTie
import Derived.Test.YtgifcgniphncdaaGreatDoorCards
import Derived.ProofKit
import Derived.LaidMore
import Derived.Lib.LaidTab
import Derived.Lib.AtoiErrMem
import Derived.Stop.Joined
import Derived.Stop.LaidErr
set_option linter.unusedVariables false
namespace Go.Proofs.YtgifcgniphncdaaGreatDoor
open Go.RowKit

def theLaid : List (String × DataW Unit) := [("math/bits.deBruijn32tab", Rows.laid_math_bits_deBruijn32tab), ("math/bits.deBruijn64tab", Rows.laid_math_bits_deBruijn64tab), ("internal/strconv.uint64pow10", Rows.laid_internal_strconv_uint64pow10), ("strconv.ErrRange", Rows.laid_strconv_ErrRange), ("strconv.ErrSyntax", Rows.laid_strconv_ErrSyntax)]
theorem gES : Tryz.prog.globalNamed "strconv.ErrSyntax" = some (atoiL_ren.g 15) := by kernel_rfl
theorem gESType : (Tryz.prog.globals[atoiL_ren.g 15]?).map (·.type) = some 144 := by kernel_rfl
theorem cellsES : Tryz.prog.cellsOf 283 = 1 := by kernel_rfl
theorem cells9x : Tryz.prog.cellsOf 9 = 1 := by kernel_rfl
theorem starx : "*" ++ "errors.errorString" = "*errors.errorString" := by decide
theorem rowES (u : TypeId) (h : Tryz.prog.typeName? 3 u = some "*errors.errorString") : u = 281 :=
  typeName_ptr_named (nm := "errors.errorString") (by rw [starx]; kernel_rfl) (by kernel_rfl) (by decide) u (by rw [starx]; exact h)
theorem pow_is : (Rows.laid_internal_strconv_uint64pow10 : DataW Unit) = Lib.tabData .u64 Lib.pow10Tab := by
  simp [Rows.laid_internal_strconv_uint64pow10, Lib.tabData, Lib.pow10Tab, List.range, List.range.loop]
theorem gPT : ∃ g, Tryz.prog.globalNamed "internal/strconv.uint64pow10" = some g ∧ (Tryz.prog.globals[g]?).map (·.type) = some 265 := ⟨(Tryz.prog.globalNamed "internal/strconv.uint64pow10").getD 0, by kernel_rfl, by kernel_rfl⟩
theorem gl_of_laid {W : World} (h : laidMetH Tryz.prog theLaid W) : Gl W.heap.size W := by
  rw [MakeChecks.laidMetH_plain _ _ _ (by kernel_rfl)] at h
  unfold theLaid at h
  have h3 := h.tail.tail
  rw [pow_is] at h3
  obtain ⟨g, hg, hgt⟩ := gPT
  have ht := Lib.tabIs_of_head (k := .u64) (t := 265) (e := 89) (n := 20) hg hgt Tryz.underlying265 Tryz.underlying89 (by kernel_rfl) (by kernel_rfl) h3
  obtain ⟨a0, s0, hv0, -, -, -⟩ := laid_sentinel h.tail.tail.tail.tail gES gESType Tryz.underlying144 rowES Tryz.underlying281 Tryz.underlying283 rfl rfl Tryz.underlying9 cellsES cells9x
  have hc : W.cell? ⟨atoiL_ren.g 15, 0, none⟩ = some (.iface 281 (.pointer (some a0))) := by
    have h0 := World.var?_cell gES hv0 0
    simpa using h0
  intro w' hb
  exact ⟨Lib.tabBelow_of_tabIs ht w' hb, _, _, (hb.cell (p := ⟨atoiL_ren.g 15, 0, none⟩) (Lib.lt_of_cell hc)).trans hc⟩
theorem door_met (os : Os) (args : Array Value) : laidMetH Tryz.prog theLaid ((World.doorLaid Tryz.prog 400 os).forCall (fun _ _ => 0) ⟨#[], args, []⟩).memory :=
  laidMetH_of_parts3 (fuel := 8) (laidMet_of_run' 8 (by kernel_rfl) (by kernel_rfl)) (by kernel_rfl) (by kernel_rfl)
end Go.Proofs.YtgifcgniphncdaaGreatDoor
