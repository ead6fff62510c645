/-
  The law's own 'shown' of the disk returns true.
-/
import Derived.Test.YtgifcgniphncdaaGreatDoorPk9
import Derived.Lib.SlBytesConst
set_option linter.unusedVariables false
set_option linter.unusedSimpArgs false
namespace Go.Proofs.YtgifcgniphncdaaGreatDoor
open Go.RowKit Go.Maps

set_option maxHeartbeats 400000 in
theorem new_any (w : World) : Calls Tryz.prog 9 #[] w fun e w' => e = .returned (.pointer (some ⟨w.heap.size, 0, none⟩)) ∧ w' = w.alloc (.cells #[.map none, .map none, .slice none 0 0, .int .i64 0, .bool false, .int .i64 0, .bool false] 76) := by
  go_enter Tryz.func9, Tryz.ntmps9
  go_wp2
  go_ret
  exact ⟨rfl, rfl⟩

end Go.Proofs.YtgifcgniphncdaaGreatDoor
