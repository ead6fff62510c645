/-
  Which commits are right, as the document says.
-/
import Derived.Test.YtffgmpgmflbekaaGreatDoorXE3
import Derived.WalkSmall
set_option linter.unusedVariables false
set_option linter.unusedSimpArgs false
namespace Go.Proofs.YtffgmpgmflbekaaGreatDoor.EL
open Go.RowKit

/-- The key ahead of a place. -/
def prevK (ws : List Wr) : Nat → ByteArray
  | 0 => ⟨#[]⟩
  | k + 1 => match ws[k]? with | some x => x.key | none => ⟨#[]⟩

section
variable {w : World} {ao : Option Addr} {len cap : Nat} {ws : List Wr}
set_option maxRecDepth 100000
set_option maxHeartbeats 4000000

end
end Go.Proofs.YtffgmpgmflbekaaGreatDoor.EL
