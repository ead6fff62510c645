/-
  What the calls of package num do, each by itself: the contracts of bits.Len64, size, withRoom, appendNumber, Put, and of the law's own 'shown'.
-/
import Derived.Test.YtheidhkmmihjlaaRows
import Derived.Test.YtheidhkmmihjlaaDo9
import Derived.Handy
set_option linter.unusedVariables false
set_option linter.unusedSimpArgs false
namespace Go.Proofs.Ytheidhkmmihjlaa
open Go.RowKit

theorem ret_boolB {a b : Bool} (h : a = b) : Ending.returned (.bool a) = .returned (.bool b) := by rw [h]
end Go.Proofs.Ytheidhkmmihjlaa
