/-
  What PutText and TakeText do.
-/
import Derived.Test.YtheidhkmmihjlaaNum
import Derived.Test.YtheidhkmmihjlaaTakeA
import Derived.Test.YtheidhkmmihjlaaKit2
set_option linter.unusedVariables false
set_option linter.unusedSimpArgs false
namespace Go.Proofs.Ytheidhkmmihjlaa
open Go.RowKit

/-- What TakeText tells. -/
def tt (xs : List Int) (at_ most : Int) : Option (List Int × Int) :=
  match tk xs at_ with
  | none => none
  | some p => if most < 0 ∨ most < p.1 ∨ (xs.length : Int) - p.2 < p.1 then none else some ((xs.take (p.2 + p.1).toNat).drop p.2.toNat, p.2 + p.1)
def ttVal : Option (List Int × Int) → Value
  | none => .tuple #[.string ⟨#[]⟩, .int .i64 0, .bool false]
  | some p => .tuple #[.string (strOfNums p.1), .int .i64 p.2, .bool true]

end Go.Proofs.Ytheidhkmmihjlaa
