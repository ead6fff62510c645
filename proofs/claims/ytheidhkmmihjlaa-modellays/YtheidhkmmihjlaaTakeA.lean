/-
  What Take answers.
-/
import Derived.Test.YtheidhkmmihjlaaNum
import Derived.Test.YtheidhkmmihjlaaDec
import Derived.ProofKit
import Derived.OpenShut
import Derived.Deep.QuietTactic
import Derived.BigQuiet
set_option linter.unusedVariables false
set_option linter.unusedSimpArgs false
namespace Go.Proofs.Ytheidhkmmihjlaa
open Go.RowKit


theorem ret_res {rest : List Int} {a : Int} {n n' p' : Int} {k : Nat} (h : dec 0 0 rest = some (n, k)) (h1 : n' = n) (h2 : p' = a + k) :
    Ending.returned (.tuple #[.int .u64 n', .int .i64 p', .bool true]) = .returned (tkVal ((dec 0 0 rest).map fun p => (p.1, a + p.2))) := by rw [h, h1, h2]; rfl
theorem p9 : (128 : Int) ^ 9 = 9223372036854775808 := by decide
theorem pos9 (a : Nat) (h : a + 10 ≤ 9223372036854775807) : wrap64 (wrap64 ((a : Int) + 9) + 1) = (a : Int) + ((9 + 1 : Nat) : Int) := by
  unfold wrap64
  omega
theorem posk (a k : Nat) (h : a + k + 1 ≤ 9223372036854775807) : wrap64 (wrap64 ((a : Int) + (k : Int)) + 1) = (a : Int) + ((k + 1 : Nat) : Int) := by
  unfold wrap64
  omega
theorem hide {p : Prop} (h : p) : Hid p := h

end Go.Proofs.Ytheidhkmmihjlaa
