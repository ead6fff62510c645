/-
  Mr1: The document's own: has, named.
-/
import Derived.Test.YtheidhkmmihjlaaYMr0
set_option linter.unusedVariables false
set_option linter.unusedSimpArgs false
namespace Go.Proofs.Ytheidhkmmihjlaa.ML
open Go.RowKit
attribute [local go_sem] Oper.semAt_some

def hasK (l : List Ro) (s : ByteArray) : Bool := l.any fun r => decide (r.k = s)
def namedB (l : List Gn) (r : Ro) : Bool := l.any fun g => decide (g.k = r.k) && decide (g.t = r.t)

section
set_option maxHeartbeats 4000000
set_option maxRecDepth 100000
variable {w : World} {ao : Option Addr} {len cap : Nat} {l : List Ro} {gl : List Gn}
end
end Go.Proofs.Ytheidhkmmihjlaa.ML
