/-
  SkipAlone, whole.
-/
import Derived.Test.YtcncimnhbggdaaaDoorSk3
set_option linter.unusedVariables false
set_option linter.unusedSimpArgs false
namespace Go.Proofs.YtcncimnhbggdaaaDoor
open Go.RowKit Go.Maps Go.Sort

theorem skipAlone_walk {w : World} (size : Int) (ao : Option Addr) (len cap : Nat) (xs : List AskR) (hT : Tab w) (hs : Seq 5 AskR.cells w ao len cap xs) (hok : ∀ x ∈ xs, x.ok) :
    Calls Tryd.prog 3 #[.int .i64 size, .slice ao len cap] w fun e w' => e = .returned (.bool true) ∧ Below w.heap.size w w' := by
  by_cases h : size < 1 ∨ 65536 < size
  · exact alone_none size _ hT h
  · obtain ⟨n, rfl⟩ : ∃ n : Nat, size = (n : Int) := ⟨size.toNat, by omega⟩
    by_cases h8 : n < 8
    · exact alone_small n _ hT (by omega) h8
    · exact alone_ok n hT (by omega) (by omega) hs hok
end Go.Proofs.YtcncimnhbggdaaaDoor
