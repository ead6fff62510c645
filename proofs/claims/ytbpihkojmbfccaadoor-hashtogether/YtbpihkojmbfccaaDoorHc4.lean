/-
  HashAlone, whatever comes in.
-/
import Derived.Test.YtbpihkojmbfccaaDoorHc3
set_option linter.unusedVariables false
set_option linter.unusedSimpArgs false
namespace Go.Proofs.YtbpihkojmbfccaaDoor
open Go.RowKit Go.Maps Go.Sort

theorem hashAlone_walk {w : World} (size b : Int) (ao : Option Addr) (len cap : Nat) (xs : List AskR) (hT : Tab w) (hs : Seq 4 AskR.cells w ao len cap xs) (hok : ∀ x ∈ xs, x.ok) :
    Calls Tryd.prog 3 #[.int .i64 size, .int .i64 b, .slice ao len cap] w fun e w' => e = .returned (.bool true) ∧ Below w.heap.size w w' := by
  by_cases h1 : size < 1 ∨ 65536 < size
  · exact alone_none size b _ hT h1
  · obtain ⟨z, rfl⟩ : ∃ z : Nat, size = (z : Int) := ⟨size.toNat, by omega⟩
    by_cases h2 : b < 1 ∨ 256 < b ∨ (z : Int) < b
    · exact alone_arena z b _ hT (by omega) (by omega) h2
    · obtain ⟨n, rfl⟩ : ∃ n : Nat, b = (n : Int) := ⟨b.toNat, by omega⟩
      exact alone_ok z n hT (by omega) (by omega) (by omega) (by omega) (by omega) hs hok
end Go.Proofs.YtbpihkojmbfccaaDoor
