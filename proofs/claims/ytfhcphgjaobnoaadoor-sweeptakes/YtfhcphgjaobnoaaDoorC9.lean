/-
  The law's own 'shown'; CellsNone's walk.
-/
import Derived.Test.YtfhcphgjaobnoaaDoorC8
set_option linter.unusedVariables false
set_option linter.unusedSimpArgs false
namespace Go.Proofs.YtfhcphgjaobnoaaDoor
open Go.RowKit

theorem Tab.below {n : Nat} {w w' : World} (h : Tab w) (k : Below n w w') (hn : 0 < n) : Tab w' :=
  ⟨Nat.lt_of_lt_of_le h.1 k.size, fun j hj => (k.cell (p := ⟨0, j, none⟩) hn).trans (h.2 j hj)⟩
/-- What is done to an arena of one's own leaves all else. -/
theorem Fr.own {d g n : Nat} {w w' : World} (h : Fr (fun j => j = d ∨ j = g) w w') (hd : n ≤ d) (hg : n ≤ g) (hn : n ≤ w.heap.size) : Below n w w' := h.to (fun k hk e => by omega) hn
theorem Fr.none {n : Nat} {w w' : World} (h : Fr (fun _ => False) w w') (hn : n ≤ w.heap.size) : Below n w w' := h.to (fun k hk e => e) hn
theorem below_drewN (n : Nat) (w : World) (q : Nat) : Below n w (w.drewN q) := ⟨rfl, rfl, rfl, Nat.le_refl _, fun _ _ => rfl⟩

end Go.Proofs.YtfhcphgjaobnoaaDoor
