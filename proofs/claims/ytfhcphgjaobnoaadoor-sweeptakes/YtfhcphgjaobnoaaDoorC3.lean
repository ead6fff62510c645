/-
  What is done with a cell: load, store, cas, add, raw.
-/
import Derived.Test.YtfhcphgjaobnoaaDoorC2
set_option linter.unusedVariables false
set_option linter.unusedSimpArgs false
namespace Go.Proofs.YtfhcphgjaobnoaaDoor
open Go.RowKit

/-- An operation as a value. -/
abbrev opV (kind cell a b : Int) : Value := .agg #[.int .i64 kind, .int .i64 cell, .int .u64 a, .int .u64 b]
abbrev opC (kind cell a b : Int) : Obj := .cells #[.int .i64 kind, .int .i64 cell, .int .u64 a, .int .u64 b] 126

section
variable {W : World} {d g n c : Nat} {kind a b x : Int}

set_option maxRecDepth 100000 in
set_option maxHeartbeats 1000000 in
theorem load_raw (hd : d < W.heap.size) (hg : g < W.heap.size) (h0 : W.cell? ⟨d, 1024, none⟩ = some (.slice (some ⟨g, 0, none⟩) n n)) (hx : W.cell? ⟨g, c, none⟩ = some (.int .u64 x)) (hc : c < n) :
    Calls Tryd.prog 80 (#[.pointer (some ⟨d, 0, none⟩)] ++ #[opV kind c a b]) W fun e w' => e = .returned (.int .u64 x) ∧ ∃ q, w' = (W.alloc (opC kind c a b)).drewN q := by
  have hc2 : (c : Int) < (n : Int) := by omega
  go_enter Tryd.func80, Tryd.ntmps80
  go_wp2
  go_quiet (fail)
  go_wp2
  go_ret
  exact ⟨rfl, _, rfl⟩

set_option maxRecDepth 100000 in
set_option maxHeartbeats 1000000 in
theorem store_raw (hd : d < W.heap.size) (hg : g < W.heap.size) (h0 : W.cell? ⟨d, 1024, none⟩ = some (.slice (some ⟨g, 0, none⟩) n n)) (hx : W.cell? ⟨g, c, none⟩ = some (.int .u64 x)) (hf : W.frozen? ⟨g, c, none⟩ = false) (hc : c < n) :
    Calls Tryd.prog 88 (#[.pointer (some ⟨d, 0, none⟩)] ++ #[opV kind c a b]) W fun e w' => e = .returned (.int .u64 0) ∧ w' = ((W.setCell ⟨g, c, none⟩ (.int .u64 a)).alloc (opC kind c a b)).drew := by
  have hc2 : (c : Int) < (n : Int) := by omega
  go_enter Tryd.func88, Tryd.ntmps88
  go_wp2
  go_region
  all_goals go_wp2
  all_goals go_ret
  all_goals exact ⟨rfl, rfl⟩

set_option maxRecDepth 100000 in
set_option maxHeartbeats 1000000 in
theorem cas_no (hd : d < W.heap.size) (hg : g < W.heap.size) (h0 : W.cell? ⟨d, 1024, none⟩ = some (.slice (some ⟨g, 0, none⟩) n n)) (hx : W.cell? ⟨g, c, none⟩ = some (.int .u64 x)) (hc : c < n) (hxa : x ≠ a) :
    Calls Tryd.prog 84 (#[.pointer (some ⟨d, 0, none⟩)] ++ #[opV kind c a b]) W fun e w' => e = .returned (.int .u64 0) ∧ ∃ q, w' = (W.alloc (opC kind c a b)).drewN q := by
  have hc2 : (c : Int) < (n : Int) := by omega
  have ht : (x == a) = false := by simpa using hxa
  have ht2 : (x != a) = true := by simpa using hxa
  go_enter Tryd.func84, Tryd.ntmps84
  go_wp2
  go_quiet (fail)
  go_wp2
  go_ret
  exact ⟨rfl, _, rfl⟩

set_option maxRecDepth 100000 in
set_option maxHeartbeats 1000000 in
theorem cas_yes (hd : d < W.heap.size) (hg : g < W.heap.size) (h0 : W.cell? ⟨d, 1024, none⟩ = some (.slice (some ⟨g, 0, none⟩) n n)) (hx : W.cell? ⟨g, c, none⟩ = some (.int .u64 a)) (hf : W.frozen? ⟨g, c, none⟩ = false) (hc : c < n) :
    Calls Tryd.prog 84 (#[.pointer (some ⟨d, 0, none⟩)] ++ #[opV kind c a b]) W fun e w' => e = .returned (.int .u64 1) ∧ ∃ q, w' = ((W.alloc (opC kind c a b)).drewN q).setCell ⟨g, c, none⟩ (.int .u64 b) := by
  have hc2 : (c : Int) < (n : Int) := by omega
  go_enter Tryd.func84, Tryd.ntmps84
  go_wp2
  go_quiet (fail)
  go_wp2
  go_region
  all_goals go_wp2
  all_goals go_ret
  all_goals exact ⟨rfl, _, rfl⟩

end
end Go.Proofs.YtfhcphgjaobnoaaDoor
