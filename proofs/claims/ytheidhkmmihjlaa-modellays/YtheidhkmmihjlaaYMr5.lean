/-
  Mr5: The program's: itself, nameOf, keyOf; the first ones of a list that have each of its keys.
-/
import Derived.Test.YtheidhkmmihjlaaYMr4
import Derived.Test.YtheidhkmmihjlaaYMr1
import Derived.Laws.Tables
import Derived.Laws.Rows
set_option linter.unusedVariables false
set_option linter.unusedSimpArgs false
namespace Go.Proofs.Ytheidhkmmihjlaa.ML
open Go.RowKit Go.Maps
attribute [local go_sem] Oper.semAt_some

theorem heap_alloc_at {w : World} {n : Nat} (h : n = w.heap.size) (o : Obj) : (w.alloc o).heap[n]? = some o := by rw [h]; exact heap_alloc_new w o
section
set_option maxHeartbeats 4000000
set_option maxRecDepth 100000
variable {w : World} {go : Option Addr} {lg cg : Nat} {gone : List Gn}
/-- A text, and a time, as there can be. -/
def Gn.ok (g : Gn) : Prop := g.k.size ≤ 1048576 ∧ -9223372036854775808 ≤ g.t ∧ g.t ≤ 9223372036854775807
/-- One more stands there. -/
noncomputable def setL (f : Lit → Option Value) (l : Lit) (v : Value) : Lit → Option Value := by
  classical
  exact fun m => if m = l then some v else f m
theorem setL_same {f : Lit → Option Value} {l : Lit} {v : Value} : setL f l v l = some v := by unfold setL; simp
theorem setL_other {f : Lit → Option Value} {l m : Lit} {v : Value} (h : m ≠ l) : setL f l v m = f m := by unfold setL; simp [h]
theorem Below.undrew {n q : Nat} {w u : World} (h : Below n (w.drewN q) u) : Below n w u := ⟨h.os, h.tape, h.output, h.size, h.block⟩
theorem turned_below {n : Nat} {a w w' : World} {b : Nat} (h : w.mapTurned w' b) (hb : Below n a w) (hn : n ≤ b) : Below n a w' := by
  obtain ⟨es, clock, es', clock', h1, rfl⟩ := h
  refine ⟨hb.os, hb.tape, hb.output, ?_, fun k hk => ?_⟩
  · have := hb.size
    simpa [Go.ChangeMaps.setBlock] using this
  · rw [← hb.block k hk]
    simp only [Go.ChangeMaps.setBlock]
    rw [Array.getElem?_setIfInBounds_ne (by omega)]

end
end Go.Proofs.Ytheidhkmmihjlaa.ML
