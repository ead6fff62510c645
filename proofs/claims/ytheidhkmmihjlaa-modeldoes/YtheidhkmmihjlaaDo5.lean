/-
  Mr5: The program's: itself, nameOf, keyOf; the first ones of a list that have each of its keys.
-/
import Derived.Test.YtheidhkmmihjlaaDo4
import Derived.Test.YtheidhkmmihjlaaDo2
import Derived.Laws.Tables
import Derived.Laws.Rows
set_option linter.unusedVariables false
set_option linter.unusedSimpArgs false
namespace Go.Proofs.Ytheidhkmmihjlaa.ML
open Go.RowKit Go.Maps
attribute [local go_sem] Oper.semAt_some

theorem heap_alloc_at {w : World} {n : Nat} (h : n = w.heap.size) (o : Obj) : (w.alloc o).heap[n]? = some o := by rw [h]; exact heap_alloc_new w o
section
set_option maxHeartbeats 4000000
set_option maxRecDepth 100000
variable {w : World} {go : Option Addr} {lg cg : Nat} {gone : List Gn}
/-- One more stands there. -/
noncomputable def setL (f : Lit → Option Value) (l : Lit) (v : Value) : Lit → Option Value := by
  classical
  exact fun m => if m = l then some v else f m
theorem setL_same {f : Lit → Option Value} {l : Lit} {v : Value} : setL f l v l = some v := by unfold setL; simp
theorem setL_other {f : Lit → Option Value} {l m : Lit} {v : Value} (h : m ≠ l) : setL f l v m = f m := by unfold setL; simp [h]
theorem turned_below {n : Nat} {a w w' : World} {b : Nat} (h : w.mapTurned w' b) (hb : Below n a w) (hn : n ≤ b) : Below n a w' := by
  obtain ⟨es, clock, es', clock', h1, rfl⟩ := h
  refine ⟨hb.os, hb.tape, hb.output, ?_, fun k hk => ?_⟩
  · have := hb.size
    simpa [Go.ChangeMaps.setBlock] using this
  · rw [← hb.block k hk]
    simp only [Go.ChangeMaps.setBlock]
    rw [Array.getElem?_setIfInBounds_ne (by omega)]

end
end Go.Proofs.Ytheidhkmmihjlaa.ML

/-
  Mr6: The first rows of a list that have each of its keys.
-/
set_option linter.unusedVariables false
set_option linter.unusedSimpArgs false
namespace Go.Proofs.Ytheidhkmmihjlaa.ML
open Go.RowKit Go.Maps
attribute [local go_sem] Oper.semAt_some

section
set_option maxHeartbeats 4000000
set_option maxRecDepth 100000
variable {w : World}
/-- The first row of a key. -/
def fstOf (l : List Ro) (s : ByteArray) : Option Ro := l.find? fun r => decide (r.k = s)
def strLit (s : ByteArray) : Lit := .string s.data.toList
theorem strLit_inj {s t : ByteArray} (h : strLit s = strLit t) : s = t := by
  unfold strLit at h
  injection h with h
  exact ByteArray.ext (Array.toList_inj.1 h)
theorem zeroRo (u : World) : (zeroValue 45).run Try.prog u = .ok (.agg #[.string .empty, .string .empty, .int .i64 0]) u := by kernel_rfl
/-- What the map has: the first row of each key. -/
def Fst (L : List Ro) (f : Lit → Option Value) : Prop := (∀ l v, f l = some v → ∃ r ∈ L, l = strLit r.k ∧ v = r.val) ∧ ∀ s, f (strLit s) = (fstOf L s).map Ro.val

variable {bo : Option Addr} {lb cb : Nat} {L : List Ro}
end
end Go.Proofs.Ytheidhkmmihjlaa.ML
