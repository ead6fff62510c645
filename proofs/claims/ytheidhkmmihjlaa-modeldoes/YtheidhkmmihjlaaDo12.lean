/-
  The small functions: which texts, times and numbers may be; which rows are right; of the program and of the document.
-/
import Derived.Test.YtheidhkmmihjlaaRows
import Derived.Test.YtheidhkmmihjlaaDo11
import Derived.Shelf.Abstract
import Derived.BigQuiet
import Derived.Deep.RegionWith
set_option linter.unusedVariables false
set_option linter.unusedSimpArgs false
namespace Go.Proofs.Ytheidhkmmihjlaa
open Go.RowKit

theorem isEmpty_eq (b : ByteArray) : b.toList.isEmpty = decide (b.size = 0) := by
  rw [ByteArray.toList_eq]
  have e : b.size = b.data.toList.length := by rw [Array.length_toList]; rfl
  rw [e]
  cases b.data.toList with
  | nil => rfl
  | cons x r => simp
section
variable (w : World)
set_option maxRecDepth 100000
set_option maxHeartbeats 1000000

theorem refKey_any (s : ByteArray) : Calls Try.prog 23 #[.string s] w fun e w' => e = .returned (.bool (isK s)) ∧ w' = w := by
  unfold isK
  have h0 : (s.size : Int) = (s.size : Int) := rfl
  by_cases h1 : 1 ≤ s.size
  all_goals by_cases h2 : s.size ≤ 16
  all_goals
    go_enter Try.func23, Try.ntmps23
    go_wp2
  all_goals go_ret
  all_goals exact ⟨ret_boolB (by first | (simp [h1, h2]; done) | (simp [h1, h2]; omega)), rfl⟩
theorem refVal_any (s : ByteArray) : Calls Try.prog 24 #[.string s] w fun e w' => e = .returned (.bool (isV s)) ∧ w' = w := by
  unfold isV
  go_enter Try.func24, Try.ntmps24
  go_wp2
  go_ret
  exact ⟨ret_boolB (by simp; try omega), rfl⟩
theorem timed_any (t : Int) : Calls Try.prog 44 #[.int .i64 t] w fun e w' => e = .returned (.bool (isT t)) ∧ w' = w := by
  unfold isT
  by_cases h1 : 0 ≤ t <;> by_cases h2 : t < 1099511627776 <;>
  · go_enter Try.func44, Try.ntmps44
    go_wp2
    go_ret
    exact ⟨ret_boolB (by simp; try omega), rfl⟩
end

/-- A row, a gone, a write, a pair as values. -/
def Rw.v (r : Rw) : Value := .agg #[.string r.key, .string r.val, .int .i64 r.time]
section
variable (w : World)
set_option maxRecDepth 100000
set_option maxHeartbeats 1000000

theorem refRightRow_any (r : Rw) : Calls Try.prog 28 #[r.v] w fun e w' => e = .returned (.bool (rightR r)) ∧ Below w.heap.size w w' := by
  obtain ⟨k, v, t⟩ := r
  unfold rightR Rw.v
  simp only []
  have hb : Below w.heap.size w (w.alloc (.cells #[.string k, .string v, .int .i64 t] 45)) := (Below.refl _ _).alloc (Nat.le_refl _) _
  cases h1 : isK k <;> cases h2 : isV v <;>
  · go_enter Try.func28, Try.ntmps28
    go_wp2_with (first
      | (go_at_call 23; refine (refKey_any _ _).mono ?_; rintro e w' ⟨rfl, rfl⟩; rw [h1])
      | (go_at_call 24; refine (refVal_any _ _).mono ?_; rintro e w' ⟨rfl, rfl⟩; rw [h2])
      | (go_at_call 44; refine (timed_any _ _).mono ?_; rintro e w' ⟨rfl, rfl⟩)
      | fail)
    go_ret
    exact ⟨ret_boolB (by simp), hb⟩
end
end Go.Proofs.Ytheidhkmmihjlaa
