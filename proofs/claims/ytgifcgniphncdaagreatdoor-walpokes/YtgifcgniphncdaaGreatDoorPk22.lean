/-
  The small functions: which texts, times and numbers may be; which rows are right; of the program and of the document.
-/
import Derived.Test.YtgifcgniphncdaaGreatDoorRows
import Derived.Test.YtgifcgniphncdaaGreatDoorPk19
import Derived.Shelf.Abstract
import Derived.BigQuiet
import Derived.Deep.RegionWith
set_option linter.unusedVariables false
set_option linter.unusedSimpArgs false
namespace Go.Proofs.YtgifcgniphncdaaGreatDoor
open Go.RowKit

theorem isEmpty_eq (b : ByteArray) : b.toList.isEmpty = decide (b.size = 0) := by
  rw [ByteArray.toList_eq]
  have e : b.size = b.data.toList.length := by rw [Array.length_toList]; rfl
  rw [e]
  cases b.data.toList with
  | nil => rfl
  | cons x r => simp
section
variable (w : World)
set_option maxRecDepth 100000
set_option maxHeartbeats 1000000

theorem key_any (s : ByteArray) : Calls Tryz.prog 242 #[.string s] w fun e w' => e = .returned (.bool (isK s)) ∧ w' = w := by
  unfold isK
  have h0 : (s.size : Int) = (s.size : Int) := rfl
  by_cases h1 : 1 ≤ s.size
  all_goals by_cases h2 : s.size ≤ 16
  all_goals
    go_enter Tryz.func242, Tryz.ntmps242
    go_wp2
  all_goals go_ret
  all_goals exact ⟨ret_boolB (by first | (simp [h1, h2]; done) | (simp [h1, h2]; omega)), rfl⟩
theorem val_any (s : ByteArray) : Calls Tryz.prog 243 #[.string s] w fun e w' => e = .returned (.bool (isV s)) ∧ w' = w := by
  unfold isV
  go_enter Tryz.func243, Tryz.ntmps243
  go_wp2
  go_ret
  exact ⟨ret_boolB (by simp; try omega), rfl⟩
theorem time_any (t : Int) : Calls Tryz.prog 215 #[.int .i64 t] w fun e w' => e = .returned (.bool (isT t)) ∧ w' = w := by
  unfold isT
  by_cases h1 : 0 ≤ t <;> by_cases h2 : t ≤ 1099511627775 <;>
  · go_enter Tryz.func215, Tryz.ntmps215
    go_wp2
    go_ret
    exact ⟨ret_boolB (by simp; try omega), rfl⟩
end

def Wr.v (w : Wr) : Value := .agg #[.string w.key, .string w.val, .bool w.gone]
section
variable (w : World)
set_option maxRecDepth 100000
set_option maxHeartbeats 1000000

theorem rightWrite_any (x : Wr) : Calls Tryz.prog 216 #[x.v] w fun e w' => e = .returned (.bool (okW x)) ∧ Below w.heap.size w w' := by
  obtain ⟨k, v, g⟩ := x
  unfold okW Wr.v
  simp only []
  have hb : Below w.heap.size w (w.alloc (.cells #[.string k, .string v, .bool g] 85)) := (Below.refl _ _).alloc (Nat.le_refl _) _
  have ht : v.toList.isEmpty = decide (v.size = 0) := (isEmpty_eq v)
  cases g <;> by_cases h0 : v.size = 0 <;> cases h1 : isK k <;>
  · (first | rw [decide_eq_true h0] at ht | rw [decide_eq_false h0] at ht)
    go_enter Tryz.func216, Tryz.ntmps216
    go_wp2_with (first
      | (go_at_call 242; refine (key_any _ _).mono ?_; rintro e w' ⟨rfl, rfl⟩; rw [h1])
      | (go_at_call 243; refine (val_any _ _).mono ?_; rintro e w' ⟨rfl, rfl⟩)
      | fail)
    go_ret
    exact ⟨ret_boolB (by simp [h0]), hb⟩
end
end Go.Proofs.YtgifcgniphncdaaGreatDoor
