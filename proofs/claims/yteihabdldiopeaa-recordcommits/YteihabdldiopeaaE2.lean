/-
  The small functions: which texts, times and numbers may be; which rows are right; of the program and of the document.
-/
import Derived.Test.YteihabdldiopeaaRows
import Derived.Test.YteihabdldiopeaaE0
import Derived.Shelf.Abstract
import Derived.BigQuiet
import Derived.Deep.RegionWith
set_option linter.unusedVariables false
set_option linter.unusedSimpArgs false
namespace Go.Proofs.Yteihabdldiopeaa
open Go.RowKit

theorem isEmpty_eq (b : ByteArray) : b.toList.isEmpty = decide (b.size = 0) := by
  rw [ByteArray.toList_eq]
  have e : b.size = b.data.toList.length := by rw [Array.length_toList]; rfl
  rw [e]
  cases b.data.toList with
  | nil => rfl
  | cons x r => simp
theorem and_dec (p q : Prop) [Decidable p] [Decidable q] : (decide p && decide q) = decide (p ∧ q) := by simp

section
variable (w : World)
set_option maxRecDepth 100000
set_option maxHeartbeats 1000000

theorem key_any (s : ByteArray) : Calls Try.prog 10 #[.string s] w fun e w' => e = .returned (.bool (isK s)) ∧ w' = w := by
  unfold isK
  have h0 : (s.size : Int) = (s.size : Int) := rfl
  by_cases h1 : 1 ≤ s.size
  all_goals by_cases h2 : s.size ≤ 16
  all_goals
    go_enter Try.func10, Try.ntmps10
    go_wp2
  all_goals go_ret
  all_goals exact ⟨ret_bool (by first | (simp [h1, h2]; done) | (simp [h1, h2]; omega)), rfl⟩
theorem refKey_any (s : ByteArray) : Calls Try.prog 11 #[.string s] w fun e w' => e = .returned (.bool (isK s)) ∧ w' = w := by
  unfold isK
  have h0 : (s.size : Int) = (s.size : Int) := rfl
  by_cases h1 : 1 ≤ s.size
  all_goals by_cases h2 : s.size ≤ 16
  all_goals
    go_enter Try.func11, Try.ntmps11
    go_wp2
  all_goals go_ret
  all_goals exact ⟨ret_bool (by first | (simp [h1, h2]; done) | (simp [h1, h2]; omega)), rfl⟩
theorem val_any (s : ByteArray) : Calls Try.prog 12 #[.string s] w fun e w' => e = .returned (.bool (isV s)) ∧ w' = w := by
  unfold isV
  go_enter Try.func12, Try.ntmps12
  go_wp2
  go_ret
  exact ⟨ret_bool (by simp; try omega), rfl⟩
theorem refVal_any (s : ByteArray) : Calls Try.prog 13 #[.string s] w fun e w' => e = .returned (.bool (isV s)) ∧ w' = w := by
  unfold isV
  go_enter Try.func13, Try.ntmps13
  go_wp2
  go_ret
  exact ⟨ret_bool (by simp; try omega), rfl⟩
theorem time_any (t : Int) : Calls Try.prog 67 #[.int .i64 t] w fun e w' => e = .returned (.bool (isT t)) ∧ w' = w := by
  unfold isT
  by_cases h1 : 0 ≤ t <;> by_cases h2 : t ≤ 1099511627775 <;>
  · go_enter Try.func67, Try.ntmps67
    go_wp2
    go_ret
    exact ⟨ret_bool (by simp; try omega), rfl⟩
theorem timed_any (t : Int) : Calls Try.prog 63 #[.int .i64 t] w fun e w' => e = .returned (.bool (isT t)) ∧ w' = w := by
  unfold isT
  by_cases h1 : 0 ≤ t <;> by_cases h2 : t < 1099511627776 <;>
  · go_enter Try.func63, Try.ntmps63
    go_wp2
    go_ret
    exact ⟨ret_bool (by simp; try omega), rfl⟩
theorem file_any (n : Int) : Calls Try.prog 94 #[.int .i64 n] w fun e w' => e = .returned (.bool (isN n)) ∧ w' = w := by
  unfold isN
  by_cases h1 : 1 ≤ n <;> by_cases h2 : n ≤ 2147483647 <;>
  · go_enter Try.func94, Try.ntmps94
    go_wp2
    go_ret
    exact ⟨ret_bool (by simp; try omega), rfl⟩
end

/-- A row, a gone, a write, a pair as values. -/
def Rw.v (r : Rw) : Value := .agg #[.string r.key, .string r.val, .int .i64 r.time]
def Gn.v (g : Gn) : Value := .agg #[.string g.key, .int .i64 g.time]
def Wr.v (w : Wr) : Value := .agg #[.string w.key, .string w.val, .bool w.gone]
def Pr.v (p : Pr) : Value := .agg #[.int .i64 p.num, .int .i64 p.frm, .int .i64 p.til]

section
variable (w : World)
set_option maxRecDepth 100000
set_option maxHeartbeats 1000000

theorem rightRow_any (r : Rw) : Calls Try.prog 66 #[r.v] w fun e w' => e = .returned (.bool (rightR r)) ∧ Below w.heap.size w w' := by
  obtain ⟨k, v, t⟩ := r
  unfold rightR Rw.v
  simp only []
  have hb : Below w.heap.size w (w.alloc (.cells #[.string k, .string v, .int .i64 t] 36)) := (Below.refl _ _).alloc (Nat.le_refl _) _
  cases h1 : isK k <;> cases h2 : isV v <;>
  · go_enter Try.func66, Try.ntmps66
    go_wp2_with (first
      | (go_at_call 10; refine (key_any _ _).mono ?_; rintro e w' ⟨rfl, rfl⟩; rw [h1])
      | (go_at_call 12; refine (val_any _ _).mono ?_; rintro e w' ⟨rfl, rfl⟩; rw [h2])
      | (go_at_call 67; refine (time_any _ _).mono ?_; rintro e w' ⟨rfl, rfl⟩)
      | fail)
    go_ret
    exact ⟨ret_bool (by simp), hb⟩
theorem refRightRow_any (r : Rw) : Calls Try.prog 39 #[r.v] w fun e w' => e = .returned (.bool (rightR r)) ∧ Below w.heap.size w w' := by
  obtain ⟨k, v, t⟩ := r
  unfold rightR Rw.v
  simp only []
  have hb : Below w.heap.size w (w.alloc (.cells #[.string k, .string v, .int .i64 t] 36)) := (Below.refl _ _).alloc (Nat.le_refl _) _
  cases h1 : isK k <;> cases h2 : isV v <;>
  · go_enter Try.func39, Try.ntmps39
    go_wp2_with (first
      | (go_at_call 11; refine (refKey_any _ _).mono ?_; rintro e w' ⟨rfl, rfl⟩; rw [h1])
      | (go_at_call 13; refine (refVal_any _ _).mono ?_; rintro e w' ⟨rfl, rfl⟩; rw [h2])
      | (go_at_call 63; refine (timed_any _ _).mono ?_; rintro e w' ⟨rfl, rfl⟩)
      | fail)
    go_ret
    exact ⟨ret_bool (by simp), hb⟩
theorem rightGone_any (g : Gn) : Calls Try.prog 72 #[g.v] w fun e w' => e = .returned (.bool (rightG g)) ∧ Below w.heap.size w w' := by
  obtain ⟨k, t⟩ := g
  unfold rightG Gn.v
  simp only []
  have hb : Below w.heap.size w (w.alloc (.cells #[.string k, .int .i64 t] 39)) := (Below.refl _ _).alloc (Nat.le_refl _) _
  cases h1 : isK k <;>
  · go_enter Try.func72, Try.ntmps72
    go_wp2_with (first
      | (go_at_call 10; refine (key_any _ _).mono ?_; rintro e w' ⟨rfl, rfl⟩; rw [h1])
      | (go_at_call 67; refine (time_any _ _).mono ?_; rintro e w' ⟨rfl, rfl⟩)
      | fail)
    go_ret
    exact ⟨ret_bool (by simp), hb⟩
theorem refRightGone_any (g : Gn) : Calls Try.prog 42 #[g.v] w fun e w' => e = .returned (.bool (rightG g)) ∧ Below w.heap.size w w' := by
  obtain ⟨k, t⟩ := g
  unfold rightG Gn.v
  simp only []
  have hb : Below w.heap.size w (w.alloc (.cells #[.string k, .int .i64 t] 39)) := (Below.refl _ _).alloc (Nat.le_refl _) _
  cases h1 : isK k <;>
  · go_enter Try.func42, Try.ntmps42
    go_wp2_with (first
      | (go_at_call 11; refine (refKey_any _ _).mono ?_; rintro e w' ⟨rfl, rfl⟩; rw [h1])
      | (go_at_call 63; refine (timed_any _ _).mono ?_; rintro e w' ⟨rfl, rfl⟩)
      | fail)
    go_ret
    exact ⟨ret_bool (by simp), hb⟩
theorem rightWrite_any (x : Wr) : Calls Try.prog 87 #[x.v] w fun e w' => e = .returned (.bool (okW x)) ∧ Below w.heap.size w w' := by
  obtain ⟨k, v, g⟩ := x
  unfold okW Wr.v
  simp only []
  have hb : Below w.heap.size w (w.alloc (.cells #[.string k, .string v, .bool g] 28)) := (Below.refl _ _).alloc (Nat.le_refl _) _
  have ht : v.toList.isEmpty = decide (v.size = 0) := (isEmpty_eq v)
  cases g <;> by_cases h0 : v.size = 0 <;> cases h1 : isK k <;>
  · (first | rw [decide_eq_true h0] at ht | rw [decide_eq_false h0] at ht)
    go_enter Try.func87, Try.ntmps87
    go_wp2_with (first
      | (go_at_call 10; refine (key_any _ _).mono ?_; rintro e w' ⟨rfl, rfl⟩; rw [h1])
      | (go_at_call 12; refine (val_any _ _).mono ?_; rintro e w' ⟨rfl, rfl⟩)
      | fail)
    go_ret
    exact ⟨ret_bool (by simp [h0]), hb⟩
end
end Go.Proofs.Yteihabdldiopeaa
