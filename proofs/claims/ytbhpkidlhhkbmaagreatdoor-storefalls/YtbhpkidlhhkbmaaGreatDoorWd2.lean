/-
  Layer 5: what package word does: Time, Owner, Parts, State, Unstate, Sees.
-/
import Derived.Test.YtbhpkidlhhkbmaaGreatDoorWd1
set_option linter.unusedVariables false
set_option linter.unusedSimpArgs false
namespace Go.Proofs.YtbhpkidlhhkbmaaGreatDoor
open Go.RowKit

theorem kd_three {w : Int} (h : kd w = 3) : 9223372036854775808 < w ∧ w < 9223372036855824384 := by
  unfold kd at h
  split at h
  · omega
  · split at h
    · omega
    · split at h
      · assumption
      · omega
theorem kd_two {w : Int} (h : kd w = 2) : w = 1099511627776 := by
  unfold kd at h
  split at h
  · omega
  · split at h
    · assumption
    · split at h <;> omega
theorem kd_one {w : Int} (h : kd w = 1) : w < 1099511627776 := by
  unfold kd at h
  split at h
  · assumption
  · split at h
    · omega
    · split at h <;> omega

theorem parts_any (n : Int) (w : World) (h0 : 0 ≤ n) : Calls Tryz.prog 94 #[.int .u64 n] w fun e w' => e = .returned (.tuple #[.int .i64 (ptT n), .int .i64 (ptN n), .bool (ptO n)]) ∧ w' = w := by
  have c := kindOf_any n w
  rcases kd_cases n with h | h | h | h
  · rw [h] at c
    rw [show ptT n = 0 by simp [ptT, h], show ptN n = 0 by simp [ptN, h], show ptO n = false by simp [ptO, h]]
    go_enter Tryz.func94, Tryz.ntmps94
    go_wp2_with fail
    refine c.mono ?_
    rintro e w1 ⟨rfl, rfl⟩
    go_wp2
    go_ret3
    exact ⟨rfl, rfl⟩
  · have h1 := kd_one h
    rw [h] at c
    rw [show ptT n = n by simp [ptT, h], show ptN n = 0 by simp [ptN, h], show ptO n = true by simp [ptO, h]]
    go_enter Tryz.func94, Tryz.ntmps94
    go_wp2_with fail
    refine c.mono ?_
    rintro e w1 ⟨rfl, rfl⟩
    go_wp2
    go_ret3
    exact ⟨rfl, rfl⟩
  · have h1 : n ≤ 1099511627776 := by have := kd_two h; omega
    rw [h] at c
    rw [show ptT n = n by simp [ptT, h], show ptN n = 0 by simp [ptN, h], show ptO n = true by simp [ptO, h]]
    go_enter Tryz.func94, Tryz.ntmps94
    go_wp2_with fail
    refine c.mono ?_
    rintro e w1 ⟨rfl, rfl⟩
    go_wp2
    go_ret3
    exact ⟨rfl, rfl⟩
  · obtain ⟨h1, h2⟩ := kd_three h
    rw [h] at c
    rw [show ptT n = 0 by simp [ptT, h], show ptN n = n - 9223372036854775808 by simp [ptN, h], show ptO n = true by simp [ptO, h]]
    go_enter Tryz.func94, Tryz.ntmps94
    go_wp2_with fail
    refine c.mono ?_
    rintro e w1 ⟨rfl, rfl⟩
    go_wp2
    go_ret3
    exact ⟨rfl, rfl⟩

theorem hs_num {s t : Int} (h : hs s t = true) : 0 ≤ s ∧ s ≤ 3 ∧ 0 ≤ t ∧ t < 1099511627776 := by
  have := of_decide_eq_true h
  omega

theorem state_any (s t : Int) (w : World) : Calls Tryz.prog 70 #[.int .i64 s, .int .i64 t] w fun e w' => e = .returned (.tuple #[.int .u64 (stV s t), .int .i64 (stE s t)]) ∧ w' = w := by
  have c := hasState_any s t w
  by_cases h : hs s t = true
  · obtain ⟨h1, h2, h3, h4⟩ := hs_num h
    rw [h] at c
    rw [show stV s t = s * 4611686018427387904 + t by simp [stV, h], show stE s t = 0 by simp [stE, h]]
    go_enter Tryz.func70, Tryz.ntmps70
    go_wp2_with fail
    refine c.mono ?_
    rintro e w1 ⟨rfl, rfl⟩
    go_wp2
    go_ret2
    exact ⟨rfl, rfl⟩
  · rw [Bool.eq_false_iff.mpr h] at c
    rw [show stV s t = 0 by simp [stV, h], show stE s t = 50 by simp [stE, h]]
    go_enter Tryz.func70, Tryz.ntmps70
    go_wp2_with fail
    refine c.mono ?_
    rintro e w1 ⟨rfl, rfl⟩
    go_wp2
    go_ret2
    exact ⟨rfl, rfl⟩

theorem unstate_any (n : Int) (w : World) (h0 : 0 ≤ n) (h9 : n ≤ 18446744073709551615) : Calls Tryz.prog 80 #[.int .u64 n] w fun e w' => e = .returned (.tuple #[.int .i64 (unS n), .int .i64 (unT n), .bool (unO n)]) ∧ w' = w := by
  have c := hasState_any (n / 4611686018427387904) (n % 4611686018427387904) w
  by_cases h : unO n = true
  · rw [show hs (n / 4611686018427387904) (n % 4611686018427387904) = true from h] at c
    rw [show unS n = n / 4611686018427387904 by simp [unS, h], show unT n = n % 4611686018427387904 by simp [unT, h], h]
    go_enter Tryz.func80, Tryz.ntmps80
    go_wp2_with fail
    refine c.mono ?_
    rintro e w1 ⟨rfl, rfl⟩
    go_wp2
    go_ret3
    exact ⟨rfl, rfl⟩
  · rw [show hs (n / 4611686018427387904) (n % 4611686018427387904) = false from Bool.eq_false_iff.mpr h] at c
    rw [show unS n = 0 by simp [unS, h], show unT n = 0 by simp [unT, h], Bool.eq_false_iff.mpr h]
    go_enter Tryz.func80, Tryz.ntmps80
    go_wp2_with fail
    refine c.mono ?_
    rintro e w1 ⟨rfl, rfl⟩
    go_wp2
    go_ret3
    exact ⟨rfl, rfl⟩

end Go.Proofs.YtbhpkidlhhkbmaaGreatDoor
