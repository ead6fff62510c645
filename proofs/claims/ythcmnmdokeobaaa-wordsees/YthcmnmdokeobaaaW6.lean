/-
  Layer 5: the document's Sees, case by case.
-/
import Derived.Test.YthcmnmdokeobaaaW5
set_option linter.unusedVariables false
set_option linter.unusedSimpArgs false
namespace Go.Proofs.Ythcmnmdokeobaaa
open Go.RowKit

set_option maxRecDepth 100000 in
set_option maxHeartbeats 1600000 in
/-- Sees refuses, ahead of the states. -/
theorem rsees_no1 (me a b e sb se : Int) (w : World) (b0 : 0 ≤ b) (b9 : b ≤ 18446744073709551615) (e0 : 0 ≤ e) (e9 : e ≤ 18446744073709551615) (p0 : 0 ≤ sb) (p9 : sb ≤ 18446744073709551615) (q0 : 0 ≤ se) (q9 : se ≤ 18446744073709551615)
    (h : ¬ (0 ≤ me ∧ me < 1048576 ∧ 0 ≤ a ∧ a < 1099511627776 ∧ (kd b = 1 ∨ kd b = 3) ∧ kd e ≠ 0)) :
    Calls Try.prog 21 #[.int .i64 me, .int .i64 a, .int .u64 b, .int .u64 e, .int .u64 sb, .int .u64 se] w fun r w' => r = .returned (.tuple #[.int .i64 0, .int .i64 50]) ∧ w' = w := by
  have c1 := rsplit_any b w b0 b9
  have c2 := rsplit_any e w e0 e9
  by_cases h1 : 0 ≤ me
  case neg =>
    clear h
    go_enter Try.func21, Try.ntmps21
    go_wp2_with fail
    refine c1.mono ?_
    rintro e w1 ⟨rfl, rfl⟩
    go_wp2_with fail
    refine c2.mono ?_
    rintro e w1 ⟨rfl, rfl⟩
    go_wp2
    go_ret2
    exact ⟨rfl, rfl⟩
  by_cases h2 : me < 1048576
  case neg =>
    clear h
    go_enter Try.func21, Try.ntmps21
    go_wp2_with fail
    refine c1.mono ?_
    rintro e w1 ⟨rfl, rfl⟩
    go_wp2_with fail
    refine c2.mono ?_
    rintro e w1 ⟨rfl, rfl⟩
    go_wp2
    go_ret2
    exact ⟨rfl, rfl⟩
  by_cases h3 : 0 ≤ a
  case neg =>
    clear h
    go_enter Try.func21, Try.ntmps21
    go_wp2_with fail
    refine c1.mono ?_
    rintro e w1 ⟨rfl, rfl⟩
    go_wp2_with fail
    refine c2.mono ?_
    rintro e w1 ⟨rfl, rfl⟩
    go_wp2
    go_ret2
    exact ⟨rfl, rfl⟩
  by_cases h4 : a < 1099511627776
  case neg =>
    clear h
    go_enter Try.func21, Try.ntmps21
    go_wp2_with fail
    refine c1.mono ?_
    rintro e w1 ⟨rfl, rfl⟩
    go_wp2_with fail
    refine c2.mono ?_
    rintro e w1 ⟨rfl, rfl⟩
    go_wp2
    go_ret2
    exact ⟨rfl, rfl⟩
  rcases kd_cases b with k | k | k | k
  · rw [k] at c1
    clear h k
    go_enter Try.func21, Try.ntmps21
    go_wp2_with fail
    refine c1.mono ?_
    rintro e w1 ⟨rfl, rfl⟩
    go_wp2_with fail
    refine c2.mono ?_
    rintro e w1 ⟨rfl, rfl⟩
    go_wp2
    go_ret2
    exact ⟨rfl, rfl⟩
  · have ke : kd e = 0 := by omega
    rw [k] at c1
    rw [ke] at c2
    clear h k ke
    go_enter Try.func21, Try.ntmps21
    go_wp2_with fail
    refine c1.mono ?_
    rintro e w1 ⟨rfl, rfl⟩
    go_wp2_with fail
    refine c2.mono ?_
    rintro e w1 ⟨rfl, rfl⟩
    go_wp2
    go_ret2
    exact ⟨rfl, rfl⟩
  · rw [k] at c1
    clear h k
    go_enter Try.func21, Try.ntmps21
    go_wp2_with fail
    refine c1.mono ?_
    rintro e w1 ⟨rfl, rfl⟩
    go_wp2_with fail
    refine c2.mono ?_
    rintro e w1 ⟨rfl, rfl⟩
    go_wp2
    go_ret2
    exact ⟨rfl, rfl⟩
  · have ke : kd e = 0 := by omega
    rw [k] at c1
    rw [ke] at c2
    clear h k ke
    go_enter Try.func21, Try.ntmps21
    go_wp2_with fail
    refine c1.mono ?_
    rintro e w1 ⟨rfl, rfl⟩
    go_wp2_with fail
    refine c2.mono ?_
    rintro e w1 ⟨rfl, rfl⟩
    go_wp2
    go_ret2
    exact ⟨rfl, rfl⟩

set_option maxRecDepth 100000 in
set_option maxHeartbeats 1600000 in
theorem rsees_no2 (me a b e sb se : Int) (w : World) (b0 : 0 ≤ b) (b9 : b ≤ 18446744073709551615) (e0 : 0 ≤ e) (e9 : e ≤ 18446744073709551615) (p0 : 0 ≤ sb) (p9 : sb ≤ 18446744073709551615) (q0 : 0 ≤ se) (q9 : se ≤ 18446744073709551615) (h1 : 0 ≤ me) (h2 : me < 1048576) (h3 : 0 ≤ a) (h4 : a < 1099511627776) (kb : kd b = 3) (nb : ¬ ptN b = me) (ob : unO sb = false) (ke : kd e ≠ 0) :
    Calls Try.prog 21 #[.int .i64 me, .int .i64 a, .int .u64 b, .int .u64 e, .int .u64 sb, .int .u64 se] w fun r w' => r = .returned (.tuple #[.int .i64 0, .int .i64 50]) ∧ w' = w := by
  have c1 := rsplit_any b w b0 b9
  have c2 := rsplit_any e w e0 e9
  have u1 := runstate_any sb w p0 p9
  have u2 := runstate_any se w q0 q9
  have m1 := rcame_any b sb a w b0 b9 p0 p9
  have m2 := rcame_any e se a w e0 e9 q0 q9
  rw [kb] at c1
  rw [ob] at u1
  clear kb ob m1 m2
  generalize ptN b = nn at *
  generalize kd e = k at *
  have kb2 : (k == 0) = false := by simp [ke]
  go_enter Try.func21, Try.ntmps21
  go_wp2_with fail
  refine c1.mono ?_
  rintro e w1 ⟨rfl, rfl⟩
  go_wp2_with fail
  refine c2.mono ?_
  rintro e w1 ⟨rfl, rfl⟩
  go_wp2_with fail
  refine u1.mono ?_
  rintro e w1 ⟨rfl, rfl⟩
  go_wp2_with fail
  refine u2.mono ?_
  rintro e w1 ⟨rfl, rfl⟩
  go_wp2
  go_ret2
  exact ⟨rfl, rfl⟩

set_option maxRecDepth 100000 in
set_option maxHeartbeats 1600000 in
theorem rsees_tt (me a b e sb se : Int) (w : World) (b0 : 0 ≤ b) (b9 : b ≤ 18446744073709551615) (e0 : 0 ≤ e) (e9 : e ≤ 18446744073709551615) (p0 : 0 ≤ sb) (p9 : sb ≤ 18446744073709551615) (q0 : 0 ≤ se) (q9 : se ≤ 18446744073709551615) (h1 : 0 ≤ me) (h2 : me < 1048576) (h3 : 0 ≤ a) (h4 : a < 1099511627776) (kb : kd b = 1) (ke : kd e = 1) (V : Int) (v : (cm b sb a = 2 ∧ V = 2) ∨ (cm b sb a = 3 ∧ V = 3) ∨ (cm b sb a = 1 ∧ ((cm e se a = 1 ∧ V = 2) ∨ (cm e se a = 2 ∧ V = 1) ∨ (cm e se a = 3 ∧ V = 3)))) :
    Calls Try.prog 21 #[.int .i64 me, .int .i64 a, .int .u64 b, .int .u64 e, .int .u64 sb, .int .u64 se] w fun r w' => r = .returned (.tuple #[.int .i64 V, .int .i64 0]) ∧ w' = w := by
  have c1 := rsplit_any b w b0 b9
  have c2 := rsplit_any e w e0 e9
  have u1 := runstate_any sb w p0 p9
  have u2 := runstate_any se w q0 q9
  have m1 := rcame_any b sb a w b0 b9 p0 p9
  have m2 := rcame_any e se a w e0 e9 q0 q9
  rw [kb] at c1
  rw [ke] at c2
  generalize ptN b = nn at *
  generalize ptN e = ne2 at *
  rcases v with ⟨v, rfl⟩ | ⟨v, rfl⟩ | ⟨v, v2⟩
  · rw [v] at m1
    clear v m2
    go_enter Try.func21, Try.ntmps21
    go_wp2_with fail
    refine c1.mono ?_
    rintro e w1 ⟨rfl, rfl⟩
    go_wp2_with fail
    refine c2.mono ?_
    rintro e w1 ⟨rfl, rfl⟩
    go_wp2_with fail
    refine u1.mono ?_
    rintro e w1 ⟨rfl, rfl⟩
    go_wp2_with fail
    refine u2.mono ?_
    rintro e w1 ⟨rfl, rfl⟩
    go_wp2_with fail
    refine m1.mono ?_
    rintro e w1 ⟨rfl, rfl⟩
    go_wp2
    go_ret2
    exact ⟨rfl, rfl⟩
  · rw [v] at m1
    clear v m2
    go_enter Try.func21, Try.ntmps21
    go_wp2_with fail
    refine c1.mono ?_
    rintro e w1 ⟨rfl, rfl⟩
    go_wp2_with fail
    refine c2.mono ?_
    rintro e w1 ⟨rfl, rfl⟩
    go_wp2_with fail
    refine u1.mono ?_
    rintro e w1 ⟨rfl, rfl⟩
    go_wp2_with fail
    refine u2.mono ?_
    rintro e w1 ⟨rfl, rfl⟩
    go_wp2_with fail
    refine m1.mono ?_
    rintro e w1 ⟨rfl, rfl⟩
    go_wp2
    go_ret2
    exact ⟨rfl, rfl⟩
  · rw [v] at m1
    rcases v2 with ⟨v2, rfl⟩ | ⟨v2, rfl⟩ | ⟨v2, rfl⟩
    · rw [v2] at m2
      clear v v2
      go_enter Try.func21, Try.ntmps21
      go_wp2_with fail
      refine c1.mono ?_
      rintro e w1 ⟨rfl, rfl⟩
      go_wp2_with fail
      refine c2.mono ?_
      rintro e w1 ⟨rfl, rfl⟩
      go_wp2_with fail
      refine u1.mono ?_
      rintro e w1 ⟨rfl, rfl⟩
      go_wp2_with fail
      refine u2.mono ?_
      rintro e w1 ⟨rfl, rfl⟩
      go_wp2_with fail
      refine m1.mono ?_
      rintro e w1 ⟨rfl, rfl⟩
      go_wp2_with fail
      refine m2.mono ?_
      rintro e w1 ⟨rfl, rfl⟩
      go_wp2
      go_ret2
      exact ⟨rfl, rfl⟩
    · rw [v2] at m2
      clear v v2
      go_enter Try.func21, Try.ntmps21
      go_wp2_with fail
      refine c1.mono ?_
      rintro e w1 ⟨rfl, rfl⟩
      go_wp2_with fail
      refine c2.mono ?_
      rintro e w1 ⟨rfl, rfl⟩
      go_wp2_with fail
      refine u1.mono ?_
      rintro e w1 ⟨rfl, rfl⟩
      go_wp2_with fail
      refine u2.mono ?_
      rintro e w1 ⟨rfl, rfl⟩
      go_wp2_with fail
      refine m1.mono ?_
      rintro e w1 ⟨rfl, rfl⟩
      go_wp2_with fail
      refine m2.mono ?_
      rintro e w1 ⟨rfl, rfl⟩
      go_wp2
      go_ret2
      exact ⟨rfl, rfl⟩
    · rw [v2] at m2
      clear v v2
      go_enter Try.func21, Try.ntmps21
      go_wp2_with fail
      refine c1.mono ?_
      rintro e w1 ⟨rfl, rfl⟩
      go_wp2_with fail
      refine c2.mono ?_
      rintro e w1 ⟨rfl, rfl⟩
      go_wp2_with fail
      refine u1.mono ?_
      rintro e w1 ⟨rfl, rfl⟩
      go_wp2_with fail
      refine u2.mono ?_
      rintro e w1 ⟨rfl, rfl⟩
      go_wp2_with fail
      refine m1.mono ?_
      rintro e w1 ⟨rfl, rfl⟩
      go_wp2_with fail
      refine m2.mono ?_
      rintro e w1 ⟨rfl, rfl⟩
      go_wp2
      go_ret2
      exact ⟨rfl, rfl⟩

end Go.Proofs.Ythcmnmdokeobaaa
