/-
  Layer 5: what package word does: Time, Owner, Parts, State, Unstate, Sees.
-/
import Derived.Test.YtfhcphgjaobnoaaDoorWd1
set_option linter.unusedVariables false
set_option linter.unusedSimpArgs false
namespace Go.Proofs.YtfhcphgjaobnoaaDoor
open Go.RowKit

theorem kd_three {w : Int} (h : kd w = 3) : 9223372036854775808 < w ∧ w < 9223372036855824384 := by
  unfold kd at h
  split at h
  · omega
  · split at h
    · omega
    · split at h
      · assumption
      · omega
theorem kd_two {w : Int} (h : kd w = 2) : w = 1099511627776 := by
  unfold kd at h
  split at h
  · omega
  · split at h
    · assumption
    · split at h <;> omega
theorem kd_one {w : Int} (h : kd w = 1) : w < 1099511627776 := by
  unfold kd at h
  split at h
  · assumption
  · split at h
    · omega
    · split at h <;> omega

theorem parts_any (n : Int) (w : World) (h0 : 0 ≤ n) : Calls Tryd.prog 61 #[.int .u64 n] w fun e w' => e = .returned (.tuple #[.int .i64 (ptT n), .int .i64 (ptN n), .bool (ptO n)]) ∧ w' = w := by
  have c := kindOf_any n w
  rcases kd_cases n with h | h | h | h
  · rw [h] at c
    rw [show ptT n = 0 by simp [ptT, h], show ptN n = 0 by simp [ptN, h], show ptO n = false by simp [ptO, h]]
    go_enter Tryd.func61, Tryd.ntmps61
    go_wp2_with fail
    refine c.mono ?_
    rintro e w1 ⟨rfl, rfl⟩
    go_wp2
    go_ret3
    exact ⟨rfl, rfl⟩
  · have h1 := kd_one h
    rw [h] at c
    rw [show ptT n = n by simp [ptT, h], show ptN n = 0 by simp [ptN, h], show ptO n = true by simp [ptO, h]]
    go_enter Tryd.func61, Tryd.ntmps61
    go_wp2_with fail
    refine c.mono ?_
    rintro e w1 ⟨rfl, rfl⟩
    go_wp2
    go_ret3
    exact ⟨rfl, rfl⟩
  · have h1 : n ≤ 1099511627776 := by have := kd_two h; omega
    rw [h] at c
    rw [show ptT n = n by simp [ptT, h], show ptN n = 0 by simp [ptN, h], show ptO n = true by simp [ptO, h]]
    go_enter Tryd.func61, Tryd.ntmps61
    go_wp2_with fail
    refine c.mono ?_
    rintro e w1 ⟨rfl, rfl⟩
    go_wp2
    go_ret3
    exact ⟨rfl, rfl⟩
  · obtain ⟨h1, h2⟩ := kd_three h
    rw [h] at c
    rw [show ptT n = 0 by simp [ptT, h], show ptN n = n - 9223372036854775808 by simp [ptN, h], show ptO n = true by simp [ptO, h]]
    go_enter Tryd.func61, Tryd.ntmps61
    go_wp2_with fail
    refine c.mono ?_
    rintro e w1 ⟨rfl, rfl⟩
    go_wp2
    go_ret3
    exact ⟨rfl, rfl⟩

theorem hs_num {s t : Int} (h : hs s t = true) : 0 ≤ s ∧ s ≤ 3 ∧ 0 ≤ t ∧ t < 1099511627776 := by
  have := of_decide_eq_true h
  omega

theorem unstate_any (n : Int) (w : World) (h0 : 0 ≤ n) (h9 : n ≤ 18446744073709551615) : Calls Tryd.prog 100 #[.int .u64 n] w fun e w' => e = .returned (.tuple #[.int .i64 (unS n), .int .i64 (unT n), .bool (unO n)]) ∧ w' = w := by
  have c := hasState_any (n / 4611686018427387904) (n % 4611686018427387904) w
  by_cases h : unO n = true
  · rw [show hs (n / 4611686018427387904) (n % 4611686018427387904) = true from h] at c
    rw [show unS n = n / 4611686018427387904 by simp [unS, h], show unT n = n % 4611686018427387904 by simp [unT, h], h]
    go_enter Tryd.func100, Tryd.ntmps100
    go_wp2_with fail
    refine c.mono ?_
    rintro e w1 ⟨rfl, rfl⟩
    go_wp2
    go_ret3
    exact ⟨rfl, rfl⟩
  · rw [show hs (n / 4611686018427387904) (n % 4611686018427387904) = false from Bool.eq_false_iff.mpr h] at c
    rw [show unS n = 0 by simp [unS, h], show unT n = 0 by simp [unT, h], Bool.eq_false_iff.mpr h]
    go_enter Tryd.func100, Tryd.ntmps100
    go_wp2_with fail
    refine c.mono ?_
    rintro e w1 ⟨rfl, rfl⟩
    go_wp2
    go_ret3
    exact ⟨rfl, rfl⟩

theorem byState_any (n a : Int) (w : World) (h0 : 0 ≤ n) (h9 : n ≤ 18446744073709551615) : Calls Tryd.prog 94 #[.int .u64 n, .int .i64 a] w fun e w' => e = .returned (.tuple #[.int .i64 (byV n a), .bool (unO n)]) ∧ w' = w := by
  have c := unstate_any n w h0 h9
  have cb := byTime_any (unT n) a w
  by_cases h : unO n = true
  · rw [h] at c
    by_cases h1 : unS n = 1
    · by_cases h2 : unT n ≤ a
      · rw [show byV n a = 1 by simp [byV, h, h1, h2], h]
        rw [h1] at c
        go_enter Tryd.func94, Tryd.ntmps94
        go_wp2_with fail
        refine c.mono ?_
        rintro e w1 ⟨rfl, rfl⟩
        go_wp2
        go_ret2
        exact ⟨rfl, rfl⟩
      · rw [show byV n a = byT (unT n) a by simp [byV, h, h1, h2, byT], h]
        rw [h1] at c
        go_enter Tryd.func94, Tryd.ntmps94
        go_wp2_with fail
        refine c.mono ?_
        rintro e w1 ⟨rfl, rfl⟩
        go_wp2_with fail
        refine cb.mono ?_
        rintro e w1 ⟨rfl, rfl⟩
        go_wp2
        go_ret2
        exact ⟨rfl, rfl⟩
    · by_cases h2 : unS n = 2
      · rw [show byV n a = byT (unT n) a by simp [byV, h, h1, h2, byT], h]
        rw [h2] at c
        go_enter Tryd.func94, Tryd.ntmps94
        go_wp2_with fail
        refine c.mono ?_
        rintro e w1 ⟨rfl, rfl⟩
        go_wp2_with fail
        refine cb.mono ?_
        rintro e w1 ⟨rfl, rfl⟩
        go_wp2
        go_ret2
        exact ⟨rfl, rfl⟩
      · rw [show byV n a = 0 by simp [byV, h, h1, h2], h]
        go_enter Tryd.func94, Tryd.ntmps94
        go_wp2_with fail
        refine c.mono ?_
        rintro e w1 ⟨rfl, rfl⟩
        go_wp2
        go_ret2
        exact ⟨rfl, rfl⟩
  · rw [Bool.eq_false_iff.mpr h] at c
    rw [show byV n a = 0 by simp [byV, h], Bool.eq_false_iff.mpr h]
    go_enter Tryd.func94, Tryd.ntmps94
    go_wp2_with fail
    refine c.mono ?_
    rintro e w1 ⟨rfl, rfl⟩
    go_wp2
    go_ret2
    exact ⟨rfl, rfl⟩

theorem edge_any (me a n s : Int) (w : World) (h0 : 0 ≤ n) (s0 : 0 ≤ s) (s9 : s ≤ 18446744073709551615) :
    Calls Tryd.prog 76 #[.int .i64 me, .int .i64 a, .int .u64 n, .int .u64 s] w fun e w' => e = .returned (.tuple #[.int .i64 (egV me a n s), .bool (egO me a n s)]) ∧ w' = w := by
  have c := parts_any n w h0
  have k := kindOf_any n w
  have cs := byState_any s a w s0 s9
  have ct := byTime_any n a w
  rcases kd_cases n with h | h | h | h
  · rw [show egV me a n s = 0 by simp [egV, h], show egO me a n s = false by simp [egO, h]]
    rw [show ptO n = false by simp [ptO, h]] at c
    go_enter Tryd.func76, Tryd.ntmps76
    go_wp2_with fail
    refine c.mono ?_
    rintro e w1 ⟨rfl, rfl⟩
    go_wp2
    go_ret2
    exact ⟨rfl, rfl⟩
  · rw [show egV me a n s = byT n a by simp [egV, h], show egO me a n s = true by simp [egO, h]]
    rw [show ptT n = n by simp [ptT, h], show ptO n = true by simp [ptO, h]] at c
    rw [h] at k
    go_enter Tryd.func76, Tryd.ntmps76
    go_wp2_with fail
    refine c.mono ?_
    rintro e w1 ⟨rfl, rfl⟩
    go_wp2_with fail
    refine k.mono ?_
    rintro e w1 ⟨rfl, rfl⟩
    go_wp2_with fail
    refine ct.mono ?_
    rintro e w1 ⟨rfl, rfl⟩
    go_wp2
    go_ret2
    exact ⟨rfl, rfl⟩
  · rw [show egV me a n s = byT n a by simp [egV, h], show egO me a n s = true by simp [egO, h]]
    rw [show ptT n = n by simp [ptT, h], show ptO n = true by simp [ptO, h]] at c
    rw [h] at k
    go_enter Tryd.func76, Tryd.ntmps76
    go_wp2_with fail
    refine c.mono ?_
    rintro e w1 ⟨rfl, rfl⟩
    go_wp2_with fail
    refine k.mono ?_
    rintro e w1 ⟨rfl, rfl⟩
    go_wp2_with fail
    refine ct.mono ?_
    rintro e w1 ⟨rfl, rfl⟩
    go_wp2
    go_ret2
    exact ⟨rfl, rfl⟩
  · rw [show ptO n = true by simp [ptO, h]] at c
    rw [h] at k
    by_cases hm : ptN n = me
    · rw [show egV me a n s = 2 by simp [egV, h, hm], show egO me a n s = true by simp [egO, h, hm]]
      rw [hm] at c
      go_enter Tryd.func76, Tryd.ntmps76
      go_wp2_with fail
      refine c.mono ?_
      rintro e w1 ⟨rfl, rfl⟩
      go_wp2_with fail
      refine k.mono ?_
      rintro e w1 ⟨rfl, rfl⟩
      go_wp2
      go_ret2
      exact ⟨rfl, rfl⟩
    · rw [show egV me a n s = byV s a by simp [egV, h, hm], show egO me a n s = unO s by simp [egO, h, hm]]
      go_enter Tryd.func76, Tryd.ntmps76
      go_wp2_with fail
      refine c.mono ?_
      rintro e w1 ⟨rfl, rfl⟩
      go_wp2_with fail
      refine k.mono ?_
      rintro e w1 ⟨rfl, rfl⟩
      go_wp2_with fail
      refine cs.mono ?_
      rintro e w1 ⟨rfl, rfl⟩
      go_wp2
      go_ret2
      exact ⟨rfl, rfl⟩

/-- Sees. -/
theorem sees_any (me a b e sb se : Int) (w : World) (b0 : 0 ≤ b) (e0 : 0 ≤ e) (p0 : 0 ≤ sb) (p9 : sb ≤ 18446744073709551615) (q0 : 0 ≤ se) (q9 : se ≤ 18446744073709551615) :
    Calls Tryd.prog 49 #[.int .i64 me, .int .i64 a, .int .u64 b, .int .u64 e, .int .u64 sb, .int .u64 se] w fun r w' => r = .returned (.tuple #[.int .i64 (seV me a b e sb se), .int .i64 (seE me a b e sb se)]) ∧ w' = w := by
  have cr := isReader_any me w
  have ct := isTime_any a w
  have ck := kindOf_any b w
  have c1 := edge_any me a b sb w b0 p0 p9
  have c2 := edge_any me a e se w e0 q0 q9
  have cv := verdict_any (egV me a b sb) (egV me a e se) w
  by_cases hR : isR me = true
  case neg =>
    have hO : seO me a b e sb se = false := by simp [seO, hR]
    rw [show seV me a b e sb se = 0 by simp [seV, hO], show seE me a b e sb se = 50 by simp [seE, hO]]
    rw [Bool.eq_false_iff.mpr hR] at cr
    go_enter Tryd.func49, Tryd.ntmps49
    go_wp2_with fail
    refine cr.mono ?_
    rintro e w1 ⟨rfl, rfl⟩
    go_wp2
    go_ret2
    exact ⟨rfl, rfl⟩
  rw [hR] at cr
  by_cases hT : isT a = true
  case neg =>
    have hO : seO me a b e sb se = false := by simp [seO, hT]
    rw [show seV me a b e sb se = 0 by simp [seV, hO], show seE me a b e sb se = 50 by simp [seE, hO]]
    rw [Bool.eq_false_iff.mpr hT] at ct
    go_enter Tryd.func49, Tryd.ntmps49
    go_wp2_with fail
    refine cr.mono ?_
    rintro e w1 ⟨rfl, rfl⟩
    go_wp2_with fail
    refine ct.mono ?_
    rintro e w1 ⟨rfl, rfl⟩
    go_wp2
    go_ret2
    exact ⟨rfl, rfl⟩
  rw [hT] at ct
  by_cases hk : kd b = 2
  · have hO : seO me a b e sb se = false := by simp [seO, hk]
    rw [show seV me a b e sb se = 0 by simp [seV, hO], show seE me a b e sb se = 50 by simp [seE, hO]]
    rw [hk] at ck
    go_enter Tryd.func49, Tryd.ntmps49
    go_wp2_with fail
    refine cr.mono ?_
    rintro e w1 ⟨rfl, rfl⟩
    go_wp2_with fail
    refine ct.mono ?_
    rintro e w1 ⟨rfl, rfl⟩
    go_wp2_with fail
    refine ck.mono ?_
    rintro e w1 ⟨rfl, rfl⟩
    go_wp2
    go_ret2
    exact ⟨rfl, rfl⟩
  by_cases h1 : egO me a b sb = true
  case neg =>
    have hO : seO me a b e sb se = false := by simp [seO, h1]
    rw [show seV me a b e sb se = 0 by simp [seV, hO], show seE me a b e sb se = 50 by simp [seE, hO]]
    rw [Bool.eq_false_iff.mpr h1] at c1
    go_enter Tryd.func49, Tryd.ntmps49
    go_wp2_with fail
    refine cr.mono ?_
    rintro e w1 ⟨rfl, rfl⟩
    go_wp2_with fail
    refine ct.mono ?_
    rintro e w1 ⟨rfl, rfl⟩
    go_wp2_with fail
    refine ck.mono ?_
    rintro e w1 ⟨rfl, rfl⟩
    go_wp2_with fail
    refine c1.mono ?_
    rintro e w1 ⟨rfl, rfl⟩
    go_wp2_with fail
    refine c2.mono ?_
    rintro e w1 ⟨rfl, rfl⟩
    go_wp2
    go_ret2
    exact ⟨rfl, rfl⟩
  rw [h1] at c1
  by_cases h2 : egO me a e se = true
  case neg =>
    have hO : seO me a b e sb se = false := by simp [seO, h2]
    rw [show seV me a b e sb se = 0 by simp [seV, hO], show seE me a b e sb se = 50 by simp [seE, hO]]
    rw [Bool.eq_false_iff.mpr h2] at c2
    go_enter Tryd.func49, Tryd.ntmps49
    go_wp2_with fail
    refine cr.mono ?_
    rintro e w1 ⟨rfl, rfl⟩
    go_wp2_with fail
    refine ct.mono ?_
    rintro e w1 ⟨rfl, rfl⟩
    go_wp2_with fail
    refine ck.mono ?_
    rintro e w1 ⟨rfl, rfl⟩
    go_wp2_with fail
    refine c1.mono ?_
    rintro e w1 ⟨rfl, rfl⟩
    go_wp2_with fail
    refine c2.mono ?_
    rintro e w1 ⟨rfl, rfl⟩
    go_wp2
    go_ret2
    exact ⟨rfl, rfl⟩
  rw [h2] at c2
  have hO : seO me a b e sb se = true := by simp [seO, hR, hT, hk, h1, h2]
  rw [show seV me a b e sb se = vd (egV me a b sb) (egV me a e se) by simp [seV, hO], show seE me a b e sb se = 0 by simp [seE, hO]]
  go_enter Tryd.func49, Tryd.ntmps49
  go_wp2_with fail
  refine cr.mono ?_
  rintro e w1 ⟨rfl, rfl⟩
  go_wp2_with fail
  refine ct.mono ?_
  rintro e w1 ⟨rfl, rfl⟩
  go_wp2_with fail
  refine ck.mono ?_
  rintro e w1 ⟨rfl, rfl⟩
  go_wp2_with fail
  refine c1.mono ?_
  rintro e w1 ⟨rfl, rfl⟩
  go_wp2_with fail
  refine c2.mono ?_
  rintro e w1 ⟨rfl, rfl⟩
  go_wp2_with fail
  refine cv.mono ?_
  rintro e w1 ⟨rfl, rfl⟩
  go_wp2
  go_ret2
  exact ⟨rfl, rfl⟩

end Go.Proofs.YtfhcphgjaobnoaaDoor
