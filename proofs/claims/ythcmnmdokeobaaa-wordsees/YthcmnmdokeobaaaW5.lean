/-
  Layer 5: what the document's own functions do, and the laws that hold the program against them: WordPacks, WordSees.
-/
import Derived.Test.YthcmnmdokeobaaaW3
set_option linter.unusedVariables false
set_option linter.unusedSimpArgs false
namespace Go.Proofs.Ythcmnmdokeobaaa
open Go.RowKit

theorem rsplit_any (n : Int) (w : World) (h0 : 0 ≤ n) (hw9 : n ≤ 18446744073709551615) : Calls Try.prog 26 #[.int .u64 n] w fun e w' => e = .returned (.tuple #[.int .i64 (kd n), .int .i64 (ptT n), .int .i64 (ptN n)]) ∧ w' = w := by
  by_cases h1 : n < 1099511627776
  · have hk : kd n = 1 := by simp [kd, h1]
    rw [show ptT n = n by simp [ptT, hk], show ptN n = 0 by simp [ptN, hk], hk]
    go_enter Try.func26, Try.ntmps26
    go_wp2
    go_ret3
    exact ⟨rfl, rfl⟩
  by_cases h2 : n = 1099511627776
  · subst h2
    rw [show ptT 1099511627776 = 1099511627776 by decide, show ptN 1099511627776 = 0 by decide, show kd 1099511627776 = 2 by decide]
    go_enter Try.func26, Try.ntmps26
    go_wp2
    go_ret3
    exact ⟨rfl, rfl⟩
  by_cases h3 : 9223372036854775808 < n
  · by_cases h4 : n < 9223372036855824384
    · have hk : kd n = 3 := by simp [kd, h1, h2, h3, h4]
      rw [show ptT n = 0 by simp [ptT, hk], show ptN n = n - 9223372036854775808 by simp [ptN, hk], hk]
      have h5 : n - 9223372036854775808 < 1048576 := by omega
      go_enter Try.func26, Try.ntmps26
      go_wp2
      go_ret3
      exact ⟨rfl, rfl⟩
    · by_cases h9 : n ≤ 18446744073709551615
      · have hk : kd n = 0 := by simp [kd, h1, h2, h3, h4]
        rw [show ptT n = 0 by simp [ptT, hk], show ptN n = 0 by simp [ptN, hk], hk]
        have h5 : ¬ n - 9223372036854775808 < 1048576 := by omega
        go_enter Try.func26, Try.ntmps26
        go_wp2
        go_ret3
        exact ⟨rfl, rfl⟩
      · exact absurd hw9 h9
  · have hk : kd n = 0 := by simp [kd, h1, h2, h3]
    rw [show ptT n = 0 by simp [ptT, hk], show ptN n = 0 by simp [ptN, hk], hk]
    go_enter Try.func26, Try.ntmps26
    go_wp2
    go_ret3
    exact ⟨rfl, rfl⟩

theorem rparts_any (n : Int) (w : World) (h0 : 0 ≤ n) (hw9 : n ≤ 18446744073709551615) : Calls Try.prog 17 #[.int .u64 n] w fun e w' => e = .returned (.tuple #[.int .i64 (ptT n), .int .i64 (ptN n), .bool (ptO n)]) ∧ w' = w := by
  have c := rsplit_any n w h0 hw9
  unfold ptO
  go_enter Try.func17, Try.ntmps17
  go_wp2_with fail
  refine c.mono ?_
  rintro e w1 ⟨rfl, rfl⟩
  go_wp2
  go_ret3
  exact ⟨by by_cases hk : kd n = 0 <;> simp [hk], rfl⟩

theorem rtime_any (t : Int) (w : World) : Calls Try.prog 11 #[.int .i64 t] w fun e w' => e = .returned (.tuple #[.int .u64 (tmV t), .int .i64 (tmE t)]) ∧ w' = w := by
  by_cases h0 : 0 ≤ t
  · by_cases h1 : t < 1099511627776
    · have h := isT_of h0 h1
      rw [show tmV t = t by simp [tmV, h], show tmE t = 0 by simp [tmE, h]]
      go_enter Try.func11, Try.ntmps11
      go_wp2
      go_ret2
      exact ⟨rfl, rfl⟩
    · have h : isT t = false := by simp [isT, h1]
      rw [show tmV t = 0 by simp [tmV, h], show tmE t = 50 by simp [tmE, h]]
      go_enter Try.func11, Try.ntmps11
      go_wp2
      go_ret2
      exact ⟨rfl, rfl⟩
  · have h : isT t = false := by simp [isT, h0]
    rw [show tmV t = 0 by simp [tmV, h], show tmE t = 50 by simp [tmE, h]]
    go_enter Try.func11, Try.ntmps11
    go_wp2
    go_ret2
    exact ⟨rfl, rfl⟩

theorem rowner_any (n : Int) (w : World) : Calls Try.prog 13 #[.int .i64 n] w fun e w' => e = .returned (.tuple #[.int .u64 (owV n), .int .i64 (owE n)]) ∧ w' = w := by
  by_cases h0 : 1 ≤ n
  · by_cases h1 : n < 1048576
    · rw [show owV n = 9223372036854775808 + n by simp [owV, h0, h1], show owE n = 0 by simp [owE, h0, h1]]
      go_enter Try.func13, Try.ntmps13
      go_wp2
      go_ret2
      exact ⟨rfl, rfl⟩
    · rw [show owV n = 0 by simp [owV, h1], show owE n = 50 by simp [owE, h1]]
      go_enter Try.func13, Try.ntmps13
      go_wp2
      go_ret2
      exact ⟨rfl, rfl⟩
  · rw [show owV n = 0 by simp [owV, h0], show owE n = 50 by simp [owE, h0]]
    go_enter Try.func13, Try.ntmps13
    go_wp2
    go_ret2
    exact ⟨rfl, rfl⟩

theorem rstate_any (s t : Int) (w : World) : Calls Try.prog 15 #[.int .i64 s, .int .i64 t] w fun e w' => e = .returned (.tuple #[.int .u64 (stV s t), .int .i64 (stE s t)]) ∧ w' = w := by
  by_cases h : hs s t = true
  · obtain ⟨h1, h2, h3, h4⟩ := hs_num h
    rw [show stV s t = s * 4611686018427387904 + t by simp [stV, h], show stE s t = 0 by simp [stE, h]]
    have hd := of_decide_eq_true h
    obtain rfl | rfl | rfl | rfl : s = 0 ∨ s = 1 ∨ s = 2 ∨ s = 3 := by omega
    · obtain rfl : t = 0 := by omega
      clear hd h
      go_enter Try.func15, Try.ntmps15
      go_wp2
      go_ret2
      exact ⟨rfl, rfl⟩
    · clear hd h
      go_enter Try.func15, Try.ntmps15
      go_wp2
      go_ret2
      exact ⟨rfl, rfl⟩
    · clear hd h
      go_enter Try.func15, Try.ntmps15
      go_wp2
      go_ret2
      exact ⟨rfl, rfl⟩
    · obtain rfl : t = 0 := by omega
      clear hd h
      go_enter Try.func15, Try.ntmps15
      go_wp2
      go_ret2
      exact ⟨rfl, rfl⟩
  · rw [show stV s t = 0 by simp [stV, h], show stE s t = 50 by simp [stE, h]]
    have hd : ¬ ((s = 0 ∨ s = 3) ∧ t = 0 ∨ (s = 1 ∨ s = 2) ∧ 0 ≤ t ∧ t < 1099511627776) := fun x => h (decide_eq_true x)
    by_cases h1 : 0 ≤ s
    case neg =>
      clear hd h
      go_enter Try.func15, Try.ntmps15
      go_wp2
      go_ret2
      exact ⟨rfl, rfl⟩
    by_cases h2 : s ≤ 3
    case neg =>
      clear hd h
      go_enter Try.func15, Try.ntmps15
      go_wp2
      go_ret2
      exact ⟨rfl, rfl⟩
    by_cases h3 : 0 ≤ t
    case neg =>
      clear hd h
      go_enter Try.func15, Try.ntmps15
      go_wp2
      go_ret2
      exact ⟨rfl, rfl⟩
    by_cases h4 : t < 1099511627776
    case neg =>
      clear hd h
      go_enter Try.func15, Try.ntmps15
      go_wp2
      go_ret2
      exact ⟨rfl, rfl⟩
    have h5 : ¬ t = 0 := by omega
    have h5b : (t != 0) = true := by simp [h5]
    obtain rfl | rfl : s = 0 ∨ s = 3 := by omega
    · clear hd h
      go_enter Try.func15, Try.ntmps15
      go_wp2
      go_ret2
      exact ⟨rfl, rfl⟩
    · clear hd h
      go_enter Try.func15, Try.ntmps15
      go_wp2
      go_ret2
      exact ⟨rfl, rfl⟩

theorem runstate_any (n : Int) (w : World) (h0 : 0 ≤ n) (h9 : n ≤ 18446744073709551615) : Calls Try.prog 19 #[.int .u64 n] w fun e w' => e = .returned (.tuple #[.int .i64 (unS n), .int .i64 (unT n), .bool (unO n)]) ∧ w' = w := by
  have c := rstate_any (n / 4611686018427387904) (n % 4611686018427387904) w
  by_cases h : unO n = true
  · rw [show stE (n / 4611686018427387904) (n % 4611686018427387904) = 0 by simp only [stE]; exact if_pos h] at c
    rw [show unS n = n / 4611686018427387904 by simp [unS, h], show unT n = n % 4611686018427387904 by simp [unT, h], h]
    go_enter Try.func19, Try.ntmps19
    go_wp2_with fail
    refine c.mono ?_
    rintro e w1 ⟨rfl, rfl⟩
    go_wp2
    go_ret3
    exact ⟨rfl, rfl⟩
  · rw [show stE (n / 4611686018427387904) (n % 4611686018427387904) = 50 by simp only [stE]; exact if_neg h] at c
    rw [show unS n = 0 by simp [unS, h], show unT n = 0 by simp [unT, h], Bool.eq_false_iff.mpr h]
    go_enter Try.func19, Try.ntmps19
    go_wp2_with fail
    refine c.mono ?_
    rintro e w1 ⟨rfl, rfl⟩
    go_wp2
    go_ret3
    exact ⟨rfl, rfl⟩

/-- past, came. -/
def ps (w a : Int) : Int := if unS w = 0 ∨ unS w = 3 ∨ unT w > a then 2 else if unS w = 1 then 3 else 1
def cm (w s a : Int) : Int := if kd w = 3 then ps s a else if kd w = 2 ∨ ptT w > a then 2 else 1

theorem rpast_any (n a : Int) (w : World) (h0 : 0 ≤ n) (h9 : n ≤ 18446744073709551615) : Calls Try.prog 32 #[.int .u64 n, .int .i64 a] w fun e w' => e = .returned (.int .i64 (ps n a)) ∧ w' = w := by
  have c := runstate_any n w h0 h9
  unfold ps
  generalize unS n = s at *
  generalize unT n = t at *
  by_cases h1 : s = 0
  · subst h1
    rw [if_pos (Or.inl rfl)]
    go_enter Try.func32, Try.ntmps32
    go_wp2_with fail
    refine c.mono ?_
    rintro e w1 ⟨rfl, rfl⟩
    go_wp2
    go_ret
    exact ⟨rfl, rfl⟩
  by_cases h3 : s = 3
  · subst h3
    rw [if_pos (Or.inr (Or.inl rfl))]
    go_enter Try.func32, Try.ntmps32
    go_wp2_with fail
    refine c.mono ?_
    rintro e w1 ⟨rfl, rfl⟩
    go_wp2
    go_ret
    exact ⟨rfl, rfl⟩
  by_cases ht : t > a
  · rw [if_pos (Or.inr (Or.inr ht))]
    go_enter Try.func32, Try.ntmps32
    go_wp2_with fail
    refine c.mono ?_
    rintro e w1 ⟨rfl, rfl⟩
    go_wp2
    go_ret
    exact ⟨rfl, rfl⟩
  rw [if_neg (by omega)]
  by_cases h2 : s = 1
  · subst h2
    rw [if_pos rfl]
    have hb : ¬ a < t := by omega
    go_enter Try.func32, Try.ntmps32
    go_wp2_with fail
    refine c.mono ?_
    rintro e w1 ⟨rfl, rfl⟩
    go_wp2
    go_ret
    exact ⟨rfl, rfl⟩
  · rw [if_neg h2]
    have hb : (s == 0 || s == 3 || decide (a < t)) = false := by simp [h1, h3]; omega
    go_enter Try.func32, Try.ntmps32
    go_wp2_with fail
    refine c.mono ?_
    rintro e w1 ⟨rfl, rfl⟩
    go_wp2
    go_ret
    exact ⟨rfl, rfl⟩

theorem rcame_any (n s a : Int) (w : World) (h0 : 0 ≤ n) (h9 : n ≤ 18446744073709551615) (s0 : 0 ≤ s) (s9 : s ≤ 18446744073709551615) : Calls Try.prog 29 #[.int .u64 n, .int .u64 s, .int .i64 a] w fun e w' => e = .returned (.int .i64 (cm n s a)) ∧ w' = w := by
  have c := rsplit_any n w h0 h9
  have cp := rpast_any s a w s0 s9
  by_cases h3 : kd n = 3
  · rw [show cm n s a = ps s a by simp [cm, h3]]
    rw [h3] at c
    go_enter Try.func29, Try.ntmps29
    go_wp2_with fail
    refine c.mono ?_
    rintro e w1 ⟨rfl, rfl⟩
    go_wp2_with fail
    refine cp.mono ?_
    rintro e w1 ⟨rfl, rfl⟩
    go_wp2
    go_ret
    exact ⟨rfl, rfl⟩
  by_cases h2 : kd n = 2
  · rw [show cm n s a = 2 by simp [cm, h2]]
    rw [h2] at c
    go_enter Try.func29, Try.ntmps29
    go_wp2_with fail
    refine c.mono ?_
    rintro e w1 ⟨rfl, rfl⟩
    go_wp2
    go_ret
    exact ⟨rfl, rfl⟩
  by_cases ht : ptT n > a
  · rw [show cm n s a = 2 by simp [cm, h3, ht]]
    go_enter Try.func29, Try.ntmps29
    go_wp2_with fail
    refine c.mono ?_
    rintro e w1 ⟨rfl, rfl⟩
    go_wp2
    go_ret
    exact ⟨rfl, rfl⟩
  · rw [show cm n s a = 1 by simp [cm, h3, h2, ht]]
    have hb : (kd n == 2 || decide (a < ptT n)) = false := by simp [h2]; omega
    go_enter Try.func29, Try.ntmps29
    go_wp2_with fail
    refine c.mono ?_
    rintro e w1 ⟨rfl, rfl⟩
    go_wp2
    go_ret
    exact ⟨rfl, rfl⟩

/-- An edge, by its two tellers: for one who is not its owner. -/
theorem eg_cm {me a x s : Int} (hk : kd x ≠ 0) (hn : ¬ (kd x = 3 ∧ ptN x = me)) (ha : a < 1099511627776) :
    (cm x s a = 1 ∧ egV me a x s = 2) ∨ (cm x s a = 2 ∧ egV me a x s = 0) ∨ (cm x s a = 3 ∧ egV me a x s = 1 ∧ unO s = true) := by
  rcases kd_cases x with h | h | h | h
  · exact absurd h hk
  · have hp : ptT x = x := by simp [ptT, h]
    simp only [cm, egV, h, hp, byT]
    by_cases hx : x > a
    · right; left
      simp [hx]
    · left
      simp [hx]
  · have hx := kd_two h
    right; left
    simp only [cm, egV, h, byT]
    refine ⟨by simp, ?_⟩
    simp
    omega
  · have hm : ptN x ≠ me := fun e => hn ⟨h, e⟩
    simp only [cm, egV, h, if_true, if_neg hm, ps, byV, byT]
    have hb : ∀ u, unO u = false → unS u = 0 := fun u hu => by simp [unS, hu]
    by_cases hu : unO s = true
    · have hh := of_decide_eq_true (show hs (s / 4611686018427387904) (s % 4611686018427387904) = true from hu)
      have hS : unS s = s / 4611686018427387904 := by simp [unS, hu]
      rw [← hS] at hh
      obtain hq | hq | hq | hq : unS s = 0 ∨ unS s = 1 ∨ unS s = 2 ∨ unS s = 3 := by omega
      · simp [hq, hu]
      · by_cases ht : unT s ≤ a
        · have hl : ¬ a < unT s := by omega
          simp [hq, hu, ht, hl]
        · have hl : a < unT s := by omega
          simp [hq, hu, ht, hl]
      · by_cases ht : unT s ≤ a
        · have hl : ¬ a < unT s := by omega
          simp [hq, hu, hl]
        · have hl : a < unT s := by omega
          simp [hq, hu, hl]
      · simp [hq, hu]
    · have hz := hb s (Bool.eq_false_iff.mpr hu)
      simp [hz, hu]

end Go.Proofs.Ythcmnmdokeobaaa
