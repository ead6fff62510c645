/-
  Layer 5: what the document's own functions do, and the laws that hold the program against them: WordPacks, WordSees.
-/
import Derived.Test.YtfhcphgjaobnoaaDoorWd2
set_option linter.unusedVariables false
set_option linter.unusedSimpArgs false
namespace Go.Proofs.YtfhcphgjaobnoaaDoor
open Go.RowKit

theorem rsplit_any (n : Int) (w : World) (h0 : 0 ≤ n) (hw9 : n ≤ 18446744073709551615) : Calls Tryd.prog 86 #[.int .u64 n] w fun e w' => e = .returned (.tuple #[.int .i64 (kd n), .int .i64 (ptT n), .int .i64 (ptN n)]) ∧ w' = w := by
  by_cases h1 : n < 1099511627776
  · have hk : kd n = 1 := by simp [kd, h1]
    rw [show ptT n = n by simp [ptT, hk], show ptN n = 0 by simp [ptN, hk], hk]
    go_enter Tryd.func86, Tryd.ntmps86
    go_wp2
    go_ret3
    exact ⟨rfl, rfl⟩
  by_cases h2 : n = 1099511627776
  · subst h2
    rw [show ptT 1099511627776 = 1099511627776 by decide, show ptN 1099511627776 = 0 by decide, show kd 1099511627776 = 2 by decide]
    go_enter Tryd.func86, Tryd.ntmps86
    go_wp2
    go_ret3
    exact ⟨rfl, rfl⟩
  by_cases h3 : 9223372036854775808 < n
  · by_cases h4 : n < 9223372036855824384
    · have hk : kd n = 3 := by simp [kd, h1, h2, h3, h4]
      rw [show ptT n = 0 by simp [ptT, hk], show ptN n = n - 9223372036854775808 by simp [ptN, hk], hk]
      have h5 : n - 9223372036854775808 < 1048576 := by omega
      go_enter Tryd.func86, Tryd.ntmps86
      go_wp2
      go_ret3
      exact ⟨rfl, rfl⟩
    · by_cases h9 : n ≤ 18446744073709551615
      · have hk : kd n = 0 := by simp [kd, h1, h2, h3, h4]
        rw [show ptT n = 0 by simp [ptT, hk], show ptN n = 0 by simp [ptN, hk], hk]
        have h5 : ¬ n - 9223372036854775808 < 1048576 := by omega
        go_enter Tryd.func86, Tryd.ntmps86
        go_wp2
        go_ret3
        exact ⟨rfl, rfl⟩
      · exact absurd hw9 h9
  · have hk : kd n = 0 := by simp [kd, h1, h2, h3]
    rw [show ptT n = 0 by simp [ptT, hk], show ptN n = 0 by simp [ptN, hk], hk]
    go_enter Tryd.func86, Tryd.ntmps86
    go_wp2
    go_ret3
    exact ⟨rfl, rfl⟩

theorem rparts_any (n : Int) (w : World) (h0 : 0 ≤ n) (hw9 : n ≤ 18446744073709551615) : Calls Tryd.prog 62 #[.int .u64 n] w fun e w' => e = .returned (.tuple #[.int .i64 (ptT n), .int .i64 (ptN n), .bool (ptO n)]) ∧ w' = w := by
  have c := rsplit_any n w h0 hw9
  unfold ptO
  go_enter Tryd.func62, Tryd.ntmps62
  go_wp2_with fail
  refine c.mono ?_
  rintro e w1 ⟨rfl, rfl⟩
  go_wp2
  go_ret3
  exact ⟨by by_cases hk : kd n = 0 <;> simp [hk], rfl⟩

/-- past, came. -/
def ps (w a : Int) : Int := if unS w = 0 ∨ unS w = 3 ∨ unT w > a then 2 else if unS w = 1 then 3 else 1
def cm (w s a : Int) : Int := if kd w = 3 then ps s a else if kd w = 2 ∨ ptT w > a then 2 else 1

/-- An edge, by its two tellers: for one who is not its owner. -/
theorem eg_cm {me a x s : Int} (hk : kd x ≠ 0) (hn : ¬ (kd x = 3 ∧ ptN x = me)) (ha : a < 1099511627776) :
    (cm x s a = 1 ∧ egV me a x s = 2) ∨ (cm x s a = 2 ∧ egV me a x s = 0) ∨ (cm x s a = 3 ∧ egV me a x s = 1 ∧ unO s = true) := by
  rcases kd_cases x with h | h | h | h
  · exact absurd h hk
  · have hp : ptT x = x := by simp [ptT, h]
    simp only [cm, egV, h, hp, byT]
    by_cases hx : x > a
    · right; left
      simp [hx]
    · left
      simp [hx]
  · have hx := kd_two h
    right; left
    simp only [cm, egV, h, byT]
    refine ⟨by simp, ?_⟩
    simp
    omega
  · have hm : ptN x ≠ me := fun e => hn ⟨h, e⟩
    simp only [cm, egV, h, if_true, if_neg hm, ps, byV, byT]
    have hb : ∀ u, unO u = false → unS u = 0 := fun u hu => by simp [unS, hu]
    by_cases hu : unO s = true
    · have hh := of_decide_eq_true (show hs (s / 4611686018427387904) (s % 4611686018427387904) = true from hu)
      have hS : unS s = s / 4611686018427387904 := by simp [unS, hu]
      rw [← hS] at hh
      obtain hq | hq | hq | hq : unS s = 0 ∨ unS s = 1 ∨ unS s = 2 ∨ unS s = 3 := by omega
      · simp [hq, hu]
      · by_cases ht : unT s ≤ a
        · have hl : ¬ a < unT s := by omega
          simp [hq, hu, ht, hl]
        · have hl : a < unT s := by omega
          simp [hq, hu, ht, hl]
      · by_cases ht : unT s ≤ a
        · have hl : ¬ a < unT s := by omega
          simp [hq, hu, hl]
        · have hl : a < unT s := by omega
          simp [hq, hu, hl]
      · simp [hq, hu]
    · have hz := hb s (Bool.eq_false_iff.mpr hu)
      simp [hz, hu]

end Go.Proofs.YtfhcphgjaobnoaaDoor
