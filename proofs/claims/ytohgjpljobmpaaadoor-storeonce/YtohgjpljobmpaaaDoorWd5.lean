/-
  Layer 5: what the document's own functions do, and the laws that hold the program against them: WordPacks, WordSees.
-/
import Derived.Test.YtohgjpljobmpaaaDoorWd2
set_option linter.unusedVariables false
set_option linter.unusedSimpArgs false
namespace Go.Proofs.YtohgjpljobmpaaaDoor
open Go.RowKit

theorem rowner_any (n : Int) (w : World) : Calls Tryd.prog 18 #[.int .i64 n] w fun e w' => e = .returned (.tuple #[.int .u64 (owV n), .int .i64 (owE n)]) ∧ w' = w := by
  by_cases h0 : 1 ≤ n
  · by_cases h1 : n < 1048576
    · rw [show owV n = 9223372036854775808 + n by simp [owV, h0, h1], show owE n = 0 by simp [owE, h0, h1]]
      go_enter Tryd.func18, Tryd.ntmps18
      go_wp2
      go_ret2
      exact ⟨rfl, rfl⟩
    · rw [show owV n = 0 by simp [owV, h1], show owE n = 50 by simp [owE, h1]]
      go_enter Tryd.func18, Tryd.ntmps18
      go_wp2
      go_ret2
      exact ⟨rfl, rfl⟩
  · rw [show owV n = 0 by simp [owV, h0], show owE n = 50 by simp [owE, h0]]
    go_enter Tryd.func18, Tryd.ntmps18
    go_wp2
    go_ret2
    exact ⟨rfl, rfl⟩

/-- past, came. -/
def ps (w a : Int) : Int := if unS w = 0 ∨ unS w = 3 ∨ unT w > a then 2 else if unS w = 1 then 3 else 1
def cm (w s a : Int) : Int := if kd w = 3 then ps s a else if kd w = 2 ∨ ptT w > a then 2 else 1

/-- An edge, by its two tellers: for one who is not its owner. -/
theorem eg_cm {me a x s : Int} (hk : kd x ≠ 0) (hn : ¬ (kd x = 3 ∧ ptN x = me)) (ha : a < 1099511627776) :
    (cm x s a = 1 ∧ egV me a x s = 2) ∨ (cm x s a = 2 ∧ egV me a x s = 0) ∨ (cm x s a = 3 ∧ egV me a x s = 1 ∧ unO s = true) := by
  rcases kd_cases x with h | h | h | h
  · exact absurd h hk
  · have hp : ptT x = x := by simp [ptT, h]
    simp only [cm, egV, h, hp, byT]
    by_cases hx : x > a
    · right; left
      simp [hx]
    · left
      simp [hx]
  · have hx := kd_two h
    right; left
    simp only [cm, egV, h, byT]
    refine ⟨by simp, ?_⟩
    simp
    omega
  · have hm : ptN x ≠ me := fun e => hn ⟨h, e⟩
    simp only [cm, egV, h, if_true, if_neg hm, ps, byV, byT]
    have hb : ∀ u, unO u = false → unS u = 0 := fun u hu => by simp [unS, hu]
    by_cases hu : unO s = true
    · have hh := of_decide_eq_true (show hs (s / 4611686018427387904) (s % 4611686018427387904) = true from hu)
      have hS : unS s = s / 4611686018427387904 := by simp [unS, hu]
      rw [← hS] at hh
      obtain hq | hq | hq | hq : unS s = 0 ∨ unS s = 1 ∨ unS s = 2 ∨ unS s = 3 := by omega
      · simp [hq, hu]
      · by_cases ht : unT s ≤ a
        · have hl : ¬ a < unT s := by omega
          simp [hq, hu, ht, hl]
        · have hl : a < unT s := by omega
          simp [hq, hu, ht, hl]
      · by_cases ht : unT s ≤ a
        · have hl : ¬ a < unT s := by omega
          simp [hq, hu, hl]
        · have hl : a < unT s := by omega
          simp [hq, hu, hl]
      · simp [hq, hu]
    · have hz := hb s (Bool.eq_false_iff.mpr hu)
      simp [hz, hu]

end Go.Proofs.YtohgjpljobmpaaaDoor
