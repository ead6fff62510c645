/-
  Lc1: The document's own lock words (varveref13): Right, reads, Readers, Writer, Against, Read, Write, Leave.
-/
import Derived.Test.YtafbchjmjfpilaaDoorLb2
set_option linter.unusedVariables false
set_option linter.unusedSimpArgs false
namespace Go.Proofs.YtafbchjmjfpilaaDoor
open Go.RowKit

section
set_option maxHeartbeats 2000000
set_option maxRecDepth 100000
theorem rworker_any (k : Int) (w : World) :
    Calls Tryd.prog 15 #[.int .i64 k] w fun e w' => e = .returned (.bool (isW k)) ∧ w' = w := by
  by_cases h1 : 0 ≤ k
  · by_cases h2 : k < 16
    · go_enter Tryd.func15, Tryd.ntmps15
      go_wp2
      go_ret
      exact ⟨ret_bool (by simp [isW, h1, h2]), rfl⟩
    · go_enter Tryd.func15, Tryd.ntmps15
      go_wp2
      go_ret
      exact ⟨ret_bool (by simp [isW, h1, h2]), rfl⟩
  · go_enter Tryd.func15, Tryd.ntmps15
    go_wp2
    go_ret
    exact ⟨ret_bool (by unfold isW; simp; omega), rfl⟩

theorem bit_eq {v k : Nat} : (((v : Int) / 2 ^ k).tmod 2 == 1) = v.testBit k := by
  have e : (v : Int) / 2 ^ k = ((v / 2 ^ k : Nat) : Int) := by simp
  rw [Nat.testBit_eq_decide_div_mod_eq, e]
  generalize v / 2 ^ k = a
  rw [Int.tmod_eq_emod_of_nonneg (by omega)]
  by_cases h : a % 2 = 1
  · rw [decide_eq_true h]; simp; omega
  · rw [decide_eq_false h]; simp; omega
/-- What is wrong with a call. -/
def wgV (v : Nat) (me : Int) : Int := if isW me = false then 2 else if Lk.rt v = false then 130 else 0
end
end Go.Proofs.YtafbchjmjfpilaaDoor
