/-
  Lc1: The document's own lock words (varveref13): Right, reads, Readers, Writer, Against, Read, Write, Leave.
-/
import Derived.Test.YtbmgclnhooaniaaDoorLb2
set_option linter.unusedVariables false
set_option linter.unusedSimpArgs false
namespace Go.Proofs.YtbmgclnhooaniaaDoor
open Go.RowKit

section
set_option maxHeartbeats 2000000
set_option maxRecDepth 100000
theorem rright_any {v : Nat} (hlt : v < 18446744073709551616) (w : World) :
    Calls Tryd.prog 38 #[.int .u64 (v : Int)] w fun e w' => e = .returned (.bool (Lk.rt v)) ∧ w' = w := by
  by_cases h1 : v % 4294967296 < 65536
  · by_cases h2 : v / 4294967296 ≤ 16
    · have q1 : (v : Int) % 4294967296 < 65536 := by omega
      have q2 : (v : Int) / 4294967296 ≤ 16 := by omega
      go_enter Tryd.func38, Tryd.ntmps38
      go_wp2
      go_ret
      exact ⟨ret_bool (by simp [Lk.rt, h1, h2]), rfl⟩
    · have q1 : (v : Int) % 4294967296 < 65536 := by omega
      have q2 : ¬ (v : Int) / 4294967296 ≤ 16 := by omega
      go_enter Tryd.func38, Tryd.ntmps38
      go_wp2
      go_ret
      refine ⟨ret_bool ?_, rfl⟩
      unfold Lk.rt
      rw [decide_eq_true h1, decide_eq_false h2]
      simp; try omega
  · have q1 : ¬ (v : Int) % 4294967296 < 65536 := by omega
    go_enter Tryd.func38, Tryd.ntmps38
    go_wp2
    go_ret
    refine ⟨ret_bool ?_, rfl⟩
    unfold Lk.rt
    rw [decide_eq_false h1]
    simp; try omega
theorem rworker_any (k : Int) (w : World) :
    Calls Tryd.prog 41 #[.int .i64 k] w fun e w' => e = .returned (.bool (isW k)) ∧ w' = w := by
  by_cases h1 : 0 ≤ k
  · by_cases h2 : k < 16
    · go_enter Tryd.func41, Tryd.ntmps41
      go_wp2
      go_ret
      exact ⟨ret_bool (by simp [isW, h1, h2]), rfl⟩
    · go_enter Tryd.func41, Tryd.ntmps41
      go_wp2
      go_ret
      exact ⟨ret_bool (by simp [isW, h1, h2]), rfl⟩
  · go_enter Tryd.func41, Tryd.ntmps41
    go_wp2
    go_ret
    exact ⟨ret_bool (by unfold isW; simp; omega), rfl⟩

theorem bit_eq {v k : Nat} : (((v : Int) / 2 ^ k).tmod 2 == 1) = v.testBit k := by
  have e : (v : Int) / 2 ^ k = ((v / 2 ^ k : Nat) : Int) := by simp
  rw [Nat.testBit_eq_decide_div_mod_eq, e]
  generalize v / 2 ^ k = a
  rw [Int.tmod_eq_emod_of_nonneg (by omega)]
  by_cases h : a % 2 = 1
  · rw [decide_eq_true h]; simp; omega
  · rw [decide_eq_false h]; simp; omega
theorem rreads_any {v k : Nat} (hlt : v < 18446744073709551616) (hk : k < 64) (w : World) :
    Calls Tryd.prog 35 #[.int .u64 (v : Int), .int .i64 (k : Int)] w fun e w' => e = .returned (.bool (v.testBit k)) ∧ w' = w := by
  have hk2 : (k : Int) < 64 := by omega
  go_enter Tryd.func35, Tryd.ntmps35
  go_wp2
  go_ret
  exact ⟨ret_bool bit_eq, rfl⟩

/-- What is wrong with a call. -/
def wgV (v : Nat) (me : Int) : Int := if isW me = false then 2 else if Lk.rt v = false then 130 else 0
theorem rwrong_any {v : Nat} {me : Int} (hlt : v < 18446744073709551616) (w : World) :
    Calls Tryd.prog 34 #[.int .u64 (v : Int), .int .i64 me] w fun e w' => e = .returned (.int .i64 (wgV v me)) ∧ w' = w := by
  have HW := hide2 (fun w => rworker_any me w)
  have HR := hide2 (fun w => rright_any hlt w)
  unfold wgV
  cases hm : isW me <;> cases hr : Lk.rt v <;> rw [hm] at HW <;> rw [hr] at HR
  all_goals
    go_enter Tryd.func34, Tryd.ntmps34
    go_wp2_with fail
    refine (HW.out _).mono ?_
    rintro e w1 ⟨rfl, rfl⟩
    go_wp2_with fail
    refine (HR.out _).mono ?_
    rintro e w2 ⟨rfl, rfl⟩
    go_wp2
    go_ret
    exact ⟨rfl, rfl⟩

theorem rWriter_any {v : Nat} (hlt : v < 18446744073709551616) (w : World) :
    Calls Tryd.prog 17 #[.int .u64 (v : Int)] w fun e w' => e = .returned (.tuple #[.int .i64 ((wtV v).1 : Int), .bool (wtV v).2]) ∧ w' = w := by
  have HR := hide2 (fun w => rright_any hlt w)
  unfold wtV
  cases hr : Lk.rt v with
  | false =>
    rw [hr] at HR
    go_enter Tryd.func17, Tryd.ntmps17
    go_wp2_with fail
    refine (HR.out _).mono ?_
    rintro e w2 ⟨rfl, rfl⟩
    go_wp2
    go_ret2
    exact ⟨rfl, rfl⟩
  | true =>
    rw [hr] at HR
    have h := Lk.rt_iff.1 hr
    have hdiv : (v : Int) / 4294967296 = ((v / 4294967296 : Nat) : Int) := by omega
    have hx := h.x
    rw [if_neg (by decide)]
    generalize v / 4294967296 = x at *
    clear h hr
    cases x with
    | zero =>
      have hdiv0 : (v : Int) / 4294967296 = 0 := hdiv
      clear hdiv
      go_enter Tryd.func17, Tryd.ntmps17
      go_wp2_with fail
      refine (HR.out _).mono ?_
      rintro e w2 ⟨rfl, rfl⟩
      go_wp2
      go_ret2
      exact ⟨rfl, rfl⟩
    | succ y =>
      have hdiv1 : (v : Int) / 4294967296 = (y : Int) + 1 := by omega
      have hy0 : ((y : Int) + 1 == 0) = false := by simp; omega
      have hy1 : (y : Int) + 1 ≤ 16 := by omega
      have hsub : (y : Int) + 1 - 1 = (y : Int) := by omega
      clear hdiv hx
      go_enter Tryd.func17, Tryd.ntmps17
      go_wp2_with fail
      refine (HR.out _).mono ?_
      rintro e w2 ⟨rfl, rfl⟩
      go_wp2
      go_ret2
      refine ⟨?_, rfl⟩
      simp
end
end Go.Proofs.YtbmgclnhooaniaaDoor
