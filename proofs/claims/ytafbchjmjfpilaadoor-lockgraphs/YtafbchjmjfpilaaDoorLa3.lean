/-
  La3: Write, Leave, Writer; all calls told in one way each.
-/
import Derived.Test.YtafbchjmjfpilaaDoorLa2
set_option linter.unusedVariables false
set_option linter.unusedSimpArgs false
namespace Go.Proofs.YtafbchjmjfpilaaDoor
open Go.RowKit

section
set_option maxHeartbeats 1000000
/-- What a call of Read, of Write answers. -/
def rdV (v : Nat) (me : Int) : Nat × Bool × Int := if isW me = false then (0, false, 2) else if Lk.rt v = false then (0, false, 130) else if Lk.agn v me.toNat false = [] then (Lk.rdd v me.toNat, true, 0) else (0, false, 0)
def wrV (v : Nat) (me : Int) : Nat × Bool × Int := if isW me = false then (0, false, 2) else if Lk.rt v = false then (0, false, 130) else if Lk.agn v me.toNat true = [] then (Lk.wtd v me.toNat, true, 0) else (0, false, 0)
def ans3 (a : Nat × Bool × Int) : Ending := .returned (.tuple #[.int .u64 (a.1 : Int), .bool a.2.1, .int .i64 a.2.2])
theorem isW_toNat {me : Int} (h : isW me = true) : (me.toNat : Int) = me ∧ me.toNat < 16 := by have := isW_iff.1 h; omega
theorem notFalse {b : Bool} (h : ¬ b = false) : b = true := by cases b with
  | true => rfl
  | false => exact absurd rfl h

theorem Read_any {v : Nat} {me : Int} (hlt : v < 18446744073709551616) (w : World) :
    Calls Tryd.prog 12 #[.int .u64 (v : Int), .int .i64 me] w fun e w' => e = ans3 (rdV v me) ∧ Below w.heap.size w w' := by
  unfold ans3 rdV
  by_cases h : isW me = false
  · rw [if_pos h]; exact read_none h w
  · rw [if_neg h]
    have h1 := notFalse h
    obtain ⟨e, hm⟩ := isW_toNat h1
    by_cases hr : Lk.rt v = false
    · rw [if_pos hr]; exact read_form h1 hlt hr w
    · rw [if_neg hr]
      have hv := Lk.rt_iff.1 (notFalse hr)
      by_cases ha : Lk.agn v me.toNat false = []
      · rw [if_pos ha]
        have := read_ok hv hm ha w
        rwa [e] at this
      · rw [if_neg ha]
        have := read_way hv hm ha w
        rwa [e] at this
/-- The head of each law: a first reader may read. -/
theorem shown_any (w : World) : Calls Tryd.prog 5 #[] w fun e w' => e = .returned (.bool true) ∧ Below w.heap.size w w' := by
  have hr : rdV 0 1 = (2, true, 0) := by decide
  have HR := hide2 (Read_any (v := 0) (me := 1) (by decide) w)
  rw [hr] at HR
  unfold ans3 at HR
  go_enter Tryd.func5, Tryd.ntmps5
  go_wp2_with fail
  refine HR.out.mono ?_
  rintro e w1 ⟨rfl, hw1⟩
  go_wp2
  go_ret
  exact ⟨rfl, hw1⟩
end
end Go.Proofs.YtafbchjmjfpilaaDoor
