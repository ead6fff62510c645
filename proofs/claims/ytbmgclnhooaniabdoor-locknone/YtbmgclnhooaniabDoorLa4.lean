/-
  La4: Of a nil graph there is nothing (LockNone).
-/
import Derived.Test.YtbmgclnhooaniabDoorLa3
set_option linter.unusedVariables false
set_option linter.unusedSimpArgs false
namespace Go.Proofs.YtbmgclnhooaniabDoor
open Go.RowKit

section
set_option maxHeartbeats 1000000
theorem wait_nil (k : Int) (s : Value) (w : World) : Calls Tryd.prog 6 #[.pointer none, .int .i64 k, s] w fun e w' => e = .returned (.int .i64 1) ∧ w' = w := by
  go_enter Tryd.func6, Tryd.ntmps6
  go_wp2
  go_ret
  exact ⟨rfl, rfl⟩
theorem cycle_nil (k : Int) (w : World) : Calls Tryd.prog 7 #[.pointer none, .int .i64 k] w fun e w' => e = .returned (.tuple #[.slice none 0 0, .bool false]) ∧ Below w.heap.size w w' := by
  go_enter Tryd.func7, Tryd.ntmps7
  go_wp2
  have b0 := (Boxed.new ((w.alloc (.cells #[.pointer none] 24)).alloc (.cells #[.int .i64 k] 3)) 22 (.slice none 0 0)).alloc (.cells #[.bool false] 4)
  have b1 := Boxed.new (((w.alloc (.cells #[.pointer none] 24)).alloc (.cells #[.int .i64 k] 3)).alloc (.cells #[.slice none 0 0] 22)) 4 (.bool false)
  simp only [World.size_alloc] at b0 b1
  have y0 := b0.cell
  have y1 := b1.cell
  refine bodyPost_ret (v := .tuple #[.slice none 0 0, .bool false]) (by simp [results, Tryd.results7, go_sem, y0, y1]) rfl ⟨rfl, ?_⟩
  exact ((below2 w _ _).alloc (by simp; omega) _).alloc (by simp; omega) _
theorem lockNone_walk (k : Int) (s : Value) (w : World) : Calls Tryd.prog 3 #[.int .i64 k, s] w fun e w' => e = .returned (.bool true) ∧ Below w.heap.size w w' := by
  have HS := hide2 (shown_any w)
  have HW := hide2 (fun w => wait_nil k s w)
  have HC := hide2 (fun w => cycle_nil k w)
  go_enter Tryd.func3, Tryd.ntmps3
  go_wp2_with fail
  refine HS.out.mono ?_
  rintro e w1 ⟨rfl, hw1⟩
  go_wp2_with fail
  refine (HW.out _).mono ?_
  rintro e w2 ⟨rfl, rfl⟩
  go_wp2_with fail
  refine (HC.out _).mono ?_
  rintro e w3 ⟨rfl, hw3⟩
  have B := hide2 (hw1.trans (hw3.mono hw1.size))
  clear hw1 hw3
  go_wp2
  go_ret
  exact ⟨rfl, B.out⟩
end
end Go.Proofs.YtbmgclnhooaniabDoor
