/-
  Layer 5: WordPacks.
-/
import Derived.Test.YthcmnmdokeobaaaW5
set_option linter.unusedVariables false
set_option linter.unusedSimpArgs false
namespace Go.Proofs.Ythcmnmdokeobaaa
open Go.RowKit

set_option maxRecDepth 100000 in
set_option maxHeartbeats 1600000 in
/-- WordPacks' walk. -/
theorem packs_walk (t n s x : Int) (w : World) (x0 : 0 ≤ x) (x9 : x ≤ 18446744073709551615) :
    Calls Try.prog 3 #[.int .i64 t, .int .i64 n, .int .i64 s, .int .u64 x] w fun e w' => e = .returned (.bool true) ∧ Below w.heap.size w w' := by
  have cs := shown_any w
  have c1 := time_any t w
  have c2 := rtime_any t w
  have c3 := owner_any n w
  have c4 := rowner_any n w
  have c5 := state_any s t w
  have c6 := rstate_any s t w
  have c7 := parts_any x w x0
  have c8 := rparts_any x w x0 x9
  have c9 := unstate_any x w x0 x9
  have c10 := runstate_any x w x0 x9
  generalize tmV t = v1 at *
  generalize tmE t = v2 at *
  generalize owV n = v3 at *
  generalize owE n = v4 at *
  generalize stV s t = v5 at *
  generalize stE s t = v6 at *
  generalize ptT x = v7 at *
  generalize ptN x = v8 at *
  generalize ptO x = v9 at *
  generalize unS x = v10 at *
  generalize unT x = v11 at *
  generalize unO x = v12 at *
  go_enter Try.func3, Try.ntmps3
  go_wp2_with fail
  refine cs.mono ?_
  rintro e w1 ⟨rfl, rfl⟩
  go_wp2_with fail
  refine c1.mono ?_
  rintro e w1 ⟨rfl, rfl⟩
  go_wp2_with fail
  refine c2.mono ?_
  rintro e w1 ⟨rfl, rfl⟩
  go_wp2_with fail
  refine c3.mono ?_
  rintro e w1 ⟨rfl, rfl⟩
  go_wp2_with fail
  refine c4.mono ?_
  rintro e w1 ⟨rfl, rfl⟩
  go_wp2_with fail
  refine c5.mono ?_
  rintro e w1 ⟨rfl, rfl⟩
  go_wp2_with fail
  refine c6.mono ?_
  rintro e w1 ⟨rfl, rfl⟩
  go_wp2_with fail
  refine c7.mono ?_
  rintro e w1 ⟨rfl, rfl⟩
  go_wp2_with fail
  refine c8.mono ?_
  rintro e w1 ⟨rfl, rfl⟩
  go_wp2_with fail
  refine c9.mono ?_
  rintro e w1 ⟨rfl, rfl⟩
  go_wp2_with fail
  refine c10.mono ?_
  rintro e w1 ⟨rfl, rfl⟩
  go_wp2
  go_ret
  exact ⟨rfl, Below.refl _ _⟩
end Go.Proofs.Ythcmnmdokeobaaa
