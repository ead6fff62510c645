/-
  HashAlone, where there is no table.
-/
import Derived.Test.YtbpihkojmbfccaaDoorHc1
set_option linter.unusedVariables false
set_option linter.unusedSimpArgs false
namespace Go.Proofs.YtbpihkojmbfccaaDoor
open Go.RowKit Go.Maps Go.Sort

section
variable {w : World}
set_option maxRecDepth 100000 in
set_option maxHeartbeats 4000000 in
theorem alone_none (size b : Int) (v : Value) (hT : Tab w) (hs : size < 1 ∨ 65536 < size) :
    Calls Tryd.prog 3 #[.int .i64 size, .int .i64 b, v] w fun e w' => e = .returned (.bool true) ∧ Below w.heap.size w w' := by
  have HS := hide2 (hshown_any hT)
  clear hT
  go_enter Tryd.func3, Tryd.ntmps3
  go_wp2_with fail
  refine HS.out.mono ?_
  rintro e w1 ⟨rfl, hb1⟩
  have HM := hide2 (made_none (w := w1) size b hs)
  clear HS
  go_wp2_with fail
  refine HM.out.mono ?_
  rintro e w2 ⟨rfl, q2⟩
  subst q2
  clear HM
  rcases Decidable.em (size < 1) with h1 | h1
  · have d1 : decide (1 ≤ size) = false := by simp; omega
    clear hs
    go_wp2
    go_ret
    exact ⟨rfl, hb1⟩
  · have d1 : decide (1 ≤ size) = true := by simp; omega
    have d2 : decide (size ≤ 65536) = false := by simp; omega
    clear hs
    go_wp2
    go_ret
    exact ⟨rfl, hb1⟩

set_option maxRecDepth 100000 in
set_option maxHeartbeats 4000000 in
theorem alone_arena (size : Nat) (b : Int) (v : Value) (hT : Tab w) (h1 : 1 ≤ size) (h2 : size ≤ 65536) (h3 : b < 1 ∨ 256 < b ∨ (size : Int) < b) :
    Calls Tryd.prog 3 #[.int .i64 (size : Int), .int .i64 b, v] w fun e w' => e = .returned (.bool true) ∧ Below w.heap.size w w' := by
  have HS := hide2 (hshown_any hT)
  have HT0 := hide2 hT
  have hw0 := hT.1
  clear hT
  have d1 : decide ((1 : Int) ≤ (size : Int)) = true := by simp; omega
  have d2 : decide ((size : Int) ≤ 65536) = true := by simp; omega
  go_enter Tryd.func3, Tryd.ntmps3
  go_wp2_with fail
  refine HS.out.mono ?_
  rintro e w1 ⟨rfl, hb1⟩
  have HM := hide2 (made_arena (HT0.out.below hb1 hw0) size b h1 h2 h3)
  have HB1 := hide2 hb1
  have hs1 := hb1.size
  clear HS hb1
  go_wp2_with fail
  refine HM.out.mono ?_
  rintro e w2 ⟨d, g, T, N, m, F, rfl, hA, hc, hb2⟩
  have hu := Used_any hA
  rw [hc] at hu
  have HU := hide2 hu
  have HB2 : Hid (Below w.heap.size w w2) := hide2 (HB1.out.trans ⟨hb2.os, hb2.tape, hb2.output, hb2.size, fun j hj => hb2.block j (by omega)⟩)
  clear HM hA hc hb2 hu
  rcases Decidable.em (b < 1) with e1 | e1
  · have d3 : decide (b < 1) = true := decide_eq_true e1
    clear h3
    go_wp2_with fail
    refine HU.out.mono ?_
    rintro e w3 ⟨rfl, q3⟩
    subst q3
    go_wp2
    go_ret
    exact ⟨rfl, HB2.out⟩
  · have d3 : decide (b < 1) = false := decide_eq_false e1
    rcases Decidable.em (256 < b) with e2 | e2
    · have d4 : decide (256 < b) = true := decide_eq_true e2
      clear h3
      go_wp2_with fail
      refine HU.out.mono ?_
      rintro e w3 ⟨rfl, q3⟩
      subst q3
      go_wp2
      go_ret
      exact ⟨rfl, HB2.out⟩
    · have d4 : decide (256 < b) = false := decide_eq_false e2
      have d5 : decide ((size : Int) < b) = true := decide_eq_true (by omega)
      clear h3
      go_wp2_with fail
      refine HU.out.mono ?_
      rintro e w3 ⟨rfl, q3⟩
      subst q3
      go_wp2
      go_ret
      exact ⟨rfl, HB2.out⟩
end
end Go.Proofs.YtbpihkojmbfccaaDoor
