/-
  Ld3: The youngest of a cycle goes (LockVictims).
-/
import Derived.Test.YtbmgclnhooaniaaDoorLd2
set_option linter.unusedVariables false
set_option linter.unusedSimpArgs false
namespace Go.Proofs.YtbmgclnhooaniaaDoor
open Go.RowKit

section
set_option maxHeartbeats 4000000
set_option maxRecDepth 100000
variable {w : World} {ao bo : Option Addr} {len cap len2 cap2 : Nat} {cs l : List Int}
theorem lockVictims_walk (hT : Tab w) (h : Ints .i64 w ao len cap cs) (h2 : Ints .i64 w bo len2 cap2 l) :
    Calls Tryd.prog 5 #[.slice ao len cap, .slice bo len2 cap2] w fun e w' => e = .returned (.bool true) ∧ Below w.heap.size w w' := by
  have HS := hide2 (shown_any w)
  have HT := hide2 hT
  have H := hide2 h
  have H2 := hide2 h2
  clear h h2 hT
  go_enter Tryd.func5, Tryd.ntmps5
  go_wp2_with fail
  refine HS.out.mono ?_
  rintro e w1 ⟨rfl, hw1⟩
  have B1 := hide2 hw1
  have HV := hide2 (Victim_any (HT.out.keep hw1) (H.out.keep hw1) (H2.out.keep hw1))
  clear hw1 HS
  go_wp2_with fail
  refine HV.out.mono ?_
  rintro e w2 ⟨⟨⟨a0, a1⟩, va, rfl⟩, hw2⟩
  have B2 := hide2 (B1.out.trans (hw2.mono B1.out.size))
  have HR := hide2 (rVictim_any (H.out.keep B2.out) (H2.out.keep B2.out))
  have VA := hide2 va
  clear hw2 B1 HV va
  go_wp2_with fail
  refine HR.out.mono ?_
  rintro e w3 ⟨⟨⟨b0, b1⟩, vb, rfl⟩, rfl⟩
  obtain ⟨rfl, rfl⟩ := Prod.mk.inj (vic_only VA.out vb)
  clear vb VA HR
  go_wp2
  go_ret
  exact ⟨rfl, B2.out⟩
end
end Go.Proofs.YtbmgclnhooaniaaDoor
