/-
  The law's own 'shown'; CellsNone's walk.
-/
import Derived.Test.YtiflchilmogdoaaDoorC8
set_option linter.unusedVariables false
set_option linter.unusedSimpArgs false
namespace Go.Proofs.YtiflchilmogdoaaDoor
open Go.RowKit

theorem Tab.below {n : Nat} {w w' : World} (h : Tab w) (k : Below n w w') (hn : 0 < n) : Tab w' :=
  ⟨Nat.lt_of_lt_of_le h.1 k.size, fun j hj => (k.cell (p := ⟨0, j, none⟩) hn).trans (h.2 j hj)⟩
/-- What is done to an arena of one's own leaves all else. -/
theorem Fr.own {d g n : Nat} {w w' : World} (h : Fr (fun j => j = d ∨ j = g) w w') (hd : n ≤ d) (hg : n ≤ g) (hn : n ≤ w.heap.size) : Below n w w' := h.to (fun k hk e => by omega) hn
theorem Fr.none {n : Nat} {w w' : World} (h : Fr (fun _ => False) w w') (hn : n ≤ w.heap.size) : Below n w w' := h.to (fun k hk e => e) hn
theorem below_drewN (n : Nat) (w : World) (q : Nat) : Below n w (w.drewN q) := ⟨rfl, rfl, rfl, Nat.le_refl _, fun _ _ => rfl⟩

set_option maxRecDepth 100000 in
set_option maxHeartbeats 1000000 in
theorem shown_any (w : World) (hT : Tab w) : Calls Tryd.prog 9 #[] w fun e w' => e = .returned (.bool true) ∧ Below w.heap.size w w' := by
  have hN := New_any 2 w (by decide) (by decide)
  have HN := hide2 hN
  have h0 := hT.1
  clear hN
  go_enter Tryd.func9, Tryd.ntmps9
  go_wp2_with fail
  refine HN.out.mono ?_
  rintro e w1 ⟨rfl, ⟨F, hA⟩, hB⟩
  have hT1 := hT.below hB h0
  have hs1 := hB.size
  have HA := hide2 (Alloc_one hA hT1 0 (by decide) (fun j hj => by omega) (by omega) (by omega))
  clear HN
  go_wp2_with fail
  refine HA.out.mono ?_
  rintro e w2 ⟨rfl, hA2, hF2⟩
  have hB2 := hF2.own (n := w.heap.size) (by omega) (by omega) (by omega)
  have HS := hide2 (Store_any hA2 0 9 (by decide) (by decide))
  clear HA
  go_wp2_with fail
  refine HS.out.mono ?_
  rintro e w3 ⟨v, x, rfl, hD⟩
  obtain ⟨-, rfl, hA3⟩ := hD.yes (by decide)
  have hB3 := hD.fr.own (n := w.heap.size) (by omega) (by omega) (Nat.le_trans hs1 hF2.size)
  have HL := hide2 (Load_any hA3 0 (by decide))
  clear HS hD
  go_wp2_with fail
  refine HL.out.mono ?_
  rintro e w4 ⟨v, x, rfl, hD⟩
  obtain ⟨hv, rfl, hA4⟩ := hD.yes (by decide)
  have hv9 : v = 9 := by rw [hv]; decide
  subst hv9
  have hB4 := hD.fr.own (n := w.heap.size) (by omega) (by omega) (Nat.le_trans (Nat.le_trans hs1 hF2.size) hB3.size)
  have hB5 := ((hB.trans hB2).trans hB3).trans hB4
  clear HL hD hv hA4 hA3 hA2 hA hB hB2 hB3 hB4 hF2 hT1 hT
  go_wp2
  go_ret
  exact ⟨rfl, hB5⟩

set_option maxRecDepth 100000 in
set_option maxHeartbeats 2000000 in
theorem none_walk (c v : Int) (w : World) (hT : Tab w) : Calls Tryd.prog 7 #[.int .i64 c, .int .u64 v] w fun e w' => e = .returned (.bool true) ∧ Below w.heap.size w w' := by
  have HN := hide2 (shown_any w hT)
  go_enter Tryd.func7, Tryd.ntmps7
  go_wp2_with fail
  refine HN.out.mono ?_
  rintro e w1 ⟨rfl, hB⟩
  have hs1 := hB.size
  clear HN
  go_wp2_with fail
  refine Alloc_nil.mono ?_
  rintro e w2 ⟨rfl, rfl⟩
  go_wp2_with fail
  refine (Free_nil c).mono ?_
  rintro e w2' ⟨rfl, rfl⟩
  go_wp2_with fail
  refine (Load_nil c).mono ?_
  rintro e w3 ⟨rfl, hF⟩
  have hB3 := hB.trans (hF.none hs1)
  have hs3 := hB3.size
  clear hF hB hs1
  go_wp2_with fail
  refine (Store_nil c v).mono ?_
  rintro e w4 ⟨rfl, hF⟩
  have hB4 := hB3.trans (hF.none hs3)
  have hs4 := hB4.size
  clear hF hB3 hs3
  go_wp2_with fail
  refine (CAS_nil c v v).mono ?_
  rintro e w5 ⟨rfl, hF⟩
  have hB5 := hB4.trans (hF.none hs4)
  have hs5 := hB5.size
  clear hF hB4 hs4
  go_wp2_with fail
  refine (Add_nil c v).mono ?_
  rintro e w6 ⟨rfl, hF⟩
  have hB6 := hB5.trans (hF.none hs5)
  have hs6 := hB6.size
  clear hF hB5 hs5
  go_wp2_with fail
  refine (Do_nil 1 c 0 0).mono ?_
  rintro e w7 ⟨rfl, hF⟩
  have hB7 := hB6.trans (hF.none hs6)
  clear hF hB6 hs6
  go_wp2_with fail
  refine Used_nil.mono ?_
  rintro e w8 ⟨rfl, rfl⟩
  go_wp2_with fail
  refine Steps_nil.mono ?_
  rintro e w9 ⟨rfl, rfl⟩
  go_wp2
  go_ret
  exact ⟨rfl, hB7⟩
end Go.Proofs.YtiflchilmogdoaaDoor
