/-
  XnR: The document's refused: why a call is not done. (Printed by gen_xnr.py.)
-/
import Derived.Test.YtheidhkmmihjlaaDo23
import Derived.BigQuiet
set_option linter.unusedVariables false
set_option linter.unusedSimpArgs false
namespace Go.Proofs.Ytheidhkmmihjlaa
open Go.RowKit Go.Shelf Go.Maps
attribute [local go_sem] Oper.semAt_some
def rf (S : Ms) (C : Cl) : Int := if C.kind < 1 ∨ 11 < C.kind then 151 else fst0 (wrg S C C.kind.toNat)
theorem none_not {α : Type} (o : Option α) : o.isNone = !o.isSome := by cases o <;> rfl
section
set_option maxHeartbeats 8000000
set_option maxRecDepth 100000
variable {w : World} {Y : Nat} {S : Ms}
theorem refused_2 (h : Rx w Y S) (ok : S.ok) (mode draw nn : Int) (key high val : ByteArray) : Calls Try.prog 35 #[ptr Y, Cl.v ⟨2, mode, key, high, val, draw, nn⟩] w fun e w' => e = .returned (.int .i64 (rf S ⟨2, mode, key, high, val, draw, nn⟩)) ∧ Below w.heap.size w w' := by
  have HRF : Hid (rf S ⟨2, mode, key, high, val, draw, nn⟩ = fst0 [(!S.ws.isSome, 152), (!isK key, 154)]) := xhide (by
    unfold rf
    rw [if_neg (by simp)]
    show fst0 (wrg S ⟨2, mode, key, high, val, draw, nn⟩ 2) = _
    unfold wrg
    simp only [none_not]
    try rfl)
  obtain ⟨W1, hW1⟩ : ∃ W1, W1 = w.alloc (Cl.obj ⟨2, mode, key, high, val, draw, nn⟩) := ⟨_, rfl⟩
  have hb1 : Below w.heap.size w W1 := by rw [hW1]; exact ML.below1 _ _
  have hc1 : W1.heap[w.heap.size]? = some (Cl.obj ⟨2, mode, key, high, val, draw, nn⟩) := by rw [hW1]; exact ML.heap_alloc_at rfl _
  have HG := xhide (rget_any (h.below hb1) ok key)
  have HX := xhide (h.below hb1)
  have HB1 := xhide hb1
  have HC1 := xhide hc1
  have hlw : w.heap.size < W1.heap.size := (Array.getElem?_eq_some_iff.1 hc1).1
  have k0 : W1.cell? ⟨w.heap.size, 0, none⟩ = some (.int .i64 (2)) := by rw [Go.Joins.cell_of_block hc1]; rfl
  have k2 : W1.cell? ⟨w.heap.size, 2, none⟩ = some (.string key) := by rw [Go.Joins.cell_of_block hc1]; rfl
  have k4 : W1.cell? ⟨w.heap.size, 4, none⟩ = some (.string val) := by rw [Go.Joins.cell_of_block hc1]; rfl
  clear h hb1 hc1
  go_enter Try.func35, Try.ntmps35
  go_wp2_with fail
  rw [← hW1]
  clear hW1
  go_wp2_with fail
  refine (refKey_any _ _).mono ?_
  rintro e w1 ⟨rfl, rfl⟩
  go_wp2_with fail
  refine (refVal_any _ _).mono ?_
  rintro e w1 ⟨rfl, rfl⟩
  go_wp2_with fail
  refine HG.out.mono ?_
  rintro e w2 ⟨rfl, hb2⟩
  have FIN := xhide (HB1.out.trans (hb2.mono HB1.out.size))
  have hc2 := (hb2.block _ hlw).trans HC1.out
  obtain ⟨ao, cap, ao2, cap2, hm⟩ := HX.out.below hb2
  have y2 := hm.cells.2.2.1
  have hY := hm.lt
  have hlw2 : w.heap.size < w2.heap.size := (Array.getElem?_eq_some_iff.1 hc2).1
  clear k0 k2 k4 hlw
  have k0 : w2.cell? ⟨w.heap.size, 0, none⟩ = some (.int .i64 (2)) := by rw [Go.Joins.cell_of_block hc2]; rfl
  have k1 : w2.cell? ⟨w.heap.size, 1, none⟩ = some (.int .i64 mode) := by rw [Go.Joins.cell_of_block hc2]; rfl
  have k2 : w2.cell? ⟨w.heap.size, 2, none⟩ = some (.string key) := by rw [Go.Joins.cell_of_block hc2]; rfl
  have k3 : w2.cell? ⟨w.heap.size, 3, none⟩ = some (.string high) := by rw [Go.Joins.cell_of_block hc2]; rfl
  have k4 : w2.cell? ⟨w.heap.size, 4, none⟩ = some (.string val) := by rw [Go.Joins.cell_of_block hc2]; rfl
  clear hm hc2 hb2 HG HX HB1 HC1 ok
  generalize (look S key).getD ⟨#[]⟩ = gv at *
  generalize S.ws.isSome = bo at *
  generalize isK key = bk at *
  generalize isV val = bv at *
  generalize (look S key).isSome = bl at *
  cases bo <;> cases bk
  all_goals
    go_wp2
    go_ret
    exact ⟨by rw [HRF.out]; rfl, FIN.out⟩
theorem refused_4 (h : Rx w Y S) (ok : S.ok) (mode draw nn : Int) (key high val : ByteArray) : Calls Try.prog 35 #[ptr Y, Cl.v ⟨4, mode, key, high, val, draw, nn⟩] w fun e w' => e = .returned (.int .i64 (rf S ⟨4, mode, key, high, val, draw, nn⟩)) ∧ Below w.heap.size w w' := by
  have HRF : Hid (rf S ⟨4, mode, key, high, val, draw, nn⟩ = fst0 [(!S.ws.isSome, 152), (!isK key, 154), (!isV val, 155), ((look S key).isSome, 156)]) := xhide (by
    unfold rf
    rw [if_neg (by simp)]
    show fst0 (wrg S ⟨4, mode, key, high, val, draw, nn⟩ 4) = _
    unfold wrg
    simp only [none_not]
    try rfl)
  obtain ⟨W1, hW1⟩ : ∃ W1, W1 = w.alloc (Cl.obj ⟨4, mode, key, high, val, draw, nn⟩) := ⟨_, rfl⟩
  have hb1 : Below w.heap.size w W1 := by rw [hW1]; exact ML.below1 _ _
  have hc1 : W1.heap[w.heap.size]? = some (Cl.obj ⟨4, mode, key, high, val, draw, nn⟩) := by rw [hW1]; exact ML.heap_alloc_at rfl _
  have HG := xhide (rget_any (h.below hb1) ok key)
  have HX := xhide (h.below hb1)
  have HB1 := xhide hb1
  have HC1 := xhide hc1
  have hlw : w.heap.size < W1.heap.size := (Array.getElem?_eq_some_iff.1 hc1).1
  have k0 : W1.cell? ⟨w.heap.size, 0, none⟩ = some (.int .i64 (4)) := by rw [Go.Joins.cell_of_block hc1]; rfl
  have k2 : W1.cell? ⟨w.heap.size, 2, none⟩ = some (.string key) := by rw [Go.Joins.cell_of_block hc1]; rfl
  have k4 : W1.cell? ⟨w.heap.size, 4, none⟩ = some (.string val) := by rw [Go.Joins.cell_of_block hc1]; rfl
  clear h hb1 hc1
  go_enter Try.func35, Try.ntmps35
  go_wp2_with fail
  rw [← hW1]
  clear hW1
  go_wp2_with fail
  refine (refKey_any _ _).mono ?_
  rintro e w1 ⟨rfl, rfl⟩
  go_wp2_with fail
  refine (refVal_any _ _).mono ?_
  rintro e w1 ⟨rfl, rfl⟩
  go_wp2_with fail
  refine HG.out.mono ?_
  rintro e w2 ⟨rfl, hb2⟩
  have FIN := xhide (HB1.out.trans (hb2.mono HB1.out.size))
  have hc2 := (hb2.block _ hlw).trans HC1.out
  obtain ⟨ao, cap, ao2, cap2, hm⟩ := HX.out.below hb2
  have y2 := hm.cells.2.2.1
  have hY := hm.lt
  have hlw2 : w.heap.size < w2.heap.size := (Array.getElem?_eq_some_iff.1 hc2).1
  clear k0 k2 k4 hlw
  have k0 : w2.cell? ⟨w.heap.size, 0, none⟩ = some (.int .i64 (4)) := by rw [Go.Joins.cell_of_block hc2]; rfl
  have k1 : w2.cell? ⟨w.heap.size, 1, none⟩ = some (.int .i64 mode) := by rw [Go.Joins.cell_of_block hc2]; rfl
  have k2 : w2.cell? ⟨w.heap.size, 2, none⟩ = some (.string key) := by rw [Go.Joins.cell_of_block hc2]; rfl
  have k3 : w2.cell? ⟨w.heap.size, 3, none⟩ = some (.string high) := by rw [Go.Joins.cell_of_block hc2]; rfl
  have k4 : w2.cell? ⟨w.heap.size, 4, none⟩ = some (.string val) := by rw [Go.Joins.cell_of_block hc2]; rfl
  clear hm hc2 hb2 HG HX HB1 HC1 ok
  generalize (look S key).getD ⟨#[]⟩ = gv at *
  generalize S.ws.isSome = bo at *
  generalize isK key = bk at *
  generalize isV val = bv at *
  generalize (look S key).isSome = bl at *
  cases bo <;> cases bk <;> cases bv <;> cases bl
  all_goals
    go_wp2
    go_ret
    exact ⟨by rw [HRF.out]; rfl, FIN.out⟩
theorem refused_5 (h : Rx w Y S) (ok : S.ok) (mode draw nn : Int) (key high val : ByteArray) : Calls Try.prog 35 #[ptr Y, Cl.v ⟨5, mode, key, high, val, draw, nn⟩] w fun e w' => e = .returned (.int .i64 (rf S ⟨5, mode, key, high, val, draw, nn⟩)) ∧ Below w.heap.size w w' := by
  have HRF : Hid (rf S ⟨5, mode, key, high, val, draw, nn⟩ = fst0 [(!S.ws.isSome, 152), (!isK key, 154), (!isV val, 155), (!(look S key).isSome, 157)]) := xhide (by
    unfold rf
    rw [if_neg (by simp)]
    show fst0 (wrg S ⟨5, mode, key, high, val, draw, nn⟩ 5) = _
    unfold wrg
    simp only [none_not]
    try rfl)
  obtain ⟨W1, hW1⟩ : ∃ W1, W1 = w.alloc (Cl.obj ⟨5, mode, key, high, val, draw, nn⟩) := ⟨_, rfl⟩
  have hb1 : Below w.heap.size w W1 := by rw [hW1]; exact ML.below1 _ _
  have hc1 : W1.heap[w.heap.size]? = some (Cl.obj ⟨5, mode, key, high, val, draw, nn⟩) := by rw [hW1]; exact ML.heap_alloc_at rfl _
  have HG := xhide (rget_any (h.below hb1) ok key)
  have HX := xhide (h.below hb1)
  have HB1 := xhide hb1
  have HC1 := xhide hc1
  have hlw : w.heap.size < W1.heap.size := (Array.getElem?_eq_some_iff.1 hc1).1
  have k0 : W1.cell? ⟨w.heap.size, 0, none⟩ = some (.int .i64 (5)) := by rw [Go.Joins.cell_of_block hc1]; rfl
  have k2 : W1.cell? ⟨w.heap.size, 2, none⟩ = some (.string key) := by rw [Go.Joins.cell_of_block hc1]; rfl
  have k4 : W1.cell? ⟨w.heap.size, 4, none⟩ = some (.string val) := by rw [Go.Joins.cell_of_block hc1]; rfl
  clear h hb1 hc1
  go_enter Try.func35, Try.ntmps35
  go_wp2_with fail
  rw [← hW1]
  clear hW1
  go_wp2_with fail
  refine (refKey_any _ _).mono ?_
  rintro e w1 ⟨rfl, rfl⟩
  go_wp2_with fail
  refine (refVal_any _ _).mono ?_
  rintro e w1 ⟨rfl, rfl⟩
  go_wp2_with fail
  refine HG.out.mono ?_
  rintro e w2 ⟨rfl, hb2⟩
  have FIN := xhide (HB1.out.trans (hb2.mono HB1.out.size))
  have hc2 := (hb2.block _ hlw).trans HC1.out
  obtain ⟨ao, cap, ao2, cap2, hm⟩ := HX.out.below hb2
  have y2 := hm.cells.2.2.1
  have hY := hm.lt
  have hlw2 : w.heap.size < w2.heap.size := (Array.getElem?_eq_some_iff.1 hc2).1
  clear k0 k2 k4 hlw
  have k0 : w2.cell? ⟨w.heap.size, 0, none⟩ = some (.int .i64 (5)) := by rw [Go.Joins.cell_of_block hc2]; rfl
  have k1 : w2.cell? ⟨w.heap.size, 1, none⟩ = some (.int .i64 mode) := by rw [Go.Joins.cell_of_block hc2]; rfl
  have k2 : w2.cell? ⟨w.heap.size, 2, none⟩ = some (.string key) := by rw [Go.Joins.cell_of_block hc2]; rfl
  have k3 : w2.cell? ⟨w.heap.size, 3, none⟩ = some (.string high) := by rw [Go.Joins.cell_of_block hc2]; rfl
  have k4 : w2.cell? ⟨w.heap.size, 4, none⟩ = some (.string val) := by rw [Go.Joins.cell_of_block hc2]; rfl
  clear hm hc2 hb2 HG HX HB1 HC1 ok
  generalize (look S key).getD ⟨#[]⟩ = gv at *
  generalize S.ws.isSome = bo at *
  generalize isK key = bk at *
  generalize isV val = bv at *
  generalize (look S key).isSome = bl at *
  cases bo <;> cases bk <;> cases bv <;> cases bl
  all_goals
    go_wp2
    go_ret
    exact ⟨by rw [HRF.out]; rfl, FIN.out⟩
end
end Go.Proofs.Ytheidhkmmihjlaa

/-
  XnT: The document's refused: why a call is not done. (Printed by gen_xnr.py.)
-/
set_option linter.unusedVariables false
set_option linter.unusedSimpArgs false
namespace Go.Proofs.Ytheidhkmmihjlaa
open Go.RowKit Go.Shelf Go.Maps
attribute [local go_sem] Oper.semAt_some
section
set_option maxHeartbeats 8000000
set_option maxRecDepth 100000
variable {w : World} {Y : Nat} {S : Ms}
theorem refused_6 (h : Rx w Y S) (ok : S.ok) (mode draw nn : Int) (key high val : ByteArray) : Calls Try.prog 35 #[ptr Y, Cl.v ⟨6, mode, key, high, val, draw, nn⟩] w fun e w' => e = .returned (.int .i64 (rf S ⟨6, mode, key, high, val, draw, nn⟩)) ∧ Below w.heap.size w w' := by
  have HRF : Hid (rf S ⟨6, mode, key, high, val, draw, nn⟩ = fst0 [(!S.ws.isSome, 152), (!isK key, 154), (!(look S key).isSome, 157)]) := xhide (by
    unfold rf
    rw [if_neg (by simp)]
    show fst0 (wrg S ⟨6, mode, key, high, val, draw, nn⟩ 6) = _
    unfold wrg
    simp only [none_not]
    try rfl)
  obtain ⟨W1, hW1⟩ : ∃ W1, W1 = w.alloc (Cl.obj ⟨6, mode, key, high, val, draw, nn⟩) := ⟨_, rfl⟩
  have hb1 : Below w.heap.size w W1 := by rw [hW1]; exact ML.below1 _ _
  have hc1 : W1.heap[w.heap.size]? = some (Cl.obj ⟨6, mode, key, high, val, draw, nn⟩) := by rw [hW1]; exact ML.heap_alloc_at rfl _
  have HG := xhide (rget_any (h.below hb1) ok key)
  have HX := xhide (h.below hb1)
  have HB1 := xhide hb1
  have HC1 := xhide hc1
  have hlw : w.heap.size < W1.heap.size := (Array.getElem?_eq_some_iff.1 hc1).1
  have k0 : W1.cell? ⟨w.heap.size, 0, none⟩ = some (.int .i64 (6)) := by rw [Go.Joins.cell_of_block hc1]; rfl
  have k2 : W1.cell? ⟨w.heap.size, 2, none⟩ = some (.string key) := by rw [Go.Joins.cell_of_block hc1]; rfl
  have k4 : W1.cell? ⟨w.heap.size, 4, none⟩ = some (.string val) := by rw [Go.Joins.cell_of_block hc1]; rfl
  clear h hb1 hc1
  go_enter Try.func35, Try.ntmps35
  go_wp2_with fail
  rw [← hW1]
  clear hW1
  go_wp2_with fail
  refine (refKey_any _ _).mono ?_
  rintro e w1 ⟨rfl, rfl⟩
  go_wp2_with fail
  refine (refVal_any _ _).mono ?_
  rintro e w1 ⟨rfl, rfl⟩
  go_wp2_with fail
  refine HG.out.mono ?_
  rintro e w2 ⟨rfl, hb2⟩
  have FIN := xhide (HB1.out.trans (hb2.mono HB1.out.size))
  have hc2 := (hb2.block _ hlw).trans HC1.out
  obtain ⟨ao, cap, ao2, cap2, hm⟩ := HX.out.below hb2
  have y2 := hm.cells.2.2.1
  have hY := hm.lt
  have hlw2 : w.heap.size < w2.heap.size := (Array.getElem?_eq_some_iff.1 hc2).1
  clear k0 k2 k4 hlw
  have k0 : w2.cell? ⟨w.heap.size, 0, none⟩ = some (.int .i64 (6)) := by rw [Go.Joins.cell_of_block hc2]; rfl
  have k1 : w2.cell? ⟨w.heap.size, 1, none⟩ = some (.int .i64 mode) := by rw [Go.Joins.cell_of_block hc2]; rfl
  have k2 : w2.cell? ⟨w.heap.size, 2, none⟩ = some (.string key) := by rw [Go.Joins.cell_of_block hc2]; rfl
  have k3 : w2.cell? ⟨w.heap.size, 3, none⟩ = some (.string high) := by rw [Go.Joins.cell_of_block hc2]; rfl
  have k4 : w2.cell? ⟨w.heap.size, 4, none⟩ = some (.string val) := by rw [Go.Joins.cell_of_block hc2]; rfl
  clear hm hc2 hb2 HG HX HB1 HC1 ok
  generalize (look S key).getD ⟨#[]⟩ = gv at *
  generalize S.ws.isSome = bo at *
  generalize isK key = bk at *
  generalize isV val = bv at *
  generalize (look S key).isSome = bl at *
  cases bo <;> cases bk <;> cases bl
  all_goals
    go_wp2
    go_ret
    exact ⟨by rw [HRF.out]; rfl, FIN.out⟩
theorem refused_7 (h : Rx w Y S) (ok : S.ok) (mode draw nn : Int) (key high val : ByteArray) : Calls Try.prog 35 #[ptr Y, Cl.v ⟨7, mode, key, high, val, draw, nn⟩] w fun e w' => e = .returned (.int .i64 (rf S ⟨7, mode, key, high, val, draw, nn⟩)) ∧ Below w.heap.size w w' := by
  have HRF : Hid (rf S ⟨7, mode, key, high, val, draw, nn⟩ = fst0 [(!S.ws.isSome, 152)]) := xhide (by
    unfold rf
    rw [if_neg (by simp)]
    show fst0 (wrg S ⟨7, mode, key, high, val, draw, nn⟩ 7) = _
    unfold wrg
    simp only [none_not]
    try rfl)
  obtain ⟨W1, hW1⟩ : ∃ W1, W1 = w.alloc (Cl.obj ⟨7, mode, key, high, val, draw, nn⟩) := ⟨_, rfl⟩
  have hb1 : Below w.heap.size w W1 := by rw [hW1]; exact ML.below1 _ _
  have hc1 : W1.heap[w.heap.size]? = some (Cl.obj ⟨7, mode, key, high, val, draw, nn⟩) := by rw [hW1]; exact ML.heap_alloc_at rfl _
  have HG := xhide (rget_any (h.below hb1) ok key)
  have HX := xhide (h.below hb1)
  have HB1 := xhide hb1
  have HC1 := xhide hc1
  have hlw : w.heap.size < W1.heap.size := (Array.getElem?_eq_some_iff.1 hc1).1
  have k0 : W1.cell? ⟨w.heap.size, 0, none⟩ = some (.int .i64 (7)) := by rw [Go.Joins.cell_of_block hc1]; rfl
  have k2 : W1.cell? ⟨w.heap.size, 2, none⟩ = some (.string key) := by rw [Go.Joins.cell_of_block hc1]; rfl
  have k4 : W1.cell? ⟨w.heap.size, 4, none⟩ = some (.string val) := by rw [Go.Joins.cell_of_block hc1]; rfl
  clear h hb1 hc1
  go_enter Try.func35, Try.ntmps35
  go_wp2_with fail
  rw [← hW1]
  clear hW1
  go_wp2_with fail
  refine (refKey_any _ _).mono ?_
  rintro e w1 ⟨rfl, rfl⟩
  go_wp2_with fail
  refine (refVal_any _ _).mono ?_
  rintro e w1 ⟨rfl, rfl⟩
  go_wp2_with fail
  refine HG.out.mono ?_
  rintro e w2 ⟨rfl, hb2⟩
  have FIN := xhide (HB1.out.trans (hb2.mono HB1.out.size))
  have hc2 := (hb2.block _ hlw).trans HC1.out
  obtain ⟨ao, cap, ao2, cap2, hm⟩ := HX.out.below hb2
  have y2 := hm.cells.2.2.1
  have hY := hm.lt
  have hlw2 : w.heap.size < w2.heap.size := (Array.getElem?_eq_some_iff.1 hc2).1
  clear k0 k2 k4 hlw
  have k0 : w2.cell? ⟨w.heap.size, 0, none⟩ = some (.int .i64 (7)) := by rw [Go.Joins.cell_of_block hc2]; rfl
  have k1 : w2.cell? ⟨w.heap.size, 1, none⟩ = some (.int .i64 mode) := by rw [Go.Joins.cell_of_block hc2]; rfl
  have k2 : w2.cell? ⟨w.heap.size, 2, none⟩ = some (.string key) := by rw [Go.Joins.cell_of_block hc2]; rfl
  have k3 : w2.cell? ⟨w.heap.size, 3, none⟩ = some (.string high) := by rw [Go.Joins.cell_of_block hc2]; rfl
  have k4 : w2.cell? ⟨w.heap.size, 4, none⟩ = some (.string val) := by rw [Go.Joins.cell_of_block hc2]; rfl
  clear hm hc2 hb2 HG HX HB1 HC1 ok
  generalize (look S key).getD ⟨#[]⟩ = gv at *
  generalize S.ws.isSome = bo at *
  generalize isK key = bk at *
  generalize isV val = bv at *
  generalize (look S key).isSome = bl at *
  cases bo
  all_goals
    go_wp2
    go_ret
    exact ⟨by rw [HRF.out]; rfl, FIN.out⟩
theorem refused_8 (h : Rx w Y S) (ok : S.ok) (mode draw nn : Int) (key high val : ByteArray) : Calls Try.prog 35 #[ptr Y, Cl.v ⟨8, mode, key, high, val, draw, nn⟩] w fun e w' => e = .returned (.int .i64 (rf S ⟨8, mode, key, high, val, draw, nn⟩)) ∧ Below w.heap.size w w' := by
  have HRF : Hid (rf S ⟨8, mode, key, high, val, draw, nn⟩ = fst0 [(!S.ws.isSome, 152)]) := xhide (by
    unfold rf
    rw [if_neg (by simp)]
    show fst0 (wrg S ⟨8, mode, key, high, val, draw, nn⟩ 8) = _
    unfold wrg
    simp only [none_not]
    try rfl)
  obtain ⟨W1, hW1⟩ : ∃ W1, W1 = w.alloc (Cl.obj ⟨8, mode, key, high, val, draw, nn⟩) := ⟨_, rfl⟩
  have hb1 : Below w.heap.size w W1 := by rw [hW1]; exact ML.below1 _ _
  have hc1 : W1.heap[w.heap.size]? = some (Cl.obj ⟨8, mode, key, high, val, draw, nn⟩) := by rw [hW1]; exact ML.heap_alloc_at rfl _
  have HG := xhide (rget_any (h.below hb1) ok key)
  have HX := xhide (h.below hb1)
  have HB1 := xhide hb1
  have HC1 := xhide hc1
  have hlw : w.heap.size < W1.heap.size := (Array.getElem?_eq_some_iff.1 hc1).1
  have k0 : W1.cell? ⟨w.heap.size, 0, none⟩ = some (.int .i64 (8)) := by rw [Go.Joins.cell_of_block hc1]; rfl
  have k2 : W1.cell? ⟨w.heap.size, 2, none⟩ = some (.string key) := by rw [Go.Joins.cell_of_block hc1]; rfl
  have k4 : W1.cell? ⟨w.heap.size, 4, none⟩ = some (.string val) := by rw [Go.Joins.cell_of_block hc1]; rfl
  clear h hb1 hc1
  go_enter Try.func35, Try.ntmps35
  go_wp2_with fail
  rw [← hW1]
  clear hW1
  go_wp2_with fail
  refine (refKey_any _ _).mono ?_
  rintro e w1 ⟨rfl, rfl⟩
  go_wp2_with fail
  refine (refVal_any _ _).mono ?_
  rintro e w1 ⟨rfl, rfl⟩
  go_wp2_with fail
  refine HG.out.mono ?_
  rintro e w2 ⟨rfl, hb2⟩
  have FIN := xhide (HB1.out.trans (hb2.mono HB1.out.size))
  have hc2 := (hb2.block _ hlw).trans HC1.out
  obtain ⟨ao, cap, ao2, cap2, hm⟩ := HX.out.below hb2
  have y2 := hm.cells.2.2.1
  have hY := hm.lt
  have hlw2 : w.heap.size < w2.heap.size := (Array.getElem?_eq_some_iff.1 hc2).1
  clear k0 k2 k4 hlw
  have k0 : w2.cell? ⟨w.heap.size, 0, none⟩ = some (.int .i64 (8)) := by rw [Go.Joins.cell_of_block hc2]; rfl
  have k1 : w2.cell? ⟨w.heap.size, 1, none⟩ = some (.int .i64 mode) := by rw [Go.Joins.cell_of_block hc2]; rfl
  have k2 : w2.cell? ⟨w.heap.size, 2, none⟩ = some (.string key) := by rw [Go.Joins.cell_of_block hc2]; rfl
  have k3 : w2.cell? ⟨w.heap.size, 3, none⟩ = some (.string high) := by rw [Go.Joins.cell_of_block hc2]; rfl
  have k4 : w2.cell? ⟨w.heap.size, 4, none⟩ = some (.string val) := by rw [Go.Joins.cell_of_block hc2]; rfl
  clear hm hc2 hb2 HG HX HB1 HC1 ok
  generalize (look S key).getD ⟨#[]⟩ = gv at *
  generalize S.ws.isSome = bo at *
  generalize isK key = bk at *
  generalize isV val = bv at *
  generalize (look S key).isSome = bl at *
  cases bo
  all_goals
    go_wp2
    go_ret
    exact ⟨by rw [HRF.out]; rfl, FIN.out⟩
theorem refused_9 (h : Rx w Y S) (ok : S.ok) (mode draw nn : Int) (key high val : ByteArray) : Calls Try.prog 35 #[ptr Y, Cl.v ⟨9, mode, key, high, val, draw, nn⟩] w fun e w' => e = .returned (.int .i64 (rf S ⟨9, mode, key, high, val, draw, nn⟩)) ∧ Below w.heap.size w w' := by
  have HRF : Hid (rf S ⟨9, mode, key, high, val, draw, nn⟩ = fst0 [(S.ws.isSome, 153)]) := xhide (by
    unfold rf
    rw [if_neg (by simp)]
    show fst0 (wrg S ⟨9, mode, key, high, val, draw, nn⟩ 9) = _
    unfold wrg
    simp only [none_not]
    try rfl)
  obtain ⟨W1, hW1⟩ : ∃ W1, W1 = w.alloc (Cl.obj ⟨9, mode, key, high, val, draw, nn⟩) := ⟨_, rfl⟩
  have hb1 : Below w.heap.size w W1 := by rw [hW1]; exact ML.below1 _ _
  have hc1 : W1.heap[w.heap.size]? = some (Cl.obj ⟨9, mode, key, high, val, draw, nn⟩) := by rw [hW1]; exact ML.heap_alloc_at rfl _
  have HG := xhide (rget_any (h.below hb1) ok key)
  have HX := xhide (h.below hb1)
  have HB1 := xhide hb1
  have HC1 := xhide hc1
  have hlw : w.heap.size < W1.heap.size := (Array.getElem?_eq_some_iff.1 hc1).1
  have k0 : W1.cell? ⟨w.heap.size, 0, none⟩ = some (.int .i64 (9)) := by rw [Go.Joins.cell_of_block hc1]; rfl
  have k2 : W1.cell? ⟨w.heap.size, 2, none⟩ = some (.string key) := by rw [Go.Joins.cell_of_block hc1]; rfl
  have k4 : W1.cell? ⟨w.heap.size, 4, none⟩ = some (.string val) := by rw [Go.Joins.cell_of_block hc1]; rfl
  clear h hb1 hc1
  go_enter Try.func35, Try.ntmps35
  go_wp2_with fail
  rw [← hW1]
  clear hW1
  go_wp2_with fail
  refine (refKey_any _ _).mono ?_
  rintro e w1 ⟨rfl, rfl⟩
  go_wp2_with fail
  refine (refVal_any _ _).mono ?_
  rintro e w1 ⟨rfl, rfl⟩
  go_wp2_with fail
  refine HG.out.mono ?_
  rintro e w2 ⟨rfl, hb2⟩
  have FIN := xhide (HB1.out.trans (hb2.mono HB1.out.size))
  have hc2 := (hb2.block _ hlw).trans HC1.out
  obtain ⟨ao, cap, ao2, cap2, hm⟩ := HX.out.below hb2
  have y2 := hm.cells.2.2.1
  have hY := hm.lt
  have hlw2 : w.heap.size < w2.heap.size := (Array.getElem?_eq_some_iff.1 hc2).1
  clear k0 k2 k4 hlw
  have k0 : w2.cell? ⟨w.heap.size, 0, none⟩ = some (.int .i64 (9)) := by rw [Go.Joins.cell_of_block hc2]; rfl
  have k1 : w2.cell? ⟨w.heap.size, 1, none⟩ = some (.int .i64 mode) := by rw [Go.Joins.cell_of_block hc2]; rfl
  have k2 : w2.cell? ⟨w.heap.size, 2, none⟩ = some (.string key) := by rw [Go.Joins.cell_of_block hc2]; rfl
  have k3 : w2.cell? ⟨w.heap.size, 3, none⟩ = some (.string high) := by rw [Go.Joins.cell_of_block hc2]; rfl
  have k4 : w2.cell? ⟨w.heap.size, 4, none⟩ = some (.string val) := by rw [Go.Joins.cell_of_block hc2]; rfl
  clear hm hc2 hb2 HG HX HB1 HC1 ok
  generalize (look S key).getD ⟨#[]⟩ = gv at *
  generalize S.ws.isSome = bo at *
  generalize isK key = bk at *
  generalize isV val = bv at *
  generalize (look S key).isSome = bl at *
  cases bo
  all_goals
    go_wp2
    go_ret
    exact ⟨by rw [HRF.out]; rfl, FIN.out⟩
theorem refused_10 (h : Rx w Y S) (ok : S.ok) (mode draw nn : Int) (key high val : ByteArray) : Calls Try.prog 35 #[ptr Y, Cl.v ⟨10, mode, key, high, val, draw, nn⟩] w fun e w' => e = .returned (.int .i64 (rf S ⟨10, mode, key, high, val, draw, nn⟩)) ∧ Below w.heap.size w w' := by
  have HRF : Hid (rf S ⟨10, mode, key, high, val, draw, nn⟩ = fst0 [(S.ws.isSome, 153)]) := xhide (by
    unfold rf
    rw [if_neg (by simp)]
    show fst0 (wrg S ⟨10, mode, key, high, val, draw, nn⟩ 10) = _
    unfold wrg
    simp only [none_not]
    try rfl)
  obtain ⟨W1, hW1⟩ : ∃ W1, W1 = w.alloc (Cl.obj ⟨10, mode, key, high, val, draw, nn⟩) := ⟨_, rfl⟩
  have hb1 : Below w.heap.size w W1 := by rw [hW1]; exact ML.below1 _ _
  have hc1 : W1.heap[w.heap.size]? = some (Cl.obj ⟨10, mode, key, high, val, draw, nn⟩) := by rw [hW1]; exact ML.heap_alloc_at rfl _
  have HG := xhide (rget_any (h.below hb1) ok key)
  have HX := xhide (h.below hb1)
  have HB1 := xhide hb1
  have HC1 := xhide hc1
  have hlw : w.heap.size < W1.heap.size := (Array.getElem?_eq_some_iff.1 hc1).1
  have k0 : W1.cell? ⟨w.heap.size, 0, none⟩ = some (.int .i64 (10)) := by rw [Go.Joins.cell_of_block hc1]; rfl
  have k2 : W1.cell? ⟨w.heap.size, 2, none⟩ = some (.string key) := by rw [Go.Joins.cell_of_block hc1]; rfl
  have k4 : W1.cell? ⟨w.heap.size, 4, none⟩ = some (.string val) := by rw [Go.Joins.cell_of_block hc1]; rfl
  clear h hb1 hc1
  go_enter Try.func35, Try.ntmps35
  go_wp2_with fail
  rw [← hW1]
  clear hW1
  go_wp2_with fail
  refine (refKey_any _ _).mono ?_
  rintro e w1 ⟨rfl, rfl⟩
  go_wp2_with fail
  refine (refVal_any _ _).mono ?_
  rintro e w1 ⟨rfl, rfl⟩
  go_wp2_with fail
  refine HG.out.mono ?_
  rintro e w2 ⟨rfl, hb2⟩
  have FIN := xhide (HB1.out.trans (hb2.mono HB1.out.size))
  have hc2 := (hb2.block _ hlw).trans HC1.out
  obtain ⟨ao, cap, ao2, cap2, hm⟩ := HX.out.below hb2
  have y2 := hm.cells.2.2.1
  have hY := hm.lt
  have hlw2 : w.heap.size < w2.heap.size := (Array.getElem?_eq_some_iff.1 hc2).1
  clear k0 k2 k4 hlw
  have k0 : w2.cell? ⟨w.heap.size, 0, none⟩ = some (.int .i64 (10)) := by rw [Go.Joins.cell_of_block hc2]; rfl
  have k1 : w2.cell? ⟨w.heap.size, 1, none⟩ = some (.int .i64 mode) := by rw [Go.Joins.cell_of_block hc2]; rfl
  have k2 : w2.cell? ⟨w.heap.size, 2, none⟩ = some (.string key) := by rw [Go.Joins.cell_of_block hc2]; rfl
  have k3 : w2.cell? ⟨w.heap.size, 3, none⟩ = some (.string high) := by rw [Go.Joins.cell_of_block hc2]; rfl
  have k4 : w2.cell? ⟨w.heap.size, 4, none⟩ = some (.string val) := by rw [Go.Joins.cell_of_block hc2]; rfl
  clear hm hc2 hb2 HG HX HB1 HC1 ok
  generalize (look S key).getD ⟨#[]⟩ = gv at *
  generalize S.ws.isSome = bo at *
  generalize isK key = bk at *
  generalize isV val = bv at *
  generalize (look S key).isSome = bl at *
  cases bo
  all_goals
    go_wp2
    go_ret
    exact ⟨by rw [HRF.out]; rfl, FIN.out⟩
theorem refused_11 (h : Rx w Y S) (ok : S.ok) (mode draw nn : Int) (key high val : ByteArray) : Calls Try.prog 35 #[ptr Y, Cl.v ⟨11, mode, key, high, val, draw, nn⟩] w fun e w' => e = .returned (.int .i64 (rf S ⟨11, mode, key, high, val, draw, nn⟩)) ∧ Below w.heap.size w w' := by
  have HRF : Hid (rf S ⟨11, mode, key, high, val, draw, nn⟩ = fst0 [(S.ws.isSome, 153)]) := xhide (by
    unfold rf
    rw [if_neg (by simp)]
    show fst0 (wrg S ⟨11, mode, key, high, val, draw, nn⟩ 11) = _
    unfold wrg
    simp only [none_not]
    try rfl)
  obtain ⟨W1, hW1⟩ : ∃ W1, W1 = w.alloc (Cl.obj ⟨11, mode, key, high, val, draw, nn⟩) := ⟨_, rfl⟩
  have hb1 : Below w.heap.size w W1 := by rw [hW1]; exact ML.below1 _ _
  have hc1 : W1.heap[w.heap.size]? = some (Cl.obj ⟨11, mode, key, high, val, draw, nn⟩) := by rw [hW1]; exact ML.heap_alloc_at rfl _
  have HG := xhide (rget_any (h.below hb1) ok key)
  have HX := xhide (h.below hb1)
  have HB1 := xhide hb1
  have HC1 := xhide hc1
  have hlw : w.heap.size < W1.heap.size := (Array.getElem?_eq_some_iff.1 hc1).1
  have k0 : W1.cell? ⟨w.heap.size, 0, none⟩ = some (.int .i64 (11)) := by rw [Go.Joins.cell_of_block hc1]; rfl
  have k2 : W1.cell? ⟨w.heap.size, 2, none⟩ = some (.string key) := by rw [Go.Joins.cell_of_block hc1]; rfl
  have k4 : W1.cell? ⟨w.heap.size, 4, none⟩ = some (.string val) := by rw [Go.Joins.cell_of_block hc1]; rfl
  clear h hb1 hc1
  go_enter Try.func35, Try.ntmps35
  go_wp2_with fail
  rw [← hW1]
  clear hW1
  go_wp2_with fail
  refine (refKey_any _ _).mono ?_
  rintro e w1 ⟨rfl, rfl⟩
  go_wp2_with fail
  refine (refVal_any _ _).mono ?_
  rintro e w1 ⟨rfl, rfl⟩
  go_wp2_with fail
  refine HG.out.mono ?_
  rintro e w2 ⟨rfl, hb2⟩
  have FIN := xhide (HB1.out.trans (hb2.mono HB1.out.size))
  have hc2 := (hb2.block _ hlw).trans HC1.out
  obtain ⟨ao, cap, ao2, cap2, hm⟩ := HX.out.below hb2
  have y2 := hm.cells.2.2.1
  have hY := hm.lt
  have hlw2 : w.heap.size < w2.heap.size := (Array.getElem?_eq_some_iff.1 hc2).1
  clear k0 k2 k4 hlw
  have k0 : w2.cell? ⟨w.heap.size, 0, none⟩ = some (.int .i64 (11)) := by rw [Go.Joins.cell_of_block hc2]; rfl
  have k1 : w2.cell? ⟨w.heap.size, 1, none⟩ = some (.int .i64 mode) := by rw [Go.Joins.cell_of_block hc2]; rfl
  have k2 : w2.cell? ⟨w.heap.size, 2, none⟩ = some (.string key) := by rw [Go.Joins.cell_of_block hc2]; rfl
  have k3 : w2.cell? ⟨w.heap.size, 3, none⟩ = some (.string high) := by rw [Go.Joins.cell_of_block hc2]; rfl
  have k4 : w2.cell? ⟨w.heap.size, 4, none⟩ = some (.string val) := by rw [Go.Joins.cell_of_block hc2]; rfl
  clear hm hc2 hb2 HG HX HB1 HC1 ok
  generalize (look S key).getD ⟨#[]⟩ = gv at *
  generalize S.ws.isSome = bo at *
  generalize isK key = bk at *
  generalize isV val = bv at *
  generalize (look S key).isSome = bl at *
  cases bo
  all_goals
    go_wp2
    go_ret
    exact ⟨by rw [HRF.out]; rfl, FIN.out⟩
theorem refused_1 (h : Rx w Y S) (ok : S.ok) (mode draw nn : Int) (key high val : ByteArray) : Calls Try.prog 35 #[ptr Y, Cl.v ⟨1, mode, key, high, val, draw, nn⟩] w fun e w' => e = .returned (.int .i64 (rf S ⟨1, mode, key, high, val, draw, nn⟩)) ∧ Below w.heap.size w w' := by
  have HRF : Hid (rf S ⟨1, mode, key, high, val, draw, nn⟩ = fst0 [(S.ws.isSome, 153), (mode != 1 && mode != 2, 151)]) := xhide (by
    unfold rf
    rw [if_neg (by simp)]
    show fst0 (wrg S ⟨1, mode, key, high, val, draw, nn⟩ 1) = _
    unfold wrg
    simp only [none_not]
    try rfl)
  obtain ⟨W1, hW1⟩ : ∃ W1, W1 = w.alloc (Cl.obj ⟨1, mode, key, high, val, draw, nn⟩) := ⟨_, rfl⟩
  have hb1 : Below w.heap.size w W1 := by rw [hW1]; exact ML.below1 _ _
  have hc1 : W1.heap[w.heap.size]? = some (Cl.obj ⟨1, mode, key, high, val, draw, nn⟩) := by rw [hW1]; exact ML.heap_alloc_at rfl _
  have HG := xhide (rget_any (h.below hb1) ok key)
  have HX := xhide (h.below hb1)
  have HB1 := xhide hb1
  have HC1 := xhide hc1
  have hlw : w.heap.size < W1.heap.size := (Array.getElem?_eq_some_iff.1 hc1).1
  have k0 : W1.cell? ⟨w.heap.size, 0, none⟩ = some (.int .i64 (1)) := by rw [Go.Joins.cell_of_block hc1]; rfl
  have k2 : W1.cell? ⟨w.heap.size, 2, none⟩ = some (.string key) := by rw [Go.Joins.cell_of_block hc1]; rfl
  have k4 : W1.cell? ⟨w.heap.size, 4, none⟩ = some (.string val) := by rw [Go.Joins.cell_of_block hc1]; rfl
  clear h hb1 hc1
  go_enter Try.func35, Try.ntmps35
  go_wp2_with fail
  rw [← hW1]
  clear hW1
  go_wp2_with fail
  refine (refKey_any _ _).mono ?_
  rintro e w1 ⟨rfl, rfl⟩
  go_wp2_with fail
  refine (refVal_any _ _).mono ?_
  rintro e w1 ⟨rfl, rfl⟩
  go_wp2_with fail
  refine HG.out.mono ?_
  rintro e w2 ⟨rfl, hb2⟩
  have FIN := xhide (HB1.out.trans (hb2.mono HB1.out.size))
  have hc2 := (hb2.block _ hlw).trans HC1.out
  obtain ⟨ao, cap, ao2, cap2, hm⟩ := HX.out.below hb2
  have y2 := hm.cells.2.2.1
  have hY := hm.lt
  have hlw2 : w.heap.size < w2.heap.size := (Array.getElem?_eq_some_iff.1 hc2).1
  clear k0 k2 k4 hlw
  have k0 : w2.cell? ⟨w.heap.size, 0, none⟩ = some (.int .i64 (1)) := by rw [Go.Joins.cell_of_block hc2]; rfl
  have k1 : w2.cell? ⟨w.heap.size, 1, none⟩ = some (.int .i64 mode) := by rw [Go.Joins.cell_of_block hc2]; rfl
  have k2 : w2.cell? ⟨w.heap.size, 2, none⟩ = some (.string key) := by rw [Go.Joins.cell_of_block hc2]; rfl
  have k3 : w2.cell? ⟨w.heap.size, 3, none⟩ = some (.string high) := by rw [Go.Joins.cell_of_block hc2]; rfl
  have k4 : w2.cell? ⟨w.heap.size, 4, none⟩ = some (.string val) := by rw [Go.Joins.cell_of_block hc2]; rfl
  clear hm hc2 hb2 HG HX HB1 HC1 ok
  generalize (look S key).getD ⟨#[]⟩ = gv at *
  generalize S.ws.isSome = bo at *
  generalize isK key = bk at *
  generalize isV val = bv at *
  generalize (look S key).isSome = bl at *
  by_cases m1 : mode = 1
  · subst m1
    cases bo
    all_goals
      go_wp2
      go_ret
      exact ⟨by rw [HRF.out]; rfl, FIN.out⟩
  · by_cases m2 : mode = 2
    · subst m2
      cases bo
      all_goals
        go_wp2
        go_ret
        exact ⟨by rw [HRF.out]; rfl, FIN.out⟩
    · have b1 : (mode != 1) = true := by simpa using m1
      have b2 : (mode != 2) = true := by simpa using m2
      have b3 : (mode == 1) = false := by simpa using m1
      have b4 : (mode == 2) = false := by simpa using m2
      rw [b1, b2] at HRF
      cases bo
      all_goals
        go_wp2
        go_ret
        exact ⟨by rw [HRF.out]; rfl, FIN.out⟩
theorem refused_3 (h : Rx w Y S) (ok : S.ok) (mode draw nn : Int) (key high val : ByteArray) : Calls Try.prog 35 #[ptr Y, Cl.v ⟨3, mode, key, high, val, draw, nn⟩] w fun e w' => e = .returned (.int .i64 (rf S ⟨3, mode, key, high, val, draw, nn⟩)) ∧ Below w.heap.size w w' := by
  have HRF : Hid (rf S ⟨3, mode, key, high, val, draw, nn⟩ = fst0 [(!S.ws.isSome, 152), (decide (16 < key.size) || decide (16 < high.size), 154)]) := xhide (by
    unfold rf
    rw [if_neg (by simp)]
    show fst0 (wrg S ⟨3, mode, key, high, val, draw, nn⟩ 3) = _
    unfold wrg
    simp only [none_not]
    try rfl)
  obtain ⟨W1, hW1⟩ : ∃ W1, W1 = w.alloc (Cl.obj ⟨3, mode, key, high, val, draw, nn⟩) := ⟨_, rfl⟩
  have hb1 : Below w.heap.size w W1 := by rw [hW1]; exact ML.below1 _ _
  have hc1 : W1.heap[w.heap.size]? = some (Cl.obj ⟨3, mode, key, high, val, draw, nn⟩) := by rw [hW1]; exact ML.heap_alloc_at rfl _
  have HG := xhide (rget_any (h.below hb1) ok key)
  have HX := xhide (h.below hb1)
  have HB1 := xhide hb1
  have HC1 := xhide hc1
  have hlw : w.heap.size < W1.heap.size := (Array.getElem?_eq_some_iff.1 hc1).1
  have k0 : W1.cell? ⟨w.heap.size, 0, none⟩ = some (.int .i64 (3)) := by rw [Go.Joins.cell_of_block hc1]; rfl
  have k2 : W1.cell? ⟨w.heap.size, 2, none⟩ = some (.string key) := by rw [Go.Joins.cell_of_block hc1]; rfl
  have k4 : W1.cell? ⟨w.heap.size, 4, none⟩ = some (.string val) := by rw [Go.Joins.cell_of_block hc1]; rfl
  clear h hb1 hc1
  go_enter Try.func35, Try.ntmps35
  go_wp2_with fail
  rw [← hW1]
  clear hW1
  go_wp2_with fail
  refine (refKey_any _ _).mono ?_
  rintro e w1 ⟨rfl, rfl⟩
  go_wp2_with fail
  refine (refVal_any _ _).mono ?_
  rintro e w1 ⟨rfl, rfl⟩
  go_wp2_with fail
  refine HG.out.mono ?_
  rintro e w2 ⟨rfl, hb2⟩
  have FIN := xhide (HB1.out.trans (hb2.mono HB1.out.size))
  have hc2 := (hb2.block _ hlw).trans HC1.out
  obtain ⟨ao, cap, ao2, cap2, hm⟩ := HX.out.below hb2
  have y2 := hm.cells.2.2.1
  have hY := hm.lt
  have hlw2 : w.heap.size < w2.heap.size := (Array.getElem?_eq_some_iff.1 hc2).1
  clear k0 k2 k4 hlw
  have k0 : w2.cell? ⟨w.heap.size, 0, none⟩ = some (.int .i64 (3)) := by rw [Go.Joins.cell_of_block hc2]; rfl
  have k1 : w2.cell? ⟨w.heap.size, 1, none⟩ = some (.int .i64 mode) := by rw [Go.Joins.cell_of_block hc2]; rfl
  have k2 : w2.cell? ⟨w.heap.size, 2, none⟩ = some (.string key) := by rw [Go.Joins.cell_of_block hc2]; rfl
  have k3 : w2.cell? ⟨w.heap.size, 3, none⟩ = some (.string high) := by rw [Go.Joins.cell_of_block hc2]; rfl
  have k4 : w2.cell? ⟨w.heap.size, 4, none⟩ = some (.string val) := by rw [Go.Joins.cell_of_block hc2]; rfl
  clear hm hc2 hb2 HG HX HB1 HC1 ok
  generalize (look S key).getD ⟨#[]⟩ = gv at *
  generalize S.ws.isSome = bo at *
  generalize isK key = bk at *
  generalize isV val = bv at *
  generalize (look S key).isSome = bl at *
  by_cases qa : 16 < key.size
  · by_cases qb : 16 < high.size
    · have a1 : ¬ (key.size : Int) ≤ 16 := by omega
      have a2 : (16 : Int) < (key.size : Int) := by omega
      rw [decide_eq_true qa] at HRF
      have c1 : ¬ (high.size : Int) ≤ 16 := by omega
      have c2 : (16 : Int) < (high.size : Int) := by omega
      rw [decide_eq_true qb] at HRF
      clear qa qb
      cases bo
      all_goals
        go_wp2
        go_ret
        exact ⟨by rw [HRF.out]; rfl, FIN.out⟩
    · have a1 : ¬ (key.size : Int) ≤ 16 := by omega
      have a2 : (16 : Int) < (key.size : Int) := by omega
      rw [decide_eq_true qa] at HRF
      have c1 : (high.size : Int) ≤ 16 := by omega
      rw [decide_eq_false qb] at HRF
      clear qa qb
      cases bo
      all_goals
        go_wp2
        go_ret
        exact ⟨by rw [HRF.out]; rfl, FIN.out⟩
  · by_cases qb : 16 < high.size
    · have a1 : (key.size : Int) ≤ 16 := by omega
      rw [decide_eq_false qa] at HRF
      have c1 : ¬ (high.size : Int) ≤ 16 := by omega
      have c2 : (16 : Int) < (high.size : Int) := by omega
      rw [decide_eq_true qb] at HRF
      clear qa qb
      cases bo
      all_goals
        go_wp2
        go_ret
        exact ⟨by rw [HRF.out]; rfl, FIN.out⟩
    · have a1 : (key.size : Int) ≤ 16 := by omega
      rw [decide_eq_false qa] at HRF
      have c1 : (high.size : Int) ≤ 16 := by omega
      rw [decide_eq_false qb] at HRF
      clear qa qb
      cases bo
      all_goals
        go_wp2
        go_ret
        exact ⟨by rw [HRF.out]; rfl, FIN.out⟩
theorem refused_bad (h : Rx w Y S) (ok : S.ok) (kind mode draw nn : Int) (key high val : ByteArray) (hk : kind < 1 ∨ 11 < kind) : Calls Try.prog 35 #[ptr Y, Cl.v ⟨kind, mode, key, high, val, draw, nn⟩] w fun e w' => e = .returned (.int .i64 (rf S ⟨kind, mode, key, high, val, draw, nn⟩)) ∧ Below w.heap.size w w' := by
  have HRF : Hid (rf S ⟨kind, mode, key, high, val, draw, nn⟩ = 151) := xhide (by unfold rf; exact if_pos hk)
  have hkk : ¬ (1 ≤ kind ∧ kind ≤ 11) := by omega
  have n1 : (kind == 1) = false := by simp; omega
  have n2 : (kind == 2) = false := by simp; omega
  have n3 : (kind == 3) = false := by simp; omega
  have n4 : (kind == 4) = false := by simp; omega
  have n5 : (kind == 5) = false := by simp; omega
  have n6 : (kind == 6) = false := by simp; omega
  rcases hk with hk | hk
  · have d1 : ¬ (2 : Int) ≤ kind := by omega
    obtain ⟨W1, hW1⟩ : ∃ W1, W1 = w.alloc (Cl.obj ⟨kind, mode, key, high, val, draw, nn⟩) := ⟨_, rfl⟩
    have hb1 : Below w.heap.size w W1 := by rw [hW1]; exact ML.below1 _ _
    have hc1 : W1.heap[w.heap.size]? = some (Cl.obj ⟨kind, mode, key, high, val, draw, nn⟩) := by rw [hW1]; exact ML.heap_alloc_at rfl _
    have HG := xhide (rget_any (h.below hb1) ok key)
    have HX := xhide (h.below hb1)
    have HB1 := xhide hb1
    have HC1 := xhide hc1
    have hlw : w.heap.size < W1.heap.size := (Array.getElem?_eq_some_iff.1 hc1).1
    have k0 : W1.cell? ⟨w.heap.size, 0, none⟩ = some (.int .i64 kind) := by rw [Go.Joins.cell_of_block hc1]; rfl
    have k2 : W1.cell? ⟨w.heap.size, 2, none⟩ = some (.string key) := by rw [Go.Joins.cell_of_block hc1]; rfl
    have k4 : W1.cell? ⟨w.heap.size, 4, none⟩ = some (.string val) := by rw [Go.Joins.cell_of_block hc1]; rfl
    clear h hb1 hc1
    go_enter Try.func35, Try.ntmps35
    go_wp2_with fail
    rw [← hW1]
    clear hW1
    go_wp2_with fail
    refine (refKey_any _ _).mono ?_
    rintro e w1 ⟨rfl, rfl⟩
    go_wp2_with fail
    refine (refVal_any _ _).mono ?_
    rintro e w1 ⟨rfl, rfl⟩
    go_wp2_with fail
    refine HG.out.mono ?_
    rintro e w2 ⟨rfl, hb2⟩
    have FIN := xhide (HB1.out.trans (hb2.mono HB1.out.size))
    have hc2 := (hb2.block _ hlw).trans HC1.out
    obtain ⟨ao, cap, ao2, cap2, hm⟩ := HX.out.below hb2
    have y2 := hm.cells.2.2.1
    have hY := hm.lt
    have hlw2 : w.heap.size < w2.heap.size := (Array.getElem?_eq_some_iff.1 hc2).1
    clear k0 k2 k4 hlw
    have k0 : w2.cell? ⟨w.heap.size, 0, none⟩ = some (.int .i64 kind) := by rw [Go.Joins.cell_of_block hc2]; rfl
    have k1 : w2.cell? ⟨w.heap.size, 1, none⟩ = some (.int .i64 mode) := by rw [Go.Joins.cell_of_block hc2]; rfl
    have k2 : w2.cell? ⟨w.heap.size, 2, none⟩ = some (.string key) := by rw [Go.Joins.cell_of_block hc2]; rfl
    have k3 : w2.cell? ⟨w.heap.size, 3, none⟩ = some (.string high) := by rw [Go.Joins.cell_of_block hc2]; rfl
    have k4 : w2.cell? ⟨w.heap.size, 4, none⟩ = some (.string val) := by rw [Go.Joins.cell_of_block hc2]; rfl
    clear hm hc2 hb2 HG HX HB1 HC1 ok
    generalize (look S key).getD ⟨#[]⟩ = gv at *
    generalize S.ws.isSome = bo at *
    generalize isK key = bk at *
    generalize isV val = bv at *
    generalize (look S key).isSome = bl at *
    go_wp2
    go_ret
    exact ⟨by rw [HRF.out]; rfl, FIN.out⟩
  · have d1 : (2 : Int) ≤ kind := by omega
    have d2 : ¬ kind ≤ 8 := by omega
    have d3 : ¬ kind < 1 := by omega
    obtain ⟨W1, hW1⟩ : ∃ W1, W1 = w.alloc (Cl.obj ⟨kind, mode, key, high, val, draw, nn⟩) := ⟨_, rfl⟩
    have hb1 : Below w.heap.size w W1 := by rw [hW1]; exact ML.below1 _ _
    have hc1 : W1.heap[w.heap.size]? = some (Cl.obj ⟨kind, mode, key, high, val, draw, nn⟩) := by rw [hW1]; exact ML.heap_alloc_at rfl _
    have HG := xhide (rget_any (h.below hb1) ok key)
    have HX := xhide (h.below hb1)
    have HB1 := xhide hb1
    have HC1 := xhide hc1
    have hlw : w.heap.size < W1.heap.size := (Array.getElem?_eq_some_iff.1 hc1).1
    have k0 : W1.cell? ⟨w.heap.size, 0, none⟩ = some (.int .i64 kind) := by rw [Go.Joins.cell_of_block hc1]; rfl
    have k2 : W1.cell? ⟨w.heap.size, 2, none⟩ = some (.string key) := by rw [Go.Joins.cell_of_block hc1]; rfl
    have k4 : W1.cell? ⟨w.heap.size, 4, none⟩ = some (.string val) := by rw [Go.Joins.cell_of_block hc1]; rfl
    clear h hb1 hc1
    go_enter Try.func35, Try.ntmps35
    go_wp2_with fail
    rw [← hW1]
    clear hW1
    go_wp2_with fail
    refine (refKey_any _ _).mono ?_
    rintro e w1 ⟨rfl, rfl⟩
    go_wp2_with fail
    refine (refVal_any _ _).mono ?_
    rintro e w1 ⟨rfl, rfl⟩
    go_wp2_with fail
    refine HG.out.mono ?_
    rintro e w2 ⟨rfl, hb2⟩
    have FIN := xhide (HB1.out.trans (hb2.mono HB1.out.size))
    have hc2 := (hb2.block _ hlw).trans HC1.out
    obtain ⟨ao, cap, ao2, cap2, hm⟩ := HX.out.below hb2
    have y2 := hm.cells.2.2.1
    have hY := hm.lt
    have hlw2 : w.heap.size < w2.heap.size := (Array.getElem?_eq_some_iff.1 hc2).1
    clear k0 k2 k4 hlw
    have k0 : w2.cell? ⟨w.heap.size, 0, none⟩ = some (.int .i64 kind) := by rw [Go.Joins.cell_of_block hc2]; rfl
    have k1 : w2.cell? ⟨w.heap.size, 1, none⟩ = some (.int .i64 mode) := by rw [Go.Joins.cell_of_block hc2]; rfl
    have k2 : w2.cell? ⟨w.heap.size, 2, none⟩ = some (.string key) := by rw [Go.Joins.cell_of_block hc2]; rfl
    have k3 : w2.cell? ⟨w.heap.size, 3, none⟩ = some (.string high) := by rw [Go.Joins.cell_of_block hc2]; rfl
    have k4 : w2.cell? ⟨w.heap.size, 4, none⟩ = some (.string val) := by rw [Go.Joins.cell_of_block hc2]; rfl
    clear hm hc2 hb2 HG HX HB1 HC1 ok
    generalize (look S key).getD ⟨#[]⟩ = gv at *
    generalize S.ws.isSome = bo at *
    generalize isK key = bk at *
    generalize isV val = bv at *
    generalize (look S key).isSome = bl at *
    go_wp2
    go_ret
    exact ⟨by rw [HRF.out]; rfl, FIN.out⟩
theorem rrefused_any (h : Rx w Y S) (ok : S.ok) (C : Cl) : Calls Try.prog 35 #[ptr Y, C.v] w fun e w' => e = .returned (.int .i64 (rf S C)) ∧ Below w.heap.size w w' := by
  by_cases hk : C.kind < 1 ∨ 11 < C.kind
  · exact refused_bad h ok _ _ _ _ _ _ _ hk
  · obtain ⟨kind, mode, key, high, val, draw, nn⟩ := C
    simp only [] at hk
    rcases (show kind = 1 ∨ kind = 2 ∨ kind = 3 ∨ kind = 4 ∨ kind = 5 ∨ kind = 6 ∨ kind = 7 ∨ kind = 8 ∨ kind = 9 ∨ kind = 10 ∨ kind = 11 by omega) with rfl | rfl | rfl | rfl | rfl | rfl | rfl | rfl | rfl | rfl | rfl
    · exact refused_1 h ok mode draw nn key high val
    · exact refused_2 h ok mode draw nn key high val
    · exact refused_3 h ok mode draw nn key high val
    · exact refused_4 h ok mode draw nn key high val
    · exact refused_5 h ok mode draw nn key high val
    · exact refused_6 h ok mode draw nn key high val
    · exact refused_7 h ok mode draw nn key high val
    · exact refused_8 h ok mode draw nn key high val
    · exact refused_9 h ok mode draw nn key high val
    · exact refused_10 h ok mode draw nn key high val
    · exact refused_11 h ok mode draw nn key high val
end
end Go.Proofs.Ytheidhkmmihjlaa

/-
  XnP: The document's scan, without memory: the next key that is met, again and again.
-/
set_option linter.unusedVariables false
set_option linter.unusedSimpArgs false
namespace Go.Proofs.Ytheidhkmmihjlaa
open ML (Ro Srt nless fstOf od nl_irr nl_tr nl_tot)

theorem nl_asym {a b : ByteArray} (h : nless a b = true) : nless b a = false := by
  cases q : nless b a with
  | false => rfl
  | true => have := nl_tr h q; rw [nl_irr] at this; cases this
theorem nl_le {a b c : ByteArray} (h1 : nless b a = false) (h2 : nless c b = false) : nless c a = false := by
  cases q : nless c a with
  | false => rfl
  | true =>
    by_cases e : a = b
    · rw [e, h2] at q; cases q
    · rcases nl_tot a b with r | r | r
      · have := nl_tr q r; rw [h2] at this; cases this
      · exact absurd r e
      · rw [h1] at r; cases r
def kys (S : Ms) : List ByteArray := S.L.map Ro.k ++ (S.ws.getD []).map Wr.key
/-- May a key be the next one. -/
def cnd (fr : ByteArray) (first : Bool) (k : ByteArray) : Bool := !nless k fr && (first || nless fr k)
def nxtS (fr : ByteArray) (first : Bool) (nx k : ByteArray) : ByteArray := if cnd fr first k && (decide (nx.size = 0) || nless k nx) then k else nx
def nxt (fr : ByteArray) (first : Bool) (ks : List ByteArray) : ByteArray := ks.foldl (nxtS fr first) ⟨#[]⟩
theorem nxt_snoc (fr : ByteArray) (first : Bool) (ks : List ByteArray) (k : ByteArray) : nxt fr first (ks ++ [k]) = nxtS fr first (nxt fr first ks) k := by unfold nxt; rw [List.foldl_append]; rfl
theorem nxt_take {fr : ByteArray} {first : Bool} {ks : List ByteArray} {i : Nat} {k : ByteArray} (h : ks[i]? = some k) : nxt fr first (ks.take (i + 1)) = nxtS fr first (nxt fr first (ks.take i)) k := by rw [ML.take_snoc h, nxt_snoc]
def NxtOk (fr : ByteArray) (first : Bool) (ks : List ByteArray) (nx : ByteArray) : Prop :=
  (nx = ⟨#[]⟩ ∧ (∀ k ∈ ks, cnd fr first k = false)) ∨ (1 ≤ nx.size ∧ nx ∈ ks ∧ cnd fr first nx = true ∧ ∀ k ∈ ks, cnd fr first k = true → nless k nx = false)
theorem nxtOk_snoc {fr : ByteArray} {first : Bool} {ks : List ByteArray} {nx k : ByteArray} (h : NxtOk fr first ks nx) (hk : 1 ≤ k.size) : NxtOk fr first (ks ++ [k]) (nxtS fr first nx k) := by
  unfold nxtS
  rcases h with ⟨rfl, h1⟩ | ⟨h0, h1, h2, h3⟩
  · have e : (⟨#[]⟩ : ByteArray).size = 0 := rfl
    simp only [e, decide_true, Bool.true_or, Bool.and_true]
    cases hc : cnd fr first k with
    | true =>
      rw [if_pos rfl]
      refine .inr ⟨hk, by simp, hc, fun y hy hcy => ?_⟩
      rcases List.mem_append.1 hy with q | q
      · rw [h1 y q] at hcy; cases hcy
      · simp at q; rw [q]; exact nl_irr _
    | false =>
      rw [if_neg (by simp)]
      refine .inl ⟨rfl, fun y hy => ?_⟩
      rcases List.mem_append.1 hy with q | q
      · exact h1 y q
      · simp at q; rw [q]; exact hc
  · have e : decide (nx.size = 0) = false := decide_eq_false (by omega)
    rw [e, Bool.false_or]
    cases hc : cnd fr first k && nless k nx with
    | true =>
      rw [if_pos rfl]
      rw [Bool.and_eq_true] at hc
      refine .inr ⟨hk, by simp, hc.1, fun y hy hcy => ?_⟩
      rcases List.mem_append.1 hy with q | q
      · exact nl_le (nl_asym hc.2) (h3 y q hcy)
      · simp at q; rw [q]; exact nl_irr _
    | false =>
      rw [if_neg (by simp)]
      refine .inr ⟨h0, by simp [h1], h2, fun y hy hcy => ?_⟩
      rcases List.mem_append.1 hy with q | q
      · exact h3 y q hcy
      · simp at q; subst q
        rw [hcy, Bool.true_and] at hc; exact hc
theorem nxt_ok {fr : ByteArray} {first : Bool} {ks : List ByteArray} (hk : ∀ k ∈ ks, 1 ≤ k.size) : NxtOk fr first ks (nxt fr first ks) := by
  have key : ∀ i, i ≤ ks.length → NxtOk fr first (ks.take i) (nxt fr first (ks.take i)) := by
    intro i
    induction i with
    | zero => intro _; exact .inl ⟨by simp [nxt], by simp⟩
    | succ i ih =>
      intro hi
      obtain ⟨k, hki⟩ : ∃ k, ks[i]? = some k := ⟨ks[i], List.getElem?_eq_getElem (by omega)⟩
      rw [nxt_take hki, ML.take_snoc hki]
      exact nxtOk_snoc (ih (by omega)) (hk k (List.mem_of_getElem? hki))
  have := key ks.length (Nat.le_refl _)
  rwa [List.take_length] at this
/-! ### What has been found -/
def mkR (S : Ms) (k : ByteArray) : Ro := ⟨k, (look S k).getD ⟨#[]⟩, if (look S k).isSome then 0 else -1⟩
structure Scn (S : Ms) (lo hi : ByteArray) (cur : ByteArray) (out : List Ro) : Prop where
  srt : Srt out
  is : ∀ x ∈ out, x = mkR S x.k ∧ x.k ∈ kys S ∧ nless x.k lo = false ∧ (hi.size = 0 ∨ nless x.k hi = true)
  none : out = [] → cur = lo
  last : ∀ x ∈ out, nless cur x.k = false
  here : out ≠ [] → nless cur lo = false ∧ cur ∈ kys S
  all : out ≠ [] → ∀ k ∈ kys S, nless k lo = false → nless cur k = false → ∃ x ∈ out, x.k = k
theorem scn_start (S : Ms) (lo hi : ByteArray) : Scn S lo hi lo [] := ⟨List.Pairwise.nil, nofun, fun _ => rfl, nofun, fun h => absurd rfl h, fun h => absurd rfl h⟩
theorem scn_step {S : Ms} {lo hi cur nx : ByteArray} {out : List Ro} (h : Scn S lo hi cur out) (hn : nx ∈ kys S) (hc : cnd cur (decide (out.length = 0)) nx = true) (hm : ∀ k ∈ kys S, cnd cur (decide (out.length = 0)) k = true → nless k nx = false) (hh : hi.size = 0 ∨ nless nx hi = true) : Scn S lo hi nx (out ++ [mkR S nx]) := by
  have hlo : nless nx lo = false := by
    unfold cnd at hc
    rw [Bool.and_eq_true, Bool.not_eq_true'] at hc
    by_cases e : out = []
    · rw [h.none e] at hc; exact hc.1
    · exact nl_le (h.here e).1 hc.1
  have hgt : ∀ x ∈ out, nless x.k nx = true := by
    intro x hx
    have e : out ≠ [] := by intro q; rw [q] at hx; cases hx
    have hl : decide (out.length = 0) = false := by
      have := List.length_pos_iff.2 e
      simp; exact e
    unfold cnd at hc
    rw [hl, Bool.false_or, Bool.and_eq_true] at hc
    have h1 := h.last x hx
    rcases nl_tot x.k cur with r | r | r
    · exact nl_tr r hc.2
    · rw [r]; exact hc.2
    · rw [h1] at r; cases r
  refine ⟨?_, ?_, fun e => by simp at e, ?_, fun _ => ⟨hlo, hn⟩, fun _ k hk h1 h2 => ?_⟩
  · refine List.pairwise_append.2 ⟨h.srt, List.pairwise_singleton _ _, fun x hx y hy => ?_⟩
    simp at hy; rw [hy]; exact hgt x hx
  · intro x hx
    rcases List.mem_append.1 hx with q | q
    · exact h.is x q
    · simp at q; rw [q]; exact ⟨rfl, hn, hlo, hh⟩
  · intro x hx
    rcases List.mem_append.1 hx with q | q
    · exact nl_asym (hgt x q)
    · simp at q; rw [q]; exact nl_irr _
  · by_cases e : k = nx
    · exact ⟨mkR S nx, by simp, e.symm⟩
    · have hlt : nless k nx = true := by
        rcases nl_tot k nx with r | r | r
        · exact r
        · exact absurd r e
        · rw [h2] at r; cases r
      have hnc : cnd cur (decide (out.length = 0)) k = false := by
        cases q : cnd cur (decide (out.length = 0)) k with
        | false => rfl
        | true => have := hm k hk q; rw [hlt] at this; cases this
      by_cases e2 : out = []
      · subst e2
        rw [h.none rfl] at hnc
        unfold cnd at hnc
        rw [h1] at hnc
        simp at hnc
      · have hl : decide (out.length = 0) = false := by simp; exact e2
        have hcn : nless cur k = false := by
          unfold cnd at hnc
          rw [hl, Bool.false_or] at hnc
          cases q : nless cur k with
          | false => rfl
          | true => rw [nl_asym q, q] at hnc; cases hnc
        obtain ⟨x, hx, hxk⟩ := h.all e2 k hk h1 hcn
        exact ⟨x, by simp [hx], hxk⟩
theorem look_kys {S : Ms} {k v : ByteArray} (ok : S.ok) (h : look S k = some v) : k ∈ kys S := by
  unfold look at h
  unfold kys
  cases hq : wOf (S.ws.getD []) k with
  | some w =>
    obtain ⟨h1, h2⟩ := (wOf_some ok.kd).1 hq
    exact List.mem_append_right _ (List.mem_map.2 ⟨w, h1, h2⟩)
  | none =>
    rw [hq] at h
    obtain ⟨r, hr, _⟩ := Option.map_eq_some_iff.1 h
    obtain ⟨h1, h2⟩ := (fst_iff ok.srt).1 hr
    exact List.mem_append_left _ (List.mem_map.2 ⟨r, h1, h2⟩)
theorem kys_pos {S : Ms} (ok : S.ok) : ∀ k ∈ kys S, 1 ≤ k.size := by
  intro k hk
  rcases List.mem_append.1 hk with q | q
  · obtain ⟨r, hr, rfl⟩ := List.mem_map.1 q
    exact (rightR_iff.1 (ok.rows r hr)).1.1
  · obtain ⟨w, hw, rfl⟩ := List.mem_map.1 q
    exact (okW_iff.1 (ok.ows w hw)).1.1
theorem scn_end {S : Ms} (ok : S.ok) {lo hi cur : ByteArray} {out : List Ro} (h : Scn S lo hi cur out) (hstop : ∀ k ∈ kys S, cnd cur (decide (out.length = 0)) k = true → hi.size ≠ 0 ∧ nless k hi = false) : out.filter (fun r => decide (r.t = 0)) = scn S lo hi := by
  refine Ck.Ris.eq od (List.Pairwise.filter _ h.srt) (scn_srt ok) fun x => ?_
  rw [scn_mem ok, List.mem_filter]
  constructor
  · rintro ⟨hx, ht⟩
    obtain ⟨h1, h2, h3, h4⟩ := h.is x hx
    have ht : x.t = 0 := by simpa using ht
    have hl : (look S x.k).isSome = true := by
      cases q : (look S x.k).isSome with
      | true => rfl
      | false => rw [h1] at ht; unfold mkR at ht; rw [q] at ht; simp at ht
    obtain ⟨v, hv⟩ := Option.isSome_iff_exists.1 hl
    refine ⟨⟨ht, ?_⟩, ?_⟩
    · have : x.v = v := by rw [h1]; unfold mkR; rw [hv]; rfl
      rw [hv, this]
    · unfold ins
      rw [h3]
      rcases h4 with q | q
      · simp [q]
      · simp [q]
  · rintro ⟨⟨ht, hl⟩, hi2⟩
    have hk := look_kys ok hl
    unfold ins at hi2
    rw [Bool.and_eq_true, Bool.not_eq_true', Bool.or_eq_true] at hi2
    have hfin : ∃ y ∈ out, y.k = x.k := by
      have hnc : cnd cur (decide (out.length = 0)) x.k = false := by
        cases q : cnd cur (decide (out.length = 0)) x.k with
        | false => rfl
        | true =>
          obtain ⟨q1, q2⟩ := hstop x.k hk q
          rcases hi2.2 with r | r
          · exact absurd (by simpa using r) q1
          · rw [q2] at r; cases r
      by_cases e : out = []
      · subst e
        rw [h.none rfl] at hnc
        unfold cnd at hnc
        rw [hi2.1] at hnc
        simp at hnc
      · have hl : decide (out.length = 0) = false := by simp; exact e
        refine h.all e x.k hk hi2.1 ?_
        unfold cnd at hnc
        rw [hl, Bool.false_or] at hnc
        cases q : nless cur x.k with
        | false => rfl
        | true => rw [nl_asym q, q] at hnc; cases hnc
    obtain ⟨y, hy, he⟩ := hfin
    have hyx : y = x := by
      rw [(h.is y hy).1, he]
      unfold mkR
      rw [hl]
      cases x
      simp_all
    rw [hyx] at hy
    exact ⟨hy, by simpa using ht⟩
theorem filter_less {α : Type} {p q : α → Bool} : ∀ {l : List α} {x : α}, (∀ y, q y = true → p y = true) → x ∈ l → p x = true → q x = false → (l.filter q).length < (l.filter p).length
  | [], x, _, h, _, _ => by cases h
  | a :: l, x, hpq, h, h1, h2 => by
    have hle : (l.filter q).length ≤ (l.filter p).length := by
      have : ∀ m : List α, (m.filter q).length ≤ (m.filter p).length := by
        intro m
        induction m with
        | nil => simp
        | cons b m ih =>
          cases hq : q b with
          | true => simp [hq, hpq b hq]; exact ih
          | false => cases hp : p b <;> simp [hq, hp] <;> omega
      exact this l
    rcases List.mem_cons.1 h with e | e
    · subst e
      simp [h1, h2]; omega
    · have := filter_less hpq e h1 h2
      cases hq : q a with
      | true => simp [hq, hpq a hq]; exact this
      | false => cases hp : p a <;> simp [hq, hp] <;> omega
end Go.Proofs.Ytheidhkmmihjlaa

/-
  XnQ: Rows of keys that a call has made; a row's mark.
-/
set_option linter.unusedVariables false
set_option linter.unusedSimpArgs false
namespace Go.Proofs.Ytheidhkmmihjlaa
open Go.RowKit Go.Shelf Go.Maps
open ML (Ro RS Rr Sv rc rc_len rc_append Srt nless)
attribute [local go_sem] Oper.semAt_some
abbrev kcs (ks : List ByteArray) : List Value := ks.map Value.string
abbrev So (w : World) (B : Nat) (v : Value) (ks : List ByteArray) : Prop := w.ownsRow B 9 1 v ks.length (kcs ks)
theorem infoSt : (Try.prog.info? 9).map (fun i => (i.zero, i.size, i.bytes)) = some (some (.string .empty), 1, 16) := by kernel_rfl
section
variable {w : World} {B : Nat} {v : Value} {ks : List ByteArray}
theorem So.at (h : So w B v ks) : ∃ ao cap, v = .slice ao ks.length cap ∧ (0 < ks.length → ∃ g, ao = some ⟨g, 0, none⟩ ∧ g < w.heap.size ∧ ∀ i k, ks[i]? = some k → w.cell? ⟨g, i, none⟩ = some (.string k)) := by
  rcases h.2 with ⟨rfl, h0⟩ | ⟨g, cap, cur, rfl, hB, hh, hle, hm, hsz, htk⟩
  · exact ⟨none, 0, by rw [h0], fun q => by omega⟩
  · refine ⟨_, cap, rfl, fun q => ⟨g, rfl, (Array.getElem?_eq_some_iff.1 hh).1, fun i k hi => ?_⟩⟩
    have hil := (List.getElem?_eq_some_iff.1 hi).1
    have h1 := World.ownsRow.cellAt h i (by omega)
    rw [h1, List.getElem?_map, hi]
    rfl
theorem So.keep {w' : World} (h : So w B v ks) (hb : Below w.heap.size w w') : So w' B v ks := by
  refine ⟨h.1, ?_⟩
  rcases h.2 with q | ⟨g, cap, cur, e, hB, hh, r⟩
  · exact .inl q
  · exact .inr ⟨g, cap, cur, e, hB, (hb.block g (Array.getElem?_eq_some_iff.1 hh).1).trans hh, r⟩
theorem sapp (h : So w B v ks) (hB : B ≤ w.heap.size) (k : ByteArray) (hl : ks.length + 1 ≤ 1000000000000) :
    ∃ v' w', (Builtin.append_ #[92, 92] 92 #[v, .slice (some ⟨w.heap.size, 0, none⟩) 1 1]).run Try.prog (w.alloc (.cells #[.string k] 9)) = .ok v' w' ∧ So w' B v' (ks ++ [k]) ∧ (∀ a n, n ≤ B → Below n a (w.alloc (.cells #[.string k] 9)) → Below n a w') := by
  obtain ⟨i0, hi0, z0, z1, z2⟩ := info_parts infoSt
  have h' : So (w.alloc (.cells #[.string k] 9)) B v ks := h.keep (ML.below1 _ _)
  have hc : ∀ j u, ([Value.string k] : List Value)[j]? = some u → (w.alloc (.cells #[.string k] 9)).cell? ((⟨w.heap.size, 0, none⟩ : Addr).add j) = some u := fun j u hu => by
    have hj : j = 0 := by have := (List.getElem?_eq_some_iff.1 hu).1; simpa using this
    subst hj
    simp at hu; subst hu
    rw [addr_plus, Go.Joins.cell_of_block (heap_alloc_new _ _)]; rfl
  obtain ⟨v', w', hr, ho, hg, _, _⟩ := run_append_own_at (P := Try.prog) (w.alloc (.cells #[.string k] 9)) B 92 92 9 i0 _ 1 16 Try.underlying92 hi0 z0 z1 z2 rfl (by decide) v _ _ h' ⟨w.heap.size, 0, none⟩ 1 1 [.string k] rfl hc (by simp; rfl) (by unfold maxLen; omega) (by omega) (by have := (ML.below1 w (.cells #[.string k] 9)).size; omega)
  refine ⟨v', w', hr, ?_, fun a n hn hb => hb.grown hg (by have := (ML.below1 w (.cells #[.string k] 9)).size; omega) (fun q e => Nat.le_trans hn (World.ownsRow.lt h' q e).1)⟩
  unfold So kcs
  rw [List.length_append, List.map_append]
  exact ho
theorem rr_mark {out : List Ro} {k val : ByteArray} (h : Rr w B v (out ++ [⟨k, val, 0⟩])) : ∃ g cap, v = .slice (some ⟨g, 0, none⟩) (out ++ [(⟨k, val, 0⟩ : Ro)]).length cap ∧ B ≤ g ∧ g < w.heap.size ∧ w.cell? ⟨g, out.length * 3 + 2, none⟩ = some (.int .i64 0) ∧ w.frozen? ⟨g, out.length * 3 + 2, none⟩ = false ∧
    Rr (w.setCell ⟨g, out.length * 3 + 2, none⟩ (.int .i64 (-1))) B v (out ++ [⟨k, val, -1⟩]) := by
  rcases h.2 with ⟨_, h0⟩ | ⟨g, cap, cur, rfl, hB, hh, hle, hm, hsz, htk⟩
  · simp at h0
  · have hlen : (out ++ [(⟨k, val, 0⟩ : Ro)]).length = out.length + 1 := by simp
    have h1 := World.ownsRow.cellAt h (out.length * 3 + 2) (by rw [hlen]; omega)
    refine ⟨g, cap, rfl, hB, (Array.getElem?_eq_some_iff.1 hh).1, ?_, Go.Joins.unfrozen_of_block hh _, ?_⟩
    · rw [h1, rc_append, List.getElem?_append_right (by rw [rc_len]; omega), rc_len]
      have e : out.length * 3 + 2 - out.length * 3 = 2 := by omega
      rw [e]; rfl
    · have hn : (out ++ [(⟨k, val, -1⟩ : Ro)]).length = out.length + 1 := by simp
      refine ⟨by rw [rc_len], .inr ⟨g, cap, cur.setIfInBounds (out.length * 3 + 2) (.int .i64 (-1)), by rw [hlen, hn], hB, Go.Joins.block_setCell hh _, by rw [hn]; rw [hlen] at hle; exact hle, hm, by simp [hsz], ?_⟩⟩
      rw [hlen] at htk
      rw [hn, Array.toList_setIfInBounds, List.take_set, htk, rc_append, rc_append, List.set_append_right _ _ (by rw [rc_len]; omega), rc_len]
      have e : out.length * 3 + 2 - out.length * 3 = 2 := by omega
      rw [e]
      rfl
end
end Go.Proofs.Ytheidhkmmihjlaa
