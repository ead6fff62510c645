/-
  Insert, Lookup, Next; refuse; Ref. (Printed by gen_sg2.py.)
-/
import Derived.Test.YtmcfonekajieeaaDoorSg1
set_option linter.unusedVariables false
set_option linter.unusedSimpArgs false
namespace Go.Proofs.YtmcfonekajieeaaDoor
open Go.RowKit Go.Maps

/-- A tower's height. -/
def hgt (h : Int) : Nat := (min (max h 1) 8).toNat
theorem hgt_int (h : Int) : ((hgt h : Nat) : Int) = min (max h 1) 8 := by unfold hgt; omega
theorem hgt_bd (h : Int) : 1 ≤ hgt h ∧ hgt h ≤ 8 := by unfold hgt; omega

section
variable {w w' : World} {ob : Nat} {lp cv : Value} {o : Opm}
set_option maxHeartbeats 1000000 in
theorem lookup_raw {lp : Value} {k : ByteArray} {R : World → Prop} {v : Value} (hl : lp = .pointer none ∨ ∃ lb, lp = lpp lb) (hC : Calls Tryd.prog 37 #[lp, .int .i64 0, .string k] w fun e w' => e = .returned v ∧ R w') :
    Calls Tryd.prog 26 #[lp, .string k] w fun e w' => e = .returned v ∧ R w' := by
  have HC := hide2 hC
  clear hC
  go_enter Tryd.func26, Tryd.ntmps26
  go_wp2_with fail
  refine HC.out.mono ?_
  rintro e w1 ⟨rfl, hR⟩
  have HR := hide2 hR
  clear hR
  go_wp2
  go_ret
  exact ⟨rfl, HR.out⟩
set_option maxHeartbeats 1000000 in
theorem next_raw {lp : Value} {k : ByteArray} {R : World → Prop} {v : Value} (hC : Calls Tryd.prog 37 #[lp, .int .i64 1, .string k] w fun e w' => e = .returned v ∧ R w') :
    Calls Tryd.prog 28 #[lp, .string k] w fun e w' => e = .returned v ∧ R w' := by
  have HC := hide2 hC
  clear hC
  go_enter Tryd.func28, Tryd.ntmps28
  go_wp2_with fail
  refine HC.out.mono ?_
  rintro e w1 ⟨rfl, hR⟩
  have HR := hide2 hR
  clear hR
  go_wp2
  go_ret
  exact ⟨rfl, HR.out⟩
set_option maxHeartbeats 2000000 in
theorem insert_raw {lp : Value} {k : ByteArray} {ref height : Int} {o1 : Opm} (hC : Calls Tryd.prog 37 #[lp, .int .i64 2, .string k] w fun e w' => e = .returned (.pointer (some ⟨w.heap.size, 0, none⟩)) ∧ Om w' w.heap.size lp nilv o1 ∧ Below w.heap.size w w') :
    Calls Tryd.prog 27 #[lp, .string k, .int .i64 ref, .int .i64 height] w fun e w' => e = .returned (.pointer (some ⟨w.heap.size, 0, none⟩)) ∧ Om w' w.heap.size lp nilv { o1 with r := ref, h := hgt height } ∧ Below w.heap.size w w' := by
  have HC := hide2 hC
  clear hC
  go_enter Tryd.func27, Tryd.ntmps27
  go_wp2_with fail
  refine HC.out.mono ?_
  rintro e w1 ⟨rfl, h1, hb⟩
  have c19 := h1.cells.2.2.1
  have c20 := h1.cells.2.2.2.1
  have f19 := h1.free 19
  have f20 := h1.free 20
  have hl1 := h1.lt
  have x2 : Om ((w1.setCell ⟨w.heap.size, 19, none⟩ (.int .i64 ref)).setCell ⟨w.heap.size, 20, none⟩ (.int .i64 (min (max height 1) 8))) w.heap.size lp nilv { o1 with r := ref, h := hgt height } := by
    rw [← hgt_int]
    exact (h1.setRef ref).setH (hgt height)
  have b2 : Below w.heap.size w ((w1.setCell ⟨w.heap.size, 19, none⟩ (.int .i64 ref)).setCell ⟨w.heap.size, 20, none⟩ (.int .i64 (min (max height 1) 8))) := (hb.setCell (p := ⟨w.heap.size, 19, none⟩) (Nat.le_refl _) _).setCell (p := ⟨w.heap.size, 20, none⟩) (Nat.le_refl _) _
  have X2 := hide2 x2
  have B2 := hide2 b2
  clear h1 hb x2 b2 HC
  go_wp2
  go_ret
  exact ⟨rfl, X2.out, B2.out⟩

set_option maxHeartbeats 2000000 in
theorem refuse_nil (h : Om w ob (.pointer none) cv o) :
    Calls Tryd.prog 42 #[.pointer (some ⟨ob, 0, none⟩)] w fun e w' => e = .returned (.tuple #[]) ∧ Om w' ob (.pointer none) cv { o with code := 1, st := 5 } ∧ Fr (fun j => j = ob) w w' := by
  have c0 := h.cells.1
  have c21 := h.cells.2.2.2.2.1
  have c61 := h.cells.2.2.2.2.2.2.2.2.2.2.2
  have f21 := h.free 21
  have f61 := h.free 61
  have hl := h.lt
  have H := hide2 h
  clear h
  go_enter Tryd.func42, Tryd.ntmps42
  go_wp2_with fail
  refine (isNone_nil _).mono ?_
  rintro e w1 ⟨rfl, rfl⟩
  go_wp2
  go_end0
  refine ⟨rfl, ((H.out.setCode 100).setSt 5).setCode 1, ?_⟩
  exact ((((Fr.refl (fun j => j = ob) w).setCell (p := ⟨ob, 61, none⟩) (.inl rfl) _).setCell (p := ⟨ob, 21, none⟩) (.inl rfl) _).setCell (p := ⟨ob, 61, none⟩) (.inl rfl) _)

set_option maxHeartbeats 1000000 in
theorem ref_nil (w : World) : Calls Tryd.prog 14 #[.pointer none] w fun e w' => e = .returned (.tuple #[.string .empty, .int .i64 0, .bool false, .int .i64 1]) ∧ w' = w := by
  go_enter Tryd.func14, Tryd.ntmps14
  go_wp2
  exact bodyPost_ret (v := .tuple #[.string .empty, .int .i64 0, .bool false, .int .i64 1]) (by simp [results, Tryd.results14, go_sem] <;> rfl) rfl ⟨rfl, rfl⟩
set_option maxHeartbeats 1000000 in
theorem ref_early (h : Om w ob lp cv o) (hst : o.st ≠ 5) : Calls Tryd.prog 14 #[.pointer (some ⟨ob, 0, none⟩)] w fun e w' => e = .returned (.tuple #[.string .empty, .int .i64 0, .bool false, .int .i64 2]) ∧ w' = w := by
  have c21 := h.cells.2.2.2.2.1
  have d1 : ((o.st : Int) == 5) = false := by rw [beq_eq_false_iff_ne]; omega
  have d2 : ¬ (o.st : Int) = 5 := by omega
  clear h hst
  go_enter Tryd.func14, Tryd.ntmps14
  go_wp2
  exact bodyPost_ret (v := .tuple #[.string .empty, .int .i64 0, .bool false, .int .i64 2]) (by simp [results, Tryd.results14, go_sem] <;> rfl) rfl ⟨rfl, rfl⟩
set_option maxHeartbeats 1000000 in
theorem ostep_nil (w : World) : Calls Tryd.prog 20 #[.pointer none] w fun e w' => e = .returned (.bool true) ∧ w' = w := by
  go_enter Tryd.func20, Tryd.ntmps20
  go_wp2
  go_ret
  exact ⟨rfl, rfl⟩
set_option maxHeartbeats 1000000 in
theorem ostep_done (h : Om w ob lp cv o) (hst : o.st = 5) : Calls Tryd.prog 20 #[.pointer (some ⟨ob, 0, none⟩)] w fun e w' => e = .returned (.bool true) ∧ w' = w := by
  have c21 := h.cells.2.2.2.2.1
  rw [hst] at c21
  clear h hst
  go_enter Tryd.func20, Tryd.ntmps20
  go_wp2
  go_ret
  exact ⟨rfl, rfl⟩

set_option maxRecDepth 100000 in
set_option maxHeartbeats 4000000 in
theorem ref_done (h : Om w ob lp cv o) (hst : o.st = 5) (hk : o.fk.size ≤ 16) : Calls Tryd.prog 14 #[.pointer (some ⟨ob, 0, none⟩)] w fun e w' => e = .returned (.tuple #[.string o.fk, .int .i64 o.nm, .bool o.had, .int .i64 o.code]) ∧ Below w.heap.size w w' := by
  have c21 := h.cells.2.2.2.2.1
  rw [hst] at c21
  have s2 := h.cells.2.2.2.2.2.2.2.2.2.1
  have s3 := h.cells.2.2.2.2.2.2.2.2.2.2.1
  have s4 := h.cells.2.2.2.2.2.2.2.2.2.2.2
  have s1 := h.foundAt
  have hl := h.lt
  have HT : Hid (Calls Tryd.prog 32 #[.agg (kC o.fk)] w.drew fun e w' => e = .returned (.string o.fk) ∧ Below w.heap.size w w') := hide2 ((text_any o.fk hk w.drew).mono (by
    rintro e w' ⟨rfl, q⟩
    exact ⟨rfl, (below_drewN _ w 1).trans q⟩))
  clear h hst
  go_enter Tryd.func14, Tryd.ntmps14
  go_wp2_with fail
  refine wp_region_noPanic ?_
  refine wp_region_held_drew (S := (fun u : World => u.rangeAt ob 42 (kC o.fk).toList ∧ u.cell? ⟨ob, 59, none⟩ = some (.int .i64 o.nm) ∧ u.cell? ⟨ob, 60, none⟩ = some (.bool o.had) ∧ u.cell? ⟨ob, 61, none⟩ = some (.int .i64 o.code))) (by kernel_rfl) (⟨s1, s2, s3, s4⟩) (fun hHeld => ?_)
  refine wpAnyH_take (i := 0) (oi := { dst := some 13, op := _, type := _, pos := _, after := _, guard := _ }) (v := ?_) rfl (by kernel_rfl) (by kernel_rfl) (by kernel_rfl) (fun _ _ _ h => h) (Or.inl ⟨by rfl, ?_⟩) (by assumption) ?_
  rotate_left 1
  · intro u hSw; obtain ⟨s1, s2, s3, s4⟩ := hSw; go_simp; try with_reducible rfl
  try simp only [Act.put, List.setIfInBounds_toArray, List.set_cons_zero, List.set_cons_succ]
  refine wpAnyH_take (i := 1) (oi := { dst := some 14, op := _, type := _, pos := _, after := _, guard := _ }) (v := ?_) rfl (by kernel_rfl) (by kernel_rfl) (by kernel_rfl) (fun _ _ _ h => h) (Or.inl ⟨by rfl, ?_⟩) (by assumption) ?_
  rotate_left 1
  · intro u hSw; obtain ⟨s1, s2, s3, s4⟩ := hSw; go_simp; try with_reducible rfl
  try simp only [Act.put, List.setIfInBounds_toArray, List.set_cons_zero, List.set_cons_succ]
  refine wpAnyH_take (i := 2) (oi := { dst := some 15, op := _, type := _, pos := _, after := _, guard := _ }) (v := ?_) rfl (by kernel_rfl) (by kernel_rfl) (by kernel_rfl) (fun _ _ _ h => h) (Or.inl ⟨by rfl, ?_⟩) (by assumption) ?_
  rotate_left 1
  · intro u hSw; obtain ⟨s1, s2, s3, s4⟩ := hSw; go_simp; try with_reducible rfl
  try simp only [Act.put, List.setIfInBounds_toArray, List.set_cons_zero, List.set_cons_succ]
  refine wpAnyH_take (i := 3) (oi := { dst := some 16, op := _, type := _, pos := _, after := _, guard := _ }) (v := .agg ((kC o.fk).toList).toArray) rfl (by kernel_rfl) (by kernel_rfl) (by kernel_rfl) (fun _ _ _ h => h) (yieldsIf_load_mid (by rfl) 72 _ rfl ob 42 rfl ((kC o.fk).toList) _ (fun u hu => hu.1) Tryd.underlying72 rfl (by kernel_rfl)) (by assumption) ?_
  try simp only [Act.put, List.setIfInBounds_toArray, List.set_cons_zero, List.set_cons_succ]
  refine wpAnyH_take (i := 5) (oi := { dst := some 18, op := _, type := _, pos := _, after := _, guard := _ }) (v := ?_) rfl (by kernel_rfl) (by kernel_rfl) (by kernel_rfl) (fun _ _ _ h => h) (Or.inl ⟨by rfl, ?_⟩) (by assumption) ?_
  rotate_left 1
  · intro u hSw; obtain ⟨s1, s2, s3, s4⟩ := hSw; go_simp; try with_reducible rfl
  try simp only [Act.put, List.setIfInBounds_toArray, List.set_cons_zero, List.set_cons_succ]
  refine wpAnyH_take (i := 6) (oi := { dst := some 19, op := _, type := _, pos := _, after := _, guard := _ }) (v := ?_) rfl (by kernel_rfl) (by kernel_rfl) (by kernel_rfl) (fun _ _ _ h => h) (Or.inl ⟨by rfl, ?_⟩) (by assumption) ?_
  rotate_left 1
  · intro u hSw; obtain ⟨s1, s2, s3, s4⟩ := hSw; go_simp; try with_reducible rfl
  try simp only [Act.put, List.setIfInBounds_toArray, List.set_cons_zero, List.set_cons_succ]
  refine wpAnyH_take (i := 7) (oi := { dst := some 20, op := _, type := _, pos := _, after := _, guard := _ }) (v := ?_) rfl (by kernel_rfl) (by kernel_rfl) (by kernel_rfl) (fun _ _ _ h => h) (Or.inl ⟨by rfl, ?_⟩) (by assumption) ?_
  rotate_left 1
  · intro u hSw; obtain ⟨s1, s2, s3, s4⟩ := hSw; go_simp; try with_reducible rfl
  try simp only [Act.put, List.setIfInBounds_toArray, List.set_cons_zero, List.set_cons_succ]
  refine wpAnyH_take (i := 8) (oi := { dst := some 21, op := _, type := _, pos := _, after := _, guard := _ }) (v := ?_) rfl (by kernel_rfl) (by kernel_rfl) (by kernel_rfl) (fun _ _ _ h => h) (Or.inl ⟨by rfl, ?_⟩) (by assumption) ?_
  rotate_left 1
  · intro u hSw; obtain ⟨s1, s2, s3, s4⟩ := hSw; go_simp; try with_reducible rfl
  try simp only [Act.put, List.setIfInBounds_toArray, List.set_cons_zero, List.set_cons_succ]
  refine wpAnyH_take (i := 9) (oi := { dst := some 22, op := _, type := _, pos := _, after := _, guard := _ }) (v := ?_) rfl (by kernel_rfl) (by kernel_rfl) (by kernel_rfl) (fun _ _ _ h => h) (Or.inl ⟨by rfl, ?_⟩) (by assumption) ?_
  rotate_left 1
  · intro u hSw; obtain ⟨s1, s2, s3, s4⟩ := hSw; go_simp; try with_reducible rfl
  try simp only [Act.put, List.setIfInBounds_toArray, List.set_cons_zero, List.set_cons_succ]
  refine wpAnyH_take (i := 10) (oi := { dst := some 23, op := _, type := _, pos := _, after := _, guard := _ }) (v := ?_) rfl (by kernel_rfl) (by kernel_rfl) (by kernel_rfl) (fun _ _ _ h => h) (Or.inl ⟨by rfl, ?_⟩) (by assumption) ?_
  rotate_left 1
  · intro u hSw; obtain ⟨s1, s2, s3, s4⟩ := hSw; go_simp; try with_reducible rfl
  try simp only [Act.put, List.setIfInBounds_toArray, List.set_cons_zero, List.set_cons_succ]
  refine wpAnyH_take (i := 11) (oi := { dst := some 24, op := _, type := _, pos := _, after := _, guard := _ }) (v := ?_) rfl (by kernel_rfl) (by kernel_rfl) (by kernel_rfl) (fun _ _ _ h => h) (Or.inl ⟨by rfl, ?_⟩) (by assumption) ?_
  rotate_left 1
  · intro u hSw; obtain ⟨s1, s2, s3, s4⟩ := hSw; go_simp; try with_reducible rfl
  try simp only [Act.put, List.setIfInBounds_toArray, List.set_cons_zero, List.set_cons_succ]
  refine wpAnyH_take (i := 12) (oi := { dst := some 25, op := _, type := _, pos := _, after := _, guard := _ }) (v := ?_) rfl (by kernel_rfl) (by kernel_rfl) (by kernel_rfl) (fun _ _ _ h => h) (Or.inl ⟨by rfl, ?_⟩) (by assumption) ?_
  rotate_left 1
  · intro u hSw; obtain ⟨s1, s2, s3, s4⟩ := hSw; go_simp; try with_reducible rfl
  try simp only [Act.put, List.setIfInBounds_toArray, List.set_cons_zero, List.set_cons_succ]
  refine wpAnyH_take (i := 13) (oi := { dst := some 26, op := _, type := _, pos := _, after := _, guard := _ }) (v := ?_) rfl (by kernel_rfl) (by kernel_rfl) (by kernel_rfl) (fun _ _ _ h => h) (Or.inl ⟨by rfl, ?_⟩) (by assumption) ?_
  rotate_left 1
  · intro u hSw; obtain ⟨s1, s2, s3, s4⟩ := hSw; go_simp; try with_reducible rfl
  try simp only [Act.put, List.setIfInBounds_toArray, List.set_cons_zero, List.set_cons_succ]
  refine wpAnyH_take (i := 14) (oi := { dst := some 27, op := _, type := _, pos := _, after := _, guard := _ }) (v := ?_) rfl (by kernel_rfl) (by kernel_rfl) (by kernel_rfl) (fun _ _ _ h => h) (Or.inl ⟨by rfl, ?_⟩) (by assumption) ?_
  rotate_left 1
  · intro u hSw; obtain ⟨s1, s2, s3, s4⟩ := hSw; go_simp; try with_reducible rfl
  try simp only [Act.put, List.setIfInBounds_toArray, List.set_cons_zero, List.set_cons_succ]
  refine wpAnyH_take (i := 15) (oi := { dst := some 28, op := _, type := _, pos := _, after := _, guard := _ }) (v := ?_) rfl (by kernel_rfl) (by kernel_rfl) (by kernel_rfl) (fun _ _ _ h => h) (Or.inl ⟨by rfl, ?_⟩) (by assumption) ?_
  rotate_left 1
  · intro u hSw; obtain ⟨s1, s2, s3, s4⟩ := hSw; go_simp; try with_reducible rfl
  try simp only [Act.put, List.setIfInBounds_toArray, List.set_cons_zero, List.set_cons_succ]
  refine wpAnyH_take (i := 16) (oi := { dst := some 29, op := _, type := _, pos := _, after := _, guard := _ }) (v := ?_) rfl (by kernel_rfl) (by kernel_rfl) (by kernel_rfl) (fun _ _ _ h => h) (Or.inl ⟨by rfl, ?_⟩) (by assumption) ?_
  rotate_left 1
  · intro u hSw; obtain ⟨s1, s2, s3, s4⟩ := hSw; go_simp; try with_reducible rfl
  try simp only [Act.put, List.setIfInBounds_toArray, List.set_cons_zero, List.set_cons_succ]
  refine wpAnyH_ready (rs := [4]) (by kernel_rfl) (by simp) ?_
  refine AllReadyH.cons (o := { dst := some 17, op := _, type := _, pos := _, after := _, guard := _ }) rfl (fun Kq hK => ?_) AllReadyH.nil
  obtain ⟨s1, s2, s3, s4⟩ := hHeld
  go_simp
  refine HT.out.mono ?_
  rintro e w2 ⟨rfl, b2⟩
  have t1 : w2.rangeAt ob 42 (kC o.fk).toList := fun j v hv => (b2.cell (p := ⟨ob, 42 + j, none⟩) hl).trans (s1 j v hv)
  have t2 := (b2.cell (p := ⟨ob, 59, none⟩) hl).trans s2
  have t3 := (b2.cell (p := ⟨ob, 60, none⟩) hl).trans s3
  have t4 := (b2.cell (p := ⟨ob, 61, none⟩) hl).trans s4
  have B2 := hide2 b2
  clear b2
  go_wp2_with fail
  refine hK.out _ _ (⟨t1, t2, t3, t4⟩) (fun hHeld => ?_)
  clear hK Kq
  try simp only [Act.put, List.setIfInBounds_toArray, List.set_cons_zero, List.set_cons_succ]
  refine wpAnyH_take (i := 17) (oi := { dst := some 2, op := _, type := _, pos := _, after := _, guard := _ }) (v := ?_) rfl (by kernel_rfl) (by kernel_rfl) (by kernel_rfl) (fun _ _ _ h => h) (Or.inl ⟨by rfl, ?_⟩) (by assumption) ?_
  rotate_left 1
  · intro u hSw; obtain ⟨s1, s2, s3, s4⟩ := hSw; go_simp; try with_reducible rfl
  try simp only [Act.put, List.setIfInBounds_toArray, List.set_cons_zero, List.set_cons_succ]
  refine wpAnyH_take (i := 18) (oi := { dst := some 3, op := _, type := _, pos := _, after := _, guard := _ }) (v := ?_) rfl (by kernel_rfl) (by kernel_rfl) (by kernel_rfl) (fun _ _ _ h => h) (Or.inl ⟨by rfl, ?_⟩) (by assumption) ?_
  rotate_left 1
  · intro u hSw; obtain ⟨s1, s2, s3, s4⟩ := hSw; go_simp; try with_reducible rfl
  try simp only [Act.put, List.setIfInBounds_toArray, List.set_cons_zero, List.set_cons_succ]
  refine wpAnyH_take (i := 19) (oi := { dst := some 4, op := _, type := _, pos := _, after := _, guard := _ }) (v := ?_) rfl (by kernel_rfl) (by kernel_rfl) (by kernel_rfl) (fun _ _ _ h => h) (Or.inl ⟨by rfl, ?_⟩) (by assumption) ?_
  rotate_left 1
  · intro u hSw; obtain ⟨s1, s2, s3, s4⟩ := hSw; go_simp; try with_reducible rfl
  try simp only [Act.put, List.setIfInBounds_toArray, List.set_cons_zero, List.set_cons_succ]
  refine wpAnyH_take (i := 20) (oi := { dst := some 5, op := _, type := _, pos := _, after := _, guard := _ }) (v := ?_) rfl (by kernel_rfl) (by kernel_rfl) (by kernel_rfl) (fun _ _ _ h => h) (Or.inl ⟨by rfl, ?_⟩) (by assumption) ?_
  rotate_left 1
  · intro u hSw; obtain ⟨s1, s2, s3, s4⟩ := hSw; go_simp; try with_reducible rfl
  try simp only [Act.put, List.setIfInBounds_toArray, List.set_cons_zero, List.set_cons_succ]
  refine wpAnyH_done (by kernel_rfl) ?_ _
  refine NoPanic.normal ?_
  clear hHeld
  go_wp2
  exact bodyPost_ret (v := .tuple #[.string o.fk, .int .i64 o.nm, .bool o.had, .int .i64 o.code]) (by simp [results, Tryd.results14, go_sem] <;> rfl) rfl ⟨rfl, B2.out⟩
end
end Go.Proofs.YtmcfonekajieeaaDoor
