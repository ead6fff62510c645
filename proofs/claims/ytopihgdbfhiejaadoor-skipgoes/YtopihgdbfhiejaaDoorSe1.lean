/-
  Se1: raise: a tower is linked on its next level. (Printed by gen_se.py.)
  Se2: raise: a tower is linked on its next level. (Printed by gen_se.py.)
  Sf1: Step. (Printed by gen_sf.py.)
  Sf2: Step. (Printed by gen_sf.py.)
-/
import Derived.Test.YtopihgdbfhiejaaDoorSd1
import Derived.Laws.Tables
import Derived.Test.YtopihgdbfhiejaaDoorSc2
set_option linter.unusedVariables false
set_option linter.unusedSimpArgs false
namespace Go.Proofs.YtopihgdbfhiejaaDoor

section
open Go.RowKit Go.Maps


section
variable {w w' : World} {K B : Nat → Prop} {lb d g gt tc : Nat} {sv : Value} {T : List Bool} {N : List Int} {m : Int} {F : List Nat} {s : Sl} {ob : Nat} {cv : Value} {o : Opm}
theorem Lm.fset (h : Lm w K lb d g gt tc sv T N m F s) {j l x : Nat} (hj : j < s.tw.length) (hl : l < 8) : Lm (w.setCell ⟨gt, j * 34 + 26 + l, none⟩ (.int .i64 (x : Int))) K lb d g gt tc sv T N m F (s.fset j l x) ∧ Fr (fun i => i = gt) w (w.setCell ⟨gt, j * 34 + 26 + l, none⟩ (.int .i64 (x : Int))) := by
  obtain ⟨⟨n1, n2, n3, n4, n5, n6⟩, n7⟩ := h.ne
  have hF : Fr (fun i => i = gt) w (w.setCell ⟨gt, j * 34 + 26 + l, none⟩ (.int .i64 (x : Int))) := Fr.setCell (p := ⟨gt, j * 34 + 26 + l, none⟩) (Fr.refl (fun i => i = gt) w) (.inl rfl) _
  refine ⟨⟨h.aw.fr hF n5 n6, ?_, ?_, hrow_fr h.sp hF (fun i e q => (n7 i e).2.2.2 q), h.tab.fr hF (fun e => h.k0 (h.kk 0 (by simp [e]))), h.k0, h.kk, fun i hi => Nat.lt_of_lt_of_le (h.kl i hi) hF.size⟩, hF⟩
  · rw [fset_len]; exact h.lk.same (hF.block lb h.lk.lt n3)
  · rw [fset_len]
    have q := (World.ownsRow.stored h.tw (j * 34 + (26 + l)) (.int .i64 (x : Int))).1
    rw [flat34_set s.tw j (26 + l) (s.at j) { s.at j with fs := upd (s.at j).fs l x } _ (at_some hj) (by omega) (twL_set _ _ hl)] at q
    rw [← Nat.add_assoc] at q
    exact q
theorem fset_cs {i j l x : Nat} (hj : j < s.tw.length) : ((s.fset j l x).at i).cs = (s.at i).cs := by
  rw [fset_at hj]
  split
  · rename_i e; rw [e]
  · rfl
theorem raised_flat {i j l : Nat} (hi : i < s.tw.length) (hj : j < s.tw.length) (hij : i ≠ j) : (s.raised i j l).tw.flatMap twL = (s.fset j l (s.nx i l)).tw.flatMap twL := by
  have e1 : (s.tw.set i { s.at i with ns := upd (s.at i).ns l j }).map twL = s.tw.map twL := by
    apply List.ext_getElem?
    intro k
    rw [List.getElem?_map, List.getElem?_map, List.getElem?_set]
    by_cases e : i = k
    · rw [if_pos e, if_pos hi, ← e, at_some hi]; rfl
    · rw [if_neg e]
  rw [List.flatMap_def, List.flatMap_def]
  unfold Sl.raised Sl.fset
  show (((s.tw.set i { s.at i with ns := upd (s.at i).ns l j }).set j { s.at j with fs := upd (s.at j).fs l (s.nx i l), lk := l + 1 }).map twL).flatten = ((s.tw.set j { s.at j with fs := upd (s.at j).fs l (s.nx i l) }).map twL).flatten
  rw [List.map_set, e1, List.map_set]
  rfl
end
section
variable {w w' : World} {K B : Nat → Prop} {lb d g gt tc : Nat} {sv : Value} {T : List Bool} {N : List Int} {m : Int} {F : List Nat} {s : Sl} {ob : Nat} {cv : Value} {o : Opm}

set_option maxRecDepth 100000 in
set_option maxHeartbeats 8000000 in
theorem raise_yes (h : Lm w K lb d g gt tc sv T N m F s) (ho : Ob w B ob lb cv o) (hKB : ∀ j, K j → ¬ B j) {l i num : Nat} (hlv : o.lv = l) (hl : l < 8) (hpt : o.pt l = i) (hpn : o.pn l = num) (hlen : s.tw.length ≤ 100000) (hi : i < s.tw.length) (hnum : num < 4611686018427387904) (ht : T.getD ((s.at i).cs l) false = true) (hm : 0 ≤ m ∧ m < 4611686018427387904) (htw : o.tw < s.tw.length) (hcl : o.cs.length ≤ 1000000)
    (hok : true = decide (N.getD ((s.at i).cs l) 0 = num)) (hij : i ≠ o.tw) (hns : (s.at i).ns l = num) (hnl : num < s.tw.length) :
    Calls Tryd.prog 45 #[.pointer (some ⟨ob, 0, none⟩)] w fun e w' => e = .returned (.tuple #[]) ∧ ∃ cv', Lm w' K lb d g gt tc sv T (N.set ((s.at i).cs l) (o.tw : Int)) (m + 1) F (s.raised i o.tw l) ∧ Ob w' B ob lb cv' (o.rose (s.raised i o.tw l)) ∧ Fr (fun j => K j ∨ B j) w w' := by
  have c := ho.om.cells
  have p1 := c.1
  have p2 : w.cell? ⟨ob, 22, none⟩ = some (.int .i64 (l : Int)) := by have := c.2.2.2.2.2.1; rw [hlv] at this; exact this
  have p3 : w.cell? ⟨ob, 23 + l * 2, none⟩ = some (.int .i64 (i : Int)) := by have := ho.om.ptAt (l := l) hl; rw [hpt] at this; exact this
  have p4 : w.cell? ⟨ob, 23 + l * 2 + 1, none⟩ = some (.int .u64 (num : Int)) := by have := ho.om.pnAt (l := l) hl; rw [hpn] at this; exact this
  have hob := ho.om.lt
  have hl8 : (l : Int) < 8 := by omega
  have H := hide2 h
  have HO := hide2 ho
  have HKB := hide2 hKB
  have HLV := hide2 hlv
  have HOK := hide2 hok
  have HNS := hide2 hns
  clear c h ho hKB hpt hpn hlv hok hns
  go_enter Tryd.func45, Tryd.ntmps45
  go_wp2_with fail
  refine wp_region_noPanic ?_
  refine wp_region_held_drew (S := (fun u : World => u.cell? ⟨ob, 0, none⟩ = some (lpp lb) ∧ u.cell? ⟨ob, 22, none⟩ = some (.int .i64 (l : Int)) ∧ u.cell? ⟨ob, 23 + l * 2, none⟩ = some (.int .i64 (i : Int)) ∧ u.cell? ⟨ob, 23 + l * 2 + 1, none⟩ = some (.int .u64 (num : Int)))) (by kernel_rfl) (⟨p1, p2, p3, p4⟩) (fun hHeld => ?_)
  refine wpAnyH_take (i := 0) (oi := { dst := some 4, op := _, type := _, pos := _, after := _, guard := _ }) (v := ?_) rfl (by kernel_rfl) (by kernel_rfl) (by kernel_rfl) (fun _ _ _ h => h) (Or.inl ⟨by rfl, ?_⟩) (by assumption) ?_
  rotate_left 1
  · intro u hSw; obtain ⟨s1, s2, s3, s4⟩ := hSw; go_simp; try with_reducible rfl
  try simp only [Act.put, List.setIfInBounds_toArray, List.set_cons_zero, List.set_cons_succ]
  refine wpAnyH_take (i := 1) (oi := { dst := some 5, op := _, type := _, pos := _, after := _, guard := _ }) (v := ?_) rfl (by kernel_rfl) (by kernel_rfl) (by kernel_rfl) (fun _ _ _ h => h) (Or.inl ⟨by rfl, ?_⟩) (by assumption) ?_
  rotate_left 1
  · intro u hSw; obtain ⟨s1, s2, s3, s4⟩ := hSw; go_simp; try with_reducible rfl
  try simp only [Act.put, List.setIfInBounds_toArray, List.set_cons_zero, List.set_cons_succ]
  refine wpAnyH_take (i := 2) (oi := { dst := some 6, op := _, type := _, pos := _, after := _, guard := _ }) (v := ?_) rfl (by kernel_rfl) (by kernel_rfl) (by kernel_rfl) (fun _ _ _ h => h) (Or.inl ⟨by rfl, ?_⟩) (by assumption) ?_
  rotate_left 1
  · intro u hSw; obtain ⟨s1, s2, s3, s4⟩ := hSw; go_simp; try with_reducible rfl
  try simp only [Act.put, List.setIfInBounds_toArray, List.set_cons_zero, List.set_cons_succ]
  refine wpAnyH_take (i := 3) (oi := { dst := some 7, op := _, type := _, pos := _, after := _, guard := _ }) (v := ?_) rfl (by kernel_rfl) (by kernel_rfl) (by kernel_rfl) (fun _ _ _ h => h) (Or.inl ⟨by rfl, ?_⟩) (by assumption) ?_
  rotate_left 1
  · intro u hSw; obtain ⟨s1, s2, s3, s4⟩ := hSw; go_simp; try with_reducible rfl
  try simp only [Act.put, List.setIfInBounds_toArray, List.set_cons_zero, List.set_cons_succ]
  refine wpAnyH_take (i := 4) (oi := { dst := some 8, op := _, type := _, pos := _, after := _, guard := _ }) (v := ?_) rfl (by kernel_rfl) (by kernel_rfl) (by kernel_rfl) (fun _ _ _ h => h) (Or.inl ⟨by rfl, ?_⟩) (by assumption) ?_
  rotate_left 1
  · intro u hSw; obtain ⟨s1, s2, s3, s4⟩ := hSw; go_simp; try with_reducible rfl
  try simp only [Act.put, List.setIfInBounds_toArray, List.set_cons_zero, List.set_cons_succ]
  refine wpAnyH_take (i := 5) (oi := { dst := some 9, op := _, type := _, pos := _, after := _, guard := _ }) (v := ?_) rfl (by kernel_rfl) (by kernel_rfl) (by kernel_rfl) (fun _ _ _ h => h) (Or.inl ⟨by rfl, ?_⟩) (by assumption) ?_
  rotate_left 1
  · intro u hSw; obtain ⟨s1, s2, s3, s4⟩ := hSw; go_simp; try with_reducible rfl
  try simp only [Act.put, List.setIfInBounds_toArray, List.set_cons_zero, List.set_cons_succ]
  refine wpAnyH_take (i := 6) (oi := { dst := some 10, op := _, type := _, pos := _, after := _, guard := _ }) (v := ?_) rfl (by kernel_rfl) (by kernel_rfl) (by kernel_rfl) (fun _ _ _ h => h) (Or.inl ⟨by rfl, ?_⟩) (by assumption) ?_
  rotate_left 1
  · intro u hSw; obtain ⟨s1, s2, s3, s4⟩ := hSw; go_simp; try with_reducible rfl
  try simp only [Act.put, List.setIfInBounds_toArray, List.set_cons_zero, List.set_cons_succ]
  refine wpAnyH_take (i := 7) (oi := { dst := some 11, op := _, type := _, pos := _, after := _, guard := _ }) (v := ?_) rfl (by kernel_rfl) (by kernel_rfl) (by kernel_rfl) (fun _ _ _ h => h) (Or.inl ⟨by rfl, ?_⟩) (by assumption) ?_
  rotate_left 1
  · intro u hSw; obtain ⟨s1, s2, s3, s4⟩ := hSw; go_simp; try with_reducible rfl
  try simp only [Act.put, List.setIfInBounds_toArray, List.set_cons_zero, List.set_cons_succ]
  refine wpAnyH_take (i := 8) (oi := { dst := some 12, op := _, type := _, pos := _, after := _, guard := _ }) (v := ?_) rfl (by kernel_rfl) (by kernel_rfl) (by kernel_rfl) (fun _ _ _ h => h) (Or.inl ⟨by rfl, ?_⟩) (by assumption) ?_
  rotate_left 1
  · intro u hSw; obtain ⟨s1, s2, s3, s4⟩ := hSw; go_simp; try with_reducible rfl
  try simp only [Act.put, List.setIfInBounds_toArray, List.set_cons_zero, List.set_cons_succ]
  refine wpAnyH_take (i := 9) (oi := { dst := some 13, op := _, type := _, pos := _, after := _, guard := _ }) (v := ?_) rfl (by kernel_rfl) (by kernel_rfl) (by kernel_rfl) (fun _ _ _ h => h) (Or.inl ⟨by rfl, ?_⟩) (by assumption) ?_
  rotate_left 1
  · intro u hSw; obtain ⟨s1, s2, s3, s4⟩ := hSw; go_simp; try with_reducible rfl
  try simp only [Act.put, List.setIfInBounds_toArray, List.set_cons_zero, List.set_cons_succ]
  refine wpAnyH_take (i := 10) (oi := { dst := some 14, op := _, type := _, pos := _, after := _, guard := _ }) (v := ?_) rfl (by kernel_rfl) (by kernel_rfl) (by kernel_rfl) (fun _ _ _ h => h) (Or.inl ⟨by rfl, ?_⟩) (by assumption) ?_
  rotate_left 1
  · intro u hSw; obtain ⟨s1, s2, s3, s4⟩ := hSw; go_simp; try with_reducible rfl
  try simp only [Act.put, List.setIfInBounds_toArray, List.set_cons_zero, List.set_cons_succ]
  refine wpAnyH_take (i := 11) (oi := { dst := some 15, op := _, type := _, pos := _, after := _, guard := _ }) (v := ?_) rfl (by kernel_rfl) (by kernel_rfl) (by kernel_rfl) (fun _ _ _ h => h) (Or.inl ⟨by rfl, ?_⟩) (by assumption) ?_
  rotate_left 1
  · intro u hSw; obtain ⟨s1, s2, s3, s4⟩ := hSw; go_simp; try with_reducible rfl
  try simp only [Act.put, List.setIfInBounds_toArray, List.set_cons_zero, List.set_cons_succ]
  refine wpAnyH_take (i := 12) (oi := { dst := some 16, op := _, type := _, pos := _, after := _, guard := _ }) (v := ?_) rfl (by kernel_rfl) (by kernel_rfl) (by kernel_rfl) (fun _ _ _ h => h) (Or.inl ⟨by rfl, ?_⟩) (by assumption) ?_
  rotate_left 1
  · intro u hSw; obtain ⟨s1, s2, s3, s4⟩ := hSw; go_simp; try with_reducible rfl
  try simp only [Act.put, List.setIfInBounds_toArray, List.set_cons_zero, List.set_cons_succ]
  obtain ⟨wa, hwa⟩ : ∃ y, y = (w.alloc (.cells #[.int .i64 0, .int .u64 0] 79)).drew := ⟨_, rfl⟩
  have fa : Fr (fun _ => False) w wa := by rw [hwa]; exact ((Fr.refl _ w).alloc _).drewN 1
  obtain ⟨X, hX⟩ : ∃ y, y = w.heap.size := ⟨_, rfl⟩
  have ba : wa.heap[X]? = some (.cells #[.int .i64 0, .int .u64 0] 79 (0, 0)) := by rw [hwa, hX]; exact heap_alloc_new w _
  have hXob : ¬ X = ob := by omega
  have k0 : wa.cell? ⟨X, 0, none⟩ = some (.int .i64 0) := by rw [Go.Joins.cell_of_block ba]; rfl
  have k1 : wa.cell? ⟨X, 1, none⟩ = some (.int .u64 0) := by rw [Go.Joins.cell_of_block ba]; rfl
  have kf0 := Go.Joins.unfrozen_of_block ba 0
  have kf1 := Go.Joins.unfrozen_of_block ba 1
  have a1 := (fa.cell (p := ⟨ob, 0, none⟩) hob (fun e => e)).trans p1
  have a2 := (fa.cell (p := ⟨ob, 22, none⟩) hob (fun e => e)).trans p2
  have a3 := (fa.cell (p := ⟨ob, 23 + l * 2, none⟩) hob (fun e => e)).trans p3
  have a4 := (fa.cell (p := ⟨ob, 23 + l * 2 + 1, none⟩) hob (fun e => e)).trans p4
  refine wpAnyH_ready (rs := [13]) (by kernel_rfl) (by simp) ?_
  refine AllReadyH.cons (o := { dst := some 3, op := _, type := _, pos := _, after := _, guard := _ }) rfl (fun Kq hK => ?_) AllReadyH.nil
  clear hHeld
  go_simp
  go_wp2_with fail
  try rw [← hwa]
  try rw [← hX]
  refine hK.out _ _ (⟨a1, a2, a3, a4⟩) (fun hHeld => ?_)
  clear hK Kq
  try simp only [Act.put, List.setIfInBounds_toArray, List.set_cons_zero, List.set_cons_succ]
  refine wpAnyH_take (i := 14) (oi := { dst := some 2, op := _, type := _, pos := _, after := _, guard := _ }) (v := ?_) rfl (by kernel_rfl) (by kernel_rfl) (by kernel_rfl) (fun _ _ _ h => h) (Or.inl ⟨by rfl, ?_⟩) (by assumption) ?_
  rotate_left 1
  · intro u hSw; obtain ⟨s1, s2, s3, s4⟩ := hSw; go_simp; try with_reducible rfl
  try simp only [Act.put, List.setIfInBounds_toArray, List.set_cons_zero, List.set_cons_succ]
  obtain ⟨w1, hw1⟩ : ∃ y, y = (w.alloc (.cells #[.int .i64 (i : Int), .int .u64 (num : Int)] 79)).drew := ⟨_, rfl⟩
  have b1 : w1.heap[X]? = some (.cells #[.int .i64 (i : Int), .int .u64 (num : Int)] 79 (0, 0)) := by rw [hw1, hX]; exact heap_alloc_new w _
  have f1 : Fr (fun _ => False) w w1 := by rw [hw1]; exact ((Fr.refl _ w).alloc _).drewN 1
  have B1 : Hid (Below w.heap.size w w1) := hide2 (f1.to (fun _ _ => id) (Nat.le_refl _))
  have e1 := (f1.cell (p := ⟨ob, 0, none⟩) hob (fun e => e)).trans p1
  have e2 := (f1.cell (p := ⟨ob, 22, none⟩) hob (fun e => e)).trans p2
  have e3 := (f1.cell (p := ⟨ob, 23 + l * 2, none⟩) hob (fun e => e)).trans p3
  have e4 := (f1.cell (p := ⟨ob, 23 + l * 2 + 1, none⟩) hob (fun e => e)).trans p4
  refine wpAnyH_ready (rs := [15]) (by kernel_rfl) (by simp) ?_
  refine AllReadyH.cons (o := { dst := none, op := _, type := _, pos := _, after := _, guard := _ }) rfl (fun Kq hK => ?_) AllReadyH.nil
  clear hHeld
  go_simp
  go_wp2_with fail
  try rw [← hw1]
  refine hK.out _ _ (⟨e1, e2, e3, e4⟩) (fun hHeld => ?_)
  clear hK Kq
  try simp only [Act.put, List.setIfInBounds_toArray, List.set_cons_zero, List.set_cons_succ]
  refine wpAnyH_done (by kernel_rfl) ?_ _
  refine NoPanic.normal ?_
  have HXX := hide2 hX
  clear hX
  have BX := hide2 b1
  have hXe : X = w.heap.size := HXX.out
  subst hXe
  clear hHeld p1 p2 p3 p4 a1 a2 a3 a4 e1 e2 e3 e4 k0 k1 kf0 kf1 ba fa f1 hwa hw1 b1
  have h1 := H.out.below B1.out
  have o1 := HO.out.below B1.out
  have s1 := h1.lk.cells.2.1
  have s2 := o1.om.cells.2.2.2.2.2.2.2.2.1
  have s3 : w1.cell? ⟨ob, 22, none⟩ = some (.int .i64 (l : Int)) := by have := o1.om.cells.2.2.2.2.2.1; rw [HLV.out] at this; exact this
  have s4 : w1.cell? ⟨w.heap.size, 0, none⟩ = some (.int .i64 (i : Int)) := by rw [Go.Joins.cell_of_block BX.out]; rfl
  have s5 : w1.cell? ⟨w.heap.size, 1, none⟩ = some (.int .u64 (num : Int)) := by rw [Go.Joins.cell_of_block BX.out]; rfl
  obtain ⟨first, hfirst⟩ : ∃ f, f = bh s i num l := ⟨_, rfl⟩
  have HBH : Hid (Calls Tryd.prog 55 #[.pointer (some ⟨lb, 0, none⟩), .agg #[.int .i64 (i : Int), .int .u64 (num : Int)], .int .i64 (l : Int)] w1.drew fun e w' => e = .returned (.int .i64 (first : Int)) ∧ Fr (fun _ => False) w1 w') := hide2 (((h1.drewn 1).behind hi hl hnum).mono (by
    rintro e w' ⟨rfl, q⟩
    exact ⟨by rw [hfirst], ((Fr.refl (fun _ => False) w1).drewN 1).trans (Fr.below (F := fun _ => False) q) (fun j e => .inl e)⟩))
  have hti : (o.tw : Int) < (s.tw.length : Int) := by omega
  have hcap := h1.cap
  have H1 := hide2 h1
  have O1 := hide2 o1
  have HFIRST := hide2 hfirst
  have hlb1 := h1.lk.lt
  have hob1 := o1.om.lt
  have hX1 : w.heap.size < w1.heap.size := (Array.getElem?_eq_some_iff.1 BX.out).1
  clear h1 o1 hfirst
  go_wp2
  refine wp_region_noPanic ?_
  refine wp_region_held_drew (S := (fun u : World => u.cell? ⟨lb, 1, none⟩ = some (tvv gt s.tw.length tc) ∧ u.cell? ⟨ob, 41, none⟩ = some (.int .i64 (o.tw : Int)) ∧ u.cell? ⟨ob, 22, none⟩ = some (.int .i64 (l : Int)) ∧ u.cell? ⟨w.heap.size, 0, none⟩ = some (.int .i64 (i : Int)) ∧ u.cell? ⟨w.heap.size, 1, none⟩ = some (.int .u64 (num : Int)))) (by kernel_rfl) (⟨s1, s2, s3, s4, s5⟩) (fun hHeld => ?_)
  refine wpAnyH_take (i := 0) (oi := { dst := some 17, op := _, type := _, pos := _, after := _, guard := _ }) (v := ?_) rfl (by kernel_rfl) (by kernel_rfl) (by kernel_rfl) (fun _ _ _ h => h) (Or.inl ⟨by rfl, ?_⟩) (by assumption) ?_
  rotate_left 1
  · intro u hSw; obtain ⟨s1, s2, s3, s4, s5⟩ := hSw; go_simp; try with_reducible rfl
  try simp only [Act.put, List.setIfInBounds_toArray, List.set_cons_zero, List.set_cons_succ]
  refine wpAnyH_take (i := 1) (oi := { dst := some 18, op := _, type := _, pos := _, after := _, guard := _ }) (v := ?_) rfl (by kernel_rfl) (by kernel_rfl) (by kernel_rfl) (fun _ _ _ h => h) (Or.inl ⟨by rfl, ?_⟩) (by assumption) ?_
  rotate_left 1
  · intro u hSw; obtain ⟨s1, s2, s3, s4, s5⟩ := hSw; go_simp; try with_reducible rfl
  try simp only [Act.put, List.setIfInBounds_toArray, List.set_cons_zero, List.set_cons_succ]
  refine wpAnyH_take (i := 2) (oi := { dst := some 19, op := _, type := _, pos := _, after := _, guard := _ }) (v := ?_) rfl (by kernel_rfl) (by kernel_rfl) (by kernel_rfl) (fun _ _ _ h => h) (Or.inl ⟨by rfl, ?_⟩) (by assumption) ?_
  rotate_left 1
  · intro u hSw; obtain ⟨s1, s2, s3, s4, s5⟩ := hSw; go_simp; try with_reducible rfl
  try simp only [Act.put, List.setIfInBounds_toArray, List.set_cons_zero, List.set_cons_succ]
  refine wpAnyH_take (i := 3) (oi := { dst := some 20, op := _, type := _, pos := _, after := _, guard := _ }) (v := ?_) rfl (by kernel_rfl) (by kernel_rfl) (by kernel_rfl) (fun _ _ _ h => h) (Or.inl ⟨by rfl, ?_⟩) (by assumption) ?_
  rotate_left 1
  · intro u hSw; obtain ⟨s1, s2, s3, s4, s5⟩ := hSw; go_simp; try with_reducible rfl
  try simp only [Act.put, List.setIfInBounds_toArray, List.set_cons_zero, List.set_cons_succ]
  refine wpAnyH_take (i := 4) (oi := { dst := some 21, op := _, type := _, pos := _, after := _, guard := _ }) (v := ?_) rfl (by kernel_rfl) (by kernel_rfl) (by kernel_rfl) (fun _ _ _ h => h) (Or.inl ⟨by rfl, ?_⟩) (by assumption) ?_
  rotate_left 1
  · intro u hSw; obtain ⟨s1, s2, s3, s4, s5⟩ := hSw; go_simp; try with_reducible rfl
  try simp only [Act.put, List.setIfInBounds_toArray, List.set_cons_zero, List.set_cons_succ]
  refine wpAnyH_take (i := 5) (oi := { dst := some 22, op := _, type := _, pos := _, after := _, guard := _ }) (v := ?_) rfl (by kernel_rfl) (by kernel_rfl) (by kernel_rfl) (fun _ _ _ h => h) (Or.inl ⟨by rfl, ?_⟩) (by assumption) ?_
  rotate_left 1
  · intro u hSw; obtain ⟨s1, s2, s3, s4, s5⟩ := hSw; go_simp; try with_reducible rfl
  try simp only [Act.put, List.setIfInBounds_toArray, List.set_cons_zero, List.set_cons_succ]
  refine wpAnyH_take (i := 6) (oi := { dst := some 23, op := _, type := _, pos := _, after := _, guard := _ }) (v := ?_) rfl (by kernel_rfl) (by kernel_rfl) (by kernel_rfl) (fun _ _ _ h => h) (Or.inl ⟨by rfl, ?_⟩) (by assumption) ?_
  rotate_left 1
  · intro u hSw; obtain ⟨s1, s2, s3, s4, s5⟩ := hSw; go_simp; try with_reducible rfl
  try simp only [Act.put, List.setIfInBounds_toArray, List.set_cons_zero, List.set_cons_succ]
  refine wpAnyH_take (i := 7) (oi := { dst := some 24, op := _, type := _, pos := _, after := _, guard := _ }) (v := ?_) rfl (by kernel_rfl) (by kernel_rfl) (by kernel_rfl) (fun _ _ _ h => h) (Or.inl ⟨by rfl, ?_⟩) (by assumption) ?_
  rotate_left 1
  · intro u hSw; obtain ⟨s1, s2, s3, s4, s5⟩ := hSw; go_simp; try with_reducible rfl
  try simp only [Act.put, List.setIfInBounds_toArray, List.set_cons_zero, List.set_cons_succ]
  refine wpAnyH_take (i := 8) (oi := { dst := some 25, op := _, type := _, pos := _, after := _, guard := _ }) (v := ?_) rfl (by kernel_rfl) (by kernel_rfl) (by kernel_rfl) (fun _ _ _ h => h) (Or.inl ⟨by rfl, ?_⟩) (by assumption) ?_
  rotate_left 1
  · intro u hSw; obtain ⟨s1, s2, s3, s4, s5⟩ := hSw; go_simp; try with_reducible rfl
  try simp only [Act.put, List.setIfInBounds_toArray, List.set_cons_zero, List.set_cons_succ]
  refine wpAnyH_take (i := 9) (oi := { dst := some 26, op := _, type := _, pos := _, after := _, guard := _ }) (v := ?_) rfl (by kernel_rfl) (by kernel_rfl) (by kernel_rfl) (fun _ _ _ h => h) (Or.inl ⟨by rfl, ?_⟩) (by assumption) ?_
  rotate_left 1
  · intro u hSw; obtain ⟨s1, s2, s3, s4, s5⟩ := hSw; go_simp; try with_reducible rfl
  try simp only [Act.put, List.setIfInBounds_toArray, List.set_cons_zero, List.set_cons_succ]
  refine wpAnyH_take (i := 10) (oi := { dst := some 27, op := _, type := _, pos := _, after := _, guard := _ }) (v := ?_) rfl (by kernel_rfl) (by kernel_rfl) (by kernel_rfl) (fun _ _ _ h => h) (Or.inl ⟨by rfl, ?_⟩) (by assumption) ?_
  rotate_left 1
  · intro u hSw; obtain ⟨s1, s2, s3, s4, s5⟩ := hSw; go_simp; try with_reducible rfl
  try simp only [Act.put, List.setIfInBounds_toArray, List.set_cons_zero, List.set_cons_succ]
  refine wpAnyH_take (i := 11) (oi := { dst := some 28, op := _, type := _, pos := _, after := _, guard := _ }) (v := ?_) rfl (by kernel_rfl) (by kernel_rfl) (by kernel_rfl) (fun _ _ _ h => h) (Or.inl ⟨by rfl, ?_⟩) (by assumption) ?_
  rotate_left 1
  · intro u hSw; obtain ⟨s1, s2, s3, s4, s5⟩ := hSw; go_simp; try with_reducible rfl
  try simp only [Act.put, List.setIfInBounds_toArray, List.set_cons_zero, List.set_cons_succ]
  refine wpAnyH_take (i := 12) (oi := { dst := some 29, op := _, type := _, pos := _, after := _, guard := _ }) (v := ?_) rfl (by kernel_rfl) (by kernel_rfl) (by kernel_rfl) (fun _ _ _ h => h) (Or.inl ⟨by rfl, ?_⟩) (by assumption) ?_
  rotate_left 1
  · intro u hSw; obtain ⟨s1, s2, s3, s4, s5⟩ := hSw; go_simp; try with_reducible rfl
  try simp only [Act.put, List.setIfInBounds_toArray, List.set_cons_zero, List.set_cons_succ]
  refine wpAnyH_take (i := 13) (oi := { dst := some 30, op := _, type := _, pos := _, after := _, guard := _ }) (v := ?_) rfl (by kernel_rfl) (by kernel_rfl) (by kernel_rfl) (fun _ _ _ h => h) (Or.inl ⟨by rfl, ?_⟩) (by assumption) ?_
  rotate_left 1
  · intro u hSw; obtain ⟨s1, s2, s3, s4, s5⟩ := hSw; go_simp; try with_reducible rfl
  try simp only [Act.put, List.setIfInBounds_toArray, List.set_cons_zero, List.set_cons_succ]
  refine wpAnyH_take (i := 14) (oi := { dst := some 31, op := _, type := _, pos := _, after := _, guard := _ }) (v := ?_) rfl (by kernel_rfl) (by kernel_rfl) (by kernel_rfl) (fun _ _ _ h => h) (Or.inl ⟨by rfl, ?_⟩) (by assumption) ?_
  rotate_left 1
  · intro u hSw; obtain ⟨s1, s2, s3, s4, s5⟩ := hSw; go_simp; try with_reducible rfl
  try simp only [Act.put, List.setIfInBounds_toArray, List.set_cons_zero, List.set_cons_succ]
  refine wpAnyH_take (i := 15) (oi := { dst := some 32, op := _, type := _, pos := _, after := _, guard := _ }) (v := ?_) rfl (by kernel_rfl) (by kernel_rfl) (by kernel_rfl) (fun _ _ _ h => h) (Or.inl ⟨by rfl, ?_⟩) (by assumption) ?_
  rotate_left 1
  · intro u hSw; obtain ⟨s1, s2, s3, s4, s5⟩ := hSw; go_simp; try with_reducible rfl
  try simp only [Act.put, List.setIfInBounds_toArray, List.set_cons_zero, List.set_cons_succ]
  refine wpAnyH_take (i := 16) (oi := { dst := some 33, op := _, type := _, pos := _, after := _, guard := _ }) (v := ?_) rfl (by kernel_rfl) (by kernel_rfl) (by kernel_rfl) (fun _ _ _ h => h) (Or.inl ⟨by rfl, ?_⟩) (by assumption) ?_
  rotate_left 1
  · intro u hSw; obtain ⟨s1, s2, s3, s4, s5⟩ := hSw; go_simp; try with_reducible rfl
  try simp only [Act.put, List.setIfInBounds_toArray, List.set_cons_zero, List.set_cons_succ]
  refine wpAnyH_take (i := 17) (oi := { dst := some 34, op := _, type := _, pos := _, after := _, guard := _ }) (v := ?_) rfl (by kernel_rfl) (by kernel_rfl) (by kernel_rfl) (fun _ _ _ h => h) (Or.inl ⟨by rfl, ?_⟩) (by assumption) ?_
  rotate_left 1
  · intro u hSw; obtain ⟨s1, s2, s3, s4, s5⟩ := hSw; go_simp; try with_reducible rfl
  try simp only [Act.put, List.setIfInBounds_toArray, List.set_cons_zero, List.set_cons_succ]
  refine wpAnyH_take (i := 19) (oi := { dst := some 36, op := _, type := _, pos := _, after := _, guard := _ }) (v := ?_) rfl (by kernel_rfl) (by kernel_rfl) (by kernel_rfl) (fun _ _ _ h => h) (Or.inl ⟨by rfl, ?_⟩) (by assumption) ?_
  rotate_left 1
  · intro u hSw; obtain ⟨s1, s2, s3, s4, s5⟩ := hSw; go_simp; try with_reducible rfl
  try simp only [Act.put, List.setIfInBounds_toArray, List.set_cons_zero, List.set_cons_succ]
  refine wpAnyH_take (i := 20) (oi := { dst := some 37, op := _, type := _, pos := _, after := _, guard := _ }) (v := ?_) rfl (by kernel_rfl) (by kernel_rfl) (by kernel_rfl) (fun _ _ _ h => h) (Or.inl ⟨by rfl, ?_⟩) (by assumption) ?_
  rotate_left 1
  · intro u hSw; obtain ⟨s1, s2, s3, s4, s5⟩ := hSw; go_simp; try with_reducible rfl
  try simp only [Act.put, List.setIfInBounds_toArray, List.set_cons_zero, List.set_cons_succ]
  refine wpAnyH_ready (rs := [18]) (by kernel_rfl) (by simp) ?_
  refine AllReadyH.cons (o := { dst := some 35, op := _, type := _, pos := _, after := _, guard := _ }) rfl (fun Kq hK => ?_) AllReadyH.nil
  obtain ⟨s1, s2, s3, s4, s5⟩ := hHeld
  go_simp
  refine HBH.out.mono ?_
  rintro e w2 ⟨rfl, f2⟩
  have H2 := hide2 (H1.out.keep f2 (fun _ _ e => e) (fun e => e))
  have O2 := hide2 (O1.out.keep f2 (fun _ _ e => e))
  have t1 := (f2.cell (p := ⟨lb, 1, none⟩) hlb1 (fun e => e)).trans s1
  have t2 := (f2.cell (p := ⟨ob, 41, none⟩) hob1 (fun e => e)).trans s2
  have t3 := (f2.cell (p := ⟨ob, 22, none⟩) hob1 (fun e => e)).trans s3
  have t4 := (f2.cell (p := ⟨w.heap.size, 0, none⟩) hX1 (fun e => e)).trans s4
  have t5 := (f2.cell (p := ⟨w.heap.size, 1, none⟩) hX1 (fun e => e)).trans s5
  have F2 : Hid (Fr (fun j => K j ∨ B j) w w2) := hide2 ((Fr.below (F := fun j => K j ∨ B j) B1.out).trans f2 (fun j e => e.elim))
  have hX2 : w.heap.size < w2.heap.size := Nat.lt_of_lt_of_le hX1 f2.size
  clear f2 s1 s2 s3 s4 s5
  go_wp2_with fail
  refine hK.out _ _ (⟨t1, t2, t3, t4, t5⟩) (fun hHeld => ?_)
  clear hK Kq
  try simp only [Act.put, List.setIfInBounds_toArray, List.set_cons_zero, List.set_cons_succ]
  refine wpAnyH_take (i := 21) (oi := { dst := some 38, op := _, type := _, pos := _, after := _, guard := _ }) (v := ?_) rfl (by kernel_rfl) (by kernel_rfl) (by kernel_rfl) (fun _ _ _ h => h) (Or.inl ⟨by rfl, ?_⟩) (by assumption) ?_
  rotate_left 1
  · intro u hSw; obtain ⟨s1, s2, s3, s4, s5⟩ := hSw; go_simp; try with_reducible rfl
  try simp only [Act.put, List.setIfInBounds_toArray, List.set_cons_zero, List.set_cons_succ]
  obtain ⟨hL, fL⟩ := H2.out.fset (j := o.tw) (l := l) (x := first) htw hl
  obtain ⟨w3, hw3⟩ : ∃ y, y = w2.setCell ⟨gt, o.tw * 34 + 26 + l, none⟩ (.int .i64 (first : Int)) := ⟨_, rfl⟩
  rw [← hw3] at hL fL
  have hgtK : K gt := H.out.kk gt (by simp)
  have fLK : Fr K w2 w3 := fL.mono (fun j _ e => by rw [e]; exact hgtK)
  have o3 := O2.out.keep fLK (fun j hB hK => HKB.out j hK hB)
  have r0 := H2.out.fsAt htw hl
  have rf : w2.frozen? ⟨gt, o.tw * 34 + 26 + l, none⟩ = false := by
    obtain ⟨c9, f9, h9⟩ := Go.Lib.ownsRow_kind H2.out.tw gt rfl
    rcases H2.out.tw.2 with ⟨e9, _⟩ | ⟨g9, cap9, cur9, e9, _, hh9, _⟩
    · cases e9
    · cases e9; exact Go.Joins.unfrozen_of_block hh9 _
  have hXK : ¬ K w.heap.size := fun e => by have := H.out.kl _ e; omega
  have u1 := hL.lk.cells.2.1
  rw [fset_len] at u1
  have u2 := o3.om.cells.2.2.2.2.2.2.2.2.1
  have u3 : w3.cell? ⟨ob, 22, none⟩ = some (.int .i64 (l : Int)) := by have := o3.om.cells.2.2.2.2.2.1; rw [HLV.out] at this; exact this
  have u4 := (fLK.cell (p := ⟨w.heap.size, 0, none⟩) hX2 hXK).trans t4
  have u5 := (fLK.cell (p := ⟨w.heap.size, 1, none⟩) hX2 hXK).trans t5
  have hgt2 := (World.ownsRow.lt H2.out.tw gt rfl).2
  have H3 := hide2 hL
  have O3 := hide2 o3
  have F3 : Hid (Fr (fun j => K j ∨ B j) w w3) := hide2 (F2.out.trans fLK (fun j e => .inl (.inl e)))
  have hX3 : w.heap.size < w3.heap.size := Nat.lt_of_lt_of_le hX2 fLK.size
  clear hL fL fLK o3
  refine wpAnyH_ready (rs := [22]) (by kernel_rfl) (by simp) ?_
  refine AllReadyH.cons (o := { dst := none, op := _, type := _, pos := _, after := _, guard := _ }) rfl (fun Kq hK => ?_) AllReadyH.nil
  clear hHeld
  go_simp
  go_wp2_with fail
  try rw [← hw3]
  refine hK.out _ _ (⟨u1, u2, u3, u4, u5⟩) (fun hHeld => ?_)
  clear hK Kq
  try simp only [Act.put, List.setIfInBounds_toArray, List.set_cons_zero, List.set_cons_succ]
  refine wpAnyH_done (by kernel_rfl) ?_ _
  refine NoPanic.normal ?_
  have HLK : Hid (Calls Tryd.prog 62 #[.pointer (some ⟨lb, 0, none⟩), .agg #[.int .i64 (i : Int), .int .u64 (num : Int)], .int .i64 (l : Int), .int .i64 (o.tw : Int)] w3.drew fun e w' => e = .returned (.bool true) ∧ Lm w' K lb d g gt tc sv T (if true = true then N.set ((s.at i).cs l) (o.tw : Int) else N) (m + 1) F (s.fset o.tw l first) ∧ Fr (fun j => j = d ∨ j = g) w3 w') := hide2 (by
    have ec : ((s.fset o.tw l first).at i).cs = (s.at i).cs := fset_cs htw
    have q := (H3.out.drewn 1).link (i := i) (l := l) (num := num) (j := o.tw) (by rw [fset_len]; exact hi) hl hnum (by omega) (by rw [ec]; exact ht) hm true (by rw [ec]; exact HOK.out)
    rw [ec] at q
    refine q.mono ?_
    rintro e w' ⟨rfl, q1, q2⟩
    exact ⟨rfl, q1, ((Fr.refl (fun j => j = d ∨ j = g) w3).drewN 1).trans q2 (fun j e => .inl e)⟩)
  clear hHeld t1 t2 t3 t4 t5 hw3 HBH r0 rf
  go_wp2
  refine wp_region_noPanic ?_
  refine wp_region_held_drew (S := (fun u : World => u.cell? ⟨ob, 41, none⟩ = some (.int .i64 (o.tw : Int)) ∧ u.cell? ⟨ob, 22, none⟩ = some (.int .i64 (l : Int)) ∧ u.cell? ⟨w.heap.size, 0, none⟩ = some (.int .i64 (i : Int)) ∧ u.cell? ⟨w.heap.size, 1, none⟩ = some (.int .u64 (num : Int)))) (by kernel_rfl) (⟨u2, u3, u4, u5⟩) (fun hHeld => ?_)
  refine wpAnyH_take (i := 0) (oi := { dst := some 39, op := _, type := _, pos := _, after := _, guard := _ }) (v := ?_) rfl (by kernel_rfl) (by kernel_rfl) (by kernel_rfl) (fun _ _ _ h => h) (Or.inl ⟨by rfl, ?_⟩) (by assumption) ?_
  rotate_left 1
  · intro u hSw; obtain ⟨s1, s2, s3, s4⟩ := hSw; go_simp; try with_reducible rfl
  try simp only [Act.put, List.setIfInBounds_toArray, List.set_cons_zero, List.set_cons_succ]
  refine wpAnyH_take (i := 1) (oi := { dst := some 40, op := _, type := _, pos := _, after := _, guard := _ }) (v := ?_) rfl (by kernel_rfl) (by kernel_rfl) (by kernel_rfl) (fun _ _ _ h => h) (Or.inl ⟨by rfl, ?_⟩) (by assumption) ?_
  rotate_left 1
  · intro u hSw; obtain ⟨s1, s2, s3, s4⟩ := hSw; go_simp; try with_reducible rfl
  try simp only [Act.put, List.setIfInBounds_toArray, List.set_cons_zero, List.set_cons_succ]
  refine wpAnyH_take (i := 2) (oi := { dst := some 41, op := _, type := _, pos := _, after := _, guard := _ }) (v := ?_) rfl (by kernel_rfl) (by kernel_rfl) (by kernel_rfl) (fun _ _ _ h => h) (Or.inl ⟨by rfl, ?_⟩) (by assumption) ?_
  rotate_left 1
  · intro u hSw; obtain ⟨s1, s2, s3, s4⟩ := hSw; go_simp; try with_reducible rfl
  try simp only [Act.put, List.setIfInBounds_toArray, List.set_cons_zero, List.set_cons_succ]
  refine wpAnyH_take (i := 3) (oi := { dst := some 42, op := _, type := _, pos := _, after := _, guard := _ }) (v := ?_) rfl (by kernel_rfl) (by kernel_rfl) (by kernel_rfl) (fun _ _ _ h => h) (Or.inl ⟨by rfl, ?_⟩) (by assumption) ?_
  rotate_left 1
  · intro u hSw; obtain ⟨s1, s2, s3, s4⟩ := hSw; go_simp; try with_reducible rfl
  try simp only [Act.put, List.setIfInBounds_toArray, List.set_cons_zero, List.set_cons_succ]
  refine wpAnyH_take (i := 4) (oi := { dst := some 43, op := _, type := _, pos := _, after := _, guard := _ }) (v := ?_) rfl (by kernel_rfl) (by kernel_rfl) (by kernel_rfl) (fun _ _ _ h => h) (Or.inl ⟨by rfl, ?_⟩) (by assumption) ?_
  rotate_left 1
  · intro u hSw; obtain ⟨s1, s2, s3, s4⟩ := hSw; go_simp; try with_reducible rfl
  try simp only [Act.put, List.setIfInBounds_toArray, List.set_cons_zero, List.set_cons_succ]
  refine wpAnyH_take (i := 5) (oi := { dst := some 44, op := _, type := _, pos := _, after := _, guard := _ }) (v := ?_) rfl (by kernel_rfl) (by kernel_rfl) (by kernel_rfl) (fun _ _ _ h => h) (Or.inl ⟨by rfl, ?_⟩) (by assumption) ?_
  rotate_left 1
  · intro u hSw; obtain ⟨s1, s2, s3, s4⟩ := hSw; go_simp; try with_reducible rfl
  try simp only [Act.put, List.setIfInBounds_toArray, List.set_cons_zero, List.set_cons_succ]
  refine wpAnyH_take (i := 6) (oi := { dst := some 45, op := _, type := _, pos := _, after := _, guard := _ }) (v := ?_) rfl (by kernel_rfl) (by kernel_rfl) (by kernel_rfl) (fun _ _ _ h => h) (Or.inl ⟨by rfl, ?_⟩) (by assumption) ?_
  rotate_left 1
  · intro u hSw; obtain ⟨s1, s2, s3, s4⟩ := hSw; go_simp; try with_reducible rfl
  try simp only [Act.put, List.setIfInBounds_toArray, List.set_cons_zero, List.set_cons_succ]
  refine wpAnyH_take (i := 7) (oi := { dst := some 46, op := _, type := _, pos := _, after := _, guard := _ }) (v := ?_) rfl (by kernel_rfl) (by kernel_rfl) (by kernel_rfl) (fun _ _ _ h => h) (Or.inl ⟨by rfl, ?_⟩) (by assumption) ?_
  rotate_left 1
  · intro u hSw; obtain ⟨s1, s2, s3, s4⟩ := hSw; go_simp; try with_reducible rfl
  try simp only [Act.put, List.setIfInBounds_toArray, List.set_cons_zero, List.set_cons_succ]
  refine wpAnyH_take (i := 8) (oi := { dst := some 47, op := _, type := _, pos := _, after := _, guard := _ }) (v := ?_) rfl (by kernel_rfl) (by kernel_rfl) (by kernel_rfl) (fun _ _ _ h => h) (Or.inl ⟨by rfl, ?_⟩) (by assumption) ?_
  rotate_left 1
  · intro u hSw; obtain ⟨s1, s2, s3, s4⟩ := hSw; go_simp; try with_reducible rfl
  try simp only [Act.put, List.setIfInBounds_toArray, List.set_cons_zero, List.set_cons_succ]
  refine wpAnyH_take (i := 9) (oi := { dst := some 48, op := _, type := _, pos := _, after := _, guard := _ }) (v := ?_) rfl (by kernel_rfl) (by kernel_rfl) (by kernel_rfl) (fun _ _ _ h => h) (Or.inl ⟨by rfl, ?_⟩) (by assumption) ?_
  rotate_left 1
  · intro u hSw; obtain ⟨s1, s2, s3, s4⟩ := hSw; go_simp; try with_reducible rfl
  try simp only [Act.put, List.setIfInBounds_toArray, List.set_cons_zero, List.set_cons_succ]
  refine wpAnyH_ready (rs := [10]) (by kernel_rfl) (by simp) ?_
  refine AllReadyH.cons (o := { dst := some 49, op := _, type := _, pos := _, after := _, guard := _ }) rfl (fun Kq hK => ?_) AllReadyH.nil
  obtain ⟨s1, s2, s3, s4⟩ := hHeld
  go_simp
  refine HLK.out.mono ?_
  rintro e w4 ⟨rfl, h4, f4⟩
  have f4K : Fr K w3 w4 := f4.mono (fun j _ e => H.out.kk j (by rcases e with e | e <;> simp [e]))
  have o4 := O3.out.keep f4K (fun j hB hK => HKB.out j hK hB)
  have v2 := o4.om.cells.2.2.2.2.2.2.2.2.1
  have v3 : w4.cell? ⟨ob, 22, none⟩ = some (.int .i64 (l : Int)) := by have := o4.om.cells.2.2.2.2.2.1; rw [HLV.out] at this; exact this
  have v4 := (f4K.cell (p := ⟨w.heap.size, 0, none⟩) hX3 hXK).trans u4
  have v5 := (f4K.cell (p := ⟨w.heap.size, 1, none⟩) hX3 hXK).trans u5
  have H4 := hide2 h4
  have O4 := hide2 o4
  have F4 : Hid (Fr (fun j => K j ∨ B j) w w4) := hide2 (F3.out.trans f4K (fun j e => .inl (.inl e)))
  clear h4 o4 f4 f4K
  go_wp2_with fail
  refine hK.out _ _ (⟨v2, v3, v4, v5⟩) (fun hHeld => ?_)
  clear hK Kq
  try simp only [Act.put, List.setIfInBounds_toArray, List.set_cons_zero, List.set_cons_succ]
  refine wpAnyH_take (i := 11) (oi := { dst := some 50, op := _, type := _, pos := _, after := _, guard := _ }) (v := ?_) rfl (by kernel_rfl) (by kernel_rfl) (by kernel_rfl) (fun _ _ _ h => h) (Or.inl ⟨by rfl, ?_⟩) (by assumption) ?_
  rotate_left 1
  · intro u hSw; obtain ⟨s1, s2, s3, s4⟩ := hSw; go_simp; try with_reducible rfl
  try simp only [Act.put, List.setIfInBounds_toArray, List.set_cons_zero, List.set_cons_succ]
  refine wpAnyH_done (by kernel_rfl) ?_ _
  refine NoPanic.normal ?_
  clear hHeld u1 u2 u3 u4 u5 v2 v3 v4 v5 HLK H3 O3 F3
  have hbh : first = s.nx i l := by
    rw [HFIRST.out]
    unfold bh Sl.nx
    rw [HNS.out]
    by_cases q : num = 0
    · rw [if_pos q, if_pos q]
    · rw [if_neg q, if_neg q, if_neg (by omega)]
  have h5 : Lm w4 K lb d g gt tc sv T (N.set ((s.at i).cs l) (o.tw : Int)) (m + 1) F (s.raised i o.tw l) := by
    have q := H4.out
    simp only [if_true] at q
    refine q.ghost ?_ ?_ rfl
    · rw [raised_len, fset_len]
    · rw [raised_flat hi htw hij, ← hbh]
  have HRI := hide2 (rise_any h5 O4.out HKB.out (by rw [raised_len]; exact htw) (by rw [HLV.out]; exact hl) hcl)
  clear h5 hbh
  go_wp2_with fail
  refine HRI.out.mono ?_
  rintro e w5 ⟨rfl, cv5, h5, o5, f5⟩
  go_wp2
  go_end0
  exact ⟨rfl, cv5, h5, o5, F4.out.trans f5 (fun j e => .inl (.inr e))⟩
end
end

section
open Go.RowKit Go.Maps

section
variable {w w' : World} {K B : Nat → Prop} {lb d g gt tc : Nat} {sv : Value} {T : List Bool} {N : List Int} {m : Int} {F : List Nat} {s : Sl} {ob : Nat} {cv : Value} {o : Opm}

set_option maxRecDepth 100000 in
set_option maxHeartbeats 8000000 in
theorem raise_no (h : Lm w K lb d g gt tc sv T N m F s) (ho : Ob w B ob lb cv o) (hKB : ∀ j, K j → ¬ B j) {l i num : Nat} (hlv : o.lv = l) (hl : l < 8) (hpt : o.pt l = i) (hpn : o.pn l = num) (hlen : s.tw.length ≤ 100000) (hi : i < s.tw.length) (hnum : num < 4611686018427387904) (ht : T.getD ((s.at i).cs l) false = true) (hm : 0 ≤ m ∧ m < 4611686018427387904) (htw : o.tw < s.tw.length) (hcl : o.cs.length ≤ 1000000)
    (hok : false = decide (N.getD ((s.at i).cs l) 0 = num)) :
    Calls Tryd.prog 45 #[.pointer (some ⟨ob, 0, none⟩)] w fun e w' => e = .returned (.tuple #[]) ∧ ∃ cv', Lm w' K lb d g gt tc sv T N (m + 1) F (s.fset o.tw l (bh s i num l)) ∧ Ob w' B ob lb cv' { o with st := 1 } ∧ Fr (fun j => K j ∨ B j) w w' := by
  have c := ho.om.cells
  have p1 := c.1
  have p2 : w.cell? ⟨ob, 22, none⟩ = some (.int .i64 (l : Int)) := by have := c.2.2.2.2.2.1; rw [hlv] at this; exact this
  have p3 : w.cell? ⟨ob, 23 + l * 2, none⟩ = some (.int .i64 (i : Int)) := by have := ho.om.ptAt (l := l) hl; rw [hpt] at this; exact this
  have p4 : w.cell? ⟨ob, 23 + l * 2 + 1, none⟩ = some (.int .u64 (num : Int)) := by have := ho.om.pnAt (l := l) hl; rw [hpn] at this; exact this
  have hob := ho.om.lt
  have hl8 : (l : Int) < 8 := by omega
  have H := hide2 h
  have HO := hide2 ho
  have HKB := hide2 hKB
  have HLV := hide2 hlv
  have HOK := hide2 hok
  skip
  clear c h ho hKB hpt hpn hlv hok
  go_enter Tryd.func45, Tryd.ntmps45
  go_wp2_with fail
  refine wp_region_noPanic ?_
  refine wp_region_held_drew (S := (fun u : World => u.cell? ⟨ob, 0, none⟩ = some (lpp lb) ∧ u.cell? ⟨ob, 22, none⟩ = some (.int .i64 (l : Int)) ∧ u.cell? ⟨ob, 23 + l * 2, none⟩ = some (.int .i64 (i : Int)) ∧ u.cell? ⟨ob, 23 + l * 2 + 1, none⟩ = some (.int .u64 (num : Int)))) (by kernel_rfl) (⟨p1, p2, p3, p4⟩) (fun hHeld => ?_)
  refine wpAnyH_take (i := 0) (oi := { dst := some 4, op := _, type := _, pos := _, after := _, guard := _ }) (v := ?_) rfl (by kernel_rfl) (by kernel_rfl) (by kernel_rfl) (fun _ _ _ h => h) (Or.inl ⟨by rfl, ?_⟩) (by assumption) ?_
  rotate_left 1
  · intro u hSw; obtain ⟨s1, s2, s3, s4⟩ := hSw; go_simp; try with_reducible rfl
  try simp only [Act.put, List.setIfInBounds_toArray, List.set_cons_zero, List.set_cons_succ]
  refine wpAnyH_take (i := 1) (oi := { dst := some 5, op := _, type := _, pos := _, after := _, guard := _ }) (v := ?_) rfl (by kernel_rfl) (by kernel_rfl) (by kernel_rfl) (fun _ _ _ h => h) (Or.inl ⟨by rfl, ?_⟩) (by assumption) ?_
  rotate_left 1
  · intro u hSw; obtain ⟨s1, s2, s3, s4⟩ := hSw; go_simp; try with_reducible rfl
  try simp only [Act.put, List.setIfInBounds_toArray, List.set_cons_zero, List.set_cons_succ]
  refine wpAnyH_take (i := 2) (oi := { dst := some 6, op := _, type := _, pos := _, after := _, guard := _ }) (v := ?_) rfl (by kernel_rfl) (by kernel_rfl) (by kernel_rfl) (fun _ _ _ h => h) (Or.inl ⟨by rfl, ?_⟩) (by assumption) ?_
  rotate_left 1
  · intro u hSw; obtain ⟨s1, s2, s3, s4⟩ := hSw; go_simp; try with_reducible rfl
  try simp only [Act.put, List.setIfInBounds_toArray, List.set_cons_zero, List.set_cons_succ]
  refine wpAnyH_take (i := 3) (oi := { dst := some 7, op := _, type := _, pos := _, after := _, guard := _ }) (v := ?_) rfl (by kernel_rfl) (by kernel_rfl) (by kernel_rfl) (fun _ _ _ h => h) (Or.inl ⟨by rfl, ?_⟩) (by assumption) ?_
  rotate_left 1
  · intro u hSw; obtain ⟨s1, s2, s3, s4⟩ := hSw; go_simp; try with_reducible rfl
  try simp only [Act.put, List.setIfInBounds_toArray, List.set_cons_zero, List.set_cons_succ]
  refine wpAnyH_take (i := 4) (oi := { dst := some 8, op := _, type := _, pos := _, after := _, guard := _ }) (v := ?_) rfl (by kernel_rfl) (by kernel_rfl) (by kernel_rfl) (fun _ _ _ h => h) (Or.inl ⟨by rfl, ?_⟩) (by assumption) ?_
  rotate_left 1
  · intro u hSw; obtain ⟨s1, s2, s3, s4⟩ := hSw; go_simp; try with_reducible rfl
  try simp only [Act.put, List.setIfInBounds_toArray, List.set_cons_zero, List.set_cons_succ]
  refine wpAnyH_take (i := 5) (oi := { dst := some 9, op := _, type := _, pos := _, after := _, guard := _ }) (v := ?_) rfl (by kernel_rfl) (by kernel_rfl) (by kernel_rfl) (fun _ _ _ h => h) (Or.inl ⟨by rfl, ?_⟩) (by assumption) ?_
  rotate_left 1
  · intro u hSw; obtain ⟨s1, s2, s3, s4⟩ := hSw; go_simp; try with_reducible rfl
  try simp only [Act.put, List.setIfInBounds_toArray, List.set_cons_zero, List.set_cons_succ]
  refine wpAnyH_take (i := 6) (oi := { dst := some 10, op := _, type := _, pos := _, after := _, guard := _ }) (v := ?_) rfl (by kernel_rfl) (by kernel_rfl) (by kernel_rfl) (fun _ _ _ h => h) (Or.inl ⟨by rfl, ?_⟩) (by assumption) ?_
  rotate_left 1
  · intro u hSw; obtain ⟨s1, s2, s3, s4⟩ := hSw; go_simp; try with_reducible rfl
  try simp only [Act.put, List.setIfInBounds_toArray, List.set_cons_zero, List.set_cons_succ]
  refine wpAnyH_take (i := 7) (oi := { dst := some 11, op := _, type := _, pos := _, after := _, guard := _ }) (v := ?_) rfl (by kernel_rfl) (by kernel_rfl) (by kernel_rfl) (fun _ _ _ h => h) (Or.inl ⟨by rfl, ?_⟩) (by assumption) ?_
  rotate_left 1
  · intro u hSw; obtain ⟨s1, s2, s3, s4⟩ := hSw; go_simp; try with_reducible rfl
  try simp only [Act.put, List.setIfInBounds_toArray, List.set_cons_zero, List.set_cons_succ]
  refine wpAnyH_take (i := 8) (oi := { dst := some 12, op := _, type := _, pos := _, after := _, guard := _ }) (v := ?_) rfl (by kernel_rfl) (by kernel_rfl) (by kernel_rfl) (fun _ _ _ h => h) (Or.inl ⟨by rfl, ?_⟩) (by assumption) ?_
  rotate_left 1
  · intro u hSw; obtain ⟨s1, s2, s3, s4⟩ := hSw; go_simp; try with_reducible rfl
  try simp only [Act.put, List.setIfInBounds_toArray, List.set_cons_zero, List.set_cons_succ]
  refine wpAnyH_take (i := 9) (oi := { dst := some 13, op := _, type := _, pos := _, after := _, guard := _ }) (v := ?_) rfl (by kernel_rfl) (by kernel_rfl) (by kernel_rfl) (fun _ _ _ h => h) (Or.inl ⟨by rfl, ?_⟩) (by assumption) ?_
  rotate_left 1
  · intro u hSw; obtain ⟨s1, s2, s3, s4⟩ := hSw; go_simp; try with_reducible rfl
  try simp only [Act.put, List.setIfInBounds_toArray, List.set_cons_zero, List.set_cons_succ]
  refine wpAnyH_take (i := 10) (oi := { dst := some 14, op := _, type := _, pos := _, after := _, guard := _ }) (v := ?_) rfl (by kernel_rfl) (by kernel_rfl) (by kernel_rfl) (fun _ _ _ h => h) (Or.inl ⟨by rfl, ?_⟩) (by assumption) ?_
  rotate_left 1
  · intro u hSw; obtain ⟨s1, s2, s3, s4⟩ := hSw; go_simp; try with_reducible rfl
  try simp only [Act.put, List.setIfInBounds_toArray, List.set_cons_zero, List.set_cons_succ]
  refine wpAnyH_take (i := 11) (oi := { dst := some 15, op := _, type := _, pos := _, after := _, guard := _ }) (v := ?_) rfl (by kernel_rfl) (by kernel_rfl) (by kernel_rfl) (fun _ _ _ h => h) (Or.inl ⟨by rfl, ?_⟩) (by assumption) ?_
  rotate_left 1
  · intro u hSw; obtain ⟨s1, s2, s3, s4⟩ := hSw; go_simp; try with_reducible rfl
  try simp only [Act.put, List.setIfInBounds_toArray, List.set_cons_zero, List.set_cons_succ]
  refine wpAnyH_take (i := 12) (oi := { dst := some 16, op := _, type := _, pos := _, after := _, guard := _ }) (v := ?_) rfl (by kernel_rfl) (by kernel_rfl) (by kernel_rfl) (fun _ _ _ h => h) (Or.inl ⟨by rfl, ?_⟩) (by assumption) ?_
  rotate_left 1
  · intro u hSw; obtain ⟨s1, s2, s3, s4⟩ := hSw; go_simp; try with_reducible rfl
  try simp only [Act.put, List.setIfInBounds_toArray, List.set_cons_zero, List.set_cons_succ]
  obtain ⟨wa, hwa⟩ : ∃ y, y = (w.alloc (.cells #[.int .i64 0, .int .u64 0] 79)).drew := ⟨_, rfl⟩
  have fa : Fr (fun _ => False) w wa := by rw [hwa]; exact ((Fr.refl _ w).alloc _).drewN 1
  obtain ⟨X, hX⟩ : ∃ y, y = w.heap.size := ⟨_, rfl⟩
  have ba : wa.heap[X]? = some (.cells #[.int .i64 0, .int .u64 0] 79 (0, 0)) := by rw [hwa, hX]; exact heap_alloc_new w _
  have hXob : ¬ X = ob := by omega
  have k0 : wa.cell? ⟨X, 0, none⟩ = some (.int .i64 0) := by rw [Go.Joins.cell_of_block ba]; rfl
  have k1 : wa.cell? ⟨X, 1, none⟩ = some (.int .u64 0) := by rw [Go.Joins.cell_of_block ba]; rfl
  have kf0 := Go.Joins.unfrozen_of_block ba 0
  have kf1 := Go.Joins.unfrozen_of_block ba 1
  have a1 := (fa.cell (p := ⟨ob, 0, none⟩) hob (fun e => e)).trans p1
  have a2 := (fa.cell (p := ⟨ob, 22, none⟩) hob (fun e => e)).trans p2
  have a3 := (fa.cell (p := ⟨ob, 23 + l * 2, none⟩) hob (fun e => e)).trans p3
  have a4 := (fa.cell (p := ⟨ob, 23 + l * 2 + 1, none⟩) hob (fun e => e)).trans p4
  refine wpAnyH_ready (rs := [13]) (by kernel_rfl) (by simp) ?_
  refine AllReadyH.cons (o := { dst := some 3, op := _, type := _, pos := _, after := _, guard := _ }) rfl (fun Kq hK => ?_) AllReadyH.nil
  clear hHeld
  go_simp
  go_wp2_with fail
  try rw [← hwa]
  try rw [← hX]
  refine hK.out _ _ (⟨a1, a2, a3, a4⟩) (fun hHeld => ?_)
  clear hK Kq
  try simp only [Act.put, List.setIfInBounds_toArray, List.set_cons_zero, List.set_cons_succ]
  refine wpAnyH_take (i := 14) (oi := { dst := some 2, op := _, type := _, pos := _, after := _, guard := _ }) (v := ?_) rfl (by kernel_rfl) (by kernel_rfl) (by kernel_rfl) (fun _ _ _ h => h) (Or.inl ⟨by rfl, ?_⟩) (by assumption) ?_
  rotate_left 1
  · intro u hSw; obtain ⟨s1, s2, s3, s4⟩ := hSw; go_simp; try with_reducible rfl
  try simp only [Act.put, List.setIfInBounds_toArray, List.set_cons_zero, List.set_cons_succ]
  obtain ⟨w1, hw1⟩ : ∃ y, y = (w.alloc (.cells #[.int .i64 (i : Int), .int .u64 (num : Int)] 79)).drew := ⟨_, rfl⟩
  have b1 : w1.heap[X]? = some (.cells #[.int .i64 (i : Int), .int .u64 (num : Int)] 79 (0, 0)) := by rw [hw1, hX]; exact heap_alloc_new w _
  have f1 : Fr (fun _ => False) w w1 := by rw [hw1]; exact ((Fr.refl _ w).alloc _).drewN 1
  have B1 : Hid (Below w.heap.size w w1) := hide2 (f1.to (fun _ _ => id) (Nat.le_refl _))
  have e1 := (f1.cell (p := ⟨ob, 0, none⟩) hob (fun e => e)).trans p1
  have e2 := (f1.cell (p := ⟨ob, 22, none⟩) hob (fun e => e)).trans p2
  have e3 := (f1.cell (p := ⟨ob, 23 + l * 2, none⟩) hob (fun e => e)).trans p3
  have e4 := (f1.cell (p := ⟨ob, 23 + l * 2 + 1, none⟩) hob (fun e => e)).trans p4
  refine wpAnyH_ready (rs := [15]) (by kernel_rfl) (by simp) ?_
  refine AllReadyH.cons (o := { dst := none, op := _, type := _, pos := _, after := _, guard := _ }) rfl (fun Kq hK => ?_) AllReadyH.nil
  clear hHeld
  go_simp
  go_wp2_with fail
  try rw [← hw1]
  refine hK.out _ _ (⟨e1, e2, e3, e4⟩) (fun hHeld => ?_)
  clear hK Kq
  try simp only [Act.put, List.setIfInBounds_toArray, List.set_cons_zero, List.set_cons_succ]
  refine wpAnyH_done (by kernel_rfl) ?_ _
  refine NoPanic.normal ?_
  have HXX := hide2 hX
  clear hX
  have BX := hide2 b1
  have hXe : X = w.heap.size := HXX.out
  subst hXe
  clear hHeld p1 p2 p3 p4 a1 a2 a3 a4 e1 e2 e3 e4 k0 k1 kf0 kf1 ba fa f1 hwa hw1 b1
  have h1 := H.out.below B1.out
  have o1 := HO.out.below B1.out
  have s1 := h1.lk.cells.2.1
  have s2 := o1.om.cells.2.2.2.2.2.2.2.2.1
  have s3 : w1.cell? ⟨ob, 22, none⟩ = some (.int .i64 (l : Int)) := by have := o1.om.cells.2.2.2.2.2.1; rw [HLV.out] at this; exact this
  have s4 : w1.cell? ⟨w.heap.size, 0, none⟩ = some (.int .i64 (i : Int)) := by rw [Go.Joins.cell_of_block BX.out]; rfl
  have s5 : w1.cell? ⟨w.heap.size, 1, none⟩ = some (.int .u64 (num : Int)) := by rw [Go.Joins.cell_of_block BX.out]; rfl
  obtain ⟨first, hfirst⟩ : ∃ f, f = bh s i num l := ⟨_, rfl⟩
  have HBH : Hid (Calls Tryd.prog 55 #[.pointer (some ⟨lb, 0, none⟩), .agg #[.int .i64 (i : Int), .int .u64 (num : Int)], .int .i64 (l : Int)] w1.drew fun e w' => e = .returned (.int .i64 (first : Int)) ∧ Fr (fun _ => False) w1 w') := hide2 (((h1.drewn 1).behind hi hl hnum).mono (by
    rintro e w' ⟨rfl, q⟩
    exact ⟨by rw [hfirst], ((Fr.refl (fun _ => False) w1).drewN 1).trans (Fr.below (F := fun _ => False) q) (fun j e => .inl e)⟩))
  have hti : (o.tw : Int) < (s.tw.length : Int) := by omega
  have hcap := h1.cap
  have H1 := hide2 h1
  have O1 := hide2 o1
  have HFIRST := hide2 hfirst
  have hlb1 := h1.lk.lt
  have hob1 := o1.om.lt
  have hX1 : w.heap.size < w1.heap.size := (Array.getElem?_eq_some_iff.1 BX.out).1
  clear h1 o1 hfirst
  go_wp2
  refine wp_region_noPanic ?_
  refine wp_region_held_drew (S := (fun u : World => u.cell? ⟨lb, 1, none⟩ = some (tvv gt s.tw.length tc) ∧ u.cell? ⟨ob, 41, none⟩ = some (.int .i64 (o.tw : Int)) ∧ u.cell? ⟨ob, 22, none⟩ = some (.int .i64 (l : Int)) ∧ u.cell? ⟨w.heap.size, 0, none⟩ = some (.int .i64 (i : Int)) ∧ u.cell? ⟨w.heap.size, 1, none⟩ = some (.int .u64 (num : Int)))) (by kernel_rfl) (⟨s1, s2, s3, s4, s5⟩) (fun hHeld => ?_)
  refine wpAnyH_take (i := 0) (oi := { dst := some 17, op := _, type := _, pos := _, after := _, guard := _ }) (v := ?_) rfl (by kernel_rfl) (by kernel_rfl) (by kernel_rfl) (fun _ _ _ h => h) (Or.inl ⟨by rfl, ?_⟩) (by assumption) ?_
  rotate_left 1
  · intro u hSw; obtain ⟨s1, s2, s3, s4, s5⟩ := hSw; go_simp; try with_reducible rfl
  try simp only [Act.put, List.setIfInBounds_toArray, List.set_cons_zero, List.set_cons_succ]
  refine wpAnyH_take (i := 1) (oi := { dst := some 18, op := _, type := _, pos := _, after := _, guard := _ }) (v := ?_) rfl (by kernel_rfl) (by kernel_rfl) (by kernel_rfl) (fun _ _ _ h => h) (Or.inl ⟨by rfl, ?_⟩) (by assumption) ?_
  rotate_left 1
  · intro u hSw; obtain ⟨s1, s2, s3, s4, s5⟩ := hSw; go_simp; try with_reducible rfl
  try simp only [Act.put, List.setIfInBounds_toArray, List.set_cons_zero, List.set_cons_succ]
  refine wpAnyH_take (i := 2) (oi := { dst := some 19, op := _, type := _, pos := _, after := _, guard := _ }) (v := ?_) rfl (by kernel_rfl) (by kernel_rfl) (by kernel_rfl) (fun _ _ _ h => h) (Or.inl ⟨by rfl, ?_⟩) (by assumption) ?_
  rotate_left 1
  · intro u hSw; obtain ⟨s1, s2, s3, s4, s5⟩ := hSw; go_simp; try with_reducible rfl
  try simp only [Act.put, List.setIfInBounds_toArray, List.set_cons_zero, List.set_cons_succ]
  refine wpAnyH_take (i := 3) (oi := { dst := some 20, op := _, type := _, pos := _, after := _, guard := _ }) (v := ?_) rfl (by kernel_rfl) (by kernel_rfl) (by kernel_rfl) (fun _ _ _ h => h) (Or.inl ⟨by rfl, ?_⟩) (by assumption) ?_
  rotate_left 1
  · intro u hSw; obtain ⟨s1, s2, s3, s4, s5⟩ := hSw; go_simp; try with_reducible rfl
  try simp only [Act.put, List.setIfInBounds_toArray, List.set_cons_zero, List.set_cons_succ]
  refine wpAnyH_take (i := 4) (oi := { dst := some 21, op := _, type := _, pos := _, after := _, guard := _ }) (v := ?_) rfl (by kernel_rfl) (by kernel_rfl) (by kernel_rfl) (fun _ _ _ h => h) (Or.inl ⟨by rfl, ?_⟩) (by assumption) ?_
  rotate_left 1
  · intro u hSw; obtain ⟨s1, s2, s3, s4, s5⟩ := hSw; go_simp; try with_reducible rfl
  try simp only [Act.put, List.setIfInBounds_toArray, List.set_cons_zero, List.set_cons_succ]
  refine wpAnyH_take (i := 5) (oi := { dst := some 22, op := _, type := _, pos := _, after := _, guard := _ }) (v := ?_) rfl (by kernel_rfl) (by kernel_rfl) (by kernel_rfl) (fun _ _ _ h => h) (Or.inl ⟨by rfl, ?_⟩) (by assumption) ?_
  rotate_left 1
  · intro u hSw; obtain ⟨s1, s2, s3, s4, s5⟩ := hSw; go_simp; try with_reducible rfl
  try simp only [Act.put, List.setIfInBounds_toArray, List.set_cons_zero, List.set_cons_succ]
  refine wpAnyH_take (i := 6) (oi := { dst := some 23, op := _, type := _, pos := _, after := _, guard := _ }) (v := ?_) rfl (by kernel_rfl) (by kernel_rfl) (by kernel_rfl) (fun _ _ _ h => h) (Or.inl ⟨by rfl, ?_⟩) (by assumption) ?_
  rotate_left 1
  · intro u hSw; obtain ⟨s1, s2, s3, s4, s5⟩ := hSw; go_simp; try with_reducible rfl
  try simp only [Act.put, List.setIfInBounds_toArray, List.set_cons_zero, List.set_cons_succ]
  refine wpAnyH_take (i := 7) (oi := { dst := some 24, op := _, type := _, pos := _, after := _, guard := _ }) (v := ?_) rfl (by kernel_rfl) (by kernel_rfl) (by kernel_rfl) (fun _ _ _ h => h) (Or.inl ⟨by rfl, ?_⟩) (by assumption) ?_
  rotate_left 1
  · intro u hSw; obtain ⟨s1, s2, s3, s4, s5⟩ := hSw; go_simp; try with_reducible rfl
  try simp only [Act.put, List.setIfInBounds_toArray, List.set_cons_zero, List.set_cons_succ]
  refine wpAnyH_take (i := 8) (oi := { dst := some 25, op := _, type := _, pos := _, after := _, guard := _ }) (v := ?_) rfl (by kernel_rfl) (by kernel_rfl) (by kernel_rfl) (fun _ _ _ h => h) (Or.inl ⟨by rfl, ?_⟩) (by assumption) ?_
  rotate_left 1
  · intro u hSw; obtain ⟨s1, s2, s3, s4, s5⟩ := hSw; go_simp; try with_reducible rfl
  try simp only [Act.put, List.setIfInBounds_toArray, List.set_cons_zero, List.set_cons_succ]
  refine wpAnyH_take (i := 9) (oi := { dst := some 26, op := _, type := _, pos := _, after := _, guard := _ }) (v := ?_) rfl (by kernel_rfl) (by kernel_rfl) (by kernel_rfl) (fun _ _ _ h => h) (Or.inl ⟨by rfl, ?_⟩) (by assumption) ?_
  rotate_left 1
  · intro u hSw; obtain ⟨s1, s2, s3, s4, s5⟩ := hSw; go_simp; try with_reducible rfl
  try simp only [Act.put, List.setIfInBounds_toArray, List.set_cons_zero, List.set_cons_succ]
  refine wpAnyH_take (i := 10) (oi := { dst := some 27, op := _, type := _, pos := _, after := _, guard := _ }) (v := ?_) rfl (by kernel_rfl) (by kernel_rfl) (by kernel_rfl) (fun _ _ _ h => h) (Or.inl ⟨by rfl, ?_⟩) (by assumption) ?_
  rotate_left 1
  · intro u hSw; obtain ⟨s1, s2, s3, s4, s5⟩ := hSw; go_simp; try with_reducible rfl
  try simp only [Act.put, List.setIfInBounds_toArray, List.set_cons_zero, List.set_cons_succ]
  refine wpAnyH_take (i := 11) (oi := { dst := some 28, op := _, type := _, pos := _, after := _, guard := _ }) (v := ?_) rfl (by kernel_rfl) (by kernel_rfl) (by kernel_rfl) (fun _ _ _ h => h) (Or.inl ⟨by rfl, ?_⟩) (by assumption) ?_
  rotate_left 1
  · intro u hSw; obtain ⟨s1, s2, s3, s4, s5⟩ := hSw; go_simp; try with_reducible rfl
  try simp only [Act.put, List.setIfInBounds_toArray, List.set_cons_zero, List.set_cons_succ]
  refine wpAnyH_take (i := 12) (oi := { dst := some 29, op := _, type := _, pos := _, after := _, guard := _ }) (v := ?_) rfl (by kernel_rfl) (by kernel_rfl) (by kernel_rfl) (fun _ _ _ h => h) (Or.inl ⟨by rfl, ?_⟩) (by assumption) ?_
  rotate_left 1
  · intro u hSw; obtain ⟨s1, s2, s3, s4, s5⟩ := hSw; go_simp; try with_reducible rfl
  try simp only [Act.put, List.setIfInBounds_toArray, List.set_cons_zero, List.set_cons_succ]
  refine wpAnyH_take (i := 13) (oi := { dst := some 30, op := _, type := _, pos := _, after := _, guard := _ }) (v := ?_) rfl (by kernel_rfl) (by kernel_rfl) (by kernel_rfl) (fun _ _ _ h => h) (Or.inl ⟨by rfl, ?_⟩) (by assumption) ?_
  rotate_left 1
  · intro u hSw; obtain ⟨s1, s2, s3, s4, s5⟩ := hSw; go_simp; try with_reducible rfl
  try simp only [Act.put, List.setIfInBounds_toArray, List.set_cons_zero, List.set_cons_succ]
  refine wpAnyH_take (i := 14) (oi := { dst := some 31, op := _, type := _, pos := _, after := _, guard := _ }) (v := ?_) rfl (by kernel_rfl) (by kernel_rfl) (by kernel_rfl) (fun _ _ _ h => h) (Or.inl ⟨by rfl, ?_⟩) (by assumption) ?_
  rotate_left 1
  · intro u hSw; obtain ⟨s1, s2, s3, s4, s5⟩ := hSw; go_simp; try with_reducible rfl
  try simp only [Act.put, List.setIfInBounds_toArray, List.set_cons_zero, List.set_cons_succ]
  refine wpAnyH_take (i := 15) (oi := { dst := some 32, op := _, type := _, pos := _, after := _, guard := _ }) (v := ?_) rfl (by kernel_rfl) (by kernel_rfl) (by kernel_rfl) (fun _ _ _ h => h) (Or.inl ⟨by rfl, ?_⟩) (by assumption) ?_
  rotate_left 1
  · intro u hSw; obtain ⟨s1, s2, s3, s4, s5⟩ := hSw; go_simp; try with_reducible rfl
  try simp only [Act.put, List.setIfInBounds_toArray, List.set_cons_zero, List.set_cons_succ]
  refine wpAnyH_take (i := 16) (oi := { dst := some 33, op := _, type := _, pos := _, after := _, guard := _ }) (v := ?_) rfl (by kernel_rfl) (by kernel_rfl) (by kernel_rfl) (fun _ _ _ h => h) (Or.inl ⟨by rfl, ?_⟩) (by assumption) ?_
  rotate_left 1
  · intro u hSw; obtain ⟨s1, s2, s3, s4, s5⟩ := hSw; go_simp; try with_reducible rfl
  try simp only [Act.put, List.setIfInBounds_toArray, List.set_cons_zero, List.set_cons_succ]
  refine wpAnyH_take (i := 17) (oi := { dst := some 34, op := _, type := _, pos := _, after := _, guard := _ }) (v := ?_) rfl (by kernel_rfl) (by kernel_rfl) (by kernel_rfl) (fun _ _ _ h => h) (Or.inl ⟨by rfl, ?_⟩) (by assumption) ?_
  rotate_left 1
  · intro u hSw; obtain ⟨s1, s2, s3, s4, s5⟩ := hSw; go_simp; try with_reducible rfl
  try simp only [Act.put, List.setIfInBounds_toArray, List.set_cons_zero, List.set_cons_succ]
  refine wpAnyH_take (i := 19) (oi := { dst := some 36, op := _, type := _, pos := _, after := _, guard := _ }) (v := ?_) rfl (by kernel_rfl) (by kernel_rfl) (by kernel_rfl) (fun _ _ _ h => h) (Or.inl ⟨by rfl, ?_⟩) (by assumption) ?_
  rotate_left 1
  · intro u hSw; obtain ⟨s1, s2, s3, s4, s5⟩ := hSw; go_simp; try with_reducible rfl
  try simp only [Act.put, List.setIfInBounds_toArray, List.set_cons_zero, List.set_cons_succ]
  refine wpAnyH_take (i := 20) (oi := { dst := some 37, op := _, type := _, pos := _, after := _, guard := _ }) (v := ?_) rfl (by kernel_rfl) (by kernel_rfl) (by kernel_rfl) (fun _ _ _ h => h) (Or.inl ⟨by rfl, ?_⟩) (by assumption) ?_
  rotate_left 1
  · intro u hSw; obtain ⟨s1, s2, s3, s4, s5⟩ := hSw; go_simp; try with_reducible rfl
  try simp only [Act.put, List.setIfInBounds_toArray, List.set_cons_zero, List.set_cons_succ]
  refine wpAnyH_ready (rs := [18]) (by kernel_rfl) (by simp) ?_
  refine AllReadyH.cons (o := { dst := some 35, op := _, type := _, pos := _, after := _, guard := _ }) rfl (fun Kq hK => ?_) AllReadyH.nil
  obtain ⟨s1, s2, s3, s4, s5⟩ := hHeld
  go_simp
  refine HBH.out.mono ?_
  rintro e w2 ⟨rfl, f2⟩
  have H2 := hide2 (H1.out.keep f2 (fun _ _ e => e) (fun e => e))
  have O2 := hide2 (O1.out.keep f2 (fun _ _ e => e))
  have t1 := (f2.cell (p := ⟨lb, 1, none⟩) hlb1 (fun e => e)).trans s1
  have t2 := (f2.cell (p := ⟨ob, 41, none⟩) hob1 (fun e => e)).trans s2
  have t3 := (f2.cell (p := ⟨ob, 22, none⟩) hob1 (fun e => e)).trans s3
  have t4 := (f2.cell (p := ⟨w.heap.size, 0, none⟩) hX1 (fun e => e)).trans s4
  have t5 := (f2.cell (p := ⟨w.heap.size, 1, none⟩) hX1 (fun e => e)).trans s5
  have F2 : Hid (Fr (fun j => K j ∨ B j) w w2) := hide2 ((Fr.below (F := fun j => K j ∨ B j) B1.out).trans f2 (fun j e => e.elim))
  have hX2 : w.heap.size < w2.heap.size := Nat.lt_of_lt_of_le hX1 f2.size
  clear f2 s1 s2 s3 s4 s5
  go_wp2_with fail
  refine hK.out _ _ (⟨t1, t2, t3, t4, t5⟩) (fun hHeld => ?_)
  clear hK Kq
  try simp only [Act.put, List.setIfInBounds_toArray, List.set_cons_zero, List.set_cons_succ]
  refine wpAnyH_take (i := 21) (oi := { dst := some 38, op := _, type := _, pos := _, after := _, guard := _ }) (v := ?_) rfl (by kernel_rfl) (by kernel_rfl) (by kernel_rfl) (fun _ _ _ h => h) (Or.inl ⟨by rfl, ?_⟩) (by assumption) ?_
  rotate_left 1
  · intro u hSw; obtain ⟨s1, s2, s3, s4, s5⟩ := hSw; go_simp; try with_reducible rfl
  try simp only [Act.put, List.setIfInBounds_toArray, List.set_cons_zero, List.set_cons_succ]
  obtain ⟨hL, fL⟩ := H2.out.fset (j := o.tw) (l := l) (x := first) htw hl
  obtain ⟨w3, hw3⟩ : ∃ y, y = w2.setCell ⟨gt, o.tw * 34 + 26 + l, none⟩ (.int .i64 (first : Int)) := ⟨_, rfl⟩
  rw [← hw3] at hL fL
  have hgtK : K gt := H.out.kk gt (by simp)
  have fLK : Fr K w2 w3 := fL.mono (fun j _ e => by rw [e]; exact hgtK)
  have o3 := O2.out.keep fLK (fun j hB hK => HKB.out j hK hB)
  have r0 := H2.out.fsAt htw hl
  have rf : w2.frozen? ⟨gt, o.tw * 34 + 26 + l, none⟩ = false := by
    obtain ⟨c9, f9, h9⟩ := Go.Lib.ownsRow_kind H2.out.tw gt rfl
    rcases H2.out.tw.2 with ⟨e9, _⟩ | ⟨g9, cap9, cur9, e9, _, hh9, _⟩
    · cases e9
    · cases e9; exact Go.Joins.unfrozen_of_block hh9 _
  have hXK : ¬ K w.heap.size := fun e => by have := H.out.kl _ e; omega
  have u1 := hL.lk.cells.2.1
  rw [fset_len] at u1
  have u2 := o3.om.cells.2.2.2.2.2.2.2.2.1
  have u3 : w3.cell? ⟨ob, 22, none⟩ = some (.int .i64 (l : Int)) := by have := o3.om.cells.2.2.2.2.2.1; rw [HLV.out] at this; exact this
  have u4 := (fLK.cell (p := ⟨w.heap.size, 0, none⟩) hX2 hXK).trans t4
  have u5 := (fLK.cell (p := ⟨w.heap.size, 1, none⟩) hX2 hXK).trans t5
  have hgt2 := (World.ownsRow.lt H2.out.tw gt rfl).2
  have H3 := hide2 hL
  have O3 := hide2 o3
  have F3 : Hid (Fr (fun j => K j ∨ B j) w w3) := hide2 (F2.out.trans fLK (fun j e => .inl (.inl e)))
  have hX3 : w.heap.size < w3.heap.size := Nat.lt_of_lt_of_le hX2 fLK.size
  clear hL fL fLK o3
  refine wpAnyH_ready (rs := [22]) (by kernel_rfl) (by simp) ?_
  refine AllReadyH.cons (o := { dst := none, op := _, type := _, pos := _, after := _, guard := _ }) rfl (fun Kq hK => ?_) AllReadyH.nil
  clear hHeld
  go_simp
  go_wp2_with fail
  try rw [← hw3]
  refine hK.out _ _ (⟨u1, u2, u3, u4, u5⟩) (fun hHeld => ?_)
  clear hK Kq
  try simp only [Act.put, List.setIfInBounds_toArray, List.set_cons_zero, List.set_cons_succ]
  refine wpAnyH_done (by kernel_rfl) ?_ _
  refine NoPanic.normal ?_
  have HLK : Hid (Calls Tryd.prog 62 #[.pointer (some ⟨lb, 0, none⟩), .agg #[.int .i64 (i : Int), .int .u64 (num : Int)], .int .i64 (l : Int), .int .i64 (o.tw : Int)] w3.drew fun e w' => e = .returned (.bool false) ∧ Lm w' K lb d g gt tc sv T (if false = true then N.set ((s.at i).cs l) (o.tw : Int) else N) (m + 1) F (s.fset o.tw l first) ∧ Fr (fun j => j = d ∨ j = g) w3 w') := hide2 (by
    have ec : ((s.fset o.tw l first).at i).cs = (s.at i).cs := fset_cs htw
    have q := (H3.out.drewn 1).link (i := i) (l := l) (num := num) (j := o.tw) (by rw [fset_len]; exact hi) hl hnum (by omega) (by rw [ec]; exact ht) hm false (by rw [ec]; exact HOK.out)
    rw [ec] at q
    refine q.mono ?_
    rintro e w' ⟨rfl, q1, q2⟩
    exact ⟨rfl, q1, ((Fr.refl (fun j => j = d ∨ j = g) w3).drewN 1).trans q2 (fun j e => .inl e)⟩)
  clear hHeld t1 t2 t3 t4 t5 hw3 HBH r0 rf
  go_wp2
  refine wp_region_noPanic ?_
  refine wp_region_held_drew (S := (fun u : World => u.cell? ⟨ob, 41, none⟩ = some (.int .i64 (o.tw : Int)) ∧ u.cell? ⟨ob, 22, none⟩ = some (.int .i64 (l : Int)) ∧ u.cell? ⟨w.heap.size, 0, none⟩ = some (.int .i64 (i : Int)) ∧ u.cell? ⟨w.heap.size, 1, none⟩ = some (.int .u64 (num : Int)))) (by kernel_rfl) (⟨u2, u3, u4, u5⟩) (fun hHeld => ?_)
  refine wpAnyH_take (i := 0) (oi := { dst := some 39, op := _, type := _, pos := _, after := _, guard := _ }) (v := ?_) rfl (by kernel_rfl) (by kernel_rfl) (by kernel_rfl) (fun _ _ _ h => h) (Or.inl ⟨by rfl, ?_⟩) (by assumption) ?_
  rotate_left 1
  · intro u hSw; obtain ⟨s1, s2, s3, s4⟩ := hSw; go_simp; try with_reducible rfl
  try simp only [Act.put, List.setIfInBounds_toArray, List.set_cons_zero, List.set_cons_succ]
  refine wpAnyH_take (i := 1) (oi := { dst := some 40, op := _, type := _, pos := _, after := _, guard := _ }) (v := ?_) rfl (by kernel_rfl) (by kernel_rfl) (by kernel_rfl) (fun _ _ _ h => h) (Or.inl ⟨by rfl, ?_⟩) (by assumption) ?_
  rotate_left 1
  · intro u hSw; obtain ⟨s1, s2, s3, s4⟩ := hSw; go_simp; try with_reducible rfl
  try simp only [Act.put, List.setIfInBounds_toArray, List.set_cons_zero, List.set_cons_succ]
  refine wpAnyH_take (i := 2) (oi := { dst := some 41, op := _, type := _, pos := _, after := _, guard := _ }) (v := ?_) rfl (by kernel_rfl) (by kernel_rfl) (by kernel_rfl) (fun _ _ _ h => h) (Or.inl ⟨by rfl, ?_⟩) (by assumption) ?_
  rotate_left 1
  · intro u hSw; obtain ⟨s1, s2, s3, s4⟩ := hSw; go_simp; try with_reducible rfl
  try simp only [Act.put, List.setIfInBounds_toArray, List.set_cons_zero, List.set_cons_succ]
  refine wpAnyH_take (i := 3) (oi := { dst := some 42, op := _, type := _, pos := _, after := _, guard := _ }) (v := ?_) rfl (by kernel_rfl) (by kernel_rfl) (by kernel_rfl) (fun _ _ _ h => h) (Or.inl ⟨by rfl, ?_⟩) (by assumption) ?_
  rotate_left 1
  · intro u hSw; obtain ⟨s1, s2, s3, s4⟩ := hSw; go_simp; try with_reducible rfl
  try simp only [Act.put, List.setIfInBounds_toArray, List.set_cons_zero, List.set_cons_succ]
  refine wpAnyH_take (i := 4) (oi := { dst := some 43, op := _, type := _, pos := _, after := _, guard := _ }) (v := ?_) rfl (by kernel_rfl) (by kernel_rfl) (by kernel_rfl) (fun _ _ _ h => h) (Or.inl ⟨by rfl, ?_⟩) (by assumption) ?_
  rotate_left 1
  · intro u hSw; obtain ⟨s1, s2, s3, s4⟩ := hSw; go_simp; try with_reducible rfl
  try simp only [Act.put, List.setIfInBounds_toArray, List.set_cons_zero, List.set_cons_succ]
  refine wpAnyH_take (i := 5) (oi := { dst := some 44, op := _, type := _, pos := _, after := _, guard := _ }) (v := ?_) rfl (by kernel_rfl) (by kernel_rfl) (by kernel_rfl) (fun _ _ _ h => h) (Or.inl ⟨by rfl, ?_⟩) (by assumption) ?_
  rotate_left 1
  · intro u hSw; obtain ⟨s1, s2, s3, s4⟩ := hSw; go_simp; try with_reducible rfl
  try simp only [Act.put, List.setIfInBounds_toArray, List.set_cons_zero, List.set_cons_succ]
  refine wpAnyH_take (i := 6) (oi := { dst := some 45, op := _, type := _, pos := _, after := _, guard := _ }) (v := ?_) rfl (by kernel_rfl) (by kernel_rfl) (by kernel_rfl) (fun _ _ _ h => h) (Or.inl ⟨by rfl, ?_⟩) (by assumption) ?_
  rotate_left 1
  · intro u hSw; obtain ⟨s1, s2, s3, s4⟩ := hSw; go_simp; try with_reducible rfl
  try simp only [Act.put, List.setIfInBounds_toArray, List.set_cons_zero, List.set_cons_succ]
  refine wpAnyH_take (i := 7) (oi := { dst := some 46, op := _, type := _, pos := _, after := _, guard := _ }) (v := ?_) rfl (by kernel_rfl) (by kernel_rfl) (by kernel_rfl) (fun _ _ _ h => h) (Or.inl ⟨by rfl, ?_⟩) (by assumption) ?_
  rotate_left 1
  · intro u hSw; obtain ⟨s1, s2, s3, s4⟩ := hSw; go_simp; try with_reducible rfl
  try simp only [Act.put, List.setIfInBounds_toArray, List.set_cons_zero, List.set_cons_succ]
  refine wpAnyH_take (i := 8) (oi := { dst := some 47, op := _, type := _, pos := _, after := _, guard := _ }) (v := ?_) rfl (by kernel_rfl) (by kernel_rfl) (by kernel_rfl) (fun _ _ _ h => h) (Or.inl ⟨by rfl, ?_⟩) (by assumption) ?_
  rotate_left 1
  · intro u hSw; obtain ⟨s1, s2, s3, s4⟩ := hSw; go_simp; try with_reducible rfl
  try simp only [Act.put, List.setIfInBounds_toArray, List.set_cons_zero, List.set_cons_succ]
  refine wpAnyH_take (i := 9) (oi := { dst := some 48, op := _, type := _, pos := _, after := _, guard := _ }) (v := ?_) rfl (by kernel_rfl) (by kernel_rfl) (by kernel_rfl) (fun _ _ _ h => h) (Or.inl ⟨by rfl, ?_⟩) (by assumption) ?_
  rotate_left 1
  · intro u hSw; obtain ⟨s1, s2, s3, s4⟩ := hSw; go_simp; try with_reducible rfl
  try simp only [Act.put, List.setIfInBounds_toArray, List.set_cons_zero, List.set_cons_succ]
  refine wpAnyH_ready (rs := [10]) (by kernel_rfl) (by simp) ?_
  refine AllReadyH.cons (o := { dst := some 49, op := _, type := _, pos := _, after := _, guard := _ }) rfl (fun Kq hK => ?_) AllReadyH.nil
  obtain ⟨s1, s2, s3, s4⟩ := hHeld
  go_simp
  refine HLK.out.mono ?_
  rintro e w4 ⟨rfl, h4, f4⟩
  have f4K : Fr K w3 w4 := f4.mono (fun j _ e => H.out.kk j (by rcases e with e | e <;> simp [e]))
  have o4 := O3.out.keep f4K (fun j hB hK => HKB.out j hK hB)
  have v2 := o4.om.cells.2.2.2.2.2.2.2.2.1
  have v3 : w4.cell? ⟨ob, 22, none⟩ = some (.int .i64 (l : Int)) := by have := o4.om.cells.2.2.2.2.2.1; rw [HLV.out] at this; exact this
  have v4 := (f4K.cell (p := ⟨w.heap.size, 0, none⟩) hX3 hXK).trans u4
  have v5 := (f4K.cell (p := ⟨w.heap.size, 1, none⟩) hX3 hXK).trans u5
  have H4 := hide2 h4
  have O4 := hide2 o4
  have F4 : Hid (Fr (fun j => K j ∨ B j) w w4) := hide2 (F3.out.trans f4K (fun j e => .inl (.inl e)))
  clear h4 o4 f4 f4K
  go_wp2_with fail
  refine hK.out _ _ (⟨v2, v3, v4, v5⟩) (fun hHeld => ?_)
  clear hK Kq
  try simp only [Act.put, List.setIfInBounds_toArray, List.set_cons_zero, List.set_cons_succ]
  refine wpAnyH_take (i := 11) (oi := { dst := some 50, op := _, type := _, pos := _, after := _, guard := _ }) (v := ?_) rfl (by kernel_rfl) (by kernel_rfl) (by kernel_rfl) (fun _ _ _ h => h) (Or.inl ⟨by rfl, ?_⟩) (by assumption) ?_
  rotate_left 1
  · intro u hSw; obtain ⟨s1, s2, s3, s4⟩ := hSw; go_simp; try with_reducible rfl
  try simp only [Act.put, List.setIfInBounds_toArray, List.set_cons_zero, List.set_cons_succ]
  refine wpAnyH_done (by kernel_rfl) ?_ _
  refine NoPanic.normal ?_
  clear hHeld u1 u2 u3 u4 u5 v2 v3 v4 v5 HLK H3 O3 F3
  have x5 := O4.out.put1 (O4.out.om.setSt 1) rfl
  have r21 := O4.out.om.cells.2.2.2.2.1
  have r21f := O4.out.om.free 21
  have hob4 := O4.out.om.lt
  have X5 := hide2 x5
  clear x5
  go_wp2
  refine bodyPost_ret (results_none (by rfl) _ _ _) rfl ⟨rfl, _, ?_, X5.out.1, F4.out.trans X5.out.2 (fun j e => .inl (.inr e))⟩
  have q := H4.out.keep X5.out.2 HKB.out HO.out.b0
  rw [HFIRST.out] at q
  simpa using q
end
end

section
open Go.RowKit Go.Maps

def dA : Array Value := #[.func (.func 42) #[] #[], .func (.func 43) #[] #[], .func (.func 44) #[] #[], .func (.func 45) #[] #[], .func (.func 46) #[] #[]]
set_option maxRecDepth 100000 in
set_option maxHeartbeats 2000000 in
theorem deeds_any (w : World) : Calls Tryd.prog 33 #[] w fun e w' => e = .returned (.agg dA) ∧ Below w.heap.size w w' := by
  have hz : (w.alloc (.cells #[.nilFunc, .nilFunc, .nilFunc, .nilFunc, .nilFunc] 85)).heap[w.heap.size]? = some (.cells #[.nilFunc, .nilFunc, .nilFunc, .nilFunc, .nilFunc] 85 (0, 0)) := heap_alloc_new _ _
  have b5 : ((w.alloc (.cells #[.nilFunc, .nilFunc, .nilFunc, .nilFunc, .nilFunc] 85)).setRow w.heap.size dA).heap[w.heap.size]? = some (.cells dA 85 (0, 0)) := setRow_heap _ _ _ _ _ _ hz
  have hB : Below w.heap.size w ((w.alloc (.cells #[.nilFunc, .nilFunc, .nilFunc, .nilFunc, .nilFunc] 85)).setRow w.heap.size dA) := ((Below.refl _ w).alloc (Nat.le_refl _) _).trans ⟨rfl, rfl, rfl, by simp, fun k hk => setRow_other _ _ _ _ (by omega)⟩
  have HZ := hide2 hz
  have B5 := hide2 b5
  have HB := hide2 hB
  clear hz b5 hB
  go_enter Tryd.func33, Tryd.ntmps33
  go_wp2_with (
    (refine wpList_store_row rfl 85 (Operand.tmp 0) (Operand.tmp 1) rfl w.heap.size dA rfl rfl 85 #[.nilFunc, .nilFunc, .nilFunc, .nilFunc, .nilFunc] ?_ ?_ rfl ?_ ?_
     · exact HZ.out
     · kernel_rfl
     · kernel_rfl))
  refine bodyPost_ret (v := .agg dA) (results_cell_row (p := 0) (ty := 85) rfl _ _ w.heap.size 85 dA (0, 0) _ rfl B5.out Tryd.underlying85 rfl (by kernel_rfl)) rfl ⟨rfl, HB.out⟩

section
variable {w : World} {ob : Nat}

set_option maxRecDepth 100000 in
set_option maxHeartbeats 4000000 in
theorem step_look {R : World → Nat → Prop} (c21 : w.cell? ⟨ob, 21, none⟩ = some (.int .i64 1)) (hob : ob < w.heap.size)
    (hC : ∀ u, Fr (fun _ => False) w u → Calls Tryd.prog 43 #[.pointer (some ⟨ob, 0, none⟩)] u fun e w' => e = .returned (.tuple #[]) ∧ ∃ st, w'.cell? ⟨ob, 21, none⟩ = some (.int .i64 ((st : Nat) : Int)) ∧ R w' st) :
    Calls Tryd.prog 20 #[.pointer (some ⟨ob, 0, none⟩)] w fun e w' => ∃ st, e = .returned (.bool (decide (st = 5))) ∧ R w' st := by
  have HC := hide2 hC
  have HDE : Hid (Calls Tryd.prog 33 #[] w.drew fun e w' => e = .returned (.agg dA) ∧ Fr (fun _ => False) w w') := hide2 ((deeds_any w.drew).mono (by
    rintro e w' ⟨rfl, q⟩
    exact ⟨rfl, ((Fr.refl (fun _ => False) w).drewN 1).trans (Fr.below (F := fun _ => False) q) (fun j e => .inl e)⟩))
  clear hC
  go_enter Tryd.func20, Tryd.ntmps20
  go_wp2_with fail
  refine wp_region_noPanic ?_
  refine wp_region_held_drew (S := (fun u : World => True)) (by kernel_rfl) (trivial) (fun hHeld => ?_)
  refine wpAnyH_take (i := 1) (oi := { dst := some 11, op := _, type := _, pos := _, after := _, guard := _ }) (v := ?_) rfl (by kernel_rfl) (by kernel_rfl) (by kernel_rfl) (fun _ _ _ h => h) (Or.inl ⟨by rfl, ?_⟩) (by assumption) ?_
  rotate_left 1
  · intro u hSw; obtain s1 := hSw; go_simp; try with_reducible rfl
  try simp only [Act.put, List.setIfInBounds_toArray, List.set_cons_zero, List.set_cons_succ]
  refine wpAnyH_take (i := 2) (oi := { dst := some 12, op := _, type := _, pos := _, after := _, guard := _ }) (v := ?_) rfl (by kernel_rfl) (by kernel_rfl) (by kernel_rfl) (fun _ _ _ h => h) (Or.inl ⟨by rfl, ?_⟩) (by assumption) ?_
  rotate_left 1
  · intro u hSw; obtain s1 := hSw; go_simp; try with_reducible rfl
  try simp only [Act.put, List.setIfInBounds_toArray, List.set_cons_zero, List.set_cons_succ]
  refine wpAnyH_take (i := 3) (oi := { dst := some 13, op := _, type := _, pos := _, after := _, guard := _ }) (v := ?_) rfl (by kernel_rfl) (by kernel_rfl) (by kernel_rfl) (fun _ _ _ h => h) (Or.inl ⟨by rfl, ?_⟩) (by assumption) ?_
  rotate_left 1
  · intro u hSw; obtain s1 := hSw; go_simp; try with_reducible rfl
  try simp only [Act.put, List.setIfInBounds_toArray, List.set_cons_zero, List.set_cons_succ]
  refine wpAnyH_take (i := 6) (oi := { dst := some 16, op := _, type := _, pos := _, after := _, guard := _ }) (v := ?_) rfl (by kernel_rfl) (by kernel_rfl) (by kernel_rfl) (fun _ _ _ h => h) (Or.inl ⟨by rfl, ?_⟩) (by assumption) ?_
  rotate_left 1
  · intro u hSw; obtain s1 := hSw; go_simp; try with_reducible rfl
  try simp only [Act.put, List.setIfInBounds_toArray, List.set_cons_zero, List.set_cons_succ]
  refine wpAnyH_ready (rs := [0, 4]) (by kernel_rfl) (by simp) ?_
  refine AllReadyH.cons (o := { dst := some 10, op := _, type := _, pos := _, after := _, guard := _ }) rfl (fun Kq hK => ?_) (AllReadyH.cons (o := { dst := some 14, op := _, type := _, pos := _, after := _, guard := _ }) rfl (fun Kq hK => ?_) AllReadyH.nil)
  · go_simp
    refine HDE.out.mono ?_
    rintro e w2 ⟨rfl, f2⟩
    have d21 := (f2.cell (p := ⟨ob, 21, none⟩) hob (fun e => e)).trans c21
    have HC2 := hide2 (HC.out w2 f2)
    clear f2
    go_wp2_with fail
    refine hK.out _ _ (trivial) (fun hHeld => ?_)
    clear hK Kq
    try simp only [Act.put, List.setIfInBounds_toArray, List.set_cons_zero, List.set_cons_succ]
    refine wpAnyH_ready (rs := [4]) (by kernel_rfl) (by simp) ?_
    refine AllReadyH.cons (o := { dst := some 14, op := _, type := _, pos := _, after := _, guard := _ }) rfl (fun Kq hK => ?_) AllReadyH.nil
    go_simp
    go_wp2_with fail
    refine hK.out _ _ (trivial) (fun hHeld => ?_)
    clear hK Kq
    try simp only [Act.put, List.setIfInBounds_toArray, List.set_cons_zero, List.set_cons_succ]
    have hdA : dA = #[.func (.func 42) #[] #[], .func (.func 43) #[] #[], .func (.func 44) #[] #[], .func (.func 45) #[] #[], .func (.func 46) #[] #[]] := rfl
    have hix : ∀ u : World, (Instr.index 85 (.agg #[.func (.func 42) #[] #[], .func (.func 43) #[] #[], .func (.func 44) #[] #[], .func (.func 45) #[] #[], .func (.func 46) #[] #[]]) (.int .i64 1)).run Tryd.prog u = .ok (.func (.func 43) #[] #[]) u := fun u => by kernel_rfl
    refine wpAnyH_take (i := 5) (oi := { dst := some 15, op := _, type := _, pos := _, after := _, guard := _ }) (v := ?_) rfl (by kernel_rfl) (by kernel_rfl) (by kernel_rfl) (fun _ _ _ h => h) (Or.inl ⟨by rfl, ?_⟩) (by assumption) ?_
    rotate_left 1
    · intro u hSw; obtain s1 := hSw; go_simp; try with_reducible rfl
    try simp only [Act.put, List.setIfInBounds_toArray, List.set_cons_zero, List.set_cons_succ]
    refine wpAnyH_ready (rs := [7]) (by kernel_rfl) (by simp) ?_
    refine AllReadyH.cons (o := { dst := some 17, op := _, type := _, pos := _, after := _, guard := _ }) rfl (fun Kq hK => ?_) AllReadyH.nil
    go_simp
    refine HC2.out.mono ?_
    rintro e w3 ⟨rfl, st, e21, hR⟩
    have HR := hide2 hR
    have hob3 : ob < w3.heap.size := World.block_lt_of_cell? w3 _ e21
    clear hR HC2
    go_wp2_with fail
    refine hK.out _ _ (trivial) (fun hHeld => ?_)
    clear hK Kq
    try simp only [Act.put, List.setIfInBounds_toArray, List.set_cons_zero, List.set_cons_succ]
    refine wpAnyH_done (by kernel_rfl) ?_ _
    refine NoPanic.normal ?_
    clear d21 c21
    go_wp2
    go_ret
    refine ⟨st, ret_bool ?_, HR.out⟩
    rw [Bool.eq_iff_iff]
    simp
    omega
  · go_simp
    go_wp2_with fail
    refine hK.out _ _ (trivial) (fun hHeld => ?_)
    clear hK Kq
    try simp only [Act.put, List.setIfInBounds_toArray, List.set_cons_zero, List.set_cons_succ]
    refine wpAnyH_ready (rs := [0]) (by kernel_rfl) (by simp) ?_
    refine AllReadyH.cons (o := { dst := some 10, op := _, type := _, pos := _, after := _, guard := _ }) rfl (fun Kq hK => ?_) AllReadyH.nil
    go_simp
    refine HDE.out.mono ?_
    rintro e w2 ⟨rfl, f2⟩
    have d21 := (f2.cell (p := ⟨ob, 21, none⟩) hob (fun e => e)).trans c21
    have HC2 := hide2 (HC.out w2 f2)
    clear f2
    go_wp2_with fail
    refine hK.out _ _ (trivial) (fun hHeld => ?_)
    clear hK Kq
    try simp only [Act.put, List.setIfInBounds_toArray, List.set_cons_zero, List.set_cons_succ]
    have hdA : dA = #[.func (.func 42) #[] #[], .func (.func 43) #[] #[], .func (.func 44) #[] #[], .func (.func 45) #[] #[], .func (.func 46) #[] #[]] := rfl
    have hix : ∀ u : World, (Instr.index 85 (.agg #[.func (.func 42) #[] #[], .func (.func 43) #[] #[], .func (.func 44) #[] #[], .func (.func 45) #[] #[], .func (.func 46) #[] #[]]) (.int .i64 1)).run Tryd.prog u = .ok (.func (.func 43) #[] #[]) u := fun u => by kernel_rfl
    refine wpAnyH_take (i := 5) (oi := { dst := some 15, op := _, type := _, pos := _, after := _, guard := _ }) (v := ?_) rfl (by kernel_rfl) (by kernel_rfl) (by kernel_rfl) (fun _ _ _ h => h) (Or.inl ⟨by rfl, ?_⟩) (by assumption) ?_
    rotate_left 1
    · intro u hSw; obtain s1 := hSw; go_simp; try with_reducible rfl
    try simp only [Act.put, List.setIfInBounds_toArray, List.set_cons_zero, List.set_cons_succ]
    refine wpAnyH_ready (rs := [7]) (by kernel_rfl) (by simp) ?_
    refine AllReadyH.cons (o := { dst := some 17, op := _, type := _, pos := _, after := _, guard := _ }) rfl (fun Kq hK => ?_) AllReadyH.nil
    go_simp
    refine HC2.out.mono ?_
    rintro e w3 ⟨rfl, st, e21, hR⟩
    have HR := hide2 hR
    have hob3 : ob < w3.heap.size := World.block_lt_of_cell? w3 _ e21
    clear hR HC2
    go_wp2_with fail
    refine hK.out _ _ (trivial) (fun hHeld => ?_)
    clear hK Kq
    try simp only [Act.put, List.setIfInBounds_toArray, List.set_cons_zero, List.set_cons_succ]
    refine wpAnyH_done (by kernel_rfl) ?_ _
    refine NoPanic.normal ?_
    clear d21 c21
    go_wp2
    go_ret
    refine ⟨st, ret_bool ?_, HR.out⟩
    rw [Bool.eq_iff_iff]
    simp
    omega
end
end

section
open Go.RowKit Go.Maps

section
variable {w : World} {ob : Nat}

set_option maxRecDepth 100000 in
set_option maxHeartbeats 4000000 in
theorem step_refuse {R : World → Nat → Prop} (c21 : w.cell? ⟨ob, 21, none⟩ = some (.int .i64 0)) (hob : ob < w.heap.size)
    (hC : ∀ u, Fr (fun _ => False) w u → Calls Tryd.prog 42 #[.pointer (some ⟨ob, 0, none⟩)] u fun e w' => e = .returned (.tuple #[]) ∧ ∃ st, w'.cell? ⟨ob, 21, none⟩ = some (.int .i64 ((st : Nat) : Int)) ∧ R w' st) :
    Calls Tryd.prog 20 #[.pointer (some ⟨ob, 0, none⟩)] w fun e w' => ∃ st, e = .returned (.bool (decide (st = 5))) ∧ R w' st := by
  have HC := hide2 hC
  have HDE : Hid (Calls Tryd.prog 33 #[] w.drew fun e w' => e = .returned (.agg dA) ∧ Fr (fun _ => False) w w') := hide2 ((deeds_any w.drew).mono (by
    rintro e w' ⟨rfl, q⟩
    exact ⟨rfl, ((Fr.refl (fun _ => False) w).drewN 1).trans (Fr.below (F := fun _ => False) q) (fun j e => .inl e)⟩))
  clear hC
  go_enter Tryd.func20, Tryd.ntmps20
  go_wp2_with fail
  refine wp_region_noPanic ?_
  refine wp_region_held_drew (S := (fun u : World => True)) (by kernel_rfl) (trivial) (fun hHeld => ?_)
  refine wpAnyH_take (i := 1) (oi := { dst := some 11, op := _, type := _, pos := _, after := _, guard := _ }) (v := ?_) rfl (by kernel_rfl) (by kernel_rfl) (by kernel_rfl) (fun _ _ _ h => h) (Or.inl ⟨by rfl, ?_⟩) (by assumption) ?_
  rotate_left 1
  · intro u hSw; obtain s1 := hSw; go_simp; try with_reducible rfl
  try simp only [Act.put, List.setIfInBounds_toArray, List.set_cons_zero, List.set_cons_succ]
  refine wpAnyH_take (i := 2) (oi := { dst := some 12, op := _, type := _, pos := _, after := _, guard := _ }) (v := ?_) rfl (by kernel_rfl) (by kernel_rfl) (by kernel_rfl) (fun _ _ _ h => h) (Or.inl ⟨by rfl, ?_⟩) (by assumption) ?_
  rotate_left 1
  · intro u hSw; obtain s1 := hSw; go_simp; try with_reducible rfl
  try simp only [Act.put, List.setIfInBounds_toArray, List.set_cons_zero, List.set_cons_succ]
  refine wpAnyH_take (i := 3) (oi := { dst := some 13, op := _, type := _, pos := _, after := _, guard := _ }) (v := ?_) rfl (by kernel_rfl) (by kernel_rfl) (by kernel_rfl) (fun _ _ _ h => h) (Or.inl ⟨by rfl, ?_⟩) (by assumption) ?_
  rotate_left 1
  · intro u hSw; obtain s1 := hSw; go_simp; try with_reducible rfl
  try simp only [Act.put, List.setIfInBounds_toArray, List.set_cons_zero, List.set_cons_succ]
  refine wpAnyH_take (i := 6) (oi := { dst := some 16, op := _, type := _, pos := _, after := _, guard := _ }) (v := ?_) rfl (by kernel_rfl) (by kernel_rfl) (by kernel_rfl) (fun _ _ _ h => h) (Or.inl ⟨by rfl, ?_⟩) (by assumption) ?_
  rotate_left 1
  · intro u hSw; obtain s1 := hSw; go_simp; try with_reducible rfl
  try simp only [Act.put, List.setIfInBounds_toArray, List.set_cons_zero, List.set_cons_succ]
  refine wpAnyH_ready (rs := [0, 4]) (by kernel_rfl) (by simp) ?_
  refine AllReadyH.cons (o := { dst := some 10, op := _, type := _, pos := _, after := _, guard := _ }) rfl (fun Kq hK => ?_) (AllReadyH.cons (o := { dst := some 14, op := _, type := _, pos := _, after := _, guard := _ }) rfl (fun Kq hK => ?_) AllReadyH.nil)
  · go_simp
    refine HDE.out.mono ?_
    rintro e w2 ⟨rfl, f2⟩
    have d21 := (f2.cell (p := ⟨ob, 21, none⟩) hob (fun e => e)).trans c21
    have HC2 := hide2 (HC.out w2 f2)
    clear f2
    go_wp2_with fail
    refine hK.out _ _ (trivial) (fun hHeld => ?_)
    clear hK Kq
    try simp only [Act.put, List.setIfInBounds_toArray, List.set_cons_zero, List.set_cons_succ]
    refine wpAnyH_ready (rs := [4]) (by kernel_rfl) (by simp) ?_
    refine AllReadyH.cons (o := { dst := some 14, op := _, type := _, pos := _, after := _, guard := _ }) rfl (fun Kq hK => ?_) AllReadyH.nil
    go_simp
    go_wp2_with fail
    refine hK.out _ _ (trivial) (fun hHeld => ?_)
    clear hK Kq
    try simp only [Act.put, List.setIfInBounds_toArray, List.set_cons_zero, List.set_cons_succ]
    have hdA : dA = #[.func (.func 42) #[] #[], .func (.func 43) #[] #[], .func (.func 44) #[] #[], .func (.func 45) #[] #[], .func (.func 46) #[] #[]] := rfl
    have hix : ∀ u : World, (Instr.index 85 (.agg #[.func (.func 42) #[] #[], .func (.func 43) #[] #[], .func (.func 44) #[] #[], .func (.func 45) #[] #[], .func (.func 46) #[] #[]]) (.int .i64 0)).run Tryd.prog u = .ok (.func (.func 42) #[] #[]) u := fun u => by kernel_rfl
    refine wpAnyH_take (i := 5) (oi := { dst := some 15, op := _, type := _, pos := _, after := _, guard := _ }) (v := ?_) rfl (by kernel_rfl) (by kernel_rfl) (by kernel_rfl) (fun _ _ _ h => h) (Or.inl ⟨by rfl, ?_⟩) (by assumption) ?_
    rotate_left 1
    · intro u hSw; obtain s1 := hSw; go_simp; try with_reducible rfl
    try simp only [Act.put, List.setIfInBounds_toArray, List.set_cons_zero, List.set_cons_succ]
    refine wpAnyH_ready (rs := [7]) (by kernel_rfl) (by simp) ?_
    refine AllReadyH.cons (o := { dst := some 17, op := _, type := _, pos := _, after := _, guard := _ }) rfl (fun Kq hK => ?_) AllReadyH.nil
    go_simp
    refine HC2.out.mono ?_
    rintro e w3 ⟨rfl, st, e21, hR⟩
    have HR := hide2 hR
    have hob3 : ob < w3.heap.size := World.block_lt_of_cell? w3 _ e21
    clear hR HC2
    go_wp2_with fail
    refine hK.out _ _ (trivial) (fun hHeld => ?_)
    clear hK Kq
    try simp only [Act.put, List.setIfInBounds_toArray, List.set_cons_zero, List.set_cons_succ]
    refine wpAnyH_done (by kernel_rfl) ?_ _
    refine NoPanic.normal ?_
    clear d21 c21
    go_wp2
    go_ret
    refine ⟨st, ret_bool ?_, HR.out⟩
    rw [Bool.eq_iff_iff]
    simp
    omega
  · go_simp
    go_wp2_with fail
    refine hK.out _ _ (trivial) (fun hHeld => ?_)
    clear hK Kq
    try simp only [Act.put, List.setIfInBounds_toArray, List.set_cons_zero, List.set_cons_succ]
    refine wpAnyH_ready (rs := [0]) (by kernel_rfl) (by simp) ?_
    refine AllReadyH.cons (o := { dst := some 10, op := _, type := _, pos := _, after := _, guard := _ }) rfl (fun Kq hK => ?_) AllReadyH.nil
    go_simp
    refine HDE.out.mono ?_
    rintro e w2 ⟨rfl, f2⟩
    have d21 := (f2.cell (p := ⟨ob, 21, none⟩) hob (fun e => e)).trans c21
    have HC2 := hide2 (HC.out w2 f2)
    clear f2
    go_wp2_with fail
    refine hK.out _ _ (trivial) (fun hHeld => ?_)
    clear hK Kq
    try simp only [Act.put, List.setIfInBounds_toArray, List.set_cons_zero, List.set_cons_succ]
    have hdA : dA = #[.func (.func 42) #[] #[], .func (.func 43) #[] #[], .func (.func 44) #[] #[], .func (.func 45) #[] #[], .func (.func 46) #[] #[]] := rfl
    have hix : ∀ u : World, (Instr.index 85 (.agg #[.func (.func 42) #[] #[], .func (.func 43) #[] #[], .func (.func 44) #[] #[], .func (.func 45) #[] #[], .func (.func 46) #[] #[]]) (.int .i64 0)).run Tryd.prog u = .ok (.func (.func 42) #[] #[]) u := fun u => by kernel_rfl
    refine wpAnyH_take (i := 5) (oi := { dst := some 15, op := _, type := _, pos := _, after := _, guard := _ }) (v := ?_) rfl (by kernel_rfl) (by kernel_rfl) (by kernel_rfl) (fun _ _ _ h => h) (Or.inl ⟨by rfl, ?_⟩) (by assumption) ?_
    rotate_left 1
    · intro u hSw; obtain s1 := hSw; go_simp; try with_reducible rfl
    try simp only [Act.put, List.setIfInBounds_toArray, List.set_cons_zero, List.set_cons_succ]
    refine wpAnyH_ready (rs := [7]) (by kernel_rfl) (by simp) ?_
    refine AllReadyH.cons (o := { dst := some 17, op := _, type := _, pos := _, after := _, guard := _ }) rfl (fun Kq hK => ?_) AllReadyH.nil
    go_simp
    refine HC2.out.mono ?_
    rintro e w3 ⟨rfl, st, e21, hR⟩
    have HR := hide2 hR
    have hob3 : ob < w3.heap.size := World.block_lt_of_cell? w3 _ e21
    clear hR HC2
    go_wp2_with fail
    refine hK.out _ _ (trivial) (fun hHeld => ?_)
    clear hK Kq
    try simp only [Act.put, List.setIfInBounds_toArray, List.set_cons_zero, List.set_cons_succ]
    refine wpAnyH_done (by kernel_rfl) ?_ _
    refine NoPanic.normal ?_
    clear d21 c21
    go_wp2
    go_ret
    refine ⟨st, ret_bool ?_, HR.out⟩
    rw [Bool.eq_iff_iff]
    simp
    omega

set_option maxRecDepth 100000 in
set_option maxHeartbeats 4000000 in
theorem step_put {R : World → Nat → Prop} (c21 : w.cell? ⟨ob, 21, none⟩ = some (.int .i64 2)) (hob : ob < w.heap.size)
    (hC : ∀ u, Fr (fun _ => False) w u → Calls Tryd.prog 44 #[.pointer (some ⟨ob, 0, none⟩)] u fun e w' => e = .returned (.tuple #[]) ∧ ∃ st, w'.cell? ⟨ob, 21, none⟩ = some (.int .i64 ((st : Nat) : Int)) ∧ R w' st) :
    Calls Tryd.prog 20 #[.pointer (some ⟨ob, 0, none⟩)] w fun e w' => ∃ st, e = .returned (.bool (decide (st = 5))) ∧ R w' st := by
  have HC := hide2 hC
  have HDE : Hid (Calls Tryd.prog 33 #[] w.drew fun e w' => e = .returned (.agg dA) ∧ Fr (fun _ => False) w w') := hide2 ((deeds_any w.drew).mono (by
    rintro e w' ⟨rfl, q⟩
    exact ⟨rfl, ((Fr.refl (fun _ => False) w).drewN 1).trans (Fr.below (F := fun _ => False) q) (fun j e => .inl e)⟩))
  clear hC
  go_enter Tryd.func20, Tryd.ntmps20
  go_wp2_with fail
  refine wp_region_noPanic ?_
  refine wp_region_held_drew (S := (fun u : World => True)) (by kernel_rfl) (trivial) (fun hHeld => ?_)
  refine wpAnyH_take (i := 1) (oi := { dst := some 11, op := _, type := _, pos := _, after := _, guard := _ }) (v := ?_) rfl (by kernel_rfl) (by kernel_rfl) (by kernel_rfl) (fun _ _ _ h => h) (Or.inl ⟨by rfl, ?_⟩) (by assumption) ?_
  rotate_left 1
  · intro u hSw; obtain s1 := hSw; go_simp; try with_reducible rfl
  try simp only [Act.put, List.setIfInBounds_toArray, List.set_cons_zero, List.set_cons_succ]
  refine wpAnyH_take (i := 2) (oi := { dst := some 12, op := _, type := _, pos := _, after := _, guard := _ }) (v := ?_) rfl (by kernel_rfl) (by kernel_rfl) (by kernel_rfl) (fun _ _ _ h => h) (Or.inl ⟨by rfl, ?_⟩) (by assumption) ?_
  rotate_left 1
  · intro u hSw; obtain s1 := hSw; go_simp; try with_reducible rfl
  try simp only [Act.put, List.setIfInBounds_toArray, List.set_cons_zero, List.set_cons_succ]
  refine wpAnyH_take (i := 3) (oi := { dst := some 13, op := _, type := _, pos := _, after := _, guard := _ }) (v := ?_) rfl (by kernel_rfl) (by kernel_rfl) (by kernel_rfl) (fun _ _ _ h => h) (Or.inl ⟨by rfl, ?_⟩) (by assumption) ?_
  rotate_left 1
  · intro u hSw; obtain s1 := hSw; go_simp; try with_reducible rfl
  try simp only [Act.put, List.setIfInBounds_toArray, List.set_cons_zero, List.set_cons_succ]
  refine wpAnyH_take (i := 6) (oi := { dst := some 16, op := _, type := _, pos := _, after := _, guard := _ }) (v := ?_) rfl (by kernel_rfl) (by kernel_rfl) (by kernel_rfl) (fun _ _ _ h => h) (Or.inl ⟨by rfl, ?_⟩) (by assumption) ?_
  rotate_left 1
  · intro u hSw; obtain s1 := hSw; go_simp; try with_reducible rfl
  try simp only [Act.put, List.setIfInBounds_toArray, List.set_cons_zero, List.set_cons_succ]
  refine wpAnyH_ready (rs := [0, 4]) (by kernel_rfl) (by simp) ?_
  refine AllReadyH.cons (o := { dst := some 10, op := _, type := _, pos := _, after := _, guard := _ }) rfl (fun Kq hK => ?_) (AllReadyH.cons (o := { dst := some 14, op := _, type := _, pos := _, after := _, guard := _ }) rfl (fun Kq hK => ?_) AllReadyH.nil)
  · go_simp
    refine HDE.out.mono ?_
    rintro e w2 ⟨rfl, f2⟩
    have d21 := (f2.cell (p := ⟨ob, 21, none⟩) hob (fun e => e)).trans c21
    have HC2 := hide2 (HC.out w2 f2)
    clear f2
    go_wp2_with fail
    refine hK.out _ _ (trivial) (fun hHeld => ?_)
    clear hK Kq
    try simp only [Act.put, List.setIfInBounds_toArray, List.set_cons_zero, List.set_cons_succ]
    refine wpAnyH_ready (rs := [4]) (by kernel_rfl) (by simp) ?_
    refine AllReadyH.cons (o := { dst := some 14, op := _, type := _, pos := _, after := _, guard := _ }) rfl (fun Kq hK => ?_) AllReadyH.nil
    go_simp
    go_wp2_with fail
    refine hK.out _ _ (trivial) (fun hHeld => ?_)
    clear hK Kq
    try simp only [Act.put, List.setIfInBounds_toArray, List.set_cons_zero, List.set_cons_succ]
    have hdA : dA = #[.func (.func 42) #[] #[], .func (.func 43) #[] #[], .func (.func 44) #[] #[], .func (.func 45) #[] #[], .func (.func 46) #[] #[]] := rfl
    have hix : ∀ u : World, (Instr.index 85 (.agg #[.func (.func 42) #[] #[], .func (.func 43) #[] #[], .func (.func 44) #[] #[], .func (.func 45) #[] #[], .func (.func 46) #[] #[]]) (.int .i64 2)).run Tryd.prog u = .ok (.func (.func 44) #[] #[]) u := fun u => by kernel_rfl
    refine wpAnyH_take (i := 5) (oi := { dst := some 15, op := _, type := _, pos := _, after := _, guard := _ }) (v := ?_) rfl (by kernel_rfl) (by kernel_rfl) (by kernel_rfl) (fun _ _ _ h => h) (Or.inl ⟨by rfl, ?_⟩) (by assumption) ?_
    rotate_left 1
    · intro u hSw; obtain s1 := hSw; go_simp; try with_reducible rfl
    try simp only [Act.put, List.setIfInBounds_toArray, List.set_cons_zero, List.set_cons_succ]
    refine wpAnyH_ready (rs := [7]) (by kernel_rfl) (by simp) ?_
    refine AllReadyH.cons (o := { dst := some 17, op := _, type := _, pos := _, after := _, guard := _ }) rfl (fun Kq hK => ?_) AllReadyH.nil
    go_simp
    refine HC2.out.mono ?_
    rintro e w3 ⟨rfl, st, e21, hR⟩
    have HR := hide2 hR
    have hob3 : ob < w3.heap.size := World.block_lt_of_cell? w3 _ e21
    clear hR HC2
    go_wp2_with fail
    refine hK.out _ _ (trivial) (fun hHeld => ?_)
    clear hK Kq
    try simp only [Act.put, List.setIfInBounds_toArray, List.set_cons_zero, List.set_cons_succ]
    refine wpAnyH_done (by kernel_rfl) ?_ _
    refine NoPanic.normal ?_
    clear d21 c21
    go_wp2
    go_ret
    refine ⟨st, ret_bool ?_, HR.out⟩
    rw [Bool.eq_iff_iff]
    simp
    omega
  · go_simp
    go_wp2_with fail
    refine hK.out _ _ (trivial) (fun hHeld => ?_)
    clear hK Kq
    try simp only [Act.put, List.setIfInBounds_toArray, List.set_cons_zero, List.set_cons_succ]
    refine wpAnyH_ready (rs := [0]) (by kernel_rfl) (by simp) ?_
    refine AllReadyH.cons (o := { dst := some 10, op := _, type := _, pos := _, after := _, guard := _ }) rfl (fun Kq hK => ?_) AllReadyH.nil
    go_simp
    refine HDE.out.mono ?_
    rintro e w2 ⟨rfl, f2⟩
    have d21 := (f2.cell (p := ⟨ob, 21, none⟩) hob (fun e => e)).trans c21
    have HC2 := hide2 (HC.out w2 f2)
    clear f2
    go_wp2_with fail
    refine hK.out _ _ (trivial) (fun hHeld => ?_)
    clear hK Kq
    try simp only [Act.put, List.setIfInBounds_toArray, List.set_cons_zero, List.set_cons_succ]
    have hdA : dA = #[.func (.func 42) #[] #[], .func (.func 43) #[] #[], .func (.func 44) #[] #[], .func (.func 45) #[] #[], .func (.func 46) #[] #[]] := rfl
    have hix : ∀ u : World, (Instr.index 85 (.agg #[.func (.func 42) #[] #[], .func (.func 43) #[] #[], .func (.func 44) #[] #[], .func (.func 45) #[] #[], .func (.func 46) #[] #[]]) (.int .i64 2)).run Tryd.prog u = .ok (.func (.func 44) #[] #[]) u := fun u => by kernel_rfl
    refine wpAnyH_take (i := 5) (oi := { dst := some 15, op := _, type := _, pos := _, after := _, guard := _ }) (v := ?_) rfl (by kernel_rfl) (by kernel_rfl) (by kernel_rfl) (fun _ _ _ h => h) (Or.inl ⟨by rfl, ?_⟩) (by assumption) ?_
    rotate_left 1
    · intro u hSw; obtain s1 := hSw; go_simp; try with_reducible rfl
    try simp only [Act.put, List.setIfInBounds_toArray, List.set_cons_zero, List.set_cons_succ]
    refine wpAnyH_ready (rs := [7]) (by kernel_rfl) (by simp) ?_
    refine AllReadyH.cons (o := { dst := some 17, op := _, type := _, pos := _, after := _, guard := _ }) rfl (fun Kq hK => ?_) AllReadyH.nil
    go_simp
    refine HC2.out.mono ?_
    rintro e w3 ⟨rfl, st, e21, hR⟩
    have HR := hide2 hR
    have hob3 : ob < w3.heap.size := World.block_lt_of_cell? w3 _ e21
    clear hR HC2
    go_wp2_with fail
    refine hK.out _ _ (trivial) (fun hHeld => ?_)
    clear hK Kq
    try simp only [Act.put, List.setIfInBounds_toArray, List.set_cons_zero, List.set_cons_succ]
    refine wpAnyH_done (by kernel_rfl) ?_ _
    refine NoPanic.normal ?_
    clear d21 c21
    go_wp2
    go_ret
    refine ⟨st, ret_bool ?_, HR.out⟩
    rw [Bool.eq_iff_iff]
    simp
    omega

set_option maxRecDepth 100000 in
set_option maxHeartbeats 4000000 in
theorem step_raise {R : World → Nat → Prop} (c21 : w.cell? ⟨ob, 21, none⟩ = some (.int .i64 3)) (hob : ob < w.heap.size)
    (hC : ∀ u, Fr (fun _ => False) w u → Calls Tryd.prog 45 #[.pointer (some ⟨ob, 0, none⟩)] u fun e w' => e = .returned (.tuple #[]) ∧ ∃ st, w'.cell? ⟨ob, 21, none⟩ = some (.int .i64 ((st : Nat) : Int)) ∧ R w' st) :
    Calls Tryd.prog 20 #[.pointer (some ⟨ob, 0, none⟩)] w fun e w' => ∃ st, e = .returned (.bool (decide (st = 5))) ∧ R w' st := by
  have HC := hide2 hC
  have HDE : Hid (Calls Tryd.prog 33 #[] w.drew fun e w' => e = .returned (.agg dA) ∧ Fr (fun _ => False) w w') := hide2 ((deeds_any w.drew).mono (by
    rintro e w' ⟨rfl, q⟩
    exact ⟨rfl, ((Fr.refl (fun _ => False) w).drewN 1).trans (Fr.below (F := fun _ => False) q) (fun j e => .inl e)⟩))
  clear hC
  go_enter Tryd.func20, Tryd.ntmps20
  go_wp2_with fail
  refine wp_region_noPanic ?_
  refine wp_region_held_drew (S := (fun u : World => True)) (by kernel_rfl) (trivial) (fun hHeld => ?_)
  refine wpAnyH_take (i := 1) (oi := { dst := some 11, op := _, type := _, pos := _, after := _, guard := _ }) (v := ?_) rfl (by kernel_rfl) (by kernel_rfl) (by kernel_rfl) (fun _ _ _ h => h) (Or.inl ⟨by rfl, ?_⟩) (by assumption) ?_
  rotate_left 1
  · intro u hSw; obtain s1 := hSw; go_simp; try with_reducible rfl
  try simp only [Act.put, List.setIfInBounds_toArray, List.set_cons_zero, List.set_cons_succ]
  refine wpAnyH_take (i := 2) (oi := { dst := some 12, op := _, type := _, pos := _, after := _, guard := _ }) (v := ?_) rfl (by kernel_rfl) (by kernel_rfl) (by kernel_rfl) (fun _ _ _ h => h) (Or.inl ⟨by rfl, ?_⟩) (by assumption) ?_
  rotate_left 1
  · intro u hSw; obtain s1 := hSw; go_simp; try with_reducible rfl
  try simp only [Act.put, List.setIfInBounds_toArray, List.set_cons_zero, List.set_cons_succ]
  refine wpAnyH_take (i := 3) (oi := { dst := some 13, op := _, type := _, pos := _, after := _, guard := _ }) (v := ?_) rfl (by kernel_rfl) (by kernel_rfl) (by kernel_rfl) (fun _ _ _ h => h) (Or.inl ⟨by rfl, ?_⟩) (by assumption) ?_
  rotate_left 1
  · intro u hSw; obtain s1 := hSw; go_simp; try with_reducible rfl
  try simp only [Act.put, List.setIfInBounds_toArray, List.set_cons_zero, List.set_cons_succ]
  refine wpAnyH_take (i := 6) (oi := { dst := some 16, op := _, type := _, pos := _, after := _, guard := _ }) (v := ?_) rfl (by kernel_rfl) (by kernel_rfl) (by kernel_rfl) (fun _ _ _ h => h) (Or.inl ⟨by rfl, ?_⟩) (by assumption) ?_
  rotate_left 1
  · intro u hSw; obtain s1 := hSw; go_simp; try with_reducible rfl
  try simp only [Act.put, List.setIfInBounds_toArray, List.set_cons_zero, List.set_cons_succ]
  refine wpAnyH_ready (rs := [0, 4]) (by kernel_rfl) (by simp) ?_
  refine AllReadyH.cons (o := { dst := some 10, op := _, type := _, pos := _, after := _, guard := _ }) rfl (fun Kq hK => ?_) (AllReadyH.cons (o := { dst := some 14, op := _, type := _, pos := _, after := _, guard := _ }) rfl (fun Kq hK => ?_) AllReadyH.nil)
  · go_simp
    refine HDE.out.mono ?_
    rintro e w2 ⟨rfl, f2⟩
    have d21 := (f2.cell (p := ⟨ob, 21, none⟩) hob (fun e => e)).trans c21
    have HC2 := hide2 (HC.out w2 f2)
    clear f2
    go_wp2_with fail
    refine hK.out _ _ (trivial) (fun hHeld => ?_)
    clear hK Kq
    try simp only [Act.put, List.setIfInBounds_toArray, List.set_cons_zero, List.set_cons_succ]
    refine wpAnyH_ready (rs := [4]) (by kernel_rfl) (by simp) ?_
    refine AllReadyH.cons (o := { dst := some 14, op := _, type := _, pos := _, after := _, guard := _ }) rfl (fun Kq hK => ?_) AllReadyH.nil
    go_simp
    go_wp2_with fail
    refine hK.out _ _ (trivial) (fun hHeld => ?_)
    clear hK Kq
    try simp only [Act.put, List.setIfInBounds_toArray, List.set_cons_zero, List.set_cons_succ]
    have hdA : dA = #[.func (.func 42) #[] #[], .func (.func 43) #[] #[], .func (.func 44) #[] #[], .func (.func 45) #[] #[], .func (.func 46) #[] #[]] := rfl
    have hix : ∀ u : World, (Instr.index 85 (.agg #[.func (.func 42) #[] #[], .func (.func 43) #[] #[], .func (.func 44) #[] #[], .func (.func 45) #[] #[], .func (.func 46) #[] #[]]) (.int .i64 3)).run Tryd.prog u = .ok (.func (.func 45) #[] #[]) u := fun u => by kernel_rfl
    refine wpAnyH_take (i := 5) (oi := { dst := some 15, op := _, type := _, pos := _, after := _, guard := _ }) (v := ?_) rfl (by kernel_rfl) (by kernel_rfl) (by kernel_rfl) (fun _ _ _ h => h) (Or.inl ⟨by rfl, ?_⟩) (by assumption) ?_
    rotate_left 1
    · intro u hSw; obtain s1 := hSw; go_simp; try with_reducible rfl
    try simp only [Act.put, List.setIfInBounds_toArray, List.set_cons_zero, List.set_cons_succ]
    refine wpAnyH_ready (rs := [7]) (by kernel_rfl) (by simp) ?_
    refine AllReadyH.cons (o := { dst := some 17, op := _, type := _, pos := _, after := _, guard := _ }) rfl (fun Kq hK => ?_) AllReadyH.nil
    go_simp
    refine HC2.out.mono ?_
    rintro e w3 ⟨rfl, st, e21, hR⟩
    have HR := hide2 hR
    have hob3 : ob < w3.heap.size := World.block_lt_of_cell? w3 _ e21
    clear hR HC2
    go_wp2_with fail
    refine hK.out _ _ (trivial) (fun hHeld => ?_)
    clear hK Kq
    try simp only [Act.put, List.setIfInBounds_toArray, List.set_cons_zero, List.set_cons_succ]
    refine wpAnyH_done (by kernel_rfl) ?_ _
    refine NoPanic.normal ?_
    clear d21 c21
    go_wp2
    go_ret
    refine ⟨st, ret_bool ?_, HR.out⟩
    rw [Bool.eq_iff_iff]
    simp
    omega
  · go_simp
    go_wp2_with fail
    refine hK.out _ _ (trivial) (fun hHeld => ?_)
    clear hK Kq
    try simp only [Act.put, List.setIfInBounds_toArray, List.set_cons_zero, List.set_cons_succ]
    refine wpAnyH_ready (rs := [0]) (by kernel_rfl) (by simp) ?_
    refine AllReadyH.cons (o := { dst := some 10, op := _, type := _, pos := _, after := _, guard := _ }) rfl (fun Kq hK => ?_) AllReadyH.nil
    go_simp
    refine HDE.out.mono ?_
    rintro e w2 ⟨rfl, f2⟩
    have d21 := (f2.cell (p := ⟨ob, 21, none⟩) hob (fun e => e)).trans c21
    have HC2 := hide2 (HC.out w2 f2)
    clear f2
    go_wp2_with fail
    refine hK.out _ _ (trivial) (fun hHeld => ?_)
    clear hK Kq
    try simp only [Act.put, List.setIfInBounds_toArray, List.set_cons_zero, List.set_cons_succ]
    have hdA : dA = #[.func (.func 42) #[] #[], .func (.func 43) #[] #[], .func (.func 44) #[] #[], .func (.func 45) #[] #[], .func (.func 46) #[] #[]] := rfl
    have hix : ∀ u : World, (Instr.index 85 (.agg #[.func (.func 42) #[] #[], .func (.func 43) #[] #[], .func (.func 44) #[] #[], .func (.func 45) #[] #[], .func (.func 46) #[] #[]]) (.int .i64 3)).run Tryd.prog u = .ok (.func (.func 45) #[] #[]) u := fun u => by kernel_rfl
    refine wpAnyH_take (i := 5) (oi := { dst := some 15, op := _, type := _, pos := _, after := _, guard := _ }) (v := ?_) rfl (by kernel_rfl) (by kernel_rfl) (by kernel_rfl) (fun _ _ _ h => h) (Or.inl ⟨by rfl, ?_⟩) (by assumption) ?_
    rotate_left 1
    · intro u hSw; obtain s1 := hSw; go_simp; try with_reducible rfl
    try simp only [Act.put, List.setIfInBounds_toArray, List.set_cons_zero, List.set_cons_succ]
    refine wpAnyH_ready (rs := [7]) (by kernel_rfl) (by simp) ?_
    refine AllReadyH.cons (o := { dst := some 17, op := _, type := _, pos := _, after := _, guard := _ }) rfl (fun Kq hK => ?_) AllReadyH.nil
    go_simp
    refine HC2.out.mono ?_
    rintro e w3 ⟨rfl, st, e21, hR⟩
    have HR := hide2 hR
    have hob3 : ob < w3.heap.size := World.block_lt_of_cell? w3 _ e21
    clear hR HC2
    go_wp2_with fail
    refine hK.out _ _ (trivial) (fun hHeld => ?_)
    clear hK Kq
    try simp only [Act.put, List.setIfInBounds_toArray, List.set_cons_zero, List.set_cons_succ]
    refine wpAnyH_done (by kernel_rfl) ?_ _
    refine NoPanic.normal ?_
    clear d21 c21
    go_wp2
    go_ret
    refine ⟨st, ret_bool ?_, HR.out⟩
    rw [Bool.eq_iff_iff]
    simp
    omega

set_option maxRecDepth 100000 in
set_option maxHeartbeats 4000000 in
theorem step_giveBack {R : World → Nat → Prop} (c21 : w.cell? ⟨ob, 21, none⟩ = some (.int .i64 4)) (hob : ob < w.heap.size)
    (hC : ∀ u, Fr (fun _ => False) w u → Calls Tryd.prog 46 #[.pointer (some ⟨ob, 0, none⟩)] u fun e w' => e = .returned (.tuple #[]) ∧ ∃ st, w'.cell? ⟨ob, 21, none⟩ = some (.int .i64 ((st : Nat) : Int)) ∧ R w' st) :
    Calls Tryd.prog 20 #[.pointer (some ⟨ob, 0, none⟩)] w fun e w' => ∃ st, e = .returned (.bool (decide (st = 5))) ∧ R w' st := by
  have HC := hide2 hC
  have HDE : Hid (Calls Tryd.prog 33 #[] w.drew fun e w' => e = .returned (.agg dA) ∧ Fr (fun _ => False) w w') := hide2 ((deeds_any w.drew).mono (by
    rintro e w' ⟨rfl, q⟩
    exact ⟨rfl, ((Fr.refl (fun _ => False) w).drewN 1).trans (Fr.below (F := fun _ => False) q) (fun j e => .inl e)⟩))
  clear hC
  go_enter Tryd.func20, Tryd.ntmps20
  go_wp2_with fail
  refine wp_region_noPanic ?_
  refine wp_region_held_drew (S := (fun u : World => True)) (by kernel_rfl) (trivial) (fun hHeld => ?_)
  refine wpAnyH_take (i := 1) (oi := { dst := some 11, op := _, type := _, pos := _, after := _, guard := _ }) (v := ?_) rfl (by kernel_rfl) (by kernel_rfl) (by kernel_rfl) (fun _ _ _ h => h) (Or.inl ⟨by rfl, ?_⟩) (by assumption) ?_
  rotate_left 1
  · intro u hSw; obtain s1 := hSw; go_simp; try with_reducible rfl
  try simp only [Act.put, List.setIfInBounds_toArray, List.set_cons_zero, List.set_cons_succ]
  refine wpAnyH_take (i := 2) (oi := { dst := some 12, op := _, type := _, pos := _, after := _, guard := _ }) (v := ?_) rfl (by kernel_rfl) (by kernel_rfl) (by kernel_rfl) (fun _ _ _ h => h) (Or.inl ⟨by rfl, ?_⟩) (by assumption) ?_
  rotate_left 1
  · intro u hSw; obtain s1 := hSw; go_simp; try with_reducible rfl
  try simp only [Act.put, List.setIfInBounds_toArray, List.set_cons_zero, List.set_cons_succ]
  refine wpAnyH_take (i := 3) (oi := { dst := some 13, op := _, type := _, pos := _, after := _, guard := _ }) (v := ?_) rfl (by kernel_rfl) (by kernel_rfl) (by kernel_rfl) (fun _ _ _ h => h) (Or.inl ⟨by rfl, ?_⟩) (by assumption) ?_
  rotate_left 1
  · intro u hSw; obtain s1 := hSw; go_simp; try with_reducible rfl
  try simp only [Act.put, List.setIfInBounds_toArray, List.set_cons_zero, List.set_cons_succ]
  refine wpAnyH_take (i := 6) (oi := { dst := some 16, op := _, type := _, pos := _, after := _, guard := _ }) (v := ?_) rfl (by kernel_rfl) (by kernel_rfl) (by kernel_rfl) (fun _ _ _ h => h) (Or.inl ⟨by rfl, ?_⟩) (by assumption) ?_
  rotate_left 1
  · intro u hSw; obtain s1 := hSw; go_simp; try with_reducible rfl
  try simp only [Act.put, List.setIfInBounds_toArray, List.set_cons_zero, List.set_cons_succ]
  refine wpAnyH_ready (rs := [0, 4]) (by kernel_rfl) (by simp) ?_
  refine AllReadyH.cons (o := { dst := some 10, op := _, type := _, pos := _, after := _, guard := _ }) rfl (fun Kq hK => ?_) (AllReadyH.cons (o := { dst := some 14, op := _, type := _, pos := _, after := _, guard := _ }) rfl (fun Kq hK => ?_) AllReadyH.nil)
  · go_simp
    refine HDE.out.mono ?_
    rintro e w2 ⟨rfl, f2⟩
    have d21 := (f2.cell (p := ⟨ob, 21, none⟩) hob (fun e => e)).trans c21
    have HC2 := hide2 (HC.out w2 f2)
    clear f2
    go_wp2_with fail
    refine hK.out _ _ (trivial) (fun hHeld => ?_)
    clear hK Kq
    try simp only [Act.put, List.setIfInBounds_toArray, List.set_cons_zero, List.set_cons_succ]
    refine wpAnyH_ready (rs := [4]) (by kernel_rfl) (by simp) ?_
    refine AllReadyH.cons (o := { dst := some 14, op := _, type := _, pos := _, after := _, guard := _ }) rfl (fun Kq hK => ?_) AllReadyH.nil
    go_simp
    go_wp2_with fail
    refine hK.out _ _ (trivial) (fun hHeld => ?_)
    clear hK Kq
    try simp only [Act.put, List.setIfInBounds_toArray, List.set_cons_zero, List.set_cons_succ]
    have hdA : dA = #[.func (.func 42) #[] #[], .func (.func 43) #[] #[], .func (.func 44) #[] #[], .func (.func 45) #[] #[], .func (.func 46) #[] #[]] := rfl
    have hix : ∀ u : World, (Instr.index 85 (.agg #[.func (.func 42) #[] #[], .func (.func 43) #[] #[], .func (.func 44) #[] #[], .func (.func 45) #[] #[], .func (.func 46) #[] #[]]) (.int .i64 4)).run Tryd.prog u = .ok (.func (.func 46) #[] #[]) u := fun u => by kernel_rfl
    refine wpAnyH_take (i := 5) (oi := { dst := some 15, op := _, type := _, pos := _, after := _, guard := _ }) (v := ?_) rfl (by kernel_rfl) (by kernel_rfl) (by kernel_rfl) (fun _ _ _ h => h) (Or.inl ⟨by rfl, ?_⟩) (by assumption) ?_
    rotate_left 1
    · intro u hSw; obtain s1 := hSw; go_simp; try with_reducible rfl
    try simp only [Act.put, List.setIfInBounds_toArray, List.set_cons_zero, List.set_cons_succ]
    refine wpAnyH_ready (rs := [7]) (by kernel_rfl) (by simp) ?_
    refine AllReadyH.cons (o := { dst := some 17, op := _, type := _, pos := _, after := _, guard := _ }) rfl (fun Kq hK => ?_) AllReadyH.nil
    go_simp
    refine HC2.out.mono ?_
    rintro e w3 ⟨rfl, st, e21, hR⟩
    have HR := hide2 hR
    have hob3 : ob < w3.heap.size := World.block_lt_of_cell? w3 _ e21
    clear hR HC2
    go_wp2_with fail
    refine hK.out _ _ (trivial) (fun hHeld => ?_)
    clear hK Kq
    try simp only [Act.put, List.setIfInBounds_toArray, List.set_cons_zero, List.set_cons_succ]
    refine wpAnyH_done (by kernel_rfl) ?_ _
    refine NoPanic.normal ?_
    clear d21 c21
    go_wp2
    go_ret
    refine ⟨st, ret_bool ?_, HR.out⟩
    rw [Bool.eq_iff_iff]
    simp
    omega
  · go_simp
    go_wp2_with fail
    refine hK.out _ _ (trivial) (fun hHeld => ?_)
    clear hK Kq
    try simp only [Act.put, List.setIfInBounds_toArray, List.set_cons_zero, List.set_cons_succ]
    refine wpAnyH_ready (rs := [0]) (by kernel_rfl) (by simp) ?_
    refine AllReadyH.cons (o := { dst := some 10, op := _, type := _, pos := _, after := _, guard := _ }) rfl (fun Kq hK => ?_) AllReadyH.nil
    go_simp
    refine HDE.out.mono ?_
    rintro e w2 ⟨rfl, f2⟩
    have d21 := (f2.cell (p := ⟨ob, 21, none⟩) hob (fun e => e)).trans c21
    have HC2 := hide2 (HC.out w2 f2)
    clear f2
    go_wp2_with fail
    refine hK.out _ _ (trivial) (fun hHeld => ?_)
    clear hK Kq
    try simp only [Act.put, List.setIfInBounds_toArray, List.set_cons_zero, List.set_cons_succ]
    have hdA : dA = #[.func (.func 42) #[] #[], .func (.func 43) #[] #[], .func (.func 44) #[] #[], .func (.func 45) #[] #[], .func (.func 46) #[] #[]] := rfl
    have hix : ∀ u : World, (Instr.index 85 (.agg #[.func (.func 42) #[] #[], .func (.func 43) #[] #[], .func (.func 44) #[] #[], .func (.func 45) #[] #[], .func (.func 46) #[] #[]]) (.int .i64 4)).run Tryd.prog u = .ok (.func (.func 46) #[] #[]) u := fun u => by kernel_rfl
    refine wpAnyH_take (i := 5) (oi := { dst := some 15, op := _, type := _, pos := _, after := _, guard := _ }) (v := ?_) rfl (by kernel_rfl) (by kernel_rfl) (by kernel_rfl) (fun _ _ _ h => h) (Or.inl ⟨by rfl, ?_⟩) (by assumption) ?_
    rotate_left 1
    · intro u hSw; obtain s1 := hSw; go_simp; try with_reducible rfl
    try simp only [Act.put, List.setIfInBounds_toArray, List.set_cons_zero, List.set_cons_succ]
    refine wpAnyH_ready (rs := [7]) (by kernel_rfl) (by simp) ?_
    refine AllReadyH.cons (o := { dst := some 17, op := _, type := _, pos := _, after := _, guard := _ }) rfl (fun Kq hK => ?_) AllReadyH.nil
    go_simp
    refine HC2.out.mono ?_
    rintro e w3 ⟨rfl, st, e21, hR⟩
    have HR := hide2 hR
    have hob3 : ob < w3.heap.size := World.block_lt_of_cell? w3 _ e21
    clear hR HC2
    go_wp2_with fail
    refine hK.out _ _ (trivial) (fun hHeld => ?_)
    clear hK Kq
    try simp only [Act.put, List.setIfInBounds_toArray, List.set_cons_zero, List.set_cons_succ]
    refine wpAnyH_done (by kernel_rfl) ?_ _
    refine NoPanic.normal ?_
    clear d21 c21
    go_wp2
    go_ret
    refine ⟨st, ret_bool ?_, HR.out⟩
    rw [Bool.eq_iff_iff]
    simp
    omega
end
end
end Go.Proofs.YtopihgdbfhiejaaDoor
