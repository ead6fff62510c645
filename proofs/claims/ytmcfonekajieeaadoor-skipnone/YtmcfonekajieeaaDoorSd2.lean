/-
  put: an operation takes a cell for its tower, or puts it in. (Printed by gen_sd.py.)
-/
import Derived.Test.YtmcfonekajieeaaDoorSd1
import Derived.Laws.Tables
set_option linter.unusedVariables false
set_option linter.unusedSimpArgs false
namespace Go.Proofs.YtmcfonekajieeaaDoor
open Go.RowKit Go.Maps

section
variable {w w' : World} {K B : Nat → Prop} {lb d g gt tc : Nat} {sv : Value} {T : List Bool} {N : List Int} {m : Int} {F : List Nat} {s : Sl} {ob : Nat} {cv : Value} {o : Opm}

set_option maxRecDepth 100000 in
set_option maxHeartbeats 8000000 in
theorem put_late (h : Lm w K lb d g gt tc sv T N m F s) (ho : Ob w B ob lb cv o) (hKB : ∀ j, K j → ¬ B j) (hcs : ∀ c ∈ o.cs, c ∈ s.sp) {l i num : Nat} (hl0 : l = 0) (hpt : o.pt l = i) (hpn : o.pn l = num) (hl2 : s.sp.length ≤ 100000) (hl3 : o.cs.length ≤ 100000) (hh : o.cs.length = o.h) (hh8 : 1 ≤ o.h ∧ o.h ≤ 8) (hlen : s.tw.length ≤ 100000) (hi : i < s.tw.length) (hnum : num < 4611686018427387904) (ht : T.getD ((s.at i).cs 0) false = true) (hm : 0 ≤ m ∧ m < 4611686018427387904) (hok : false = decide (N.getD ((s.at i).cs 0) 0 = num)) :
    Calls Tryd.prog 44 #[.pointer (some ⟨ob, 0, none⟩)] w fun e w' => e = .returned (.tuple #[]) ∧ ∃ cv', Lm w' K lb d g gt tc sv T N (m + 1) F s ∧ Ob w' B ob lb cv' { o with st := 1 } ∧ Fr (fun j => K j ∨ B j) w w' := by
  have c := ho.om.cells
  have p1 := c.1
  have p2 := c.2.2.2.2.2.1
  have p3 : w.cell? ⟨ob, 23 + l * 2, none⟩ = some (.int .i64 (i : Int)) := by have := ho.om.ptAt (l := l) (by omega); rw [hpt] at this; exact this
  have p4 : w.cell? ⟨ob, 23 + l * 2 + 1, none⟩ = some (.int .u64 (num : Int)) := by have := ho.om.pnAt (l := l) (by omega); rw [hpn] at this; exact this
  have hob := ho.om.lt
  have H := hide2 h
  have HO := hide2 ho
  have HKB := hide2 hKB
  have HCS := hide2 hcs
  have HPT := hide2 hpt
  have HPN := hide2 hpn
  subst hl0
  simp only [Nat.zero_mul, Nat.add_zero] at p3 p4
  have hci : ¬ (o.cs.length : Int) < (o.h : Int) := by omega
  have hciN : ¬ o.cs.length < o.h := by omega
  have hciL : o.h ≤ o.cs.length := by omega
  have HOK := hide2 hok
  clear hok
  have HH := hide2 hh
  have hcl1 : 1 ≤ o.cs.length := by omega
  have hcl8 : o.cs.length ≤ 8 := by omega
  clear hh
  clear c h ho hKB hcs hpt hpn
  go_enter Tryd.func44, Tryd.ntmps44
  go_wp2_with fail
  refine wp_region_noPanic ?_
  refine wp_region_held_drew (S := (fun u : World => u.cell? ⟨ob, 0, none⟩ = some (lpp lb) ∧ u.cell? ⟨ob, 22, none⟩ = some (.int .i64 (o.lv : Int)) ∧ u.cell? ⟨ob, 23, none⟩ = some (.int .i64 (i : Int)) ∧ u.cell? ⟨ob, 23 + 1, none⟩ = some (.int .u64 (num : Int)))) (by kernel_rfl) (⟨p1, p2, p3, p4⟩) (fun hHeld => ?_)
  refine wpAnyH_take (i := 0) (oi := { dst := some 6, op := _, type := _, pos := _, after := _, guard := _ }) (v := ?_) rfl (by kernel_rfl) (by kernel_rfl) (by kernel_rfl) (fun _ _ _ h => h) (Or.inl ⟨by rfl, ?_⟩) (by assumption) ?_
  rotate_left 1
  · intro u hSw; obtain ⟨s1, s2, s3, s4⟩ := hSw; go_simp; try with_reducible rfl
  try simp only [Act.put, List.setIfInBounds_toArray, List.set_cons_zero, List.set_cons_succ]
  refine wpAnyH_take (i := 1) (oi := { dst := some 7, op := _, type := _, pos := _, after := _, guard := _ }) (v := ?_) rfl (by kernel_rfl) (by kernel_rfl) (by kernel_rfl) (fun _ _ _ h => h) (Or.inl ⟨by rfl, ?_⟩) (by assumption) ?_
  rotate_left 1
  · intro u hSw; obtain ⟨s1, s2, s3, s4⟩ := hSw; go_simp; try with_reducible rfl
  try simp only [Act.put, List.setIfInBounds_toArray, List.set_cons_zero, List.set_cons_succ]
  refine wpAnyH_take (i := 2) (oi := { dst := some 8, op := _, type := _, pos := _, after := _, guard := _ }) (v := ?_) rfl (by kernel_rfl) (by kernel_rfl) (by kernel_rfl) (fun _ _ _ h => h) (Or.inl ⟨by rfl, ?_⟩) (by assumption) ?_
  rotate_left 1
  · intro u hSw; obtain ⟨s1, s2, s3, s4⟩ := hSw; go_simp; try with_reducible rfl
  try simp only [Act.put, List.setIfInBounds_toArray, List.set_cons_zero, List.set_cons_succ]
  refine wpAnyH_take (i := 3) (oi := { dst := some 9, op := _, type := _, pos := _, after := _, guard := _ }) (v := ?_) rfl (by kernel_rfl) (by kernel_rfl) (by kernel_rfl) (fun _ _ _ h => h) (Or.inl ⟨by rfl, ?_⟩) (by assumption) ?_
  rotate_left 1
  · intro u hSw; obtain ⟨s1, s2, s3, s4⟩ := hSw; go_simp; try with_reducible rfl
  try simp only [Act.put, List.setIfInBounds_toArray, List.set_cons_zero, List.set_cons_succ]
  refine wpAnyH_take (i := 4) (oi := { dst := some 10, op := _, type := _, pos := _, after := _, guard := _ }) (v := ?_) rfl (by kernel_rfl) (by kernel_rfl) (by kernel_rfl) (fun _ _ _ h => h) (Or.inl ⟨by rfl, ?_⟩) (by assumption) ?_
  rotate_left 1
  · intro u hSw; obtain ⟨s1, s2, s3, s4⟩ := hSw; go_simp; try with_reducible rfl
  try simp only [Act.put, List.setIfInBounds_toArray, List.set_cons_zero, List.set_cons_succ]
  refine wpAnyH_take (i := 5) (oi := { dst := some 11, op := _, type := _, pos := _, after := _, guard := _ }) (v := ?_) rfl (by kernel_rfl) (by kernel_rfl) (by kernel_rfl) (fun _ _ _ h => h) (Or.inl ⟨by rfl, ?_⟩) (by assumption) ?_
  rotate_left 1
  · intro u hSw; obtain ⟨s1, s2, s3, s4⟩ := hSw; go_simp; try with_reducible rfl
  try simp only [Act.put, List.setIfInBounds_toArray, List.set_cons_zero, List.set_cons_succ]
  refine wpAnyH_take (i := 6) (oi := { dst := some 12, op := _, type := _, pos := _, after := _, guard := _ }) (v := ?_) rfl (by kernel_rfl) (by kernel_rfl) (by kernel_rfl) (fun _ _ _ h => h) (Or.inl ⟨by rfl, ?_⟩) (by assumption) ?_
  rotate_left 1
  · intro u hSw; obtain ⟨s1, s2, s3, s4⟩ := hSw; go_simp; try with_reducible rfl
  try simp only [Act.put, List.setIfInBounds_toArray, List.set_cons_zero, List.set_cons_succ]
  refine wpAnyH_take (i := 7) (oi := { dst := some 13, op := _, type := _, pos := _, after := _, guard := _ }) (v := ?_) rfl (by kernel_rfl) (by kernel_rfl) (by kernel_rfl) (fun _ _ _ h => h) (Or.inl ⟨by rfl, ?_⟩) (by assumption) ?_
  rotate_left 1
  · intro u hSw; obtain ⟨s1, s2, s3, s4⟩ := hSw; go_simp; try with_reducible rfl
  try simp only [Act.put, List.setIfInBounds_toArray, List.set_cons_zero, List.set_cons_succ]
  refine wpAnyH_take (i := 8) (oi := { dst := some 14, op := _, type := _, pos := _, after := _, guard := _ }) (v := ?_) rfl (by kernel_rfl) (by kernel_rfl) (by kernel_rfl) (fun _ _ _ h => h) (Or.inl ⟨by rfl, ?_⟩) (by assumption) ?_
  rotate_left 1
  · intro u hSw; obtain ⟨s1, s2, s3, s4⟩ := hSw; go_simp; try with_reducible rfl
  try simp only [Act.put, List.setIfInBounds_toArray, List.set_cons_zero, List.set_cons_succ]
  obtain ⟨wa, hwa⟩ : ∃ y, y = (w.alloc (.cells #[.int .i64 0, .int .u64 0] 79)).drew := ⟨_, rfl⟩
  have fa : Fr (fun _ => False) w wa := by rw [hwa]; exact ((Fr.refl _ w).alloc _).drewN 1
  obtain ⟨X, hX⟩ : ∃ y, y = w.heap.size := ⟨_, rfl⟩
  have ba : wa.heap[X]? = some (.cells #[.int .i64 0, .int .u64 0] 79 (0, 0)) := by rw [hwa, hX]; exact heap_alloc_new w _
  have hXob : ¬ X = ob := by omega
  have k0 : wa.cell? ⟨X, 0, none⟩ = some (.int .i64 0) := by rw [Go.Joins.cell_of_block ba]; rfl
  have k1 : wa.cell? ⟨X, 1, none⟩ = some (.int .u64 0) := by rw [Go.Joins.cell_of_block ba]; rfl
  have kf0 := Go.Joins.unfrozen_of_block ba 0
  have kf1 := Go.Joins.unfrozen_of_block ba 1
  have a1 := (fa.cell (p := ⟨ob, 0, none⟩) hob (fun e => e)).trans p1
  have a2 := (fa.cell (p := ⟨ob, 22, none⟩) hob (fun e => e)).trans p2
  have a3 := (fa.cell (p := ⟨ob, 23, none⟩) hob (fun e => e)).trans p3
  have a4 := (fa.cell (p := ⟨ob, 23 + 1, none⟩) hob (fun e => e)).trans p4
  refine wpAnyH_ready (rs := [9]) (by kernel_rfl) (by simp) ?_
  refine AllReadyH.cons (o := { dst := some 3, op := _, type := _, pos := _, after := _, guard := _ }) rfl (fun Kq hK => ?_) AllReadyH.nil
  clear hHeld
  go_simp
  go_wp2_with fail
  try rw [← hwa]
  try rw [← hX]
  refine hK.out _ _ (⟨a1, a2, a3, a4⟩) (fun hHeld => ?_)
  clear hK Kq
  try simp only [Act.put, List.setIfInBounds_toArray, List.set_cons_zero, List.set_cons_succ]
  refine wpAnyH_take (i := 10) (oi := { dst := some 2, op := _, type := _, pos := _, after := _, guard := _ }) (v := ?_) rfl (by kernel_rfl) (by kernel_rfl) (by kernel_rfl) (fun _ _ _ h => h) (Or.inl ⟨by rfl, ?_⟩) (by assumption) ?_
  rotate_left 1
  · intro u hSw; obtain ⟨s1, s2, s3, s4⟩ := hSw; go_simp; try with_reducible rfl
  try simp only [Act.put, List.setIfInBounds_toArray, List.set_cons_zero, List.set_cons_succ]
  obtain ⟨w1, hw1⟩ : ∃ y, y = (w.alloc (.cells #[.int .i64 (i : Int), .int .u64 (num : Int)] 79)).drew := ⟨_, rfl⟩
  have b1 : w1.heap[X]? = some (.cells #[.int .i64 (i : Int), .int .u64 (num : Int)] 79 (0, 0)) := by rw [hw1, hX]; exact heap_alloc_new w _
  have f1 : Fr (fun _ => False) w w1 := by rw [hw1]; exact ((Fr.refl _ w).alloc _).drewN 1
  have B1 : Hid (Below w.heap.size w w1) := hide2 (f1.to (fun _ _ => id) (Nat.le_refl _))
  have e1 := (f1.cell (p := ⟨ob, 0, none⟩) hob (fun e => e)).trans p1
  have e2 := (f1.cell (p := ⟨ob, 22, none⟩) hob (fun e => e)).trans p2
  have e3 := (f1.cell (p := ⟨ob, 23, none⟩) hob (fun e => e)).trans p3
  have e4 := (f1.cell (p := ⟨ob, 23 + 1, none⟩) hob (fun e => e)).trans p4
  refine wpAnyH_ready (rs := [11]) (by kernel_rfl) (by simp) ?_
  refine AllReadyH.cons (o := { dst := none, op := _, type := _, pos := _, after := _, guard := _ }) rfl (fun Kq hK => ?_) AllReadyH.nil
  clear hHeld
  go_simp
  go_wp2_with fail
  try rw [← hw1]
  refine hK.out _ _ (⟨e1, e2, e3, e4⟩) (fun hHeld => ?_)
  clear hK Kq
  try simp only [Act.put, List.setIfInBounds_toArray, List.set_cons_zero, List.set_cons_succ]
  refine wpAnyH_done (by kernel_rfl) ?_ _
  refine NoPanic.normal ?_
  have HXX := hide2 hX
  clear hX
  have BX := hide2 b1
  have hXe : X = w.heap.size := HXX.out
  subst hXe
  clear hHeld p1 p2 p3 p4 a1 a2 a3 a4 e1 e2 e3 e4 k0 k1 kf0 kf1 ba fa f1 hwa hw1 b1
  have h1 := H.out.below B1.out
  have o1 := HO.out.below B1.out
  have g1 := o1.om.cells.2.2.2.1
  have hob1 := o1.om.lt
  have HOW : Hid (Calls Tryd.prog 59 #[.pointer (some ⟨ob, 0, none⟩)] w1.drew fun e w' => ∃ cv', e = .returned cv' ∧ Lm w' K lb d g gt tc sv T N m F s ∧ Ob w' B ob lb cv' o ∧ Fr B w1 w') := hide2 (by
    have q := own_any (h1.drewn 1) (o1.drewn 1) HKB.out (by omega)
    rw [owned_all HCS.out] at q
    refine q.mono ?_
    rintro e w' ⟨cv', rfl, q1, q2, q3⟩
    exact ⟨cv', rfl, q1, q2, ((Fr.refl B w1).drewN 1).trans q3 (fun j e => .inl e)⟩)
  clear h1 o1
  go_wp2
  refine wp_region_noPanic ?_
  refine wp_region_held_drew (S := (fun u : World => u.cell? ⟨ob, 20, none⟩ = some (.int .i64 (o.h : Int)))) (by kernel_rfl) (g1) (fun hHeld => ?_)
  refine wpAnyH_take (i := 0) (oi := { dst := some 15, op := _, type := _, pos := _, after := _, guard := _ }) (v := ?_) rfl (by kernel_rfl) (by kernel_rfl) (by kernel_rfl) (fun _ _ _ h => h) (Or.inl ⟨by rfl, ?_⟩) (by assumption) ?_
  rotate_left 1
  · intro u hSw; obtain s1 := hSw; go_simp; try with_reducible rfl
  try simp only [Act.put, List.setIfInBounds_toArray, List.set_cons_zero, List.set_cons_succ]
  refine wpAnyH_take (i := 3) (oi := { dst := some 18, op := _, type := _, pos := _, after := _, guard := _ }) (v := ?_) rfl (by kernel_rfl) (by kernel_rfl) (by kernel_rfl) (fun _ _ _ h => h) (Or.inl ⟨by rfl, ?_⟩) (by assumption) ?_
  rotate_left 1
  · intro u hSw; obtain s1 := hSw; go_simp; try with_reducible rfl
  try simp only [Act.put, List.setIfInBounds_toArray, List.set_cons_zero, List.set_cons_succ]
  refine wpAnyH_take (i := 4) (oi := { dst := some 19, op := _, type := _, pos := _, after := _, guard := _ }) (v := ?_) rfl (by kernel_rfl) (by kernel_rfl) (by kernel_rfl) (fun _ _ _ h => h) (Or.inl ⟨by rfl, ?_⟩) (by assumption) ?_
  rotate_left 1
  · intro u hSw; obtain s1 := hSw; go_simp; try with_reducible rfl
  try simp only [Act.put, List.setIfInBounds_toArray, List.set_cons_zero, List.set_cons_succ]
  refine wpAnyH_take (i := 5) (oi := { dst := some 20, op := _, type := _, pos := _, after := _, guard := _ }) (v := ?_) rfl (by kernel_rfl) (by kernel_rfl) (by kernel_rfl) (fun _ _ _ h => h) (Or.inl ⟨by rfl, ?_⟩) (by assumption) ?_
  rotate_left 1
  · intro u hSw; obtain s1 := hSw; go_simp; try with_reducible rfl
  try simp only [Act.put, List.setIfInBounds_toArray, List.set_cons_zero, List.set_cons_succ]
  refine wpAnyH_take (i := 6) (oi := { dst := some 21, op := _, type := _, pos := _, after := _, guard := _ }) (v := ?_) rfl (by kernel_rfl) (by kernel_rfl) (by kernel_rfl) (fun _ _ _ h => h) (Or.inl ⟨by rfl, ?_⟩) (by assumption) ?_
  rotate_left 1
  · intro u hSw; obtain s1 := hSw; go_simp; try with_reducible rfl
  try simp only [Act.put, List.setIfInBounds_toArray, List.set_cons_zero, List.set_cons_succ]
  refine wpAnyH_ready (rs := [1]) (by kernel_rfl) (by simp) ?_
  refine AllReadyH.cons (o := { dst := some 16, op := _, type := _, pos := _, after := _, guard := _ }) rfl (fun Kq hK => ?_) AllReadyH.nil
  obtain s1 := hHeld
  go_simp
  refine HOW.out.mono ?_
  rintro e w2 ⟨cv2, rfl, h2, o2, f2⟩
  obtain ⟨ca, cn, cc, ec⟩ : ∃ a n c, cv2 = Value.slice a n c := by obtain ⟨a, c, e⟩ := o2.row.form; exact ⟨a, _, c, e⟩
  have hcn : cn = o.cs.length := by obtain ⟨a, c, e⟩ := o2.row.form; rw [ec] at e; cases e; rfl
  have g2 := o2.om.cells.2.2.2.1
  have bX2 : w2.heap[w.heap.size]? = some (.cells #[.int .i64 (i : Int), .int .u64 (num : Int)] 79 (0, 0)) := (f2.block w.heap.size (Array.getElem?_eq_some_iff.1 BX.out).1 (fun e => by have := HO.out.kl w.heap.size e; have := HXX.out; omega)).trans BX.out
  have BX2 := hide2 bX2
  have H2 := hide2 h2
  have O2 := hide2 o2
  have F2 : Hid (Fr B w w2) := hide2 ((Fr.below (F := B) B1.out).trans f2 (fun j e => .inl e))
  have hob2 := o2.om.lt
  subst ec
  subst hcn
  clear h2 o2 f2 bX2
  go_wp2_with fail
  refine hK.out _ _ (g2) (fun hHeld => ?_)
  clear hK Kq
  try simp only [Act.put, List.setIfInBounds_toArray, List.set_cons_zero, List.set_cons_succ]
  refine wpAnyH_take (i := 2) (oi := { dst := some 17, op := _, type := _, pos := _, after := _, guard := _ }) (v := ?_) rfl (by kernel_rfl) (by kernel_rfl) (by kernel_rfl) (fun _ _ _ h => h) (Or.inl ⟨by rfl, ?_⟩) (by assumption) ?_
  rotate_left 1
  · intro u hSw; obtain s1 := hSw; go_simp; try with_reducible rfl
  try simp only [Act.put, List.setIfInBounds_toArray, List.set_cons_zero, List.set_cons_succ]
  refine wpAnyH_take (i := 7) (oi := { dst := some 22, op := _, type := _, pos := _, after := _, guard := _ }) (v := ?_) rfl (by kernel_rfl) (by kernel_rfl) (by kernel_rfl) (fun _ _ _ h => h) (Or.inl ⟨by rfl, ?_⟩) (by assumption) ?_
  rotate_left 1
  · intro u hSw; obtain s1 := hSw; go_simp; try with_reducible rfl
  try simp only [Act.put, List.setIfInBounds_toArray, List.set_cons_zero, List.set_cons_succ]
  refine wpAnyH_take (i := 8) (oi := { dst := some 23, op := _, type := _, pos := _, after := _, guard := _ }) (v := ?_) rfl (by kernel_rfl) (by kernel_rfl) (by kernel_rfl) (fun _ _ _ h => h) (Or.inl ⟨by rfl, ?_⟩) (by assumption) ?_
  rotate_left 1
  · intro u hSw; obtain s1 := hSw; go_simp; try with_reducible rfl
  try simp only [Act.put, List.setIfInBounds_toArray, List.set_cons_zero, List.set_cons_succ]
  refine wpAnyH_take (i := 9) (oi := { dst := some 24, op := _, type := _, pos := _, after := _, guard := _ }) (v := undef) rfl (by kernel_rfl) (by kernel_rfl) (by kernel_rfl) (fun _ _ _ h => h) (Or.inr ⟨by rfl, rfl⟩) (by assumption) ?_
  try simp only [Act.put, List.setIfInBounds_toArray, List.set_cons_zero, List.set_cons_succ]
  refine wpAnyH_take (i := 10) (oi := { dst := some 25, op := _, type := _, pos := _, after := _, guard := _ }) (v := undef) rfl (by kernel_rfl) (by kernel_rfl) (by kernel_rfl) (fun _ _ _ h => h) (Or.inr ⟨by rfl, rfl⟩) (by assumption) ?_
  try simp only [Act.put, List.setIfInBounds_toArray, List.set_cons_zero, List.set_cons_succ]
  refine wpAnyH_take (i := 11) (oi := { dst := some 26, op := _, type := _, pos := _, after := _, guard := _ }) (v := ?_) rfl (by kernel_rfl) (by kernel_rfl) (by kernel_rfl) (fun _ _ _ h => h) (Or.inl ⟨by rfl, ?_⟩) (by assumption) ?_
  rotate_left 1
  · intro u hSw; obtain s1 := hSw; go_simp; try with_reducible rfl
  try simp only [Act.put, List.setIfInBounds_toArray, List.set_cons_zero, List.set_cons_succ]
  refine wpAnyH_done (by kernel_rfl) ?_ _
  refine NoPanic.normal ?_
  have x3 : Ob (w2.setCell ⟨ob, 21, none⟩ (.int .i64 1)) B ob lb (.slice ca o.cs.length cc) { o with st := 1 } ∧ Fr B w2 (w2.setCell ⟨ob, 21, none⟩ (.int .i64 1)) := O2.out.put1 (O2.out.om.setSt 1) rfl
  obtain ⟨w3, hw3⟩ : ∃ y, y = w2.setCell ⟨ob, 21, none⟩ (.int .i64 1) := ⟨_, rfl⟩
  rw [← hw3] at x3
  have h3 := H2.out.keep x3.2 HKB.out HO.out.b0
  have r21 := O2.out.om.cells.2.2.2.2.1
  have r21f := O2.out.om.free 21
  have HEN := hide2 (enough_any h3 x3.1 HKB.out HCS.out (by omega) (by show o.cs.length ≤ _; omega) (by show o.h ≤ _; omega))
  have F3 : Hid (Fr B w w3) := hide2 (F2.out.trans x3.2 (fun j e => .inl e))
  have bX3 : Hid (w3.heap[w.heap.size]? = some (.cells #[.int .i64 (i : Int), .int .u64 (num : Int)] 79 (0, 0))) := hide2 ((x3.2.block w.heap.size (Array.getElem?_eq_some_iff.1 BX2.out).1 (fun e => by have := HO.out.kl w.heap.size e; have := HXX.out; omega)).trans BX2.out)
  clear h3 x3 hHeld g1 g2
  go_wp2_with fail
  try rw [← hw3]
  clear hw3 r21 r21f
  refine HEN.out.mono ?_
  rintro e w4 ⟨cv4, tv, xs, rfl, hr4, htv, hxs, h4, o4, f4⟩
  have htk : (o.cs ++ xs).take o.h = o.cs := by rw [List.take_append_of_le_length (by have := HH.out; omega), List.take_of_length_le (by have := HH.out; omega)]
  have hr4' : Hr w4 0 tv o.cs := by rw [← htk]; exact hr4
  obtain ⟨ta, tn, tcp, et⟩ : ∃ a n c, tv = Value.slice a n c := by obtain ⟨a, c, e⟩ := hr4'.form; exact ⟨a, _, c, e⟩
  have htn : tn = o.cs.length := by obtain ⟨a, c, e⟩ := hr4'.form; rw [et] at e; cases e; rfl
  subst et
  subst htn
  have bX4 : w4.heap[w.heap.size]? = some (.cells #[.int .i64 (i : Int), .int .u64 (num : Int)] 79 (0, 0)) := (f4.block w.heap.size (Array.getElem?_eq_some_iff.1 bX3.out).1 (fun e => by have := HO.out.kl w.heap.size e; have := HXX.out; omega)).trans bX3.out
  have HR4 := hide2 hr4'
  have HTV := hide2 htv
  have H4 := hide2 h4
  have O4 := hide2 o4
  have F4 : Hid (Fr B w w4) := hide2 (F3.out.trans f4 (fun j e => .inl e))
  have BX4 := hide2 bX4
  have n20 := o4.om.cells.2.2.2.1
  have m1 : w4.rangeAt ob 2 (kC o.k).toList := o4.om.keyAt
  have m2 : w4.cell? ⟨ob, 19, none⟩ = some (.int .i64 o.r) := o4.om.cells.2.2.1
  have hob4 := o4.om.lt
  have dlt : ¬ (o.cs.length : Int) < (o.h : Int) := by have := HH.out; omega
  clear hr4 hr4' htv h4 o4 f4 bX4 htk hxs HEN F3 bX3
  go_wp2
  refine wp_region_noPanic ?_
  refine wp_region_held_drew (S := (fun u : World => u.rangeAt ob 2 (kC o.k).toList ∧ u.cell? ⟨ob, 19, none⟩ = some (.int .i64 o.r))) (by kernel_rfl) (⟨m1, m2⟩) (fun hHeld => ?_)
  refine wpAnyH_take (i := 0) (oi := { dst := some 42, op := _, type := _, pos := _, after := _, guard := _ }) (v := ?_) rfl (by kernel_rfl) (by kernel_rfl) (by kernel_rfl) (fun _ _ _ h => h) (Or.inl ⟨by rfl, ?_⟩) (by assumption) ?_
  rotate_left 1
  · intro u hSw; obtain ⟨s1, s2⟩ := hSw; go_simp; try with_reducible rfl
  try simp only [Act.put, List.setIfInBounds_toArray, List.set_cons_zero, List.set_cons_succ]
  refine wpAnyH_take (i := 1) (oi := { dst := some 43, op := _, type := _, pos := _, after := _, guard := _ }) (v := ?_) rfl (by kernel_rfl) (by kernel_rfl) (by kernel_rfl) (fun _ _ _ h => h) (Or.inl ⟨by rfl, ?_⟩) (by assumption) ?_
  rotate_left 1
  · intro u hSw; obtain ⟨s1, s2⟩ := hSw; go_simp; try with_reducible rfl
  try simp only [Act.put, List.setIfInBounds_toArray, List.set_cons_zero, List.set_cons_succ]
  refine wpAnyH_take (i := 2) (oi := { dst := some 44, op := _, type := _, pos := _, after := _, guard := _ }) (v := ?_) rfl (by kernel_rfl) (by kernel_rfl) (by kernel_rfl) (fun _ _ _ h => h) (Or.inl ⟨by rfl, ?_⟩) (by assumption) ?_
  rotate_left 1
  · intro u hSw; obtain ⟨s1, s2⟩ := hSw; go_simp; try with_reducible rfl
  try simp only [Act.put, List.setIfInBounds_toArray, List.set_cons_zero, List.set_cons_succ]
  refine wpAnyH_take (i := 3) (oi := { dst := some 45, op := _, type := _, pos := _, after := _, guard := _ }) (v := .agg ((kC o.k).toList).toArray) rfl (by kernel_rfl) (by kernel_rfl) (by kernel_rfl) (fun _ _ _ h => h) (yieldsIf_load_mid (by rfl) 72 _ rfl ob 2 rfl ((kC o.k).toList) _ (fun u hu => hu.1) Tryd.underlying72 rfl (by kernel_rfl)) (by assumption) ?_
  try simp only [Act.put, List.setIfInBounds_toArray, List.set_cons_zero, List.set_cons_succ]
  refine wpAnyH_take (i := 4) (oi := { dst := some 46, op := _, type := _, pos := _, after := _, guard := _ }) (v := ?_) rfl (by kernel_rfl) (by kernel_rfl) (by kernel_rfl) (fun _ _ _ h => h) (Or.inl ⟨by rfl, ?_⟩) (by assumption) ?_
  rotate_left 1
  · intro u hSw; obtain ⟨s1, s2⟩ := hSw; go_simp; try with_reducible rfl
  try simp only [Act.put, List.setIfInBounds_toArray, List.set_cons_zero, List.set_cons_succ]
  refine wpAnyH_take (i := 5) (oi := { dst := some 47, op := _, type := _, pos := _, after := _, guard := _ }) (v := ?_) rfl (by kernel_rfl) (by kernel_rfl) (by kernel_rfl) (fun _ _ _ h => h) (Or.inl ⟨by rfl, ?_⟩) (by assumption) ?_
  rotate_left 1
  · intro u hSw; obtain ⟨s1, s2⟩ := hSw; go_simp; try with_reducible rfl
  try simp only [Act.put, List.setIfInBounds_toArray, List.set_cons_zero, List.set_cons_succ]
  refine wpAnyH_take (i := 6) (oi := { dst := some 48, op := _, type := _, pos := _, after := _, guard := _ }) (v := ?_) rfl (by kernel_rfl) (by kernel_rfl) (by kernel_rfl) (fun _ _ _ h => h) (Or.inl ⟨by rfl, ?_⟩) (by assumption) ?_
  rotate_left 1
  · intro u hSw; obtain ⟨s1, s2⟩ := hSw; go_simp; try with_reducible rfl
  try simp only [Act.put, List.setIfInBounds_toArray, List.set_cons_zero, List.set_cons_succ]
  refine wpAnyH_take (i := 7) (oi := { dst := some 49, op := _, type := _, pos := _, after := _, guard := _ }) (v := ?_) rfl (by kernel_rfl) (by kernel_rfl) (by kernel_rfl) (fun _ _ _ h => h) (Or.inl ⟨by rfl, ?_⟩) (by assumption) ?_
  rotate_left 1
  · intro u hSw; obtain ⟨s1, s2⟩ := hSw; go_simp; try with_reducible rfl
  try simp only [Act.put, List.setIfInBounds_toArray, List.set_cons_zero, List.set_cons_succ]
  refine wpAnyH_take (i := 8) (oi := { dst := some 50, op := _, type := _, pos := _, after := _, guard := _ }) (v := .agg (twL (tz o.k o.r)).toArray) rfl (by kernel_rfl) (by kernel_rfl) (by kernel_rfl) (fun _ _ _ h => h) (yieldsIf_build (by rfl) 74 _ rfl _ (by kernel_rfl)) (by assumption) ?_
  try simp only [Act.put, List.setIfInBounds_toArray, List.set_cons_zero, List.set_cons_succ]
  obtain ⟨Y, hY⟩ : ∃ y, y = w4.heap.size := ⟨_, rfl⟩
  obtain ⟨w5, hw5⟩ : ∃ y, y = (w4.alloc (.cells #[.int .u8 0, .int .u8 0, .int .u8 0, .int .u8 0, .int .u8 0, .int .u8 0, .int .u8 0, .int .u8 0, .int .u8 0, .int .u8 0, .int .u8 0, .int .u8 0, .int .u8 0, .int .u8 0, .int .u8 0, .int .u8 0, .int .u8 0, .int .i64 0, .int .i64 0, .int .i64 0, .int .i64 0, .int .i64 0, .int .i64 0, .int .i64 0, .int .i64 0, .int .i64 0, .int .i64 0, .int .i64 0, .int .i64 0, .int .i64 0, .int .i64 0, .int .i64 0, .int .i64 0, .int .i64 0] 74)).drew := ⟨_, rfl⟩
  have f5 : Fr (fun _ => False) w4 w5 := by rw [hw5]; exact ((Fr.refl _ w4).alloc _).drewN 1
  have b5 : w5.heap[Y]? = some (.cells z34 74 (0, 0)) := by rw [hw5, hY]; exact heap_alloc_new w4 _
  have q1 : w5.rangeAt ob 2 (kC o.k).toList := fun j v hv => (f5.cell (p := ⟨ob, 2 + j, none⟩) hob4 (fun e => e)).trans (m1 j v hv)
  have q2 := (f5.cell (p := ⟨ob, 19, none⟩) hob4 (fun e => e)).trans m2
  have T5 : Hid (w5.there Y 0 34) := hide2 (fun j hj => ⟨by rw [Go.Joins.cell_of_block b5, Array.getElem?_eq_getElem (by show _ < 34; omega)]; rfl, Go.Joins.unfrozen_of_block b5 _⟩)
  have hYob : ¬ Y = ob := by omega
  refine wpAnyH_ready (rs := [9]) (by kernel_rfl) (by simp) ?_
  refine AllReadyH.cons (o := { dst := some 5, op := _, type := _, pos := _, after := _, guard := _ }) rfl (fun Kq hK => ?_) AllReadyH.nil
  clear hHeld
  go_simp
  go_wp2_with fail
  try rw [← hw5]
  try rw [← hY]
  refine hK.out _ _ (⟨q1, q2⟩) (fun hHeld => ?_)
  clear hK Kq
  try simp only [Act.put, List.setIfInBounds_toArray, List.set_cons_zero, List.set_cons_succ]
  obtain ⟨w6, hw6⟩ : ∃ y, y = w5.setCells Y 0 (twL (tz o.k o.r)) := ⟨_, rfl⟩
  have f6 : Fr (fun j => j = Y) w5 w6 := by rw [hw6]; exact fr_setCells
  have hob5 : ob < w5.heap.size := Nat.lt_of_lt_of_le hob4 f5.size
  have b6 : w6.heap[Y]? = some (.cells (twL (tz o.k o.r)).toArray 74 (0, 0)) := by rw [hw6]; exact setCells_whole b5 rfl
  have q3 : w6.rangeAt ob 2 (kC o.k).toList := fun j v hv => (f6.cell (p := ⟨ob, 2 + j, none⟩) hob5 (fun e => hYob e.symm)).trans (q1 j v hv)
  have q4 := (f6.cell (p := ⟨ob, 19, none⟩) hob5 (fun e => hYob e.symm)).trans q2
  refine wpAnyH_ready (rs := [10]) (by kernel_rfl) (by simp) ?_
  refine AllReadyH.cons (o := { dst := none, op := _, type := _, pos := _, after := _, guard := _ }) rfl (fun Kq hK => ?_) AllReadyH.nil
  refine step_store_mid rfl 74 _ _ rfl Y 0 (twL (tz o.k o.r)).toArray rfl rfl T5.out (by kernel_rfl) (twL_one _) ?_
  rw [show (twL (tz o.k o.r)).toArray.toList = twL (tz o.k o.r) from rfl, ← hw6]
  clear hw6
  refine hK.out _ _ (⟨q3, q4⟩) (fun hHeld => ?_)
  clear hK Kq
  try simp only [Act.put, List.setIfInBounds_toArray, List.set_cons_zero, List.set_cons_succ]
  refine wpAnyH_done (by kernel_rfl) ?_ _
  refine NoPanic.normal ?_
  have F6 : Hid (Fr B w w6) := hide2 ((F4.out.trans f5 (fun j e => e.elim)).trans f6 (fun j e => .inr (by have := F4.out.size; omega)))
  have BF6 : Hid (Below w4.heap.size w4 w6) := hide2 ((f5.to (fun _ _ => id) (Nat.le_refl _)).trans (f6.to (fun j hj e => by omega) f5.size))
  have HY := hide2 hY
  have B6 := hide2 b6
  clear hHeld q1 q2 q3 q4 m1 m2 n20 f5 f6 b5 b6 T5 hw5 hY
  obtain ⟨i0, hi0, z0, z1, z2⟩ := info_parts infoH
  have hinfo : (Tryd.prog.info? 3).map (·.size) = some 1 := by rw [hi0]; simp [z1]
  have R6 := hrow_fr HR4.out (Fr.below (F := fun _ => False) BF6.out) (fun _ _ e => e)
  obtain ⟨tg, hta⟩ : ∃ tg, ta = some ⟨tg, 0, none⟩ := by
    obtain ⟨g', c', e', _⟩ := HR4.out.at (i := 0) (by omega)
    cases e'; exact ⟨g', rfl⟩
  subst hta
  have hcp := run_copy_row (P := Tryd.prog) w6 47 47 3 3 Y 18 8 8 ⟨tg, 0, none⟩ o.cs.length tcp (twL (tz o.k o.r)).toArray 74 (o.cs.map nv) Tryd.underlying47 hinfo B6.out (by rw [List.length_map]; exact (Nat.min_eq_left (by omega)).symm) (fun j v hv => by
    have hjl : j < o.cs.length := by have := (List.getElem?_eq_some_iff.1 hv).1; simpa using this
    rw [addr_add, Nat.zero_add, World.ownsRow.cellAt R6 _ (by omega)]; exact hv) (by show 18 + (o.cs.map nv).length ≤ 34; rw [List.length_map]; omega) (by intro u hu; obtain ⟨x, _, rfl⟩ := List.mem_map.1 hu; rfl)
  rw [tw_copied o.k o.r o.cs (by omega)] at hcp
  obtain ⟨w7, hw7⟩ : ∃ y, y = w6.setRow Y (twL (tcz o.k o.r o.cs 0)).toArray := ⟨_, rfl⟩
  rw [← hw7] at hcp
  have b7 : w7.heap[Y]? = some (.cells (twL (tcz o.k o.r o.cs 0)).toArray 74 (0, 0)) := by rw [hw7]; exact setRow_heap _ _ _ _ _ _ B6.out
  have B67 : Below w4.heap.size w6 w7 := by rw [hw7]; exact ⟨rfl, rfl, rfl, by simp, fun k hk => setRow_other _ _ _ _ (by have := HY.out; omega)⟩
  have bb7 : Below w4.heap.size w4 w7 := BF6.out.trans B67
  have h7 := H4.out.below bb7
  have o7 := O4.out.below bb7
  have bX7 : w7.heap[w.heap.size]? = some (.cells #[.int .i64 (i : Int), .int .u64 (num : Int)] 79 (0, 0)) := (bb7.block w.heap.size (Array.getElem?_eq_some_iff.1 BX4.out).1).trans BX4.out
  have x70 : w7.cell? ⟨w.heap.size, 0, none⟩ = some (.int .i64 (i : Int)) := by rw [Go.Joins.cell_of_block bX7]; rfl
  have x71 : w7.cell? ⟨w.heap.size, 1, none⟩ = some (.int .u64 (num : Int)) := by rw [Go.Joins.cell_of_block bX7]; rfl
  obtain ⟨first, hfirst⟩ : ∃ f, f = bh s i num 0 := ⟨_, rfl⟩
  have HBH : Hid (Calls Tryd.prog 55 #[.pointer (some ⟨lb, 0, none⟩), .agg #[.int .i64 (i : Int), .int .u64 (num : Int)], .int .i64 0] w7 fun e w' => e = .returned (.int .i64 (first : Int)) ∧ Below w7.heap.size w7 w') := hide2 (by rw [hfirst]; exact h7.behind (l := 0) hi (by decide) hnum)
  have H7 := hide2 h7
  have O7 := hide2 o7
  have BX7 := hide2 bX7
  have B7 := hide2 b7
  have BB7 := hide2 bb7
  have HFIRST := hide2 hfirst
  have hYl : Y < w7.heap.size := (Array.getElem?_eq_some_iff.1 b7).1
  have hXl : w.heap.size < w7.heap.size := (Array.getElem?_eq_some_iff.1 bX7).1
  clear h7 o7 bX7 b7 bb7 B67 R6 hfirst B6 hw7
  go_wp2_with fail
  clear hcp
  refine HBH.out.mono ?_
  rintro e w8 ⟨rfl, hb8⟩
  have b8 : w8.heap[Y]? = some (.cells (twL (tcz o.k o.r o.cs 0)).toArray 74 (0, 0)) := (hb8.block Y hYl).trans B7.out
  have y26 : w8.cell? ⟨Y, 26, none⟩ = some (.int .i64 0) := by rw [Go.Joins.cell_of_block b8]; rfl
  have y26f := Go.Joins.unfrozen_of_block b8 26
  obtain ⟨w9, hw9⟩ : ∃ y, y = w8.setCell ⟨Y, 26, none⟩ (.int .i64 (first : Int)) := ⟨_, rfl⟩
  have b9 : w9.heap[Y]? = some (.cells (twL (tcz o.k o.r o.cs first)).toArray 74 (0, 0)) := by rw [hw9, Go.Joins.block_setCell b8]; rfl
  have f9 : Fr (fun j => j = Y) w8 w9 := by rw [hw9]; exact Fr.setCell (p := ⟨Y, 26, none⟩) (Fr.refl (fun j => j = Y) w8) (.inl rfl) _
  have bb9 : Below w4.heap.size w4 w9 := (BB7.out.trans (hb8.mono BB7.out.size)).trans (f9.to (fun j hj e => by have := HY.out; omega) (by have := BB7.out.size; have := hb8.size; omega))
  have h9 := H4.out.below bb9
  have o9 := O4.out.below bb9
  have bX9 : w9.heap[w.heap.size]? = some (.cells #[.int .i64 (i : Int), .int .u64 (num : Int)] 79 (0, 0)) := (bb9.block w.heap.size (Array.getElem?_eq_some_iff.1 BX4.out).1).trans BX4.out
  have x90 : w9.cell? ⟨w.heap.size, 0, none⟩ = some (.int .i64 (i : Int)) := by rw [Go.Joins.cell_of_block bX9]; rfl
  have x91 : w9.cell? ⟨w.heap.size, 1, none⟩ = some (.int .u64 (num : Int)) := by rw [Go.Joins.cell_of_block bX9]; rfl
  have x92 := h9.lk.cells.2.1
  have hlen9 := h9.cap
  have hlb9 := h9.lk.lt
  have HLK : Hid (Calls Tryd.prog 62 #[.pointer (some ⟨lb, 0, none⟩), .agg #[.int .i64 (i : Int), .int .u64 (num : Int)], .int .i64 0, .int .i64 (s.tw.length : Int)] w9.drew fun e w' => e = .returned (.bool false) ∧ Lm w' K lb d g gt tc sv T (if false = true then N.set ((s.at i).cs 0) (s.tw.length : Int) else N) (m + 1) F s ∧ Fr (fun j => j = d ∨ j = g) w9 w') := hide2 (((h9.drewn 1).link (l := 0) hi (by decide) hnum (by omega) ht hm false HOK.out).mono (by
    rintro e w' ⟨rfl, q1, q2⟩
    exact ⟨rfl, q1, ((Fr.refl (fun j => j = d ∨ j = g) w9).drewN 1).trans q2 (fun j e => .inl e)⟩))
  have H9 := hide2 h9
  have O9 := hide2 o9
  have B9 := hide2 b9
  have BX9 := hide2 bX9
  have BB9 := hide2 bb9
  have hY9 : Y < w9.heap.size := (Array.getElem?_eq_some_iff.1 b9).1
  have hX9 : w.heap.size < w9.heap.size := (Array.getElem?_eq_some_iff.1 bX9).1
  clear h9 o9 b9 bX9 bb9 f9 hb8 b8 x70 x71 HBH H7 O7 B7 BX7 BB7 hYl hXl
  go_wp2_with fail
  try rw [← hw9]
  clear hw9 y26 y26f
  refine wp_region_noPanic ?_
  refine wp_region_held_drew (S := (fun u : World => u.cell? ⟨w.heap.size, 0, none⟩ = some (.int .i64 (i : Int)) ∧ u.cell? ⟨w.heap.size, 1, none⟩ = some (.int .u64 (num : Int)) ∧ u.cell? ⟨lb, 1, none⟩ = some (tvv gt s.tw.length tc))) (by kernel_rfl) (⟨x90, x91, x92⟩) (fun hHeld => ?_)
  refine wpAnyH_take (i := 0) (oi := { dst := some 60, op := _, type := _, pos := _, after := _, guard := _ }) (v := ?_) rfl (by kernel_rfl) (by kernel_rfl) (by kernel_rfl) (fun _ _ _ h => h) (Or.inl ⟨by rfl, ?_⟩) (by assumption) ?_
  rotate_left 1
  · intro u hSw; obtain ⟨s1, s2, s3⟩ := hSw; go_simp; try with_reducible rfl
  try simp only [Act.put, List.setIfInBounds_toArray, List.set_cons_zero, List.set_cons_succ]
  refine wpAnyH_take (i := 1) (oi := { dst := some 61, op := _, type := _, pos := _, after := _, guard := _ }) (v := ?_) rfl (by kernel_rfl) (by kernel_rfl) (by kernel_rfl) (fun _ _ _ h => h) (Or.inl ⟨by rfl, ?_⟩) (by assumption) ?_
  rotate_left 1
  · intro u hSw; obtain ⟨s1, s2, s3⟩ := hSw; go_simp; try with_reducible rfl
  try simp only [Act.put, List.setIfInBounds_toArray, List.set_cons_zero, List.set_cons_succ]
  refine wpAnyH_take (i := 2) (oi := { dst := some 62, op := _, type := _, pos := _, after := _, guard := _ }) (v := ?_) rfl (by kernel_rfl) (by kernel_rfl) (by kernel_rfl) (fun _ _ _ h => h) (Or.inl ⟨by rfl, ?_⟩) (by assumption) ?_
  rotate_left 1
  · intro u hSw; obtain ⟨s1, s2, s3⟩ := hSw; go_simp; try with_reducible rfl
  try simp only [Act.put, List.setIfInBounds_toArray, List.set_cons_zero, List.set_cons_succ]
  refine wpAnyH_take (i := 3) (oi := { dst := some 63, op := _, type := _, pos := _, after := _, guard := _ }) (v := ?_) rfl (by kernel_rfl) (by kernel_rfl) (by kernel_rfl) (fun _ _ _ h => h) (Or.inl ⟨by rfl, ?_⟩) (by assumption) ?_
  rotate_left 1
  · intro u hSw; obtain ⟨s1, s2, s3⟩ := hSw; go_simp; try with_reducible rfl
  try simp only [Act.put, List.setIfInBounds_toArray, List.set_cons_zero, List.set_cons_succ]
  refine wpAnyH_take (i := 4) (oi := { dst := some 64, op := _, type := _, pos := _, after := _, guard := _ }) (v := ?_) rfl (by kernel_rfl) (by kernel_rfl) (by kernel_rfl) (fun _ _ _ h => h) (Or.inl ⟨by rfl, ?_⟩) (by assumption) ?_
  rotate_left 1
  · intro u hSw; obtain ⟨s1, s2, s3⟩ := hSw; go_simp; try with_reducible rfl
  try simp only [Act.put, List.setIfInBounds_toArray, List.set_cons_zero, List.set_cons_succ]
  refine wpAnyH_take (i := 5) (oi := { dst := some 65, op := _, type := _, pos := _, after := _, guard := _ }) (v := ?_) rfl (by kernel_rfl) (by kernel_rfl) (by kernel_rfl) (fun _ _ _ h => h) (Or.inl ⟨by rfl, ?_⟩) (by assumption) ?_
  rotate_left 1
  · intro u hSw; obtain ⟨s1, s2, s3⟩ := hSw; go_simp; try with_reducible rfl
  try simp only [Act.put, List.setIfInBounds_toArray, List.set_cons_zero, List.set_cons_succ]
  refine wpAnyH_take (i := 6) (oi := { dst := some 66, op := _, type := _, pos := _, after := _, guard := _ }) (v := ?_) rfl (by kernel_rfl) (by kernel_rfl) (by kernel_rfl) (fun _ _ _ h => h) (Or.inl ⟨by rfl, ?_⟩) (by assumption) ?_
  rotate_left 1
  · intro u hSw; obtain ⟨s1, s2, s3⟩ := hSw; go_simp; try with_reducible rfl
  try simp only [Act.put, List.setIfInBounds_toArray, List.set_cons_zero, List.set_cons_succ]
  refine wpAnyH_ready (rs := [7]) (by kernel_rfl) (by simp) ?_
  refine AllReadyH.cons (o := { dst := some 67, op := _, type := _, pos := _, after := _, guard := _ }) rfl (fun Kq hK => ?_) AllReadyH.nil
  obtain ⟨s1, s2, s3⟩ := hHeld
  go_simp
  refine HLK.out.mono ?_
  rintro e w10 ⟨rfl, h10, f10⟩
  have f10K : Fr K w9 w10 := f10.mono (fun j _ e => H.out.kk j (by rcases e with e | e <;> simp [e]))
  have hXK : ¬ K w.heap.size := fun e => by have := H.out.kl w.heap.size e; have := HXX.out; omega
  have hYK : ¬ K Y := fun e => by have := H.out.kl Y e; have := HY.out; have := F4.out.size; omega
  have o10 := O9.out.keep f10K (fun j hB hK => HKB.out j hK hB)
  have g90 := (f10K.cell (p := ⟨w.heap.size, 0, none⟩) hX9 hXK).trans x90
  have g91 := (f10K.cell (p := ⟨w.heap.size, 1, none⟩) hX9 hXK).trans x91
  have g92 := h10.lk.cells.2.1
  have b10 : w10.heap[Y]? = some (.cells (twL (tcz o.k o.r o.cs first)).toArray 74 (0, 0)) := (f10K.block Y hY9 hYK).trans B9.out
  have H10 := hide2 h10
  have O10 := hide2 o10
  have B10 := hide2 b10
  have HTR : Hid (Hr w10 0 (.slice (some ⟨tg, 0, none⟩) o.cs.length tcp) o.cs) := hide2 (hrow_fr (hrow_fr HR4.out (Fr.below (F := fun _ => False) BB9.out) (fun _ _ e => e)) f10K (fun j e => (HTV.out j e).1))
  have F10 : Hid (Fr (fun j => K j ∨ B j) w w10) := hide2 (((F4.out.mono (G := fun j => K j ∨ B j) (fun j _ e => .inr e)).trans (Fr.below (F := fun _ => False) BB9.out) (fun j e => e.elim)).trans f10K (fun j e => .inl (.inl e)))
  clear h10 o10 b10 f10 f10K
  go_wp2_with fail
  refine hK.out _ _ (⟨g90, g91, g92⟩) (fun hHeld => ?_)
  clear hK Kq
  try simp only [Act.put, List.setIfInBounds_toArray, List.set_cons_zero, List.set_cons_succ]
  refine wpAnyH_take (i := 8) (oi := { dst := some 68, op := _, type := _, pos := _, after := _, guard := _ }) (v := ?_) rfl (by kernel_rfl) (by kernel_rfl) (by kernel_rfl) (fun _ _ _ h => h) (Or.inl ⟨by rfl, ?_⟩) (by assumption) ?_
  rotate_left 1
  · intro u hSw; obtain ⟨s1, s2, s3⟩ := hSw; go_simp; try with_reducible rfl
  try simp only [Act.put, List.setIfInBounds_toArray, List.set_cons_zero, List.set_cons_succ]
  refine wpAnyH_done (by kernel_rfl) ?_ _
  refine NoPanic.normal ?_
  clear hHeld x90 x91 x92 HLK H9 O9 B9 BX9
  go_wp2
  exact bodyPost_ret (results_none (by rfl) _ _ _) rfl ⟨rfl, _, H10.out, O10.out, F10.out⟩
end
end Go.Proofs.YtmcfonekajieeaaDoor
