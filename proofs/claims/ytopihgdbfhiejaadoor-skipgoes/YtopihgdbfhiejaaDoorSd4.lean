/-
  Sd4: put: an operation takes a cell for its tower, or puts it in. (Printed by gen_sd.py.)
  Sd5: giveBack: a cell that was taken in vain. (Printed by gen_sd5.py.)
  Sg4: refuse, of a text that is no key.
  Sh6: An Insert that finds too few cells; done, whatever the operation.
-/
import Derived.Test.YtopihgdbfhiejaaDoorSd1
import Derived.Laws.Tables
import Derived.Test.YtopihgdbfhiejaaDoorSg1
import Derived.Test.YtopihgdbfhiejaaDoorSh1
set_option linter.unusedVariables false
set_option linter.unusedSimpArgs false
namespace Go.Proofs.YtopihgdbfhiejaaDoor

section
open Go.RowKit Go.Maps

section
variable {w w' : World} {K B : Nat → Prop} {lb d g gt tc : Nat} {sv : Value} {T : List Bool} {N : List Int} {m : Int} {F : List Nat} {s : Sl} {ob : Nat} {cv : Value} {o : Opm}

set_option maxRecDepth 100000 in
set_option maxHeartbeats 8000000 in
theorem put_full (h : Lm w K lb d g gt tc sv T N m F s) (ho : Ob w B ob lb cv o) (hKB : ∀ j, K j → ¬ B j) (hcs : ∀ c ∈ o.cs, c ∈ s.sp) {l i num : Nat} (hl0 : l = 0) (hpt : o.pt l = i) (hpn : o.pn l = num) (hl2 : s.sp.length ≤ 100000) (hl3 : o.cs.length ≤ 100000) (hh : o.cs.length < o.h) (hh8 : 1 ≤ o.h ∧ o.h ≤ 8) (hall : ∀ c ∈ s.sp, c ∈ o.cs) (hf : T.count true = T.length) :
    Calls Tryd.prog 44 #[.pointer (some ⟨ob, 0, none⟩)] w fun e w' => e = .returned (.tuple #[]) ∧ ∃ cv', Lm w' K lb d g gt tc sv T N m F s ∧ Ob w' B ob lb cv' { o with st := 1, full := true } ∧ Fr (fun j => K j ∨ B j) w w' := by
  have c := ho.om.cells
  have p1 := c.1
  have p2 := c.2.2.2.2.2.1
  have p3 : w.cell? ⟨ob, 23 + l * 2, none⟩ = some (.int .i64 (i : Int)) := by have := ho.om.ptAt (l := l) (by omega); rw [hpt] at this; exact this
  have p4 : w.cell? ⟨ob, 23 + l * 2 + 1, none⟩ = some (.int .u64 (num : Int)) := by have := ho.om.pnAt (l := l) (by omega); rw [hpn] at this; exact this
  have hob := ho.om.lt
  have H := hide2 h
  have HO := hide2 ho
  have HKB := hide2 hKB
  have HCS := hide2 hcs
  have HPT := hide2 hpt
  have HPN := hide2 hpn
  subst hl0
  simp only [Nat.zero_mul, Nat.add_zero] at p3 p4
  have hci : (o.cs.length : Int) < (o.h : Int) := by omega
  have HH := hide2 hh
  have HALL := hide2 hall
  have HF := hide2 hf
  clear hh hall hf
  clear c h ho hKB hcs hpt hpn
  go_enter Tryd.func44, Tryd.ntmps44
  go_wp2_with fail
  refine wp_region_noPanic ?_
  refine wp_region_held_drew (S := (fun u : World => u.cell? ⟨ob, 0, none⟩ = some (lpp lb) ∧ u.cell? ⟨ob, 22, none⟩ = some (.int .i64 (o.lv : Int)) ∧ u.cell? ⟨ob, 23, none⟩ = some (.int .i64 (i : Int)) ∧ u.cell? ⟨ob, 23 + 1, none⟩ = some (.int .u64 (num : Int)))) (by kernel_rfl) (⟨p1, p2, p3, p4⟩) (fun hHeld => ?_)
  refine wpAnyH_take (i := 0) (oi := { dst := some 6, op := _, type := _, pos := _, after := _, guard := _ }) (v := ?_) rfl (by kernel_rfl) (by kernel_rfl) (by kernel_rfl) (fun _ _ _ h => h) (Or.inl ⟨by rfl, ?_⟩) (by assumption) ?_
  rotate_left 1
  · intro u hSw; obtain ⟨s1, s2, s3, s4⟩ := hSw; go_simp; try with_reducible rfl
  try simp only [Act.put, List.setIfInBounds_toArray, List.set_cons_zero, List.set_cons_succ]
  refine wpAnyH_take (i := 1) (oi := { dst := some 7, op := _, type := _, pos := _, after := _, guard := _ }) (v := ?_) rfl (by kernel_rfl) (by kernel_rfl) (by kernel_rfl) (fun _ _ _ h => h) (Or.inl ⟨by rfl, ?_⟩) (by assumption) ?_
  rotate_left 1
  · intro u hSw; obtain ⟨s1, s2, s3, s4⟩ := hSw; go_simp; try with_reducible rfl
  try simp only [Act.put, List.setIfInBounds_toArray, List.set_cons_zero, List.set_cons_succ]
  refine wpAnyH_take (i := 2) (oi := { dst := some 8, op := _, type := _, pos := _, after := _, guard := _ }) (v := ?_) rfl (by kernel_rfl) (by kernel_rfl) (by kernel_rfl) (fun _ _ _ h => h) (Or.inl ⟨by rfl, ?_⟩) (by assumption) ?_
  rotate_left 1
  · intro u hSw; obtain ⟨s1, s2, s3, s4⟩ := hSw; go_simp; try with_reducible rfl
  try simp only [Act.put, List.setIfInBounds_toArray, List.set_cons_zero, List.set_cons_succ]
  refine wpAnyH_take (i := 3) (oi := { dst := some 9, op := _, type := _, pos := _, after := _, guard := _ }) (v := ?_) rfl (by kernel_rfl) (by kernel_rfl) (by kernel_rfl) (fun _ _ _ h => h) (Or.inl ⟨by rfl, ?_⟩) (by assumption) ?_
  rotate_left 1
  · intro u hSw; obtain ⟨s1, s2, s3, s4⟩ := hSw; go_simp; try with_reducible rfl
  try simp only [Act.put, List.setIfInBounds_toArray, List.set_cons_zero, List.set_cons_succ]
  refine wpAnyH_take (i := 4) (oi := { dst := some 10, op := _, type := _, pos := _, after := _, guard := _ }) (v := ?_) rfl (by kernel_rfl) (by kernel_rfl) (by kernel_rfl) (fun _ _ _ h => h) (Or.inl ⟨by rfl, ?_⟩) (by assumption) ?_
  rotate_left 1
  · intro u hSw; obtain ⟨s1, s2, s3, s4⟩ := hSw; go_simp; try with_reducible rfl
  try simp only [Act.put, List.setIfInBounds_toArray, List.set_cons_zero, List.set_cons_succ]
  refine wpAnyH_take (i := 5) (oi := { dst := some 11, op := _, type := _, pos := _, after := _, guard := _ }) (v := ?_) rfl (by kernel_rfl) (by kernel_rfl) (by kernel_rfl) (fun _ _ _ h => h) (Or.inl ⟨by rfl, ?_⟩) (by assumption) ?_
  rotate_left 1
  · intro u hSw; obtain ⟨s1, s2, s3, s4⟩ := hSw; go_simp; try with_reducible rfl
  try simp only [Act.put, List.setIfInBounds_toArray, List.set_cons_zero, List.set_cons_succ]
  refine wpAnyH_take (i := 6) (oi := { dst := some 12, op := _, type := _, pos := _, after := _, guard := _ }) (v := ?_) rfl (by kernel_rfl) (by kernel_rfl) (by kernel_rfl) (fun _ _ _ h => h) (Or.inl ⟨by rfl, ?_⟩) (by assumption) ?_
  rotate_left 1
  · intro u hSw; obtain ⟨s1, s2, s3, s4⟩ := hSw; go_simp; try with_reducible rfl
  try simp only [Act.put, List.setIfInBounds_toArray, List.set_cons_zero, List.set_cons_succ]
  refine wpAnyH_take (i := 7) (oi := { dst := some 13, op := _, type := _, pos := _, after := _, guard := _ }) (v := ?_) rfl (by kernel_rfl) (by kernel_rfl) (by kernel_rfl) (fun _ _ _ h => h) (Or.inl ⟨by rfl, ?_⟩) (by assumption) ?_
  rotate_left 1
  · intro u hSw; obtain ⟨s1, s2, s3, s4⟩ := hSw; go_simp; try with_reducible rfl
  try simp only [Act.put, List.setIfInBounds_toArray, List.set_cons_zero, List.set_cons_succ]
  refine wpAnyH_take (i := 8) (oi := { dst := some 14, op := _, type := _, pos := _, after := _, guard := _ }) (v := ?_) rfl (by kernel_rfl) (by kernel_rfl) (by kernel_rfl) (fun _ _ _ h => h) (Or.inl ⟨by rfl, ?_⟩) (by assumption) ?_
  rotate_left 1
  · intro u hSw; obtain ⟨s1, s2, s3, s4⟩ := hSw; go_simp; try with_reducible rfl
  try simp only [Act.put, List.setIfInBounds_toArray, List.set_cons_zero, List.set_cons_succ]
  obtain ⟨wa, hwa⟩ : ∃ y, y = (w.alloc (.cells #[.int .i64 0, .int .u64 0] 79)).drew := ⟨_, rfl⟩
  have fa : Fr (fun _ => False) w wa := by rw [hwa]; exact ((Fr.refl _ w).alloc _).drewN 1
  obtain ⟨X, hX⟩ : ∃ y, y = w.heap.size := ⟨_, rfl⟩
  have ba : wa.heap[X]? = some (.cells #[.int .i64 0, .int .u64 0] 79 (0, 0)) := by rw [hwa, hX]; exact heap_alloc_new w _
  have hXob : ¬ X = ob := by omega
  have k0 : wa.cell? ⟨X, 0, none⟩ = some (.int .i64 0) := by rw [Go.Joins.cell_of_block ba]; rfl
  have k1 : wa.cell? ⟨X, 1, none⟩ = some (.int .u64 0) := by rw [Go.Joins.cell_of_block ba]; rfl
  have kf0 := Go.Joins.unfrozen_of_block ba 0
  have kf1 := Go.Joins.unfrozen_of_block ba 1
  have a1 := (fa.cell (p := ⟨ob, 0, none⟩) hob (fun e => e)).trans p1
  have a2 := (fa.cell (p := ⟨ob, 22, none⟩) hob (fun e => e)).trans p2
  have a3 := (fa.cell (p := ⟨ob, 23, none⟩) hob (fun e => e)).trans p3
  have a4 := (fa.cell (p := ⟨ob, 23 + 1, none⟩) hob (fun e => e)).trans p4
  refine wpAnyH_ready (rs := [9]) (by kernel_rfl) (by simp) ?_
  refine AllReadyH.cons (o := { dst := some 3, op := _, type := _, pos := _, after := _, guard := _ }) rfl (fun Kq hK => ?_) AllReadyH.nil
  clear hHeld
  go_simp
  go_wp2_with fail
  try rw [← hwa]
  try rw [← hX]
  refine hK.out _ _ (⟨a1, a2, a3, a4⟩) (fun hHeld => ?_)
  clear hK Kq
  try simp only [Act.put, List.setIfInBounds_toArray, List.set_cons_zero, List.set_cons_succ]
  refine wpAnyH_take (i := 10) (oi := { dst := some 2, op := _, type := _, pos := _, after := _, guard := _ }) (v := ?_) rfl (by kernel_rfl) (by kernel_rfl) (by kernel_rfl) (fun _ _ _ h => h) (Or.inl ⟨by rfl, ?_⟩) (by assumption) ?_
  rotate_left 1
  · intro u hSw; obtain ⟨s1, s2, s3, s4⟩ := hSw; go_simp; try with_reducible rfl
  try simp only [Act.put, List.setIfInBounds_toArray, List.set_cons_zero, List.set_cons_succ]
  obtain ⟨w1, hw1⟩ : ∃ y, y = (w.alloc (.cells #[.int .i64 (i : Int), .int .u64 (num : Int)] 79)).drew := ⟨_, rfl⟩
  have b1 : w1.heap[X]? = some (.cells #[.int .i64 (i : Int), .int .u64 (num : Int)] 79 (0, 0)) := by rw [hw1, hX]; exact heap_alloc_new w _
  have f1 : Fr (fun _ => False) w w1 := by rw [hw1]; exact ((Fr.refl _ w).alloc _).drewN 1
  have B1 : Hid (Below w.heap.size w w1) := hide2 (f1.to (fun _ _ => id) (Nat.le_refl _))
  have e1 := (f1.cell (p := ⟨ob, 0, none⟩) hob (fun e => e)).trans p1
  have e2 := (f1.cell (p := ⟨ob, 22, none⟩) hob (fun e => e)).trans p2
  have e3 := (f1.cell (p := ⟨ob, 23, none⟩) hob (fun e => e)).trans p3
  have e4 := (f1.cell (p := ⟨ob, 23 + 1, none⟩) hob (fun e => e)).trans p4
  refine wpAnyH_ready (rs := [11]) (by kernel_rfl) (by simp) ?_
  refine AllReadyH.cons (o := { dst := none, op := _, type := _, pos := _, after := _, guard := _ }) rfl (fun Kq hK => ?_) AllReadyH.nil
  clear hHeld
  go_simp
  go_wp2_with fail
  try rw [← hw1]
  refine hK.out _ _ (⟨e1, e2, e3, e4⟩) (fun hHeld => ?_)
  clear hK Kq
  try simp only [Act.put, List.setIfInBounds_toArray, List.set_cons_zero, List.set_cons_succ]
  refine wpAnyH_done (by kernel_rfl) ?_ _
  refine NoPanic.normal ?_
  have HXX := hide2 hX
  clear hX
  have BX := hide2 b1
  have hXe : X = w.heap.size := HXX.out
  subst hXe
  clear hHeld p1 p2 p3 p4 a1 a2 a3 a4 e1 e2 e3 e4 k0 k1 kf0 kf1 ba fa f1 hwa hw1 b1
  have h1 := H.out.below B1.out
  have o1 := HO.out.below B1.out
  have g1 := o1.om.cells.2.2.2.1
  have hob1 := o1.om.lt
  have HOW : Hid (Calls Tryd.prog 59 #[.pointer (some ⟨ob, 0, none⟩)] w1.drew fun e w' => ∃ cv', e = .returned cv' ∧ Lm w' K lb d g gt tc sv T N m F s ∧ Ob w' B ob lb cv' o ∧ Fr B w1 w') := hide2 (by
    have q := own_any (h1.drewn 1) (o1.drewn 1) HKB.out (by omega)
    rw [owned_all HCS.out] at q
    refine q.mono ?_
    rintro e w' ⟨cv', rfl, q1, q2, q3⟩
    exact ⟨cv', rfl, q1, q2, ((Fr.refl B w1).drewN 1).trans q3 (fun j e => .inl e)⟩)
  clear h1 o1
  go_wp2
  refine wp_region_noPanic ?_
  refine wp_region_held_drew (S := (fun u : World => u.cell? ⟨ob, 20, none⟩ = some (.int .i64 (o.h : Int)))) (by kernel_rfl) (g1) (fun hHeld => ?_)
  refine wpAnyH_take (i := 0) (oi := { dst := some 15, op := _, type := _, pos := _, after := _, guard := _ }) (v := ?_) rfl (by kernel_rfl) (by kernel_rfl) (by kernel_rfl) (fun _ _ _ h => h) (Or.inl ⟨by rfl, ?_⟩) (by assumption) ?_
  rotate_left 1
  · intro u hSw; obtain s1 := hSw; go_simp; try with_reducible rfl
  try simp only [Act.put, List.setIfInBounds_toArray, List.set_cons_zero, List.set_cons_succ]
  refine wpAnyH_take (i := 3) (oi := { dst := some 18, op := _, type := _, pos := _, after := _, guard := _ }) (v := ?_) rfl (by kernel_rfl) (by kernel_rfl) (by kernel_rfl) (fun _ _ _ h => h) (Or.inl ⟨by rfl, ?_⟩) (by assumption) ?_
  rotate_left 1
  · intro u hSw; obtain s1 := hSw; go_simp; try with_reducible rfl
  try simp only [Act.put, List.setIfInBounds_toArray, List.set_cons_zero, List.set_cons_succ]
  refine wpAnyH_take (i := 4) (oi := { dst := some 19, op := _, type := _, pos := _, after := _, guard := _ }) (v := ?_) rfl (by kernel_rfl) (by kernel_rfl) (by kernel_rfl) (fun _ _ _ h => h) (Or.inl ⟨by rfl, ?_⟩) (by assumption) ?_
  rotate_left 1
  · intro u hSw; obtain s1 := hSw; go_simp; try with_reducible rfl
  try simp only [Act.put, List.setIfInBounds_toArray, List.set_cons_zero, List.set_cons_succ]
  refine wpAnyH_take (i := 5) (oi := { dst := some 20, op := _, type := _, pos := _, after := _, guard := _ }) (v := ?_) rfl (by kernel_rfl) (by kernel_rfl) (by kernel_rfl) (fun _ _ _ h => h) (Or.inl ⟨by rfl, ?_⟩) (by assumption) ?_
  rotate_left 1
  · intro u hSw; obtain s1 := hSw; go_simp; try with_reducible rfl
  try simp only [Act.put, List.setIfInBounds_toArray, List.set_cons_zero, List.set_cons_succ]
  refine wpAnyH_take (i := 6) (oi := { dst := some 21, op := _, type := _, pos := _, after := _, guard := _ }) (v := ?_) rfl (by kernel_rfl) (by kernel_rfl) (by kernel_rfl) (fun _ _ _ h => h) (Or.inl ⟨by rfl, ?_⟩) (by assumption) ?_
  rotate_left 1
  · intro u hSw; obtain s1 := hSw; go_simp; try with_reducible rfl
  try simp only [Act.put, List.setIfInBounds_toArray, List.set_cons_zero, List.set_cons_succ]
  refine wpAnyH_ready (rs := [1]) (by kernel_rfl) (by simp) ?_
  refine AllReadyH.cons (o := { dst := some 16, op := _, type := _, pos := _, after := _, guard := _ }) rfl (fun Kq hK => ?_) AllReadyH.nil
  obtain s1 := hHeld
  go_simp
  refine HOW.out.mono ?_
  rintro e w2 ⟨cv2, rfl, h2, o2, f2⟩
  obtain ⟨ca, cn, cc, ec⟩ : ∃ a n c, cv2 = Value.slice a n c := by obtain ⟨a, c, e⟩ := o2.row.form; exact ⟨a, _, c, e⟩
  have hcn : cn = o.cs.length := by obtain ⟨a, c, e⟩ := o2.row.form; rw [ec] at e; cases e; rfl
  have g2 := o2.om.cells.2.2.2.1
  have bX2 : w2.heap[w.heap.size]? = some (.cells #[.int .i64 (i : Int), .int .u64 (num : Int)] 79 (0, 0)) := (f2.block w.heap.size (Array.getElem?_eq_some_iff.1 BX.out).1 (fun e => by have := HO.out.kl w.heap.size e; have := HXX.out; omega)).trans BX.out
  have BX2 := hide2 bX2
  have H2 := hide2 h2
  have O2 := hide2 o2
  have F2 : Hid (Fr B w w2) := hide2 ((Fr.below (F := B) B1.out).trans f2 (fun j e => .inl e))
  have hob2 := o2.om.lt
  subst ec
  subst hcn
  clear h2 o2 f2 bX2
  go_wp2_with fail
  refine hK.out _ _ (g2) (fun hHeld => ?_)
  clear hK Kq
  try simp only [Act.put, List.setIfInBounds_toArray, List.set_cons_zero, List.set_cons_succ]
  refine wpAnyH_take (i := 2) (oi := { dst := some 17, op := _, type := _, pos := _, after := _, guard := _ }) (v := ?_) rfl (by kernel_rfl) (by kernel_rfl) (by kernel_rfl) (fun _ _ _ h => h) (Or.inl ⟨by rfl, ?_⟩) (by assumption) ?_
  rotate_left 1
  · intro u hSw; obtain s1 := hSw; go_simp; try with_reducible rfl
  try simp only [Act.put, List.setIfInBounds_toArray, List.set_cons_zero, List.set_cons_succ]
  refine wpAnyH_take (i := 7) (oi := { dst := some 22, op := _, type := _, pos := _, after := _, guard := _ }) (v := ?_) rfl (by kernel_rfl) (by kernel_rfl) (by kernel_rfl) (fun _ _ _ h => h) (Or.inl ⟨by rfl, ?_⟩) (by assumption) ?_
  rotate_left 1
  · intro u hSw; obtain s1 := hSw; go_simp; try with_reducible rfl
  try simp only [Act.put, List.setIfInBounds_toArray, List.set_cons_zero, List.set_cons_succ]
  refine wpAnyH_take (i := 8) (oi := { dst := some 23, op := _, type := _, pos := _, after := _, guard := _ }) (v := ?_) rfl (by kernel_rfl) (by kernel_rfl) (by kernel_rfl) (fun _ _ _ h => h) (Or.inl ⟨by rfl, ?_⟩) (by assumption) ?_
  rotate_left 1
  · intro u hSw; obtain s1 := hSw; go_simp; try with_reducible rfl
  try simp only [Act.put, List.setIfInBounds_toArray, List.set_cons_zero, List.set_cons_succ]
  refine wpAnyH_take (i := 9) (oi := { dst := some 24, op := _, type := _, pos := _, after := _, guard := _ }) (v := ?_) rfl (by kernel_rfl) (by kernel_rfl) (by kernel_rfl) (fun _ _ _ h => h) (Or.inl ⟨by rfl, ?_⟩) (by assumption) ?_
  rotate_left 1
  · intro u hSw; obtain s1 := hSw; go_simp; try with_reducible rfl
  try simp only [Act.put, List.setIfInBounds_toArray, List.set_cons_zero, List.set_cons_succ]
  have HTK := hide2 (take_full H2.out O2.out HF.out)
  refine wpAnyH_ready (rs := [10]) (by kernel_rfl) (by simp) ?_
  refine AllReadyH.cons (o := { dst := some 25, op := _, type := _, pos := _, after := _, guard := _ }) rfl (fun Kq hK => ?_) AllReadyH.nil
  obtain s1 := hHeld
  go_simp
  refine HTK.out.mono ?_
  rintro e wn ⟨rfl, q, hq⟩
  have hn : Lm wn K lb d g gt tc sv T N m F s := by rw [hq]; exact H2.out.drewn q
  have on : Ob wn B ob lb (.slice ca o.cs.length cc) o := by rw [hq]; exact O2.out.drewn q
  have Fn : Hid (Fr B w wn) := hide2 (by rw [hq]; exact F2.out.drewN q)
  have Hn := hide2 hn
  have On := hide2 on
  have g3 := on.om.cells.2.2.2.1
  have hobn := on.om.lt
  clear hn on hq
  go_wp2_with fail
  refine hK.out _ _ (g3) (fun hHeld => ?_)
  clear hK Kq
  try simp only [Act.put, List.setIfInBounds_toArray, List.set_cons_zero, List.set_cons_succ]
  refine wpAnyH_take (i := 11) (oi := { dst := some 26, op := _, type := _, pos := _, after := _, guard := _ }) (v := ?_) rfl (by kernel_rfl) (by kernel_rfl) (by kernel_rfl) (fun _ _ _ h => h) (Or.inl ⟨by rfl, ?_⟩) (by assumption) ?_
  rotate_left 1
  · intro u hSw; obtain s1 := hSw; go_simp; try with_reducible rfl
  try simp only [Act.put, List.setIfInBounds_toArray, List.set_cons_zero, List.set_cons_succ]
  refine wpAnyH_done (by kernel_rfl) ?_ _
  refine NoPanic.normal ?_
  have x3 : Ob (wn.setCell ⟨ob, 21, none⟩ (.int .i64 1)) B ob lb (.slice ca o.cs.length cc) { o with st := 1 } ∧ Fr B wn (wn.setCell ⟨ob, 21, none⟩ (.int .i64 1)) := On.out.put1 (On.out.om.setSt 1) rfl
  obtain ⟨w3, hw3⟩ : ∃ y, y = wn.setCell ⟨ob, 21, none⟩ (.int .i64 1) := ⟨_, rfl⟩
  rw [← hw3] at x3
  have h3 := Hn.out.keep x3.2 HKB.out HO.out.b0
  have r21 := On.out.om.cells.2.2.2.2.1
  have r21f := On.out.om.free 21
  have HEN := hide2 (enough_any h3 x3.1 HKB.out HCS.out (by omega) (by show o.cs.length ≤ _; omega) (by show o.h ≤ _; omega))
  have F3 : Hid (Fr B w w3) := hide2 (Fn.out.trans x3.2 (fun j e => .inl e))
  clear h3 x3 hHeld g1 g2 g3
  go_wp2_with fail
  try rw [← hw3]
  clear hw3 r21 r21f
  refine HEN.out.mono ?_
  rintro e w4 ⟨cv4, tv, xs, rfl, hr4, htv, hxs, h4, o4, f4⟩
  have hx0 : xs = [] := by
    rcases xs with _ | ⟨x, xs⟩
    · rfl
    · have := hxs x (by simp)
      exact absurd (HALL.out x this.1) this.2
  have htk : (o.cs ++ xs).take o.h = o.cs := by rw [hx0, List.append_nil, List.take_of_length_le (by have := HH.out; omega)]
  have hr4' : Hr w4 0 tv o.cs := by rw [← htk]; exact hr4
  obtain ⟨ta, tn, tcp, et⟩ : ∃ a n c, tv = Value.slice a n c := by obtain ⟨a, c, e⟩ := hr4'.form; exact ⟨a, _, c, e⟩
  have htn : tn = o.cs.length := by obtain ⟨a, c, e⟩ := hr4'.form; rw [et] at e; cases e; rfl
  subst et
  subst htn
  have O4 := hide2 o4
  have H4 := hide2 h4
  have F4 : Hid (Fr B w w4) := hide2 (F3.out.trans f4 (fun j e => .inl e))
  have n20 := o4.om.cells.2.2.2.1
  have n40 := o4.om.cells.2.2.2.2.2.2.2.1
  have n40f := o4.om.free 40
  have x5 : Ob (w4.setCell ⟨ob, 40, none⟩ (.bool true)) B ob lb cv4 { o with st := 1, full := true } ∧ Fr B w4 (w4.setCell ⟨ob, 40, none⟩ (.bool true)) := o4.put1 (o4.om.setFull true) rfl
  have X5 := hide2 x5
  have dlt : (o.cs.length : Int) < (o.h : Int) := by have := HH.out; omega
  have dltN : o.cs.length < o.h := HH.out
  have dltL : ¬ o.h ≤ o.cs.length := by have := HH.out; omega
  clear hr4 hr4' htv h4 o4 f4 htk hxs HEN F3 hx0 x5
  go_wp2
  exact bodyPost_ret (results_none (by rfl) _ _ _) rfl ⟨rfl, _, H4.out.keep X5.out.2 HKB.out HO.out.b0, X5.out.1, (F4.out.trans X5.out.2 (fun j e => .inl e)).mono (fun j _ e => .inr e)⟩
end
end

section
open Go.RowKit Go.Maps

section
variable {w w' : World} {K B : Nat → Prop} {lb d g gt tc : Nat} {sv : Value} {T : List Bool} {N : List Int} {m : Int} {F : List Nat} {s : Sl} {ob : Nat} {cv : Value} {o : Opm}
theorem owned_less {c : Nat} {rest : List Nat} (ec : o.cs = c :: rest) (hnd : o.cs.Nodup) (hcs : ∀ c ∈ o.cs, c ∈ s.sp) : o.owned (s.less [c]) = { o with cs := rest } := by
  unfold Opm.owned Sl.less
  rw [ec] at hnd hcs ⊢
  have h1 := List.nodup_cons.1 hnd
  have e1 : (c :: rest).filter (fun x => (s.sp.filter fun c' => !([c].contains c')).contains x) = rest := by
    rw [List.filter_cons, if_neg (by simp)]
    refine List.filter_eq_self.2 (fun x hx => ?_)
    have h2 : x ≠ c := fun e => h1.1 (e ▸ hx)
    have h3 := hcs x (by simp [hx])
    simp [h2, h3]
  rw [e1]

set_option maxRecDepth 100000 in
set_option maxHeartbeats 8000000 in
theorem giveBack_any (h : Lm w K lb d g gt tc sv T N m F s) (ho : Ob w B ob lb cv o) (hKB : ∀ j, K j → ¬ B j) (hcs : ∀ c ∈ o.cs, c ∈ s.sp) {c : Nat} {rest : List Nat} (ec : o.cs = c :: rest) (hnd : o.cs.Nodup) (hl2 : s.sp.length ≤ 100000) (hl3 : o.cs.length ≤ 100000) (ht : tk T c = true) :
    Calls Tryd.prog 46 #[.pointer (some ⟨ob, 0, none⟩)] w fun e w' => e = .returned (.tuple #[]) ∧ ∃ sv' cv', Lm w' K lb d g gt tc sv' (T.set c false) N m (flip F c) (s.less [c]) ∧ Ob w' B ob lb cv' { o with cs := rest, st := if rest.length = 0 then 5 else o.st } ∧ Fr (fun j => K j ∨ B j) w w' := by
  have hown := own_any h ho hKB (by omega)
  rw [owned_all hcs] at hown
  have HOW := hide2 hown
  have HL := hide2 h
  have HO := hide2 ho
  have HKB := hide2 hKB
  have HOL := hide2 (owned_less ec hnd hcs)
  have hlen : 0 < o.cs.length := by rw [ec]; simp
  have hg0 : o.cs.getD 0 0 = c := by rw [ec]; rfl
  obtain ⟨L, hL⟩ : ∃ L, L = o.cs.length := ⟨_, rfl⟩
  have hrl : rest.length + 1 = L := by rw [hL, ec]; simp
  have hL0 : (0 : Int) < (L : Int) := by omega
  have hL1 : ¬ L = 0 := by omega
  have hL2 : 0 < L := by omega
  have HLL := hide2 hL
  have HG0 := hide2 hg0
  have HT := hide2 ht
  clear h ho hKB hcs ec hnd hown hg0 ht
  go_enter Tryd.func46, Tryd.ntmps46
  go_wp2_with fail
  refine HOW.out.mono ?_
  rintro e w1 ⟨cv1, rfl, h1, o1, f1⟩
  obtain ⟨cb, cc, ev, hx⟩ := o1.row.at (i := 0) hlen
  rw [HG0.out] at hx
  rw [← HLL.out] at ev
  subst ev
  have c1 := o1.om.cells.1
  have c2 := h1.lk.cells.1
  have HF := hide2 (Free_in (h1.drewn 1).aw c HT.out)
  have H1 := hide2 h1
  have O1 := hide2 o1
  have F1 := hide2 f1
  have hob1 := o1.om.lt
  have hlb1 := h1.lk.lt
  have hcb : Hid (B cb) := hide2 (o1.kk cb (.inr rfl))
  clear h1 o1 f1 HOW hL hlen
  go_wp2
  refine wp_region_noPanic ?_
  refine wp_region_held_drew (S := (fun u : World => u.cell? ⟨ob, 0, none⟩ = some (lpp lb) ∧ u.cell? ⟨lb, 0, none⟩ = some (.pointer (some ⟨d, 0, none⟩)) ∧ u.cell? ⟨cb, 0, none⟩ = some (.int .i64 (c : Int)))) (by kernel_rfl) (⟨c1, c2, hx⟩) (fun hHeld => ?_)
  refine wpAnyH_take (i := 0) (oi := { dst := some 8, op := _, type := _, pos := _, after := _, guard := _ }) (v := ?_) rfl (by kernel_rfl) (by kernel_rfl) (by kernel_rfl) (fun _ _ _ h => h) (Or.inl ⟨by rfl, ?_⟩) (by assumption) ?_
  rotate_left 1
  · intro u hSw; obtain ⟨s1, s2, s3⟩ := hSw; go_simp; try with_reducible rfl
  try simp only [Act.put, List.setIfInBounds_toArray, List.set_cons_zero, List.set_cons_succ]
  refine wpAnyH_take (i := 1) (oi := { dst := some 9, op := _, type := _, pos := _, after := _, guard := _ }) (v := ?_) rfl (by kernel_rfl) (by kernel_rfl) (by kernel_rfl) (fun _ _ _ h => h) (Or.inl ⟨by rfl, ?_⟩) (by assumption) ?_
  rotate_left 1
  · intro u hSw; obtain ⟨s1, s2, s3⟩ := hSw; go_simp; try with_reducible rfl
  try simp only [Act.put, List.setIfInBounds_toArray, List.set_cons_zero, List.set_cons_succ]
  refine wpAnyH_take (i := 2) (oi := { dst := some 10, op := _, type := _, pos := _, after := _, guard := _ }) (v := ?_) rfl (by kernel_rfl) (by kernel_rfl) (by kernel_rfl) (fun _ _ _ h => h) (Or.inl ⟨by rfl, ?_⟩) (by assumption) ?_
  rotate_left 1
  · intro u hSw; obtain ⟨s1, s2, s3⟩ := hSw; go_simp; try with_reducible rfl
  try simp only [Act.put, List.setIfInBounds_toArray, List.set_cons_zero, List.set_cons_succ]
  refine wpAnyH_take (i := 3) (oi := { dst := some 11, op := _, type := _, pos := _, after := _, guard := _ }) (v := ?_) rfl (by kernel_rfl) (by kernel_rfl) (by kernel_rfl) (fun _ _ _ h => h) (Or.inl ⟨by rfl, ?_⟩) (by assumption) ?_
  rotate_left 1
  · intro u hSw; obtain ⟨s1, s2, s3⟩ := hSw; go_simp; try with_reducible rfl
  try simp only [Act.put, List.setIfInBounds_toArray, List.set_cons_zero, List.set_cons_succ]
  refine wpAnyH_take (i := 4) (oi := { dst := some 12, op := _, type := _, pos := _, after := _, guard := _ }) (v := ?_) rfl (by kernel_rfl) (by kernel_rfl) (by kernel_rfl) (fun _ _ _ h => h) (Or.inl ⟨by rfl, ?_⟩) (by assumption) ?_
  rotate_left 1
  · intro u hSw; obtain ⟨s1, s2, s3⟩ := hSw; go_simp; try with_reducible rfl
  try simp only [Act.put, List.setIfInBounds_toArray, List.set_cons_zero, List.set_cons_succ]
  refine wpAnyH_take (i := 5) (oi := { dst := some 13, op := _, type := _, pos := _, after := _, guard := _ }) (v := ?_) rfl (by kernel_rfl) (by kernel_rfl) (by kernel_rfl) (fun _ _ _ h => h) (Or.inl ⟨by rfl, ?_⟩) (by assumption) ?_
  rotate_left 1
  · intro u hSw; obtain ⟨s1, s2, s3⟩ := hSw; go_simp; try with_reducible rfl
  try simp only [Act.put, List.setIfInBounds_toArray, List.set_cons_zero, List.set_cons_succ]
  refine wpAnyH_take (i := 6) (oi := { dst := some 14, op := _, type := _, pos := _, after := _, guard := _ }) (v := ?_) rfl (by kernel_rfl) (by kernel_rfl) (by kernel_rfl) (fun _ _ _ h => h) (Or.inl ⟨by rfl, ?_⟩) (by assumption) ?_
  rotate_left 1
  · intro u hSw; obtain ⟨s1, s2, s3⟩ := hSw; go_simp; try with_reducible rfl
  try simp only [Act.put, List.setIfInBounds_toArray, List.set_cons_zero, List.set_cons_succ]
  refine wpAnyH_take (i := 7) (oi := { dst := some 15, op := _, type := _, pos := _, after := _, guard := _ }) (v := ?_) rfl (by kernel_rfl) (by kernel_rfl) (by kernel_rfl) (fun _ _ _ h => h) (Or.inl ⟨by rfl, ?_⟩) (by assumption) ?_
  rotate_left 1
  · intro u hSw; obtain ⟨s1, s2, s3⟩ := hSw; go_simp; try with_reducible rfl
  try simp only [Act.put, List.setIfInBounds_toArray, List.set_cons_zero, List.set_cons_succ]
  refine wpAnyH_take (i := 8) (oi := { dst := some 16, op := _, type := _, pos := _, after := _, guard := _ }) (v := ?_) rfl (by kernel_rfl) (by kernel_rfl) (by kernel_rfl) (fun _ _ _ h => h) (Or.inl ⟨by rfl, ?_⟩) (by assumption) ?_
  rotate_left 1
  · intro u hSw; obtain ⟨s1, s2, s3⟩ := hSw; go_simp; try with_reducible rfl
  try simp only [Act.put, List.setIfInBounds_toArray, List.set_cons_zero, List.set_cons_succ]
  refine wpAnyH_take (i := 9) (oi := { dst := some 17, op := _, type := _, pos := _, after := _, guard := _ }) (v := ?_) rfl (by kernel_rfl) (by kernel_rfl) (by kernel_rfl) (fun _ _ _ h => h) (Or.inl ⟨by rfl, ?_⟩) (by assumption) ?_
  rotate_left 1
  · intro u hSw; obtain ⟨s1, s2, s3⟩ := hSw; go_simp; try with_reducible rfl
  try simp only [Act.put, List.setIfInBounds_toArray, List.set_cons_zero, List.set_cons_succ]
  refine wpAnyH_ready (rs := [10]) (by kernel_rfl) (by simp) ?_
  refine AllReadyH.cons (o := { dst := some 18, op := _, type := _, pos := _, after := _, guard := _ }) rfl (fun Kq hK => ?_) AllReadyH.nil
  obtain ⟨s1, s2, s3⟩ := hHeld
  go_simp
  refine HF.out.mono ?_
  rintro e w2 ⟨rfl, ha, f2⟩
  have h2 := (H1.out.drewn 1).arena f2 ha
  have o2 := (O1.out.drewn 1).keep f2 (fun j hB e => HKB.out j (H1.out.kk j (by rcases e with e | e <;> simp [e])) hB)
  have d1 := o2.om.cells.1
  have d2 := h2.lk.cells.1
  have d3 : w2.cell? ⟨cb, 0, none⟩ = some (.int .i64 (c : Int)) := (f2.cell (p := ⟨cb, 0, none⟩) (O1.out.kl cb hcb.out) (fun e => HKB.out cb (H1.out.kk cb (e.elim (fun e => .inr (.inl e)) (fun e => .inr (.inr (.inl e))))) hcb.out)).trans hx
  have F2 : Hid (Fr (fun j => K j ∨ B j) w w2) := hide2 (((F1.out.mono (G := fun j => K j ∨ B j) (fun j _ e => .inr e)).drewN 1).trans f2 (fun j e => .inl (.inl (H1.out.kk j (by rcases e with e | e <;> simp [e])))))
  have H2 := hide2 h2
  have O2 := hide2 o2
  clear h2 o2 ha f2
  go_wp2_with fail
  refine hK.out _ _ (⟨d1, d2, d3⟩) (fun hHeld => ?_)
  clear hK Kq
  try simp only [Act.put, List.setIfInBounds_toArray, List.set_cons_zero, List.set_cons_succ]
  refine wpAnyH_done (by kernel_rfl) ?_ _
  refine NoPanic.normal ?_
  obtain ⟨i0, hi0, z0, z1, z2⟩ := info_parts infoH
  obtain ⟨w3, hw3⟩ : ∃ y, y = w2.drew.alloc (.cells #[.int .i64 (c : Int)] 3) := ⟨_, rfl⟩
  have f3 : Fr (fun _ => False) w2 w3 := by rw [hw3]; exact ((Fr.refl _ w2).drewN 1).alloc _
  have b3 : w3.heap[w2.heap.size]? = some (.cells #[.int .i64 (c : Int)] 3 (0, 0)) := by rw [hw3]; exact heap_alloc_new w2.drew _
  have h3 := H2.out.keep f3 (fun _ _ e => e) (fun e => e)
  have o3 := O2.out.keep f3 (fun _ _ e => e)
  have hr3 : Hr w3 0 (.slice (some ⟨w2.heap.size, 0, none⟩) 1 1) [c] := ⟨rfl, .inr ⟨w2.heap.size, 1, #[.int .i64 (c : Int)], rfl, Nat.zero_le _, b3, Nat.le_refl _, by unfold maxLen; omega, rfl, rfl⟩⟩
  have HNM := hide2 (noMore_any h3 hr3 (fun j e q => by have h1 := H2.out.kl j q; have h2 : w2.heap.size = j := Option.some.inj e; omega) (by omega))
  have k1 := o3.om.cells.1
  have k3 : w3.cell? ⟨cb, 0, none⟩ = some (.int .i64 (c : Int)) := (f3.cell (p := ⟨cb, 0, none⟩) (O2.out.kl cb hcb.out) (fun e => e)).trans d3
  have H3 := hide2 h3
  have O3 := hide2 o3
  have F3 : Hid (Fr (fun j => K j ∨ B j) w w3) := hide2 (F2.out.trans f3 (fun j e => e.elim))
  clear h3 o3 hr3 b3 f3 hHeld c1 c2 hx HF
  go_wp2
  refine wp_region_noPanic ?_
  refine wp_region_held_drew (S := (fun u : World => u.cell? ⟨ob, 0, none⟩ = some (lpp lb) ∧ u.cell? ⟨cb, 0, none⟩ = some (.int .i64 (c : Int)))) (by kernel_rfl) (⟨d1, d3⟩) (fun hHeld => ?_)
  refine wpAnyH_take (i := 0) (oi := { dst := some 19, op := _, type := _, pos := _, after := _, guard := _ }) (v := ?_) rfl (by kernel_rfl) (by kernel_rfl) (by kernel_rfl) (fun _ _ _ h => h) (Or.inl ⟨by rfl, ?_⟩) (by assumption) ?_
  rotate_left 1
  · intro u hSw; obtain ⟨s1, s2⟩ := hSw; go_simp; try with_reducible rfl
  try simp only [Act.put, List.setIfInBounds_toArray, List.set_cons_zero, List.set_cons_succ]
  refine wpAnyH_take (i := 1) (oi := { dst := some 20, op := _, type := _, pos := _, after := _, guard := _ }) (v := ?_) rfl (by kernel_rfl) (by kernel_rfl) (by kernel_rfl) (fun _ _ _ h => h) (Or.inl ⟨by rfl, ?_⟩) (by assumption) ?_
  rotate_left 1
  · intro u hSw; obtain ⟨s1, s2⟩ := hSw; go_simp; try with_reducible rfl
  try simp only [Act.put, List.setIfInBounds_toArray, List.set_cons_zero, List.set_cons_succ]
  refine wpAnyH_take (i := 2) (oi := { dst := some 21, op := _, type := _, pos := _, after := _, guard := _ }) (v := ?_) rfl (by kernel_rfl) (by kernel_rfl) (by kernel_rfl) (fun _ _ _ h => h) (Or.inl ⟨by rfl, ?_⟩) (by assumption) ?_
  rotate_left 1
  · intro u hSw; obtain ⟨s1, s2⟩ := hSw; go_simp; try with_reducible rfl
  try simp only [Act.put, List.setIfInBounds_toArray, List.set_cons_zero, List.set_cons_succ]
  refine wpAnyH_take (i := 3) (oi := { dst := some 22, op := _, type := _, pos := _, after := _, guard := _ }) (v := ?_) rfl (by kernel_rfl) (by kernel_rfl) (by kernel_rfl) (fun _ _ _ h => h) (Or.inl ⟨by rfl, ?_⟩) (by assumption) ?_
  rotate_left 1
  · intro u hSw; obtain ⟨s1, s2⟩ := hSw; go_simp; try with_reducible rfl
  try simp only [Act.put, List.setIfInBounds_toArray, List.set_cons_zero, List.set_cons_succ]
  refine wpAnyH_take (i := 4) (oi := { dst := some 23, op := _, type := _, pos := _, after := _, guard := _ }) (v := ?_) rfl (by kernel_rfl) (by kernel_rfl) (by kernel_rfl) (fun _ _ _ h => h) (Or.inl ⟨by rfl, ?_⟩) (by assumption) ?_
  rotate_left 1
  · intro u hSw; obtain ⟨s1, s2⟩ := hSw; go_simp; try with_reducible rfl
  try simp only [Act.put, List.setIfInBounds_toArray, List.set_cons_zero, List.set_cons_succ]
  refine wpAnyH_take (i := 5) (oi := { dst := some 24, op := _, type := _, pos := _, after := _, guard := _ }) (v := ?_) rfl (by kernel_rfl) (by kernel_rfl) (by kernel_rfl) (fun _ _ _ h => h) (Or.inl ⟨by rfl, ?_⟩) (by assumption) ?_
  rotate_left 1
  · intro u hSw; obtain ⟨s1, s2⟩ := hSw; go_simp; try with_reducible rfl
  try simp only [Act.put, List.setIfInBounds_toArray, List.set_cons_zero, List.set_cons_succ]
  refine wpAnyH_take (i := 6) (oi := { dst := some 25, op := _, type := _, pos := _, after := _, guard := _ }) (v := ?_) rfl (by kernel_rfl) (by kernel_rfl) (by kernel_rfl) (fun _ _ _ h => h) (Or.inl ⟨by rfl, ?_⟩) (by assumption) ?_
  rotate_left 1
  · intro u hSw; obtain ⟨s1, s2⟩ := hSw; go_simp; try with_reducible rfl
  try simp only [Act.put, List.setIfInBounds_toArray, List.set_cons_zero, List.set_cons_succ]
  refine wpAnyH_ready (rs := [7]) (by kernel_rfl) (by simp) ?_
  refine AllReadyH.cons (o := { dst := some 26, op := _, type := _, pos := _, after := _, guard := _ }) rfl (fun Kq hK => ?_) AllReadyH.nil
  refine step_buildSlice rfl 47 3 1 _ rfl #[.int .i64 (c : Int)] i0 (.int .i64 0) Tryd.underlying47 hi0 z0 1 z1 (by decide) (by decide) (by kernel_rfl) ?_
  rw [show (w2.drew.heap.size) = w2.heap.size from rfl, ← hw3]
  clear hw3
  refine hK.out _ _ (⟨k1, k3⟩) (fun hHeld => ?_)
  clear hK Kq
  try simp only [Act.put, List.setIfInBounds_toArray, List.set_cons_zero, List.set_cons_succ]
  refine wpAnyH_ready (rs := [8]) (by kernel_rfl) (by simp) ?_
  refine AllReadyH.cons (o := { dst := some 27, op := _, type := _, pos := _, after := _, guard := _ }) rfl (fun Kq hK => ?_) AllReadyH.nil
  obtain ⟨s1, s2⟩ := hHeld
  go_simp
  refine HNM.out.mono ?_
  rintro e w4 ⟨rfl, sv4, h4, f4⟩
  have o4 := O3.out.keep f4 (fun j hB hK => HKB.out j hK hB)
  have l1 := o4.om.cells.1
  have l3 : w4.cell? ⟨cb, 0, none⟩ = some (.int .i64 (c : Int)) := (f4.cell (p := ⟨cb, 0, none⟩) (O3.out.kl cb hcb.out) (fun e => HKB.out cb e hcb.out)).trans k3
  have F4 : Hid (Fr (fun j => K j ∨ B j) w w4) := hide2 (F3.out.trans f4 (fun j e => .inl (.inl e)))
  have H4 := hide2 h4
  have O4 := hide2 o4
  clear h4 o4 f4
  go_wp2_with fail
  refine hK.out _ _ (⟨l1, l3⟩) (fun hHeld => ?_)
  clear hK Kq
  try simp only [Act.put, List.setIfInBounds_toArray, List.set_cons_zero, List.set_cons_succ]
  refine wpAnyH_done (by kernel_rfl) ?_ _
  refine NoPanic.normal ?_
  have hown := own_any H4.out O4.out HKB.out (by have := HLL.out; omega)
  rw [HOL.out] at hown
  have HOW := hide2 hown
  clear hHeld d1 d2 d3 k1 k3 l1 l3 hown HNM
  go_wp2_with fail
  refine HOW.out.mono ?_
  rintro e w5 ⟨cv5, rfl, h5, o5, f5⟩
  obtain ⟨a5, n5, p5, e5⟩ : ∃ a n c, cv5 = Value.slice a n c := by obtain ⟨a, c, e⟩ := o5.row.form; exact ⟨a, _, c, e⟩
  have hn5 : n5 = rest.length := by obtain ⟨a, c, e⟩ := o5.row.form; rw [e5] at e; cases e; rfl
  subst e5
  subst hn5
  have F5 : Hid (Fr (fun j => K j ∨ B j) w w5) := hide2 (F4.out.trans f5 (fun j e => .inl (.inr e)))
  have c21 := o5.om.cells.2.2.2.2.1
  have f21 := o5.om.free 21
  have H5 := hide2 h5
  have O5 := hide2 o5
  clear h5 o5 f5 HOW
  by_cases hz : rest.length = 0
  · have hz2 : (rest.length : Int) = 0 := by omega
    have hz3 : rest = [] := List.eq_nil_of_length_eq_zero hz
    have x6 := O5.out.put1 (O5.out.om.setSt 5) rfl
    have X6 := hide2 x6
    have X7 : Hid (Ob (w5.setCell ⟨ob, 21, none⟩ (.int .i64 5)) B ob lb (.slice a5 rest.length p5) { o with cs := rest, st := if rest.length = 0 then 5 else o.st }) := hide2 (by rw [if_pos hz]; exact x6.1)
    clear x6 hz
    go_wp2
    go_end0
    exact ⟨rfl, ⟨sv4, H5.out.keep X6.out.2 HKB.out HO.out.b0⟩, ⟨_, (by have q := X6.out.1; simp only [hz3] at q; exact q)⟩, F5.out.trans X6.out.2 (fun j e => .inl (.inr e))⟩
  · have hz2 : ¬ (rest.length : Int) = 0 := by omega
    have hz4 : ¬ rest = [] := fun e => hz (by rw [e]; rfl)
    have X7 : Hid (Ob w5 B ob lb (.slice a5 rest.length p5) { o with cs := rest, st := if rest.length = 0 then 5 else o.st }) := hide2 (by rw [if_neg hz]; exact O5.out)
    go_wp2
    go_end0
    exact ⟨rfl, ⟨sv4, H5.out⟩, ⟨_, O5.out⟩, F5.out⟩
end
end

section
open Go.RowKit Go.Maps
section
variable {w w' : World} {K B : Nat → Prop} {lb d g gt tc : Nat} {sv : Value} {T : List Bool} {N : List Int} {m : Int} {F : List Nat} {s : Sl} {ob : Nat} {cv : Value} {o : Opm}
set_option maxHeartbeats 2000000 in
theorem refuse_bad (h : Om w ob (lpp lb) cv o) (hL : Lm w K lb d g gt tc sv T N m F s) (hn : 1 ≤ s.tw.length) (hob : ¬ K ob) (h0 : ¬ 0 = ob) :
    Calls Tryd.prog 42 #[.pointer (some ⟨ob, 0, none⟩)] w fun e w' => e = .returned (.tuple #[]) ∧ Om w' ob (lpp lb) cv { o with code := 100, st := 5 } ∧ Fr (fun j => j = ob) w w' := by
  have c0 := h.cells.1
  have c21 := h.cells.2.2.2.2.1
  have c61 := h.cells.2.2.2.2.2.2.2.2.2.2.2
  have f21 := h.free 21
  have f61 := h.free 61
  have hl := h.lt
  have H := hide2 h
  have hF : Fr (fun j => j = ob) w ((w.setCell ⟨ob, 61, none⟩ (.int .i64 100)).setCell ⟨ob, 21, none⟩ (.int .i64 5)) := ((Fr.refl (fun j => j = ob) w).setCell (p := ⟨ob, 61, none⟩) (.inl rfl) _).setCell (p := ⟨ob, 21, none⟩) (.inl rfl) _
  have HI := hide2 ((hL.keep hF (fun j hj e => hob (e ▸ hj)) h0).isNone hn)
  have HF := hide2 hF
  clear h hL hF
  go_enter Tryd.func42, Tryd.ntmps42
  go_wp2_with fail
  refine HI.out.mono ?_
  rintro e w1 ⟨rfl, rfl⟩
  go_wp2
  go_end0
  exact ⟨rfl, (H.out.setCode 100).setSt 5, HF.out⟩
end
end

section
open Go.RowKit Go.Maps

theorem less_given (s : Sl) (c : Nat) : s.less [c] = s.given c := by
  unfold Sl.less Sl.given
  congr 2
  funext x
  by_cases e : x = c
  · subst e; simp
  · simp [e]

section
variable {w : World} {K B : Nat → Prop} {lb d z M : Nat} {s : Sl} {ob : Nat} {cv : Value} {o : Opm}
/-- A step that finds no free cell. -/
theorem LT.full (h : LT w K lb d z M s) (ho : Ob w B ob lb cv o) (hKB : ∀ j, K j → ¬ B j) (hI : OI s o) (h0 : o.st = 2) (hl : o.cs.length < o.h) (hall : ∀ c ∈ s.sp, c ∈ o.cs) (hz : s.cells.length = z) :
    Calls Tryd.prog 20 #[.pointer (some ⟨ob, 0, none⟩)] w fun e w' => ∃ cv', e = .returned (.bool false) ∧ LT w' K lb d z M s ∧ Ob w' B ob lb cv' { o with st := 1, full := true } ∧ Nx w w' K B K B := by
  obtain ⟨g, gt, tc, sv, T, N, m, F, hL, hok, hcw, hzz, hm0, hmM⟩ := h
  obtain ⟨t1, t2, t3, t4, t5⟩ := hI.two h0
  obtain ⟨cs1, cs2⟩ := hI.cs t2
  have h8 := hI.h8 t3
  have hNl : N.length ≤ 65536 := hL.aw.one.2
  have hcl := hcw.le
  have hspl : s.sp.length ≤ s.cells.length := by unfold Sl.cells; rw [List.length_append]; omega
  have hTl := hcw.tl
  have hcnt := hcw.cnt
  have c21 := ho.om.cells.2.2.2.2.1
  rw [h0] at c21
  refine (step_put (R := fun w' st => ∃ cv', st = 1 ∧ Lm w' K lb d g gt tc sv T N m F s ∧ Ob w' B ob lb cv' { o with st := 1, full := true } ∧ Fr (fun j => K j ∨ B j) w w') c21 ho.om.lt (fun u fu => (put_full (hL.keep fu (fun _ _ e => e) (fun e => e)) (ho.keep fu (fun _ _ e => e)) hKB cs1 rfl rfl rfl (by omega) (by have := hI.cl; omega) hl h8 hall (by omega)).mono ?_)).mono ?_
  · rintro e w' ⟨rfl, cv', q1, q2, q3⟩
    exact ⟨rfl, _, q2.om.cells.2.2.2.2.1, cv', rfl, q1, q2, (fu.mono (fun _ _ e => e.elim)).trans q3 (fun j e => .inl e)⟩
  · rintro e w' ⟨st, rfl, cv', rfl, q1, q2, q3⟩
    exact ⟨cv', rfl, ⟨g, gt, tc, sv, T, N, m, F, q1, hok, hcw, hzz, hm0, hmM⟩, q2, Nx.same hKB q3⟩

/-- A step that gives a cell back. -/
theorem LT.give (h : LT w K lb d z M s) (ho : Ob w B ob lb cv o) (hKB : ∀ j, K j → ¬ B j) (h0 : o.st = 4) {c : Nat} {rest : List Nat} (ec : o.cs = c :: rest) (hcs : ∀ c ∈ o.cs, c ∈ s.sp) (hnd : o.cs.Nodup) (hl3 : o.cs.length ≤ 100000) :
    Calls Tryd.prog 20 #[.pointer (some ⟨ob, 0, none⟩)] w fun e w' => ∃ cv', e = .returned (.bool (decide (rest.length = 0))) ∧ LT w' K lb d z M (s.given c) ∧ Ob w' B ob lb cv' { o with cs := rest, st := if rest.length = 0 then 5 else 4 } ∧ Nx w w' K B K B := by
  obtain ⟨g, gt, tc, sv, T, N, m, F, hL, hok, hcw, hzz, hm0, hmM⟩ := h
  have hNl : N.length ≤ 65536 := hL.aw.one.2
  have hcl := hcw.le
  have hspl : s.sp.length ≤ s.cells.length := by unfold Sl.cells; rw [List.length_append]; omega
  have hTl := hcw.tl
  have hc : c ∈ s.sp := hcs c (by rw [ec]; simp)
  have htk : tk T c = true := by
    have := hcw.tk c (by unfold Sl.cells; exact List.mem_append.2 (.inr hc))
    unfold tk
    rw [Int.toNat_natCast, this]
    simp
  have c21 := ho.om.cells.2.2.2.2.1
  rw [h0] at c21
  have hok' : (s.given c).ok := ⟨hok.n1, hok.hd, hok.sh, hok.gd, hok.zl, hok.nl, hok.nx, hok.l0, hok.one⟩
  refine (step_giveBack (R := fun w' st => ∃ sv' cv', st = (if rest.length = 0 then 5 else o.st) ∧ Lm w' K lb d g gt tc sv' (T.set c false) N m (flip F c) (s.less [c]) ∧ Ob w' B ob lb cv' { o with cs := rest, st := if rest.length = 0 then 5 else o.st } ∧ Fr (fun j => K j ∨ B j) w w') c21 ho.om.lt (fun u fu => (giveBack_any (hL.keep fu (fun _ _ e => e) (fun e => e)) (ho.keep fu (fun _ _ e => e)) hKB hcs ec hnd (by omega) (by omega) htk).mono ?_)).mono ?_
  · rintro e w' ⟨rfl, sv', cv', q1, q2, q3⟩
    exact ⟨rfl, _, q2.om.cells.2.2.2.2.1, sv', cv', rfl, q1, q2, (fu.mono (fun _ _ e => e.elim)).trans q3 (fun j e => .inl e)⟩
  · rintro e w' ⟨st, rfl, sv', cv', rfl, q1, q2, q3⟩
    rw [less_given] at q1
    refine ⟨cv', ?_, ⟨g, gt, tc, sv', _, N, m, _, q1, hok', hcw.given hc, hzz, hm0, hmM⟩, ?_, Nx.same hKB q3⟩
    · by_cases e : rest.length = 0
      · rw [if_pos e, decide_eq_true e]; rfl
      · rw [if_neg e, decide_eq_false e, h0]; rfl
    · rw [h0] at q2; exact q2

/-- A step that refuses. -/
theorem LT.refuse (h : LT w K lb d z M s) (ho : Om w ob (lpp lb) cv o) (hob : ¬ K ob) (h0 : ¬ 0 = ob) (hst : o.st = 0) :
    Calls Tryd.prog 20 #[.pointer (some ⟨ob, 0, none⟩)] w fun e w' => e = .returned (.bool true) ∧ LT w' K lb d z M s ∧ Om w' ob (lpp lb) cv { o with code := 100, st := 5 } ∧ Fr (fun j => j = ob) w w' := by
  obtain ⟨g, gt, tc, sv, T, N, m, F, hL, hok, hcw, hzz, hm0, hmM⟩ := h
  have c21 := ho.cells.2.2.2.2.1
  rw [hst] at c21
  refine (step_refuse (R := fun w' st => st = 5 ∧ Om w' ob (lpp lb) cv { o with code := 100, st := 5 } ∧ Fr (fun j => j = ob) w w') c21 ho.lt (fun u fu => (refuse_bad (ho.fr fu (fun e => e)) (hL.keep fu (fun _ _ e => e) (fun e => e)) hok.n1 hob h0).mono ?_)).mono ?_
  · rintro e w' ⟨rfl, q1, q2⟩
    exact ⟨rfl, 5, q1.cells.2.2.2.2.1, rfl, q1, (fu.mono (fun _ _ e => e.elim)).trans q2 (fun j e => .inl e)⟩
  · rintro e w' ⟨st, rfl, rfl, q1, q2⟩
    exact ⟨rfl, ⟨g, gt, tc, sv, T, N, m, F, hL.keep q2 (fun j hj e => hob (e ▸ hj)) h0, hok, hcw, hzz, hm0, hmM⟩, q1, q2⟩

set_option maxRecDepth 100000 in
set_option maxHeartbeats 4000000 in
/-- done, of what ends within p steps. -/
theorem done_gen {P : Nat → World → Prop} {R : World → Prop} {p most : Nat} (hP : P p w) (h1 : ∀ q u, P q u → 1 ≤ q) (hS : ∀ q u, P q u → Calls Tryd.prog 20 #[.pointer (some ⟨ob, 0, none⟩)] u fun e w' => ∃ b : Bool, e = .returned (.bool b) ∧ (b = true → R w') ∧ (b = false → P (q - 1) w')) (hp : p ≤ most) (hmo : most ≤ 1000000) :
    Calls Tryd.prog 15 #[.pointer (some ⟨ob, 0, none⟩), .int .i64 (most : Int)] w fun e w' => ∃ n : Nat, e = .returned (.int .i64 (n : Int)) ∧ 1 ≤ n ∧ n ≤ p ∧ R w' := by
  have HP := hide2 hP
  have HS := hide2 hS
  have HO := hide2 h1
  have hp1 := h1 p w hP
  clear hP hS h1
  go_enter Tryd.func15, Tryd.ntmps15
  go_wp2
  go_loopw [5, 6] (fun i _ wr => ∃ n : Nat, n < p ∧ i = .int .i64 ((n : Int) + 1) ∧ Hid (P (p - n) wr)) (fun i _ _ => p + 1 - (intOf i).toNat)
  case atStart => exact ⟨0, hp1, rfl, HP⟩
  case round =>
    obtain ⟨n, hn, rfl, PP⟩ := hrel
    have hnm : (n : Int) + 1 ≤ (most : Int) := by omega
    have HX := hide2 (HS.out _ _ PP.out)
    go_wp2_with fail
    refine HX.out.mono ?_
    rintro e w1 ⟨b, rfl, hb1, hb2⟩
    clear HX
    cases b with
    | true =>
      have HR := hide2 (hb1 rfl)
      clear hb1 hb2
      go_wp2
      go_ret
      exact ⟨n + 1, rfl, by omega, by omega, HR.out⟩
    | false =>
      have q := hb2 rfl
      have hpp := HO.out _ _ q
      have HQ : Hid (P (p - (n + 1)) w1) := hide2 (by rwa [Nat.sub_sub] at q)
      clear hb1 hb2 q
      go_wp2
      go_round
      case rel => exact ⟨n + 1, by omega, by go_num, HQ⟩
      case measure => simp [intOf]; omega
end
end
end Go.Proofs.YtopihgdbfhiejaaDoor
