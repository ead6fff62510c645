/-
  Sc3: look: an operation looks what stands behind its place. (Printed by gen_sc3.py.)
  Sc4: look: an operation looks what stands behind its place. (Printed by gen_sc3.py.)
  Sc5: look: an operation looks what stands behind its place. (Printed by gen_sc3.py.)
  Sc6: look: an operation looks what stands behind its place. (Printed by gen_sc3.py.)
-/
import Derived.Test.YtopihgdbfhiejaaDoorSc2
import Derived.Test.YtopihgdbfhiejaaDoorSaE
set_option linter.unusedVariables false
set_option linter.unusedSimpArgs false
namespace Go.Proofs.YtopihgdbfhiejaaDoor

section
open Go.RowKit Go.Maps

def Opm.seen (o : Opm) (num : Nat) : Opm := { o with pn := upd o.pn o.lv num }
section
variable {w w' : World} {K B : Nat → Prop} {lb d g gt tc : Nat} {sv : Value} {T : List Bool} {N : List Int} {m : Int} {F : List Nat} {s : Sl} {ob : Nat} {cv : Value} {o : Opm}
theorem Lm.keyAt (h : Lm w K lb d g gt tc sv T N m F s) {i : Nat} (hi : i < s.tw.length) : w.rangeAt gt (i * 34) (kC (s.at i).k).toList := by
  intro j v hv
  have hj : j < 17 := (List.getElem?_eq_some_iff.1 hv).1
  rw [h.cell hi (by omega), ← hv]
  rcases (show j = 0 ∨ j = 1 ∨ j = 2 ∨ j = 3 ∨ j = 4 ∨ j = 5 ∨ j = 6 ∨ j = 7 ∨ j = 8 ∨ j = 9 ∨ j = 10 ∨ j = 11 ∨ j = 12 ∨ j = 13 ∨ j = 14 ∨ j = 15 ∨ j = 16 by omega) with rfl | rfl | rfl | rfl | rfl | rfl | rfl | rfl | rfl | rfl | rfl | rfl | rfl | rfl | rfl | rfl | rfl <;> rfl
theorem Lm.drewn (h : Lm w K lb d g gt tc sv T N m F s) (q : Nat) : Lm (w.drewN q) K lb d g gt tc sv T N m F s := h.keep ((Fr.refl (fun _ => False) w).drewN q) (fun _ _ e => e) (fun e => e)

set_option maxRecDepth 100000 in
set_option maxHeartbeats 4000000 in
theorem look_end (h : Lm w K lb d g gt tc sv T N m F s) (ho : Ob w B ob lb cv o) (hKB : ∀ j, K j → ¬ B j) {l i num to : Nat} (hlv : o.lv = l) (hl : l < 8) (hpt : o.pt l = i) (hi : i < s.tw.length) (ht : T.getD ((s.at i).cs l) false = true) (hN : N.getD ((s.at i).cs l) 0 = (num : Int)) (hnum : num < 4611686018427387904) (hto : to = bh s i num l) (htl : to < s.tw.length) (hm : 0 ≤ m ∧ m < 4611686018427387904) (hcl : o.cs.length ≤ 1000000) (h0 : to = 0) :
    Calls Tryd.prog 43 #[.pointer (some ⟨ob, 0, none⟩)] w fun e w' => e = .returned (.tuple #[]) ∧ ∃ cv', Lm w' K lb d g gt tc sv T N (m + 1) F s ∧ Ob w' B ob lb cv' ((o.seen num).left s to) ∧ Fr (fun j => K j ∨ B j) w w' := by
  have c := ho.om.cells
  have c0 := c.1
  have c22 := c.2.2.2.2.2.1
  rw [hlv] at c22
  have hl8 : (l : Int) < 8 := by omega
  have hob := ho.om.lt
  have H := hide2 h
  have HO := hide2 ho
  have HKB := hide2 hKB
  have HN := hide2 hN
  have HTO := hide2 hto
  have HLV := hide2 hlv
  have HPT := hide2 hpt
  clear c h ho hN hto hKB hlv hpt
  go_enter Tryd.func43, Tryd.ntmps43
  go_wp2
  go_quiet (fail)
  obtain ⟨w0, hw0⟩ : ∃ y, y = w.drewN nq := ⟨_, rfl⟩
  try rw [← hw0]
  have h0 : Lm w0 K lb d g gt tc sv T N m F s := by rw [hw0]; exact H.out.drewn nq
  have o0 : Ob w0 B ob lb cv o := by rw [hw0]; exact HO.out.drewn nq
  have F0 : Hid (Fr (fun j => K j ∨ B j) w w0) := hide2 (by rw [hw0]; exact (Fr.refl _ w).drewN nq)
  have s1 : w0.cell? ⟨ob, 22, none⟩ = some (.int .i64 (l : Int)) := by have := o0.om.cells.2.2.2.2.2.1; rw [HLV.out] at this; exact this
  have s2 : w0.cell? ⟨ob, 23 + l * 2, none⟩ = some (.int .i64 (i : Int)) := by have := o0.om.ptAt (l := l) hl; rw [HPT.out] at this; exact this
  have HC : Hid (Calls Tryd.prog 54 #[.pointer (some ⟨lb, 0, none⟩), .int .i64 (i : Int), .int .i64 (l : Int)] w0.drew fun e w' => e = .returned (.int .u64 (num : Int)) ∧ Lm w' K lb d g gt tc sv T N (m + 1) F s ∧ Fr (fun j => j = d ∨ j = g) w0 w') := hide2 (((h0.drewn 1).load hi hl ht hm).mono (by
    rintro e w' ⟨rfl, q1, q2⟩
    exact ⟨by rw [HN.out], q1, ((Fr.refl (fun j => j = d ∨ j = g) w0).drewN 1).trans q2 (fun j e => .inl e)⟩))
  have H0 := hide2 h0
  have O0 := hide2 o0
  clear h0 o0 hw0 c0 c22
  go_wp2
  refine wp_region_noPanic ?_
  refine wp_region_held_drew (S := (fun u : World => u.cell? ⟨ob, 22, none⟩ = some (.int .i64 (l : Int)) ∧ u.cell? ⟨ob, 23 + l * 2, none⟩ = some (.int .i64 (i : Int)))) (by kernel_rfl) (⟨s1, s2⟩) (fun hHeld => ?_)
  refine wpAnyH_take (i := 0) (oi := { dst := some 17, op := _, type := _, pos := _, after := _, guard := _ }) (v := ?_) rfl (by kernel_rfl) (by kernel_rfl) (by kernel_rfl) (fun _ _ _ h => h) (Or.inl ⟨by rfl, ?_⟩) (by assumption) ?_
  rotate_left 1
  · intro u hSw; obtain ⟨s1, s2⟩ := hSw; go_simp; try with_reducible rfl
  try simp only [Act.put, List.setIfInBounds_toArray, List.set_cons_zero, List.set_cons_succ]
  refine wpAnyH_take (i := 1) (oi := { dst := some 18, op := _, type := _, pos := _, after := _, guard := _ }) (v := ?_) rfl (by kernel_rfl) (by kernel_rfl) (by kernel_rfl) (fun _ _ _ h => h) (Or.inl ⟨by rfl, ?_⟩) (by assumption) ?_
  rotate_left 1
  · intro u hSw; obtain ⟨s1, s2⟩ := hSw; go_simp; try with_reducible rfl
  try simp only [Act.put, List.setIfInBounds_toArray, List.set_cons_zero, List.set_cons_succ]
  refine wpAnyH_take (i := 2) (oi := { dst := some 19, op := _, type := _, pos := _, after := _, guard := _ }) (v := ?_) rfl (by kernel_rfl) (by kernel_rfl) (by kernel_rfl) (fun _ _ _ h => h) (Or.inl ⟨by rfl, ?_⟩) (by assumption) ?_
  rotate_left 1
  · intro u hSw; obtain ⟨s1, s2⟩ := hSw; go_simp; try with_reducible rfl
  try simp only [Act.put, List.setIfInBounds_toArray, List.set_cons_zero, List.set_cons_succ]
  refine wpAnyH_take (i := 3) (oi := { dst := some 20, op := _, type := _, pos := _, after := _, guard := _ }) (v := ?_) rfl (by kernel_rfl) (by kernel_rfl) (by kernel_rfl) (fun _ _ _ h => h) (Or.inl ⟨by rfl, ?_⟩) (by assumption) ?_
  rotate_left 1
  · intro u hSw; obtain ⟨s1, s2⟩ := hSw; go_simp; try with_reducible rfl
  try simp only [Act.put, List.setIfInBounds_toArray, List.set_cons_zero, List.set_cons_succ]
  refine wpAnyH_take (i := 4) (oi := { dst := some 21, op := _, type := _, pos := _, after := _, guard := _ }) (v := ?_) rfl (by kernel_rfl) (by kernel_rfl) (by kernel_rfl) (fun _ _ _ h => h) (Or.inl ⟨by rfl, ?_⟩) (by assumption) ?_
  rotate_left 1
  · intro u hSw; obtain ⟨s1, s2⟩ := hSw; go_simp; try with_reducible rfl
  try simp only [Act.put, List.setIfInBounds_toArray, List.set_cons_zero, List.set_cons_succ]
  refine wpAnyH_take (i := 5) (oi := { dst := some 22, op := _, type := _, pos := _, after := _, guard := _ }) (v := ?_) rfl (by kernel_rfl) (by kernel_rfl) (by kernel_rfl) (fun _ _ _ h => h) (Or.inl ⟨by rfl, ?_⟩) (by assumption) ?_
  rotate_left 1
  · intro u hSw; obtain ⟨s1, s2⟩ := hSw; go_simp; try with_reducible rfl
  try simp only [Act.put, List.setIfInBounds_toArray, List.set_cons_zero, List.set_cons_succ]
  refine wpAnyH_take (i := 6) (oi := { dst := some 23, op := _, type := _, pos := _, after := _, guard := _ }) (v := ?_) rfl (by kernel_rfl) (by kernel_rfl) (by kernel_rfl) (fun _ _ _ h => h) (Or.inl ⟨by rfl, ?_⟩) (by assumption) ?_
  rotate_left 1
  · intro u hSw; obtain ⟨s1, s2⟩ := hSw; go_simp; try with_reducible rfl
  try simp only [Act.put, List.setIfInBounds_toArray, List.set_cons_zero, List.set_cons_succ]
  refine wpAnyH_take (i := 7) (oi := { dst := some 24, op := _, type := _, pos := _, after := _, guard := _ }) (v := ?_) rfl (by kernel_rfl) (by kernel_rfl) (by kernel_rfl) (fun _ _ _ h => h) (Or.inl ⟨by rfl, ?_⟩) (by assumption) ?_
  rotate_left 1
  · intro u hSw; obtain ⟨s1, s2⟩ := hSw; go_simp; try with_reducible rfl
  try simp only [Act.put, List.setIfInBounds_toArray, List.set_cons_zero, List.set_cons_succ]
  refine wpAnyH_take (i := 8) (oi := { dst := some 25, op := _, type := _, pos := _, after := _, guard := _ }) (v := ?_) rfl (by kernel_rfl) (by kernel_rfl) (by kernel_rfl) (fun _ _ _ h => h) (Or.inl ⟨by rfl, ?_⟩) (by assumption) ?_
  rotate_left 1
  · intro u hSw; obtain ⟨s1, s2⟩ := hSw; go_simp; try with_reducible rfl
  try simp only [Act.put, List.setIfInBounds_toArray, List.set_cons_zero, List.set_cons_succ]
  refine wpAnyH_take (i := 9) (oi := { dst := some 26, op := _, type := _, pos := _, after := _, guard := _ }) (v := ?_) rfl (by kernel_rfl) (by kernel_rfl) (by kernel_rfl) (fun _ _ _ h => h) (Or.inl ⟨by rfl, ?_⟩) (by assumption) ?_
  rotate_left 1
  · intro u hSw; obtain ⟨s1, s2⟩ := hSw; go_simp; try with_reducible rfl
  try simp only [Act.put, List.setIfInBounds_toArray, List.set_cons_zero, List.set_cons_succ]
  refine wpAnyH_ready (rs := [10]) (by kernel_rfl) (by simp) ?_
  refine AllReadyH.cons (o := { dst := some 27, op := _, type := _, pos := _, after := _, guard := _ }) rfl (fun Kq hK => ?_) AllReadyH.nil
  obtain ⟨s1, s2⟩ := hHeld
  go_simp
  refine HC.out.mono ?_
  rintro e w2 ⟨rfl, h2, f2⟩
  have f2K : Fr K w0 w2 := f2.mono (fun j _ e => H.out.kk j (by rcases e with e | e <;> simp [e]))
  have o2 := O0.out.keep f2K (fun j hB hK => HKB.out j hK hB)
  have t1 : w2.cell? ⟨ob, 22, none⟩ = some (.int .i64 (l : Int)) := by have := o2.om.cells.2.2.2.2.2.1; rw [HLV.out] at this; exact this
  have t2 : w2.cell? ⟨ob, 23 + l * 2, none⟩ = some (.int .i64 (i : Int)) := by have := o2.om.ptAt (l := l) hl; rw [HPT.out] at this; exact this
  have t3 := o2.om.pnAt (l := l) hl
  have t4 := o2.om.free (23 + l * 2 + 1)
  have O2 := hide2 o2
  have H2 := hide2 h2
  have F2 : Hid (Fr (fun j => K j ∨ B j) w w2) := hide2 (F0.out.trans f2K (fun j e => .inl (.inl e)))
  clear o2 h2 f2 f2K
  go_wp2_with fail
  refine hK.out _ _ (⟨t1, t2⟩) (fun hHeld => ?_)
  clear hK Kq
  try simp only [Act.put, List.setIfInBounds_toArray, List.set_cons_zero, List.set_cons_succ]
  refine wpAnyH_take (i := 11) (oi := { dst := some 28, op := _, type := _, pos := _, after := _, guard := _ }) (v := ?_) rfl (by kernel_rfl) (by kernel_rfl) (by kernel_rfl) (fun _ _ _ h => h) (Or.inl ⟨by rfl, ?_⟩) (by assumption) ?_
  rotate_left 1
  · intro u hSw; obtain ⟨s1, s2⟩ := hSw; go_simp; try with_reducible rfl
  try simp only [Act.put, List.setIfInBounds_toArray, List.set_cons_zero, List.set_cons_succ]
  refine wpAnyH_take (i := 12) (oi := { dst := some 29, op := _, type := _, pos := _, after := _, guard := _ }) (v := ?_) rfl (by kernel_rfl) (by kernel_rfl) (by kernel_rfl) (fun _ _ _ h => h) (Or.inl ⟨by rfl, ?_⟩) (by assumption) ?_
  rotate_left 1
  · intro u hSw; obtain ⟨s1, s2⟩ := hSw; go_simp; try with_reducible rfl
  try simp only [Act.put, List.setIfInBounds_toArray, List.set_cons_zero, List.set_cons_succ]
  obtain ⟨w3, hw3⟩ : ∃ y, y = w2.setCell ⟨ob, 23 + l * 2 + 1, none⟩ (.int .u64 (num : Int)) := ⟨_, rfl⟩
  have x3 : Ob w3 B ob lb cv (o.seen num) ∧ Fr B w2 w3 := by
    have q := O2.out.put1 (O2.out.om.setPn (l := l) hl num) rfl
    have e : upd o.pn o.lv num = upd o.pn l num := by rw [HLV.out]
    rw [hw3]
    show Ob _ B ob lb cv { o with pn := upd o.pn o.lv num } ∧ _
    rw [e]
    exact q
  have h3 := H2.out.keep x3.2 HKB.out HO.out.b0
  have u1 : w3.cell? ⟨ob, 22, none⟩ = some (.int .i64 (l : Int)) := by have := x3.1.om.cells.2.2.2.2.2.1; rw [show (o.seen num).lv = l from HLV.out] at this; exact this
  have u2 : w3.cell? ⟨ob, 23 + l * 2, none⟩ = some (.int .i64 (i : Int)) := by have := x3.1.om.ptAt (l := l) hl; rw [show (o.seen num).pt l = i from HPT.out] at this; exact this
  have u3 : w3.cell? ⟨ob, 23 + l * 2 + 1, none⟩ = some (.int .u64 (num : Int)) := by have := x3.1.om.pnAt (l := l) hl; rw [show (o.seen num).pn l = num by unfold Opm.seen; show upd _ _ _ _ = _; rw [HLV.out, upd_same]] at this; exact this
  have X3 := hide2 x3
  have H3 := hide2 h3
  have hob3 := x3.1.om.lt
  refine wpAnyH_ready (rs := [13]) (by kernel_rfl) (by simp) ?_
  refine AllReadyH.cons (o := { dst := none, op := _, type := _, pos := _, after := _, guard := _ }) rfl (fun Kq hK => ?_) AllReadyH.nil
  clear hHeld
  go_simp
  go_wp2_with fail
  rw [← hw3]
  refine hK.out _ _ (⟨u1, u2⟩) (fun hHeld => ?_)
  clear hK Kq
  try simp only [Act.put, List.setIfInBounds_toArray, List.set_cons_zero, List.set_cons_succ]
  refine wpAnyH_done (by kernel_rfl) ?_ _
  refine NoPanic.normal ?_
  have HB4 : Hid (Calls Tryd.prog 55 #[.pointer (some ⟨lb, 0, none⟩), .agg #[.int .i64 (i : Int), .int .u64 (num : Int)], .int .i64 (l : Int)] w3.drew fun e w' => e = .returned (.int .i64 (to : Int)) ∧ Lm w' K lb d g gt tc sv T N (m + 1) F s ∧ Ob w' B ob lb cv (o.seen num) ∧ Fr (fun _ => False) w3 w') := hide2 (((H3.out.drewn 1).behind hi hl hnum).mono (by
    rintro e w' ⟨rfl, q⟩
    exact ⟨by rw [HTO.out], (H3.out.drewn 1).below q, (X3.out.1.drewn 1).below q, ((Fr.refl (fun _ => False) w3).drewN 1).trans (Fr.below (F := fun _ => False) q) (fun j e => .inl e)⟩))
  clear x3 h3 hw3 t1 t2 t3 t4 hHeld s1 s2 HC
  go_wp2
  refine wp_region_noPanic ?_
  refine wp_region_held_drew (S := (fun u : World => u.cell? ⟨ob, 22, none⟩ = some (.int .i64 (l : Int)) ∧ u.cell? ⟨ob, 23 + l * 2, none⟩ = some (.int .i64 (i : Int)) ∧ u.cell? ⟨ob, 23 + l * 2 + 1, none⟩ = some (.int .u64 (num : Int)))) (by kernel_rfl) (⟨u1, u2, u3⟩) (fun hHeld => ?_)
  refine wpAnyH_take (i := 0) (oi := { dst := some 30, op := _, type := _, pos := _, after := _, guard := _ }) (v := ?_) rfl (by kernel_rfl) (by kernel_rfl) (by kernel_rfl) (fun _ _ _ h => h) (Or.inl ⟨by rfl, ?_⟩) (by assumption) ?_
  rotate_left 1
  · intro u hSw; obtain ⟨s1, s2, s3⟩ := hSw; go_simp; try with_reducible rfl
  try simp only [Act.put, List.setIfInBounds_toArray, List.set_cons_zero, List.set_cons_succ]
  refine wpAnyH_take (i := 1) (oi := { dst := some 31, op := _, type := _, pos := _, after := _, guard := _ }) (v := ?_) rfl (by kernel_rfl) (by kernel_rfl) (by kernel_rfl) (fun _ _ _ h => h) (Or.inl ⟨by rfl, ?_⟩) (by assumption) ?_
  rotate_left 1
  · intro u hSw; obtain ⟨s1, s2, s3⟩ := hSw; go_simp; try with_reducible rfl
  try simp only [Act.put, List.setIfInBounds_toArray, List.set_cons_zero, List.set_cons_succ]
  refine wpAnyH_take (i := 2) (oi := { dst := some 32, op := _, type := _, pos := _, after := _, guard := _ }) (v := ?_) rfl (by kernel_rfl) (by kernel_rfl) (by kernel_rfl) (fun _ _ _ h => h) (Or.inl ⟨by rfl, ?_⟩) (by assumption) ?_
  rotate_left 1
  · intro u hSw; obtain ⟨s1, s2, s3⟩ := hSw; go_simp; try with_reducible rfl
  try simp only [Act.put, List.setIfInBounds_toArray, List.set_cons_zero, List.set_cons_succ]
  refine wpAnyH_take (i := 3) (oi := { dst := some 33, op := _, type := _, pos := _, after := _, guard := _ }) (v := ?_) rfl (by kernel_rfl) (by kernel_rfl) (by kernel_rfl) (fun _ _ _ h => h) (Or.inl ⟨by rfl, ?_⟩) (by assumption) ?_
  rotate_left 1
  · intro u hSw; obtain ⟨s1, s2, s3⟩ := hSw; go_simp; try with_reducible rfl
  try simp only [Act.put, List.setIfInBounds_toArray, List.set_cons_zero, List.set_cons_succ]
  refine wpAnyH_take (i := 4) (oi := { dst := some 34, op := _, type := _, pos := _, after := _, guard := _ }) (v := ?_) rfl (by kernel_rfl) (by kernel_rfl) (by kernel_rfl) (fun _ _ _ h => h) (Or.inl ⟨by rfl, ?_⟩) (by assumption) ?_
  rotate_left 1
  · intro u hSw; obtain ⟨s1, s2, s3⟩ := hSw; go_simp; try with_reducible rfl
  try simp only [Act.put, List.setIfInBounds_toArray, List.set_cons_zero, List.set_cons_succ]
  refine wpAnyH_take (i := 5) (oi := { dst := some 35, op := _, type := _, pos := _, after := _, guard := _ }) (v := ?_) rfl (by kernel_rfl) (by kernel_rfl) (by kernel_rfl) (fun _ _ _ h => h) (Or.inl ⟨by rfl, ?_⟩) (by assumption) ?_
  rotate_left 1
  · intro u hSw; obtain ⟨s1, s2, s3⟩ := hSw; go_simp; try with_reducible rfl
  try simp only [Act.put, List.setIfInBounds_toArray, List.set_cons_zero, List.set_cons_succ]
  refine wpAnyH_take (i := 6) (oi := { dst := some 36, op := _, type := _, pos := _, after := _, guard := _ }) (v := ?_) rfl (by kernel_rfl) (by kernel_rfl) (by kernel_rfl) (fun _ _ _ h => h) (Or.inl ⟨by rfl, ?_⟩) (by assumption) ?_
  rotate_left 1
  · intro u hSw; obtain ⟨s1, s2, s3⟩ := hSw; go_simp; try with_reducible rfl
  try simp only [Act.put, List.setIfInBounds_toArray, List.set_cons_zero, List.set_cons_succ]
  refine wpAnyH_take (i := 7) (oi := { dst := some 37, op := _, type := _, pos := _, after := _, guard := _ }) (v := ?_) rfl (by kernel_rfl) (by kernel_rfl) (by kernel_rfl) (fun _ _ _ h => h) (Or.inl ⟨by rfl, ?_⟩) (by assumption) ?_
  rotate_left 1
  · intro u hSw; obtain ⟨s1, s2, s3⟩ := hSw; go_simp; try with_reducible rfl
  try simp only [Act.put, List.setIfInBounds_toArray, List.set_cons_zero, List.set_cons_succ]
  refine wpAnyH_ready (rs := [8]) (by kernel_rfl) (by simp) ?_
  refine AllReadyH.cons (o := { dst := some 38, op := _, type := _, pos := _, after := _, guard := _ }) rfl (fun Kq hK => ?_) AllReadyH.nil
  obtain ⟨s1, s2, s3⟩ := hHeld
  go_simp
  refine HB4.out.mono ?_
  rintro e w4 ⟨rfl, h4, o4, f4⟩
  have v1 := (f4.cell (p := ⟨ob, 22, none⟩) hob3 (fun e => e)).trans u1
  have v2 := (f4.cell (p := ⟨ob, 23 + l * 2, none⟩) hob3 (fun e => e)).trans u2
  have v3 := (f4.cell (p := ⟨ob, 23 + l * 2 + 1, none⟩) hob3 (fun e => e)).trans u3
  have H4 := hide2 h4
  have O4 := hide2 o4
  have F4 : Hid (Fr (fun j => K j ∨ B j) w w4) := hide2 ((F2.out.trans X3.out.2 (fun j e => .inl (.inr e))).trans f4 (fun j e => e.elim))
  clear h4 o4 f4
  go_wp2_with fail
  refine hK.out _ _ (⟨v1, v2, v3⟩) (fun hHeld => ?_)
  clear hK Kq
  try simp only [Act.put, List.setIfInBounds_toArray, List.set_cons_zero, List.set_cons_succ]
  refine wpAnyH_take (i := 9) (oi := { dst := some 4, op := _, type := _, pos := _, after := _, guard := _ }) (v := ?_) rfl (by kernel_rfl) (by kernel_rfl) (by kernel_rfl) (fun _ _ _ h => h) (Or.inl ⟨by rfl, ?_⟩) (by assumption) ?_
  rotate_left 1
  · intro u hSw; obtain ⟨s1, s2, s3⟩ := hSw; go_simp; try with_reducible rfl
  try simp only [Act.put, List.setIfInBounds_toArray, List.set_cons_zero, List.set_cons_succ]
  refine wpAnyH_done (by kernel_rfl) ?_ _
  refine NoPanic.normal ?_
  clear hHeld u1 u2 u3 v1 v3 HB4 X3 H3 H2 O2 O0 H0 F2 F0
  have d0 : ((to : Int) == 0) = true := by rw [beq_iff_eq]; omega
  have d00 : (to : Int) = 0 := by omega
  have HLE : Hid (∀ q, Calls Tryd.prog 57 #[.pointer (some ⟨ob, 0, none⟩), .int .i64 0] (w4.drewN q) fun e w' => e = .returned (.tuple #[]) ∧ ∃ cv', Lm w' K lb d g gt tc sv T N (m + 1) F s ∧ Ob w' B ob lb cv' ((o.seen num).left s to) ∧ Fr B (w4.drewN q) w') := hide2 (fun q => by rw [← d00]; exact leave_any (H4.out.drewn q) (O4.out.drewn q) HKB.out htl (by show o.lv < 8; rw [HLV.out]; exact hl) hcl)
  go_wp2
  go_quiet (fail)
  go_wp2_with fail
  refine (HLE.out nq).mono ?_
  rintro e w6 ⟨rfl, cv', q1, q2, q3⟩
  go_wp2
  go_end0
  exact ⟨rfl, cv', q1, q2, (F4.out.trans ((Fr.refl B w4).drewN _) (fun j e => .inl (.inr e))).trans q3 (fun j e => .inl (.inr e))⟩
end
end

section
open Go.RowKit Go.Maps

section
variable {w w' : World} {K B : Nat → Prop} {lb d g gt tc : Nat} {sv : Value} {T : List Bool} {N : List Int} {m : Int} {F : List Nat} {s : Sl} {ob : Nat} {cv : Value} {o : Opm}

set_option maxRecDepth 100000 in
set_option maxHeartbeats 4000000 in
theorem look_leave (h : Lm w K lb d g gt tc sv T N m F s) (ho : Ob w B ob lb cv o) (hKB : ∀ j, K j → ¬ B j) {l i num to : Nat} (hlv : o.lv = l) (hl : l < 8) (hpt : o.pt l = i) (hi : i < s.tw.length) (ht : T.getD ((s.at i).cs l) false = true) (hN : N.getD ((s.at i).cs l) 0 = (num : Int)) (hnum : num < 4611686018427387904) (hto : to = bh s i num l) (htl : to < s.tw.length) (hm : 0 ≤ m ∧ m < 4611686018427387904) (hcl : o.cs.length ≤ 1000000) (h0 : to ≠ 0) (hlt : KL o.k < KL (s.at to).k) :
    Calls Tryd.prog 43 #[.pointer (some ⟨ob, 0, none⟩)] w fun e w' => e = .returned (.tuple #[]) ∧ ∃ cv', Lm w' K lb d g gt tc sv T N (m + 1) F s ∧ Ob w' B ob lb cv' ((o.seen num).left s to) ∧ Fr (fun j => K j ∨ B j) w w' := by
  have c := ho.om.cells
  have c0 := c.1
  have c22 := c.2.2.2.2.2.1
  rw [hlv] at c22
  have hl8 : (l : Int) < 8 := by omega
  have hob := ho.om.lt
  have H := hide2 h
  have HO := hide2 ho
  have HKB := hide2 hKB
  have HN := hide2 hN
  have HTO := hide2 hto
  have HLV := hide2 hlv
  have HPT := hide2 hpt
  clear c h ho hN hto hKB hlv hpt
  go_enter Tryd.func43, Tryd.ntmps43
  go_wp2
  go_quiet (fail)
  obtain ⟨w0, hw0⟩ : ∃ y, y = w.drewN nq := ⟨_, rfl⟩
  try rw [← hw0]
  have h0 : Lm w0 K lb d g gt tc sv T N m F s := by rw [hw0]; exact H.out.drewn nq
  have o0 : Ob w0 B ob lb cv o := by rw [hw0]; exact HO.out.drewn nq
  have F0 : Hid (Fr (fun j => K j ∨ B j) w w0) := hide2 (by rw [hw0]; exact (Fr.refl _ w).drewN nq)
  have s1 : w0.cell? ⟨ob, 22, none⟩ = some (.int .i64 (l : Int)) := by have := o0.om.cells.2.2.2.2.2.1; rw [HLV.out] at this; exact this
  have s2 : w0.cell? ⟨ob, 23 + l * 2, none⟩ = some (.int .i64 (i : Int)) := by have := o0.om.ptAt (l := l) hl; rw [HPT.out] at this; exact this
  have HC : Hid (Calls Tryd.prog 54 #[.pointer (some ⟨lb, 0, none⟩), .int .i64 (i : Int), .int .i64 (l : Int)] w0.drew fun e w' => e = .returned (.int .u64 (num : Int)) ∧ Lm w' K lb d g gt tc sv T N (m + 1) F s ∧ Fr (fun j => j = d ∨ j = g) w0 w') := hide2 (((h0.drewn 1).load hi hl ht hm).mono (by
    rintro e w' ⟨rfl, q1, q2⟩
    exact ⟨by rw [HN.out], q1, ((Fr.refl (fun j => j = d ∨ j = g) w0).drewN 1).trans q2 (fun j e => .inl e)⟩))
  have H0 := hide2 h0
  have O0 := hide2 o0
  clear h0 o0 hw0 c0 c22
  go_wp2
  refine wp_region_noPanic ?_
  refine wp_region_held_drew (S := (fun u : World => u.cell? ⟨ob, 22, none⟩ = some (.int .i64 (l : Int)) ∧ u.cell? ⟨ob, 23 + l * 2, none⟩ = some (.int .i64 (i : Int)))) (by kernel_rfl) (⟨s1, s2⟩) (fun hHeld => ?_)
  refine wpAnyH_take (i := 0) (oi := { dst := some 17, op := _, type := _, pos := _, after := _, guard := _ }) (v := ?_) rfl (by kernel_rfl) (by kernel_rfl) (by kernel_rfl) (fun _ _ _ h => h) (Or.inl ⟨by rfl, ?_⟩) (by assumption) ?_
  rotate_left 1
  · intro u hSw; obtain ⟨s1, s2⟩ := hSw; go_simp; try with_reducible rfl
  try simp only [Act.put, List.setIfInBounds_toArray, List.set_cons_zero, List.set_cons_succ]
  refine wpAnyH_take (i := 1) (oi := { dst := some 18, op := _, type := _, pos := _, after := _, guard := _ }) (v := ?_) rfl (by kernel_rfl) (by kernel_rfl) (by kernel_rfl) (fun _ _ _ h => h) (Or.inl ⟨by rfl, ?_⟩) (by assumption) ?_
  rotate_left 1
  · intro u hSw; obtain ⟨s1, s2⟩ := hSw; go_simp; try with_reducible rfl
  try simp only [Act.put, List.setIfInBounds_toArray, List.set_cons_zero, List.set_cons_succ]
  refine wpAnyH_take (i := 2) (oi := { dst := some 19, op := _, type := _, pos := _, after := _, guard := _ }) (v := ?_) rfl (by kernel_rfl) (by kernel_rfl) (by kernel_rfl) (fun _ _ _ h => h) (Or.inl ⟨by rfl, ?_⟩) (by assumption) ?_
  rotate_left 1
  · intro u hSw; obtain ⟨s1, s2⟩ := hSw; go_simp; try with_reducible rfl
  try simp only [Act.put, List.setIfInBounds_toArray, List.set_cons_zero, List.set_cons_succ]
  refine wpAnyH_take (i := 3) (oi := { dst := some 20, op := _, type := _, pos := _, after := _, guard := _ }) (v := ?_) rfl (by kernel_rfl) (by kernel_rfl) (by kernel_rfl) (fun _ _ _ h => h) (Or.inl ⟨by rfl, ?_⟩) (by assumption) ?_
  rotate_left 1
  · intro u hSw; obtain ⟨s1, s2⟩ := hSw; go_simp; try with_reducible rfl
  try simp only [Act.put, List.setIfInBounds_toArray, List.set_cons_zero, List.set_cons_succ]
  refine wpAnyH_take (i := 4) (oi := { dst := some 21, op := _, type := _, pos := _, after := _, guard := _ }) (v := ?_) rfl (by kernel_rfl) (by kernel_rfl) (by kernel_rfl) (fun _ _ _ h => h) (Or.inl ⟨by rfl, ?_⟩) (by assumption) ?_
  rotate_left 1
  · intro u hSw; obtain ⟨s1, s2⟩ := hSw; go_simp; try with_reducible rfl
  try simp only [Act.put, List.setIfInBounds_toArray, List.set_cons_zero, List.set_cons_succ]
  refine wpAnyH_take (i := 5) (oi := { dst := some 22, op := _, type := _, pos := _, after := _, guard := _ }) (v := ?_) rfl (by kernel_rfl) (by kernel_rfl) (by kernel_rfl) (fun _ _ _ h => h) (Or.inl ⟨by rfl, ?_⟩) (by assumption) ?_
  rotate_left 1
  · intro u hSw; obtain ⟨s1, s2⟩ := hSw; go_simp; try with_reducible rfl
  try simp only [Act.put, List.setIfInBounds_toArray, List.set_cons_zero, List.set_cons_succ]
  refine wpAnyH_take (i := 6) (oi := { dst := some 23, op := _, type := _, pos := _, after := _, guard := _ }) (v := ?_) rfl (by kernel_rfl) (by kernel_rfl) (by kernel_rfl) (fun _ _ _ h => h) (Or.inl ⟨by rfl, ?_⟩) (by assumption) ?_
  rotate_left 1
  · intro u hSw; obtain ⟨s1, s2⟩ := hSw; go_simp; try with_reducible rfl
  try simp only [Act.put, List.setIfInBounds_toArray, List.set_cons_zero, List.set_cons_succ]
  refine wpAnyH_take (i := 7) (oi := { dst := some 24, op := _, type := _, pos := _, after := _, guard := _ }) (v := ?_) rfl (by kernel_rfl) (by kernel_rfl) (by kernel_rfl) (fun _ _ _ h => h) (Or.inl ⟨by rfl, ?_⟩) (by assumption) ?_
  rotate_left 1
  · intro u hSw; obtain ⟨s1, s2⟩ := hSw; go_simp; try with_reducible rfl
  try simp only [Act.put, List.setIfInBounds_toArray, List.set_cons_zero, List.set_cons_succ]
  refine wpAnyH_take (i := 8) (oi := { dst := some 25, op := _, type := _, pos := _, after := _, guard := _ }) (v := ?_) rfl (by kernel_rfl) (by kernel_rfl) (by kernel_rfl) (fun _ _ _ h => h) (Or.inl ⟨by rfl, ?_⟩) (by assumption) ?_
  rotate_left 1
  · intro u hSw; obtain ⟨s1, s2⟩ := hSw; go_simp; try with_reducible rfl
  try simp only [Act.put, List.setIfInBounds_toArray, List.set_cons_zero, List.set_cons_succ]
  refine wpAnyH_take (i := 9) (oi := { dst := some 26, op := _, type := _, pos := _, after := _, guard := _ }) (v := ?_) rfl (by kernel_rfl) (by kernel_rfl) (by kernel_rfl) (fun _ _ _ h => h) (Or.inl ⟨by rfl, ?_⟩) (by assumption) ?_
  rotate_left 1
  · intro u hSw; obtain ⟨s1, s2⟩ := hSw; go_simp; try with_reducible rfl
  try simp only [Act.put, List.setIfInBounds_toArray, List.set_cons_zero, List.set_cons_succ]
  refine wpAnyH_ready (rs := [10]) (by kernel_rfl) (by simp) ?_
  refine AllReadyH.cons (o := { dst := some 27, op := _, type := _, pos := _, after := _, guard := _ }) rfl (fun Kq hK => ?_) AllReadyH.nil
  obtain ⟨s1, s2⟩ := hHeld
  go_simp
  refine HC.out.mono ?_
  rintro e w2 ⟨rfl, h2, f2⟩
  have f2K : Fr K w0 w2 := f2.mono (fun j _ e => H.out.kk j (by rcases e with e | e <;> simp [e]))
  have o2 := O0.out.keep f2K (fun j hB hK => HKB.out j hK hB)
  have t1 : w2.cell? ⟨ob, 22, none⟩ = some (.int .i64 (l : Int)) := by have := o2.om.cells.2.2.2.2.2.1; rw [HLV.out] at this; exact this
  have t2 : w2.cell? ⟨ob, 23 + l * 2, none⟩ = some (.int .i64 (i : Int)) := by have := o2.om.ptAt (l := l) hl; rw [HPT.out] at this; exact this
  have t3 := o2.om.pnAt (l := l) hl
  have t4 := o2.om.free (23 + l * 2 + 1)
  have O2 := hide2 o2
  have H2 := hide2 h2
  have F2 : Hid (Fr (fun j => K j ∨ B j) w w2) := hide2 (F0.out.trans f2K (fun j e => .inl (.inl e)))
  clear o2 h2 f2 f2K
  go_wp2_with fail
  refine hK.out _ _ (⟨t1, t2⟩) (fun hHeld => ?_)
  clear hK Kq
  try simp only [Act.put, List.setIfInBounds_toArray, List.set_cons_zero, List.set_cons_succ]
  refine wpAnyH_take (i := 11) (oi := { dst := some 28, op := _, type := _, pos := _, after := _, guard := _ }) (v := ?_) rfl (by kernel_rfl) (by kernel_rfl) (by kernel_rfl) (fun _ _ _ h => h) (Or.inl ⟨by rfl, ?_⟩) (by assumption) ?_
  rotate_left 1
  · intro u hSw; obtain ⟨s1, s2⟩ := hSw; go_simp; try with_reducible rfl
  try simp only [Act.put, List.setIfInBounds_toArray, List.set_cons_zero, List.set_cons_succ]
  refine wpAnyH_take (i := 12) (oi := { dst := some 29, op := _, type := _, pos := _, after := _, guard := _ }) (v := ?_) rfl (by kernel_rfl) (by kernel_rfl) (by kernel_rfl) (fun _ _ _ h => h) (Or.inl ⟨by rfl, ?_⟩) (by assumption) ?_
  rotate_left 1
  · intro u hSw; obtain ⟨s1, s2⟩ := hSw; go_simp; try with_reducible rfl
  try simp only [Act.put, List.setIfInBounds_toArray, List.set_cons_zero, List.set_cons_succ]
  obtain ⟨w3, hw3⟩ : ∃ y, y = w2.setCell ⟨ob, 23 + l * 2 + 1, none⟩ (.int .u64 (num : Int)) := ⟨_, rfl⟩
  have x3 : Ob w3 B ob lb cv (o.seen num) ∧ Fr B w2 w3 := by
    have q := O2.out.put1 (O2.out.om.setPn (l := l) hl num) rfl
    have e : upd o.pn o.lv num = upd o.pn l num := by rw [HLV.out]
    rw [hw3]
    show Ob _ B ob lb cv { o with pn := upd o.pn o.lv num } ∧ _
    rw [e]
    exact q
  have h3 := H2.out.keep x3.2 HKB.out HO.out.b0
  have u1 : w3.cell? ⟨ob, 22, none⟩ = some (.int .i64 (l : Int)) := by have := x3.1.om.cells.2.2.2.2.2.1; rw [show (o.seen num).lv = l from HLV.out] at this; exact this
  have u2 : w3.cell? ⟨ob, 23 + l * 2, none⟩ = some (.int .i64 (i : Int)) := by have := x3.1.om.ptAt (l := l) hl; rw [show (o.seen num).pt l = i from HPT.out] at this; exact this
  have u3 : w3.cell? ⟨ob, 23 + l * 2 + 1, none⟩ = some (.int .u64 (num : Int)) := by have := x3.1.om.pnAt (l := l) hl; rw [show (o.seen num).pn l = num by unfold Opm.seen; show upd _ _ _ _ = _; rw [HLV.out, upd_same]] at this; exact this
  have X3 := hide2 x3
  have H3 := hide2 h3
  have hob3 := x3.1.om.lt
  refine wpAnyH_ready (rs := [13]) (by kernel_rfl) (by simp) ?_
  refine AllReadyH.cons (o := { dst := none, op := _, type := _, pos := _, after := _, guard := _ }) rfl (fun Kq hK => ?_) AllReadyH.nil
  clear hHeld
  go_simp
  go_wp2_with fail
  rw [← hw3]
  refine hK.out _ _ (⟨u1, u2⟩) (fun hHeld => ?_)
  clear hK Kq
  try simp only [Act.put, List.setIfInBounds_toArray, List.set_cons_zero, List.set_cons_succ]
  refine wpAnyH_done (by kernel_rfl) ?_ _
  refine NoPanic.normal ?_
  have HB4 : Hid (Calls Tryd.prog 55 #[.pointer (some ⟨lb, 0, none⟩), .agg #[.int .i64 (i : Int), .int .u64 (num : Int)], .int .i64 (l : Int)] w3.drew fun e w' => e = .returned (.int .i64 (to : Int)) ∧ Lm w' K lb d g gt tc sv T N (m + 1) F s ∧ Ob w' B ob lb cv (o.seen num) ∧ Fr (fun _ => False) w3 w') := hide2 (((H3.out.drewn 1).behind hi hl hnum).mono (by
    rintro e w' ⟨rfl, q⟩
    exact ⟨by rw [HTO.out], (H3.out.drewn 1).below q, (X3.out.1.drewn 1).below q, ((Fr.refl (fun _ => False) w3).drewN 1).trans (Fr.below (F := fun _ => False) q) (fun j e => .inl e)⟩))
  clear x3 h3 hw3 t1 t2 t3 t4 hHeld s1 s2 HC
  go_wp2
  refine wp_region_noPanic ?_
  refine wp_region_held_drew (S := (fun u : World => u.cell? ⟨ob, 22, none⟩ = some (.int .i64 (l : Int)) ∧ u.cell? ⟨ob, 23 + l * 2, none⟩ = some (.int .i64 (i : Int)) ∧ u.cell? ⟨ob, 23 + l * 2 + 1, none⟩ = some (.int .u64 (num : Int)))) (by kernel_rfl) (⟨u1, u2, u3⟩) (fun hHeld => ?_)
  refine wpAnyH_take (i := 0) (oi := { dst := some 30, op := _, type := _, pos := _, after := _, guard := _ }) (v := ?_) rfl (by kernel_rfl) (by kernel_rfl) (by kernel_rfl) (fun _ _ _ h => h) (Or.inl ⟨by rfl, ?_⟩) (by assumption) ?_
  rotate_left 1
  · intro u hSw; obtain ⟨s1, s2, s3⟩ := hSw; go_simp; try with_reducible rfl
  try simp only [Act.put, List.setIfInBounds_toArray, List.set_cons_zero, List.set_cons_succ]
  refine wpAnyH_take (i := 1) (oi := { dst := some 31, op := _, type := _, pos := _, after := _, guard := _ }) (v := ?_) rfl (by kernel_rfl) (by kernel_rfl) (by kernel_rfl) (fun _ _ _ h => h) (Or.inl ⟨by rfl, ?_⟩) (by assumption) ?_
  rotate_left 1
  · intro u hSw; obtain ⟨s1, s2, s3⟩ := hSw; go_simp; try with_reducible rfl
  try simp only [Act.put, List.setIfInBounds_toArray, List.set_cons_zero, List.set_cons_succ]
  refine wpAnyH_take (i := 2) (oi := { dst := some 32, op := _, type := _, pos := _, after := _, guard := _ }) (v := ?_) rfl (by kernel_rfl) (by kernel_rfl) (by kernel_rfl) (fun _ _ _ h => h) (Or.inl ⟨by rfl, ?_⟩) (by assumption) ?_
  rotate_left 1
  · intro u hSw; obtain ⟨s1, s2, s3⟩ := hSw; go_simp; try with_reducible rfl
  try simp only [Act.put, List.setIfInBounds_toArray, List.set_cons_zero, List.set_cons_succ]
  refine wpAnyH_take (i := 3) (oi := { dst := some 33, op := _, type := _, pos := _, after := _, guard := _ }) (v := ?_) rfl (by kernel_rfl) (by kernel_rfl) (by kernel_rfl) (fun _ _ _ h => h) (Or.inl ⟨by rfl, ?_⟩) (by assumption) ?_
  rotate_left 1
  · intro u hSw; obtain ⟨s1, s2, s3⟩ := hSw; go_simp; try with_reducible rfl
  try simp only [Act.put, List.setIfInBounds_toArray, List.set_cons_zero, List.set_cons_succ]
  refine wpAnyH_take (i := 4) (oi := { dst := some 34, op := _, type := _, pos := _, after := _, guard := _ }) (v := ?_) rfl (by kernel_rfl) (by kernel_rfl) (by kernel_rfl) (fun _ _ _ h => h) (Or.inl ⟨by rfl, ?_⟩) (by assumption) ?_
  rotate_left 1
  · intro u hSw; obtain ⟨s1, s2, s3⟩ := hSw; go_simp; try with_reducible rfl
  try simp only [Act.put, List.setIfInBounds_toArray, List.set_cons_zero, List.set_cons_succ]
  refine wpAnyH_take (i := 5) (oi := { dst := some 35, op := _, type := _, pos := _, after := _, guard := _ }) (v := ?_) rfl (by kernel_rfl) (by kernel_rfl) (by kernel_rfl) (fun _ _ _ h => h) (Or.inl ⟨by rfl, ?_⟩) (by assumption) ?_
  rotate_left 1
  · intro u hSw; obtain ⟨s1, s2, s3⟩ := hSw; go_simp; try with_reducible rfl
  try simp only [Act.put, List.setIfInBounds_toArray, List.set_cons_zero, List.set_cons_succ]
  refine wpAnyH_take (i := 6) (oi := { dst := some 36, op := _, type := _, pos := _, after := _, guard := _ }) (v := ?_) rfl (by kernel_rfl) (by kernel_rfl) (by kernel_rfl) (fun _ _ _ h => h) (Or.inl ⟨by rfl, ?_⟩) (by assumption) ?_
  rotate_left 1
  · intro u hSw; obtain ⟨s1, s2, s3⟩ := hSw; go_simp; try with_reducible rfl
  try simp only [Act.put, List.setIfInBounds_toArray, List.set_cons_zero, List.set_cons_succ]
  refine wpAnyH_take (i := 7) (oi := { dst := some 37, op := _, type := _, pos := _, after := _, guard := _ }) (v := ?_) rfl (by kernel_rfl) (by kernel_rfl) (by kernel_rfl) (fun _ _ _ h => h) (Or.inl ⟨by rfl, ?_⟩) (by assumption) ?_
  rotate_left 1
  · intro u hSw; obtain ⟨s1, s2, s3⟩ := hSw; go_simp; try with_reducible rfl
  try simp only [Act.put, List.setIfInBounds_toArray, List.set_cons_zero, List.set_cons_succ]
  refine wpAnyH_ready (rs := [8]) (by kernel_rfl) (by simp) ?_
  refine AllReadyH.cons (o := { dst := some 38, op := _, type := _, pos := _, after := _, guard := _ }) rfl (fun Kq hK => ?_) AllReadyH.nil
  obtain ⟨s1, s2, s3⟩ := hHeld
  go_simp
  refine HB4.out.mono ?_
  rintro e w4 ⟨rfl, h4, o4, f4⟩
  have v1 := (f4.cell (p := ⟨ob, 22, none⟩) hob3 (fun e => e)).trans u1
  have v2 := (f4.cell (p := ⟨ob, 23 + l * 2, none⟩) hob3 (fun e => e)).trans u2
  have v3 := (f4.cell (p := ⟨ob, 23 + l * 2 + 1, none⟩) hob3 (fun e => e)).trans u3
  have H4 := hide2 h4
  have O4 := hide2 o4
  have F4 : Hid (Fr (fun j => K j ∨ B j) w w4) := hide2 ((F2.out.trans X3.out.2 (fun j e => .inl (.inr e))).trans f4 (fun j e => e.elim))
  clear h4 o4 f4
  go_wp2_with fail
  refine hK.out _ _ (⟨v1, v2, v3⟩) (fun hHeld => ?_)
  clear hK Kq
  try simp only [Act.put, List.setIfInBounds_toArray, List.set_cons_zero, List.set_cons_succ]
  refine wpAnyH_take (i := 9) (oi := { dst := some 4, op := _, type := _, pos := _, after := _, guard := _ }) (v := ?_) rfl (by kernel_rfl) (by kernel_rfl) (by kernel_rfl) (fun _ _ _ h => h) (Or.inl ⟨by rfl, ?_⟩) (by assumption) ?_
  rotate_left 1
  · intro u hSw; obtain ⟨s1, s2, s3⟩ := hSw; go_simp; try with_reducible rfl
  try simp only [Act.put, List.setIfInBounds_toArray, List.set_cons_zero, List.set_cons_succ]
  refine wpAnyH_done (by kernel_rfl) ?_ _
  refine NoPanic.normal ?_
  clear hHeld u1 u2 u3 v1 v3 HB4 X3 H3 H2 O2 O0 H0 F2 F0
  have HRES : Hid (decide (KL o.k < KL (s.at to).k) = true) := hide2 (decide_eq_true hlt)
  clear hlt
  have hlb := H4.out.lk.lt
  have hgt := (World.ownsRow.lt H4.out.tw gt rfl).2
  have hob4 := O4.out.om.lt
  have y1 : w4.rangeAt ob 2 (kC o.k).toList := O4.out.om.keyAt
  have y2 := H4.out.lk.cells.2.1
  have y3 := H4.out.keyAt htl
  have d0 : ((to : Int) == 0) = false := by rw [beq_eq_false_iff_ne]; omega
  have d00 : ¬ (to : Int) = 0 := by omega
  have hti : (to : Int) < (s.tw.length : Int) := by omega
  have hcap := H4.out.cap
  have HIB : Hid (Calls Tryd.prog 56 #[.agg (kC o.k), .agg (kC (s.at to).k)] w4.drew fun e w' => e = .returned (.bool true) ∧ Fr (fun _ => False) w4 w') := hide2 ((isBelow_any o.k (s.at to).k w4.drew).mono (by
    rintro e w' ⟨rfl, q⟩
    exact ⟨by rw [HRES.out], ((Fr.refl (fun _ => False) w4).drewN 1).trans (Fr.below (F := fun _ => False) q) (fun j e => .inl e)⟩))
  go_wp2
  refine wp_region_noPanic ?_
  refine wp_region_held_drew (S := (fun u : World => u.rangeAt ob 2 (kC o.k).toList ∧ u.cell? ⟨lb, 1, none⟩ = some (tvv gt s.tw.length tc) ∧ u.rangeAt gt (to * 34) (kC (s.at to).k).toList)) (by kernel_rfl) (⟨y1, y2, y3⟩) (fun hHeld => ?_)
  refine wpAnyH_take (i := 0) (oi := { dst := some 44, op := _, type := _, pos := _, after := _, guard := _ }) (v := ?_) rfl (by kernel_rfl) (by kernel_rfl) (by kernel_rfl) (fun _ _ _ h => h) (Or.inl ⟨by rfl, ?_⟩) (by assumption) ?_
  rotate_left 1
  · intro u hSw; obtain ⟨s1, s2, s3⟩ := hSw; go_simp; try with_reducible rfl
  try simp only [Act.put, List.setIfInBounds_toArray, List.set_cons_zero, List.set_cons_succ]
  refine wpAnyH_take (i := 1) (oi := { dst := some 45, op := _, type := _, pos := _, after := _, guard := _ }) (v := ?_) rfl (by kernel_rfl) (by kernel_rfl) (by kernel_rfl) (fun _ _ _ h => h) (Or.inl ⟨by rfl, ?_⟩) (by assumption) ?_
  rotate_left 1
  · intro u hSw; obtain ⟨s1, s2, s3⟩ := hSw; go_simp; try with_reducible rfl
  try simp only [Act.put, List.setIfInBounds_toArray, List.set_cons_zero, List.set_cons_succ]
  refine wpAnyH_take (i := 2) (oi := { dst := some 46, op := _, type := _, pos := _, after := _, guard := _ }) (v := ?_) rfl (by kernel_rfl) (by kernel_rfl) (by kernel_rfl) (fun _ _ _ h => h) (Or.inl ⟨by rfl, ?_⟩) (by assumption) ?_
  rotate_left 1
  · intro u hSw; obtain ⟨s1, s2, s3⟩ := hSw; go_simp; try with_reducible rfl
  try simp only [Act.put, List.setIfInBounds_toArray, List.set_cons_zero, List.set_cons_succ]
  refine wpAnyH_take (i := 3) (oi := { dst := some 47, op := _, type := _, pos := _, after := _, guard := _ }) (v := ?_) rfl (by kernel_rfl) (by kernel_rfl) (by kernel_rfl) (fun _ _ _ h => h) (Or.inl ⟨by rfl, ?_⟩) (by assumption) ?_
  rotate_left 1
  · intro u hSw; obtain ⟨s1, s2, s3⟩ := hSw; go_simp; try with_reducible rfl
  try simp only [Act.put, List.setIfInBounds_toArray, List.set_cons_zero, List.set_cons_succ]
  refine wpAnyH_take (i := 4) (oi := { dst := some 48, op := _, type := _, pos := _, after := _, guard := _ }) (v := ?_) rfl (by kernel_rfl) (by kernel_rfl) (by kernel_rfl) (fun _ _ _ h => h) (Or.inl ⟨by rfl, ?_⟩) (by assumption) ?_
  rotate_left 1
  · intro u hSw; obtain ⟨s1, s2, s3⟩ := hSw; go_simp; try with_reducible rfl
  try simp only [Act.put, List.setIfInBounds_toArray, List.set_cons_zero, List.set_cons_succ]
  refine wpAnyH_take (i := 5) (oi := { dst := some 49, op := _, type := _, pos := _, after := _, guard := _ }) (v := ?_) rfl (by kernel_rfl) (by kernel_rfl) (by kernel_rfl) (fun _ _ _ h => h) (Or.inl ⟨by rfl, ?_⟩) (by assumption) ?_
  rotate_left 1
  · intro u hSw; obtain ⟨s1, s2, s3⟩ := hSw; go_simp; try with_reducible rfl
  try simp only [Act.put, List.setIfInBounds_toArray, List.set_cons_zero, List.set_cons_succ]
  refine wpAnyH_take (i := 6) (oi := { dst := some 50, op := _, type := _, pos := _, after := _, guard := _ }) (v := .agg ((kC o.k).toList).toArray) rfl (by kernel_rfl) (by kernel_rfl) (by kernel_rfl) (fun _ _ _ h => h) (yieldsIf_load_mid (by rfl) 72 _ rfl ob 2 rfl ((kC o.k).toList) _ (fun u hu => hu.1) Tryd.underlying72 rfl (by kernel_rfl)) (by assumption) ?_
  try simp only [Act.put, List.setIfInBounds_toArray, List.set_cons_zero, List.set_cons_succ]
  refine wpAnyH_take (i := 7) (oi := { dst := some 51, op := _, type := _, pos := _, after := _, guard := _ }) (v := ?_) rfl (by kernel_rfl) (by kernel_rfl) (by kernel_rfl) (fun _ _ _ h => h) (Or.inl ⟨by rfl, ?_⟩) (by assumption) ?_
  rotate_left 1
  · intro u hSw; obtain ⟨s1, s2, s3⟩ := hSw; go_simp; try with_reducible rfl
  try simp only [Act.put, List.setIfInBounds_toArray, List.set_cons_zero, List.set_cons_succ]
  refine wpAnyH_take (i := 8) (oi := { dst := some 52, op := _, type := _, pos := _, after := _, guard := _ }) (v := ?_) rfl (by kernel_rfl) (by kernel_rfl) (by kernel_rfl) (fun _ _ _ h => h) (Or.inl ⟨by rfl, ?_⟩) (by assumption) ?_
  rotate_left 1
  · intro u hSw; obtain ⟨s1, s2, s3⟩ := hSw; go_simp; try with_reducible rfl
  try simp only [Act.put, List.setIfInBounds_toArray, List.set_cons_zero, List.set_cons_succ]
  refine wpAnyH_take (i := 9) (oi := { dst := some 53, op := _, type := _, pos := _, after := _, guard := _ }) (v := ?_) rfl (by kernel_rfl) (by kernel_rfl) (by kernel_rfl) (fun _ _ _ h => h) (Or.inl ⟨by rfl, ?_⟩) (by assumption) ?_
  rotate_left 1
  · intro u hSw; obtain ⟨s1, s2, s3⟩ := hSw; go_simp; try with_reducible rfl
  try simp only [Act.put, List.setIfInBounds_toArray, List.set_cons_zero, List.set_cons_succ]
  refine wpAnyH_take (i := 10) (oi := { dst := some 54, op := _, type := _, pos := _, after := _, guard := _ }) (v := ?_) rfl (by kernel_rfl) (by kernel_rfl) (by kernel_rfl) (fun _ _ _ h => h) (Or.inl ⟨by rfl, ?_⟩) (by assumption) ?_
  rotate_left 1
  · intro u hSw; obtain ⟨s1, s2, s3⟩ := hSw; go_simp; try with_reducible rfl
  try simp only [Act.put, List.setIfInBounds_toArray, List.set_cons_zero, List.set_cons_succ]
  refine wpAnyH_take (i := 11) (oi := { dst := some 55, op := _, type := _, pos := _, after := _, guard := _ }) (v := ?_) rfl (by kernel_rfl) (by kernel_rfl) (by kernel_rfl) (fun _ _ _ h => h) (Or.inl ⟨by rfl, ?_⟩) (by assumption) ?_
  rotate_left 1
  · intro u hSw; obtain ⟨s1, s2, s3⟩ := hSw; go_simp; try with_reducible rfl
  try simp only [Act.put, List.setIfInBounds_toArray, List.set_cons_zero, List.set_cons_succ]
  refine wpAnyH_take (i := 12) (oi := { dst := some 56, op := _, type := _, pos := _, after := _, guard := _ }) (v := ?_) rfl (by kernel_rfl) (by kernel_rfl) (by kernel_rfl) (fun _ _ _ h => h) (Or.inl ⟨by rfl, ?_⟩) (by assumption) ?_
  rotate_left 1
  · intro u hSw; obtain ⟨s1, s2, s3⟩ := hSw; go_simp; try with_reducible rfl
  try simp only [Act.put, List.setIfInBounds_toArray, List.set_cons_zero, List.set_cons_succ]
  refine wpAnyH_take (i := 13) (oi := { dst := some 57, op := _, type := _, pos := _, after := _, guard := _ }) (v := ?_) rfl (by kernel_rfl) (by kernel_rfl) (by kernel_rfl) (fun _ _ _ h => h) (Or.inl ⟨by rfl, ?_⟩) (by assumption) ?_
  rotate_left 1
  · intro u hSw; obtain ⟨s1, s2, s3⟩ := hSw; go_simp; try with_reducible rfl
  try simp only [Act.put, List.setIfInBounds_toArray, List.set_cons_zero, List.set_cons_succ]
  refine wpAnyH_take (i := 14) (oi := { dst := some 58, op := _, type := _, pos := _, after := _, guard := _ }) (v := .agg ((kC (s.at to).k).toList).toArray) rfl (by kernel_rfl) (by kernel_rfl) (by kernel_rfl) (fun _ _ _ h => h) (yieldsIf_load_mid (by rfl) 72 _ rfl gt (to * 34) rfl ((kC (s.at to).k).toList) _ (fun u hu => hu.2.2) Tryd.underlying72 rfl (by kernel_rfl)) (by assumption) ?_
  try simp only [Act.put, List.setIfInBounds_toArray, List.set_cons_zero, List.set_cons_succ]
  refine wpAnyH_ready (rs := [15]) (by kernel_rfl) (by simp) ?_
  refine AllReadyH.cons (o := { dst := some 59, op := _, type := _, pos := _, after := _, guard := _ }) rfl (fun Kq hK => ?_) AllReadyH.nil
  obtain ⟨s1, s2, s3⟩ := hHeld
  go_simp
  refine HIB.out.mono ?_
  rintro e w5 ⟨rfl, f5⟩
  have z1 : w5.rangeAt ob 2 (kC o.k).toList := fun j v hv => (f5.cell (p := ⟨ob, 2 + j, none⟩) hob4 (fun e => e)).trans (y1 j v hv)
  have z2 := (f5.cell (p := ⟨lb, 1, none⟩) hlb (fun e => e)).trans y2
  have z3 : w5.rangeAt gt (to * 34) (kC (s.at to).k).toList := fun j v hv => (f5.cell (p := ⟨gt, to * 34 + j, none⟩) hgt (fun e => e)).trans (y3 j v hv)
  have z22 := (f5.cell (p := ⟨ob, 23 + l * 2, none⟩) hob4 (fun e => e)).trans v2
  have H5 := hide2 (H4.out.keep f5 (fun _ _ e => e) (fun e => e))
  have O5 := hide2 (O4.out.keep f5 (fun _ _ e => e))
  have F5 : Hid (Fr (fun j => K j ∨ B j) w w5) := hide2 (F4.out.trans f5 (fun j e => e.elim))
  clear f5 y1 y2 y3
  go_wp2_with fail
  refine hK.out _ _ (⟨z1, z2, z3⟩) (fun hHeld => ?_)
  clear hK Kq
  try simp only [Act.put, List.setIfInBounds_toArray, List.set_cons_zero, List.set_cons_succ]
  refine wpAnyH_take (i := 16) (oi := { dst := some 60, op := _, type := _, pos := _, after := _, guard := _ }) (v := ?_) rfl (by kernel_rfl) (by kernel_rfl) (by kernel_rfl) (fun _ _ _ h => h) (Or.inl ⟨by rfl, ?_⟩) (by assumption) ?_
  rotate_left 1
  · intro u hSw; obtain ⟨s1, s2, s3⟩ := hSw; go_simp; try with_reducible rfl
  try simp only [Act.put, List.setIfInBounds_toArray, List.set_cons_zero, List.set_cons_succ]
  refine wpAnyH_take (i := 17) (oi := { dst := some 43, op := _, type := _, pos := _, after := _, guard := _ }) (v := ?_) rfl (by kernel_rfl) (by kernel_rfl) (by kernel_rfl) (fun _ _ _ h => h) (Or.inl ⟨by rfl, ?_⟩) (by assumption) ?_
  rotate_left 1
  · intro u hSw; obtain ⟨s1, s2, s3⟩ := hSw; go_simp; try with_reducible rfl
  try simp only [Act.put, List.setIfInBounds_toArray, List.set_cons_zero, List.set_cons_succ]
  refine wpAnyH_done (by kernel_rfl) ?_ _
  refine NoPanic.normal ?_
  clear hHeld HIB
  have HLE := hide2 (leave_any H5.out O5.out HKB.out htl (by show o.lv < 8; rw [HLV.out]; exact hl) hcl)
  go_wp2_with fail
  refine HLE.out.mono ?_
  rintro e w6 ⟨rfl, cv', q1, q2, q3⟩
  go_wp2
  go_end0
  exact ⟨rfl, cv', q1, q2, F5.out.trans q3 (fun j e => .inl (.inr e))⟩
end
end

section
open Go.RowKit Go.Maps

section
variable {w w' : World} {K B : Nat → Prop} {lb d g gt tc : Nat} {sv : Value} {T : List Bool} {N : List Int} {m : Int} {F : List Nat} {s : Sl} {ob : Nat} {cv : Value} {o : Opm}

set_option maxRecDepth 100000 in
set_option maxHeartbeats 4000000 in
theorem look_found (h : Lm w K lb d g gt tc sv T N m F s) (ho : Ob w B ob lb cv o) (hKB : ∀ j, K j → ¬ B j) {l i num to : Nat} (hlv : o.lv = l) (hl : l < 8) (hpt : o.pt l = i) (hi : i < s.tw.length) (ht : T.getD ((s.at i).cs l) false = true) (hN : N.getD ((s.at i).cs l) 0 = (num : Int)) (hnum : num < 4611686018427387904) (hto : to = bh s i num l) (htl : to < s.tw.length) (hm : 0 ≤ m ∧ m < 4611686018427387904) (hcl : o.cs.length ≤ 1000000) (h0 : to ≠ 0) (hlt : ¬ KL o.k < KL (s.at to).k) (heq0 : KL o.k = KL (s.at to).k) :
    Calls Tryd.prog 43 #[.pointer (some ⟨ob, 0, none⟩)] w fun e w' => e = .returned (.tuple #[]) ∧ ∃ cv', Lm w' K lb d g gt tc sv T N (m + 1) F s ∧ Ob w' B ob lb cv' ((o.seen num).ans s to true) ∧ Fr (fun j => K j ∨ B j) w w' := by
  have c := ho.om.cells
  have c0 := c.1
  have c22 := c.2.2.2.2.2.1
  rw [hlv] at c22
  have hl8 : (l : Int) < 8 := by omega
  have hob := ho.om.lt
  have H := hide2 h
  have HO := hide2 ho
  have HKB := hide2 hKB
  have HN := hide2 hN
  have HTO := hide2 hto
  have HLV := hide2 hlv
  have HPT := hide2 hpt
  clear c h ho hN hto hKB hlv hpt
  go_enter Tryd.func43, Tryd.ntmps43
  go_wp2
  go_quiet (fail)
  obtain ⟨w0, hw0⟩ : ∃ y, y = w.drewN nq := ⟨_, rfl⟩
  try rw [← hw0]
  have h0 : Lm w0 K lb d g gt tc sv T N m F s := by rw [hw0]; exact H.out.drewn nq
  have o0 : Ob w0 B ob lb cv o := by rw [hw0]; exact HO.out.drewn nq
  have F0 : Hid (Fr (fun j => K j ∨ B j) w w0) := hide2 (by rw [hw0]; exact (Fr.refl _ w).drewN nq)
  have s1 : w0.cell? ⟨ob, 22, none⟩ = some (.int .i64 (l : Int)) := by have := o0.om.cells.2.2.2.2.2.1; rw [HLV.out] at this; exact this
  have s2 : w0.cell? ⟨ob, 23 + l * 2, none⟩ = some (.int .i64 (i : Int)) := by have := o0.om.ptAt (l := l) hl; rw [HPT.out] at this; exact this
  have HC : Hid (Calls Tryd.prog 54 #[.pointer (some ⟨lb, 0, none⟩), .int .i64 (i : Int), .int .i64 (l : Int)] w0.drew fun e w' => e = .returned (.int .u64 (num : Int)) ∧ Lm w' K lb d g gt tc sv T N (m + 1) F s ∧ Fr (fun j => j = d ∨ j = g) w0 w') := hide2 (((h0.drewn 1).load hi hl ht hm).mono (by
    rintro e w' ⟨rfl, q1, q2⟩
    exact ⟨by rw [HN.out], q1, ((Fr.refl (fun j => j = d ∨ j = g) w0).drewN 1).trans q2 (fun j e => .inl e)⟩))
  have H0 := hide2 h0
  have O0 := hide2 o0
  clear h0 o0 hw0 c0 c22
  go_wp2
  refine wp_region_noPanic ?_
  refine wp_region_held_drew (S := (fun u : World => u.cell? ⟨ob, 22, none⟩ = some (.int .i64 (l : Int)) ∧ u.cell? ⟨ob, 23 + l * 2, none⟩ = some (.int .i64 (i : Int)))) (by kernel_rfl) (⟨s1, s2⟩) (fun hHeld => ?_)
  refine wpAnyH_take (i := 0) (oi := { dst := some 17, op := _, type := _, pos := _, after := _, guard := _ }) (v := ?_) rfl (by kernel_rfl) (by kernel_rfl) (by kernel_rfl) (fun _ _ _ h => h) (Or.inl ⟨by rfl, ?_⟩) (by assumption) ?_
  rotate_left 1
  · intro u hSw; obtain ⟨s1, s2⟩ := hSw; go_simp; try with_reducible rfl
  try simp only [Act.put, List.setIfInBounds_toArray, List.set_cons_zero, List.set_cons_succ]
  refine wpAnyH_take (i := 1) (oi := { dst := some 18, op := _, type := _, pos := _, after := _, guard := _ }) (v := ?_) rfl (by kernel_rfl) (by kernel_rfl) (by kernel_rfl) (fun _ _ _ h => h) (Or.inl ⟨by rfl, ?_⟩) (by assumption) ?_
  rotate_left 1
  · intro u hSw; obtain ⟨s1, s2⟩ := hSw; go_simp; try with_reducible rfl
  try simp only [Act.put, List.setIfInBounds_toArray, List.set_cons_zero, List.set_cons_succ]
  refine wpAnyH_take (i := 2) (oi := { dst := some 19, op := _, type := _, pos := _, after := _, guard := _ }) (v := ?_) rfl (by kernel_rfl) (by kernel_rfl) (by kernel_rfl) (fun _ _ _ h => h) (Or.inl ⟨by rfl, ?_⟩) (by assumption) ?_
  rotate_left 1
  · intro u hSw; obtain ⟨s1, s2⟩ := hSw; go_simp; try with_reducible rfl
  try simp only [Act.put, List.setIfInBounds_toArray, List.set_cons_zero, List.set_cons_succ]
  refine wpAnyH_take (i := 3) (oi := { dst := some 20, op := _, type := _, pos := _, after := _, guard := _ }) (v := ?_) rfl (by kernel_rfl) (by kernel_rfl) (by kernel_rfl) (fun _ _ _ h => h) (Or.inl ⟨by rfl, ?_⟩) (by assumption) ?_
  rotate_left 1
  · intro u hSw; obtain ⟨s1, s2⟩ := hSw; go_simp; try with_reducible rfl
  try simp only [Act.put, List.setIfInBounds_toArray, List.set_cons_zero, List.set_cons_succ]
  refine wpAnyH_take (i := 4) (oi := { dst := some 21, op := _, type := _, pos := _, after := _, guard := _ }) (v := ?_) rfl (by kernel_rfl) (by kernel_rfl) (by kernel_rfl) (fun _ _ _ h => h) (Or.inl ⟨by rfl, ?_⟩) (by assumption) ?_
  rotate_left 1
  · intro u hSw; obtain ⟨s1, s2⟩ := hSw; go_simp; try with_reducible rfl
  try simp only [Act.put, List.setIfInBounds_toArray, List.set_cons_zero, List.set_cons_succ]
  refine wpAnyH_take (i := 5) (oi := { dst := some 22, op := _, type := _, pos := _, after := _, guard := _ }) (v := ?_) rfl (by kernel_rfl) (by kernel_rfl) (by kernel_rfl) (fun _ _ _ h => h) (Or.inl ⟨by rfl, ?_⟩) (by assumption) ?_
  rotate_left 1
  · intro u hSw; obtain ⟨s1, s2⟩ := hSw; go_simp; try with_reducible rfl
  try simp only [Act.put, List.setIfInBounds_toArray, List.set_cons_zero, List.set_cons_succ]
  refine wpAnyH_take (i := 6) (oi := { dst := some 23, op := _, type := _, pos := _, after := _, guard := _ }) (v := ?_) rfl (by kernel_rfl) (by kernel_rfl) (by kernel_rfl) (fun _ _ _ h => h) (Or.inl ⟨by rfl, ?_⟩) (by assumption) ?_
  rotate_left 1
  · intro u hSw; obtain ⟨s1, s2⟩ := hSw; go_simp; try with_reducible rfl
  try simp only [Act.put, List.setIfInBounds_toArray, List.set_cons_zero, List.set_cons_succ]
  refine wpAnyH_take (i := 7) (oi := { dst := some 24, op := _, type := _, pos := _, after := _, guard := _ }) (v := ?_) rfl (by kernel_rfl) (by kernel_rfl) (by kernel_rfl) (fun _ _ _ h => h) (Or.inl ⟨by rfl, ?_⟩) (by assumption) ?_
  rotate_left 1
  · intro u hSw; obtain ⟨s1, s2⟩ := hSw; go_simp; try with_reducible rfl
  try simp only [Act.put, List.setIfInBounds_toArray, List.set_cons_zero, List.set_cons_succ]
  refine wpAnyH_take (i := 8) (oi := { dst := some 25, op := _, type := _, pos := _, after := _, guard := _ }) (v := ?_) rfl (by kernel_rfl) (by kernel_rfl) (by kernel_rfl) (fun _ _ _ h => h) (Or.inl ⟨by rfl, ?_⟩) (by assumption) ?_
  rotate_left 1
  · intro u hSw; obtain ⟨s1, s2⟩ := hSw; go_simp; try with_reducible rfl
  try simp only [Act.put, List.setIfInBounds_toArray, List.set_cons_zero, List.set_cons_succ]
  refine wpAnyH_take (i := 9) (oi := { dst := some 26, op := _, type := _, pos := _, after := _, guard := _ }) (v := ?_) rfl (by kernel_rfl) (by kernel_rfl) (by kernel_rfl) (fun _ _ _ h => h) (Or.inl ⟨by rfl, ?_⟩) (by assumption) ?_
  rotate_left 1
  · intro u hSw; obtain ⟨s1, s2⟩ := hSw; go_simp; try with_reducible rfl
  try simp only [Act.put, List.setIfInBounds_toArray, List.set_cons_zero, List.set_cons_succ]
  refine wpAnyH_ready (rs := [10]) (by kernel_rfl) (by simp) ?_
  refine AllReadyH.cons (o := { dst := some 27, op := _, type := _, pos := _, after := _, guard := _ }) rfl (fun Kq hK => ?_) AllReadyH.nil
  obtain ⟨s1, s2⟩ := hHeld
  go_simp
  refine HC.out.mono ?_
  rintro e w2 ⟨rfl, h2, f2⟩
  have f2K : Fr K w0 w2 := f2.mono (fun j _ e => H.out.kk j (by rcases e with e | e <;> simp [e]))
  have o2 := O0.out.keep f2K (fun j hB hK => HKB.out j hK hB)
  have t1 : w2.cell? ⟨ob, 22, none⟩ = some (.int .i64 (l : Int)) := by have := o2.om.cells.2.2.2.2.2.1; rw [HLV.out] at this; exact this
  have t2 : w2.cell? ⟨ob, 23 + l * 2, none⟩ = some (.int .i64 (i : Int)) := by have := o2.om.ptAt (l := l) hl; rw [HPT.out] at this; exact this
  have t3 := o2.om.pnAt (l := l) hl
  have t4 := o2.om.free (23 + l * 2 + 1)
  have O2 := hide2 o2
  have H2 := hide2 h2
  have F2 : Hid (Fr (fun j => K j ∨ B j) w w2) := hide2 (F0.out.trans f2K (fun j e => .inl (.inl e)))
  clear o2 h2 f2 f2K
  go_wp2_with fail
  refine hK.out _ _ (⟨t1, t2⟩) (fun hHeld => ?_)
  clear hK Kq
  try simp only [Act.put, List.setIfInBounds_toArray, List.set_cons_zero, List.set_cons_succ]
  refine wpAnyH_take (i := 11) (oi := { dst := some 28, op := _, type := _, pos := _, after := _, guard := _ }) (v := ?_) rfl (by kernel_rfl) (by kernel_rfl) (by kernel_rfl) (fun _ _ _ h => h) (Or.inl ⟨by rfl, ?_⟩) (by assumption) ?_
  rotate_left 1
  · intro u hSw; obtain ⟨s1, s2⟩ := hSw; go_simp; try with_reducible rfl
  try simp only [Act.put, List.setIfInBounds_toArray, List.set_cons_zero, List.set_cons_succ]
  refine wpAnyH_take (i := 12) (oi := { dst := some 29, op := _, type := _, pos := _, after := _, guard := _ }) (v := ?_) rfl (by kernel_rfl) (by kernel_rfl) (by kernel_rfl) (fun _ _ _ h => h) (Or.inl ⟨by rfl, ?_⟩) (by assumption) ?_
  rotate_left 1
  · intro u hSw; obtain ⟨s1, s2⟩ := hSw; go_simp; try with_reducible rfl
  try simp only [Act.put, List.setIfInBounds_toArray, List.set_cons_zero, List.set_cons_succ]
  obtain ⟨w3, hw3⟩ : ∃ y, y = w2.setCell ⟨ob, 23 + l * 2 + 1, none⟩ (.int .u64 (num : Int)) := ⟨_, rfl⟩
  have x3 : Ob w3 B ob lb cv (o.seen num) ∧ Fr B w2 w3 := by
    have q := O2.out.put1 (O2.out.om.setPn (l := l) hl num) rfl
    have e : upd o.pn o.lv num = upd o.pn l num := by rw [HLV.out]
    rw [hw3]
    show Ob _ B ob lb cv { o with pn := upd o.pn o.lv num } ∧ _
    rw [e]
    exact q
  have h3 := H2.out.keep x3.2 HKB.out HO.out.b0
  have u1 : w3.cell? ⟨ob, 22, none⟩ = some (.int .i64 (l : Int)) := by have := x3.1.om.cells.2.2.2.2.2.1; rw [show (o.seen num).lv = l from HLV.out] at this; exact this
  have u2 : w3.cell? ⟨ob, 23 + l * 2, none⟩ = some (.int .i64 (i : Int)) := by have := x3.1.om.ptAt (l := l) hl; rw [show (o.seen num).pt l = i from HPT.out] at this; exact this
  have u3 : w3.cell? ⟨ob, 23 + l * 2 + 1, none⟩ = some (.int .u64 (num : Int)) := by have := x3.1.om.pnAt (l := l) hl; rw [show (o.seen num).pn l = num by unfold Opm.seen; show upd _ _ _ _ = _; rw [HLV.out, upd_same]] at this; exact this
  have X3 := hide2 x3
  have H3 := hide2 h3
  have hob3 := x3.1.om.lt
  refine wpAnyH_ready (rs := [13]) (by kernel_rfl) (by simp) ?_
  refine AllReadyH.cons (o := { dst := none, op := _, type := _, pos := _, after := _, guard := _ }) rfl (fun Kq hK => ?_) AllReadyH.nil
  clear hHeld
  go_simp
  go_wp2_with fail
  rw [← hw3]
  refine hK.out _ _ (⟨u1, u2⟩) (fun hHeld => ?_)
  clear hK Kq
  try simp only [Act.put, List.setIfInBounds_toArray, List.set_cons_zero, List.set_cons_succ]
  refine wpAnyH_done (by kernel_rfl) ?_ _
  refine NoPanic.normal ?_
  have HB4 : Hid (Calls Tryd.prog 55 #[.pointer (some ⟨lb, 0, none⟩), .agg #[.int .i64 (i : Int), .int .u64 (num : Int)], .int .i64 (l : Int)] w3.drew fun e w' => e = .returned (.int .i64 (to : Int)) ∧ Lm w' K lb d g gt tc sv T N (m + 1) F s ∧ Ob w' B ob lb cv (o.seen num) ∧ Fr (fun _ => False) w3 w') := hide2 (((H3.out.drewn 1).behind hi hl hnum).mono (by
    rintro e w' ⟨rfl, q⟩
    exact ⟨by rw [HTO.out], (H3.out.drewn 1).below q, (X3.out.1.drewn 1).below q, ((Fr.refl (fun _ => False) w3).drewN 1).trans (Fr.below (F := fun _ => False) q) (fun j e => .inl e)⟩))
  clear x3 h3 hw3 t1 t2 t3 t4 hHeld s1 s2 HC
  go_wp2
  refine wp_region_noPanic ?_
  refine wp_region_held_drew (S := (fun u : World => u.cell? ⟨ob, 22, none⟩ = some (.int .i64 (l : Int)) ∧ u.cell? ⟨ob, 23 + l * 2, none⟩ = some (.int .i64 (i : Int)) ∧ u.cell? ⟨ob, 23 + l * 2 + 1, none⟩ = some (.int .u64 (num : Int)))) (by kernel_rfl) (⟨u1, u2, u3⟩) (fun hHeld => ?_)
  refine wpAnyH_take (i := 0) (oi := { dst := some 30, op := _, type := _, pos := _, after := _, guard := _ }) (v := ?_) rfl (by kernel_rfl) (by kernel_rfl) (by kernel_rfl) (fun _ _ _ h => h) (Or.inl ⟨by rfl, ?_⟩) (by assumption) ?_
  rotate_left 1
  · intro u hSw; obtain ⟨s1, s2, s3⟩ := hSw; go_simp; try with_reducible rfl
  try simp only [Act.put, List.setIfInBounds_toArray, List.set_cons_zero, List.set_cons_succ]
  refine wpAnyH_take (i := 1) (oi := { dst := some 31, op := _, type := _, pos := _, after := _, guard := _ }) (v := ?_) rfl (by kernel_rfl) (by kernel_rfl) (by kernel_rfl) (fun _ _ _ h => h) (Or.inl ⟨by rfl, ?_⟩) (by assumption) ?_
  rotate_left 1
  · intro u hSw; obtain ⟨s1, s2, s3⟩ := hSw; go_simp; try with_reducible rfl
  try simp only [Act.put, List.setIfInBounds_toArray, List.set_cons_zero, List.set_cons_succ]
  refine wpAnyH_take (i := 2) (oi := { dst := some 32, op := _, type := _, pos := _, after := _, guard := _ }) (v := ?_) rfl (by kernel_rfl) (by kernel_rfl) (by kernel_rfl) (fun _ _ _ h => h) (Or.inl ⟨by rfl, ?_⟩) (by assumption) ?_
  rotate_left 1
  · intro u hSw; obtain ⟨s1, s2, s3⟩ := hSw; go_simp; try with_reducible rfl
  try simp only [Act.put, List.setIfInBounds_toArray, List.set_cons_zero, List.set_cons_succ]
  refine wpAnyH_take (i := 3) (oi := { dst := some 33, op := _, type := _, pos := _, after := _, guard := _ }) (v := ?_) rfl (by kernel_rfl) (by kernel_rfl) (by kernel_rfl) (fun _ _ _ h => h) (Or.inl ⟨by rfl, ?_⟩) (by assumption) ?_
  rotate_left 1
  · intro u hSw; obtain ⟨s1, s2, s3⟩ := hSw; go_simp; try with_reducible rfl
  try simp only [Act.put, List.setIfInBounds_toArray, List.set_cons_zero, List.set_cons_succ]
  refine wpAnyH_take (i := 4) (oi := { dst := some 34, op := _, type := _, pos := _, after := _, guard := _ }) (v := ?_) rfl (by kernel_rfl) (by kernel_rfl) (by kernel_rfl) (fun _ _ _ h => h) (Or.inl ⟨by rfl, ?_⟩) (by assumption) ?_
  rotate_left 1
  · intro u hSw; obtain ⟨s1, s2, s3⟩ := hSw; go_simp; try with_reducible rfl
  try simp only [Act.put, List.setIfInBounds_toArray, List.set_cons_zero, List.set_cons_succ]
  refine wpAnyH_take (i := 5) (oi := { dst := some 35, op := _, type := _, pos := _, after := _, guard := _ }) (v := ?_) rfl (by kernel_rfl) (by kernel_rfl) (by kernel_rfl) (fun _ _ _ h => h) (Or.inl ⟨by rfl, ?_⟩) (by assumption) ?_
  rotate_left 1
  · intro u hSw; obtain ⟨s1, s2, s3⟩ := hSw; go_simp; try with_reducible rfl
  try simp only [Act.put, List.setIfInBounds_toArray, List.set_cons_zero, List.set_cons_succ]
  refine wpAnyH_take (i := 6) (oi := { dst := some 36, op := _, type := _, pos := _, after := _, guard := _ }) (v := ?_) rfl (by kernel_rfl) (by kernel_rfl) (by kernel_rfl) (fun _ _ _ h => h) (Or.inl ⟨by rfl, ?_⟩) (by assumption) ?_
  rotate_left 1
  · intro u hSw; obtain ⟨s1, s2, s3⟩ := hSw; go_simp; try with_reducible rfl
  try simp only [Act.put, List.setIfInBounds_toArray, List.set_cons_zero, List.set_cons_succ]
  refine wpAnyH_take (i := 7) (oi := { dst := some 37, op := _, type := _, pos := _, after := _, guard := _ }) (v := ?_) rfl (by kernel_rfl) (by kernel_rfl) (by kernel_rfl) (fun _ _ _ h => h) (Or.inl ⟨by rfl, ?_⟩) (by assumption) ?_
  rotate_left 1
  · intro u hSw; obtain ⟨s1, s2, s3⟩ := hSw; go_simp; try with_reducible rfl
  try simp only [Act.put, List.setIfInBounds_toArray, List.set_cons_zero, List.set_cons_succ]
  refine wpAnyH_ready (rs := [8]) (by kernel_rfl) (by simp) ?_
  refine AllReadyH.cons (o := { dst := some 38, op := _, type := _, pos := _, after := _, guard := _ }) rfl (fun Kq hK => ?_) AllReadyH.nil
  obtain ⟨s1, s2, s3⟩ := hHeld
  go_simp
  refine HB4.out.mono ?_
  rintro e w4 ⟨rfl, h4, o4, f4⟩
  have v1 := (f4.cell (p := ⟨ob, 22, none⟩) hob3 (fun e => e)).trans u1
  have v2 := (f4.cell (p := ⟨ob, 23 + l * 2, none⟩) hob3 (fun e => e)).trans u2
  have v3 := (f4.cell (p := ⟨ob, 23 + l * 2 + 1, none⟩) hob3 (fun e => e)).trans u3
  have H4 := hide2 h4
  have O4 := hide2 o4
  have F4 : Hid (Fr (fun j => K j ∨ B j) w w4) := hide2 ((F2.out.trans X3.out.2 (fun j e => .inl (.inr e))).trans f4 (fun j e => e.elim))
  clear h4 o4 f4
  go_wp2_with fail
  refine hK.out _ _ (⟨v1, v2, v3⟩) (fun hHeld => ?_)
  clear hK Kq
  try simp only [Act.put, List.setIfInBounds_toArray, List.set_cons_zero, List.set_cons_succ]
  refine wpAnyH_take (i := 9) (oi := { dst := some 4, op := _, type := _, pos := _, after := _, guard := _ }) (v := ?_) rfl (by kernel_rfl) (by kernel_rfl) (by kernel_rfl) (fun _ _ _ h => h) (Or.inl ⟨by rfl, ?_⟩) (by assumption) ?_
  rotate_left 1
  · intro u hSw; obtain ⟨s1, s2, s3⟩ := hSw; go_simp; try with_reducible rfl
  try simp only [Act.put, List.setIfInBounds_toArray, List.set_cons_zero, List.set_cons_succ]
  refine wpAnyH_done (by kernel_rfl) ?_ _
  refine NoPanic.normal ?_
  clear hHeld u1 u2 u3 v1 v3 HB4 X3 H3 H2 O2 O0 H0 F2 F0
  have HRES : Hid (decide (KL o.k < KL (s.at to).k) = false) := hide2 (decide_eq_false hlt)
  have HEQ : Hid (decide (KL o.k = KL (s.at to).k) = true) := hide2 (decide_eq_true heq0)
  clear hlt heq0
  have hlb := H4.out.lk.lt
  have hgt := (World.ownsRow.lt H4.out.tw gt rfl).2
  have hob4 := O4.out.om.lt
  have y1 : w4.rangeAt ob 2 (kC o.k).toList := O4.out.om.keyAt
  have y2 := H4.out.lk.cells.2.1
  have y3 := H4.out.keyAt htl
  have d0 : ((to : Int) == 0) = false := by rw [beq_eq_false_iff_ne]; omega
  have d00 : ¬ (to : Int) = 0 := by omega
  have hti : (to : Int) < (s.tw.length : Int) := by omega
  have hcap := H4.out.cap
  have HIB : Hid (Calls Tryd.prog 56 #[.agg (kC o.k), .agg (kC (s.at to).k)] w4.drew fun e w' => e = .returned (.bool false) ∧ Fr (fun _ => False) w4 w') := hide2 ((isBelow_any o.k (s.at to).k w4.drew).mono (by
    rintro e w' ⟨rfl, q⟩
    exact ⟨by rw [HRES.out], ((Fr.refl (fun _ => False) w4).drewN 1).trans (Fr.below (F := fun _ => False) q) (fun j e => .inl e)⟩))
  go_wp2
  refine wp_region_noPanic ?_
  refine wp_region_held_drew (S := (fun u : World => u.rangeAt ob 2 (kC o.k).toList ∧ u.cell? ⟨lb, 1, none⟩ = some (tvv gt s.tw.length tc) ∧ u.rangeAt gt (to * 34) (kC (s.at to).k).toList)) (by kernel_rfl) (⟨y1, y2, y3⟩) (fun hHeld => ?_)
  refine wpAnyH_take (i := 0) (oi := { dst := some 44, op := _, type := _, pos := _, after := _, guard := _ }) (v := ?_) rfl (by kernel_rfl) (by kernel_rfl) (by kernel_rfl) (fun _ _ _ h => h) (Or.inl ⟨by rfl, ?_⟩) (by assumption) ?_
  rotate_left 1
  · intro u hSw; obtain ⟨s1, s2, s3⟩ := hSw; go_simp; try with_reducible rfl
  try simp only [Act.put, List.setIfInBounds_toArray, List.set_cons_zero, List.set_cons_succ]
  refine wpAnyH_take (i := 1) (oi := { dst := some 45, op := _, type := _, pos := _, after := _, guard := _ }) (v := ?_) rfl (by kernel_rfl) (by kernel_rfl) (by kernel_rfl) (fun _ _ _ h => h) (Or.inl ⟨by rfl, ?_⟩) (by assumption) ?_
  rotate_left 1
  · intro u hSw; obtain ⟨s1, s2, s3⟩ := hSw; go_simp; try with_reducible rfl
  try simp only [Act.put, List.setIfInBounds_toArray, List.set_cons_zero, List.set_cons_succ]
  refine wpAnyH_take (i := 2) (oi := { dst := some 46, op := _, type := _, pos := _, after := _, guard := _ }) (v := ?_) rfl (by kernel_rfl) (by kernel_rfl) (by kernel_rfl) (fun _ _ _ h => h) (Or.inl ⟨by rfl, ?_⟩) (by assumption) ?_
  rotate_left 1
  · intro u hSw; obtain ⟨s1, s2, s3⟩ := hSw; go_simp; try with_reducible rfl
  try simp only [Act.put, List.setIfInBounds_toArray, List.set_cons_zero, List.set_cons_succ]
  refine wpAnyH_take (i := 3) (oi := { dst := some 47, op := _, type := _, pos := _, after := _, guard := _ }) (v := ?_) rfl (by kernel_rfl) (by kernel_rfl) (by kernel_rfl) (fun _ _ _ h => h) (Or.inl ⟨by rfl, ?_⟩) (by assumption) ?_
  rotate_left 1
  · intro u hSw; obtain ⟨s1, s2, s3⟩ := hSw; go_simp; try with_reducible rfl
  try simp only [Act.put, List.setIfInBounds_toArray, List.set_cons_zero, List.set_cons_succ]
  refine wpAnyH_take (i := 4) (oi := { dst := some 48, op := _, type := _, pos := _, after := _, guard := _ }) (v := ?_) rfl (by kernel_rfl) (by kernel_rfl) (by kernel_rfl) (fun _ _ _ h => h) (Or.inl ⟨by rfl, ?_⟩) (by assumption) ?_
  rotate_left 1
  · intro u hSw; obtain ⟨s1, s2, s3⟩ := hSw; go_simp; try with_reducible rfl
  try simp only [Act.put, List.setIfInBounds_toArray, List.set_cons_zero, List.set_cons_succ]
  refine wpAnyH_take (i := 5) (oi := { dst := some 49, op := _, type := _, pos := _, after := _, guard := _ }) (v := ?_) rfl (by kernel_rfl) (by kernel_rfl) (by kernel_rfl) (fun _ _ _ h => h) (Or.inl ⟨by rfl, ?_⟩) (by assumption) ?_
  rotate_left 1
  · intro u hSw; obtain ⟨s1, s2, s3⟩ := hSw; go_simp; try with_reducible rfl
  try simp only [Act.put, List.setIfInBounds_toArray, List.set_cons_zero, List.set_cons_succ]
  refine wpAnyH_take (i := 6) (oi := { dst := some 50, op := _, type := _, pos := _, after := _, guard := _ }) (v := .agg ((kC o.k).toList).toArray) rfl (by kernel_rfl) (by kernel_rfl) (by kernel_rfl) (fun _ _ _ h => h) (yieldsIf_load_mid (by rfl) 72 _ rfl ob 2 rfl ((kC o.k).toList) _ (fun u hu => hu.1) Tryd.underlying72 rfl (by kernel_rfl)) (by assumption) ?_
  try simp only [Act.put, List.setIfInBounds_toArray, List.set_cons_zero, List.set_cons_succ]
  refine wpAnyH_take (i := 7) (oi := { dst := some 51, op := _, type := _, pos := _, after := _, guard := _ }) (v := ?_) rfl (by kernel_rfl) (by kernel_rfl) (by kernel_rfl) (fun _ _ _ h => h) (Or.inl ⟨by rfl, ?_⟩) (by assumption) ?_
  rotate_left 1
  · intro u hSw; obtain ⟨s1, s2, s3⟩ := hSw; go_simp; try with_reducible rfl
  try simp only [Act.put, List.setIfInBounds_toArray, List.set_cons_zero, List.set_cons_succ]
  refine wpAnyH_take (i := 8) (oi := { dst := some 52, op := _, type := _, pos := _, after := _, guard := _ }) (v := ?_) rfl (by kernel_rfl) (by kernel_rfl) (by kernel_rfl) (fun _ _ _ h => h) (Or.inl ⟨by rfl, ?_⟩) (by assumption) ?_
  rotate_left 1
  · intro u hSw; obtain ⟨s1, s2, s3⟩ := hSw; go_simp; try with_reducible rfl
  try simp only [Act.put, List.setIfInBounds_toArray, List.set_cons_zero, List.set_cons_succ]
  refine wpAnyH_take (i := 9) (oi := { dst := some 53, op := _, type := _, pos := _, after := _, guard := _ }) (v := ?_) rfl (by kernel_rfl) (by kernel_rfl) (by kernel_rfl) (fun _ _ _ h => h) (Or.inl ⟨by rfl, ?_⟩) (by assumption) ?_
  rotate_left 1
  · intro u hSw; obtain ⟨s1, s2, s3⟩ := hSw; go_simp; try with_reducible rfl
  try simp only [Act.put, List.setIfInBounds_toArray, List.set_cons_zero, List.set_cons_succ]
  refine wpAnyH_take (i := 10) (oi := { dst := some 54, op := _, type := _, pos := _, after := _, guard := _ }) (v := ?_) rfl (by kernel_rfl) (by kernel_rfl) (by kernel_rfl) (fun _ _ _ h => h) (Or.inl ⟨by rfl, ?_⟩) (by assumption) ?_
  rotate_left 1
  · intro u hSw; obtain ⟨s1, s2, s3⟩ := hSw; go_simp; try with_reducible rfl
  try simp only [Act.put, List.setIfInBounds_toArray, List.set_cons_zero, List.set_cons_succ]
  refine wpAnyH_take (i := 11) (oi := { dst := some 55, op := _, type := _, pos := _, after := _, guard := _ }) (v := ?_) rfl (by kernel_rfl) (by kernel_rfl) (by kernel_rfl) (fun _ _ _ h => h) (Or.inl ⟨by rfl, ?_⟩) (by assumption) ?_
  rotate_left 1
  · intro u hSw; obtain ⟨s1, s2, s3⟩ := hSw; go_simp; try with_reducible rfl
  try simp only [Act.put, List.setIfInBounds_toArray, List.set_cons_zero, List.set_cons_succ]
  refine wpAnyH_take (i := 12) (oi := { dst := some 56, op := _, type := _, pos := _, after := _, guard := _ }) (v := ?_) rfl (by kernel_rfl) (by kernel_rfl) (by kernel_rfl) (fun _ _ _ h => h) (Or.inl ⟨by rfl, ?_⟩) (by assumption) ?_
  rotate_left 1
  · intro u hSw; obtain ⟨s1, s2, s3⟩ := hSw; go_simp; try with_reducible rfl
  try simp only [Act.put, List.setIfInBounds_toArray, List.set_cons_zero, List.set_cons_succ]
  refine wpAnyH_take (i := 13) (oi := { dst := some 57, op := _, type := _, pos := _, after := _, guard := _ }) (v := ?_) rfl (by kernel_rfl) (by kernel_rfl) (by kernel_rfl) (fun _ _ _ h => h) (Or.inl ⟨by rfl, ?_⟩) (by assumption) ?_
  rotate_left 1
  · intro u hSw; obtain ⟨s1, s2, s3⟩ := hSw; go_simp; try with_reducible rfl
  try simp only [Act.put, List.setIfInBounds_toArray, List.set_cons_zero, List.set_cons_succ]
  refine wpAnyH_take (i := 14) (oi := { dst := some 58, op := _, type := _, pos := _, after := _, guard := _ }) (v := .agg ((kC (s.at to).k).toList).toArray) rfl (by kernel_rfl) (by kernel_rfl) (by kernel_rfl) (fun _ _ _ h => h) (yieldsIf_load_mid (by rfl) 72 _ rfl gt (to * 34) rfl ((kC (s.at to).k).toList) _ (fun u hu => hu.2.2) Tryd.underlying72 rfl (by kernel_rfl)) (by assumption) ?_
  try simp only [Act.put, List.setIfInBounds_toArray, List.set_cons_zero, List.set_cons_succ]
  refine wpAnyH_ready (rs := [15]) (by kernel_rfl) (by simp) ?_
  refine AllReadyH.cons (o := { dst := some 59, op := _, type := _, pos := _, after := _, guard := _ }) rfl (fun Kq hK => ?_) AllReadyH.nil
  obtain ⟨s1, s2, s3⟩ := hHeld
  go_simp
  refine HIB.out.mono ?_
  rintro e w5 ⟨rfl, f5⟩
  have z1 : w5.rangeAt ob 2 (kC o.k).toList := fun j v hv => (f5.cell (p := ⟨ob, 2 + j, none⟩) hob4 (fun e => e)).trans (y1 j v hv)
  have z2 := (f5.cell (p := ⟨lb, 1, none⟩) hlb (fun e => e)).trans y2
  have z3 : w5.rangeAt gt (to * 34) (kC (s.at to).k).toList := fun j v hv => (f5.cell (p := ⟨gt, to * 34 + j, none⟩) hgt (fun e => e)).trans (y3 j v hv)
  have z22 := (f5.cell (p := ⟨ob, 23 + l * 2, none⟩) hob4 (fun e => e)).trans v2
  have H5 := hide2 (H4.out.keep f5 (fun _ _ e => e) (fun e => e))
  have O5 := hide2 (O4.out.keep f5 (fun _ _ e => e))
  have F5 : Hid (Fr (fun j => K j ∨ B j) w w5) := hide2 (F4.out.trans f5 (fun j e => e.elim))
  clear f5 y1 y2 y3
  go_wp2_with fail
  refine hK.out _ _ (⟨z1, z2, z3⟩) (fun hHeld => ?_)
  clear hK Kq
  try simp only [Act.put, List.setIfInBounds_toArray, List.set_cons_zero, List.set_cons_succ]
  refine wpAnyH_take (i := 16) (oi := { dst := some 60, op := _, type := _, pos := _, after := _, guard := _ }) (v := ?_) rfl (by kernel_rfl) (by kernel_rfl) (by kernel_rfl) (fun _ _ _ h => h) (Or.inl ⟨by rfl, ?_⟩) (by assumption) ?_
  rotate_left 1
  · intro u hSw; obtain ⟨s1, s2, s3⟩ := hSw; go_simp; try with_reducible rfl
  try simp only [Act.put, List.setIfInBounds_toArray, List.set_cons_zero, List.set_cons_succ]
  refine wpAnyH_take (i := 17) (oi := { dst := some 43, op := _, type := _, pos := _, after := _, guard := _ }) (v := ?_) rfl (by kernel_rfl) (by kernel_rfl) (by kernel_rfl) (fun _ _ _ h => h) (Or.inl ⟨by rfl, ?_⟩) (by assumption) ?_
  rotate_left 1
  · intro u hSw; obtain ⟨s1, s2, s3⟩ := hSw; go_simp; try with_reducible rfl
  try simp only [Act.put, List.setIfInBounds_toArray, List.set_cons_zero, List.set_cons_succ]
  refine wpAnyH_done (by kernel_rfl) ?_ _
  refine NoPanic.normal ?_
  clear hHeld HIB
  have heq : ∀ u : World, (Op.equalIn 10000 72 (.agg (kC o.k)) (.agg (kC (s.at to).k))).run Tryd.prog u = .ok true u := fun u => by rw [eq_key, HEQ.out]
  go_wp2
  refine wp_region_noPanic ?_
  refine wp_region_held_drew (S := (fun u : World => u.rangeAt ob 2 (kC o.k).toList ∧ u.cell? ⟨lb, 1, none⟩ = some (tvv gt s.tw.length tc) ∧ u.rangeAt gt (to * 34) (kC (s.at to).k).toList)) (by kernel_rfl) (⟨z1, z2, z3⟩) (fun hHeld => ?_)
  refine wpAnyH_take (i := 0) (oi := { dst := some 65, op := _, type := _, pos := _, after := _, guard := _ }) (v := ?_) rfl (by kernel_rfl) (by kernel_rfl) (by kernel_rfl) (fun _ _ _ h => h) (Or.inl ⟨by rfl, ?_⟩) (by assumption) ?_
  rotate_left 1
  · intro u hSw; obtain ⟨s1, s2, s3⟩ := hSw; go_simp; try with_reducible rfl
  try simp only [Act.put, List.setIfInBounds_toArray, List.set_cons_zero, List.set_cons_succ]
  refine wpAnyH_take (i := 1) (oi := { dst := some 66, op := _, type := _, pos := _, after := _, guard := _ }) (v := ?_) rfl (by kernel_rfl) (by kernel_rfl) (by kernel_rfl) (fun _ _ _ h => h) (Or.inl ⟨by rfl, ?_⟩) (by assumption) ?_
  rotate_left 1
  · intro u hSw; obtain ⟨s1, s2, s3⟩ := hSw; go_simp; try with_reducible rfl
  try simp only [Act.put, List.setIfInBounds_toArray, List.set_cons_zero, List.set_cons_succ]
  refine wpAnyH_take (i := 2) (oi := { dst := some 67, op := _, type := _, pos := _, after := _, guard := _ }) (v := ?_) rfl (by kernel_rfl) (by kernel_rfl) (by kernel_rfl) (fun _ _ _ h => h) (Or.inl ⟨by rfl, ?_⟩) (by assumption) ?_
  rotate_left 1
  · intro u hSw; obtain ⟨s1, s2, s3⟩ := hSw; go_simp; try with_reducible rfl
  try simp only [Act.put, List.setIfInBounds_toArray, List.set_cons_zero, List.set_cons_succ]
  refine wpAnyH_take (i := 3) (oi := { dst := some 68, op := _, type := _, pos := _, after := _, guard := _ }) (v := .agg ((kC o.k).toList).toArray) rfl (by kernel_rfl) (by kernel_rfl) (by kernel_rfl) (fun _ _ _ h => h) (yieldsIf_load_mid (by rfl) 72 _ rfl ob 2 rfl ((kC o.k).toList) _ (fun u hu => hu.1) Tryd.underlying72 rfl (by kernel_rfl)) (by assumption) ?_
  try simp only [Act.put, List.setIfInBounds_toArray, List.set_cons_zero, List.set_cons_succ]
  refine wpAnyH_take (i := 4) (oi := { dst := some 69, op := _, type := _, pos := _, after := _, guard := _ }) (v := ?_) rfl (by kernel_rfl) (by kernel_rfl) (by kernel_rfl) (fun _ _ _ h => h) (Or.inl ⟨by rfl, ?_⟩) (by assumption) ?_
  rotate_left 1
  · intro u hSw; obtain ⟨s1, s2, s3⟩ := hSw; go_simp; try with_reducible rfl
  try simp only [Act.put, List.setIfInBounds_toArray, List.set_cons_zero, List.set_cons_succ]
  refine wpAnyH_take (i := 5) (oi := { dst := some 70, op := _, type := _, pos := _, after := _, guard := _ }) (v := ?_) rfl (by kernel_rfl) (by kernel_rfl) (by kernel_rfl) (fun _ _ _ h => h) (Or.inl ⟨by rfl, ?_⟩) (by assumption) ?_
  rotate_left 1
  · intro u hSw; obtain ⟨s1, s2, s3⟩ := hSw; go_simp; try with_reducible rfl
  try simp only [Act.put, List.setIfInBounds_toArray, List.set_cons_zero, List.set_cons_succ]
  refine wpAnyH_take (i := 6) (oi := { dst := some 71, op := _, type := _, pos := _, after := _, guard := _ }) (v := ?_) rfl (by kernel_rfl) (by kernel_rfl) (by kernel_rfl) (fun _ _ _ h => h) (Or.inl ⟨by rfl, ?_⟩) (by assumption) ?_
  rotate_left 1
  · intro u hSw; obtain ⟨s1, s2, s3⟩ := hSw; go_simp; try with_reducible rfl
  try simp only [Act.put, List.setIfInBounds_toArray, List.set_cons_zero, List.set_cons_succ]
  refine wpAnyH_take (i := 7) (oi := { dst := some 72, op := _, type := _, pos := _, after := _, guard := _ }) (v := ?_) rfl (by kernel_rfl) (by kernel_rfl) (by kernel_rfl) (fun _ _ _ h => h) (Or.inl ⟨by rfl, ?_⟩) (by assumption) ?_
  rotate_left 1
  · intro u hSw; obtain ⟨s1, s2, s3⟩ := hSw; go_simp; try with_reducible rfl
  try simp only [Act.put, List.setIfInBounds_toArray, List.set_cons_zero, List.set_cons_succ]
  refine wpAnyH_take (i := 8) (oi := { dst := some 73, op := _, type := _, pos := _, after := _, guard := _ }) (v := ?_) rfl (by kernel_rfl) (by kernel_rfl) (by kernel_rfl) (fun _ _ _ h => h) (Or.inl ⟨by rfl, ?_⟩) (by assumption) ?_
  rotate_left 1
  · intro u hSw; obtain ⟨s1, s2, s3⟩ := hSw; go_simp; try with_reducible rfl
  try simp only [Act.put, List.setIfInBounds_toArray, List.set_cons_zero, List.set_cons_succ]
  refine wpAnyH_take (i := 9) (oi := { dst := some 74, op := _, type := _, pos := _, after := _, guard := _ }) (v := ?_) rfl (by kernel_rfl) (by kernel_rfl) (by kernel_rfl) (fun _ _ _ h => h) (Or.inl ⟨by rfl, ?_⟩) (by assumption) ?_
  rotate_left 1
  · intro u hSw; obtain ⟨s1, s2, s3⟩ := hSw; go_simp; try with_reducible rfl
  try simp only [Act.put, List.setIfInBounds_toArray, List.set_cons_zero, List.set_cons_succ]
  refine wpAnyH_take (i := 10) (oi := { dst := some 75, op := _, type := _, pos := _, after := _, guard := _ }) (v := ?_) rfl (by kernel_rfl) (by kernel_rfl) (by kernel_rfl) (fun _ _ _ h => h) (Or.inl ⟨by rfl, ?_⟩) (by assumption) ?_
  rotate_left 1
  · intro u hSw; obtain ⟨s1, s2, s3⟩ := hSw; go_simp; try with_reducible rfl
  try simp only [Act.put, List.setIfInBounds_toArray, List.set_cons_zero, List.set_cons_succ]
  refine wpAnyH_take (i := 11) (oi := { dst := some 76, op := _, type := _, pos := _, after := _, guard := _ }) (v := .agg ((kC (s.at to).k).toList).toArray) rfl (by kernel_rfl) (by kernel_rfl) (by kernel_rfl) (fun _ _ _ h => h) (yieldsIf_load_mid (by rfl) 72 _ rfl gt (to * 34) rfl ((kC (s.at to).k).toList) _ (fun u hu => hu.2.2) Tryd.underlying72 rfl (by kernel_rfl)) (by assumption) ?_
  try simp only [Act.put, List.setIfInBounds_toArray, List.set_cons_zero, List.set_cons_succ]
  refine wpAnyH_take (i := 12) (oi := { dst := some 77, op := _, type := _, pos := _, after := _, guard := _ }) (v := ?_) rfl (by kernel_rfl) (by kernel_rfl) (by kernel_rfl) (fun _ _ _ h => h) (Or.inl ⟨by rfl, ?_⟩) (by assumption) ?_
  rotate_left 1
  · intro u hSw; obtain ⟨s1, s2, s3⟩ := hSw; go_simp; try with_reducible rfl
  try simp only [Act.put, List.setIfInBounds_toArray, List.set_cons_zero, List.set_cons_succ]
  refine wpAnyH_take (i := 13) (oi := { dst := some 64, op := _, type := _, pos := _, after := _, guard := _ }) (v := ?_) rfl (by kernel_rfl) (by kernel_rfl) (by kernel_rfl) (fun _ _ _ h => h) (Or.inl ⟨by rfl, ?_⟩) (by assumption) ?_
  rotate_left 1
  · intro u hSw; obtain ⟨s1, s2, s3⟩ := hSw; go_simp; try with_reducible rfl
  try simp only [Act.put, List.setIfInBounds_toArray, List.set_cons_zero, List.set_cons_succ]
  refine wpAnyH_done (by kernel_rfl) ?_ _
  refine NoPanic.normal ?_
  clear hHeld heq z1 z2 z3
  have HAN := hide2 (answer_any (H5.out.drewn 1) (O5.out.drewn 1) HKB.out htl true hcl)
  go_wp2_with fail
  refine HAN.out.mono ?_
  rintro e w6 ⟨rfl, cv', q1, q2, q3⟩
  go_wp2
  go_end0
  exact ⟨rfl, cv', q1, q2, (F5.out.trans ((Fr.refl B w5).drewN 1) (fun j e => .inl (.inr e))).trans q3 (fun j e => .inl (.inr e))⟩
end
end

section
open Go.RowKit Go.Maps

section
variable {w w' : World} {K B : Nat → Prop} {lb d g gt tc : Nat} {sv : Value} {T : List Bool} {N : List Int} {m : Int} {F : List Nat} {s : Sl} {ob : Nat} {cv : Value} {o : Opm}

set_option maxRecDepth 100000 in
set_option maxHeartbeats 4000000 in
theorem look_pass (h : Lm w K lb d g gt tc sv T N m F s) (ho : Ob w B ob lb cv o) (hKB : ∀ j, K j → ¬ B j) {l i num to : Nat} (hlv : o.lv = l) (hl : l < 8) (hpt : o.pt l = i) (hi : i < s.tw.length) (ht : T.getD ((s.at i).cs l) false = true) (hN : N.getD ((s.at i).cs l) 0 = (num : Int)) (hnum : num < 4611686018427387904) (hto : to = bh s i num l) (htl : to < s.tw.length) (hm : 0 ≤ m ∧ m < 4611686018427387904) (hcl : o.cs.length ≤ 1000000) (h0 : to ≠ 0) (hlt : ¬ KL o.k < KL (s.at to).k) (heq0 : ¬ KL o.k = KL (s.at to).k) :
    Calls Tryd.prog 43 #[.pointer (some ⟨ob, 0, none⟩)] w fun e w' => e = .returned (.tuple #[]) ∧ ∃ cv', Lm w' K lb d g gt tc sv T N (m + 1) F s ∧ Ob w' B ob lb cv' ({ o.seen num with pt := upd o.pt o.lv to }) ∧ Fr (fun j => K j ∨ B j) w w' := by
  have c := ho.om.cells
  have c0 := c.1
  have c22 := c.2.2.2.2.2.1
  rw [hlv] at c22
  have hl8 : (l : Int) < 8 := by omega
  have hob := ho.om.lt
  have H := hide2 h
  have HO := hide2 ho
  have HKB := hide2 hKB
  have HN := hide2 hN
  have HTO := hide2 hto
  have HLV := hide2 hlv
  have HPT := hide2 hpt
  clear c h ho hN hto hKB hlv hpt
  go_enter Tryd.func43, Tryd.ntmps43
  go_wp2
  go_quiet (fail)
  obtain ⟨w0, hw0⟩ : ∃ y, y = w.drewN nq := ⟨_, rfl⟩
  try rw [← hw0]
  have h0 : Lm w0 K lb d g gt tc sv T N m F s := by rw [hw0]; exact H.out.drewn nq
  have o0 : Ob w0 B ob lb cv o := by rw [hw0]; exact HO.out.drewn nq
  have F0 : Hid (Fr (fun j => K j ∨ B j) w w0) := hide2 (by rw [hw0]; exact (Fr.refl _ w).drewN nq)
  have s1 : w0.cell? ⟨ob, 22, none⟩ = some (.int .i64 (l : Int)) := by have := o0.om.cells.2.2.2.2.2.1; rw [HLV.out] at this; exact this
  have s2 : w0.cell? ⟨ob, 23 + l * 2, none⟩ = some (.int .i64 (i : Int)) := by have := o0.om.ptAt (l := l) hl; rw [HPT.out] at this; exact this
  have HC : Hid (Calls Tryd.prog 54 #[.pointer (some ⟨lb, 0, none⟩), .int .i64 (i : Int), .int .i64 (l : Int)] w0.drew fun e w' => e = .returned (.int .u64 (num : Int)) ∧ Lm w' K lb d g gt tc sv T N (m + 1) F s ∧ Fr (fun j => j = d ∨ j = g) w0 w') := hide2 (((h0.drewn 1).load hi hl ht hm).mono (by
    rintro e w' ⟨rfl, q1, q2⟩
    exact ⟨by rw [HN.out], q1, ((Fr.refl (fun j => j = d ∨ j = g) w0).drewN 1).trans q2 (fun j e => .inl e)⟩))
  have H0 := hide2 h0
  have O0 := hide2 o0
  clear h0 o0 hw0 c0 c22
  go_wp2
  refine wp_region_noPanic ?_
  refine wp_region_held_drew (S := (fun u : World => u.cell? ⟨ob, 22, none⟩ = some (.int .i64 (l : Int)) ∧ u.cell? ⟨ob, 23 + l * 2, none⟩ = some (.int .i64 (i : Int)))) (by kernel_rfl) (⟨s1, s2⟩) (fun hHeld => ?_)
  refine wpAnyH_take (i := 0) (oi := { dst := some 17, op := _, type := _, pos := _, after := _, guard := _ }) (v := ?_) rfl (by kernel_rfl) (by kernel_rfl) (by kernel_rfl) (fun _ _ _ h => h) (Or.inl ⟨by rfl, ?_⟩) (by assumption) ?_
  rotate_left 1
  · intro u hSw; obtain ⟨s1, s2⟩ := hSw; go_simp; try with_reducible rfl
  try simp only [Act.put, List.setIfInBounds_toArray, List.set_cons_zero, List.set_cons_succ]
  refine wpAnyH_take (i := 1) (oi := { dst := some 18, op := _, type := _, pos := _, after := _, guard := _ }) (v := ?_) rfl (by kernel_rfl) (by kernel_rfl) (by kernel_rfl) (fun _ _ _ h => h) (Or.inl ⟨by rfl, ?_⟩) (by assumption) ?_
  rotate_left 1
  · intro u hSw; obtain ⟨s1, s2⟩ := hSw; go_simp; try with_reducible rfl
  try simp only [Act.put, List.setIfInBounds_toArray, List.set_cons_zero, List.set_cons_succ]
  refine wpAnyH_take (i := 2) (oi := { dst := some 19, op := _, type := _, pos := _, after := _, guard := _ }) (v := ?_) rfl (by kernel_rfl) (by kernel_rfl) (by kernel_rfl) (fun _ _ _ h => h) (Or.inl ⟨by rfl, ?_⟩) (by assumption) ?_
  rotate_left 1
  · intro u hSw; obtain ⟨s1, s2⟩ := hSw; go_simp; try with_reducible rfl
  try simp only [Act.put, List.setIfInBounds_toArray, List.set_cons_zero, List.set_cons_succ]
  refine wpAnyH_take (i := 3) (oi := { dst := some 20, op := _, type := _, pos := _, after := _, guard := _ }) (v := ?_) rfl (by kernel_rfl) (by kernel_rfl) (by kernel_rfl) (fun _ _ _ h => h) (Or.inl ⟨by rfl, ?_⟩) (by assumption) ?_
  rotate_left 1
  · intro u hSw; obtain ⟨s1, s2⟩ := hSw; go_simp; try with_reducible rfl
  try simp only [Act.put, List.setIfInBounds_toArray, List.set_cons_zero, List.set_cons_succ]
  refine wpAnyH_take (i := 4) (oi := { dst := some 21, op := _, type := _, pos := _, after := _, guard := _ }) (v := ?_) rfl (by kernel_rfl) (by kernel_rfl) (by kernel_rfl) (fun _ _ _ h => h) (Or.inl ⟨by rfl, ?_⟩) (by assumption) ?_
  rotate_left 1
  · intro u hSw; obtain ⟨s1, s2⟩ := hSw; go_simp; try with_reducible rfl
  try simp only [Act.put, List.setIfInBounds_toArray, List.set_cons_zero, List.set_cons_succ]
  refine wpAnyH_take (i := 5) (oi := { dst := some 22, op := _, type := _, pos := _, after := _, guard := _ }) (v := ?_) rfl (by kernel_rfl) (by kernel_rfl) (by kernel_rfl) (fun _ _ _ h => h) (Or.inl ⟨by rfl, ?_⟩) (by assumption) ?_
  rotate_left 1
  · intro u hSw; obtain ⟨s1, s2⟩ := hSw; go_simp; try with_reducible rfl
  try simp only [Act.put, List.setIfInBounds_toArray, List.set_cons_zero, List.set_cons_succ]
  refine wpAnyH_take (i := 6) (oi := { dst := some 23, op := _, type := _, pos := _, after := _, guard := _ }) (v := ?_) rfl (by kernel_rfl) (by kernel_rfl) (by kernel_rfl) (fun _ _ _ h => h) (Or.inl ⟨by rfl, ?_⟩) (by assumption) ?_
  rotate_left 1
  · intro u hSw; obtain ⟨s1, s2⟩ := hSw; go_simp; try with_reducible rfl
  try simp only [Act.put, List.setIfInBounds_toArray, List.set_cons_zero, List.set_cons_succ]
  refine wpAnyH_take (i := 7) (oi := { dst := some 24, op := _, type := _, pos := _, after := _, guard := _ }) (v := ?_) rfl (by kernel_rfl) (by kernel_rfl) (by kernel_rfl) (fun _ _ _ h => h) (Or.inl ⟨by rfl, ?_⟩) (by assumption) ?_
  rotate_left 1
  · intro u hSw; obtain ⟨s1, s2⟩ := hSw; go_simp; try with_reducible rfl
  try simp only [Act.put, List.setIfInBounds_toArray, List.set_cons_zero, List.set_cons_succ]
  refine wpAnyH_take (i := 8) (oi := { dst := some 25, op := _, type := _, pos := _, after := _, guard := _ }) (v := ?_) rfl (by kernel_rfl) (by kernel_rfl) (by kernel_rfl) (fun _ _ _ h => h) (Or.inl ⟨by rfl, ?_⟩) (by assumption) ?_
  rotate_left 1
  · intro u hSw; obtain ⟨s1, s2⟩ := hSw; go_simp; try with_reducible rfl
  try simp only [Act.put, List.setIfInBounds_toArray, List.set_cons_zero, List.set_cons_succ]
  refine wpAnyH_take (i := 9) (oi := { dst := some 26, op := _, type := _, pos := _, after := _, guard := _ }) (v := ?_) rfl (by kernel_rfl) (by kernel_rfl) (by kernel_rfl) (fun _ _ _ h => h) (Or.inl ⟨by rfl, ?_⟩) (by assumption) ?_
  rotate_left 1
  · intro u hSw; obtain ⟨s1, s2⟩ := hSw; go_simp; try with_reducible rfl
  try simp only [Act.put, List.setIfInBounds_toArray, List.set_cons_zero, List.set_cons_succ]
  refine wpAnyH_ready (rs := [10]) (by kernel_rfl) (by simp) ?_
  refine AllReadyH.cons (o := { dst := some 27, op := _, type := _, pos := _, after := _, guard := _ }) rfl (fun Kq hK => ?_) AllReadyH.nil
  obtain ⟨s1, s2⟩ := hHeld
  go_simp
  refine HC.out.mono ?_
  rintro e w2 ⟨rfl, h2, f2⟩
  have f2K : Fr K w0 w2 := f2.mono (fun j _ e => H.out.kk j (by rcases e with e | e <;> simp [e]))
  have o2 := O0.out.keep f2K (fun j hB hK => HKB.out j hK hB)
  have t1 : w2.cell? ⟨ob, 22, none⟩ = some (.int .i64 (l : Int)) := by have := o2.om.cells.2.2.2.2.2.1; rw [HLV.out] at this; exact this
  have t2 : w2.cell? ⟨ob, 23 + l * 2, none⟩ = some (.int .i64 (i : Int)) := by have := o2.om.ptAt (l := l) hl; rw [HPT.out] at this; exact this
  have t3 := o2.om.pnAt (l := l) hl
  have t4 := o2.om.free (23 + l * 2 + 1)
  have O2 := hide2 o2
  have H2 := hide2 h2
  have F2 : Hid (Fr (fun j => K j ∨ B j) w w2) := hide2 (F0.out.trans f2K (fun j e => .inl (.inl e)))
  clear o2 h2 f2 f2K
  go_wp2_with fail
  refine hK.out _ _ (⟨t1, t2⟩) (fun hHeld => ?_)
  clear hK Kq
  try simp only [Act.put, List.setIfInBounds_toArray, List.set_cons_zero, List.set_cons_succ]
  refine wpAnyH_take (i := 11) (oi := { dst := some 28, op := _, type := _, pos := _, after := _, guard := _ }) (v := ?_) rfl (by kernel_rfl) (by kernel_rfl) (by kernel_rfl) (fun _ _ _ h => h) (Or.inl ⟨by rfl, ?_⟩) (by assumption) ?_
  rotate_left 1
  · intro u hSw; obtain ⟨s1, s2⟩ := hSw; go_simp; try with_reducible rfl
  try simp only [Act.put, List.setIfInBounds_toArray, List.set_cons_zero, List.set_cons_succ]
  refine wpAnyH_take (i := 12) (oi := { dst := some 29, op := _, type := _, pos := _, after := _, guard := _ }) (v := ?_) rfl (by kernel_rfl) (by kernel_rfl) (by kernel_rfl) (fun _ _ _ h => h) (Or.inl ⟨by rfl, ?_⟩) (by assumption) ?_
  rotate_left 1
  · intro u hSw; obtain ⟨s1, s2⟩ := hSw; go_simp; try with_reducible rfl
  try simp only [Act.put, List.setIfInBounds_toArray, List.set_cons_zero, List.set_cons_succ]
  obtain ⟨w3, hw3⟩ : ∃ y, y = w2.setCell ⟨ob, 23 + l * 2 + 1, none⟩ (.int .u64 (num : Int)) := ⟨_, rfl⟩
  have x3 : Ob w3 B ob lb cv (o.seen num) ∧ Fr B w2 w3 := by
    have q := O2.out.put1 (O2.out.om.setPn (l := l) hl num) rfl
    have e : upd o.pn o.lv num = upd o.pn l num := by rw [HLV.out]
    rw [hw3]
    show Ob _ B ob lb cv { o with pn := upd o.pn o.lv num } ∧ _
    rw [e]
    exact q
  have h3 := H2.out.keep x3.2 HKB.out HO.out.b0
  have u1 : w3.cell? ⟨ob, 22, none⟩ = some (.int .i64 (l : Int)) := by have := x3.1.om.cells.2.2.2.2.2.1; rw [show (o.seen num).lv = l from HLV.out] at this; exact this
  have u2 : w3.cell? ⟨ob, 23 + l * 2, none⟩ = some (.int .i64 (i : Int)) := by have := x3.1.om.ptAt (l := l) hl; rw [show (o.seen num).pt l = i from HPT.out] at this; exact this
  have u3 : w3.cell? ⟨ob, 23 + l * 2 + 1, none⟩ = some (.int .u64 (num : Int)) := by have := x3.1.om.pnAt (l := l) hl; rw [show (o.seen num).pn l = num by unfold Opm.seen; show upd _ _ _ _ = _; rw [HLV.out, upd_same]] at this; exact this
  have X3 := hide2 x3
  have H3 := hide2 h3
  have hob3 := x3.1.om.lt
  refine wpAnyH_ready (rs := [13]) (by kernel_rfl) (by simp) ?_
  refine AllReadyH.cons (o := { dst := none, op := _, type := _, pos := _, after := _, guard := _ }) rfl (fun Kq hK => ?_) AllReadyH.nil
  clear hHeld
  go_simp
  go_wp2_with fail
  rw [← hw3]
  refine hK.out _ _ (⟨u1, u2⟩) (fun hHeld => ?_)
  clear hK Kq
  try simp only [Act.put, List.setIfInBounds_toArray, List.set_cons_zero, List.set_cons_succ]
  refine wpAnyH_done (by kernel_rfl) ?_ _
  refine NoPanic.normal ?_
  have HB4 : Hid (Calls Tryd.prog 55 #[.pointer (some ⟨lb, 0, none⟩), .agg #[.int .i64 (i : Int), .int .u64 (num : Int)], .int .i64 (l : Int)] w3.drew fun e w' => e = .returned (.int .i64 (to : Int)) ∧ Lm w' K lb d g gt tc sv T N (m + 1) F s ∧ Ob w' B ob lb cv (o.seen num) ∧ Fr (fun _ => False) w3 w') := hide2 (((H3.out.drewn 1).behind hi hl hnum).mono (by
    rintro e w' ⟨rfl, q⟩
    exact ⟨by rw [HTO.out], (H3.out.drewn 1).below q, (X3.out.1.drewn 1).below q, ((Fr.refl (fun _ => False) w3).drewN 1).trans (Fr.below (F := fun _ => False) q) (fun j e => .inl e)⟩))
  clear x3 h3 hw3 t1 t2 t3 t4 hHeld s1 s2 HC
  go_wp2
  refine wp_region_noPanic ?_
  refine wp_region_held_drew (S := (fun u : World => u.cell? ⟨ob, 22, none⟩ = some (.int .i64 (l : Int)) ∧ u.cell? ⟨ob, 23 + l * 2, none⟩ = some (.int .i64 (i : Int)) ∧ u.cell? ⟨ob, 23 + l * 2 + 1, none⟩ = some (.int .u64 (num : Int)))) (by kernel_rfl) (⟨u1, u2, u3⟩) (fun hHeld => ?_)
  refine wpAnyH_take (i := 0) (oi := { dst := some 30, op := _, type := _, pos := _, after := _, guard := _ }) (v := ?_) rfl (by kernel_rfl) (by kernel_rfl) (by kernel_rfl) (fun _ _ _ h => h) (Or.inl ⟨by rfl, ?_⟩) (by assumption) ?_
  rotate_left 1
  · intro u hSw; obtain ⟨s1, s2, s3⟩ := hSw; go_simp; try with_reducible rfl
  try simp only [Act.put, List.setIfInBounds_toArray, List.set_cons_zero, List.set_cons_succ]
  refine wpAnyH_take (i := 1) (oi := { dst := some 31, op := _, type := _, pos := _, after := _, guard := _ }) (v := ?_) rfl (by kernel_rfl) (by kernel_rfl) (by kernel_rfl) (fun _ _ _ h => h) (Or.inl ⟨by rfl, ?_⟩) (by assumption) ?_
  rotate_left 1
  · intro u hSw; obtain ⟨s1, s2, s3⟩ := hSw; go_simp; try with_reducible rfl
  try simp only [Act.put, List.setIfInBounds_toArray, List.set_cons_zero, List.set_cons_succ]
  refine wpAnyH_take (i := 2) (oi := { dst := some 32, op := _, type := _, pos := _, after := _, guard := _ }) (v := ?_) rfl (by kernel_rfl) (by kernel_rfl) (by kernel_rfl) (fun _ _ _ h => h) (Or.inl ⟨by rfl, ?_⟩) (by assumption) ?_
  rotate_left 1
  · intro u hSw; obtain ⟨s1, s2, s3⟩ := hSw; go_simp; try with_reducible rfl
  try simp only [Act.put, List.setIfInBounds_toArray, List.set_cons_zero, List.set_cons_succ]
  refine wpAnyH_take (i := 3) (oi := { dst := some 33, op := _, type := _, pos := _, after := _, guard := _ }) (v := ?_) rfl (by kernel_rfl) (by kernel_rfl) (by kernel_rfl) (fun _ _ _ h => h) (Or.inl ⟨by rfl, ?_⟩) (by assumption) ?_
  rotate_left 1
  · intro u hSw; obtain ⟨s1, s2, s3⟩ := hSw; go_simp; try with_reducible rfl
  try simp only [Act.put, List.setIfInBounds_toArray, List.set_cons_zero, List.set_cons_succ]
  refine wpAnyH_take (i := 4) (oi := { dst := some 34, op := _, type := _, pos := _, after := _, guard := _ }) (v := ?_) rfl (by kernel_rfl) (by kernel_rfl) (by kernel_rfl) (fun _ _ _ h => h) (Or.inl ⟨by rfl, ?_⟩) (by assumption) ?_
  rotate_left 1
  · intro u hSw; obtain ⟨s1, s2, s3⟩ := hSw; go_simp; try with_reducible rfl
  try simp only [Act.put, List.setIfInBounds_toArray, List.set_cons_zero, List.set_cons_succ]
  refine wpAnyH_take (i := 5) (oi := { dst := some 35, op := _, type := _, pos := _, after := _, guard := _ }) (v := ?_) rfl (by kernel_rfl) (by kernel_rfl) (by kernel_rfl) (fun _ _ _ h => h) (Or.inl ⟨by rfl, ?_⟩) (by assumption) ?_
  rotate_left 1
  · intro u hSw; obtain ⟨s1, s2, s3⟩ := hSw; go_simp; try with_reducible rfl
  try simp only [Act.put, List.setIfInBounds_toArray, List.set_cons_zero, List.set_cons_succ]
  refine wpAnyH_take (i := 6) (oi := { dst := some 36, op := _, type := _, pos := _, after := _, guard := _ }) (v := ?_) rfl (by kernel_rfl) (by kernel_rfl) (by kernel_rfl) (fun _ _ _ h => h) (Or.inl ⟨by rfl, ?_⟩) (by assumption) ?_
  rotate_left 1
  · intro u hSw; obtain ⟨s1, s2, s3⟩ := hSw; go_simp; try with_reducible rfl
  try simp only [Act.put, List.setIfInBounds_toArray, List.set_cons_zero, List.set_cons_succ]
  refine wpAnyH_take (i := 7) (oi := { dst := some 37, op := _, type := _, pos := _, after := _, guard := _ }) (v := ?_) rfl (by kernel_rfl) (by kernel_rfl) (by kernel_rfl) (fun _ _ _ h => h) (Or.inl ⟨by rfl, ?_⟩) (by assumption) ?_
  rotate_left 1
  · intro u hSw; obtain ⟨s1, s2, s3⟩ := hSw; go_simp; try with_reducible rfl
  try simp only [Act.put, List.setIfInBounds_toArray, List.set_cons_zero, List.set_cons_succ]
  refine wpAnyH_ready (rs := [8]) (by kernel_rfl) (by simp) ?_
  refine AllReadyH.cons (o := { dst := some 38, op := _, type := _, pos := _, after := _, guard := _ }) rfl (fun Kq hK => ?_) AllReadyH.nil
  obtain ⟨s1, s2, s3⟩ := hHeld
  go_simp
  refine HB4.out.mono ?_
  rintro e w4 ⟨rfl, h4, o4, f4⟩
  have v1 := (f4.cell (p := ⟨ob, 22, none⟩) hob3 (fun e => e)).trans u1
  have v2 := (f4.cell (p := ⟨ob, 23 + l * 2, none⟩) hob3 (fun e => e)).trans u2
  have v3 := (f4.cell (p := ⟨ob, 23 + l * 2 + 1, none⟩) hob3 (fun e => e)).trans u3
  have H4 := hide2 h4
  have O4 := hide2 o4
  have F4 : Hid (Fr (fun j => K j ∨ B j) w w4) := hide2 ((F2.out.trans X3.out.2 (fun j e => .inl (.inr e))).trans f4 (fun j e => e.elim))
  clear h4 o4 f4
  go_wp2_with fail
  refine hK.out _ _ (⟨v1, v2, v3⟩) (fun hHeld => ?_)
  clear hK Kq
  try simp only [Act.put, List.setIfInBounds_toArray, List.set_cons_zero, List.set_cons_succ]
  refine wpAnyH_take (i := 9) (oi := { dst := some 4, op := _, type := _, pos := _, after := _, guard := _ }) (v := ?_) rfl (by kernel_rfl) (by kernel_rfl) (by kernel_rfl) (fun _ _ _ h => h) (Or.inl ⟨by rfl, ?_⟩) (by assumption) ?_
  rotate_left 1
  · intro u hSw; obtain ⟨s1, s2, s3⟩ := hSw; go_simp; try with_reducible rfl
  try simp only [Act.put, List.setIfInBounds_toArray, List.set_cons_zero, List.set_cons_succ]
  refine wpAnyH_done (by kernel_rfl) ?_ _
  refine NoPanic.normal ?_
  clear hHeld u1 u2 u3 v1 v3 HB4 X3 H3 H2 O2 O0 H0 F2 F0
  have HRES : Hid (decide (KL o.k < KL (s.at to).k) = false) := hide2 (decide_eq_false hlt)
  have HEQ : Hid (decide (KL o.k = KL (s.at to).k) = false) := hide2 (decide_eq_false heq0)
  clear hlt heq0
  have hlb := H4.out.lk.lt
  have hgt := (World.ownsRow.lt H4.out.tw gt rfl).2
  have hob4 := O4.out.om.lt
  have y1 : w4.rangeAt ob 2 (kC o.k).toList := O4.out.om.keyAt
  have y2 := H4.out.lk.cells.2.1
  have y3 := H4.out.keyAt htl
  have d0 : ((to : Int) == 0) = false := by rw [beq_eq_false_iff_ne]; omega
  have d00 : ¬ (to : Int) = 0 := by omega
  have hti : (to : Int) < (s.tw.length : Int) := by omega
  have hcap := H4.out.cap
  have HIB : Hid (Calls Tryd.prog 56 #[.agg (kC o.k), .agg (kC (s.at to).k)] w4.drew fun e w' => e = .returned (.bool false) ∧ Fr (fun _ => False) w4 w') := hide2 ((isBelow_any o.k (s.at to).k w4.drew).mono (by
    rintro e w' ⟨rfl, q⟩
    exact ⟨by rw [HRES.out], ((Fr.refl (fun _ => False) w4).drewN 1).trans (Fr.below (F := fun _ => False) q) (fun j e => .inl e)⟩))
  go_wp2
  refine wp_region_noPanic ?_
  refine wp_region_held_drew (S := (fun u : World => u.rangeAt ob 2 (kC o.k).toList ∧ u.cell? ⟨lb, 1, none⟩ = some (tvv gt s.tw.length tc) ∧ u.rangeAt gt (to * 34) (kC (s.at to).k).toList)) (by kernel_rfl) (⟨y1, y2, y3⟩) (fun hHeld => ?_)
  refine wpAnyH_take (i := 0) (oi := { dst := some 44, op := _, type := _, pos := _, after := _, guard := _ }) (v := ?_) rfl (by kernel_rfl) (by kernel_rfl) (by kernel_rfl) (fun _ _ _ h => h) (Or.inl ⟨by rfl, ?_⟩) (by assumption) ?_
  rotate_left 1
  · intro u hSw; obtain ⟨s1, s2, s3⟩ := hSw; go_simp; try with_reducible rfl
  try simp only [Act.put, List.setIfInBounds_toArray, List.set_cons_zero, List.set_cons_succ]
  refine wpAnyH_take (i := 1) (oi := { dst := some 45, op := _, type := _, pos := _, after := _, guard := _ }) (v := ?_) rfl (by kernel_rfl) (by kernel_rfl) (by kernel_rfl) (fun _ _ _ h => h) (Or.inl ⟨by rfl, ?_⟩) (by assumption) ?_
  rotate_left 1
  · intro u hSw; obtain ⟨s1, s2, s3⟩ := hSw; go_simp; try with_reducible rfl
  try simp only [Act.put, List.setIfInBounds_toArray, List.set_cons_zero, List.set_cons_succ]
  refine wpAnyH_take (i := 2) (oi := { dst := some 46, op := _, type := _, pos := _, after := _, guard := _ }) (v := ?_) rfl (by kernel_rfl) (by kernel_rfl) (by kernel_rfl) (fun _ _ _ h => h) (Or.inl ⟨by rfl, ?_⟩) (by assumption) ?_
  rotate_left 1
  · intro u hSw; obtain ⟨s1, s2, s3⟩ := hSw; go_simp; try with_reducible rfl
  try simp only [Act.put, List.setIfInBounds_toArray, List.set_cons_zero, List.set_cons_succ]
  refine wpAnyH_take (i := 3) (oi := { dst := some 47, op := _, type := _, pos := _, after := _, guard := _ }) (v := ?_) rfl (by kernel_rfl) (by kernel_rfl) (by kernel_rfl) (fun _ _ _ h => h) (Or.inl ⟨by rfl, ?_⟩) (by assumption) ?_
  rotate_left 1
  · intro u hSw; obtain ⟨s1, s2, s3⟩ := hSw; go_simp; try with_reducible rfl
  try simp only [Act.put, List.setIfInBounds_toArray, List.set_cons_zero, List.set_cons_succ]
  refine wpAnyH_take (i := 4) (oi := { dst := some 48, op := _, type := _, pos := _, after := _, guard := _ }) (v := ?_) rfl (by kernel_rfl) (by kernel_rfl) (by kernel_rfl) (fun _ _ _ h => h) (Or.inl ⟨by rfl, ?_⟩) (by assumption) ?_
  rotate_left 1
  · intro u hSw; obtain ⟨s1, s2, s3⟩ := hSw; go_simp; try with_reducible rfl
  try simp only [Act.put, List.setIfInBounds_toArray, List.set_cons_zero, List.set_cons_succ]
  refine wpAnyH_take (i := 5) (oi := { dst := some 49, op := _, type := _, pos := _, after := _, guard := _ }) (v := ?_) rfl (by kernel_rfl) (by kernel_rfl) (by kernel_rfl) (fun _ _ _ h => h) (Or.inl ⟨by rfl, ?_⟩) (by assumption) ?_
  rotate_left 1
  · intro u hSw; obtain ⟨s1, s2, s3⟩ := hSw; go_simp; try with_reducible rfl
  try simp only [Act.put, List.setIfInBounds_toArray, List.set_cons_zero, List.set_cons_succ]
  refine wpAnyH_take (i := 6) (oi := { dst := some 50, op := _, type := _, pos := _, after := _, guard := _ }) (v := .agg ((kC o.k).toList).toArray) rfl (by kernel_rfl) (by kernel_rfl) (by kernel_rfl) (fun _ _ _ h => h) (yieldsIf_load_mid (by rfl) 72 _ rfl ob 2 rfl ((kC o.k).toList) _ (fun u hu => hu.1) Tryd.underlying72 rfl (by kernel_rfl)) (by assumption) ?_
  try simp only [Act.put, List.setIfInBounds_toArray, List.set_cons_zero, List.set_cons_succ]
  refine wpAnyH_take (i := 7) (oi := { dst := some 51, op := _, type := _, pos := _, after := _, guard := _ }) (v := ?_) rfl (by kernel_rfl) (by kernel_rfl) (by kernel_rfl) (fun _ _ _ h => h) (Or.inl ⟨by rfl, ?_⟩) (by assumption) ?_
  rotate_left 1
  · intro u hSw; obtain ⟨s1, s2, s3⟩ := hSw; go_simp; try with_reducible rfl
  try simp only [Act.put, List.setIfInBounds_toArray, List.set_cons_zero, List.set_cons_succ]
  refine wpAnyH_take (i := 8) (oi := { dst := some 52, op := _, type := _, pos := _, after := _, guard := _ }) (v := ?_) rfl (by kernel_rfl) (by kernel_rfl) (by kernel_rfl) (fun _ _ _ h => h) (Or.inl ⟨by rfl, ?_⟩) (by assumption) ?_
  rotate_left 1
  · intro u hSw; obtain ⟨s1, s2, s3⟩ := hSw; go_simp; try with_reducible rfl
  try simp only [Act.put, List.setIfInBounds_toArray, List.set_cons_zero, List.set_cons_succ]
  refine wpAnyH_take (i := 9) (oi := { dst := some 53, op := _, type := _, pos := _, after := _, guard := _ }) (v := ?_) rfl (by kernel_rfl) (by kernel_rfl) (by kernel_rfl) (fun _ _ _ h => h) (Or.inl ⟨by rfl, ?_⟩) (by assumption) ?_
  rotate_left 1
  · intro u hSw; obtain ⟨s1, s2, s3⟩ := hSw; go_simp; try with_reducible rfl
  try simp only [Act.put, List.setIfInBounds_toArray, List.set_cons_zero, List.set_cons_succ]
  refine wpAnyH_take (i := 10) (oi := { dst := some 54, op := _, type := _, pos := _, after := _, guard := _ }) (v := ?_) rfl (by kernel_rfl) (by kernel_rfl) (by kernel_rfl) (fun _ _ _ h => h) (Or.inl ⟨by rfl, ?_⟩) (by assumption) ?_
  rotate_left 1
  · intro u hSw; obtain ⟨s1, s2, s3⟩ := hSw; go_simp; try with_reducible rfl
  try simp only [Act.put, List.setIfInBounds_toArray, List.set_cons_zero, List.set_cons_succ]
  refine wpAnyH_take (i := 11) (oi := { dst := some 55, op := _, type := _, pos := _, after := _, guard := _ }) (v := ?_) rfl (by kernel_rfl) (by kernel_rfl) (by kernel_rfl) (fun _ _ _ h => h) (Or.inl ⟨by rfl, ?_⟩) (by assumption) ?_
  rotate_left 1
  · intro u hSw; obtain ⟨s1, s2, s3⟩ := hSw; go_simp; try with_reducible rfl
  try simp only [Act.put, List.setIfInBounds_toArray, List.set_cons_zero, List.set_cons_succ]
  refine wpAnyH_take (i := 12) (oi := { dst := some 56, op := _, type := _, pos := _, after := _, guard := _ }) (v := ?_) rfl (by kernel_rfl) (by kernel_rfl) (by kernel_rfl) (fun _ _ _ h => h) (Or.inl ⟨by rfl, ?_⟩) (by assumption) ?_
  rotate_left 1
  · intro u hSw; obtain ⟨s1, s2, s3⟩ := hSw; go_simp; try with_reducible rfl
  try simp only [Act.put, List.setIfInBounds_toArray, List.set_cons_zero, List.set_cons_succ]
  refine wpAnyH_take (i := 13) (oi := { dst := some 57, op := _, type := _, pos := _, after := _, guard := _ }) (v := ?_) rfl (by kernel_rfl) (by kernel_rfl) (by kernel_rfl) (fun _ _ _ h => h) (Or.inl ⟨by rfl, ?_⟩) (by assumption) ?_
  rotate_left 1
  · intro u hSw; obtain ⟨s1, s2, s3⟩ := hSw; go_simp; try with_reducible rfl
  try simp only [Act.put, List.setIfInBounds_toArray, List.set_cons_zero, List.set_cons_succ]
  refine wpAnyH_take (i := 14) (oi := { dst := some 58, op := _, type := _, pos := _, after := _, guard := _ }) (v := .agg ((kC (s.at to).k).toList).toArray) rfl (by kernel_rfl) (by kernel_rfl) (by kernel_rfl) (fun _ _ _ h => h) (yieldsIf_load_mid (by rfl) 72 _ rfl gt (to * 34) rfl ((kC (s.at to).k).toList) _ (fun u hu => hu.2.2) Tryd.underlying72 rfl (by kernel_rfl)) (by assumption) ?_
  try simp only [Act.put, List.setIfInBounds_toArray, List.set_cons_zero, List.set_cons_succ]
  refine wpAnyH_ready (rs := [15]) (by kernel_rfl) (by simp) ?_
  refine AllReadyH.cons (o := { dst := some 59, op := _, type := _, pos := _, after := _, guard := _ }) rfl (fun Kq hK => ?_) AllReadyH.nil
  obtain ⟨s1, s2, s3⟩ := hHeld
  go_simp
  refine HIB.out.mono ?_
  rintro e w5 ⟨rfl, f5⟩
  have z1 : w5.rangeAt ob 2 (kC o.k).toList := fun j v hv => (f5.cell (p := ⟨ob, 2 + j, none⟩) hob4 (fun e => e)).trans (y1 j v hv)
  have z2 := (f5.cell (p := ⟨lb, 1, none⟩) hlb (fun e => e)).trans y2
  have z3 : w5.rangeAt gt (to * 34) (kC (s.at to).k).toList := fun j v hv => (f5.cell (p := ⟨gt, to * 34 + j, none⟩) hgt (fun e => e)).trans (y3 j v hv)
  have z22 := (f5.cell (p := ⟨ob, 23 + l * 2, none⟩) hob4 (fun e => e)).trans v2
  have H5 := hide2 (H4.out.keep f5 (fun _ _ e => e) (fun e => e))
  have O5 := hide2 (O4.out.keep f5 (fun _ _ e => e))
  have F5 : Hid (Fr (fun j => K j ∨ B j) w w5) := hide2 (F4.out.trans f5 (fun j e => e.elim))
  clear f5 y1 y2 y3
  go_wp2_with fail
  refine hK.out _ _ (⟨z1, z2, z3⟩) (fun hHeld => ?_)
  clear hK Kq
  try simp only [Act.put, List.setIfInBounds_toArray, List.set_cons_zero, List.set_cons_succ]
  refine wpAnyH_take (i := 16) (oi := { dst := some 60, op := _, type := _, pos := _, after := _, guard := _ }) (v := ?_) rfl (by kernel_rfl) (by kernel_rfl) (by kernel_rfl) (fun _ _ _ h => h) (Or.inl ⟨by rfl, ?_⟩) (by assumption) ?_
  rotate_left 1
  · intro u hSw; obtain ⟨s1, s2, s3⟩ := hSw; go_simp; try with_reducible rfl
  try simp only [Act.put, List.setIfInBounds_toArray, List.set_cons_zero, List.set_cons_succ]
  refine wpAnyH_take (i := 17) (oi := { dst := some 43, op := _, type := _, pos := _, after := _, guard := _ }) (v := ?_) rfl (by kernel_rfl) (by kernel_rfl) (by kernel_rfl) (fun _ _ _ h => h) (Or.inl ⟨by rfl, ?_⟩) (by assumption) ?_
  rotate_left 1
  · intro u hSw; obtain ⟨s1, s2, s3⟩ := hSw; go_simp; try with_reducible rfl
  try simp only [Act.put, List.setIfInBounds_toArray, List.set_cons_zero, List.set_cons_succ]
  refine wpAnyH_done (by kernel_rfl) ?_ _
  refine NoPanic.normal ?_
  clear hHeld HIB
  have heq : ∀ u : World, (Op.equalIn 10000 72 (.agg (kC o.k)) (.agg (kC (s.at to).k))).run Tryd.prog u = .ok false u := fun u => by rw [eq_key, HEQ.out]
  go_wp2
  refine wp_region_noPanic ?_
  refine wp_region_held_drew (S := (fun u : World => u.rangeAt ob 2 (kC o.k).toList ∧ u.cell? ⟨lb, 1, none⟩ = some (tvv gt s.tw.length tc) ∧ u.rangeAt gt (to * 34) (kC (s.at to).k).toList)) (by kernel_rfl) (⟨z1, z2, z3⟩) (fun hHeld => ?_)
  refine wpAnyH_take (i := 0) (oi := { dst := some 65, op := _, type := _, pos := _, after := _, guard := _ }) (v := ?_) rfl (by kernel_rfl) (by kernel_rfl) (by kernel_rfl) (fun _ _ _ h => h) (Or.inl ⟨by rfl, ?_⟩) (by assumption) ?_
  rotate_left 1
  · intro u hSw; obtain ⟨s1, s2, s3⟩ := hSw; go_simp; try with_reducible rfl
  try simp only [Act.put, List.setIfInBounds_toArray, List.set_cons_zero, List.set_cons_succ]
  refine wpAnyH_take (i := 1) (oi := { dst := some 66, op := _, type := _, pos := _, after := _, guard := _ }) (v := ?_) rfl (by kernel_rfl) (by kernel_rfl) (by kernel_rfl) (fun _ _ _ h => h) (Or.inl ⟨by rfl, ?_⟩) (by assumption) ?_
  rotate_left 1
  · intro u hSw; obtain ⟨s1, s2, s3⟩ := hSw; go_simp; try with_reducible rfl
  try simp only [Act.put, List.setIfInBounds_toArray, List.set_cons_zero, List.set_cons_succ]
  refine wpAnyH_take (i := 2) (oi := { dst := some 67, op := _, type := _, pos := _, after := _, guard := _ }) (v := ?_) rfl (by kernel_rfl) (by kernel_rfl) (by kernel_rfl) (fun _ _ _ h => h) (Or.inl ⟨by rfl, ?_⟩) (by assumption) ?_
  rotate_left 1
  · intro u hSw; obtain ⟨s1, s2, s3⟩ := hSw; go_simp; try with_reducible rfl
  try simp only [Act.put, List.setIfInBounds_toArray, List.set_cons_zero, List.set_cons_succ]
  refine wpAnyH_take (i := 3) (oi := { dst := some 68, op := _, type := _, pos := _, after := _, guard := _ }) (v := .agg ((kC o.k).toList).toArray) rfl (by kernel_rfl) (by kernel_rfl) (by kernel_rfl) (fun _ _ _ h => h) (yieldsIf_load_mid (by rfl) 72 _ rfl ob 2 rfl ((kC o.k).toList) _ (fun u hu => hu.1) Tryd.underlying72 rfl (by kernel_rfl)) (by assumption) ?_
  try simp only [Act.put, List.setIfInBounds_toArray, List.set_cons_zero, List.set_cons_succ]
  refine wpAnyH_take (i := 4) (oi := { dst := some 69, op := _, type := _, pos := _, after := _, guard := _ }) (v := ?_) rfl (by kernel_rfl) (by kernel_rfl) (by kernel_rfl) (fun _ _ _ h => h) (Or.inl ⟨by rfl, ?_⟩) (by assumption) ?_
  rotate_left 1
  · intro u hSw; obtain ⟨s1, s2, s3⟩ := hSw; go_simp; try with_reducible rfl
  try simp only [Act.put, List.setIfInBounds_toArray, List.set_cons_zero, List.set_cons_succ]
  refine wpAnyH_take (i := 5) (oi := { dst := some 70, op := _, type := _, pos := _, after := _, guard := _ }) (v := ?_) rfl (by kernel_rfl) (by kernel_rfl) (by kernel_rfl) (fun _ _ _ h => h) (Or.inl ⟨by rfl, ?_⟩) (by assumption) ?_
  rotate_left 1
  · intro u hSw; obtain ⟨s1, s2, s3⟩ := hSw; go_simp; try with_reducible rfl
  try simp only [Act.put, List.setIfInBounds_toArray, List.set_cons_zero, List.set_cons_succ]
  refine wpAnyH_take (i := 6) (oi := { dst := some 71, op := _, type := _, pos := _, after := _, guard := _ }) (v := ?_) rfl (by kernel_rfl) (by kernel_rfl) (by kernel_rfl) (fun _ _ _ h => h) (Or.inl ⟨by rfl, ?_⟩) (by assumption) ?_
  rotate_left 1
  · intro u hSw; obtain ⟨s1, s2, s3⟩ := hSw; go_simp; try with_reducible rfl
  try simp only [Act.put, List.setIfInBounds_toArray, List.set_cons_zero, List.set_cons_succ]
  refine wpAnyH_take (i := 7) (oi := { dst := some 72, op := _, type := _, pos := _, after := _, guard := _ }) (v := ?_) rfl (by kernel_rfl) (by kernel_rfl) (by kernel_rfl) (fun _ _ _ h => h) (Or.inl ⟨by rfl, ?_⟩) (by assumption) ?_
  rotate_left 1
  · intro u hSw; obtain ⟨s1, s2, s3⟩ := hSw; go_simp; try with_reducible rfl
  try simp only [Act.put, List.setIfInBounds_toArray, List.set_cons_zero, List.set_cons_succ]
  refine wpAnyH_take (i := 8) (oi := { dst := some 73, op := _, type := _, pos := _, after := _, guard := _ }) (v := ?_) rfl (by kernel_rfl) (by kernel_rfl) (by kernel_rfl) (fun _ _ _ h => h) (Or.inl ⟨by rfl, ?_⟩) (by assumption) ?_
  rotate_left 1
  · intro u hSw; obtain ⟨s1, s2, s3⟩ := hSw; go_simp; try with_reducible rfl
  try simp only [Act.put, List.setIfInBounds_toArray, List.set_cons_zero, List.set_cons_succ]
  refine wpAnyH_take (i := 9) (oi := { dst := some 74, op := _, type := _, pos := _, after := _, guard := _ }) (v := ?_) rfl (by kernel_rfl) (by kernel_rfl) (by kernel_rfl) (fun _ _ _ h => h) (Or.inl ⟨by rfl, ?_⟩) (by assumption) ?_
  rotate_left 1
  · intro u hSw; obtain ⟨s1, s2, s3⟩ := hSw; go_simp; try with_reducible rfl
  try simp only [Act.put, List.setIfInBounds_toArray, List.set_cons_zero, List.set_cons_succ]
  refine wpAnyH_take (i := 10) (oi := { dst := some 75, op := _, type := _, pos := _, after := _, guard := _ }) (v := ?_) rfl (by kernel_rfl) (by kernel_rfl) (by kernel_rfl) (fun _ _ _ h => h) (Or.inl ⟨by rfl, ?_⟩) (by assumption) ?_
  rotate_left 1
  · intro u hSw; obtain ⟨s1, s2, s3⟩ := hSw; go_simp; try with_reducible rfl
  try simp only [Act.put, List.setIfInBounds_toArray, List.set_cons_zero, List.set_cons_succ]
  refine wpAnyH_take (i := 11) (oi := { dst := some 76, op := _, type := _, pos := _, after := _, guard := _ }) (v := .agg ((kC (s.at to).k).toList).toArray) rfl (by kernel_rfl) (by kernel_rfl) (by kernel_rfl) (fun _ _ _ h => h) (yieldsIf_load_mid (by rfl) 72 _ rfl gt (to * 34) rfl ((kC (s.at to).k).toList) _ (fun u hu => hu.2.2) Tryd.underlying72 rfl (by kernel_rfl)) (by assumption) ?_
  try simp only [Act.put, List.setIfInBounds_toArray, List.set_cons_zero, List.set_cons_succ]
  refine wpAnyH_take (i := 12) (oi := { dst := some 77, op := _, type := _, pos := _, after := _, guard := _ }) (v := ?_) rfl (by kernel_rfl) (by kernel_rfl) (by kernel_rfl) (fun _ _ _ h => h) (Or.inl ⟨by rfl, ?_⟩) (by assumption) ?_
  rotate_left 1
  · intro u hSw; obtain ⟨s1, s2, s3⟩ := hSw; go_simp; try with_reducible rfl
  try simp only [Act.put, List.setIfInBounds_toArray, List.set_cons_zero, List.set_cons_succ]
  refine wpAnyH_take (i := 13) (oi := { dst := some 64, op := _, type := _, pos := _, after := _, guard := _ }) (v := ?_) rfl (by kernel_rfl) (by kernel_rfl) (by kernel_rfl) (fun _ _ _ h => h) (Or.inl ⟨by rfl, ?_⟩) (by assumption) ?_
  rotate_left 1
  · intro u hSw; obtain ⟨s1, s2, s3⟩ := hSw; go_simp; try with_reducible rfl
  try simp only [Act.put, List.setIfInBounds_toArray, List.set_cons_zero, List.set_cons_succ]
  refine wpAnyH_done (by kernel_rfl) ?_ _
  refine NoPanic.normal ?_
  clear hHeld heq z1 z2 z3
  have O6 := hide2 (O5.out.drewn 1)
  have H6 := hide2 (H5.out.drewn 1)
  obtain ⟨w6, hw6⟩ : ∃ y, y = w5.drew := ⟨_, rfl⟩
  try rw [← hw6]
  have O6' : Hid (Ob w6 B ob lb cv (o.seen num)) := by rw [hw6]; exact O6
  have H6' : Hid (Lm w6 K lb d g gt tc sv T N (m + 1) F s) := by rw [hw6]; exact H6
  have F6 : Hid (Fr (fun j => K j ∨ B j) w w6) := hide2 (by rw [hw6]; exact F5.out.drewN 1)
  have r1 := O6'.out.om.ptAt (l := l) hl
  have r2 := O6'.out.om.free (23 + l * 2)
  have hx := O6'.out.put1 (O6'.out.om.setPt (l := l) hl to) rfl
  have HX := hide2 hx
  have hob6 := O6'.out.om.lt
  clear hx hw6 z22
  go_wp2
  go_end0
  refine ⟨rfl, cv, H6'.out.keep HX.out.2 HKB.out HO.out.b0, ?_, F6.out.trans HX.out.2 (fun j e => .inl (.inr e))⟩
  have e1 : ({ o.seen num with pt := upd o.pt o.lv to } : Opm) = { o.seen num with pt := upd (o.seen num).pt l to } := by
    have : (o.seen num).pt = o.pt := rfl
    rw [this, HLV.out]
  rw [e1]
  exact HX.out.1
end
end
end Go.Proofs.YtopihgdbfhiejaaDoor
