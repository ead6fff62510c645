/-
  put: an operation takes a cell for its tower, or puts it in. (Printed by gen_sd.py.)
-/
import Derived.Test.YtmcfonekajieeaaDoorSc6
import Derived.Laws.Tables
set_option linter.unusedVariables false
set_option linter.unusedSimpArgs false
namespace Go.Proofs.YtmcfonekajieeaaDoor
open Go.RowKit Go.Maps

section
variable {w w' : World} {K B : Nat → Prop} {lb d g gt tc : Nat} {sv : Value} {T : List Bool} {N : List Int} {m : Int} {F : List Nat} {s : Sl} {ob : Nat} {cv : Value} {o : Opm}

theorem yieldsIf_build {P : Program} {ops : Array Oper} {S : World → Prop} {op : Oper} {a : Act} (hw : Region.wanted op (yielded ops a.tmps) = true) (t : TypeId) (parts : Array (Nat × Operand)) (ho : op.op = .build t parts) (cells : Array Value) (hf : P.built t (parts.map fun (i, x) => (i, a.eval x)).toList = some cells) : YieldsIf P ops S op (.agg cells) a :=
  .inl ⟨hw, fun w _ => by
    unfold execOp
    simp only [ho, Sem.run_bind, run_build w t _ cells hf, Result.andThen_ok]
    rfl⟩
/-- A tower that is being made. -/
def tz (k : ByteArray) (r : Int) : Tw := ⟨k, r, 0, 0, fun _ => 0, fun _ => 0, fun _ => 0⟩
def tcz (k : ByteArray) (r : Int) (cs : List Nat) (f : Nat) : Tw := ⟨k, r, 0, 0, fun l => cs.getD l 0, upd (fun _ => 0) 0 f, fun _ => 0⟩
theorem tw_copied (k : ByteArray) (r : Int) (cs : List Nat) (h : cs.length ≤ 8) : ((twL (tz k r)).toArray.toList.take 18 ++ cs.map nv ++ (twL (tz k r)).toArray.toList.drop (18 + (cs.map nv).length)).toArray = (twL (tcz k r cs 0)).toArray := by
  rcases cs with _ | ⟨a0, _ | ⟨a1, _ | ⟨a2, _ | ⟨a3, _ | ⟨a4, _ | ⟨a5, _ | ⟨a6, _ | ⟨a7, _ | ⟨a8, l⟩⟩⟩⟩⟩⟩⟩⟩⟩
  all_goals first | rfl | (exfalso; simp at h; done) | (exfalso; simp at h; omega)
theorem wpList_copy_eq {P : Program} {ops : Array Oper} {rest : List Oper} {o : Oper} {a : Act} {w : World} {Q : Exit → Act → World → Prop} (hgd : o.guard = none) (s x : Operand) (t1 t2 : TypeId) (hop : o.op = Op.call { callee := Callee.builtin Builtin.copy, args := #[s, x], argTypes := #[t1, t2] })
    (v u v' : Value) (w' : World) (hs : a.eval s = v) (hx : a.eval x = u) (hrun : (Builtin.copy_ #[t1, t2] o.type #[v, u]).run P w = .ok v' w') (h : wpList P ops Q rest (a.put o.dst v') w') : wpList P ops Q (o :: rest) a w :=
  wpList_plain hgd fun _ hK => by
    unfold Oper.wp
    simp [execOp, hop, resolve, invoke, builtin, hs, hx, hrun, Result.andThen]
    exact hK _ _ h
theorem setCells_whole {w : World} {b : Nat} {t : TypeId} {old : Array Value} {vs : List Value} (h : w.heap[b]? = some (.cells old t (0, 0))) (hs : old.size = vs.length) : (w.setCells b 0 vs).heap[b]? = some (.cells vs.toArray t (0, 0)) := by
  have key : ∀ (vs : List Value) (o : Nat) (w : World) (old : Array Value), w.heap[b]? = some (.cells old t (0, 0)) → o + vs.length = old.size → (w.setCells b o vs).heap[b]? = some (.cells (old.toList.take o ++ vs).toArray t (0, 0)) := by
    intro vs
    induction vs with
    | nil =>
      intro o w old h1 h2
      simp at h2
      show w.heap[b]? = _
      rw [h1, List.append_nil, List.take_of_length_le (by simp; omega)]
    | cons v vs ih =>
      intro o w old h1 h2
      have h3 : (w.setCell ⟨b, o, none⟩ v).heap[b]? = some (.cells (old.setIfInBounds o v) t (0, 0)) := Go.Joins.block_setCell h1 _
      have h4 := ih (o + 1) (w.setCell ⟨b, o, none⟩ v) (old.setIfInBounds o v) h3 (by simp at h2 ⊢; omega)
      show ((w.setCell ⟨b, o, none⟩ v).setCells b (o + 1) vs).heap[b]? = _
      rw [h4]
      have hlt : o < old.toList.length := by simp at h2 ⊢; omega
      have e : (old.setIfInBounds o v).toList.take (o + 1) ++ vs = old.toList.take o ++ v :: vs := by
        rw [Array.toList_setIfInBounds, List.take_set, List.take_add_one, List.getElem?_eq_getElem hlt, List.set_append_right _ _ (by rw [List.length_take]; omega)]
        have : o - (old.toList.take o).length = 0 := by rw [List.length_take]; omega
        rw [this]
        simp
      rw [e]
  have := key vs 0 w old h (by omega)
  simpa using this

set_option maxRecDepth 100000 in
set_option maxHeartbeats 8000000 in
theorem put_take (h : Lm w K lb d g gt tc sv T N m F s) (ho : Ob w B ob lb cv o) (hKB : ∀ j, K j → ¬ B j) (hcs : ∀ c ∈ o.cs, c ∈ s.sp) {l i num : Nat} (hl0 : l = 0) (hpt : o.pt l = i) (hpn : o.pn l = num) (hl2 : s.sp.length ≤ 100000) (hl3 : o.cs.length ≤ 100000) (hh : o.cs.length < o.h) (hh8 : o.h ≤ 100000) {c : Nat} (hc1 : T.getD c true = false) (hmin : ∀ j, j < c → T.getD j true = true) :
    Calls Tryd.prog 44 #[.pointer (some ⟨ob, 0, none⟩)] w fun e w' => e = .returned (.tuple #[]) ∧ ∃ K' B' sv' cv', Lm w' K' lb d g gt tc sv' (T.set c true) (N.set c 0) m (flip F c) (s.taken c) ∧ Ob w' B' ob lb cv' { o with cs := o.cs ++ [c] } ∧ Nx w w' K B K' B' := by
  have cc := ho.om.cells
  have p1 := cc.1
  have p2 := cc.2.2.2.2.2.1
  have p3 : w.cell? ⟨ob, 23 + l * 2, none⟩ = some (.int .i64 (i : Int)) := by have := ho.om.ptAt (l := l) (by omega); rw [hpt] at this; exact this
  have p4 : w.cell? ⟨ob, 23 + l * 2 + 1, none⟩ = some (.int .u64 (num : Int)) := by have := ho.om.pnAt (l := l) (by omega); rw [hpn] at this; exact this
  have hob := ho.om.lt
  have H := hide2 h
  have HO := hide2 ho
  have HKB := hide2 hKB
  have HCS := hide2 hcs
  have HPT := hide2 hpt
  have HPN := hide2 hpn
  subst hl0
  simp only [Nat.zero_mul, Nat.add_zero] at p3 p4
  have hci : (o.cs.length : Int) < (o.h : Int) := by omega
  clear cc h ho hKB hcs hpt hpn
  go_enter Tryd.func44, Tryd.ntmps44
  go_wp2_with fail
  refine wp_region_noPanic ?_
  refine wp_region_held_drew (S := (fun u : World => u.cell? ⟨ob, 0, none⟩ = some (lpp lb) ∧ u.cell? ⟨ob, 22, none⟩ = some (.int .i64 (o.lv : Int)) ∧ u.cell? ⟨ob, 23, none⟩ = some (.int .i64 (i : Int)) ∧ u.cell? ⟨ob, 23 + 1, none⟩ = some (.int .u64 (num : Int)))) (by kernel_rfl) (⟨p1, p2, p3, p4⟩) (fun hHeld => ?_)
  refine wpAnyH_take (i := 0) (oi := { dst := some 6, op := _, type := _, pos := _, after := _, guard := _ }) (v := ?_) rfl (by kernel_rfl) (by kernel_rfl) (by kernel_rfl) (fun _ _ _ h => h) (Or.inl ⟨by rfl, ?_⟩) (by assumption) ?_
  rotate_left 1
  · intro u hSw; obtain ⟨s1, s2, s3, s4⟩ := hSw; go_simp; try with_reducible rfl
  try simp only [Act.put, List.setIfInBounds_toArray, List.set_cons_zero, List.set_cons_succ]
  refine wpAnyH_take (i := 1) (oi := { dst := some 7, op := _, type := _, pos := _, after := _, guard := _ }) (v := ?_) rfl (by kernel_rfl) (by kernel_rfl) (by kernel_rfl) (fun _ _ _ h => h) (Or.inl ⟨by rfl, ?_⟩) (by assumption) ?_
  rotate_left 1
  · intro u hSw; obtain ⟨s1, s2, s3, s4⟩ := hSw; go_simp; try with_reducible rfl
  try simp only [Act.put, List.setIfInBounds_toArray, List.set_cons_zero, List.set_cons_succ]
  refine wpAnyH_take (i := 2) (oi := { dst := some 8, op := _, type := _, pos := _, after := _, guard := _ }) (v := ?_) rfl (by kernel_rfl) (by kernel_rfl) (by kernel_rfl) (fun _ _ _ h => h) (Or.inl ⟨by rfl, ?_⟩) (by assumption) ?_
  rotate_left 1
  · intro u hSw; obtain ⟨s1, s2, s3, s4⟩ := hSw; go_simp; try with_reducible rfl
  try simp only [Act.put, List.setIfInBounds_toArray, List.set_cons_zero, List.set_cons_succ]
  refine wpAnyH_take (i := 3) (oi := { dst := some 9, op := _, type := _, pos := _, after := _, guard := _ }) (v := ?_) rfl (by kernel_rfl) (by kernel_rfl) (by kernel_rfl) (fun _ _ _ h => h) (Or.inl ⟨by rfl, ?_⟩) (by assumption) ?_
  rotate_left 1
  · intro u hSw; obtain ⟨s1, s2, s3, s4⟩ := hSw; go_simp; try with_reducible rfl
  try simp only [Act.put, List.setIfInBounds_toArray, List.set_cons_zero, List.set_cons_succ]
  refine wpAnyH_take (i := 4) (oi := { dst := some 10, op := _, type := _, pos := _, after := _, guard := _ }) (v := ?_) rfl (by kernel_rfl) (by kernel_rfl) (by kernel_rfl) (fun _ _ _ h => h) (Or.inl ⟨by rfl, ?_⟩) (by assumption) ?_
  rotate_left 1
  · intro u hSw; obtain ⟨s1, s2, s3, s4⟩ := hSw; go_simp; try with_reducible rfl
  try simp only [Act.put, List.setIfInBounds_toArray, List.set_cons_zero, List.set_cons_succ]
  refine wpAnyH_take (i := 5) (oi := { dst := some 11, op := _, type := _, pos := _, after := _, guard := _ }) (v := ?_) rfl (by kernel_rfl) (by kernel_rfl) (by kernel_rfl) (fun _ _ _ h => h) (Or.inl ⟨by rfl, ?_⟩) (by assumption) ?_
  rotate_left 1
  · intro u hSw; obtain ⟨s1, s2, s3, s4⟩ := hSw; go_simp; try with_reducible rfl
  try simp only [Act.put, List.setIfInBounds_toArray, List.set_cons_zero, List.set_cons_succ]
  refine wpAnyH_take (i := 6) (oi := { dst := some 12, op := _, type := _, pos := _, after := _, guard := _ }) (v := ?_) rfl (by kernel_rfl) (by kernel_rfl) (by kernel_rfl) (fun _ _ _ h => h) (Or.inl ⟨by rfl, ?_⟩) (by assumption) ?_
  rotate_left 1
  · intro u hSw; obtain ⟨s1, s2, s3, s4⟩ := hSw; go_simp; try with_reducible rfl
  try simp only [Act.put, List.setIfInBounds_toArray, List.set_cons_zero, List.set_cons_succ]
  refine wpAnyH_take (i := 7) (oi := { dst := some 13, op := _, type := _, pos := _, after := _, guard := _ }) (v := ?_) rfl (by kernel_rfl) (by kernel_rfl) (by kernel_rfl) (fun _ _ _ h => h) (Or.inl ⟨by rfl, ?_⟩) (by assumption) ?_
  rotate_left 1
  · intro u hSw; obtain ⟨s1, s2, s3, s4⟩ := hSw; go_simp; try with_reducible rfl
  try simp only [Act.put, List.setIfInBounds_toArray, List.set_cons_zero, List.set_cons_succ]
  refine wpAnyH_take (i := 8) (oi := { dst := some 14, op := _, type := _, pos := _, after := _, guard := _ }) (v := ?_) rfl (by kernel_rfl) (by kernel_rfl) (by kernel_rfl) (fun _ _ _ h => h) (Or.inl ⟨by rfl, ?_⟩) (by assumption) ?_
  rotate_left 1
  · intro u hSw; obtain ⟨s1, s2, s3, s4⟩ := hSw; go_simp; try with_reducible rfl
  try simp only [Act.put, List.setIfInBounds_toArray, List.set_cons_zero, List.set_cons_succ]
  obtain ⟨wa, hwa⟩ : ∃ y, y = (w.alloc (.cells #[.int .i64 0, .int .u64 0] 79)).drew := ⟨_, rfl⟩
  have fa : Fr (fun _ => False) w wa := by rw [hwa]; exact ((Fr.refl _ w).alloc _).drewN 1
  obtain ⟨X, hX⟩ : ∃ y, y = w.heap.size := ⟨_, rfl⟩
  have ba : wa.heap[X]? = some (.cells #[.int .i64 0, .int .u64 0] 79 (0, 0)) := by rw [hwa, hX]; exact heap_alloc_new w _
  have hXob : ¬ X = ob := by omega
  have k0 : wa.cell? ⟨X, 0, none⟩ = some (.int .i64 0) := by rw [Go.Joins.cell_of_block ba]; rfl
  have k1 : wa.cell? ⟨X, 1, none⟩ = some (.int .u64 0) := by rw [Go.Joins.cell_of_block ba]; rfl
  have kf0 := Go.Joins.unfrozen_of_block ba 0
  have kf1 := Go.Joins.unfrozen_of_block ba 1
  have a1 := (fa.cell (p := ⟨ob, 0, none⟩) hob (fun e => e)).trans p1
  have a2 := (fa.cell (p := ⟨ob, 22, none⟩) hob (fun e => e)).trans p2
  have a3 := (fa.cell (p := ⟨ob, 23, none⟩) hob (fun e => e)).trans p3
  have a4 := (fa.cell (p := ⟨ob, 23 + 1, none⟩) hob (fun e => e)).trans p4
  refine wpAnyH_ready (rs := [9]) (by kernel_rfl) (by simp) ?_
  refine AllReadyH.cons (o := { dst := some 3, op := _, type := _, pos := _, after := _, guard := _ }) rfl (fun Kq hK => ?_) AllReadyH.nil
  clear hHeld
  go_simp
  go_wp2_with fail
  try rw [← hwa]
  try rw [← hX]
  refine hK.out _ _ (⟨a1, a2, a3, a4⟩) (fun hHeld => ?_)
  clear hK Kq
  try simp only [Act.put, List.setIfInBounds_toArray, List.set_cons_zero, List.set_cons_succ]
  refine wpAnyH_take (i := 10) (oi := { dst := some 2, op := _, type := _, pos := _, after := _, guard := _ }) (v := ?_) rfl (by kernel_rfl) (by kernel_rfl) (by kernel_rfl) (fun _ _ _ h => h) (Or.inl ⟨by rfl, ?_⟩) (by assumption) ?_
  rotate_left 1
  · intro u hSw; obtain ⟨s1, s2, s3, s4⟩ := hSw; go_simp; try with_reducible rfl
  try simp only [Act.put, List.setIfInBounds_toArray, List.set_cons_zero, List.set_cons_succ]
  obtain ⟨w1, hw1⟩ : ∃ y, y = (w.alloc (.cells #[.int .i64 (i : Int), .int .u64 (num : Int)] 79)).drew := ⟨_, rfl⟩
  have b1 : w1.heap[X]? = some (.cells #[.int .i64 (i : Int), .int .u64 (num : Int)] 79 (0, 0)) := by rw [hw1, hX]; exact heap_alloc_new w _
  have f1 : Fr (fun _ => False) w w1 := by rw [hw1]; exact ((Fr.refl _ w).alloc _).drewN 1
  have B1 : Hid (Below w.heap.size w w1) := hide2 (f1.to (fun _ _ => id) (Nat.le_refl _))
  have e1 := (f1.cell (p := ⟨ob, 0, none⟩) hob (fun e => e)).trans p1
  have e2 := (f1.cell (p := ⟨ob, 22, none⟩) hob (fun e => e)).trans p2
  have e3 := (f1.cell (p := ⟨ob, 23, none⟩) hob (fun e => e)).trans p3
  have e4 := (f1.cell (p := ⟨ob, 23 + 1, none⟩) hob (fun e => e)).trans p4
  refine wpAnyH_ready (rs := [11]) (by kernel_rfl) (by simp) ?_
  refine AllReadyH.cons (o := { dst := none, op := _, type := _, pos := _, after := _, guard := _ }) rfl (fun Kq hK => ?_) AllReadyH.nil
  clear hHeld
  go_simp
  go_wp2_with fail
  try rw [← hw1]
  refine hK.out _ _ (⟨e1, e2, e3, e4⟩) (fun hHeld => ?_)
  clear hK Kq
  try simp only [Act.put, List.setIfInBounds_toArray, List.set_cons_zero, List.set_cons_succ]
  refine wpAnyH_done (by kernel_rfl) ?_ _
  refine NoPanic.normal ?_
  have HXX := hide2 hX
  clear hX
  have BX := hide2 b1
  have hXe : X = w.heap.size := HXX.out
  subst hXe
  clear hHeld p1 p2 p3 p4 a1 a2 a3 a4 e1 e2 e3 e4 k0 k1 kf0 kf1 ba fa f1 hwa hw1 b1
  have h1 := H.out.below B1.out
  have o1 := HO.out.below B1.out
  have g1 := o1.om.cells.2.2.2.1
  have hob1 := o1.om.lt
  have HOW : Hid (Calls Tryd.prog 59 #[.pointer (some ⟨ob, 0, none⟩)] w1.drew fun e w' => ∃ cv', e = .returned cv' ∧ Lm w' K lb d g gt tc sv T N m F s ∧ Ob w' B ob lb cv' o ∧ Fr B w1 w') := hide2 (by
    have q := own_any (h1.drewn 1) (o1.drewn 1) HKB.out (by omega)
    rw [owned_all HCS.out] at q
    refine q.mono ?_
    rintro e w' ⟨cv', rfl, q1, q2, q3⟩
    exact ⟨cv', rfl, q1, q2, ((Fr.refl B w1).drewN 1).trans q3 (fun j e => .inl e)⟩)
  clear h1 o1
  go_wp2
  refine wp_region_noPanic ?_
  refine wp_region_held_drew (S := (fun u : World => u.cell? ⟨ob, 20, none⟩ = some (.int .i64 (o.h : Int)))) (by kernel_rfl) (g1) (fun hHeld => ?_)
  refine wpAnyH_take (i := 0) (oi := { dst := some 15, op := _, type := _, pos := _, after := _, guard := _ }) (v := ?_) rfl (by kernel_rfl) (by kernel_rfl) (by kernel_rfl) (fun _ _ _ h => h) (Or.inl ⟨by rfl, ?_⟩) (by assumption) ?_
  rotate_left 1
  · intro u hSw; obtain s1 := hSw; go_simp; try with_reducible rfl
  try simp only [Act.put, List.setIfInBounds_toArray, List.set_cons_zero, List.set_cons_succ]
  refine wpAnyH_take (i := 3) (oi := { dst := some 18, op := _, type := _, pos := _, after := _, guard := _ }) (v := ?_) rfl (by kernel_rfl) (by kernel_rfl) (by kernel_rfl) (fun _ _ _ h => h) (Or.inl ⟨by rfl, ?_⟩) (by assumption) ?_
  rotate_left 1
  · intro u hSw; obtain s1 := hSw; go_simp; try with_reducible rfl
  try simp only [Act.put, List.setIfInBounds_toArray, List.set_cons_zero, List.set_cons_succ]
  refine wpAnyH_take (i := 4) (oi := { dst := some 19, op := _, type := _, pos := _, after := _, guard := _ }) (v := ?_) rfl (by kernel_rfl) (by kernel_rfl) (by kernel_rfl) (fun _ _ _ h => h) (Or.inl ⟨by rfl, ?_⟩) (by assumption) ?_
  rotate_left 1
  · intro u hSw; obtain s1 := hSw; go_simp; try with_reducible rfl
  try simp only [Act.put, List.setIfInBounds_toArray, List.set_cons_zero, List.set_cons_succ]
  refine wpAnyH_take (i := 5) (oi := { dst := some 20, op := _, type := _, pos := _, after := _, guard := _ }) (v := ?_) rfl (by kernel_rfl) (by kernel_rfl) (by kernel_rfl) (fun _ _ _ h => h) (Or.inl ⟨by rfl, ?_⟩) (by assumption) ?_
  rotate_left 1
  · intro u hSw; obtain s1 := hSw; go_simp; try with_reducible rfl
  try simp only [Act.put, List.setIfInBounds_toArray, List.set_cons_zero, List.set_cons_succ]
  refine wpAnyH_take (i := 6) (oi := { dst := some 21, op := _, type := _, pos := _, after := _, guard := _ }) (v := ?_) rfl (by kernel_rfl) (by kernel_rfl) (by kernel_rfl) (fun _ _ _ h => h) (Or.inl ⟨by rfl, ?_⟩) (by assumption) ?_
  rotate_left 1
  · intro u hSw; obtain s1 := hSw; go_simp; try with_reducible rfl
  try simp only [Act.put, List.setIfInBounds_toArray, List.set_cons_zero, List.set_cons_succ]
  refine wpAnyH_ready (rs := [1]) (by kernel_rfl) (by simp) ?_
  refine AllReadyH.cons (o := { dst := some 16, op := _, type := _, pos := _, after := _, guard := _ }) rfl (fun Kq hK => ?_) AllReadyH.nil
  obtain s1 := hHeld
  go_simp
  refine HOW.out.mono ?_
  rintro e w2 ⟨cv2, rfl, h2, o2, f2⟩
  obtain ⟨ca, cn, cc, ec⟩ : ∃ a n c, cv2 = Value.slice a n c := by obtain ⟨a, c, e⟩ := o2.row.form; exact ⟨a, _, c, e⟩
  have hcn : cn = o.cs.length := by obtain ⟨a, c, e⟩ := o2.row.form; rw [ec] at e; cases e; rfl
  have g2 := o2.om.cells.2.2.2.1
  have bX2 : w2.heap[w.heap.size]? = some (.cells #[.int .i64 (i : Int), .int .u64 (num : Int)] 79 (0, 0)) := (f2.block w.heap.size (Array.getElem?_eq_some_iff.1 BX.out).1 (fun e => by have := HO.out.kl w.heap.size e; have := HXX.out; omega)).trans BX.out
  have BX2 := hide2 bX2
  have H2 := hide2 h2
  have O2 := hide2 o2
  have F2 : Hid (Fr B w w2) := hide2 ((Fr.below (F := B) B1.out).trans f2 (fun j e => .inl e))
  have hob2 := o2.om.lt
  subst ec
  subst hcn
  clear h2 o2 f2 bX2
  go_wp2_with fail
  refine hK.out _ _ (g2) (fun hHeld => ?_)
  clear hK Kq
  try simp only [Act.put, List.setIfInBounds_toArray, List.set_cons_zero, List.set_cons_succ]
  refine wpAnyH_take (i := 2) (oi := { dst := some 17, op := _, type := _, pos := _, after := _, guard := _ }) (v := ?_) rfl (by kernel_rfl) (by kernel_rfl) (by kernel_rfl) (fun _ _ _ h => h) (Or.inl ⟨by rfl, ?_⟩) (by assumption) ?_
  rotate_left 1
  · intro u hSw; obtain s1 := hSw; go_simp; try with_reducible rfl
  try simp only [Act.put, List.setIfInBounds_toArray, List.set_cons_zero, List.set_cons_succ]
  refine wpAnyH_take (i := 7) (oi := { dst := some 22, op := _, type := _, pos := _, after := _, guard := _ }) (v := ?_) rfl (by kernel_rfl) (by kernel_rfl) (by kernel_rfl) (fun _ _ _ h => h) (Or.inl ⟨by rfl, ?_⟩) (by assumption) ?_
  rotate_left 1
  · intro u hSw; obtain s1 := hSw; go_simp; try with_reducible rfl
  try simp only [Act.put, List.setIfInBounds_toArray, List.set_cons_zero, List.set_cons_succ]
  refine wpAnyH_take (i := 8) (oi := { dst := some 23, op := _, type := _, pos := _, after := _, guard := _ }) (v := ?_) rfl (by kernel_rfl) (by kernel_rfl) (by kernel_rfl) (fun _ _ _ h => h) (Or.inl ⟨by rfl, ?_⟩) (by assumption) ?_
  rotate_left 1
  · intro u hSw; obtain s1 := hSw; go_simp; try with_reducible rfl
  try simp only [Act.put, List.setIfInBounds_toArray, List.set_cons_zero, List.set_cons_succ]
  refine wpAnyH_take (i := 9) (oi := { dst := some 24, op := _, type := _, pos := _, after := _, guard := _ }) (v := ?_) rfl (by kernel_rfl) (by kernel_rfl) (by kernel_rfl) (fun _ _ _ h => h) (Or.inl ⟨by rfl, ?_⟩) (by assumption) ?_
  rotate_left 1
  · intro u hSw; obtain s1 := hSw; go_simp; try with_reducible rfl
  try simp only [Act.put, List.setIfInBounds_toArray, List.set_cons_zero, List.set_cons_succ]
  have HTK := hide2 (take_any H2.out O2.out HKB.out hc1 hmin (by omega) (by omega))
  refine wpAnyH_ready (rs := [10]) (by kernel_rfl) (by simp) ?_
  refine AllReadyH.cons (o := { dst := some 25, op := _, type := _, pos := _, after := _, guard := _ }) rfl (fun Kq hK => ?_) AllReadyH.nil
  obtain s1 := hHeld
  go_simp
  refine HTK.out.mono ?_
  rintro e w3 ⟨rfl, K', B', sv', cv', h3, o3, n3⟩
  have g3 := o3.om.cells.2.2.2.1
  have HR3 : Hid (∃ K' B' sv' cv', Lm w3 K' lb d g gt tc sv' (T.set c true) (N.set c 0) m (flip F c) (s.taken c) ∧ Ob w3 B' ob lb cv' { o with cs := o.cs ++ [c] } ∧ Nx w w3 K B K' B') := hide2 ⟨K', B', sv', cv', h3, o3, (Nx.same HKB.out (F2.out.mono (fun j _ e => .inr e))).trans n3⟩
  clear h3 o3 n3
  go_wp2_with fail
  refine hK.out _ _ (g3) (fun hHeld => ?_)
  clear hK Kq
  try simp only [Act.put, List.setIfInBounds_toArray, List.set_cons_zero, List.set_cons_succ]
  refine wpAnyH_take (i := 11) (oi := { dst := some 26, op := _, type := _, pos := _, after := _, guard := _ }) (v := ?_) rfl (by kernel_rfl) (by kernel_rfl) (by kernel_rfl) (fun _ _ _ h => h) (Or.inl ⟨by rfl, ?_⟩) (by assumption) ?_
  rotate_left 1
  · intro u hSw; obtain s1 := hSw; go_simp; try with_reducible rfl
  try simp only [Act.put, List.setIfInBounds_toArray, List.set_cons_zero, List.set_cons_succ]
  refine wpAnyH_done (by kernel_rfl) ?_ _
  refine NoPanic.normal ?_
  clear hHeld
  go_wp2
  exact bodyPost_ret (results_none (by rfl) _ _ _) rfl ⟨rfl, HR3.out⟩
end
end Go.Proofs.YtmcfonekajieeaaDoor
