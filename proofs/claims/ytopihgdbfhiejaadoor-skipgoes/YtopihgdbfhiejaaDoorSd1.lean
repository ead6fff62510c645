/-
  Sd1: put: an operation takes a cell for its tower, or puts it in. (Printed by gen_sd.py.)
  Sd2: put: an operation takes a cell for its tower, or puts it in. (Printed by gen_sd.py.)
  Sd3: put: an operation takes a cell for its tower, or puts it in. (Printed by gen_sd.py.)
-/
import Derived.Test.YtopihgdbfhiejaaDoorSc3
import Derived.Laws.Tables
import Derived.Great.BuildSlice
set_option linter.unusedVariables false
set_option linter.unusedSimpArgs false
namespace Go.Proofs.YtopihgdbfhiejaaDoor

section
open Go.RowKit Go.Maps

section
variable {w w' : World} {K B : Nat → Prop} {lb d g gt tc : Nat} {sv : Value} {T : List Bool} {N : List Int} {m : Int} {F : List Nat} {s : Sl} {ob : Nat} {cv : Value} {o : Opm}

theorem yieldsIf_build {P : Program} {ops : Array Oper} {S : World → Prop} {op : Oper} {a : Act} (hw : Region.wanted op (yielded ops a.tmps) = true) (t : TypeId) (parts : Array (Nat × Operand)) (ho : op.op = .build t parts) (cells : Array Value) (hf : P.built t (parts.map fun (i, x) => (i, a.eval x)).toList = some cells) : YieldsIf P ops S op (.agg cells) a :=
  .inl ⟨hw, fun w _ => by
    unfold execOp
    simp only [ho, Sem.run_bind, run_build w t _ cells hf, Result.andThen_ok]
    rfl⟩
/-- A tower that is being made. -/
def tz (k : ByteArray) (r : Int) : Tw := ⟨k, r, 0, 0, fun _ => 0, fun _ => 0, fun _ => 0⟩
def tcz (k : ByteArray) (r : Int) (cs : List Nat) (f : Nat) : Tw := ⟨k, r, 0, 0, fun l => cs.getD l 0, upd (fun _ => 0) 0 f, fun _ => 0⟩
theorem tw_copied (k : ByteArray) (r : Int) (cs : List Nat) (h : cs.length ≤ 8) : ((twL (tz k r)).toArray.toList.take 18 ++ cs.map nv ++ (twL (tz k r)).toArray.toList.drop (18 + (cs.map nv).length)).toArray = (twL (tcz k r cs 0)).toArray := by
  rcases cs with _ | ⟨a0, _ | ⟨a1, _ | ⟨a2, _ | ⟨a3, _ | ⟨a4, _ | ⟨a5, _ | ⟨a6, _ | ⟨a7, _ | ⟨a8, l⟩⟩⟩⟩⟩⟩⟩⟩⟩
  all_goals first | rfl | (exfalso; simp at h; done) | (exfalso; simp at h; omega)
theorem wpList_copy_eq {P : Program} {ops : Array Oper} {rest : List Oper} {o : Oper} {a : Act} {w : World} {Q : Exit → Act → World → Prop} (hgd : o.guard = none) (s x : Operand) (t1 t2 : TypeId) (hop : o.op = Op.call { callee := Callee.builtin Builtin.copy, args := #[s, x], argTypes := #[t1, t2] })
    (v u v' : Value) (w' : World) (hs : a.eval s = v) (hx : a.eval x = u) (hrun : (Builtin.copy_ #[t1, t2] o.type #[v, u]).run P w = .ok v' w') (h : wpList P ops Q rest (a.put o.dst v') w') : wpList P ops Q (o :: rest) a w :=
  wpList_plain hgd fun _ hK => by
    unfold Oper.wp
    simp [execOp, hop, resolve, invoke, builtin, hs, hx, hrun, Result.andThen]
    exact hK _ _ h
theorem setCells_whole {w : World} {b : Nat} {t : TypeId} {old : Array Value} {vs : List Value} (h : w.heap[b]? = some (.cells old t (0, 0))) (hs : old.size = vs.length) : (w.setCells b 0 vs).heap[b]? = some (.cells vs.toArray t (0, 0)) := by
  have key : ∀ (vs : List Value) (o : Nat) (w : World) (old : Array Value), w.heap[b]? = some (.cells old t (0, 0)) → o + vs.length = old.size → (w.setCells b o vs).heap[b]? = some (.cells (old.toList.take o ++ vs).toArray t (0, 0)) := by
    intro vs
    induction vs with
    | nil =>
      intro o w old h1 h2
      simp at h2
      show w.heap[b]? = _
      rw [h1, List.append_nil, List.take_of_length_le (by simp; omega)]
    | cons v vs ih =>
      intro o w old h1 h2
      have h3 : (w.setCell ⟨b, o, none⟩ v).heap[b]? = some (.cells (old.setIfInBounds o v) t (0, 0)) := Go.Joins.block_setCell h1 _
      have h4 := ih (o + 1) (w.setCell ⟨b, o, none⟩ v) (old.setIfInBounds o v) h3 (by simp at h2 ⊢; omega)
      show ((w.setCell ⟨b, o, none⟩ v).setCells b (o + 1) vs).heap[b]? = _
      rw [h4]
      have hlt : o < old.toList.length := by simp at h2 ⊢; omega
      have e : (old.setIfInBounds o v).toList.take (o + 1) ++ vs = old.toList.take o ++ v :: vs := by
        rw [Array.toList_setIfInBounds, List.take_set, List.take_add_one, List.getElem?_eq_getElem hlt, List.set_append_right _ _ (by rw [List.length_take]; omega)]
        have : o - (old.toList.take o).length = 0 := by rw [List.length_take]; omega
        rw [this]
        simp
      rw [e]
  have := key vs 0 w old h (by omega)
  simpa using this

set_option maxRecDepth 100000 in
set_option maxHeartbeats 8000000 in
theorem put_take (h : Lm w K lb d g gt tc sv T N m F s) (ho : Ob w B ob lb cv o) (hKB : ∀ j, K j → ¬ B j) (hcs : ∀ c ∈ o.cs, c ∈ s.sp) {l i num : Nat} (hl0 : l = 0) (hpt : o.pt l = i) (hpn : o.pn l = num) (hl2 : s.sp.length ≤ 100000) (hl3 : o.cs.length ≤ 100000) (hh : o.cs.length < o.h) (hh8 : o.h ≤ 100000) {c : Nat} (hc1 : T.getD c true = false) (hmin : ∀ j, j < c → T.getD j true = true) :
    Calls Tryd.prog 44 #[.pointer (some ⟨ob, 0, none⟩)] w fun e w' => e = .returned (.tuple #[]) ∧ ∃ K' B' sv' cv', Lm w' K' lb d g gt tc sv' (T.set c true) (N.set c 0) m (flip F c) (s.taken c) ∧ Ob w' B' ob lb cv' { o with cs := o.cs ++ [c] } ∧ Nx w w' K B K' B' := by
  have cc := ho.om.cells
  have p1 := cc.1
  have p2 := cc.2.2.2.2.2.1
  have p3 : w.cell? ⟨ob, 23 + l * 2, none⟩ = some (.int .i64 (i : Int)) := by have := ho.om.ptAt (l := l) (by omega); rw [hpt] at this; exact this
  have p4 : w.cell? ⟨ob, 23 + l * 2 + 1, none⟩ = some (.int .u64 (num : Int)) := by have := ho.om.pnAt (l := l) (by omega); rw [hpn] at this; exact this
  have hob := ho.om.lt
  have H := hide2 h
  have HO := hide2 ho
  have HKB := hide2 hKB
  have HCS := hide2 hcs
  have HPT := hide2 hpt
  have HPN := hide2 hpn
  subst hl0
  simp only [Nat.zero_mul, Nat.add_zero] at p3 p4
  have hci : (o.cs.length : Int) < (o.h : Int) := by omega
  clear cc h ho hKB hcs hpt hpn
  go_enter Tryd.func44, Tryd.ntmps44
  go_wp2_with fail
  refine wp_region_noPanic ?_
  refine wp_region_held_drew (S := (fun u : World => u.cell? ⟨ob, 0, none⟩ = some (lpp lb) ∧ u.cell? ⟨ob, 22, none⟩ = some (.int .i64 (o.lv : Int)) ∧ u.cell? ⟨ob, 23, none⟩ = some (.int .i64 (i : Int)) ∧ u.cell? ⟨ob, 23 + 1, none⟩ = some (.int .u64 (num : Int)))) (by kernel_rfl) (⟨p1, p2, p3, p4⟩) (fun hHeld => ?_)
  refine wpAnyH_take (i := 0) (oi := { dst := some 6, op := _, type := _, pos := _, after := _, guard := _ }) (v := ?_) rfl (by kernel_rfl) (by kernel_rfl) (by kernel_rfl) (fun _ _ _ h => h) (Or.inl ⟨by rfl, ?_⟩) (by assumption) ?_
  rotate_left 1
  · intro u hSw; obtain ⟨s1, s2, s3, s4⟩ := hSw; go_simp; try with_reducible rfl
  try simp only [Act.put, List.setIfInBounds_toArray, List.set_cons_zero, List.set_cons_succ]
  refine wpAnyH_take (i := 1) (oi := { dst := some 7, op := _, type := _, pos := _, after := _, guard := _ }) (v := ?_) rfl (by kernel_rfl) (by kernel_rfl) (by kernel_rfl) (fun _ _ _ h => h) (Or.inl ⟨by rfl, ?_⟩) (by assumption) ?_
  rotate_left 1
  · intro u hSw; obtain ⟨s1, s2, s3, s4⟩ := hSw; go_simp; try with_reducible rfl
  try simp only [Act.put, List.setIfInBounds_toArray, List.set_cons_zero, List.set_cons_succ]
  refine wpAnyH_take (i := 2) (oi := { dst := some 8, op := _, type := _, pos := _, after := _, guard := _ }) (v := ?_) rfl (by kernel_rfl) (by kernel_rfl) (by kernel_rfl) (fun _ _ _ h => h) (Or.inl ⟨by rfl, ?_⟩) (by assumption) ?_
  rotate_left 1
  · intro u hSw; obtain ⟨s1, s2, s3, s4⟩ := hSw; go_simp; try with_reducible rfl
  try simp only [Act.put, List.setIfInBounds_toArray, List.set_cons_zero, List.set_cons_succ]
  refine wpAnyH_take (i := 3) (oi := { dst := some 9, op := _, type := _, pos := _, after := _, guard := _ }) (v := ?_) rfl (by kernel_rfl) (by kernel_rfl) (by kernel_rfl) (fun _ _ _ h => h) (Or.inl ⟨by rfl, ?_⟩) (by assumption) ?_
  rotate_left 1
  · intro u hSw; obtain ⟨s1, s2, s3, s4⟩ := hSw; go_simp; try with_reducible rfl
  try simp only [Act.put, List.setIfInBounds_toArray, List.set_cons_zero, List.set_cons_succ]
  refine wpAnyH_take (i := 4) (oi := { dst := some 10, op := _, type := _, pos := _, after := _, guard := _ }) (v := ?_) rfl (by kernel_rfl) (by kernel_rfl) (by kernel_rfl) (fun _ _ _ h => h) (Or.inl ⟨by rfl, ?_⟩) (by assumption) ?_
  rotate_left 1
  · intro u hSw; obtain ⟨s1, s2, s3, s4⟩ := hSw; go_simp; try with_reducible rfl
  try simp only [Act.put, List.setIfInBounds_toArray, List.set_cons_zero, List.set_cons_succ]
  refine wpAnyH_take (i := 5) (oi := { dst := some 11, op := _, type := _, pos := _, after := _, guard := _ }) (v := ?_) rfl (by kernel_rfl) (by kernel_rfl) (by kernel_rfl) (fun _ _ _ h => h) (Or.inl ⟨by rfl, ?_⟩) (by assumption) ?_
  rotate_left 1
  · intro u hSw; obtain ⟨s1, s2, s3, s4⟩ := hSw; go_simp; try with_reducible rfl
  try simp only [Act.put, List.setIfInBounds_toArray, List.set_cons_zero, List.set_cons_succ]
  refine wpAnyH_take (i := 6) (oi := { dst := some 12, op := _, type := _, pos := _, after := _, guard := _ }) (v := ?_) rfl (by kernel_rfl) (by kernel_rfl) (by kernel_rfl) (fun _ _ _ h => h) (Or.inl ⟨by rfl, ?_⟩) (by assumption) ?_
  rotate_left 1
  · intro u hSw; obtain ⟨s1, s2, s3, s4⟩ := hSw; go_simp; try with_reducible rfl
  try simp only [Act.put, List.setIfInBounds_toArray, List.set_cons_zero, List.set_cons_succ]
  refine wpAnyH_take (i := 7) (oi := { dst := some 13, op := _, type := _, pos := _, after := _, guard := _ }) (v := ?_) rfl (by kernel_rfl) (by kernel_rfl) (by kernel_rfl) (fun _ _ _ h => h) (Or.inl ⟨by rfl, ?_⟩) (by assumption) ?_
  rotate_left 1
  · intro u hSw; obtain ⟨s1, s2, s3, s4⟩ := hSw; go_simp; try with_reducible rfl
  try simp only [Act.put, List.setIfInBounds_toArray, List.set_cons_zero, List.set_cons_succ]
  refine wpAnyH_take (i := 8) (oi := { dst := some 14, op := _, type := _, pos := _, after := _, guard := _ }) (v := ?_) rfl (by kernel_rfl) (by kernel_rfl) (by kernel_rfl) (fun _ _ _ h => h) (Or.inl ⟨by rfl, ?_⟩) (by assumption) ?_
  rotate_left 1
  · intro u hSw; obtain ⟨s1, s2, s3, s4⟩ := hSw; go_simp; try with_reducible rfl
  try simp only [Act.put, List.setIfInBounds_toArray, List.set_cons_zero, List.set_cons_succ]
  obtain ⟨wa, hwa⟩ : ∃ y, y = (w.alloc (.cells #[.int .i64 0, .int .u64 0] 79)).drew := ⟨_, rfl⟩
  have fa : Fr (fun _ => False) w wa := by rw [hwa]; exact ((Fr.refl _ w).alloc _).drewN 1
  obtain ⟨X, hX⟩ : ∃ y, y = w.heap.size := ⟨_, rfl⟩
  have ba : wa.heap[X]? = some (.cells #[.int .i64 0, .int .u64 0] 79 (0, 0)) := by rw [hwa, hX]; exact heap_alloc_new w _
  have hXob : ¬ X = ob := by omega
  have k0 : wa.cell? ⟨X, 0, none⟩ = some (.int .i64 0) := by rw [Go.Joins.cell_of_block ba]; rfl
  have k1 : wa.cell? ⟨X, 1, none⟩ = some (.int .u64 0) := by rw [Go.Joins.cell_of_block ba]; rfl
  have kf0 := Go.Joins.unfrozen_of_block ba 0
  have kf1 := Go.Joins.unfrozen_of_block ba 1
  have a1 := (fa.cell (p := ⟨ob, 0, none⟩) hob (fun e => e)).trans p1
  have a2 := (fa.cell (p := ⟨ob, 22, none⟩) hob (fun e => e)).trans p2
  have a3 := (fa.cell (p := ⟨ob, 23, none⟩) hob (fun e => e)).trans p3
  have a4 := (fa.cell (p := ⟨ob, 23 + 1, none⟩) hob (fun e => e)).trans p4
  refine wpAnyH_ready (rs := [9]) (by kernel_rfl) (by simp) ?_
  refine AllReadyH.cons (o := { dst := some 3, op := _, type := _, pos := _, after := _, guard := _ }) rfl (fun Kq hK => ?_) AllReadyH.nil
  clear hHeld
  go_simp
  go_wp2_with fail
  try rw [← hwa]
  try rw [← hX]
  refine hK.out _ _ (⟨a1, a2, a3, a4⟩) (fun hHeld => ?_)
  clear hK Kq
  try simp only [Act.put, List.setIfInBounds_toArray, List.set_cons_zero, List.set_cons_succ]
  refine wpAnyH_take (i := 10) (oi := { dst := some 2, op := _, type := _, pos := _, after := _, guard := _ }) (v := ?_) rfl (by kernel_rfl) (by kernel_rfl) (by kernel_rfl) (fun _ _ _ h => h) (Or.inl ⟨by rfl, ?_⟩) (by assumption) ?_
  rotate_left 1
  · intro u hSw; obtain ⟨s1, s2, s3, s4⟩ := hSw; go_simp; try with_reducible rfl
  try simp only [Act.put, List.setIfInBounds_toArray, List.set_cons_zero, List.set_cons_succ]
  obtain ⟨w1, hw1⟩ : ∃ y, y = (w.alloc (.cells #[.int .i64 (i : Int), .int .u64 (num : Int)] 79)).drew := ⟨_, rfl⟩
  have b1 : w1.heap[X]? = some (.cells #[.int .i64 (i : Int), .int .u64 (num : Int)] 79 (0, 0)) := by rw [hw1, hX]; exact heap_alloc_new w _
  have f1 : Fr (fun _ => False) w w1 := by rw [hw1]; exact ((Fr.refl _ w).alloc _).drewN 1
  have B1 : Hid (Below w.heap.size w w1) := hide2 (f1.to (fun _ _ => id) (Nat.le_refl _))
  have e1 := (f1.cell (p := ⟨ob, 0, none⟩) hob (fun e => e)).trans p1
  have e2 := (f1.cell (p := ⟨ob, 22, none⟩) hob (fun e => e)).trans p2
  have e3 := (f1.cell (p := ⟨ob, 23, none⟩) hob (fun e => e)).trans p3
  have e4 := (f1.cell (p := ⟨ob, 23 + 1, none⟩) hob (fun e => e)).trans p4
  refine wpAnyH_ready (rs := [11]) (by kernel_rfl) (by simp) ?_
  refine AllReadyH.cons (o := { dst := none, op := _, type := _, pos := _, after := _, guard := _ }) rfl (fun Kq hK => ?_) AllReadyH.nil
  clear hHeld
  go_simp
  go_wp2_with fail
  try rw [← hw1]
  refine hK.out _ _ (⟨e1, e2, e3, e4⟩) (fun hHeld => ?_)
  clear hK Kq
  try simp only [Act.put, List.setIfInBounds_toArray, List.set_cons_zero, List.set_cons_succ]
  refine wpAnyH_done (by kernel_rfl) ?_ _
  refine NoPanic.normal ?_
  have HXX := hide2 hX
  clear hX
  have BX := hide2 b1
  have hXe : X = w.heap.size := HXX.out
  subst hXe
  clear hHeld p1 p2 p3 p4 a1 a2 a3 a4 e1 e2 e3 e4 k0 k1 kf0 kf1 ba fa f1 hwa hw1 b1
  have h1 := H.out.below B1.out
  have o1 := HO.out.below B1.out
  have g1 := o1.om.cells.2.2.2.1
  have hob1 := o1.om.lt
  have HOW : Hid (Calls Tryd.prog 59 #[.pointer (some ⟨ob, 0, none⟩)] w1.drew fun e w' => ∃ cv', e = .returned cv' ∧ Lm w' K lb d g gt tc sv T N m F s ∧ Ob w' B ob lb cv' o ∧ Fr B w1 w') := hide2 (by
    have q := own_any (h1.drewn 1) (o1.drewn 1) HKB.out (by omega)
    rw [owned_all HCS.out] at q
    refine q.mono ?_
    rintro e w' ⟨cv', rfl, q1, q2, q3⟩
    exact ⟨cv', rfl, q1, q2, ((Fr.refl B w1).drewN 1).trans q3 (fun j e => .inl e)⟩)
  clear h1 o1
  go_wp2
  refine wp_region_noPanic ?_
  refine wp_region_held_drew (S := (fun u : World => u.cell? ⟨ob, 20, none⟩ = some (.int .i64 (o.h : Int)))) (by kernel_rfl) (g1) (fun hHeld => ?_)
  refine wpAnyH_take (i := 0) (oi := { dst := some 15, op := _, type := _, pos := _, after := _, guard := _ }) (v := ?_) rfl (by kernel_rfl) (by kernel_rfl) (by kernel_rfl) (fun _ _ _ h => h) (Or.inl ⟨by rfl, ?_⟩) (by assumption) ?_
  rotate_left 1
  · intro u hSw; obtain s1 := hSw; go_simp; try with_reducible rfl
  try simp only [Act.put, List.setIfInBounds_toArray, List.set_cons_zero, List.set_cons_succ]
  refine wpAnyH_take (i := 3) (oi := { dst := some 18, op := _, type := _, pos := _, after := _, guard := _ }) (v := ?_) rfl (by kernel_rfl) (by kernel_rfl) (by kernel_rfl) (fun _ _ _ h => h) (Or.inl ⟨by rfl, ?_⟩) (by assumption) ?_
  rotate_left 1
  · intro u hSw; obtain s1 := hSw; go_simp; try with_reducible rfl
  try simp only [Act.put, List.setIfInBounds_toArray, List.set_cons_zero, List.set_cons_succ]
  refine wpAnyH_take (i := 4) (oi := { dst := some 19, op := _, type := _, pos := _, after := _, guard := _ }) (v := ?_) rfl (by kernel_rfl) (by kernel_rfl) (by kernel_rfl) (fun _ _ _ h => h) (Or.inl ⟨by rfl, ?_⟩) (by assumption) ?_
  rotate_left 1
  · intro u hSw; obtain s1 := hSw; go_simp; try with_reducible rfl
  try simp only [Act.put, List.setIfInBounds_toArray, List.set_cons_zero, List.set_cons_succ]
  refine wpAnyH_take (i := 5) (oi := { dst := some 20, op := _, type := _, pos := _, after := _, guard := _ }) (v := ?_) rfl (by kernel_rfl) (by kernel_rfl) (by kernel_rfl) (fun _ _ _ h => h) (Or.inl ⟨by rfl, ?_⟩) (by assumption) ?_
  rotate_left 1
  · intro u hSw; obtain s1 := hSw; go_simp; try with_reducible rfl
  try simp only [Act.put, List.setIfInBounds_toArray, List.set_cons_zero, List.set_cons_succ]
  refine wpAnyH_take (i := 6) (oi := { dst := some 21, op := _, type := _, pos := _, after := _, guard := _ }) (v := ?_) rfl (by kernel_rfl) (by kernel_rfl) (by kernel_rfl) (fun _ _ _ h => h) (Or.inl ⟨by rfl, ?_⟩) (by assumption) ?_
  rotate_left 1
  · intro u hSw; obtain s1 := hSw; go_simp; try with_reducible rfl
  try simp only [Act.put, List.setIfInBounds_toArray, List.set_cons_zero, List.set_cons_succ]
  refine wpAnyH_ready (rs := [1]) (by kernel_rfl) (by simp) ?_
  refine AllReadyH.cons (o := { dst := some 16, op := _, type := _, pos := _, after := _, guard := _ }) rfl (fun Kq hK => ?_) AllReadyH.nil
  obtain s1 := hHeld
  go_simp
  refine HOW.out.mono ?_
  rintro e w2 ⟨cv2, rfl, h2, o2, f2⟩
  obtain ⟨ca, cn, cc, ec⟩ : ∃ a n c, cv2 = Value.slice a n c := by obtain ⟨a, c, e⟩ := o2.row.form; exact ⟨a, _, c, e⟩
  have hcn : cn = o.cs.length := by obtain ⟨a, c, e⟩ := o2.row.form; rw [ec] at e; cases e; rfl
  have g2 := o2.om.cells.2.2.2.1
  have bX2 : w2.heap[w.heap.size]? = some (.cells #[.int .i64 (i : Int), .int .u64 (num : Int)] 79 (0, 0)) := (f2.block w.heap.size (Array.getElem?_eq_some_iff.1 BX.out).1 (fun e => by have := HO.out.kl w.heap.size e; have := HXX.out; omega)).trans BX.out
  have BX2 := hide2 bX2
  have H2 := hide2 h2
  have O2 := hide2 o2
  have F2 : Hid (Fr B w w2) := hide2 ((Fr.below (F := B) B1.out).trans f2 (fun j e => .inl e))
  have hob2 := o2.om.lt
  subst ec
  subst hcn
  clear h2 o2 f2 bX2
  go_wp2_with fail
  refine hK.out _ _ (g2) (fun hHeld => ?_)
  clear hK Kq
  try simp only [Act.put, List.setIfInBounds_toArray, List.set_cons_zero, List.set_cons_succ]
  refine wpAnyH_take (i := 2) (oi := { dst := some 17, op := _, type := _, pos := _, after := _, guard := _ }) (v := ?_) rfl (by kernel_rfl) (by kernel_rfl) (by kernel_rfl) (fun _ _ _ h => h) (Or.inl ⟨by rfl, ?_⟩) (by assumption) ?_
  rotate_left 1
  · intro u hSw; obtain s1 := hSw; go_simp; try with_reducible rfl
  try simp only [Act.put, List.setIfInBounds_toArray, List.set_cons_zero, List.set_cons_succ]
  refine wpAnyH_take (i := 7) (oi := { dst := some 22, op := _, type := _, pos := _, after := _, guard := _ }) (v := ?_) rfl (by kernel_rfl) (by kernel_rfl) (by kernel_rfl) (fun _ _ _ h => h) (Or.inl ⟨by rfl, ?_⟩) (by assumption) ?_
  rotate_left 1
  · intro u hSw; obtain s1 := hSw; go_simp; try with_reducible rfl
  try simp only [Act.put, List.setIfInBounds_toArray, List.set_cons_zero, List.set_cons_succ]
  refine wpAnyH_take (i := 8) (oi := { dst := some 23, op := _, type := _, pos := _, after := _, guard := _ }) (v := ?_) rfl (by kernel_rfl) (by kernel_rfl) (by kernel_rfl) (fun _ _ _ h => h) (Or.inl ⟨by rfl, ?_⟩) (by assumption) ?_
  rotate_left 1
  · intro u hSw; obtain s1 := hSw; go_simp; try with_reducible rfl
  try simp only [Act.put, List.setIfInBounds_toArray, List.set_cons_zero, List.set_cons_succ]
  refine wpAnyH_take (i := 9) (oi := { dst := some 24, op := _, type := _, pos := _, after := _, guard := _ }) (v := ?_) rfl (by kernel_rfl) (by kernel_rfl) (by kernel_rfl) (fun _ _ _ h => h) (Or.inl ⟨by rfl, ?_⟩) (by assumption) ?_
  rotate_left 1
  · intro u hSw; obtain s1 := hSw; go_simp; try with_reducible rfl
  try simp only [Act.put, List.setIfInBounds_toArray, List.set_cons_zero, List.set_cons_succ]
  have HTK := hide2 (take_any H2.out O2.out HKB.out hc1 hmin (by omega) (by omega))
  refine wpAnyH_ready (rs := [10]) (by kernel_rfl) (by simp) ?_
  refine AllReadyH.cons (o := { dst := some 25, op := _, type := _, pos := _, after := _, guard := _ }) rfl (fun Kq hK => ?_) AllReadyH.nil
  obtain s1 := hHeld
  go_simp
  refine HTK.out.mono ?_
  rintro e w3 ⟨rfl, K', B', sv', cv', h3, o3, n3⟩
  have g3 := o3.om.cells.2.2.2.1
  have HR3 : Hid (∃ K' B' sv' cv', Lm w3 K' lb d g gt tc sv' (T.set c true) (N.set c 0) m (flip F c) (s.taken c) ∧ Ob w3 B' ob lb cv' { o with cs := o.cs ++ [c] } ∧ Nx w w3 K B K' B') := hide2 ⟨K', B', sv', cv', h3, o3, (Nx.same HKB.out (F2.out.mono (fun j _ e => .inr e))).trans n3⟩
  clear h3 o3 n3
  go_wp2_with fail
  refine hK.out _ _ (g3) (fun hHeld => ?_)
  clear hK Kq
  try simp only [Act.put, List.setIfInBounds_toArray, List.set_cons_zero, List.set_cons_succ]
  refine wpAnyH_take (i := 11) (oi := { dst := some 26, op := _, type := _, pos := _, after := _, guard := _ }) (v := ?_) rfl (by kernel_rfl) (by kernel_rfl) (by kernel_rfl) (fun _ _ _ h => h) (Or.inl ⟨by rfl, ?_⟩) (by assumption) ?_
  rotate_left 1
  · intro u hSw; obtain s1 := hSw; go_simp; try with_reducible rfl
  try simp only [Act.put, List.setIfInBounds_toArray, List.set_cons_zero, List.set_cons_succ]
  refine wpAnyH_done (by kernel_rfl) ?_ _
  refine NoPanic.normal ?_
  clear hHeld
  go_wp2
  exact bodyPost_ret (results_none (by rfl) _ _ _) rfl ⟨rfl, HR3.out⟩
end
end

section
open Go.RowKit Go.Maps

section
variable {w w' : World} {K B : Nat → Prop} {lb d g gt tc : Nat} {sv : Value} {T : List Bool} {N : List Int} {m : Int} {F : List Nat} {s : Sl} {ob : Nat} {cv : Value} {o : Opm}

set_option maxRecDepth 100000 in
set_option maxHeartbeats 8000000 in
theorem put_late (h : Lm w K lb d g gt tc sv T N m F s) (ho : Ob w B ob lb cv o) (hKB : ∀ j, K j → ¬ B j) (hcs : ∀ c ∈ o.cs, c ∈ s.sp) {l i num : Nat} (hl0 : l = 0) (hpt : o.pt l = i) (hpn : o.pn l = num) (hl2 : s.sp.length ≤ 100000) (hl3 : o.cs.length ≤ 100000) (hh : o.cs.length = o.h) (hh8 : 1 ≤ o.h ∧ o.h ≤ 8) (hlen : s.tw.length ≤ 100000) (hi : i < s.tw.length) (hnum : num < 4611686018427387904) (ht : T.getD ((s.at i).cs 0) false = true) (hm : 0 ≤ m ∧ m < 4611686018427387904) (hok : false = decide (N.getD ((s.at i).cs 0) 0 = num)) :
    Calls Tryd.prog 44 #[.pointer (some ⟨ob, 0, none⟩)] w fun e w' => e = .returned (.tuple #[]) ∧ ∃ cv', Lm w' K lb d g gt tc sv T N (m + 1) F s ∧ Ob w' B ob lb cv' { o with st := 1 } ∧ Fr (fun j => K j ∨ B j) w w' := by
  have c := ho.om.cells
  have p1 := c.1
  have p2 := c.2.2.2.2.2.1
  have p3 : w.cell? ⟨ob, 23 + l * 2, none⟩ = some (.int .i64 (i : Int)) := by have := ho.om.ptAt (l := l) (by omega); rw [hpt] at this; exact this
  have p4 : w.cell? ⟨ob, 23 + l * 2 + 1, none⟩ = some (.int .u64 (num : Int)) := by have := ho.om.pnAt (l := l) (by omega); rw [hpn] at this; exact this
  have hob := ho.om.lt
  have H := hide2 h
  have HO := hide2 ho
  have HKB := hide2 hKB
  have HCS := hide2 hcs
  have HPT := hide2 hpt
  have HPN := hide2 hpn
  subst hl0
  simp only [Nat.zero_mul, Nat.add_zero] at p3 p4
  have hci : ¬ (o.cs.length : Int) < (o.h : Int) := by omega
  have hciN : ¬ o.cs.length < o.h := by omega
  have hciL : o.h ≤ o.cs.length := by omega
  have HOK := hide2 hok
  clear hok
  have HH := hide2 hh
  have hcl1 : 1 ≤ o.cs.length := by omega
  have hcl8 : o.cs.length ≤ 8 := by omega
  clear hh
  clear c h ho hKB hcs hpt hpn
  go_enter Tryd.func44, Tryd.ntmps44
  go_wp2_with fail
  refine wp_region_noPanic ?_
  refine wp_region_held_drew (S := (fun u : World => u.cell? ⟨ob, 0, none⟩ = some (lpp lb) ∧ u.cell? ⟨ob, 22, none⟩ = some (.int .i64 (o.lv : Int)) ∧ u.cell? ⟨ob, 23, none⟩ = some (.int .i64 (i : Int)) ∧ u.cell? ⟨ob, 23 + 1, none⟩ = some (.int .u64 (num : Int)))) (by kernel_rfl) (⟨p1, p2, p3, p4⟩) (fun hHeld => ?_)
  refine wpAnyH_take (i := 0) (oi := { dst := some 6, op := _, type := _, pos := _, after := _, guard := _ }) (v := ?_) rfl (by kernel_rfl) (by kernel_rfl) (by kernel_rfl) (fun _ _ _ h => h) (Or.inl ⟨by rfl, ?_⟩) (by assumption) ?_
  rotate_left 1
  · intro u hSw; obtain ⟨s1, s2, s3, s4⟩ := hSw; go_simp; try with_reducible rfl
  try simp only [Act.put, List.setIfInBounds_toArray, List.set_cons_zero, List.set_cons_succ]
  refine wpAnyH_take (i := 1) (oi := { dst := some 7, op := _, type := _, pos := _, after := _, guard := _ }) (v := ?_) rfl (by kernel_rfl) (by kernel_rfl) (by kernel_rfl) (fun _ _ _ h => h) (Or.inl ⟨by rfl, ?_⟩) (by assumption) ?_
  rotate_left 1
  · intro u hSw; obtain ⟨s1, s2, s3, s4⟩ := hSw; go_simp; try with_reducible rfl
  try simp only [Act.put, List.setIfInBounds_toArray, List.set_cons_zero, List.set_cons_succ]
  refine wpAnyH_take (i := 2) (oi := { dst := some 8, op := _, type := _, pos := _, after := _, guard := _ }) (v := ?_) rfl (by kernel_rfl) (by kernel_rfl) (by kernel_rfl) (fun _ _ _ h => h) (Or.inl ⟨by rfl, ?_⟩) (by assumption) ?_
  rotate_left 1
  · intro u hSw; obtain ⟨s1, s2, s3, s4⟩ := hSw; go_simp; try with_reducible rfl
  try simp only [Act.put, List.setIfInBounds_toArray, List.set_cons_zero, List.set_cons_succ]
  refine wpAnyH_take (i := 3) (oi := { dst := some 9, op := _, type := _, pos := _, after := _, guard := _ }) (v := ?_) rfl (by kernel_rfl) (by kernel_rfl) (by kernel_rfl) (fun _ _ _ h => h) (Or.inl ⟨by rfl, ?_⟩) (by assumption) ?_
  rotate_left 1
  · intro u hSw; obtain ⟨s1, s2, s3, s4⟩ := hSw; go_simp; try with_reducible rfl
  try simp only [Act.put, List.setIfInBounds_toArray, List.set_cons_zero, List.set_cons_succ]
  refine wpAnyH_take (i := 4) (oi := { dst := some 10, op := _, type := _, pos := _, after := _, guard := _ }) (v := ?_) rfl (by kernel_rfl) (by kernel_rfl) (by kernel_rfl) (fun _ _ _ h => h) (Or.inl ⟨by rfl, ?_⟩) (by assumption) ?_
  rotate_left 1
  · intro u hSw; obtain ⟨s1, s2, s3, s4⟩ := hSw; go_simp; try with_reducible rfl
  try simp only [Act.put, List.setIfInBounds_toArray, List.set_cons_zero, List.set_cons_succ]
  refine wpAnyH_take (i := 5) (oi := { dst := some 11, op := _, type := _, pos := _, after := _, guard := _ }) (v := ?_) rfl (by kernel_rfl) (by kernel_rfl) (by kernel_rfl) (fun _ _ _ h => h) (Or.inl ⟨by rfl, ?_⟩) (by assumption) ?_
  rotate_left 1
  · intro u hSw; obtain ⟨s1, s2, s3, s4⟩ := hSw; go_simp; try with_reducible rfl
  try simp only [Act.put, List.setIfInBounds_toArray, List.set_cons_zero, List.set_cons_succ]
  refine wpAnyH_take (i := 6) (oi := { dst := some 12, op := _, type := _, pos := _, after := _, guard := _ }) (v := ?_) rfl (by kernel_rfl) (by kernel_rfl) (by kernel_rfl) (fun _ _ _ h => h) (Or.inl ⟨by rfl, ?_⟩) (by assumption) ?_
  rotate_left 1
  · intro u hSw; obtain ⟨s1, s2, s3, s4⟩ := hSw; go_simp; try with_reducible rfl
  try simp only [Act.put, List.setIfInBounds_toArray, List.set_cons_zero, List.set_cons_succ]
  refine wpAnyH_take (i := 7) (oi := { dst := some 13, op := _, type := _, pos := _, after := _, guard := _ }) (v := ?_) rfl (by kernel_rfl) (by kernel_rfl) (by kernel_rfl) (fun _ _ _ h => h) (Or.inl ⟨by rfl, ?_⟩) (by assumption) ?_
  rotate_left 1
  · intro u hSw; obtain ⟨s1, s2, s3, s4⟩ := hSw; go_simp; try with_reducible rfl
  try simp only [Act.put, List.setIfInBounds_toArray, List.set_cons_zero, List.set_cons_succ]
  refine wpAnyH_take (i := 8) (oi := { dst := some 14, op := _, type := _, pos := _, after := _, guard := _ }) (v := ?_) rfl (by kernel_rfl) (by kernel_rfl) (by kernel_rfl) (fun _ _ _ h => h) (Or.inl ⟨by rfl, ?_⟩) (by assumption) ?_
  rotate_left 1
  · intro u hSw; obtain ⟨s1, s2, s3, s4⟩ := hSw; go_simp; try with_reducible rfl
  try simp only [Act.put, List.setIfInBounds_toArray, List.set_cons_zero, List.set_cons_succ]
  obtain ⟨wa, hwa⟩ : ∃ y, y = (w.alloc (.cells #[.int .i64 0, .int .u64 0] 79)).drew := ⟨_, rfl⟩
  have fa : Fr (fun _ => False) w wa := by rw [hwa]; exact ((Fr.refl _ w).alloc _).drewN 1
  obtain ⟨X, hX⟩ : ∃ y, y = w.heap.size := ⟨_, rfl⟩
  have ba : wa.heap[X]? = some (.cells #[.int .i64 0, .int .u64 0] 79 (0, 0)) := by rw [hwa, hX]; exact heap_alloc_new w _
  have hXob : ¬ X = ob := by omega
  have k0 : wa.cell? ⟨X, 0, none⟩ = some (.int .i64 0) := by rw [Go.Joins.cell_of_block ba]; rfl
  have k1 : wa.cell? ⟨X, 1, none⟩ = some (.int .u64 0) := by rw [Go.Joins.cell_of_block ba]; rfl
  have kf0 := Go.Joins.unfrozen_of_block ba 0
  have kf1 := Go.Joins.unfrozen_of_block ba 1
  have a1 := (fa.cell (p := ⟨ob, 0, none⟩) hob (fun e => e)).trans p1
  have a2 := (fa.cell (p := ⟨ob, 22, none⟩) hob (fun e => e)).trans p2
  have a3 := (fa.cell (p := ⟨ob, 23, none⟩) hob (fun e => e)).trans p3
  have a4 := (fa.cell (p := ⟨ob, 23 + 1, none⟩) hob (fun e => e)).trans p4
  refine wpAnyH_ready (rs := [9]) (by kernel_rfl) (by simp) ?_
  refine AllReadyH.cons (o := { dst := some 3, op := _, type := _, pos := _, after := _, guard := _ }) rfl (fun Kq hK => ?_) AllReadyH.nil
  clear hHeld
  go_simp
  go_wp2_with fail
  try rw [← hwa]
  try rw [← hX]
  refine hK.out _ _ (⟨a1, a2, a3, a4⟩) (fun hHeld => ?_)
  clear hK Kq
  try simp only [Act.put, List.setIfInBounds_toArray, List.set_cons_zero, List.set_cons_succ]
  refine wpAnyH_take (i := 10) (oi := { dst := some 2, op := _, type := _, pos := _, after := _, guard := _ }) (v := ?_) rfl (by kernel_rfl) (by kernel_rfl) (by kernel_rfl) (fun _ _ _ h => h) (Or.inl ⟨by rfl, ?_⟩) (by assumption) ?_
  rotate_left 1
  · intro u hSw; obtain ⟨s1, s2, s3, s4⟩ := hSw; go_simp; try with_reducible rfl
  try simp only [Act.put, List.setIfInBounds_toArray, List.set_cons_zero, List.set_cons_succ]
  obtain ⟨w1, hw1⟩ : ∃ y, y = (w.alloc (.cells #[.int .i64 (i : Int), .int .u64 (num : Int)] 79)).drew := ⟨_, rfl⟩
  have b1 : w1.heap[X]? = some (.cells #[.int .i64 (i : Int), .int .u64 (num : Int)] 79 (0, 0)) := by rw [hw1, hX]; exact heap_alloc_new w _
  have f1 : Fr (fun _ => False) w w1 := by rw [hw1]; exact ((Fr.refl _ w).alloc _).drewN 1
  have B1 : Hid (Below w.heap.size w w1) := hide2 (f1.to (fun _ _ => id) (Nat.le_refl _))
  have e1 := (f1.cell (p := ⟨ob, 0, none⟩) hob (fun e => e)).trans p1
  have e2 := (f1.cell (p := ⟨ob, 22, none⟩) hob (fun e => e)).trans p2
  have e3 := (f1.cell (p := ⟨ob, 23, none⟩) hob (fun e => e)).trans p3
  have e4 := (f1.cell (p := ⟨ob, 23 + 1, none⟩) hob (fun e => e)).trans p4
  refine wpAnyH_ready (rs := [11]) (by kernel_rfl) (by simp) ?_
  refine AllReadyH.cons (o := { dst := none, op := _, type := _, pos := _, after := _, guard := _ }) rfl (fun Kq hK => ?_) AllReadyH.nil
  clear hHeld
  go_simp
  go_wp2_with fail
  try rw [← hw1]
  refine hK.out _ _ (⟨e1, e2, e3, e4⟩) (fun hHeld => ?_)
  clear hK Kq
  try simp only [Act.put, List.setIfInBounds_toArray, List.set_cons_zero, List.set_cons_succ]
  refine wpAnyH_done (by kernel_rfl) ?_ _
  refine NoPanic.normal ?_
  have HXX := hide2 hX
  clear hX
  have BX := hide2 b1
  have hXe : X = w.heap.size := HXX.out
  subst hXe
  clear hHeld p1 p2 p3 p4 a1 a2 a3 a4 e1 e2 e3 e4 k0 k1 kf0 kf1 ba fa f1 hwa hw1 b1
  have h1 := H.out.below B1.out
  have o1 := HO.out.below B1.out
  have g1 := o1.om.cells.2.2.2.1
  have hob1 := o1.om.lt
  have HOW : Hid (Calls Tryd.prog 59 #[.pointer (some ⟨ob, 0, none⟩)] w1.drew fun e w' => ∃ cv', e = .returned cv' ∧ Lm w' K lb d g gt tc sv T N m F s ∧ Ob w' B ob lb cv' o ∧ Fr B w1 w') := hide2 (by
    have q := own_any (h1.drewn 1) (o1.drewn 1) HKB.out (by omega)
    rw [owned_all HCS.out] at q
    refine q.mono ?_
    rintro e w' ⟨cv', rfl, q1, q2, q3⟩
    exact ⟨cv', rfl, q1, q2, ((Fr.refl B w1).drewN 1).trans q3 (fun j e => .inl e)⟩)
  clear h1 o1
  go_wp2
  refine wp_region_noPanic ?_
  refine wp_region_held_drew (S := (fun u : World => u.cell? ⟨ob, 20, none⟩ = some (.int .i64 (o.h : Int)))) (by kernel_rfl) (g1) (fun hHeld => ?_)
  refine wpAnyH_take (i := 0) (oi := { dst := some 15, op := _, type := _, pos := _, after := _, guard := _ }) (v := ?_) rfl (by kernel_rfl) (by kernel_rfl) (by kernel_rfl) (fun _ _ _ h => h) (Or.inl ⟨by rfl, ?_⟩) (by assumption) ?_
  rotate_left 1
  · intro u hSw; obtain s1 := hSw; go_simp; try with_reducible rfl
  try simp only [Act.put, List.setIfInBounds_toArray, List.set_cons_zero, List.set_cons_succ]
  refine wpAnyH_take (i := 3) (oi := { dst := some 18, op := _, type := _, pos := _, after := _, guard := _ }) (v := ?_) rfl (by kernel_rfl) (by kernel_rfl) (by kernel_rfl) (fun _ _ _ h => h) (Or.inl ⟨by rfl, ?_⟩) (by assumption) ?_
  rotate_left 1
  · intro u hSw; obtain s1 := hSw; go_simp; try with_reducible rfl
  try simp only [Act.put, List.setIfInBounds_toArray, List.set_cons_zero, List.set_cons_succ]
  refine wpAnyH_take (i := 4) (oi := { dst := some 19, op := _, type := _, pos := _, after := _, guard := _ }) (v := ?_) rfl (by kernel_rfl) (by kernel_rfl) (by kernel_rfl) (fun _ _ _ h => h) (Or.inl ⟨by rfl, ?_⟩) (by assumption) ?_
  rotate_left 1
  · intro u hSw; obtain s1 := hSw; go_simp; try with_reducible rfl
  try simp only [Act.put, List.setIfInBounds_toArray, List.set_cons_zero, List.set_cons_succ]
  refine wpAnyH_take (i := 5) (oi := { dst := some 20, op := _, type := _, pos := _, after := _, guard := _ }) (v := ?_) rfl (by kernel_rfl) (by kernel_rfl) (by kernel_rfl) (fun _ _ _ h => h) (Or.inl ⟨by rfl, ?_⟩) (by assumption) ?_
  rotate_left 1
  · intro u hSw; obtain s1 := hSw; go_simp; try with_reducible rfl
  try simp only [Act.put, List.setIfInBounds_toArray, List.set_cons_zero, List.set_cons_succ]
  refine wpAnyH_take (i := 6) (oi := { dst := some 21, op := _, type := _, pos := _, after := _, guard := _ }) (v := ?_) rfl (by kernel_rfl) (by kernel_rfl) (by kernel_rfl) (fun _ _ _ h => h) (Or.inl ⟨by rfl, ?_⟩) (by assumption) ?_
  rotate_left 1
  · intro u hSw; obtain s1 := hSw; go_simp; try with_reducible rfl
  try simp only [Act.put, List.setIfInBounds_toArray, List.set_cons_zero, List.set_cons_succ]
  refine wpAnyH_ready (rs := [1]) (by kernel_rfl) (by simp) ?_
  refine AllReadyH.cons (o := { dst := some 16, op := _, type := _, pos := _, after := _, guard := _ }) rfl (fun Kq hK => ?_) AllReadyH.nil
  obtain s1 := hHeld
  go_simp
  refine HOW.out.mono ?_
  rintro e w2 ⟨cv2, rfl, h2, o2, f2⟩
  obtain ⟨ca, cn, cc, ec⟩ : ∃ a n c, cv2 = Value.slice a n c := by obtain ⟨a, c, e⟩ := o2.row.form; exact ⟨a, _, c, e⟩
  have hcn : cn = o.cs.length := by obtain ⟨a, c, e⟩ := o2.row.form; rw [ec] at e; cases e; rfl
  have g2 := o2.om.cells.2.2.2.1
  have bX2 : w2.heap[w.heap.size]? = some (.cells #[.int .i64 (i : Int), .int .u64 (num : Int)] 79 (0, 0)) := (f2.block w.heap.size (Array.getElem?_eq_some_iff.1 BX.out).1 (fun e => by have := HO.out.kl w.heap.size e; have := HXX.out; omega)).trans BX.out
  have BX2 := hide2 bX2
  have H2 := hide2 h2
  have O2 := hide2 o2
  have F2 : Hid (Fr B w w2) := hide2 ((Fr.below (F := B) B1.out).trans f2 (fun j e => .inl e))
  have hob2 := o2.om.lt
  subst ec
  subst hcn
  clear h2 o2 f2 bX2
  go_wp2_with fail
  refine hK.out _ _ (g2) (fun hHeld => ?_)
  clear hK Kq
  try simp only [Act.put, List.setIfInBounds_toArray, List.set_cons_zero, List.set_cons_succ]
  refine wpAnyH_take (i := 2) (oi := { dst := some 17, op := _, type := _, pos := _, after := _, guard := _ }) (v := ?_) rfl (by kernel_rfl) (by kernel_rfl) (by kernel_rfl) (fun _ _ _ h => h) (Or.inl ⟨by rfl, ?_⟩) (by assumption) ?_
  rotate_left 1
  · intro u hSw; obtain s1 := hSw; go_simp; try with_reducible rfl
  try simp only [Act.put, List.setIfInBounds_toArray, List.set_cons_zero, List.set_cons_succ]
  refine wpAnyH_take (i := 7) (oi := { dst := some 22, op := _, type := _, pos := _, after := _, guard := _ }) (v := ?_) rfl (by kernel_rfl) (by kernel_rfl) (by kernel_rfl) (fun _ _ _ h => h) (Or.inl ⟨by rfl, ?_⟩) (by assumption) ?_
  rotate_left 1
  · intro u hSw; obtain s1 := hSw; go_simp; try with_reducible rfl
  try simp only [Act.put, List.setIfInBounds_toArray, List.set_cons_zero, List.set_cons_succ]
  refine wpAnyH_take (i := 8) (oi := { dst := some 23, op := _, type := _, pos := _, after := _, guard := _ }) (v := ?_) rfl (by kernel_rfl) (by kernel_rfl) (by kernel_rfl) (fun _ _ _ h => h) (Or.inl ⟨by rfl, ?_⟩) (by assumption) ?_
  rotate_left 1
  · intro u hSw; obtain s1 := hSw; go_simp; try with_reducible rfl
  try simp only [Act.put, List.setIfInBounds_toArray, List.set_cons_zero, List.set_cons_succ]
  refine wpAnyH_take (i := 9) (oi := { dst := some 24, op := _, type := _, pos := _, after := _, guard := _ }) (v := undef) rfl (by kernel_rfl) (by kernel_rfl) (by kernel_rfl) (fun _ _ _ h => h) (Or.inr ⟨by rfl, rfl⟩) (by assumption) ?_
  try simp only [Act.put, List.setIfInBounds_toArray, List.set_cons_zero, List.set_cons_succ]
  refine wpAnyH_take (i := 10) (oi := { dst := some 25, op := _, type := _, pos := _, after := _, guard := _ }) (v := undef) rfl (by kernel_rfl) (by kernel_rfl) (by kernel_rfl) (fun _ _ _ h => h) (Or.inr ⟨by rfl, rfl⟩) (by assumption) ?_
  try simp only [Act.put, List.setIfInBounds_toArray, List.set_cons_zero, List.set_cons_succ]
  refine wpAnyH_take (i := 11) (oi := { dst := some 26, op := _, type := _, pos := _, after := _, guard := _ }) (v := ?_) rfl (by kernel_rfl) (by kernel_rfl) (by kernel_rfl) (fun _ _ _ h => h) (Or.inl ⟨by rfl, ?_⟩) (by assumption) ?_
  rotate_left 1
  · intro u hSw; obtain s1 := hSw; go_simp; try with_reducible rfl
  try simp only [Act.put, List.setIfInBounds_toArray, List.set_cons_zero, List.set_cons_succ]
  refine wpAnyH_done (by kernel_rfl) ?_ _
  refine NoPanic.normal ?_
  have x3 : Ob (w2.setCell ⟨ob, 21, none⟩ (.int .i64 1)) B ob lb (.slice ca o.cs.length cc) { o with st := 1 } ∧ Fr B w2 (w2.setCell ⟨ob, 21, none⟩ (.int .i64 1)) := O2.out.put1 (O2.out.om.setSt 1) rfl
  obtain ⟨w3, hw3⟩ : ∃ y, y = w2.setCell ⟨ob, 21, none⟩ (.int .i64 1) := ⟨_, rfl⟩
  rw [← hw3] at x3
  have h3 := H2.out.keep x3.2 HKB.out HO.out.b0
  have r21 := O2.out.om.cells.2.2.2.2.1
  have r21f := O2.out.om.free 21
  have HEN := hide2 (enough_any h3 x3.1 HKB.out HCS.out (by omega) (by show o.cs.length ≤ _; omega) (by show o.h ≤ _; omega))
  have F3 : Hid (Fr B w w3) := hide2 (F2.out.trans x3.2 (fun j e => .inl e))
  have bX3 : Hid (w3.heap[w.heap.size]? = some (.cells #[.int .i64 (i : Int), .int .u64 (num : Int)] 79 (0, 0))) := hide2 ((x3.2.block w.heap.size (Array.getElem?_eq_some_iff.1 BX2.out).1 (fun e => by have := HO.out.kl w.heap.size e; have := HXX.out; omega)).trans BX2.out)
  clear h3 x3 hHeld g1 g2
  go_wp2_with fail
  try rw [← hw3]
  clear hw3 r21 r21f
  refine HEN.out.mono ?_
  rintro e w4 ⟨cv4, tv, xs, rfl, hr4, htv, hxs, h4, o4, f4⟩
  have htk : (o.cs ++ xs).take o.h = o.cs := by rw [List.take_append_of_le_length (by have := HH.out; omega), List.take_of_length_le (by have := HH.out; omega)]
  have hr4' : Hr w4 0 tv o.cs := by rw [← htk]; exact hr4
  obtain ⟨ta, tn, tcp, et⟩ : ∃ a n c, tv = Value.slice a n c := by obtain ⟨a, c, e⟩ := hr4'.form; exact ⟨a, _, c, e⟩
  have htn : tn = o.cs.length := by obtain ⟨a, c, e⟩ := hr4'.form; rw [et] at e; cases e; rfl
  subst et
  subst htn
  have bX4 : w4.heap[w.heap.size]? = some (.cells #[.int .i64 (i : Int), .int .u64 (num : Int)] 79 (0, 0)) := (f4.block w.heap.size (Array.getElem?_eq_some_iff.1 bX3.out).1 (fun e => by have := HO.out.kl w.heap.size e; have := HXX.out; omega)).trans bX3.out
  have HR4 := hide2 hr4'
  have HTV := hide2 htv
  have H4 := hide2 h4
  have O4 := hide2 o4
  have F4 : Hid (Fr B w w4) := hide2 (F3.out.trans f4 (fun j e => .inl e))
  have BX4 := hide2 bX4
  have n20 := o4.om.cells.2.2.2.1
  have m1 : w4.rangeAt ob 2 (kC o.k).toList := o4.om.keyAt
  have m2 : w4.cell? ⟨ob, 19, none⟩ = some (.int .i64 o.r) := o4.om.cells.2.2.1
  have hob4 := o4.om.lt
  have dlt : ¬ (o.cs.length : Int) < (o.h : Int) := by have := HH.out; omega
  clear hr4 hr4' htv h4 o4 f4 bX4 htk hxs HEN F3 bX3
  go_wp2
  refine wp_region_noPanic ?_
  refine wp_region_held_drew (S := (fun u : World => u.rangeAt ob 2 (kC o.k).toList ∧ u.cell? ⟨ob, 19, none⟩ = some (.int .i64 o.r))) (by kernel_rfl) (⟨m1, m2⟩) (fun hHeld => ?_)
  refine wpAnyH_take (i := 0) (oi := { dst := some 42, op := _, type := _, pos := _, after := _, guard := _ }) (v := ?_) rfl (by kernel_rfl) (by kernel_rfl) (by kernel_rfl) (fun _ _ _ h => h) (Or.inl ⟨by rfl, ?_⟩) (by assumption) ?_
  rotate_left 1
  · intro u hSw; obtain ⟨s1, s2⟩ := hSw; go_simp; try with_reducible rfl
  try simp only [Act.put, List.setIfInBounds_toArray, List.set_cons_zero, List.set_cons_succ]
  refine wpAnyH_take (i := 1) (oi := { dst := some 43, op := _, type := _, pos := _, after := _, guard := _ }) (v := ?_) rfl (by kernel_rfl) (by kernel_rfl) (by kernel_rfl) (fun _ _ _ h => h) (Or.inl ⟨by rfl, ?_⟩) (by assumption) ?_
  rotate_left 1
  · intro u hSw; obtain ⟨s1, s2⟩ := hSw; go_simp; try with_reducible rfl
  try simp only [Act.put, List.setIfInBounds_toArray, List.set_cons_zero, List.set_cons_succ]
  refine wpAnyH_take (i := 2) (oi := { dst := some 44, op := _, type := _, pos := _, after := _, guard := _ }) (v := ?_) rfl (by kernel_rfl) (by kernel_rfl) (by kernel_rfl) (fun _ _ _ h => h) (Or.inl ⟨by rfl, ?_⟩) (by assumption) ?_
  rotate_left 1
  · intro u hSw; obtain ⟨s1, s2⟩ := hSw; go_simp; try with_reducible rfl
  try simp only [Act.put, List.setIfInBounds_toArray, List.set_cons_zero, List.set_cons_succ]
  refine wpAnyH_take (i := 3) (oi := { dst := some 45, op := _, type := _, pos := _, after := _, guard := _ }) (v := .agg ((kC o.k).toList).toArray) rfl (by kernel_rfl) (by kernel_rfl) (by kernel_rfl) (fun _ _ _ h => h) (yieldsIf_load_mid (by rfl) 72 _ rfl ob 2 rfl ((kC o.k).toList) _ (fun u hu => hu.1) Tryd.underlying72 rfl (by kernel_rfl)) (by assumption) ?_
  try simp only [Act.put, List.setIfInBounds_toArray, List.set_cons_zero, List.set_cons_succ]
  refine wpAnyH_take (i := 4) (oi := { dst := some 46, op := _, type := _, pos := _, after := _, guard := _ }) (v := ?_) rfl (by kernel_rfl) (by kernel_rfl) (by kernel_rfl) (fun _ _ _ h => h) (Or.inl ⟨by rfl, ?_⟩) (by assumption) ?_
  rotate_left 1
  · intro u hSw; obtain ⟨s1, s2⟩ := hSw; go_simp; try with_reducible rfl
  try simp only [Act.put, List.setIfInBounds_toArray, List.set_cons_zero, List.set_cons_succ]
  refine wpAnyH_take (i := 5) (oi := { dst := some 47, op := _, type := _, pos := _, after := _, guard := _ }) (v := ?_) rfl (by kernel_rfl) (by kernel_rfl) (by kernel_rfl) (fun _ _ _ h => h) (Or.inl ⟨by rfl, ?_⟩) (by assumption) ?_
  rotate_left 1
  · intro u hSw; obtain ⟨s1, s2⟩ := hSw; go_simp; try with_reducible rfl
  try simp only [Act.put, List.setIfInBounds_toArray, List.set_cons_zero, List.set_cons_succ]
  refine wpAnyH_take (i := 6) (oi := { dst := some 48, op := _, type := _, pos := _, after := _, guard := _ }) (v := ?_) rfl (by kernel_rfl) (by kernel_rfl) (by kernel_rfl) (fun _ _ _ h => h) (Or.inl ⟨by rfl, ?_⟩) (by assumption) ?_
  rotate_left 1
  · intro u hSw; obtain ⟨s1, s2⟩ := hSw; go_simp; try with_reducible rfl
  try simp only [Act.put, List.setIfInBounds_toArray, List.set_cons_zero, List.set_cons_succ]
  refine wpAnyH_take (i := 7) (oi := { dst := some 49, op := _, type := _, pos := _, after := _, guard := _ }) (v := ?_) rfl (by kernel_rfl) (by kernel_rfl) (by kernel_rfl) (fun _ _ _ h => h) (Or.inl ⟨by rfl, ?_⟩) (by assumption) ?_
  rotate_left 1
  · intro u hSw; obtain ⟨s1, s2⟩ := hSw; go_simp; try with_reducible rfl
  try simp only [Act.put, List.setIfInBounds_toArray, List.set_cons_zero, List.set_cons_succ]
  refine wpAnyH_take (i := 8) (oi := { dst := some 50, op := _, type := _, pos := _, after := _, guard := _ }) (v := .agg (twL (tz o.k o.r)).toArray) rfl (by kernel_rfl) (by kernel_rfl) (by kernel_rfl) (fun _ _ _ h => h) (yieldsIf_build (by rfl) 74 _ rfl _ (by kernel_rfl)) (by assumption) ?_
  try simp only [Act.put, List.setIfInBounds_toArray, List.set_cons_zero, List.set_cons_succ]
  obtain ⟨Y, hY⟩ : ∃ y, y = w4.heap.size := ⟨_, rfl⟩
  obtain ⟨w5, hw5⟩ : ∃ y, y = (w4.alloc (.cells #[.int .u8 0, .int .u8 0, .int .u8 0, .int .u8 0, .int .u8 0, .int .u8 0, .int .u8 0, .int .u8 0, .int .u8 0, .int .u8 0, .int .u8 0, .int .u8 0, .int .u8 0, .int .u8 0, .int .u8 0, .int .u8 0, .int .u8 0, .int .i64 0, .int .i64 0, .int .i64 0, .int .i64 0, .int .i64 0, .int .i64 0, .int .i64 0, .int .i64 0, .int .i64 0, .int .i64 0, .int .i64 0, .int .i64 0, .int .i64 0, .int .i64 0, .int .i64 0, .int .i64 0, .int .i64 0] 74)).drew := ⟨_, rfl⟩
  have f5 : Fr (fun _ => False) w4 w5 := by rw [hw5]; exact ((Fr.refl _ w4).alloc _).drewN 1
  have b5 : w5.heap[Y]? = some (.cells z34 74 (0, 0)) := by rw [hw5, hY]; exact heap_alloc_new w4 _
  have q1 : w5.rangeAt ob 2 (kC o.k).toList := fun j v hv => (f5.cell (p := ⟨ob, 2 + j, none⟩) hob4 (fun e => e)).trans (m1 j v hv)
  have q2 := (f5.cell (p := ⟨ob, 19, none⟩) hob4 (fun e => e)).trans m2
  have T5 : Hid (w5.there Y 0 34) := hide2 (fun j hj => ⟨by rw [Go.Joins.cell_of_block b5, Array.getElem?_eq_getElem (by show _ < 34; omega)]; rfl, Go.Joins.unfrozen_of_block b5 _⟩)
  have hYob : ¬ Y = ob := by omega
  refine wpAnyH_ready (rs := [9]) (by kernel_rfl) (by simp) ?_
  refine AllReadyH.cons (o := { dst := some 5, op := _, type := _, pos := _, after := _, guard := _ }) rfl (fun Kq hK => ?_) AllReadyH.nil
  clear hHeld
  go_simp
  go_wp2_with fail
  try rw [← hw5]
  try rw [← hY]
  refine hK.out _ _ (⟨q1, q2⟩) (fun hHeld => ?_)
  clear hK Kq
  try simp only [Act.put, List.setIfInBounds_toArray, List.set_cons_zero, List.set_cons_succ]
  obtain ⟨w6, hw6⟩ : ∃ y, y = w5.setCells Y 0 (twL (tz o.k o.r)) := ⟨_, rfl⟩
  have f6 : Fr (fun j => j = Y) w5 w6 := by rw [hw6]; exact fr_setCells
  have hob5 : ob < w5.heap.size := Nat.lt_of_lt_of_le hob4 f5.size
  have b6 : w6.heap[Y]? = some (.cells (twL (tz o.k o.r)).toArray 74 (0, 0)) := by rw [hw6]; exact setCells_whole b5 rfl
  have q3 : w6.rangeAt ob 2 (kC o.k).toList := fun j v hv => (f6.cell (p := ⟨ob, 2 + j, none⟩) hob5 (fun e => hYob e.symm)).trans (q1 j v hv)
  have q4 := (f6.cell (p := ⟨ob, 19, none⟩) hob5 (fun e => hYob e.symm)).trans q2
  refine wpAnyH_ready (rs := [10]) (by kernel_rfl) (by simp) ?_
  refine AllReadyH.cons (o := { dst := none, op := _, type := _, pos := _, after := _, guard := _ }) rfl (fun Kq hK => ?_) AllReadyH.nil
  refine step_store_mid rfl 74 _ _ rfl Y 0 (twL (tz o.k o.r)).toArray rfl rfl T5.out (by kernel_rfl) (twL_one _) ?_
  rw [show (twL (tz o.k o.r)).toArray.toList = twL (tz o.k o.r) from rfl, ← hw6]
  clear hw6
  refine hK.out _ _ (⟨q3, q4⟩) (fun hHeld => ?_)
  clear hK Kq
  try simp only [Act.put, List.setIfInBounds_toArray, List.set_cons_zero, List.set_cons_succ]
  refine wpAnyH_done (by kernel_rfl) ?_ _
  refine NoPanic.normal ?_
  have F6 : Hid (Fr B w w6) := hide2 ((F4.out.trans f5 (fun j e => e.elim)).trans f6 (fun j e => .inr (by have := F4.out.size; omega)))
  have BF6 : Hid (Below w4.heap.size w4 w6) := hide2 ((f5.to (fun _ _ => id) (Nat.le_refl _)).trans (f6.to (fun j hj e => by omega) f5.size))
  have HY := hide2 hY
  have B6 := hide2 b6
  clear hHeld q1 q2 q3 q4 m1 m2 n20 f5 f6 b5 b6 T5 hw5 hY
  obtain ⟨i0, hi0, z0, z1, z2⟩ := info_parts infoH
  have hinfo : (Tryd.prog.info? 3).map (·.size) = some 1 := by rw [hi0]; simp [z1]
  have R6 := hrow_fr HR4.out (Fr.below (F := fun _ => False) BF6.out) (fun _ _ e => e)
  obtain ⟨tg, hta⟩ : ∃ tg, ta = some ⟨tg, 0, none⟩ := by
    obtain ⟨g', c', e', _⟩ := HR4.out.at (i := 0) (by omega)
    cases e'; exact ⟨g', rfl⟩
  subst hta
  have hcp := run_copy_row (P := Tryd.prog) w6 47 47 3 3 Y 18 8 8 ⟨tg, 0, none⟩ o.cs.length tcp (twL (tz o.k o.r)).toArray 74 (o.cs.map nv) Tryd.underlying47 hinfo B6.out (by rw [List.length_map]; exact (Nat.min_eq_left (by omega)).symm) (fun j v hv => by
    have hjl : j < o.cs.length := by have := (List.getElem?_eq_some_iff.1 hv).1; simpa using this
    rw [addr_add, Nat.zero_add, World.ownsRow.cellAt R6 _ (by omega)]; exact hv) (by show 18 + (o.cs.map nv).length ≤ 34; rw [List.length_map]; omega) (by intro u hu; obtain ⟨x, _, rfl⟩ := List.mem_map.1 hu; rfl)
  rw [tw_copied o.k o.r o.cs (by omega)] at hcp
  obtain ⟨w7, hw7⟩ : ∃ y, y = w6.setRow Y (twL (tcz o.k o.r o.cs 0)).toArray := ⟨_, rfl⟩
  rw [← hw7] at hcp
  have b7 : w7.heap[Y]? = some (.cells (twL (tcz o.k o.r o.cs 0)).toArray 74 (0, 0)) := by rw [hw7]; exact setRow_heap _ _ _ _ _ _ B6.out
  have B67 : Below w4.heap.size w6 w7 := by rw [hw7]; exact ⟨rfl, rfl, rfl, by simp, fun k hk => setRow_other _ _ _ _ (by have := HY.out; omega)⟩
  have bb7 : Below w4.heap.size w4 w7 := BF6.out.trans B67
  have h7 := H4.out.below bb7
  have o7 := O4.out.below bb7
  have bX7 : w7.heap[w.heap.size]? = some (.cells #[.int .i64 (i : Int), .int .u64 (num : Int)] 79 (0, 0)) := (bb7.block w.heap.size (Array.getElem?_eq_some_iff.1 BX4.out).1).trans BX4.out
  have x70 : w7.cell? ⟨w.heap.size, 0, none⟩ = some (.int .i64 (i : Int)) := by rw [Go.Joins.cell_of_block bX7]; rfl
  have x71 : w7.cell? ⟨w.heap.size, 1, none⟩ = some (.int .u64 (num : Int)) := by rw [Go.Joins.cell_of_block bX7]; rfl
  obtain ⟨first, hfirst⟩ : ∃ f, f = bh s i num 0 := ⟨_, rfl⟩
  have HBH : Hid (Calls Tryd.prog 55 #[.pointer (some ⟨lb, 0, none⟩), .agg #[.int .i64 (i : Int), .int .u64 (num : Int)], .int .i64 0] w7 fun e w' => e = .returned (.int .i64 (first : Int)) ∧ Below w7.heap.size w7 w') := hide2 (by rw [hfirst]; exact h7.behind (l := 0) hi (by decide) hnum)
  have H7 := hide2 h7
  have O7 := hide2 o7
  have BX7 := hide2 bX7
  have B7 := hide2 b7
  have BB7 := hide2 bb7
  have HFIRST := hide2 hfirst
  have hYl : Y < w7.heap.size := (Array.getElem?_eq_some_iff.1 b7).1
  have hXl : w.heap.size < w7.heap.size := (Array.getElem?_eq_some_iff.1 bX7).1
  clear h7 o7 bX7 b7 bb7 B67 R6 hfirst B6 hw7
  go_wp2_with fail
  clear hcp
  refine HBH.out.mono ?_
  rintro e w8 ⟨rfl, hb8⟩
  have b8 : w8.heap[Y]? = some (.cells (twL (tcz o.k o.r o.cs 0)).toArray 74 (0, 0)) := (hb8.block Y hYl).trans B7.out
  have y26 : w8.cell? ⟨Y, 26, none⟩ = some (.int .i64 0) := by rw [Go.Joins.cell_of_block b8]; rfl
  have y26f := Go.Joins.unfrozen_of_block b8 26
  obtain ⟨w9, hw9⟩ : ∃ y, y = w8.setCell ⟨Y, 26, none⟩ (.int .i64 (first : Int)) := ⟨_, rfl⟩
  have b9 : w9.heap[Y]? = some (.cells (twL (tcz o.k o.r o.cs first)).toArray 74 (0, 0)) := by rw [hw9, Go.Joins.block_setCell b8]; rfl
  have f9 : Fr (fun j => j = Y) w8 w9 := by rw [hw9]; exact Fr.setCell (p := ⟨Y, 26, none⟩) (Fr.refl (fun j => j = Y) w8) (.inl rfl) _
  have bb9 : Below w4.heap.size w4 w9 := (BB7.out.trans (hb8.mono BB7.out.size)).trans (f9.to (fun j hj e => by have := HY.out; omega) (by have := BB7.out.size; have := hb8.size; omega))
  have h9 := H4.out.below bb9
  have o9 := O4.out.below bb9
  have bX9 : w9.heap[w.heap.size]? = some (.cells #[.int .i64 (i : Int), .int .u64 (num : Int)] 79 (0, 0)) := (bb9.block w.heap.size (Array.getElem?_eq_some_iff.1 BX4.out).1).trans BX4.out
  have x90 : w9.cell? ⟨w.heap.size, 0, none⟩ = some (.int .i64 (i : Int)) := by rw [Go.Joins.cell_of_block bX9]; rfl
  have x91 : w9.cell? ⟨w.heap.size, 1, none⟩ = some (.int .u64 (num : Int)) := by rw [Go.Joins.cell_of_block bX9]; rfl
  have x92 := h9.lk.cells.2.1
  have hlen9 := h9.cap
  have hlb9 := h9.lk.lt
  have HLK : Hid (Calls Tryd.prog 62 #[.pointer (some ⟨lb, 0, none⟩), .agg #[.int .i64 (i : Int), .int .u64 (num : Int)], .int .i64 0, .int .i64 (s.tw.length : Int)] w9.drew fun e w' => e = .returned (.bool false) ∧ Lm w' K lb d g gt tc sv T (if false = true then N.set ((s.at i).cs 0) (s.tw.length : Int) else N) (m + 1) F s ∧ Fr (fun j => j = d ∨ j = g) w9 w') := hide2 (((h9.drewn 1).link (l := 0) hi (by decide) hnum (by omega) ht hm false HOK.out).mono (by
    rintro e w' ⟨rfl, q1, q2⟩
    exact ⟨rfl, q1, ((Fr.refl (fun j => j = d ∨ j = g) w9).drewN 1).trans q2 (fun j e => .inl e)⟩))
  have H9 := hide2 h9
  have O9 := hide2 o9
  have B9 := hide2 b9
  have BX9 := hide2 bX9
  have BB9 := hide2 bb9
  have hY9 : Y < w9.heap.size := (Array.getElem?_eq_some_iff.1 b9).1
  have hX9 : w.heap.size < w9.heap.size := (Array.getElem?_eq_some_iff.1 bX9).1
  clear h9 o9 b9 bX9 bb9 f9 hb8 b8 x70 x71 HBH H7 O7 B7 BX7 BB7 hYl hXl
  go_wp2_with fail
  try rw [← hw9]
  clear hw9 y26 y26f
  refine wp_region_noPanic ?_
  refine wp_region_held_drew (S := (fun u : World => u.cell? ⟨w.heap.size, 0, none⟩ = some (.int .i64 (i : Int)) ∧ u.cell? ⟨w.heap.size, 1, none⟩ = some (.int .u64 (num : Int)) ∧ u.cell? ⟨lb, 1, none⟩ = some (tvv gt s.tw.length tc))) (by kernel_rfl) (⟨x90, x91, x92⟩) (fun hHeld => ?_)
  refine wpAnyH_take (i := 0) (oi := { dst := some 60, op := _, type := _, pos := _, after := _, guard := _ }) (v := ?_) rfl (by kernel_rfl) (by kernel_rfl) (by kernel_rfl) (fun _ _ _ h => h) (Or.inl ⟨by rfl, ?_⟩) (by assumption) ?_
  rotate_left 1
  · intro u hSw; obtain ⟨s1, s2, s3⟩ := hSw; go_simp; try with_reducible rfl
  try simp only [Act.put, List.setIfInBounds_toArray, List.set_cons_zero, List.set_cons_succ]
  refine wpAnyH_take (i := 1) (oi := { dst := some 61, op := _, type := _, pos := _, after := _, guard := _ }) (v := ?_) rfl (by kernel_rfl) (by kernel_rfl) (by kernel_rfl) (fun _ _ _ h => h) (Or.inl ⟨by rfl, ?_⟩) (by assumption) ?_
  rotate_left 1
  · intro u hSw; obtain ⟨s1, s2, s3⟩ := hSw; go_simp; try with_reducible rfl
  try simp only [Act.put, List.setIfInBounds_toArray, List.set_cons_zero, List.set_cons_succ]
  refine wpAnyH_take (i := 2) (oi := { dst := some 62, op := _, type := _, pos := _, after := _, guard := _ }) (v := ?_) rfl (by kernel_rfl) (by kernel_rfl) (by kernel_rfl) (fun _ _ _ h => h) (Or.inl ⟨by rfl, ?_⟩) (by assumption) ?_
  rotate_left 1
  · intro u hSw; obtain ⟨s1, s2, s3⟩ := hSw; go_simp; try with_reducible rfl
  try simp only [Act.put, List.setIfInBounds_toArray, List.set_cons_zero, List.set_cons_succ]
  refine wpAnyH_take (i := 3) (oi := { dst := some 63, op := _, type := _, pos := _, after := _, guard := _ }) (v := ?_) rfl (by kernel_rfl) (by kernel_rfl) (by kernel_rfl) (fun _ _ _ h => h) (Or.inl ⟨by rfl, ?_⟩) (by assumption) ?_
  rotate_left 1
  · intro u hSw; obtain ⟨s1, s2, s3⟩ := hSw; go_simp; try with_reducible rfl
  try simp only [Act.put, List.setIfInBounds_toArray, List.set_cons_zero, List.set_cons_succ]
  refine wpAnyH_take (i := 4) (oi := { dst := some 64, op := _, type := _, pos := _, after := _, guard := _ }) (v := ?_) rfl (by kernel_rfl) (by kernel_rfl) (by kernel_rfl) (fun _ _ _ h => h) (Or.inl ⟨by rfl, ?_⟩) (by assumption) ?_
  rotate_left 1
  · intro u hSw; obtain ⟨s1, s2, s3⟩ := hSw; go_simp; try with_reducible rfl
  try simp only [Act.put, List.setIfInBounds_toArray, List.set_cons_zero, List.set_cons_succ]
  refine wpAnyH_take (i := 5) (oi := { dst := some 65, op := _, type := _, pos := _, after := _, guard := _ }) (v := ?_) rfl (by kernel_rfl) (by kernel_rfl) (by kernel_rfl) (fun _ _ _ h => h) (Or.inl ⟨by rfl, ?_⟩) (by assumption) ?_
  rotate_left 1
  · intro u hSw; obtain ⟨s1, s2, s3⟩ := hSw; go_simp; try with_reducible rfl
  try simp only [Act.put, List.setIfInBounds_toArray, List.set_cons_zero, List.set_cons_succ]
  refine wpAnyH_take (i := 6) (oi := { dst := some 66, op := _, type := _, pos := _, after := _, guard := _ }) (v := ?_) rfl (by kernel_rfl) (by kernel_rfl) (by kernel_rfl) (fun _ _ _ h => h) (Or.inl ⟨by rfl, ?_⟩) (by assumption) ?_
  rotate_left 1
  · intro u hSw; obtain ⟨s1, s2, s3⟩ := hSw; go_simp; try with_reducible rfl
  try simp only [Act.put, List.setIfInBounds_toArray, List.set_cons_zero, List.set_cons_succ]
  refine wpAnyH_ready (rs := [7]) (by kernel_rfl) (by simp) ?_
  refine AllReadyH.cons (o := { dst := some 67, op := _, type := _, pos := _, after := _, guard := _ }) rfl (fun Kq hK => ?_) AllReadyH.nil
  obtain ⟨s1, s2, s3⟩ := hHeld
  go_simp
  refine HLK.out.mono ?_
  rintro e w10 ⟨rfl, h10, f10⟩
  have f10K : Fr K w9 w10 := f10.mono (fun j _ e => H.out.kk j (by rcases e with e | e <;> simp [e]))
  have hXK : ¬ K w.heap.size := fun e => by have := H.out.kl w.heap.size e; have := HXX.out; omega
  have hYK : ¬ K Y := fun e => by have := H.out.kl Y e; have := HY.out; have := F4.out.size; omega
  have o10 := O9.out.keep f10K (fun j hB hK => HKB.out j hK hB)
  have g90 := (f10K.cell (p := ⟨w.heap.size, 0, none⟩) hX9 hXK).trans x90
  have g91 := (f10K.cell (p := ⟨w.heap.size, 1, none⟩) hX9 hXK).trans x91
  have g92 := h10.lk.cells.2.1
  have b10 : w10.heap[Y]? = some (.cells (twL (tcz o.k o.r o.cs first)).toArray 74 (0, 0)) := (f10K.block Y hY9 hYK).trans B9.out
  have H10 := hide2 h10
  have O10 := hide2 o10
  have B10 := hide2 b10
  have HTR : Hid (Hr w10 0 (.slice (some ⟨tg, 0, none⟩) o.cs.length tcp) o.cs) := hide2 (hrow_fr (hrow_fr HR4.out (Fr.below (F := fun _ => False) BB9.out) (fun _ _ e => e)) f10K (fun j e => (HTV.out j e).1))
  have F10 : Hid (Fr (fun j => K j ∨ B j) w w10) := hide2 (((F4.out.mono (G := fun j => K j ∨ B j) (fun j _ e => .inr e)).trans (Fr.below (F := fun _ => False) BB9.out) (fun j e => e.elim)).trans f10K (fun j e => .inl (.inl e)))
  clear h10 o10 b10 f10 f10K
  go_wp2_with fail
  refine hK.out _ _ (⟨g90, g91, g92⟩) (fun hHeld => ?_)
  clear hK Kq
  try simp only [Act.put, List.setIfInBounds_toArray, List.set_cons_zero, List.set_cons_succ]
  refine wpAnyH_take (i := 8) (oi := { dst := some 68, op := _, type := _, pos := _, after := _, guard := _ }) (v := ?_) rfl (by kernel_rfl) (by kernel_rfl) (by kernel_rfl) (fun _ _ _ h => h) (Or.inl ⟨by rfl, ?_⟩) (by assumption) ?_
  rotate_left 1
  · intro u hSw; obtain ⟨s1, s2, s3⟩ := hSw; go_simp; try with_reducible rfl
  try simp only [Act.put, List.setIfInBounds_toArray, List.set_cons_zero, List.set_cons_succ]
  refine wpAnyH_done (by kernel_rfl) ?_ _
  refine NoPanic.normal ?_
  clear hHeld x90 x91 x92 HLK H9 O9 B9 BX9
  go_wp2
  exact bodyPost_ret (results_none (by rfl) _ _ _) rfl ⟨rfl, _, H10.out, O10.out, F10.out⟩
end
end

section
open Go.RowKit Go.Maps


section
variable {w w' : World} {K B : Nat → Prop} {lb d g gt tc : Nat} {sv : Value} {T : List Bool} {N : List Int} {m : Int} {F : List Nat} {s : Sl} {ob : Nat} {cv : Value} {o : Opm}
/-- A tower more, in the row's own block or a new one. -/
theorem Lm.towered {t : Tw} {gt' tc' : Nat} {w1 w2 : World} (h : Lm w K lb d g gt tc sv T N m F s) (hF : Fr (fun j => j = gt) w w2)
    (hr : w2.ownsRow 0 74 34 (tvv gt' (s.tw.length + 1) tc') (s.tw.length + 1) (s.tw.flatMap twL ++ twL t)) (ho : gt' = gt ∨ w.heap.size ≤ gt') (hw : w1 = w2.setCell ⟨lb, 1, none⟩ (tvv gt' (s.tw.length + 1) tc')) :
    Lm w1 (fun j => K j ∨ j = gt') lb d g gt' tc' sv T N m F ⟨s.tw ++ [t], s.sp⟩ ∧ Fr K w w1 := by
  obtain ⟨⟨n1, n2, n3, n4, n5, n6⟩, n7⟩ := h.ne
  have hlt := h.lk.lt
  have hF2 : Fr (fun j => j = lb) w2 w1 := by rw [hw]; exact Fr.setCell (p := ⟨lb, 1, none⟩) (Fr.refl (fun j => j = lb) w2) (.inl rfl) _
  have hF3 : Fr (fun j => j = lb ∨ j = gt) w w1 := (hF.mono (G := fun j => j = lb ∨ j = gt) (fun j _ e => .inr e)).trans hF2 (fun j e => .inl (.inl e))
  have hk := h.kk
  have hno : gt' ≠ lb ∧ gt' ≠ 0 := by
    rcases ho with e | e
    · exact ⟨fun q => n3 (by rw [← q, e]), fun q => h.k0 (hk 0 (by simp [← q, e]))⟩
    · exact ⟨by omega, by omega⟩
  have q1 : ∀ j, j < w.heap.size → j ≠ lb → j ≠ gt → w1.heap[j]? = w.heap[j]? := fun j hj a b => hF3.block j hj (by rintro (e | e); exact a e; exact b e)
  have hF4 : Fr K w w1 := hF3.mono (fun j _ e => hk j (by rcases e with e | e <;> simp [e]))
  have hlen : (s.tw ++ [t]).length = s.tw.length + 1 := by simp
  have hflat : (s.tw ++ [t]).flatMap twL = s.tw.flatMap twL ++ twL t := by simp
  have hr1 := hrow_fr hr hF2 (fun j e e3 => by cases e; exact hno.1 e3)
  refine ⟨⟨h.aw.same (q1 d h.aw.ab.lt (Ne.symm n1) n5) (q1 g h.aw.nb.lt (Ne.symm n2) n6), ?_, ?_, ?_, h.tab.fr hF4 h.k0, ?_, ?_, ?_⟩, hF4⟩
  · show Lk3 w1 lb d (tvv gt' (s.tw ++ [t]).length tc') sv
    rw [hlen, hw]
    exact (h.lk.same (hF.block lb hlt (fun e => n3 e))).setT _
  · show w1.ownsRow 0 _ 34 (tvv gt' (s.tw ++ [t]).length tc') (s.tw ++ [t]).length ((s.tw ++ [t]).flatMap twL)
    rw [hlen, hflat]
    exact hr1
  · exact hrow_fr h.sp hF3 (fun j e => by rintro (q | q); exact (n7 j e).1 q; exact (n7 j e).2.2.2 q)
  · rintro (e | e)
    · exact h.k0 e
    · exact hno.2 e.symm
  · rintro j (e | e | e | e | e)
    · exact .inl (hk j (by simp [e]))
    · exact .inl (hk j (by simp [e]))
    · exact .inl (hk j (by simp [e]))
    · exact .inr e
    · exact .inl (hk j (by simp [e]))
  · rintro j (e | e)
    · exact Nat.lt_of_lt_of_le (h.kl j e) hF4.size
    · rw [e]; exact (World.ownsRow.lt hr1 gt' rfl).2
theorem step_buildSlice {P : Program} {ops : Array Oper} {o : Oper} {a : Act} {w : World} {K : Act → World → Prop} {Q : Exit → Act → World → Prop} {E : Prop} (hg : o.guard = none) (t e : TypeId) (len : Nat) (parts : Array (Nat × Operand)) (ho : o.op = .buildSlice t len parts) (cells : Array Value) (ie : TypeInfo) (z : Value) (hu : P.underlying t = some (.slice e)) (hi : P.info? e = some ie) (hz : ie.zero = some z) (size : Nat) (hsz : ie.size = size) (hsmall : ¬ len * size > 2 ^ 24) (hpos : ¬ len * size = 0)
    (hf : Instr.fill (fun i => some (i * size, size)) ((Array.range (len * size)).map (z.cells[· % z.cells.size]!)) (parts.map fun (i, x) => (i, a.eval x)).toList = some cells)
    (h : K (a.put o.dst (.slice (some ⟨w.heap.size, 0, none⟩) len len)) (w.alloc (.cells cells e))) : if Region.wanted o (yielded ops a.tmps) = true then Oper.wp P o a w K Q else E := by
  have hw : Region.wanted o (yielded ops a.tmps) = true := by simp [Region.wanted, hg]
  rw [if_pos hw]
  subst hsz
  exact wp_buildSlice t e len parts ho cells ie z hu hi hz hsmall hpos hf h
theorem infoTw : (Tryd.prog.info? 74).map (fun i => (i.zero, i.size, i.bytes)) = some (some (.agg z34), 34, 160) := by kernel_rfl
theorem linked_flat {i : Nat} {k : ByteArray} {r : Int} {cs : List Nat} (hi : i < s.tw.length) : (s.linked i k r cs).tw.flatMap twL = s.tw.flatMap twL ++ twL (tcz k r cs (s.nx i 0)) := by
  unfold Sl.linked
  have e1 : (s.tw.set i { s.at i with ns := upd (s.at i).ns 0 s.tw.length }).flatMap twL = s.tw.flatMap twL := flat34_same s.tw i (s.at i) _ (at_some hi) rfl
  rw [List.flatMap_append, e1]
  simp
  rfl
end
section
variable {w w' : World} {K B : Nat → Prop} {lb d g gt tc : Nat} {sv : Value} {T : List Bool} {N : List Int} {m : Int} {F : List Nat} {s : Sl} {ob : Nat} {cv : Value} {o : Opm}

set_option maxRecDepth 100000 in
set_option maxHeartbeats 8000000 in
theorem put_link (h : Lm w K lb d g gt tc sv T N m F s) (ho : Ob w B ob lb cv o) (hKB : ∀ j, K j → ¬ B j) (hcs : ∀ c ∈ o.cs, c ∈ s.sp) {l i num : Nat} (hl0 : l = 0) (hpt : o.pt l = i) (hpn : o.pn l = num) (hl2 : s.sp.length ≤ 100000) (hl3 : o.cs.length ≤ 100000) (hh : o.cs.length = o.h) (hh8 : 1 ≤ o.h ∧ o.h ≤ 8) (hlen : s.tw.length ≤ 100000) (hns : (s.at i).ns 0 = num) (hnl : num < s.tw.length) (hlv : o.lv < 8) (hi : i < s.tw.length) (hnum : num < 4611686018427387904) (ht : T.getD ((s.at i).cs 0) false = true) (hm : 0 ≤ m ∧ m < 4611686018427387904) (hok : true = decide (N.getD ((s.at i).cs 0) 0 = num)) :
    Calls Tryd.prog 44 #[.pointer (some ⟨ob, 0, none⟩)] w fun e w' => e = .returned (.tuple #[]) ∧ ∃ K' B' gt' tc' sv' cv', Lm w' K' lb d g gt' tc' sv' T (N.set ((s.at i).cs 0) (s.tw.length : Int)) (m + 1) F (s.linked i o.k o.r o.cs) ∧ Ob w' B' ob lb cv' (({ o with st := 1, tw := s.tw.length } : Opm).rose (s.linked i o.k o.r o.cs)) ∧ Nx w w' K B K' B' := by
  have c := ho.om.cells
  have p1 := c.1
  have p2 := c.2.2.2.2.2.1
  have p3 : w.cell? ⟨ob, 23 + l * 2, none⟩ = some (.int .i64 (i : Int)) := by have := ho.om.ptAt (l := l) (by omega); rw [hpt] at this; exact this
  have p4 : w.cell? ⟨ob, 23 + l * 2 + 1, none⟩ = some (.int .u64 (num : Int)) := by have := ho.om.pnAt (l := l) (by omega); rw [hpn] at this; exact this
  have hob := ho.om.lt
  have H := hide2 h
  have HO := hide2 ho
  have HKB := hide2 hKB
  have HCS := hide2 hcs
  have HPT := hide2 hpt
  have HPN := hide2 hpn
  subst hl0
  simp only [Nat.zero_mul, Nat.add_zero] at p3 p4
  have hci : ¬ (o.cs.length : Int) < (o.h : Int) := by omega
  have hciN : ¬ o.cs.length < o.h := by omega
  have hciL : o.h ≤ o.cs.length := by omega
  have HOK := hide2 hok
  clear hok
  have HH := hide2 hh
  have hcl1 : 1 ≤ o.cs.length := by omega
  have hcl8 : o.cs.length ≤ 8 := by omega
  clear hh
  have HNS := hide2 hns
  clear c h ho hKB hcs hpt hpn hns
  go_enter Tryd.func44, Tryd.ntmps44
  go_wp2_with fail
  refine wp_region_noPanic ?_
  refine wp_region_held_drew (S := (fun u : World => u.cell? ⟨ob, 0, none⟩ = some (lpp lb) ∧ u.cell? ⟨ob, 22, none⟩ = some (.int .i64 (o.lv : Int)) ∧ u.cell? ⟨ob, 23, none⟩ = some (.int .i64 (i : Int)) ∧ u.cell? ⟨ob, 23 + 1, none⟩ = some (.int .u64 (num : Int)))) (by kernel_rfl) (⟨p1, p2, p3, p4⟩) (fun hHeld => ?_)
  refine wpAnyH_take (i := 0) (oi := { dst := some 6, op := _, type := _, pos := _, after := _, guard := _ }) (v := ?_) rfl (by kernel_rfl) (by kernel_rfl) (by kernel_rfl) (fun _ _ _ h => h) (Or.inl ⟨by rfl, ?_⟩) (by assumption) ?_
  rotate_left 1
  · intro u hSw; obtain ⟨s1, s2, s3, s4⟩ := hSw; go_simp; try with_reducible rfl
  try simp only [Act.put, List.setIfInBounds_toArray, List.set_cons_zero, List.set_cons_succ]
  refine wpAnyH_take (i := 1) (oi := { dst := some 7, op := _, type := _, pos := _, after := _, guard := _ }) (v := ?_) rfl (by kernel_rfl) (by kernel_rfl) (by kernel_rfl) (fun _ _ _ h => h) (Or.inl ⟨by rfl, ?_⟩) (by assumption) ?_
  rotate_left 1
  · intro u hSw; obtain ⟨s1, s2, s3, s4⟩ := hSw; go_simp; try with_reducible rfl
  try simp only [Act.put, List.setIfInBounds_toArray, List.set_cons_zero, List.set_cons_succ]
  refine wpAnyH_take (i := 2) (oi := { dst := some 8, op := _, type := _, pos := _, after := _, guard := _ }) (v := ?_) rfl (by kernel_rfl) (by kernel_rfl) (by kernel_rfl) (fun _ _ _ h => h) (Or.inl ⟨by rfl, ?_⟩) (by assumption) ?_
  rotate_left 1
  · intro u hSw; obtain ⟨s1, s2, s3, s4⟩ := hSw; go_simp; try with_reducible rfl
  try simp only [Act.put, List.setIfInBounds_toArray, List.set_cons_zero, List.set_cons_succ]
  refine wpAnyH_take (i := 3) (oi := { dst := some 9, op := _, type := _, pos := _, after := _, guard := _ }) (v := ?_) rfl (by kernel_rfl) (by kernel_rfl) (by kernel_rfl) (fun _ _ _ h => h) (Or.inl ⟨by rfl, ?_⟩) (by assumption) ?_
  rotate_left 1
  · intro u hSw; obtain ⟨s1, s2, s3, s4⟩ := hSw; go_simp; try with_reducible rfl
  try simp only [Act.put, List.setIfInBounds_toArray, List.set_cons_zero, List.set_cons_succ]
  refine wpAnyH_take (i := 4) (oi := { dst := some 10, op := _, type := _, pos := _, after := _, guard := _ }) (v := ?_) rfl (by kernel_rfl) (by kernel_rfl) (by kernel_rfl) (fun _ _ _ h => h) (Or.inl ⟨by rfl, ?_⟩) (by assumption) ?_
  rotate_left 1
  · intro u hSw; obtain ⟨s1, s2, s3, s4⟩ := hSw; go_simp; try with_reducible rfl
  try simp only [Act.put, List.setIfInBounds_toArray, List.set_cons_zero, List.set_cons_succ]
  refine wpAnyH_take (i := 5) (oi := { dst := some 11, op := _, type := _, pos := _, after := _, guard := _ }) (v := ?_) rfl (by kernel_rfl) (by kernel_rfl) (by kernel_rfl) (fun _ _ _ h => h) (Or.inl ⟨by rfl, ?_⟩) (by assumption) ?_
  rotate_left 1
  · intro u hSw; obtain ⟨s1, s2, s3, s4⟩ := hSw; go_simp; try with_reducible rfl
  try simp only [Act.put, List.setIfInBounds_toArray, List.set_cons_zero, List.set_cons_succ]
  refine wpAnyH_take (i := 6) (oi := { dst := some 12, op := _, type := _, pos := _, after := _, guard := _ }) (v := ?_) rfl (by kernel_rfl) (by kernel_rfl) (by kernel_rfl) (fun _ _ _ h => h) (Or.inl ⟨by rfl, ?_⟩) (by assumption) ?_
  rotate_left 1
  · intro u hSw; obtain ⟨s1, s2, s3, s4⟩ := hSw; go_simp; try with_reducible rfl
  try simp only [Act.put, List.setIfInBounds_toArray, List.set_cons_zero, List.set_cons_succ]
  refine wpAnyH_take (i := 7) (oi := { dst := some 13, op := _, type := _, pos := _, after := _, guard := _ }) (v := ?_) rfl (by kernel_rfl) (by kernel_rfl) (by kernel_rfl) (fun _ _ _ h => h) (Or.inl ⟨by rfl, ?_⟩) (by assumption) ?_
  rotate_left 1
  · intro u hSw; obtain ⟨s1, s2, s3, s4⟩ := hSw; go_simp; try with_reducible rfl
  try simp only [Act.put, List.setIfInBounds_toArray, List.set_cons_zero, List.set_cons_succ]
  refine wpAnyH_take (i := 8) (oi := { dst := some 14, op := _, type := _, pos := _, after := _, guard := _ }) (v := ?_) rfl (by kernel_rfl) (by kernel_rfl) (by kernel_rfl) (fun _ _ _ h => h) (Or.inl ⟨by rfl, ?_⟩) (by assumption) ?_
  rotate_left 1
  · intro u hSw; obtain ⟨s1, s2, s3, s4⟩ := hSw; go_simp; try with_reducible rfl
  try simp only [Act.put, List.setIfInBounds_toArray, List.set_cons_zero, List.set_cons_succ]
  obtain ⟨wa, hwa⟩ : ∃ y, y = (w.alloc (.cells #[.int .i64 0, .int .u64 0] 79)).drew := ⟨_, rfl⟩
  have fa : Fr (fun _ => False) w wa := by rw [hwa]; exact ((Fr.refl _ w).alloc _).drewN 1
  obtain ⟨X, hX⟩ : ∃ y, y = w.heap.size := ⟨_, rfl⟩
  have ba : wa.heap[X]? = some (.cells #[.int .i64 0, .int .u64 0] 79 (0, 0)) := by rw [hwa, hX]; exact heap_alloc_new w _
  have hXob : ¬ X = ob := by omega
  have k0 : wa.cell? ⟨X, 0, none⟩ = some (.int .i64 0) := by rw [Go.Joins.cell_of_block ba]; rfl
  have k1 : wa.cell? ⟨X, 1, none⟩ = some (.int .u64 0) := by rw [Go.Joins.cell_of_block ba]; rfl
  have kf0 := Go.Joins.unfrozen_of_block ba 0
  have kf1 := Go.Joins.unfrozen_of_block ba 1
  have a1 := (fa.cell (p := ⟨ob, 0, none⟩) hob (fun e => e)).trans p1
  have a2 := (fa.cell (p := ⟨ob, 22, none⟩) hob (fun e => e)).trans p2
  have a3 := (fa.cell (p := ⟨ob, 23, none⟩) hob (fun e => e)).trans p3
  have a4 := (fa.cell (p := ⟨ob, 23 + 1, none⟩) hob (fun e => e)).trans p4
  refine wpAnyH_ready (rs := [9]) (by kernel_rfl) (by simp) ?_
  refine AllReadyH.cons (o := { dst := some 3, op := _, type := _, pos := _, after := _, guard := _ }) rfl (fun Kq hK => ?_) AllReadyH.nil
  clear hHeld
  go_simp
  go_wp2_with fail
  try rw [← hwa]
  try rw [← hX]
  refine hK.out _ _ (⟨a1, a2, a3, a4⟩) (fun hHeld => ?_)
  clear hK Kq
  try simp only [Act.put, List.setIfInBounds_toArray, List.set_cons_zero, List.set_cons_succ]
  refine wpAnyH_take (i := 10) (oi := { dst := some 2, op := _, type := _, pos := _, after := _, guard := _ }) (v := ?_) rfl (by kernel_rfl) (by kernel_rfl) (by kernel_rfl) (fun _ _ _ h => h) (Or.inl ⟨by rfl, ?_⟩) (by assumption) ?_
  rotate_left 1
  · intro u hSw; obtain ⟨s1, s2, s3, s4⟩ := hSw; go_simp; try with_reducible rfl
  try simp only [Act.put, List.setIfInBounds_toArray, List.set_cons_zero, List.set_cons_succ]
  obtain ⟨w1, hw1⟩ : ∃ y, y = (w.alloc (.cells #[.int .i64 (i : Int), .int .u64 (num : Int)] 79)).drew := ⟨_, rfl⟩
  have b1 : w1.heap[X]? = some (.cells #[.int .i64 (i : Int), .int .u64 (num : Int)] 79 (0, 0)) := by rw [hw1, hX]; exact heap_alloc_new w _
  have f1 : Fr (fun _ => False) w w1 := by rw [hw1]; exact ((Fr.refl _ w).alloc _).drewN 1
  have B1 : Hid (Below w.heap.size w w1) := hide2 (f1.to (fun _ _ => id) (Nat.le_refl _))
  have e1 := (f1.cell (p := ⟨ob, 0, none⟩) hob (fun e => e)).trans p1
  have e2 := (f1.cell (p := ⟨ob, 22, none⟩) hob (fun e => e)).trans p2
  have e3 := (f1.cell (p := ⟨ob, 23, none⟩) hob (fun e => e)).trans p3
  have e4 := (f1.cell (p := ⟨ob, 23 + 1, none⟩) hob (fun e => e)).trans p4
  refine wpAnyH_ready (rs := [11]) (by kernel_rfl) (by simp) ?_
  refine AllReadyH.cons (o := { dst := none, op := _, type := _, pos := _, after := _, guard := _ }) rfl (fun Kq hK => ?_) AllReadyH.nil
  clear hHeld
  go_simp
  go_wp2_with fail
  try rw [← hw1]
  refine hK.out _ _ (⟨e1, e2, e3, e4⟩) (fun hHeld => ?_)
  clear hK Kq
  try simp only [Act.put, List.setIfInBounds_toArray, List.set_cons_zero, List.set_cons_succ]
  refine wpAnyH_done (by kernel_rfl) ?_ _
  refine NoPanic.normal ?_
  have HXX := hide2 hX
  clear hX
  have BX := hide2 b1
  have hXe : X = w.heap.size := HXX.out
  subst hXe
  clear hHeld p1 p2 p3 p4 a1 a2 a3 a4 e1 e2 e3 e4 k0 k1 kf0 kf1 ba fa f1 hwa hw1 b1
  have h1 := H.out.below B1.out
  have o1 := HO.out.below B1.out
  have g1 := o1.om.cells.2.2.2.1
  have hob1 := o1.om.lt
  have HOW : Hid (Calls Tryd.prog 59 #[.pointer (some ⟨ob, 0, none⟩)] w1.drew fun e w' => ∃ cv', e = .returned cv' ∧ Lm w' K lb d g gt tc sv T N m F s ∧ Ob w' B ob lb cv' o ∧ Fr B w1 w') := hide2 (by
    have q := own_any (h1.drewn 1) (o1.drewn 1) HKB.out (by omega)
    rw [owned_all HCS.out] at q
    refine q.mono ?_
    rintro e w' ⟨cv', rfl, q1, q2, q3⟩
    exact ⟨cv', rfl, q1, q2, ((Fr.refl B w1).drewN 1).trans q3 (fun j e => .inl e)⟩)
  clear h1 o1
  go_wp2
  refine wp_region_noPanic ?_
  refine wp_region_held_drew (S := (fun u : World => u.cell? ⟨ob, 20, none⟩ = some (.int .i64 (o.h : Int)))) (by kernel_rfl) (g1) (fun hHeld => ?_)
  refine wpAnyH_take (i := 0) (oi := { dst := some 15, op := _, type := _, pos := _, after := _, guard := _ }) (v := ?_) rfl (by kernel_rfl) (by kernel_rfl) (by kernel_rfl) (fun _ _ _ h => h) (Or.inl ⟨by rfl, ?_⟩) (by assumption) ?_
  rotate_left 1
  · intro u hSw; obtain s1 := hSw; go_simp; try with_reducible rfl
  try simp only [Act.put, List.setIfInBounds_toArray, List.set_cons_zero, List.set_cons_succ]
  refine wpAnyH_take (i := 3) (oi := { dst := some 18, op := _, type := _, pos := _, after := _, guard := _ }) (v := ?_) rfl (by kernel_rfl) (by kernel_rfl) (by kernel_rfl) (fun _ _ _ h => h) (Or.inl ⟨by rfl, ?_⟩) (by assumption) ?_
  rotate_left 1
  · intro u hSw; obtain s1 := hSw; go_simp; try with_reducible rfl
  try simp only [Act.put, List.setIfInBounds_toArray, List.set_cons_zero, List.set_cons_succ]
  refine wpAnyH_take (i := 4) (oi := { dst := some 19, op := _, type := _, pos := _, after := _, guard := _ }) (v := ?_) rfl (by kernel_rfl) (by kernel_rfl) (by kernel_rfl) (fun _ _ _ h => h) (Or.inl ⟨by rfl, ?_⟩) (by assumption) ?_
  rotate_left 1
  · intro u hSw; obtain s1 := hSw; go_simp; try with_reducible rfl
  try simp only [Act.put, List.setIfInBounds_toArray, List.set_cons_zero, List.set_cons_succ]
  refine wpAnyH_take (i := 5) (oi := { dst := some 20, op := _, type := _, pos := _, after := _, guard := _ }) (v := ?_) rfl (by kernel_rfl) (by kernel_rfl) (by kernel_rfl) (fun _ _ _ h => h) (Or.inl ⟨by rfl, ?_⟩) (by assumption) ?_
  rotate_left 1
  · intro u hSw; obtain s1 := hSw; go_simp; try with_reducible rfl
  try simp only [Act.put, List.setIfInBounds_toArray, List.set_cons_zero, List.set_cons_succ]
  refine wpAnyH_take (i := 6) (oi := { dst := some 21, op := _, type := _, pos := _, after := _, guard := _ }) (v := ?_) rfl (by kernel_rfl) (by kernel_rfl) (by kernel_rfl) (fun _ _ _ h => h) (Or.inl ⟨by rfl, ?_⟩) (by assumption) ?_
  rotate_left 1
  · intro u hSw; obtain s1 := hSw; go_simp; try with_reducible rfl
  try simp only [Act.put, List.setIfInBounds_toArray, List.set_cons_zero, List.set_cons_succ]
  refine wpAnyH_ready (rs := [1]) (by kernel_rfl) (by simp) ?_
  refine AllReadyH.cons (o := { dst := some 16, op := _, type := _, pos := _, after := _, guard := _ }) rfl (fun Kq hK => ?_) AllReadyH.nil
  obtain s1 := hHeld
  go_simp
  refine HOW.out.mono ?_
  rintro e w2 ⟨cv2, rfl, h2, o2, f2⟩
  obtain ⟨ca, cn, cc, ec⟩ : ∃ a n c, cv2 = Value.slice a n c := by obtain ⟨a, c, e⟩ := o2.row.form; exact ⟨a, _, c, e⟩
  have hcn : cn = o.cs.length := by obtain ⟨a, c, e⟩ := o2.row.form; rw [ec] at e; cases e; rfl
  have g2 := o2.om.cells.2.2.2.1
  have bX2 : w2.heap[w.heap.size]? = some (.cells #[.int .i64 (i : Int), .int .u64 (num : Int)] 79 (0, 0)) := (f2.block w.heap.size (Array.getElem?_eq_some_iff.1 BX.out).1 (fun e => by have := HO.out.kl w.heap.size e; have := HXX.out; omega)).trans BX.out
  have BX2 := hide2 bX2
  have H2 := hide2 h2
  have O2 := hide2 o2
  have F2 : Hid (Fr B w w2) := hide2 ((Fr.below (F := B) B1.out).trans f2 (fun j e => .inl e))
  have hob2 := o2.om.lt
  subst ec
  subst hcn
  clear h2 o2 f2 bX2
  go_wp2_with fail
  refine hK.out _ _ (g2) (fun hHeld => ?_)
  clear hK Kq
  try simp only [Act.put, List.setIfInBounds_toArray, List.set_cons_zero, List.set_cons_succ]
  refine wpAnyH_take (i := 2) (oi := { dst := some 17, op := _, type := _, pos := _, after := _, guard := _ }) (v := ?_) rfl (by kernel_rfl) (by kernel_rfl) (by kernel_rfl) (fun _ _ _ h => h) (Or.inl ⟨by rfl, ?_⟩) (by assumption) ?_
  rotate_left 1
  · intro u hSw; obtain s1 := hSw; go_simp; try with_reducible rfl
  try simp only [Act.put, List.setIfInBounds_toArray, List.set_cons_zero, List.set_cons_succ]
  refine wpAnyH_take (i := 7) (oi := { dst := some 22, op := _, type := _, pos := _, after := _, guard := _ }) (v := ?_) rfl (by kernel_rfl) (by kernel_rfl) (by kernel_rfl) (fun _ _ _ h => h) (Or.inl ⟨by rfl, ?_⟩) (by assumption) ?_
  rotate_left 1
  · intro u hSw; obtain s1 := hSw; go_simp; try with_reducible rfl
  try simp only [Act.put, List.setIfInBounds_toArray, List.set_cons_zero, List.set_cons_succ]
  refine wpAnyH_take (i := 8) (oi := { dst := some 23, op := _, type := _, pos := _, after := _, guard := _ }) (v := ?_) rfl (by kernel_rfl) (by kernel_rfl) (by kernel_rfl) (fun _ _ _ h => h) (Or.inl ⟨by rfl, ?_⟩) (by assumption) ?_
  rotate_left 1
  · intro u hSw; obtain s1 := hSw; go_simp; try with_reducible rfl
  try simp only [Act.put, List.setIfInBounds_toArray, List.set_cons_zero, List.set_cons_succ]
  refine wpAnyH_take (i := 9) (oi := { dst := some 24, op := _, type := _, pos := _, after := _, guard := _ }) (v := undef) rfl (by kernel_rfl) (by kernel_rfl) (by kernel_rfl) (fun _ _ _ h => h) (Or.inr ⟨by rfl, rfl⟩) (by assumption) ?_
  try simp only [Act.put, List.setIfInBounds_toArray, List.set_cons_zero, List.set_cons_succ]
  refine wpAnyH_take (i := 10) (oi := { dst := some 25, op := _, type := _, pos := _, after := _, guard := _ }) (v := undef) rfl (by kernel_rfl) (by kernel_rfl) (by kernel_rfl) (fun _ _ _ h => h) (Or.inr ⟨by rfl, rfl⟩) (by assumption) ?_
  try simp only [Act.put, List.setIfInBounds_toArray, List.set_cons_zero, List.set_cons_succ]
  refine wpAnyH_take (i := 11) (oi := { dst := some 26, op := _, type := _, pos := _, after := _, guard := _ }) (v := ?_) rfl (by kernel_rfl) (by kernel_rfl) (by kernel_rfl) (fun _ _ _ h => h) (Or.inl ⟨by rfl, ?_⟩) (by assumption) ?_
  rotate_left 1
  · intro u hSw; obtain s1 := hSw; go_simp; try with_reducible rfl
  try simp only [Act.put, List.setIfInBounds_toArray, List.set_cons_zero, List.set_cons_succ]
  refine wpAnyH_done (by kernel_rfl) ?_ _
  refine NoPanic.normal ?_
  have x3 : Ob (w2.setCell ⟨ob, 21, none⟩ (.int .i64 1)) B ob lb (.slice ca o.cs.length cc) { o with st := 1 } ∧ Fr B w2 (w2.setCell ⟨ob, 21, none⟩ (.int .i64 1)) := O2.out.put1 (O2.out.om.setSt 1) rfl
  obtain ⟨w3, hw3⟩ : ∃ y, y = w2.setCell ⟨ob, 21, none⟩ (.int .i64 1) := ⟨_, rfl⟩
  rw [← hw3] at x3
  have h3 := H2.out.keep x3.2 HKB.out HO.out.b0
  have r21 := O2.out.om.cells.2.2.2.2.1
  have r21f := O2.out.om.free 21
  have HEN := hide2 (enough_any h3 x3.1 HKB.out HCS.out (by omega) (by show o.cs.length ≤ _; omega) (by show o.h ≤ _; omega))
  have F3 : Hid (Fr B w w3) := hide2 (F2.out.trans x3.2 (fun j e => .inl e))
  have bX3 : Hid (w3.heap[w.heap.size]? = some (.cells #[.int .i64 (i : Int), .int .u64 (num : Int)] 79 (0, 0))) := hide2 ((x3.2.block w.heap.size (Array.getElem?_eq_some_iff.1 BX2.out).1 (fun e => by have := HO.out.kl w.heap.size e; have := HXX.out; omega)).trans BX2.out)
  clear h3 x3 hHeld g1 g2
  go_wp2_with fail
  try rw [← hw3]
  clear hw3 r21 r21f
  refine HEN.out.mono ?_
  rintro e w4 ⟨cv4, tv, xs, rfl, hr4, htv, hxs, h4, o4, f4⟩
  have htk : (o.cs ++ xs).take o.h = o.cs := by rw [List.take_append_of_le_length (by have := HH.out; omega), List.take_of_length_le (by have := HH.out; omega)]
  have hr4' : Hr w4 0 tv o.cs := by rw [← htk]; exact hr4
  obtain ⟨ta, tn, tcp, et⟩ : ∃ a n c, tv = Value.slice a n c := by obtain ⟨a, c, e⟩ := hr4'.form; exact ⟨a, _, c, e⟩
  have htn : tn = o.cs.length := by obtain ⟨a, c, e⟩ := hr4'.form; rw [et] at e; cases e; rfl
  subst et
  subst htn
  have bX4 : w4.heap[w.heap.size]? = some (.cells #[.int .i64 (i : Int), .int .u64 (num : Int)] 79 (0, 0)) := (f4.block w.heap.size (Array.getElem?_eq_some_iff.1 bX3.out).1 (fun e => by have := HO.out.kl w.heap.size e; have := HXX.out; omega)).trans bX3.out
  have HR4 := hide2 hr4'
  have HTV := hide2 htv
  have H4 := hide2 h4
  have O4 := hide2 o4
  have F4 : Hid (Fr B w w4) := hide2 (F3.out.trans f4 (fun j e => .inl e))
  have BX4 := hide2 bX4
  have n20 := o4.om.cells.2.2.2.1
  have m1 : w4.rangeAt ob 2 (kC o.k).toList := o4.om.keyAt
  have m2 : w4.cell? ⟨ob, 19, none⟩ = some (.int .i64 o.r) := o4.om.cells.2.2.1
  have hob4 := o4.om.lt
  have dlt : ¬ (o.cs.length : Int) < (o.h : Int) := by have := HH.out; omega
  clear hr4 hr4' htv h4 o4 f4 bX4 htk hxs HEN F3 bX3
  go_wp2
  refine wp_region_noPanic ?_
  refine wp_region_held_drew (S := (fun u : World => u.rangeAt ob 2 (kC o.k).toList ∧ u.cell? ⟨ob, 19, none⟩ = some (.int .i64 o.r))) (by kernel_rfl) (⟨m1, m2⟩) (fun hHeld => ?_)
  refine wpAnyH_take (i := 0) (oi := { dst := some 42, op := _, type := _, pos := _, after := _, guard := _ }) (v := ?_) rfl (by kernel_rfl) (by kernel_rfl) (by kernel_rfl) (fun _ _ _ h => h) (Or.inl ⟨by rfl, ?_⟩) (by assumption) ?_
  rotate_left 1
  · intro u hSw; obtain ⟨s1, s2⟩ := hSw; go_simp; try with_reducible rfl
  try simp only [Act.put, List.setIfInBounds_toArray, List.set_cons_zero, List.set_cons_succ]
  refine wpAnyH_take (i := 1) (oi := { dst := some 43, op := _, type := _, pos := _, after := _, guard := _ }) (v := ?_) rfl (by kernel_rfl) (by kernel_rfl) (by kernel_rfl) (fun _ _ _ h => h) (Or.inl ⟨by rfl, ?_⟩) (by assumption) ?_
  rotate_left 1
  · intro u hSw; obtain ⟨s1, s2⟩ := hSw; go_simp; try with_reducible rfl
  try simp only [Act.put, List.setIfInBounds_toArray, List.set_cons_zero, List.set_cons_succ]
  refine wpAnyH_take (i := 2) (oi := { dst := some 44, op := _, type := _, pos := _, after := _, guard := _ }) (v := ?_) rfl (by kernel_rfl) (by kernel_rfl) (by kernel_rfl) (fun _ _ _ h => h) (Or.inl ⟨by rfl, ?_⟩) (by assumption) ?_
  rotate_left 1
  · intro u hSw; obtain ⟨s1, s2⟩ := hSw; go_simp; try with_reducible rfl
  try simp only [Act.put, List.setIfInBounds_toArray, List.set_cons_zero, List.set_cons_succ]
  refine wpAnyH_take (i := 3) (oi := { dst := some 45, op := _, type := _, pos := _, after := _, guard := _ }) (v := .agg ((kC o.k).toList).toArray) rfl (by kernel_rfl) (by kernel_rfl) (by kernel_rfl) (fun _ _ _ h => h) (yieldsIf_load_mid (by rfl) 72 _ rfl ob 2 rfl ((kC o.k).toList) _ (fun u hu => hu.1) Tryd.underlying72 rfl (by kernel_rfl)) (by assumption) ?_
  try simp only [Act.put, List.setIfInBounds_toArray, List.set_cons_zero, List.set_cons_succ]
  refine wpAnyH_take (i := 4) (oi := { dst := some 46, op := _, type := _, pos := _, after := _, guard := _ }) (v := ?_) rfl (by kernel_rfl) (by kernel_rfl) (by kernel_rfl) (fun _ _ _ h => h) (Or.inl ⟨by rfl, ?_⟩) (by assumption) ?_
  rotate_left 1
  · intro u hSw; obtain ⟨s1, s2⟩ := hSw; go_simp; try with_reducible rfl
  try simp only [Act.put, List.setIfInBounds_toArray, List.set_cons_zero, List.set_cons_succ]
  refine wpAnyH_take (i := 5) (oi := { dst := some 47, op := _, type := _, pos := _, after := _, guard := _ }) (v := ?_) rfl (by kernel_rfl) (by kernel_rfl) (by kernel_rfl) (fun _ _ _ h => h) (Or.inl ⟨by rfl, ?_⟩) (by assumption) ?_
  rotate_left 1
  · intro u hSw; obtain ⟨s1, s2⟩ := hSw; go_simp; try with_reducible rfl
  try simp only [Act.put, List.setIfInBounds_toArray, List.set_cons_zero, List.set_cons_succ]
  refine wpAnyH_take (i := 6) (oi := { dst := some 48, op := _, type := _, pos := _, after := _, guard := _ }) (v := ?_) rfl (by kernel_rfl) (by kernel_rfl) (by kernel_rfl) (fun _ _ _ h => h) (Or.inl ⟨by rfl, ?_⟩) (by assumption) ?_
  rotate_left 1
  · intro u hSw; obtain ⟨s1, s2⟩ := hSw; go_simp; try with_reducible rfl
  try simp only [Act.put, List.setIfInBounds_toArray, List.set_cons_zero, List.set_cons_succ]
  refine wpAnyH_take (i := 7) (oi := { dst := some 49, op := _, type := _, pos := _, after := _, guard := _ }) (v := ?_) rfl (by kernel_rfl) (by kernel_rfl) (by kernel_rfl) (fun _ _ _ h => h) (Or.inl ⟨by rfl, ?_⟩) (by assumption) ?_
  rotate_left 1
  · intro u hSw; obtain ⟨s1, s2⟩ := hSw; go_simp; try with_reducible rfl
  try simp only [Act.put, List.setIfInBounds_toArray, List.set_cons_zero, List.set_cons_succ]
  refine wpAnyH_take (i := 8) (oi := { dst := some 50, op := _, type := _, pos := _, after := _, guard := _ }) (v := .agg (twL (tz o.k o.r)).toArray) rfl (by kernel_rfl) (by kernel_rfl) (by kernel_rfl) (fun _ _ _ h => h) (yieldsIf_build (by rfl) 74 _ rfl _ (by kernel_rfl)) (by assumption) ?_
  try simp only [Act.put, List.setIfInBounds_toArray, List.set_cons_zero, List.set_cons_succ]
  obtain ⟨Y, hY⟩ : ∃ y, y = w4.heap.size := ⟨_, rfl⟩
  obtain ⟨w5, hw5⟩ : ∃ y, y = (w4.alloc (.cells #[.int .u8 0, .int .u8 0, .int .u8 0, .int .u8 0, .int .u8 0, .int .u8 0, .int .u8 0, .int .u8 0, .int .u8 0, .int .u8 0, .int .u8 0, .int .u8 0, .int .u8 0, .int .u8 0, .int .u8 0, .int .u8 0, .int .u8 0, .int .i64 0, .int .i64 0, .int .i64 0, .int .i64 0, .int .i64 0, .int .i64 0, .int .i64 0, .int .i64 0, .int .i64 0, .int .i64 0, .int .i64 0, .int .i64 0, .int .i64 0, .int .i64 0, .int .i64 0, .int .i64 0, .int .i64 0] 74)).drew := ⟨_, rfl⟩
  have f5 : Fr (fun _ => False) w4 w5 := by rw [hw5]; exact ((Fr.refl _ w4).alloc _).drewN 1
  have b5 : w5.heap[Y]? = some (.cells z34 74 (0, 0)) := by rw [hw5, hY]; exact heap_alloc_new w4 _
  have q1 : w5.rangeAt ob 2 (kC o.k).toList := fun j v hv => (f5.cell (p := ⟨ob, 2 + j, none⟩) hob4 (fun e => e)).trans (m1 j v hv)
  have q2 := (f5.cell (p := ⟨ob, 19, none⟩) hob4 (fun e => e)).trans m2
  have T5 : Hid (w5.there Y 0 34) := hide2 (fun j hj => ⟨by rw [Go.Joins.cell_of_block b5, Array.getElem?_eq_getElem (by show _ < 34; omega)]; rfl, Go.Joins.unfrozen_of_block b5 _⟩)
  have hYob : ¬ Y = ob := by omega
  refine wpAnyH_ready (rs := [9]) (by kernel_rfl) (by simp) ?_
  refine AllReadyH.cons (o := { dst := some 5, op := _, type := _, pos := _, after := _, guard := _ }) rfl (fun Kq hK => ?_) AllReadyH.nil
  clear hHeld
  go_simp
  go_wp2_with fail
  try rw [← hw5]
  try rw [← hY]
  refine hK.out _ _ (⟨q1, q2⟩) (fun hHeld => ?_)
  clear hK Kq
  try simp only [Act.put, List.setIfInBounds_toArray, List.set_cons_zero, List.set_cons_succ]
  obtain ⟨w6, hw6⟩ : ∃ y, y = w5.setCells Y 0 (twL (tz o.k o.r)) := ⟨_, rfl⟩
  have f6 : Fr (fun j => j = Y) w5 w6 := by rw [hw6]; exact fr_setCells
  have hob5 : ob < w5.heap.size := Nat.lt_of_lt_of_le hob4 f5.size
  have b6 : w6.heap[Y]? = some (.cells (twL (tz o.k o.r)).toArray 74 (0, 0)) := by rw [hw6]; exact setCells_whole b5 rfl
  have q3 : w6.rangeAt ob 2 (kC o.k).toList := fun j v hv => (f6.cell (p := ⟨ob, 2 + j, none⟩) hob5 (fun e => hYob e.symm)).trans (q1 j v hv)
  have q4 := (f6.cell (p := ⟨ob, 19, none⟩) hob5 (fun e => hYob e.symm)).trans q2
  refine wpAnyH_ready (rs := [10]) (by kernel_rfl) (by simp) ?_
  refine AllReadyH.cons (o := { dst := none, op := _, type := _, pos := _, after := _, guard := _ }) rfl (fun Kq hK => ?_) AllReadyH.nil
  refine step_store_mid rfl 74 _ _ rfl Y 0 (twL (tz o.k o.r)).toArray rfl rfl T5.out (by kernel_rfl) (twL_one _) ?_
  rw [show (twL (tz o.k o.r)).toArray.toList = twL (tz o.k o.r) from rfl, ← hw6]
  clear hw6
  refine hK.out _ _ (⟨q3, q4⟩) (fun hHeld => ?_)
  clear hK Kq
  try simp only [Act.put, List.setIfInBounds_toArray, List.set_cons_zero, List.set_cons_succ]
  refine wpAnyH_done (by kernel_rfl) ?_ _
  refine NoPanic.normal ?_
  have F6 : Hid (Fr B w w6) := hide2 ((F4.out.trans f5 (fun j e => e.elim)).trans f6 (fun j e => .inr (by have := F4.out.size; omega)))
  have BF6 : Hid (Below w4.heap.size w4 w6) := hide2 ((f5.to (fun _ _ => id) (Nat.le_refl _)).trans (f6.to (fun j hj e => by omega) f5.size))
  have HY := hide2 hY
  have B6 := hide2 b6
  clear hHeld q1 q2 q3 q4 m1 m2 n20 f5 f6 b5 b6 T5 hw5 hY
  obtain ⟨i0, hi0, z0, z1, z2⟩ := info_parts infoH
  have hinfo : (Tryd.prog.info? 3).map (·.size) = some 1 := by rw [hi0]; simp [z1]
  have R6 := hrow_fr HR4.out (Fr.below (F := fun _ => False) BF6.out) (fun _ _ e => e)
  obtain ⟨tg, hta⟩ : ∃ tg, ta = some ⟨tg, 0, none⟩ := by
    obtain ⟨g', c', e', _⟩ := HR4.out.at (i := 0) (by omega)
    cases e'; exact ⟨g', rfl⟩
  subst hta
  have hcp := run_copy_row (P := Tryd.prog) w6 47 47 3 3 Y 18 8 8 ⟨tg, 0, none⟩ o.cs.length tcp (twL (tz o.k o.r)).toArray 74 (o.cs.map nv) Tryd.underlying47 hinfo B6.out (by rw [List.length_map]; exact (Nat.min_eq_left (by omega)).symm) (fun j v hv => by
    have hjl : j < o.cs.length := by have := (List.getElem?_eq_some_iff.1 hv).1; simpa using this
    rw [addr_add, Nat.zero_add, World.ownsRow.cellAt R6 _ (by omega)]; exact hv) (by show 18 + (o.cs.map nv).length ≤ 34; rw [List.length_map]; omega) (by intro u hu; obtain ⟨x, _, rfl⟩ := List.mem_map.1 hu; rfl)
  rw [tw_copied o.k o.r o.cs (by omega)] at hcp
  obtain ⟨w7, hw7⟩ : ∃ y, y = w6.setRow Y (twL (tcz o.k o.r o.cs 0)).toArray := ⟨_, rfl⟩
  rw [← hw7] at hcp
  have b7 : w7.heap[Y]? = some (.cells (twL (tcz o.k o.r o.cs 0)).toArray 74 (0, 0)) := by rw [hw7]; exact setRow_heap _ _ _ _ _ _ B6.out
  have B67 : Below w4.heap.size w6 w7 := by rw [hw7]; exact ⟨rfl, rfl, rfl, by simp, fun k hk => setRow_other _ _ _ _ (by have := HY.out; omega)⟩
  have bb7 : Below w4.heap.size w4 w7 := BF6.out.trans B67
  have h7 := H4.out.below bb7
  have o7 := O4.out.below bb7
  have bX7 : w7.heap[w.heap.size]? = some (.cells #[.int .i64 (i : Int), .int .u64 (num : Int)] 79 (0, 0)) := (bb7.block w.heap.size (Array.getElem?_eq_some_iff.1 BX4.out).1).trans BX4.out
  have x70 : w7.cell? ⟨w.heap.size, 0, none⟩ = some (.int .i64 (i : Int)) := by rw [Go.Joins.cell_of_block bX7]; rfl
  have x71 : w7.cell? ⟨w.heap.size, 1, none⟩ = some (.int .u64 (num : Int)) := by rw [Go.Joins.cell_of_block bX7]; rfl
  obtain ⟨first, hfirst⟩ : ∃ f, f = bh s i num 0 := ⟨_, rfl⟩
  have HBH : Hid (Calls Tryd.prog 55 #[.pointer (some ⟨lb, 0, none⟩), .agg #[.int .i64 (i : Int), .int .u64 (num : Int)], .int .i64 0] w7 fun e w' => e = .returned (.int .i64 (first : Int)) ∧ Below w7.heap.size w7 w') := hide2 (by rw [hfirst]; exact h7.behind (l := 0) hi (by decide) hnum)
  have H7 := hide2 h7
  have O7 := hide2 o7
  have BX7 := hide2 bX7
  have B7 := hide2 b7
  have BB7 := hide2 bb7
  have HFIRST := hide2 hfirst
  have hYl : Y < w7.heap.size := (Array.getElem?_eq_some_iff.1 b7).1
  have hXl : w.heap.size < w7.heap.size := (Array.getElem?_eq_some_iff.1 bX7).1
  clear h7 o7 bX7 b7 bb7 B67 R6 hfirst B6 hw7
  go_wp2_with fail
  clear hcp
  refine HBH.out.mono ?_
  rintro e w8 ⟨rfl, hb8⟩
  have b8 : w8.heap[Y]? = some (.cells (twL (tcz o.k o.r o.cs 0)).toArray 74 (0, 0)) := (hb8.block Y hYl).trans B7.out
  have y26 : w8.cell? ⟨Y, 26, none⟩ = some (.int .i64 0) := by rw [Go.Joins.cell_of_block b8]; rfl
  have y26f := Go.Joins.unfrozen_of_block b8 26
  obtain ⟨w9, hw9⟩ : ∃ y, y = w8.setCell ⟨Y, 26, none⟩ (.int .i64 (first : Int)) := ⟨_, rfl⟩
  have b9 : w9.heap[Y]? = some (.cells (twL (tcz o.k o.r o.cs first)).toArray 74 (0, 0)) := by rw [hw9, Go.Joins.block_setCell b8]; rfl
  have f9 : Fr (fun j => j = Y) w8 w9 := by rw [hw9]; exact Fr.setCell (p := ⟨Y, 26, none⟩) (Fr.refl (fun j => j = Y) w8) (.inl rfl) _
  have bb9 : Below w4.heap.size w4 w9 := (BB7.out.trans (hb8.mono BB7.out.size)).trans (f9.to (fun j hj e => by have := HY.out; omega) (by have := BB7.out.size; have := hb8.size; omega))
  have h9 := H4.out.below bb9
  have o9 := O4.out.below bb9
  have bX9 : w9.heap[w.heap.size]? = some (.cells #[.int .i64 (i : Int), .int .u64 (num : Int)] 79 (0, 0)) := (bb9.block w.heap.size (Array.getElem?_eq_some_iff.1 BX4.out).1).trans BX4.out
  have x90 : w9.cell? ⟨w.heap.size, 0, none⟩ = some (.int .i64 (i : Int)) := by rw [Go.Joins.cell_of_block bX9]; rfl
  have x91 : w9.cell? ⟨w.heap.size, 1, none⟩ = some (.int .u64 (num : Int)) := by rw [Go.Joins.cell_of_block bX9]; rfl
  have x92 := h9.lk.cells.2.1
  have hlen9 := h9.cap
  have hlb9 := h9.lk.lt
  have HLK : Hid (Calls Tryd.prog 62 #[.pointer (some ⟨lb, 0, none⟩), .agg #[.int .i64 (i : Int), .int .u64 (num : Int)], .int .i64 0, .int .i64 (s.tw.length : Int)] w9.drew fun e w' => e = .returned (.bool true) ∧ Lm w' K lb d g gt tc sv T (if true = true then N.set ((s.at i).cs 0) (s.tw.length : Int) else N) (m + 1) F s ∧ Fr (fun j => j = d ∨ j = g) w9 w') := hide2 (((h9.drewn 1).link (l := 0) hi (by decide) hnum (by omega) ht hm true HOK.out).mono (by
    rintro e w' ⟨rfl, q1, q2⟩
    exact ⟨rfl, q1, ((Fr.refl (fun j => j = d ∨ j = g) w9).drewN 1).trans q2 (fun j e => .inl e)⟩))
  have H9 := hide2 h9
  have O9 := hide2 o9
  have B9 := hide2 b9
  have BX9 := hide2 bX9
  have BB9 := hide2 bb9
  have hY9 : Y < w9.heap.size := (Array.getElem?_eq_some_iff.1 b9).1
  have hX9 : w.heap.size < w9.heap.size := (Array.getElem?_eq_some_iff.1 bX9).1
  clear h9 o9 b9 bX9 bb9 f9 hb8 b8 x70 x71 HBH H7 O7 B7 BX7 BB7 hYl hXl
  go_wp2_with fail
  try rw [← hw9]
  clear hw9 y26 y26f
  refine wp_region_noPanic ?_
  refine wp_region_held_drew (S := (fun u : World => u.cell? ⟨w.heap.size, 0, none⟩ = some (.int .i64 (i : Int)) ∧ u.cell? ⟨w.heap.size, 1, none⟩ = some (.int .u64 (num : Int)) ∧ u.cell? ⟨lb, 1, none⟩ = some (tvv gt s.tw.length tc))) (by kernel_rfl) (⟨x90, x91, x92⟩) (fun hHeld => ?_)
  refine wpAnyH_take (i := 0) (oi := { dst := some 60, op := _, type := _, pos := _, after := _, guard := _ }) (v := ?_) rfl (by kernel_rfl) (by kernel_rfl) (by kernel_rfl) (fun _ _ _ h => h) (Or.inl ⟨by rfl, ?_⟩) (by assumption) ?_
  rotate_left 1
  · intro u hSw; obtain ⟨s1, s2, s3⟩ := hSw; go_simp; try with_reducible rfl
  try simp only [Act.put, List.setIfInBounds_toArray, List.set_cons_zero, List.set_cons_succ]
  refine wpAnyH_take (i := 1) (oi := { dst := some 61, op := _, type := _, pos := _, after := _, guard := _ }) (v := ?_) rfl (by kernel_rfl) (by kernel_rfl) (by kernel_rfl) (fun _ _ _ h => h) (Or.inl ⟨by rfl, ?_⟩) (by assumption) ?_
  rotate_left 1
  · intro u hSw; obtain ⟨s1, s2, s3⟩ := hSw; go_simp; try with_reducible rfl
  try simp only [Act.put, List.setIfInBounds_toArray, List.set_cons_zero, List.set_cons_succ]
  refine wpAnyH_take (i := 2) (oi := { dst := some 62, op := _, type := _, pos := _, after := _, guard := _ }) (v := ?_) rfl (by kernel_rfl) (by kernel_rfl) (by kernel_rfl) (fun _ _ _ h => h) (Or.inl ⟨by rfl, ?_⟩) (by assumption) ?_
  rotate_left 1
  · intro u hSw; obtain ⟨s1, s2, s3⟩ := hSw; go_simp; try with_reducible rfl
  try simp only [Act.put, List.setIfInBounds_toArray, List.set_cons_zero, List.set_cons_succ]
  refine wpAnyH_take (i := 3) (oi := { dst := some 63, op := _, type := _, pos := _, after := _, guard := _ }) (v := ?_) rfl (by kernel_rfl) (by kernel_rfl) (by kernel_rfl) (fun _ _ _ h => h) (Or.inl ⟨by rfl, ?_⟩) (by assumption) ?_
  rotate_left 1
  · intro u hSw; obtain ⟨s1, s2, s3⟩ := hSw; go_simp; try with_reducible rfl
  try simp only [Act.put, List.setIfInBounds_toArray, List.set_cons_zero, List.set_cons_succ]
  refine wpAnyH_take (i := 4) (oi := { dst := some 64, op := _, type := _, pos := _, after := _, guard := _ }) (v := ?_) rfl (by kernel_rfl) (by kernel_rfl) (by kernel_rfl) (fun _ _ _ h => h) (Or.inl ⟨by rfl, ?_⟩) (by assumption) ?_
  rotate_left 1
  · intro u hSw; obtain ⟨s1, s2, s3⟩ := hSw; go_simp; try with_reducible rfl
  try simp only [Act.put, List.setIfInBounds_toArray, List.set_cons_zero, List.set_cons_succ]
  refine wpAnyH_take (i := 5) (oi := { dst := some 65, op := _, type := _, pos := _, after := _, guard := _ }) (v := ?_) rfl (by kernel_rfl) (by kernel_rfl) (by kernel_rfl) (fun _ _ _ h => h) (Or.inl ⟨by rfl, ?_⟩) (by assumption) ?_
  rotate_left 1
  · intro u hSw; obtain ⟨s1, s2, s3⟩ := hSw; go_simp; try with_reducible rfl
  try simp only [Act.put, List.setIfInBounds_toArray, List.set_cons_zero, List.set_cons_succ]
  refine wpAnyH_take (i := 6) (oi := { dst := some 66, op := _, type := _, pos := _, after := _, guard := _ }) (v := ?_) rfl (by kernel_rfl) (by kernel_rfl) (by kernel_rfl) (fun _ _ _ h => h) (Or.inl ⟨by rfl, ?_⟩) (by assumption) ?_
  rotate_left 1
  · intro u hSw; obtain ⟨s1, s2, s3⟩ := hSw; go_simp; try with_reducible rfl
  try simp only [Act.put, List.setIfInBounds_toArray, List.set_cons_zero, List.set_cons_succ]
  refine wpAnyH_ready (rs := [7]) (by kernel_rfl) (by simp) ?_
  refine AllReadyH.cons (o := { dst := some 67, op := _, type := _, pos := _, after := _, guard := _ }) rfl (fun Kq hK => ?_) AllReadyH.nil
  obtain ⟨s1, s2, s3⟩ := hHeld
  go_simp
  refine HLK.out.mono ?_
  rintro e w10 ⟨rfl, h10, f10⟩
  have f10K : Fr K w9 w10 := f10.mono (fun j _ e => H.out.kk j (by rcases e with e | e <;> simp [e]))
  have hXK : ¬ K w.heap.size := fun e => by have := H.out.kl w.heap.size e; have := HXX.out; omega
  have hYK : ¬ K Y := fun e => by have := H.out.kl Y e; have := HY.out; have := F4.out.size; omega
  have o10 := O9.out.keep f10K (fun j hB hK => HKB.out j hK hB)
  have g90 := (f10K.cell (p := ⟨w.heap.size, 0, none⟩) hX9 hXK).trans x90
  have g91 := (f10K.cell (p := ⟨w.heap.size, 1, none⟩) hX9 hXK).trans x91
  have g92 := h10.lk.cells.2.1
  have b10 : w10.heap[Y]? = some (.cells (twL (tcz o.k o.r o.cs first)).toArray 74 (0, 0)) := (f10K.block Y hY9 hYK).trans B9.out
  have H10 := hide2 h10
  have O10 := hide2 o10
  have B10 := hide2 b10
  have HTR : Hid (Hr w10 0 (.slice (some ⟨tg, 0, none⟩) o.cs.length tcp) o.cs) := hide2 (hrow_fr (hrow_fr HR4.out (Fr.below (F := fun _ => False) BB9.out) (fun _ _ e => e)) f10K (fun j e => (HTV.out j e).1))
  have F10 : Hid (Fr (fun j => K j ∨ B j) w w10) := hide2 (((F4.out.mono (G := fun j => K j ∨ B j) (fun j _ e => .inr e)).trans (Fr.below (F := fun _ => False) BB9.out) (fun j e => e.elim)).trans f10K (fun j e => .inl (.inl e)))
  clear h10 o10 b10 f10 f10K
  go_wp2_with fail
  refine hK.out _ _ (⟨g90, g91, g92⟩) (fun hHeld => ?_)
  clear hK Kq
  try simp only [Act.put, List.setIfInBounds_toArray, List.set_cons_zero, List.set_cons_succ]
  refine wpAnyH_take (i := 8) (oi := { dst := some 68, op := _, type := _, pos := _, after := _, guard := _ }) (v := ?_) rfl (by kernel_rfl) (by kernel_rfl) (by kernel_rfl) (fun _ _ _ h => h) (Or.inl ⟨by rfl, ?_⟩) (by assumption) ?_
  rotate_left 1
  · intro u hSw; obtain ⟨s1, s2, s3⟩ := hSw; go_simp; try with_reducible rfl
  try simp only [Act.put, List.setIfInBounds_toArray, List.set_cons_zero, List.set_cons_succ]
  refine wpAnyH_done (by kernel_rfl) ?_ _
  refine NoPanic.normal ?_
  clear hHeld x90 x91 x92 HLK H9 O9 B9 BX9
  have x11 : Ob (w10.setCell ⟨ob, 41, none⟩ (.int .i64 (s.tw.length : Int))) B ob lb cv4 { o with st := 1, tw := s.tw.length } ∧ Fr B w10 (w10.setCell ⟨ob, 41, none⟩ (.int .i64 (s.tw.length : Int))) := O10.out.put1 (O10.out.om.setTw s.tw.length) rfl
  obtain ⟨w11, hw11⟩ : ∃ y, y = w10.setCell ⟨ob, 41, none⟩ (.int .i64 (s.tw.length : Int)) := ⟨_, rfl⟩
  rw [← hw11] at x11
  have h11 : Lm w11 K lb d g gt tc sv T (N.set ((s.at i).cs 0) (s.tw.length : Int)) (m + 1) F s := by
    have := H10.out.keep x11.2 HKB.out HO.out.b0
    simpa using this
  obtain ⟨t, htt⟩ : ∃ t, t = tcz o.k o.r o.cs first := ⟨_, rfl⟩
  have hYB : ¬ B Y := fun e => by have := HO.out.kl Y e; have := HY.out; have := F4.out.size; omega
  have b11 : w11.heap[Y]? = some (.cells (twL t).toArray 74 (0, 0)) := by rw [htt]; exact (x11.2.block Y (Array.getElem?_eq_some_iff.1 B10.out).1 hYB).trans B10.out
  have F11 : Hid (Fr (fun j => K j ∨ B j) w w11) := hide2 (F10.out.trans x11.2 (fun j e => .inl (.inr e)))
  have HTR11 : Hid (Hr w11 0 (.slice (some ⟨tg, 0, none⟩) o.cs.length tcp) o.cs) := hide2 (hrow_fr HTR.out x11.2 (fun j e => (HTV.out j e).2))
  have p41 := O10.out.om.cells.2.2.2.2.2.2.2.2.1
  have p41f := O10.out.om.free 41
  have plb := H10.out.lk.cells.2.1
  have hlb10 := H10.out.lk.lt
  have hob10 := O10.out.om.lt
  have H11 := hide2 h11
  have O11 := hide2 x11.1
  clear h11 x11
  go_wp2_with fail
  try rw [← hw11]
  clear hw11 p41 p41f plb hlb10 hob10
  obtain ⟨j0, hj0, y0, y1, y2⟩ := info_parts infoTw
  have hd11 := H11.out.drewn 1
  have hlt11 := F11.out.size
  obtain ⟨gt', tc', w12, hap, hown12, hgrow12, hb12⟩ := run_append_eq9 (P := Tryd.prog) w11.drew 0 75 74 j0 (.agg z34) 34 160 Tryd.underlying75 hj0 y0 y1 y2 rfl (by decide) (tvv gt s.tw.length tc) s.tw.length _ hd11.tw (twL t) rfl (fun u hu => by have := twL_one t; rw [Array.all_eq_true_iff_forall_mem] at this; exact this u (by simpa using hu)) (by unfold maxLen; omega) (by omega) (Nat.zero_le _)
  have hFd : Fr (fun _ => False) w11 (w11.drew.alloc (.cells (twL t).toArray 74)) := ((Fr.refl _ w11).drewN 1).alloc _
  have hF12 : Fr (fun j => j = gt) w11 w12 := (hFd.mono (G := fun j => j = gt) (fun _ _ e => e.elim)).trans (Fr.grown hgrow12 (fun j e => by cases e; rfl)) (fun j e => .inl e)
  have ho12 : gt' = gt ∨ w11.heap.size ≤ gt' := by
    rcases hb12 with e | e
    · left; simpa [Value.ownBlock] using e
    · right; have : gt' = w11.heap.size + 1 := e; omega
  have hT := H11.out.towered (t := t) (gt' := gt') (tc' := tc') hF12 hown12 ho12 rfl
  have l12 := H11.out.lk.same (hF12.block lb H11.out.lk.lt (fun e => H11.out.ne.1.2.2.1 e))
  have z0 := H11.out.lk.cells.2.1
  have z1 := l12.cells.2.1
  have z2 := l12.free 1
  have hlb11 := H11.out.lk.lt
  have hlb12 := l12.lt
  have HAP : Hid (∀ ty, (Builtin.append_ #[75, 75] ty #[tvv gt s.tw.length tc, .slice (some ⟨w11.heap.size, 0, none⟩) 1 1]).run Tryd.prog (w11.drew.alloc (.cells (twL t).toArray 74)) = .ok (.slice (some ⟨gt', 0, none⟩) (s.tw.length + 1) tc') w12) := hide2 hap
  have HT := hide2 hT
  have HO12 := hide2 ho12
  have HTT := hide2 htt
  have hYn : Y < w11.heap.size := (Array.getElem?_eq_some_iff.1 b11).1
  have hYlb : ¬ Y = lb := fun e => by have := H.out.lk.lt; have := HY.out; have := F4.out.size; omega
  have hYgt : ¬ Y = gt := fun e => by have := H.out.kl gt (H.out.kk gt (by simp)); have := HY.out; have := F4.out.size; omega
  have rY : w11.rangeAt Y 0 (twL t) := fun j v hv => by rw [Nat.zero_add, Go.Joins.cell_of_block b11]; simpa using hv
  have HRA : Hid (∀ u : World, Fr (fun j => j = lb ∨ j = gt) w11 u → u.rangeAt Y 0 (twL t)) := hide2 (fun u fu j v hv => (fu.cell (p := ⟨Y, 0 + j, none⟩) hYn (by rintro (e | e) <;> (have e2 : Y = _ := e; first | exact hYlb e2 | exact hYgt e2))).trans (rY j v hv))
  have HF12 := hide2 hF12
  have HFD := hide2 hFd
  clear hap hown12 hgrow12 hF12 hT l12 hFd hd11 hb12 ho12 htt b11
  refine wp_region_noPanic ?_
  refine wp_region_held_drew (S := (fun u : World => u.rangeAt Y 0 (twL t))) (by kernel_rfl) (rY) (fun hHeld => ?_)
  refine wpAnyH_take (i := 0) (oi := { dst := some 77, op := _, type := _, pos := _, after := _, guard := _ }) (v := ?_) rfl (by kernel_rfl) (by kernel_rfl) (by kernel_rfl) (fun _ _ _ h => h) (Or.inl ⟨by rfl, ?_⟩) (by assumption) ?_
  rotate_left 1
  · intro u hSw; obtain s1 := hSw; go_simp; try with_reducible rfl
  try simp only [Act.put, List.setIfInBounds_toArray, List.set_cons_zero, List.set_cons_succ]
  refine wpAnyH_take (i := 1) (oi := { dst := some 78, op := _, type := _, pos := _, after := _, guard := _ }) (v := ?_) rfl (by kernel_rfl) (by kernel_rfl) (by kernel_rfl) (fun _ _ _ h => h) (Or.inl ⟨by rfl, ?_⟩) (by assumption) ?_
  rotate_left 1
  · intro u hSw; obtain s1 := hSw; go_simp; try with_reducible rfl
  try simp only [Act.put, List.setIfInBounds_toArray, List.set_cons_zero, List.set_cons_succ]
  refine wpAnyH_take (i := 2) (oi := { dst := some 79, op := _, type := _, pos := _, after := _, guard := _ }) (v := ?_) rfl (by kernel_rfl) (by kernel_rfl) (by kernel_rfl) (fun _ _ _ h => h) (Or.inl ⟨by rfl, ?_⟩) (by assumption) ?_
  rotate_left 1
  · intro u hSw; obtain s1 := hSw; go_simp; try with_reducible rfl
  try simp only [Act.put, List.setIfInBounds_toArray, List.set_cons_zero, List.set_cons_succ]
  refine wpAnyH_take (i := 3) (oi := { dst := some 80, op := _, type := _, pos := _, after := _, guard := _ }) (v := ?_) rfl (by kernel_rfl) (by kernel_rfl) (by kernel_rfl) (fun _ _ _ h => h) (Or.inl ⟨by rfl, ?_⟩) (by assumption) ?_
  rotate_left 1
  · intro u hSw; obtain s1 := hSw; go_simp; try with_reducible rfl
  try simp only [Act.put, List.setIfInBounds_toArray, List.set_cons_zero, List.set_cons_succ]
  refine wpAnyH_take (i := 5) (oi := { dst := some 82, op := _, type := _, pos := _, after := _, guard := _ }) (v := .agg ((twL t)).toArray) rfl (by kernel_rfl) (by kernel_rfl) (by kernel_rfl) (fun _ _ _ h => h) (yieldsIf_load_mid (by rfl) 74 _ rfl Y 0 rfl ((twL t)) _ (fun u hu => hu) Tryd.underlying74 rfl (by kernel_rfl)) (by assumption) ?_
  try simp only [Act.put, List.setIfInBounds_toArray, List.set_cons_zero, List.set_cons_succ]
  obtain ⟨wv, hwv⟩ : ∃ y, y = w11.drew.alloc (.cells (twL t).toArray 74) := ⟨_, rfl⟩
  have fwv : Fr (fun _ => False) w11 wv := by rw [hwv]; exact HFD.out
  have zv := (fwv.cell (p := ⟨lb, 1, none⟩) hlb11 (fun e => e)).trans z0
  have rv := HRA.out wv (fwv.mono (fun _ _ e => e.elim))
  have rd := HRA.out w11.drew ((Fr.refl _ w11).drewN 1)
  have r12 := HRA.out w12 (HF12.out.mono (fun j _ e => .inr e))
  rw [← hwv] at HAP
  refine wpAnyH_ready (rs := [4, 6]) (by kernel_rfl) (by simp) ?_
  refine AllReadyH.cons (o := { dst := some 81, op := _, type := _, pos := _, after := _, guard := _ }) rfl (fun Kq hK => ?_) (AllReadyH.cons (o := { dst := some 83, op := _, type := _, pos := _, after := _, guard := _ }) rfl (fun Kq hK => ?_) AllReadyH.nil)
  · go_simp
    go_wp2_with fail
    refine hK.out _ _ (rd) (fun hHeld => ?_)
    clear hK Kq
    try simp only [Act.put, List.setIfInBounds_toArray, List.set_cons_zero, List.set_cons_succ]
    refine wpAnyH_ready (rs := [6]) (by kernel_rfl) (by simp) ?_
    refine AllReadyH.cons (o := { dst := some 83, op := _, type := _, pos := _, after := _, guard := _ }) rfl (fun Kq hK => ?_) AllReadyH.nil
    refine step_buildSlice rfl 75 74 1 _ rfl (twL t).toArray j0 (.agg z34) Tryd.underlying75 hj0 y0 34 y1 (by decide) (by decide) (by kernel_rfl) ?_
    rw [show (w11.drew.heap.size) = w11.heap.size from rfl, ← hwv]
    clear hwv
    refine hK.out _ _ (rv) (fun hHeld => ?_)
    clear hK Kq
    try simp only [Act.put, List.setIfInBounds_toArray, List.set_cons_zero, List.set_cons_succ]
    refine wpAnyH_ready (rs := [7]) (by kernel_rfl) (by simp) ?_
    refine AllReadyH.cons (o := { dst := some 84, op := _, type := _, pos := _, after := _, guard := _ }) rfl (fun Kq hK => ?_) AllReadyH.nil
    refine step_append_eq9 rfl _ _ _ rfl (tvv gt s.tw.length tc) (.slice (some ⟨w11.heap.size, 0, none⟩) 1 1) (.slice (some ⟨gt', 0, none⟩) (s.tw.length + 1) tc') w12 rfl rfl HAP.out ?_
    refine hK.out _ _ (r12) (fun hHeld => ?_)
    clear hK Kq
    try simp only [Act.put, List.setIfInBounds_toArray, List.set_cons_zero, List.set_cons_succ]
    refine wpAnyH_take (i := 8) (oi := { dst := some 85, op := _, type := _, pos := _, after := _, guard := _ }) (v := ?_) rfl (by kernel_rfl) (by kernel_rfl) (by kernel_rfl) (fun _ _ _ h => h) (Or.inl ⟨by rfl, ?_⟩) (by assumption) ?_
    rotate_left 1
    · intro u hSw; obtain s1 := hSw; go_simp; try with_reducible rfl
    try simp only [Act.put, List.setIfInBounds_toArray, List.set_cons_zero, List.set_cons_succ]
    refine wpAnyH_take (i := 9) (oi := { dst := some 86, op := _, type := _, pos := _, after := _, guard := _ }) (v := ?_) rfl (by kernel_rfl) (by kernel_rfl) (by kernel_rfl) (fun _ _ _ h => h) (Or.inl ⟨by rfl, ?_⟩) (by assumption) ?_
    rotate_left 1
    · intro u hSw; obtain s1 := hSw; go_simp; try with_reducible rfl
    try simp only [Act.put, List.setIfInBounds_toArray, List.set_cons_zero, List.set_cons_succ]
    have r13 := HRA.out (w12.setCell ⟨lb, 1, none⟩ (.slice (some ⟨gt', 0, none⟩) (s.tw.length + 1) tc')) ((HF12.out.mono (G := fun j => j = lb ∨ j = gt) (fun j _ e => .inr e)).trans (Fr.setCell (p := ⟨lb, 1, none⟩) (Fr.refl (fun j => j = lb) w12) (.inl rfl) _) (fun j e => .inl (.inl e)))
    refine wpAnyH_ready (rs := [10]) (by kernel_rfl) (by simp) ?_
    refine AllReadyH.cons (o := { dst := none, op := _, type := _, pos := _, after := _, guard := _ }) rfl (fun Kq hK => ?_) AllReadyH.nil
    clear hHeld
    go_simp
    go_wp2_with fail
    refine hK.out _ _ (r13) (fun hHeld => ?_)
    clear hK Kq
    try simp only [Act.put, List.setIfInBounds_toArray, List.set_cons_zero, List.set_cons_succ]
    refine wpAnyH_done (by kernel_rfl) ?_ _
    refine NoPanic.normal ?_
    clear hHeld
    obtain ⟨w13, hw13⟩ : ∃ y, y = w12.setCell ⟨lb, 1, none⟩ (.slice (some ⟨gt', 0, none⟩) (s.tw.length + 1) tc') := ⟨_, rfl⟩
    try rw [← hw13]
    have h13 : Lm w13 (fun j => K j ∨ j = gt') lb d g gt' tc' sv T (N.set ((s.at i).cs 0) (s.tw.length : Int)) (m + 1) F ⟨s.tw ++ [t], s.sp⟩ := by rw [hw13]; exact HT.out.1
    have f13 : Fr K w11 w13 := by rw [hw13]; exact HT.out.2
    have o13 := O11.out.keep f13 (fun j hB hK => HKB.out j hK hB)
    have hKB1 : ∀ j, (K j ∨ j = gt') → ¬ B j := fun j e hB => by
      rcases e with e | e
      · exact HKB.out j e hB
      · rcases HO12.out with q | q
        · exact HKB.out j (by rw [e, q]; exact H.out.kk gt (by simp)) hB
        · have := HO.out.kl j hB; omega
    have tr13 := hrow_fr HTR11.out f13 (fun j e => (HTV.out j e).1)
    have huK : ∀ j, (Value.slice (some ⟨tg, 0, none⟩) o.cs.length tcp).ownBlock = some j → ¬ (K j ∨ j = gt') := fun j e q => by
      rcases q with q | q
      · exact (HTV.out j e).1 q
      · rcases HO12.out with q2 | q2
        · exact (HTV.out j e).1 (by rw [q, q2]; exact H.out.kk gt (by simp))
        · have := (World.ownsRow.lt HTR11.out j e).2; omega
    have HNM := hide2 (noMore_any h13 tr13 huK (by show s.sp.length ≤ _; omega))
    have F13 : Hid (Fr (fun j => K j ∨ B j) w w13) := hide2 (F11.out.trans f13 (fun j e => .inl (.inl e)))
    have O13 := hide2 o13
    have HKB1 := hide2 hKB1
    clear h13 f13 o13 tr13 huK hKB1 hw13 z0 z1 z2 hlb11 hlb12 r13 r12 rd rv zv fwv rY
    go_wp2_with fail
    refine HNM.out.mono ?_
    rintro e w14 ⟨rfl, sv', h14, f14⟩
    have hbh : first = s.nx i 0 := by
      rw [HFIRST.out]
      unfold bh Sl.nx
      rw [HNS.out]
      by_cases q : num = 0
      · rw [if_pos q, if_pos q]
      · rw [if_neg q, if_neg q, if_neg (by omega)]
    have h14' : Lm w14 (fun j => K j ∨ j = gt') lb d g gt' tc' sv' T (N.set ((s.at i).cs 0) (s.tw.length : Int)) (m + 1) F (s.linked i o.k o.r o.cs) := by
      refine h14.ghost ?_ ?_ rfl
      · rw [linked_len]; simp [Sl.less]
      · rw [linked_flat hi, ← hbh, ← HTT.out]
        simp [Sl.less]
    have o14 := O13.out.keep f14 (fun j hB hK => HKB1.out j hK hB)
    have HRI := hide2 (rise_any h14' o14 HKB1.out (by rw [linked_len]; show s.tw.length < _; omega) hlv (by show o.cs.length ≤ _; omega))
    have F14 := hide2 (F13.out.trans f14 (fun j e => by
      rcases e with e | e
      · exact .inl (.inl e)
      · rcases HO12.out with q | q
        · exact .inl (.inl (by rw [e, q]; exact H.out.kk gt (by simp)))
        · exact .inr (by omega)))
    clear h14 f14 h14' o14 HNM
    go_wp2_with fail
    refine HRI.out.mono ?_
    rintro e w15 ⟨rfl, cv5, h15, o15, f15⟩
    go_wp2
    go_end0
    refine ⟨rfl, _, _, _, _, _, _, h15, o15, ⟨fun j hj => ⟨fun e => ?_, fun e => .inl e⟩, fun _ _ => Iff.rfl, HKB1.out, F14.out.trans f15 (fun j e => .inl (.inr e))⟩⟩
    rcases e with e | e
    · exact e
    · rcases HO12.out with q | q
      · rw [e, q]; exact H.out.kk gt (by simp)
      · omega
  · refine step_buildSlice rfl 75 74 1 _ rfl (twL t).toArray j0 (.agg z34) Tryd.underlying75 hj0 y0 34 y1 (by decide) (by decide) (by kernel_rfl) ?_
    rw [show (w11.drew.heap.size) = w11.heap.size from rfl, ← hwv]
    clear hwv
    refine hK.out _ _ (rv) (fun hHeld => ?_)
    clear hK Kq
    try simp only [Act.put, List.setIfInBounds_toArray, List.set_cons_zero, List.set_cons_succ]
    refine wpAnyH_ready (rs := [4]) (by kernel_rfl) (by simp) ?_
    refine AllReadyH.cons (o := { dst := some 81, op := _, type := _, pos := _, after := _, guard := _ }) rfl (fun Kq hK => ?_) AllReadyH.nil
    go_simp
    go_wp2_with fail
    refine hK.out _ _ (rv) (fun hHeld => ?_)
    clear hK Kq
    try simp only [Act.put, List.setIfInBounds_toArray, List.set_cons_zero, List.set_cons_succ]
    refine wpAnyH_ready (rs := [7]) (by kernel_rfl) (by simp) ?_
    refine AllReadyH.cons (o := { dst := some 84, op := _, type := _, pos := _, after := _, guard := _ }) rfl (fun Kq hK => ?_) AllReadyH.nil
    refine step_append_eq9 rfl _ _ _ rfl (tvv gt s.tw.length tc) (.slice (some ⟨w11.heap.size, 0, none⟩) 1 1) (.slice (some ⟨gt', 0, none⟩) (s.tw.length + 1) tc') w12 rfl rfl HAP.out ?_
    refine hK.out _ _ (r12) (fun hHeld => ?_)
    clear hK Kq
    try simp only [Act.put, List.setIfInBounds_toArray, List.set_cons_zero, List.set_cons_succ]
    refine wpAnyH_take (i := 8) (oi := { dst := some 85, op := _, type := _, pos := _, after := _, guard := _ }) (v := ?_) rfl (by kernel_rfl) (by kernel_rfl) (by kernel_rfl) (fun _ _ _ h => h) (Or.inl ⟨by rfl, ?_⟩) (by assumption) ?_
    rotate_left 1
    · intro u hSw; obtain s1 := hSw; go_simp; try with_reducible rfl
    try simp only [Act.put, List.setIfInBounds_toArray, List.set_cons_zero, List.set_cons_succ]
    refine wpAnyH_take (i := 9) (oi := { dst := some 86, op := _, type := _, pos := _, after := _, guard := _ }) (v := ?_) rfl (by kernel_rfl) (by kernel_rfl) (by kernel_rfl) (fun _ _ _ h => h) (Or.inl ⟨by rfl, ?_⟩) (by assumption) ?_
    rotate_left 1
    · intro u hSw; obtain s1 := hSw; go_simp; try with_reducible rfl
    try simp only [Act.put, List.setIfInBounds_toArray, List.set_cons_zero, List.set_cons_succ]
    have r13 := HRA.out (w12.setCell ⟨lb, 1, none⟩ (.slice (some ⟨gt', 0, none⟩) (s.tw.length + 1) tc')) ((HF12.out.mono (G := fun j => j = lb ∨ j = gt) (fun j _ e => .inr e)).trans (Fr.setCell (p := ⟨lb, 1, none⟩) (Fr.refl (fun j => j = lb) w12) (.inl rfl) _) (fun j e => .inl (.inl e)))
    refine wpAnyH_ready (rs := [10]) (by kernel_rfl) (by simp) ?_
    refine AllReadyH.cons (o := { dst := none, op := _, type := _, pos := _, after := _, guard := _ }) rfl (fun Kq hK => ?_) AllReadyH.nil
    clear hHeld
    go_simp
    go_wp2_with fail
    refine hK.out _ _ (r13) (fun hHeld => ?_)
    clear hK Kq
    try simp only [Act.put, List.setIfInBounds_toArray, List.set_cons_zero, List.set_cons_succ]
    refine wpAnyH_done (by kernel_rfl) ?_ _
    refine NoPanic.normal ?_
    clear hHeld
    obtain ⟨w13, hw13⟩ : ∃ y, y = w12.setCell ⟨lb, 1, none⟩ (.slice (some ⟨gt', 0, none⟩) (s.tw.length + 1) tc') := ⟨_, rfl⟩
    try rw [← hw13]
    have h13 : Lm w13 (fun j => K j ∨ j = gt') lb d g gt' tc' sv T (N.set ((s.at i).cs 0) (s.tw.length : Int)) (m + 1) F ⟨s.tw ++ [t], s.sp⟩ := by rw [hw13]; exact HT.out.1
    have f13 : Fr K w11 w13 := by rw [hw13]; exact HT.out.2
    have o13 := O11.out.keep f13 (fun j hB hK => HKB.out j hK hB)
    have hKB1 : ∀ j, (K j ∨ j = gt') → ¬ B j := fun j e hB => by
      rcases e with e | e
      · exact HKB.out j e hB
      · rcases HO12.out with q | q
        · exact HKB.out j (by rw [e, q]; exact H.out.kk gt (by simp)) hB
        · have := HO.out.kl j hB; omega
    have tr13 := hrow_fr HTR11.out f13 (fun j e => (HTV.out j e).1)
    have huK : ∀ j, (Value.slice (some ⟨tg, 0, none⟩) o.cs.length tcp).ownBlock = some j → ¬ (K j ∨ j = gt') := fun j e q => by
      rcases q with q | q
      · exact (HTV.out j e).1 q
      · rcases HO12.out with q2 | q2
        · exact (HTV.out j e).1 (by rw [q, q2]; exact H.out.kk gt (by simp))
        · have := (World.ownsRow.lt HTR11.out j e).2; omega
    have HNM := hide2 (noMore_any h13 tr13 huK (by show s.sp.length ≤ _; omega))
    have F13 : Hid (Fr (fun j => K j ∨ B j) w w13) := hide2 (F11.out.trans f13 (fun j e => .inl (.inl e)))
    have O13 := hide2 o13
    have HKB1 := hide2 hKB1
    clear h13 f13 o13 tr13 huK hKB1 hw13 z0 z1 z2 hlb11 hlb12 r13 r12 rd rv zv fwv rY
    go_wp2_with fail
    refine HNM.out.mono ?_
    rintro e w14 ⟨rfl, sv', h14, f14⟩
    have hbh : first = s.nx i 0 := by
      rw [HFIRST.out]
      unfold bh Sl.nx
      rw [HNS.out]
      by_cases q : num = 0
      · rw [if_pos q, if_pos q]
      · rw [if_neg q, if_neg q, if_neg (by omega)]
    have h14' : Lm w14 (fun j => K j ∨ j = gt') lb d g gt' tc' sv' T (N.set ((s.at i).cs 0) (s.tw.length : Int)) (m + 1) F (s.linked i o.k o.r o.cs) := by
      refine h14.ghost ?_ ?_ rfl
      · rw [linked_len]; simp [Sl.less]
      · rw [linked_flat hi, ← hbh, ← HTT.out]
        simp [Sl.less]
    have o14 := O13.out.keep f14 (fun j hB hK => HKB1.out j hK hB)
    have HRI := hide2 (rise_any h14' o14 HKB1.out (by rw [linked_len]; show s.tw.length < _; omega) hlv (by show o.cs.length ≤ _; omega))
    have F14 := hide2 (F13.out.trans f14 (fun j e => by
      rcases e with e | e
      · exact .inl (.inl e)
      · rcases HO12.out with q | q
        · exact .inl (.inl (by rw [e, q]; exact H.out.kk gt (by simp)))
        · exact .inr (by omega)))
    clear h14 f14 h14' o14 HNM
    go_wp2_with fail
    refine HRI.out.mono ?_
    rintro e w15 ⟨rfl, cv5, h15, o15, f15⟩
    go_wp2
    go_end0
    refine ⟨rfl, _, _, _, _, _, _, h15, o15, ⟨fun j hj => ⟨fun e => ?_, fun e => .inl e⟩, fun _ _ => Iff.rfl, HKB1.out, F14.out.trans f15 (fun j e => .inl (.inr e))⟩⟩
    rcases e with e | e
    · exact e
    · rcases HO12.out with q | q
      · rw [e, q]; exact H.out.kk gt (by simp)
      · omega
end
end
end Go.Proofs.YtopihgdbfhiejaaDoor
