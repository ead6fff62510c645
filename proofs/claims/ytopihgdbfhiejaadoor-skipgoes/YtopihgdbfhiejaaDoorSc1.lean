/-
  answer: an operation is done, but for the cells that it gives back. (Printed by gen_sc1.py.)
-/
import Derived.Test.YtopihgdbfhiejaaDoorSa9
set_option linter.unusedVariables false
set_option linter.unusedSimpArgs false
namespace Go.Proofs.YtopihgdbfhiejaaDoor
open Go.RowKit Go.Maps

theorem step_store_mid {P : Program} {ops : Array Oper} {op : Oper} {a : Act} {w : World} {K : Act → World → Prop} {Q : Exit → Act → World → Prop} {E : Prop} (hg : op.guard = none) (ty : TypeId) (x y : Operand) (ho : op.op = .store ty x y)
    (b o : Nat) (cells : Array Value) (hx : a.eval x = .pointer (some ⟨b, o, none⟩)) (hy : a.eval y = .agg cells)
    (ht : w.there b o cells.size) (hi : (P.info? ty).map (·.size) = some cells.size) (h1 : cells.all (·.oneCell') = true)
    (h : K (a.put op.dst undef) (w.setCells b o cells.toList)) : if Region.wanted op (yielded ops a.tmps) = true then Oper.wp P op a w K Q else E := by
  have hw : Region.wanted op (yielded ops a.tmps) = true := by simp [Region.wanted, hg]
  rw [if_pos hw]
  exact wp_store_mid ty x y ho b o cells hx hy ht hi h1 h

abbrev z34 : Array Value := #[.int .u8 0, .int .u8 0, .int .u8 0, .int .u8 0, .int .u8 0, .int .u8 0, .int .u8 0, .int .u8 0, .int .u8 0, .int .u8 0, .int .u8 0, .int .u8 0, .int .u8 0, .int .u8 0, .int .u8 0, .int .u8 0, .int .u8 0, .int .i64 0, .int .i64 0, .int .i64 0, .int .i64 0, .int .i64 0, .int .i64 0, .int .i64 0, .int .i64 0, .int .i64 0, .int .i64 0, .int .i64 0, .int .i64 0, .int .i64 0, .int .i64 0, .int .i64 0, .int .i64 0, .int .i64 0]
theorem twL_one (t : Tw) : (twL t).toArray.all (·.oneCell') = true := by simp [twL, Value.oneCell']
theorem fr_setCells {w : World} {b o : Nat} {vs : List Value} : Fr (fun j => j = b) w (w.setCells b o vs) := by
  induction vs generalizing w o with
  | nil => exact Fr.refl _ _
  | cons v vs ih => exact (Fr.setCell (p := ⟨b, o, none⟩) (Fr.refl (fun j => j = b) w) (.inl rfl) v).trans ih (fun j e => .inl e)

/-- An operation that is answered. -/
def Opm.told (o : Opm) (s : Sl) (i : Nat) (had : Bool) : Opm := { o with fk := (s.at i).k, nm := (s.at i).r, had := had, st := 5 }
def Opm.ans (o : Opm) (s : Sl) (i : Nat) (had : Bool) : Opm := { (o.told s i had).owned s with st := if ((o.told s i had).owned s).cs.length = 0 then 5 else 4 }

section
variable {w w' : World} {K B : Nat → Prop} {lb d g gt tc : Nat} {sv : Value} {T : List Bool} {N : List Int} {m : Int} {F : List Nat} {s : Sl} {ob : Nat} {cv : Value} {o : Opm}
theorem Lm.towerAt (h : Lm w K lb d g gt tc sv T N m F s) {i : Nat} (hi : i < s.tw.length) : w.rangeAt gt (i * 34) (twL (s.at i)) := by
  intro j v hv
  have hj : j < 34 := (List.getElem?_eq_some_iff.1 hv).1
  rw [h.cell hi hj]; exact hv

set_option maxRecDepth 100000 in
set_option maxHeartbeats 4000000 in
theorem answer_any (h : Lm w K lb d g gt tc sv T N m F s) (ho : Ob w B ob lb cv o) (hKB : ∀ j, K j → ¬ B j) {i : Nat} (hi : i < s.tw.length) (had : Bool) (hl : o.cs.length ≤ 1000000) :
    Calls Tryd.prog 58 #[.pointer (some ⟨ob, 0, none⟩), .int .i64 (i : Int), .bool had] w fun e w' => e = .returned (.tuple #[]) ∧ ∃ cv', Lm w' K lb d g gt tc sv T N m F s ∧ Ob w' B ob lb cv' (o.ans s i had) ∧ Fr B w w' := by
  have c0 := ho.om.cells.1
  have l1 := h.lk.cells.2.1
  have hcap := h.cap
  have HTW := hide2 (h.towerAt hi)
  have hn1 : (i : Int) < (s.tw.length : Int) := by omega
  obtain ⟨X, hX⟩ : ∃ X, X = w.heap.size := ⟨_, rfl⟩
  obtain ⟨w1, hw1⟩ : ∃ y, y = (w.alloc (.cells z34 74)).setRow w.heap.size (twL (s.at i)).toArray := ⟨_, rfl⟩
  have hz : (w.alloc (.cells z34 74)).heap[w.heap.size]? = some (.cells z34 74 (0, 0)) := heap_alloc_new _ _
  have hxb : w1.heap[X]? = some (.cells (twL (s.at i)).toArray 74 (0, 0)) := by rw [hw1, hX]; exact setRow_heap _ _ _ _ _ _ hz
  have hB : Below w.heap.size w w1 := by
    rw [hw1]
    exact ((Below.refl _ w).alloc (Nat.le_refl _) _).trans ⟨rfl, rfl, rfl, by simp, fun k hk => setRow_other _ _ _ _ (by omega)⟩
  have h1 := h.below hB
  have o1 := ho.below hB
  have s1 : w1.rangeAt X 0 (kC (s.at i).k).toList := fun j v hv => by
    have hj : j < 17 := (List.getElem?_eq_some_iff.1 hv).1
    rw [Nat.zero_add, Go.Joins.cell_of_block hxb, ← hv]
    rcases (show j = 0 ∨ j = 1 ∨ j = 2 ∨ j = 3 ∨ j = 4 ∨ j = 5 ∨ j = 6 ∨ j = 7 ∨ j = 8 ∨ j = 9 ∨ j = 10 ∨ j = 11 ∨ j = 12 ∨ j = 13 ∨ j = 14 ∨ j = 15 ∨ j = 16 by omega) with rfl | rfl | rfl | rfl | rfl | rfl | rfl | rfl | rfl | rfl | rfl | rfl | rfl | rfl | rfl | rfl | rfl <;> rfl
  have s2 : w1.cell? ⟨X, 17, none⟩ = some (.int .i64 (s.at i).r) := by rw [Go.Joins.cell_of_block hxb]; rfl
  have hobl := ho.om.lt
  have hne : X ≠ ob := by omega
  have H := hide2 h
  have HO := hide2 ho
  have O1 := hide2 o1
  have HB := hide2 hB
  have HZ := hide2 hz
  have HS1 := hide2 s1
  have HS2 := hide2 s2
  obtain ⟨wd, hwd⟩ : ∃ y, y = w1.drew := ⟨_, rfl⟩
  have hFdd : Fr (fun _ => False) w1 wd := by rw [hwd]; exact (Fr.refl _ w1).drew
  have od : Om wd ob (lpp lb) cv o := o1.om.fr hFdd (fun e => e)
  have hxl : X < w1.heap.size := (Array.getElem?_eq_some_iff.1 hxb).1
  have sd1 : wd.rangeAt X 0 (kC (s.at i).k).toList := fun j v hv => (hFdd.cell (p := ⟨X, 0 + j, none⟩) hxl (fun e => e)).trans (s1 j v hv)
  have sd2 : wd.cell? ⟨X, 17, none⟩ = some (.int .i64 (s.at i).r) := (hFdd.cell (p := ⟨X, 17, none⟩) hxl (fun e => e)).trans s2
  have hth : wd.there ob 42 17 := fun j hj => ⟨by
    rw [od.cell, Array.getElem?_eq_getElem (by show _ < 62; omega)]; rfl, od.free _⟩
  have HTH := hide2 hth
  obtain ⟨w2, hw2⟩ : ∃ y, y = wd.setCells ob 42 (kC (s.at i).k).toList := ⟨_, rfl⟩
  have q2 : Om w2 ob (lpp lb) cv { o with fk := (s.at i).k } := by rw [hw2]; exact od.setFound _
  have f2 : Fr (fun j => j = ob) wd w2 := by rw [hw2]; exact fr_setCells
  have hxd : X < wd.heap.size := Nat.lt_of_lt_of_le hxl hFdd.size
  have t1 : w2.rangeAt X 0 (kC (s.at i).k).toList ∧ w2.cell? ⟨X, 17, none⟩ = some (.int .i64 (s.at i).r) := ⟨fun j v hv => (f2.cell (p := ⟨X, 0 + j, none⟩) hxd hne).trans (sd1 j v hv), (f2.cell (p := ⟨X, 17, none⟩) hxd hne).trans sd2⟩
  have HT1 := hide2 t1
  have Q2 := hide2 q2
  have F2 := hide2 f2
  have HFDD := hide2 hFdd
  have c59 := q2.cells.2.2.2.2.2.2.2.2.2.1
  have g59 := q2.free 59
  clear q2 f2 t1 od sd1 sd2 hxl hxd hFdd
  clear h ho h1 o1 hB hz s1 s2 hxb hth
  go_enter Tryd.func58, Tryd.ntmps58
  go_wp2_with (first
    | (refine wpList_load_mid rfl 74 (Operand.tmp 15) rfl gt (i * 34) rfl (twL (s.at i)) _ ?_ Tryd.underlying74 rfl ?_ ?_
       · exact HTW.out
       · kernel_rfl)
    | (refine wpList_store_row rfl 74 (Operand.tmp 6) (Operand.tmp 16) rfl w.heap.size (twL (s.at i)).toArray rfl rfl 74 z34 ?_ ?_ rfl (twL_one _) ?_
       · exact HZ.out
       · kernel_rfl))
  try rw [← hw1]
  try rw [← hX]
  have HX := hide2 hX
  have HW1 := hide2 hw1
  clear hX hw1
  refine wp_region_noPanic ?_
  refine wp_region_held_drew (S := (fun u : World => u.rangeAt X 0 (kC (s.at i).k).toList ∧ u.cell? ⟨X, 17, none⟩ = some (.int .i64 (s.at i).r))) (by kernel_rfl) (⟨HS1.out, HS2.out⟩) (fun hHeld => ?_)
  rw [← hwd] at hHeld ⊢
  have HWD := hide2 hwd
  clear hwd
  refine wpAnyH_take (i := 0) (oi := { dst := some 17, op := _, type := _, pos := _, after := _, guard := _ }) (v := ?_) rfl (by kernel_rfl) (by kernel_rfl) (by kernel_rfl) (fun _ _ _ h => h) (Or.inl ⟨by rfl, ?_⟩) (by assumption) ?_
  rotate_left 1
  · intro u hSw; obtain ⟨s1, s2⟩ := hSw; go_simp; try with_reducible rfl
  try simp only [Act.put, List.setIfInBounds_toArray, List.set_cons_zero, List.set_cons_succ]
  refine wpAnyH_take (i := 1) (oi := { dst := some 18, op := _, type := _, pos := _, after := _, guard := _ }) (v := ?_) rfl (by kernel_rfl) (by kernel_rfl) (by kernel_rfl) (fun _ _ _ h => h) (Or.inl ⟨by rfl, ?_⟩) (by assumption) ?_
  rotate_left 1
  · intro u hSw; obtain ⟨s1, s2⟩ := hSw; go_simp; try with_reducible rfl
  try simp only [Act.put, List.setIfInBounds_toArray, List.set_cons_zero, List.set_cons_succ]
  refine wpAnyH_take (i := 2) (oi := { dst := some 19, op := _, type := _, pos := _, after := _, guard := _ }) (v := ?_) rfl (by kernel_rfl) (by kernel_rfl) (by kernel_rfl) (fun _ _ _ h => h) (Or.inl ⟨by rfl, ?_⟩) (by assumption) ?_
  rotate_left 1
  · intro u hSw; obtain ⟨s1, s2⟩ := hSw; go_simp; try with_reducible rfl
  try simp only [Act.put, List.setIfInBounds_toArray, List.set_cons_zero, List.set_cons_succ]
  refine wpAnyH_take (i := 3) (oi := { dst := some 20, op := _, type := _, pos := _, after := _, guard := _ }) (v := ?_) rfl (by kernel_rfl) (by kernel_rfl) (by kernel_rfl) (fun _ _ _ h => h) (Or.inl ⟨by rfl, ?_⟩) (by assumption) ?_
  rotate_left 1
  · intro u hSw; obtain ⟨s1, s2⟩ := hSw; go_simp; try with_reducible rfl
  try simp only [Act.put, List.setIfInBounds_toArray, List.set_cons_zero, List.set_cons_succ]
  refine wpAnyH_take (i := 4) (oi := { dst := some 21, op := _, type := _, pos := _, after := _, guard := _ }) (v := ?_) rfl (by kernel_rfl) (by kernel_rfl) (by kernel_rfl) (fun _ _ _ h => h) (Or.inl ⟨by rfl, ?_⟩) (by assumption) ?_
  rotate_left 1
  · intro u hSw; obtain ⟨s1, s2⟩ := hSw; go_simp; try with_reducible rfl
  try simp only [Act.put, List.setIfInBounds_toArray, List.set_cons_zero, List.set_cons_succ]
  refine wpAnyH_take (i := 5) (oi := { dst := some 22, op := _, type := _, pos := _, after := _, guard := _ }) (v := .agg ((kC (s.at i).k).toList).toArray) rfl (by kernel_rfl) (by kernel_rfl) (by kernel_rfl) (fun _ _ _ h => h) (yieldsIf_load_mid (by rfl) 72 _ rfl X 0 rfl ((kC (s.at i).k).toList) _ (fun u hu => hu.1) Tryd.underlying72 rfl (by kernel_rfl)) (by assumption) ?_
  try simp only [Act.put, List.setIfInBounds_toArray, List.set_cons_zero, List.set_cons_succ]
  refine wpAnyH_take (i := 6) (oi := { dst := some 23, op := _, type := _, pos := _, after := _, guard := _ }) (v := ?_) rfl (by kernel_rfl) (by kernel_rfl) (by kernel_rfl) (fun _ _ _ h => h) (Or.inl ⟨by rfl, ?_⟩) (by assumption) ?_
  rotate_left 1
  · intro u hSw; obtain ⟨s1, s2⟩ := hSw; go_simp; try with_reducible rfl
  try simp only [Act.put, List.setIfInBounds_toArray, List.set_cons_zero, List.set_cons_succ]
  refine wpAnyH_take (i := 7) (oi := { dst := some 24, op := _, type := _, pos := _, after := _, guard := _ }) (v := ?_) rfl (by kernel_rfl) (by kernel_rfl) (by kernel_rfl) (fun _ _ _ h => h) (Or.inl ⟨by rfl, ?_⟩) (by assumption) ?_
  rotate_left 1
  · intro u hSw; obtain ⟨s1, s2⟩ := hSw; go_simp; try with_reducible rfl
  try simp only [Act.put, List.setIfInBounds_toArray, List.set_cons_zero, List.set_cons_succ]
  refine wpAnyH_take (i := 8) (oi := { dst := some 25, op := _, type := _, pos := _, after := _, guard := _ }) (v := ?_) rfl (by kernel_rfl) (by kernel_rfl) (by kernel_rfl) (fun _ _ _ h => h) (Or.inl ⟨by rfl, ?_⟩) (by assumption) ?_
  rotate_left 1
  · intro u hSw; obtain ⟨s1, s2⟩ := hSw; go_simp; try with_reducible rfl
  try simp only [Act.put, List.setIfInBounds_toArray, List.set_cons_zero, List.set_cons_succ]
  refine wpAnyH_take (i := 9) (oi := { dst := some 26, op := _, type := _, pos := _, after := _, guard := _ }) (v := ?_) rfl (by kernel_rfl) (by kernel_rfl) (by kernel_rfl) (fun _ _ _ h => h) (Or.inl ⟨by rfl, ?_⟩) (by assumption) ?_
  rotate_left 1
  · intro u hSw; obtain ⟨s1, s2⟩ := hSw; go_simp; try with_reducible rfl
  try simp only [Act.put, List.setIfInBounds_toArray, List.set_cons_zero, List.set_cons_succ]
  refine wpAnyH_take (i := 10) (oi := { dst := some 27, op := _, type := _, pos := _, after := _, guard := _ }) (v := ?_) rfl (by kernel_rfl) (by kernel_rfl) (by kernel_rfl) (fun _ _ _ h => h) (Or.inl ⟨by rfl, ?_⟩) (by assumption) ?_
  rotate_left 1
  · intro u hSw; obtain ⟨s1, s2⟩ := hSw; go_simp; try with_reducible rfl
  try simp only [Act.put, List.setIfInBounds_toArray, List.set_cons_zero, List.set_cons_succ]
  refine wpAnyH_ready (rs := [11]) (by kernel_rfl) (by simp) ?_
  refine AllReadyH.cons (o := { dst := none, op := _, type := _, pos := _, after := _, guard := _ }) rfl (fun K hK => ?_) AllReadyH.nil
  refine step_store_mid rfl 72 _ _ rfl ob 42 (kC (s.at i).k) rfl rfl HTH.out (by kernel_rfl) (kC_all _) ?_
  rw [← hw2]
  clear hw2
  refine hK.out _ _ (HT1.out) (fun hHeld => ?_)
  clear hK K
  try simp only [Act.put, List.setIfInBounds_toArray, List.set_cons_zero, List.set_cons_succ]
  refine wpAnyH_take (i := 12) (oi := { dst := some 28, op := _, type := _, pos := _, after := _, guard := _ }) (v := ?_) rfl (by kernel_rfl) (by kernel_rfl) (by kernel_rfl) (fun _ _ _ h => h) (Or.inl ⟨by rfl, ?_⟩) (by assumption) ?_
  rotate_left 1
  · intro u hSw; obtain ⟨s1, s2⟩ := hSw; go_simp; try with_reducible rfl
  try simp only [Act.put, List.setIfInBounds_toArray, List.set_cons_zero, List.set_cons_succ]
  refine wpAnyH_take (i := 13) (oi := { dst := some 29, op := _, type := _, pos := _, after := _, guard := _ }) (v := ?_) rfl (by kernel_rfl) (by kernel_rfl) (by kernel_rfl) (fun _ _ _ h => h) (Or.inl ⟨by rfl, ?_⟩) (by assumption) ?_
  rotate_left 1
  · intro u hSw; obtain ⟨s1, s2⟩ := hSw; go_simp; try with_reducible rfl
  try simp only [Act.put, List.setIfInBounds_toArray, List.set_cons_zero, List.set_cons_succ]
  have Q3 : Hid (Om (w2.setCell ⟨ob, 59, none⟩ (.int .i64 (s.at i).r)) ob (lpp lb) cv { o with fk := (s.at i).k, nm := (s.at i).r }) := hide2 (Q2.out.setNm _)
  have F3 : Hid (Fr (fun j => j = ob) wd (w2.setCell ⟨ob, 59, none⟩ (.int .i64 (s.at i).r))) := hide2 (Fr.setCell (p := ⟨ob, 59, none⟩) F2.out (.inl rfl) _)
  have HT2 : Hid ((w2.setCell ⟨ob, 59, none⟩ (.int .i64 (s.at i).r)).rangeAt X 0 (kC (s.at i).k).toList ∧ (w2.setCell ⟨ob, 59, none⟩ (.int .i64 (s.at i).r)).cell? ⟨X, 17, none⟩ = some (.int .i64 (s.at i).r)) := hide2 ⟨fun j v hv => (World.cell?_setCell_other _ ⟨ob, 59, none⟩ ⟨X, 0 + j, none⟩ _ (by intro e; injection e; omega)).trans (HT1.out.1 j v hv), (World.cell?_setCell_other _ ⟨ob, 59, none⟩ ⟨X, 17, none⟩ _ (by intro e; injection e; omega)).trans HT1.out.2⟩
  refine wpAnyH_ready (rs := [14]) (by kernel_rfl) (by simp) ?_
  refine AllReadyH.cons (o := { dst := none, op := _, type := _, pos := _, after := _, guard := _ }) rfl (fun K hK => ?_) AllReadyH.nil
  clear hHeld
  go_simp
  go_wp2_with fail
  refine hK.out _ _ (HT2.out) (fun hHeld => ?_)
  clear hK K
  try simp only [Act.put, List.setIfInBounds_toArray, List.set_cons_zero, List.set_cons_succ]
  have c60 := Q3.out.cells.2.2.2.2.2.2.2.2.2.2.1
  have g60 := Q3.out.free 60
  refine wpAnyH_take (i := 15) (oi := { dst := some 30, op := _, type := _, pos := _, after := _, guard := _ }) (v := ?_) rfl (by kernel_rfl) (by kernel_rfl) (by kernel_rfl) (fun _ _ _ h => h) (Or.inl ⟨by rfl, ?_⟩) (by assumption) ?_
  rotate_left 1
  · intro u hSw; obtain ⟨s1, s2⟩ := hSw; go_simp; try with_reducible rfl
  try simp only [Act.put, List.setIfInBounds_toArray, List.set_cons_zero, List.set_cons_succ]
  refine wpAnyH_take (i := 16) (oi := { dst := some 31, op := _, type := _, pos := _, after := _, guard := _ }) (v := ?_) rfl (by kernel_rfl) (by kernel_rfl) (by kernel_rfl) (fun _ _ _ h => h) (Or.inl ⟨by rfl, ?_⟩) (by assumption) ?_
  rotate_left 1
  · intro u hSw; obtain ⟨s1, s2⟩ := hSw; go_simp; try with_reducible rfl
  try simp only [Act.put, List.setIfInBounds_toArray, List.set_cons_zero, List.set_cons_succ]
  have Q4 : Hid (Om ((w2.setCell ⟨ob, 59, none⟩ (.int .i64 (s.at i).r)).setCell ⟨ob, 60, none⟩ (.bool had)) ob (lpp lb) cv { o with fk := (s.at i).k, nm := (s.at i).r, had := had }) := hide2 (Q3.out.setHad _)
  have F4 : Hid (Fr (fun j => j = ob) wd ((w2.setCell ⟨ob, 59, none⟩ (.int .i64 (s.at i).r)).setCell ⟨ob, 60, none⟩ (.bool had))) := hide2 (Fr.setCell (p := ⟨ob, 60, none⟩) F3.out (.inl rfl) _)
  have HT3 : Hid (((w2.setCell ⟨ob, 59, none⟩ (.int .i64 (s.at i).r)).setCell ⟨ob, 60, none⟩ (.bool had)).rangeAt X 0 (kC (s.at i).k).toList ∧ ((w2.setCell ⟨ob, 59, none⟩ (.int .i64 (s.at i).r)).setCell ⟨ob, 60, none⟩ (.bool had)).cell? ⟨X, 17, none⟩ = some (.int .i64 (s.at i).r)) := hide2 ⟨fun j v hv => (World.cell?_setCell_other _ ⟨ob, 60, none⟩ ⟨X, 0 + j, none⟩ _ (by intro e; injection e; omega)).trans (HT2.out.1 j v hv), (World.cell?_setCell_other _ ⟨ob, 60, none⟩ ⟨X, 17, none⟩ _ (by intro e; injection e; omega)).trans HT2.out.2⟩
  refine wpAnyH_ready (rs := [17]) (by kernel_rfl) (by simp) ?_
  refine AllReadyH.cons (o := { dst := none, op := _, type := _, pos := _, after := _, guard := _ }) rfl (fun K hK => ?_) AllReadyH.nil
  clear hHeld
  go_simp
  go_wp2_with fail
  refine hK.out _ _ (HT3.out) (fun hHeld => ?_)
  clear hK K
  try simp only [Act.put, List.setIfInBounds_toArray, List.set_cons_zero, List.set_cons_succ]
  have c21 := Q4.out.cells.2.2.2.2.1
  have g21 := Q4.out.free 21
  refine wpAnyH_take (i := 18) (oi := { dst := some 32, op := _, type := _, pos := _, after := _, guard := _ }) (v := ?_) rfl (by kernel_rfl) (by kernel_rfl) (by kernel_rfl) (fun _ _ _ h => h) (Or.inl ⟨by rfl, ?_⟩) (by assumption) ?_
  rotate_left 1
  · intro u hSw; obtain ⟨s1, s2⟩ := hSw; go_simp; try with_reducible rfl
  try simp only [Act.put, List.setIfInBounds_toArray, List.set_cons_zero, List.set_cons_succ]
  refine wpAnyH_take (i := 19) (oi := { dst := some 33, op := _, type := _, pos := _, after := _, guard := _ }) (v := ?_) rfl (by kernel_rfl) (by kernel_rfl) (by kernel_rfl) (fun _ _ _ h => h) (Or.inl ⟨by rfl, ?_⟩) (by assumption) ?_
  rotate_left 1
  · intro u hSw; obtain ⟨s1, s2⟩ := hSw; go_simp; try with_reducible rfl
  try simp only [Act.put, List.setIfInBounds_toArray, List.set_cons_zero, List.set_cons_succ]
  have Q5 : Hid (Om (((w2.setCell ⟨ob, 59, none⟩ (.int .i64 (s.at i).r)).setCell ⟨ob, 60, none⟩ (.bool had)).setCell ⟨ob, 21, none⟩ (.int .i64 5)) ob (lpp lb) cv (o.told s i had)) := hide2 (Q4.out.setSt 5)
  have F5 : Hid (Fr (fun j => j = ob) wd (((w2.setCell ⟨ob, 59, none⟩ (.int .i64 (s.at i).r)).setCell ⟨ob, 60, none⟩ (.bool had)).setCell ⟨ob, 21, none⟩ (.int .i64 5))) := hide2 (Fr.setCell (p := ⟨ob, 21, none⟩) F4.out (.inl rfl) _)
  have HT4 : Hid ((((w2.setCell ⟨ob, 59, none⟩ (.int .i64 (s.at i).r)).setCell ⟨ob, 60, none⟩ (.bool had)).setCell ⟨ob, 21, none⟩ (.int .i64 5)).rangeAt X 0 (kC (s.at i).k).toList ∧ (((w2.setCell ⟨ob, 59, none⟩ (.int .i64 (s.at i).r)).setCell ⟨ob, 60, none⟩ (.bool had)).setCell ⟨ob, 21, none⟩ (.int .i64 5)).cell? ⟨X, 17, none⟩ = some (.int .i64 (s.at i).r)) := hide2 ⟨fun j v hv => (World.cell?_setCell_other _ ⟨ob, 21, none⟩ ⟨X, 0 + j, none⟩ _ (by intro e; injection e; omega)).trans (HT3.out.1 j v hv), (World.cell?_setCell_other _ ⟨ob, 21, none⟩ ⟨X, 17, none⟩ _ (by intro e; injection e; omega)).trans HT3.out.2⟩
  refine wpAnyH_ready (rs := [20]) (by kernel_rfl) (by simp) ?_
  refine AllReadyH.cons (o := { dst := none, op := _, type := _, pos := _, after := _, guard := _ }) rfl (fun K hK => ?_) AllReadyH.nil
  clear hHeld
  go_simp
  go_wp2_with fail
  refine hK.out _ _ (HT4.out) (fun hHeld => ?_)
  clear hK K
  try simp only [Act.put, List.setIfInBounds_toArray, List.set_cons_zero, List.set_cons_succ]
  refine wpAnyH_done (by kernel_rfl) ?_ _
  refine NoPanic.normal ?_
  obtain ⟨w5, hw5⟩ : ∃ y, y = (((w2.setCell ⟨ob, 59, none⟩ (.int .i64 (s.at i).r)).setCell ⟨ob, 60, none⟩ (.bool had)).setCell ⟨ob, 21, none⟩ (.int .i64 5)) := ⟨_, rfl⟩
  try rw [← hw5]
  have hFd : Fr (fun _ => False) w wd := (Fr.below (F := fun _ => False) HB.out).trans HFDD.out (fun j e => e.elim)
  have hFB : Fr B w w5 := (hFd.mono (G := B) (fun _ _ e => e.elim)).trans (by rw [hw5]; exact F5.out) (fun j e => .inl (HO.out.kk j (.inl e)))
  have h5 := H.out.keep hFB hKB HO.out.b0
  have o5 : Ob w5 B ob lb cv (o.told s i had) := by
    have od := HO.out.keep hFd (fun _ _ e => e)
    exact od.put (by rw [hw5]; exact Q5.out) rfl (by rw [hw5]; exact F5.out)
  have HOW := hide2 (own_any h5 o5 hKB hl)
  have H5 := hide2 h5
  have O5 := hide2 o5
  have HFB := hide2 hFB
  clear HS1 HS2 HT1 HT2 HT3 HT4 Q2 Q3 Q4 Q5 F2 F3 F4 F5 h5 o5 hFB hFd c59 g59 c60 g60 c21 g21 hHeld HTW HZ O1 HTH
  clear hw5
  go_wp2_with fail
  refine HOW.out.mono ?_
  rintro e w6 ⟨cv6, rfl, h6, o6, hF6⟩
  obtain ⟨ca, cn, cc, ec⟩ : ∃ a n c, cv6 = Value.slice a n c := by obtain ⟨a, c, e⟩ := o6.row.form; exact ⟨a, _, c, e⟩
  have hcn : cn = ((o.told s i had).owned s).cs.length := by obtain ⟨a, c, e⟩ := o6.row.form; rw [ec] at e; cases e; rfl
  have c21 := o6.om.cells.2.2.2.2.1
  have g21 := o6.om.free 21
  have hob6 := o6.om.lt
  have H6 := hide2 h6
  have O6 := hide2 o6
  have HF6 := hide2 (HFB.out.trans hF6 (fun j e => .inl e))
  have HCN := hide2 hcn
  subst ec
  by_cases hq : cn = 0
  · have d1 : ¬ (0 : Int) < (cn : Int) := by omega
    have HQ := hide2 hq
    clear h6 o6 hF6 HOW hcn hq
    go_wp2
    go_end0
    have e1 : o.ans s i had = (o.told s i had).owned s := by unfold Opm.ans; rw [if_pos (by rw [← HCN.out]; exact HQ.out)]; rfl
    rw [e1]
    exact ⟨rfl, _, H6.out, O6.out, HF6.out⟩
  · have d1 : (0 : Int) < (cn : Int) := by omega
    have HQ := hide2 hq
    clear h6 o6 hF6 HOW hcn hq
    go_wp2
    go_end0
    have hF7 : Fr (fun j => j = ob) w6 (w6.setCell ⟨ob, 21, none⟩ (.int .i64 4)) := Fr.setCell (p := ⟨ob, 21, none⟩) (Fr.refl (fun j => j = ob) w6) (.inl rfl) _
    have hF8 : Fr B w6 (w6.setCell ⟨ob, 21, none⟩ (.int .i64 4)) := hF7.mono (fun j _ e => HO.out.kk j (.inl e))
    have e1 : o.ans s i had = { (o.told s i had).owned s with st := 4 } := by unfold Opm.ans; rw [if_neg (by rw [← HCN.out]; exact HQ.out)]
    rw [e1]
    exact ⟨rfl, _, H6.out.keep hF8 hKB HO.out.b0, O6.out.put (O6.out.om.setSt 4) rfl hF7, HF6.out.trans hF8 (fun j e => .inl e)⟩
end
end Go.Proofs.YtopihgdbfhiejaaDoor
