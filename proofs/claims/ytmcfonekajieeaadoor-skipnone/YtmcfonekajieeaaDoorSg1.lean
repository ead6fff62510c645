/-
  begin, Insert, Lookup, Next; refuse. (Printed by gen_sg.py.)
-/
import Derived.Test.YtmcfonekajieeaaDoorSd1
set_option linter.unusedVariables false
set_option linter.unusedSimpArgs false
namespace Go.Proofs.YtmcfonekajieeaaDoor
open Go.RowKit Go.Maps

theorem wpList_build_eq {P : Program} {ops : Array Oper} {rest : List Oper} {o : Oper} {a : Act} {w : World} {Q : Exit → Act → World → Prop} (hg : o.guard = none) (t : TypeId) (parts : Array (Nat × Operand)) (ho : o.op = .build t parts) (cells : Array Value)
    (hf : P.built t (parts.map fun (i, x) => (i, a.eval x)).toList = some cells)
    (h : wpList P ops Q rest (a.put o.dst (.agg cells)) w) : wpList P ops Q (o :: rest) a w :=
  wpList_plain hg fun _ hK => wp_build t parts ho (by rw [hf]; rfl) (hK _ _ (by rw [hf]; exact h))

/-- An operation that is begun. -/
def opN (kind : Nat) : Opm := ⟨kind, .empty, 0, 0, 0, 0, fun _ => 0, fun _ => 0, [], false, 0, .empty, 0, false, 0⟩
def opS (kind : Nat) (k : ByteArray) : Opm := ⟨kind, k, 0, 0, 1, 7, fun _ => 0, fun _ => 0, [], false, 0, .empty, 0, false, 0⟩
abbrev nilv : Value := .slice none 0 0
section
variable {w w' : World} {ob : Nat} {lp cv : Value} {o : Opm}
set_option maxHeartbeats 1000000 in
theorem Om.setKey (h : Om w ob lp cv o) (k : ByteArray) : Om (w.setCells ob 2 (kC k).toList) ob lp cv { o with k := k } := by
  have h1 := run_storeCells_at Tryd.prog ob 2 82 (kC k).toList 0 (opL lp cv o) w h (by show 2 + 0 + 17 ≤ 62; omega) (kC_one k)
  have h2 := run_storeCells_cells (P := Tryd.prog) ob 2 (kC k).toList 0 w (fun j hj => by
      have hj2 : j < 17 := hj
      rw [h.cell, Array.getElem?_eq_getElem (by show _ < 62; omega)]; rfl) (fun j hj => h.free _) (kC_one k)
  have e := (Result.ok.inj (h2.symm.trans h1)).2
  rw [Nat.add_zero] at e
  rw [e]
  unfold Om
  rw [setRow_heap _ _ _ _ _ _ h]
  rfl
theorem Om.there2 (h : Om w ob lp cv o) : w.there ob 2 17 := fun j hj => ⟨by
    rw [h.cell, Array.getElem?_eq_getElem (by show _ < 62; omega)]; rfl, h.free _⟩
theorem opN_new (w : World) (lp : Value) (kind : Nat) : Om (w.alloc (.cells (opL lp nilv (opN kind)) 82)) w.heap.size lp nilv (opN kind) := heap_alloc_new _ _

set_option maxRecDepth 100000 in
set_option maxHeartbeats 4000000 in
/-- begin, of no list. -/
theorem begin_nil (w : World) (kind : Nat) (k : ByteArray) :
    Calls Tryd.prog 37 #[.pointer none, .int .i64 (kind : Int), .string k] w fun e w' => e = .returned (.pointer (some ⟨w.heap.size, 0, none⟩)) ∧ Om w' w.heap.size (.pointer none) nilv (opN kind) ∧ Below w.heap.size w w' := by
  obtain ⟨W, hW⟩ : ∃ W, W = w.alloc (.cells #[.pointer none, .int .i64 (kind : Int), .int .u8 0, .int .u8 0, .int .u8 0, .int .u8 0, .int .u8 0, .int .u8 0, .int .u8 0, .int .u8 0, .int .u8 0, .int .u8 0, .int .u8 0, .int .u8 0, .int .u8 0, .int .u8 0, .int .u8 0, .int .u8 0, .int .u8 0, .int .i64 0, .int .i64 0, .int .i64 0, .int .i64 0, .int .i64 0, .int .u64 0, .int .i64 0, .int .u64 0, .int .i64 0, .int .u64 0, .int .i64 0, .int .u64 0, .int .i64 0, .int .u64 0, .int .i64 0, .int .u64 0, .int .i64 0, .int .u64 0, .int .i64 0, .int .u64 0, .slice none 0 0, .bool false, .int .i64 0, .int .u8 0, .int .u8 0, .int .u8 0, .int .u8 0, .int .u8 0, .int .u8 0, .int .u8 0, .int .u8 0, .int .u8 0, .int .u8 0, .int .u8 0, .int .u8 0, .int .u8 0, .int .u8 0, .int .u8 0, .int .u8 0, .int .u8 0, .int .i64 0, .bool false, .int .i64 0] 82) := ⟨_, rfl⟩
  have hlit : opL (.pointer none) nilv (opN kind) = #[.pointer none, .int .i64 (kind : Int), .int .u8 0, .int .u8 0, .int .u8 0, .int .u8 0, .int .u8 0, .int .u8 0, .int .u8 0, .int .u8 0, .int .u8 0, .int .u8 0, .int .u8 0, .int .u8 0, .int .u8 0, .int .u8 0, .int .u8 0, .int .u8 0, .int .u8 0, .int .i64 0, .int .i64 0, .int .i64 0, .int .i64 0, .int .i64 0, .int .u64 0, .int .i64 0, .int .u64 0, .int .i64 0, .int .u64 0, .int .i64 0, .int .u64 0, .int .i64 0, .int .u64 0, .int .i64 0, .int .u64 0, .int .i64 0, .int .u64 0, .int .i64 0, .int .u64 0, .slice none 0 0, .bool false, .int .i64 0, .int .u8 0, .int .u8 0, .int .u8 0, .int .u8 0, .int .u8 0, .int .u8 0, .int .u8 0, .int .u8 0, .int .u8 0, .int .u8 0, .int .u8 0, .int .u8 0, .int .u8 0, .int .u8 0, .int .u8 0, .int .u8 0, .int .u8 0, .int .i64 0, .bool false, .int .i64 0] := by kernel_rfl
  have hO : Om W w.heap.size (.pointer none) nilv (opN kind) := by rw [hW]; unfold Om; rw [hlit]; exact heap_alloc_new _ _
  have hB : Below w.heap.size w W := by rw [hW]; exact (Below.refl _ w).alloc (Nat.le_refl _) _
  have HN := hide2 (isNone_nil W)
  have HO := hide2 hO
  have HB := hide2 hB
  clear hO hB
  have HW := hide2 hW
  clear hW hlit
  go_enter Tryd.func37, Tryd.ntmps37
  go_wp2_with fail
  rw [← HW.out]
  clear HW
  refine HN.out.mono ?_
  rintro e w1 ⟨rfl, rfl⟩
  go_wp2
  go_ret
  exact ⟨rfl, HO.out, HB.out⟩
end

section
variable {w w' : World} {K B : Nat → Prop} {lb d g gt tc : Nat} {sv : Value} {T : List Bool} {N : List Int} {m : Int} {F : List Nat} {s : Sl}
set_option maxRecDepth 100000 in
set_option maxHeartbeats 4000000 in
/-- begin, of a key that may not be. -/
theorem begin_bad (h : Lm w K lb d g gt tc sv T N m F s) (hn : 1 ≤ s.tw.length) (kind : Nat) (hk1 : kind ≠ 1) (k : ByteArray) (hk : k.size ≤ maxLen) (hg : good k = false) :
    Calls Tryd.prog 37 #[.pointer (some ⟨lb, 0, none⟩), .int .i64 (kind : Int), .string k] w fun e w' => e = .returned (.pointer (some ⟨w.heap.size, 0, none⟩)) ∧ Om w' w.heap.size (lpp lb) nilv (opN kind) ∧ Below w.heap.size w w' := by
  obtain ⟨W, hW⟩ : ∃ W, W = w.alloc (.cells #[.pointer (some ⟨lb, 0, none⟩), .int .i64 (kind : Int), .int .u8 0, .int .u8 0, .int .u8 0, .int .u8 0, .int .u8 0, .int .u8 0, .int .u8 0, .int .u8 0, .int .u8 0, .int .u8 0, .int .u8 0, .int .u8 0, .int .u8 0, .int .u8 0, .int .u8 0, .int .u8 0, .int .u8 0, .int .i64 0, .int .i64 0, .int .i64 0, .int .i64 0, .int .i64 0, .int .u64 0, .int .i64 0, .int .u64 0, .int .i64 0, .int .u64 0, .int .i64 0, .int .u64 0, .int .i64 0, .int .u64 0, .int .i64 0, .int .u64 0, .int .i64 0, .int .u64 0, .int .i64 0, .int .u64 0, .slice none 0 0, .bool false, .int .i64 0, .int .u8 0, .int .u8 0, .int .u8 0, .int .u8 0, .int .u8 0, .int .u8 0, .int .u8 0, .int .u8 0, .int .u8 0, .int .u8 0, .int .u8 0, .int .u8 0, .int .u8 0, .int .u8 0, .int .u8 0, .int .u8 0, .int .u8 0, .int .i64 0, .bool false, .int .i64 0] 82) := ⟨_, rfl⟩
  have hlit : opL (lpp lb) nilv (opN kind) = #[.pointer (some ⟨lb, 0, none⟩), .int .i64 (kind : Int), .int .u8 0, .int .u8 0, .int .u8 0, .int .u8 0, .int .u8 0, .int .u8 0, .int .u8 0, .int .u8 0, .int .u8 0, .int .u8 0, .int .u8 0, .int .u8 0, .int .u8 0, .int .u8 0, .int .u8 0, .int .u8 0, .int .u8 0, .int .i64 0, .int .i64 0, .int .i64 0, .int .i64 0, .int .i64 0, .int .u64 0, .int .i64 0, .int .u64 0, .int .i64 0, .int .u64 0, .int .i64 0, .int .u64 0, .int .i64 0, .int .u64 0, .int .i64 0, .int .u64 0, .int .i64 0, .int .u64 0, .int .i64 0, .int .u64 0, .slice none 0 0, .bool false, .int .i64 0, .int .u8 0, .int .u8 0, .int .u8 0, .int .u8 0, .int .u8 0, .int .u8 0, .int .u8 0, .int .u8 0, .int .u8 0, .int .u8 0, .int .u8 0, .int .u8 0, .int .u8 0, .int .u8 0, .int .u8 0, .int .u8 0, .int .u8 0, .int .i64 0, .bool false, .int .i64 0] := by kernel_rfl
  have hO : Om W w.heap.size (lpp lb) nilv (opN kind) := by rw [hW]; unfold Om; rw [hlit]; exact heap_alloc_new _ _
  have hB : Below w.heap.size w W := by rw [hW]; exact (Below.refl _ w).alloc (Nat.le_refl _) _
  have HN := hide2 ((h.below hB).isNone hn)
  have HM := hide2 (mayBe_any k hk W)
  rw [hg] at HM
  have HO := hide2 hO
  have HB := hide2 hB
  have d1 : ((kind : Int) == 1) = false := by rw [beq_eq_false_iff_ne]; omega
  have d2 : ¬ (kind : Int) = 1 := by omega
  clear hO hB h hg hk1
  have HW := hide2 hW
  clear hW hlit
  go_enter Tryd.func37, Tryd.ntmps37
  go_wp2_with fail
  rw [← HW.out]
  clear HW
  refine HN.out.mono ?_
  rintro e w1 ⟨rfl, rfl⟩
  go_wp2_with fail
  refine HM.out.mono ?_
  rintro e w2 ⟨rfl, rfl⟩
  go_wp2
  go_ret
  exact ⟨rfl, HO.out, HB.out⟩

set_option maxRecDepth 100000 in
set_option maxHeartbeats 4000000 in
theorem begin_good (h : Lm w K lb d g gt tc sv T N m F s) (hn : 1 ≤ s.tw.length) (kind : Nat) (k : ByteArray) (hk : k.size ≤ maxLen) (hk1 : kind ≠ 1) (hg : good k = true) :
    Calls Tryd.prog 37 #[.pointer (some ⟨lb, 0, none⟩), .int .i64 (kind : Int), .string k] w fun e w' => e = .returned (.pointer (some ⟨w.heap.size, 0, none⟩)) ∧ Om w' w.heap.size (lpp lb) nilv (opS kind k) ∧ Below w.heap.size w w' := by
  obtain ⟨W, hW⟩ : ∃ W, W = w.alloc (.cells #[.pointer (some ⟨lb, 0, none⟩), .int .i64 (kind : Int), .int .u8 0, .int .u8 0, .int .u8 0, .int .u8 0, .int .u8 0, .int .u8 0, .int .u8 0, .int .u8 0, .int .u8 0, .int .u8 0, .int .u8 0, .int .u8 0, .int .u8 0, .int .u8 0, .int .u8 0, .int .u8 0, .int .u8 0, .int .i64 0, .int .i64 0, .int .i64 0, .int .i64 0, .int .i64 0, .int .u64 0, .int .i64 0, .int .u64 0, .int .i64 0, .int .u64 0, .int .i64 0, .int .u64 0, .int .i64 0, .int .u64 0, .int .i64 0, .int .u64 0, .int .i64 0, .int .u64 0, .int .i64 0, .int .u64 0, .slice none 0 0, .bool false, .int .i64 0, .int .u8 0, .int .u8 0, .int .u8 0, .int .u8 0, .int .u8 0, .int .u8 0, .int .u8 0, .int .u8 0, .int .u8 0, .int .u8 0, .int .u8 0, .int .u8 0, .int .u8 0, .int .u8 0, .int .u8 0, .int .u8 0, .int .u8 0, .int .i64 0, .bool false, .int .i64 0] 82) := ⟨_, rfl⟩
  have hlit : opL (lpp lb) nilv (opN kind) = #[.pointer (some ⟨lb, 0, none⟩), .int .i64 (kind : Int), .int .u8 0, .int .u8 0, .int .u8 0, .int .u8 0, .int .u8 0, .int .u8 0, .int .u8 0, .int .u8 0, .int .u8 0, .int .u8 0, .int .u8 0, .int .u8 0, .int .u8 0, .int .u8 0, .int .u8 0, .int .u8 0, .int .u8 0, .int .i64 0, .int .i64 0, .int .i64 0, .int .i64 0, .int .i64 0, .int .u64 0, .int .i64 0, .int .u64 0, .int .i64 0, .int .u64 0, .int .i64 0, .int .u64 0, .int .i64 0, .int .u64 0, .int .i64 0, .int .u64 0, .int .i64 0, .int .u64 0, .int .i64 0, .int .u64 0, .slice none 0 0, .bool false, .int .i64 0, .int .u8 0, .int .u8 0, .int .u8 0, .int .u8 0, .int .u8 0, .int .u8 0, .int .u8 0, .int .u8 0, .int .u8 0, .int .u8 0, .int .u8 0, .int .u8 0, .int .u8 0, .int .u8 0, .int .u8 0, .int .u8 0, .int .u8 0, .int .i64 0, .bool false, .int .i64 0] := by kernel_rfl
  have hO : Om W w.heap.size (lpp lb) nilv (opN kind) := by rw [hW]; unfold Om; rw [hlit]; exact heap_alloc_new _ _
  have hB : Below w.heap.size w W := by rw [hW]; exact (Below.refl _ w).alloc (Nat.le_refl _) _
  have hWs : W.heap.size = w.heap.size + 1 := by rw [hW]; simp
  have HN := hide2 ((h.below hB).isNone hn)
  have HK := hide2 (keyOf_any k hk W)
  have HO := hide2 hO
  have HB := hide2 hB
  have HM := hide2 (mayBe_any k hk W)
  rw [hg] at HM
  have d1 : ((kind : Int) == 1) = false := by rw [beq_eq_false_iff_ne]; omega
  have d2 : ¬ (kind : Int) = 1 := by omega
  clear hk1 hg
  clear hO hB h
  have HW := hide2 hW
  clear hW hlit
  go_enter Tryd.func37, Tryd.ntmps37
  go_wp2_with fail
  rw [← HW.out]
  clear HW
  refine HN.out.mono ?_
  rintro e w1 ⟨rfl, rfl⟩
  go_wp2_with fail
  refine HM.out.mono ?_
  rintro e w2 ⟨rfl, rfl⟩
  go_wp2_with fail
  refine HK.out.mono ?_
  rintro e w3 ⟨rfl, hb3⟩
  have o3 : Om w3 w.heap.size (lpp lb) nilv (opN kind) := HO.out.fr (Fr.below (F := fun _ => False) hb3) (fun e => e)
  obtain ⟨w4, hw4⟩ : ∃ y, y = w3.setCells w.heap.size 2 (kC k).toList := ⟨_, rfl⟩
  have o4 : Om w4 w.heap.size (lpp lb) nilv { opN kind with k := k } := by rw [hw4]; exact o3.setKey k
  have T3 := hide2 o3.there2
  have c21 := o4.cells.2.2.2.2.1
  have f21 := o4.free 21
  have c22 := o4.cells.2.2.2.2.2.1
  have f22 := o4.free 22
  have hl4 := o4.lt
  have O4 : Hid (Om ((w4.setCell ⟨w.heap.size, 21, none⟩ (.int .i64 1)).setCell ⟨w.heap.size, 22, none⟩ (.int .i64 7)) w.heap.size (lpp lb) nilv (opS kind k)) := hide2 ((o4.setSt 1).setLv 7)
  have B4 : Hid (Below w.heap.size w ((w4.setCell ⟨w.heap.size, 21, none⟩ (.int .i64 1)).setCell ⟨w.heap.size, 22, none⟩ (.int .i64 7))) := hide2 (by
    have b3 : Below w.heap.size w w3 := HB.out.trans (hb3.mono (by omega))
    have f4 : Fr (fun j => j = w.heap.size) w3 w4 := by rw [hw4]; exact fr_setCells
    have f5 := Fr.setCell (p := ⟨w.heap.size, 22, none⟩) (Fr.setCell (p := ⟨w.heap.size, 21, none⟩) f4 (.inl rfl) (.int .i64 1)) (.inl rfl) (.int .i64 7)
    exact b3.trans (f5.to (fun j hj e => by omega) b3.size))
  clear o3 o4 hb3
  have HSZ : Hid ((Tryd.prog.info? 72).map (·.size) = some (kC k).size) := hide2 (by kernel_rfl)
  have HW4 := hide2 hw4
  clear hw4
  go_wp2_with (first
    | (refine wpList_store_mid rfl 72 (Operand.tmp 29) (Operand.tmp 27) rfl w.heap.size 2 (kC k) rfl rfl ?_ ?_ (kC_all k) ?_
       · exact T3.out
       · exact HSZ.out
       rw [← HW4.out]))
  go_wp2
  go_ret
  exact ⟨rfl, O4.out, B4.out⟩

set_option maxRecDepth 100000 in
set_option maxHeartbeats 4000000 in
theorem begin_next (h : Lm w K lb d g gt tc sv T N m F s) (hn : 1 ≤ s.tw.length) (k : ByteArray) (hk : k.size ≤ maxLen)  :
    Calls Tryd.prog 37 #[.pointer (some ⟨lb, 0, none⟩), .int .i64 1, .string k] w fun e w' => e = .returned (.pointer (some ⟨w.heap.size, 0, none⟩)) ∧ Om w' w.heap.size (lpp lb) nilv (opS 1 k) ∧ Below w.heap.size w w' := by
  obtain ⟨W, hW⟩ : ∃ W, W = w.alloc (.cells #[.pointer (some ⟨lb, 0, none⟩), .int .i64 1, .int .u8 0, .int .u8 0, .int .u8 0, .int .u8 0, .int .u8 0, .int .u8 0, .int .u8 0, .int .u8 0, .int .u8 0, .int .u8 0, .int .u8 0, .int .u8 0, .int .u8 0, .int .u8 0, .int .u8 0, .int .u8 0, .int .u8 0, .int .i64 0, .int .i64 0, .int .i64 0, .int .i64 0, .int .i64 0, .int .u64 0, .int .i64 0, .int .u64 0, .int .i64 0, .int .u64 0, .int .i64 0, .int .u64 0, .int .i64 0, .int .u64 0, .int .i64 0, .int .u64 0, .int .i64 0, .int .u64 0, .int .i64 0, .int .u64 0, .slice none 0 0, .bool false, .int .i64 0, .int .u8 0, .int .u8 0, .int .u8 0, .int .u8 0, .int .u8 0, .int .u8 0, .int .u8 0, .int .u8 0, .int .u8 0, .int .u8 0, .int .u8 0, .int .u8 0, .int .u8 0, .int .u8 0, .int .u8 0, .int .u8 0, .int .u8 0, .int .i64 0, .bool false, .int .i64 0] 82) := ⟨_, rfl⟩
  have hlit : opL (lpp lb) nilv (opN 1) = #[.pointer (some ⟨lb, 0, none⟩), .int .i64 1, .int .u8 0, .int .u8 0, .int .u8 0, .int .u8 0, .int .u8 0, .int .u8 0, .int .u8 0, .int .u8 0, .int .u8 0, .int .u8 0, .int .u8 0, .int .u8 0, .int .u8 0, .int .u8 0, .int .u8 0, .int .u8 0, .int .u8 0, .int .i64 0, .int .i64 0, .int .i64 0, .int .i64 0, .int .i64 0, .int .u64 0, .int .i64 0, .int .u64 0, .int .i64 0, .int .u64 0, .int .i64 0, .int .u64 0, .int .i64 0, .int .u64 0, .int .i64 0, .int .u64 0, .int .i64 0, .int .u64 0, .int .i64 0, .int .u64 0, .slice none 0 0, .bool false, .int .i64 0, .int .u8 0, .int .u8 0, .int .u8 0, .int .u8 0, .int .u8 0, .int .u8 0, .int .u8 0, .int .u8 0, .int .u8 0, .int .u8 0, .int .u8 0, .int .u8 0, .int .u8 0, .int .u8 0, .int .u8 0, .int .u8 0, .int .u8 0, .int .i64 0, .bool false, .int .i64 0] := by kernel_rfl
  have hO : Om W w.heap.size (lpp lb) nilv (opN 1) := by rw [hW]; unfold Om; rw [hlit]; exact heap_alloc_new _ _
  have hB : Below w.heap.size w W := by rw [hW]; exact (Below.refl _ w).alloc (Nat.le_refl _) _
  have hWs : W.heap.size = w.heap.size + 1 := by rw [hW]; simp
  have HN := hide2 ((h.below hB).isNone hn)
  have HK := hide2 (keyOf_any k hk W)
  have HO := hide2 hO
  have HB := hide2 hB
  clear hO hB h
  have HW := hide2 hW
  clear hW hlit
  go_enter Tryd.func37, Tryd.ntmps37
  go_wp2_with fail
  rw [← HW.out]
  clear HW
  refine HN.out.mono ?_
  rintro e w1 ⟨rfl, rfl⟩
  go_wp2_with fail
  refine HK.out.mono ?_
  rintro e w3 ⟨rfl, hb3⟩
  have o3 : Om w3 w.heap.size (lpp lb) nilv (opN 1) := HO.out.fr (Fr.below (F := fun _ => False) hb3) (fun e => e)
  obtain ⟨w4, hw4⟩ : ∃ y, y = w3.setCells w.heap.size 2 (kC k).toList := ⟨_, rfl⟩
  have o4 : Om w4 w.heap.size (lpp lb) nilv { opN 1 with k := k } := by rw [hw4]; exact o3.setKey k
  have T3 := hide2 o3.there2
  have c21 := o4.cells.2.2.2.2.1
  have f21 := o4.free 21
  have c22 := o4.cells.2.2.2.2.2.1
  have f22 := o4.free 22
  have hl4 := o4.lt
  have O4 : Hid (Om ((w4.setCell ⟨w.heap.size, 21, none⟩ (.int .i64 1)).setCell ⟨w.heap.size, 22, none⟩ (.int .i64 7)) w.heap.size (lpp lb) nilv (opS 1 k)) := hide2 ((o4.setSt 1).setLv 7)
  have B4 : Hid (Below w.heap.size w ((w4.setCell ⟨w.heap.size, 21, none⟩ (.int .i64 1)).setCell ⟨w.heap.size, 22, none⟩ (.int .i64 7))) := hide2 (by
    have b3 : Below w.heap.size w w3 := HB.out.trans (hb3.mono (by omega))
    have f4 : Fr (fun j => j = w.heap.size) w3 w4 := by rw [hw4]; exact fr_setCells
    have f5 := Fr.setCell (p := ⟨w.heap.size, 22, none⟩) (Fr.setCell (p := ⟨w.heap.size, 21, none⟩) f4 (.inl rfl) (.int .i64 1)) (.inl rfl) (.int .i64 7)
    exact b3.trans (f5.to (fun j hj e => by omega) b3.size))
  clear o3 o4 hb3
  have HSZ : Hid ((Tryd.prog.info? 72).map (·.size) = some (kC k).size) := hide2 (by kernel_rfl)
  have HW4 := hide2 hw4
  clear hw4
  go_wp2_with (first
    | (refine wpList_store_mid rfl 72 (Operand.tmp 29) (Operand.tmp 27) rfl w.heap.size 2 (kC k) rfl rfl ?_ ?_ (kC_all k) ?_
       · exact T3.out
       · exact HSZ.out
       rw [← HW4.out]))
  go_wp2
  go_ret
  exact ⟨rfl, O4.out, B4.out⟩
end
end Go.Proofs.YtmcfonekajieeaaDoor
