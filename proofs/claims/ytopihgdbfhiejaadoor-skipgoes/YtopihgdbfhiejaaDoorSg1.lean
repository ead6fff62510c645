/-
  Sg1: begin, Insert, Lookup, Next; refuse. (Printed by gen_sg.py.)
  Sg2: Insert, Lookup, Next; refuse; Ref. (Printed by gen_sg2.py.)
  Sb1: takeAll: so many cells of an arena of which none is taken.
  Sg3: New: a list.
-/
import Derived.Test.YtopihgdbfhiejaaDoorSd1
import Derived.Test.YtopihgdbfhiejaaDoorSa7
import Derived.Test.YtopihgdbfhiejaaDoorC8
set_option linter.unusedVariables false
set_option linter.unusedSimpArgs false
namespace Go.Proofs.YtopihgdbfhiejaaDoor

section
open Go.RowKit Go.Maps

theorem wpList_build_eq {P : Program} {ops : Array Oper} {rest : List Oper} {o : Oper} {a : Act} {w : World} {Q : Exit → Act → World → Prop} (hg : o.guard = none) (t : TypeId) (parts : Array (Nat × Operand)) (ho : o.op = .build t parts) (cells : Array Value)
    (hf : P.built t (parts.map fun (i, x) => (i, a.eval x)).toList = some cells)
    (h : wpList P ops Q rest (a.put o.dst (.agg cells)) w) : wpList P ops Q (o :: rest) a w :=
  wpList_plain hg fun _ hK => wp_build t parts ho (by rw [hf]; rfl) (hK _ _ (by rw [hf]; exact h))

/-- An operation that is begun. -/
def opN (kind : Nat) : Opm := ⟨kind, .empty, 0, 0, 0, 0, fun _ => 0, fun _ => 0, [], false, 0, .empty, 0, false, 0⟩
def opS (kind : Nat) (k : ByteArray) : Opm := ⟨kind, k, 0, 0, 1, 7, fun _ => 0, fun _ => 0, [], false, 0, .empty, 0, false, 0⟩
abbrev nilv : Value := .slice none 0 0
section
variable {w w' : World} {ob : Nat} {lp cv : Value} {o : Opm}
set_option maxHeartbeats 1000000 in
theorem Om.setKey (h : Om w ob lp cv o) (k : ByteArray) : Om (w.setCells ob 2 (kC k).toList) ob lp cv { o with k := k } := by
  have h1 := run_storeCells_at Tryd.prog ob 2 82 (kC k).toList 0 (opL lp cv o) w h (by show 2 + 0 + 17 ≤ 62; omega) (kC_one k)
  have h2 := run_storeCells_cells (P := Tryd.prog) ob 2 (kC k).toList 0 w (fun j hj => by
      have hj2 : j < 17 := hj
      rw [h.cell, Array.getElem?_eq_getElem (by show _ < 62; omega)]; rfl) (fun j hj => h.free _) (kC_one k)
  have e := (Result.ok.inj (h2.symm.trans h1)).2
  rw [Nat.add_zero] at e
  rw [e]
  unfold Om
  rw [setRow_heap _ _ _ _ _ _ h]
  rfl
theorem Om.there2 (h : Om w ob lp cv o) : w.there ob 2 17 := fun j hj => ⟨by
    rw [h.cell, Array.getElem?_eq_getElem (by show _ < 62; omega)]; rfl, h.free _⟩
theorem opN_new (w : World) (lp : Value) (kind : Nat) : Om (w.alloc (.cells (opL lp nilv (opN kind)) 82)) w.heap.size lp nilv (opN kind) := heap_alloc_new _ _

set_option maxRecDepth 100000 in
set_option maxHeartbeats 4000000 in
/-- begin, of no list. -/
theorem begin_nil (w : World) (kind : Nat) (k : ByteArray) :
    Calls Tryd.prog 37 #[.pointer none, .int .i64 (kind : Int), .string k] w fun e w' => e = .returned (.pointer (some ⟨w.heap.size, 0, none⟩)) ∧ Om w' w.heap.size (.pointer none) nilv (opN kind) ∧ Below w.heap.size w w' := by
  obtain ⟨W, hW⟩ : ∃ W, W = w.alloc (.cells #[.pointer none, .int .i64 (kind : Int), .int .u8 0, .int .u8 0, .int .u8 0, .int .u8 0, .int .u8 0, .int .u8 0, .int .u8 0, .int .u8 0, .int .u8 0, .int .u8 0, .int .u8 0, .int .u8 0, .int .u8 0, .int .u8 0, .int .u8 0, .int .u8 0, .int .u8 0, .int .i64 0, .int .i64 0, .int .i64 0, .int .i64 0, .int .i64 0, .int .u64 0, .int .i64 0, .int .u64 0, .int .i64 0, .int .u64 0, .int .i64 0, .int .u64 0, .int .i64 0, .int .u64 0, .int .i64 0, .int .u64 0, .int .i64 0, .int .u64 0, .int .i64 0, .int .u64 0, .slice none 0 0, .bool false, .int .i64 0, .int .u8 0, .int .u8 0, .int .u8 0, .int .u8 0, .int .u8 0, .int .u8 0, .int .u8 0, .int .u8 0, .int .u8 0, .int .u8 0, .int .u8 0, .int .u8 0, .int .u8 0, .int .u8 0, .int .u8 0, .int .u8 0, .int .u8 0, .int .i64 0, .bool false, .int .i64 0] 82) := ⟨_, rfl⟩
  have hlit : opL (.pointer none) nilv (opN kind) = #[.pointer none, .int .i64 (kind : Int), .int .u8 0, .int .u8 0, .int .u8 0, .int .u8 0, .int .u8 0, .int .u8 0, .int .u8 0, .int .u8 0, .int .u8 0, .int .u8 0, .int .u8 0, .int .u8 0, .int .u8 0, .int .u8 0, .int .u8 0, .int .u8 0, .int .u8 0, .int .i64 0, .int .i64 0, .int .i64 0, .int .i64 0, .int .i64 0, .int .u64 0, .int .i64 0, .int .u64 0, .int .i64 0, .int .u64 0, .int .i64 0, .int .u64 0, .int .i64 0, .int .u64 0, .int .i64 0, .int .u64 0, .int .i64 0, .int .u64 0, .int .i64 0, .int .u64 0, .slice none 0 0, .bool false, .int .i64 0, .int .u8 0, .int .u8 0, .int .u8 0, .int .u8 0, .int .u8 0, .int .u8 0, .int .u8 0, .int .u8 0, .int .u8 0, .int .u8 0, .int .u8 0, .int .u8 0, .int .u8 0, .int .u8 0, .int .u8 0, .int .u8 0, .int .u8 0, .int .i64 0, .bool false, .int .i64 0] := by kernel_rfl
  have hO : Om W w.heap.size (.pointer none) nilv (opN kind) := by rw [hW]; unfold Om; rw [hlit]; exact heap_alloc_new _ _
  have hB : Below w.heap.size w W := by rw [hW]; exact (Below.refl _ w).alloc (Nat.le_refl _) _
  have HN := hide2 (isNone_nil W)
  have HO := hide2 hO
  have HB := hide2 hB
  clear hO hB
  have HW := hide2 hW
  clear hW hlit
  go_enter Tryd.func37, Tryd.ntmps37
  go_wp2_with fail
  rw [← HW.out]
  clear HW
  refine HN.out.mono ?_
  rintro e w1 ⟨rfl, rfl⟩
  go_wp2
  go_ret
  exact ⟨rfl, HO.out, HB.out⟩
end

section
variable {w w' : World} {K B : Nat → Prop} {lb d g gt tc : Nat} {sv : Value} {T : List Bool} {N : List Int} {m : Int} {F : List Nat} {s : Sl}
set_option maxRecDepth 100000 in
set_option maxHeartbeats 4000000 in
/-- begin, of a key that may not be. -/
theorem begin_bad (h : Lm w K lb d g gt tc sv T N m F s) (hn : 1 ≤ s.tw.length) (kind : Nat) (hk1 : kind ≠ 1) (k : ByteArray) (hk : k.size ≤ maxLen) (hg : good k = false) :
    Calls Tryd.prog 37 #[.pointer (some ⟨lb, 0, none⟩), .int .i64 (kind : Int), .string k] w fun e w' => e = .returned (.pointer (some ⟨w.heap.size, 0, none⟩)) ∧ Om w' w.heap.size (lpp lb) nilv (opN kind) ∧ Below w.heap.size w w' := by
  obtain ⟨W, hW⟩ : ∃ W, W = w.alloc (.cells #[.pointer (some ⟨lb, 0, none⟩), .int .i64 (kind : Int), .int .u8 0, .int .u8 0, .int .u8 0, .int .u8 0, .int .u8 0, .int .u8 0, .int .u8 0, .int .u8 0, .int .u8 0, .int .u8 0, .int .u8 0, .int .u8 0, .int .u8 0, .int .u8 0, .int .u8 0, .int .u8 0, .int .u8 0, .int .i64 0, .int .i64 0, .int .i64 0, .int .i64 0, .int .i64 0, .int .u64 0, .int .i64 0, .int .u64 0, .int .i64 0, .int .u64 0, .int .i64 0, .int .u64 0, .int .i64 0, .int .u64 0, .int .i64 0, .int .u64 0, .int .i64 0, .int .u64 0, .int .i64 0, .int .u64 0, .slice none 0 0, .bool false, .int .i64 0, .int .u8 0, .int .u8 0, .int .u8 0, .int .u8 0, .int .u8 0, .int .u8 0, .int .u8 0, .int .u8 0, .int .u8 0, .int .u8 0, .int .u8 0, .int .u8 0, .int .u8 0, .int .u8 0, .int .u8 0, .int .u8 0, .int .u8 0, .int .i64 0, .bool false, .int .i64 0] 82) := ⟨_, rfl⟩
  have hlit : opL (lpp lb) nilv (opN kind) = #[.pointer (some ⟨lb, 0, none⟩), .int .i64 (kind : Int), .int .u8 0, .int .u8 0, .int .u8 0, .int .u8 0, .int .u8 0, .int .u8 0, .int .u8 0, .int .u8 0, .int .u8 0, .int .u8 0, .int .u8 0, .int .u8 0, .int .u8 0, .int .u8 0, .int .u8 0, .int .u8 0, .int .u8 0, .int .i64 0, .int .i64 0, .int .i64 0, .int .i64 0, .int .i64 0, .int .u64 0, .int .i64 0, .int .u64 0, .int .i64 0, .int .u64 0, .int .i64 0, .int .u64 0, .int .i64 0, .int .u64 0, .int .i64 0, .int .u64 0, .int .i64 0, .int .u64 0, .int .i64 0, .int .u64 0, .slice none 0 0, .bool false, .int .i64 0, .int .u8 0, .int .u8 0, .int .u8 0, .int .u8 0, .int .u8 0, .int .u8 0, .int .u8 0, .int .u8 0, .int .u8 0, .int .u8 0, .int .u8 0, .int .u8 0, .int .u8 0, .int .u8 0, .int .u8 0, .int .u8 0, .int .u8 0, .int .i64 0, .bool false, .int .i64 0] := by kernel_rfl
  have hO : Om W w.heap.size (lpp lb) nilv (opN kind) := by rw [hW]; unfold Om; rw [hlit]; exact heap_alloc_new _ _
  have hB : Below w.heap.size w W := by rw [hW]; exact (Below.refl _ w).alloc (Nat.le_refl _) _
  have HN := hide2 ((h.below hB).isNone hn)
  have HM := hide2 (mayBe_any k hk W)
  rw [hg] at HM
  have HO := hide2 hO
  have HB := hide2 hB
  have d1 : ((kind : Int) == 1) = false := by rw [beq_eq_false_iff_ne]; omega
  have d2 : ¬ (kind : Int) = 1 := by omega
  clear hO hB h hg hk1
  have HW := hide2 hW
  clear hW hlit
  go_enter Tryd.func37, Tryd.ntmps37
  go_wp2_with fail
  rw [← HW.out]
  clear HW
  refine HN.out.mono ?_
  rintro e w1 ⟨rfl, rfl⟩
  go_wp2_with fail
  refine HM.out.mono ?_
  rintro e w2 ⟨rfl, rfl⟩
  go_wp2
  go_ret
  exact ⟨rfl, HO.out, HB.out⟩

set_option maxRecDepth 100000 in
set_option maxHeartbeats 4000000 in
theorem begin_good (h : Lm w K lb d g gt tc sv T N m F s) (hn : 1 ≤ s.tw.length) (kind : Nat) (k : ByteArray) (hk : k.size ≤ maxLen) (hk1 : kind ≠ 1) (hg : good k = true) :
    Calls Tryd.prog 37 #[.pointer (some ⟨lb, 0, none⟩), .int .i64 (kind : Int), .string k] w fun e w' => e = .returned (.pointer (some ⟨w.heap.size, 0, none⟩)) ∧ Om w' w.heap.size (lpp lb) nilv (opS kind k) ∧ Below w.heap.size w w' := by
  obtain ⟨W, hW⟩ : ∃ W, W = w.alloc (.cells #[.pointer (some ⟨lb, 0, none⟩), .int .i64 (kind : Int), .int .u8 0, .int .u8 0, .int .u8 0, .int .u8 0, .int .u8 0, .int .u8 0, .int .u8 0, .int .u8 0, .int .u8 0, .int .u8 0, .int .u8 0, .int .u8 0, .int .u8 0, .int .u8 0, .int .u8 0, .int .u8 0, .int .u8 0, .int .i64 0, .int .i64 0, .int .i64 0, .int .i64 0, .int .i64 0, .int .u64 0, .int .i64 0, .int .u64 0, .int .i64 0, .int .u64 0, .int .i64 0, .int .u64 0, .int .i64 0, .int .u64 0, .int .i64 0, .int .u64 0, .int .i64 0, .int .u64 0, .int .i64 0, .int .u64 0, .slice none 0 0, .bool false, .int .i64 0, .int .u8 0, .int .u8 0, .int .u8 0, .int .u8 0, .int .u8 0, .int .u8 0, .int .u8 0, .int .u8 0, .int .u8 0, .int .u8 0, .int .u8 0, .int .u8 0, .int .u8 0, .int .u8 0, .int .u8 0, .int .u8 0, .int .u8 0, .int .i64 0, .bool false, .int .i64 0] 82) := ⟨_, rfl⟩
  have hlit : opL (lpp lb) nilv (opN kind) = #[.pointer (some ⟨lb, 0, none⟩), .int .i64 (kind : Int), .int .u8 0, .int .u8 0, .int .u8 0, .int .u8 0, .int .u8 0, .int .u8 0, .int .u8 0, .int .u8 0, .int .u8 0, .int .u8 0, .int .u8 0, .int .u8 0, .int .u8 0, .int .u8 0, .int .u8 0, .int .u8 0, .int .u8 0, .int .i64 0, .int .i64 0, .int .i64 0, .int .i64 0, .int .i64 0, .int .u64 0, .int .i64 0, .int .u64 0, .int .i64 0, .int .u64 0, .int .i64 0, .int .u64 0, .int .i64 0, .int .u64 0, .int .i64 0, .int .u64 0, .int .i64 0, .int .u64 0, .int .i64 0, .int .u64 0, .slice none 0 0, .bool false, .int .i64 0, .int .u8 0, .int .u8 0, .int .u8 0, .int .u8 0, .int .u8 0, .int .u8 0, .int .u8 0, .int .u8 0, .int .u8 0, .int .u8 0, .int .u8 0, .int .u8 0, .int .u8 0, .int .u8 0, .int .u8 0, .int .u8 0, .int .u8 0, .int .i64 0, .bool false, .int .i64 0] := by kernel_rfl
  have hO : Om W w.heap.size (lpp lb) nilv (opN kind) := by rw [hW]; unfold Om; rw [hlit]; exact heap_alloc_new _ _
  have hB : Below w.heap.size w W := by rw [hW]; exact (Below.refl _ w).alloc (Nat.le_refl _) _
  have hWs : W.heap.size = w.heap.size + 1 := by rw [hW]; simp
  have HN := hide2 ((h.below hB).isNone hn)
  have HK := hide2 (keyOf_any k hk W)
  have HO := hide2 hO
  have HB := hide2 hB
  have HM := hide2 (mayBe_any k hk W)
  rw [hg] at HM
  have d1 : ((kind : Int) == 1) = false := by rw [beq_eq_false_iff_ne]; omega
  have d2 : ¬ (kind : Int) = 1 := by omega
  clear hk1 hg
  clear hO hB h
  have HW := hide2 hW
  clear hW hlit
  go_enter Tryd.func37, Tryd.ntmps37
  go_wp2_with fail
  rw [← HW.out]
  clear HW
  refine HN.out.mono ?_
  rintro e w1 ⟨rfl, rfl⟩
  go_wp2_with fail
  refine HM.out.mono ?_
  rintro e w2 ⟨rfl, rfl⟩
  go_wp2_with fail
  refine HK.out.mono ?_
  rintro e w3 ⟨rfl, hb3⟩
  have o3 : Om w3 w.heap.size (lpp lb) nilv (opN kind) := HO.out.fr (Fr.below (F := fun _ => False) hb3) (fun e => e)
  obtain ⟨w4, hw4⟩ : ∃ y, y = w3.setCells w.heap.size 2 (kC k).toList := ⟨_, rfl⟩
  have o4 : Om w4 w.heap.size (lpp lb) nilv { opN kind with k := k } := by rw [hw4]; exact o3.setKey k
  have T3 := hide2 o3.there2
  have c21 := o4.cells.2.2.2.2.1
  have f21 := o4.free 21
  have c22 := o4.cells.2.2.2.2.2.1
  have f22 := o4.free 22
  have hl4 := o4.lt
  have O4 : Hid (Om ((w4.setCell ⟨w.heap.size, 21, none⟩ (.int .i64 1)).setCell ⟨w.heap.size, 22, none⟩ (.int .i64 7)) w.heap.size (lpp lb) nilv (opS kind k)) := hide2 ((o4.setSt 1).setLv 7)
  have B4 : Hid (Below w.heap.size w ((w4.setCell ⟨w.heap.size, 21, none⟩ (.int .i64 1)).setCell ⟨w.heap.size, 22, none⟩ (.int .i64 7))) := hide2 (by
    have b3 : Below w.heap.size w w3 := HB.out.trans (hb3.mono (by omega))
    have f4 : Fr (fun j => j = w.heap.size) w3 w4 := by rw [hw4]; exact fr_setCells
    have f5 := Fr.setCell (p := ⟨w.heap.size, 22, none⟩) (Fr.setCell (p := ⟨w.heap.size, 21, none⟩) f4 (.inl rfl) (.int .i64 1)) (.inl rfl) (.int .i64 7)
    exact b3.trans (f5.to (fun j hj e => by omega) b3.size))
  clear o3 o4 hb3
  have HSZ : Hid ((Tryd.prog.info? 72).map (·.size) = some (kC k).size) := hide2 (by kernel_rfl)
  have HW4 := hide2 hw4
  clear hw4
  go_wp2_with (first
    | (refine wpList_store_mid rfl 72 (Operand.tmp 29) (Operand.tmp 27) rfl w.heap.size 2 (kC k) rfl rfl ?_ ?_ (kC_all k) ?_
       · exact T3.out
       · exact HSZ.out
       rw [← HW4.out]))
  go_wp2
  go_ret
  exact ⟨rfl, O4.out, B4.out⟩

set_option maxRecDepth 100000 in
set_option maxHeartbeats 4000000 in
theorem begin_next (h : Lm w K lb d g gt tc sv T N m F s) (hn : 1 ≤ s.tw.length) (k : ByteArray) (hk : k.size ≤ maxLen)  :
    Calls Tryd.prog 37 #[.pointer (some ⟨lb, 0, none⟩), .int .i64 1, .string k] w fun e w' => e = .returned (.pointer (some ⟨w.heap.size, 0, none⟩)) ∧ Om w' w.heap.size (lpp lb) nilv (opS 1 k) ∧ Below w.heap.size w w' := by
  obtain ⟨W, hW⟩ : ∃ W, W = w.alloc (.cells #[.pointer (some ⟨lb, 0, none⟩), .int .i64 1, .int .u8 0, .int .u8 0, .int .u8 0, .int .u8 0, .int .u8 0, .int .u8 0, .int .u8 0, .int .u8 0, .int .u8 0, .int .u8 0, .int .u8 0, .int .u8 0, .int .u8 0, .int .u8 0, .int .u8 0, .int .u8 0, .int .u8 0, .int .i64 0, .int .i64 0, .int .i64 0, .int .i64 0, .int .i64 0, .int .u64 0, .int .i64 0, .int .u64 0, .int .i64 0, .int .u64 0, .int .i64 0, .int .u64 0, .int .i64 0, .int .u64 0, .int .i64 0, .int .u64 0, .int .i64 0, .int .u64 0, .int .i64 0, .int .u64 0, .slice none 0 0, .bool false, .int .i64 0, .int .u8 0, .int .u8 0, .int .u8 0, .int .u8 0, .int .u8 0, .int .u8 0, .int .u8 0, .int .u8 0, .int .u8 0, .int .u8 0, .int .u8 0, .int .u8 0, .int .u8 0, .int .u8 0, .int .u8 0, .int .u8 0, .int .u8 0, .int .i64 0, .bool false, .int .i64 0] 82) := ⟨_, rfl⟩
  have hlit : opL (lpp lb) nilv (opN 1) = #[.pointer (some ⟨lb, 0, none⟩), .int .i64 1, .int .u8 0, .int .u8 0, .int .u8 0, .int .u8 0, .int .u8 0, .int .u8 0, .int .u8 0, .int .u8 0, .int .u8 0, .int .u8 0, .int .u8 0, .int .u8 0, .int .u8 0, .int .u8 0, .int .u8 0, .int .u8 0, .int .u8 0, .int .i64 0, .int .i64 0, .int .i64 0, .int .i64 0, .int .i64 0, .int .u64 0, .int .i64 0, .int .u64 0, .int .i64 0, .int .u64 0, .int .i64 0, .int .u64 0, .int .i64 0, .int .u64 0, .int .i64 0, .int .u64 0, .int .i64 0, .int .u64 0, .int .i64 0, .int .u64 0, .slice none 0 0, .bool false, .int .i64 0, .int .u8 0, .int .u8 0, .int .u8 0, .int .u8 0, .int .u8 0, .int .u8 0, .int .u8 0, .int .u8 0, .int .u8 0, .int .u8 0, .int .u8 0, .int .u8 0, .int .u8 0, .int .u8 0, .int .u8 0, .int .u8 0, .int .u8 0, .int .i64 0, .bool false, .int .i64 0] := by kernel_rfl
  have hO : Om W w.heap.size (lpp lb) nilv (opN 1) := by rw [hW]; unfold Om; rw [hlit]; exact heap_alloc_new _ _
  have hB : Below w.heap.size w W := by rw [hW]; exact (Below.refl _ w).alloc (Nat.le_refl _) _
  have hWs : W.heap.size = w.heap.size + 1 := by rw [hW]; simp
  have HN := hide2 ((h.below hB).isNone hn)
  have HK := hide2 (keyOf_any k hk W)
  have HO := hide2 hO
  have HB := hide2 hB
  clear hO hB h
  have HW := hide2 hW
  clear hW hlit
  go_enter Tryd.func37, Tryd.ntmps37
  go_wp2_with fail
  rw [← HW.out]
  clear HW
  refine HN.out.mono ?_
  rintro e w1 ⟨rfl, rfl⟩
  go_wp2_with fail
  refine HK.out.mono ?_
  rintro e w3 ⟨rfl, hb3⟩
  have o3 : Om w3 w.heap.size (lpp lb) nilv (opN 1) := HO.out.fr (Fr.below (F := fun _ => False) hb3) (fun e => e)
  obtain ⟨w4, hw4⟩ : ∃ y, y = w3.setCells w.heap.size 2 (kC k).toList := ⟨_, rfl⟩
  have o4 : Om w4 w.heap.size (lpp lb) nilv { opN 1 with k := k } := by rw [hw4]; exact o3.setKey k
  have T3 := hide2 o3.there2
  have c21 := o4.cells.2.2.2.2.1
  have f21 := o4.free 21
  have c22 := o4.cells.2.2.2.2.2.1
  have f22 := o4.free 22
  have hl4 := o4.lt
  have O4 : Hid (Om ((w4.setCell ⟨w.heap.size, 21, none⟩ (.int .i64 1)).setCell ⟨w.heap.size, 22, none⟩ (.int .i64 7)) w.heap.size (lpp lb) nilv (opS 1 k)) := hide2 ((o4.setSt 1).setLv 7)
  have B4 : Hid (Below w.heap.size w ((w4.setCell ⟨w.heap.size, 21, none⟩ (.int .i64 1)).setCell ⟨w.heap.size, 22, none⟩ (.int .i64 7))) := hide2 (by
    have b3 : Below w.heap.size w w3 := HB.out.trans (hb3.mono (by omega))
    have f4 : Fr (fun j => j = w.heap.size) w3 w4 := by rw [hw4]; exact fr_setCells
    have f5 := Fr.setCell (p := ⟨w.heap.size, 22, none⟩) (Fr.setCell (p := ⟨w.heap.size, 21, none⟩) f4 (.inl rfl) (.int .i64 1)) (.inl rfl) (.int .i64 7)
    exact b3.trans (f5.to (fun j hj e => by omega) b3.size))
  clear o3 o4 hb3
  have HSZ : Hid ((Tryd.prog.info? 72).map (·.size) = some (kC k).size) := hide2 (by kernel_rfl)
  have HW4 := hide2 hw4
  clear hw4
  go_wp2_with (first
    | (refine wpList_store_mid rfl 72 (Operand.tmp 29) (Operand.tmp 27) rfl w.heap.size 2 (kC k) rfl rfl ?_ ?_ (kC_all k) ?_
       · exact T3.out
       · exact HSZ.out
       rw [← HW4.out]))
  go_wp2
  go_ret
  exact ⟨rfl, O4.out, B4.out⟩
end
end

section
open Go.RowKit Go.Maps

/-- A tower's height. -/
def hgt (h : Int) : Nat := (min (max h 1) 8).toNat
theorem hgt_int (h : Int) : ((hgt h : Nat) : Int) = min (max h 1) 8 := by unfold hgt; omega
theorem hgt_bd (h : Int) : 1 ≤ hgt h ∧ hgt h ≤ 8 := by unfold hgt; omega

section
variable {w w' : World} {ob : Nat} {lp cv : Value} {o : Opm}
set_option maxHeartbeats 1000000 in
theorem lookup_raw {lp : Value} {k : ByteArray} {R : World → Prop} {v : Value} (hl : lp = .pointer none ∨ ∃ lb, lp = lpp lb) (hC : Calls Tryd.prog 37 #[lp, .int .i64 0, .string k] w fun e w' => e = .returned v ∧ R w') :
    Calls Tryd.prog 26 #[lp, .string k] w fun e w' => e = .returned v ∧ R w' := by
  have HC := hide2 hC
  clear hC
  go_enter Tryd.func26, Tryd.ntmps26
  go_wp2_with fail
  refine HC.out.mono ?_
  rintro e w1 ⟨rfl, hR⟩
  have HR := hide2 hR
  clear hR
  go_wp2
  go_ret
  exact ⟨rfl, HR.out⟩
set_option maxHeartbeats 1000000 in
theorem next_raw {lp : Value} {k : ByteArray} {R : World → Prop} {v : Value} (hC : Calls Tryd.prog 37 #[lp, .int .i64 1, .string k] w fun e w' => e = .returned v ∧ R w') :
    Calls Tryd.prog 28 #[lp, .string k] w fun e w' => e = .returned v ∧ R w' := by
  have HC := hide2 hC
  clear hC
  go_enter Tryd.func28, Tryd.ntmps28
  go_wp2_with fail
  refine HC.out.mono ?_
  rintro e w1 ⟨rfl, hR⟩
  have HR := hide2 hR
  clear hR
  go_wp2
  go_ret
  exact ⟨rfl, HR.out⟩
set_option maxHeartbeats 2000000 in
theorem insert_raw {lp : Value} {k : ByteArray} {ref height : Int} {o1 : Opm} (hC : Calls Tryd.prog 37 #[lp, .int .i64 2, .string k] w fun e w' => e = .returned (.pointer (some ⟨w.heap.size, 0, none⟩)) ∧ Om w' w.heap.size lp nilv o1 ∧ Below w.heap.size w w') :
    Calls Tryd.prog 27 #[lp, .string k, .int .i64 ref, .int .i64 height] w fun e w' => e = .returned (.pointer (some ⟨w.heap.size, 0, none⟩)) ∧ Om w' w.heap.size lp nilv { o1 with r := ref, h := hgt height } ∧ Below w.heap.size w w' := by
  have HC := hide2 hC
  clear hC
  go_enter Tryd.func27, Tryd.ntmps27
  go_wp2_with fail
  refine HC.out.mono ?_
  rintro e w1 ⟨rfl, h1, hb⟩
  have c19 := h1.cells.2.2.1
  have c20 := h1.cells.2.2.2.1
  have f19 := h1.free 19
  have f20 := h1.free 20
  have hl1 := h1.lt
  have x2 : Om ((w1.setCell ⟨w.heap.size, 19, none⟩ (.int .i64 ref)).setCell ⟨w.heap.size, 20, none⟩ (.int .i64 (min (max height 1) 8))) w.heap.size lp nilv { o1 with r := ref, h := hgt height } := by
    rw [← hgt_int]
    exact (h1.setRef ref).setH (hgt height)
  have b2 : Below w.heap.size w ((w1.setCell ⟨w.heap.size, 19, none⟩ (.int .i64 ref)).setCell ⟨w.heap.size, 20, none⟩ (.int .i64 (min (max height 1) 8))) := (hb.setCell (p := ⟨w.heap.size, 19, none⟩) (Nat.le_refl _) _).setCell (p := ⟨w.heap.size, 20, none⟩) (Nat.le_refl _) _
  have X2 := hide2 x2
  have B2 := hide2 b2
  clear h1 hb x2 b2 HC
  go_wp2
  go_ret
  exact ⟨rfl, X2.out, B2.out⟩

set_option maxHeartbeats 2000000 in
theorem refuse_nil (h : Om w ob (.pointer none) cv o) :
    Calls Tryd.prog 42 #[.pointer (some ⟨ob, 0, none⟩)] w fun e w' => e = .returned (.tuple #[]) ∧ Om w' ob (.pointer none) cv { o with code := 1, st := 5 } ∧ Fr (fun j => j = ob) w w' := by
  have c0 := h.cells.1
  have c21 := h.cells.2.2.2.2.1
  have c61 := h.cells.2.2.2.2.2.2.2.2.2.2.2
  have f21 := h.free 21
  have f61 := h.free 61
  have hl := h.lt
  have H := hide2 h
  clear h
  go_enter Tryd.func42, Tryd.ntmps42
  go_wp2_with fail
  refine (isNone_nil _).mono ?_
  rintro e w1 ⟨rfl, rfl⟩
  go_wp2
  go_end0
  refine ⟨rfl, ((H.out.setCode 100).setSt 5).setCode 1, ?_⟩
  exact ((((Fr.refl (fun j => j = ob) w).setCell (p := ⟨ob, 61, none⟩) (.inl rfl) _).setCell (p := ⟨ob, 21, none⟩) (.inl rfl) _).setCell (p := ⟨ob, 61, none⟩) (.inl rfl) _)

set_option maxHeartbeats 1000000 in
theorem ref_nil (w : World) : Calls Tryd.prog 14 #[.pointer none] w fun e w' => e = .returned (.tuple #[.string .empty, .int .i64 0, .bool false, .int .i64 1]) ∧ w' = w := by
  go_enter Tryd.func14, Tryd.ntmps14
  go_wp2
  exact bodyPost_ret (v := .tuple #[.string .empty, .int .i64 0, .bool false, .int .i64 1]) (by simp [results, Tryd.results14, go_sem] <;> rfl) rfl ⟨rfl, rfl⟩
set_option maxHeartbeats 1000000 in
theorem ref_early (h : Om w ob lp cv o) (hst : o.st ≠ 5) : Calls Tryd.prog 14 #[.pointer (some ⟨ob, 0, none⟩)] w fun e w' => e = .returned (.tuple #[.string .empty, .int .i64 0, .bool false, .int .i64 2]) ∧ w' = w := by
  have c21 := h.cells.2.2.2.2.1
  have d1 : ((o.st : Int) == 5) = false := by rw [beq_eq_false_iff_ne]; omega
  have d2 : ¬ (o.st : Int) = 5 := by omega
  clear h hst
  go_enter Tryd.func14, Tryd.ntmps14
  go_wp2
  exact bodyPost_ret (v := .tuple #[.string .empty, .int .i64 0, .bool false, .int .i64 2]) (by simp [results, Tryd.results14, go_sem] <;> rfl) rfl ⟨rfl, rfl⟩
set_option maxHeartbeats 1000000 in
theorem ostep_nil (w : World) : Calls Tryd.prog 20 #[.pointer none] w fun e w' => e = .returned (.bool true) ∧ w' = w := by
  go_enter Tryd.func20, Tryd.ntmps20
  go_wp2
  go_ret
  exact ⟨rfl, rfl⟩
set_option maxHeartbeats 1000000 in
theorem ostep_done (h : Om w ob lp cv o) (hst : o.st = 5) : Calls Tryd.prog 20 #[.pointer (some ⟨ob, 0, none⟩)] w fun e w' => e = .returned (.bool true) ∧ w' = w := by
  have c21 := h.cells.2.2.2.2.1
  rw [hst] at c21
  clear h hst
  go_enter Tryd.func20, Tryd.ntmps20
  go_wp2
  go_ret
  exact ⟨rfl, rfl⟩

set_option maxRecDepth 100000 in
set_option maxHeartbeats 4000000 in
theorem ref_done (h : Om w ob lp cv o) (hst : o.st = 5) (hk : o.fk.size ≤ 16) : Calls Tryd.prog 14 #[.pointer (some ⟨ob, 0, none⟩)] w fun e w' => e = .returned (.tuple #[.string o.fk, .int .i64 o.nm, .bool o.had, .int .i64 o.code]) ∧ Below w.heap.size w w' := by
  have c21 := h.cells.2.2.2.2.1
  rw [hst] at c21
  have s2 := h.cells.2.2.2.2.2.2.2.2.2.1
  have s3 := h.cells.2.2.2.2.2.2.2.2.2.2.1
  have s4 := h.cells.2.2.2.2.2.2.2.2.2.2.2
  have s1 := h.foundAt
  have hl := h.lt
  have HT : Hid (Calls Tryd.prog 32 #[.agg (kC o.fk)] w.drew fun e w' => e = .returned (.string o.fk) ∧ Below w.heap.size w w') := hide2 ((text_any o.fk hk w.drew).mono (by
    rintro e w' ⟨rfl, q⟩
    exact ⟨rfl, (below_drewN _ w 1).trans q⟩))
  clear h hst
  go_enter Tryd.func14, Tryd.ntmps14
  go_wp2_with fail
  refine wp_region_noPanic ?_
  refine wp_region_held_drew (S := (fun u : World => u.rangeAt ob 42 (kC o.fk).toList ∧ u.cell? ⟨ob, 59, none⟩ = some (.int .i64 o.nm) ∧ u.cell? ⟨ob, 60, none⟩ = some (.bool o.had) ∧ u.cell? ⟨ob, 61, none⟩ = some (.int .i64 o.code))) (by kernel_rfl) (⟨s1, s2, s3, s4⟩) (fun hHeld => ?_)
  refine wpAnyH_take (i := 0) (oi := { dst := some 13, op := _, type := _, pos := _, after := _, guard := _ }) (v := ?_) rfl (by kernel_rfl) (by kernel_rfl) (by kernel_rfl) (fun _ _ _ h => h) (Or.inl ⟨by rfl, ?_⟩) (by assumption) ?_
  rotate_left 1
  · intro u hSw; obtain ⟨s1, s2, s3, s4⟩ := hSw; go_simp; try with_reducible rfl
  try simp only [Act.put, List.setIfInBounds_toArray, List.set_cons_zero, List.set_cons_succ]
  refine wpAnyH_take (i := 1) (oi := { dst := some 14, op := _, type := _, pos := _, after := _, guard := _ }) (v := ?_) rfl (by kernel_rfl) (by kernel_rfl) (by kernel_rfl) (fun _ _ _ h => h) (Or.inl ⟨by rfl, ?_⟩) (by assumption) ?_
  rotate_left 1
  · intro u hSw; obtain ⟨s1, s2, s3, s4⟩ := hSw; go_simp; try with_reducible rfl
  try simp only [Act.put, List.setIfInBounds_toArray, List.set_cons_zero, List.set_cons_succ]
  refine wpAnyH_take (i := 2) (oi := { dst := some 15, op := _, type := _, pos := _, after := _, guard := _ }) (v := ?_) rfl (by kernel_rfl) (by kernel_rfl) (by kernel_rfl) (fun _ _ _ h => h) (Or.inl ⟨by rfl, ?_⟩) (by assumption) ?_
  rotate_left 1
  · intro u hSw; obtain ⟨s1, s2, s3, s4⟩ := hSw; go_simp; try with_reducible rfl
  try simp only [Act.put, List.setIfInBounds_toArray, List.set_cons_zero, List.set_cons_succ]
  refine wpAnyH_take (i := 3) (oi := { dst := some 16, op := _, type := _, pos := _, after := _, guard := _ }) (v := .agg ((kC o.fk).toList).toArray) rfl (by kernel_rfl) (by kernel_rfl) (by kernel_rfl) (fun _ _ _ h => h) (yieldsIf_load_mid (by rfl) 72 _ rfl ob 42 rfl ((kC o.fk).toList) _ (fun u hu => hu.1) Tryd.underlying72 rfl (by kernel_rfl)) (by assumption) ?_
  try simp only [Act.put, List.setIfInBounds_toArray, List.set_cons_zero, List.set_cons_succ]
  refine wpAnyH_take (i := 5) (oi := { dst := some 18, op := _, type := _, pos := _, after := _, guard := _ }) (v := ?_) rfl (by kernel_rfl) (by kernel_rfl) (by kernel_rfl) (fun _ _ _ h => h) (Or.inl ⟨by rfl, ?_⟩) (by assumption) ?_
  rotate_left 1
  · intro u hSw; obtain ⟨s1, s2, s3, s4⟩ := hSw; go_simp; try with_reducible rfl
  try simp only [Act.put, List.setIfInBounds_toArray, List.set_cons_zero, List.set_cons_succ]
  refine wpAnyH_take (i := 6) (oi := { dst := some 19, op := _, type := _, pos := _, after := _, guard := _ }) (v := ?_) rfl (by kernel_rfl) (by kernel_rfl) (by kernel_rfl) (fun _ _ _ h => h) (Or.inl ⟨by rfl, ?_⟩) (by assumption) ?_
  rotate_left 1
  · intro u hSw; obtain ⟨s1, s2, s3, s4⟩ := hSw; go_simp; try with_reducible rfl
  try simp only [Act.put, List.setIfInBounds_toArray, List.set_cons_zero, List.set_cons_succ]
  refine wpAnyH_take (i := 7) (oi := { dst := some 20, op := _, type := _, pos := _, after := _, guard := _ }) (v := ?_) rfl (by kernel_rfl) (by kernel_rfl) (by kernel_rfl) (fun _ _ _ h => h) (Or.inl ⟨by rfl, ?_⟩) (by assumption) ?_
  rotate_left 1
  · intro u hSw; obtain ⟨s1, s2, s3, s4⟩ := hSw; go_simp; try with_reducible rfl
  try simp only [Act.put, List.setIfInBounds_toArray, List.set_cons_zero, List.set_cons_succ]
  refine wpAnyH_take (i := 8) (oi := { dst := some 21, op := _, type := _, pos := _, after := _, guard := _ }) (v := ?_) rfl (by kernel_rfl) (by kernel_rfl) (by kernel_rfl) (fun _ _ _ h => h) (Or.inl ⟨by rfl, ?_⟩) (by assumption) ?_
  rotate_left 1
  · intro u hSw; obtain ⟨s1, s2, s3, s4⟩ := hSw; go_simp; try with_reducible rfl
  try simp only [Act.put, List.setIfInBounds_toArray, List.set_cons_zero, List.set_cons_succ]
  refine wpAnyH_take (i := 9) (oi := { dst := some 22, op := _, type := _, pos := _, after := _, guard := _ }) (v := ?_) rfl (by kernel_rfl) (by kernel_rfl) (by kernel_rfl) (fun _ _ _ h => h) (Or.inl ⟨by rfl, ?_⟩) (by assumption) ?_
  rotate_left 1
  · intro u hSw; obtain ⟨s1, s2, s3, s4⟩ := hSw; go_simp; try with_reducible rfl
  try simp only [Act.put, List.setIfInBounds_toArray, List.set_cons_zero, List.set_cons_succ]
  refine wpAnyH_take (i := 10) (oi := { dst := some 23, op := _, type := _, pos := _, after := _, guard := _ }) (v := ?_) rfl (by kernel_rfl) (by kernel_rfl) (by kernel_rfl) (fun _ _ _ h => h) (Or.inl ⟨by rfl, ?_⟩) (by assumption) ?_
  rotate_left 1
  · intro u hSw; obtain ⟨s1, s2, s3, s4⟩ := hSw; go_simp; try with_reducible rfl
  try simp only [Act.put, List.setIfInBounds_toArray, List.set_cons_zero, List.set_cons_succ]
  refine wpAnyH_take (i := 11) (oi := { dst := some 24, op := _, type := _, pos := _, after := _, guard := _ }) (v := ?_) rfl (by kernel_rfl) (by kernel_rfl) (by kernel_rfl) (fun _ _ _ h => h) (Or.inl ⟨by rfl, ?_⟩) (by assumption) ?_
  rotate_left 1
  · intro u hSw; obtain ⟨s1, s2, s3, s4⟩ := hSw; go_simp; try with_reducible rfl
  try simp only [Act.put, List.setIfInBounds_toArray, List.set_cons_zero, List.set_cons_succ]
  refine wpAnyH_take (i := 12) (oi := { dst := some 25, op := _, type := _, pos := _, after := _, guard := _ }) (v := ?_) rfl (by kernel_rfl) (by kernel_rfl) (by kernel_rfl) (fun _ _ _ h => h) (Or.inl ⟨by rfl, ?_⟩) (by assumption) ?_
  rotate_left 1
  · intro u hSw; obtain ⟨s1, s2, s3, s4⟩ := hSw; go_simp; try with_reducible rfl
  try simp only [Act.put, List.setIfInBounds_toArray, List.set_cons_zero, List.set_cons_succ]
  refine wpAnyH_take (i := 13) (oi := { dst := some 26, op := _, type := _, pos := _, after := _, guard := _ }) (v := ?_) rfl (by kernel_rfl) (by kernel_rfl) (by kernel_rfl) (fun _ _ _ h => h) (Or.inl ⟨by rfl, ?_⟩) (by assumption) ?_
  rotate_left 1
  · intro u hSw; obtain ⟨s1, s2, s3, s4⟩ := hSw; go_simp; try with_reducible rfl
  try simp only [Act.put, List.setIfInBounds_toArray, List.set_cons_zero, List.set_cons_succ]
  refine wpAnyH_take (i := 14) (oi := { dst := some 27, op := _, type := _, pos := _, after := _, guard := _ }) (v := ?_) rfl (by kernel_rfl) (by kernel_rfl) (by kernel_rfl) (fun _ _ _ h => h) (Or.inl ⟨by rfl, ?_⟩) (by assumption) ?_
  rotate_left 1
  · intro u hSw; obtain ⟨s1, s2, s3, s4⟩ := hSw; go_simp; try with_reducible rfl
  try simp only [Act.put, List.setIfInBounds_toArray, List.set_cons_zero, List.set_cons_succ]
  refine wpAnyH_take (i := 15) (oi := { dst := some 28, op := _, type := _, pos := _, after := _, guard := _ }) (v := ?_) rfl (by kernel_rfl) (by kernel_rfl) (by kernel_rfl) (fun _ _ _ h => h) (Or.inl ⟨by rfl, ?_⟩) (by assumption) ?_
  rotate_left 1
  · intro u hSw; obtain ⟨s1, s2, s3, s4⟩ := hSw; go_simp; try with_reducible rfl
  try simp only [Act.put, List.setIfInBounds_toArray, List.set_cons_zero, List.set_cons_succ]
  refine wpAnyH_take (i := 16) (oi := { dst := some 29, op := _, type := _, pos := _, after := _, guard := _ }) (v := ?_) rfl (by kernel_rfl) (by kernel_rfl) (by kernel_rfl) (fun _ _ _ h => h) (Or.inl ⟨by rfl, ?_⟩) (by assumption) ?_
  rotate_left 1
  · intro u hSw; obtain ⟨s1, s2, s3, s4⟩ := hSw; go_simp; try with_reducible rfl
  try simp only [Act.put, List.setIfInBounds_toArray, List.set_cons_zero, List.set_cons_succ]
  refine wpAnyH_ready (rs := [4]) (by kernel_rfl) (by simp) ?_
  refine AllReadyH.cons (o := { dst := some 17, op := _, type := _, pos := _, after := _, guard := _ }) rfl (fun Kq hK => ?_) AllReadyH.nil
  obtain ⟨s1, s2, s3, s4⟩ := hHeld
  go_simp
  refine HT.out.mono ?_
  rintro e w2 ⟨rfl, b2⟩
  have t1 : w2.rangeAt ob 42 (kC o.fk).toList := fun j v hv => (b2.cell (p := ⟨ob, 42 + j, none⟩) hl).trans (s1 j v hv)
  have t2 := (b2.cell (p := ⟨ob, 59, none⟩) hl).trans s2
  have t3 := (b2.cell (p := ⟨ob, 60, none⟩) hl).trans s3
  have t4 := (b2.cell (p := ⟨ob, 61, none⟩) hl).trans s4
  have B2 := hide2 b2
  clear b2
  go_wp2_with fail
  refine hK.out _ _ (⟨t1, t2, t3, t4⟩) (fun hHeld => ?_)
  clear hK Kq
  try simp only [Act.put, List.setIfInBounds_toArray, List.set_cons_zero, List.set_cons_succ]
  refine wpAnyH_take (i := 17) (oi := { dst := some 2, op := _, type := _, pos := _, after := _, guard := _ }) (v := ?_) rfl (by kernel_rfl) (by kernel_rfl) (by kernel_rfl) (fun _ _ _ h => h) (Or.inl ⟨by rfl, ?_⟩) (by assumption) ?_
  rotate_left 1
  · intro u hSw; obtain ⟨s1, s2, s3, s4⟩ := hSw; go_simp; try with_reducible rfl
  try simp only [Act.put, List.setIfInBounds_toArray, List.set_cons_zero, List.set_cons_succ]
  refine wpAnyH_take (i := 18) (oi := { dst := some 3, op := _, type := _, pos := _, after := _, guard := _ }) (v := ?_) rfl (by kernel_rfl) (by kernel_rfl) (by kernel_rfl) (fun _ _ _ h => h) (Or.inl ⟨by rfl, ?_⟩) (by assumption) ?_
  rotate_left 1
  · intro u hSw; obtain ⟨s1, s2, s3, s4⟩ := hSw; go_simp; try with_reducible rfl
  try simp only [Act.put, List.setIfInBounds_toArray, List.set_cons_zero, List.set_cons_succ]
  refine wpAnyH_take (i := 19) (oi := { dst := some 4, op := _, type := _, pos := _, after := _, guard := _ }) (v := ?_) rfl (by kernel_rfl) (by kernel_rfl) (by kernel_rfl) (fun _ _ _ h => h) (Or.inl ⟨by rfl, ?_⟩) (by assumption) ?_
  rotate_left 1
  · intro u hSw; obtain ⟨s1, s2, s3, s4⟩ := hSw; go_simp; try with_reducible rfl
  try simp only [Act.put, List.setIfInBounds_toArray, List.set_cons_zero, List.set_cons_succ]
  refine wpAnyH_take (i := 20) (oi := { dst := some 5, op := _, type := _, pos := _, after := _, guard := _ }) (v := ?_) rfl (by kernel_rfl) (by kernel_rfl) (by kernel_rfl) (fun _ _ _ h => h) (Or.inl ⟨by rfl, ?_⟩) (by assumption) ?_
  rotate_left 1
  · intro u hSw; obtain ⟨s1, s2, s3, s4⟩ := hSw; go_simp; try with_reducible rfl
  try simp only [Act.put, List.setIfInBounds_toArray, List.set_cons_zero, List.set_cons_succ]
  refine wpAnyH_done (by kernel_rfl) ?_ _
  refine NoPanic.normal ?_
  clear hHeld
  go_wp2
  exact bodyPost_ret (v := .tuple #[.string o.fk, .int .i64 o.nm, .bool o.had, .int .i64 o.code]) (by simp [results, Tryd.results14, go_sem] <;> rfl) rfl ⟨rfl, B2.out⟩
end
end

section
open Go.RowKit Go.Maps

/-- The first k of z cells are taken; are not any more. -/
def upT (z k : Nat) : List Bool := List.replicate k true ++ List.replicate (z - k) false
def dnT (z k : Nat) : List Bool := List.replicate k false ++ List.replicate (z - k) true
theorem upT_len (z k : Nat) (h : k ≤ z) : (upT z k).length = z := by simp [upT]; omega
theorem dnT_len (z k : Nat) (h : k ≤ z) : (dnT z k).length = z := by simp [dnT]; omega
theorem upT_count (z k : Nat) : (upT z k).count true = k := by simp [upT, List.count_append, List.count_replicate]
theorem upT_at (z k j : Nat) (h : k ≤ z) (t : Bool) : (upT z k).getD j t = if j < k then true else if j < z then false else t := by
  unfold upT
  simp only [List.getD, List.getElem?_append, List.length_replicate, List.getElem?_replicate]
  by_cases h1 : j < k
  · simp [h1]
  · by_cases h2 : j < z
    · have : j - k < z - k := by omega
      simp [h1, h2, this]
    · have : ¬ j - k < z - k := by omega
      simp [h1, h2, this]
theorem dnT_at (z k j : Nat) (h : k ≤ z) (t : Bool) : (dnT z k).getD j t = if j < k then false else if j < z then true else t := by
  unfold dnT
  simp only [List.getD, List.getElem?_append, List.length_replicate, List.getElem?_replicate]
  by_cases h1 : j < k
  · simp [h1]
  · by_cases h2 : j < z
    · have : j - k < z - k := by omega
      simp [h1, h2, this]
    · have : ¬ j - k < z - k := by omega
      simp [h1, h2, this]
theorem bool_ext {L M : List Bool} (h : L.length = M.length) (he : ∀ k, L.getD k false = M.getD k false) : L = M := by
  apply List.ext_getElem h
  intro i h1 h2
  have := he i
  simpa [List.getD, List.getElem?_eq_getElem h1, List.getElem?_eq_getElem h2] using this
theorem upT_set (z k : Nat) (h : k < z) : (upT z k).set k true = upT z (k + 1) := by
  apply bool_ext (by rw [List.length_set, upT_len z k (by omega), upT_len z (k + 1) (by omega)])
  intro j
  rw [getD_set, upT_at z k j (by omega), upT_at z (k + 1) j (by omega), upT_len z k (by omega)]
  by_cases e : j = k
  · subst e; simp [h]
  · rw [if_neg (fun q => e q.1)]
    by_cases e2 : j < k
    · simp only [if_pos e2, if_pos (show j < k + 1 by omega)]
    · simp only [if_neg e2, if_neg (show ¬ j < k + 1 by omega)]
theorem dnT_set (z k : Nat) (h : k < z) : (dnT z k).set k false = dnT z (k + 1) := by
  apply bool_ext (by rw [List.length_set, dnT_len z k (by omega), dnT_len z (k + 1) (by omega)])
  intro j
  rw [getD_set, dnT_at z k j (by omega), dnT_at z (k + 1) j (by omega), dnT_len z k (by omega)]
  by_cases e : j = k
  · subst e; simp [h]
  · rw [if_neg (fun q => e q.1)]
    by_cases e2 : j < k
    · simp only [if_pos e2, if_pos (show j < k + 1 by omega)]
    · simp only [if_neg e2, if_neg (show ¬ j < k + 1 by omega)]
theorem up_dn (z : Nat) : upT z z = dnT z 0 := by simp [upT, dnT]
theorem rep_set (z k : Nat) : (List.replicate z (0 : Int)).set k 0 = List.replicate z 0 := by
  apply List.ext_getElem (by simp)
  intro i h1 h2
  simp [List.getElem_set]

section
variable {w : World} {d g z n : Nat} {m : Int} {F : List Nat}

set_option maxRecDepth 100000 in
set_option maxHeartbeats 4000000 in
theorem takeAll_any (h : Aw w d g (upT z 0) (List.replicate z 0) m F) (hT : Tab w) (hd0 : d ≠ 0) (hg0 : g ≠ 0) (hn : n ≤ 1000) :
    Calls Tryd.prog 31 #[.pointer (some ⟨d, 0, none⟩), .int .i64 (n : Int)] w fun e w' =>
      (n ≤ z → ∃ v F', e = .returned (.tuple #[v, .int .i64 0]) ∧ Hr w' w.heap.size v (List.range n) ∧ Aw w' d g (upT z n) (List.replicate z 0) m F') ∧
      (z < n → ∃ F', e = .returned (.tuple #[.slice none 0 0, .int .i64 31]) ∧ Aw w' d g (dnT z z) (List.replicate z 0) m F') ∧ Fr (fun j => j = d ∨ j = g) w w' := by
  obtain ⟨i0, hi0, z0, z1, z2⟩ := info_parts infoH
  have hdl := h.ab.lt
  have hgl := h.nb.lt
  have hz1 : z ≤ 65536 := by have := h.one.2; simpa using this
  have HT := hide2 hT
  have H := hide2 h
  clear h hT
  go_enter Tryd.func31, Tryd.ntmps31
  go_wp2
  go_loopw [6, 12] (fun v i wr => ∃ (k : Nat) (F' : List Nat), k ≤ n ∧ k ≤ z ∧ i = .int .i64 k ∧ Hid (Hr wr w.heap.size v (List.range k)) ∧ Hid (Aw wr d g (upT z k) (List.replicate z 0) m F') ∧ Hid (Fr (fun j => j = d ∨ j = g) w wr)) (fun _ i _ => n - (intOf i).toNat)
  case atStart =>
    exact ⟨0, F, by omega, by omega, rfl, hide2 ⟨rfl, .inl ⟨rfl, rfl⟩⟩, H, hide2 (Fr.refl _ w)⟩
  case round =>
    obtain ⟨k, F', hkn, hkz, rfl, HR, HA, HF⟩ := hrel
    have hsz := HF.out.size
    by_cases hk : k < n
    · have hki : (k : Int) < (n : Int) := by omega
      by_cases hkz2 : k < z
      · -- a cell is taken
        have ha := Alloc_one HA.out (HT.out.fr HF.out (by rintro (e | e); exact hd0 e.symm; exact hg0 e.symm)) k (by rw [upT_at z k k hkz]; simp [hkz2]) (fun j hj => by rw [upT_at z k j hkz, if_pos hj]) hd0 hg0
        rw [upT_set z k hkz2, rep_set] at ha
        have HAL := hide2 ha
        clear ha
        obtain ⟨ao, cap, ev⟩ := HR.out.form
        rw [List.length_range] at ev
        subst ev
        go_wp2_with fail
        refine HAL.out.mono ?_
        rintro e w1 ⟨rfl, hA1, hF1⟩
        have hr1 : Hr w1 w.heap.size (.slice ao k cap) (List.range k) := hrow_fr HR.out hF1 (fun j e => by
          have := (World.ownsRow.lt HR.out j e).1
          rintro (q | q) <;> omega)
        have HR1 : Hid (w1.ownsRow w.heap.size 3 1 (.slice ao k cap) k ((List.range k).map nv)) := hide2 (by unfold Hr at hr1; rw [List.length_range] at hr1; exact hr1)
        have HA1 := hide2 hA1
        have HF1 := hide2 (HF.out.trans hF1 (fun j e => .inl e))
        have hs1 := HF1.out.size
        have HNEW := hide2 (hcell_new w1 (.int .i64 (k : Int)) 3)
        clear HAL hA1 hF1 hr1
        go_wp2_with (at_builtin; refine Hid.out ?_)
        refine hide2 ?_
        refine wpList_append_own_at _ rfl _ _ 47 rfl w.heap.size 3 i0 (.int .i64 0) 1 8 Tryd.underlying47 hi0 z0 z1 z2 rfl (by decide) (.slice ao k cap) _ _ rfl (World.ownsRow.alloc HR1.out _) ⟨w1.heap.size, 0, none⟩ 1 1 [.int .i64 (k : Int)] rfl rfl HNEW.out (by simp [Value.oneCell']) (by unfold maxLen; omega) (by omega) (by simp; omega) ?_
        intro v' w4 hown4 hgrow4 hat4 hb4
        obtain ⟨gt, capt, ev⟩ := hrow_succ hown4
        have hFg : Fr (fun j => w.heap.size ≤ j) w1 w4 := ((Fr.refl (fun j => w.heap.size ≤ j) w1).alloc (.cells #[.int .i64 (k : Int)] 3)).trans (G := fun j => w.heap.size ≤ j) (Fr.grown hgrow4 (fun j e => (World.ownsRow.lt HR1.out j e).1)) (fun j e => .inl e)
        have HX : Hid (Hr w4 w.heap.size v' (List.range (k + 1))) := hide2 (by
          unfold Hr
          rw [List.length_range, List.range_succ, List.map_append]
          exact hown4)
        have HA4 := hide2 (HA1.out.fr hFg (by omega) (by omega))
        have HF4 := hide2 (HF1.out.trans hFg (fun j e => .inr e))
        clear hown4 hgrow4 hat4 hb4 hFg HNEW HR1 HA1
        subst ev
        go_frame
        go_wp2
        go_round
        case rel => exact ⟨k + 1, _, by omega, by omega, by go_num, HX, HA4, HF4⟩
        case measure => simp [intOf]; omega
      · -- no cell is free: all are given back
        obtain rfl : k = z := by omega
        have ha := Alloc_full HA.out (by rw [upT_count, upT_len k k (Nat.le_refl _)])
        have HAL := hide2 ha
        clear ha
        obtain ⟨ao, cap, hev, hseq⟩ := HR.out.seq
        rw [List.length_range] at hev hseq
        subst hev
        go_wp2_with fail
        refine HAL.out.mono ?_
        rintro e w1 ⟨rfl, q, hw1⟩
        have hFq : Fr (fun _ => False) wr w1 := by rw [hw1]; exact (Fr.refl _ wr).drewN q
        have HA1 := hide2 (HA.out.fr hFq id id)
        have HF1 := hide2 (HF.out.trans hFq (fun j e => e.elim))
        have hs1 := HF1.out.size
        have HQ := hide2 (hseq.keep ⟨hFq.os, hFq.tape, hFq.output, hFq.size, fun j hj => hFq.block j hj id⟩)
        have HRW := hide2 HR.out
        clear HAL hw1 hFq hseq
        go_wp2
        obtain ⟨wQ, hwQ⟩ : ∃ x, x = wr := ⟨_, rfl⟩
        subst hwQ
        go_loopw [23] (fun i wr => ∃ (j : Nat) (F2 : List Nat), j ≤ k ∧ i = .int .i64 j ∧ Hid (Aw wr d g (dnT k j) (List.replicate k 0) m F2) ∧ Hid (Fr (fun j => j = d ∨ j = g) w1 wr)) (fun i _ => k - (intOf i).toNat)
        case atStart => exact ⟨0, F', by omega, rfl, hide2 (by rw [← up_dn]; exact HA1.out), hide2 (Fr.refl _ _)⟩
        case round =>
          obtain ⟨j, F2, hjk, rfl, HA2, HF2⟩ := hrel
          have hs2 := HF2.out.size
          by_cases hj : j < k
          · have hji : (j : Int) < (k : Int) := by omega
            obtain ⟨b, off, rfl, hbl, hcell⟩ := HQ.out.2.2.2 (by omega)
            have hbb : w.heap.size ≤ b := by
              have := (World.ownsRow.lt HRW.out b rfl).1
              exact this
            have q0 : wr.cell? ⟨b, off + j, none⟩ = some (.int .i64 (j : Int)) := by
              rw [HF2.out.cell (p := ⟨b, off + j, none⟩) hbl (by show ¬ (b = d ∨ b = g); omega)]
              have := hcell j (j : Int) (by simp [List.getElem?_range hj]) 0 _ rfl
              simpa using this
            have hfr := Free_in HA2.out j (by unfold tk; rw [show (j : Int).toNat = j from rfl, dnT_at k j j hjk]; simp [hj])
            rw [dnT_set k j hj] at hfr
            have HFR := hide2 hfr
            clear hfr hcell hbl
            go_wp2_with fail
            refine HFR.out.mono ?_
            rintro e w3 ⟨rfl, hA3, hF3⟩
            have HA3 := hide2 hA3
            have HF3 := hide2 (HF2.out.trans hF3 (fun j e => .inl e))
            clear HFR hA3 hF3
            go_wp2
            go_round
            case rel => exact ⟨j + 1, _, by omega, by go_num, HA3, HF3⟩
            case measure => simp [intOf]; omega
          · obtain rfl : j = k := by omega
            go_wp2
            go_ret2
            exact ⟨fun e => absurd e (by omega), fun _ => ⟨F2, rfl, HA2.out⟩, HF1.out.trans HF2.out (fun j e => .inl e)⟩
    · obtain rfl : k = n := by omega
      go_wp2
      go_ret2
      exact ⟨fun _ => ⟨_, F', rfl, HR.out, HA.out⟩, fun e => absurd e (by omega), HF.out⟩
end
end

section
open Go.RowKit Go.Maps

/-- The head's tower; a list without keys. -/
def tH : Tw := ⟨.empty, 0, 8, 8, fun l => if l < 8 then l else 0, fun _ => 0, fun _ => 0⟩
def s0 : Sl := ⟨[tH], []⟩
theorem s0_at (i : Nat) : s0.at i = if i = 0 then tH else t0 := by
  unfold s0 Sl.at
  rcases i with _ | i
  · rfl
  · simp [List.getD]
theorem s0_ok : s0.ok := by
  have h1 : ∀ i, i < s0.tw.length → i = 0 := fun i hi => by simp [s0] at hi; exact hi
  refine ⟨by simp [s0], ?_, fun i hi => ?_, fun i h hi => ?_, fun i hi l hl => ?_, fun i hi l => ?_, fun i hi l hl hz => ?_, fun i j hi hj hij => ?_, fun i j hi hj hij => ?_⟩
  · rw [s0_at]; exact ⟨rfl, rfl, rfl, rfl⟩
  · rw [h1 i hi, s0_at]; exact ⟨by decide, by decide, by decide⟩
  · have := h1 i hi; omega
  · rw [h1 i hi, s0_at]; rfl
  · rw [h1 i hi, s0_at]; show 0 < 1; decide
  · exfalso
    apply hz
    unfold Sl.nx
    rw [h1 i hi, s0_at]; rfl
  · rw [h1 i hi, h1 j hj] at hij
    exact absurd hij Blw.irrefl
  · rw [h1 i hi, h1 j hj]
theorem s0_cells : s0.cells = List.range 8 := rfl
theorem s0_cw (z : Nat) (h3 : 8 ≤ z) : s0.cw (upT z 8) (List.replicate z 0) := by
  refine ⟨by rw [s0_cells]; exact List.nodup_range, fun c hc => ?_, ?_, by rw [upT_len z 8 h3]; simp, fun c hc => by simp [s0] at hc, fun i hi l hl => ?_⟩
  · rw [s0_cells] at hc
    have := List.mem_range.1 hc
    rw [upT_at z 8 c h3, if_pos this]
  · rw [upT_count, s0_cells]; simp
  · have h1 : i = 0 := by simp [s0] at hi; exact hi
    rw [h1, s0_at, if_pos rfl]
    show (List.replicate z (0 : Int)).getD _ 0 = 0
    simp only [List.getD, List.getElem?_replicate]
    by_cases q : tH.cs l < z
    · rw [if_pos q]; rfl
    · rw [if_neg q]; rfl

section
variable {w : World} {d g z : Nat} {m : Int} {F : List Nat}
theorem new_nil (w : World) : Calls Tryd.prog 10 #[.pointer none] w fun e w' => e = .returned (.tuple #[.pointer none, .int .i64 1]) ∧ w' = w := by
  go_enter Tryd.func10, Tryd.ntmps10
  go_wp2
  go_ret2
  exact ⟨rfl, rfl⟩
set_option maxRecDepth 100000 in
set_option maxHeartbeats 2000000 in
theorem new_full (h : Aw w d g (upT z 0) (List.replicate z 0) m F) (hT : Tab w) (hd0 : d ≠ 0) (hg0 : g ≠ 0) (h3 : z < 8) :
    Calls Tryd.prog 10 #[.pointer (some ⟨d, 0, none⟩)] w fun e w' => e = .returned (.tuple #[.pointer none, .int .i64 31]) ∧ (∃ F', Aw w' d g (dnT z z) (List.replicate z 0) m F') ∧ Fr (fun j => j = d ∨ j = g) w w' := by
  have HTA := hide2 (takeAll_any h hT hd0 hg0 (n := 8) (by omega))
  clear h hT
  go_enter Tryd.func10, Tryd.ntmps10
  go_wp2_with fail
  refine HTA.out.mono ?_
  rintro e w1 ⟨-, hB, hF⟩
  obtain ⟨F', rfl, hA⟩ := hB h3
  clear HTA
  go_wp2
  go_ret2
  exact ⟨rfl, ⟨F', hA⟩, hF⟩

set_option maxRecDepth 100000 in
set_option maxHeartbeats 4000000 in
theorem new_any (h : Aw w d g (upT z 0) (List.replicate z 0) m F) (hT : Tab w) (hd0 : d ≠ 0) (hg0 : g ≠ 0) (h3 : 8 ≤ z) :
    Calls Tryd.prog 10 #[.pointer (some ⟨d, 0, none⟩)] w fun e w' => ∃ lb K gt F', e = .returned (.tuple #[.pointer (some ⟨lb, 0, none⟩), .int .i64 0]) ∧ Lm w' K lb d g gt 1 (.slice none 0 0) (upT z 8) (List.replicate z 0) m F' s0 ∧ (∀ j, K j → j = d ∨ j = g ∨ w.heap.size ≤ j) ∧ Fr (fun j => j = d ∨ j = g) w w' := by
  have HTA := hide2 (takeAll_any h hT hd0 hg0 (n := 8) (by omega))
  have HT0 := hide2 hT
  have hdl := h.ab.lt
  have hgl := h.nb.lt
  clear h hT
  go_enter Tryd.func10, Tryd.ntmps10
  go_wp2_with fail
  refine HTA.out.mono ?_
  rintro e w1 ⟨hAA, -, hF⟩
  obtain ⟨v, F', rfl, hr, hA⟩ := hAA h3
  clear hAA
  obtain ⟨hb, hc, ev, hx⟩ := hr.at (i := 0) (by simp)
  rw [List.length_range] at ev
  clear HTA hx
  subst ev
  have hcell : ∀ j, j < 8 → w1.cell? ⟨hb, j, none⟩ = some (.int .i64 (j : Int)) := fun j hj => by
    rw [World.ownsRow.cellAt hr _ (by simp; omega)]
    simp [hj, nv]
  have k0 : w1.cell? ⟨hb, 0, none⟩ = some (.int .i64 0) := hcell 0 (by decide)
  have k1 : w1.cell? ⟨hb, 1, none⟩ = some (.int .i64 1) := hcell 1 (by decide)
  have k2 : w1.cell? ⟨hb, 2, none⟩ = some (.int .i64 2) := hcell 2 (by decide)
  have k3 : w1.cell? ⟨hb, 3, none⟩ = some (.int .i64 3) := hcell 3 (by decide)
  have k4 : w1.cell? ⟨hb, 4, none⟩ = some (.int .i64 4) := hcell 4 (by decide)
  have k5 : w1.cell? ⟨hb, 5, none⟩ = some (.int .i64 5) := hcell 5 (by decide)
  have k6 : w1.cell? ⟨hb, 6, none⟩ = some (.int .i64 6) := hcell 6 (by decide)
  have k7 : w1.cell? ⟨hb, 7, none⟩ = some (.int .i64 7) := hcell 7 (by decide)
  have hs := hF.size
  have HA := hide2 hA
  have HF := hide2 hF
  have hcap : 8 ≤ hc := by
    rcases hr.2 with ⟨e, _⟩ | ⟨g', cap', cur, e, _, _, q, _⟩
    · cases e
    · cases e; simpa using q
  clear hr hA hF hcell
  have hat : (Instr.arrayAt 70 (.slice (some ⟨hb, 0, none⟩) 8 hc)).run Tryd.prog w1 = .ok (.pointer (some ⟨hb, 0, none⟩)) w1 := by
    simp [Instr.arrayAt, run_underlying Tryd.underlying70]
  go_wp2
  go_ret2
  obtain ⟨w2, hw2⟩ : ∃ y, y = w1.alloc (.cells #[.int .u8 0, .int .u8 0, .int .u8 0, .int .u8 0, .int .u8 0, .int .u8 0, .int .u8 0, .int .u8 0, .int .u8 0, .int .u8 0, .int .u8 0, .int .u8 0, .int .u8 0, .int .u8 0, .int .u8 0, .int .u8 0, .int .u8 0, .int .i64 0, .int .i64 0, .int .i64 1, .int .i64 2, .int .i64 3, .int .i64 4, .int .i64 5, .int .i64 6, .int .i64 7, .int .i64 0, .int .i64 0, .int .i64 0, .int .i64 0, .int .i64 0, .int .i64 0, .int .i64 0, .int .i64 0] 74) := ⟨_, rfl⟩
  have hlit : #[.int .u8 0, .int .u8 0, .int .u8 0, .int .u8 0, .int .u8 0, .int .u8 0, .int .u8 0, .int .u8 0, .int .u8 0, .int .u8 0, .int .u8 0, .int .u8 0, .int .u8 0, .int .u8 0, .int .u8 0, .int .u8 0, .int .u8 0, .int .i64 0, .int .i64 0, .int .i64 1, .int .i64 2, .int .i64 3, .int .i64 4, .int .i64 5, .int .i64 6, .int .i64 7, .int .i64 0, .int .i64 0, .int .i64 0, .int .i64 0, .int .i64 0, .int .i64 0, .int .i64 0, .int .i64 0] = (twL tH).toArray := by kernel_rfl
  have hs2 : w2.heap.size = w1.heap.size + 1 := by rw [hw2]; simp
  obtain ⟨w3, hw3⟩ : ∃ y, y = w2.alloc (.cells #[.pointer (some ⟨d, 0, none⟩), .slice (some ⟨w1.heap.size, 0, none⟩) 1 1, .slice none 0 0] 77) := ⟨_, rfl⟩
  have b2 : w2.heap[w1.heap.size]? = some (.cells (twL tH).toArray 74 (0, 0)) := by rw [hw2, hlit]; exact heap_alloc_new _ _
  have b3 : w3.heap[w2.heap.size]? = some (.cells #[.pointer (some ⟨d, 0, none⟩), .slice (some ⟨w1.heap.size, 0, none⟩) 1 1, .slice none 0 0] 77 (0, 0)) := by rw [hw3]; exact heap_alloc_new _ _
  have f2 : Fr (fun _ => False) w1 w2 := by rw [hw2]; exact (Fr.refl _ w1).alloc _
  have f3 : Fr (fun _ => False) w2 w3 := by rw [hw3]; exact (Fr.refl _ w2).alloc _
  have f13 := f2.trans f3 (fun j e => .inl e)
  have b2' : w3.heap[w1.heap.size]? = some (.cells (twL tH).toArray 74 (0, 0)) := (f3.block _ (by omega) (fun e => e)).trans b2
  try rw [← hw2]
  try rw [← hw3]
  have hF0 : ¬ (0 = d ∨ 0 = g) := by rintro (e | e); exact hd0 e.symm; exact hg0 e.symm
  refine ⟨w2.heap.size, fun j => j = w2.heap.size ∨ j = d ∨ j = g ∨ j = w1.heap.size, w1.heap.size, F', ?_, ⟨HA.out.fr f13 id id, b3, ⟨rfl, .inr ⟨w1.heap.size, 1, (twL tH).toArray, rfl, Nat.zero_le _, b2', Nat.le_refl _, by unfold maxLen; omega, rfl, rfl⟩⟩, ⟨rfl, .inl ⟨rfl, rfl⟩⟩, (HT0.out.fr HF.out hF0).fr f13 id, ?_, ?_, ?_⟩, ?_, HF.out.trans f13 (fun j e => e.elim)⟩
  · rw [hs2]; rfl
  · rintro (e | e | e | e) <;> omega
  · rintro j (e | e | e | e | e)
    · exact .inl e
    · exact .inr (.inl e)
    · exact .inr (.inr (.inl e))
    · exact .inr (.inr (.inr e))
    · cases e
  · have hsz3 : w3.heap.size = w2.heap.size + 1 := by rw [hw3]; simp
    rintro j (e | e | e | e) <;> omega
  · rintro j (e | e | e | e)
    · omega
    · exact .inl e
    · exact .inr (.inl e)
    · omega
end
end
end Go.Proofs.YtopihgdbfhiejaaDoor
