/-
  A key in memory: isBelow, keyOf, text.
-/
import Derived.Test.YtopihgdbfhiejaaDoorSaK
import Derived.Test.YtopihgdbfhiejaaDoorClo
import Derived.Laws.Externs
import Derived.BigQuiet
set_option linter.unusedVariables false
set_option linter.unusedSimpArgs false
namespace Go.Proofs.YtopihgdbfhiejaaDoor
open Go.RowKit

/-- A key as cells, and as a value. -/
def kC (k : ByteArray) : Array Value := #[.int .u8 (kb k 0), .int .u8 (kb k 1), .int .u8 (kb k 2), .int .u8 (kb k 3), .int .u8 (kb k 4), .int .u8 (kb k 5), .int .u8 (kb k 6), .int .u8 (kb k 7), .int .u8 (kb k 8), .int .u8 (kb k 9), .int .u8 (kb k 10), .int .u8 (kb k 11), .int .u8 (kb k 12), .int .u8 (kb k 13), .int .u8 (kb k 14), .int .u8 (kb k 15), .int .u8 (kb k 16)]
theorem kC_list (k : ByteArray) : (kC k).toList = (kI k).map (Value.int .u8) := by rw [kI_eq]; rfl

theorem cells_kC {w : World} {b : Nat} {t : TypeId} {fz : Nat × Nat} {k : ByteArray} (h : w.heap[b]? = some (.cells (kC k) t fz)) (j : Nat) (x : Int) (hj : (kI k)[j]? = some x) : w.cell? ((⟨b, 0, none⟩ : Addr).add j) = some (.int .u8 x) := by
  rw [addr_add, Go.Joins.cell_of_block h, ← Array.getElem?_toList, kC_list, Nat.zero_add, List.getElem?_map, hj]
  rfl

theorem kI_bytes (k : ByteArray) : Lib.bytesOf (kI k) = KL k := by
  unfold Lib.bytesOf kI
  rw [List.map_map]
  conv => rhs; rw [← List.map_id (KL k)]
  apply List.map_congr_left
  intro b _
  simp

theorem compareN_run {w : World} {b1 b2 : Nat} {t1 t2 : TypeId} {c1 c2 : Nat} {f1 f2 : Nat × Nat} {k1 k2 : ByteArray} (h1 : w.heap[b1]? = some (.cells (kC k1) t1 f1)) (h2 : w.heap[b2]? = some (.cells (kC k2) t2 f2)) :
    (callFunc 93 #[.slice (some ⟨b1, 0, none⟩) 17 c1, .slice (some ⟨b2, 0, none⟩) 17 c2]).run Tryd.prog w = .ok (.value (.int .i64 (Lib.compareBytes (KL k1) (KL k2)))) w := by
  rw [run_callFunc_extern Tryd.func93 (by kernel_rfl) (by kernel_rfl) (by kernel_rfl) (e := Extern.BytealgCompare.compare) (by kernel_rfl)]
  have l1 := Lib.run_loadBytesX (P := Tryd.prog) w (kI k1) ⟨b1, 0, none⟩ .empty (cells_kC h1)
  have l2 := Lib.run_loadBytesX (P := Tryd.prog) w (kI k2) ⟨b2, 0, none⟩ .empty (cells_kC h2)
  have e1 : (kI k1).length = 17 := by rw [kI_eq]; rfl
  have e2 : (kI k2).length = 17 := by rw [kI_eq]; rfl
  rw [e1] at l1
  rw [e2] at l2
  change ((Sem.run Tryd.prog (do pure (goInt (Extern.BytealgCompare.cmp (← Extern.Bytes.bytesOf (.slice (some ⟨b1, 0, none⟩) 17 c1)) (← Extern.Bytes.bytesOf (.slice (some ⟨b2, 0, none⟩) 17 c2))))) w)).andThen _ = _
  simp only [Extern.Bytes.bytesOf, Sem.run_bind, Sem.run_pure, Result.andThen, l1, l2, Lib.cmp_eq, kI_bytes]
  simp [goInt]

set_option maxHeartbeats 1000000 in
theorem compare_any {w : World} {b1 b2 : Nat} {t1 t2 : TypeId} {c1 c2 : Nat} {f1 f2 : Nat × Nat} {k1 k2 : ByteArray} (h1 : w.heap[b1]? = some (.cells (kC k1) t1 f1)) (h2 : w.heap[b2]? = some (.cells (kC k2) t2 f2)) :
    Calls Tryd.prog 78 #[.slice (some ⟨b1, 0, none⟩) 17 c1, .slice (some ⟨b2, 0, none⟩) 17 c2] w fun e w' => e = .returned (.int .i64 (Lib.compareBytes (KL k1) (KL k2))) ∧ w' = w := by
  have hc := compareN_run (c1 := c1) (c2 := c2) h1 h2
  go_enter Tryd.func78, Tryd.ntmps78
  go_wp2
  go_ret
  exact ⟨rfl, rfl⟩

set_option maxRecDepth 100000 in
set_option maxHeartbeats 1000000 in
theorem isBelow_any (k1 k2 : ByteArray) (w : World) :
    Calls Tryd.prog 56 #[.agg (kC k1), .agg (kC k2)] w fun e w' => e = .returned (.bool (decide (KL k1 < KL k2))) ∧ Below w.heap.size w w' := by
  obtain ⟨w1, hw1⟩ : ∃ x, x = w.alloc (.cells (kC k1) 72) := ⟨_, rfl⟩
  obtain ⟨w2, hw2⟩ : ∃ x, x = w1.alloc (.cells (kC k2) 72) := ⟨_, rfl⟩
  have hs1 : w1.heap.size = w.heap.size + 1 := by rw [hw1]; simp
  have b1 : w2.heap[w.heap.size]? = some (.cells (kC k1) 72 (0, 0)) := by
    rw [hw2, heap_alloc_old w1 _ (by omega), hw1]
    exact heap_alloc_new w _
  have b2 : w2.heap[w1.heap.size]? = some (.cells (kC k2) 72 (0, 0)) := by rw [hw2]; exact heap_alloc_new w1 _
  have hc : ∀ q, Calls Tryd.prog 78 #[.slice (some ⟨w.heap.size, 0, none⟩) 17 17, .slice (some ⟨w.heap.size + 1, 0, none⟩) 17 17] (w2.drewN q) fun e w' => e = .returned (.int .i64 (Lib.compareBytes (KL k1) (KL k2))) ∧ w' = w2.drewN q := fun q => compare_any (w := w2.drewN q) (c1 := 17) (c2 := 17) (f1 := (0, 0)) (f2 := (0, 0)) b1 (by rw [← hs1]; exact b2)
  clear b1 b2
  subst hw2 hw1
  clear hs1
  go_enter Tryd.func56, Tryd.ntmps56
  go_wp2
  go_quiet ((go_at_call 78; exact Calls.quiet_of_same (hc _)))
  go_wp2
  go_ret
  refine ⟨ret_bool ?_, below_drewN (((Below.refl _ w).alloc (Nat.le_refl _) _).alloc (by simp) _) _⟩
  rw [decide_eq_decide]
  exact compare_lt _ _

theorem padL_eq (n : Nat) (a : List UInt8) (x : UInt8) : padL n a x = a.take n ++ List.replicate (n - a.length) 0 ++ [x] := by
  induction n generalizing a with
  | zero => simp [padL]
  | succ n ih =>
    cases a with
    | nil => simp [padL, ih, List.replicate_succ]
    | cons y ys => simp [padL, ih]

/-- A key is read as a whole. -/
theorem Tryd.infoKey : (Tryd.prog.info? 72).map (fun i => (i.size, i.zero)) = some (17, some (.agg #[.int .u8 0, .int .u8 0, .int .u8 0, .int .u8 0, .int .u8 0, .int .u8 0, .int .u8 0, .int .u8 0, .int .u8 0, .int .u8 0, .int .u8 0, .int .u8 0, .int .u8 0, .int .u8 0, .int .u8 0, .int .u8 0, .int .u8 0])) := by kernel_rfl
theorem isAgg_key (w : World) : (isAgg 72).run Tryd.prog w = .ok true w := by
  simp [isAgg, run_underlying Tryd.underlying72]
theorem size_key (w : World) : (sizeOf 72).run Tryd.prog w = .ok 17 w := by
  have h := Tryd.infoKey
  cases hq : Tryd.prog.info? 72 with
  | none => rw [hq] at h; cases h
  | some i =>
    rw [hq] at h
    simp only [Option.map_some, Option.some.injEq, Prod.mk.injEq] at h
    simp [sizeOf, typeInfo, hq, h.1]
theorem load_key {w : World} {b o : Nat} {k : ByteArray} (h : ∀ j x, (kC k).toList[j]? = some x → w.cell? ⟨b, o + j, none⟩ = some x) : (Instr.loadAt 72 (.pointer (some ⟨b, o, none⟩))).run Tryd.prog w = .ok (.agg (kC k)) w := by
  have h1 := run_loadCells_list (P := Tryd.prog) w ⟨b, o, none⟩ (kC k).toList (fun j v hj => by rw [addr_add]; exact h j v hj)
  have hs : (kC k).toList.length = 17 := rfl
  rw [hs] at h1
  simp only [Instr.loadAt, Instr.sureAddr, loadVar, Sem.run_bind, isAgg_key, size_key, h1, Result.andThen, if_true, Sem.run_pure]

/-- copy of a text's first bytes. -/
theorem copy_part (w : World) (dT sT ty elem : TypeId) (g dLen dCap n : Nat) (s : ByteArray) (cur : Array Value) (t : TypeId)
    (hu : Tryd.prog.underlying dT = some (.slice elem)) (hs : (Tryd.prog.info? elem).map (·.size) = some 1) (hg : w.heap[g]? = some (.cells cur t (0, 0))) (hn : n = min s.size dLen) (hfit : dLen ≤ cur.size) :
    (Builtin.copy_ #[dT, sT] ty #[.slice (some ⟨g, 0, none⟩) dLen dCap, .string s]).run Tryd.prog w =
      .ok (goInt n) (w.setRow g (Lib.byteCells ((bl s).take n) ++ cur.toList.drop n).toArray) := by
  have hbl := bl_length s
  have hlen : (Lib.byteCells ((bl s).take n)).length = n := by rw [Lib.byteCells_length, List.length_take]; omega
  have hst := run_storeCells_at Tryd.prog g 0 t (Lib.byteCells ((bl s).take n)) 0 cur w hg (by rw [hlen]; omega) (Lib.byteCells_one _)
  have hmin : Nat.min s.size dLen = n := hn.symm
  have htk : List.take n (List.map (fun b : UInt8 => Value.int IntKind.u8 (b.toNat : Int)) s.data.toList) = Lib.byteCells ((bl s).take n) := by
    rw [← List.map_take]
    rfl
  rw [hlen] at hst
  simp only [Nat.add_zero, List.take_zero, List.nil_append, Nat.zero_add] at hst
  cases hq : Tryd.prog.info? elem with
  | none => simp [hq] at hs
  | some i =>
    simp [Builtin.copy_, run_underlying hu, Builtin.lenOf, Builtin.firstCells, sizeOf, typeInfo, hq, hmin]
    rw [htk, hst]
    simp [Result.andThen]

abbrev z17 : Array Value := #[.int .u8 0, .int .u8 0, .int .u8 0, .int .u8 0, .int .u8 0, .int .u8 0, .int .u8 0, .int .u8 0, .int .u8 0, .int .u8 0, .int .u8 0, .int .u8 0, .int .u8 0, .int .u8 0, .int .u8 0, .int .u8 0, .int .u8 0]
theorem kC_one (k : ByteArray) : ∀ v ∈ (kC k).toList, v.oneCell' = true := by
  intro v hv
  rw [kC_list] at hv
  obtain ⟨x, _, rfl⟩ := List.mem_map.1 hv
  rfl
theorem kC_all (k : ByteArray) : (kC k).all (·.oneCell') = true := by simp [kC, Value.oneCell']
theorem store_key {w : World} {b o : Nat} {t : TypeId} {cur : Array Value} {k : ByteArray} (h : w.heap[b]? = some (.cells cur t (0, 0))) (ho : o + 17 ≤ cur.size) :
    (Instr.storeAt 72 (.pointer (some ⟨b, o, none⟩)) (.agg (kC k))).run Tryd.prog w = .ok () (w.setRow b (cur.toList.take o ++ (kC k).toList ++ cur.toList.drop (o + 17)).toArray) := by
  have hst := run_storeCells_at Tryd.prog b o t (kC k).toList 0 cur w h (by show o + 0 + 17 ≤ _; omega) (kC_one k)
  have hs : (kC k).toList.length = 17 := rfl
  rw [hs, Nat.add_zero] at hst
  have hc : (Value.agg (kC k)).cells = kC k := rfl
  have hz : (kC k).size = 17 := rfl
  simp [Instr.storeAt, Instr.sureAddr, storeVar, hc, hz, size_key, Result.andThen, hst]

theorem kC_pad (k : ByteArray) : (kC k).toList = Lib.byteCells ((bl k).take 16) ++ List.replicate (16 - k.size) (.int .u8 0) ++ [.int .u8 ((min k.size 17 : Nat) : Int)] := by
  rw [kC_list]
  unfold kI KL
  rw [padL_eq, bl_length]
  have : (UInt8.ofNat (min k.size 17)).toNat = min k.size 17 := by simp; omega
  simp only [List.map_append, List.map_replicate, List.map_cons, List.map_nil, this, Lib.byteCells, List.map_map]
  rfl

set_option maxRecDepth 100000 in
set_option maxHeartbeats 2000000 in
theorem keyOf_any (k : ByteArray) (hk : k.size ≤ maxLen) (w : World) :
    Calls Tryd.prog 50 #[.string k] w fun e w' => e = .returned (.agg (kC k)) ∧ Below w.heap.size w w' := by
  obtain ⟨i0, hi, hz0, hz1, hz2⟩ := info_parts Tryd.infoCl
  have hinfo : (Tryd.prog.info? 5).map (·.size) = some 1 := by rw [hi]; simp [hz1]
  obtain ⟨W, hW⟩ : ∃ W, W = (w.alloc (.cells z17 72)).alloc (.cells z17 72) := ⟨_, rfl⟩
  have hs1 : (w.alloc (.cells z17 72)).heap.size = w.heap.size + 1 := by simp
  have b1 : W.heap[w.heap.size + 1]? = some (.cells z17 72 (0, 0)) := by rw [hW, ← hs1]; exact heap_alloc_new _ _
  have b0 : W.heap[w.heap.size]? = some (.cells z17 72 (0, 0)) := by rw [hW, heap_alloc_old _ _ (by omega)]; exact heap_alloc_new _ _
  have hcp := copy_part W 95 9 3 5 (w.heap.size + 1) 16 17 (min k.size 16) k z17 72 Tryd.underlying95 hinfo b1 rfl (by decide)
  obtain ⟨Y, hY⟩ : ∃ Y, Y = (Lib.byteCells ((bl k).take (min k.size 16)) ++ z17.toList.drop (min k.size 16)).toArray := ⟨_, rfl⟩
  rw [← hY] at hcp
  have b2 : (W.setRow (w.heap.size + 1) Y).heap[w.heap.size + 1]? = some (.cells Y 72 (0, 0)) := setRow_heap _ _ _ _ _ _ b1
  have hYl : Y.toList = Lib.byteCells ((bl k).take 16) ++ List.replicate (17 - min k.size 16) (.int .u8 0) := by
    rw [hY]
    have e1 : z17.toList = List.replicate 17 (.int .u8 0) := rfl
    rw [e1, List.drop_replicate]
    have e2 : (bl k).take (min k.size 16) = (bl k).take 16 := by
      have := bl_length k
      rcases Nat.le_total k.size 16 with q | q
      · rw [Nat.min_eq_left q, List.take_of_length_le (by omega), List.take_of_length_le (by omega)]
      · rw [Nat.min_eq_right q]
    rw [e2]
  have hYn : (Lib.byteCells ((bl k).take 16)).length = min k.size 16 := by rw [Lib.byteCells_length, List.length_take, bl_length]; omega
  have hYs : Y.size = 17 := by rw [← Array.length_toList, hYl, List.length_append, hYn, List.length_replicate]; omega
  have y16 : (W.setRow (w.heap.size + 1) Y).cell? ⟨w.heap.size + 1, 16, none⟩ = some (.int .u8 0) := by
    rw [Go.Joins.cell_of_block b2, ← Array.getElem?_toList, hYl, List.getElem?_append_right (by omega), List.getElem?_replicate, if_pos (by omega)]
  have f16 : (W.setRow (w.heap.size + 1) Y).frozen? ⟨w.heap.size + 1, 16, none⟩ = false := Go.Joins.unfrozen_of_block b2 16
  obtain ⟨x, hx⟩ : ∃ x : Int, x = ((min k.size 17 : Nat) : Int) := ⟨_, rfl⟩
  have hx1 : min (k.size : Int) 17 = x := by rw [hx]; omega
  have hx2 : IntKind.u8.wrap x = x := by rw [IntKind.wrap_u8]; omega
  obtain ⟨W2, hW2⟩ : ∃ W2, W2 = (W.setRow (w.heap.size + 1) Y).setCell ⟨w.heap.size + 1, 16, none⟩ (.int .u8 x) := ⟨_, rfl⟩
  have hYk : Y.setIfInBounds 16 (.int .u8 x) = kC k := by
    apply Array.toList_inj.1
    rw [Array.toList_setIfInBounds, kC_pad, hYl, List.set_append_right _ _ (by omega), hYn, hx]
    have e3 : 17 - min k.size 16 = (16 - k.size) + 1 := by omega
    rw [e3, List.replicate_succ', List.append_assoc]
    congr 1
    rw [List.set_append_right _ _ (by simp; omega)]
    congr 1
    simp
    have : 16 - min k.size 16 - (16 - k.size) = 0 := by omega
    rw [this]; rfl
  have b3 : W2.heap[w.heap.size + 1]? = some (.cells (kC k) 72 (0, 0)) := by
    rw [hW2, Go.Joins.block_setCell b2, hYk]
  have hsz : w.heap.size ≠ w.heap.size + 1 := by omega
  have b4 : W2.heap[w.heap.size]? = some (.cells z17 72 (0, 0)) := by
    rw [hW2, heap_setCell_other _ _ _ _ hsz, setRow_other _ _ _ _ hsz]; exact b0
  have b5 : (W2.setRow w.heap.size (kC k)).heap[w.heap.size]? = some (.cells (kC k) 72 (0, 0)) := setRow_heap _ _ _ _ _ _ b4
  have HB : Hid (Below w.heap.size w (W2.setRow w.heap.size (kC k))) := hide2 (by
    have h1 : Below w.heap.size w W := by rw [hW]; exact ((Below.refl _ w).alloc (Nat.le_refl _) _).alloc (by omega) _
    have h2 : Below w.heap.size W (W.setRow (w.heap.size + 1) Y) := ⟨rfl, rfl, rfl, by simp, fun k hk => setRow_other _ _ _ _ (by omega)⟩
    have h3 : Below w.heap.size (W.setRow (w.heap.size + 1) Y) W2 := by rw [hW2]; exact (Below.refl _ _).setCell (by show w.heap.size ≤ w.heap.size + 1; omega) _
    have h4 : Below w.heap.size W2 (W2.setRow w.heap.size (kC k)) := ⟨rfl, rfl, rfl, by simp, fun k hk => setRow_other _ _ _ _ (by omega)⟩
    exact ((h1.trans h2).trans h3).trans h4)
  have B5 := hide2 b5
  have B3 := hide2 b3
  have B4 := hide2 b4
  clear hY b0 b1 b2 hYl b3 b4 b5 hYk
  subst hW2
  subst hW
  rcases Nat.lt_or_ge 17 k.size with hq | hq
  · have hx3 : x = 17 := by omega
    subst hx3
    have hq2 : ¬ (k.size : Int) ≤ 17 := by omega
    have hq3 : (17 : Int) < (k.size : Int) := by omega
    clear hx hx1
    go_enter Tryd.func50, Tryd.ntmps50
    go_wp2_with (first
      | (refine wpList_load_row rfl 72 (Operand.tmp 3) rfl (w.heap.size + 1) rfl 72 (kC k) (0, 0) _ ?_ Tryd.underlying72 rfl ?_ ?_
         · exact B3.out
         · kernel_rfl)
      | (refine wpList_store_row rfl 72 (Operand.tmp 2) (Operand.tmp 12) rfl w.heap.size (kC k) rfl rfl 72 z17 ?_ ?_ rfl (kC_all k) ?_
         · exact B4.out
         · kernel_rfl))
    refine bodyPost_ret (v := .agg (kC k)) (results_cell_row (p := 2) (ty := 72) rfl _ _ w.heap.size 72 (kC k) (0, 0) _ rfl B5.out Tryd.underlying72 rfl (by kernel_rfl)) rfl ⟨rfl, HB.out⟩
  · have hx3 : x = (k.size : Int) := by omega
    subst hx3
    have hq1 : (k.size : Int) ≤ 17 := by omega
    clear hx hx1
    go_enter Tryd.func50, Tryd.ntmps50
    go_wp2_with (first
      | (refine wpList_load_row rfl 72 (Operand.tmp 3) rfl (w.heap.size + 1) rfl 72 (kC k) (0, 0) _ ?_ Tryd.underlying72 rfl ?_ ?_
         · exact B3.out
         · kernel_rfl)
      | (refine wpList_store_row rfl 72 (Operand.tmp 2) (Operand.tmp 12) rfl w.heap.size (kC k) rfl rfl 72 z17 ?_ ?_ rfl (kC_all k) ?_
         · exact B4.out
         · kernel_rfl))
    refine bodyPost_ret (v := .agg (kC k)) (results_cell_row (p := 2) (ty := 72) rfl _ _ w.heap.size 72 (kC k) (0, 0) _ rfl B5.out Tryd.underlying72 rfl (by kernel_rfl)) rfl ⟨rfl, HB.out⟩

set_option maxHeartbeats 1000000 in
theorem clone_empty (w : World) : Calls Tryd.prog 41 #[.string .empty] w fun e w' => e = .returned (.string .empty) ∧ w' = w := by
  go_enter Tryd.func41, Tryd.ntmps41
  go_wp2
  go_ret
  exact ⟨rfl, rfl⟩
set_option maxRecDepth 100000 in
set_option maxHeartbeats 1000000 in
theorem text_any (k : ByteArray) (hk : k.size ≤ 16) (w : World) :
    Calls Tryd.prog 32 #[.agg (kC k)] w fun e w' => e = .returned (.string k) ∧ Below w.heap.size w w' := by
  obtain ⟨W, hW⟩ : ∃ W, W = w.alloc (.cells (kC k) 72) := ⟨_, rfl⟩
  have b0 : W.heap[w.heap.size]? = some (.cells (kC k) 72 (0, 0)) := by rw [hW]; exact heap_alloc_new _ _
  have hcl := fun j => Go.Joins.cell_of_block b0 (i := j)
  have hbl := bl_length k
  have c16 : W.cell? ⟨w.heap.size, 16, none⟩ = some (.int .u8 (k.size : Int)) := by
    rw [hcl, ← Array.getElem?_toList, kC_pad, List.getElem?_append_right (by simp [Lib.byteCells, hbl]; omega)]
    have : 16 - (Lib.byteCells ((bl k).take 16) ++ List.replicate (16 - k.size) (Value.int .u8 0)).length = 0 := by simp [Lib.byteCells, hbl]; omega
    rw [this]
    simp
    omega
  have hcv := run_convert_bytes_back (P := Tryd.prog) W 95 9 5 ⟨w.heap.size, 0, none⟩ 17 (bl k) Tryd.underlying95 Tryd.underlying5 Tryd.underlying9 (fun j hj => by
    rw [addr_add, Nat.zero_add, hcl, ← Array.getElem?_toList, kC_pad, List.append_assoc, List.getElem?_append_left (by simp [Lib.byteCells, hbl]; omega), List.take_of_length_le (by omega)]
    simp [Lib.byteCells, List.getElem?_eq_getElem hj])
  have ek : (⟨(bl k).toArray⟩ : ByteArray) = k := bl_inj rfl
  rw [hbl, ek] at hcv
  have hB : Below w.heap.size w W := by rw [hW]; exact (Below.refl _ w).alloc (Nat.le_refl _) _
  have hq : (k.size : Int) ≤ 17 := by omega
  have HB := hide2 hB
  clear hcl b0 ek hB
  by_cases h0 : k.size = 0
  · have he : k = .empty := by
      apply bl_inj
      have : (bl k).length = 0 := by omega
      rw [List.length_eq_zero_iff.1 this]; rfl
    have HC := hide2 (clone_empty W)
    rw [← he] at HC
    clear h0 hbl he
    subst hW
    go_enter Tryd.func32, Tryd.ntmps32
    go_wp2_with fail
    refine HC.out.mono ?_
    rintro e w' ⟨rfl, rfl⟩
    go_wp2
    go_ret
    exact ⟨rfl, HB.out⟩
  · have HC := hide2 (clone_any k W (by omega) (by omega))
    have HS : Hid (w.heap.size ≤ W.heap.size) := hide2 (by rw [hW]; simp)
    subst hW
    go_enter Tryd.func32, Tryd.ntmps32
    go_wp2_with fail
    refine HC.out.mono ?_
    rintro e w' ⟨rfl, hb⟩
    go_wp2
    go_ret
    exact ⟨rfl, HB.out.trans (hb.mono HS.out)⟩
end Go.Proofs.YtopihgdbfhiejaaDoor
