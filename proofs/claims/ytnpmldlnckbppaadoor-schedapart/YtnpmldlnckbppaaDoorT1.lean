/-
  The library's functions that Turns calls: Mul, Repeat, Index, Min, of few numbers.
-/
import Derived.Test.YtnpmldlnckbppaaDoorC1
import Derived.Test.YtnpmldlnckbppaaDoorC4
import Derived.Test.YtnpmldlnckbppaaDoorSeq
import Derived.Laws.CopyOwn
import Derived.Laws.Tables
set_option linter.unusedVariables false
set_option linter.unusedSimpArgs false
namespace Go.Proofs.YtnpmldlnckbppaaDoor
open Go.RowKit

theorem few {n : Int} (h0 : 1 ≤ n) (h1 : n ≤ 16) : n = 1 ∨ n = 2 ∨ n = 3 ∨ n = 4 ∨ n = 5 ∨ n = 6 ∨ n = 7 ∨ n = 8 ∨ n = 9 ∨ n = 10 ∨ n = 11 ∨ n = 12 ∨ n = 13 ∨ n = 14 ∨ n = 15 ∨ n = 16 := by omega

set_option maxRecDepth 100000 in
set_option maxHeartbeats 2000000 in
theorem mul64_one (w : World) (n : Int) (h0 : 1 ≤ n) (h1 : n ≤ 16) :
    Calls Tryd.prog 46 #[.int .u64 1, .int .u64 n] w fun e w' => e = .returned (.tuple #[.int .u64 0, .int .u64 n]) ∧ w' = w := by
  have hf := few h0 h1
  have HF := hide2 hf
  clear hf
  go_enter Tryd.func46, Tryd.ntmps46
  go_wp2
  go_ret2
  refine ⟨?_, rfl⟩
  have hf := HF.out
  clear h0 h1 HF
  rcases hf with rfl | rfl | rfl | rfl | rfl | rfl | rfl | rfl | rfl | rfl | rfl | rfl | rfl | rfl | rfl | rfl <;> rfl

set_option maxRecDepth 100000 in
set_option maxHeartbeats 2000000 in
theorem mul_one' (w : World) (n : Int) (h0 : 1 ≤ n) (h1 : n ≤ 16) :
    Calls Tryd.prog 37 #[.int .u64 1, .int .u64 n] w fun e w' => e = .returned (.tuple #[.int .u64 0, .int .u64 n]) ∧ w' = w := by
  have HM := hide2 (mul64_one w n h0 h1)
  go_enter Tryd.func37, Tryd.ntmps37
  go_wp2_with fail
  refine HM.out.mono ?_
  rintro e w' ⟨rfl, rfl⟩
  go_wp2
  go_ret2
  exact ⟨rfl, rfl⟩

/-- So many are filled. -/
def fillL (n k : Nat) : List Value := List.replicate k (Value.int .i64 (-1)) ++ List.replicate (n - k) (Value.int .i64 0)
theorem fillL_len (n k : Nat) (h : k ≤ n) : (fillL n k).length = n := by simp [fillL]; omega
theorem fillL_splice (n k m : Nat) (h : k + m ≤ n) : splice (fillL n k) k (List.replicate m (Value.int .i64 (-1))) = fillL n (k + m) := by
  unfold splice fillL
  rw [List.take_left' (by simp), List.drop_append, List.drop_eq_nil_of_le (by simp)]
  simp only [List.length_replicate, List.nil_append, List.drop_replicate]
  rw [← List.append_assoc, List.replicate_append_replicate]
  congr 2
  omega

theorem infoI : (Tryd.prog.info? 3).map (fun i => (i.zero, i.size, i.bytes)) = some (some (.int .i64 0), 1, 8) := by kernel_rfl
theorem mk_ints (n : Nat) (hn : n ≤ 100000) (u : World) : (Instr.makeSlice 23 (.int .i64 (n : Int)) (.int .i64 (n : Int))).run Tryd.prog u = .ok (.slice (some ⟨u.heap.size, 0, none⟩) n n) (u.alloc (.cells (List.replicate n (Value.int .i64 0)).toArray 3)) := by
  obtain ⟨i0, hi, hz0, hz1, hz2⟩ := info_parts infoI
  have := run_make (P := Tryd.prog) u 23 3 i0 (.int .i64 0) Tryd.underlying23 hi hz0 .i64 .i64 n n (by omega) (by omega) (by rw [hz2]; omega) (by omega)
  rw [this, hz1]
  have e : madeCells (Value.cells (Value.int .i64 0)) n = (List.replicate n (Value.int .i64 0)).toArray := by
    apply Array.ext
    · simp [madeCells]
    · intro i h1 h2
      simp [madeCells, Value.cells, Nat.mod_one]
  simp only [Nat.mul_one, Int.toNat_natCast, e]
theorem ints_l (u : World) (a : Option Addr) (len cap k : Nat) (h : k ≤ len) : (Instr.slice 23 (.slice a len cap) (some (.int .i64 (k : Int))) none none).run Tryd.prog u = .ok (sliced a k len cap 1) u := by
  have he : (sizeOf (Tryd.prog.elem 23)).run Tryd.prog u = .ok 1 u := by kernel_rfl
  rw [run_slice_l u 23 a len cap Tryd.underlying23 .i64 k (by omega) (by omega), he]
  rfl
theorem ints_h (u : World) (a : Option Addr) (len cap k : Nat) (h : k ≤ cap) : (Instr.slice 23 (.slice a len cap) none (some (.int .i64 (k : Int))) none).run Tryd.prog u = .ok (sliced a 0 k cap 1) u := by
  have he : (sizeOf (Tryd.prog.elem 23)).run Tryd.prog u = .ok 1 u := by kernel_rfl
  rw [run_slice_h u 23 a len cap Tryd.underlying23 .i64 k (by omega) (by omega), he]
  rfl

theorem fill_copy {w : World} {g n k m dl dc sl sc : Nat} {sa : Addr} (hg : w.heap[g]? = some (.cells (fillL n k).toArray 3 (0, 0))) (hm : m = Nat.min sl dl) (hkm : k + m ≤ n) (hsrc : ∀ j, j < m → w.cell? (sa.add j) = some (.int .i64 (-1))) :
    ∃ w2, (Builtin.copy_ #[23, 23] 3 #[.slice (some ⟨g, k, none⟩) dl dc, .slice (some sa) sl sc]).run Tryd.prog w = .ok (.int .i64 (m : Int)) w2 ∧ w2.heap[g]? = some (.cells (fillL n (k + m)).toArray 3 (0, 0)) ∧ ∀ B w0, Below B w0 w → B ≤ g → Below B w0 w2 := by
  have hr := run_copy_row (P := Tryd.prog) w 23 23 3 3 g k dl dc sa sl sc (fillL n k).toArray 3 (List.replicate m (Value.int .i64 (-1))) Tryd.underlying23 (by kernel_rfl) hg (by simpa using hm) (fun j v hj => by
    have hjm : j < m := by simpa using (List.getElem?_eq_some_iff.1 hj).1
    simp [List.getElem?_replicate, hjm] at hj
    rw [← hj]
    exact hsrc j hjm) (by simp [fillL_len n k (by omega)]; omega) (fun v hv => by
    obtain ⟨_, rfl⟩ := List.mem_replicate.1 hv
    rfl)
  have hs := fillL_splice n k m hkm
  unfold splice at hs
  rw [← List.append_assoc] at hs
  have e : ((fillL n k).toArray.toList.take k ++ List.replicate m (Value.int .i64 (-1)) ++ (fillL n k).toArray.toList.drop (k + (List.replicate m (Value.int .i64 (-1))).length)) = fillL n (k + m) := hs
  rw [e] at hr
  refine ⟨_, hr.trans ?_, setRow_heap _ _ _ _ _ _ hg, fun B w0 hb hBg => below_setRow hb hBg _⟩
  simp [goInt]

set_option maxRecDepth 100000 in
set_option maxHeartbeats 4000000 in
theorem repeat_any (w : World) (b n : Nat) (h0 : 1 ≤ n) (h1 : n ≤ 16) (hbl : b < w.heap.size) (hb : w.cell? ⟨b, 0, none⟩ = some (.int .i64 (-1))) :
    Calls Tryd.prog 27 #[.slice (some ⟨b, 0, none⟩) 1 1, .int .i64 (n : Int)] w fun e w' => e = .returned (.slice (some ⟨w.heap.size, 0, none⟩) n n) ∧ w'.heap[w.heap.size]? = some (.cells (List.replicate n (Value.int .i64 (-1))).toArray 3 (0, 0)) ∧ Below w.heap.size w w' := by
  have HM := hide2 (mul_one' w n (by omega) (by omega))
  have hmk := mk_ints n (by omega)
  have hnew : (w.alloc (.cells (List.replicate n (Value.int .i64 0)).toArray 3)).heap[w.heap.size]? = some (.cells (List.replicate n (Value.int .i64 0)).toArray 3 (0, 0)) := heap_alloc_new _ _
  have hB0 : Below w.heap.size w (w.alloc (.cells (List.replicate n (Value.int .i64 0)).toArray 3)) := (Below.refl _ w).alloc (Nat.le_refl _) _
  have hb0 : (w.alloc (.cells (List.replicate n (Value.int .i64 0)).toArray 3)).cell? ⟨b, 0, none⟩ = some (.int .i64 (-1)) := (World.cell?_of_block (blk_alloc _ _ _ hbl)).trans hb
  have ef0 : List.replicate n (Value.int .i64 0) = fillL n 0 := by simp [fillL]
  rw [ef0] at hmk hnew hB0 hb0
  obtain ⟨w1, hc1, hg1, hb1⟩ := fill_copy (k := 0) (m := 1) (dl := n) (dc := n) (sl := 1) (sc := 1) (sa := ⟨b, 0, none⟩) hnew (show 1 = min 1 n by omega) (by omega) (fun j hj => by
    obtain rfl : j = 0 := by omega
    rw [addr_add]
    exact hb0)
  have hB1 := hb1 _ _ hB0 (Nat.le_refl _)
  rw [Nat.zero_add] at hg1
  generalize fillL n 0 = L0 at *
  generalize hwa : w.alloc (.cells L0.toArray 3) = wa at *
  clear hb ef0 hb1 hnew hb0 hB0
  have t0 : decide ((n : Int) < 0) = false := by simp
  have u1 : IntKind.u64.wrap (n : Int) = (n : Int) := by rw [IntKind.wrap_u64]; omega
  have u2 : IntKind.i64.wrap (n : Int) = (n : Int) := by rw [IntKind.wrap_i64]; omega
  have t1 : decide (9223372036854775807 < (n : Int)) = false := by simp; omega
  go_enter Tryd.func27, Tryd.ntmps27
  go_wp2_with fail
  refine HM.out.mono ?_
  rintro e w' ⟨rfl, rfl⟩
  clear HM
  obtain ⟨wx, hwx⟩ : ∃ x, x = w' := ⟨_, rfl⟩
  subst hwx
  generalize hg : wx.heap.size = g at *
  go_wp2
  go_loopw [8] (fun i wr => ∃ k : Nat, 1 ≤ k ∧ k ≤ n ∧ i = .int .i64 k ∧ wr.heap[g]? = some (.cells (fillL n k).toArray 3 (0, 0)) ∧ Below g wx wr) (fun i _ => n - (intOf i).toNat)
  case atStart => exact ⟨1, by omega, by omega, rfl, hg1, hB1⟩
  case round =>
    clear hc1 hg1 hB1 hmk hwa
    obtain ⟨k, hk0, hk, rfl, hgk, hB⟩ := hrel
    by_cases hkl : k < n
    · have es1 : ∀ u : World, (Instr.slice 23 (.slice (some ⟨g, 0, none⟩) n n) (some (.int .i64 (k : Int))) none none).run Tryd.prog u = .ok (.slice (some ⟨g, k, none⟩) (n - k) (n - k)) u := fun u => by
        rw [ints_l u _ _ _ _ hk]
        have hne : ¬ n = k := by omega
        simp [sliced, hne, addr_add]
      have es2 : ∀ u : World, (Instr.slice 23 (.slice (some ⟨g, 0, none⟩) n n) none (some (.int .i64 (k : Int))) none).run Tryd.prog u = .ok (.slice (some ⟨g, 0, none⟩) k n) u := fun u => by
        rw [ints_h u _ _ _ _ hk]
        have hne : ¬ n = 0 := by omega
        simp [sliced, hne, addr_add]
      have hgd : wr.drew.heap[g]? = some (.cells (fillL n k).toArray 3 (0, 0)) := hgk
      have hmin : k + min k (n - k) ≤ n := by omega
      obtain ⟨w2, hc2, hg2, hb2⟩ := fill_copy (m := min k (n - k)) (dl := n - k) (dc := n - k) (sl := k) (sc := n) (sa := ⟨g, 0, none⟩) hgd rfl hmin (fun j hj => by
        rw [addr_add, Go.Joins.cell_of_block hgd]
        have : j < k := by omega
        simp [fillL, List.getElem?_append, List.getElem?_replicate, this])
      have hB2 : Below g wx w2 := hb2 g wx ⟨hB.os, hB.tape, hB.output, hB.size, hB.block⟩ (Nat.le_refl _)
      have hm1 : 1 ≤ min k (n - k) := by omega
      have hk2 : (k : Int) < (n : Int) := by omega
      generalize min k (n - k) = m at *
      clear hgk hgd hB
      go_wp2
      go_region
      all_goals
        go_wp2
        go_roundw
        case rel => exact ⟨k + m, by omega, by omega, by go_num, hg2, hB2⟩
        case measure => simp [intOf]; omega
    · obtain rfl : n = k := by omega
      have e : fillL n n = List.replicate n (Value.int .i64 (-1)) := by simp [fillL]
      rw [e] at hgk
      go_wp2
      go_ret
      subst hg
      exact ⟨rfl, hgk, hB⟩

/-! ### Index, Min -/
/-- A block of numbers. -/
def Ib (w : World) (g : Nat) (L : List Int) : Prop := w.heap[g]? = some (.cells (L.map (Value.int .i64)).toArray 3 (0, 0))
theorem Ib.lt {w : World} {g : Nat} {L : List Int} (h : Ib w g L) : g < w.heap.size := (Array.getElem?_eq_some_iff.1 h).1
theorem Ib.free {w : World} {g : Nat} {L : List Int} (h : Ib w g L) (i : Nat) : w.frozen? ⟨g, i, none⟩ = false := Go.Joins.unfrozen_of_block h i
theorem Ib.cell {w : World} {g : Nat} {L : List Int} (h : Ib w g L) (c : Nat) (hc : c < L.length) : w.cell? ⟨g, c, none⟩ = some (.int .i64 (L.getD c 0)) := by
  unfold Ib at h
  rw [Go.Joins.cell_of_block h]
  simp [List.getD, List.getElem?_eq_getElem hc]
theorem Ib.set {w : World} {g : Nat} {L : List Int} (h : Ib w g L) (c : Nat) (x : Int) : Ib (w.setCell ⟨g, c, none⟩ (.int .i64 x)) g (L.set c x) := by
  unfold Ib at *
  rw [Go.Joins.block_setCell h]
  simp [List.map_set]

/-- The first of the least ones. -/
def First (L : List Int) (i : Nat) : Prop := i < L.length ∧ (∀ j, j < L.length → L.getD i 0 ≤ L.getD j 0) ∧ ∀ j, j < i → L.getD i 0 < L.getD j 0

set_option maxRecDepth 100000 in
set_option maxHeartbeats 2000000 in
theorem index_ints (w : World) (g n i : Nat) (x : Int) (L : List Int) (hL : Ib w g L) (hn : L.length = n) (hn2 : n ≤ 16) (hi : i < n) (hx : L.getD i 0 = x) (hf : ∀ j, j < i → L.getD j 0 ≠ x) :
    Calls Tryd.prog 47 #[.slice (some ⟨g, 0, none⟩) n n, .int .i64 x] w fun e w' => e = .returned (.int .i64 (i : Int)) ∧ w' = w := by
  go_enter Tryd.func47, Tryd.ntmps47
  go_wp2
  go_loop [8] (fun v => ∃ k : Nat, k ≤ i ∧ v = .int .i64 k) (fun v => i - (intOf v).toNat)
  case atStart => exact ⟨0, by omega, rfl⟩
  case round =>
    obtain ⟨k, hk, rfl⟩ := hrel
    have c0 := hL.cell k (by omega)
    have hk2 : (k : Int) < (n : Int) := by omega
    by_cases hki : k = i
    · subst hki
      rw [hx] at c0
      go_wp2
      go_ret
      exact ⟨rfl, rfl⟩
    · have hne := hf k (by omega)
      generalize L.getD k 0 = y at *
      have t1 : (x == y) = false := by simpa using (fun e => hne e.symm : ¬ x = y)
      go_wp2
      go_round
      case rel => exact ⟨k + 1, by omega, by go_num⟩
      case measure => simp [intOf]; omega

set_option maxRecDepth 100000 in
set_option maxHeartbeats 2000000 in
theorem min_ints (w : World) (g n : Nat) (L : List Int) (hL : Ib w g L) (hn : L.length = n) (hn1 : 1 ≤ n) (hn2 : n ≤ 16) :
    Calls Tryd.prog 48 #[.slice (some ⟨g, 0, none⟩) n n] w fun e w' => (∃ x, e = .returned (.int .i64 x) ∧ (∃ i, i < n ∧ L.getD i 0 = x) ∧ ∀ j, j < n → x ≤ L.getD j 0) ∧ w' = w := by
  have c00 := hL.cell 0 (by omega)
  have hn3 : (0 : Int) < (n : Int) := by omega
  have t0 : decide ((n : Int) < 1) = false := by simp; omega
  have t1 : decide (n < 1) = false := by simp; omega
  have H0 : Hid (∃ i, i < n ∧ L.getD i 0 = L.getD 0 0) := hide2 ⟨0, by omega, rfl⟩
  generalize hx0 : L.getD 0 0 = x0 at *
  have HX0 := hide2 hx0
  clear hx0
  go_enter Tryd.func48, Tryd.ntmps48
  go_wp2
  go_loop [3, 4] (fun m v => ∃ (k : Nat) (x : Int), 1 ≤ k ∧ k ≤ n ∧ v = .int .i64 k ∧ m = .int .i64 x ∧ (∃ i, i < n ∧ L.getD i 0 = x) ∧ ∀ j, j < k → x ≤ L.getD j 0) (fun _ v => n - (intOf v).toNat)
  case atStart => exact ⟨1, x0, by omega, by omega, rfl, rfl, H0.out, fun j hj => by obtain rfl : j = 0 := (by omega); rw [HX0.out]; omega⟩
  case round =>
    obtain ⟨k, x, hk0, hk, rfl, rfl, hex, hall⟩ := hrel
    by_cases hkn : k < n
    · have c0 := hL.cell k (by omega)
      have hk2 : (k : Int) < (n : Int) := by omega
      have hey : ∃ i, i < n ∧ L.getD i 0 = L.getD k 0 := ⟨k, hkn, rfl⟩
      generalize hy : L.getD k 0 = y at *
      have HY := hide2 hy
      have HEX := hide2 hex
      have HALL := hide2 hall
      have HEY := hide2 hey
      clear hy hex hall hey
      by_cases hxy : x ≤ y
      · go_wp2
        go_round
        case rel => exact ⟨k + 1, x, by omega, by omega, by go_num, rfl, HEX.out, fun j hj => by
          by_cases e : j = k
          · rw [e, HY.out]; exact hxy
          · exact HALL.out j (by omega)⟩
        case measure => simp [intOf]; omega
      · have hxy2 : y < x := by omega
        go_wp2
        go_round
        case rel => exact ⟨k + 1, y, by omega, by omega, by go_num, rfl, HEY.out, fun j hj => by
          by_cases e : j = k
          · rw [e, HY.out]; omega
          · have := HALL.out j (by omega); omega⟩
        case measure => simp [intOf]; omega
    · obtain rfl : n = k := by omega
      go_wp2
      go_ret
      exact ⟨⟨x, rfl, hex, hall⟩, rfl⟩
end Go.Proofs.YtnpmldlnckbppaaDoor
