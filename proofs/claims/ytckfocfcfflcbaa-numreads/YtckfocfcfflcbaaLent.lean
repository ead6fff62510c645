/-
  What the laws' own 'lent' and 'still' do.
-/
import Derived.Test.YtckfocfcfflcbaaNum
import Derived.Test.YtckfocfcfflcbaaKit2
import Derived.Deep.QuietTactic
import Derived.BigQuiet
set_option linter.unusedVariables false
set_option linter.unusedSimpArgs false
namespace Go.Proofs.Ytckfocfcfflcbaa
open Go.RowKit

/-- A block that is a row of these bytes. -/
def Row (w : World) (g : Nat) (ys : List Int) : Prop := w.heap[g]? = some (.cells (bc ys).toArray 5 (0, 0))

theorem Row.cell {w : World} {g : Nat} {ys : List Int} (h : Row w g ys) (j : Nat) (hj : j < ys.length) : w.cell? ⟨g, j, none⟩ = some (.int .u8 (ys.getD j 0)) := by
  rw [cell_of_row w g j _ 5 (0, 0) h]
  simp [bc, List.getD, List.getElem?_eq_getElem hj]
theorem Row.free {w : World} {g : Nat} {ys : List Int} (h : Row w g ys) (j : Nat) : w.frozen? ⟨g, j, none⟩ = false := by
  unfold Row at h
  simp [World.frozen?, h]
theorem Row.lt {w : World} {g : Nat} {ys : List Int} (h : Row w g ys) : g < w.heap.size := (Array.getElem?_eq_some_iff.1 h).1
theorem Row.set {w : World} {g : Nat} {ys : List Int} (h : Row w g ys) (j : Nat) (x : Int) : Row (w.setCell ⟨g, j, none⟩ (.int .u8 x)) g (ys.set j x) := by
  unfold Row at *
  have hlt := (Array.getElem?_eq_some_iff.1 h).1
  simp only [World.setCell, Array.getElem?_modify, h]
  simp [bc, List.map_set]
theorem Row.below {B : Nat} {w w' : World} {g : Nat} {ys : List Int} (h : Row w g ys) (hb : Below B w w') (hg : g < B) : Row w' g ys := (hb.block g hg).trans h
theorem Row.drewN {w : World} {g : Nat} {ys : List Int} (h : Row w g ys) (q : Nat) : Row (w.drewN q) g ys := h
theorem Row.sl {w : World} {g : Nat} {ys : List Int} (h : Row w g ys) (hb : Byt ys) (len : Nat) (hl : len ≤ ys.length) (hm : ys.length ≤ maxLen) : Sl w (some ⟨g, 0, none⟩) len ys.length (ys.take len) := by
  refine ⟨by simp; omega, hl, hm, hb.take _, (fun e => by cases e), fun h0 => ⟨g, 0, rfl, h.lt, fun i hi => ?_⟩⟩
  rw [Nat.zero_add, h.cell i (by omega)]
  simp only [List.getD, List.getElem?_take_of_lt hi]

/-- A slice of bytes copied onto the head of a new row, which is longer. -/
theorem Sl.copy2 {P : Program} {w : World} {ao : Option Addr} {len cap : Nat} {xs : List Int} (h : Sl w ao len cap xs) (t : TypeId) (hu : P.underlying t = some (.slice 5)) (hs : (P.info? 5).map (·.size) = some 1) (ty : TypeId)
    (cur : Array Value) (dl c : Nat) (hdl : len ≤ dl) (hc : len ≤ cur.size) :
    ∃ w2, (Builtin.copy_ #[t, t] ty #[.slice (some ⟨w.heap.size, 0, none⟩) dl c, .slice ao len cap]).run P (w.alloc (.cells cur 5)) = .ok (.int .i64 len) w2 ∧
      w2.heap[w.heap.size]? = some (.cells (bc xs ++ cur.toList.drop len).toArray 5 (0, 0)) ∧ Below w.heap.size w w2 := by
  obtain ⟨h1, h2, h3, h4, h5, h6⟩ := h
  have hb : Below w.heap.size w (w.alloc (.cells cur 5)) := (Below.refl _ _).alloc (Nat.le_refl _) _
  have hg := heap_alloc_new w (.cells cur 5)
  by_cases hl : 0 < len
  · obtain ⟨b, off, rfl, hlt, hcell⟩ := h6 hl
    have hr := run_copy_row (P := P) (w.alloc (.cells cur 5)) t t ty 5 w.heap.size 0 dl c ⟨b, off, none⟩ len cap cur 5 (bc xs) hu hs hg (by rw [bc_length, h1]; exact (Nat.min_eq_left hdl).symm)
      (fun j v hj => by
        obtain ⟨hj1, rfl⟩ := bc_get xs j v hj
        rw [addr_add, hb.cell (p := ⟨b, off + j, none⟩) hlt]
        exact hcell j (by omega)) (by rw [bc_length]; omega) (bc_one xs)
    refine ⟨_, hr.trans ?_, setRow_heap _ _ _ _ _ _ hg, ?_⟩
    · simp [goInt, bc_length, h1]
    · exact hb.trans ⟨rfl, rfl, rfl, by simp [World.setRow], fun k hk => setRow_other _ _ k _ (by omega)⟩
  · obtain rfl : len = 0 := by omega
    obtain rfl : xs = [] := List.eq_nil_of_length_eq_zero h1
    exact ⟨_, run_copy_none (P := P) _ t t ty 5 _ ao dl c 0 cap hu hs (by simp), by simpa [bc] using hg, hb⟩

/-- The spare bytes, so many of them laid. -/
def spare (k : Nat) : List Int := List.replicate k 197 ++ List.replicate (16 - k) 0
theorem spare_len (k : Nat) (h : k ≤ 16) : (spare k).length = 16 := by simp [spare]; omega
theorem spare_step (xs : List Int) (k : Nat) (h : k < 16) : (xs ++ spare k).set (xs.length + k) 197 = xs ++ spare (k + 1) := by
  unfold spare
  rw [List.set_append_right _ _ (by omega), show xs.length + k - xs.length = k from by omega, List.set_append_right _ _ (by simp)]
  congr 1
  rw [show 16 - k = (16 - (k + 1)) + 1 from by omega, List.replicate_succ, List.replicate_succ' (n := k)]
  simp
theorem spare_byt (k : Nat) : Byt (spare k) := by
  unfold spare
  refine Byt.append ?_ ?_ <;> (intro y hy; have := List.eq_of_mem_replicate hy; omega)

theorem hide2' {p : Prop} (h : p) : Hid p := h
theorem Try.size5' (u : World) : (Go.sizeOf 5).run Try.prog u = .ok 1 u := by kernel_rfl

set_option maxHeartbeats 800000 in
/-- lent: the bytes in memory of their own, sixteen spare ones behind. -/
theorem lent_any (ao : Option Addr) (len cap : Nat) (xs : List Int) (w : World) (h : Sl w ao len cap xs) (hl : len + 16 ≤ 281474976710656) :
    Calls Try.prog 10 #[.slice ao len cap] w fun e w' => e = .returned (.slice (some ⟨w.heap.size, 0, none⟩) len (len + 16)) ∧ Row w' w.heap.size (xs ++ spare 16) ∧ Below w.heap.size w w' := by
  obtain ⟨i0, hi, hz0, hz1, hz2⟩ := info_parts Try.info5
  have hx := h.1
  have hmk : ∀ u : World, (Instr.makeSlice 22 (.int .i64 ((len : Int) + 16)) (.int .i64 ((len : Int) + 16))).run Try.prog u = .ok (.slice (some ⟨u.heap.size, 0, none⟩) (len + 16) (len + 16)) (u.alloc (.cells (madeCells #[.int .u8 0] (len + 16)) 5)) := by
    intro u
    have := run_make (P := Try.prog) u 22 5 i0 (.int .u8 0) Try.underlying22 hi hz0 .i64 .i64 ((len : Int) + 16) ((len : Int) + 16) (by omega) (by omega) (by rw [hz2]; omega) (by omega)
    rw [this, hz1]
    have e1 : ((len : Int) + 16).toNat = len + 16 := by omega
    simp only [e1, Nat.mul_one, Value.cells]
  obtain ⟨w2, hcp, hrow, hbel⟩ := h.copy2 (P := Try.prog) 22 Try.underlying22 (by kernel_rfl) 3 (madeCells #[.int .u8 0] (len + 16)) (len + 16) (len + 16) (by omega) (by rw [size_madeCells]; omega)
  have hrow0 : Row w2 w.heap.size (xs ++ spare 0) := by
    unfold Row
    rw [hrow, toList_madeCells_one, bc_append]
    congr 4
    simp [spare, bc]
  clear hrow
  have hl64 : (len : Int) ≤ 9223372036854775000 := by omega
  go_enter Try.func10, Try.ntmps10
  go_wp2
  go_loopw [4] (fun i wr => ∃ k : Nat, k ≤ 16 ∧ i = .int .i64 ((len + k : Nat) : Int) ∧ Row wr w.heap.size (xs ++ spare k) ∧ Below w.heap.size w wr) (fun i _ => len + 16 - (intOf i).toNat)
  case atStart => exact ⟨0, by omega, rfl, hrow0, hbel⟩
  case round =>
    obtain ⟨k, hk, rfl, hr, hb⟩ := hrel
    by_cases hlt : k < 16
    · have hc := hr.cell (len + k) (by rw [List.length_append, spare_len k hk]; omega)
      generalize (xs ++ spare k).getD (len + k) 0 = old at hc
      have hf := hr.free (len + k)
      have hr1 := hr.set (len + k) 197
      rw [← hx, spare_step xs k hlt, hx] at hr1
      have hb1 : Below w.heap.size w (wr.setCell ⟨w.heap.size, len + k, none⟩ (.int .u8 197)) := hb.setCell (Nat.le_refl _) _
      replace hr1 := hide2' hr1
      have hi0 : (0 : Int) ≤ ((len + k : Nat) : Int) := by omega
      have hi1 : ((len + k : Nat) : Int) < (len : Int) + 16 := by omega
      clear hr hb hmk
      go_wp2
      go_roundw
      case rel => exact ⟨k + 1, by omega, by go_num, hr1.out, hb1⟩
      case measure => simp [intOf]; omega
    · obtain rfl : k = 16 := by omega
      clear hmk
      go_wp2
      go_ret
      exact ⟨rfl, hr, hb⟩

set_option maxHeartbeats 1000000 in
/-- still: true, where the bytes and the spare ones are as they were lent. -/
theorem still_any (g : Nat) (ao : Option Addr) (len cap : Nat) (xs : List Int) (w : World) (h : Sl w ao len cap xs) (hr : Row w g (xs ++ spare 16)) (hl : len + 16 ≤ 281474976710656) :
    Calls Try.prog 15 #[.slice (some ⟨g, 0, none⟩) len (len + 16), .slice ao len cap] w fun e w' => e = .returned (.bool true) ∧ Below w.heap.size w w' := by
  have hx := h.1
  have hl64 : (len : Int) ≤ 9223372036854775000 := by omega
  go_enter Try.func15, Try.ntmps15
  go_wp2
  go_loopw [6] (fun i wr => ∃ k q : Nat, k ≤ len + 16 ∧ i = .int .i64 (k : Int) ∧ wr = w.drewN q) (fun i _ => len + 16 - (intOf i).toNat)
  case atStart => exact ⟨0, 0, by omega, rfl, rfl⟩
  case round =>
    obtain ⟨k, q, hk, rfl, rfl⟩ := hrel
    by_cases h1 : k < len
    · have hc1 := hr.cell k (by rw [List.length_append]; omega)
      have e1 : (xs ++ spare 16).getD k 0 = xs.getD k 0 := by
        simp only [List.getD]
        rw [List.getElem?_append_left (by omega)]
      obtain ⟨b, off, rfl, _, hcell⟩ := h.2.2.2.2.2 (by omega)
      have hc2 := hcell k h1
      rw [e1] at hc1
      generalize xs.getD k 0 = x1 at *
      have hd : decide ((k : Int) < (len : Int)) = true := by simp; omega
      have hd2 : decide ((len : Int) ≤ (k : Int)) = false := by simp; omega
      have hd3 : decide (len ≤ k) = false := by simp; omega
      have hd4 : decide (k < len) = true := by simp; omega
      have hne : (x1 != x1) = false := by simp
      have hk64 : (k : Int) < (len : Int) := by omega
      have hk16 : (k : Int) < (len : Int) + 16 := by omega
      clear hcell h hr e1
      go_wp2
      go_quiet (fail)
      go_wp2
      go_roundw
      case rel => exact ⟨k + 1, _, by omega, by go_num, rfl⟩
      case measure => simp [intOf]; omega
    · by_cases h2 : k < len + 16
      · have hc1 := hr.cell k (by rw [List.length_append, spare_len 16 (by omega)]; omega)
        have e1 : (xs ++ spare 16).getD k 0 = 197 := by
          simp only [List.getD]
          rw [List.getElem?_append_right (by omega)]
          unfold spare
          rw [List.getElem?_append_left (by simp; omega), List.getElem?_replicate, if_pos (by omega)]
          rfl
        rw [e1] at hc1
        have hd : decide ((k : Int) < (len : Int)) = false := by simp; omega
        have hd2 : decide ((len : Int) ≤ (k : Int)) = true := by simp; omega
        have hd3 : decide (len ≤ k) = true := by simp; omega
        have hd4 : decide (k < len) = false := by simp; omega
        have hk64 : (len : Int) ≤ (k : Int) := by omega
        have hk16 : (k : Int) < (len : Int) + 16 := by omega
        clear h hr e1
        go_wp2
        go_quiet (fail)
        go_wp2
        go_roundw
        case rel => exact ⟨k + 1, _, by omega, by go_num, rfl⟩
        case measure => simp [intOf]; omega
      · have hk16 : ¬ (k : Int) < (len : Int) + 16 := by omega
        clear h hr
        go_wp2
        go_ret
        exact ⟨rfl, below_drewN (Below.refl _ _) _⟩
end Go.Proofs.Ytckfocfcfflcbaa
