/-
  How the document puts records.
-/
import Derived.Test.YteihabdldiopeaaE10
import Derived.Test.YteihabdldiopeaaRef
set_option linter.unusedVariables false
set_option linter.unusedSimpArgs false
namespace Go.Proofs.Yteihabdldiopeaa
open Go.RowKit Go.Maps

/-- A row of bytes of the call's own, with nothing but bytes in it, not long. -/
structure Ob (w : World) (base : Nat) (v : Value) (xs : List Int) : Prop where
  o : Own w base v xs
  b : Byt xs
  l : xs.length ≤ 900000

section
variable {w : World} {base : Nat} {v : Value} {xs : List Int}
set_option maxRecDepth 100000
set_option maxHeartbeats 4000000

theorem refNum_any (n : Int) (h : Ob w base v xs) (h0 : 0 ≤ n) (h1 : n ≤ 9223372036854775807) :
    Calls Try.prog 35 #[v, .int .i64 n] w fun e w' => ∃ v', e = .returned v' ∧ Own w' w.heap.size v' (xs ++ enc n) ∧ Below w.heap.size w w' := by
  obtain ⟨a, l, c, rfl, hsl, _⟩ := h.o.sl' h.b
  have hl := hsl.1
  have hll := h.l
  have HP := hide3 (refPut_any a l c xs n w hsl h0 (by omega) (by omega))
  clear h hsl
  go_enter Try.func35, Try.ntmps35
  go_wp2_with fail
  refine HP.out.mono ?_
  rintro e w2 ⟨v2, rfl, ho, hb⟩
  go_wp2
  go_ret
  exact ⟨_, rfl, ho, hb⟩
theorem refTxt_any (s : ByteArray) (h : Ob w base v xs) (hs : s.size ≤ 1000) :
    Calls Try.prog 36 #[v, .string s] w fun e w' => ∃ v', e = .returned v' ∧ Own w' w.heap.size v' (xs ++ tx s) ∧ Below w.heap.size w w' := by
  obtain ⟨a, l, c, rfl, hsl, _⟩ := h.o.sl' h.b
  have hl := hsl.1
  have hll := h.l
  have HP := hide3 (refPutText_any a l c xs s w hsl (by omega))
  clear h hsl
  go_enter Try.func36, Try.ntmps36
  go_wp2_with fail
  refine HP.out.mono ?_
  rintro e w2 ⟨v2, rfl, ho, hb⟩
  rw [List.append_assoc] at ho
  go_wp2
  go_ret
  exact ⟨_, rfl, ho, hb⟩
theorem ob_byte (w : World) (y : Int) (h : 0 ≤ y ∧ y ≤ 255) : Ob (w.alloc (.cells #[.int .u8 y] 5)) w.heap.size (.slice (some ⟨w.heap.size, 0, none⟩) 1 1) [y] :=
  ⟨own_byte w y, Byt.cons h Byt.nil, by simp⟩

theorem RPutRow_any (r : Rw) :
    Calls Try.prog 18 #[r.v] w fun e w' => ∃ v', e = .returned (.tuple #[v', .int .i64 (er (rightR r))]) ∧ Own w' w.heap.size v' (bt (rightR r) (rb r)) ∧ Below w.heap.size w w' := by
  have hA : Below w.heap.size w (w.alloc (.cells #[.string r.key, .string r.val, .int .i64 r.time] 36)) := (Below.refl _ _).alloc (Nat.le_refl _) _
  have hz : (w.alloc (.cells #[.string r.key, .string r.val, .int .i64 r.time] 36)).heap.size = w.heap.size + 1 := by simp
  have xb : (w.alloc (.cells #[.string r.key, .string r.val, .int .i64 r.time] 36)).heap[w.heap.size]? = some (.cells #[.string r.key, .string r.val, .int .i64 r.time] 36 (0, 0)) := heap_alloc_new w _
  have hright := refRightRow_any (w.alloc (.cells #[.string r.key, .string r.val, .int .i64 r.time] 36)) r
  unfold Rw.v at *
  cases hr : rightR r with
  | false =>
    go_enter Try.func18, Try.ntmps18
    go_wp2_with fail
    refine hright.mono ?_
    rintro e w1 ⟨rfl, hb1⟩
    rw [hr]
    have hB1 : Below w.heap.size w w1 := hA.trans (hb1.mono (by omega))
    clear hright
    go_wp2
    go_ret2
    exact ⟨_, rfl, World.ownsRow_nil _ _ _ _, hB1⟩
  | true =>
    have hk : r.key.size ≤ 16 ∧ r.val.size ≤ 64 ∧ 0 ≤ r.time ∧ r.time ≤ 1099511627775 := by
      simp only [rightR, isK, isV, isT, Bool.and_eq_true, decide_eq_true_eq] at hr
      omega
    obtain ⟨hk1, hk2, ht0, ht1⟩ := hk
    have htl := tx_len r.key
    have htl2 := tx_len r.val
    go_enter Try.func18, Try.ntmps18
    go_wp2_with fail
    refine hright.mono ?_
    rintro e w1 ⟨rfl, hb1⟩
    rw [hr]
    clear hright
    have xb1 := (hb1.block w.heap.size (by omega)).trans xb
    have hz1 := hb1.size
    have xb1' := (blk_alloc' w1 (.cells #[.int .u8 82] 5) w.heap.size (by omega)).trans xb1
    have hB1 : Below w.heap.size w (w1.alloc (.cells #[.int .u8 82] 5)) := (hA.trans (hb1.mono (by omega))).alloc (by omega) _
    have hal := (Below.refl w1.heap.size w1).alloc (Nat.le_refl _) (.cells #[.int .u8 82] 5)
    have hzz := hal.size
    have ob1 := ob_byte w1 82 (by omega)
    have d10 : (w1.alloc (.cells #[.int .u8 82] 5)).cell? ⟨w.heap.size, 0, none⟩ = some (.string r.key) := by rw [Go.Joins.cell_of_block xb1']; rfl
    have d11 : (w1.alloc (.cells #[.int .u8 82] 5)).cell? ⟨w.heap.size, 1, none⟩ = some (.string r.val) := by rw [Go.Joins.cell_of_block xb1']; rfl
    have d12 : (w1.alloc (.cells #[.int .u8 82] 5)).cell? ⟨w.heap.size, 2, none⟩ = some (.int .i64 r.time) := by rw [Go.Joins.cell_of_block xb1']; rfl
    go_wp2_with fail
    refine (refTxt_any r.key ob1 (by omega)).mono ?_
    rintro e w2 ⟨v2, rfl, ho2, hb2⟩
    have xb2 := (hb2.block w.heap.size (by omega)).trans xb1'
    have hz2 := hb2.size
    have hB2 : Below w.heap.size w w2 := hB1.trans (hb2.mono (by omega))
    have ob2 : Ob w2 _ v2 _ := ⟨ho2, ob1.b.append (tx_byt _), by simp; omega⟩
    have d20 : w2.cell? ⟨w.heap.size, 0, none⟩ = some (.string r.key) := by rw [Go.Joins.cell_of_block xb2]; rfl
    have d21 : w2.cell? ⟨w.heap.size, 1, none⟩ = some (.string r.val) := by rw [Go.Joins.cell_of_block xb2]; rfl
    have d22 : w2.cell? ⟨w.heap.size, 2, none⟩ = some (.int .i64 r.time) := by rw [Go.Joins.cell_of_block xb2]; rfl
    go_wp2_with fail
    refine (refTxt_any r.val ob2 (by omega)).mono ?_
    rintro e w3 ⟨v3, rfl, ho3, hb3⟩
    have xb3 := (hb3.block w.heap.size (by omega)).trans xb2
    have hz3 := hb3.size
    have hB3 : Below w.heap.size w w3 := hB2.trans (hb3.mono (by omega))
    have ob3 : Ob w3 _ v3 _ := ⟨ho3, ob2.b.append (tx_byt _), by simp; omega⟩
    have d30 : w3.cell? ⟨w.heap.size, 0, none⟩ = some (.string r.key) := by rw [Go.Joins.cell_of_block xb3]; rfl
    have d31 : w3.cell? ⟨w.heap.size, 1, none⟩ = some (.string r.val) := by rw [Go.Joins.cell_of_block xb3]; rfl
    have d32 : w3.cell? ⟨w.heap.size, 2, none⟩ = some (.int .i64 r.time) := by rw [Go.Joins.cell_of_block xb3]; rfl
    go_wp2_with fail
    refine (refNum_any r.time ob3 ht0 (by omega)).mono ?_
    rintro e w4 ⟨v4, rfl, ho4, hb4⟩
    have xb4 := (hb4.block w.heap.size (by omega)).trans xb3
    have hz4 := hb4.size
    have hB4 : Below w.heap.size w w4 := hB3.trans (hb4.mono (by omega))
    go_wp2
    go_ret2
    exact ⟨_, rfl, (by simpa [bt, rb, List.append_assoc] using ho4.low (base' := w.heap.size) (by omega)), hB4⟩

theorem RPutGone_any (g : Gn) :
    Calls Try.prog 20 #[g.v] w fun e w' => ∃ v', e = .returned (.tuple #[v', .int .i64 (er (rightG g))]) ∧ Own w' w.heap.size v' (bt (rightG g) (gb g)) ∧ Below w.heap.size w w' := by
  have hA : Below w.heap.size w (w.alloc (.cells #[.string g.key, .int .i64 g.time] 39)) := (Below.refl _ _).alloc (Nat.le_refl _) _
  have hz : (w.alloc (.cells #[.string g.key, .int .i64 g.time] 39)).heap.size = w.heap.size + 1 := by simp
  have xb : (w.alloc (.cells #[.string g.key, .int .i64 g.time] 39)).heap[w.heap.size]? = some (.cells #[.string g.key, .int .i64 g.time] 39 (0, 0)) := heap_alloc_new w _
  have hright := refRightGone_any (w.alloc (.cells #[.string g.key, .int .i64 g.time] 39)) g
  unfold Gn.v at *
  cases hr : rightG g with
  | false =>
    go_enter Try.func20, Try.ntmps20
    go_wp2_with fail
    refine hright.mono ?_
    rintro e w1 ⟨rfl, hb1⟩
    rw [hr]
    have hB1 : Below w.heap.size w w1 := hA.trans (hb1.mono (by omega))
    clear hright
    go_wp2
    go_ret2
    exact ⟨_, rfl, World.ownsRow_nil _ _ _ _, hB1⟩
  | true =>
    have hk : g.key.size ≤ 16 ∧ 0 ≤ g.time ∧ g.time ≤ 1099511627775 := by
      simp only [rightG, isK, isT, Bool.and_eq_true, decide_eq_true_eq] at hr
      omega
    obtain ⟨hk1, ht0, ht1⟩ := hk
    have htl := tx_len g.key
    go_enter Try.func20, Try.ntmps20
    go_wp2_with fail
    refine hright.mono ?_
    rintro e w1 ⟨rfl, hb1⟩
    rw [hr]
    clear hright
    have xb1 := (hb1.block w.heap.size (by omega)).trans xb
    have hz1 := hb1.size
    have xb1' := (blk_alloc' w1 (.cells #[.int .u8 71] 5) w.heap.size (by omega)).trans xb1
    have hB1 : Below w.heap.size w (w1.alloc (.cells #[.int .u8 71] 5)) := (hA.trans (hb1.mono (by omega))).alloc (by omega) _
    have hal := (Below.refl w1.heap.size w1).alloc (Nat.le_refl _) (.cells #[.int .u8 71] 5)
    have hzz := hal.size
    have ob1 := ob_byte w1 71 (by omega)
    have d10 : (w1.alloc (.cells #[.int .u8 71] 5)).cell? ⟨w.heap.size, 0, none⟩ = some (.string g.key) := by rw [Go.Joins.cell_of_block xb1']; rfl
    have d11 : (w1.alloc (.cells #[.int .u8 71] 5)).cell? ⟨w.heap.size, 1, none⟩ = some (.int .i64 g.time) := by rw [Go.Joins.cell_of_block xb1']; rfl
    go_wp2_with fail
    refine (refTxt_any g.key ob1 (by omega)).mono ?_
    rintro e w2 ⟨v2, rfl, ho2, hb2⟩
    have xb2 := (hb2.block w.heap.size (by omega)).trans xb1'
    have hz2 := hb2.size
    have hB2 : Below w.heap.size w w2 := hB1.trans (hb2.mono (by omega))
    have ob2 : Ob w2 _ v2 _ := ⟨ho2, ob1.b.append (tx_byt _), by simp; omega⟩
    have d20 : w2.cell? ⟨w.heap.size, 0, none⟩ = some (.string g.key) := by rw [Go.Joins.cell_of_block xb2]; rfl
    have d21 : w2.cell? ⟨w.heap.size, 1, none⟩ = some (.int .i64 g.time) := by rw [Go.Joins.cell_of_block xb2]; rfl
    go_wp2_with fail
    refine (refNum_any g.time ob2 ht0 (by omega)).mono ?_
    rintro e w3 ⟨v3, rfl, ho3, hb3⟩
    have xb3 := (hb3.block w.heap.size (by omega)).trans xb2
    have hz3 := hb3.size
    have hB3 : Below w.heap.size w w3 := hB2.trans (hb3.mono (by omega))
    go_wp2
    go_ret2
    exact ⟨_, rfl, (by simpa [bt, gb, List.append_assoc] using ho3.low (base' := w.heap.size) (by omega)), hB3⟩
end
end Go.Proofs.Yteihabdldiopeaa
