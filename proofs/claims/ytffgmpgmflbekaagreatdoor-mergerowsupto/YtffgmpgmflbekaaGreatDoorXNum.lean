/-
  What the calls of package num do, each by itself: the contracts of bits.Len64, size, withRoom, appendNumber, Put, and of the law's own 'shown'.
-/
import Derived.Test.YtffgmpgmflbekaaGreatDoorRows
import Derived.Test.YtffgmpgmflbekaaGreatDoorXKit
import Derived.Handy
set_option linter.unusedVariables false
set_option linter.unusedSimpArgs false
namespace Go.Proofs.YtffgmpgmflbekaaGreatDoor.EL
open Go.RowKit

theorem one_u8 (x : Int) : ∀ u ∈ [Value.int .u8 x], u.oneCell' = true := by intro u hu; simp at hu; subst hu; rfl
theorem ret_boolB {a b : Bool} (h : a = b) : Ending.returned (.bool a) = .returned (.bool b) := by rw [h]
theorem ret_intB {k : IntKind} {a b : Int} (h : a = b) : Ending.returned (.int k a) = .returned (.int k b) := by rw [h]

theorem tab_bd (k : Int) (b : UInt8) (h0 : 0 ≤ k) (h1 : k ≤ 56) : 0 ≤ wrap64 (k + wrap64 (b.toNat : Int)) ∧ wrap64 (k + wrap64 (b.toNat : Int)) ≤ 400 := by
  have := b.toNat_lt
  unfold wrap64
  omega
theorem tab_bd1 (b : UInt8) : 0 ≤ wrap64 (wrap64 (b.toNat : Int)) ∧ wrap64 (wrap64 (b.toNat : Int)) ≤ 400 := by
  have := b.toNat_lt
  unfold wrap64
  omega

set_option maxHeartbeats 1600000 in
set_option maxRecDepth 100000 in
/-- bits.Len64: a small number (which one is not asked here: it is room alone). -/
theorem len64_any (x : Int) (w : World) (h0 : 0 ≤ x) (h1 : x ≤ 18446744073709551615) :
    Calls Tryz.prog 228 #[.int .u64 x] w fun e w' => (∃ r : Int, e = .returned (.int .i64 r) ∧ 0 ≤ r ∧ r ≤ 400) ∧ w' = w := by
  go_enter Tryz.func228, Tryz.ntmps228
  go_wp2
  all_goals go_ret
  all_goals refine ⟨⟨_, rfl, ?_⟩, rfl⟩
  all_goals first | exact tab_bd _ _ (by decide) (by decide) | exact tab_bd1 _

theorem or_one_bd (n : Int) (h0 : 0 ≤ n) (h1 : n ≤ 18446744073709551615) : 0 ≤ bits BinOp.or IntKind.u64 n 1 ∧ bits BinOp.or IntKind.u64 n 1 ≤ 18446744073709551615 := by
  rw [u64_or n 1 h0 (by omega) (by decide) (by decide)]
  have : n.toNat ||| (1 : Int).toNat < 2 ^ 64 := Nat.or_lt_two_pow (by omega) (by decide)
  omega

set_option maxHeartbeats 400000 in
/-- size: a small number. -/
theorem size_any (n : Int) (w : World) (h0 : 0 ≤ n) (h1 : n ≤ 18446744073709551615) :
    Calls Tryz.prog 329 #[.int .u64 n] w fun e w' => (∃ r : Nat, e = .returned (.int .i64 r) ∧ r ≤ 60) ∧ w' = w := by
  have hb := or_one_bd n h0 h1
  go_enter Tryz.func329, Tryz.ntmps329
  go_wp2_with fail
  refine (len64_any _ w hb.1 hb.2).mono ?_
  rintro e w' ⟨⟨r, rfl, hr0, hr1⟩, rfl⟩
  clear hb
  go_wp2
  go_ret
  exact ⟨⟨((r + 6) / 7).toNat, ret_intB (by go_arith), by omega⟩, rfl⟩

theorem Tryz.size5 (u : World) : (Go.sizeOf 5).run Tryz.prog u = .ok 1 u := by kernel_rfl
theorem Tryz.infoU8 : (Tryz.prog.info? 5).map (fun i => (i.zero, i.size, i.bytes)) = some (some (.int .u8 0), 1, 1) := by kernel_rfl

set_option maxHeartbeats 400000 in
/-- withRoom: the bytes in new memory, with so much room behind them. -/
theorem room_any (ao : Option Addr) (len cap : Nat) (xs : List Int) (r : Nat) (w : World) (h : Sl w ao len cap xs) (hr : len + r ≤ 281474976710656) :
    Calls Tryz.prog 328 #[.slice ao len cap, .int .i64 r] w fun e w' => e = .returned (.slice (some ⟨w.heap.size, 0, none⟩) len (len + r)) ∧ Own w' w.heap.size (.slice (some ⟨w.heap.size, 0, none⟩) len (len + r)) xs ∧ Below w.heap.size w w' := by
  obtain ⟨i0, hi, hz0, hz1, hz2⟩ := info_parts Tryz.infoU8
  have hmk : ∀ u : World, (Instr.makeSlice 43 (.int .i64 (len : Int)) (.int .i64 ((len : Int) + (r : Int)))).run Tryz.prog u = .ok (.slice (some ⟨u.heap.size, 0, none⟩) len (len + r)) (u.alloc (.cells (madeCells #[.int .u8 0] (len + r)) 5)) := by
    intro u
    have := run_make (P := Tryz.prog) u 43 5 i0 (.int .u8 0) Tryz.underlying43 hi hz0 .i64 .i64 len (len + r) (by omega) (by omega) (by rw [hz2]; omega) (by omega)
    rw [this, hz1]
    have e1 : ((len : Int) + (r : Int)).toNat = len + r := by omega
    simp only [e1, Nat.mul_one, Int.toNat_natCast, Value.cells]
  obtain ⟨w2, hcp, hrow, hbel⟩ := h.copy (P := Tryz.prog) 43 Tryz.underlying43 (by kernel_rfl) 3 (madeCells #[.int .u8 0] (len + r)) (len + r) (by rw [size_madeCells]; omega)
  have hx := h.1
  have hown : Own w2 w.heap.size (.slice (some ⟨w.heap.size, 0, none⟩) len (len + r)) xs := by
    subst hx
    refine Own.of_block hrow (Nat.le_refl _) ?_ (by unfold maxLen; omega)
    simp [size_madeCells]
  clear hrow
  go_enter Tryz.func328, Tryz.ntmps328
  go_wp2
  go_ret
  exact ⟨rfl, hown, hbel⟩

set_option maxHeartbeats 800000 in
/-- appendNumber: the number's bytes behind an own row. -/
theorem app_any (base : Nat) (v : Value) (xs : List Int) (n : Int) (w : World) (h : Own w base v xs) (hbase : base ≤ w.heap.size) (h0 : 0 ≤ n) (h1 : n ≤ 18446744073709551615) (hl : xs.length + 10 ≤ 140737488355328) :
    Calls Tryz.prog 327 #[v, .int .u64 n] w fun e w' => ∃ v', e = .returned v' ∧ Own w' base v' (xs ++ enc n) ∧ Below base w w' := by
  obtain ⟨i0, hi, hz0, hz1, hz2⟩ := info_parts Tryz.infoU8
  have hlen := enc_len n
  have hall : (xs ++ enc n).length ≤ 140737488355328 := by simp; omega
  generalize hA : xs ++ enc n = all at hall
  have hrest : Rest all xs n := hA
  clear hA hlen
  go_enter Tryz.func327, Tryz.ntmps327
  go_wp2
  go_loopw [0, 1] (fun v i wr => ∃ (ys : List Int) (m : Int), i = .int .u64 m ∧ 0 ≤ m ∧ m ≤ 18446744073709551615 ∧ Own wr base v ys ∧ Rest all ys m ∧ Below base w wr) (fun _ i _ => (intOf i).toNat)
  case atStart => exact ⟨xs, n, rfl, h0, h1, h, hrest, Below.refl _ _⟩
  case round =>
    obtain ⟨ys, m, rfl, hm0, hm1, hown, hr, hbel⟩ := hrel
    have hyl := hr.len
    have hsz := hbel.size
    by_cases hlt : 127 < m
    · have hor := or128 m hm0
      go_wp2_with (at_builtin; refine wpList_append_own _ rfl _ _ 43 rfl base 5 i0 (.int .u8 0) 1 1 Tryz.underlying43 hi hz0 hz1 hz2 rfl (by decide) _ _ _ rfl (World.ownsRow.alloc hown _) ⟨wr.heap.size, 0, none⟩ 1 1 [.int .u8 (m % 128 + 128)] rfl rfl (cell_one_new _ _ _) (one_u8 _) (by unfold maxLen; omega) (by omega) (by simp; omega) ?_)
      intro v' w1 hown' hgrow _
      have hb1 : Below base w w1 := (hbel.alloc (by omega) _).trans ((Own.grown (World.ownsRow.alloc hown _) hgrow (by simp; omega)))
      have ho1 := Own.snoc hown'
      have hr1 := hr.step (by omega) hm1
      clear hown' hgrow hown hor hbel hr hsz
      go_wp2
      go_roundw
      case rel => exact ⟨_, _, rfl, by omega, by omega, ho1, hr1, hb1⟩
      case measure => simp [intOf]; omega
    · have hm2 : m % 256 = m := by omega
      go_wp2_with (at_builtin; refine wpList_append_own _ rfl _ _ 43 rfl base 5 i0 (.int .u8 0) 1 1 Tryz.underlying43 hi hz0 hz1 hz2 rfl (by decide) _ _ _ rfl (World.ownsRow.alloc hown _) ⟨wr.heap.size, 0, none⟩ 1 1 [.int .u8 m] rfl rfl (cell_one_new _ _ _) (one_u8 _) (by unfold maxLen; omega) (by omega) (by simp; omega) ?_)
      intro v' w1 hown' hgrow _
      have hb1 : Below base w w1 := (hbel.alloc (by omega) _).trans ((Own.grown (World.ownsRow.alloc hown _) hgrow (by simp; omega)))
      have ho1 := Own.snoc hown'
      have hr1 := hr.last (by omega)
      rw [hr1] at ho1
      clear hown' hgrow hown hbel hr hsz hr1
      go_wp2
      go_ret
      exact ⟨_, rfl, ho1, hb1⟩

set_option maxHeartbeats 400000 in
/-- Put: the bytes, and behind them the number's, in new memory. -/
theorem put_any (ao : Option Addr) (len cap : Nat) (xs : List Int) (n : Int) (w : World) (h : Sl w ao len cap xs) (h0 : 0 ≤ n) (h1 : n ≤ 18446744073709551615) (hl : len + 100 ≤ 140737488355328) :
    Calls Tryz.prog 288 #[.slice ao len cap, .int .u64 n] w fun e w' => ∃ v', e = .returned v' ∧ Own w' w.heap.size v' (xs ++ enc n) ∧ Below w.heap.size w w' := by
  go_enter Tryz.func288, Tryz.ntmps288
  go_wp2_with fail
  refine (size_any n w h0 h1).mono ?_
  rintro e w' ⟨⟨r, rfl, hr⟩, rfl⟩
  go_wp2_with fail
  refine (room_any ao len cap xs r _ h (by omega)).mono ?_
  rintro e w1 ⟨rfl, hown, hb1⟩
  have hx := h.1
  have hs1 := hb1.size
  go_wp2_with fail
  refine (app_any _ _ xs n w1 hown hs1 h0 h1 (by omega)).mono ?_
  rintro e w2 ⟨v2, rfl, hown2, hb2⟩
  have hb : Below w'.heap.size w' w2 := hb1.trans hb2
  clear hown hb1 hb2 hs1 hx
  go_wp2
  go_ret
  exact ⟨_, rfl, hown2, hb⟩

end Go.Proofs.YtffgmpgmflbekaaGreatDoor.EL
