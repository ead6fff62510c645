/-
  What the small functions of package frame do: numbers as bytes, sums.
-/
import Derived.Test.YtaibldodlbaknaaCrc
import Derived.Test.YtaibldodlbaknaaKit2
import Derived.Test.YtaibldodlbaknaaFSpec
import Derived.Deep.QuietTactic
import Derived.BigQuiet
set_option linter.unusedVariables false
set_option linter.unusedSimpArgs false
namespace Go.Proofs.Ytaibldodlbaknaa
open Go.RowKit

theorem hF {p : Prop} (h : p) : Hid p := h

/-- One slice as the parts. -/
theorem Pl.one {w : World} {ao : Option Addr} {len cap : Nat} {xs : List Int} (h : Sl w ao len cap xs) (t : TypeId) : Pl (w.alloc (.cells #[.slice ao len cap] t)) (some ⟨w.heap.size, 0, none⟩) 1 1 [xs] := by
  have hb : Below w.heap.size w (w.alloc (.cells #[.slice ao len cap] t)) := (Below.refl _ _).alloc (Nat.le_refl _) _
  refine ⟨rfl, Nat.le_refl _, by unfold maxLen; omega, fun _ => ⟨w.heap.size, 0, rfl, by simp, fun i hi => ?_⟩⟩
  obtain rfl : i = 0 := by omega
  exact ⟨ao, len, cap, by simp, h.below hb⟩

/-- An own row while others do. -/
theorem Own.up {w w' : World} {base : Nat} {v : Value} {xs : List Int} (h : Own w base v xs) (hb : Below w.heap.size w w') : Own w' base v xs := by
  refine World.ownsRow.kept h (row := none) ⟨hb.os, hb.tape, hb.output, hb.size, fun k hk _ => hb.block k hk⟩ ?_
  cases hv : v.ownBlock <;> simp

/-- 'n | uint64(x) << (8 * i)', where nothing of n lies so high. -/
theorem or_shl8 (acc : Nat) (x : Int) (k : Nat) (h1 : acc < 256 ^ k) (hx0 : 0 ≤ x) (hx1 : x ≤ 255) (h9 : k < 8) :
    bits BinOp.or IntKind.u64 (acc : Int) (IntKind.u64.wrap (x * 2 ^ (8 * k))) = ((acc + x.toNat * 256 ^ k : Nat) : Int) := by
  have e7 : (2 : Int) ^ (8 * k) = 256 ^ k := by rw [Int.pow_mul]; rfl
  have eN : (2 : Nat) ^ (8 * k) = 256 ^ k := by rw [Nat.pow_mul]
  rw [e7]
  have hle : x.toNat * 256 ^ k ≤ 255 * 256 ^ 7 := Nat.mul_le_mul (by omega) (Nat.pow_le_pow_right (by decide) (by omega))
  have hacc : 256 ^ k ≤ 256 ^ 7 := Nat.pow_le_pow_right (by decide) (by omega)
  have e8 : (256 : Nat) ^ 7 = 72057594037927936 := by decide
  rw [e8] at hle hacc
  have ex : x * 256 ^ k = ((x.toNat * 256 ^ k : Nat) : Int) := by
    rw [Int.natCast_mul, Int.toNat_of_nonneg hx0]
    simp
  rw [ex]
  generalize hY : x.toNat * 256 ^ k = y at *
  rw [IntWalk.u64_in (y : Int) (by omega), u64_or (acc : Int) (y : Int) (by omega) (by omega) (by omega) (by omega), Int.toNat_natCast, Int.toNat_natCast]
  have e4 : acc ||| y = y + acc := by
    rw [← hY, Nat.mul_comm, ← eN, Nat.or_comm, Nat.two_pow_add_eq_or_of_lt (by rw [eN]; exact h1)]
  rw [e4]
  omega

set_option maxHeartbeats 800000 in
/-- lowFirst: the number of bytes. -/
theorem lowFirst_any (ao : Option Addr) (len cap : Nat) (xs : List Int) (w : World) (h : Sl w ao len cap xs) (hl : len ≤ 8) :
    Calls Try.prog 27 #[.slice ao len cap] w fun e w' => e = .returned (.int .u64 ((va xs : Nat) : Int)) ∧ w' = w := by
  have hbyt := h.2.2.2.1
  have hxl := h.1
  by_cases h0 : len = 0
  · subst h0
    obtain rfl : xs = [] := List.eq_nil_of_length_eq_zero hxl
    go_enter Try.func27, Try.ntmps27
    go_wp2
    refine wp_loop_rounds 1 ?_
    rw [rounds_succ]
    go_wp2
    go_ret
    exact ⟨rfl, rfl⟩
  obtain ⟨b, off, rfl, hbl, hcell⟩ := h.2.2.2.2.2 (by omega)
  replace hcell := hF hcell
  clear h
  go_enter Try.func27, Try.ntmps27
  go_wp2
  go_loop [3, 4, 5, 8] (fun v _ _ i => ∃ k d : Nat, k ≤ len ∧ i = .int .i64 (k : Int) ∧ v = .int .u64 (d : Int) ∧ Hid (d = va (xs.take k))) (fun _ _ _ i => len - (intOf i).toNat)
  case atStart => exact ⟨0, 0, by omega, rfl, rfl, rfl⟩
  case round =>
    obtain ⟨k, d, hk, rfl, rfl, HD⟩ := hrel
    by_cases hlt : k < len
    · have hlti : (k : Int) < (len : Int) := by omega
      have hc2 := hcell.out k hlt
      have hxb := hbyt.getD k
      have hdl : d < 256 ^ k := by
        have := va_lt (xs.take k) (hbyt.take k)
        rw [List.length_take, Nat.min_eq_left (by omega)] at this
        rw [HD.out]
        exact this
      have hor := or_shl8 d (xs.getD k 0) k hdl hxb.1 hxb.2 (by omega)
      have HE : Hid (d + (xs.getD k 0).toNat * 256 ^ k = va (xs.take (k + 1))) := by
        unfold Hid
        rw [List.take_succ_eq_append_getElem (by omega : k < xs.length), va_snoc, HD.out, List.length_take, Nat.min_eq_left (by omega)]
        congr 2
        simp [List.getD, List.getElem?_eq_getElem (by omega : k < xs.length)]
      generalize xs.getD k 0 = x at *
      obtain ⟨hx0, hx1⟩ := hxb
      generalize d + x.toNat * 256 ^ k = d2 at *
      go_wp2
      go_round
      case rel => exact ⟨k + 1, d2, by omega, by go_num, rfl, HE⟩
      case measure => simp [intOf]; omega
    · have hlti : ¬ (k : Int) < (len : Int) := by omega
      go_wp2
      go_ret
      exact ⟨ret_int (by rw [HD.out, List.take_of_length_le (by omega)]), rfl⟩

set_option maxHeartbeats 800000 in
/-- appendLowFirst: so many bytes of a number behind an own row. -/
theorem appendLow_any (base : Nat) (v : Value) (xs : List Int) (n : Int) (k : Nat) (w : World) (h : Own w base v xs) (hbase : base ≤ w.heap.size) (h0 : 0 ≤ n) (h1 : n ≤ 18446744073709551615) (hk : k ≤ 8) (hl : xs.length + 10 ≤ 140737488355328) :
    Calls Try.prog 30 #[v, .int .u64 n, .int .i64 (k : Int)] w fun e w' => ∃ v', e = .returned v' ∧ Own w' base v' (xs ++ lo k n.toNat) ∧ Below base w w' := by
  obtain ⟨i0, hi, hz0, hz1, hz2⟩ := info_parts Try.info5
  have hall : (xs ++ lo k n.toNat).length ≤ 140737488355328 := by simp [lo_len]; omega
  generalize hA : xs ++ lo k n.toNat = all at hall
  have hrest : xs ++ lo (k - 0) n.toNat = all := hA
  clear hA
  go_enter Try.func30, Try.ntmps30
  go_wp2
  go_loopw [0, 1, 8] (fun v i j wr => ∃ (ys : List Int) (m : Int) (q : Nat), q ≤ k ∧ j = .int .i64 (q : Int) ∧ i = .int .u64 m ∧ 0 ≤ m ∧ m ≤ 18446744073709551615 ∧ Own wr base v ys ∧ Hid (ys ++ lo (k - q) m.toNat = all) ∧ Below base w wr) (fun _ _ j _ => k - (intOf j).toNat)
  case atStart => exact ⟨xs, n, 0, by omega, rfl, rfl, h0, h1, h, hrest, Below.refl _ _⟩
  case round =>
    obtain ⟨ys, m, q, hq, rfl, rfl, hm0, hm1, hown, hr, hbel⟩ := hrel
    have hsz := hbel.size
    by_cases hlt : q < k
    · have hlti : (q : Int) < (k : Int) := by omega
      have hstep : lo (k - q) m.toNat = (m % 256) :: lo (k - (q + 1)) (m / 256).toNat := by
        obtain ⟨r, hr⟩ : ∃ r, k - q = r + 1 := ⟨k - q - 1, by omega⟩
        rw [hr, show k - (q + 1) = r from by omega, lo]
        congr 1
        · omega
        · congr 1
          omega
      have hr1 : Hid ((ys ++ [m % 256]) ++ lo (k - (q + 1)) (m / 256).toNat = all) := by
        unfold Hid
        rw [← hr.out, hstep]
        simp
      have hyl : ys.length + 1 ≤ all.length := by
        rw [← hr1.out]
        simp
      go_wp2_with (at_builtin; refine wpList_append_own _ rfl _ _ 22 rfl base 5 i0 (.int .u8 0) 1 1 Try.underlying22 hi hz0 hz1 hz2 rfl (by decide) _ _ _ rfl (World.ownsRow.alloc hown _) ⟨wr.heap.size, 0, none⟩ 1 1 [.int .u8 (m % 256)] rfl rfl (cell_one_new _ _ _) (one_u8 _) (by unfold maxLen; omega) (by omega) (by simp; omega) ?_)
      intro v' w1 hown' hgrow _
      have hb1 : Below base w w1 := (hbel.alloc (by omega) _).trans ((Own.grown (World.ownsRow.alloc hown _) hgrow (by simp; omega)))
      have ho1 := Own.snoc hown'
      clear hown' hgrow hown hbel hr hsz hstep
      go_wp2
      go_roundw
      case rel => exact ⟨_, _, q + 1, by omega, by go_num, rfl, by omega, by omega, ho1, hr1, hb1⟩
      case measure => simp [intOf]; omega
    · have hlti : ¬ (q : Int) < (k : Int) := by omega
      have hr1 : ys = all := by
        rw [← hr.out, show k - q = 0 from by omega]
        simp [lo]
      rw [hr1] at hown
      go_wp2
      go_ret
      exact ⟨_, rfl, hown, hbel⟩

set_option maxHeartbeats 800000 in
/-- appendSum: the sum behind an own row. -/
theorem appendSum_any (base : Nat) (v : Value) (xs : List Int) (w : World) (h : Own w base v xs) (hb : Byt xs) (hbase : base ≤ w.heap.size) (hl : xs.length + 10 ≤ 140737488355328) :
    Calls Try.prog 31 #[v] w fun e w' => ∃ v', e = .returned v' ∧ Own w' base v' (sm xs) ∧ Below base w w' := by
  obtain ⟨ao, len, cap, rfl, hsl, _⟩ := h.sl' hb
  have hp := Pl.one hsl 35
  have hc := crc_lt hb
  have hown : Own (w.alloc (.cells #[.slice ao len cap] 35)) base (.slice ao len cap) xs := World.ownsRow.alloc h _
  have hb1 : Below base w (w.alloc (.cells #[.slice ao len cap] 22)) := (Below.refl _ _).alloc hbase _
  go_enter Try.func31, Try.ntmps31
  go_wp2_with fail
  refine (crc_any _ 1 1 [xs] _ (Pl.one hsl 22)).mono ?_
  rintro e w2 ⟨rfl, rfl⟩
  simp only [List.flatten_cons, List.flatten_nil, List.append_nil]
  have hown : Own (w.alloc (.cells #[.slice ao len cap] 22)) base (.slice ao len cap) xs := World.ownsRow.alloc h _
  have hs1 := hb1.size
  generalize w.alloc (.cells #[.slice ao len cap] 22) = w1 at *
  clear hp hsl h
  go_wp2_with fail
  refine (appendLow_any base (.slice ao len cap) xs (crc xs : Nat) 4 w1 hown (by omega) (by omega) (by omega) (by omega) hl).mono ?_
  rintro e w3 ⟨v3, rfl, hown3, hb3⟩
  rw [Int.toNat_natCast] at hown3
  have hb4 := hb1.trans hb3
  clear hown hb3
  go_wp2
  go_ret
  exact ⟨_, rfl, hown3, hb4⟩
end Go.Proofs.Ytaibldodlbaknaa
