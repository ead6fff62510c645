/-
  What the document's own number, value and Frame do.
-/
import Derived.Test.YtaibldodlbaknaaF9
set_option linter.unusedVariables false
set_option linter.unusedSimpArgs false
namespace Go.Proofs.Ytaibldodlbaknaa
open Go.RowKit

set_option maxHeartbeats 800000 in
theorem refNumber_any (n : Int) (k : Nat) (w : World) (h0 : 0 ≤ n) (h1 : n ≤ 18446744073709551615) (hk : k ≤ 8) :
    Calls Try.prog 33 #[.int .u64 n, .int .i64 (k : Int)] w fun e w' => ∃ v', e = .returned v' ∧ Own w' w.heap.size v' (lo k n.toNat) ∧ Below w.heap.size w w' := by
  obtain ⟨i0, hi, hz0, hz1, hz2⟩ := info_parts Try.info5
  have hall : (lo k n.toNat).length ≤ 8 := by simp [lo_len]; omega
  generalize hA : lo k n.toNat = all at hall
  have hrest : [] ++ lo (k - 0) n.toNat = all := hA
  clear hA
  obtain ⟨base, hbase⟩ : ∃ b, b = w.heap.size := ⟨_, rfl⟩
  rw [← hbase]
  have hbs : base ≤ w.heap.size := by omega
  replace hbase := hF hbase
  go_enter Try.func33, Try.ntmps33
  go_wp2
  go_loopw [0, 5, 6] (fun i v j wr => ∃ (ys : List Int) (m : Int) (q : Nat), q ≤ k ∧ j = .int .i64 (q : Int) ∧ i = .int .u64 m ∧ 0 ≤ m ∧ m ≤ 18446744073709551615 ∧ Own wr base v ys ∧ Hid (ys ++ lo (k - q) m.toNat = all) ∧ Below base w wr) (fun _ _ j _ => k - (intOf j).toNat)
  case atStart => exact ⟨[], n, 0, by omega, rfl, rfl, h0, h1, World.ownsRow_nil _ _ _ _, hrest, Below.refl _ _⟩
  case round =>
    obtain ⟨ys, m, q, hq, rfl, rfl, hm0, hm1, hown, hr, hbel⟩ := hrel
    have hsz := hbel.size
    by_cases hlt : q < k
    · have hlti : (q : Int) < (k : Int) := by omega
      have hstep : lo (k - q) m.toNat = (m % 256) :: lo (k - (q + 1)) (m / 256).toNat := by
        obtain ⟨r, hr⟩ : ∃ r, k - q = r + 1 := ⟨k - q - 1, by omega⟩
        rw [hr, show k - (q + 1) = r from by omega, lo]
        congr 1
        · omega
        · congr 1
          omega
      have hr1 : Hid ((ys ++ [m % 256]) ++ lo (k - (q + 1)) (m / 256).toNat = all) := by
        unfold Hid
        rw [← hr.out, hstep]
        simp
      have hyl : ys.length + 1 ≤ all.length := by
        rw [← hr1.out]
        simp
      go_wp2_with (at_builtin; refine wpList_append_own _ rfl _ _ 22 rfl base 5 i0 (.int .u8 0) 1 1 Try.underlying22 hi hz0 hz1 hz2 rfl (by decide) _ _ _ rfl (World.ownsRow.alloc hown _) ⟨wr.heap.size, 0, none⟩ 1 1 [.int .u8 (m % 256)] rfl rfl (cell_one_new _ _ _) (one_u8 _) (by unfold maxLen; omega) (by omega) (by simp; omega) ?_)
      intro v' w1 hown' hgrow _
      have hb1 : Below base w w1 := (hbel.alloc (by omega) _).trans ((Own.grown (World.ownsRow.alloc hown _) hgrow (by simp; omega)))
      have ho1 := Own.snoc hown'
      clear hown' hgrow hown hbel hr hsz hstep
      go_wp2
      go_roundw
      case rel => exact ⟨_, _, q + 1, by omega, by go_num, rfl, by omega, by omega, ho1, hr1, hb1⟩
      case measure => simp [intOf]; omega
    · have hlti : ¬ (q : Int) < (k : Int) := by omega
      have hr1 : ys = all := by
        rw [← hr.out, show k - q = 0 from by omega]
        simp [lo]
      rw [hr1] at hown
      go_wp2
      go_ret
      exact ⟨_, rfl, hown, hbel⟩

theorem va_drop (xs : List Int) (i : Nat) (h : i < xs.length) : va (xs.drop i) = (xs.getD i 0).toNat + 256 * va (xs.drop (i + 1)) := by
  rw [List.drop_eq_getElem_cons h, va]
  simp [List.getD, List.getElem?_eq_getElem h]

set_option maxHeartbeats 800000 in
theorem refValue_any (ao : Option Addr) (len cap : Nat) (xs : List Int) (w : World) (h : Sl w ao len cap xs) (hl : len ≤ 8) :
    Calls Try.prog 28 #[.slice ao len cap] w fun e w' => e = .returned (.int .u64 ((va xs : Nat) : Int)) ∧ w' = w := by
  have hbyt := h.2.2.2.1
  have hxl := h.1
  by_cases h0 : len = 0
  · subst h0
    obtain rfl : xs = [] := List.eq_nil_of_length_eq_zero hxl
    go_enter Try.func28, Try.ntmps28
    go_wp2
    refine wp_loop_rounds 1 ?_
    rw [rounds_succ]
    go_wp2
    go_ret
    exact ⟨rfl, rfl⟩
  obtain ⟨b, off, rfl, hbl, hcell⟩ := h.2.2.2.2.2 (by omega)
  replace hcell := hF hcell
  clear h
  go_enter Try.func28, Try.ntmps28
  go_wp2
  go_loop [3, 4] (fun v i => ∃ k d : Nat, k ≤ len ∧ i = .int .i64 ((k : Int) - 1) ∧ v = .int .u64 (d : Int) ∧ Hid (d = va (xs.drop k))) (fun _ i => (intOf i + 1).toNat)
  case atStart => exact ⟨len, 0, by omega, rfl, rfl, by unfold Hid; rw [List.drop_eq_nil_of_le (by omega)]; rfl⟩
  case round =>
    obtain ⟨k, d, hk, rfl, rfl, HD⟩ := hrel
    by_cases hlt : 0 < k
    · obtain ⟨m, rfl⟩ : ∃ m, k = m + 1 := ⟨k - 1, by omega⟩
      have em : (((m + 1 : Nat) : Int) - 1) = (m : Int) := by omega
      rw [em]
      have hc2 := hcell.out m (by omega)
      have hxb := hbyt.getD m
      have hdl : (xs.getD m 0).toNat + 256 * d < 18446744073709551616 := by
        have h1 := va_lt (xs.drop m) (hbyt.drop m)
        have h2 : 256 ^ (xs.drop m).length ≤ 256 ^ 8 := Nat.pow_le_pow_right (by decide) (by simp; omega)
        have h3 : (256 : Nat) ^ 8 = 18446744073709551616 := by decide
        rw [va_drop xs m (by omega), ← HD.out] at h1
        omega
      have HE : Hid ((xs.getD m 0).toNat + 256 * d = va (xs.drop m)) := by
        unfold Hid
        rw [va_drop xs m (by omega), HD.out]
      generalize xs.getD m 0 = x at *
      obtain ⟨hx0, hx1⟩ := hxb
      have hmi : (m : Int) < (len : Int) := by omega
      clear em
      go_wp2
      go_round
      case rel => exact ⟨m, x.toNat + 256 * d, by omega, rfl, by go_num, HE⟩
      case measure => simp [intOf]
    · obtain rfl : k = 0 := by omega
      go_wp2
      go_ret
      exact ⟨ret_int (by rw [HD.out]; rfl), rfl⟩
end Go.Proofs.Ytaibldodlbaknaa
