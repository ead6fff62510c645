/-
  What the document's own Number, Put and PutText do.
-/
import Derived.Test.YteihabdldiopeaaNum
import Derived.Test.YteihabdldiopeaaKit2
set_option linter.unusedVariables false
set_option linter.unusedSimpArgs false
namespace Go.Proofs.Yteihabdldiopeaa
open Go.RowKit

theorem hide2 {p : Prop} (h : p) : Hid p := h

set_option maxRecDepth 100000 in
set_option maxHeartbeats 800000 in
theorem refNumber_any (n : Int) (w : World) (h0 : 0 ≤ n) (h1 : n ≤ 18446744073709551615) :
    Calls Try.prog 91 #[.int .u64 n] w fun e w' => ∃ v', e = .returned v' ∧ Own w' w.heap.size v' (enc n) ∧ Below w.heap.size w w' := by
  obtain ⟨i0, hi, hz0, hz1, hz2⟩ := info_parts Try.info5
  have hall : (enc n).length ≤ 10 := enc_len n
  generalize hA : enc n = all at hall
  have hrest : Rest all [] n := hA
  clear hA
  obtain ⟨base, hbase⟩ : ∃ b, b = w.heap.size := ⟨_, rfl⟩
  rw [← hbase]
  have hbs : base ≤ w.heap.size := by omega
  replace hbase := hide2 hbase
  go_enter Try.func91, Try.ntmps91
  go_wp2
  go_loopw [0, 3] (fun i v wr => ∃ (ys : List Int) (m : Int), i = .int .u64 m ∧ 0 ≤ m ∧ m ≤ 18446744073709551615 ∧ Own wr base v ys ∧ Rest all ys m ∧ Below base w wr) (fun i _ _ => (intOf i).toNat)
  case atStart => exact ⟨[], n, rfl, h0, h1, World.ownsRow_nil _ _ _ _, hrest, Below.refl _ _⟩
  case round =>
    obtain ⟨ys, m, rfl, hm0, hm1, hown, hr, hbel⟩ := hrel
    have hyl := hr.len
    have hsz := hbel.size
    by_cases hlt : 128 ≤ m
    · have hm4 : m % 128 + 128 < 256 := by omega
      go_wp2_with (at_builtin; refine wpList_append_own _ rfl _ _ 29 rfl base 5 i0 (.int .u8 0) 1 1 Try.underlying29 hi hz0 hz1 hz2 rfl (by decide) _ _ _ rfl (World.ownsRow.alloc hown _) ⟨wr.heap.size, 0, none⟩ 1 1 [.int .u8 (m % 128 + 128)] rfl rfl (cell_one_new _ _ _) (one_u8 _) (by unfold maxLen; omega) (by omega) (by simp; omega) ?_)
      intro v' w1 hown' hgrow _
      have hb1 : Below base w w1 := (hbel.alloc (by omega) _).trans ((Own.grown (World.ownsRow.alloc hown _) hgrow (by simp; omega)))
      have ho1 := Own.snoc hown'
      have hr1 := hr.step (by omega) hm1
      clear hown' hgrow hown hbel hr hsz
      go_wp2
      go_roundw
      case rel => exact ⟨_, _, rfl, by omega, by omega, ho1, hr1, hb1⟩
      case measure => simp [intOf]; omega
    · have hm2 : m % 256 = m := by omega
      go_wp2_with (at_builtin; refine wpList_append_own _ rfl _ _ 29 rfl base 5 i0 (.int .u8 0) 1 1 Try.underlying29 hi hz0 hz1 hz2 rfl (by decide) _ _ _ rfl (World.ownsRow.alloc hown _) ⟨wr.heap.size, 0, none⟩ 1 1 [.int .u8 m] rfl rfl (cell_one_new _ _ _) (one_u8 _) (by unfold maxLen; omega) (by omega) (by simp; omega) ?_)
      intro v' w1 hown' hgrow _
      have hb1 : Below base w w1 := (hbel.alloc (by omega) _).trans ((Own.grown (World.ownsRow.alloc hown _) hgrow (by simp; omega)))
      have ho1 := Own.snoc hown'
      have hr1 := hr.last (by omega)
      rw [hr1] at ho1
      clear hown' hgrow hown hbel hr hsz hr1
      go_wp2
      go_ret
      exact ⟨_, rfl, ho1, hb1⟩

set_option maxRecDepth 100000 in
set_option maxHeartbeats 400000 in
theorem refPut_any (ao : Option Addr) (len cap : Nat) (xs : List Int) (n : Int) (w : World) (h : Sl w ao len cap xs) (h0 : 0 ≤ n) (h1 : n ≤ 18446744073709551615) (hl : len + 100 ≤ 140737488355328) :
    Calls Try.prog 64 #[.slice ao len cap, .int .u64 n] w fun e w' => ∃ v', e = .returned v' ∧ Own w' w.heap.size v' (xs ++ enc n) ∧ Below w.heap.size w w' := by
  obtain ⟨i0, hi, hz0, hz1, hz2⟩ := info_parts Try.info5
  have hx := h.1
  have hel := enc_len n
  have hnil : Own w w.heap.size (.slice none 0 0) [] := World.ownsRow_nil _ _ _ _
  go_enter Try.func64, Try.ntmps64
  go_wp2_with (first | (at_builtin; refine wpList_append_sl rfl _ _ 29 rfl w.heap.size i0 Try.underlying29 hi hz0 hz1 hz2 _ _ rfl hnil ao len cap xs rfl h (by simp; omega) (Nat.le_refl _) ?_) | fail)
  intro v1 w1 hown1 hb1
  have hs1 := hb1.size
  replace hown1 : Own w1 w.heap.size v1 xs := hown1
  go_wp2_with fail
  refine (refNumber_any n w1 h0 h1).mono ?_
  rintro e w2 ⟨v2, rfl, hown2, hb2⟩
  have hb : Below w.heap.size w w2 := hb1.trans (hb2.mono hs1)
  have hs2 := hb.size
  have hown1' : Own w2 w.heap.size v1 xs := by
    refine World.ownsRow.kept hown1 (row := none) ⟨hb2.os, hb2.tape, hb2.output, hb2.size, fun k hk _ => hb2.block k hk⟩ ?_
    cases hv : v1.ownBlock <;> simp
  obtain ⟨a2, l2, c2, rfl, hsl2, _⟩ := hown2.sl' (enc_byt n h0)
  have hl2 := hsl2.1
  clear hown1 hown2 hb1 hb2
  go_wp2_with (first | (at_builtin; refine wpList_append_sl rfl _ _ 29 rfl w.heap.size i0 Try.underlying29 hi hz0 hz1 hz2 v1 _ rfl hown1' a2 l2 c2 (enc n) rfl hsl2 (by omega) hs2 ?_) | fail)
  intro v3 w3 hown3 hb3
  have hb4 := hb.trans hb3
  clear hb hb3 hown1' hsl2 hs2
  go_wp2
  go_ret
  exact ⟨_, rfl, hown3, hb4⟩

set_option maxRecDepth 100000 in
set_option maxHeartbeats 400000 in
theorem refPutText_any (ao : Option Addr) (len cap : Nat) (xs : List Int) (s : ByteArray) (w : World) (h : Sl w ao len cap xs) (hl : len + s.size + 200 ≤ 140737488355328) :
    Calls Try.prog 65 #[.slice ao len cap, .string s] w fun e w' => ∃ v', e = .returned v' ∧ Own w' w.heap.size v' (xs ++ enc s.size ++ sb s) ∧ Below w.heap.size w w' := by
  obtain ⟨i0, hi, hz0, hz1, hz2⟩ := info_parts Try.info5
  have hs63 : (s.size : Int) ≤ 9223372036854775807 := by omega
  have hx := h.1
  have hel := enc_len s.size
  generalize hA : xs ++ enc s.size ++ sb s = all
  replace hA := hide2 hA
  go_enter Try.func65, Try.ntmps65
  go_wp2_with fail
  refine (refPut_any ao len cap xs (s.size : Int) w h (by omega) (by omega) (by omega)).mono ?_
  rintro e w2 ⟨v2, rfl, hown2, hb⟩
  have hs2 := hb.size
  go_wp2_with (at_builtin; refine wpList_append_str rfl _ _ 29 rfl w.heap.size i0 Try.underlying29 Try.underlying9 hi hz0 hz1 hz2 v2 _ rfl hown2 s rfl (by rw [List.length_append]; omega) hs2 ?_)
  intro v3 w3 hown3 hb3
  have hb4 := hb.trans hb3
  rw [← List.append_assoc, hA.out] at hown3
  clear hown2 hb hb3 hs2
  go_wp2
  go_ret
  exact ⟨_, rfl, hown3, hb4⟩
end Go.Proofs.Yteihabdldiopeaa
