/-
  What unblocked does: a frame's bytes, not yet in blocks.
-/
import Derived.Test.YtaibldodlbaknaaF2
set_option linter.unusedVariables false
set_option linter.unusedSimpArgs false
namespace Go.Proofs.Ytaibldodlbaknaa
open Go.RowKit

set_option maxHeartbeats 1000000 in
/-- unblocked: a frame's bytes, not yet in blocks. -/
theorem unblocked_any (ao : Option Addr) (len cap : Nat) (xs : List Int) (seq : Int) (w : World) (h : Sl w ao len cap xs) (h0 : 0 ≤ seq) (h1 : seq ≤ 18446744073709551615) (hl : len ≤ 65536) :
    Calls Try.prog 21 #[.int .u64 seq, .slice ao len cap] w fun e w' => ∃ v', e = .returned v' ∧ Own w' w.heap.size v' (st seq.toNat xs) ∧ Below w.heap.size w w' := by
  obtain ⟨i0, hi, hz0, hz1, hz2⟩ := info_parts Try.info5
  have hx := h.1
  have hbyt := h.2.2.2.1
  have hmk : ∀ u : World, (Instr.makeSlice 22 (.int .i64 0) (.int .i64 (16 + (len : Int) + 4))).run Try.prog u = .ok (.slice (some ⟨u.heap.size, 0, none⟩) 0 (len + 20)) (u.alloc (.cells (madeCells #[.int .u8 0] (len + 20)) 5)) := by
    intro u
    have := run_make (P := Try.prog) u 22 5 i0 (.int .u8 0) Try.underlying22 hi hz0 .i64 .i64 0 (16 + (len : Int) + 4) (by omega) (by omega) (by rw [hz2]; omega) (by omega)
    rw [this, hz1]
    have e1 : (16 + (len : Int) + 4).toNat = len + 20 := by omega
    simp only [e1, Nat.mul_one, Value.cells, Int.toNat_zero]
  have hown0 : Own (w.alloc (.cells (madeCells #[.int .u8 0] (len + 20)) 5)) w.heap.size (.slice (some ⟨w.heap.size, 0, none⟩) 0 (len + 20)) [] :=
    World.ownsRow_made w _ (len + 20) (Nat.le_refl _) (by unfold maxLen; omega) (by simp [size_madeCells])
  have hb0 : Below w.heap.size w (w.alloc (.cells (madeCells #[.int .u8 0] (len + 20)) 5)) := (Below.refl _ _).alloc (Nat.le_refl _) _
  have hst : st seq.toNat xs = sm (sm (hd seq.toNat len) ++ xs) := by unfold st; rw [hx]
  go_enter Try.func21, Try.ntmps21
  go_wp2_with fail
  have hs0 := hb0.size
  generalize w.alloc (.cells (madeCells #[.int .u8 0] (len + 20)) 5) = w0 at *
  refine (appendLow_any w.heap.size _ [] seq 8 w0 hown0 hs0 h0 h1 (by omega) (by simp)).mono ?_
  rintro e w1 ⟨v1, rfl, hown1, hb1⟩
  have hb01 := hb0.trans hb1
  have hs1 := hb01.size
  clear hmk hown0 hb0 hb1
  go_wp2_with fail
  refine (appendLow_any w.heap.size v1 _ (len : Int) 4 w1 hown1 hs1 (by omega) (by omega) (by omega) (by simp [lo_len])).mono ?_
  rintro e w2 ⟨v2, rfl, hown2, hb2⟩
  have hb02 := hb01.trans hb2
  have hs2 := hb02.size
  rw [Int.toNat_natCast, List.nil_append] at hown2
  replace hown2 : Own w2 w.heap.size v2 (hd seq.toNat len) := hown2
  clear hown1 hb01 hb2
  go_wp2_with fail
  refine (appendSum_any w.heap.size v2 _ w2 hown2 (hd_byt _ _) hs2 (by rw [hd_len]; omega)).mono ?_
  rintro e w3 ⟨v3, rfl, hown3, hb3⟩
  have hb03 := hb02.trans hb3
  have hs3 := hb03.size
  have hsl3 := h.below hb03
  clear hown2 hb02 hb3
  go_wp2_with (first | (at_builtin; refine wpList_append_sl rfl _ _ 22 rfl w.heap.size i0 Try.underlying22 hi hz0 hz1 hz2 _ _ rfl hown3 ao len cap xs rfl hsl3 (by rw [sm_len, hd_len]; omega) hs3 ?_) | fail)
  intro v4 w4 hown4 hb4
  have hb04 := hb03.trans hb4
  have hs4 := hb04.size
  clear hown3 hb03 hb4 hsl3
  go_wp2_with fail
  refine (appendSum_any w.heap.size v4 _ w4 hown4 ((sm_byt (hd_byt _ _)).append hbyt) hs4 (by rw [List.length_append, sm_len, hd_len]; omega)).mono ?_
  rintro e w5 ⟨v5, rfl, hown5, hb5⟩
  have hb05 := hb04.trans hb5
  clear hown4 hb04 hb5
  go_wp2
  go_ret
  exact ⟨_, rfl, by rw [hst]; exact hown5, hb05⟩
end Go.Proofs.Ytaibldodlbaknaa
