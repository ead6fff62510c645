/-
  The walk of the law NumReads.
-/
import Derived.Test.YtckfocfcfflcbaaShown
import Derived.Test.YtckfocfcfflcbaaRefTake
import Derived.Test.YtckfocfcfflcbaaLent
set_option linter.unusedVariables false
set_option linter.unusedSimpArgs false
namespace Go.Proofs.Ytckfocfcfflcbaa
open Go.RowKit

theorem tkVal_shape (o : Option (Int × Int)) : ∃ n p ok, tkVal o = .tuple #[.int .u64 n, .int .i64 p, .bool ok] := by
  cases o with
  | none => exact ⟨_, _, _, rfl⟩
  | some p => exact ⟨_, _, _, rfl⟩
theorem ttVal_shape (o : Option (List Int × Int)) : ∃ s p ok, ttVal o = .tuple #[.string s, .int .i64 p, .bool ok] := by
  cases o with
  | none => exact ⟨_, _, _, rfl⟩
  | some p => exact ⟨_, _, _, rfl⟩

set_option maxHeartbeats 1000000 in
theorem reads_walk (ao : Option Addr) (len cap : Nat) (xs : List Int) (at_ most : Int) (w : World) (h : Sl w ao len cap xs) (hl : cap ≤ reachBytes)
    (hm : -9223372036854775808 ≤ most ∧ most ≤ 9223372036854775807) :
    Calls Try.prog 4 #[.slice ao len cap, .int .i64 at_, .int .i64 most] w fun e w' => e = .returned (.bool true) ∧ Below w.heap.size w w' := by
  have hx := h.1
  have hlc := h.2.1
  have hbyt := h.2.2.2.1
  have hl2 : len + 16 ≤ 281474976710656 := by unfold reachBytes at hl; omega
  obtain ⟨n, p, ok, hA⟩ := tkVal_shape (tk xs at_)
  obtain ⟨s, q, is, hB⟩ := ttVal_shape (tt xs at_ most)
  go_enter Try.func4, Try.ntmps4
  go_wp2_with fail
  refine (shown_any w).mono ?_
  rintro e w1 ⟨rfl, hb1⟩
  have h1' := h.below hb1
  go_wp2_with fail
  refine (lent_any ao len cap xs w1 h1' hl2).mono ?_
  rintro e w2 ⟨rfl, hrow2, hb2⟩
  have hb02 : Below w.heap.size w w2 := hb1.trans (hb2.mono hb1.size)
  obtain ⟨g, hg⟩ : ∃ g, g = w1.heap.size := ⟨_, rfl⟩
  rw [← hg] at hrow2
  have hA2 := h.below hb02
  have hI2 : Sl w2 (some ⟨g, 0, none⟩) len (len + 16) xs := by
    have := hrow2.sl (hbyt.append (spare_byt 16)) len (by simp; omega) (by simp [spare_len]; unfold maxLen; omega)
    rw [List.length_append, spare_len 16 (by omega), hx] at this
    rwa [List.take_left' hx] at this
  rw [← hg]
  clear hg hb1 hb2 h1'
  go_wp2_with fail
  refine (take_any (some ⟨g, 0, none⟩) len (len + 16) xs at_ w2 hI2).mono ?_
  rintro e w3 ⟨rfl, rfl⟩
  rw [hA]
  go_wp2_with fail
  refine (refTake_any ao len cap xs at_ w3 hA2).mono ?_
  rintro e w4 ⟨rfl, rfl⟩
  rw [hA]
  go_wp2_with fail
  refine (takeText_any (some ⟨g, 0, none⟩) len (len + 16) xs at_ most w4 hI2 hm.1 hm.2).mono ?_
  rintro e w5 ⟨rfl, rfl⟩
  rw [hB]
  go_wp2_with fail
  refine (refTakeText_any ao len cap xs at_ most w5 hA2 hm.1 hm.2).mono ?_
  rintro e w6 ⟨rfl, rfl⟩
  rw [hB]
  clear hA hB hI2
  go_wp2_with fail
  refine (still_any g ao len cap xs w6 hA2 hrow2 hl2).mono ?_
  rintro e w7 ⟨rfl, hb7⟩
  have hb07 := hb02.trans (hb7.mono hb02.size)
  clear hA2 hrow2 hb02 hb7
  go_wp2
  go_ret
  exact ⟨by first | rfl | (simp; done), hb07⟩
end Go.Proofs.Ytckfocfcfflcbaa
