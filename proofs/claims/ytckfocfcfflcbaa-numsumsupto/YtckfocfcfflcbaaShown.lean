/-
  The law's own 'shown' returns true.
-/
import Derived.Test.YtckfocfcfflcbaaNum
set_option linter.unusedVariables false
set_option linter.unusedSimpArgs false
namespace Go.Proofs.Ytckfocfcfflcbaa
open Go.RowKit

theorem enc300 : enc 300 = [172, 2] := by decide

set_option maxHeartbeats 400000 in
/-- shown: true. -/
theorem shown_any (w : World) : Calls Try.prog 9 #[] w fun e w' => e = .returned (.bool true) ∧ Below w.heap.size w w' := by
  have hb0 : Below w.heap.size w (w.alloc (.cells #[.int .u8 7] 5)) := (Below.refl _ _).alloc (Nat.le_refl _) _
  have hs0 : Sl (w.alloc (.cells #[.int .u8 7] 5)) (some ⟨w.heap.size, 0, none⟩) 1 1 [7] :=
    ⟨rfl, Nat.le_refl _, by unfold maxLen; omega, Byt.cons (by decide) Byt.nil, (fun e => by cases e), fun _ => ⟨w.heap.size, 0, rfl, by simp, fun i hi => by
      obtain rfl : i = 0 := by omega
      simp⟩⟩
  go_enter Try.func9, Try.ntmps9
  go_wp2_with fail
  refine (put_any _ _ _ [7] 300 _ hs0 (by decide) (by decide) (by decide)).mono ?_
  rintro e w1 ⟨v1, rfl, hown, hb1⟩
  have hb : Below w.heap.size w w1 := hb0.trans (hb1.mono (by simp))
  replace hown := (show ([7] ++ enc 300 : List Int) = [7, 172, 2] from by rw [enc300]; rfl) ▸ hown
  obtain ⟨ao, cap, rfl, hsl, _⟩ := hown.sl (Byt.cons (by decide) (Byt.cons (by decide) (Byt.cons (by decide) Byt.nil)))
  have hstr : (convert 22 9 (.slice ao 3 cap)).run Try.prog w1 = .ok (.string (strOfNums [7, 172, 2])) w1 := hsl.str (P := Try.prog) 22 Try.underlying22 Try.underlying5 Try.underlying9
  clear hown hb1 hb0 hs0 hsl
  go_wp2
  go_ret
  exact ⟨ret_bool (by decide +kernel), hb⟩
end Go.Proofs.Ytckfocfcfflcbaa
