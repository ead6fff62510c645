/-
  The names that there are.
-/
import Derived.Test.YtolaagbdnchhiaaCrash
set_option linter.unusedVariables false
set_option linter.unusedSimpArgs false
namespace Go.Proofs.Ytolaagbdnchhiaa
open Go.RowKit Go.Maps Go.Sort Go.Shelf

set_option maxHeartbeats 2000000 in
theorem names_any {w : World} {d b n : Nat} {syn since : Value} {ops cutAt : Int} {cuts gone : Bool} {D : DataW Value} (h : Dk w d (.map (some b)) syn since ops cutAt cuts gone) (ho : w.ownsMap Try.prog 9 RV b n D) (hD : Maps.size D ≤ 1000000) :
    Calls Try.prog 23 #[.pointer (some ⟨d, 0, none⟩)] w fun e w' => ∃ (v : Value) (ss : List (List UInt8)), e = .returned v ∧ ss.Perm (strKeys D) ∧
      w'.ownsRow w.heap.size 9 1 v ss.length ((ss.mergeSort (fun x y => decide (x ≤ y))).map encStr) ∧ (v = .slice none 0 0 ↔ ss = []) ∧ Below w.heap.size w w' := by
  refine (callsIn_wide (n := 6)).1 ?_
  obtain ⟨c0, c1, c2, c3, c4, c5, c6⟩ := h.cells
  have cK : ∀ W, CallsIn Fence.wide 5 Try.prog 56 #[.map (some b)] W _ := fun W => keys_any (some b) W
  have cS := sortedKeys_any b n D RV w ho (by unfold maxLen; omega) (by omega)
  have hfK : Fence.wide.fn 56 := trivial
  have hfS : Fence.wide.fn 55 := trivial
  refine callsIn_of_wp Try.func23 rfl trivial ?_ rfl
  simp only [Try.ntmps23, List.size_toArray, List.length_cons, List.length_nil, Nat.reduceAdd, Nat.reduceSub, Array.replicate_succ, Array.replicate_zero, List.push_toArray, List.append_toArray, List.nil_append, List.cons_append]
  gi_wp2_with (first
    | (gi_at_call 56; refine (cK _).mono ?_; rintro e w' ⟨rfl, rfl⟩)
    | (gi_at_call 55; refine cS.mono ?_; rintro e w' ⟨v, ss, rfl, hS, hrow, hnil, hb⟩))
  go_ret
  exact ⟨v, ss, rfl, hS, Go.Joins.ownsRow_le hrow (by simp), hnil, ((Below.refl _ w).alloc (Nat.le_refl _) _).trans (hb.mono (by simp))⟩
end Go.Proofs.Ytolaagbdnchhiaa
