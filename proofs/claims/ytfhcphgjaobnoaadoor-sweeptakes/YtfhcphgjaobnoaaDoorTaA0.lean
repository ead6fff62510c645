/-
  Version: a version is made. (Printed by gen_taA.py.)
-/
import Derived.Test.YtfhcphgjaobnoaaDoorTa9
set_option linter.unusedVariables false
set_option linter.unusedSimpArgs false
namespace Go.Proofs.YtfhcphgjaobnoaaDoor
open Go.RowKit Go.Maps

theorem strClone_none (w : World) : Calls Tryd.prog 83 #[.string .empty] w fun e w' => e = .returned (.string .empty) ∧ w' = w := by
  have h0 : (ByteArray.empty).size = 0 := rfl
  go_enter Tryd.func83, Tryd.ntmps83
  go_wp2
  go_ret
  exact ⟨rfl, rfl⟩
theorem clone_all (s : ByteArray) (w : World) (hlim : s.size ≤ 64) : Calls Tryd.prog 56 #[.string s] w fun e w' => e = .returned (.string s) ∧ Below w.heap.size w w' := by
  by_cases h : 1 ≤ s.size
  · exact clone_any s w h (by omega)
  · have hs : s = .empty := by
      have : s.size = 0 := by omega
      apply ByteArray.ext
      exact Array.eq_empty_of_size_eq_zero this
    subst hs
    have HC := hide2 (strClone_none w)
    go_enter Tryd.func56, Tryd.ntmps56
    go_wp2_with fail
    refine HC.out.mono ?_
    rintro e w' ⟨rfl, q⟩
    subst q
    go_wp2
    go_ret
    exact ⟨rfl, Below.refl _ _⟩

end Go.Proofs.YtfhcphgjaobnoaaDoor
