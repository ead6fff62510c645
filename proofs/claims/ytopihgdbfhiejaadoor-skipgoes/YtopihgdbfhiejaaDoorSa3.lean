/-
  behind: what stands behind a place.
-/
import Derived.Test.YtopihgdbfhiejaaDoorSa2
set_option linter.unusedVariables false
set_option linter.unusedSimpArgs false
namespace Go.Proofs.YtopihgdbfhiejaaDoor
open Go.RowKit Go.Maps

section
variable {w w' : World} {K : Nat → Prop} {lb d g gt tc : Nat} {sv : Value} {T : List Bool} {N : List Int} {m : Int} {F : List Nat} {s : Sl}
/-- What stands behind a place whose cell had a number. -/
def bh (s : Sl) (i num l : Nat) : Nat := if num = 0 then (s.at i).fs l else if s.tw.length ≤ num then 0 else num
set_option maxRecDepth 100000 in
set_option maxHeartbeats 2000000 in
theorem Lm.behind (h : Lm w K lb d g gt tc sv T N m F s) {i l num : Nat} (hi : i < s.tw.length) (hl : l < 8) (hnum : num < 4611686018427387904) :
    Calls Tryd.prog 55 #[.pointer (some ⟨lb, 0, none⟩), .agg #[.int .i64 (i : Int), .int .u64 (num : Int)], .int .i64 (l : Int)] w fun e w' => e = .returned (.int .i64 (bh s i num l : Nat)) ∧ Below w.heap.size w w' := by
  obtain ⟨x, hx⟩ : ∃ x : Int, x = (num : Int) := ⟨_, rfl⟩
  rw [← hx]
  obtain ⟨w1, hw1⟩ : ∃ y, y = w.alloc (.cells #[.int .i64 (i : Int), .int .u64 x] 79) := ⟨_, rfl⟩
  have hB : Below w.heap.size w w1 := by rw [hw1]; exact (Below.refl _ w).alloc (Nat.le_refl _) _
  have h1 := h.below hB
  obtain ⟨c0, c1, c2⟩ := h.lk.cells
  have cc := h.fsAt hi hl
  obtain ⟨hc1, hc2⟩ := h.cap
  unfold maxLen at hc2
  have hlt := h.lk.lt
  have hgl := (World.ownsRow.lt h.tw gt rfl).2
  have HB := hide2 hB
  clear h h1 hB
  have hn1 : (i : Int) < (s.tw.length : Int) := by omega
  have hn2 : (l : Int) < 8 := by omega
  unfold bh
  subst hw1
  generalize hN : s.tw.length = n at *
  have hwn : IntKind.u64.wrap (n : Int) = n := by rw [IntKind.wrap_u64]; omega
  by_cases h0 : num = 0
  · rw [if_pos h0]
    have d0 : x = 0 := by omega
    clear hx
    subst d0
    go_enter Tryd.func55, Tryd.ntmps55
    go_wp2
    go_region
    all_goals
      go_wp2
      go_ret
      exact ⟨rfl, HB.out.trans (below_drewN _ _ 1)⟩
  · rw [if_neg h0]
    have d0 : (x == 0) = false := by rw [beq_eq_false_iff_ne]; omega
    have d00 : ¬ x = 0 := by omega
    by_cases h2 : n ≤ num
    · rw [if_pos h2]
      have d1 : (n : Int) ≤ x := by omega
      clear hx
      go_enter Tryd.func55, Tryd.ntmps55
      go_wp2
      go_quiet (fail)
      go_wp2
      go_ret
      exact ⟨rfl, HB.out.trans (below_drewN _ _ _)⟩
    · rw [if_neg h2, ← hx]
      have d1 : ¬ (n : Int) ≤ x := by omega
      have d2 : x < (n : Int) := by omega
      have hwm : IntKind.i64.wrap x = x := by rw [IntKind.wrap_i64]; omega
      clear hx
      go_enter Tryd.func55, Tryd.ntmps55
      go_wp2
      go_quiet (fail)
      go_wp2
      go_ret
      exact ⟨rfl, HB.out.trans (below_drewN _ _ _)⟩

end
end Go.Proofs.YtopihgdbfhiejaaDoor
