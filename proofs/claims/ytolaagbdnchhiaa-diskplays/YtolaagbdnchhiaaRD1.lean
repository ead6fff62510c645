/-
  The document's own disk in memory: New, CutAt, may.
-/
import Derived.Test.YtolaagbdnchhiaaPInv
import Derived.BigQuiet
set_option linter.unusedVariables false
set_option linter.unusedSimpArgs false
namespace Go.Proofs.Ytolaagbdnchhiaa
open Go.RowKit Go.Maps

/-- Whose a block is. -/
inductive Ro where
  | out | dsk | fs | log | nam
  | fl (i : Nat)
  | byt (i : Nat)
/-- The disk's seven cells. -/
def Rk (w : World) (r : Nat) (vF vO vL vN : Value) (n cut : Int) (off : Bool) : Prop :=
  w.heap[r]? = some (.cells #[vF, vO, vL, vN, .int .i64 n, .int .i64 cut, .bool off] 66 (0, 0))
section
variable {w w' : World} {r : Nat} {vF vO vL vN : Value} {n cut : Int} {off : Bool}
theorem Rk.lt (h : Rk w r vF vO vL vN n cut off) : r < w.heap.size := (Array.getElem?_eq_some_iff.1 h).1
theorem Rk.cells (h : Rk w r vF vO vL vN n cut off) : w.cell? ⟨r, 0, none⟩ = some vF ∧ w.cell? ⟨r, 1, none⟩ = some vO ∧ w.cell? ⟨r, 2, none⟩ = some vL ∧ w.cell? ⟨r, 3, none⟩ = some vN ∧
    w.cell? ⟨r, 4, none⟩ = some (.int .i64 n) ∧ w.cell? ⟨r, 5, none⟩ = some (.int .i64 cut) ∧ w.cell? ⟨r, 6, none⟩ = some (.bool off) := by
  unfold Rk at h
  refine ⟨?_, ?_, ?_, ?_, ?_, ?_, ?_⟩ <;> (rw [Go.Joins.cell_of_block h]; rfl)
theorem Rk.free (h : Rk w r vF vO vL vN n cut off) (i : Nat) : w.frozen? ⟨r, i, none⟩ = false := Go.Joins.unfrozen_of_block h i
theorem Rk.same (h : Rk w r vF vO vL vN n cut off) (e : w'.heap[r]? = w.heap[r]?) : Rk w' r vF vO vL vN n cut off := e.trans h
theorem Rk.set (h : Rk w r vF vO vL vN n cut off) :
    (∀ v, Rk (w.setCell ⟨r, 0, none⟩ v) r v vO vL vN n cut off) ∧ (∀ v, Rk (w.setCell ⟨r, 1, none⟩ v) r vF v vL vN n cut off) ∧
    (∀ v, Rk (w.setCell ⟨r, 2, none⟩ v) r vF vO v vN n cut off) ∧ (∀ v, Rk (w.setCell ⟨r, 3, none⟩ v) r vF vO vL v n cut off) ∧
    (∀ x, Rk (w.setCell ⟨r, 4, none⟩ (.int .i64 x)) r vF vO vL vN x cut off) ∧ (∀ x, Rk (w.setCell ⟨r, 5, none⟩ (.int .i64 x)) r vF vO vL vN n x off) ∧
    (∀ x, Rk (w.setCell ⟨r, 6, none⟩ (.bool x)) r vF vO vL vN n cut x) := by
  unfold Rk at *
  refine ⟨fun v => ?_, fun v => ?_, fun v => ?_, fun v => ?_, fun v => ?_, fun v => ?_, fun v => ?_⟩ <;> (rw [Go.Joins.block_setCell h]; rfl)

set_option maxHeartbeats 1000000 in
theorem ref_new (w : World) : Calls Try.prog 10 #[] w fun e w' => e = .returned (.pointer (some ⟨w.heap.size, 0, none⟩)) ∧ Rk w' w.heap.size (.slice none 0 0) (.slice none 0 0) (.slice none 0 0) (.slice none 0 0) 0 (-1) false ∧ w'.heap.size = w.heap.size + 1 ∧ Below w.heap.size w w' := by
  go_enter Try.func10, Try.ntmps10
  go_wp2
  go_ret
  exact ⟨rfl, heap_alloc_new _ _, by simp, (Below.refl _ _).alloc (Nat.le_refl _) _⟩
set_option maxHeartbeats 1000000 in
theorem ref_cutAt (h : Rk w r vF vO vL vN n cut off) (x : Int) :
    Calls Try.prog 36 #[.pointer (some ⟨r, 0, none⟩), .int .i64 x] w fun e w' => e = .returned (.tuple #[]) ∧ Rk w' r vF vO vL vN n x false ∧ Fr (fun j => j = r) w w' := by
  obtain ⟨c0, c1, c2, c3, c4, c5, c6⟩ := h.cells
  have f5 := h.free 5
  have f6 := h.free 6
  have HD := hide2 h
  clear h
  go_enter Try.func36, Try.ntmps36
  go_wp2
  go_end0
  exact ⟨rfl, (HD.out.set.2.2.2.2.2.1 x).set.2.2.2.2.2.2 false, Fr.setCell (p := ⟨r, 6, none⟩) (Fr.setCell (p := ⟨r, 5, none⟩) (Fr.refl (fun j => j = r) w) (.inl rfl) _) (.inl rfl) _⟩

/-- Is the power gone, once it has been asked? -/
def offed (n cut : Int) (off : Bool) : Bool := off || (decide (0 ≤ cut) && decide (cut ≤ n))
set_option maxHeartbeats 2000000 in
theorem ref_may (h : Rk w r vF vO vL vN n cut off) :
    Calls Try.prog 57 #[.pointer (some ⟨r, 0, none⟩)] w fun e w' => e = .returned (.bool (!offed n cut off)) ∧ Rk w' r vF vO vL vN n cut (offed n cut off) ∧ Fr (fun j => j = r) w w' ∧ w'.heap.size = w.heap.size := by
  obtain ⟨c0, c1, c2, c3, c4, c5, c6⟩ := h.cells
  have f6 := h.free 6
  have HD := hide2 h
  clear h
  by_cases h0 : 0 ≤ cut
  · have d0 : decide (0 ≤ cut) = true := by simpa using h0
    by_cases h1 : cut ≤ n
    · have d1 : decide (cut ≤ n) = true := by simpa using h1
      have e : offed n cut off = true := by simp [offed, d0, d1]
      rw [e]
      go_enter Try.func57, Try.ntmps57
      go_wp2
      go_quiet (fail)
      go_wp2
      go_ret
      exact ⟨rfl, (HD.out.same (w' := w.drewN _) rfl).set.2.2.2.2.2.2 true, Fr.setCell (p := ⟨r, 6, none⟩) ((Fr.refl (fun j => j = r) w).drewN _) (.inl rfl) _, by simp⟩
    · have d1 : decide (cut ≤ n) = false := by simpa using h1
      have e : offed n cut off = off := by simp [offed, d0, d1]
      rw [e]
      go_enter Try.func57, Try.ntmps57
      go_wp2
      go_quiet (fail)
      go_wp2
      go_ret
      exact ⟨rfl, HD.out.same rfl, (Fr.refl _ w).drewN _, rfl⟩
  · have d0 : decide (0 ≤ cut) = false := by simpa using h0
    have e : offed n cut off = off := by simp [offed, d0]
    rw [e]
    go_enter Try.func57, Try.ntmps57
    go_wp2
    go_quiet (fail)
    go_wp2
    go_ret
    exact ⟨rfl, HD.out.same rfl, (Fr.refl _ w).drewN _, rfl⟩
end
end Go.Proofs.Ytolaagbdnchhiaa
