/-
  The document's own arena: Free, Used, Do.
-/
import Derived.Test.YtnpmldlnckbppaaDoorR1
set_option linter.unusedVariables false
set_option linter.unusedSimpArgs false
namespace Go.Proofs.YtnpmldlnckbppaaDoor
open Go.RowKit

theorem grown_fr {w w' : World} {B j : Nat} (h : w.grownBy w' (some j)) (hj : B ≤ j) : Fr (fun k => B ≤ k) w w' := Fr.grown h (fun k e => by cases e; exact hj)

section
variable {w w' : World} {B r n : Nat} {R : List Bool} {H : List Int} {m : Int} {hv tv : Value}

/-- One of the flags is another one. -/
theorem Rw.flag {g cap : Nat} (h : Rw w B r n R H m hv (.slice (some ⟨g, 0, none⟩) R.length cap)) (c : Nat) (b : Bool) : Rw (w.setCell ⟨g, c, none⟩ (.bool b)) B r n (R.set c b) H m hv (.slice (some ⟨g, 0, none⟩) R.length cap) := by
  obtain ⟨h1, h2⟩ := h.tr.stored c (.bool b)
  refine ⟨?_, ?_, ?_, by simpa using h.len, h.low, h.num, by simpa using h.top, h.big⟩
  · exact (h2.block r h.lt (fun e => h.nt e.symm)).trans h.blk
  · simpa [List.map_set] using h1
  · have := h.hr.kept h2 (.inr (h.nn g rfl))
    simpa using this
/-- One of the numbers is another one. -/
theorem Rw.numb {g cap : Nat} (h : Rw w B r n R H m (.slice (some ⟨g, 0, none⟩) R.length cap) tv) (c : Nat) (x : Int) (hx : 0 ≤ x ∧ x ≤ 18446744073709551615) : Rw (w.setCell ⟨g, c, none⟩ (.int .u64 x)) B r n R (H.set c x) m (.slice (some ⟨g, 0, none⟩) R.length cap) tv := by
  obtain ⟨h1, h2⟩ := h.hr.stored c (.int .u64 x)
  refine ⟨?_, ?_, ?_, by simpa using h.len, h.low, fun i => ?_, h.top, h.big⟩
  · exact (h2.block r h.lt (fun e => h.nh e.symm)).trans h.blk
  · exact h.tr.kept h2 (.inr (fun e => h.nn g e rfl))
  · simpa [List.map_set] using h1
  · rw [getD_set]
    split
    · exact hx
    · exact h.num i
theorem Rw.many (h : Rw w B r n R H m hv tv) (x : Int) : Rw (w.setCell ⟨r, 3, none⟩ (.int .i64 x)) B r n R H x hv tv := by
  have hg : w.grownBy (w.setCell ⟨r, 3, none⟩ (.int .i64 x)) (some r) := ⟨rfl, rfl, rfl, by simp, fun k _ hk => heap_setCell_other w ⟨r, 3, none⟩ k _ (fun e => hk (by simp [e]))⟩
  refine { h with blk := ?_, tr := h.tr.kept hg (.inr h.nt), hr := h.hr.kept hg (.inr h.nh) }
  rw [Go.Joins.block_setCell h.blk]
  rfl

end
end Go.Proofs.YtnpmldlnckbppaaDoor
