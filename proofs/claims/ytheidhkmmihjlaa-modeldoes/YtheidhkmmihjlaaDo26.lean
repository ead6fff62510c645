/-
  Which commits are right: the program's loop and the document's.
-/
import Derived.Test.YtheidhkmmihjlaaDo12
import Derived.Test.YtheidhkmmihjlaaDo1
import Derived.Lib.SmallJoins
import Derived.Lib.OwnKind
set_option linter.unusedVariables false
set_option linter.unusedSimpArgs false
namespace Go.Proofs.Ytheidhkmmihjlaa
open Go.RowKit

theorem ehide3 {p : Prop} (h : p) : Hid p := h
def Wr.cells (x : Wr) : List Value := [.string x.key, .string x.val, .bool x.gone]
/-- One element's three cells. -/
theorem Seq.three {α : Type} {f : α → List Value} {w : World} {ao : Option Addr} {len cap : Nat} {xs : List α} (h : Seq 3 f w ao len cap xs) (hl : 0 < len) :
    ∃ b off, ao = some ⟨b, off, none⟩ ∧ b < w.heap.size ∧ ∀ (i : Nat) (x : α) (c0 c1 c2 : Value), xs[i]? = some x → f x = [c0, c1, c2] → w.cell? ⟨b, off + i * 3, none⟩ = some c0 ∧ w.cell? ⟨b, off + i * 3 + 1, none⟩ = some c1 ∧ w.cell? ⟨b, off + i * 3 + 2, none⟩ = some c2 := by
  obtain ⟨b, off, e, hb, hc⟩ := h.2.2.2 hl
  refine ⟨b, off, e, hb, fun i x c0 c1 c2 hx hf => ?_⟩
  have := hc i x hx
  rw [hf] at this
  exact ⟨this 0 c0 rfl, this 1 c1 rfl, this 2 c2 rfl⟩

theorem drop_at {α : Type} {l : List α} {k : Nat} {x : α} (h : l[k]? = some x) : l.drop k = x :: l.drop (k + 1) := by
  have hk := (List.getElem?_eq_some_iff.1 h).1
  rw [List.drop_eq_getElem_cons hk]
  rw [List.getElem?_eq_getElem hk] at h
  cases h
  rfl

theorem cell_new3 {w : World} {a b c : Value} {t : TypeId} : (w.alloc (.cells #[a, b, c] t)).cell? ⟨w.heap.size, 0, none⟩ = some a ∧ (w.alloc (.cells #[a, b, c] t)).cell? ⟨w.heap.size, 1, none⟩ = some b ∧ (w.alloc (.cells #[a, b, c] t)).cell? ⟨w.heap.size, 2, none⟩ = some c := by
  have h := heap_alloc_new w (.cells #[a, b, c] t)
  refine ⟨?_, ?_, ?_⟩ <;> (rw [Go.Joins.cell_of_block h]; rfl)

section
variable {w : World} {ao : Option Addr} {len cap : Nat} {ws : List Wr}
set_option maxRecDepth 100000
set_option maxHeartbeats 2000000

end
end Go.Proofs.Ytheidhkmmihjlaa
