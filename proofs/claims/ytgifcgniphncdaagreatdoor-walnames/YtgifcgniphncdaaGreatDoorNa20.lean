/-
  A slice that came in, whatever its elements are: each is some cells, told by a function. No program in sight.
-/
import Derived.WalkKit
import Derived.Below
import Derived.ProofKit
import Derived.ChangeArms
import Derived.ChangeSlices
import Derived.SizedLaws
set_option linter.unusedVariables false
set_option linter.unusedSimpArgs false
namespace Go.Proofs.YtgifcgniphncdaaGreatDoor
open Go.RowKit Go.ChangeShapes Go.WideShapes Go.ChangeAt

theorem addr_plus (g off i : Nat) : (⟨g, off, none⟩ : Addr).add i = ⟨g, off + i, none⟩ := by unfold Addr.add; split <;> simp_all

/-- A slice that is read: xs are its elements, each of k cells, which f tells. -/
def Seq {α : Type} (k : Nat) (f : α → List Value) (w : World) (ao : Option Addr) (len cap : Nat) (xs : List α) : Prop :=
  xs.length = len ∧ len ≤ cap ∧ cap ≤ maxLen ∧
  (0 < len → ∃ b off, ao = some ⟨b, off, none⟩ ∧ b < w.heap.size ∧ ∀ (i : Nat) (x : α), xs[i]? = some x → ∀ j u, (f x)[j]? = some u → w.cell? ⟨b, off + i * k + j, none⟩ = some u)

section
variable {α : Type} {k : Nat} {f : α → List Value} {w w' : World} {ao : Option Addr} {len cap : Nat} {xs : List α}
theorem Seq.below {n : Nat} (h : Seq k f w ao len cap xs) (hb : Below n w w') (hn : ∀ b off, ao = some ⟨b, off, none⟩ → b < w.heap.size → b < n) : Seq k f w' ao len cap xs := by
  obtain ⟨h1, h2, h3, h4⟩ := h
  refine ⟨h1, h2, h3, fun hl => ?_⟩
  obtain ⟨b, off, e, hlt, hc⟩ := h4 hl
  exact ⟨b, off, e, Nat.lt_of_lt_of_le hlt hb.size, fun i x hi j u hu => (hb.cell (p := ⟨b, off + i * k + j, none⟩) (hn b off e hlt)).trans (hc i x hi j u hu)⟩
/-- All that was there is as it was. -/
theorem Seq.keep (h : Seq k f w ao len cap xs) (hb : Below w.heap.size w w') : Seq k f w' ao len cap xs := h.below hb (fun _ _ _ h => h)
end

theorem some_at {α : Type} {l : List α} {i n : Nat} (h : l.length = n) (hi : i < n) : ∃ y, l[i]? = some y := ⟨l[i]'(by omega), List.getElem?_eq_getElem (by omega)⟩

/-! ### Numbers -/
end Go.Proofs.YtgifcgniphncdaaGreatDoor
