/-
  Mr3: The document's own: put, Rows.
-/
import Derived.Test.YtheidhkmmihjlaaYMr2
set_option linter.unusedVariables false
set_option linter.unusedSimpArgs false
namespace Go.Proofs.Ytheidhkmmihjlaa.ML
open Go.RowKit
attribute [local go_sem] Oper.semAt_some

def putD (l : List Ro) (r : Ro) : List Ro := if hasK l r.k then l else l.takeWhile (fun p => nless p.k r.k) ++ [r] ++ l.dropWhile (fun p => nless p.k r.k)
theorem while_at {α : Type} (f : α → Bool) : ∀ (l : List α) (k : Nat), (∀ x ∈ l.take k, f x = true) → (∀ x, l[k]? = some x → f x = false) → l.takeWhile f = l.take k ∧ l.dropWhile f = l.drop k
  | [], k, _, _ => by simp
  | x :: l, 0, _, h => by
    have := h x rfl
    simp [List.takeWhile, List.dropWhile, this]
  | x :: l, k + 1, h1, h2 => by
    have hx : f x = true := h1 x (by simp)
    obtain ⟨e1, e2⟩ := while_at f l k (fun y hy => h1 y (by simp [hy])) (fun y hy => h2 y (by simpa using hy))
    simp [List.takeWhile, List.dropWhile, hx, e1, e2]

section
set_option maxHeartbeats 8000000
set_option maxRecDepth 100000
variable {w : World} {B : Nat} {v : Value} {l : List Ro}
/-- The rows of two files, less what is gone: as the document says it. -/
def rowsD (a b : List Ro) (gone : List Gn) : List Ro := (a.filter fun r => !namedB gone r).foldl putD (b.foldl putD [])
theorem putD_len (l : List Ro) (r : Ro) : (putD l r).length ≤ l.length + 1 := by
  unfold putD
  split
  · omega
  · have := congrArg List.length (List.takeWhile_append_dropWhile (p := fun p : Ro => nless p.k r.k) (l := l))
    simp only [List.length_append, List.length_singleton] at *
    omega
theorem fold_len (l : List Ro) : ∀ m : List Ro, (l.foldl putD m).length ≤ m.length + l.length := by
  induction l with
  | nil => intro m; simp
  | cons r l ih =>
    intro m
    have := ih (putD m r)
    have h2 := putD_len m r
    simp only [List.foldl_cons, List.length_cons]
    omega

variable {ao bo go : Option Addr} {la ca lb cb lg cg : Nat} {a b : List Ro} {gone : List Gn}
end
end Go.Proofs.Ytheidhkmmihjlaa.ML
