/-
  Lk2: Which one of a cycle goes, without memory.
-/
import Derived.Test.YtafbchjmjfpilaaDoorLk1
set_option linter.unusedVariables false
namespace Go.Proofs.YtafbchjmjfpilaaDoor
namespace Lk

section
variable {f : Nat → Int} {l : List Nat} {v u a : Nat}

/-- The one that goes: of the greatest age, of those the least. -/
structure Vc (f : Nat → Int) (l : List Nat) (v : Nat) : Prop where
  mem : v ∈ l
  top : ∀ k ∈ l, f k < f v ∨ f k = f v ∧ v ≤ k

theorem Vc.only (h : Vc f l v) (h' : Vc f l u) : v = u := by
  rcases h.top u h'.mem with a | ⟨a, b⟩ <;> rcases h'.top v h.mem with c | ⟨c, d⟩ <;> omega
theorem Vc.one (f : Nat → Int) (a : Nat) : Vc f [a] a :=
  ⟨List.mem_singleton.2 rfl, fun k hk => by rw [List.mem_singleton.1 hk]; exact .inr ⟨rfl, Nat.le_refl _⟩⟩
theorem Vc.new (h : Vc f l v) (ha : f v < f a ∨ f a = f v ∧ a < v) : Vc f (l ++ [a]) a := by
  refine ⟨by simp, fun k hk => ?_⟩
  rcases List.mem_append.1 hk with q | q
  · rcases h.top k q with x | ⟨x, y⟩ <;> rcases ha with z | ⟨z, z'⟩ <;> omega
  · rw [List.mem_singleton.1 q]; exact .inr ⟨rfl, Nat.le_refl _⟩
theorem Vc.old (h : Vc f l v) (ha : ¬ (f v < f a ∨ f a = f v ∧ a < v)) : Vc f (l ++ [a]) v := by
  refine ⟨List.mem_append_left _ h.mem, fun k hk => ?_⟩
  rcases List.mem_append.1 hk with q | q
  · exact h.top k q
  · rw [List.mem_singleton.1 q]; omega

/-- The age of a worker: none is 0. -/
def age (ages : List Int) (k : Nat) : Int := ages.getD k 0
end
end Lk
end Go.Proofs.YtafbchjmjfpilaaDoor
