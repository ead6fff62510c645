/-
  Ld1: Which one of a cycle goes: the program's and the document's (LockVictims).
-/
import Derived.Test.YtafbchjmjfpilaaDoorLb3
import Derived.Test.YtafbchjmjfpilaaDoorLc1
set_option linter.unusedVariables false
set_option linter.unusedSimpArgs false
namespace Go.Proofs.YtafbchjmjfpilaaDoor
open Go.RowKit Go.Shelf

/-- The age of a worker. -/
def ag (l : List Int) (k : Nat) : Int := l.getD k 0

/-- What is told: none, or the one that goes. -/
def vic (cs : List Int) (l : List Int) (a : Int × Bool) : Prop :=
  (cs.all isW = true ∧ cs ≠ [] ∧ ∃ v : Nat, Lk.Vc (ag l) (wk cs) v ∧ a = ((v : Int), true)) ∨ ((cs = [] ∨ cs.all isW = false) ∧ a = (0, false))
theorem vic_only {cs l : List Int} {a b : Int × Bool} (h : vic cs l a) (k : vic cs l b) : a = b := by
  rcases h with ⟨h1, h2, v, hv, rfl⟩ | ⟨h1, rfl⟩ <;> rcases k with ⟨k1, k2, u, hu, rfl⟩ | ⟨k1, rfl⟩
  · rw [hv.only hu]
  · rcases k1 with q | q
    · exact absurd q h2
    · rw [h1] at q; cases q
  · rcases h1 with q | q
    · exact absurd q k2
    · rw [k1] at q; cases q
  · rfl

/-- Those that are in a set of workers, as they come. -/
theorem vc_set {f : Nat → Int} {l m : List Nat} {v : Nat} (h : Lk.Vc f l v) (hm : ∀ k, k ∈ l ↔ k ∈ m) : Lk.Vc f m v := ⟨(hm v).1 h.mem, fun k hk => h.top k ((hm k).2 hk)⟩

section
set_option maxHeartbeats 2000000
set_option maxRecDepth 100000
variable {w : World} {ao bo : Option Addr} {len cap len2 cap2 : Nat} {cs l : List Int}
end
end Go.Proofs.YtafbchjmjfpilaaDoor
