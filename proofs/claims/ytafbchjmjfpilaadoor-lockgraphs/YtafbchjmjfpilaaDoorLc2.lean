/-
  Lc2: The document's own lock words: Readers, Against.
-/
import Derived.Test.YtafbchjmjfpilaaDoorLc1
import Derived.Test.YtafbchjmjfpilaaDoorLkL
set_option linter.unusedVariables false
set_option linter.unusedSimpArgs false
namespace Go.Proofs.YtafbchjmjfpilaaDoor
open Go.RowKit

theorem hcell_new (w : World) (x : Value) (t : TypeId) : ∀ j u, [x][j]? = some u → (w.alloc (.cells #[x] t)).cell? ((⟨w.heap.size, 0, none⟩ : Addr).add j) = some u := by
  intro j u h
  rw [addr_plus]
  cases j with
  | zero =>
    simp at h
    subst h
    exact (Boxed.new w t x).cell
  | succ j => simp at h

/-- What a loop over all sixteen has put together. -/
def upto (p : Nat → Bool) (k : Nat) : List Nat := (List.range k).filter p
theorem upto_succ (p : Nat → Bool) (k : Nat) : upto p (k + 1) = if p k = true then upto p k ++ [k] else upto p k := by
  unfold upto
  rw [List.range_succ, List.filter_append]
  by_cases h : p k = true
  · rw [if_pos h]; simp [h]
  · rw [if_neg h]; simp [h]
theorem upto_len (p : Nat → Bool) (k : Nat) : (upto p k).length ≤ k := by
  have := List.length_filter_le p (List.range k); simpa [upto] using this

section
set_option maxHeartbeats 4000000
set_option maxRecDepth 100000
theorem beq_cast (a b : Nat) : ((a : Int) == (b : Int)) = (a == b) := by
  rw [Bool.eq_iff_iff, beq_iff_eq, beq_iff_eq]; omega
/-- Who is in the way, by the document. -/
def pA (v : Nat) (me : Int) (wr : Bool) (k : Nat) : Bool := !((k : Int) == me) && (((wtV v).2 && (wtV v).1 == k) || wr && v.testBit k)
theorem pA_agn {v m : Nat} {wr : Bool} (h : Lk.rt v = true) : upto (pA v (m : Int) wr) 16 = Lk.agn v m wr := by
  unfold upto Lk.agn
  refine List.filter_congr (fun k hk => ?_)
  unfold pA wtV
  rw [if_neg (by rw [h]; decide)]
  have e1 : ((k : Int) == (m : Int)) = (k == m) := beq_cast k m
  have e2 : (decide (v / 4294967296 ≠ 0) && v / 4294967296 - 1 == k) = (v / 4294967296 == k + 1) := by
    generalize v / 4294967296 = x
    cases x with
    | zero => simp
    | succ x => simp
  simp only [e1, e2]
/-- The ways a round may go. -/
theorem pA_cases (v : Nat) (me : Int) (wr : Bool) (k : Nat) :
    ((((k : Int) != me) = false) ∧ pA v me wr k = false) ∨ (((k : Int) != me) = true ∧ (
      ((wtV v).2 = true ∧ (((wtV v).1 : Int) == (k : Int)) = true ∧ pA v me wr k = true) ∨
      (((wtV v).2 = false ∨ (wtV v).2 = true ∧ (((wtV v).1 : Int) == (k : Int)) = false) ∧ (wr = false ∧ pA v me wr k = false ∨ wr = true ∧ pA v me wr k = v.testBit k)))) := by
  have e2 : (((wtV v).1 : Int) == (k : Int)) = ((wtV v).1 == k) := beq_cast _ _
  have e3 : ((k : Int) != me) = !((k : Int) == me) := rfl
  rw [e2, e3]
  unfold pA
  cases ((k : Int) == me) <;> cases (wtV v).2 <;> cases ((wtV v).1 == k) <;> cases wr <;> simp

end
end Go.Proofs.YtafbchjmjfpilaaDoor
