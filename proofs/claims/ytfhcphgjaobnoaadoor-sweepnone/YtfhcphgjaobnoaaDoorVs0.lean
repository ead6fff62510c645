/-
  Layer 15 (sweep) without memory: which of a chain's versions stay, what a sweep leaves, who is seen.
-/
import Derived.Test.YtfhcphgjaobnoaaDoorWd2
set_option linter.unusedVariables false
set_option linter.unusedSimpArgs false
namespace Go.Proofs.YtfhcphgjaobnoaaDoor
open Go.RowKit

/-- Is a word a timestamp not above the mark? -/
def come (x mark : Int) : Bool := decide (x < 1099511627776) && decide (x ≤ mark)
/-- How many stay. -/
def kp (mark : Int) : List (Int × Int) → Nat
  | [] => 0
  | p :: l => if come p.1 mark = true then (if come p.2 mark = true then 0 else 1) else kp mark l + 1
theorem kp_le (mark : Int) : ∀ l, kp mark l ≤ l.length
  | [] => Nat.le_refl _
  | p :: l => by
    have := kp_le mark l
    unfold kp
    simp only [List.length_cons]
    split
    · split <;> omega
    · omega
/-- Of what stays all stays. -/
theorem kp_take (mark : Int) : ∀ l, kp mark (l.take (kp mark l)) = kp mark l
  | [] => rfl
  | p :: l => by
    have ih := kp_take mark l
    by_cases h1 : come p.1 mark = true
    · by_cases h2 : come p.2 mark = true
      · simp [kp, h1, h2]
      · simp [kp, h1, h2]
    · simp only [kp, h1, if_false, List.take_succ_cons, ih, Bool.false_eq_true]

/-- Words of which the older ones are over where a newer one is come. -/
def Rd (mark : Int) (l : List (Int × Int)) : Prop := l.Pairwise fun p q => p.1 ≤ mark → q.2 ≤ mark
/-- The first one that is seen. -/
def fs (at_ : Int) : List (Nat × (Int × Int)) → Nat
  | [] => 0
  | p :: l => if p.2.1 ≤ at_ ∧ at_ < p.2.2 then p.1 else fs at_ l
theorem fs_none {at_ : Int} : ∀ {l : List (Nat × (Int × Int))}, (∀ p ∈ l, ¬ (p.2.1 ≤ at_ ∧ at_ < p.2.2)) → fs at_ l = 0
  | [], _ => rfl
  | p :: l, h => by
    unfold fs
    rw [if_neg (h p (by simp))]
    exact fs_none fun q hq => h q (by simp [hq])
theorem fs_take {mark at_ : Int} (hm : mark ≤ at_) (ha : mark < 1099511627776) : ∀ (l : List (Nat × (Int × Int))), Rd mark (l.map (·.2)) → fs at_ (l.take (kp mark (l.map (·.2)))) = fs at_ l
  | [], _ => rfl
  | p :: l, h => by
    have h' := List.pairwise_cons.1 h
    have ih := fs_take hm ha l h'.2
    have old : p.2.1 ≤ mark → fs at_ l = 0 := fun q => fs_none fun x hx e => by
      have := h'.1 x.2 (List.mem_map.2 ⟨x, hx, rfl⟩) q
      omega
    simp only [List.map_cons]
    by_cases h1 : come p.2.1 mark = true
    · have hb : p.2.1 ≤ mark := by simp only [come, Bool.and_eq_true, decide_eq_true_eq] at h1; exact h1.2
      by_cases h2 : come p.2.2 mark = true
      · have he : p.2.2 ≤ mark := by simp only [come, Bool.and_eq_true, decide_eq_true_eq] at h2; exact h2.2
        simp only [kp, h1, h2, if_true, List.take_zero, fs]
        rw [if_neg (by omega), old hb]
      · simp only [kp, h1, h2, if_true, if_false, Bool.false_eq_true, List.take_succ_cons, List.take_zero, fs, old hb]
    · simp only [kp, h1, if_false, Bool.false_eq_true, List.take_succ_cons, fs, ih]

end Go.Proofs.YtfhcphgjaobnoaaDoor
