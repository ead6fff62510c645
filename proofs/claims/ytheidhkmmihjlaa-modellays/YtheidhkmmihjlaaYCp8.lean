/-
  Cp8: What is gone, taken out of a map of rows that stands already.
-/
import Derived.Test.YtheidhkmmihjlaaYMr8
set_option linter.unusedVariables false
set_option linter.unusedSimpArgs false
namespace Go.Proofs.Ytheidhkmmihjlaa.ML
open Go.RowKit Go.Shelf Go.Maps
attribute [local go_sem] Oper.semAt_some

theorem Rdg.del {D : DataW Value} {f f' : Lit → Option Value} (h : Rdg D f) {n : Lit} (e1 : f' n = none) (e2 : ∀ m, m ≠ n → f' m = f m) : Rdg (D.del n) f' := by
  refine ⟨h.td.del _, fun m u hm => ?_, fun m hm => ?_⟩
  · by_cases e : m = n
    · subst e
      rw [e1] at hm; cases hm
    · rw [e2 m e] at hm
      obtain ⟨a, b⟩ := h.yes m u hm
      exact ⟨by rw [has_del_other e]; exact a, fun z => by rw [atKey_del_other e]; exact b z⟩
  · by_cases e : m = n
    · subst e
      exact has_del_same
    · rw [e2 m e] at hm
      rw [has_del_other e]
      exact h.no m hm
theorem Mg.drop {k : TypeId} {w : World} {b q : Nat} {f f' : Lit → Option Value} (h : Mg k w b f q) (K : Keyed Try.prog k) {t e : TypeId} (ht : Try.prog.underlying t = some (.map k e)) {key : Value} {l : Lit} (hkey : keyOf Try.prog k key = some l) (ty : TypeId)
    (e1 : f' l = none) (e2 : ∀ m, m ≠ l → f' m = f m) : ∃ w', (Builtin.delete_ #[t, k] ty #[.map (some b), key]).run Try.prog w = .ok (.tuple #[]) w' ∧ Mg k w' b f' q ∧ w.mapTurned w' b := by
  obtain ⟨D, ho, hr⟩ := h
  obtain ⟨w', hrun, ho', ht'⟩ := ho.drop K ht hkey ty
  exact ⟨w', hrun, ⟨_, ho', hr.del e1 e2⟩, ht'⟩
noncomputable def delL (f : Lit → Option Value) (l : Lit) : Lit → Option Value := by
  classical
  exact fun m => if m = l then none else f m
theorem delL_same {f : Lit → Option Value} {l : Lit} : delL f l l = none := by unfold delL; simp
theorem delL_other {f : Lit → Option Value} {l m : Lit} (h : m ≠ l) : delL f l m = f m := by unfold delL; simp [h]
end Go.Proofs.Ytheidhkmmihjlaa.ML
