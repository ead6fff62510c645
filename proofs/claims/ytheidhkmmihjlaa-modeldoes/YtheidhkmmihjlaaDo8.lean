/-
  Mr8: Rows by rising keys, without memory: what the document's puts come to, and what sorting the first rows comes to, is one.
-/
import Derived.Test.YtheidhkmmihjlaaDo3
import Derived.Test.YtheidhkmmihjlaaDo6
import Derived.Test.YtheidhkmmihjlaaDo7
import Derived.Lib.Bytealg
set_option linter.unusedVariables false
set_option linter.unusedSimpArgs false
namespace Go.Proofs.Ytheidhkmmihjlaa.ML

theorem bl_irr : ∀ a : List UInt8, Op.bytesLess a a = false
  | [] => rfl
  | a :: x => by
    unfold Op.bytesLess
    have h1 : ¬ a < a := UInt8.lt_irrefl a
    rw [bl_irr x]
    simp [h1]
theorem bl_tr : ∀ a b c : List UInt8, Op.bytesLess a b = true → Op.bytesLess b c = true → Op.bytesLess a c = true
  | _, _, [], _, h => by unfold Op.bytesLess at h; simp at h
  | _, [], _ :: _, h, _ => by unfold Op.bytesLess at h; simp at h
  | [], _ :: _, _ :: _, _, _ => rfl
  | a :: x, b :: y, c :: z, h1, h2 => by
    unfold Op.bytesLess at h1 h2 ⊢
    simp only [Bool.or_eq_true, Bool.and_eq_true, decide_eq_true_eq, beq_iff_eq] at h1 h2 ⊢
    rcases h1 with h1 | ⟨rfl, h1⟩
    · rcases h2 with h2 | ⟨rfl, h2⟩
      · exact .inl (UInt8.lt_trans h1 h2)
      · exact .inl h1
    · rcases h2 with h2 | ⟨rfl, h2⟩
      · exact .inl h2
      · exact .inr ⟨rfl, bl_tr x y z h1 h2⟩
theorem bl_tot : ∀ a b : List UInt8, Op.bytesLess a b = true ∨ a = b ∨ Op.bytesLess b a = true
  | [], [] => .inr (.inl rfl)
  | [], _ :: _ => .inl rfl
  | _ :: _, [] => .inr (.inr rfl)
  | a :: x, b :: y => by
    unfold Op.bytesLess
    simp only [Bool.or_eq_true, Bool.and_eq_true, decide_eq_true_eq, beq_iff_eq]
    rcases Nat.lt_trichotomy a.toNat b.toNat with h | h | h
    · exact .inl (.inl (UInt8.lt_iff_toNat_lt.2 h))
    · have e : a = b := UInt8.toNat_inj.1 h
      subst e
      rcases bl_tot x y with q | q | q
      · exact .inl (.inr ⟨rfl, q⟩)
      · exact .inr (.inl (by rw [q]))
      · exact .inr (.inr (.inr ⟨rfl, q⟩))
    · exact .inr (.inr (.inl (UInt8.lt_iff_toNat_lt.2 h)))
theorem nl_irr (a : ByteArray) : nless a a = false := bl_irr _
theorem nl_tr {a b c : ByteArray} (h : nless a b = true) (k : nless b c = true) : nless a c = true := bl_tr _ _ _ h k
theorem nl_tot (a b : ByteArray) : nless a b = true ∨ a = b ∨ nless b a = true := by
  rcases bl_tot a.toList b.toList with h | h | h
  · exact .inl h
  · refine .inr (.inl ?_)
    rw [ByteArray.toList_eq, ByteArray.toList_eq] at h
    exact ByteArray.ext (Array.toList_inj.1 h)
  · exact .inr (.inr h)
theorem od : Ck.Od (fun a b : ByteArray => nless a b = true) := ⟨fun a h => (by rw [nl_irr] at h; cases h), fun _ _ _ h k => nl_tr h k, nl_tot⟩

/-- By rising keys. -/
abbrev Srt (l : List Ro) : Prop := Ck.Ris (fun a b : ByteArray => nless a b = true) Ro.k l
end Go.Proofs.Ytheidhkmmihjlaa.ML

/-
  Cp8: What is gone, taken out of a map of rows that stands already.
-/
set_option linter.unusedVariables false
set_option linter.unusedSimpArgs false
namespace Go.Proofs.Ytheidhkmmihjlaa.ML
open Go.RowKit Go.Shelf Go.Maps
attribute [local go_sem] Oper.semAt_some

theorem Rdg.del {D : DataW Value} {f f' : Lit → Option Value} (h : Rdg D f) {n : Lit} (e1 : f' n = none) (e2 : ∀ m, m ≠ n → f' m = f m) : Rdg (D.del n) f' := by
  refine ⟨h.td.del _, fun m u hm => ?_, fun m hm => ?_⟩
  · by_cases e : m = n
    · subst e
      rw [e1] at hm; cases hm
    · rw [e2 m e] at hm
      obtain ⟨a, b⟩ := h.yes m u hm
      exact ⟨by rw [has_del_other e]; exact a, fun z => by rw [atKey_del_other e]; exact b z⟩
  · by_cases e : m = n
    · subst e
      exact has_del_same
    · rw [e2 m e] at hm
      rw [has_del_other e]
      exact h.no m hm
theorem Mg.drop {k : TypeId} {w : World} {b q : Nat} {f f' : Lit → Option Value} (h : Mg k w b f q) (K : Keyed Try.prog k) {t e : TypeId} (ht : Try.prog.underlying t = some (.map k e)) {key : Value} {l : Lit} (hkey : keyOf Try.prog k key = some l) (ty : TypeId)
    (e1 : f' l = none) (e2 : ∀ m, m ≠ l → f' m = f m) : ∃ w', (Builtin.delete_ #[t, k] ty #[.map (some b), key]).run Try.prog w = .ok (.tuple #[]) w' ∧ Mg k w' b f' q ∧ w.mapTurned w' b := by
  obtain ⟨D, ho, hr⟩ := h
  obtain ⟨w', hrun, ho', ht'⟩ := ho.drop K ht hkey ty
  exact ⟨w', hrun, ⟨_, ho', hr.del e1 e2⟩, ht'⟩
noncomputable def delL (f : Lit → Option Value) (l : Lit) : Lit → Option Value := by
  classical
  exact fun m => if m = l then none else f m
theorem delL_same {f : Lit → Option Value} {l : Lit} : delL f l l = none := by unfold delL; simp
theorem delL_other {f : Lit → Option Value} {l m : Lit} (h : m ≠ l) : delL f l m = f m := by unfold delL; simp [h]
end Go.Proofs.Ytheidhkmmihjlaa.ML
