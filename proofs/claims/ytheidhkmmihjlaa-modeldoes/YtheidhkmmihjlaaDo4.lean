/-
  Mr4: Maps, whatever their keys: what stands at which key.
-/
import Derived.Test.YtheidhkmmihjlaaDo2
import Derived.Maps.Views
import Derived.Maps.OwnSet
import Derived.DeepKeys4
set_option linter.unusedVariables false
set_option linter.unusedSimpArgs false
namespace Go.Proofs.Ytheidhkmmihjlaa.ML
open Go.RowKit Go.Maps

/-- What a map's element is: any value. -/
def RVs (v : Value) : Option (DataW Value × List MemPlace) := some (.held v, [])

/-- A map reads so. -/
structure Rdg (D : DataW Value) (f : Lit → Option Value) : Prop where
  td : Tidy D
  yes : ∀ l v, f l = some v → Maps.has D l = true ∧ ∀ z, D.atKey l z = .held v
  no : ∀ l, f l = none → Maps.has D l = false
theorem Rdg.start : Rdg (.map []) (fun _ => none) := ⟨tidy_empty, fun _ _ h => (nomatch h), fun _ _ => rfl⟩
theorem Rdg.put {D : DataW Value} {f f' : Lit → Option Value} (h : Rdg D f) {n : Lit} (v : Value) (hk : WideAt.IsKeyLit n) (e1 : f' n = some v) (e2 : ∀ m, m ≠ n → f' m = f m) : Rdg (D.put n (.held v)) f' := by
  refine ⟨h.td.put hk _, fun m u hm => ?_, fun m hm => ?_⟩
  · by_cases e : m = n
    · subst e
      rw [e1] at hm
      cases hm
      exact ⟨has_put_same h.td.isMap hk _, fun z => atKey_put_same h.td.isMap hk _ _⟩
    · rw [e2 m e] at hm
      obtain ⟨a, b⟩ := h.yes m u hm
      exact ⟨by rw [has_put_other e]; exact a, fun z => by rw [atKey_put_other e]; exact b z⟩
  · by_cases e : m = n
    · subst e
      rw [e1] at hm; cases hm
    · rw [e2 m e] at hm
      rw [has_put_other e]
      exact h.no m hm

/-- A map in memory: what stands at which key. -/
def Mg (k : TypeId) (w : World) (b : Nat) (f : Lit → Option Value) (q : Nat) : Prop := ∃ D, w.ownsMap Try.prog k RVs b q D ∧ Rdg D f

section
variable {k : TypeId} {w w' : World} {b : Nat} {f f' : Lit → Option Value} {q : Nat}
theorem Mg.lt (h : Mg k w b f q) : b < w.heap.size := by obtain ⟨D, ho, _⟩ := h; exact ho.lt
theorem Mg.same (h : Mg k w b f q) (e : w'.heap[b]? = w.heap[b]?) : Mg k w' b f q := by
  obtain ⟨D, ⟨es, clock, hb, rest⟩, r⟩ := h
  exact ⟨D, ⟨es, clock, e.trans hb, rest⟩, r⟩
theorem Mg.more (h : Mg k w b f q) {q' : Nat} (hq : q ≤ q') : Mg k w b f q' := by
  obtain ⟨D, ho, r⟩ := h
  exact ⟨D, ho.mono hq, r⟩
theorem Mg.look (h : Mg k w b f q) (K : Keyed Try.prog k) {t e : TypeId} (ht : Try.prog.underlying t = some (.map k e)) {z : Value} (hz : (zeroValue e).run Try.prog w = .ok z w) {key : Value} {l : Lit} (hkey : keyOf Try.prog k key = some l) :
    (Instr.lookup t (.map (some b)) key true).run Try.prog w = .ok (.tuple #[(f l).getD z, .bool (f l).isSome]) w := by
  obtain ⟨D, ho, hr⟩ := h
  obtain ⟨v, ps, hrun, hR⟩ := ho.look_ok K ht hz (zd := .held z) (zp := []) rfl hkey
  rw [hrun]
  cases hf : f l with
  | some u =>
    obtain ⟨a, b'⟩ := hr.yes l u hf
    rw [a]
    simp only [RVs, Option.some.injEq, Prod.mk.injEq] at hR
    rw [b'] at hR
    cases hR.1
    rfl
  | none =>
    have a := hr.no l hf
    rw [a]
    simp only [RVs, Option.some.injEq, Prod.mk.injEq] at hR
    rw [atKey_of_not_has a] at hR
    cases hR.1
    rfl
theorem Mg.made : Mg k (w.alloc (.map #[] 0)) w.heap.size (fun _ => none) q :=
  ⟨_, (World.ownsMap_made w Try.prog k RVs).mono (Nat.zero_le _), Rdg.start⟩
theorem Mg.store (h : Mg k w b f q) (K : Keyed Try.prog k) {t e : TypeId} (ht : Try.prog.underlying t = some (.map k e)) (hq : q < maxLen) {key : Value} {l : Lit} (hkey : keyOf Try.prog k key = some l) (v : Value)
    (e1 : f' l = some v) (e2 : ∀ m, m ≠ l → f' m = f m) : ∃ w', (Instr.mapUpdate t (.map (some b)) key v).run Try.prog w = .ok () w' ∧ Mg k w' b f' (q + 1) ∧ w.mapTurned w' b := by
  obtain ⟨D, ho, hr⟩ := h
  obtain ⟨w', hrun, ho', ht'⟩ := ho.store K ht hq hkey (val := v) (d := .held v) (ps := []) rfl
  exact ⟨w', hrun, ⟨_, ho', hr.put v (K.key hkey) e1 e2⟩, ht'⟩
end

/-! Keys. -/
theorem strKeyed : Keyed Try.prog 9 := string_keyed Try.underlying9
theorem str_key {s : ByteArray} (h : s.size ≤ maxLen) : keyOf Try.prog 9 (.string s) = some (.string s.data.toList) := by
  simp [keyOf, Try.underlying9, mapKey, h]
end Go.Proofs.Ytheidhkmmihjlaa.ML
