/-
  Mr4: Maps, whatever their keys: what stands at which key.
-/
import Derived.Test.YthfcjfhaoabdeaaGreatDoorRz2
import Derived.Maps.Views
import Derived.Maps.OwnSet
import Derived.DeepKeys4
import Derived.Laws.Tables
import Derived.Laws.Rows
set_option linter.unusedVariables false
set_option linter.unusedSimpArgs false
namespace Go.Proofs.YthfcjfhaoabdeaaGreatDoor.ML
open Go.RowKit Go.Maps

/-- What a map's element is: any value. -/
def RVs (v : Value) : Option (DataW Value × List MemPlace) := some (.held v, [])

/-- A map reads so. -/
structure Rdg (D : DataW Value) (f : Lit → Option Value) : Prop where
  td : Tidy D
  yes : ∀ l v, f l = some v → Maps.has D l = true ∧ ∀ z, D.atKey l z = .held v
  no : ∀ l, f l = none → Maps.has D l = false
theorem Rdg.start : Rdg (.map []) (fun _ => none) := ⟨tidy_empty, fun _ _ h => (nomatch h), fun _ _ => rfl⟩
theorem Rdg.put {D : DataW Value} {f f' : Lit → Option Value} (h : Rdg D f) {n : Lit} (v : Value) (hk : WideAt.IsKeyLit n) (e1 : f' n = some v) (e2 : ∀ m, m ≠ n → f' m = f m) : Rdg (D.put n (.held v)) f' := by
  refine ⟨h.td.put hk _, fun m u hm => ?_, fun m hm => ?_⟩
  · by_cases e : m = n
    · subst e
      rw [e1] at hm
      cases hm
      exact ⟨has_put_same h.td.isMap hk _, fun z => atKey_put_same h.td.isMap hk _ _⟩
    · rw [e2 m e] at hm
      obtain ⟨a, b⟩ := h.yes m u hm
      exact ⟨by rw [has_put_other e]; exact a, fun z => by rw [atKey_put_other e]; exact b z⟩
  · by_cases e : m = n
    · subst e
      rw [e1] at hm; cases hm
    · rw [e2 m e] at hm
      rw [has_put_other e]
      exact h.no m hm

/-- A map in memory: what stands at which key. -/
def Mg (k : TypeId) (w : World) (b : Nat) (f : Lit → Option Value) (q : Nat) : Prop := ∃ D, w.ownsMap Tryz.prog k RVs b q D ∧ Rdg D f

section
variable {k : TypeId} {w w' : World} {b : Nat} {f f' : Lit → Option Value} {q : Nat}
theorem Mg.lt (h : Mg k w b f q) : b < w.heap.size := by obtain ⟨D, ho, _⟩ := h; exact ho.lt
theorem Mg.same (h : Mg k w b f q) (e : w'.heap[b]? = w.heap[b]?) : Mg k w' b f q := by
  obtain ⟨D, ⟨es, clock, hb, rest⟩, r⟩ := h
  exact ⟨D, ⟨es, clock, e.trans hb, rest⟩, r⟩
theorem Mg.more (h : Mg k w b f q) {q' : Nat} (hq : q ≤ q') : Mg k w b f q' := by
  obtain ⟨D, ho, r⟩ := h
  exact ⟨D, ho.mono hq, r⟩
theorem Mg.made : Mg k (w.alloc (.map #[] 0)) w.heap.size (fun _ => none) q :=
  ⟨_, (World.ownsMap_made w Tryz.prog k RVs).mono (Nat.zero_le _), Rdg.start⟩
theorem Mg.store (h : Mg k w b f q) (K : Keyed Tryz.prog k) {t e : TypeId} (ht : Tryz.prog.underlying t = some (.map k e)) (hq : q < maxLen) {key : Value} {l : Lit} (hkey : keyOf Tryz.prog k key = some l) (v : Value)
    (e1 : f' l = some v) (e2 : ∀ m, m ≠ l → f' m = f m) : ∃ w', (Instr.mapUpdate t (.map (some b)) key v).run Tryz.prog w = .ok () w' ∧ Mg k w' b f' (q + 1) ∧ w.mapTurned w' b := by
  obtain ⟨D, ho, hr⟩ := h
  obtain ⟨w', hrun, ho', ht'⟩ := ho.store K ht hq hkey (val := v) (d := .held v) (ps := []) rfl
  exact ⟨w', hrun, ⟨_, ho', hr.put v (K.key hkey) e1 e2⟩, ht'⟩
end

/-! Keys. -/
theorem strKeyed : Keyed Tryz.prog 9 := string_keyed Tryz.underlying9
theorem str_key {s : ByteArray} (h : s.size ≤ maxLen) : keyOf Tryz.prog 9 (.string s) = some (.string s.data.toList) := by
  simp [keyOf, Tryz.underlying9, mapKey, h]
end Go.Proofs.YthfcjfhaoabdeaaGreatDoor.ML

/-
  Mr5: The program's: itself, nameOf, keyOf; the first ones of a list that have each of its keys.
-/
set_option linter.unusedVariables false
set_option linter.unusedSimpArgs false
namespace Go.Proofs.YthfcjfhaoabdeaaGreatDoor.ML
open Go.RowKit Go.Maps
attribute [local go_sem] Oper.semAt_some

section
set_option maxHeartbeats 4000000
set_option maxRecDepth 100000
variable {w : World} {go : Option Addr} {lg cg : Nat} {gone : List Gn}
/-- One more stands there. -/
noncomputable def setL (f : Lit → Option Value) (l : Lit) (v : Value) : Lit → Option Value := by
  classical
  exact fun m => if m = l then some v else f m
theorem setL_same {f : Lit → Option Value} {l : Lit} {v : Value} : setL f l v l = some v := by unfold setL; simp
theorem setL_other {f : Lit → Option Value} {l m : Lit} {v : Value} (h : m ≠ l) : setL f l v m = f m := by unfold setL; simp [h]
theorem turned_below {n : Nat} {a w w' : World} {b : Nat} (h : w.mapTurned w' b) (hb : Below n a w) (hn : n ≤ b) : Below n a w' := by
  obtain ⟨es, clock, es', clock', h1, rfl⟩ := h
  refine ⟨hb.os, hb.tape, hb.output, ?_, fun k hk => ?_⟩
  · have := hb.size
    simpa [Go.ChangeMaps.setBlock] using this
  · rw [← hb.block k hk]
    simp only [Go.ChangeMaps.setBlock]
    rw [Array.getElem?_setIfInBounds_ne (by omega)]

end
end Go.Proofs.YthfcjfhaoabdeaaGreatDoor.ML

/-
  Mr6: The first rows of a list that have each of its keys.
-/
set_option linter.unusedVariables false
set_option linter.unusedSimpArgs false
namespace Go.Proofs.YthfcjfhaoabdeaaGreatDoor.ML
open Go.RowKit Go.Maps
attribute [local go_sem] Oper.semAt_some

section
set_option maxHeartbeats 4000000
set_option maxRecDepth 100000
variable {w : World}
/-- The first row of a key. -/
def fstOf (l : List Ro) (s : ByteArray) : Option Ro := l.find? fun r => decide (r.k = s)
def strLit (s : ByteArray) : Lit := .string s.data.toList
theorem strLit_inj {s t : ByteArray} (h : strLit s = strLit t) : s = t := by
  unfold strLit at h
  injection h with h
  exact ByteArray.ext (Array.toList_inj.1 h)
def Ro.ok (r : Ro) : Prop := r.k.size ≤ 1048576 ∧ r.v.size ≤ 1048576 ∧ -9223372036854775808 ≤ r.t ∧ r.t ≤ 9223372036854775807
theorem Ro.ok.key {r : Ro} (h : r.ok) : keyOf Tryz.prog 9 (.string r.k) = some (strLit r.k) := str_key (by have := h.1; unfold maxLen; omega)
/-- What the map has: the first row of each key. -/
def Fst (L : List Ro) (f : Lit → Option Value) : Prop := (∀ l v, f l = some v → ∃ r ∈ L, l = strLit r.k ∧ v = r.val) ∧ ∀ s, f (strLit s) = (fstOf L s).map Ro.val

variable {bo : Option Addr} {lb cb : Nat} {L : List Ro}
end
end Go.Proofs.YthfcjfhaoabdeaaGreatDoor.ML
