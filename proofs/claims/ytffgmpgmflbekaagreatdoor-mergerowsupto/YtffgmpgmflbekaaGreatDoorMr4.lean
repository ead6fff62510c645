/-
  Mr4: Maps, whatever their keys: what stands at which key.
-/
import Derived.Test.YtffgmpgmflbekaaGreatDoorMr0
import Derived.Maps.Views
import Derived.Maps.OwnSet
import Derived.DeepKeys4
set_option linter.unusedVariables false
set_option linter.unusedSimpArgs false
namespace Go.Proofs.YtffgmpgmflbekaaGreatDoor
open Go.RowKit Go.Maps

/-- What a map's element is: any value. -/
def RVs (v : Value) : Option (DataW Value × List MemPlace) := some (.held v, [])

/-- A map reads so. -/
structure Rdg (D : DataW Value) (f : Lit → Option Value) : Prop where
  td : Tidy D
  yes : ∀ l v, f l = some v → Maps.has D l = true ∧ ∀ z, D.atKey l z = .held v
  no : ∀ l, f l = none → Maps.has D l = false
theorem Rdg.start : Rdg (.map []) (fun _ => none) := ⟨tidy_empty, fun _ _ h => (nomatch h), fun _ _ => rfl⟩
theorem Rdg.put {D : DataW Value} {f f' : Lit → Option Value} (h : Rdg D f) {n : Lit} (v : Value) (hk : WideAt.IsKeyLit n) (e1 : f' n = some v) (e2 : ∀ m, m ≠ n → f' m = f m) : Rdg (D.put n (.held v)) f' := by
  refine ⟨h.td.put hk _, fun m u hm => ?_, fun m hm => ?_⟩
  · by_cases e : m = n
    · subst e
      rw [e1] at hm
      cases hm
      exact ⟨has_put_same h.td.isMap hk _, fun z => atKey_put_same h.td.isMap hk _ _⟩
    · rw [e2 m e] at hm
      obtain ⟨a, b⟩ := h.yes m u hm
      exact ⟨by rw [has_put_other e]; exact a, fun z => by rw [atKey_put_other e]; exact b z⟩
  · by_cases e : m = n
    · subst e
      rw [e1] at hm; cases hm
    · rw [e2 m e] at hm
      rw [has_put_other e]
      exact h.no m hm

/-- A map in memory: what stands at which key. -/
def Mg (k : TypeId) (w : World) (b : Nat) (f : Lit → Option Value) (q : Nat) : Prop := ∃ D, w.ownsMap Tryz.prog k RVs b q D ∧ Rdg D f

section
variable {k : TypeId} {w w' : World} {b : Nat} {f f' : Lit → Option Value} {q : Nat}
theorem Mg.lt (h : Mg k w b f q) : b < w.heap.size := by obtain ⟨D, ho, _⟩ := h; exact ho.lt
theorem Mg.same (h : Mg k w b f q) (e : w'.heap[b]? = w.heap[b]?) : Mg k w' b f q := by
  obtain ⟨D, ⟨es, clock, hb, rest⟩, r⟩ := h
  exact ⟨D, ⟨es, clock, e.trans hb, rest⟩, r⟩
theorem Mg.more (h : Mg k w b f q) {q' : Nat} (hq : q ≤ q') : Mg k w b f q' := by
  obtain ⟨D, ho, r⟩ := h
  exact ⟨D, ho.mono hq, r⟩
theorem Mg.look (h : Mg k w b f q) (K : Keyed Tryz.prog k) {t e : TypeId} (ht : Tryz.prog.underlying t = some (.map k e)) {z : Value} (hz : (zeroValue e).run Tryz.prog w = .ok z w) {key : Value} {l : Lit} (hkey : keyOf Tryz.prog k key = some l) :
    (Instr.lookup t (.map (some b)) key true).run Tryz.prog w = .ok (.tuple #[(f l).getD z, .bool (f l).isSome]) w := by
  obtain ⟨D, ho, hr⟩ := h
  obtain ⟨v, ps, hrun, hR⟩ := ho.look_ok K ht hz (zd := .held z) (zp := []) rfl hkey
  rw [hrun]
  cases hf : f l with
  | some u =>
    obtain ⟨a, b'⟩ := hr.yes l u hf
    rw [a]
    simp only [RVs, Option.some.injEq, Prod.mk.injEq] at hR
    rw [b'] at hR
    cases hR.1
    rfl
  | none =>
    have a := hr.no l hf
    rw [a]
    simp only [RVs, Option.some.injEq, Prod.mk.injEq] at hR
    rw [atKey_of_not_has a] at hR
    cases hR.1
    rfl
theorem Mg.made : Mg k (w.alloc (.map #[] 0)) w.heap.size (fun _ => none) q :=
  ⟨_, (World.ownsMap_made w Tryz.prog k RVs).mono (Nat.zero_le _), Rdg.start⟩
theorem Mg.store (h : Mg k w b f q) (K : Keyed Tryz.prog k) {t e : TypeId} (ht : Tryz.prog.underlying t = some (.map k e)) (hq : q < maxLen) {key : Value} {l : Lit} (hkey : keyOf Tryz.prog k key = some l) (v : Value)
    (e1 : f' l = some v) (e2 : ∀ m, m ≠ l → f' m = f m) : ∃ w', (Instr.mapUpdate t (.map (some b)) key v).run Tryz.prog w = .ok () w' ∧ Mg k w' b f' (q + 1) ∧ w.mapTurned w' b := by
  obtain ⟨D, ho, hr⟩ := h
  obtain ⟨w', hrun, ho', ht'⟩ := ho.store K ht hq hkey (val := v) (d := .held v) (ps := []) rfl
  exact ⟨w', hrun, ⟨_, ho', hr.put v (K.key hkey) e1 e2⟩, ht'⟩
end

/-! Keys. -/
theorem strKeyed : Keyed Tryz.prog 9 := string_keyed Tryz.underlying9
theorem str_key {s : ByteArray} (h : s.size ≤ maxLen) : keyOf Tryz.prog 9 (.string s) = some (.string s.data.toList) := by
  simp [keyOf, Tryz.underlying9, mapKey, h]
theorem laidOutP : laidOutB Tryz.prog = true := by kernel_rfl
theorem gnLaw : WideMaps.KeyLaw Tryz.prog 30 := deep_law_laid laidOutP (m := 2) (by omega) (of_decide_eq_true (by kernel_rfl)) (by kernel_rfl) (by rw [Tryz.underlying30])
theorem gnKeyed : Keyed Tryz.prog 30 := Keyed.of_law gnLaw
def gnLit (g : Gn) : Lit := .string (keyBytes [.string g.k.data.toList, .int .i64 g.t])
theorem cells9 : Tryz.prog.cellsOf 9 = 1 := by kernel_rfl
theorem cells64 : Tryz.prog.cellsOf 2 = 1 := by kernel_rfl
theorem cellsGn : Tryz.prog.cellsOf 30 = 2 := by kernel_rfl
theorem cellsRo : Tryz.prog.cellsOf 28 = 3 := by kernel_rfl
theorem gn_key {g : Gn} (hk : g.k.size ≤ maxLen) (h1 : -9223372036854775808 ≤ g.t) (h2 : g.t ≤ 9223372036854775807) : keyOf Tryz.prog 30 g.val = some (gnLit g) := by
  have hw : (Lit.int .i64 g.t).wf = true := by
    have a1 : IntKind.i64.min = -9223372036854775808 := rfl
    have a2 : IntKind.i64.max = 9223372036854775807 := rfl
    simp only [Lit.wf, Bool.and_eq_true, decide_eq_true_eq, a1, a2]
    omega
  obtain ⟨d, hd⟩ : ∃ d, Tryz.prog.types.size + 1 = d + 2 := ⟨Tryz.prog.types.size - 1, by have : 1 ≤ Tryz.prog.types.size := of_decide_eq_true (by kernel_rfl); omega⟩
  have hkt : Tryz.prog.keyType 30 = true := by kernel_rfl
  have hfm : g.val.formed Tryz.prog 30 = true := by simp [Value.formed, Tryz.underlying30, cellsGn]
  unfold keyOf
  rw [Tryz.underlying30]
  simp only [hkt, hfm, hd, Bool.and_self, if_true]
  simp [Program.keyLits, Tryz.underlying30, Tryz.underlying9, Tryz.underlying2, cellsGn, cells9, cells64, Value.cells, hk, hw, gnLit]
theorem gnLit_inj {g g' : Gn} (hk : g.k.size ≤ maxLen) (h1 : -9223372036854775808 ≤ g.t) (h2 : g.t ≤ 9223372036854775807) (hk' : g'.k.size ≤ maxLen) (h1' : -9223372036854775808 ≤ g'.t) (h2' : g'.t ≤ 9223372036854775807) (h : gnLit g = gnLit g') : g = g' := by
  have a := gn_key hk h1 h2
  have b := gn_key hk' h1' h2'
  rw [h] at a
  have := gnLaw.inj a b
  cases g; cases g'
  simp at this
  rw [this.1, this.2]
end Go.Proofs.YtffgmpgmflbekaaGreatDoor
