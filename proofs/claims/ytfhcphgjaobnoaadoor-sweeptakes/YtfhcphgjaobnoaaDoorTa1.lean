/-
  Maps from numbers.
-/
import Derived.Test.YtfhcphgjaobnoaaDoorTa0
import Derived.Test.YtfhcphgjaobnoaaDoorHaS
import Derived.Maps.Views
import Derived.Maps.OwnSet
set_option linter.unusedVariables false
set_option linter.unusedSimpArgs false
namespace Go.Proofs.YtfhcphgjaobnoaaDoor
open Go.RowKit Go.Maps

/-- What a map's element is: any value. -/
def RVs (v : Value) : Option (DataW Value × List MemPlace) := some (.held v, [])
theorem numKeyed : Keyed Tryd.prog 3 := int_keyed Tryd.underlying3
theorem key_num {n : Int} (h1 : -9223372036854775808 ≤ n) (h2 : n ≤ 9223372036854775807) : keyOf Tryd.prog 3 (.int .i64 n) = some (.int .i64 n) := by
  have hw : (Lit.int .i64 n).wf = true := by
    have a1 : IntKind.i64.min = -9223372036854775808 := rfl
    have a2 : IntKind.i64.max = 9223372036854775807 := rfl
    simp only [Lit.wf, Bool.and_eq_true, decide_eq_true_eq, a1, a2]
    omega
  exact keyOf_int_mk Tryd.underlying3 hw

/-- What stands at which number. -/
def fOf (L : Nat → Bool) (g : Nat → Value) : Int → Option Value := fun n => if 0 ≤ n ∧ L n.toNat = true then some (g n.toNat) else none
theorem fOf_in {L : Nat → Bool} {g : Nat → Value} {n : Nat} (h : L n = true) : fOf L g (n : Int) = some (g n) := by
  unfold fOf
  rw [Int.toNat_natCast, if_pos ⟨by omega, h⟩]
theorem fOf_out {L : Nat → Bool} {g : Nat → Value} {n : Int} (h : n < 0 ∨ L n.toNat = false) : fOf L g n = none := by
  unfold fOf
  rw [if_neg]
  rintro ⟨a, b⟩
  rcases h with h | h
  · omega
  · rw [h] at b; cases b

/-- A map reads so. -/
structure Rdm (D : DataW Value) (f : Int → Option Value) : Prop where
  td : Tidy D
  yes : ∀ n v, f n = some v → Maps.has D (.int .i64 n) = true ∧ ∀ z, D.atKey (.int .i64 n) z = .held v
  no : ∀ n, f n = none → Maps.has D (.int .i64 n) = false
theorem Rdm.start : Rdm (.map []) (fun _ => none) := ⟨tidy_empty, fun _ _ h => (nomatch h), fun _ _ => rfl⟩
theorem Rdm.put {D : DataW Value} {f f' : Int → Option Value} (h : Rdm D f) {n : Int} (v : Value) (hk : WideAt.IsKeyLit (.int .i64 n)) (e1 : f' n = some v) (e2 : ∀ m, m ≠ n → f' m = f m) : Rdm (D.put (.int .i64 n) (.held v)) f' := by
  refine ⟨h.td.put hk _, fun m u hm => ?_, fun m hm => ?_⟩
  · by_cases e : m = n
    · subst e
      rw [e1] at hm
      cases hm
      exact ⟨has_put_same h.td.isMap hk _, fun z => atKey_put_same h.td.isMap hk _ _⟩
    · rw [e2 m e] at hm
      obtain ⟨a, b⟩ := h.yes m u hm
      have ne : (Lit.int .i64 m) ≠ .int .i64 n := fun q => e (by simpa using q)
      exact ⟨by rw [has_put_other ne]; exact a, fun z => by rw [atKey_put_other ne]; exact b z⟩
  · by_cases e : m = n
    · subst e
      rw [e1] at hm; cases hm
    · rw [e2 m e] at hm
      have ne : (Lit.int .i64 m) ≠ .int .i64 n := fun q => e (by simpa using q)
      rw [has_put_other ne]
      exact h.no m hm
theorem Rdm.del {D : DataW Value} {f f' : Int → Option Value} (h : Rdm D f) {n : Int} (e1 : f' n = none) (e2 : ∀ m, m ≠ n → f' m = f m) : Rdm (D.del (.int .i64 n)) f' := by
  refine ⟨h.td.del _, fun m u hm => ?_, fun m hm => ?_⟩
  · by_cases e : m = n
    · subst e
      rw [e1] at hm; cases hm
    · rw [e2 m e] at hm
      obtain ⟨a, b⟩ := h.yes m u hm
      have ne : (Lit.int .i64 m) ≠ .int .i64 n := fun q => e (by simpa using q)
      exact ⟨by rw [has_del_other ne]; exact a, fun z => by rw [atKey_del_other ne]; exact b z⟩
  · by_cases e : m = n
    · subst e
      exact has_del_same
    · rw [e2 m e] at hm
      have ne : (Lit.int .i64 m) ≠ .int .i64 n := fun q => e (by simpa using q)
      rw [has_del_other ne]
      exact h.no m hm

/-- A map, or none: what stands at which number; how often it was laid in; how many there are. -/
def Mp (w : World) (mb : Option Nat) (f : Int → Option Value) (q k : Nat) : Prop :=
  (mb = none ∧ (∀ n, f n = none) ∧ k = 0) ∨ ∃ b D, mb = some b ∧ w.ownsMap Tryd.prog 3 RVs b q D ∧ Rdm D f ∧ Maps.size D = k

section
variable {w w' : World} {mb : Option Nat} {f f' : Int → Option Value} {q k : Nat}
theorem Mp.lt (h : Mp w mb f q k) {b : Nat} (e : mb = some b) : b < w.heap.size := by
  rcases h with ⟨h, _⟩ | ⟨b', D, h, ho, _⟩
  · rw [h] at e; cases e
  · rw [h] at e; cases e; exact ho.lt
theorem Mp.kind (h : Mp w mb f q k) {b : Nat} (e : mb = some b) : ∃ es clock, w.heap[b]? = some (.map es clock) := by
  rcases h with ⟨h, _⟩ | ⟨b', D, h, ho, _⟩
  · rw [h] at e; cases e
  · rw [h] at e; cases e
    obtain ⟨es, clock, hb, _⟩ := ho
    exact ⟨es, clock, hb⟩
theorem Mp.same (h : Mp w mb f q k) (e : ∀ b, mb = some b → w'.heap[b]? = w.heap[b]?) : Mp w' mb f q k := by
  rcases h with h | ⟨b, D, h, ho, r⟩
  · exact .inl h
  · obtain ⟨es, clock, hb, rest⟩ := ho
    exact .inr ⟨b, D, h, ⟨es, clock, (e b h).trans hb, rest⟩, r⟩
theorem Mp.eqv (h : Mp w mb f q k) (e : ∀ n, f' n = f n) : Mp w mb f' q k := by
  have : f' = f := funext e
  rw [this]; exact h
theorem Mp.more (h : Mp w mb f q k) {q' : Nat} (hq : q ≤ q') : Mp w mb f q' k := by
  rcases h with h | ⟨b, D, h, ho, r⟩
  · exact .inl h
  · exact .inr ⟨b, D, h, ho.mono hq, r⟩
theorem Mp.look (h : Mp w mb f q k) {t e : TypeId} (ht : Tryd.prog.underlying t = some (.map 3 e)) {z : Value} (hz : (zeroValue e).run Tryd.prog w = .ok z w) {n : Int} (h1 : -9223372036854775808 ≤ n) (h2 : n ≤ 9223372036854775807) :
    (Instr.lookup t (.map mb) (.int .i64 n) true).run Tryd.prog w = .ok (.tuple #[(f n).getD z, .bool (f n).isSome]) w := by
  rcases h with ⟨rfl, h, _⟩ | ⟨b, D, rfl, ho, hr, _⟩
  · have := Maps.look_nil (P := Tryd.prog) (w := w) true numKeyed ht hz (key_num h1 h2)
    rw [h n]
    simpa using this
  · obtain ⟨v, ps, hrun, hR⟩ := ho.look_ok numKeyed ht hz (zd := .held z) (zp := []) rfl (key_num h1 h2)
    rw [hrun]
    cases hf : f n with
    | some u =>
      obtain ⟨a, b'⟩ := hr.yes n u hf
      rw [a]
      simp only [RVs, Option.some.injEq, Prod.mk.injEq] at hR
      rw [b'] at hR
      cases hR.1
      rfl
    | none =>
      have a := hr.no n hf
      rw [a]
      simp only [RVs, Option.some.injEq, Prod.mk.injEq] at hR
      rw [atKey_of_not_has a] at hR
      cases hR.1
      rfl
theorem Mp.len (h : Mp w mb f q k) {t e : TypeId} (ht : Tryd.prog.underlying t = some (.map 3 e)) (ty : TypeId) : (Builtin.len_ #[t] ty #[.map mb]).run Tryd.prog w = .ok (.int .i64 (k : Nat)) w := by
  rcases h with ⟨rfl, h, rfl⟩ | ⟨b, D, rfl, ho, hr, rfl⟩
  · have := Maps.len_nil (P := Tryd.prog) (w := w) ht ty
    simpa using this
  · exact ho.len ht ty
theorem Mp.made : Mp (w.alloc (.map #[] 0)) (some w.heap.size) (fun _ => none) q 0 :=
  .inr ⟨_, _, rfl, (World.ownsMap_made w Tryd.prog 3 RVs).mono (Nat.zero_le _), Rdm.start, rfl⟩
theorem Mp.store {b : Nat} (h : Mp w (some b) f q k) {t e : TypeId} (ht : Tryd.prog.underlying t = some (.map 3 e)) (hq : q < maxLen) {n : Int} (h1 : -9223372036854775808 ≤ n) (h2 : n ≤ 9223372036854775807) (v : Value)
    (e0 : f n = none) (e1 : f' n = some v) (e2 : ∀ m, m ≠ n → f' m = f m) : ∃ w', (Instr.mapUpdate t (.map (some b)) (.int .i64 n) v).run Tryd.prog w = .ok () w' ∧ Mp w' (some b) f' (q + 1) (k + 1) ∧ w.mapTurned w' b := by
  rcases h with ⟨h, _⟩ | ⟨b', D, e, ho, hr, rfl⟩
  · cases h
  · cases e
    obtain ⟨w', hrun, ho', ht'⟩ := ho.store numKeyed ht hq (key_num h1 h2) (val := v) (d := .held v) (ps := []) rfl
    have hk : WideAt.IsKeyLit (.int .i64 n) := numKeyed.key (key_num h1 h2)
    refine ⟨w', hrun, .inr ⟨b, _, rfl, ho', hr.put v hk e1 e2, ?_⟩, ht'⟩
    rw [size_put hr.td, hr.no n e0]
    rfl
theorem Mp.drop {b : Nat} (h : Mp w (some b) f q k) {t e : TypeId} (ht : Tryd.prog.underlying t = some (.map 3 e)) {n : Int} (h1 : -9223372036854775808 ≤ n) (h2 : n ≤ 9223372036854775807) (ty : TypeId) {v : Value}
    (e0 : f n = some v) (e1 : f' n = none) (e2 : ∀ m, m ≠ n → f' m = f m) : ∃ w', (Builtin.delete_ #[t, 3] ty #[.map (some b), .int .i64 n]).run Tryd.prog w = .ok (.tuple #[]) w' ∧ Mp w' (some b) f' q (k - 1) ∧ w.mapTurned w' b := by
  rcases h with ⟨h, _⟩ | ⟨b', D, e, ho, hr, rfl⟩
  · cases h
  · cases e
    obtain ⟨w', hrun, ho', ht'⟩ := ho.drop numKeyed ht (key_num h1 h2) ty
    refine ⟨w', hrun, .inr ⟨b, _, rfl, ho', hr.del e1 e2, ?_⟩, ht'⟩
    have := size_del (k := .int .i64 n) hr.td
    rw [(hr.yes n v e0).1] at this
    simp at this
    omega
end
end Go.Proofs.YtfhcphgjaobnoaaDoor
