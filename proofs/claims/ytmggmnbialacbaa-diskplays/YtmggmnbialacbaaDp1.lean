/-
  Plain facts on lists of bytes and on slices of bytes in memory: no program in sight.
-/
import Derived.WalkKit
import Derived.WalkSpells
import Derived.WalkLawsBesides
import Derived.Laws.BytesArg
import Derived.Laws.CopyOwn
import Derived.Laws.AppendOwnNone
import Derived.Lib.AppendStr
set_option linter.unusedVariables false
set_option linter.unusedSimpArgs false
namespace Go.Proofs.Ytmggmnbialacbaa
open Go.RowKit

/-- Each number is a byte's. -/
def Byt (xs : List Int) : Prop := ∀ x ∈ xs, 0 ≤ x ∧ x ≤ 255

theorem Byt.nil : Byt [] := fun _ h => by cases h
theorem Byt.cons {x : Int} {xs : List Int} (h : 0 ≤ x ∧ x ≤ 255) (hs : Byt xs) : Byt (x :: xs) := fun y hy => by
  rcases List.mem_cons.1 hy with rfl | hy
  · exact h
  · exact hs y hy
theorem Byt.append {xs ys : List Int} (h : Byt xs) (k : Byt ys) : Byt (xs ++ ys) := fun y hy => by
  rcases List.mem_append.1 hy with hy | hy
  · exact h y hy
  · exact k y hy
theorem Byt.take {xs : List Int} (h : Byt xs) (n : Nat) : Byt (xs.take n) := fun y hy => h y (List.mem_of_mem_take hy)
theorem Byt.drop {xs : List Int} (h : Byt xs) (n : Nat) : Byt (xs.drop n) := fun y hy => h y (List.mem_of_mem_drop hy)
theorem Byt.getD {xs : List Int} (h : Byt xs) (i : Nat) : 0 ≤ xs.getD i 0 ∧ xs.getD i 0 ≤ 255 := by
  by_cases hi : i < xs.length
  · simp only [List.getD, List.getElem?_eq_getElem hi, Option.getD_some]
    exact h _ (List.getElem_mem hi)
  · simp [List.getD, List.getElem?_eq_none (by omega : xs.length ≤ i)]

/-- Bytes as cells. -/
def bc (xs : List Int) : List Value := xs.map (Value.int .u8)
theorem bc_length (xs : List Int) : (bc xs).length = xs.length := by simp [bc]
theorem bc_append (xs ys : List Int) : bc (xs ++ ys) = bc xs ++ bc ys := by simp [bc]
theorem bc_one (xs : List Int) : ∀ u ∈ bc xs, u.oneCell' = true := by
  intro u hu
  simp only [bc, List.mem_map] at hu
  obtain ⟨x, _, rfl⟩ := hu
  rfl
theorem bc_get (xs : List Int) (j : Nat) (u : Value) (h : (bc xs)[j]? = some u) : j < xs.length ∧ u = .int .u8 (xs.getD j 0) := by
  have hj : j < xs.length := by
    rcases Nat.lt_or_ge j xs.length with h1 | h1
    · exact h1
    · rw [List.getElem?_eq_none (by simpa [bc] using h1)] at h
      cases h
  refine ⟨hj, ?_⟩
  simp only [bc, List.getElem?_map, List.getElem?_eq_getElem hj, Option.map_some, Option.some.injEq] at h
  rw [← h]
  simp [List.getD, List.getElem?_eq_getElem hj]

theorem addr_add (g off i : Nat) : (⟨g, off, none⟩ : Addr).add i = ⟨g, off + i, none⟩ := by unfold Addr.add; split <;> simp_all

/-- A slice of bytes that is read: its elements are 'xs'; where there is one, they lie in a row of cells. -/
def Sl (w : World) (ao : Option Addr) (len cap : Nat) (xs : List Int) : Prop :=
  xs.length = len ∧ len ≤ cap ∧ cap ≤ maxLen ∧ Byt xs ∧ (ao = none → len = 0 ∧ cap = 0) ∧
  (0 < len → ∃ b off, ao = some ⟨b, off, none⟩ ∧ b < w.heap.size ∧ ∀ i, i < len → w.cell? ⟨b, off + i, none⟩ = some (.int .u8 (xs.getD i 0)))

theorem Sl.nil (w : World) : Sl w none 0 0 [] := ⟨rfl, Nat.le_refl _, Nat.zero_le _, Byt.nil, fun _ => ⟨rfl, rfl⟩, fun h => absurd h (by omega)⟩

theorem Sl.below {w w' : World} {ao : Option Addr} {len cap : Nat} {xs : List Int} (h : Sl w ao len cap xs) (hb : Below w.heap.size w w') : Sl w' ao len cap xs := by
  obtain ⟨h1, h2, h3, h4, h5, h6⟩ := h
  refine ⟨h1, h2, h3, h4, h5, fun hl => ?_⟩
  obtain ⟨b, off, e, hlt, hc⟩ := h6 hl
  exact ⟨b, off, e, Nat.lt_of_lt_of_le hlt hb.size, fun i hi => (hb.cell (p := ⟨b, off + i, none⟩) hlt).trans (hc i hi)⟩

/-- A row of bytes that the call itself made, beginning at its block's head. -/
def Own (w : World) (base : Nat) (v : Value) (xs : List Int) : Prop := w.ownsRow base 5 1 v xs.length (bc xs)

/-- An own row that has an element, or that is no nil slice, written out. -/
theorem Own.sl {w : World} {base : Nat} {v : Value} {xs : List Int} (h : Own w base v xs) (hb : Byt xs) :
    ∃ ao cap, v = .slice ao xs.length cap ∧ Sl w ao xs.length cap xs ∧ ∀ b off, ao = some ⟨b, off, none⟩ → base ≤ b := by
  rcases h.2 with ⟨rfl, h0⟩ | ⟨g, cap, cur, rfl, hg, hh, hn, hm, hs, ht⟩
  · obtain rfl : xs = [] := List.eq_nil_of_length_eq_zero h0
    exact ⟨none, 0, rfl, Sl.nil w, fun b off e => by cases e⟩
  · refine ⟨some ⟨g, 0, none⟩, cap, rfl, ⟨rfl, hn, hm, hb, (fun e => by cases e), fun hl => ⟨g, 0, rfl, (Array.getElem?_eq_some_iff.1 hh).1, fun i hi => ?_⟩⟩, fun b off e => by cases e; exact hg⟩
    have hc := World.ownsRow.cells (show w.ownsRow base 5 1 (.slice (some ⟨g, 0, none⟩) xs.length cap) xs.length (bc xs) from ⟨h.1, .inr ⟨g, cap, cur, rfl, hg, hh, hn, hm, hs, ht⟩⟩) (g := g) rfl i (.int .u8 (xs.getD i 0)) (by
      simp [bc, List.getD, List.getElem?_eq_getElem hi])
    rw [addr_add] at hc
    exact hc

theorem Own.of_bc {w : World} {base : Nat} {v : Value} {n : Nat} {xs : List Int} (h : w.ownsRow base 5 1 v n (bc xs)) (hn : n = xs.length) : Own w base v xs := by subst hn; exact h

/-- The text of a slice of bytes. -/
theorem Sl.str {P : Program} {w : World} {ao : Option Addr} {len cap : Nat} {xs : List Int} (h : Sl w ao len cap xs) (src : TypeId) (hs : P.underlying src = some (.slice 5)) (he : P.underlying 5 = some (.int .u8)) (hd : P.underlying 9 = some .string) :
    (convert src 9 (.slice ao len cap)).run P w = .ok (.string (strOfNums xs)) w := by
  obtain ⟨h1, h2, h3, h4, h5, h6⟩ := h
  by_cases hl : 0 < len
  · obtain ⟨b, off, rfl, _, hc⟩ := h6 hl
    exact run_convert_bytes_arg w src 5 hs he b off len cap xs h1 hc 9 hd
  · obtain rfl : len = 0 := by omega
    obtain rfl : xs = [] := List.eq_nil_of_length_eq_zero h1
    cases ao with
    | none => exact run_convert_bytes_nil w src 5 hs he 0 cap 9 hd
    | some a =>
      rw [run_convert_bytes_string w src 9 5 _ 0 cap hs he hd]
      have := run_bytesToString (P := P) w a 0 cap [] (by simpa using run_loadCells_list (P := P) w a [] (fun j v hj => by simp at hj))
      rw [this]
      rfl

/-- A row whose first cells are bytes is owned. -/
theorem Own.of_block {w : World} {base g cap : Nat} {xs : List Int} {rest : List Value} (hg : w.heap[g]? = some (.cells (bc xs ++ rest).toArray 5 (0, 0))) (hb : base ≤ g) (hc : cap = xs.length + rest.length) (hm : cap ≤ maxLen) :
    Own w base (.slice (some ⟨g, 0, none⟩) xs.length cap) xs :=
  ⟨by simp [bc], .inr ⟨g, cap, _, rfl, hb, hg, by omega, hm, by simp [bc]; omega, by simp [bc]⟩⟩

/-- An own row, its length a letter. -/
theorem Own.sl' {w : World} {base : Nat} {v : Value} {xs : List Int} (h : Own w base v xs) (hb : Byt xs) :
    ∃ ao len cap, v = .slice ao len cap ∧ Sl w ao len cap xs ∧ ∀ b off, ao = some ⟨b, off, none⟩ → base ≤ b := by
  obtain ⟨ao, cap, h1, h2, h3⟩ := h.sl hb
  exact ⟨ao, _, cap, h1, h2, h3⟩

/-- A part of a slice of bytes. -/
theorem Sl.sliced {w : World} {ao : Option Addr} {len cap : Nat} {xs : List Int} (h : Sl w ao len cap xs) (l k : Nat) (hlk : l ≤ k) (hk : k ≤ len) :
    ∃ ao', Go.sliced ao l k cap 1 = .slice ao' (k - l) (cap - l) ∧ Sl w ao' (k - l) (cap - l) ((xs.take k).drop l) := by
  obtain ⟨h1, h2, h3, h4, h5, h6⟩ := h
  refine ⟨_, rfl, ⟨by simp; omega, by omega, by omega, (h4.take _).drop _, ?_, ?_⟩⟩
  · intro e
    cases ao with
    | none => obtain ⟨rfl, rfl⟩ := h5 rfl; omega
    | some a => split at e <;> simp at e
  · intro hl
    obtain ⟨b, off, rfl, hlt, hc⟩ := h6 (by omega)
    refine ⟨b, off + l, ?_, hlt, fun i hi => ?_⟩
    · rw [if_neg (by omega)]
      simp [addr_add]
    · have := hc (l + i) (by omega)
      rw [Nat.add_assoc, this]
      have h7 : ((xs.take k).drop l).getD i 0 = xs.getD (l + i) 0 := by
        simp only [List.getD, List.getElem?_drop]
        rw [List.getElem?_take_of_lt (by omega)]
      rw [h7]

theorem Sl.drewN {w : World} {ao : Option Addr} {len cap : Nat} {xs : List Int} (h : Sl w ao len cap xs) (q : Nat) : Sl (w.drewN q) ao len cap xs := by
  obtain ⟨h1, h2, h3, h4, h5, h6⟩ := h
  refine ⟨h1, h2, h3, h4, h5, fun hl => ?_⟩
  obtain ⟨b, off, e, hlt, hc⟩ := h6 hl
  exact ⟨b, off, e, by simpa using hlt, fun i hi => by simpa using hc i hi⟩

/-- 'b[:k]'. -/
theorem Sl.upto {P : Program} {w : World} {ao : Option Addr} {len cap : Nat} {xs : List Int} (h : Sl w ao len cap xs) (t : TypeId) (ht : P.underlying t = some (.slice 5)) (hs : ∀ u : World, (Go.sizeOf 5).run P u = .ok 1 u) (k : Nat) (hk : k ≤ len) :
    ∃ ao', (∀ u : World, (Instr.slice t (.slice ao len cap) none (some (.int .i64 (k : Int))) none).run P u = .ok (.slice ao' k cap) u) ∧ Sl w ao' k cap (xs.take k) := by
  have ht' : P.underlying t = some (.slice (P.elem t)) := by simp [Program.elem, ht]
  have he : P.elem t = 5 := by simp [Program.elem, ht]
  have hc := h.2.1
  obtain ⟨ao', e, hsl⟩ := h.sliced 0 k (Nat.zero_le _) hk
  refine ⟨ao', ?_, by simpa using hsl⟩
  intro u
  rw [run_slice_h u t ao len cap ht' .i64 k (by omega) (by omega), he, hs]
  simp only [Result.andThen, Int.toNat_natCast]
  rw [e]
  simp

/-! ### Numbers as bytes -/
/-- An own row stays below nothing that was there ahead of it. -/
theorem Own.grown {w w1 : World} {base : Nat} {v : Value} {ys : List Int} (h : Own w base v ys) (hg : w.grownBy w1 v.ownBlock) (hb : base ≤ w.heap.size) : Below base w w1 :=
  (Below.refl _ _).grown hg hb fun k hk => (World.ownsRow.lt h k hk).1

end Go.Proofs.Ytmggmnbialacbaa

/-
  Laws for 'append' of slices and strings onto an own row of bytes: no program in sight.
-/
set_option linter.unusedVariables false
set_option linter.unusedSimpArgs false
namespace Go.Proofs.Ytmggmnbialacbaa
open Go.RowKit

/-- 'append(v, x...)', v an own row, x a slice of bytes. -/
theorem wpList_append_sl {P : Program} {w : World} {ops : Array Oper} {rest : List Oper} {o : Oper} {a : Act} {Q : Exit → Act → World → Prop} (hgd : o.guard = none) (s x : Operand) (t : TypeId)
    (ho : o.op = .call { callee := .builtin .append, args := #[s, x], argTypes := #[t, t] })
    (base : Nat) (i : TypeInfo) (ht : P.underlying t = some (.slice 5)) (hi : P.info? 5 = some i) (hz : i.zero = some (.int .u8 0)) (hsize : i.size = 1) (hby : i.bytes = 1)
    (v : Value) (xs : List Int) (hs : a.eval s = v) (hown : Own w base v xs) (ao : Option Addr) (len cap : Nat) (ys : List Int) (hx : a.eval x = .slice ao len cap) (hsl : Sl w ao len cap ys)
    (hlen : xs.length + len ≤ 140737488355328) (hbase : base ≤ w.heap.size)
    (h : ∀ v' w', Own w' base v' (xs ++ ys) → Below base w w' → wpList P ops Q rest (a.put o.dst v') w') : wpList P ops Q (o :: rest) a w := by
  obtain ⟨h1, h2, h3, h4, h5, h6⟩ := hsl
  cases ao with
  | none =>
    obtain ⟨rfl, rfl⟩ := h5 rfl
    obtain rfl : ys = [] := List.eq_nil_of_length_eq_zero h1
    exact wpList_append_own_none hgd s x t ho base 5 i 1 ht hi v _ _ hs hown hx (h v w (by simpa using hown) (Below.refl _ _))
  | some ad =>
    refine wpList_append_own w hgd s x t ho base 5 i (.int .u8 0) 1 1 ht hi hz hsize hby rfl (by decide) v _ _ hs hown ad len cap (bc ys) hx (by rw [bc_length]; omega) ?_ (bc_one ys) (by unfold maxLen; omega) (by omega) hbase ?_
    · intro j u hj
      obtain ⟨hj1, rfl⟩ := bc_get ys j u hj
      obtain ⟨b, off, e, _, hc⟩ := h6 (by omega)
      obtain rfl : ad = ⟨b, off, none⟩ := by simpa using e
      rw [addr_add]
      exact hc j (by omega)
    · intro v' w' ho' hg _
      refine h v' w' ?_ (Own.grown hown hg hbase)
      refine Own.of_bc (n := xs.length + len) ?_ (by simp; omega)
      rw [bc_append]
      exact ho'

end Go.Proofs.Ytmggmnbialacbaa
