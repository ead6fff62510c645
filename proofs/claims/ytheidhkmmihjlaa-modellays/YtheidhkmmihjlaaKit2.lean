/-
  Laws for 'append' of slices and strings onto an own row of bytes: no program in sight.
-/
import Derived.Test.YtheidhkmmihjlaaKit
set_option linter.unusedVariables false
set_option linter.unusedSimpArgs false
namespace Go.Proofs.Ytheidhkmmihjlaa
open Go.RowKit

/-- 'append(v, x...)', v an own row, x a slice of bytes. -/
theorem wpList_append_sl {P : Program} {w : World} {ops : Array Oper} {rest : List Oper} {o : Oper} {a : Act} {Q : Exit → Act → World → Prop} (hgd : o.guard = none) (s x : Operand) (t : TypeId)
    (ho : o.op = .call { callee := .builtin .append, args := #[s, x], argTypes := #[t, t] })
    (base : Nat) (i : TypeInfo) (ht : P.underlying t = some (.slice 5)) (hi : P.info? 5 = some i) (hz : i.zero = some (.int .u8 0)) (hsize : i.size = 1) (hby : i.bytes = 1)
    (v : Value) (xs : List Int) (hs : a.eval s = v) (hown : Own w base v xs) (ao : Option Addr) (len cap : Nat) (ys : List Int) (hx : a.eval x = .slice ao len cap) (hsl : Sl w ao len cap ys)
    (hlen : xs.length + len ≤ 140737488355328) (hbase : base ≤ w.heap.size)
    (h : ∀ v' w', Own w' base v' (xs ++ ys) → Below base w w' → wpList P ops Q rest (a.put o.dst v') w') : wpList P ops Q (o :: rest) a w := by
  obtain ⟨h1, h2, h3, h4, h5, h6⟩ := hsl
  cases ao with
  | none =>
    obtain ⟨rfl, rfl⟩ := h5 rfl
    obtain rfl : ys = [] := List.eq_nil_of_length_eq_zero h1
    exact wpList_append_own_none hgd s x t ho base 5 i 1 ht hi v _ _ hs hown hx (h v w (by simpa using hown) (Below.refl _ _))
  | some ad =>
    refine wpList_append_own w hgd s x t ho base 5 i (.int .u8 0) 1 1 ht hi hz hsize hby rfl (by decide) v _ _ hs hown ad len cap (bc ys) hx (by rw [bc_length]; omega) ?_ (bc_one ys) (by unfold maxLen; omega) (by omega) hbase ?_
    · intro j u hj
      obtain ⟨hj1, rfl⟩ := bc_get ys j u hj
      obtain ⟨b, off, e, _, hc⟩ := h6 (by omega)
      obtain rfl : ad = ⟨b, off, none⟩ := by simpa using e
      rw [addr_add]
      exact hc j (by omega)
    · intro v' w' ho' hg _
      refine h v' w' ?_ (Own.grown hown hg hbase)
      refine Own.of_bc (n := xs.length + len) ?_ (by simp; omega)
      rw [bc_append]
      exact ho'

/-- A string's bytes as numbers. -/
def sb (s : ByteArray) : List Int := s.data.toList.map fun u => (u.toNat : Int)
theorem sb_length (s : ByteArray) : (sb s).length = s.size := by
  rw [sb, List.length_map, Array.length_toList]
  rfl
theorem sb_byt (s : ByteArray) : Byt (sb s) := by
  intro x hx
  simp only [sb, List.mem_map] at hx
  obtain ⟨u, _, rfl⟩ := hx
  have := u.toNat_lt
  omega
theorem bc_sb (s : ByteArray) : bc (sb s) = Lib.strCells s := by simp [bc, sb, Lib.strCells]
theorem str_sb (s : ByteArray) : strOfNums (sb s) = s := by
  apply ByteArray.ext
  apply Array.toList_inj.1
  rw [strOfNums_data, sb, List.map_map]
  conv => rhs; rw [← List.map_id s.data.toList]
  apply List.map_congr_left
  intro x _
  simp

/-- 'append(v, s...)', v an own row, s a string. -/
theorem wpList_append_str {P : Program} {w : World} {ops : Array Oper} {rest : List Oper} {o : Oper} {a : Act} {Q : Exit → Act → World → Prop} (hgd : o.guard = none) (sl x : Operand) (t : TypeId)
    (ho : o.op = .call { callee := .builtin .append, args := #[sl, x], argTypes := #[t, 9] })
    (base : Nat) (i : TypeInfo) (ht : P.underlying t = some (.slice 5)) (hu : P.underlying 9 = some .string) (hi : P.info? 5 = some i) (hz : i.zero = some (.int .u8 0)) (hsize : i.size = 1) (hby : i.bytes = 1)
    (v : Value) (xs : List Int) (hs : a.eval sl = v) (hown : Own w base v xs) (s : ByteArray) (hx : a.eval x = .string s)
    (hlen : xs.length + s.size ≤ 140737488355328) (hbase : base ≤ w.heap.size)
    (h : ∀ v' w', Own w' base v' (xs ++ sb s) → Below base w w' → wpList P ops Q rest (a.put o.dst v') w') : wpList P ops Q (o :: rest) a w := by
  refine Lib.wpList_append_own_string w hgd sl x t 9 ho base 5 i ht hu hi hz hsize hby v _ _ hs hown s hx (by unfold maxLen; omega) hlen hbase ?_
  intro v' w' ho' hg _
  refine h v' w' ?_ (Own.grown hown hg hbase)
  refine Own.of_bc (n := xs.length + s.size) ?_ (by rw [List.length_append, sb_length])
  rw [bc_append, bc_sb]
  exact ho'

end Go.Proofs.Ytheidhkmmihjlaa
