/-
  Mr6: The first rows of a list that have each of its keys.
-/
import Derived.Test.YtheidhkmmihjlaaYMr5
set_option linter.unusedVariables false
set_option linter.unusedSimpArgs false
namespace Go.Proofs.Ytheidhkmmihjlaa.ML
open Go.RowKit Go.Maps
attribute [local go_sem] Oper.semAt_some

section
set_option maxHeartbeats 4000000
set_option maxRecDepth 100000
variable {w : World}
/-- The first row of a key. -/
def fstOf (l : List Ro) (s : ByteArray) : Option Ro := l.find? fun r => decide (r.k = s)
theorem fstOf_snoc {l : List Ro} {x : Ro} {s : ByteArray} : fstOf (l ++ [x]) s = (fstOf l s).or (if x.k = s then some x else none) := by
  unfold fstOf
  rw [List.find?_append]
  congr 1
  by_cases h : x.k = s <;> simp [h]
def strLit (s : ByteArray) : Lit := .string s.data.toList
theorem strLit_inj {s t : ByteArray} (h : strLit s = strLit t) : s = t := by
  unfold strLit at h
  injection h with h
  exact ByteArray.ext (Array.toList_inj.1 h)
def Ro.ok (r : Ro) : Prop := r.k.size ≤ 1048576 ∧ r.v.size ≤ 1048576 ∧ -9223372036854775808 ≤ r.t ∧ r.t ≤ 9223372036854775807
theorem Ro.ok.key {r : Ro} (h : r.ok) : keyOf Try.prog 9 (.string r.k) = some (strLit r.k) := str_key (by have := h.1; unfold maxLen; omega)
theorem Ro.ok.nm {r : Ro} (h : r.ok) : r.nm.ok := ⟨h.1, h.2.2.1, h.2.2.2⟩
theorem zeroRo (u : World) : (zeroValue 45).run Try.prog u = .ok (.agg #[.string .empty, .string .empty, .int .i64 0]) u := by kernel_rfl
/-- What the map has: the first row of each key. -/
def Fst (L : List Ro) (f : Lit → Option Value) : Prop := (∀ l v, f l = some v → ∃ r ∈ L, l = strLit r.k ∧ v = r.val) ∧ ∀ s, f (strLit s) = (fstOf L s).map Ro.val

variable {bo : Option Addr} {lb cb : Nat} {L : List Ro}
end
end Go.Proofs.Ytheidhkmmihjlaa.ML
