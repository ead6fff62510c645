/-
  Mr0: Rows and what is gone, in memory: slices that are read, rows that a call has made.
-/
import Derived.Test.YtheidhkmmihjlaaRows
import Derived.Test.YtheidhkmmihjlaaDo1
import Derived.WalkKit
import Derived.WalkSpells
import Derived.WalkLawsBesides
import Derived.Handy
import Derived.BigQuiet
import Derived.Deep.RegionWith
import Derived.Lib.SmallJoins
import Derived.Laws.OwnMore
import Derived.WalkSmall
import Derived.Maps.AppendAt
import Derived.Laws.AppendOwnNone
import Derived.Deep.OwnRows
import Derived.Deep.MidRow
set_option linter.unusedVariables false
set_option linter.unusedSimpArgs false
namespace Go.Proofs.Ytheidhkmmihjlaa.ML
open Go.RowKit

theorem hide2 {p : Prop} (h : p) : Hid p := h
theorem below1 (w : World) (o : Obj) : Below w.heap.size w (w.alloc o) := (Below.refl _ w).alloc (Nat.le_refl _) _
theorem below2 (w : World) (o o' : Obj) : Below w.heap.size w ((w.alloc o).alloc o') := (below1 w o).alloc (by simp) _
theorem take_snoc {α : Type} {l : List α} {i : Nat} {x : α} (h : l[i]? = some x) : l.take (i + 1) = l.take i ++ [x] := by
  rw [List.take_add_one, h]; rfl

/-- A row. -/
structure Ro where
  k : ByteArray
  v : ByteArray
  t : Int
deriving DecidableEq
/-- What is gone. -/
structure Gn where
  k : ByteArray
  t : Int
deriving DecidableEq
abbrev Ro.cl (r : Ro) : List Value := [.string r.k, .string r.v, .int .i64 r.t]
abbrev Gn.cl (g : Gn) : List Value := [.string g.k, .int .i64 g.t]
abbrev Ro.val (r : Ro) : Value := .agg #[.string r.k, .string r.v, .int .i64 r.t]
abbrev Gn.val (g : Gn) : Value := .agg #[.string g.k, .int .i64 g.t]
abbrev RS (w : World) (ao : Option Addr) (len cap : Nat) (l : List Ro) : Prop := Seq 3 Ro.cl w ao len cap l
section
variable {w w' : World} {ao : Option Addr} {len cap : Nat} {l : List Ro} {gl : List Gn}
theorem RS.at (h : RS w ao len cap l) (hl : 0 < len) : ∃ g off, ao = some ⟨g, off, none⟩ ∧ g < w.heap.size ∧ ∀ i r, l[i]? = some r → w.cell? ⟨g, off + i * 3, none⟩ = some (.string r.k) ∧ w.cell? ⟨g, off + i * 3 + 1, none⟩ = some (.string r.v) ∧ w.cell? ⟨g, off + i * 3 + 2, none⟩ = some (.int .i64 r.t) := by
  obtain ⟨g, off, e, hg, hc⟩ := h.2.2.2 hl
  exact ⟨g, off, e, hg, fun i r hr => ⟨hc i r hr 0 _ rfl, hc i r hr 1 _ rfl, hc i r hr 2 _ rfl⟩⟩
end

def rc (l : List Ro) : List Value := l.flatMap Ro.cl
theorem rc_len (l : List Ro) : (rc l).length = l.length * 3 := by
  induction l with
  | nil => rfl
  | cons p l ih => simp only [rc, List.flatMap_cons, List.length_append, List.length_cons, List.length_nil] at *; omega
theorem rc_append (l m : List Ro) : rc (l ++ m) = rc l ++ rc m := by simp [rc]
theorem rc_at : ∀ (l : List Ro) (i : Nat) (r : Ro), l[i]? = some r → ∀ j u, r.cl[j]? = some u → (rc l)[i * 3 + j]? = some u := by
  intro l
  induction l with
  | nil => intro i r h; cases h
  | cons q l ih =>
    intro i r h j u hu
    have hj : j < 3 := (List.getElem?_eq_some_iff.1 hu).1
    have e : rc (q :: l) = q.cl ++ rc l := rfl
    cases i with
    | zero =>
      cases h
      rw [e, List.getElem?_append_left (by simp; omega)]
      simpa using hu
    | succ i =>
      rw [e, List.getElem?_append_right (by simp; omega)]
      have := ih i r (by simpa using h) j u hu
      have e2 : (i + 1) * 3 + j - q.cl.length = i * 3 + j := by simp; omega
      rw [e2]
      exact this
theorem rc_one (l : List Ro) : ∀ u ∈ rc l, u.oneCell' = true := by
  intro u hu
  obtain ⟨p, _, hp⟩ := List.mem_flatMap.1 hu
  simp at hp
  rcases hp with rfl | rfl | rfl <;> rfl
/-- Rows that a call has made, from block B on. -/
abbrev Rr (w : World) (B : Nat) (v : Value) (l : List Ro) : Prop := w.ownsRow B 45 3 v l.length (rc l)
theorem Rr.seq {w : World} {B : Nat} {v : Value} {l : List Ro} (h : Rr w B v l) : ∃ ao cap, v = .slice ao l.length cap ∧ RS w ao l.length cap l := by
  rcases h.2 with ⟨rfl, h0⟩ | ⟨g, cap, cur, rfl, hB, hh, hle, hm, hsz, htk⟩
  · exact ⟨none, 0, by rw [h0], rfl, by omega, Nat.zero_le _, fun q => by omega⟩
  · refine ⟨_, cap, rfl, rfl, hle, hm, fun q => ⟨g, 0, rfl, (Array.getElem?_eq_some_iff.1 hh).1, fun i r hi j u hu => ?_⟩⟩
    have hil := (List.getElem?_eq_some_iff.1 hi).1
    have hj : j < 3 := (List.getElem?_eq_some_iff.1 hu).1
    have h1 := World.ownsRow.cellAt h (i * 3 + j) (by omega)
    have e : (0 + i * 3 + j) = i * 3 + j := by omega
    rw [e, h1]
    exact rc_at l i r hi j u hu
theorem Rr.keep {w w' : World} {B : Nat} {v : Value} {l : List Ro} (h : Rr w B v l) (hb : Below w.heap.size w w') : Rr w' B v l := by
  refine ⟨h.1, ?_⟩
  rcases h.2 with q | ⟨g, cap, cur, e, hB, hh, r⟩
  · exact .inl q
  · exact .inr ⟨g, cap, cur, e, hB, (hb.block g (Array.getElem?_eq_some_iff.1 hh).1).trans hh, r⟩
theorem str_test (a b : ByteArray) : (a.toList == b.toList) = decide (a = b) := by
  rw [ByteArray.toList_eq, ByteArray.toList_eq]
  by_cases h : a = b
  · subst h; simp
  · have : ¬ a.data.toList = b.data.toList := fun e => h (ByteArray.ext (Array.toList_inj.1 e))
    rw [decide_eq_false h]
    exact beq_eq_false_iff_ne.2 this
def nless (a b : ByteArray) : Bool := Op.bytesLess a.toList b.toList

theorem infoRo : (Try.prog.info? 45).map (fun i => (i.zero, i.size, i.bytes)) = some (some (.agg #[.string .empty, .string .empty, .int .i64 0]), 3, 40) := by kernel_rfl
theorem cell_three_new (w : World) (a b c : Value) (t : TypeId) : ∀ j u, [a, b, c][j]? = some u → (w.alloc (.cells #[a, b, c] t)).cell? ((⟨w.heap.size, 0, none⟩ : Addr).add j) = some u := fun j u hu => by
  rw [addr_plus, Nat.zero_add, Go.Joins.cell_of_block (heap_alloc_new _ _)]
  simpa using hu
end Go.Proofs.Ytheidhkmmihjlaa.ML
