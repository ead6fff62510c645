/-
  What stands by numbers: find, has, remove. (Printed by gen_ta2.py.)
-/
import Derived.Test.YtfhcphgjaobnoaaDoorTa1
import Derived.Lib.SmallJoins
set_option linter.unusedVariables false
set_option linter.unusedSimpArgs false
namespace Go.Proofs.YtfhcphgjaobnoaaDoor
open Go.RowKit Go.Maps

/-- The store's own cells. -/
def Sb (w : World) (sb d : Nat) (l0 : Nat) (m0 : Option Nat) (l1 : Nat) (m1 : Option Nat) (l2 : Nat) (m2 : Option Nat) : Prop :=
  w.heap[sb]? = some (.cells #[.pointer (some ⟨d, 0, none⟩), .int .i64 (l0 : Int), .map m0, .int .i64 (l1 : Int), .map m1, .int .i64 (l2 : Int), .map m2] 104 (0, 0))
section
variable {w w' : World} {sb d l0 l1 l2 : Nat} {m0 m1 m2 : Option Nat}
theorem Sb.lt (h : Sb w sb d l0 m0 l1 m1 l2 m2) : sb < w.heap.size := (Array.getElem?_eq_some_iff.1 h).1
theorem Sb.cells (h : Sb w sb d l0 m0 l1 m1 l2 m2) : w.cell? ⟨sb, 0, none⟩ = some (.pointer (some ⟨d, 0, none⟩)) ∧ w.cell? ⟨sb, 1, none⟩ = some (.int .i64 (l0 : Int)) ∧ w.cell? ⟨sb, 2, none⟩ = some (.map m0) ∧
    w.cell? ⟨sb, 3, none⟩ = some (.int .i64 (l1 : Int)) ∧ w.cell? ⟨sb, 4, none⟩ = some (.map m1) ∧ w.cell? ⟨sb, 5, none⟩ = some (.int .i64 (l2 : Int)) ∧ w.cell? ⟨sb, 6, none⟩ = some (.map m2) := by
  unfold Sb at h
  refine ⟨?_, ?_, ?_, ?_, ?_, ?_, ?_⟩ <;> (rw [Go.Joins.cell_of_block h]; rfl)
theorem Sb.free (h : Sb w sb d l0 m0 l1 m1 l2 m2) (i : Nat) : w.frozen? ⟨sb, i, none⟩ = false := Go.Joins.unfrozen_of_block h i
theorem Sb.same (h : Sb w sb d l0 m0 l1 m1 l2 m2) (e : w'.heap[sb]? = w.heap[sb]?) : Sb w' sb d l0 m0 l1 m1 l2 m2 := e.trans h
theorem Sb.set (h : Sb w sb d l0 m0 l1 m1 l2 m2) : (∀ n : Nat, Sb (w.setCell ⟨sb, 1, none⟩ (.int .i64 (n : Int))) sb d n m0 l1 m1 l2 m2) ∧ (∀ m, Sb (w.setCell ⟨sb, 2, none⟩ (.map m)) sb d l0 m l1 m1 l2 m2) ∧
    (∀ n : Nat, Sb (w.setCell ⟨sb, 3, none⟩ (.int .i64 (n : Int))) sb d l0 m0 n m1 l2 m2) ∧ (∀ m, Sb (w.setCell ⟨sb, 4, none⟩ (.map m)) sb d l0 m0 l1 m l2 m2) ∧
    (∀ n : Nat, Sb (w.setCell ⟨sb, 5, none⟩ (.int .i64 (n : Int))) sb d l0 m0 l1 m1 n m2) ∧ (∀ m, Sb (w.setCell ⟨sb, 6, none⟩ (.map m)) sb d l0 m0 l1 m1 l2 m) := by
  unfold Sb at *
  refine ⟨?_, ?_, ?_, ?_, ?_, ?_⟩ <;> (intro v; rw [Go.Joins.block_setCell h]; rfl)
end
theorem zeroN (u : World) : (zeroValue 91).run Tryd.prog u = .ok (.agg #[.int .i64 0, .int .i64 0]) u := by kernel_rfl
theorem zeroV (u : World) : (zeroValue 106).run Tryd.prog u = .ok (.agg #[.string ⟨#[]⟩, .int .i64 0, .int .i64 0, .int .i64 0]) u := by kernel_rfl
theorem zeroT (u : World) : (zeroValue 3).run Tryd.prog u = .ok (.int .i64 0) u := by kernel_rfl

section
variable {w : World} {sb q k : Nat} {mb : Option Nat} {f : Int → Option Value} {n : Int}
set_option maxRecDepth 100000 in
set_option maxHeartbeats 4000000 in
theorem findN_in {x0 x1 : Int} (hl : sb < w.heap.size) (hc : w.cell? ⟨sb, 2, none⟩ = some (.map mb)) (hm : Mp w mb f q k) (h1 : -9223372036854775808 ≤ n) (h2 : n ≤ 9223372036854775807) (hf : f n = some (.agg #[.int .i64 x0, .int .i64 x1])) :
    Calls Tryd.prog 78 #[.pointer (some ⟨sb, 1, none⟩), .int .i64 n] w fun e w' => e = .returned (.tuple #[.agg #[.int .i64 x0, .int .i64 x1], .int .i64 0]) ∧ Below w.heap.size w w' := by
  have hlk := (hm.same (w' := w.alloc (.cells #[.int .i64 0, .int .i64 0] 91)) (fun b e => Below.heap_alloc _ _ _ (hm.lt e))).look Tryd.underlying94 (zeroN _) h1 h2
  rw [hf] at hlk
  simp only [Option.getD, Option.isSome] at hlk
  have hc1 : (w.alloc (.cells #[.int .i64 0, .int .i64 0] 91)).cell? ⟨sb, 2, none⟩ = some (.map mb) := ((World.cell?_of_block (Below.heap_alloc _ _ _ hl)).trans hc)
  clear hm hf
  go_enter Tryd.func78, Tryd.ntmps78
  go_wp2
  refine bodyPost_ret (v := .tuple #[.agg #[.int .i64 x0, .int .i64 x1], .int .i64 0]) (by simp [results, Tryd.results78, go_sem]) rfl ⟨rfl, ((Below.refl _ _).alloc (Nat.le_refl _) _).alloc (by simp) _⟩
set_option maxRecDepth 100000 in
set_option maxHeartbeats 4000000 in
theorem findN_out  (hl : sb < w.heap.size) (hc : w.cell? ⟨sb, 2, none⟩ = some (.map mb)) (hm : Mp w mb f q k) (h1 : -9223372036854775808 ≤ n) (h2 : n ≤ 9223372036854775807) (hf : f n = none) :
    Calls Tryd.prog 78 #[.pointer (some ⟨sb, 1, none⟩), .int .i64 n] w fun e w' => e = .returned (.tuple #[.agg #[.int .i64 0, .int .i64 0], .int .i64 110]) ∧ Below w.heap.size w w' := by
  have hlk := (hm.same (w' := w.alloc (.cells #[.int .i64 0, .int .i64 0] 91)) (fun b e => Below.heap_alloc _ _ _ (hm.lt e))).look Tryd.underlying94 (zeroN _) h1 h2
  rw [hf] at hlk
  simp only [Option.getD, Option.isSome] at hlk
  have hc1 : (w.alloc (.cells #[.int .i64 0, .int .i64 0] 91)).cell? ⟨sb, 2, none⟩ = some (.map mb) := ((World.cell?_of_block (Below.heap_alloc _ _ _ hl)).trans hc)
  clear hm hf
  go_enter Tryd.func78, Tryd.ntmps78
  go_wp2
  refine bodyPost_ret (v := .tuple #[.agg #[.int .i64 0, .int .i64 0], .int .i64 110]) (by simp [results, Tryd.results78, go_sem]) rfl ⟨rfl, ((Below.refl _ _).alloc (Nat.le_refl _) _).alloc (by simp) _⟩
set_option maxRecDepth 100000 in
set_option maxHeartbeats 4000000 in
theorem findV_in {x0 : ByteArray} {x1 x2 x3 : Int} (hl : sb < w.heap.size) (hc : w.cell? ⟨sb, 4, none⟩ = some (.map mb)) (hm : Mp w mb f q k) (h1 : -9223372036854775808 ≤ n) (h2 : n ≤ 9223372036854775807) (hf : f n = some (.agg #[.string x0, .int .i64 x1, .int .i64 x2, .int .i64 x3])) :
    Calls Tryd.prog 87 #[.pointer (some ⟨sb, 3, none⟩), .int .i64 n] w fun e w' => e = .returned (.tuple #[.agg #[.string x0, .int .i64 x1, .int .i64 x2, .int .i64 x3], .int .i64 0]) ∧ Below w.heap.size w w' := by
  have hlk := (hm.same (w' := w.alloc (.cells #[.string ⟨#[]⟩, .int .i64 0, .int .i64 0, .int .i64 0] 106)) (fun b e => Below.heap_alloc _ _ _ (hm.lt e))).look Tryd.underlying97 (zeroV _) h1 h2
  rw [hf] at hlk
  simp only [Option.getD, Option.isSome] at hlk
  have hc1 : (w.alloc (.cells #[.string ⟨#[]⟩, .int .i64 0, .int .i64 0, .int .i64 0] 106)).cell? ⟨sb, 4, none⟩ = some (.map mb) := ((World.cell?_of_block (Below.heap_alloc _ _ _ hl)).trans hc)
  clear hm hf
  go_enter Tryd.func87, Tryd.ntmps87
  go_wp2
  refine bodyPost_ret (v := .tuple #[.agg #[.string x0, .int .i64 x1, .int .i64 x2, .int .i64 x3], .int .i64 0]) (by simp [results, Tryd.results87, go_sem]) rfl ⟨rfl, ((Below.refl _ _).alloc (Nat.le_refl _) _).alloc (by simp) _⟩
set_option maxRecDepth 100000 in
set_option maxHeartbeats 4000000 in
theorem findV_out  (hl : sb < w.heap.size) (hc : w.cell? ⟨sb, 4, none⟩ = some (.map mb)) (hm : Mp w mb f q k) (h1 : -9223372036854775808 ≤ n) (h2 : n ≤ 9223372036854775807) (hf : f n = none) :
    Calls Tryd.prog 87 #[.pointer (some ⟨sb, 3, none⟩), .int .i64 n] w fun e w' => e = .returned (.tuple #[.agg #[.string ⟨#[]⟩, .int .i64 0, .int .i64 0, .int .i64 0], .int .i64 110]) ∧ Below w.heap.size w w' := by
  have hlk := (hm.same (w' := w.alloc (.cells #[.string ⟨#[]⟩, .int .i64 0, .int .i64 0, .int .i64 0] 106)) (fun b e => Below.heap_alloc _ _ _ (hm.lt e))).look Tryd.underlying97 (zeroV _) h1 h2
  rw [hf] at hlk
  simp only [Option.getD, Option.isSome] at hlk
  have hc1 : (w.alloc (.cells #[.string ⟨#[]⟩, .int .i64 0, .int .i64 0, .int .i64 0] 106)).cell? ⟨sb, 4, none⟩ = some (.map mb) := ((World.cell?_of_block (Below.heap_alloc _ _ _ hl)).trans hc)
  clear hm hf
  go_enter Tryd.func87, Tryd.ntmps87
  go_wp2
  refine bodyPost_ret (v := .tuple #[.agg #[.string ⟨#[]⟩, .int .i64 0, .int .i64 0, .int .i64 0], .int .i64 110]) (by simp [results, Tryd.results87, go_sem]) rfl ⟨rfl, ((Below.refl _ _).alloc (Nat.le_refl _) _).alloc (by simp) _⟩
set_option maxRecDepth 100000 in
set_option maxHeartbeats 4000000 in
theorem hasV_in {x0 : ByteArray} {x1 x2 x3 : Int} (hl : sb < w.heap.size) (hc : w.cell? ⟨sb, 4, none⟩ = some (.map mb)) (hm : Mp w mb f q k) (h1 : -9223372036854775808 ≤ n) (h2 : n ≤ 9223372036854775807) (hf : f n = some (.agg #[.string x0, .int .i64 x1, .int .i64 x2, .int .i64 x3])) :
    Calls Tryd.prog 54 #[.pointer (some ⟨sb, 3, none⟩), .int .i64 n] w fun e w' => e = .returned (.bool true) ∧ Below w.heap.size w w' := by
  have hlk := hm.look Tryd.underlying97 (zeroV _) h1 h2
  rw [hf] at hlk
  simp only [Option.getD, Option.isSome] at hlk
  clear hm hf
  go_enter Tryd.func54, Tryd.ntmps54
  go_wp2
  go_ret
  exact ⟨rfl, (Below.refl _ _).alloc (Nat.le_refl _) _⟩
set_option maxRecDepth 100000 in
set_option maxHeartbeats 4000000 in
theorem hasV_out (hl : sb < w.heap.size) (hc : w.cell? ⟨sb, 4, none⟩ = some (.map mb)) (hm : Mp w mb f q k) (h1 : -9223372036854775808 ≤ n) (h2 : n ≤ 9223372036854775807) (hf : f n = none) :
    Calls Tryd.prog 54 #[.pointer (some ⟨sb, 3, none⟩), .int .i64 n] w fun e w' => e = .returned (.bool false) ∧ Below w.heap.size w w' := by
  have hlk := hm.look Tryd.underlying97 (zeroV _) h1 h2
  rw [hf] at hlk
  simp only [Option.getD, Option.isSome] at hlk
  clear hm hf
  go_enter Tryd.func54, Tryd.ntmps54
  go_wp2
  go_ret
  exact ⟨rfl, (Below.refl _ _).alloc (Nat.le_refl _) _⟩
set_option maxRecDepth 100000 in
set_option maxHeartbeats 4000000 in
theorem removeV_any {b : Nat} {f' : Int → Option Value} {v : Value} (hc : w.cell? ⟨sb, 4, none⟩ = some (.map (some b))) (hm : Mp w (some b) f q k) (h1 : -9223372036854775808 ≤ n) (h2 : n ≤ 9223372036854775807) (e0 : f n = some v) (e1 : f' n = none) (e2 : ∀ m, m ≠ n → f' m = f m) :
    Calls Tryd.prog 102 #[.pointer (some ⟨sb, 3, none⟩), .int .i64 n] w fun e w' => e = .returned (.tuple #[]) ∧ Mp w' (some b) f' q (k - 1) ∧ Fr (fun j => j = b) w w' := by
  obtain ⟨w1, hrun, hm1, ht⟩ := hm.drop Tryd.underlying97 h1 h2 0 e0 e1 e2
  have HM := hide2 hm1
  have HF : Hid (Fr (fun j => j = b) w w1) := hide2 (Fr.grown ht.grown (fun j e => by simpa using e.symm))
  clear hm e0 e1 e2 hm1 ht
  go_enter Tryd.func102, Tryd.ntmps102
  go_wp2
  go_end0
  exact ⟨rfl, HM.out, HF.out⟩
end
end Go.Proofs.YtfhcphgjaobnoaaDoor
