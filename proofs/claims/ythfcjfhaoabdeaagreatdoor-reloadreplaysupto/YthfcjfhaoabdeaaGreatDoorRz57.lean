/-
  Rn1: Load of a new disk, and of nil; faultOf; no name is among none.
-/
import Derived.Test.YthfcjfhaoabdeaaGreatDoorRz56
import Derived.Test.YthfcjfhaoabdeaaGreatDoorRz17
set_option linter.unusedVariables false
set_option linter.unusedSimpArgs false
namespace Go.Proofs.YthfcjfhaoabdeaaGreatDoor
open Go.RowKit Go.Maps
attribute [local go_sem] Oper.semAt_some

theorem blk_set {w : World} {b i : Nat} {cs : Array Value} {t : TypeId} {v : Value} (h : w.heap[b]? = some (.cells cs t (0, 0))) : (w.setCell ⟨b, i, none⟩ v).heap[b]? = some (.cells (cs.setIfInBounds i v) t (0, 0)) := Go.Joins.block_setCell h v
def manN : ByteArray := ⟨#[109, 97, 110, 105, 102, 101, 115, 116]⟩
theorem man_read : (Land.pread sA.P manN).1 = 21 := by decide +kernel
theorem names_new : Land.dnames sA.P.now = [] := rfl
section
set_option maxHeartbeats 8000000
set_option maxRecDepth 100000
variable {w : World} {A : Nat → Prop} {d : Nat}
theorem load_new (hD : DV w A d sA) :
    Calls Tryz.prog 47 #[.pointer (some ⟨d, 0, none⟩)] w fun e w' => e = .returned (.tuple #[.agg #[.int .i64 0, .int .i64 1, .slice none 0 0], .slice none 0 0, .int .i64 0]) ∧ Below w.heap.size w w' := by
  obtain ⟨W1, hW1⟩ : ∃ W1, W1 = w.alloc (.cells #[.int .i64 0, .int .i64 0, .slice none 0 0] 40) := ⟨_, rfl⟩
  have hb1 : Below w.heap.size w W1 := by rw [hW1]; exact ML.below1 _ _
  have k1 : W1.heap[w.heap.size]? = some (.cells #[.int .i64 0, .int .i64 0, .slice none 0 0] 40 (0, 0)) := by rw [hW1]; exact heap_alloc_new _ _
  have HRd := ehide3 (dv_read (hD.below hb1) manN (by unfold maxLen; decide))
  rw [show sA.o = false from rfl] at HRd
  simp only [Bool.false_eq_true, if_false, man_read] at HRd
  unfold manN at HRd
  have HB1 := ehide3 hb1
  rw [hW1] at HRd
  clear hD hb1
  go_enter Tryz.func47, Tryz.ntmps47
  go_wp2_with fail
  refine HRd.out.mono ?_
  rintro e w3 ⟨u, rfl, _, hb3⟩
  rw [← hW1] at hb3
  have hsz1 : W1.heap.size = w.heap.size + 1 := by rw [hW1]; simp
  have k3 := (hb3.block w.heap.size (by omega)).trans k1
  have HB3 := ehide3 (HB1.out.trans (hb3.mono (by omega)))
  have m0 : w3.cell? ⟨w.heap.size, 0, none⟩ = some (.int .i64 0) := (Go.Joins.cell_of_block k3 0).trans rfl
  have mf0 := Go.Joins.unfrozen_of_block k3 0
  have m1 : w3.cell? ⟨w.heap.size, 1, none⟩ = some (.int .i64 0) := (Go.Joins.cell_of_block k3 1).trans rfl
  have mf1 := Go.Joins.unfrozen_of_block k3 1
  have m2 : w3.cell? ⟨w.heap.size, 2, none⟩ = some (.slice none 0 0) := (Go.Joins.cell_of_block k3 2).trans rfl
  have mf2 := Go.Joins.unfrozen_of_block k3 2
  have zW := blk_set (i := 2) (v := .slice none 0 0) (blk_set (i := 1) (v := .int .i64 1) (blk_set (i := 0) (v := .int .i64 0) k3))
  have BW : Below w.heap.size w (((w3.setCell ⟨w.heap.size, 0, none⟩ (.int .i64 0)).setCell ⟨w.heap.size, 1, none⟩ (.int .i64 1)).setCell ⟨w.heap.size, 2, none⟩ (.slice none 0 0)) := ((HB3.out.setCell (p := ⟨w.heap.size, 0, none⟩) (by simp) _).setCell (p := ⟨w.heap.size, 1, none⟩) (by simp) _).setCell (p := ⟨w.heap.size, 2, none⟩) (by simp) _
  clear HRd hb3 hW1
  go_wp2
  generalize (((w3.setCell ⟨w.heap.size, 0, none⟩ (.int .i64 0)).setCell ⟨w.heap.size, 1, none⟩ (.int .i64 1)).setCell ⟨w.heap.size, 2, none⟩ (.slice none 0 0)) = W at zW BW ⊢
  have yy0 : W.cell? ⟨w.heap.size, 0, none⟩ = some (.int .i64 0) := (by rw [Go.Joins.cell_of_block zW]; rfl)
  have yy1 : W.cell? ⟨w.heap.size, 1, none⟩ = some (.int .i64 1) := (by rw [Go.Joins.cell_of_block zW]; rfl)
  have yy2 : W.cell? ⟨w.heap.size, 2, none⟩ = some (.slice none 0 0) := (by rw [Go.Joins.cell_of_block zW]; rfl)
  exact bodyPost_ret (v := .tuple #[.agg #[.int .i64 0, .int .i64 1, .slice none 0 0], .slice none 0 0, .int .i64 0]) (by simp [results, Tryz.results47, go_sem, yy0, yy1, yy2]) rfl ⟨rfl, BW⟩
theorem load_nil (w : World) :
    Calls Tryz.prog 47 #[.pointer none] w fun e w' => e = .returned (.tuple #[.agg #[.int .i64 0, .int .i64 0, .slice none 0 0], .slice none 0 0, .int .i64 1]) ∧ Below w.heap.size w w' := by
  have k3 : (w.alloc (.cells #[.int .i64 0, .int .i64 0, .slice none 0 0] 40)).heap[w.heap.size]? = some (.cells #[.int .i64 0, .int .i64 0, .slice none 0 0] 40 (0, 0)) := heap_alloc_new _ _
  have HB3 := ehide3 (ML.below1 w (.cells #[.int .i64 0, .int .i64 0, .slice none 0 0] 40))
  go_enter Tryz.func47, Tryz.ntmps47
  go_wp2
  exact bodyPost_ret (v := .tuple #[.agg #[.int .i64 0, .int .i64 0, .slice none 0 0], .slice none 0 0, .int .i64 1]) (by simp [results, Tryz.results47, go_sem]) rfl ⟨rfl, HB3.out⟩
theorem faultOf_ok (own : Int) (w : World) : Calls Tryz.prog 48 #[.int .i64 0, .int .i64 own] w fun e w' => e = .returned .nilIface ∧ w' = w := by
  go_enter Tryz.func48, Tryz.ntmps48
  go_wp2
  go_ret
  exact ⟨rfl, rfl⟩
theorem faultOf_nil (w : World) : Calls Tryz.prog 48 #[.int .i64 1, .int .i64 121] w fun e w' => e = .returned (flt 1) ∧ w' = w := by
  go_enter Tryz.func48, Tryz.ntmps48
  go_wp2
  go_ret
  exact ⟨rfl, rfl⟩
theorem index_none (ao : Option Addr) (cap : Nat) (s : ByteArray) (w : World) : Calls Tryz.prog 72 #[.slice ao 0 cap, .string s] w fun e w' => e = .returned (.int .i64 (-1)) ∧ w' = w := by
  go_enter Tryz.func72, Tryz.ntmps72
  go_wp2
  go_loop [8] (fun i => i = .int .i64 0) (fun _ => 0)
  case atStart => rfl
  case round =>
    subst hrel
    go_wp2
    go_ret
    exact ⟨rfl, rfl⟩
theorem contains_none (ao : Option Addr) (cap : Nat) (s : ByteArray) (w : World) : Calls Tryz.prog 50 #[.slice ao 0 cap, .string s] w fun e w' => e = .returned (.bool false) ∧ w' = w := by
  have H := ehide3 (index_none ao cap s w)
  go_enter Tryz.func50, Tryz.ntmps50
  go_wp2_with fail
  refine H.out.mono ?_
  rintro e w1 ⟨rfl, rfl⟩
  go_wp2
  go_ret
  exact ⟨rfl, rfl⟩
end
end Go.Proofs.YthfcjfhaoabdeaaGreatDoor
