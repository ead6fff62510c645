/-
  Whether two commits, two manifests are the same.
-/
import Derived.Test.YtgifcgniphncdaaGreatDoorPk23
import Derived.WalkSmall
set_option linter.unusedVariables false
set_option linter.unusedSimpArgs false
namespace Go.Proofs.YtgifcgniphncdaaGreatDoor
open Go.RowKit

section
variable {w : World} {ao bo : Option Addr} {len cap lbn cbp : Nat}
set_option maxRecDepth 100000
set_option maxHeartbeats 1500000

theorem sameCommit_any {ws : List Wr} (t : Int) (h : Seq 3 Wr.cells w ao len cap ws) (k : Seq 3 Wr.cells w bo lbn cbp ws) :
    Calls Tryz.prog 60 #[.agg #[.int .i64 t, .slice ao len cap], .agg #[.int .i64 t, .slice bo lbn cbp]] w fun e w' => e = .returned (.bool true) ∧ Below w.heap.size w w' := by
  have hx := h.1
  have kx := k.1
  obtain rfl : lbn = len := by omega
  have hm : (lbn : Int) ≤ 9223372036854775807 := by have := h.2.1; have := h.2.2.1; unfold maxLen at this; omega
  have hA : Below w.heap.size w ((w.alloc (.cells #[.int .i64 t, .slice ao lbn cap] 37)).alloc (.cells #[.int .i64 t, .slice bo lbn cbp] 37)) := ((Below.refl _ _).alloc (Nat.le_refl _) _).alloc (by simp) _
  have b0 : ((w.alloc (.cells #[.int .i64 t, .slice ao lbn cap] 37)).alloc (.cells #[.int .i64 t, .slice bo lbn cbp] 37)).heap[w.heap.size]? = some (.cells #[.int .i64 t, .slice ao lbn cap] 37 (0, 0)) := (((Below.refl (w.heap.size + 1) (w.alloc (.cells #[.int .i64 t, .slice ao lbn cap] 37))).alloc (by simp) _).block w.heap.size (by omega)).trans (heap_alloc_new w _)
  have b1 : ((w.alloc (.cells #[.int .i64 t, .slice ao lbn cap] 37)).alloc (.cells #[.int .i64 t, .slice bo lbn cbp] 37)).heap[w.heap.size + 1]? = some (.cells #[.int .i64 t, .slice bo lbn cbp] 37 (0, 0)) := by
    have := heap_alloc_new (w.alloc (.cells #[.int .i64 t, .slice ao lbn cap] 37)) (.cells #[.int .i64 t, .slice bo lbn cbp] 37)
    rwa [show (w.alloc (.cells #[.int .i64 t, .slice ao lbn cap] 37)).heap.size = w.heap.size + 1 from by simp] at this
  have HS := ehide3 (h.keep hA)
  have KS := ehide3 (k.keep hA)
  clear h k
  go_enter Tryz.func60, Tryz.ntmps60
  go_wp2
  generalize (w.alloc (.cells #[.int .i64 t, .slice ao lbn cap] 37)).alloc (.cells #[.int .i64 t, .slice bo lbn cbp] 37) = W at hA b0 b1 HS KS ⊢
  have c0 : W.cell? ⟨w.heap.size, 1, none⟩ = some (.slice ao lbn cap) := by rw [Go.Joins.cell_of_block b0]; rfl
  have c1 : W.cell? ⟨w.heap.size + 1, 1, none⟩ = some (.slice bo lbn cbp) := by rw [Go.Joins.cell_of_block b1]; rfl
  clear b0 b1
  go_loopw [5] (fun i wr => ∃ k q : Nat, k ≤ lbn ∧ i = .int .i64 k ∧ wr = W.drewN q) (fun i _ => lbn - (intOf i).toNat)
  case atStart => exact ⟨0, 0, by omega, rfl, rfl⟩
  case round =>
    obtain ⟨k, q, hk, rfl, rfl⟩ := hrel
    by_cases hkl : k < lbn
    · obtain ⟨x, hxk⟩ : ∃ x, ws[k]? = some x := ⟨ws[k]'(by omega), List.getElem?_eq_getElem (by omega)⟩
      obtain ⟨b, off, rfl, hbl, hcell⟩ := HS.out.three (by omega)
      obtain ⟨b', off', rfl, hbl', hcell'⟩ := KS.out.three (by omega)
      obtain ⟨r0, r1, r2⟩ := hcell k x _ _ _ hxk rfl
      obtain ⟨s0, s1, s2⟩ := hcell' k x _ _ _ hxk rfl
      have hki : (k : Int) < (lbn : Int) := by omega
      obtain ⟨f0, f1, f2⟩ := x
      simp only [] at r0 r1 r2 s0 s1 s2
      clear hcell hcell' hxk
      go_wp2
      go_quiet (fail)
      go_wp2
      go_roundw
      case rel => exact ⟨k + 1, _, by omega, by go_num, rfl⟩
      case measure => simp [intOf]; omega
    · have hki : ¬ (k : Int) < (lbn : Int) := by omega
      go_wp2
      go_ret
      exact ⟨rfl, below_drewN hA _⟩
end
end Go.Proofs.YtgifcgniphncdaaGreatDoor
