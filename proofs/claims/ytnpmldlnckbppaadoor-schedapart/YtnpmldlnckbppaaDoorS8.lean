/-
  The law's own 'shown'.
-/
import Derived.Test.YtnpmldlnckbppaaDoorS7
set_option linter.unusedVariables false
set_option linter.unusedSimpArgs false
namespace Go.Proofs.YtnpmldlnckbppaaDoor
open Go.RowKit

theorem shown_run : runs [[⟨4, 0, 1, 0⟩]] [0, 0] (St.start 1 1) = ⟨[1], [[1]], 1⟩ := by kernel_rfl

/-- The memory that 'shown' makes. -/
def shW (w : World) : World := ((w.alloc (.cells #[.int .i64 4, .int .i64 0, .int .u64 1, .int .u64 0] 42)).alloc (.cells #[.slice (some ⟨w.heap.size, 0, none⟩) 1 1] 39)).alloc (.cells #[.int .i64 0, .int .i64 0] 3)
def shP (w : World) : List PrR := [⟨some ⟨w.heap.size, 0, none⟩, 1, 1, [⟨4, 0, 1, 0⟩]⟩]
theorem shW_blk (w : World) : (shW w).heap[w.heap.size]? = some (.cells #[.int .i64 4, .int .i64 0, .int .u64 1, .int .u64 0] 42 (0, 0)) ∧ (shW w).heap[w.heap.size + 1]? = some (.cells #[.slice (some ⟨w.heap.size, 0, none⟩) 1 1] 39 (0, 0)) ∧ (shW w).heap[w.heap.size + 2]? = some (.cells #[.int .i64 0, .int .i64 0] 3 (0, 0)) ∧ (shW w).heap.size = w.heap.size + 3 := by
  unfold shW
  refine ⟨?_, ?_, ?_, by simp⟩
  · rw [blk_alloc _ _ _ (by simp; omega), blk_alloc _ _ _ (by simp)]
    exact heap_alloc_new _ _
  · rw [blk_alloc _ _ _ (by simp)]
    have := heap_alloc_new (w.alloc (.cells #[.int .i64 4, .int .i64 0, .int .u64 1, .int .u64 0] 42)) (.cells #[.slice (some ⟨w.heap.size, 0, none⟩) 1 1] 39)
    simpa using this
  · have := heap_alloc_new ((w.alloc (.cells #[.int .i64 4, .int .i64 0, .int .u64 1, .int .u64 0] 42)).alloc (.cells #[.slice (some ⟨w.heap.size, 0, none⟩) 1 1] 39)) (.cells #[.int .i64 0, .int .i64 0] 3)
    simpa using this
theorem shW_below (w : World) : Below w.heap.size w (shW w) := (((Below.refl _ w).alloc (Nat.le_refl _) _).alloc (by simp) _).alloc (by simp; omega) _
theorem shP_progs (w : World) : Progs (shW w) (some ⟨w.heap.size + 1, 0, none⟩) 1 1 (shP w) := by
  obtain ⟨b1, b2, b3, b4⟩ := shW_blk w
  refine ⟨⟨rfl, Nat.le_refl _, by unfold maxLen; omega, fun _ => ⟨_, 0, rfl, by omega, fun i x hi j u hu => ?_⟩⟩, fun p hp => ?_⟩
  · rcases i with _ | i
    · cases hi
      rcases j with _ | j
      · cases hu
        rw [Go.Joins.cell_of_block b2]
        rfl
      · cases hu
    · cases hi
  · obtain rfl : p = ⟨some ⟨w.heap.size, 0, none⟩, 1, 1, [⟨4, 0, 1, 0⟩]⟩ := by simpa [shP] using hp
    refine ⟨⟨rfl, Nat.le_refl _, (by decide : 1 ≤ maxLen), fun _ => ⟨_, 0, rfl, by omega, fun i x hi j u hu => ?_⟩⟩, fun o ho => ?_⟩
    · rcases i with _ | i
      · cases hi
        rw [Go.Joins.cell_of_block b1]
        rcases j with _ | _ | _ | _ | j
        all_goals first | (cases hu; rfl) | cases hu
      · cases hi
    · obtain rfl : o = ⟨4, 0, 1, 0⟩ := by simpa using ho
      exact ⟨by decide, by decide, by decide, by decide⟩
theorem shX_ints (w : World) : Ints .i64 (shW w) (some ⟨w.heap.size + 2, 0, none⟩) 2 2 [0, 0] := by
  obtain ⟨b1, b2, b3, b4⟩ := shW_blk w
  refine ⟨rfl, Nat.le_refl _, by unfold maxLen; omega, fun _ => ⟨_, 0, rfl, by omega, fun i x hi j u hu => ?_⟩⟩
  rw [Go.Joins.cell_of_block b3]
  rcases i with _ | _ | i
  · cases hi
    rcases j with _ | j
    · cases hu; rfl
    · cases hu
  · cases hi
    rcases j with _ | j
    · cases hu; rfl
    · cases hu
  · cases hi

set_option maxRecDepth 100000 in
set_option maxHeartbeats 4000000 in
theorem shown_any (w : World) (hT : Tab w) :
    Calls Tryd.prog 9 #[] w fun e w' => e = .returned (.bool true) ∧ Below w.heap.size w w' := by
  have h0 := hT.1
  have hT3 := hT.below (shW_below w) h0
  have hR := Run_right (shW w) 1 (some ⟨w.heap.size + 1, 0, none⟩) 1 1 (shP w) (some ⟨w.heap.size + 2, 0, none⟩) 2 2 [0, 0] (shP_progs w) (shX_ints w) hT3 rfl (by decide)
  have eR : runs (ops (shP w)) [0, 0] (St.start 1 (shP w).length) = ⟨[1], [[1]], 1⟩ := shown_run
  rw [eR] at hR
  have HR := hide2 hR
  have hBW := shW_below w
  have hsz := (shW_blk w).2.2.2
  have hWd : shW w = ((w.alloc (.cells #[.int .i64 4, .int .i64 0, .int .u64 1, .int .u64 0] 42)).alloc (.cells #[.slice (some ⟨w.heap.size, 0, none⟩) 1 1] 39)).alloc (.cells #[.int .i64 0, .int .i64 0] 3) := rfl
  clear hR eR hT3
  go_enter Tryd.func9, Tryd.ntmps9
  go_wp2_with fail
  rw [← hWd]
  clear hWd
  refine HR.out.mono ?_
  rintro e w1 ⟨r, h, us, rfl, hO, hN, hh, hr, hne, hB⟩
  clear HR
  have hBB : Below w.heap.size w w1 := hBW.trans (hB.mono (by omega))
  obtain ⟨ao, cap, eu, hs⟩ := row_ints (hO.row 0)
  have hul : us.length = 1 := hO.len
  match us, hul with
  | [u0], _ =>
    simp only [List.getD_cons_zero] at eu
    subst eu
    have hrb := hO.blk
    have hrl : r < w1.heap.size := (Array.getElem?_eq_some_iff.1 hrb).1
    have c0 : w1.cell? ⟨r, 0, none⟩ = some (.slice ao ([[(1 : Int)]].getD 0 []).length cap) := by rw [Go.Joins.cell_of_block hrb]; rfl
    obtain ⟨b, off, rfl, hbl, hc⟩ := hs.num (by decide)
    have c1 := hc 0 (by decide)
    have c2 := hN.cell 0 (by decide)
    have el : ([[(1 : Int)]].getD 0 []).length = 1 := rfl
    have e1 : ([[(1 : Int)]].getD 0 []).getD 0 0 = 1 := rfl
    have e2 : ([(1 : Int)]).getD 0 0 = 1 := rfl
    rw [el] at c0
    rw [e1] at c1
    rw [e2] at c2
    have hhl := hN.lt
    rw [Nat.add_zero] at c1
    clear hc hs hO hN hne hrb
    go_wp2
    go_ret
    exact ⟨rfl, hBB⟩
end Go.Proofs.YtnpmldlnckbppaaDoor
