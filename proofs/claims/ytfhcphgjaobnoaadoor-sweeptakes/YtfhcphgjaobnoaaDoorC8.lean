/-
  New.
-/
import Derived.Test.YtfhcphgjaobnoaaDoorC7
import Derived.Laws.Tables
set_option linter.unusedVariables false
set_option linter.unusedSimpArgs false
namespace Go.Proofs.YtfhcphgjaobnoaaDoor
open Go.RowKit

theorem infoU : (Tryd.prog.info? 54).map (fun i => (i.zero, i.size, i.bytes)) = some (some (.int .u64 0), 1, 8) := by kernel_rfl

theorem getD_rep {α : Type} (n i : Nat) (z : α) : (List.replicate n z).getD i z = z := by
  simp only [List.getD, List.getElem?_replicate]
  split <;> rfl
theorem made_rep (n : Nat) : madeCells #[Value.int .u64 0] n = ((List.replicate n (0 : Int)).map (Value.int .u64)).toArray := by
  apply Array.ext
  · simp [madeCells]
  · intro i h1 h2
    simp [madeCells, Nat.mod_one]
/-- The arena's cells when it is made. -/
def newCells (v : Value) : Array Value := (arena (List.replicate 1024 0) v 0 0).toArray

/-- The arena's cells as its type's zero has them. -/
def zeroCells : Array Value := newCells (.slice none 0 0)
set_option maxRecDepth 100000 in
theorem zero_arena (u : World) : (zeroValue 78).run Tryd.prog u = .ok (.agg zeroCells) u := by
  kernel_rfl
theorem words_len (F : List Nat) : (words F).length = F.length := by simp [words]
theorem zero_size : zeroCells.size = 1027 := by
  unfold zeroCells newCells arena
  rw [List.size_toArray, List.length_append, words_len, List.length_replicate]
  rfl
theorem zero_set (v : Value) : zeroCells.setIfInBounds 1024 v = newCells v := by
  unfold zeroCells newCells arena
  have : (words (List.replicate 1024 0)).length = 1024 := by rw [words_len, List.length_replicate]
  generalize words (List.replicate 1024 0) = l at this
  simp [List.set_append, this]

set_option maxRecDepth 100000 in
set_option maxHeartbeats 1000000 in
theorem New_any (n : Nat) (w : World) (h1 : 1 ≤ n) (h2 : n ≤ 65536) :
    Calls Tryd.prog 28 #[.int .i64 (n : Int)] w fun e w' => e = .returned (.tuple #[.pointer (some ⟨w.heap.size + 1, 0, none⟩), .int .i64 0]) ∧ (∃ F, Aw w' (w.heap.size + 1) w.heap.size (List.replicate n false) (List.replicate n 0) 0 F) ∧ Below w.heap.size w w' := by
  obtain ⟨i0, hi, hz0, hz1, hz2⟩ := info_parts infoU
  have hmk : ∀ u : World, (Instr.makeSlice 23 (.int .i64 (n : Int)) (.int .i64 (n : Int))).run Tryd.prog u = .ok (.slice (some ⟨u.heap.size, 0, none⟩) n n) (u.alloc (.cells (madeCells #[.int .u64 0] n) 54)) := by
    intro u
    have := run_make (P := Tryd.prog) u 23 54 i0 (.int .u64 0) Tryd.underlying23 hi hz0 .i64 .i64 n n (by omega) (by omega) (by rw [hz2]; omega) (by omega)
    rw [this, hz1]
    simp only [Nat.mul_one, Int.toNat_natCast, Value.cells]
  have hzv := zero_arena
  have hzs := zero_size
  have hzt := zero_set (.slice (some ⟨w.heap.size, 0, none⟩) n n)
  generalize zeroCells = Z at hzv hzs hzt
  generalize hX : newCells (.slice (some ⟨w.heap.size, 0, none⟩) n n) = X at hzt
  generalize hY : madeCells #[.int .u64 0] n = Y at hmk
  have HX := hide2 hX
  have HY := hide2 hY
  clear hX hY
  go_enter Tryd.func28, Tryd.ntmps28
  go_wp2
  obtain ⟨W0, hW0⟩ : ∃ W0, W0 = (w.alloc (.cells Y 54)).alloc (.cells X 78) := ⟨_, rfl⟩
  have HW := hide2 hW0
  have hA0 : Ab W0 (w.heap.size + 1) (List.replicate 1024 0) (.slice (some ⟨w.heap.size, 0, none⟩) n n) 0 0 := by
    refine ⟨by simp, fun i => ?_, ?_⟩
    · rw [getD_rep]
      decide
    · rw [hW0]
      have e1 := heap_alloc_new (w.alloc (.cells Y 54)) (.cells X 78)
      have e2 : (w.alloc (.cells Y 54)).heap.size = w.heap.size + 1 := by simp
      rw [e2] at e1
      rw [e1, ← HX.out]
      rfl
  have hb0 : ∀ c, c < 65536 → bitOf (List.replicate 1024 0) c = decide (c < 0) := by
    intro c hc
    unfold bitOf
    have e : (List.replicate 1024 0).getD (c / 64) 0 = 0 := getD_rep _ _ _
    rw [e]
    simp
  rw [← hW0]
  clear hW0 hzv hzs hzt hmk
  go_loopw [17] (fun i wr => ∃ k : Nat, k ≤ n ∧ i = .int .i64 k ∧ (∃ F, Ab wr (w.heap.size + 1) F (.slice (some ⟨w.heap.size, 0, none⟩) n n) 0 0 ∧ ∀ c, c < 65536 → bitOf F c = decide (c < k)) ∧ Fr (fun j => j = w.heap.size + 1) W0 wr) (fun i _ => n - (intOf i).toNat)
  case atStart => exact ⟨0, by omega, rfl, ⟨_, hA0, hb0⟩, Fr.refl _ _⟩
  case round =>
    obtain ⟨k, hk, rfl, ⟨F, hA, hb⟩, hF⟩ := hrel
    by_cases hkn : k < n
    · have hturn := turn_any hA k (by omega)
      have HT := hide2 hturn
      clear hturn
      go_wp2_with fail
      refine HT.out.mono ?_
      rintro e w2 ⟨rfl, hA2, hF2⟩
      go_wp2
      go_roundw
      case rel =>
        refine ⟨k + 1, by omega, by go_num, ⟨_, hA2, fun c hc => ?_⟩, hF.trans hF2 (fun j hj => .inl hj)⟩
        rw [bitOf_flip F k c hA.1 (by omega), hb k (by omega), hb c hc]
        by_cases hck : c = k
        · subst hck; simp
        · rw [if_neg hck]
          have : (c < k) ↔ (c < k + 1) := by omega
          simp [this]
      case measure => simp [intOf]; omega
    · obtain rfl : k = n := by omega
      go_wp2
      go_ret2
      have hlt : w.heap.size < W0.heap.size := by rw [HW.out]; simp; omega
      have hY : W0.heap[w.heap.size]? = some (.cells Y 54 (0, 0)) := by
        rw [HW.out]
        exact (blk_alloc _ _ _ (by simp)).trans (heap_alloc_new w _)
      have hbel : Below w.heap.size w W0 := by
        rw [HW.out]
        exact ((Below.refl _ w).alloc (Nat.le_refl _) _).alloc (by simp) _
      refine ⟨rfl, ⟨F, ⟨?_, ?_, fun c => ?_, by simp, by simp; omega, fun c hc => ?_⟩⟩, hbel.trans (hF.to (fun j hj e => by omega) (by omega))⟩
      · have e1 : (List.replicate k false).count true = 0 := by rw [List.count_replicate]; rfl
        rw [e1, List.length_replicate]
        exact hA
      · unfold Nb
        rw [hF.block _ hlt (by omega), hY, ← HY.out, made_rep]
      · rw [getD_rep]; decide
      · rw [hb c hc]
        by_cases hck : c < k
        · simp [List.getD, List.getElem?_replicate, hck]
        · simp [List.getD, List.getElem?_replicate, hck]
set_option maxHeartbeats 1000000 in
theorem New_bad (n : Int) (w : World) (h : n < 1 ∨ 65536 < n) :
    Calls Tryd.prog 28 #[.int .i64 n] w fun e w' => e = .returned (.tuple #[.pointer none, .int .i64 2]) ∧ w' = w := by
  by_cases h1 : n < 1
  · have t1 : decide (n < 1) = true := by simpa using h1
    clear h
    go_enter Tryd.func28, Tryd.ntmps28
    go_wp2
    go_ret2
    exact ⟨rfl, rfl⟩
  · have h2 : 65536 < n := by omega
    have t1 : decide (n < 1) = false := by simpa using h1
    have t2 : decide (65536 < n) = true := by simpa using h2
    clear h
    go_enter Tryd.func28, Tryd.ntmps28
    go_wp2
    go_ret2
    exact ⟨rfl, rfl⟩
end Go.Proofs.YtfhcphgjaobnoaaDoor
