/-
  What cut and its closure do: bytes handed out piece by piece.
-/
import Derived.Test.YtaibldodlbaknaaF3
set_option linter.unusedVariables false
set_option linter.unusedSimpArgs false
namespace Go.Proofs.Ytaibldodlbaknaa
open Go.RowKit

/-- The closure of 'cut', by its two boxes. -/
def ctF (sb bb : Nat) : Value := .func (.func 32) #[] #[.pointer (some ⟨sb, 0, none⟩), .pointer (some ⟨bb, 0, none⟩)]

theorem slice_h {P : Program} (t : TypeId) (ht : P.underlying t = some (.slice 5)) (hs : ∀ u : World, (Go.sizeOf 5).run P u = .ok 1 u) (ao : Option Addr) (len cap k : Nat) (hk : k ≤ cap) (u : World) :
    (Instr.slice t (.slice ao len cap) none (some (.int .i64 (k : Int))) none).run P u = .ok (Go.sliced ao 0 k cap 1) u := by
  have ht' : P.underlying t = some (.slice (P.elem t)) := by simp [Program.elem, ht]
  have he : P.elem t = 5 := by simp [Program.elem, ht]
  rw [run_slice_h u t ao len cap ht' .i64 k (by omega) (by omega), he, hs]
  simp only [Result.andThen, Int.toNat_natCast]
theorem slice_l {P : Program} (t : TypeId) (ht : P.underlying t = some (.slice 5)) (hs : ∀ u : World, (Go.sizeOf 5).run P u = .ok 1 u) (ao : Option Addr) (len cap k : Nat) (hk : k ≤ len) (u : World) :
    (Instr.slice t (.slice ao len cap) (some (.int .i64 (k : Int))) none none).run P u = .ok (Go.sliced ao k len cap 1) u := by
  have ht' : P.underlying t = some (.slice (P.elem t)) := by simp [Program.elem, ht]
  have he : P.elem t = 5 := by simp [Program.elem, ht]
  rw [run_slice_l u t ao len cap ht' .i64 k (by omega) (by omega), he, hs]
  simp only [Result.andThen, Int.toNat_natCast]

set_option maxHeartbeats 800000 in
/-- The closure: the first so many are handed out, the rest is kept. -/
theorem cut1_any (sb bb size len cap : Nat) (ao : Option Addr) (w : World) (hlc : len ≤ cap) (hcm : cap ≤ maxLen) (hsz : size ≤ 1000)
    (h1 : w.cell? ⟨sb, 0, none⟩ = some (.int .i64 (size : Int))) (h2 : w.cell? ⟨bb, 0, none⟩ = some (.slice ao len cap)) (h3 : w.frozen? ⟨bb, 0, none⟩ = false) :
    Calls Try.prog 32 (#[] ++ #[.pointer (some ⟨sb, 0, none⟩), .pointer (some ⟨bb, 0, none⟩)]) w fun e w' => e = .returned (Go.sliced ao 0 (min size len) cap 1) ∧ w' = w.setCell ⟨bb, 0, none⟩ (Go.sliced ao (min size len) len cap 1) := by
  have hlen : (len : Int) ≤ 9223372036854775807 := by unfold maxLen at hcm; omega
  have hs1 := slice_h (P := Try.prog) 22 Try.underlying22 Try.size5 ao len cap (min size len) (by omega)
  have hs2 := slice_l (P := Try.prog) 22 Try.underlying22 Try.size5 ao len cap (min size len) (by omega)
  generalize Go.sliced ao 0 (min size len) cap 1 = V1 at *
  obtain ⟨a2, l2, c2, hV2⟩ : ∃ a2 l2 c2, Go.sliced ao (min size len) len cap 1 = .slice a2 l2 c2 := ⟨_, _, _, rfl⟩
  rw [hV2] at hs2 ⊢
  clear hV2
  by_cases hlt : size ≤ len
  · rw [Nat.min_eq_left hlt] at hs1 hs2
    have hlt2 : (size : Int) ≤ (len : Int) := by omega
    go_enter Try.func32, Try.ntmps32
    go_wp2
    go_ret
    exact ⟨rfl, rfl⟩
  · rw [Nat.min_eq_right (by omega)] at hs1 hs2
    have hlt2 : (len : Int) ≤ (size : Int) := by omega
    have hlt3 : ¬ (size : Int) ≤ (len : Int) := by omega
    go_enter Try.func32, Try.ntmps32
    go_wp2
    go_ret
    exact ⟨rfl, rfl⟩

set_option maxHeartbeats 400000 in
/-- cut: two boxes, and the closure over them. -/
theorem cut_any (ao : Option Addr) (len cap size : Nat) (w : World) :
    Calls Try.prog 23 #[.slice ao len cap, .int .i64 (size : Int)] w fun e w' => e = .returned (ctF (w.heap.size + 1) w.heap.size) ∧
      w' = (w.alloc (.cells #[.slice ao len cap] 22)).alloc (.cells #[.int .i64 (size : Int)] 3) := by
  go_enter Try.func23, Try.ntmps23
  go_wp2
  go_ret
  exact ⟨rfl, rfl⟩
end Go.Proofs.Ytaibldodlbaknaa
