/-
  The document's reader: its beginning, a flag, its end.
-/
import Derived.Test.YteihabdldiopeaaE17
set_option linter.unusedVariables false
set_option linter.unusedSimpArgs false
namespace Go.Proofs.Yteihabdldiopeaa
open Go.RowKit Go.Maps

theorem below_of_grown' {w W W' : World} (h : Below w.heap.size w W) (g : W.grownBy W' (some w.heap.size)) : Below w.heap.size w W' :=
  h.trans ⟨g.os, g.tape, g.output, g.size, fun k hk => g.block k (Nat.lt_of_lt_of_le hk h.size) (by simp; omega)⟩

section
variable {w : World} {r : Nat} {ao : Option Addr} {len cap : Nat} {xs : List Int} {s : Rs}
set_option maxRecDepth 100000
set_option maxHeartbeats 1500000

theorem rend_any (right : Bool) (h : Rr w r ao len cap xs s) :
    Calls Try.prog 51 #[.pointer (some ⟨r, 0, none⟩), .bool right] w fun e w' => e = .returned (.tuple #[.int .i64 (verd s len right).1, .int .i64 (verd s len right).2]) ∧ w.grownBy w' (some r) := by
  have hlt := h.lt
  cases s with
  | bad p =>
    obtain ⟨a, c0, c1, c2, f1, f2⟩ := h.cells'
    have eR : verd (.bad p) len right = ((p : Int), 61) := rfl
    rw [eR]
    have hp : (0 : Int) ≤ (p : Int) := by omega
    have hp2 : ¬ (p : Int) < 0 := by omega
    clear h
    have hG : ∀ q, w.grownBy (w.drewN q) (some r) := fun q => drew_grown (World.grownBy.refl w (some r)) q
    by_cases hal : a < (len : Int)
    all_goals
      go_enter Try.func51, Try.ntmps51
      go_wp2
      go_quiet (fail)
      go_wp2
      go_ret2
      exact ⟨rfl, hG _⟩
  | «at» n =>
    obtain ⟨c0, c1, c2, f1, f2, hle⟩ := h.cells
    have hw : ∀ q, Calls Try.prog 84 #[.pointer (some ⟨r, 0, none⟩)] (w.drewN q) fun e w' => e = .returned (.tuple #[]) ∧ Rr w' r ao len cap xs (.bad n) ∧ (w.drewN q).grownBy w' (some r) := fun q => wrong_any (h.drewN q)
    have HW := hide3 hw
    have hG : ∀ q, w.grownBy (w.drewN q) (some r) := fun q => drew_grown (World.grownBy.refl w (some r)) q
    clear hw h
    by_cases hnl : n < len
    · have eR : verd (.at n) len right = ((n : Int), 61) := if_pos hnl
      rw [eR]
      have hni : (n : Int) < (len : Int) := by omega
      go_enter Try.func51, Try.ntmps51
      go_wp2
      go_quiet (fail)
      go_wp2_with fail
      refine (HW.out _).mono ?_
      rintro e w2 ⟨rfl, h2, g2⟩
      obtain ⟨a', d0, d1, d2, d3, d4⟩ := h2.cells'
      have hp : (0 : Int) ≤ (n : Int) := by omega
      clear HW h2
      go_wp2
      go_ret2
      exact ⟨rfl, grown_drew g2⟩
    · have hni : ¬ (n : Int) < (len : Int) := by omega
      cases right with
      | true =>
        have eR : verd (.at n) len true = (0, 0) := (if_neg hnl).trans rfl
        rw [eR]
        go_enter Try.func51, Try.ntmps51
        go_wp2
        go_quiet (fail)
        go_wp2
        go_ret2
        exact ⟨rfl, hG _⟩
      | false =>
        have eR : verd (.at n) len false = (0, 60) := (if_neg hnl).trans rfl
        rw [eR]
        go_enter Try.func51, Try.ntmps51
        go_wp2
        go_quiet (fail)
        go_wp2
        go_ret2
        exact ⟨rfl, hG _⟩

theorem begin_any (kind : Int) (h : Sl w ao len cap xs) :
    Calls Try.prog 47 #[.slice ao len cap, .int .u8 kind] w fun e w' => e = .returned (.pointer (some ⟨w.heap.size, 0, none⟩)) ∧ Rr w' w.heap.size ao len cap xs (sC xs kind) ∧ Below w.heap.size w w' := by
  have hx := h.1
  have hA : Below w.heap.size w (w.alloc (.cells #[.slice ao len cap, .int .i64 0, .int .i64 (-1)] 92)) := (Below.refl _ _).alloc (Nat.le_refl _) _
  have hb := heap_alloc_new w (.cells #[.slice ao len cap, .int .i64 0, .int .i64 (-1)] 92)
  have hR0 : Rr (w.alloc (.cells #[.slice ao len cap, .int .i64 0, .int .i64 (-1)] 92)) w.heap.size ao len cap xs (.at 0) := ⟨0, -1, hb, h.below hA, rfl, rfl, Nat.zero_le _⟩
  have HW := hide3 (wrong_any hR0)
  obtain ⟨S, eS⟩ : ∃ S, S = sC xs kind := ⟨_, rfl⟩
  have hS : S = (if 0 < len ∧ kind ≤ xs.getD 0 0 ∧ xs.getD 0 0 ≤ kind then Rs.at 1 else Rs.bad 0) := by
    rw [eS]
    unfold sC rmark
    simp only []
    rw [hx]
    split <;> rfl
  rw [← eS]
  clear eS
  by_cases hl : len = 0
  · have hS2 : S = .bad 0 := hS.trans (if_neg (by omega))
    subst hS2
    subst hl
    clear hS hR0
    go_enter Try.func47, Try.ntmps47
    go_wp2_with fail
    refine HW.out.mono ?_
    rintro e w2 ⟨rfl, h2, g2⟩
    obtain ⟨a, b, q1, q2, q3⟩ := h2
    have hlt : w.heap.size < w2.heap.size := (Array.getElem?_eq_some_iff.1 q1).1
    have d1 : w2.cell? ⟨w.heap.size, 1, none⟩ = some (.int .i64 a) := by rw [Go.Joins.cell_of_block q1]; rfl
    have f1 := Go.Joins.unfrozen_of_block q1 1
    have HF := hide3 (show Rr (w2.setCell ⟨w.heap.size, 1, none⟩ (.int .i64 1)) w.heap.size ao 0 cap xs (.bad 0) from ⟨1, b, (Go.Joins.block_setCell q1 _).trans rfl, q2.off q1 (by simp) (by simp) (by simp) (grown_set _ _ _ _), q3⟩)
    have HB := hide3 ((below_of_grown' hA g2).setCell (p := ⟨w.heap.size, 1, none⟩) (by simp) (.int .i64 1))
    clear HW q1 q2
    go_wp2
    go_ret
    exact ⟨rfl, HF.out, HB.out⟩
  · have hl0 : ¬ (len : Int) = 0 := by omega
    have hl1 : (0 : Int) < (len : Int) := by omega
    obtain ⟨b, off, rfl, hbl, hcell⟩ := h.2.2.2.2.2 (by omega)
    have hc0 := hcell 0 (by omega)
    have hx0 := h.2.2.2.1.getD 0
    obtain ⟨x, ex⟩ : ∃ x, x = xs.getD 0 0 := ⟨_, rfl⟩
    rw [← ex] at hc0 hS hx0
    have hc1 : (w.alloc (.cells #[.slice (some ⟨b, off, none⟩) len cap, .int .i64 0, .int .i64 (-1)] 92)).cell? ⟨b, off, none⟩ = some (.int .u8 x) := (hA.cell (p := ⟨b, off, none⟩) hbl).trans hc0
    have t1 : decide ((len : Int) = 0) = false := by simp; omega
    have t2 : ((len : Int) == 0) = false := by simp; omega
    clear ex hcell
    by_cases hk : x = kind
    · have hS2 : S = .at 1 := hS.trans (if_pos (by omega))
      subst hS2
      subst hk
      have HF := hide3 (show Rr (w.alloc (.cells #[.slice (some ⟨b, off, none⟩) len cap, .int .i64 1, .int .i64 (-1)] 92)) w.heap.size (some ⟨b, off, none⟩) len cap xs (.at 1) from ⟨1, -1, heap_alloc_new w _, h.below ((Below.refl _ _).alloc (Nat.le_refl _) _), rfl, rfl, by omega⟩)
      have HB := hide3 ((Below.refl w.heap.size w).alloc (Nat.le_refl _) (.cells #[.slice (some ⟨b, off, none⟩) len cap, .int .i64 1, .int .i64 (-1)] 92))
      clear hS hR0 HW
      go_enter Try.func47, Try.ntmps47
      go_wp2
      go_ret
      exact ⟨rfl, HF.out, HB.out⟩
    · have hS2 : S = .bad 0 := hS.trans (if_neg (by omega))
      subst hS2
      clear hS hR0
      go_enter Try.func47, Try.ntmps47
      go_wp2_with fail
      refine HW.out.mono ?_
      rintro e w2 ⟨rfl, h2, g2⟩
      obtain ⟨a, b', q1, q2, q3⟩ := h2
      have hlt : w.heap.size < w2.heap.size := (Array.getElem?_eq_some_iff.1 q1).1
      have d1 : w2.cell? ⟨w.heap.size, 1, none⟩ = some (.int .i64 a) := by rw [Go.Joins.cell_of_block q1]; rfl
      have f1 := Go.Joins.unfrozen_of_block q1 1
      have HF := hide3 (show Rr (w2.setCell ⟨w.heap.size, 1, none⟩ (.int .i64 1)) w.heap.size (some ⟨b, off, none⟩) len cap xs (.bad 0) from ⟨1, b', (Go.Joins.block_setCell q1 _).trans rfl, q2.off q1 (by simp) (by simp) (by simp) (grown_set _ _ _ _), q3⟩)
      have HB := hide3 ((below_of_grown' hA g2).setCell (p := ⟨w.heap.size, 1, none⟩) (by simp) (.int .i64 1))
      clear HW q1 q2
      go_wp2
      go_ret
      exact ⟨rfl, HF.out, HB.out⟩
end
end Go.Proofs.Yteihabdldiopeaa
