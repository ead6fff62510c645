/-
  What the laws' own lent, kept, spoil and shown do.
-/
import Derived.Test.YtaibldodlbaknaaF11
import Derived.Lib.SlBytesConst
set_option linter.unusedVariables false
set_option linter.unusedSimpArgs false
namespace Go.Proofs.Ytaibldodlbaknaa
open Go.RowKit

theorem byt77 {xs : List Int} (h : Byt xs) : Byt (xs ++ [77]) := h.append (Byt.cons (by decide) Byt.nil)

/-- Bytes that are lent: the mark stands behind them. -/
def Ln (w : World) (base g len c : Nat) (xs : List Int) : Prop := xs.length = len ∧ Byt xs ∧ Own w base (.slice (some ⟨g, 0, none⟩) (len + 1) c) (xs ++ [77])

theorem Ln.full {w : World} {base g len c : Nat} {xs : List Int} (h : Ln w base g len c xs) : Sl w (some ⟨g, 0, none⟩) (len + 1) c (xs ++ [77]) := by
  obtain ⟨h1, h2, h3⟩ := h
  obtain ⟨ao, cap, e, hsl, _⟩ := h3.sl (byt77 h2)
  simp only [Value.slice.injEq, List.length_append, List.length_cons, List.length_nil] at e
  obtain ⟨rfl, _, rfl⟩ := e
  have hl : (xs ++ [77]).length = len + 1 := by simp [h1]
  rw [hl] at hsl
  exact hsl
theorem Ln.sl {w : World} {base g len c : Nat} {xs : List Int} (h : Ln w base g len c xs) : Sl w (some ⟨g, 0, none⟩) len c xs := by
  have hf := h.full
  obtain ⟨h1, h2, h3, h4, h5, h6⟩ := hf
  refine ⟨h.1, by omega, h3, h.2.1, (fun e => by cases e), fun hl => ?_⟩
  obtain ⟨b, off, e, hlt, hc⟩ := h6 (by omega)
  refine ⟨b, off, e, hlt, fun i hi => ?_⟩
  rw [hc i (by omega)]
  have := h.1
  simp only [List.getD]
  rw [List.getElem?_append_left (by omega)]
theorem Ln.lt {w : World} {base g len c : Nat} {xs : List Int} (h : Ln w base g len c xs) : base ≤ g ∧ g < w.heap.size := World.ownsRow.lt h.2.2 g rfl
theorem Ln.below {w w' : World} {base g len c : Nat} {xs : List Int} (h : Ln w base g len c xs) (hb : Below w.heap.size w w') : Ln w' base g len c xs := ⟨h.1, h.2.1, h.2.2.up hb⟩
theorem Ln.grown {w w' : World} {base g len c r : Nat} {xs : List Int} (h : Ln w base g len c xs) (hg : w.grownBy w' (some r)) (hne : g ≠ r) : Ln w' base g len c xs :=
  ⟨h.1, h.2.1, World.ownsRow.kept h.2.2 hg (.inr (by simpa [Value.ownBlock] using hne))⟩
theorem Ln.below' {w w' : World} {base g len c B : Nat} {xs : List Int} (h : Ln w base g len c xs) (hb : Below B w w') (hlt : g < B) : Ln w' base g len c xs := by
  refine ⟨h.1, h.2.1, h.2.2.1, ?_⟩
  rcases h.2.2.2 with ⟨e, _⟩ | ⟨g', cap, cur, e, hg, hh, rest⟩
  · cases e
  · simp only [Value.slice.injEq, Option.some.injEq, Addr.mk.injEq, and_true] at e
    obtain ⟨rfl, e2, rfl⟩ := e
    refine .inr ⟨g, c, cur, ?_, hg, (hb.block g hlt).trans hh, rest⟩
    rw [e2]

set_option maxHeartbeats 800000 in
theorem lent_any (ao : Option Addr) (len cap : Nat) (xs : List Int) (w : World) (h : Sl w ao len cap xs) (hl : len + 1 ≤ 140737488355328) :
    Calls Try.prog 10 #[.slice ao len cap] w fun e w' => ∃ g c, e = .returned (.slice (some ⟨g, 0, none⟩) len c) ∧ Ln w' w.heap.size g len c xs ∧ Below w.heap.size w w' := by
  obtain ⟨i0, hi, hz0, hz1, hz2⟩ := info_parts Try.info5
  have hx := h.1
  have hbyt := h.2.2.2.1
  have hmk : ∀ u : World, (Instr.makeSlice 22 (.int .i64 0) (.int .i64 ((len : Int) + 1))).run Try.prog u = .ok (.slice (some ⟨u.heap.size, 0, none⟩) 0 (len + 1)) (u.alloc (.cells (madeCells #[.int .u8 0] (len + 1)) 5)) := by
    intro u
    have := run_make (P := Try.prog) u 22 5 i0 (.int .u8 0) Try.underlying22 hi hz0 .i64 .i64 0 ((len : Int) + 1) (by omega) (by omega) (by rw [hz2]; omega) (by omega)
    rw [this, hz1]
    have e1 : ((len : Int) + 1).toNat = len + 1 := by omega
    simp only [e1, Nat.mul_one, Value.cells, Int.toNat_zero]
  have hown0 : Own (w.alloc (.cells (madeCells #[.int .u8 0] (len + 1)) 5)) w.heap.size (.slice (some ⟨w.heap.size, 0, none⟩) 0 (len + 1)) [] :=
    World.ownsRow_made w _ (len + 1) (Nat.le_refl _) (by unfold maxLen; omega) (by simp [size_madeCells])
  have hb0 : Below w.heap.size w (w.alloc (.cells (madeCells #[.int .u8 0] (len + 1)) 5)) := (Below.refl _ _).alloc (Nat.le_refl _) _
  have hsl0 := h.below hb0
  have hs0 := hb0.size
  have hli : (len : Int) ≤ 140737488355328 := by omega
  go_enter Try.func10, Try.ntmps10
  go_wp2_with (first | (at_builtin; refine wpList_append_sl rfl _ _ 22 rfl w.heap.size i0 Try.underlying22 hi hz0 hz1 hz2 _ _ rfl hown0 ao len cap xs rfl hsl0 (by simp; omega) hs0 ?_) | fail)
  intro v1 w1 hown1 hb1
  have hb01 := hb0.trans hb1
  have hs1 := hb01.size
  replace hown1 : Own w1 w.heap.size v1 xs := hown1
  clear hown0 hb0 hsl0 hb1 hmk
  go_wp2_with (at_builtin; refine wpList_append_own _ rfl _ _ 22 rfl w.heap.size 5 i0 (.int .u8 0) 1 1 Try.underlying22 hi hz0 hz1 hz2 rfl (by decide) _ _ _ rfl (World.ownsRow.alloc hown1 _) ⟨w1.heap.size, 0, none⟩ 1 1 [.int .u8 77] rfl rfl (cell_one_new _ _ _) (one_u8 _) (by unfold maxLen; omega) (by omega) (by simp; omega) ?_)
  intro v2 w2 hown2 hgrow _
  have hb2 : Below w.heap.size w w2 := (hb01.alloc (by omega) _).trans ((Own.grown (World.ownsRow.alloc hown1 _) hgrow (by simp; omega)))
  have ho2 : Own w2 w.heap.size v2 (xs ++ [77]) := Own.snoc (by rw [hx]; exact hown2)
  obtain ⟨g, c, rfl, hlc, hcm⟩ : ∃ g c, v2 = .slice (some ⟨g, 0, none⟩) (len + 1) c ∧ len + 1 ≤ c ∧ c ≤ maxLen := by
    rcases ho2.2 with ⟨_, h0⟩ | ⟨g, cap2, cur, e, hg, hh, hn, hm, rest⟩
    · simp at h0
    · refine ⟨g, cap2, ?_, ?_, hm⟩
      · rw [e]; simp [hx]
      · simp [hx] at hn; exact hn
  have hs := slice_h (P := Try.prog) 22 Try.underlying22 Try.size5 (some ⟨g, 0, none⟩) (len + 1) c len (by omega)
  rw [sliced_at _ _ _ _ _ (by omega), Nat.add_zero, Nat.sub_zero, Nat.sub_zero] at hs
  have hLn : Ln w2 w.heap.size g len c xs := ⟨hx, hbyt, ho2⟩
  clear hown1 hown2 hgrow ho2 hb01
  go_wp2
  go_ret
  exact ⟨g, c, rfl, hLn, hb2⟩

set_option maxHeartbeats 800000 in
theorem kept_any (base g len c : Nat) (ao : Option Addr) (cap : Nat) (xs : List Int) (w : World) (h : Sl w ao len cap xs) (hL : Ln w base g len c xs) :
    Calls Try.prog 14 #[.slice (some ⟨g, 0, none⟩) len c, .slice ao len cap] w fun e w' => e = .returned (.bool true) ∧ w' = w := by
  have hlen : (len : Int) + 1 ≤ 9223372036854775807 := by
    have := h.2.1; have h2 := h.2.2.1; unfold maxLen at h2
    have := hL.full.2.1; have h3 := hL.full.2.2.1; unfold maxLen at h3
    omega
  have hx := hL.1
  have hfull := hL.full
  have hst1 := hL.sl.str (P := Try.prog) 22 Try.underlying22 Try.underlying5 Try.underlying9
  have hst2 := h.str (P := Try.prog) 22 Try.underlying22 Try.underlying5 Try.underlying9
  have hs := slice_h (P := Try.prog) 22 Try.underlying22 Try.size5 (some ⟨g, 0, none⟩) len c (len + 1) hfull.2.1
  rw [sliced_at _ _ _ _ _ (by have := hfull.2.1; omega), Nat.add_zero, Nat.sub_zero, Nat.sub_zero] at hs
  replace hs : ∀ u : World, (Instr.slice 22 (.slice (some ⟨g, 0, none⟩) len c) none (some (.int .i64 ((len : Int) + 1))) none).run Try.prog u = .ok (.slice (some ⟨g, 0, none⟩) (len + 1) c) u := hs
  have hc : w.cell? ⟨g, len, none⟩ = some (.int .u8 77) := by
    obtain ⟨b, off, e, _, hcell⟩ := hfull.2.2.2.2.2 (by omega)
    simp only [Option.some.injEq, Addr.mk.injEq, and_true] at e
    obtain ⟨rfl, rfl⟩ := e
    have := hcell len (by omega)
    rw [Nat.zero_add] at this
    rw [this]
    simp [List.getD, ← hx]
  clear hfull h hL
  go_enter Try.func14, Try.ntmps14
  go_wp2
  go_ret
  exact ⟨by first | rfl | (simp; done), rfl⟩

theorem grownBy_setCell {w w' : World} {g j : Nat} {u : Value} (h : w.grownBy w' (some g)) : w.grownBy (w'.setCell ⟨g, j, none⟩ u) (some g) :=
  ⟨h.os, h.tape, h.output, by simpa [World.setCell] using h.size, fun k hk hne => (Below.heap_setCell _ _ _ _ (by simpa using hne)).trans (h.block k hk hne)⟩

set_option maxHeartbeats 800000 in
/-- spoil: what is written lies in that block. -/
theorem spoil_any (ao : Option Addr) (len c g : Nat) (w : World) (xs : List Int) (h : Sl w ao len c xs) (hg : ∀ b off, ao = some ⟨b, off, none⟩ → b = g) (hcur : 0 < len → ∃ cur, w.heap[g]? = some (.cells cur 5 (0, 0))) :
    Calls Try.prog 13 #[.slice ao len c] w fun e w' => e = .returned (.tuple #[]) ∧ w.grownBy w' (some g) := by
  have hlen : (len : Int) ≤ 9223372036854775807 := by have := h.2.1; have := h.2.2.1; unfold maxLen at this; omega
  have hst : ∃ off, ∃ n, ao = (if 0 < len then some ⟨g, off, none⟩ else ao) ∧ (0 < len → off + len ≤ n) ∧ (0 < len → ∃ cur, w.heap[g]? = some (.cells cur 5 (0, 0)) ∧ cur.size = n) := by
    by_cases hl : 0 < len
    · obtain ⟨b, off, rfl, hlt, hc⟩ := h.2.2.2.2.2 hl
      obtain rfl := hg b off rfl
      obtain ⟨cur, hcu⟩ := hcur hl
      refine ⟨off, cur.size, by simp [hl], fun _ => ?_, fun _ => ⟨cur, hcu, rfl⟩⟩
      have := hc (len - 1) (by omega)
      rw [Go.Joins.cell_of_block hcu] at this
      have h2 : off + (len - 1) < cur.size := by
        rcases Nat.lt_or_ge (off + (len - 1)) cur.size with h3 | h3
        · exact h3
        · simp [Array.getElem?_eq_none h3] at this
      omega
    · exact ⟨0, 0, by simp [hl], fun h => absurd h hl, fun h => absurd h hl⟩
  obtain ⟨off, n, hao, hn, hcu⟩ := hst
  clear h hg hcur
  by_cases hl : 0 < len
  · simp only [hl, if_true] at hao
    subst hao
    replace hn := hn hl
    obtain ⟨cur, hc1, hc2⟩ := hcu hl
    clear hcu
    go_enter Try.func13, Try.ntmps13
    go_wp2
    go_loopw [2] (fun i wr => ∃ k : Nat, k ≤ len ∧ i = .int .i64 (k : Int) ∧ w.grownBy wr (some g) ∧ ∃ cur : Array Value, wr.heap[g]? = some (.cells cur 5 (0, 0)) ∧ cur.size = n) (fun i _ => len - (intOf i).toNat)
    case atStart => exact ⟨0, by omega, rfl, World.grownBy.refl _ _, cur, hc1, hc2⟩
    case round =>
      obtain ⟨k, hk, rfl, hgr, cu, q1, q2⟩ := hrel
      by_cases hlt : k < len
      · have hlti : (k : Int) < (len : Int) := by omega
        have hcell : wr.cell? ⟨g, off + k, none⟩ = some (cu[off + k]'(by omega)) := by
          rw [Go.Joins.cell_of_block q1]
          simp [Array.getElem?_eq_getElem (by omega : off + k < cu.size)]
        have hfr := Go.Joins.unfrozen_of_block q1 (off + k)
        have hgr2 := hF (grownBy_setCell (j := off + k) (u := .int .u8 78) hgr)
        have hblk := Go.Joins.block_setCell (i := off + k) q1 (.int .u8 78)
        generalize cu[off + k]'(by omega) = old at hcell
        replace hblk := hF hblk
        clear hgr q1 hc1
        go_wp2
        go_roundw
        case rel => exact ⟨k + 1, by omega, by go_num, hgr2.out, _, hblk.out, by simpa using q2⟩
        case measure => simp [intOf]; omega
      · have hlti : ¬ (k : Int) < (len : Int) := by omega
        clear q1 hc1
        go_wp2
        go_end0
        exact ⟨rfl, hgr⟩
  · obtain rfl : len = 0 := by omega
    clear hcu hn hao
    go_enter Try.func13, Try.ntmps13
    go_wp2
    refine wp_loop_rounds 1 ?_
    rw [rounds_succ]
    go_wp2
    go_end0
    exact ⟨rfl, World.grownBy.refl _ _⟩
end Go.Proofs.Ytaibldodlbaknaa
