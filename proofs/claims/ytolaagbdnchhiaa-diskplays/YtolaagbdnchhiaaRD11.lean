/-
  The document's own disk: a change, with less asked of the disk.
-/
import Derived.Test.YtolaagbdnchhiaaRD10
import Derived.Deep.AppendLies
set_option linter.unusedVariables false
set_option linter.unusedSimpArgs false
namespace Go.Proofs.Ytolaagbdnchhiaa
open Go.RowKit Go.Maps

set_option maxHeartbeats 4000000 in
set_option maxRecDepth 100000 in
theorem ref_change2 {w : World} {r : Nat} {κ : Nat → Ro} {vF vO vL vN : Value} {φ : Nat → Nat} {β : Nat → Value} {P : PD} {cut : Int} {off : Bool} (h : Wd w r κ vF vO vL vN φ β P cut off) (hn1 : (P.log.length : Int) ≤ P.n) (hn2 : P.n ≤ 65536) {L : Nat} (hg : Dgood P.now L) (c : PC) (hc : c.fits P.now) :
    Calls Try.prog 59 #[.pointer (some ⟨r, 0, none⟩), chV c] w fun e w' => e = .returned (.tuple #[]) ∧ ∃ κ' vL' vN', Wd w' r κ' vF vO vL' vN' φ β { P with log := P.log ++ [c] } cut off ∧ (∀ j, j < w.heap.size → κ' j = κ j) ∧ Fr (fun j => κ j ≠ .out) w w' := by
  obtain ⟨i0, hi, hz0, hz1, hz2⟩ := info_parts infoCh
  have hlt := h.rk.lt
  have hrl := h.rL
  have HW := hide2 h
  have hsr : some r ≠ vL.ownBlock := fun e => by
    have := h.kL r e.symm
    rw [h.kr] at this
    cases this
  obtain ⟨x, y, i, ev, ec⟩ := ch_form c
  have hw1 : Rk (w.alloc (.cells #[.string x, .string y, .int .i64 i] 98)) r vF vO vL vN P.n cut off := h.rk.same (Below.heap_alloc _ _ r hlt)
  have hb1 := heap_alloc_new w (.cells #[.string x, .string y, .int .i64 i] 98)
  obtain ⟨c0, c1, c2, c3, c4, c5, c6⟩ := hw1.cells
  have f2 := hw1.free 2
  have HEC := hide2 ec
  have HEV := hide2 ev
  have hD := hg.txt
  have hDl : P.now.length ≤ 100000 := Nat.le_trans hg.len (by decide)
  have hch : ∀ W, Nr W 0 vN (nl P.now) → Calls Try.prog 62 #[vN, .agg #[.string x, .string y, .int .i64 i]] W fun e w' => ∃ v', e = .returned v' ∧ Nr w' W.heap.size v' (nl (c.run P.now)) ∧ Below W.heap.size W w' := fun W hN => by
    have := changed_ref hN hD hDl c hc
    rw [ev] at this
    exact this
  have hnw : ∀ j u, [Value.string x, .string y, .int .i64 i][j]? = some u → ((w.alloc (.cells #[.string x, .string y, .int .i64 i] 98)).alloc (.cells #[.string x, .string y, .int .i64 i] 98)).cell? ((⟨w.heap.size + 1, 0, none⟩ : Addr).add j) = some u := fun j u hj => by
    have := cell_three_new (w.alloc (.cells #[.string x, .string y, .int .i64 i] 98)) _ _ _ 98 j u hj
    simpa using this
  have HCH := hide2 hch
  have HNW := hide2 hnw
  rw [ev]
  clear h hg ec ev hch hnw hc hD hDl
  have hb0 : (w.alloc (.cells #[.string x, .string y, .int .i64 i] 98)).cell? ⟨w.heap.size, 0, none⟩ = some (.string x) := by rw [Go.Joins.cell_of_block hb1]; rfl
  have hb2 : (w.alloc (.cells #[.string x, .string y, .int .i64 i] 98)).cell? ⟨w.heap.size, 1, none⟩ = some (.string y) := by rw [Go.Joins.cell_of_block hb1]; rfl
  have hb3 : (w.alloc (.cells #[.string x, .string y, .int .i64 i] 98)).cell? ⟨w.heap.size, 2, none⟩ = some (.int .i64 i) := by rw [Go.Joins.cell_of_block hb1]; rfl
  have hbL : ∀ j, vL.ownBlock = some j → j < w.heap.size := fun j e => (hrl.lt j e).2
  go_enter Try.func59, Try.ntmps59
  go_wp2
  go_region_law ((refine step_append_lies _ (by rfl) _ _ _ (by rfl) 0 98 i0 (.agg #[.string .empty, .string .empty, .int .i64 0]) 3 40 Try.underlying64 hi hz0 hz1 hz2 rfl (by decide) vL P.log.length (P.log.flatMap chC) (by rfl) (row_any hrl fun j e => (Below.heap_alloc _ _ j (by have := (hrl.lt j e).2; simp; omega)).trans (Below.heap_alloc w _ j (hrl.lt j e).2)) ⟨w.heap.size + 1, 0, none⟩ 1 1 [.string x, .string y, .int .i64 i] (by rfl) rfl HNW.out (by intro u hu; simp at hu; rcases hu with rfl | rfl | rfl <;> rfl) (by decide) (by unfold maxLen; omega) (by omega) (Nat.zero_le _) (w.heap.size + 2) (by simp) ?_; intro g cap w2 hown hgrow hat hlt2; have k2 : Rk w2 r vF vO vL vN P.n cut off := hw1.same ((hgrow.block r (by simp; omega) hsr).trans (Below.heap_alloc _ _ r (by simp; omega))); have q2 := k2.cells.2.2.1; have q6 := k2.free 2))
  all_goals
    have hz2' := hgrow.size
    have e2 : w2.heap[w.heap.size]? = some (.cells #[.string x, .string y, .int .i64 i] 98 (0, 0)) := (hgrow.block w.heap.size (by simp; omega) (fun e => by have := hbL _ e.symm; omega)).trans ((Below.heap_alloc _ _ _ (by simp)).trans hb1)
    have k3 : Rk (w2.setCell ⟨r, 2, none⟩ (.slice (some ⟨g, 0, none⟩) (P.log.length + 1) cap)) r vF vO (.slice (some ⟨g, 0, none⟩) (P.log.length + 1) cap) vN P.n cut off := k2.set.2.2.1 _
    have e3 : (w2.setCell ⟨r, 2, none⟩ (.slice (some ⟨g, 0, none⟩) (P.log.length + 1) cap)).heap[w.heap.size]? = some (.cells #[.string x, .string y, .int .i64 i] 98 (0, 0)) := (Below.heap_setCell _ _ _ _ (by show w.heap.size ≠ r; omega)).trans e2
    have a0 : (w2.setCell ⟨r, 2, none⟩ (.slice (some ⟨g, 0, none⟩) (P.log.length + 1) cap)).cell? ⟨w.heap.size, 0, none⟩ = some (.string x) := by rw [Go.Joins.cell_of_block e3]; rfl
    have a1 : (w2.setCell ⟨r, 2, none⟩ (.slice (some ⟨g, 0, none⟩) (P.log.length + 1) cap)).cell? ⟨w.heap.size, 1, none⟩ = some (.string y) := by rw [Go.Joins.cell_of_block e3]; rfl
    have a2 : (w2.setCell ⟨r, 2, none⟩ (.slice (some ⟨g, 0, none⟩) (P.log.length + 1) cap)).cell? ⟨w.heap.size, 2, none⟩ = some (.int .i64 i) := by rw [Go.Joins.cell_of_block e3]; rfl
    have a3 := k3.cells.2.2.2.1
    have hgr : g ≠ r := fun e => by
      rcases hat with e3 | e3
      · exact hsr (by rw [e3, e])
      · omega
    have sz3 : (w2.setCell ⟨r, 2, none⟩ (.slice (some ⟨g, 0, none⟩) (P.log.length + 1) cap)).heap.size = w2.heap.size := by simp
    have hF3 : Fr (fun j => j = r ∨ vL.ownBlock = some j) w (w2.setCell ⟨r, 2, none⟩ (.slice (some ⟨g, 0, none⟩) (P.log.length + 1) cap)) :=
      Fr.setCell (p := ⟨r, 2, none⟩) ((((Fr.refl _ w).alloc (.cells #[.string x, .string y, .int .i64 i] 98)).alloc (.cells #[.string x, .string y, .int .i64 i] 98)).trans (G := fun j => vL.ownBlock = some j) (Fr.grown (w := ((w.alloc (.cells #[.string x, .string y, .int .i64 i] 98)).alloc (.cells #[.string x, .string y, .int .i64 i] 98))) ⟨hgrow.os, hgrow.tape, hgrow.output, hgrow.size, hgrow.block⟩ (fun j e => e)) (fun j e => .inl (.inr e))) (.inl (.inl rfl)) _
    have hL3 : (w2.setCell ⟨r, 2, none⟩ (.slice (some ⟨g, 0, none⟩) (P.log.length + 1) cap)).ownsRow 0 98 3 (.slice (some ⟨g, 0, none⟩) (P.log.length + 1) cap) (P.log.length + 1) (P.log.flatMap chC ++ [.string x, .string y, .int .i64 i]) := row_any hown fun j e => Below.heap_setCell _ _ _ _ (by cases e; exact hgr)
    have hN3 : Nr (w2.setCell ⟨r, 2, none⟩ (.slice (some ⟨g, 0, none⟩) (P.log.length + 1) cap)) 0 vN (nl P.now) := row_any HW.out.rN fun j e => hF3.block j (World.ownsRow.lt HW.out.rN j e).2 (by
      have hkn := HW.out.kN j e
      rintro (e2 | e2)
      · rw [e2, HW.out.kr] at hkn; cases hkn
      · rw [HW.out.kL j e2] at hkn; cases hkn)
    have hgb : g < w2.heap.size ∧ (κ g = .log ∨ w.heap.size ≤ g) := ⟨hlt2, by
      rcases hat with e3 | e3
      · exact .inl (HW.out.kL g e3)
      · exact .inr (by omega)⟩
    have hsz3 : w.heap.size < w2.heap.size := by
      simp at hz2'
      omega
    clear hz2' e2 e3 hown k2 q2 q6 hgrow hat hlt2
    rw [← sz3] at hgb hsz3
    generalize w2.setCell ⟨r, 2, none⟩ (.slice (some ⟨g, 0, none⟩) (P.log.length + 1) cap) = W3 at *
    clear sz3 hb0 hb1 hb2 hb3 c0 c1 c2 c3 c4 c5 c6 f2 hw1 hrl
    have HCW := hide2 (HCH.out W3 hN3)
    have HCW1 := hide2 (HCH.out W3.drew (row_any hN3 fun _ _ => rfl))
    have HF3 := hide2 hF3
    have HL3 := hide2 hL3
    have HK3 := hide2 k3
    clear hF3 hL3 hN3 HCH HNW
    go_wp2
    go_region_with ((go_at_call 62; first | refine HCW1.out.mono ?_ | refine HCW.out.mono ?_); rintro e w4 ⟨v4, rfl, hn4, hb4⟩; obtain ⟨ao4, cap4, rfl⟩ := hn4.form; have k4 : Rk w4 r vF vO (.slice (some ⟨g, 0, none⟩) (P.log.length + 1) cap) vN P.n cut off := HK3.out.same (hb4.block r HK3.out.lt); have q3 := k4.cells.2.2.2.1; have q7 := k4.free 3)
    all_goals
      go_wp2
      go_end0
      exact ⟨rfl, change_fin HW.out HEC.out HF3.out HL3.out HK3.out hgb hsz3 hgr hn4 ⟨hb4.os, hb4.tape, hb4.output, hb4.size, hb4.block⟩⟩
end Go.Proofs.Ytolaagbdnchhiaa
