/-
  The document's own arena: Free, Used, Do.
-/
import Derived.Test.YtiflchilmogdoaaDoorR1
set_option linter.unusedVariables false
set_option linter.unusedSimpArgs false
namespace Go.Proofs.YtiflchilmogdoaaDoor
open Go.RowKit

theorem grown_fr {w w' : World} {B j : Nat} (h : w.grownBy w' (some j)) (hj : B ≤ j) : Fr (fun k => B ≤ k) w w' := Fr.grown h (fun k e => by cases e; exact hj)

section
variable {w w' : World} {B r n : Nat} {R : List Bool} {H : List Int} {m : Int} {hv tv : Value}

/-- One of the flags is another one. -/
theorem Rw.flag {g cap : Nat} (h : Rw w B r n R H m hv (.slice (some ⟨g, 0, none⟩) R.length cap)) (c : Nat) (b : Bool) : Rw (w.setCell ⟨g, c, none⟩ (.bool b)) B r n (R.set c b) H m hv (.slice (some ⟨g, 0, none⟩) R.length cap) := by
  obtain ⟨h1, h2⟩ := h.tr.stored c (.bool b)
  refine ⟨?_, ?_, ?_, by simpa using h.len, h.low, h.num, by simpa using h.top, h.big⟩
  · exact (h2.block r h.lt (fun e => h.nt e.symm)).trans h.blk
  · simpa [List.map_set] using h1
  · have := h.hr.kept h2 (.inr (h.nn g rfl))
    simpa using this
/-- One of the numbers is another one. -/
theorem Rw.numb {g cap : Nat} (h : Rw w B r n R H m (.slice (some ⟨g, 0, none⟩) R.length cap) tv) (c : Nat) (x : Int) (hx : 0 ≤ x ∧ x ≤ 18446744073709551615) : Rw (w.setCell ⟨g, c, none⟩ (.int .u64 x)) B r n R (H.set c x) m (.slice (some ⟨g, 0, none⟩) R.length cap) tv := by
  obtain ⟨h1, h2⟩ := h.hr.stored c (.int .u64 x)
  refine ⟨?_, ?_, ?_, by simpa using h.len, h.low, fun i => ?_, h.top, h.big⟩
  · exact (h2.block r h.lt (fun e => h.nh e.symm)).trans h.blk
  · exact h.tr.kept h2 (.inr (fun e => h.nn g e rfl))
  · simpa [List.map_set] using h1
  · rw [getD_set]
    split
    · exact hx
    · exact h.num i
theorem Rw.many (h : Rw w B r n R H m hv tv) (x : Int) : Rw (w.setCell ⟨r, 3, none⟩ (.int .i64 x)) B r n R H x hv tv := by
  have hg : w.grownBy (w.setCell ⟨r, 3, none⟩ (.int .i64 x)) (some r) := ⟨rfl, rfl, rfl, by simp, fun k _ hk => heap_setCell_other w ⟨r, 3, none⟩ k _ (fun e => hk (by simp [e]))⟩
  refine { h with blk := ?_, tr := h.tr.kept hg (.inr h.nt), hr := h.hr.kept hg (.inr h.nh) }
  rw [Go.Joins.block_setCell h.blk]
  rfl

set_option maxRecDepth 100000 in
set_option maxHeartbeats 1000000 in
theorem refFree_in (h : Rw w B r n R H m hv tv) (c : Nat) (ht : tk R c = true) :
    Calls Tryd.prog 25 #[.pointer (some ⟨r, 0, none⟩), .int .i64 (c : Int)] w fun e w' => e = .returned (.int .i64 0) ∧ Rw w' B r n (R.set c false) H m hv tv ∧ Fr (fun k => B ≤ k) w w' := by
  have hc : c < R.length := by simpa using (tk_lt ht).2
  obtain ⟨g, cap, rfl, hg, hcell⟩ := h.trow (by omega)
  obtain ⟨q0, f0⟩ := hcell c hc
  obtain ⟨c0, c1, c2, c3⟩ := h.cells
  have hth := there_any h (c : Int)
  rw [ht] at hth
  have HT := hide2 hth
  have hW := h.flag c false
  have HW := hide2 hW
  have hF : Fr (fun k => B ≤ k) w (w.setCell ⟨g, c, none⟩ (.bool false)) := (Fr.refl _ w).setCell (.inl hg) _
  clear hth hW hcell
  have hc2 : (c : Int) < (R.length : Int) := by omega
  generalize hlen : R.length = len at *
  have HL := hide2 hlen
  clear hlen
  go_enter Tryd.func25, Tryd.ntmps25
  go_wp2_with fail
  refine HT.out.mono ?_
  rintro e w1 ⟨rfl, rfl⟩
  clear HT
  go_wp2
  go_ret
  exact ⟨rfl, HW.out, hF⟩

set_option maxRecDepth 100000 in
set_option maxHeartbeats 1000000 in
theorem refFree_out (h : Rw w B r n R H m hv tv) (c : Int) (ht : tk R c = false) :
    Calls Tryd.prog 25 #[.pointer (some ⟨r, 0, none⟩), .int .i64 c] w fun e w' => e = .returned (.int .i64 30) ∧ w' = w := by
  have hth := there_any h c
  rw [ht] at hth
  have HT := hide2 hth
  clear hth
  go_enter Tryd.func25, Tryd.ntmps25
  go_wp2_with fail
  refine HT.out.mono ?_
  rintro e w1 ⟨rfl, rfl⟩
  clear HT
  go_wp2
  go_ret
  exact ⟨rfl, rfl⟩

set_option maxRecDepth 100000 in
set_option maxHeartbeats 1000000 in
theorem refUsed_any (h : Rw w B r n R H m hv tv) :
    Calls Tryd.prog 14 #[.pointer (some ⟨r, 0, none⟩)] w fun e w' => e = .returned (.int .i64 ((R.count true : Nat) : Int)) ∧ w' = w := by
  obtain ⟨c0, c1, c2, c3⟩ := h.cells
  obtain ⟨ao, cap, rfl⟩ := h.tlen
  have htop := h.top
  have hbig := h.big
  go_enter Tryd.func14, Tryd.ntmps14
  go_wp2
  go_loop [3, 4] (fun u i => ∃ k : Nat, k ≤ R.length ∧ i = .int .i64 k ∧ u = .int .i64 (((R.take k).count true : Nat) : Int)) (fun _ i => R.length - (intOf i).toNat)
  case atStart => exact ⟨0, by omega, rfl, rfl⟩
  case round =>
    obtain ⟨k, hk, rfl, rfl⟩ := hrel
    by_cases hkl : k < R.length
    · obtain ⟨g, cap', e, hg, hcell⟩ := h.trow (by omega)
      cases e
      obtain ⟨q0, -⟩ := hcell k hkl
      have hc2 : (k : Int) < (R.length : Int) := by omega
      have e1 : (R.take (k + 1)).count true = (R.take k).count true + if R.getD k false = true then 1 else 0 := by
        have e : R.getD k false = R[k] := by simp [List.getD, List.getElem?_eq_getElem hkl]
        rw [← List.take_append_getElem hkl, List.count_append, e]
        cases R[k] <;> rfl
      have hub : (R.take k).count true ≤ k := Nat.le_trans List.count_le_length (by simp; omega)
      have E1 := hide2 e1
      clear e1 hcell
      generalize hu : (R.take k).count true = u at *
      have HU := hide2 hu
      clear hu
      cases hb : R.getD k false with
      | true =>
        rw [hb] at q0
        have E2 : Hid ((R.take (k + 1)).count true = u + 1) := hide2 (by rw [E1.out, if_pos hb])
        go_wp2
        go_round
        case rel => exact ⟨k + 1, by omega, by go_num, by rw [E2.out]; go_num⟩
        case measure => simp [intOf]; omega
      | false =>
        rw [hb] at q0
        have E2 : Hid ((R.take (k + 1)).count true = u) := hide2 (by rw [E1.out, if_neg (by rw [hb]; decide)]; rfl)
        go_wp2
        go_round
        case rel => exact ⟨k + 1, by omega, by go_num, by rw [E2.out]⟩
        case measure => simp [intOf]; omega
    · obtain rfl : k = R.length := by omega
      rw [List.take_length]
      generalize hu : R.count true = u
      have HU := hide2 hu
      clear hu
      go_wp2
      go_ret
      exact ⟨by rw [HU.out]; rfl, rfl⟩
end
end Go.Proofs.YtiflchilmogdoaaDoor
