/-
  The document's own disk: change.
-/
import Derived.Test.YtolaagbdnchhiaaRD3
import Derived.Deep.RegionLaw
import Derived.Deep.AppendLies
set_option linter.unusedVariables false
set_option linter.unusedSimpArgs false
namespace Go.Proofs.Ytolaagbdnchhiaa
open Go.RowKit Go.Maps

theorem infoCh : (Try.prog.info? 98).map (fun i => (i.zero, i.size, i.bytes)) = some (some (.agg #[.string .empty, .string .empty, .int .i64 0]), 3, 40) := by kernel_rfl
theorem ch_form (c : PC) : ∃ a b i, chV c = .agg #[.string a, .string b, .int .i64 i] ∧ chC c = [.string a, .string b, .int .i64 i] := by
  cases c with
  | mk s i => exact ⟨_, _, _, rfl, rfl⟩
  | del s => exact ⟨_, _, _, rfl, rfl⟩
  | ren s t => exact ⟨_, _, _, rfl, rfl⟩
theorem cell_three_new (w : World) (x y z : Value) (t : TypeId) : ∀ j u, [x, y, z][j]? = some u → (w.alloc (.cells #[x, y, z] t)).cell? ((⟨w.heap.size, 0, none⟩ : Addr).add j) = some u := by
  intro j u h
  have hb : (w.alloc (.cells #[x, y, z] t)).heap[w.heap.size]? = some (.cells #[x, y, z] t (0, 0)) := heap_alloc_new w _
  rw [addr_add]
  rw [Go.Joins.cell_of_block hb]
  rw [← Array.getElem?_toList]
  simpa using h
theorem log_len (l : List PC) : (l.flatMap chC).length = l.length * 3 := by
  induction l with
  | nil => rfl
  | cons c l ih =>
    rw [List.flatMap_cons, List.length_append, ih]
    cases c <;> simp [chC] <;> omega

theorem change_fin {w W3 w4 : World} {r g cap : Nat} {κ : Nat → Ro} {vF vO vL vN v4 : Value} {φ : Nat → Nat} {β : Nat → Value} {P : PD} {cut : Int} {off : Bool} {c : PC} {cs : List Value} (h : Wd w r κ vF vO vL vN φ β P cut off) (ec : chC c = cs)
    (hF3 : Fr (fun j => j = r ∨ vL.ownBlock = some j) w W3) (hL3 : W3.ownsRow 0 98 3 (.slice (some ⟨g, 0, none⟩) (P.log.length + 1) cap) (P.log.length + 1) (P.log.flatMap chC ++ cs)) (k3 : Rk W3 r vF vO (.slice (some ⟨g, 0, none⟩) (P.log.length + 1) cap) vN P.n cut off)
    (hgb : g < W3.heap.size ∧ (κ g = .log ∨ w.heap.size ≤ g)) (hsz : w.heap.size < W3.heap.size) (hgr : g ≠ r) (hn4 : Nr w4 W3.heap.size v4 (nl (c.run P.now))) (hb4 : Below W3.heap.size W3 w4) :
    ∃ κ' vL' vN', Wd (w4.setCell ⟨r, 3, none⟩ v4) r κ' vF vO vL' vN' φ β { P with log := P.log ++ [c] } cut off ∧ (∀ j, j < w.heap.size → κ' j = κ j) ∧ Fr (fun j => κ j ≠ .out) w (w4.setCell ⟨r, 3, none⟩ v4) := by
  have hlt := h.rk.lt
  have s4 := hb4.size
  have hF4 : Fr (fun j => j = r ∨ vL.ownBlock = some j) w (w4.setCell ⟨r, 3, none⟩ v4) := Fr.setCell (p := ⟨r, 3, none⟩) (hF3.trans (G := fun _ => False) ⟨hb4.os, hb4.tape, hb4.output, hb4.size, fun j hj _ => hb4.block j hj⟩ (fun _ e => e.elim)) (.inl (.inl rfl)) _
  have sm : Sm κ (fun x => x = .dsk ∨ x = .log) w (w4.setCell ⟨r, 3, none⟩ v4) := ⟨hF4.size, fun j hj hn => hF4.block j hj (by
    rintro (e | e)
    · exact hn (.inl (by rw [e]; exact h.kr))
    · exact hn (.inr (h.kL j e)))⟩
  have k4 : Rk (w4.setCell ⟨r, 3, none⟩ v4) r vF vO (.slice (some ⟨g, 0, none⟩) (P.log.length + 1) cap) v4 P.n cut off := (k3.same (hb4.block r k3.lt)).set.2.2.2.1 v4
  have sz : (w4.setCell ⟨r, 3, none⟩ v4).heap.size = w4.heap.size := by simp
  obtain ⟨κ', hκ⟩ : ∃ κ' : Nat → Ro, κ' = fun j => if j < w.heap.size then κ j else if j = g then .log else if v4.ownBlock = some j then .nam else .out := ⟨_, rfl⟩
  have o1 : ∀ j, j < w.heap.size → κ' j = κ j := fun j hj => by rw [hκ]; exact if_pos hj
  have o2 : κ' g = .log := by
    rcases hgb.2 with e | e
    · have hgl : g < w.heap.size := h.frs g (by rw [e]; exact Ro.noConfusion)
      rw [o1 g hgl, e]
    · rw [hκ]
      show (if g < w.heap.size then κ g else if g = g then Ro.log else _) = _
      rw [if_neg (by omega), if_pos rfl]
  have o3 : ∀ j, v4.ownBlock = some j → κ' j = .nam := fun j e => by
    have := (World.ownsRow.lt hn4 j e).1
    rw [hκ]
    show (if j < w.heap.size then κ j else if j = g then Ro.log else if v4.ownBlock = some j then Ro.nam else Ro.out) = _
    rw [if_neg (by omega), if_neg (by omega), if_pos e]
  have hnow : PD.now { P with log := P.log ++ [c] } = c.run P.now := pruns_snoc _ _ _
  refine ⟨κ', .slice (some ⟨g, 0, none⟩) (P.log.length + 1) cap, v4, ⟨k4, ?_, h.oF sm (by simp), fun j e => ?_, h.oO sm (by simp), fun j e => ?_, ?_, fun j e => ?_, ?_, o3, fun k x hx => ?_, fun j hj => ?_⟩, o1, hF4.mono fun j _ e => ?_⟩
  · rw [o1 r hlt]; exact h.kr
  · rw [o1 j (h.rF.lt j e).2]; exact h.kF j e
  · rw [o1 j (World.ownsRow.lt h.rO j e).2]; exact h.kO j e
  · show World.ownsRow _ 0 _ 3 _ (P.log ++ [c]).length ((P.log ++ [c]).flatMap chC)
    rw [List.flatMap_append, List.length_append, List.flatMap_singleton, ec]
    exact row_any hL3 fun j e => (Below.heap_setCell _ _ _ _ (by cases e; exact hgr)).trans (hb4.block j (by cases e; exact hgb.1))
  · cases e; exact o2
  · show Nr _ 0 v4 (nl (PD.now { P with log := P.log ++ [c] }))
    rw [hnow]
    refine Go.Joins.ownsRow_le (row_any hn4 fun j e => Below.heap_setCell _ _ _ _ ?_) (Nat.zero_le _)
    have := (World.ownsRow.lt hn4 j e).1
    show j ≠ r
    omega
  · obtain ⟨b1, b2, b3, b4⟩ := h.oFil sm k x hx (by simp) (by simp)
    obtain ⟨d1, d2, d3, d4⟩ := h.fil k x hx
    exact ⟨b1, by rw [o1 _ d1.lt]; exact b2, b3, fun j e => by rw [o1 j (World.ownsRow.lt d3 j e).2]; exact b4 j e⟩
  · rw [sz]
    by_cases e1 : j < w.heap.size
    · omega
    · by_cases e2 : j = g
      · omega
      · by_cases e3 : v4.ownBlock = some j
        · exact (World.ownsRow.lt hn4 j e3).2
        · exfalso
          apply hj
          rw [hκ]
          show (if j < w.heap.size then κ j else if j = g then Ro.log else if v4.ownBlock = some j then Ro.nam else Ro.out) = _
          rw [if_neg e1, if_neg e2, if_neg e3]
  · rcases e with e | e
    · rw [e, h.kr]; exact Ro.noConfusion
    · rw [h.kL j e]; exact Ro.noConfusion

set_option maxHeartbeats 4000000 in
set_option maxRecDepth 100000 in
theorem ref_change {w : World} {r : Nat} {κ : Nat → Ro} {vF vO vL vN : Value} {φ : Nat → Nat} {β : Nat → Value} {P : PD} {cut : Int} {off : Bool} (h : Wd w r κ vF vO vL vN φ β P cut off) (hP : P.inv) (c : PC) (hc : c.fits P.now) :
    Calls Try.prog 59 #[.pointer (some ⟨r, 0, none⟩), chV c] w fun e w' => e = .returned (.tuple #[]) ∧ ∃ κ' vL' vN', Wd w' r κ' vF vO vL' vN' φ β { P with log := P.log ++ [c] } cut off ∧ (∀ j, j < w.heap.size → κ' j = κ j) ∧ Fr (fun j => κ j ≠ .out) w w' := by
  obtain ⟨i0, hi, hz0, hz1, hz2⟩ := info_parts infoCh
  have hlt := h.rk.lt
  have hn1 := hP.few
  have hn2 := hP.hi
  have hrl := h.rL
  have HW := hide2 h
  have HP := hide2 hP
  have hsr : some r ≠ vL.ownBlock := fun e => by
    have := h.kL r e.symm
    rw [h.kr] at this
    cases this
  obtain ⟨x, y, i, ev, ec⟩ := ch_form c
  have hw1 : Rk (w.alloc (.cells #[.string x, .string y, .int .i64 i] 98)) r vF vO vL vN P.n cut off := h.rk.same (Below.heap_alloc _ _ r hlt)
  have hb1 := heap_alloc_new w (.cells #[.string x, .string y, .int .i64 i] 98)
  obtain ⟨c0, c1, c2, c3, c4, c5, c6⟩ := hw1.cells
  have f2 := hw1.free 2
  have HEC := hide2 ec
  have HEV := hide2 ev
  have hD := hP.now.txt
  have hDl : P.now.length ≤ 100000 := Nat.le_trans hP.now.len (by decide)
  have hch : ∀ W, Nr W 0 vN (nl P.now) → Calls Try.prog 62 #[vN, .agg #[.string x, .string y, .int .i64 i]] W fun e w' => ∃ v', e = .returned v' ∧ Nr w' W.heap.size v' (nl (c.run P.now)) ∧ Below W.heap.size W w' := fun W hN => by
    have := changed_ref hN hD hDl c hc
    rw [ev] at this
    exact this
  have hnw : ∀ j u, [Value.string x, .string y, .int .i64 i][j]? = some u → ((w.alloc (.cells #[.string x, .string y, .int .i64 i] 98)).alloc (.cells #[.string x, .string y, .int .i64 i] 98)).cell? ((⟨w.heap.size + 1, 0, none⟩ : Addr).add j) = some u := fun j u hj => by
    have := cell_three_new (w.alloc (.cells #[.string x, .string y, .int .i64 i] 98)) _ _ _ 98 j u hj
    simpa using this
  have HCH := hide2 hch
  have HNW := hide2 hnw
  rw [ev]
  clear h hP ec ev hch hnw hc hD hDl
  have hb0 : (w.alloc (.cells #[.string x, .string y, .int .i64 i] 98)).cell? ⟨w.heap.size, 0, none⟩ = some (.string x) := by rw [Go.Joins.cell_of_block hb1]; rfl
  have hb2 : (w.alloc (.cells #[.string x, .string y, .int .i64 i] 98)).cell? ⟨w.heap.size, 1, none⟩ = some (.string y) := by rw [Go.Joins.cell_of_block hb1]; rfl
  have hb3 : (w.alloc (.cells #[.string x, .string y, .int .i64 i] 98)).cell? ⟨w.heap.size, 2, none⟩ = some (.int .i64 i) := by rw [Go.Joins.cell_of_block hb1]; rfl
  have hbL : ∀ j, vL.ownBlock = some j → j < w.heap.size := fun j e => (hrl.lt j e).2
  go_enter Try.func59, Try.ntmps59
  go_wp2
  go_region_law ((refine step_append_lies _ (by rfl) _ _ _ (by rfl) 0 98 i0 (.agg #[.string .empty, .string .empty, .int .i64 0]) 3 40 Try.underlying64 hi hz0 hz1 hz2 rfl (by decide) vL P.log.length (P.log.flatMap chC) (by rfl) (row_any hrl fun j e => (Below.heap_alloc _ _ j (by have := (hrl.lt j e).2; simp; omega)).trans (Below.heap_alloc w _ j (hrl.lt j e).2)) ⟨w.heap.size + 1, 0, none⟩ 1 1 [.string x, .string y, .int .i64 i] (by rfl) rfl HNW.out (by intro u hu; simp at hu; rcases hu with rfl | rfl | rfl <;> rfl) (by decide) (by unfold maxLen; omega) (by omega) (Nat.zero_le _) (w.heap.size + 2) (by simp) ?_; intro g cap w2 hown hgrow hat hlt2; have k2 : Rk w2 r vF vO vL vN P.n cut off := hw1.same ((hgrow.block r (by simp; omega) hsr).trans (Below.heap_alloc _ _ r (by simp; omega))); have q2 := k2.cells.2.2.1; have q6 := k2.free 2))
  all_goals
    have hz2' := hgrow.size
    have e2 : w2.heap[w.heap.size]? = some (.cells #[.string x, .string y, .int .i64 i] 98 (0, 0)) := (hgrow.block w.heap.size (by simp; omega) (fun e => by have := hbL _ e.symm; omega)).trans ((Below.heap_alloc _ _ _ (by simp)).trans hb1)
    have k3 : Rk (w2.setCell ⟨r, 2, none⟩ (.slice (some ⟨g, 0, none⟩) (P.log.length + 1) cap)) r vF vO (.slice (some ⟨g, 0, none⟩) (P.log.length + 1) cap) vN P.n cut off := k2.set.2.2.1 _
    have e3 : (w2.setCell ⟨r, 2, none⟩ (.slice (some ⟨g, 0, none⟩) (P.log.length + 1) cap)).heap[w.heap.size]? = some (.cells #[.string x, .string y, .int .i64 i] 98 (0, 0)) := (Below.heap_setCell _ _ _ _ (by show w.heap.size ≠ r; omega)).trans e2
    have a0 : (w2.setCell ⟨r, 2, none⟩ (.slice (some ⟨g, 0, none⟩) (P.log.length + 1) cap)).cell? ⟨w.heap.size, 0, none⟩ = some (.string x) := by rw [Go.Joins.cell_of_block e3]; rfl
    have a1 : (w2.setCell ⟨r, 2, none⟩ (.slice (some ⟨g, 0, none⟩) (P.log.length + 1) cap)).cell? ⟨w.heap.size, 1, none⟩ = some (.string y) := by rw [Go.Joins.cell_of_block e3]; rfl
    have a2 : (w2.setCell ⟨r, 2, none⟩ (.slice (some ⟨g, 0, none⟩) (P.log.length + 1) cap)).cell? ⟨w.heap.size, 2, none⟩ = some (.int .i64 i) := by rw [Go.Joins.cell_of_block e3]; rfl
    have a3 := k3.cells.2.2.2.1
    have hgr : g ≠ r := fun e => by
      rcases hat with e3 | e3
      · exact hsr (by rw [e3, e])
      · omega
    have sz3 : (w2.setCell ⟨r, 2, none⟩ (.slice (some ⟨g, 0, none⟩) (P.log.length + 1) cap)).heap.size = w2.heap.size := by simp
    have hF3 : Fr (fun j => j = r ∨ vL.ownBlock = some j) w (w2.setCell ⟨r, 2, none⟩ (.slice (some ⟨g, 0, none⟩) (P.log.length + 1) cap)) :=
      Fr.setCell (p := ⟨r, 2, none⟩) ((((Fr.refl _ w).alloc (.cells #[.string x, .string y, .int .i64 i] 98)).alloc (.cells #[.string x, .string y, .int .i64 i] 98)).trans (G := fun j => vL.ownBlock = some j) (Fr.grown (w := ((w.alloc (.cells #[.string x, .string y, .int .i64 i] 98)).alloc (.cells #[.string x, .string y, .int .i64 i] 98))) ⟨hgrow.os, hgrow.tape, hgrow.output, hgrow.size, hgrow.block⟩ (fun j e => e)) (fun j e => .inl (.inr e))) (.inl (.inl rfl)) _
    have hL3 : (w2.setCell ⟨r, 2, none⟩ (.slice (some ⟨g, 0, none⟩) (P.log.length + 1) cap)).ownsRow 0 98 3 (.slice (some ⟨g, 0, none⟩) (P.log.length + 1) cap) (P.log.length + 1) (P.log.flatMap chC ++ [.string x, .string y, .int .i64 i]) := row_any hown fun j e => Below.heap_setCell _ _ _ _ (by cases e; exact hgr)
    have hN3 : Nr (w2.setCell ⟨r, 2, none⟩ (.slice (some ⟨g, 0, none⟩) (P.log.length + 1) cap)) 0 vN (nl P.now) := row_any HW.out.rN fun j e => hF3.block j (World.ownsRow.lt HW.out.rN j e).2 (by
      have hkn := HW.out.kN j e
      rintro (e2 | e2)
      · rw [e2, HW.out.kr] at hkn; cases hkn
      · rw [HW.out.kL j e2] at hkn; cases hkn)
    have hgb : g < w2.heap.size ∧ (κ g = .log ∨ w.heap.size ≤ g) := ⟨hlt2, by
      rcases hat with e3 | e3
      · exact .inl (HW.out.kL g e3)
      · exact .inr (by omega)⟩
    have hsz3 : w.heap.size < w2.heap.size := by
      simp at hz2'
      omega
    clear hz2' e2 e3 hown k2 q2 q6 hgrow hat hlt2
    rw [← sz3] at hgb hsz3
    generalize w2.setCell ⟨r, 2, none⟩ (.slice (some ⟨g, 0, none⟩) (P.log.length + 1) cap) = W3 at *
    clear sz3 hb0 hb1 hb2 hb3 c0 c1 c2 c3 c4 c5 c6 f2 hw1 hrl
    have HCW := hide2 (HCH.out W3 hN3)
    have HCW1 := hide2 (HCH.out W3.drew (row_any hN3 fun _ _ => rfl))
    have HF3 := hide2 hF3
    have HL3 := hide2 hL3
    have HK3 := hide2 k3
    clear hF3 hL3 hN3 HCH HNW
    go_wp2
    go_region_with ((go_at_call 62; first | refine HCW1.out.mono ?_ | refine HCW.out.mono ?_); rintro e w4 ⟨v4, rfl, hn4, hb4⟩; obtain ⟨ao4, cap4, rfl⟩ := hn4.form; have k4 : Rk w4 r vF vO (.slice (some ⟨g, 0, none⟩) (P.log.length + 1) cap) vN P.n cut off := HK3.out.same (hb4.block r HK3.out.lt); have q3 := k4.cells.2.2.2.1; have q7 := k4.free 3)
    all_goals
      go_wp2
      go_end0
      exact ⟨rfl, change_fin HW.out HEC.out HF3.out HL3.out HK3.out hgb hsz3 hgr hn4 ⟨hb4.os, hb4.tape, hb4.output, hb4.size, hb4.block⟩⟩
end Go.Proofs.Ytolaagbdnchhiaa
