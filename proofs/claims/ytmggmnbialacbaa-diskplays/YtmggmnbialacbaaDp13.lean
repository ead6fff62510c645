/-
  The document's own disk: change.
-/
import Derived.Test.YtmggmnbialacbaaDp12
import Derived.Deep.RegionLaw
import Derived.Deep.AppendLies
import Derived.BigQuiet
import Derived.Maps.AppendAt
set_option linter.unusedVariables false
set_option linter.unusedSimpArgs false
namespace Go.Proofs.Ytmggmnbialacbaa
open Go.RowKit Go.Maps

theorem infoCh : (Try.prog.info? 98).map (fun i => (i.zero, i.size, i.bytes)) = some (some (.agg #[.string .empty, .string .empty, .int .i64 0]), 3, 40) := by kernel_rfl
theorem ch_form (c : PC) : ∃ a b i, chV c = .agg #[.string a, .string b, .int .i64 i] ∧ chC c = [.string a, .string b, .int .i64 i] := by
  cases c with
  | mk s i => exact ⟨_, _, _, rfl, rfl⟩
  | del s => exact ⟨_, _, _, rfl, rfl⟩
  | ren s t => exact ⟨_, _, _, rfl, rfl⟩
theorem cell_three_new (w : World) (x y z : Value) (t : TypeId) : ∀ j u, [x, y, z][j]? = some u → (w.alloc (.cells #[x, y, z] t)).cell? ((⟨w.heap.size, 0, none⟩ : Addr).add j) = some u := by
  intro j u h
  have hb : (w.alloc (.cells #[x, y, z] t)).heap[w.heap.size]? = some (.cells #[x, y, z] t (0, 0)) := heap_alloc_new w _
  rw [addr_add]
  rw [Go.Joins.cell_of_block hb]
  rw [← Array.getElem?_toList]
  simpa using h
theorem change_fin {w W3 w4 : World} {r g cap : Nat} {κ : Nat → Ro} {vF vO vL vN v4 : Value} {φ : Nat → Nat} {β : Nat → Value} {P : PD} {cut : Int} {off : Bool} {c : PC} {cs : List Value} (h : Wd w r κ vF vO vL vN φ β P cut off) (ec : chC c = cs)
    (hF3 : Fr (fun j => j = r ∨ vL.ownBlock = some j) w W3) (hL3 : W3.ownsRow 0 98 3 (.slice (some ⟨g, 0, none⟩) (P.log.length + 1) cap) (P.log.length + 1) (P.log.flatMap chC ++ cs)) (k3 : Rk W3 r vF vO (.slice (some ⟨g, 0, none⟩) (P.log.length + 1) cap) vN P.n cut off)
    (hgb : g < W3.heap.size ∧ (κ g = .log ∨ w.heap.size ≤ g)) (hsz : w.heap.size < W3.heap.size) (hgr : g ≠ r) (hn4 : Nr w4 W3.heap.size v4 (nl (c.run P.now))) (hb4 : Below W3.heap.size W3 w4) :
    ∃ κ' vL' vN', Wd (w4.setCell ⟨r, 3, none⟩ v4) r κ' vF vO vL' vN' φ β { P with log := P.log ++ [c] } cut off ∧ (∀ j, j < w.heap.size → κ' j = κ j) ∧ Fr (fun j => κ j ≠ .out) w (w4.setCell ⟨r, 3, none⟩ v4) := by
  have hlt := h.rk.lt
  have s4 := hb4.size
  have hF4 : Fr (fun j => j = r ∨ vL.ownBlock = some j) w (w4.setCell ⟨r, 3, none⟩ v4) := Fr.setCell (p := ⟨r, 3, none⟩) (hF3.trans (G := fun _ => False) ⟨hb4.os, hb4.tape, hb4.output, hb4.size, fun j hj _ => hb4.block j hj⟩ (fun _ e => e.elim)) (.inl (.inl rfl)) _
  have sm : Sm κ (fun x => x = .dsk ∨ x = .log) w (w4.setCell ⟨r, 3, none⟩ v4) := ⟨hF4.size, fun j hj hn => hF4.block j hj (by
    rintro (e | e)
    · exact hn (.inl (by rw [e]; exact h.kr))
    · exact hn (.inr (h.kL j e)))⟩
  have k4 : Rk (w4.setCell ⟨r, 3, none⟩ v4) r vF vO (.slice (some ⟨g, 0, none⟩) (P.log.length + 1) cap) v4 P.n cut off := (k3.same (hb4.block r k3.lt)).set.2.2.2.1 v4
  have sz : (w4.setCell ⟨r, 3, none⟩ v4).heap.size = w4.heap.size := by simp
  obtain ⟨κ', hκ⟩ : ∃ κ' : Nat → Ro, κ' = fun j => if j < w.heap.size then κ j else if j = g then .log else if v4.ownBlock = some j then .nam else .out := ⟨_, rfl⟩
  have o1 : ∀ j, j < w.heap.size → κ' j = κ j := fun j hj => by rw [hκ]; exact if_pos hj
  have o2 : κ' g = .log := by
    rcases hgb.2 with e | e
    · have hgl : g < w.heap.size := h.frs g (by rw [e]; exact Ro.noConfusion)
      rw [o1 g hgl, e]
    · rw [hκ]
      show (if g < w.heap.size then κ g else if g = g then Ro.log else _) = _
      rw [if_neg (by omega), if_pos rfl]
  have o3 : ∀ j, v4.ownBlock = some j → κ' j = .nam := fun j e => by
    have := (World.ownsRow.lt hn4 j e).1
    rw [hκ]
    show (if j < w.heap.size then κ j else if j = g then Ro.log else if v4.ownBlock = some j then Ro.nam else Ro.out) = _
    rw [if_neg (by omega), if_neg (by omega), if_pos e]
  have hnow : PD.now { P with log := P.log ++ [c] } = c.run P.now := pruns_snoc _ _ _
  refine ⟨κ', .slice (some ⟨g, 0, none⟩) (P.log.length + 1) cap, v4, ⟨k4, ?_, h.oF sm (by simp), fun j e => ?_, h.oO sm (by simp), fun j e => ?_, ?_, fun j e => ?_, ?_, o3, fun k x hx => ?_, fun j hj => ?_⟩, o1, hF4.mono fun j _ e => ?_⟩
  · rw [o1 r hlt]; exact h.kr
  · rw [o1 j (h.rF.lt j e).2]; exact h.kF j e
  · rw [o1 j (World.ownsRow.lt h.rO j e).2]; exact h.kO j e
  · show World.ownsRow _ 0 _ 3 _ (P.log ++ [c]).length ((P.log ++ [c]).flatMap chC)
    rw [List.flatMap_append, List.length_append, List.flatMap_singleton, ec]
    exact row_any hL3 fun j e => (Below.heap_setCell _ _ _ _ (by cases e; exact hgr)).trans (hb4.block j (by cases e; exact hgb.1))
  · cases e; exact o2
  · show Nr _ 0 v4 (nl (PD.now { P with log := P.log ++ [c] }))
    rw [hnow]
    refine Go.Joins.ownsRow_le (row_any hn4 fun j e => Below.heap_setCell _ _ _ _ ?_) (Nat.zero_le _)
    have := (World.ownsRow.lt hn4 j e).1
    show j ≠ r
    omega
  · obtain ⟨b1, b2, b3, b4⟩ := h.oFil sm k x hx (by simp) (by simp)
    obtain ⟨d1, d2, d3, d4⟩ := h.fil k x hx
    exact ⟨b1, by rw [o1 _ d1.lt]; exact b2, b3, fun j e => by rw [o1 j (World.ownsRow.lt d3 j e).2]; exact b4 j e⟩
  · rw [sz]
    by_cases e1 : j < w.heap.size
    · omega
    · by_cases e2 : j = g
      · omega
      · by_cases e3 : v4.ownBlock = some j
        · exact (World.ownsRow.lt hn4 j e3).2
        · exfalso
          apply hj
          rw [hκ]
          show (if j < w.heap.size then κ j else if j = g then Ro.log else if v4.ownBlock = some j then Ro.nam else Ro.out) = _
          rw [if_neg e1, if_neg e2, if_neg e3]
  · rcases e with e | e
    · rw [e, h.kr]; exact Ro.noConfusion
    · rw [h.kL j e]; exact Ro.noConfusion

set_option maxHeartbeats 4000000 in
set_option maxRecDepth 100000 in
theorem ref_change {w : World} {r : Nat} {κ : Nat → Ro} {vF vO vL vN : Value} {φ : Nat → Nat} {β : Nat → Value} {P : PD} {cut : Int} {off : Bool} (h : Wd w r κ vF vO vL vN φ β P cut off) (hP : P.inv) (c : PC) (hc : c.fits P.now) :
    Calls Try.prog 59 #[.pointer (some ⟨r, 0, none⟩), chV c] w fun e w' => e = .returned (.tuple #[]) ∧ ∃ κ' vL' vN', Wd w' r κ' vF vO vL' vN' φ β { P with log := P.log ++ [c] } cut off ∧ (∀ j, j < w.heap.size → κ' j = κ j) ∧ Fr (fun j => κ j ≠ .out) w w' := by
  obtain ⟨i0, hi, hz0, hz1, hz2⟩ := info_parts infoCh
  have hlt := h.rk.lt
  have hn1 := hP.few
  have hn2 := hP.hi
  have hrl := h.rL
  have HW := hide2 h
  have HP := hide2 hP
  have hsr : some r ≠ vL.ownBlock := fun e => by
    have := h.kL r e.symm
    rw [h.kr] at this
    cases this
  obtain ⟨x, y, i, ev, ec⟩ := ch_form c
  have hw1 : Rk (w.alloc (.cells #[.string x, .string y, .int .i64 i] 98)) r vF vO vL vN P.n cut off := h.rk.same (Below.heap_alloc _ _ r hlt)
  have hb1 := heap_alloc_new w (.cells #[.string x, .string y, .int .i64 i] 98)
  obtain ⟨c0, c1, c2, c3, c4, c5, c6⟩ := hw1.cells
  have f2 := hw1.free 2
  have HEC := hide2 ec
  have HEV := hide2 ev
  have hD := hP.now.txt
  have hDl : P.now.length ≤ 100000 := Nat.le_trans hP.now.len (by decide)
  have hch : ∀ W, Nr W 0 vN (nl P.now) → Calls Try.prog 62 #[vN, .agg #[.string x, .string y, .int .i64 i]] W fun e w' => ∃ v', e = .returned v' ∧ Nr w' W.heap.size v' (nl (c.run P.now)) ∧ Below W.heap.size W w' := fun W hN => by
    have := changed_ref hN hD hDl c hc
    rw [ev] at this
    exact this
  have hnw : ∀ j u, [Value.string x, .string y, .int .i64 i][j]? = some u → ((w.alloc (.cells #[.string x, .string y, .int .i64 i] 98)).alloc (.cells #[.string x, .string y, .int .i64 i] 98)).cell? ((⟨w.heap.size + 1, 0, none⟩ : Addr).add j) = some u := fun j u hj => by
    have := cell_three_new (w.alloc (.cells #[.string x, .string y, .int .i64 i] 98)) _ _ _ 98 j u hj
    simpa using this
  have HCH := hide2 hch
  have HNW := hide2 hnw
  rw [ev]
  clear h hP ec ev hch hnw hc hD hDl
  have hb0 : (w.alloc (.cells #[.string x, .string y, .int .i64 i] 98)).cell? ⟨w.heap.size, 0, none⟩ = some (.string x) := by rw [Go.Joins.cell_of_block hb1]; rfl
  have hb2 : (w.alloc (.cells #[.string x, .string y, .int .i64 i] 98)).cell? ⟨w.heap.size, 1, none⟩ = some (.string y) := by rw [Go.Joins.cell_of_block hb1]; rfl
  have hb3 : (w.alloc (.cells #[.string x, .string y, .int .i64 i] 98)).cell? ⟨w.heap.size, 2, none⟩ = some (.int .i64 i) := by rw [Go.Joins.cell_of_block hb1]; rfl
  have hbL : ∀ j, vL.ownBlock = some j → j < w.heap.size := fun j e => (hrl.lt j e).2
  go_enter Try.func59, Try.ntmps59
  go_wp2
  go_region_law ((refine step_append_lies _ (by rfl) _ _ _ (by rfl) 0 98 i0 (.agg #[.string .empty, .string .empty, .int .i64 0]) 3 40 Try.underlying64 hi hz0 hz1 hz2 rfl (by decide) vL P.log.length (P.log.flatMap chC) (by rfl) (row_any hrl fun j e => (Below.heap_alloc _ _ j (by have := (hrl.lt j e).2; simp; omega)).trans (Below.heap_alloc w _ j (hrl.lt j e).2)) ⟨w.heap.size + 1, 0, none⟩ 1 1 [.string x, .string y, .int .i64 i] (by rfl) rfl HNW.out (by intro u hu; simp at hu; rcases hu with rfl | rfl | rfl <;> rfl) (by decide) (by unfold maxLen; omega) (by omega) (Nat.zero_le _) (w.heap.size + 2) (by simp) ?_; intro g cap w2 hown hgrow hat hlt2; have k2 : Rk w2 r vF vO vL vN P.n cut off := hw1.same ((hgrow.block r (by simp; omega) hsr).trans (Below.heap_alloc _ _ r (by simp; omega))); have q2 := k2.cells.2.2.1; have q6 := k2.free 2))
  all_goals
    have hz2' := hgrow.size
    have e2 : w2.heap[w.heap.size]? = some (.cells #[.string x, .string y, .int .i64 i] 98 (0, 0)) := (hgrow.block w.heap.size (by simp; omega) (fun e => by have := hbL _ e.symm; omega)).trans ((Below.heap_alloc _ _ _ (by simp)).trans hb1)
    have k3 : Rk (w2.setCell ⟨r, 2, none⟩ (.slice (some ⟨g, 0, none⟩) (P.log.length + 1) cap)) r vF vO (.slice (some ⟨g, 0, none⟩) (P.log.length + 1) cap) vN P.n cut off := k2.set.2.2.1 _
    have e3 : (w2.setCell ⟨r, 2, none⟩ (.slice (some ⟨g, 0, none⟩) (P.log.length + 1) cap)).heap[w.heap.size]? = some (.cells #[.string x, .string y, .int .i64 i] 98 (0, 0)) := (Below.heap_setCell _ _ _ _ (by show w.heap.size ≠ r; omega)).trans e2
    have a0 : (w2.setCell ⟨r, 2, none⟩ (.slice (some ⟨g, 0, none⟩) (P.log.length + 1) cap)).cell? ⟨w.heap.size, 0, none⟩ = some (.string x) := by rw [Go.Joins.cell_of_block e3]; rfl
    have a1 : (w2.setCell ⟨r, 2, none⟩ (.slice (some ⟨g, 0, none⟩) (P.log.length + 1) cap)).cell? ⟨w.heap.size, 1, none⟩ = some (.string y) := by rw [Go.Joins.cell_of_block e3]; rfl
    have a2 : (w2.setCell ⟨r, 2, none⟩ (.slice (some ⟨g, 0, none⟩) (P.log.length + 1) cap)).cell? ⟨w.heap.size, 2, none⟩ = some (.int .i64 i) := by rw [Go.Joins.cell_of_block e3]; rfl
    have a3 := k3.cells.2.2.2.1
    have hgr : g ≠ r := fun e => by
      rcases hat with e3 | e3
      · exact hsr (by rw [e3, e])
      · omega
    have sz3 : (w2.setCell ⟨r, 2, none⟩ (.slice (some ⟨g, 0, none⟩) (P.log.length + 1) cap)).heap.size = w2.heap.size := by simp
    have hF3 : Fr (fun j => j = r ∨ vL.ownBlock = some j) w (w2.setCell ⟨r, 2, none⟩ (.slice (some ⟨g, 0, none⟩) (P.log.length + 1) cap)) :=
      Fr.setCell (p := ⟨r, 2, none⟩) ((((Fr.refl _ w).alloc (.cells #[.string x, .string y, .int .i64 i] 98)).alloc (.cells #[.string x, .string y, .int .i64 i] 98)).trans (G := fun j => vL.ownBlock = some j) (Fr.grown (w := ((w.alloc (.cells #[.string x, .string y, .int .i64 i] 98)).alloc (.cells #[.string x, .string y, .int .i64 i] 98))) ⟨hgrow.os, hgrow.tape, hgrow.output, hgrow.size, hgrow.block⟩ (fun j e => e)) (fun j e => .inl (.inr e))) (.inl (.inl rfl)) _
    have hL3 : (w2.setCell ⟨r, 2, none⟩ (.slice (some ⟨g, 0, none⟩) (P.log.length + 1) cap)).ownsRow 0 98 3 (.slice (some ⟨g, 0, none⟩) (P.log.length + 1) cap) (P.log.length + 1) (P.log.flatMap chC ++ [.string x, .string y, .int .i64 i]) := row_any hown fun j e => Below.heap_setCell _ _ _ _ (by cases e; exact hgr)
    have hN3 : Nr (w2.setCell ⟨r, 2, none⟩ (.slice (some ⟨g, 0, none⟩) (P.log.length + 1) cap)) 0 vN (nl P.now) := row_any HW.out.rN fun j e => hF3.block j (World.ownsRow.lt HW.out.rN j e).2 (by
      have hkn := HW.out.kN j e
      rintro (e2 | e2)
      · rw [e2, HW.out.kr] at hkn; cases hkn
      · rw [HW.out.kL j e2] at hkn; cases hkn)
    have hgb : g < w2.heap.size ∧ (κ g = .log ∨ w.heap.size ≤ g) := ⟨hlt2, by
      rcases hat with e3 | e3
      · exact .inl (HW.out.kL g e3)
      · exact .inr (by omega)⟩
    have hsz3 : w.heap.size < w2.heap.size := by
      simp at hz2'
      omega
    clear hz2' e2 e3 hown k2 q2 q6 hgrow hat hlt2
    rw [← sz3] at hgb hsz3
    generalize w2.setCell ⟨r, 2, none⟩ (.slice (some ⟨g, 0, none⟩) (P.log.length + 1) cap) = W3 at *
    clear sz3 hb0 hb1 hb2 hb3 c0 c1 c2 c3 c4 c5 c6 f2 hw1 hrl
    have HCW := hide2 (HCH.out W3 hN3)
    have HCW1 := hide2 (HCH.out W3.drew (row_any hN3 fun _ _ => rfl))
    have HF3 := hide2 hF3
    have HL3 := hide2 hL3
    have HK3 := hide2 k3
    clear hF3 hL3 hN3 HCH HNW
    go_wp2
    go_region_with ((go_at_call 62; first | refine HCW1.out.mono ?_ | refine HCW.out.mono ?_); rintro e w4 ⟨v4, rfl, hn4, hb4⟩; obtain ⟨ao4, cap4, rfl⟩ := hn4.form; have k4 : Rk w4 r vF vO (.slice (some ⟨g, 0, none⟩) (P.log.length + 1) cap) vN P.n cut off := HK3.out.same (hb4.block r HK3.out.lt); have q3 := k4.cells.2.2.2.1; have q7 := k4.free 3)
    all_goals
      go_wp2
      go_end0
      exact ⟨rfl, change_fin HW.out HEC.out HF3.out HL3.out HK3.out hgb hsz3 hgr hn4 ⟨hb4.os, hb4.tape, hb4.output, hb4.size, hb4.block⟩⟩
end Go.Proofs.Ytmggmnbialacbaa

/-
  The document's own disk: Delete, Rename.
-/
set_option linter.unusedVariables false
set_option linter.unusedSimpArgs false
namespace Go.Proofs.Ytmggmnbialacbaa
open Go.RowKit Go.Maps

section
variable {w w' : World} {r : Nat} {κ : Nat → Ro} {vF vO vL vN : Value} {φ : Nat → Nat} {β : Nat → Value} {P : PD} {cut : Int} {off : Bool}
theorem Wd.nr (h : Wd w r κ vF vO vL vN φ β P cut off) : ∀ g, vN.ownBlock = some g → g ≠ r := fun g e e2 => by
  have := h.kN g e
  rw [e2, h.kr] at this
  cases this
/-- One operation more. -/
theorem Wd.count (h : Wd w r κ vF vO vL vN φ β P cut off) (n : Int) : Wd (w.setCell ⟨r, 4, none⟩ (.int .i64 n)) r κ vF vO vL vN φ β { P with n := n } cut off ∧ Fr (fun j => j = r) w (w.setCell ⟨r, 4, none⟩ (.int .i64 n)) := by
  have hF : Fr (fun j => j = r) w (w.setCell ⟨r, 4, none⟩ (.int .i64 n)) := Fr.setCell (p := ⟨r, 4, none⟩) (Fr.refl (fun j => j = r) w) (.inl rfl) _
  exact ⟨h.blk hF (h.rk.set.2.2.2.2.1 n), hF⟩
theorem fr_out (h : Wd w r κ vF vO vL vN φ β P cut off) {w1 w2 w3 : World} {κ' : Nat → Ro} (hF : Fr (fun j => j = r) w w1) (ho : ∀ j, j < w1.heap.size → κ' j = κ j) (h1 : Fr (fun j => κ j ≠ .out) w1 w2) (h2 : Fr (fun j => j = r) w2 w3) : Fr (fun j => κ j ≠ .out) w w3 := by
  have kr : κ r ≠ .out := by rw [h.kr]; exact Ro.noConfusion
  exact ((hF.mono fun j _ e => by rw [e]; exact kr).trans h1 (fun j e => .inl e)).trans h2 (fun j e => .inl (by rw [e]; exact kr))

set_option maxHeartbeats 4000000 in
set_option maxRecDepth 100000 in
theorem ref_delete (h : RD w r κ P cut off) (hP : P.inv) (s : ByteArray) (hs : s.size ≤ maxLen) :
    Calls Try.prog 34 #[.pointer (some ⟨r, 0, none⟩), .string s] w fun e w' => e = .returned (.int .i64 (if offed P.n cut off = true then 24 else (P.del s).1)) ∧ Rres w w' r κ (if offed P.n cut off = true then P else (P.del s).2) cut (offed P.n cut off) := by
  obtain ⟨vF, vO, vL, vN, φ, β, h⟩ := h
  have hg := hP.now
  have hl := hg.len
  have hr := ref_ready h.rk h.rN h.nr hg.txt (by omega) s s hs hs
  have HW := hide2 h
  have HP := hide2 hP
  clear h hP hg hl
  go_enter Try.func34, Try.ntmps34
  go_wp2_with fail
  refine hr.mono ?_
  rintro e w1 ⟨rfl, hk, hF, hz⟩
  clear hr
  cases ho : offed P.n cut off with
  | true =>
    rw [ho] at hk
    have er : rcode true (isName s && isName s) (plook (kl s) P.now) P.n = 24 := rfl
    rw [er]
    have HK := hide2 hk
    clear hk
    go_wp2
    all_goals
      go_ret
      exact ⟨rfl, HW.out.idle HK.out hF⟩
  | false =>
    rw [ho] at hk
    have er : rcode false (isName s && isName s) (plook (kl s) P.now) P.n = pcode (isName s) (plook (kl s) P.now) P.n := by rw [Bool.and_self]; rfl
    rw [er]
    by_cases hc : pcode (isName s) (plook (kl s) P.now) P.n = 0
    · rw [hc]
      obtain ⟨hn, ⟨i, hi⟩, hop⟩ := pcode_zero hc
      have hlo := HP.out.lo
      have h1 : Wd w1 r κ vF vO vL vN φ β P cut false := HW.out.blk hF hk
      have hch := ref_change h1 HP.out (.del s) (name_some hn)
      have ev : chV (.del s) = .agg #[.string s, .string .empty, .int .i64 0] := rfl
      rw [ev] at hch
      have ea : P.del s = (0, { P with log := P.log ++ [.del s], n := P.n + 1 }) := by
        unfold PD.del
        rw [if_pos hc]
      have HE := hide2 ea
      have HC := hide2 hch
      clear ea hch h1 hk
      go_wp2_with fail
      refine HC.out.mono ?_
      rintro e w2 ⟨rfl, κ', vL', vN', hW2, hk2, hF2⟩
      obtain ⟨c0, c1, c2, c3, c4, c5, c6⟩ := hW2.rk.cells
      have c4' : w2.cell? ⟨r, 4, none⟩ = some (.int .i64 P.n) := c4
      have f4 := hW2.rk.free 4
      have hc63 : P.n + 1 < 9223372036854775808 := by omega
      have HW2 := hide2 hW2
      clear hW2 HC c4 c0 c1 c2 c3 c5 c6
      go_wp2
      all_goals
        go_ret
        rw [HE.out]
        obtain ⟨hW3, hF3⟩ := HW2.out.count (P.n + 1)
        exact ⟨rfl, κ', ⟨vF, vO, vL', vN', φ, β, hW3⟩, fun j hj => hk2 j (by omega), fr_out HW.out hF (κ' := κ') (fun j hj => hk2 j hj) hF2 hF3⟩
    · have ea : P.del s = (pcode (isName s) (plook (kl s) P.now) P.n, P) := by
        unfold PD.del
        rw [if_neg hc]
      have HE := hide2 ea
      have HK := hide2 hk
      clear ea hk
      generalize hx : pcode (isName s) (plook (kl s) P.now) P.n = x at *
      have hd : decide (x = 0) = false := by simpa using hc
      clear hx
      go_wp2
      all_goals
        go_ret
        rw [HE.out]
        exact ⟨rfl, HW.out.idle HK.out hF⟩
set_option maxHeartbeats 4000000 in
set_option maxRecDepth 100000 in
theorem ref_rename (h : RD w r κ P cut off) (hP : P.inv) (s t : ByteArray) (hs : s.size ≤ maxLen) (ht : t.size ≤ maxLen) :
    Calls Try.prog 33 #[.pointer (some ⟨r, 0, none⟩), .string s, .string t] w fun e w' => e = .returned (.int .i64 (if offed P.n cut off = true then 24 else (P.ren s t).1)) ∧ Rres w w' r κ (if offed P.n cut off = true then P else (P.ren s t).2) cut (offed P.n cut off) := by
  obtain ⟨vF, vO, vL, vN, φ, β, h⟩ := h
  have hg := hP.now
  have hl := hg.len
  have hr := ref_ready h.rk h.rN h.nr hg.txt (by omega) s t hs ht
  have HW := hide2 h
  have HP := hide2 hP
  clear h hP hg hl
  go_enter Try.func33, Try.ntmps33
  go_wp2_with fail
  refine hr.mono ?_
  rintro e w1 ⟨rfl, hk, hF, hz⟩
  clear hr
  cases ho : offed P.n cut off with
  | true =>
    rw [ho] at hk
    have er : rcode true (isName t && isName s) (plook (kl s) P.now) P.n = 24 := rfl
    rw [er]
    have HK := hide2 hk
    clear hk
    go_wp2
    all_goals
      go_ret
      exact ⟨rfl, HW.out.idle HK.out hF⟩
  | false =>
    rw [ho] at hk
    have er : rcode false (isName t && isName s) (plook (kl s) P.now) P.n = pcode (isName t && isName s) (plook (kl s) P.now) P.n := rfl
    rw [er]
    by_cases hc : pcode (isName t && isName s) (plook (kl s) P.now) P.n = 0
    · rw [hc]
      obtain ⟨hn, ⟨i, hi⟩, hop⟩ := pcode_zero hc
      have hns : isName s = true := by cases e : isName s <;> simp_all
      have hnt : isName t = true := by cases e : isName t <;> simp_all
      have hlo := HP.out.lo
      have h1 : Wd w1 r κ vF vO vL vN φ β P cut false := HW.out.blk hF hk
      have hch := ref_change h1 HP.out (.ren s t) ⟨name_some hns, name_some hnt, i, hi⟩
      have ev : chV (.ren s t) = .agg #[.string s, .string t, .int .i64 0] := rfl
      rw [ev] at hch
      have ea : P.ren s t = (0, { P with log := P.log ++ [.ren s t], n := P.n + 1 }) := by
        unfold PD.ren
        rw [if_pos hc]
      have HE := hide2 ea
      have HC := hide2 hch
      clear ea hch h1 hk hn hns hnt
      go_wp2_with fail
      refine HC.out.mono ?_
      rintro e w2 ⟨rfl, κ', vL', vN', hW2, hk2, hF2⟩
      obtain ⟨c0, c1, c2, c3, c4, c5, c6⟩ := hW2.rk.cells
      have c4' : w2.cell? ⟨r, 4, none⟩ = some (.int .i64 P.n) := c4
      have f4 := hW2.rk.free 4
      have hc63 : P.n + 1 < 9223372036854775808 := by omega
      have HW2 := hide2 hW2
      clear hW2 HC c4 c0 c1 c2 c3 c5 c6
      go_wp2
      all_goals
        go_ret
        rw [HE.out]
        obtain ⟨hW3, hF3⟩ := HW2.out.count (P.n + 1)
        exact ⟨rfl, κ', ⟨vF, vO, vL', vN', φ, β, hW3⟩, fun j hj => hk2 j (by omega), fr_out HW.out hF (κ' := κ') (fun j hj => hk2 j hj) hF2 hF3⟩
    · have ea : P.ren s t = (pcode (isName t && isName s) (plook (kl s) P.now) P.n, P) := by
        unfold PD.ren
        rw [if_neg hc]
      have HE := hide2 ea
      have HK := hide2 hk
      clear ea hk
      generalize hx : pcode (isName t && isName s) (plook (kl s) P.now) P.n = x at *
      have hd : decide (x = 0) = false := by simpa using hc
      clear hx
      go_wp2
      all_goals
        go_ret
        rw [HE.out]
        exact ⟨rfl, HW.out.idle HK.out hF⟩
end
end Go.Proofs.Ytmggmnbialacbaa

/-
  The document's own disk: what Append refuses.
-/
set_option linter.unusedVariables false
set_option linter.unusedSimpArgs false
namespace Go.Proofs.Ytmggmnbialacbaa
open Go.RowKit Go.Maps

section
variable {w w' : World} {r : Nat} {κ : Nat → Ro} {vF vO vL vN : Value} {φ : Nat → Nat} {β : Nat → Value} {P : PD} {cut : Int} {off : Bool}

set_option maxHeartbeats 2000000 in
set_option maxRecDepth 100000 in
theorem ref_app_off (h : Wd w r κ vF vO vL vN φ β P cut off) (s : ByteArray) (ao : Option Addr) (len cap : Nat) (ho : offed P.n cut off = true) :
    Calls Try.prog 29 #[.pointer (some ⟨r, 0, none⟩), .string s, .slice ao len cap] w fun e w' => e = .returned (.int .i64 24) ∧ Rres w w' r κ P cut true := by
  have hm := ref_may h.rk
  rw [ho] at hm
  have HW := hide2 h
  clear h
  go_enter Try.func29, Try.ntmps29
  go_wp2_with fail
  refine hm.mono ?_
  rintro e w1 ⟨rfl, hk, hF, hz⟩
  have HK := hide2 hk
  clear hm hk
  go_wp2
  all_goals
    go_ret
    exact ⟨rfl, HW.out.idle HK.out hF⟩

set_option maxHeartbeats 2000000 in
set_option maxRecDepth 100000 in
theorem ref_app_name (h : Wd w r κ vF vO vL vN φ β P cut off) (s : ByteArray) (hs : s.size ≤ maxLen) (ao : Option Addr) (len cap : Nat) (ho : offed P.n cut off = false) (hn : isName s = false) :
    Calls Try.prog 29 #[.pointer (some ⟨r, 0, none⟩), .string s, .slice ao len cap] w fun e w' => e = .returned (.int .i64 20) ∧ Rres w w' r κ P cut false := by
  have hm := ref_may h.rk
  rw [ho] at hm
  have HW := hide2 h
  clear h
  go_enter Try.func29, Try.ntmps29
  go_wp2_with fail
  refine hm.mono ?_
  rintro e w1 ⟨rfl, hk, hF, hz⟩
  have hi := refIsName_any s w1 hs
  rw [hn] at hi
  have HK := hide2 hk
  clear hm hk
  go_wp2_with fail
  refine hi.mono ?_
  rintro e w2 ⟨rfl, rfl⟩
  clear hi
  go_wp2
  all_goals
    go_ret
    exact ⟨rfl, HW.out.idle HK.out hF⟩

set_option maxHeartbeats 4000000 in
set_option maxRecDepth 100000 in
theorem ref_app_new (h : Wd w r κ vF vO vL vN φ β P cut off) (hP : P.inv) (s : ByteArray) (hs : s.size ≤ maxLen) (ao : Option Addr) (len cap : Nat) (hl : (len : Int) ≤ 9223372036854775807) (ho : offed P.n cut off = false) (hn : isName s = true) (hp : plook (kl s) P.now = none) (hb : 65536 ≤ P.n ∨ 262144 < len ∨ 64 ≤ P.now.length) :
    Calls Try.prog 29 #[.pointer (some ⟨r, 0, none⟩), .string s, .slice ao len cap] w fun e w' => e = .returned (.int .i64 23) ∧ Rres w w' r κ P cut false := by
  have hm := ref_may h.rk
  rw [ho] at hm
  have hg := hP.now
  have hgl := hg.len
  have hNr := h.rN
  obtain ⟨aN, cN, rfl⟩ := hNr.form
  have hne := h.nr
  have HW := hide2 h
  have HN := hide2 hNr
  have HG := hide2 hg
  clear h hg hNr
  rw [nl_len] at *
  go_enter Try.func29, Try.ntmps29
  go_wp2_with fail
  refine hm.mono ?_
  rintro e w1 ⟨rfl, hk, hF, hz⟩
  have hi := refIsName_any s w1 hs
  rw [hn] at hi
  have hN1 : Nr w1 0 (.slice aN P.now.length cN) (nl P.now) := row_any HN.out fun j e => hF.block j (World.ownsRow.lt HN.out j e).2 (hne j e)
  have hf := find_ref hN1 (by rw [nl_len]; omega) s
  rw [nl_find HG.out.txt, hp] at hf
  obtain ⟨c0, c1, c2, c3, c4, c5, c6⟩ := hk.cells
  have HK := hide2 hk
  clear hm hk hN1 HN
  go_wp2_with fail
  refine hi.mono ?_
  rintro e w2 ⟨rfl, rfl⟩
  clear hi
  go_wp2_with fail
  refine hf.mono ?_
  rintro e w2 ⟨rfl, rfl⟩
  clear hf
  by_cases b1 : 65536 ≤ P.n
  · have d1 : decide (65536 ≤ P.n) = true := by simpa using b1
    go_wp2
    all_goals
      go_ret
      exact ⟨rfl, HW.out.idle HK.out hF⟩
  have d1 : decide (65536 ≤ P.n) = false := by simpa using b1
  by_cases b2 : 262144 < len
  · have d2 : decide ((262144 : Int) < (len : Int)) = true := by simp; omega
    have d2' : decide (262144 < len) = true := by simp; omega
    have i2 : (262144 : Int) < (len : Int) := by omega
    go_wp2
    all_goals
      go_ret
      exact ⟨rfl, HW.out.idle HK.out hF⟩
  have d2 : decide ((262144 : Int) < (len : Int)) = false := by simp; omega
  have d2' : decide (262144 < len) = false := by simp; omega
  have i2 : ¬ (262144 : Int) < (len : Int) := by omega
  have b3 : 64 ≤ P.now.length := by omega
  have d3 : decide ((64 : Int) ≤ (P.now.length : Int)) = true := by simp; omega
  have d3' : decide (64 ≤ P.now.length) = true := by simp; omega
  have i3 : (64 : Int) ≤ (P.now.length : Int) := by omega
  go_wp2
  all_goals
    go_ret
    exact ⟨rfl, HW.out.idle HK.out hF⟩

set_option maxHeartbeats 4000000 in
set_option maxRecDepth 100000 in
theorem ref_app_old (h : Wd w r κ vF vO vL vN φ β P cut off) (hP : P.inv) (s : ByteArray) (hs : s.size ≤ maxLen) (ao : Option Addr) (len cap : Nat) (hl : (len : Int) ≤ 9223372036854775807) (ho : offed P.n cut off = false) (hn : isName s = true) (i : Nat) (hp : plook (kl s) P.now = some i) (hb : 65536 ≤ P.n ∨ 262144 < len + (P.at i).1.length) :
    Calls Try.prog 29 #[.pointer (some ⟨r, 0, none⟩), .string s, .slice ao len cap] w fun e w' => e = .returned (.int .i64 23) ∧ Rres w w' r κ P cut false := by
  have hm := ref_may h.rk
  rw [ho] at hm
  have hg := hP.now
  have hgl := hg.len
  obtain ⟨a1, a2, a3, a4⟩ := hP.at hp
  have hil := (List.getElem?_eq_some_iff.1 a1).1
  have HW := hide2 h
  have HG := hide2 hg
  clear h hg
  go_enter Try.func29, Try.ntmps29
  go_wp2_with fail
  refine hm.mono ?_
  rintro e w1 ⟨rfl, hk, hF, hz⟩
  have h1 := HW.out.blk hF hk
  have hN1 := h1.rN
  have hi := refIsName_any s w1 hs
  rw [hn] at hi
  have hf := find_ref hN1 (by rw [nl_len]; exact Nat.le_trans hgl (by decide)) s
  rw [nl_find (D := P.now) HG.out.txt, hp] at hf
  replace hf : Calls Try.prog 58 #[vN, .string s] w1 fun e w' => e = .returned (.int .i64 (i : Int)) ∧ w' = w1 := hf
  obtain ⟨g, capF, rfl, hcell, hkg⟩ := h1.files (i := i) hil
  unfold rpt at hcell
  obtain ⟨b1, b2, b3, b4⟩ := h1.fil i _ a1
  obtain ⟨ab, lb, capb, hbv, hsl, _⟩ := b3.sl' a2
  have hlb : lb = (P.at i).1.length := hsl.1.symm
  rw [hbv] at b1
  obtain ⟨q0, q1⟩ := b1.cells
  obtain ⟨c0, c1, c2, c3, c4, c5, c6⟩ := hk.cells
  have hii : (i : Int) < (P.fil.length : Int) := by omega
  have hlb2 : lb ≤ 262144 := by omega
  have hi0 : ¬ (i : Int) < 0 := by omega
  have hi0d : decide ((i : Int) < 0) = false := by simp
  have hi0e : decide (0 ≤ (i : Int)) = true := by simp
  have HK := hide2 hk
  rw [← hlb] at hb
  clear hm hk hN1 h1 b1 b2 b3 b4 a1 a2 a3 a4 hsl hlb hbv
  go_wp2_with fail
  refine hi.mono ?_
  rintro e w2 ⟨rfl, rfl⟩
  clear hi
  go_wp2_with fail
  refine hf.mono ?_
  rintro e w2 ⟨rfl, rfl⟩
  clear hf
  by_cases b1 : 65536 ≤ P.n
  · have d1 : decide (65536 ≤ P.n) = true := by simpa using b1
    go_wp2
    all_goals
      go_ret
      exact ⟨rfl, HW.out.idle HK.out hF⟩
  have d1 : decide (65536 ≤ P.n) = false := by simpa using b1
  have b2 : 262144 < len + lb := by omega
  have d2 : decide ((262144 : Int) - (lb : Int) < (len : Int)) = true := by simp; omega
  have i2 : (262144 : Int) - (lb : Int) < (len : Int) := by omega
  go_wp2
  all_goals
    go_ret
    exact ⟨rfl, HW.out.idle HK.out hF⟩
end
end Go.Proofs.Ytmggmnbialacbaa

/-
  The document's own disk: Append to a file that is there.
-/
set_option linter.unusedVariables false
set_option linter.unusedSimpArgs false
namespace Go.Proofs.Ytmggmnbialacbaa
open Go.RowKit Go.Maps

/-- An append in a region that draws, by its equation. -/
theorem step_append_eq {P : Program} {ops : Array Oper} {o : Oper} {a : Act} {w : World} {K : Act → World → Prop} {Q : Exit → Act → World → Prop} {E : Prop}
    (hg : o.guard = none) (s x : Operand) (t : TypeId) (hop : o.op = Op.call { callee := Callee.builtin Builtin.append, args := #[s, x], argTypes := #[t, t] })
    (v u v' : Value) (w' : World) (hs : a.eval s = v) (hx : a.eval x = u) (hrun : (Builtin.append_ #[t, t] o.type #[v, u]).run P w = .ok v' w') (hK : K (a.put o.dst v') w') :
    if Region.wanted o (yielded ops a.tmps) = true then Oper.wp P o a w K Q else E := by
  have hw : Region.wanted o (yielded ops a.tmps) = true := by simp [Region.wanted, hg]
  rw [if_pos hw]
  unfold Oper.wp
  simp [execOp, hop, resolve, invoke, builtin, hs, hx, hrun, Result.andThen]
  exact hK

section
variable {w w' : World} {r : Nat} {κ : Nat → Ro} {vF vO vL vN : Value} {φ : Nat → Nat} {β : Nat → Value} {P : PD} {cut : Int} {off : Bool}

/-- A file has grown. -/
theorem Wd.grew (h : Wd w r κ vF vO vL vN φ β P cut off) {i : Nat} (hi : i < P.fil.length) {y : List Int × Nat} (hy : P.fil[i]? = some y) {v' : Value} {ys : List Int} (ho : Own w' 0 v' ys) (F : Fr (fun j => j = r ∨ j = φ i ∨ (β i).ownBlock = some j) w w')
    (hat : v'.ownBlock = (β i).ownBlock ∨ ∃ g, v'.ownBlock = some g ∧ w.heap.size ≤ g) (hfl : RFl w' (φ i) v' y.2) {n' : Int} (hk : Rk w' r vF vO vL vN n' cut off) : Rres w w' r κ { P with fil := P.fil.set i (ys, y.2), n := n' } cut off := by
  obtain ⟨b1, b2, b3, b4⟩ := h.fil i y hy
  have sm : Sm κ (fun x => x = .dsk ∨ x = .fl i ∨ x = .byt i) w w' := ⟨F.size, fun j hj hn => F.block j hj fun e => hn (by
    rcases e with e | e | e
    · rw [e, h.kr]; exact .inl rfl
    · rw [e, b2]; exact .inr (.inl rfl)
    · rw [b4 j e]; exact .inr (.inr rfl))⟩
  have hlen : (P.fil.set i (ys, y.2)).length = P.fil.length := by simp
  -- whose the blocks are now
  obtain ⟨κ', hκ⟩ : ∃ κ' : Nat → Ro, κ' = fun j => if v'.ownBlock = some j then .byt i else κ j := ⟨_, rfl⟩
  have o1 : ∀ j, j < w.heap.size → κ' j = κ j := fun j hj => by
    rw [hκ]
    show (if v'.ownBlock = some j then Ro.byt i else κ j) = κ j
    by_cases e : v'.ownBlock = some j
    · rw [if_pos e]
      rcases hat with e2 | ⟨g, e2, hg⟩
      · rw [e2] at e
        exact (b4 j e).symm
      · rw [e2] at e
        cases e
        omega
    · rw [if_neg e]
  have o2 : ∀ g, v'.ownBlock = some g → κ' g = .byt i := fun g e => by
    rw [hκ]
    show (if v'.ownBlock = some g then Ro.byt i else κ g) = _
    rw [if_pos e]
  have lt : ∀ g, κ g ≠ .out → κ' g = κ g := fun g hg => o1 g (h.frs g hg)
  refine ⟨κ', ⟨vF, vO, vL, vN, φ, fun k => if k = i then v' else β k, hk, ?_, ?_, ?_, h.oO sm (by simp), ?_, h.oL sm (by simp), ?_, h.oN sm (by simp), ?_, fun k x hx => ?_, fun g hg => ?_⟩, o1, F.mono fun j _ e => ?_⟩
  · rw [lt r (by rw [h.kr]; exact Ro.noConfusion), h.kr]
  · show World.ownsRow _ 0 _ 1 _ (P.fil.set i (ys, y.2)).length ((List.range (P.fil.set i (ys, y.2)).length).map _)
    rw [hlen]
    exact h.oF sm (by simp)
  · intro g e
    rw [lt g (by rw [h.kF g e]; exact Ro.noConfusion), h.kF g e]
  · intro g e
    rw [lt g (by rw [h.kO g e]; exact Ro.noConfusion), h.kO g e]
  · intro g e
    rw [lt g (by rw [h.kL g e]; exact Ro.noConfusion), h.kL g e]
  · intro g e
    rw [lt g (by rw [h.kN g e]; exact Ro.noConfusion), h.kN g e]
  · have hx' : (P.fil.set i (ys, y.2))[k]? = some x := hx
    by_cases e : k = i
    · subst e
      rw [List.getElem?_set, if_pos rfl, if_pos hi] at hx'
      cases hx'
      simp only [if_true]
      exact ⟨hfl, by rw [lt _ (by rw [b2]; exact Ro.noConfusion)]; exact b2, ho, o2⟩
    · rw [List.getElem?_set, if_neg (Ne.symm e)] at hx'
      simp only [e, if_false]
      obtain ⟨d1, d2, d3, d4⟩ := h.oFil sm k x hx' (by simp [e]) (by simp [e])
      exact ⟨d1, by rw [lt _ (by rw [d2]; exact Ro.noConfusion)]; exact d2, d3, fun g eg => by rw [lt g (by rw [d4 g eg]; exact Ro.noConfusion)]; exact d4 g eg⟩
  · by_cases e : v'.ownBlock = some g
    · exact (World.ownsRow.lt ho g e).2
    · have e2 : κ' g = κ g := by
        rw [hκ]
        show (if v'.ownBlock = some g then Ro.byt i else κ g) = _
        rw [if_neg e]
      rw [e2] at hg
      exact Nat.lt_of_lt_of_le (h.frs g hg) F.size
  · rcases e with e | e | e
    · rw [e, h.kr]; exact Ro.noConfusion
    · rw [e, b2]; exact Ro.noConfusion
    · rw [b4 j e]; exact Ro.noConfusion

/-- 'append(v, x...)' of bytes onto an own row, as an equation. -/
theorem own_append {w : World} {v : Value} {xs : List Int} (hown : Own w 0 v xs) {ao : Option Addr} {len cap : Nat} {ys : List Int} (hsl : Sl w ao len cap ys) (ty : TypeId) (hlen : xs.length + len ≤ 140737488355328) (hb : Byt xs) :
    ∃ a' l' c' W, (Builtin.append_ #[32, 32] ty #[v, .slice ao len cap]).run Try.prog w = .ok (.slice a' l' c') W ∧ Own W 0 (.slice a' l' c') (xs ++ ys) ∧ w.grownBy W v.ownBlock ∧
      ((Value.slice a' l' c').ownBlock = v.ownBlock ∨ (Value.slice a' l' c').ownBlock = some w.heap.size) := by
  obtain ⟨i0, hi, hz0, hz1, hz2⟩ := info_parts Try.info5
  have hyb := hsl.2.2.2.1
  obtain ⟨h1, h2, h3, h4, h5, h6⟩ := hsl
  cases ao with
  | none =>
    obtain ⟨rfl, rfl⟩ := h5 rfl
    obtain rfl : ys = [] := List.eq_nil_of_length_eq_zero h1
    obtain ⟨a', l', c', rfl, _⟩ := hown.sl' hb
    exact ⟨a', l', c', w, run_append_owned_none (P := Try.prog) (w := w) 0 32 ty 5 i0 1 Try.underlying32 hi _ _ _ hown, by simpa using hown, World.grownBy.refl _ _, .inl rfl⟩
  | some ad =>
    obtain ⟨v', W, hr, ho, hg, _, hat⟩ := run_append_own_at (P := Try.prog) w 0 32 ty 5 i0 (.int .u8 0) 1 1 Try.underlying32 hi hz0 hz1 hz2 rfl (by decide) v xs.length (bc xs) hown ad len cap (bc ys) (by rw [bc_length]; omega) (fun j u hj => by
      obtain ⟨hj1, rfl⟩ := bc_get ys j u hj
      obtain ⟨b, off, e, _, hc⟩ := h6 (by omega)
      obtain rfl : ad = ⟨b, off, none⟩ := by simpa using e
      rw [addr_add]
      exact hc j (by omega)) (bc_one ys) (by unfold maxLen; omega) (by omega) (Nat.zero_le _)
    have ho2 : Own W 0 v' (xs ++ ys) := Own.of_bc (n := xs.length + len) (by rw [bc_append]; exact ho) (by simp; omega)
    obtain ⟨a', l', c', rfl, _⟩ := ho2.sl' (hb.append hyb)
    exact ⟨a', l', c', W, hr, ho2, hg, hat⟩

set_option maxHeartbeats 4000000 in
set_option maxRecDepth 100000 in
theorem ref_app_into (h : Wd w r κ vF vO vL vN φ β P cut off) (hP : P.inv) (s : ByteArray) (hs : s.size ≤ maxLen) (ao : Option Addr) (len cap : Nat) (xs : List Int) (hsl : Sl w ao len cap xs) (hout : 0 < len → ∀ b o, ao = some ⟨b, o, none⟩ → κ b = .out) (ho : offed P.n cut off = false) (hn : isName s = true) (i : Nat) (hp : plook (kl s) P.now = some i) (hb : ¬ (65536 ≤ P.n ∨ 262144 < len + (P.at i).1.length)) :
    Calls Try.prog 29 #[.pointer (some ⟨r, 0, none⟩), .string s, .slice ao len cap] w fun e w' => e = .returned (.int .i64 0) ∧ Rres w w' r κ { P with fil := P.fil.set i ((P.at i).1 ++ xs, (P.at i).2), n := P.n + 1 } cut false := by
  have hm := ref_may h.rk
  rw [ho] at hm
  have hg := hP.now
  have hgl := hg.len
  have hlo := hP.lo
  have hl : (len : Int) ≤ 262144 := by omega
  obtain ⟨a1, a2, a3, a4⟩ := hP.at hp
  have hil := (List.getElem?_eq_some_iff.1 a1).1
  have HW := hide2 h
  have HG := hide2 hg
  clear h hg
  go_enter Try.func29, Try.ntmps29
  go_wp2_with fail
  refine hm.mono ?_
  rintro e w1 ⟨rfl, hk, hF, hz⟩
  have h1 := HW.out.blk hF hk
  have hN1 := h1.rN
  have hi := refIsName_any s w1 hs
  rw [hn] at hi
  have hf := find_ref hN1 (by rw [nl_len]; exact Nat.le_trans hgl (by decide)) s
  rw [nl_find (D := P.now) HG.out.txt, hp] at hf
  replace hf : Calls Try.prog 58 #[vN, .string s] w1 fun e w' => e = .returned (.int .i64 (i : Int)) ∧ w' = w1 := hf
  obtain ⟨g, capF, rfl, hcell, hkg⟩ := h1.files (i := i) hil
  unfold rpt at hcell
  obtain ⟨b1, b2, b3, b4⟩ := h1.fil i _ a1
  obtain ⟨ab, lb, capb, hbv, hslb, _⟩ := b3.sl' a2
  have hlb : lb = (P.at i).1.length := hslb.1.symm
  have hsl1 : Sl w1.drew ao len cap xs := by
    obtain ⟨x1, x2, x3, x4, x5, x6⟩ := hsl
    refine ⟨x1, x2, x3, x4, x5, fun hl => ?_⟩
    obtain ⟨b, o, e, hlt, hc⟩ := x6 hl
    have hbr : b ≠ r := fun e2 => by
      have := hout hl b o e
      rw [e2, HW.out.kr] at this
      cases this
    refine ⟨b, o, e, Nat.lt_of_lt_of_le hlt hF.size, fun j hj => ?_⟩
    exact (World.cell?_of_block (w := w) (w' := w1.drew) (hF.block b hlt hbr)).trans (hc j hj)
  obtain ⟨av, lv, cv, W, hap, hownW, hgr, hat⟩ := own_append (w := w1.drew) (v := β i) (xs := (P.at i).1) b3 hsl1 32 (by omega) a2
  have hbb : ∀ j, (β i).ownBlock = some j → κ j = .byt i := b4
  have nfr : φ i ≠ r := fun e => by
    rw [e, HW.out.kr] at b2
    cases b2
  have nfb : some (φ i) ≠ (β i).ownBlock := fun e => by
    have := hbb _ e.symm
    rw [b2] at this
    cases this
  have nrb : some r ≠ (β i).ownBlock := fun e => by
    have := hbb _ e.symm
    rw [HW.out.kr] at this
    cases this
  have flW : RFl W (φ i) (β i) (P.at i).2 := (hgr.block (φ i) b1.lt nfb).trans b1
  have kW : Rk W r (.slice (some ⟨g, 0, none⟩) P.fil.length capF) vO vL vN P.n cut false := hk.same (hgr.block r hk.lt nrb)
  have qW0 := flW.cells.1
  have qWf := flW.free 0
  have fl3 : RFl (W.setCell ⟨φ i, 0, none⟩ (.slice av lv cv)) (φ i) (.slice av lv cv) (P.at i).2 := by
    have := Go.Joins.block_setCell (i := 0) flW (.slice av lv cv)
    exact this
  have k3 : Rk (W.setCell ⟨φ i, 0, none⟩ (.slice av lv cv)) r (.slice (some ⟨g, 0, none⟩) P.fil.length capF) vO vL vN P.n cut false := kW.same (Below.heap_setCell _ _ _ _ (by simpa using nfr.symm))
  have c34 := k3.cells.2.2.2.2.1
  have f34 := k3.free 4
  have k4 := k3.set.2.2.2.2.1 (P.n + 1)
  have fl4 : RFl ((W.setCell ⟨φ i, 0, none⟩ (.slice av lv cv)).setCell ⟨r, 4, none⟩ (.int .i64 (P.n + 1))) (φ i) (.slice av lv cv) (P.at i).2 := (Below.heap_setCell _ _ _ _ (by simpa using nfr)).trans fl3
  have ne1 : ∀ j, (Value.slice av lv cv).ownBlock = some j → j ≠ φ i ∧ j ≠ r := fun j e => by
    rcases hat with e2 | e2
    · rw [e2] at e
      exact ⟨fun q => nfb (by rw [← q, e]), fun q => nrb (by rw [← q, e])⟩
    · rw [e2] at e
      cases e
      have hq1 := b1.lt
      have hq2 := hk.lt
      exact ⟨fun q => by have : w1.drew.heap.size = w1.heap.size := rfl; omega, fun q => by have : w1.drew.heap.size = w1.heap.size := rfl; omega⟩
  have own4 : Own ((W.setCell ⟨φ i, 0, none⟩ (.slice av lv cv)).setCell ⟨r, 4, none⟩ (.int .i64 (P.n + 1))) 0 (.slice av lv cv) ((P.at i).1 ++ xs) := row_any hownW fun j e => (Below.heap_setCell _ _ _ _ (by simpa using (ne1 j e).2)).trans (Below.heap_setCell _ _ _ _ (by simpa using (ne1 j e).1))
  have F4 : Fr (fun j => j = r ∨ j = φ i ∨ (β i).ownBlock = some j) w1 ((W.setCell ⟨φ i, 0, none⟩ (.slice av lv cv)).setCell ⟨r, 4, none⟩ (.int .i64 (P.n + 1))) :=
    Fr.setCell (p := ⟨r, 4, none⟩) (Fr.setCell (p := ⟨φ i, 0, none⟩) (Fr.grown (w := w1) (w' := W) (row := (β i).ownBlock) ⟨hgr.os, hgr.tape, hgr.output, hgr.size, hgr.block⟩ (fun j e => .inr (.inr e))) (.inl (.inr (.inl rfl))) _) (.inl (.inl rfl)) _
  have hres := h1.grew (i := i) hil a1 own4 F4 (by
    rcases hat with e2 | e2
    · exact .inl e2
    · exact .inr ⟨_, e2, Nat.le_refl _⟩) fl4 k4
  have hfin : Rres w ((W.setCell ⟨φ i, 0, none⟩ (.slice av lv cv)).setCell ⟨r, 4, none⟩ (.int .i64 (P.n + 1))) r κ { P with fil := P.fil.set i ((P.at i).1 ++ xs, (P.at i).2), n := P.n + 1 } cut false := by
    obtain ⟨κ', q1, q2, q3⟩ := hres
    refine ⟨κ', q1, fun j hj => q2 j (by omega), ?_⟩
    exact (hF.mono (G := fun j => κ j ≠ .out) fun j _ e => by rw [e, HW.out.kr]; exact Ro.noConfusion).trans q3 (fun j e => .inl e)
  have HFin := hide2 hfin
  have hglt : g < w1.heap.size := by
    have := World.block_lt_of_cell? w1 _ hcell
    exact this
  have ngb : some g ≠ (β i).ownBlock := fun e => by
    have := hbb _ e.symm
    rw [hkg] at this
    cases this
  have hcellW : W.cell? ⟨g, i, none⟩ = some (.pointer (some ⟨φ i, 0, none⟩)) := (World.cell?_of_block (w := w1) (w' := W) (hgr.block g hglt ngb)).trans hcell
  obtain ⟨cW0, -, -, -, cW4, -, -⟩ := kW.cells
  obtain ⟨q0, q1⟩ := (hbv ▸ b1).cells
  obtain ⟨c0, c1, c2, c3, c4, c5, c6⟩ := hk.cells
  have hii : (i : Int) < (P.fil.length : Int) := by omega
  have hi0 : ¬ (i : Int) < 0 := by omega
  have hi0d : decide ((i : Int) < 0) = false := by simp
  have hi0e : decide (0 ≤ (i : Int)) = true := by simp
  rw [hbv] at hap qW0
  have d1 : decide (65536 ≤ P.n) = false := by simp; omega
  have i1 : ¬ 65536 ≤ P.n := by omega
  have d2 : decide ((262144 : Int) - (lb : Int) < (len : Int)) = false := by simp; omega
  have i2 : ¬ (262144 : Int) - (lb : Int) < (len : Int) := by omega
  have hlb2 : (lb : Int) ≤ 262144 := by omega
  have hP64 : P.n + 1 ≤ 9223372036854775807 := by omega
  clear hm hk hN1 h1 b1 b2 b3 b4 a1 a2 a3 a4 hslb hlb hsl1 hownW hgr hat flW kW fl3 k3 k4 fl4 ne1 own4 F4 hres hfin nfr nfb nrb hbb hbv hsl hout hb ngb hglt
  go_wp2_with fail
  refine hi.mono ?_
  rintro e w2 ⟨rfl, rfl⟩
  clear hi
  go_wp2_with fail
  refine hf.mono ?_
  rintro e w2 ⟨rfl, rfl⟩
  clear hf
  have HAP := hide2 hap
  clear hap
  go_wp2
  go_region_law (refine step_append_eq (by rfl) _ _ _ (by rfl) (.slice ab lb capb) (.slice ao len cap) (.slice av lv cv) W (by rfl) (by rfl) HAP.out ?_)
  all_goals
    go_wp2
    go_ret
    exact ⟨rfl, HFin.out⟩
end
end Go.Proofs.Ytmggmnbialacbaa

/-
  The document's own disk: a file is made.
-/
set_option linter.unusedVariables false
set_option linter.unusedSimpArgs false
namespace Go.Proofs.Ytmggmnbialacbaa
open Go.RowKit Go.Maps

section
variable {w w' : World} {r : Nat} {κ : Nat → Ro} {vF vO vL vN : Value} {φ : Nat → Nat} {β : Nat → Value} {P : PD} {cut : Int} {off : Bool}

/-- A file is made, with nothing in it. -/
theorem Wd.made (h : Wd w r κ vF vO vL vN φ β P cut off) {f : Nat} {vF' : Value} (hf : w.heap.size ≤ f) (hfl : RFl w' f (.slice none 0 0) 0) (hrow : w'.ownsRow 0 95 1 vF' (P.fil.length + 1) (((List.range P.fil.length).map fun i => rpt (φ i)) ++ [rpt f]))
    (F : Fr (fun j => j = r ∨ vF.ownBlock = some j) w w') (hat : vF'.ownBlock = vF.ownBlock ∨ ∃ g, vF'.ownBlock = some g ∧ w.heap.size ≤ g) (hne : vF'.ownBlock ≠ some f) (hk : Rk w' r vF' vO vL vN P.n cut off) :
    ∃ κ' φ' β', Wd w' r κ' vF' vO vL vN φ' β' { P with fil := P.fil ++ [([], 0)] } cut off ∧ φ' P.fil.length = f ∧ β' P.fil.length = .slice none 0 0 ∧ (∀ j, j < w.heap.size → κ' j = κ j) ∧ Fr (fun j => κ j ≠ .out) w w' := by
  have sm : Sm κ (fun x => x = .dsk ∨ x = .fs) w w' := ⟨F.size, fun j hj hn => F.block j hj fun e => hn (by
    rcases e with e | e
    · rw [e, h.kr]; exact .inl rfl
    · rw [h.kF j e]; exact .inr rfl)⟩
  obtain ⟨κ', hκ⟩ : ∃ κ' : Nat → Ro, κ' = fun j => if j = f then .fl P.fil.length else if vF'.ownBlock = some j then .fs else κ j := ⟨_, rfl⟩
  have o1 : ∀ j, j < w.heap.size → κ' j = κ j := fun j hj => by
    rw [hκ]
    show (if j = f then Ro.fl P.fil.length else if vF'.ownBlock = some j then Ro.fs else κ j) = κ j
    rw [if_neg (by omega)]
    by_cases e : vF'.ownBlock = some j
    · rw [if_pos e]
      rcases hat with e2 | ⟨g, e2, hg⟩
      · rw [e2] at e
        exact (h.kF j e).symm
      · rw [e2] at e
        cases e
        omega
    · rw [if_neg e]
  have o2 : ∀ g, vF'.ownBlock = some g → κ' g = .fs := fun g e => by
    rw [hκ]
    show (if g = f then Ro.fl P.fil.length else if vF'.ownBlock = some g then Ro.fs else κ g) = _
    rw [if_neg (fun q => hne (by rw [e, q])), if_pos e]
  have o3 : κ' f = .fl P.fil.length := by
    rw [hκ]
    show (if f = f then Ro.fl P.fil.length else _) = _
    rw [if_pos rfl]
  have lt : ∀ g, κ g ≠ .out → κ' g = κ g := fun g hg => o1 g (h.frs g hg)
  have hlen : (P.fil ++ [(([] : List Int), 0)]).length = P.fil.length + 1 := by simp
  refine ⟨κ', fun k => if k = P.fil.length then f else φ k, fun k => if k = P.fil.length then .slice none 0 0 else β k, ⟨hk, ?_, ?_, o2, h.oO sm (by simp), ?_, h.oL sm (by simp), ?_, h.oN sm (by simp), ?_, fun k x hx => ?_, fun g hg => ?_⟩, by simp, by simp, o1, F.mono fun j _ e => ?_⟩
  · rw [lt r (by rw [h.kr]; exact Ro.noConfusion), h.kr]
  · show World.ownsRow _ 0 _ 1 _ (P.fil ++ [(([] : List Int), 0)]).length ((List.range (P.fil ++ [(([] : List Int), 0)]).length).map _)
    rw [hlen, List.range_succ, List.map_append]
    have e1 : (List.range P.fil.length).map (fun i => rpt (if i = P.fil.length then f else φ i)) = (List.range P.fil.length).map fun i => rpt (φ i) := by
      apply List.map_congr_left
      intro i hi
      have := List.mem_range.1 hi
      rw [if_neg (by omega)]
    rw [e1]
    simpa using hrow
  · intro g e
    rw [lt g (by rw [h.kO g e]; exact Ro.noConfusion), h.kO g e]
  · intro g e
    rw [lt g (by rw [h.kL g e]; exact Ro.noConfusion), h.kL g e]
  · intro g e
    rw [lt g (by rw [h.kN g e]; exact Ro.noConfusion), h.kN g e]
  · have hx' : (P.fil ++ [(([] : List Int), 0)])[k]? = some x := hx
    by_cases e : k = P.fil.length
    · subst e
      rw [List.getElem?_append_right (Nat.le_refl _), Nat.sub_self] at hx'
      simp only [List.getElem?_cons_zero, Option.some.injEq] at hx'
      subst hx'
      simp only [if_true]
      exact ⟨hfl, o3, World.ownsRow_nil _ _ _ _, fun g e => by cases e⟩
    · have hkl : k < P.fil.length := by
        have := (List.getElem?_eq_some_iff.1 hx').1
        rw [hlen] at this
        omega
      rw [List.getElem?_append_left hkl] at hx'
      simp only [e, if_false]
      obtain ⟨d1, d2, d3, d4⟩ := h.oFil sm k x hx' (by simp) (by simp)
      exact ⟨d1, by rw [lt _ (by rw [d2]; exact Ro.noConfusion)]; exact d2, d3, fun g eg => by rw [lt g (by rw [d4 g eg]; exact Ro.noConfusion)]; exact d4 g eg⟩
  · by_cases e0 : g = f
    · rw [e0]; exact hfl.lt
    · by_cases e : vF'.ownBlock = some g
      · exact (World.ownsRow.lt hrow g e).2
      · have e2 : κ' g = κ g := by
          rw [hκ]
          show (if g = f then Ro.fl P.fil.length else if vF'.ownBlock = some g then Ro.fs else κ g) = _
          rw [if_neg e0, if_neg e]
        rw [e2] at hg
        exact Nat.lt_of_lt_of_le (h.frs g hg) F.size
  · rcases e with e | e
    · rw [e, h.kr]; exact Ro.noConfusion
    · rw [h.kF j e]; exact Ro.noConfusion
end
end Go.Proofs.Ytmggmnbialacbaa

/-
  The document's own disk: a change, with less asked of the disk.
-/
set_option linter.unusedVariables false
set_option linter.unusedSimpArgs false
namespace Go.Proofs.Ytmggmnbialacbaa
open Go.RowKit Go.Maps

set_option maxHeartbeats 4000000 in
set_option maxRecDepth 100000 in
theorem ref_change2 {w : World} {r : Nat} {κ : Nat → Ro} {vF vO vL vN : Value} {φ : Nat → Nat} {β : Nat → Value} {P : PD} {cut : Int} {off : Bool} (h : Wd w r κ vF vO vL vN φ β P cut off) (hn1 : (P.log.length : Int) ≤ P.n) (hn2 : P.n ≤ 65536) {L : Nat} (hg : Dgood P.now L) (c : PC) (hc : c.fits P.now) :
    Calls Try.prog 59 #[.pointer (some ⟨r, 0, none⟩), chV c] w fun e w' => e = .returned (.tuple #[]) ∧ ∃ κ' vL' vN', Wd w' r κ' vF vO vL' vN' φ β { P with log := P.log ++ [c] } cut off ∧ (∀ j, j < w.heap.size → κ' j = κ j) ∧ Fr (fun j => κ j ≠ .out) w w' := by
  obtain ⟨i0, hi, hz0, hz1, hz2⟩ := info_parts infoCh
  have hlt := h.rk.lt
  have hrl := h.rL
  have HW := hide2 h
  have hsr : some r ≠ vL.ownBlock := fun e => by
    have := h.kL r e.symm
    rw [h.kr] at this
    cases this
  obtain ⟨x, y, i, ev, ec⟩ := ch_form c
  have hw1 : Rk (w.alloc (.cells #[.string x, .string y, .int .i64 i] 98)) r vF vO vL vN P.n cut off := h.rk.same (Below.heap_alloc _ _ r hlt)
  have hb1 := heap_alloc_new w (.cells #[.string x, .string y, .int .i64 i] 98)
  obtain ⟨c0, c1, c2, c3, c4, c5, c6⟩ := hw1.cells
  have f2 := hw1.free 2
  have HEC := hide2 ec
  have HEV := hide2 ev
  have hD := hg.txt
  have hDl : P.now.length ≤ 100000 := Nat.le_trans hg.len (by decide)
  have hch : ∀ W, Nr W 0 vN (nl P.now) → Calls Try.prog 62 #[vN, .agg #[.string x, .string y, .int .i64 i]] W fun e w' => ∃ v', e = .returned v' ∧ Nr w' W.heap.size v' (nl (c.run P.now)) ∧ Below W.heap.size W w' := fun W hN => by
    have := changed_ref hN hD hDl c hc
    rw [ev] at this
    exact this
  have hnw : ∀ j u, [Value.string x, .string y, .int .i64 i][j]? = some u → ((w.alloc (.cells #[.string x, .string y, .int .i64 i] 98)).alloc (.cells #[.string x, .string y, .int .i64 i] 98)).cell? ((⟨w.heap.size + 1, 0, none⟩ : Addr).add j) = some u := fun j u hj => by
    have := cell_three_new (w.alloc (.cells #[.string x, .string y, .int .i64 i] 98)) _ _ _ 98 j u hj
    simpa using this
  have HCH := hide2 hch
  have HNW := hide2 hnw
  rw [ev]
  clear h hg ec ev hch hnw hc hD hDl
  have hb0 : (w.alloc (.cells #[.string x, .string y, .int .i64 i] 98)).cell? ⟨w.heap.size, 0, none⟩ = some (.string x) := by rw [Go.Joins.cell_of_block hb1]; rfl
  have hb2 : (w.alloc (.cells #[.string x, .string y, .int .i64 i] 98)).cell? ⟨w.heap.size, 1, none⟩ = some (.string y) := by rw [Go.Joins.cell_of_block hb1]; rfl
  have hb3 : (w.alloc (.cells #[.string x, .string y, .int .i64 i] 98)).cell? ⟨w.heap.size, 2, none⟩ = some (.int .i64 i) := by rw [Go.Joins.cell_of_block hb1]; rfl
  have hbL : ∀ j, vL.ownBlock = some j → j < w.heap.size := fun j e => (hrl.lt j e).2
  go_enter Try.func59, Try.ntmps59
  go_wp2
  go_region_law ((refine step_append_lies _ (by rfl) _ _ _ (by rfl) 0 98 i0 (.agg #[.string .empty, .string .empty, .int .i64 0]) 3 40 Try.underlying64 hi hz0 hz1 hz2 rfl (by decide) vL P.log.length (P.log.flatMap chC) (by rfl) (row_any hrl fun j e => (Below.heap_alloc _ _ j (by have := (hrl.lt j e).2; simp; omega)).trans (Below.heap_alloc w _ j (hrl.lt j e).2)) ⟨w.heap.size + 1, 0, none⟩ 1 1 [.string x, .string y, .int .i64 i] (by rfl) rfl HNW.out (by intro u hu; simp at hu; rcases hu with rfl | rfl | rfl <;> rfl) (by decide) (by unfold maxLen; omega) (by omega) (Nat.zero_le _) (w.heap.size + 2) (by simp) ?_; intro g cap w2 hown hgrow hat hlt2; have k2 : Rk w2 r vF vO vL vN P.n cut off := hw1.same ((hgrow.block r (by simp; omega) hsr).trans (Below.heap_alloc _ _ r (by simp; omega))); have q2 := k2.cells.2.2.1; have q6 := k2.free 2))
  all_goals
    have hz2' := hgrow.size
    have e2 : w2.heap[w.heap.size]? = some (.cells #[.string x, .string y, .int .i64 i] 98 (0, 0)) := (hgrow.block w.heap.size (by simp; omega) (fun e => by have := hbL _ e.symm; omega)).trans ((Below.heap_alloc _ _ _ (by simp)).trans hb1)
    have k3 : Rk (w2.setCell ⟨r, 2, none⟩ (.slice (some ⟨g, 0, none⟩) (P.log.length + 1) cap)) r vF vO (.slice (some ⟨g, 0, none⟩) (P.log.length + 1) cap) vN P.n cut off := k2.set.2.2.1 _
    have e3 : (w2.setCell ⟨r, 2, none⟩ (.slice (some ⟨g, 0, none⟩) (P.log.length + 1) cap)).heap[w.heap.size]? = some (.cells #[.string x, .string y, .int .i64 i] 98 (0, 0)) := (Below.heap_setCell _ _ _ _ (by show w.heap.size ≠ r; omega)).trans e2
    have a0 : (w2.setCell ⟨r, 2, none⟩ (.slice (some ⟨g, 0, none⟩) (P.log.length + 1) cap)).cell? ⟨w.heap.size, 0, none⟩ = some (.string x) := by rw [Go.Joins.cell_of_block e3]; rfl
    have a1 : (w2.setCell ⟨r, 2, none⟩ (.slice (some ⟨g, 0, none⟩) (P.log.length + 1) cap)).cell? ⟨w.heap.size, 1, none⟩ = some (.string y) := by rw [Go.Joins.cell_of_block e3]; rfl
    have a2 : (w2.setCell ⟨r, 2, none⟩ (.slice (some ⟨g, 0, none⟩) (P.log.length + 1) cap)).cell? ⟨w.heap.size, 2, none⟩ = some (.int .i64 i) := by rw [Go.Joins.cell_of_block e3]; rfl
    have a3 := k3.cells.2.2.2.1
    have hgr : g ≠ r := fun e => by
      rcases hat with e3 | e3
      · exact hsr (by rw [e3, e])
      · omega
    have sz3 : (w2.setCell ⟨r, 2, none⟩ (.slice (some ⟨g, 0, none⟩) (P.log.length + 1) cap)).heap.size = w2.heap.size := by simp
    have hF3 : Fr (fun j => j = r ∨ vL.ownBlock = some j) w (w2.setCell ⟨r, 2, none⟩ (.slice (some ⟨g, 0, none⟩) (P.log.length + 1) cap)) :=
      Fr.setCell (p := ⟨r, 2, none⟩) ((((Fr.refl _ w).alloc (.cells #[.string x, .string y, .int .i64 i] 98)).alloc (.cells #[.string x, .string y, .int .i64 i] 98)).trans (G := fun j => vL.ownBlock = some j) (Fr.grown (w := ((w.alloc (.cells #[.string x, .string y, .int .i64 i] 98)).alloc (.cells #[.string x, .string y, .int .i64 i] 98))) ⟨hgrow.os, hgrow.tape, hgrow.output, hgrow.size, hgrow.block⟩ (fun j e => e)) (fun j e => .inl (.inr e))) (.inl (.inl rfl)) _
    have hL3 : (w2.setCell ⟨r, 2, none⟩ (.slice (some ⟨g, 0, none⟩) (P.log.length + 1) cap)).ownsRow 0 98 3 (.slice (some ⟨g, 0, none⟩) (P.log.length + 1) cap) (P.log.length + 1) (P.log.flatMap chC ++ [.string x, .string y, .int .i64 i]) := row_any hown fun j e => Below.heap_setCell _ _ _ _ (by cases e; exact hgr)
    have hN3 : Nr (w2.setCell ⟨r, 2, none⟩ (.slice (some ⟨g, 0, none⟩) (P.log.length + 1) cap)) 0 vN (nl P.now) := row_any HW.out.rN fun j e => hF3.block j (World.ownsRow.lt HW.out.rN j e).2 (by
      have hkn := HW.out.kN j e
      rintro (e2 | e2)
      · rw [e2, HW.out.kr] at hkn; cases hkn
      · rw [HW.out.kL j e2] at hkn; cases hkn)
    have hgb : g < w2.heap.size ∧ (κ g = .log ∨ w.heap.size ≤ g) := ⟨hlt2, by
      rcases hat with e3 | e3
      · exact .inl (HW.out.kL g e3)
      · exact .inr (by omega)⟩
    have hsz3 : w.heap.size < w2.heap.size := by
      simp at hz2'
      omega
    clear hz2' e2 e3 hown k2 q2 q6 hgrow hat hlt2
    rw [← sz3] at hgb hsz3
    generalize w2.setCell ⟨r, 2, none⟩ (.slice (some ⟨g, 0, none⟩) (P.log.length + 1) cap) = W3 at *
    clear sz3 hb0 hb1 hb2 hb3 c0 c1 c2 c3 c4 c5 c6 f2 hw1 hrl
    have HCW := hide2 (HCH.out W3 hN3)
    have HCW1 := hide2 (HCH.out W3.drew (row_any hN3 fun _ _ => rfl))
    have HF3 := hide2 hF3
    have HL3 := hide2 hL3
    have HK3 := hide2 k3
    clear hF3 hL3 hN3 HCH HNW
    go_wp2
    go_region_with ((go_at_call 62; first | refine HCW1.out.mono ?_ | refine HCW.out.mono ?_); rintro e w4 ⟨v4, rfl, hn4, hb4⟩; obtain ⟨ao4, cap4, rfl⟩ := hn4.form; have k4 : Rk w4 r vF vO (.slice (some ⟨g, 0, none⟩) (P.log.length + 1) cap) vN P.n cut off := HK3.out.same (hb4.block r HK3.out.lt); have q3 := k4.cells.2.2.2.1; have q7 := k4.free 3)
    all_goals
      go_wp2
      go_end0
      exact ⟨rfl, change_fin HW.out HEC.out HF3.out HL3.out HK3.out hgb hsz3 hgr hn4 ⟨hb4.os, hb4.tape, hb4.output, hb4.size, hb4.block⟩⟩
end Go.Proofs.Ytmggmnbialacbaa

/-
  The document's own disk: Append to a name that is not there.
-/
set_option linter.unusedVariables false
set_option linter.unusedSimpArgs false
namespace Go.Proofs.Ytmggmnbialacbaa
open Go.RowKit Go.Maps

theorem row_form {w : World} {B size n : Nat} {e : TypeId} {v : Value} {xs : List Value} (h : w.ownsRow B e size v n xs) : ∃ a c, v = .slice a n c := by
  rcases h.2 with h0 | ⟨g, cap, cur, rfl, _⟩
  · obtain ⟨rfl, rfl, _⟩ := h0
    exact ⟨none, 0, rfl⟩
  · exact ⟨_, _, rfl⟩

section
variable {w w' : World} {r : Nat} {κ : Nat → Ro} {vF vO vL vN : Value} {φ : Nat → Nat} {β : Nat → Value} {P : PD} {cut : Int} {off : Bool}

/-- What the last lines of Append find, and leave. -/
theorem app_tail (h1 : Wd w r κ vF vO vL vN φ β P cut false) {i : Nat} {y : List Int × Nat} (a1 : P.fil[i]? = some y) (a2 : Byt y.1) {ao : Option Addr} {len cap : Nat} {xs : List Int} (hsl1 : Sl w.drew ao len cap xs) (hlen : y.1.length + len ≤ 140737488355328) :
    ∃ g capF ab lb capb av lv cv W, vF = .slice (some ⟨g, 0, none⟩) P.fil.length capF ∧ w.cell? ⟨g, i, none⟩ = some (.pointer (some ⟨φ i, 0, none⟩)) ∧ β i = .slice ab lb capb ∧ w.cell? ⟨φ i, 0, none⟩ = some (.slice ab lb capb) ∧ lb = y.1.length ∧
      (Builtin.append_ #[32, 32] 32 #[.slice ab lb capb, .slice ao len cap]).run Try.prog w.drew = .ok (.slice av lv cv) W ∧
      W.cell? ⟨g, i, none⟩ = some (.pointer (some ⟨φ i, 0, none⟩)) ∧ W.cell? ⟨r, 0, none⟩ = some vF ∧ W.cell? ⟨r, 4, none⟩ = some (.int .i64 P.n) ∧ W.cell? ⟨φ i, 0, none⟩ = some (.slice ab lb capb) ∧ W.frozen? ⟨φ i, 0, none⟩ = false ∧
      (W.setCell ⟨φ i, 0, none⟩ (.slice av lv cv)).cell? ⟨r, 4, none⟩ = some (.int .i64 P.n) ∧ (W.setCell ⟨φ i, 0, none⟩ (.slice av lv cv)).frozen? ⟨r, 4, none⟩ = false ∧
      Rres w ((W.setCell ⟨φ i, 0, none⟩ (.slice av lv cv)).setCell ⟨r, 4, none⟩ (.int .i64 (P.n + 1))) r κ { P with fil := P.fil.set i (y.1 ++ xs, y.2), n := P.n + 1 } cut false := by
  have hil := (List.getElem?_eq_some_iff.1 a1).1
  have hk := h1.rk
  obtain ⟨g, capF, rfl, hcell, hkg⟩ := h1.files (i := i) hil
  unfold rpt at hcell
  obtain ⟨b1, b2, b3, b4⟩ := h1.fil i _ a1
  obtain ⟨ab, lb, capb, hbv, hslb, _⟩ := b3.sl' a2
  have hlb : lb = y.1.length := hslb.1.symm
  obtain ⟨av, lv, cv, W, hap, hownW, hgr, hat⟩ := own_append (w := w.drew) (v := β i) (xs := y.1) b3 hsl1 32 hlen a2
  have hbb : ∀ j, (β i).ownBlock = some j → κ j = .byt i := b4
  have nfr : φ i ≠ r := fun e => by
    rw [e, h1.kr] at b2
    cases b2
  have nfb : some (φ i) ≠ (β i).ownBlock := fun e => by
    have := hbb _ e.symm
    rw [b2] at this
    cases this
  have nrb : some r ≠ (β i).ownBlock := fun e => by
    have := hbb _ e.symm
    rw [h1.kr] at this
    cases this
  have flW : RFl W (φ i) (β i) y.2 := (hgr.block (φ i) b1.lt nfb).trans b1
  have kW : Rk W r (.slice (some ⟨g, 0, none⟩) P.fil.length capF) vO vL vN P.n cut false := hk.same (hgr.block r hk.lt nrb)
  have qW0 := flW.cells.1
  have qWf := flW.free 0
  have fl3 : RFl (W.setCell ⟨φ i, 0, none⟩ (.slice av lv cv)) (φ i) (.slice av lv cv) y.2 := by
    have := Go.Joins.block_setCell (i := 0) flW (.slice av lv cv)
    exact this
  have k3 : Rk (W.setCell ⟨φ i, 0, none⟩ (.slice av lv cv)) r (.slice (some ⟨g, 0, none⟩) P.fil.length capF) vO vL vN P.n cut false := kW.same (Below.heap_setCell _ _ _ _ (by simpa using nfr.symm))
  have c34 := k3.cells.2.2.2.2.1
  have f34 := k3.free 4
  have k4 := k3.set.2.2.2.2.1 (P.n + 1)
  have fl4 : RFl ((W.setCell ⟨φ i, 0, none⟩ (.slice av lv cv)).setCell ⟨r, 4, none⟩ (.int .i64 (P.n + 1))) (φ i) (.slice av lv cv) y.2 := (Below.heap_setCell _ _ _ _ (by simpa using nfr)).trans fl3
  have ne1 : ∀ j, (Value.slice av lv cv).ownBlock = some j → j ≠ φ i ∧ j ≠ r := fun j e => by
    rcases hat with e2 | e2
    · rw [e2] at e
      exact ⟨fun q => nfb (by rw [← q, e]), fun q => nrb (by rw [← q, e])⟩
    · rw [e2] at e
      cases e
      have hq1 := b1.lt
      have hq2 := hk.lt
      exact ⟨fun q => by have : w.drew.heap.size = w.heap.size := rfl; omega, fun q => by have : w.drew.heap.size = w.heap.size := rfl; omega⟩
  have own4 : Own ((W.setCell ⟨φ i, 0, none⟩ (.slice av lv cv)).setCell ⟨r, 4, none⟩ (.int .i64 (P.n + 1))) 0 (.slice av lv cv) (y.1 ++ xs) := row_any hownW fun j e => (Below.heap_setCell _ _ _ _ (by simpa using (ne1 j e).2)).trans (Below.heap_setCell _ _ _ _ (by simpa using (ne1 j e).1))
  have F4 : Fr (fun j => j = r ∨ j = φ i ∨ (β i).ownBlock = some j) w ((W.setCell ⟨φ i, 0, none⟩ (.slice av lv cv)).setCell ⟨r, 4, none⟩ (.int .i64 (P.n + 1))) :=
    Fr.setCell (p := ⟨r, 4, none⟩) (Fr.setCell (p := ⟨φ i, 0, none⟩) (Fr.grown (w := w) (w' := W) (row := (β i).ownBlock) ⟨hgr.os, hgr.tape, hgr.output, hgr.size, hgr.block⟩ (fun j e => .inr (.inr e))) (.inl (.inr (.inl rfl))) _) (.inl (.inl rfl)) _
  have hres := h1.grew (i := i) hil a1 own4 F4 (by
    rcases hat with e2 | e2
    · exact .inl e2
    · exact .inr ⟨_, e2, Nat.le_refl _⟩) fl4 k4
  have hglt : g < w.heap.size := by
    have := World.block_lt_of_cell? w _ hcell
    exact this
  have ngb : some g ≠ (β i).ownBlock := fun e => by
    have := hbb _ e.symm
    rw [hkg] at this
    cases this
  have hcellW : W.cell? ⟨g, i, none⟩ = some (.pointer (some ⟨φ i, 0, none⟩)) := (World.cell?_of_block (w := w) (w' := W) (hgr.block g hglt ngb)).trans hcell
  obtain ⟨cW0, -, -, -, cW4, -, -⟩ := kW.cells
  obtain ⟨q0, q1⟩ := (hbv ▸ b1).cells
  rw [hbv] at hap qW0
  exact ⟨g, capF, ab, lb, capb, av, lv, cv, W, rfl, hcell, hbv, q0, hlb, hap, hcellW, cW0, cW4, qW0, qWf, c34, f34, hres⟩

theorem infoFp : (Try.prog.info? 95).map (fun i => (i.zero, i.size, i.bytes)) = some (some (.pointer none), 1, 8) := by kernel_rfl

/-- A file is made, in memory: the block is laid, its pointer put behind the others. -/
theorem made_mem (h1 : Wd w r κ vF vO vL vN φ β P cut false) {v' : Value} {w2 : World} (t2 : TypeId)
    (hown : w2.ownsRow 0 95 1 v' (P.fil.length + 1) (((List.range P.fil.length).map fun i => rpt (φ i)) ++ [.pointer (some ⟨w.heap.size, 0, none⟩)]))
    (hgrow : ((w.alloc (.cells #[.slice none 0 0, .int .i64 0] 94)).alloc (.cells #[.pointer (some ⟨w.heap.size, 0, none⟩)] t2)).grownBy w2 vF.ownBlock)
    (hat : v'.ownBlock = vF.ownBlock ∨ v'.ownBlock = some ((w.alloc (.cells #[.slice none 0 0, .int .i64 0] 94)).alloc (.cells #[.pointer (some ⟨w.heap.size, 0, none⟩)] t2)).heap.size) :
    w2.cell? ⟨r, 0, none⟩ = some vF ∧ w2.frozen? ⟨r, 0, none⟩ = false ∧
    ∃ κ' φ' β', Wd (w2.setCell ⟨r, 0, none⟩ v') r κ' v' vO vL vN φ' β' { P with fil := P.fil ++ [([], 0)] } cut false ∧ (∀ j, j < w.heap.size → κ' j = κ j) ∧ Fr (fun j => κ j ≠ .out) w (w2.setCell ⟨r, 0, none⟩ v') := by
  have hlt := h1.rk.lt
  have hFl : ∀ j, vF.ownBlock = some j → j < w.heap.size := fun j e => (World.ownsRow.lt h1.rF j e).2
  have hrF : some r ≠ vF.ownBlock := fun e => by
    have := h1.kF r e.symm
    rw [h1.kr] at this
    cases this
  have sz : ((w.alloc (.cells #[.slice none 0 0, .int .i64 0] 94)).alloc (.cells #[.pointer (some ⟨w.heap.size, 0, none⟩)] t2)).heap.size = w.heap.size + 2 := by simp
  have k2 : Rk w2 r vF vO vL vN P.n cut false := h1.rk.same ((hgrow.block r (by rw [sz]; omega) hrF).trans ((Below.heap_alloc _ _ r (by simp; omega)).trans (Below.heap_alloc _ _ r hlt)))
  have k3 := k2.set.1 v'
  have fl2 : RFl w2 w.heap.size (.slice none 0 0) 0 := (hgrow.block w.heap.size (by rw [sz]; omega) (fun e => by have := hFl _ e.symm; omega)).trans ((Below.heap_alloc _ _ _ (by simp)).trans (heap_alloc_new _ _))
  have fl3 : RFl (w2.setCell ⟨r, 0, none⟩ v') w.heap.size (.slice none 0 0) 0 := (Below.heap_setCell _ _ _ _ (by show w.heap.size ≠ r; omega)).trans fl2
  have nr' : v'.ownBlock ≠ some r := fun e => by
    rcases hat with e2 | e2
    · rw [e2] at e
      exact hrF e.symm
    · rw [e2, sz] at e
      cases e
      omega
  have nf' : v'.ownBlock ≠ some w.heap.size := fun e => by
    rcases hat with e2 | e2
    · rw [e2] at e
      have := hFl _ e
      omega
    · rw [e2, sz] at e
      have := Option.some.inj e
      omega
  have hrow3 : (w2.setCell ⟨r, 0, none⟩ v').ownsRow 0 95 1 v' (P.fil.length + 1) (((List.range P.fil.length).map fun i => rpt (φ i)) ++ [rpt w.heap.size]) := row_any hown fun j e => Below.heap_setCell _ _ _ _ (by show j ≠ r; exact fun q => nr' (by rw [e, q]))
  have F3 : Fr (fun j => j = r ∨ vF.ownBlock = some j) w (w2.setCell ⟨r, 0, none⟩ v') :=
    Fr.setCell (p := ⟨r, 0, none⟩) ((((Fr.refl _ w).alloc (.cells #[.slice none 0 0, .int .i64 0] 94)).alloc (.cells #[.pointer (some ⟨w.heap.size, 0, none⟩)] t2)).trans (G := fun j => vF.ownBlock = some j) (Fr.grown ⟨hgrow.os, hgrow.tape, hgrow.output, hgrow.size, hgrow.block⟩ (fun j e => e)) (fun j e => .inl (.inr e))) (.inl (.inl rfl)) _
  obtain ⟨κ', φ', β', g1, g2, g3, g4, g5⟩ := h1.made (f := w.heap.size) (Nat.le_refl _) fl3 hrow3 F3 (by
    rcases hat with e2 | e2
    · exact .inl e2
    · exact .inr ⟨_, e2, by rw [sz]; omega⟩) nf' k3
  exact ⟨k2.cells.1, k2.free 0, κ', φ', β', g1, g4, g5⟩
end
end Go.Proofs.Ytmggmnbialacbaa

/-
  The document's own disk: Append to a name that is not there: the walk; Append whole.
-/
set_option linter.unusedVariables false
set_option linter.unusedSimpArgs false
namespace Go.Proofs.Ytmggmnbialacbaa
open Go.RowKit Go.Maps

/-- A slice that is not the disk's, behind what the disk does. -/
theorem sl_out {w w' : World} {κ : Nat → Ro} {ao : Option Addr} {len cap : Nat} {xs : List Int} (hsl : Sl w ao len cap xs) (hout : 0 < len → ∀ b o, ao = some ⟨b, o, none⟩ → κ b = .out) (F : Fr (fun j => κ j ≠ .out) w w') : Sl w' ao len cap xs := by
  obtain ⟨x1, x2, x3, x4, x5, x6⟩ := hsl
  refine ⟨x1, x2, x3, x4, x5, fun hl => ?_⟩
  obtain ⟨b, o, e, hlt, hc⟩ := x6 hl
  refine ⟨b, o, e, Nat.lt_of_lt_of_le hlt F.size, fun j hj => ?_⟩
  exact (World.cell?_of_block (w := w) (w' := w') (F.block b hlt (fun h => h (hout hl b o e)))).trans (hc j hj)

theorem Rres.pre {w w1 w2 : World} {r : Nat} {κ κ1 : Nat → Ro} {P : PD} {cut : Int} {off : Bool} (h : Rres w1 w2 r κ1 P cut off) (o : ∀ j, j < w.heap.size → κ1 j = κ j) (F : Fr (fun j => κ j ≠ .out) w w1) : Rres w w2 r κ P cut off := by
  obtain ⟨κ', q1, q2, q3⟩ := h
  have hz := F.size
  refine ⟨κ', q1, fun j hj => (q2 j (by omega)).trans (o j hj), F.trans q3 fun j e => ?_⟩
  by_cases hj : j < w.heap.size
  · left
    rw [← o j hj]
    exact e
  · right
    omega

section
variable {w w' : World} {r : Nat} {κ : Nat → Ro} {vF vO vL vN : Value} {φ : Nat → Nat} {β : Nat → Value} {P : PD} {cut : Int} {off : Bool}

set_option maxHeartbeats 4000000 in
set_option maxRecDepth 100000 in
theorem ref_app_make (h : Wd w r κ vF vO vL vN φ β P cut off) (hP : P.inv) (s : ByteArray) (hs : s.size ≤ maxLen) (ao : Option Addr) (len cap : Nat) (xs : List Int) (hsl : Sl w ao len cap xs) (hout : 0 < len → ∀ b o, ao = some ⟨b, o, none⟩ → κ b = .out) (ho : offed P.n cut off = false) (hn : isName s = true) (hp : plook (kl s) P.now = none) (hb : ¬ (65536 ≤ P.n ∨ 262144 < len ∨ 64 ≤ P.now.length)) :
    Calls Try.prog 29 #[.pointer (some ⟨r, 0, none⟩), .string s, .slice ao len cap] w fun e w' => e = .returned (.int .i64 0) ∧ Rres w w' r κ { P with log := P.log ++ [.mk s P.fil.length], fil := P.fil ++ [(xs, 0)], n := P.n + 1 } cut false := by
  obtain ⟨iF, hiF, zF0, zF1, zF2⟩ := info_parts infoFp
  have hm := ref_may h.rk
  rw [ho] at hm
  have hg := hP.now
  have hgl := hg.len
  have hlo := hP.lo
  have hfew := hP.few
  have hfl := hP.filn
  have hNr := h.rN
  obtain ⟨aN, cN, rfl⟩ := hNr.form
  rw [nl_len] at *
  have hrF := h.rF
  obtain ⟨aF, cF, rfl⟩ := row_form hrF
  have HW := hide2 h
  have HG := hide2 hg
  have hne : s ≠ .empty := name_some hn
  clear h hg hNr hrF
  go_enter Try.func29, Try.ntmps29
  go_wp2_with fail
  refine hm.mono ?_
  rintro e w1 ⟨rfl, hk, hF, hz⟩
  have h1 := HW.out.blk hF hk
  have hN1 := h1.rN
  have hi := refIsName_any s w1 hs
  rw [hn] at hi
  have hf := find_ref hN1 (by rw [nl_len]; exact Nat.le_trans hgl (by decide)) s
  rw [nl_find (D := P.now) HG.out.txt, hp] at hf
  obtain ⟨c0, c1, c2, c3, c4, c5, c6⟩ := hk.cells
  have hF1 : Fr (fun j => κ j ≠ .out) w w1 := hF.mono fun j _ e => by rw [e, HW.out.kr]; exact Ro.noConfusion
  have hsl1 := sl_out hsl hout hF1
  have H1 := hide2 h1
  have HSL := hide2 hsl1
  have HF1 := hide2 hF1
  have HZ := hide2 hz
  have HOUT := hide2 hout
  have hrow := h1.rF
  have HROW := hide2 hrow
  have hnew : ∀ t2 j u, [Value.pointer (some ⟨w1.heap.size, 0, none⟩)][j]? = some u → ((w1.alloc (.cells #[.slice none 0 0, .int .i64 0] 94)).alloc (.cells #[.pointer (some ⟨w1.heap.size, 0, none⟩)] t2)).cell? ((⟨w1.heap.size + 1, 0, none⟩ : Addr).add j) = some u := fun t2 j u hj => by
    have := cell_one_new (w1.alloc (.cells #[.slice none 0 0, .int .i64 0] 94)) _ t2 j u hj
    simpa using this
  have HNEW := hide2 hnew
  clear hm hk hN1 h1 hsl hsl1 hF1 hout hrow hnew hz
  have d1 : decide (65536 ≤ P.n) = false := by simp; omega
  have i1 : ¬ 65536 ≤ P.n := by omega
  have d2 : decide ((262144 : Int) < (len : Int)) = false := by simp; omega
  have d2' : decide (262144 < len) = false := by simp; omega
  have i2 : ¬ (262144 : Int) < (len : Int) := by omega
  have d3 : decide ((64 : Int) ≤ (P.now.length : Int)) = false := by simp; omega
  have d3' : decide (64 ≤ P.now.length) = false := by simp; omega
  have i3 : ¬ (64 : Int) ≤ (P.now.length : Int) := by omega
  have hflm : P.fil.length ≤ 65600 := by omega
  go_wp2_with fail
  refine hi.mono ?_
  rintro e w2 ⟨rfl, rfl⟩
  clear hi
  go_wp2_with fail
  refine hf.mono ?_
  rintro e w2 ⟨rfl, rfl⟩
  clear hf
  go_wp2_with (at_builtin; refine wpList_append_own_at _ rfl _ _ 62 rfl 0 95 iF (.pointer none) 1 8 Try.underlying62 hiF zF0 zF1 zF2 rfl (by decide) (.slice aF P.fil.length cF) P.fil.length _ rfl ((HROW.out.alloc _).alloc _) ⟨w2.heap.size + 1, 0, none⟩ 1 1 [.pointer (some ⟨w2.heap.size, 0, none⟩)] rfl rfl (HNEW.out _) (by simp [Value.oneCell']) (by unfold maxLen; omega) (by omega) (Nat.zero_le _) ?_; intro v' w3 hown hgrow _ hat; obtain ⟨aV, cV, rfl⟩ := row_form hown; obtain ⟨m1, m2, κ2, φ2, β2, h2, o2, F2⟩ := made_mem H1.out _ hown hgrow hat; replace h2 := hide2 h2; replace o2 := hide2 o2; replace F2 := hide2 F2; clear hown hgrow hat)
  have hc2 := ref_change2 h2.out (show (P.log.length : Int) ≤ P.n from hfew) (show P.n ≤ 65536 by omega) (L := P.fil.length) (show Dgood (PD.now { P with fil := P.fil ++ [([], 0)] }) P.fil.length from HG.out) (.mk s P.fil.length) hne
  have HC2 := hide2 hc2
  clear hc2
  refine HC2.out.mono ?_
  rintro e w4 ⟨rfl, κ3, vL', vN', h4, o4, F4⟩
  have F24 : Fr (fun j => κ j ≠ .out) w2 w4 := F2.out.trans F4 fun j e => by
    by_cases hj : j < w2.heap.size
    · left
      rw [← o2.out j hj]
      exact e
    · right
      omega
  have hsl4 : Sl w4.drew ao len cap xs := (sl_out HSL.out HOUT.out F24 : Sl w4 ao len cap xs)
  obtain ⟨g, capF, ab, lb, capb, av, lv, cv, W, hvF, hcell, hbv, q0, hlb, hap, hcellW, cW0, cW4, qW0, qWf, c34, f34, hres⟩ := app_tail (i := P.fil.length) (y := ([], 0)) h4 (by simp) (by intro x hx; cases hx) hsl4 (by simp; omega)
  have hfin : Rres w ((W.setCell ⟨φ2 P.fil.length, 0, none⟩ (.slice av lv cv)).setCell ⟨r, 4, none⟩ (.int .i64 (P.n + 1))) r κ { P with log := P.log ++ [.mk s P.fil.length], fil := P.fil ++ [(xs, 0)], n := P.n + 1 } cut false := by
    have e1 : (P.fil ++ [(([] : List Int), 0)]).set P.fil.length ([] ++ xs, 0) = P.fil ++ [(xs, 0)] := by simp
    have h5 : Rres w4 ((W.setCell ⟨φ2 P.fil.length, 0, none⟩ (.slice av lv cv)).setCell ⟨r, 4, none⟩ (.int .i64 (P.n + 1))) r κ3 { P with log := P.log ++ [.mk s P.fil.length], fil := P.fil ++ [(xs, 0)], n := P.n + 1 } cut false := by
      have := hres
      simp only [e1] at this
      exact this
    exact ((h5.pre o4 F4).pre o2.out F2.out).pre (fun j hj => rfl) HF1.out
  have HFin := hide2 hfin
  have hk4 := h4.rk
  obtain ⟨k0, k1, k2, k3, k4, k5, k6⟩ := hk4.cells
  have HAP := hide2 hap
  simp only [Value.slice.injEq] at hvF
  obtain ⟨rfl, hvl, rfl⟩ := hvF
  obtain rfl : lb = 0 := hlb
  have hii : (P.fil.length : Int) < (P.fil.length : Int) + 1 := by omega
  have hi0 : ¬ (P.fil.length : Int) < 0 := by omega
  have hP64 : P.n + 1 ≤ 9223372036854775807 := by omega
  clear hap hres hfin hk4 h4 o4 F4 F24 hsl4 HC2 h2 o2 F2 m1 m2 hbv hvl
  go_wp2
  go_region_law (refine step_append_eq (by rfl) _ _ _ (by rfl) (.slice ab 0 capb) (.slice ao len cap) (.slice av lv cv) W (by rfl) (by rfl) HAP.out ?_)
  all_goals
    go_wp2
    go_ret
    exact ⟨rfl, HFin.out⟩
end
end Go.Proofs.Ytmggmnbialacbaa

/-
  The document's own disk: Append, whole.
-/
set_option linter.unusedVariables false
set_option linter.unusedSimpArgs false
namespace Go.Proofs.Ytmggmnbialacbaa
open Go.RowKit Go.Maps

theorem ref_append {w : World} {r : Nat} {κ : Nat → Ro} {P : PD} {cut : Int} {off : Bool} (h : RD w r κ P cut off) (hP : P.inv) (s : ByteArray) (hs : s.size ≤ maxLen) (ao : Option Addr) (len cap : Nat) (xs : List Int) (hsl : Sl w ao len cap xs) (hout : 0 < len → ∀ b o, ao = some ⟨b, o, none⟩ → κ b = .out) :
    Calls Try.prog 29 #[.pointer (some ⟨r, 0, none⟩), .string s, .slice ao len cap] w fun e w' => e = .returned (.int .i64 (if offed P.n cut off = true then 24 else (P.app s xs).1)) ∧ Rres w w' r κ (if offed P.n cut off = true then P else (P.app s xs).2) cut (offed P.n cut off) := by
  obtain ⟨vF, vO, vL, vN, φ, β, h⟩ := h
  have hl : (len : Int) ≤ 9223372036854775807 := by
    have h1 := hsl.2.1
    have h2 := hsl.2.2.1
    unfold maxLen at h2
    omega
  have hxl := hsl.1
  cases ho : offed P.n cut off with
  | true =>
    simp only [if_true]
    exact ref_app_off h s ao len cap ho
  | false =>
    simp only [Bool.false_eq_true, if_false]
    unfold PD.app
    cases hn : isName s with
    | false =>
      rw [if_pos rfl]
      exact ref_app_name h s hs ao len cap ho hn
    | true =>
      rw [if_neg (by decide)]
      cases hp : plook (kl s) P.now with
      | none =>
        by_cases hb : 65536 ≤ P.n ∨ 262144 < len ∨ 64 ≤ P.now.length
        · simp only [hxl]
          rw [if_pos hb]
          exact ref_app_new h hP s hs ao len cap hl ho hn hp hb
        · simp only [hxl]
          rw [if_neg hb]
          exact ref_app_make h hP s hs ao len cap xs hsl hout ho hn hp hb
      | some i =>
        by_cases hb : 65536 ≤ P.n ∨ 262144 < len + (P.at i).1.length
        · simp only [hxl]
          rw [if_pos hb]
          exact ref_app_old h hP s hs ao len cap hl ho hn i hp hb
        · simp only [hxl]
          rw [if_neg hb]
          exact ref_app_into h hP s hs ao len cap xs hsl hout ho hn i hp hb
end Go.Proofs.Ytmggmnbialacbaa

/-
  The document's own disk: a disk that Crash is making.
-/
set_option linter.unusedVariables false
set_option linter.unusedSimpArgs false
namespace Go.Proofs.Ytmggmnbialacbaa
open Go.RowKit Go.Maps

structure Wc (w : World) (o : Nat) (κ : Nat → Ro) (vF vO : Value) (φ : Nat → Nat) (β : Nat → Value) (D : PDir) (fs : List (List Int × Nat)) : Prop where
  rk : Rk w o vF vO (.slice none 0 0) (.slice none 0 0) 0 (-1) false
  kr : κ o = .dsk
  rF : w.ownsRow 0 95 1 vF fs.length ((List.range fs.length).map fun i => rpt (φ i))
  kF : ∀ g, vF.ownBlock = some g → κ g = .fs
  rO : Nr w 0 vO (nl D)
  kO : ∀ g, vO.ownBlock = some g → κ g = .nam
  fil : ∀ (i : Nat) (x : List Int × Nat), fs[i]? = some x → RFl w (φ i) (β i) x.2 ∧ κ (φ i) = .fl i ∧ Own w 0 (β i) x.1 ∧ ∀ g, (β i).ownBlock = some g → κ g = .byt i
  frs : ∀ g, κ g ≠ .out → g < w.heap.size

section
variable {w w' : World} {o : Nat} {κ : Nat → Ro} {vF vO : Value} {φ : Nat → Nat} {β : Nat → Value} {D : PDir} {fs : List (List Int × Nat)}

theorem Wc.start (h : Rk w o (.slice none 0 0) (.slice none 0 0) (.slice none 0 0) (.slice none 0 0) 0 (-1) false) : Wc w o (fun j => if j = o then .dsk else .out) (.slice none 0 0) (.slice none 0 0) (fun _ => 0) (fun _ => .slice none 0 0) [] [] :=
  ⟨h, by simp, World.ownsRow_nil _ _ _ _, (fun g e => by cases e), World.ownsRow_nil _ _ _ _, (fun g e => by cases e), (fun i x hx => by cases hx), fun g hg => by
    by_cases e : g = o
    · rw [e]; exact h.lt
    · exact absurd (if_neg e) hg⟩

theorem Wc.step (h : Wc w o κ vF vO φ β D fs) {f sy : Nat} {v vF' vO' : Value} {xs : List Int} {D' : PDir} (hf : w.heap.size ≤ f) (hfl : RFl w' f v sy) (hv : Own w' 0 v xs) (hvb : ∀ g, v.ownBlock = some g → w.heap.size ≤ g ∧ g ≠ f)
    (hrow : w'.ownsRow 0 95 1 vF' (fs.length + 1) (((List.range fs.length).map fun i => rpt (φ i)) ++ [rpt f])) (hF' : vF'.ownBlock = vF.ownBlock ∨ ∃ g, vF'.ownBlock = some g ∧ w.heap.size ≤ g ∧ g ≠ f ∧ v.ownBlock ≠ some g)
    (hO : Nr w' 0 vO' (nl D')) (hO' : vO'.ownBlock = vO.ownBlock ∨ ∃ g, vO'.ownBlock = some g ∧ w.heap.size ≤ g ∧ g ≠ f ∧ v.ownBlock ≠ some g ∧ vF'.ownBlock ≠ some g)
    (hk : Rk w' o vF' vO' (.slice none 0 0) (.slice none 0 0) 0 (-1) false) (F : Fr (fun j => j = o ∨ vF.ownBlock = some j ∨ vO.ownBlock = some j) w w') :
    ∃ κ' φ' β', Wc w' o κ' vF' vO' φ' β' D' (fs ++ [(xs, sy)]) ∧ ∀ j, j < w.heap.size → κ' j = κ j := by
  obtain ⟨κ', hκ⟩ : ∃ κ' : Nat → Ro, κ' = fun j => if j = f then .fl fs.length else if v.ownBlock = some j then .byt fs.length else if vF'.ownBlock = some j then .fs else if vO'.ownBlock = some j then .nam else κ j := ⟨_, rfl⟩
  have k1 : κ' f = .fl fs.length := by rw [hκ]; exact if_pos rfl
  have k2 : ∀ g, v.ownBlock = some g → κ' g = .byt fs.length := fun g e => by
    rw [hκ]
    exact (if_neg (hvb g e).2).trans (if_pos e)
  have k3 : ∀ g, vF'.ownBlock = some g → κ' g = .fs := fun g e => by
    rw [hκ]
    rcases hF' with e2 | ⟨g2, e2, q1, q2, q3⟩
    · have hg := (World.ownsRow.lt h.rF g (e2 ▸ e)).2
      exact (if_neg (by omega)).trans ((if_neg (fun q => by have := (hvb g q).1; omega)).trans (if_pos e))
    · rw [e2] at e
      cases e
      exact (if_neg q2).trans ((if_neg q3).trans (if_pos e2))
  have k4 : ∀ g, vO'.ownBlock = some g → κ' g = .nam := fun g e => by
    rw [hκ]
    rcases hO' with e2 | ⟨g2, e2, q1, q2, q3, q4⟩
    · have hg := (World.ownsRow.lt h.rO g (e2 ▸ e)).2
      have hkg := h.kO g (e2 ▸ e)
      refine (if_neg (by omega)).trans ((if_neg (fun q => by have := (hvb g q).1; omega)).trans ((if_neg fun q => ?_).trans (if_pos e)))
      rcases hF' with e3 | ⟨g3, e3, q1, _⟩
      · rw [h.kF g (e3 ▸ q)] at hkg
        cases hkg
      · rw [e3] at q
        cases q
        omega
    · rw [e2] at e
      cases e
      exact (if_neg q2).trans ((if_neg q3).trans ((if_neg q4).trans (if_pos e2)))
  have o1 : ∀ j, j < w.heap.size → κ' j = κ j := fun j hj => by
    by_cases e3 : vF'.ownBlock = some j
    · rw [k3 j e3]
      rcases hF' with e | ⟨g, e, q, _⟩
      · exact (h.kF j (e ▸ e3)).symm
      · rw [e] at e3
        cases e3
        omega
    · by_cases e4 : vO'.ownBlock = some j
      · rw [k4 j e4]
        rcases hO' with e | ⟨g, e, q, _⟩
        · exact (h.kO j (e ▸ e4)).symm
        · rw [e] at e4
          cases e4
          omega
      · rw [hκ]
        exact (if_neg (by omega)).trans ((if_neg (fun q => by have := (hvb j q).1; omega)).trans ((if_neg e3).trans (if_neg e4)))
  have lt : ∀ g, κ g ≠ .out → κ' g = κ g := fun g hg => o1 g (h.frs g hg)
  have hlen : (fs ++ [(xs, sy)]).length = fs.length + 1 := by simp
  refine ⟨κ', fun k => if k = fs.length then f else φ k, fun k => if k = fs.length then v else β k, ⟨hk, ?_, ?_, k3, hO, k4, fun k x hx => ?_, fun g hg => ?_⟩, o1⟩
  · rw [lt o (by rw [h.kr]; exact Ro.noConfusion), h.kr]
  · rw [hlen, List.range_succ, List.map_append]
    have e1 : (List.range fs.length).map (fun i => rpt (if i = fs.length then f else φ i)) = (List.range fs.length).map fun i => rpt (φ i) := by
      apply List.map_congr_left
      intro i hi
      have := List.mem_range.1 hi
      rw [if_neg (by omega)]
    rw [e1]
    simpa using hrow
  · by_cases e : k = fs.length
    · subst e
      rw [List.getElem?_append_right (Nat.le_refl _), Nat.sub_self] at hx
      simp only [List.getElem?_cons_zero, Option.some.injEq] at hx
      subst hx
      simp only [if_true]
      exact ⟨hfl, k1, hv, k2⟩
    · have hkl : k < fs.length := by
        have := (List.getElem?_eq_some_iff.1 hx).1
        rw [hlen] at this
        omega
      rw [List.getElem?_append_left hkl] at hx
      simp only [e, if_false]
      obtain ⟨d1, d2, d3, d4⟩ := h.fil k x hx
      have ne : ∀ j, (j = o ∨ vF.ownBlock = some j ∨ vO.ownBlock = some j) → κ j = .dsk ∨ κ j = .fs ∨ κ j = .nam := fun j e => by
        rcases e with e | e | e
        · rw [e, h.kr]; exact .inl rfl
        · exact .inr (.inl (h.kF j e))
        · exact .inr (.inr (h.kO j e))
      refine ⟨(F.block _ d1.lt fun q => by have := ne _ q; rw [d2] at this; simp at this).trans d1, by rw [lt _ (by rw [d2]; exact Ro.noConfusion)]; exact d2, row_any d3 fun j e => F.block j (World.ownsRow.lt d3 j e).2 fun q => by have := ne _ q; rw [d4 j e] at this; simp at this, fun g eg => by rw [lt g (by rw [d4 g eg]; exact Ro.noConfusion)]; exact d4 g eg⟩
  · by_cases e0 : g = f
    · rw [e0]; exact hfl.lt
    · by_cases e1 : v.ownBlock = some g
      · exact (World.ownsRow.lt hv g e1).2
      · by_cases e2 : vF'.ownBlock = some g
        · exact (World.ownsRow.lt hrow g e2).2
        · by_cases e3 : vO'.ownBlock = some g
          · exact (World.ownsRow.lt hO g e3).2
          · have e4 : κ' g = κ g := by
              rw [hκ]
              exact (if_neg e0).trans ((if_neg e1).trans ((if_neg e2).trans (if_neg e3)))
            rw [e4] at hg
            exact Nat.lt_of_lt_of_le (h.frs g hg) F.size

theorem Wc.fin (h : Wc w o κ vF vO φ β D fs) : RD (w.setCell ⟨o, 3, none⟩ vO) o κ ⟨D, [], fs, 0⟩ (-1) false := by
  have hs : ∀ j, j ≠ o → (w.setCell ⟨o, 3, none⟩ vO).heap[j]? = w.heap[j]? := fun j hj => Below.heap_setCell _ _ _ _ (by simpa using hj)
  have no : ∀ j, vO.ownBlock = some j → j ≠ o := fun j e q => by
    have := h.kO j e
    rw [q, h.kr] at this
    cases this
  have nf : ∀ j, vF.ownBlock = some j → j ≠ o := fun j e q => by
    have := h.kF j e
    rw [q, h.kr] at this
    cases this
  have hO := row_any h.rO fun j e => hs j (no j e)
  refine ⟨vF, vO, .slice none 0 0, vO, φ, β, h.rk.set.2.2.2.1 vO, h.kr, row_any h.rF fun j e => hs j (nf j e), h.kF, hO, h.kO, World.ownsRow_nil _ _ _ _, (fun g e => by cases e), hO, h.kO, fun i x hx => ?_, fun g hg => by have := h.frs g hg; simpa using this⟩
  obtain ⟨d1, d2, d3, d4⟩ := h.fil i x hx
  exact ⟨(hs _ fun q => by rw [q, h.kr] at d2; cases d2).trans d1, d2, row_any d3 (fun j e => hs j fun q => by have := d4 j e; rw [q, h.kr] at this; cases this), d4⟩
end
end Go.Proofs.Ytmggmnbialacbaa

/-
  Bytes that are turned one behind the other.
-/
set_option linter.unusedVariables false
set_option linter.unusedSimpArgs false
namespace Go.Proofs.Ytmggmnbialacbaa
open Go.RowKit Go.Maps

def tnb (x : List Int) (m : Nat) : List Int := x.take m ++ (x.drop m).map tb
theorem tnb_len (x : List Int) (m : Nat) : (tnb x m).length = x.length := by
  unfold tnb
  rw [List.length_append, List.length_map, ← List.length_append, List.take_append_drop]
theorem tnb_get (x : List Int) (m i : Nat) : (tnb x m)[i]? = (x[i]?).map fun v => if i < m then v else tb v := by
  unfold tnb
  by_cases h : i < m
  · rw [List.getElem?_append]
    split
    · rename_i h2
      rw [List.getElem?_take_of_lt h]
      cases x[i]? <;> simp [h]
    · rename_i h2
      simp at h2
      have hx : x.length ≤ i := by omega
      rw [List.getElem?_map, List.getElem?_drop, List.getElem?_eq_none (by simp; omega), List.getElem?_eq_none hx]
      rfl
  · by_cases hm : m ≤ x.length
    · rw [List.getElem?_append_right (by simp; omega), List.getElem?_map, List.getElem?_drop, List.length_take, Nat.min_eq_left hm, show m + (i - m) = i from by omega]
      cases x[i]? <;> simp [h]
    · rw [List.getElem?_eq_none (by simp; omega), List.getElem?_eq_none (by omega)]
      rfl
theorem tnb_append (x y : List Int) (m : Nat) : tnb (x ++ y) m = tnb x m ++ tnb y (m - x.length) := by
  apply List.ext_getElem?
  intro i
  rw [tnb_get]
  by_cases h : i < x.length
  · rw [List.getElem?_append_left h, List.getElem?_append_left (by rw [tnb_len]; exact h), tnb_get]
  · rw [List.getElem?_append_right (by omega), List.getElem?_append_right (by rw [tnb_len]; omega), tnb_len, tnb_get]
    congr 1
    funext v
    by_cases h2 : i < m
    · rw [if_pos h2, if_pos (by omega)]
    · rw [if_neg h2, if_neg (by omega)]
theorem tnb_all (x : List Int) (m : Nat) (h : x.length ≤ m) : tnb x m = x := by
  unfold tnb
  rw [List.take_of_length_le h, List.drop_eq_nil_of_le h, List.map_nil, List.append_nil]

def tpb (X : List Int) (m i : Nat) : List Int := tnb (X.take i) m ++ X.drop i
theorem tpb_len (X : List Int) (m i : Nat) : (tpb X m i).length = X.length := by
  unfold tpb
  rw [List.length_append, tnb_len, ← List.length_append, List.take_append_drop]
theorem tpb_start (X : List Int) (m : Nat) : tpb X m m = X := by
  unfold tpb
  rw [tnb_all _ _ (by simp; omega), List.take_append_drop]
theorem tpb_end (X : List Int) (m i : Nat) (h : X.length ≤ i) : tpb X m i = tnb X m := by
  unfold tpb
  rw [List.take_of_length_le h, List.drop_eq_nil_of_le h, List.append_nil]
theorem tpb_at (X : List Int) (m i : Nat) (hi : i < X.length) : (tpb X m i).getD i 0 = X.getD i 0 := by
  unfold tpb
  simp only [List.getD]
  rw [List.getElem?_append_right (by rw [tnb_len]; simp; omega), tnb_len, List.length_take, Nat.min_eq_left (by omega), Nat.sub_self, List.getElem?_drop, Nat.add_zero]
theorem tpb_step (X : List Int) (m i : Nat) (hi : i < X.length) (hm : m ≤ i) : (tpb X m i).set i (tb (X.getD i 0)) = tpb X m (i + 1) := by
  unfold tpb
  have hl : (tnb (X.take i) m).length = i := by rw [tnb_len]; simp; omega
  rw [List.set_append_right _ _ (by omega), hl, Nat.sub_self, List.drop_eq_getElem_cons hi, List.set_cons_zero, List.take_succ_eq_append_getElem hi, tnb_append, List.append_assoc, List.length_take, Nat.min_eq_left (by omega)]
  congr 1
  have e : tnb [X[i]] (m - i) = [tb X[i]] := by
    rw [show m - i = 0 from by omega]
    rfl
  rw [e]
  simp [List.getD, List.getElem?_eq_getElem hi]

theorem tnb_turnL (X : List Int) (m t : Nat) (h : m + t = X.length) : tnb X m = turnL X t := by
  unfold tnb turnL
  rw [show X.length - t = m from by omega]
theorem Own.form5 {w : World} {base : Nat} {v : Value} {xs : List Int} (h : Own w base v xs) (k : Nat) (hk : k < xs.length) (z : Int) :
    ∃ g c, v = .slice (some ⟨g, 0, none⟩) xs.length c ∧ base ≤ g ∧ g < w.heap.size ∧ w.cell? ⟨g, k, none⟩ = some (.int .u8 (xs.getD k 0)) ∧ w.frozen? ⟨g, k, none⟩ = false ∧
      Own (w.setCell ⟨g, k, none⟩ (.int .u8 z)) base (.slice (some ⟨g, 0, none⟩) xs.length c) (xs.set k z) := by
  have hv : ∃ g c, v = .slice (some ⟨g, 0, none⟩) xs.length c := by
    rcases h.2 with ⟨_, h0⟩ | ⟨g, cap, cur, rfl, _⟩
    · omega
    · exact ⟨g, cap, rfl⟩
  obtain ⟨g, c, rfl⟩ := hv
  have hlt := World.ownsRow.lt h g rfl
  refine ⟨g, c, rfl, hlt.1, hlt.2, ?_, World.ownsRow.frozenAt h k, ?_⟩
  · rw [World.ownsRow.cellAt h k (by omega)]
    simp [bc, List.getD, List.getElem?_eq_getElem hk]
  · have := (World.ownsRow.stored h k (.int .u8 z)).1
    refine Own.of_bc (n := xs.length) ?_ (by simp)
    rw [show bc (xs.set k z) = (bc xs).set k (.int .u8 z) from by simp [bc, List.map_set]]
    exact this
end Go.Proofs.Ytmggmnbialacbaa

/-
  The document's own disk: one more file of the disk that Crash is making.
-/
set_option linter.unusedVariables false
set_option linter.unusedSimpArgs false
namespace Go.Proofs.Ytmggmnbialacbaa
open Go.RowKit Go.Maps

section
variable {w w' : World} {o : Nat} {κ : Nat → Ro} {vF vO : Value} {φ : Nat → Nat} {β : Nat → Value} {D : PDir} {fs : List (List Int × Nat)}
theorem Wc.same (h : Wc w o κ vF vO φ β D fs) (e : ∀ j, j < w.heap.size → w'.heap[j]? = w.heap[j]?) (hz : w.heap.size ≤ w'.heap.size) : Wc w' o κ vF vO φ β D fs :=
  ⟨h.rk.same (e o h.rk.lt), h.kr, row_any h.rF fun j q => e j (World.ownsRow.lt h.rF j q).2, h.kF, row_any h.rO fun j q => e j (World.ownsRow.lt h.rO j q).2, h.kO, fun i x hx => by
    obtain ⟨d1, d2, d3, d4⟩ := h.fil i x hx
    exact ⟨(e _ d1.lt).trans d1, d2, row_any d3 fun j q => e j (World.ownsRow.lt d3 j q).2, d4⟩, fun g hg => Nat.lt_of_lt_of_le (h.frs g hg) hz⟩

/-- Behind the first append: the files. -/
structure Half (W w7 : World) (o f sy : Nat) (vF vO v v' : Value) (φ : Nat → Nat) (n : Nat) (xs : List Int) (D : PDir) : Prop where
  rk : Rk w7 o v' vO (.slice none 0 0) (.slice none 0 0) 0 (-1) false
  fl : RFl w7 f v sy
  own : Own w7 W.heap.size v xs
  row : w7.ownsRow 0 95 1 v' (n + 1) (((List.range n).map fun i => rpt (φ i)) ++ [rpt f])
  nr : Nr w7 0 vO (nl D)
  fr : Fr (fun j => j = o ∨ vF.ownBlock = some j) W w7
  lo : W.heap.size ≤ f
  ne : ∀ g, v.ownBlock = some g → W.heap.size ≤ g ∧ g ≠ f
  at' : v'.ownBlock = vF.ownBlock ∨ ∃ g, v'.ownBlock = some g ∧ W.heap.size ≤ g ∧ g ≠ f ∧ v.ownBlock ≠ some g
  lt : ∀ g, v'.ownBlock = some g → g < w7.heap.size

theorem Wc.half {W w5 w6 : World} {sy : Nat} {v v' : Value} {xs : List Int} (h : Wc W o κ vF vO φ β D fs) (hB : Below W.heap.size W w5) (hv : Own w5 W.heap.size v xs) (t2 : TypeId)
    (hown : w6.ownsRow 0 95 1 v' (fs.length + 1) (((List.range fs.length).map fun i => rpt (φ i)) ++ [.pointer (some ⟨w5.heap.size, 0, none⟩)]))
    (hgrow : ((w5.alloc (.cells #[v, .int .i64 (sy : Int)] 94)).alloc (.cells #[.pointer (some ⟨w5.heap.size, 0, none⟩)] t2)).grownBy w6 vF.ownBlock)
    (hat : v'.ownBlock = vF.ownBlock ∨ v'.ownBlock = some ((w5.alloc (.cells #[v, .int .i64 (sy : Int)] 94)).alloc (.cells #[.pointer (some ⟨w5.heap.size, 0, none⟩)] t2)).heap.size) :
    w6.cell? ⟨o, 0, none⟩ = some vF ∧ w6.frozen? ⟨o, 0, none⟩ = false ∧ Half W (w6.setCell ⟨o, 0, none⟩ v') o w5.heap.size sy vF vO v v' φ fs.length xs D := by
  have hz := hB.size
  have hlt := h.rk.lt
  have h5 := h.same (w' := w5) (fun j hj => hB.block j hj) hz
  have hFl : ∀ j, vF.ownBlock = some j → j < W.heap.size := fun j e => (World.ownsRow.lt h.rF j e).2
  have hOl : ∀ j, vO.ownBlock = some j → j < W.heap.size := fun j e => (World.ownsRow.lt h.rO j e).2
  have hrF : some o ≠ vF.ownBlock := fun e => by
    have := h.kF o e.symm
    rw [h.kr] at this
    cases this
  have hOF : ∀ j, vO.ownBlock = some j → vF.ownBlock ≠ some j ∧ j ≠ o := fun j e => by
    have hk := h.kO j e
    constructor
    · intro q
      rw [h.kF j q] at hk
      cases hk
    · intro q
      rw [q, h.kr] at hk
      cases hk
  have sz : ((w5.alloc (.cells #[v, .int .i64 (sy : Int)] 94)).alloc (.cells #[.pointer (some ⟨w5.heap.size, 0, none⟩)] t2)).heap.size = w5.heap.size + 2 := by simp
  have up : ∀ j, j < w5.heap.size → vF.ownBlock ≠ some j → w6.heap[j]? = w5.heap[j]? := fun j hj hn => (hgrow.block j (by rw [sz]; omega) (fun q => hn q.symm)).trans ((Below.heap_alloc _ _ j (by simp; omega)).trans (Below.heap_alloc _ _ j hj))
  have k6 : Rk w6 o vF vO (.slice none 0 0) (.slice none 0 0) 0 (-1) false := h5.rk.same (up o h5.rk.lt (fun q => hrF q.symm))
  have fl6 : RFl w6 w5.heap.size v sy := (hgrow.block w5.heap.size (by rw [sz]; omega) (fun e => by have := hFl _ e.symm; omega)).trans ((Below.heap_alloc _ _ _ (by simp)).trans (heap_alloc_new _ _))
  have hs : ∀ j, j ≠ o → (w6.setCell ⟨o, 0, none⟩ v').heap[j]? = w6.heap[j]? := fun j hj => Below.heap_setCell _ _ _ _ (by simpa using hj)
  have nr' : ∀ g, v'.ownBlock = some g → g ≠ o := fun g e q => by
    rcases hat with e2 | e2
    · rw [e2, q] at e
      exact hrF e.symm
    · rw [e2, sz] at e
      have := Option.some.inj e
      omega
  have hvl : ∀ g, v.ownBlock = some g → W.heap.size ≤ g ∧ g < w5.heap.size := fun g e => World.ownsRow.lt hv g e
  refine ⟨k6.cells.1, k6.free 0, k6.set.1 v', (hs _ (by omega)).trans fl6, row_any hv fun j e => (hs j (by have := hvl j e; omega)).trans (up j (hvl j e).2 fun q => by have := hFl j q; have := hvl j e; omega), row_any hown fun j e => hs j (nr' j e), row_any h5.rO fun j e => (hs j (hOF j e).2).trans (up j (World.ownsRow.lt h5.rO j e).2 (hOF j e).1), ?_, hz, fun g e => ⟨(hvl g e).1, by have := hvl g e; omega⟩, ?_, fun g e => by have := (World.ownsRow.lt hown g e).2; simpa using this⟩
  · have F1 : Fr (fun j => j = o ∨ vF.ownBlock = some j) W w5 := ⟨hB.os, hB.tape, hB.output, hB.size, fun j hj _ => hB.block j hj⟩
    exact Fr.setCell (p := ⟨o, 0, none⟩) (((F1.alloc (.cells #[v, .int .i64 (sy : Int)] 94)).alloc (.cells #[.pointer (some ⟨w5.heap.size, 0, none⟩)] t2)).trans (G := fun j => vF.ownBlock = some j) (Fr.grown ⟨hgrow.os, hgrow.tape, hgrow.output, hgrow.size, hgrow.block⟩ (fun j e => e)) (fun j e => .inl (.inr e))) (.inl (.inl rfl)) _
  · rcases hat with e2 | e2
    · exact .inl e2
    · refine .inr ⟨_, e2, by rw [sz]; omega, by rw [sz]; omega, fun q => ?_⟩
      have := (hvl _ q).2
      rw [sz] at this
      omega

/-- Behind the second append: the names. -/
theorem Half.whole {W w7 w8 : World} {f sy : Nat} {v v' v'' : Value} {xs : List Int} {D' : PDir} (h : Wc W o κ vF vO φ β D fs) (H : Half W w7 o f sy vF vO v v' φ fs.length xs D)
    {W7 : World} (hW7 : ∀ j, j < w7.heap.size → W7.heap[j]? = w7.heap[j]?) (hz7 : w7.heap.size ≤ W7.heap.size) (hf7 : Fr (fun _ => False) w7 W7)
    (hown : Nr w8 0 v'' (nl D')) (hgrow : W7.grownBy w8 vO.ownBlock) (hat : vO.ownBlock = v''.ownBlock ∨ ∃ g, v''.ownBlock = some g ∧ w7.heap.size ≤ g) :
    w8.cell? ⟨o, 1, none⟩ = some vO ∧ w8.frozen? ⟨o, 1, none⟩ = false ∧ (∃ κ' φ' β', Wc (w8.setCell ⟨o, 1, none⟩ v'') o κ' v' v'' φ' β' D' (fs ++ [(xs, sy)]) ∧ ∀ j, j < W.heap.size → κ' j = κ j) ∧
    Fr (fun j => j = o ∨ vF.ownBlock = some j ∨ vO.ownBlock = some j) W (w8.setCell ⟨o, 1, none⟩ v'') := by
  have hz := H.fr.size
  have hOl : ∀ j, vO.ownBlock = some j → j < W.heap.size := fun j e => (World.ownsRow.lt h.rO j e).2
  have hoO : some o ≠ vO.ownBlock := fun e => by
    have := h.kO o e.symm
    rw [h.kr] at this
    cases this
  have up : ∀ j, j < w7.heap.size → vO.ownBlock ≠ some j → w8.heap[j]? = w7.heap[j]? := fun j hj hn => (hgrow.block j (by omega) (fun q => hn q.symm)).trans (hW7 j hj)
  have k8 : Rk w8 o v' vO (.slice none 0 0) (.slice none 0 0) 0 (-1) false := H.rk.same (up o H.rk.lt fun q => hoO q.symm)
  have hs : ∀ j, j ≠ o → (w8.setCell ⟨o, 1, none⟩ v'').heap[j]? = w8.heap[j]? := fun j hj => Below.heap_setCell _ _ _ _ (by simpa using hj)
  have holt := h.rk.lt
  have nf : f ≠ o := by have := H.lo; omega
  have nO : ∀ j, W.heap.size ≤ j → vO.ownBlock ≠ some j := fun j hj e => by have := hOl j e; omega
  have nO' : ∀ g, v'.ownBlock = some g → g ≠ o ∧ vO.ownBlock ≠ some g := fun g e => by
    rcases H.at' with e2 | ⟨g2, e2, q, _⟩
    · rw [e2] at e
      exact ⟨(fun q => by have := h.kF g e; rw [q, h.kr] at this; cases this), (fun q => by have := h.kF g e; rw [h.kO g q] at this; cases this)⟩
    · rw [e2] at e
      cases e
      exact ⟨by omega, nO g q⟩
  have n2 : ∀ g, v''.ownBlock = some g → g ≠ o := fun g e q => by
    rcases hat with e2 | ⟨g2, e2, q2⟩
    · rw [← e2, q] at e
      exact hoO e.symm
    · rw [e2] at e
      cases e
      have := H.rk.lt
      omega
  have fl9 : RFl (w8.setCell ⟨o, 1, none⟩ v'') f v sy := (hs f nf).trans ((up f H.fl.lt (nO f H.lo)).trans H.fl)
  have ow9 : Own (w8.setCell ⟨o, 1, none⟩ v'') 0 v xs := row_any (Go.Joins.ownsRow_le H.own (Nat.zero_le _)) fun j e => (hs j (by have := (H.ne j e).1; omega)).trans (up j (World.ownsRow.lt H.own j e).2 (nO j (H.ne j e).1))
  have rw9 : (w8.setCell ⟨o, 1, none⟩ v'').ownsRow 0 95 1 v' (fs.length + 1) (((List.range fs.length).map fun i => rpt (φ i)) ++ [rpt f]) := row_any H.row fun j e => (hs j (nO' j e).1).trans (up j (H.lt j e) (nO' j e).2)
  have nr9 : Nr (w8.setCell ⟨o, 1, none⟩ v'') 0 v'' (nl D') := row_any hown fun j e => hs j (n2 j e)
  have F9 : Fr (fun j => j = o ∨ vF.ownBlock = some j ∨ vO.ownBlock = some j) W (w8.setCell ⟨o, 1, none⟩ v'') := by
    have F7 : Fr (fun j => j = o ∨ vF.ownBlock = some j ∨ vO.ownBlock = some j) W w7 := H.fr.mono fun j _ e => e.elim .inl fun e => .inr (.inl e)
    exact Fr.setCell (p := ⟨o, 1, none⟩) ((F7.trans hf7 fun j e => e.elim).trans (G := fun j => vO.ownBlock = some j) (Fr.grown ⟨hgrow.os, hgrow.tape, hgrow.output, hgrow.size, hgrow.block⟩ (fun j e => e)) (fun j e => .inl (.inr (.inr e)))) (.inl (.inl rfl)) _
  refine ⟨k8.cells.2.1, k8.free 1, h.step (f := f) H.lo fl9 ow9 H.ne rw9 H.at' nr9 ?_ (k8.set.2.1 v'') F9, F9⟩
  rcases hat with e2 | ⟨g, e2, q2⟩
  · exact .inl e2.symm
  · have hf := H.fl.lt
    exact .inr ⟨g, e2, by omega, by omega, fun e => by have := (World.ownsRow.lt H.own g e).2; omega, fun e => by have := H.lt g e; omega⟩
end
theorem crash_below {wR W w9 : World} {o : Nat} {vF vO : Value} (hB : Below o wR W) (F : Fr (fun j => j = o ∨ vF.ownBlock = some j ∨ vO.ownBlock = some j) W w9) (hn : ∀ q, q < o → vF.ownBlock ≠ some q ∧ vO.ownBlock ≠ some q) (ho : o ≤ W.heap.size) : Below o wR w9 :=
  ⟨by rw [F.os, hB.os], by rw [F.tape, hB.tape], by rw [F.output, hB.output], Nat.le_trans hB.size F.size, fun j hj => (F.block j (by omega) (by
    rintro (e | e | e)
    · omega
    · exact (hn j hj).1 e
    · exact (hn j hj).2 e)).trans (hB.block j hj)⟩
end Go.Proofs.Ytmggmnbialacbaa

/-
  The document's own disk: Read, Poke.
-/
set_option linter.unusedVariables false
set_option linter.unusedSimpArgs false
namespace Go.Proofs.Ytmggmnbialacbaa
open Go.RowKit Go.Maps

section
variable {w w' : World} {r : Nat} {κ : Nat → Ro} {vF vO vL vN : Value} {φ : Nat → Nat} {β : Nat → Value} {P : PD} {cut : Int} {off : Bool}
set_option maxHeartbeats 2000000 in
set_option maxRecDepth 100000 in
theorem ref_read (h : RD w r κ P cut off) (hP : P.inv) (s : ByteArray) (hs : s.size ≤ maxLen) :
    Calls Try.prog 30 #[.pointer (some ⟨r, 0, none⟩), .string s] w fun e w' => (∃ ao len cap, e = .returned (.tuple #[.slice ao len cap, .int .i64 (if off = true then 24 else (Land.pread P s).1)]) ∧ Sl w ao len cap (if off = true then [] else (Land.pread P s).2)) ∧ w' = w := by
  obtain ⟨vF, vO, vL, vN, φ, β, h⟩ := h
  have hg := hP.now
  have hl := hg.len
  have hi1 := refIsName_any s w hs
  have hf := find_ref h.rN (by rw [nl_len]; omega) s
  rw [nl_find hg.txt] at hf
  obtain ⟨c0, c1, c2, c3, c4, c5, c6⟩ := h.rk.cells
  cases off with
  | true =>
    clear hf hi1 h
    go_enter Try.func30, Try.ntmps30
    go_wp2
    go_ret2
    exact ⟨⟨none, 0, 0, rfl, Sl.nil w⟩, rfl⟩
  | false =>
    show Calls _ _ _ _ fun e w' => (∃ ao len cap, e = .returned (.tuple #[.slice ao len cap, .int .i64 (Land.pread P s).1]) ∧ Sl w ao len cap (Land.pread P s).2) ∧ w' = w
    unfold Land.pread
    cases hn : isName s with
    | false =>
      rw [hn] at hi1
      rw [if_pos rfl]
      clear hf h
      go_enter Try.func30, Try.ntmps30
      go_wp2_with fail
      refine hi1.mono ?_
      rintro e w' ⟨rfl, rfl⟩
      go_wp2
      go_ret2
      exact ⟨⟨none, 0, 0, rfl, Sl.nil _⟩, rfl⟩
    | true =>
      rw [hn] at hi1
      rw [if_neg (by decide)]
      cases e : plook (kl s) P.now with
      | none =>
        rw [e] at hf
        clear h
        go_enter Try.func30, Try.ntmps30
        go_wp2_with fail
        refine hi1.mono ?_
        rintro e w' ⟨rfl, rfl⟩
        go_wp2_with fail
        refine hf.mono ?_
        rintro e w' ⟨rfl, rfl⟩
        go_wp2
        go_ret2
        exact ⟨⟨none, 0, 0, rfl, Sl.nil _⟩, rfl⟩
      | some i =>
        rw [e] at hf
        obtain ⟨a1, a2, a3, a4⟩ := hP.at e
        have hil := (List.getElem?_eq_some_iff.1 a1).1
        obtain ⟨g, cap, rfl, hcell, hkg⟩ := h.files (i := i) hil
        unfold rpt at hcell
        obtain ⟨b1, b2, b3, b4⟩ := h.fil i _ a1
        obtain ⟨ao, lb, capb, hbv, hsl, _⟩ := b3.sl' a2
        rw [hbv] at b1
        obtain ⟨q0, q1⟩ := b1.cells
        have hin : ¬ ((i : Int) < 0) := by omega
        have HS := hide2 hsl
        clear h a1 a2 a3 a4 b1 b2 b3 b4 hsl
        go_enter Try.func30, Try.ntmps30
        go_wp2_with fail
        refine hi1.mono ?_
        rintro e w' ⟨rfl, rfl⟩
        go_wp2_with fail
        refine hf.mono ?_
        rintro e w' ⟨rfl, rfl⟩
        go_wp2
        go_ret2
        exact ⟨⟨ao, lb, capb, rfl, HS.out⟩, rfl⟩

/-- The bytes of a file are other ones. -/
theorem Wd.bytes (h : Wd w r κ vF vO vL vN φ β P cut off) {i : Nat} (hi : i < P.fil.length) {y : List Int × Nat} (hy : P.fil[i]? = some y) {ys : List Int} (ho : Own w' 0 (β i) ys) (F : Fr (fun j => (β i).ownBlock = some j) w w') : Rres w w' r κ { P with fil := P.fil.set i (ys, y.2) } cut off := by
  obtain ⟨b1, b2, b3, b4⟩ := h.fil i y hy
  have sm : Sm κ (fun x => x = .byt i) w w' := ⟨F.size, fun j hj hn => F.block j hj fun e => hn (b4 j e)⟩
  have hlen : (P.fil.set i (ys, y.2)).length = P.fil.length := by simp
  refine ⟨κ, ⟨vF, vO, vL, vN, φ, β, h.oK sm (by simp), h.kr, ?_, h.kF, h.oO sm (by simp), h.kO, h.oL sm (by simp), h.kL, h.oN sm (by simp), h.kN, fun k x hx => ?_, fun g hg => Nat.lt_of_lt_of_le (h.frs g hg) sm.1⟩, fun _ _ => rfl, F.mono fun j _ e => by rw [b4 j e]; exact Ro.noConfusion⟩
  · show World.ownsRow _ 0 _ 1 _ (P.fil.set i (ys, y.2)).length ((List.range (P.fil.set i (ys, y.2)).length).map _)
    rw [hlen]
    exact h.oF sm (by simp)
  · have hx' : (P.fil.set i (ys, y.2))[k]? = some x := hx
    by_cases e : k = i
    · subst e
      rw [List.getElem?_set, if_pos rfl, if_pos hi] at hx'
      cases hx'
      exact ⟨(sm.2 _ b1.lt (by rw [b2]; simp)).trans b1, b2, ho, b4⟩
    · rw [List.getElem?_set, if_neg (Ne.symm e)] at hx'
      exact h.oFil sm k x hx' (by simp) (by simp [e])

set_option maxHeartbeats 2000000 in
set_option maxRecDepth 100000 in
theorem ref_poke (h : RD w r κ P cut off) (hP : P.inv) (s : ByteArray) (hs : s.size ≤ maxLen) (k b : Int) :
    Calls Try.prog 38 #[.pointer (some ⟨r, 0, none⟩), .string s, .int .i64 k, .int .u8 b] w fun e w' => e = .returned (.int .i64 (Land.ppoke P s k b).1) ∧ Rres w w' r κ (Land.ppoke P s k b).2 cut off := by
  obtain ⟨vF, vO, vL, vN, φ, β, h⟩ := h
  have hsame : Rres w w r κ P cut off := ⟨κ, ⟨vF, vO, vL, vN, φ, β, h⟩, fun _ _ => rfl, Fr.refl _ _⟩
  have hg := hP.now
  have hl := hg.len
  have hi1 := refIsName_any s w hs
  have hf := find_ref h.rN (by rw [nl_len]; omega) s
  rw [nl_find hg.txt] at hf
  obtain ⟨c0, c1, c2, c3, c4, c5, c6⟩ := h.rk.cells
  unfold Land.ppoke
  cases hn : isName s with
  | false =>
    rw [hn] at hi1
    rw [if_pos rfl]
    clear hf h
    go_enter Try.func38, Try.ntmps38
    go_wp2_with fail
    refine hi1.mono ?_
    rintro e w' ⟨rfl, rfl⟩
    go_wp2
    go_ret
    exact ⟨rfl, hsame⟩
  | true =>
    rw [hn] at hi1
    rw [if_neg (by decide)]
    cases e : plook (kl s) P.now with
    | none =>
      rw [e] at hf
      clear h
      go_enter Try.func38, Try.ntmps38
      go_wp2_with fail
      refine hi1.mono ?_
      rintro e w' ⟨rfl, rfl⟩
      go_wp2_with fail
      refine hf.mono ?_
      rintro e w' ⟨rfl, rfl⟩
      go_wp2
      go_ret
      exact ⟨rfl, hsame⟩
    | some i =>
      rw [e] at hf
      obtain ⟨a1, a2, a3, a4⟩ := hP.at e
      have hil := (List.getElem?_eq_some_iff.1 a1).1
      obtain ⟨g, cap, rfl, hcell, hkg⟩ := h.files (i := i) hil
      unfold rpt at hcell
      obtain ⟨b1, b2, b3, b4⟩ := h.fil i _ a1
      obtain ⟨ao, lb, capb, hbv, hsl, _⟩ := b3.sl' a2
      have hll : lb = (P.at i).1.length := hsl.1.symm
      have b1' := b1
      rw [hbv] at b1'
      obtain ⟨q0, q1⟩ := b1'.cells
      have hin : ¬ ((i : Int) < 0) := by omega
      show Calls _ _ _ _ fun e w' => e = .returned (.int .i64 (if k < 0 ∨ ((P.at i).1.length : Int) ≤ k then (2, P) else _).1) ∧ Rres w w' r κ (if k < 0 ∨ ((P.at i).1.length : Int) ≤ k then (2, P) else _).2 cut off
      by_cases hk : k < 0 ∨ ((P.at i).1.length : Int) ≤ k
      · rw [if_pos hk]
        by_cases h0 : k < 0
        · have d0 : decide (k < 0) = true := by simpa using h0
          clear h a1 a2 a3 a4 b1 b2 b3 b4 hsl
          go_enter Try.func38, Try.ntmps38
          go_wp2_with fail
          refine hi1.mono ?_
          rintro e w' ⟨rfl, rfl⟩
          go_wp2_with fail
          refine hf.mono ?_
          rintro e w' ⟨rfl, rfl⟩
          go_wp2
          go_ret
          exact ⟨rfl, hsame⟩
        · have d0 : decide (k < 0) = false := by simpa using h0
          have h1 : (lb : Int) ≤ k := by omega
          have d1 : decide ((lb : Int) ≤ k) = true := by simpa using h1
          clear h a1 a2 a3 a4 b1 b2 b3 b4 hsl
          go_enter Try.func38, Try.ntmps38
          go_wp2_with fail
          refine hi1.mono ?_
          rintro e w' ⟨rfl, rfl⟩
          go_wp2_with fail
          refine hf.mono ?_
          rintro e w' ⟨rfl, rfl⟩
          go_wp2
          go_ret
          exact ⟨rfl, hsame⟩
      · rw [if_neg hk]
        obtain ⟨k', rfl⟩ : ∃ k' : Nat, k = (k' : Int) := ⟨k.toNat, by omega⟩
        have b3' := b3
        rw [hbv] at b3'
        obtain ⟨gb, rfl⟩ : ∃ gb, ao = some ⟨gb, 0, none⟩ := by
          rcases Go.Joins.ownsRow_forms b3' with ⟨e, h0⟩ | ⟨g, c2, e⟩
          · omega
          · cases e; exact ⟨g, rfl⟩
        rw [hll] at b3'
        have fz : w.frozen? ⟨gb, k', none⟩ = false := World.ownsRow.frozenAt b3' k'
        obtain ⟨cv, hcv⟩ : ∃ cv, w.cell? ⟨gb, k', none⟩ = some cv := by
          have hk2 : k' < (bc (P.at i).1).length := by rw [bc_length]; omega
          exact ⟨_, (World.ownsRow.cellAt b3' k' (by omega)).trans (List.getElem?_eq_getElem hk2)⟩
        have hst := World.ownsRow.stored b3' k' (.int .u8 b)
        have hF : Fr (fun j => (β i).ownBlock = some j) w (w.setCell ⟨gb, k', none⟩ (.int .u8 b)) := Fr.grown hst.2 (fun j e => by cases e; rw [hbv]; rfl)
        have hres : Rres w (w.setCell ⟨gb, k', none⟩ (.int .u8 b)) r κ { P with fil := P.fil.set i ((P.at i).1.set k' b, (P.at i).2) } cut off := h.bytes hil a1 (by
          rw [hbv, hll]
          unfold Own
          rw [Land.bc_set, List.length_set]
          exact hst.1) hF
        have h0 : ¬ ((k' : Int) < 0) := by omega
        have h1 : ¬ ((lb : Int) ≤ (k' : Int)) := by omega
        have hlt' : k' < lb := by omega
        have d0 : decide ((k' : Int) < 0) = false := by simp
        have d1 : decide ((lb : Int) ≤ (k' : Int)) = false := by simpa using hlt'
        have HR := hide2 hres
        clear h a1 a2 a3 a4 b1 b2 b3 b4 hsl hst hF hres b3' hsame
        go_enter Try.func38, Try.ntmps38
        go_wp2_with fail
        refine hi1.mono ?_
        rintro e w' ⟨rfl, rfl⟩
        go_wp2_with fail
        refine hf.mono ?_
        rintro e w' ⟨rfl, rfl⟩
        go_wp2
        go_ret
        exact ⟨rfl, HR.out⟩
end
end Go.Proofs.Ytmggmnbialacbaa

/-
  The document's own disk: Names.
-/
set_option linter.unusedVariables false
set_option linter.unusedSimpArgs false
namespace Go.Proofs.Ytmggmnbialacbaa
open Go.RowKit Go.Maps

theorem infoStr : (Try.prog.info? 9).map (fun i => (i.zero, i.size, i.bytes)) = some (some (.string .empty), 1, 16) := by kernel_rfl
def sc (l : List ByteArray) : List Value := l.map Value.string
theorem nl_at {D : PDir} {k : Nat} {p : Lit × Nat} (h : D[k]? = some p) : (nl D)[k]? = some (ks p.1, (p.2 : Int)) := by
  unfold nl
  rw [List.getElem?_map, h]
  rfl
set_option maxRecDepth 100000 in
set_option maxHeartbeats 2000000 in
theorem ref_names {w : World} {r : Nat} {κ : Nat → Ro} {P : PD} {cut : Int} {off : Bool} (h : RD w r κ P cut off) (hP : P.inv) :
    Calls Try.prog 40 #[.pointer (some ⟨r, 0, none⟩)] w fun e w' => ∃ ao len cap, e = .returned (.slice ao len cap) ∧ St w' ao len cap (Land.dnames P.now) ∧ Below w.heap.size w w' := by
  obtain ⟨vF, vO, vL, vN, φ, β, h⟩ := h
  obtain ⟨i0, hi, hz0, hz1, hz2⟩ := info_parts infoStr
  have hg := hP.now
  have hl := hg.len
  have hlt := h.rk.lt
  obtain ⟨c0, c1, c2, c3, c4, c5, c6⟩ := h.rk.cells
  obtain ⟨ao, cap, rfl⟩ := h.rN.form
  have HR := hide2 h.rN.row
  have HG := hide2 hg
  have hnlen : (nl P.now).length = P.now.length := nl_len _
  have HRK := hide2 h.rk
  clear h c0 c1 c2 c4 c5 c6 hg
  rw [hnlen] at HR HRK c3
  generalize hD : P.now = D at *
  go_enter Try.func40, Try.ntmps40
  go_wp2
  go_loopw [3, 4] (fun v i wr => ∃ k : Nat, k ≤ D.length ∧ i = .int .i64 k ∧ wr.ownsRow w.heap.size 9 1 v k (sc (Land.dnames (D.take k))) ∧ Below w.heap.size w wr) (fun _ i _ => D.length - (intOf i).toNat)
  case atStart => exact ⟨0, by omega, rfl, ⟨rfl, .inl ⟨rfl, rfl⟩⟩, Below.refl _ _⟩
  case round =>
    obtain ⟨k, hk, rfl, hown, hB⟩ := hrel
    have hsz := hB.size
    have q3 : wr.cell? ⟨r, 3, none⟩ = some (.slice ao D.length cap) := (hB.cell (p := ⟨r, 3, none⟩) hlt).trans c3
    by_cases hkl : k < D.length
    · obtain ⟨g, cap', e, hgg, hgl, hcell⟩ := HR.out (by omega)
      cases e
      obtain ⟨p, hp⟩ : ∃ p, D[k]? = some p := ⟨D[k], List.getElem?_eq_getElem hkl⟩
      obtain ⟨q0, q1⟩ := hcell k _ (nl_at hp)
      have a0 : wr.cell? ⟨g, k * 2, none⟩ = some (.string (ks p.1)) := (hB.cell (p := ⟨g, k * 2, none⟩) hgl).trans q0
      have hts : sc (Land.dnames (D.take (k + 1))) = sc (Land.dnames (D.take k)) ++ [.string (ks p.1)] := by
        rw [List.take_add_one, hp]
        simp [sc, Land.dnames]
      have hc2 : (k : Int) < (D.length : Int) := by omega
      have HT := hide2 hts
      have HO := hide2 hown
      clear hcell q0 q1 hts hown hp
      go_wp2_with (first
        | (at_builtin; refine Hid.out ?_)
        | go_in)
      refine hide2 ?_
      refine wpList_append_own _ rfl _ _ 38 rfl w.heap.size 9 i0 (.string .empty) 1 16 Try.underlying38 hi hz0 hz1 hz2 rfl (by decide) u3 _ _ rfl (World.ownsRow.alloc HO.out _) ⟨wr.heap.size, 0, none⟩ 1 1 [.string (ks p.1)] rfl rfl (cell_one_new _ _ _) (by intro u hu; simp at hu; subst hu; rfl) (by unfold maxLen; omega) (by omega) (by simp; omega) ?_
      intro v' w2 hown' hgrow _
      have hB2 : Below w.heap.size w w2 := (hB.alloc hsz (.cells #[.string (ks p.1)] 9)).trans ((Below.refl _ _).grown hgrow (by simp; omega) fun k hk => (World.ownsRow.lt HO.out k hk).1)
      clear hgrow HO a0
      go_frame
      go_wp2
      go_roundw
      case rel => exact ⟨k + 1, by omega, by go_num, by rw [HT.out]; exact hown', hB2⟩
      case measure => simp [intOf]; omega
    · obtain rfl : k = D.length := by omega
      rw [List.take_length] at hown
      go_wp2
      go_ret
      have hmem : ∀ s ∈ Land.dnames D, s.size ≤ maxLen := fun s hs => by
        obtain ⟨p, hp, rfl⟩ := List.mem_map.1 hs
        obtain ⟨⟨t, et, hn⟩, _⟩ := HG.out.all p hp
        rw [et, ks_kl]
        have := isName_size hn
        unfold maxLen
        omega
      have hdl : (Land.dnames D).length = D.length := by simp [Land.dnames]
      rcases hown.2 with ⟨rfl, h0⟩ | ⟨g, cap2, cur, rfl, hg, hh, hn, hm2, hcs, hct⟩
      · exact ⟨none, 0, 0, rfl, ⟨by omega, Nat.le_refl _, Nat.zero_le _, hmem, fun h => absurd h (by omega)⟩, hB⟩
      · refine ⟨some ⟨g, 0, none⟩, D.length, cap2, rfl, ⟨hdl, hn, hm2, hmem, fun _ => ⟨g, 0, rfl, (Array.getElem?_eq_some_iff.1 hh).1, fun i hi => ?_⟩⟩, hB⟩
        rw [Nat.zero_add, World.ownsRow.cellAt hown i (by omega)]
        unfold sc
        rw [List.getElem?_map, List.getElem?_eq_getElem (by omega)]
        simp [List.getD, List.getElem?_eq_getElem (show i < (Land.dnames D).length by omega)]
end Go.Proofs.Ytmggmnbialacbaa
