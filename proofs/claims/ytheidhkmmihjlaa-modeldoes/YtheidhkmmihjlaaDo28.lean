/-
  XnK: The document's Apply.
-/
import Derived.Test.YtheidhkmmihjlaaDo23
import Derived.Test.YtheidhkmmihjlaaDo21
import Derived.Test.YtheidhkmmihjlaaDo27
import Derived.BigQuiet
import Derived.Test.YtheidhkmmihjlaaDo25
import Derived.Test.YtheidhkmmihjlaaDo15
import Derived.Test.YtheidhkmmihjlaaDo22
set_option linter.unusedVariables false
set_option linter.unusedSimpArgs false
namespace Go.Proofs.Ytheidhkmmihjlaa
open Go.RowKit
open ML (Ro RS Rr Srt nless)
attribute [local go_sem] Oper.semAt_some
/-- What Apply is answered, and leaves. -/
def apl (S : Ms) (t : Int) (ps : List Wr) : Ms × Int := if S.ws.isSome = false ∧ rightC ⟨t, ps⟩ = true ∧ S.t < t then (⟨doneW t S.L ps, t, none⟩, 0) else (S, 180)
section
set_option maxHeartbeats 8000000
set_option maxRecDepth 100000
variable {w : World} {Y : Nat} {L : List Ro} {tt : Int} {o : Option (List Wr)} {ao ao2 ax : Option Addr} {cap cap2 len cx : Nat} {ps : List Wr}
theorem rapply_any (h : Rm w Y ⟨L, tt, o⟩ ao cap ao2 cap2) (hL : L.length + 64 ≤ 10000000) (t : Int) (hw : WS w ax len cx ps) (hwu : ∀ u, Chg (fun j => j = Y) w u → WS u ax len cx ps) :
    Calls Try.prog 12 #[ptr Y, .agg #[.int .i64 t, .slice ax len cx]] w fun e w' => e = .returned (.int .i64 (apl ⟨L, tt, o⟩ t ps).2) ∧ Rn w w' Y ao ao2 (apl ⟨L, tt, o⟩ t ps).1 ∧ Chg (fun j => j = Y) w w' := by
  obtain rfl := hw.1
  have hlY := h.lt
  obtain ⟨W1, hW1⟩ : ∃ W1, W1 = w.alloc (.cells #[.int .i64 t, .slice ax ps.length cx] 36) := ⟨_, rfl⟩
  have hb1 : Below w.heap.size w W1 := by rw [hW1]; exact ML.below1 _ _
  have hz1 : W1.heap.size = w.heap.size + 1 := by rw [hW1]; simp
  have hc1 : W1.heap[w.heap.size]? = some (.cells #[.int .i64 t, .slice ax ps.length cx] 36 (0, 0)) := by rw [hW1]; exact heap_alloc_new _ _
  have hw1 := ws_below hw hb1
  have HRC := xhide (refRightCommit_any t hw1)
  have H := xhide h
  have HB1 := xhide hb1
  have HC1 := xhide hc1
  have HWS : Hid (∀ u, Chg (fun j => j = Y) W1 u → WS u ax ps.length cx ps) := xhide (fun u hu => hwu u ((Chg.below hb1).trans hu (fun j _ q => q)))
  clear h hb1 hc1 hw hw1 hwu
  go_enter Try.func12, Try.ntmps12
  go_wp2_with fail
  rw [← hW1]
  clear hW1
  refine HRC.out.mono ?_
  rintro e w2 ⟨rfl, hb2⟩
  have hz2 := hb2.size
  have hc2 := (hb2.block _ (by omega)).trans HC1.out
  have hm2 := H.out.below (HB1.out.trans (hb2.mono HB1.out.size))
  have y1 : w2.cell? ⟨Y, 1, none⟩ = some (.int .i64 tt) := hm2.cells.2.1
  have y2 : w2.cell? ⟨Y, 2, none⟩ = some (.bool o.isSome) := hm2.cells.2.2.1
  have hY2 := hm2.lt
  have x0 : w2.cell? ⟨w.heap.size, 0, none⟩ = some (.int .i64 t) := by rw [Go.Joins.cell_of_block hc2]; rfl
  have x1 : w2.cell? ⟨w.heap.size, 1, none⟩ = some (.slice ax ps.length cx) := by rw [Go.Joins.cell_of_block hc2]; rfl
  have hxl : w.heap.size < w2.heap.size := by omega
  have HB2 := xhide (HB1.out.trans (hb2.mono HB1.out.size))
  have HB12 := xhide hb2
  have HM2 := xhide hm2
  clear hb2 hc2 hm2 HRC
  have stay : ∀ u, Below w.heap.size w u → (apl ⟨L, tt, o⟩ t ps) = (⟨L, tt, o⟩, 180) → Rn w u Y ao ao2 (apl ⟨L, tt, o⟩ t ps).1 ∧ Chg (fun j => j = Y) w u := fun u hu e => by
    rw [e]
    exact ⟨⟨_, _, _, _, H.out.below hu, fun j hj => .inl hj, fun j hj => .inl hj⟩, Chg.below hu⟩
  cases o with
  | some ws =>
    have HE : Hid (apl ⟨L, tt, some ws⟩ t ps = (⟨L, tt, some ws⟩, 180)) := xhide (by unfold apl; rw [if_neg (fun q => by cases q.1)])
    have HST := xhide stay
    clear stay
    generalize rightC ⟨t, ps⟩ = rb at *
    go_wp2_with fail
    go_quiet (fail)
    go_wp2
    go_ret
    exact ⟨by rw [HE.out]; rfl, HST.out _ (xdrew HB2.out _) HE.out⟩
  | none =>
    cases hr : rightC ⟨t, ps⟩ with
    | false =>
      have HE : Hid (apl ⟨L, tt, none⟩ t ps = (⟨L, tt, none⟩, 180)) := xhide (by unfold apl; rw [if_neg (fun q => by rw [hr] at q; cases q.2.1)])
      have HST := xhide stay
      clear stay
      go_wp2_with fail
      go_quiet (fail)
      go_wp2
      go_ret
      exact ⟨by rw [HE.out]; rfl, HST.out _ (xdrew HB2.out _) HE.out⟩
    | true =>
      by_cases htt : t ≤ tt
      · have HE : Hid (apl ⟨L, tt, none⟩ t ps = (⟨L, tt, none⟩, 180)) := xhide (by unfold apl; rw [if_neg (fun q => by have := q.2.2; simp only [] at this; omega)])
        have HST := xhide stay
        clear stay
        go_wp2_with fail
        go_quiet (fail)
        go_wp2
        go_ret
        exact ⟨by rw [HE.out]; rfl, HST.out _ (xdrew HB2.out _) HE.out⟩
      · have HE : Hid (apl ⟨L, tt, none⟩ t ps = (⟨doneW t L ps, t, none⟩, 0)) := xhide (by unfold apl; rw [if_pos ⟨rfl, hr, by show tt < t; omega⟩])
        obtain ⟨r1, r2, r3, r4⟩ := rightC_iff hr
        have HS0 : Hid (∀ u, Below w2.heap.size w2 u → ∃ a c a2 c2, Rm u Y ⟨doneW t L (ps.take 0), tt, none⟩ a c a2 c2 ∧ (∀ j ∈ Kr a, j ∈ Kr ao ∨ w.heap.size ≤ j) ∧ (∀ j ∈ Kr a2, j ∈ Kr ao2 ∨ w.heap.size ≤ j) ∧ Chg (fun j => j = Y) W1 u) := xhide (fun u hu => ⟨_, _, _, _, HM2.out.below hu, fun j hj => .inl hj, fun j hj => .inl hj, (Chg.below HB12.out).trans (Chg.below (s := fun j => j = Y) hu) (fun j _ q => q)⟩)
        clear stay r1 r3 r4 HM2 hr
        go_wp2_with fail
        go_quiet (fail)
        go_wp2_with fail
        go_loopw [6] (fun i wr => ∃ k : Nat, k ≤ ps.length ∧ i = .int .i64 (k : Nat) ∧ Hid (∃ a c a2 c2, Rm wr Y ⟨doneW t L (ps.take k), tt, none⟩ a c a2 c2 ∧ (∀ j ∈ Kr a, j ∈ Kr ao ∨ w.heap.size ≤ j) ∧ (∀ j ∈ Kr a2, j ∈ Kr ao2 ∨ w.heap.size ≤ j) ∧ Chg (fun j => j = Y) W1 wr)) (fun i _ => ps.length - (intOf i).toNat)
        case atStart => exact ⟨0, by omega, rfl, xhide (HS0.out _ (xdrew (Below.refl _ _) _))⟩
        case round =>
          obtain ⟨k, hk, rfl, HS⟩ := hrel
          clear HS0 y1 y2 hY2 x0 x1 hxl
          obtain ⟨a, c, a2, c2, hm, hA, hA2, hcg⟩ := HS.out
          have hYr := hm.lt
          have hRl : w.heap.size < W1.heap.size := by omega
          have hcr := (hcg.2 w.heap.size hRl (by omega)).trans HC1.out
          have x0 : wr.cell? ⟨w.heap.size, 0, none⟩ = some (.int .i64 t) := by rw [Go.Joins.cell_of_block hcr]; rfl
          have x1 : wr.cell? ⟨w.heap.size, 1, none⟩ = some (.slice ax ps.length cx) := by rw [Go.Joins.cell_of_block hcr]; rfl
          have hxl : w.heap.size < wr.heap.size := (Array.getElem?_eq_some_iff.1 hcr).1
          have hszr := hcg.size
          by_cases hlt : k < ps.length
          · obtain ⟨x, hx⟩ := some_at (l := ps) rfl hlt
            obtain ⟨g, off, rfl, hgl, hc⟩ := (HWS.out _ hcg).2.2.2 (by omega)
            have c0 := hc k x hx 0 _ rfl
            have c1 := hc k x hx 1 _ rfl
            have c2' := hc k x hx 2 _ rfl
            rw [Nat.add_zero] at c0
            have d1 : (k : Int) < (ps.length : Int) := by omega
            have hll : (doneW t L (ps.take k)).length ≤ 10000000 := by
              have h1 := doneW_len (t := t) (ps.take k) L
              have h2 : (ps.take k).length ≤ k := List.length_take_le _ _
              omega
            have HL : Hid (∀ u, Below wr.heap.size wr u → Calls Try.prog 33 #[ptr Y, x.w, .int .i64 t] u fun e w' => e = .returned (.tuple #[]) ∧ Rn u w' Y a a2 ⟨doneD (doneW t L (ps.take k)) x t, tt, none⟩ ∧ Chg (fun j => j = Y) u w') := xhide (fun u hu => rlay_any (hm.below hu) hll x t)
            have HTK := xhide (doneW_take (t := t) (L := L) hx)
            have HA := xhide hA
            have HA2 := xhide hA2
            have HCG := xhide hcg
            clear hc hm hA hA2 hcg HS hx hcr
            go_wp2_with fail
            go_region_with (go_at_call 33; refine (HL.out _ (by exact ⟨rfl, rfl, rfl, Nat.le_refl _, fun _ _ => rfl⟩)).mono ?_; rintro e w6 ⟨rfl, hn6, hc6⟩)
            all_goals
              obtain ⟨a', c', a2', c2', hm', h1', h2'⟩ := hn6
              have hc7 : Chg (fun j => j = Y) wr w6 := ⟨⟨hc6.1.os, hc6.1.tape, hc6.1.output, hc6.1.size, hc6.1.block⟩, fun j hj n => hc6.2 j hj n⟩
              have NX : Hid (∃ a c a2 c2, Rm w6 Y ⟨doneW t L (ps.take (k + 1)), tt, none⟩ a c a2 c2 ∧ (∀ j ∈ Kr a, j ∈ Kr ao ∨ w.heap.size ≤ j) ∧ (∀ j ∈ Kr a2, j ∈ Kr ao2 ∨ w.heap.size ≤ j) ∧ Chg (fun j => j = Y) W1 w6) := xhide ⟨a', c', a2', c2', by rw [HTK.out]; exact hm', fun j hj => (h1' j hj).elim (HA.out j) (fun q => .inr (by have q2 : wr.heap.size ≤ j := q; omega)), fun j hj => (h2' j hj).elim (HA2.out j) (fun q => .inr (by have q2 : wr.heap.size ≤ j := q; omega)), HCG.out.trans hc7 (fun j _ q => q)⟩
              clear hm' h1' h2' hc6 hc7
              go_wp2_with fail
              go_roundw
              case rel => exact ⟨k + 1, by omega, by go_num, NX⟩
              case measure => simp [intOf]; omega
          · obtain rfl : k = ps.length := by omega
            have d1 : ¬ (ps.length : Int) < (ps.length : Int) := by omega
            rw [List.take_length] at hm
            have z1 : wr.cell? ⟨Y, 1, none⟩ = some (.int .i64 tt) := hm.cells.2.1
            have f1 := hm.free 1
            have hm3 := hm.setT t
            have FIN : Hid (Rn w (wr.setCell ⟨Y, 1, none⟩ (.int .i64 t)) Y ao ao2 ⟨doneW t L ps, t, none⟩ ∧ Chg (fun j => j = Y) w (wr.setCell ⟨Y, 1, none⟩ (.int .i64 t))) := xhide
              ⟨⟨_, _, _, _, hm3, hA, hA2⟩, ((Chg.below (s := fun j => j = Y) HB1.out).trans hcg (fun j _ q => q)).trans (cell_chg wr Y 1 (.int .i64 t)) (fun j _ q => q)⟩
            clear hm hm3 hA hA2 hcg HS hcr
            go_wp2
            go_ret
            exact ⟨by rw [HE.out]; rfl, by rw [HE.out]; exact FIN.out.1, FIN.out.2⟩
end
end Go.Proofs.Ytheidhkmmihjlaa

/-
  XnJ: The program's Apply, of any commit.
-/
set_option linter.unusedVariables false
set_option linter.unusedSimpArgs false
namespace Go.Proofs.Ytheidhkmmihjlaa
open Go.RowKit
open ML (Ro RS Srt nless)
attribute [local go_sem] Oper.semAt_some
section
set_option maxHeartbeats 8000000
set_option maxRecDepth 100000
variable {w : World} {ao : Option Addr} {len cap : Nat} {ps : List Wr} {X b : Nat} {c : Option Nat} {S : Ms}
theorem apply_some {c0 : Nat} (h : Pm w X b (some c0) S) (t : Int) (v : Value) (hv : v = .slice ao len cap) : Calls Try.prog 11 #[ptr X, .agg #[.int .i64 t, v]] w fun e w' => e = .returned (.int .i64 180) ∧ Below w.heap.size w w' := by
  subst hv
  obtain ⟨W1, hW1⟩ : ∃ W1, W1 = w.alloc (.cells #[.int .i64 t, .slice ao len cap] 36) := ⟨_, rfl⟩
  have hb1 : Below w.heap.size w W1 := by rw [hW1]; exact ML.below1 _ _
  have h1 := h.below hb1
  obtain ⟨x0, x1, x2⟩ := h1.cells
  have HN := xhide (none_any h1)
  have q1 := neWs c0
  have hX := h1.lt
  have HB1 := xhide hb1
  clear h h1 hb1
  go_enter Try.func11, Try.ntmps11
  go_wp2_with fail
  rw [← hW1]
  clear hW1
  refine HN.out.mono ?_
  rintro e w1 ⟨rfl, rfl⟩
  go_wp2_with fail
  go_quiet (fail)
  go_wp2
  go_ret
  exact ⟨rfl, xdrew HB1.out _⟩
theorem apply_not (h : Pm w X b none S) (t : Int) (hw : WS w ao len cap ps) (hno : rightC ⟨t, ps⟩ = false ∨ t ≤ S.t) : Calls Try.prog 11 #[ptr X, .agg #[.int .i64 t, .slice ao len cap]] w fun e w' => e = .returned (.int .i64 180) ∧ Below w.heap.size w w' := by
  obtain ⟨W1, hW1⟩ : ∃ W1, W1 = w.alloc (.cells #[.int .i64 t, .slice ao len cap] 36) := ⟨_, rfl⟩
  have hb1 : Below w.heap.size w W1 := by rw [hW1]; exact ML.below1 _ _
  have h1 := h.below hb1
  obtain ⟨x0, x1, x2⟩ := h1.cells
  have hc : W1.heap[w.heap.size]? = some (.cells #[.int .i64 t, .slice ao len cap] 36 (0, 0)) := by rw [hW1]; exact ML.heap_alloc_at rfl _
  have z0 : W1.cell? ⟨w.heap.size, 0, none⟩ = some (.int .i64 t) := by rw [Go.Joins.cell_of_block hc]; rfl
  have z1 : W1.cell? ⟨w.heap.size, 1, none⟩ = some (.slice ao len cap) := by rw [Go.Joins.cell_of_block hc]; rfl
  have hlw : w.heap.size < W1.heap.size := (Array.getElem?_eq_some_iff.1 hc).1
  have HN := xhide (none_any h1)
  have q1 := neWn
  have hX := h1.lt
  have HB1 := xhide hb1
  have HBK := xhide hc
  have H1 := xhide h1
  cases hr : rightC ⟨t, ps⟩ with
  | false =>
    have HR : Hid (∀ u, Below W1.heap.size W1 u → Calls Try.prog 30 #[.agg #[.int .i64 t, .slice ao len cap]] u fun e w' => e = .returned (.bool false) ∧ Below W1.heap.size W1 w') := xhide (fun u hu => (isRight_any t (ws_below (ws_below hw hb1) hu)).mono fun e w' hh => ⟨by rw [hh.1, hr], hu.trans (hh.2.mono hu.size)⟩)
    clear h h1 hb1 hc hw hno hr
    go_enter Try.func11, Try.ntmps11
    go_wp2_with fail
    rw [← hW1]
    clear hW1
    refine HN.out.mono ?_
    rintro e w1 ⟨rfl, rfl⟩
    go_wp2_with fail
    first | (go_region_with (go_at_call 30; refine (HR.out _ (by exact ⟨rfl, rfl, rfl, Nat.le_refl _, fun _ _ => rfl⟩)).mono ?_; rintro e w3 ⟨rfl, hb4⟩; have hP3 := H1.out.below hb4; obtain ⟨k0, k1, k2⟩ := hP3.cells; have hl3 := hP3.lt; have hbk3 := (hb4.block _ hlw).trans HBK.out; have m0 : w3.cell? ⟨w.heap.size, 0, none⟩ = some (.int .i64 t) := (by rw [Go.Joins.cell_of_block hbk3]; rfl); have hlw3 : w.heap.size < w3.heap.size := (Array.getElem?_eq_some_iff.1 hbk3).1)) | fail
    all_goals
      go_wp2
      go_ret
      exact ⟨rfl, HB1.out.trans (hb4.mono HB1.out.size)⟩
  | true =>
    have hle : t ≤ S.t := by
      rcases hno with q | q
      · rw [hr] at q; cases q
      · exact q
    have HR : Hid (∀ u, Below W1.heap.size W1 u → Calls Try.prog 30 #[.agg #[.int .i64 t, .slice ao len cap]] u fun e w' => e = .returned (.bool true) ∧ Below W1.heap.size W1 w') := xhide (fun u hu => (isRight_any t (ws_below (ws_below hw hb1) hu)).mono fun e w' hh => ⟨by rw [hh.1, hr], hu.trans (hh.2.mono hu.size)⟩)
    clear h h1 hb1 hc hw hno hr
    go_enter Try.func11, Try.ntmps11
    go_wp2_with fail
    rw [← hW1]
    clear hW1
    refine HN.out.mono ?_
    rintro e w1 ⟨rfl, rfl⟩
    go_wp2_with fail
    go_region_with (go_at_call 30; refine (HR.out _ (by exact ⟨rfl, rfl, rfl, Nat.le_refl _, fun _ _ => rfl⟩)).mono ?_; rintro e w3 ⟨rfl, hb4⟩; have hP3 := H1.out.below hb4; obtain ⟨k0, k1, k2⟩ := hP3.cells; have hl3 := hP3.lt; have hbk3 := (hb4.block _ hlw).trans HBK.out; have m0 : w3.cell? ⟨w.heap.size, 0, none⟩ = some (.int .i64 t) := (by rw [Go.Joins.cell_of_block hbk3]; rfl); have hlw3 : w.heap.size < w3.heap.size := (Array.getElem?_eq_some_iff.1 hbk3).1)
    all_goals
      go_wp2
      go_ret
      exact ⟨rfl, HB1.out.trans (hb4.mono HB1.out.size)⟩
/-- Apply, whole. -/
theorem apply_any (h : Pm w X b c S) (hL : S.L.length + 64 ≤ 1000000000000000) (t : Int) (hw : WS w ao len cap ps) (hwu : ∀ u, Chg (fun j => j = X ∨ j = b) w u → WS u ao len cap ps) :
    Calls Try.prog 11 #[ptr X, .agg #[.int .i64 t, .slice ao len cap]] w fun e w' => e = .returned (.int .i64 (apl S t ps).2) ∧ Pm w' X b c (apl S t ps).1 ∧ Chg (fun j => j = X ∨ j = b) w w' := by
  have stay : ∀ w', Below w.heap.size w w' → (apl S t ps) = (S, 180) → Pm w' X b c (apl S t ps).1 ∧ Chg (fun j => j = X ∨ j = b) w w' := fun w' hb e => by rw [e]; exact ⟨h.below hb, Chg.below hb⟩
  have hwm := h.wm
  obtain ⟨L, tt, o⟩ := S
  cases o with
  | some ws =>
    obtain ⟨c0, g, rfl, _⟩ := hwm
    have e : apl ⟨L, tt, some ws⟩ t ps = (⟨L, tt, some ws⟩, 180) := by unfold apl; rw [if_neg (fun q => by cases q.1)]
    refine (apply_some h t _ rfl).mono ?_
    rintro e' w' ⟨rfl, hb⟩
    exact ⟨by rw [e], stay w' hb e⟩
  | none =>
    obtain rfl : c = none := hwm
    by_cases hr : rightC ⟨t, ps⟩ = true ∧ tt < t
    · obtain ⟨r1, r2, r3, r4⟩ := rightC_iff hr.1
      have e : apl ⟨L, tt, none⟩ t ps = (⟨doneW t L ps, t, none⟩, 0) := by unfold apl; rw [if_pos ⟨rfl, hr⟩]
      refine (apply_right0 h hL r1 hr.2 hw hwu r3 r4 r2).mono ?_
      rintro e' w' ⟨rfl, hp, hc⟩
      rw [e]
      exact ⟨rfl, hp, hc⟩
    · have e : apl ⟨L, tt, none⟩ t ps = (⟨L, tt, none⟩, 180) := by unfold apl; rw [if_neg (fun q => hr q.2)]
      refine (apply_not h t hw ?_).mono ?_
      · cases q : rightC ⟨t, ps⟩ with
        | false => exact .inl rfl
        | true =>
          refine .inr ?_
          show t ≤ tt
          by_cases q2 : t ≤ tt
          · exact q2
          · exact absurd ⟨q, by omega⟩ hr
      · rintro e' w' ⟨rfl, hb⟩
        exact ⟨by rw [e], stay w' hb e⟩
end
end Go.Proofs.Ytheidhkmmihjlaa

/-
  XnL: Two replies held against one another; a model that is none.
-/
set_option linter.unusedVariables false
set_option linter.unusedSimpArgs false
namespace Go.Proofs.Ytheidhkmmihjlaa
open Go.RowKit
open ML (Ro RS Rr Srt nless)
attribute [local go_sem] Oper.semAt_some
section
set_option maxHeartbeats 8000000
set_option maxRecDepth 100000
variable {w : World} {oa ob : Option Addr} {ca cb : Nat} {rows : List Ro}
theorem sameReply_any (ha : RS w oa rows.length ca rows) (hb : RS w ob rows.length cb rows) (code time : Int) (val : ByteArray) (found : Bool) :
    Calls Try.prog 15 #[.agg #[.int .i64 code, .string val, .bool found, .slice oa rows.length ca, .int .i64 time, .int .i64 0], .agg #[.int .i64 code, .string val, .bool found, .slice ob rows.length cb, .int .i64 time, .int .i64 0]] w fun e w' => e = .returned (.bool true) ∧ Below w.heap.size w w' := by
  obtain ⟨W1, hW1⟩ : ∃ W1, W1 = (w.alloc (.cells (rpA code val found (.slice oa rows.length ca) time) 41)).alloc (.cells (rpA code val found (.slice ob rows.length cb) time) 41) := ⟨_, rfl⟩
  have hb1 : Below w.heap.size w W1 := by rw [hW1]; exact ML.below2 _ _ _
  have hz1 : W1.heap.size = w.heap.size + 2 := by rw [hW1]; simp
  have hr1 : W1.heap[w.heap.size]? = some (.cells (rpA code val found (.slice oa rows.length ca) time) 41 (0, 0)) := by rw [hW1]; exact (Below.heap_alloc _ _ _ (by simp)).trans (heap_alloc_new _ _)
  have hr2 : W1.heap[w.heap.size + 1]? = some (.cells (rpA code val found (.slice ob rows.length cb) time) 41 (0, 0)) := by rw [hW1]; exact ML.heap_alloc_at (by simp) _
  have HSR := xhide (ML.sameRows_any (l := rows) (ha.below hb1 (fun b off e hlt => hlt)) (hb.below hb1 (fun b off e hlt => hlt)))
  have HB1 := xhide hb1
  have HR1 := xhide hr1
  have HR2 := xhide hr2
  clear ha hb hb1 hr1 hr2
  go_enter Try.func15, Try.ntmps15
  go_wp2_with fail
  rw [← hW1]
  clear hW1
  refine HSR.out.mono ?_
  rintro e w2 ⟨rfl, q, rfl⟩
  have hb2 : Below W1.heap.size W1 (W1.drewN q) := xdrew (Below.refl _ _) q
  have h1 := (hb2.block _ (by omega)).trans HR1.out
  have h2 := (hb2.block _ (by omega)).trans HR2.out
  have FIN := xhide (HB1.out.trans (hb2.mono HB1.out.size))
  generalize W1.drewN q = w2 at *
  have a0 : w2.cell? ⟨w.heap.size, 0, none⟩ = some (.int .i64 code) := by rw [Go.Joins.cell_of_block h1]; rfl
  have a1 : w2.cell? ⟨w.heap.size, 1, none⟩ = some (.string val) := by rw [Go.Joins.cell_of_block h1]; rfl
  have a2 : w2.cell? ⟨w.heap.size, 2, none⟩ = some (.bool found) := by rw [Go.Joins.cell_of_block h1]; rfl
  have a4 : w2.cell? ⟨w.heap.size, 4, none⟩ = some (.int .i64 time) := by rw [Go.Joins.cell_of_block h1]; rfl
  have a5 : w2.cell? ⟨w.heap.size, 5, none⟩ = some (.int .i64 0) := by rw [Go.Joins.cell_of_block h1]; rfl
  have b0 : w2.cell? ⟨w.heap.size + 1, 0, none⟩ = some (.int .i64 code) := by rw [Go.Joins.cell_of_block h2]; rfl
  have b1 : w2.cell? ⟨w.heap.size + 1, 1, none⟩ = some (.string val) := by rw [Go.Joins.cell_of_block h2]; rfl
  have b2 : w2.cell? ⟨w.heap.size + 1, 2, none⟩ = some (.bool found) := by rw [Go.Joins.cell_of_block h2]; rfl
  have b4 : w2.cell? ⟨w.heap.size + 1, 4, none⟩ = some (.int .i64 time) := by rw [Go.Joins.cell_of_block h2]; rfl
  have b5 : w2.cell? ⟨w.heap.size + 1, 5, none⟩ = some (.int .i64 0) := by rw [Go.Joins.cell_of_block h2]; rfl
  have l1 : w.heap.size < w2.heap.size := (Array.getElem?_eq_some_iff.1 h1).1
  have l2 : w.heap.size + 1 < w2.heap.size := (Array.getElem?_eq_some_iff.1 h2).1
  clear h1 h2 hb2 HR1 HR2 HSR
  go_wp2
  go_ret
  exact ⟨by cases found <;> simp, FIN.out⟩
theorem rows_nil (w : World) : Calls Try.prog 16 #[.pointer none] w fun e w' => e = .returned (.slice none 0 0) ∧ Below w.heap.size w w' := by
  have HN := xhide none_nil
  go_enter Try.func16, Try.ntmps16
  go_wp2_with fail
  refine (HN.out _).mono ?_
  rintro e w1 ⟨rfl, rfl⟩
  go_wp2
  go_ret
  exact ⟨rfl, Below.refl _ _⟩
theorem time_nil (w : World) : Calls Try.prog 18 #[.pointer none] w fun e w' => e = .returned (.int .i64 0) ∧ w' = w := by
  have HN := xhide none_nil
  go_enter Try.func18, Try.ntmps18
  go_wp2_with fail
  refine (HN.out _).mono ?_
  rintro e w1 ⟨rfl, rfl⟩
  go_wp2
  go_ret
  exact ⟨rfl, rfl⟩
theorem apply_nil (w : World) (t : Int) (ao : Option Addr) (len cap : Nat) : Calls Try.prog 11 #[.pointer none, .agg #[.int .i64 t, .slice ao len cap]] w fun e w' => e = .returned (.int .i64 1) ∧ Below w.heap.size w w' := by
  have HN := xhide none_nil
  go_enter Try.func11, Try.ntmps11
  go_wp2_with fail
  refine (HN.out _).mono ?_
  rintro e w1 ⟨rfl, rfl⟩
  go_wp2
  go_ret
  exact ⟨rfl, ML.below1 _ _⟩
theorem nothing_any (w : World) : Calls Try.prog 8 #[] w fun e w' => e = .returned (.bool true) ∧ Below w.heap.size w w' := by
  have HD := xhide do_nil
  have HRW := xhide rows_nil
  have HT := xhide time_nil
  have HA := xhide apply_nil
  go_enter Try.func8, Try.ntmps8
  go_wp2_with fail
  refine (HD.out _ ⟨1, 1, z0, z0, z0, 0, 0⟩).mono ?_
  rintro e w1 ⟨rfl, hb1⟩
  have HB1 := xhide (hb1.trans ((ML.below1 w1 (.cells (rpA 1 .empty false (.slice none 0 0) 0) 41)).mono hb1.size))
  have hs1 := hb1.size
  clear hb1
  go_wp2_with fail
  refine (HRW.out _).mono ?_
  rintro e w2 ⟨rfl, hb2⟩
  have h1 := (hb2.block w1.heap.size (by simp)).trans (heap_alloc_new _ _)
  have a0 : w2.cell? ⟨w1.heap.size, 0, none⟩ = some (.int .i64 1) := by rw [Go.Joins.cell_of_block h1]; rfl
  have l1 : w1.heap.size < w2.heap.size := (Array.getElem?_eq_some_iff.1 h1).1
  have HB2 := xhide (HB1.out.trans (hb2.mono HB1.out.size))
  clear hb2 h1 HB1
  go_wp2_with fail
  refine (HT.out _).mono ?_
  rintro e w3 ⟨rfl, rfl⟩
  go_wp2_with fail
  refine (HA.out _ _ _ _ _).mono ?_
  rintro e w4 ⟨rfl, hb4⟩
  have FIN := xhide (HB2.out.trans (hb4.mono HB2.out.size))
  clear hb4
  go_wp2
  go_ret
  exact ⟨rfl, FIN.out⟩
end
end Go.Proofs.Ytheidhkmmihjlaa

/-
  XnM: Both models beside one another: what a call of either leaves of the other.
-/
set_option linter.unusedVariables false
set_option linter.unusedSimpArgs false
namespace Go.Proofs.Ytheidhkmmihjlaa
open Go.RowKit
open ML (Ro RS Rr Srt nless)
/-- Blocks of the document's model. -/
abbrev Ky (Y : Nat) (ao ao2 : Option Addr) : List Nat := Y :: (Kr ao ++ Kr ao2)
section
variable {w w' : World} {B X Y : Nat} {K K' : List Nat} {S S' : Ms} {ao ao2 : Option Addr} {cap cap2 : Nat}
theorem Rm.kp (h : Rm w Y S ao cap ao2 cap2) (hk : Kp (Ky Y ao ao2) w w') (hs : w.heap.size ≤ w'.heap.size) : Rm w' Y S ao cap ao2 cap2 :=
  ⟨(hk Y (by simp)).trans h.blk, rs_keep h.rs (fun j hj => hk j (by simp [hj])) hs, ws_keep h.ws (fun j hj => hk j (by simp [hj])) hs, h.n1, h.n2, h.d1, h.d2, fun j hj => Nat.lt_of_lt_of_le (h.l1 j hj) hs, fun j hj => Nat.lt_of_lt_of_le (h.l2 j hj) hs⟩
theorem mo_addC {s : Nat → Prop} (h : Mo B K w X S) (hc : Chg s w w') (hs : ∀ j, s j → j ∈ K) (hk : ∀ g ∈ K', g ∈ K ∨ (w.heap.size ≤ g ∧ g < w'.heap.size)) : Mo B K' w' X S := by
  have h' := mo_chg h hc hs
  obtain ⟨b, c, hP, q1, q2, q3, q4, q5⟩ := h
  refine ⟨b, c, hP.chg hc (fun j e q => (q5 j (hs j q)).2 e), q1, q2, q3, h'.base, fun j hj => ?_⟩
  rcases hk j hj with e | e
  · exact ⟨Nat.lt_of_lt_of_le (q5 j e).1 hc.size, (q5 j e).2⟩
  · exact ⟨e.2, fun x => by have := hP.ex_lt x; omega⟩
/-- Both models beside one another. -/
structure Bm (W : World) (B X Y : Nat) (w : World) (S : Ms) : Prop where
  ex : ∃ ao cap ao2 cap2, Rm w Y S ao cap ao2 cap2 ∧ Mo B (Ky Y ao ao2) w X S
  low : Below W.heap.size W w
  wB : W.heap.size ≤ B
  wY : W.heap.size ≤ Y
variable {W : World}
theorem Bm.below (h : Bm W B X Y w S) (hb : Below w.heap.size w w') : Bm W B X Y w' S := by
  obtain ⟨a, c, a2, c2, hm, ho⟩ := h.ex
  exact ⟨⟨a, c, a2, c2, hm.below hb, ho.below hb⟩, h.low.trans (hb.mono h.low.size), h.wB, h.wY⟩
/-- A call of the program's, then one of the document's: both have come to the same. -/
theorem bm_step {w2 : World} {ao2' : Option Addr} (hr : Rm w Y S ao cap ao2 cap2) (h : Bm W B X Y w S) (hm : Mo B (Ky Y ao ao2) w' X S') (hb : Below B w w') (hk : Kp (Ky Y ao ao2) w w') (hn : Rn w' w2 Y ao ao2 S') (hc : Chg (fun j => j = Y) w' w2) : Bm W B X Y w2 S' := by
  obtain ⟨a, c, a2, c2, hm2, h1, h2⟩ := hn
  refine ⟨⟨a, c, a2, c2, hm2, mo_addC hm hc (fun j e => by rw [e]; simp) (fun g hg => ?_)⟩, ?_, h.wB, h.wY⟩
  · simp only [List.mem_cons, List.mem_append] at hg ⊢
    rcases hg with e | e | e
    · exact .inl (.inl e)
    · rcases h1 g e with q | q
      · exact .inl (.inr (.inl q))
      · exact .inr ⟨q, hm2.l1 g e⟩
    · rcases h2 g e with q | q
      · exact .inl (.inr (.inr q))
      · exact .inr ⟨q, hm2.l2 g e⟩
  · have hw1 := h.low.trans (hb.mono h.wB)
    exact hw1.trans (hc.low (B := W.heap.size) hw1.size (fun j e => by have := h.wY; omega))
theorem ws_chgW {s : Nat → Prop} {u : World} {ax : Option Addr} {len cx : Nat} {ps : List Wr} (h : WS W ax len cx ps) (hl : Below W.heap.size W w) (hc : Chg s w u) (hs : ∀ j, s j → W.heap.size ≤ j) : WS u ax len cx ps :=
  ws_below h (hl.trans (hc.low hl.size hs))
theorem mo_apply {ax : Option Addr} {len cx : Nat} {ps : List Wr} (h : Mo B K w X S) (hB : W.heap.size ≤ B) (hl : Below W.heap.size W w) (hL : S.L.length + 64 ≤ 1000000000000000) (t : Int) (hw : WS W ax len cx ps) :
    Calls Try.prog 11 #[ptr X, .agg #[.int .i64 t, .slice ax len cx]] w fun e w' => e = .returned (.int .i64 (apl S t ps).2) ∧ Mo B K w' X (apl S t ps).1 ∧ Below B w w' ∧ Kp K w w' := by
  obtain ⟨b, c, hP, h1, h2, h3, h4, h5⟩ := h
  refine (apply_any hP hL t (ws_below hw hl) (fun u hu => ws_chgW hw hl hu (fun j hj => by omega))).mono ?_
  rintro e w' ⟨rfl, hp, hc⟩
  refine ⟨rfl, ⟨b, c, hp, h1, h2, h3, Nat.le_trans h4 hc.size, fun j hj => ⟨Nat.lt_of_lt_of_le (h5 j hj).1 hc.size, (h5 j hj).2⟩⟩, hc.low h4 (fun j hj => by omega), fun j hj => hc.2 j (h5 j hj).1 (fun q => (h5 j hj).2 (q.elim .inl (fun e => .inr (.inl e))))⟩
theorem there_set {w : World} {g n i : Nat} {v : Value} (h : w.there g 0 n) : (w.setCell ⟨g, i, none⟩ v).there g 0 n := World.there_setCells h g i [v]
end
end Go.Proofs.Ytheidhkmmihjlaa

/-
  XnO: ModelDoes, walked. (Printed by gen_xno.py.)
-/
set_option linter.unusedVariables false
set_option linter.unusedSimpArgs false
namespace Go.Proofs.Ytheidhkmmihjlaa
open Go.RowKit Go.Shelf Go.Maps
open ML (Ro RS Rr Srt nless)
attribute [local go_sem] Oper.semAt_some
theorem rs_chg0 {w w' : World} {s : Nat → Prop} {ao : Option Addr} {ln cp : Nat} {L : List Ro} (h : RS w ao ln cp L) (hc : Chg s w w') (hd : 0 < ln → ∀ j ∈ Kr ao, ¬ s j) : RS w' ao ln cp L := by
  refine ⟨h.1, h.2.1, h.2.2.1, fun hl => ?_⟩
  obtain ⟨g, off, rfl, hlt, hc2⟩ := h.2.2.2 hl
  exact ⟨g, off, rfl, Nat.lt_of_lt_of_le hlt hc.size, fun i r hi u hu x => (World.cell?_of_block (hc.2 g hlt (hd hl g (by simp [Kr])))).trans (hc2 i r hi u hu x)⟩
theorem there_block {w w' : World} {g n : Nat} (h : w.there g 0 n) (e : w'.heap[g]? = w.heap[g]?) : w'.there g 0 n := fun j hj => ⟨by rw [World.cell?_of_block (a := ⟨g, 0 + j, none⟩) e]; exact (h j hj).1, (World.frozen?_of_block e).trans (h j hj).2⟩
theorem stp_L (S : Ms) (C : Cl) : (stp S C).1.L = S.L ∨ (stp S C).1.L = doneW (S.t + 1) S.L (S.ws.getD []) := by
  unfold stp
  split
  · exact .inl rfl
  · split
    · unfold ans
      split
      all_goals first
        | exact .inl rfl
        | exact .inl (wrt_keep S _).1
        | (unfold cmt; split <;> first | exact .inr rfl | exact .inl rfl)
    · exact .inl rfl
theorem stp_len {S : Ms} (ok : S.ok) (C : Cl) : (stp S C).1.L.length ≤ S.L.length + 64 := by
  rcases stp_L S C with e | e
  · rw [e]; omega
  · rw [e]
    have h1 := doneW_len (t := S.t + 1) (S.ws.getD []) S.L
    have h2 : (S.ws.getD []).length ≤ 64 := by
      cases hw : S.ws with
      | none => simp
      | some ws => exact (ok.wsrt ws hw).2.1
    omega
theorem rDo_S {w : World} {Y : Nat} {S : Ms} {ao ao2 : Option Addr} {cap cap2 : Nat} (h : Rm w Y S ao cap ao2 cap2) (ok : S.ok) (hL : S.L.length + 70 ≤ 10000000) (C : Cl) : Calls Try.prog 14 #[ptr Y, C.v] w fun e w' => ∃ v, e = .returned v ∧ RpR w' v (stp S C).2 ∧ Rn w w' Y ao ao2 (stp S C).1 ∧ Chg (fun j => j = Y) w w' := by
  obtain ⟨L, t, o⟩ := S
  exact rDo_any h ok hL C
section
set_option maxHeartbeats 16000000
set_option maxRecDepth 100000
variable {W : World} {o0 o1 : Option Addr} {l0 c0 l1 c1 : Nat} {L : List Ro} {l : List Opd}
theorem does_walk (h0 : RS W o0 l0 c0 L) (hn : o0 = none → c0 = 0) (hl : l0 ≤ 1048576) (h1 : Seq 10 Opd.cells W o1 l1 c1 l) (hops : ∀ x ∈ l, WS W x.ao x.len x.cap x.ws) :
    Calls Try.prog 3 #[.slice o0 l0 c0, .slice o1 l1 c1] W fun e w' => e = .returned (.bool true) ∧ Below W.heap.size W w' := by
  obtain rfl := h0.1
  obtain rfl := h1.1
  have hmxl : (l.length : Int) ≤ 9223372036854775807 := by have := h1.2.1; have := h1.2.2.1; unfold maxLen at this; omega
  have HR : Hid (∀ u, Below W.heap.size W u → RS u o0 L.length c0 L) := xhide (fun u hb => h0.below hb (fun b off e hlt => hlt))
  have HL := xhide h1
  have HOPS := xhide hops
  have HSH := xhide (shown18 W)
  clear h0 h1 hops
  go_enter Try.func3, Try.ntmps3
  go_wp2_with fail
  refine HSH.out.mono ?_
  rintro e w1 ⟨rfl, hb1⟩
  have HB1 := xhide hb1
  clear hb1 HSH
  go_wp2_with fail
  refine (nothing_any _).mono ?_
  rintro e w2 ⟨rfl, hb2⟩
  have hB2 := HB1.out.trans (hb2.mono HB1.out.size)
  have HNW := xhide (new_any (HR.out w2 hB2) (by omega))
  have HB2 := xhide hB2
  have hw2 := hB2.size
  clear hb2 hB2 HB1
  go_wp2_with fail
  refine HNW.out.mono ?_
  rintro e w3 ⟨hb3, hne⟩
  have hB3 := HB2.out.trans (hb3.mono hw2)
  have HRN := xhide (rnew_any (HR.out w3 hB3) hn (by unfold big; omega))
  have HB3 := xhide hB3
  have hw3 := hB3.size
  cases hok : okTo L L.length with
  | false =>
    obtain rfl : e = .returned (.tuple #[.pointer none, .int .i64 180]) := by
      rcases hne with ⟨_, rfl⟩ | ⟨q, _⟩
      · rfl
      · rw [hok] at q; cases q
    clear hne hb3 hB3
    go_wp2_with fail
    refine HRN.out.mono ?_
    rintro e w4 ⟨hb4, ⟨_, rfl⟩ | ⟨q, _⟩⟩
    · have FIN := xhide (HB3.out.trans (hb4.mono hw3))
      clear hb4 HRN HB3
      go_wp2
      go_ret
      exact ⟨rfl, FIN.out⟩
    · rw [hok] at q; cases q
  | true =>
    obtain ⟨X, b, rfl, hP, hX, hb⟩ : ∃ X b, e = .returned (.tuple #[ptr X, .int .i64 0]) ∧ Pm w3 X b none ⟨L, maxT L, none⟩ ∧ w2.heap.size ≤ X ∧ w2.heap.size ≤ b := by
      rcases hne with ⟨q, _⟩ | ⟨_, X, b, q1, q2, q3, q4⟩
      · rw [hok] at q; cases q
      · exact ⟨X, b, q1, q2, q3, q4⟩
    have hm3 : Mo w2.heap.size [] w3 X ⟨L, maxT L, none⟩ := ⟨b, none, hP, hX, hb, nofun, hb3.size, nofun⟩
    have HM3 := xhide hm3
    clear hne hP hm3 hb3 hB3 hX hb
    go_wp2_with fail
    refine HRN.out.mono ?_
    rintro e w4 ⟨hb4, ⟨q, _⟩ | ⟨_, v, rfl, hblk, hrr⟩⟩
    · rw [hok] at q; cases q
    obtain ⟨B, hB⟩ : ∃ B, B = w2.heap.size := ⟨_, rfl⟩
    obtain ⟨Y, hY⟩ : ∃ Y, Y = w3.heap.size := ⟨_, rfl⟩
    have HBM : Hid (Bm W w2.heap.size X w3.heap.size w4 ⟨L, maxT L, none⟩) := xhide (by
      obtain ⟨a, c, rfl, hrs, hn1, hK⟩ := rr_form hrr
      have hYl := (Array.getElem?_eq_some_iff.1 hblk).1
      refine ⟨⟨a, c, none, 0, ⟨hblk, hrs, ⟨rfl, Nat.le_refl _, Nat.zero_le _, fun q => absurd q (Nat.lt_irrefl 0)⟩, hn1, fun _ => rfl, fun j hj => by have := hK j hj; omega, nofun, fun j hj => (hK j hj).2, nofun⟩, ?_⟩, HB3.out.trans (hb4.mono hw3), hw2, hw3⟩
      have h4 := mo_addK (K' := Ky w3.heap.size a none) HM3.out hb4 (fun g hg => by
        simp only [Kr, List.mem_cons, List.mem_append, List.not_mem_nil, or_false] at hg
        rcases hg with e | e
        · omega
        · have := hK g e; omega)
      rwa [List.append_nil] at h4)
    generalize w2.heap.size = B' at *
    generalize w3.heap.size = Y' at *
    clear hb4 hblk hrr HM3 HRN HNW HB2 HB3 hB hY
    go_wp2_with fail
    go_loopw [11] (fun i wr => ∃ (k : Nat) (S : Ms), k ≤ 400 ∧ k ≤ l.length ∧ i = .int .i64 (k : Nat) ∧ S.L.length ≤ L.length + 64 * k ∧ Hid (Bm W B' X Y' wr S)) (fun i _ => l.length - (intOf i).toNat)
    case atStart => exact ⟨0, _, by omega, by omega, rfl, by simp, HBM⟩
    case round =>
      obtain ⟨w0, hw0⟩ : ∃ w0, w0 = wr := ⟨_, rfl⟩
      subst hw0
      obtain ⟨k, S, hk4, hk, rfl, hSL, HS⟩ := hrel
      clear HBM
      by_cases hlt : k < l.length ∧ k < 400
      · obtain ⟨hlt, h400⟩ := hlt
        obtain ⟨x, hx⟩ := some_at (l := l) rfl hlt
        have hlow := HS.out.low
        obtain ⟨g, off, rfl, hgl, hc⟩ := HL.out.2.2.2 (by omega)
        have HC : Hid (∀ u, Below W.heap.size W u → ∀ j v, x.cells[j]? = some v → u.cell? ⟨g, off + k * 10 + j, none⟩ = some v) := xhide (fun u hu j v hj => (hu.cell (p := ⟨g, off + k * 10 + j, none⟩) hgl).trans (hc k x hx j v hj))
        have HWX := xhide (HOPS.out x (List.mem_of_getElem? hx))
        have hgr : g < w0.heap.size := Nat.lt_of_lt_of_le hgl hlow.size
        have d1 : (k : Int) < (l.length : Int) := by omega
        have d2 : (k : Int) < 400 := by omega
        clear hc hx
        obtain ⟨lay, c, t, ax, lx, cx, ws⟩ := x
        simp only [] at HWX
        have k0 := HC.out w0 hlow 0 _ rfl
        rw [Nat.add_zero] at k0
        cases lay with
        | true =>
          have k8 := HC.out w0 hlow 8 _ rfl
          have k9 := HC.out w0 hlow 9 _ rfl
          obtain ⟨a, ca, a2, ca2, hD, hM⟩ := HS.out.ex
          have HA := xhide (mo_apply (W := W) hM HS.out.wB hlow (by omega) t HWX.out)
          have HD := xhide hD
          have HM := xhide hM
          clear hlow hD hM
          go_wp2_with fail
          refine HA.out.mono ?_
          rintro e w1 ⟨rfl, hm1, hb1, hk1⟩
          have hl1 := HS.out.low.trans (hb1.mono HS.out.wB)
          have hD1 := HD.out.kp hk1 hb1.size
          have q8 := HC.out w1 hl1 8 _ rfl
          have q9 := HC.out w1 hl1 9 _ rfl
          have hg1 : g < w1.heap.size := Nat.lt_of_lt_of_le hgl hl1.size
          have HR2 := xhide (rapply_any (tt := S.t) (L := S.L) (o := S.ws) hD1 (by omega) t (ws_below HWX.out hl1) (fun u hu => ws_chgW HWX.out hl1 hu (fun j e => by have := HS.out.wY; omega)))
          have HHA := xhide (show Bm W B' X Y' w0 S from HS.out)
          have HM1 := xhide hm1
          have HBB := xhide hb1
          have HKK := xhide hk1
          clear hm1 hb1 hk1 hD1 hl1
          go_wp2_with fail
          refine HR2.out.mono ?_
          rintro e w2 ⟨rfl, hn2, hc2⟩
          obtain ⟨S2, hS2⟩ : ∃ S2, S2 = (apl S t ws).1 := ⟨_, rfl⟩
          have HBN : Hid (Bm W B' X Y' w2 S2) := xhide (by rw [hS2]; exact bm_step (ao2' := none) HD.out HHA.out HM1.out HBB.out HKK.out hn2 hc2)
          have hS2L : S2.L.length ≤ L.length + 64 * (k + 1) := by
            rw [hS2]; unfold apl
            split
            · next q =>
              have h1 := doneW_len (t := t) ws S.L
              have h2 := (rightC_iff q.2.1).2.1
              show (doneW t S.L ws).length ≤ _
              omega
            · show S.L.length ≤ _; omega
          clear hn2 hc2 hS2 HR2 HHA HM1 HBB HKK HA k0 k8 k9 q8 q9 hg1
          obtain ⟨aD, cD, aD2, cD2, hDn, hMn⟩ := HBN.out.ex
          have HMn := xhide hMn
          have HDn := xhide hDn
          clear hDn hMn
          go_wp2_with fail
          refine (mo_rows HMn.out (by unfold big; omega)).mono ?_
          rintro e wa ⟨ao5, cp5, rfl, hrs5, hth5, _, hb5⟩
          try simp only [] at hrs5 hth5
          have hD5 := HDn.out.below hb5
          have y0 : wa.cell? ⟨Y', 0, none⟩ = some (.slice aD S2.L.length cD) := hD5.cells.1
          have hYa := hD5.lt
          have HSR := xhide (ML.sameRows_any (l := S2.L) hrs5 hD5.rs)
          have HB5 := xhide hb5
          have hmxn : (S2.L.length : Int) ≤ 9223372036854775807 := by omega
          have HS0 : Hid (∀ u, Below wa.heap.size wa u → Chg (fun j => 0 < S2.L.length ∧ ao5 = some ⟨j, 0, none⟩) wa u ∧ ∀ g, 0 < S2.L.length → ao5 = some ⟨g, 0, none⟩ → u.there g 0 (S2.L.length * 3)) := xhide (fun u hu => ⟨Chg.below hu, fun g h0 e => by
            obtain ⟨g', e', _, ht⟩ := hth5 h0
            rw [e] at e'; cases e'
            intro j hj
            have h1 := ht j hj
            have hlt : g < wa.heap.size := by
              obtain ⟨v, hv⟩ := Option.isSome_iff_exists.1 h1.1
              exact World.block_lt_of_cell? wa _ hv
            exact ⟨by rw [hu.cell (p := ⟨g, 0 + j, none⟩) hlt]; exact h1.1, (by
              have := hu.block g hlt
              exact (World.frozen?_of_block this).trans h1.2)⟩⟩)
          have HG5 : Hid (0 < S2.L.length → ∃ g, ao5 = some ⟨g, 0, none⟩ ∧ w2.heap.size ≤ g) := xhide (fun h0 => by
            obtain ⟨g, e, hg, _⟩ := hth5 h0
            exact ⟨g, e, hg⟩)
          clear hrs5 hth5 hb5 hD5
          go_wp2_with fail
          refine HSR.out.mono ?_
          rintro e wb ⟨rfl, q5, rfl⟩
          have HS1 := xhide (HS0.out _ (xdrew (Below.refl _ _) q5))
          clear HSR HS0 y0 hYa
          go_wp2_with fail
          go_loopw [19] (fun i wr => ∃ m : Nat, m ≤ S2.L.length ∧ i = .int .i64 (m : Nat) ∧ Hid (Chg (fun j => 0 < S2.L.length ∧ ao5 = some ⟨j, 0, none⟩) wa wr ∧ ∀ g, 0 < S2.L.length → ao5 = some ⟨g, 0, none⟩ → wr.there g 0 (S2.L.length * 3))) (fun i _ => S2.L.length - (intOf i).toNat)
          case atStart => exact ⟨0, by omega, rfl, HS1⟩
          case round =>
            obtain ⟨m, hm, rfl, HZ⟩ := hrel
            clear HS1
            by_cases hlm : m < S2.L.length
            · obtain ⟨g5, rfl, hg5⟩ := HG5.out (by omega)
              obtain ⟨hz1, hz2⟩ := HZ.out
              have ht := hz2 g5 (by omega) rfl
              have e0 := ht (m * 3) (by omega)
              have e1 := ht (m * 3 + 1) (by omega)
              have e2 := ht (m * 3 + 2) (by omega)
              simp only [Nat.zero_add] at e0 e1 e2
              obtain ⟨u0, v0⟩ := Option.isSome_iff_exists.1 e0.1
              obtain ⟨u1, v1⟩ := Option.isSome_iff_exists.1 e1.1
              obtain ⟨u2, v2⟩ := Option.isSome_iff_exists.1 e2.1
              have f0 := e0.2
              have f1 := e1.2
              have f2 := e2.2
              have hgw : g5 < wr.heap.size := World.block_lt_of_cell? wr _ v0
              have d3 : (m : Int) < (S2.L.length : Int) := by omega
              have NX : Hid (∀ x y z : Value, Chg (fun j => 0 < S2.L.length ∧ (some ⟨g5, 0, none⟩ : Option Addr) = some ⟨j, 0, none⟩) wa (((wr.setCell ⟨g5, m * 3, none⟩ x).setCell ⟨g5, m * 3 + 1, none⟩ y).setCell ⟨g5, m * 3 + 2, none⟩ z) ∧ ∀ g, 0 < S2.L.length → (some ⟨g5, 0, none⟩ : Option Addr) = some ⟨g, 0, none⟩ → (((wr.setCell ⟨g5, m * 3, none⟩ x).setCell ⟨g5, m * 3 + 1, none⟩ y).setCell ⟨g5, m * 3 + 2, none⟩ z).there g 0 (S2.L.length * 3)) := xhide (fun x y z =>
                ⟨((hz1.trans (cell_chg wr g5 (m * 3) x) (fun j _ e => ⟨by omega, by rw [e]⟩)).trans (cell_chg _ g5 (m * 3 + 1) y) (fun j _ e => ⟨by omega, by rw [e]⟩)).trans (cell_chg _ g5 (m * 3 + 2) z) (fun j _ e => ⟨by omega, by rw [e]⟩),
                 fun g h0 e => by cases e; exact there_set (there_set (there_set ht))⟩)
              clear hz1 hz2 ht e0 e1 e2
              go_wp2_with fail
              go_roundw
              case rel => exact ⟨m + 1, by omega, by go_num, xhide (NX.out _ _ _)⟩
              case measure => simp [intOf]; omega
            · obtain rfl : m = S2.L.length := by omega
              have d3 : ¬ (S2.L.length : Int) < (S2.L.length : Int) := by omega
              have hlo : Below w2.heap.size w2 wr := HB5.out.trans (HZ.out.1.low HB5.out.size (fun j e => by
                obtain ⟨g, e1, hg⟩ := HG5.out e.1
                rw [e1] at e; cases e.2; exact hg))
              have HBE := xhide (HBN.out.below hlo)
              have HME := xhide (HMn.out.below hlo)
              have hDe := HDn.out.below hlo
              have y1 : wr.cell? ⟨Y', 1, none⟩ = some (.int .i64 S2.t) := hDe.cells.2.1
              have hYe := hDe.lt
              have HTT : Hid (∀ u, Below wr.heap.size wr u → Calls Try.prog 18 #[ptr X] u fun e w' => e = .returned (.int .i64 S2.t) ∧ w' = u) := xhide (fun u hu => mo_time (HME.out.below hu))
              clear hlo hDe
              go_wp2_with fail
              go_quiet ((go_at_call 18; exact Calls.quiet_of_same (HTT.out _ (xdrew (Below.refl _ _) _))))
              go_wp2_with fail
              go_roundw
              case rel => exact ⟨k + 1, S2, by omega, by omega, by go_num, by omega, xhide (HBE.out.below (xdrew (Below.refl _ _) _))⟩
              case measure => simp [intOf]; omega
        | false =>
          have k1 := HC.out w0 hlow 1 _ rfl
          have k2 := HC.out w0 hlow 2 _ rfl
          have k3 := HC.out w0 hlow 3 _ rfl
          have k4 := HC.out w0 hlow 4 _ rfl
          have k5 := HC.out w0 hlow 5 _ rfl
          have k6 := HC.out w0 hlow 6 _ rfl
          have k7 := HC.out w0 hlow 7 _ rfl
          obtain ⟨a, ca, a2, ca2, hD, hM⟩ := HS.out.ex
          obtain ⟨pr, hpr⟩ : ∃ pr, pr = stp S c := ⟨_, rfl⟩
          have hA0 := mo_do hM (by unfold big; omega) c
          rw [← hpr] at hA0
          have HA := xhide hA0
          have HD := xhide hD
          have HHA := xhide (show Bm W B' X Y' w0 S from HS.out)
          have hok2 := hM.ok
          have hY0 := hD.lt
          have hSl : pr.1.L.length ≤ L.length + 64 * (k + 1) := by have := stp_len hok2 c; rw [hpr]; omega
          clear hlow hD hM hA0
          go_wp2_with fail
          refine HA.out.mono ?_
          rintro e w1 ⟨v1, rfl, hv1, hm1, hb1, hk1, hgr1⟩
          obtain ⟨oa, ln, cp, rfl, hrs1, hth1⟩ := rpv_slice hv1
          obtain rfl := hrs1.1
          have hmxr : (pr.2.rows.length : Int) ≤ 9223372036854775807 := by have := hrs1.2.1; have := hrs1.2.2.1; unfold maxLen at this; omega
          have hl1 := HHA.out.low.trans (hb1.mono HHA.out.wB)
          have hbx := ML.below1 w1 (.cells (rpA pr.2.code pr.2.val pr.2.found (.slice oa pr.2.rows.length cp) pr.2.time) 41)
          have hD1 := HD.out.kp hk1 hb1.size
          have hR2 := rDo_S (hD1.below hbx) hok2 (by omega) c
          rw [← hpr] at hR2
          have HR2 := xhide hR2
          have HAB : Hid ((w1.alloc (.cells (rpA pr.2.code pr.2.val pr.2.found (.slice oa pr.2.rows.length cp) pr.2.time) 41)).heap[w1.heap.size]? = some (.cells (rpA pr.2.code pr.2.val pr.2.found (.slice oa pr.2.rows.length cp) pr.2.time) 41 (0, 0))) := xhide (heap_alloc_new _ _)
          have q1 := HC.out w1 hl1 1 _ rfl
          have q2 := HC.out w1 hl1 2 _ rfl
          have q3 := HC.out w1 hl1 3 _ rfl
          have q4 := HC.out w1 hl1 4 _ rfl
          have q5 := HC.out w1 hl1 5 _ rfl
          have q6 := HC.out w1 hl1 6 _ rfl
          have q7 := HC.out w1 hl1 7 _ rfl
          have hg1 : g < w1.heap.size := Nat.lt_of_lt_of_le hgl hl1.size
          have hs01 := hb1.size
          have HRS1 := xhide (hrs1.below hbx (fun b off e hlt => hlt))
          have HTH1 := xhide hth1
          have HM1 := xhide hm1
          have HGR1 := xhide hgr1
          have HB1a := xhide hb1
          have HK1 := xhide hk1
          have HBX := xhide hbx
          clear hv1 hm1 hb1 hk1 hgr1 hrs1 hth1 hbx hD1 hl1 hR2 hpr HA k0 k1 k2 k3 k4 k5 k6 k7
          go_wp2_with fail
          refine HR2.out.mono ?_
          rintro e w2 ⟨v2, rfl, ⟨ob, cb, rfl, hrs2⟩, hn2, hc2⟩
          have hszx : (w1.alloc (.cells (rpA pr.2.code pr.2.val pr.2.found (.slice oa pr.2.rows.length cp) pr.2.time) 41)).heap.size = w1.heap.size + 1 := by simp
          have hs12 := hc2.size
          rw [hszx] at hs12
          have hA2 := (hc2.2 w1.heap.size (by omega) (by omega)).trans HAB.out
          have HA2 := xhide hA2
          have a0 : w2.cell? ⟨w1.heap.size, 0, none⟩ = some (.int .i64 pr.2.code) := by rw [Go.Joins.cell_of_block hA2]; rfl
          have a1 : w2.cell? ⟨w1.heap.size, 1, none⟩ = some (.string pr.2.val) := by rw [Go.Joins.cell_of_block hA2]; rfl
          have a2' : w2.cell? ⟨w1.heap.size, 2, none⟩ = some (.bool pr.2.found) := by rw [Go.Joins.cell_of_block hA2]; rfl
          have a3 : w2.cell? ⟨w1.heap.size, 3, none⟩ = some (.slice oa pr.2.rows.length cp) := by rw [Go.Joins.cell_of_block hA2]; rfl
          have a4 : w2.cell? ⟨w1.heap.size, 4, none⟩ = some (.int .i64 pr.2.time) := by rw [Go.Joins.cell_of_block hA2]; rfl
          have a5 : w2.cell? ⟨w1.heap.size, 5, none⟩ = some (.int .i64 0) := by rw [Go.Joins.cell_of_block hA2]; rfl
          have hlA : w1.heap.size < w2.heap.size := by omega
          have hb14 := ML.below1 w2 (.cells (rpA pr.2.code pr.2.val pr.2.found (.slice ob pr.2.rows.length cb) pr.2.time) 41)
          have hrsa : RS w2 oa pr.2.rows.length cp pr.2.rows := rs_chg0 HRS1.out hc2 (fun h0 j hj e => by
            obtain ⟨g5, e5, hg5, _⟩ := HTH1.out h0
            rw [e5] at hj; simp [Kr] at hj; omega)
          have HSM := xhide (sameReply_any (hrsa.below hb14 (fun b off e hlt => hlt)) (hrs2.below hb14 (fun b off e hlt => hlt)) pr.2.code pr.2.time pr.2.val pr.2.found)
          have HB14 := xhide hb14
          have HN2 := xhide hn2
          have HC2 := xhide hc2
          clear hA2 hb14 hrsa hrs2 hn2 hc2 HR2 HAB HRS1 q1 q2 q3 q4 q5 q6 q7 hg1
          go_wp2_with fail
          refine HSM.out.mono ?_
          rintro e w3 ⟨rfl, hb3⟩
          have HB3w := xhide (HB14.out.trans (hb3.mono HB14.out.size))
          clear hb3 HSM a0 a1 a2' a3 a4 a5
          obtain ⟨S2, hS2⟩ : ∃ S2, S2 = pr.1 := ⟨_, rfl⟩
          have hS2L : S2.L.length ≤ L.length + 64 * (k + 1) := by rw [hS2]; exact hSl
          have HBM2 : Hid (Bm W B' X Y' w2 S2) := xhide (by
            rw [hS2]
            exact bm_step (ao2' := none) HD.out HHA.out (HM1.out.below HBX.out) (HB1a.out.trans (HBX.out.mono HM1.out.base)) (HK1.out.trans (HM1.out.kp HBX.out)) HN2.out HC2.out)
          have hA3 := (HB3w.out.block w1.heap.size hlA).trans HA2.out
          have HA3 := xhide hA3
          have b3 : w3.cell? ⟨w1.heap.size, 3, none⟩ = some (.slice oa pr.2.rows.length cp) := by rw [Go.Joins.cell_of_block hA3]; rfl
          have hl3 : w1.heap.size < w3.heap.size := (Array.getElem?_eq_some_iff.1 hA3).1
          clear hA3
          by_cases hn0 : pr.2.rows.length = 0
          · have d3 : ¬ (0 : Int) < (pr.2.rows.length : Int) := by omega
            have HBN : Hid (Bm W B' X Y' w3 S2) := xhide (HBM2.out.below HB3w.out)
            clear hn0 HBM2 HA3
            go_wp2_with fail
            go_loopw [16] (fun i wr => i = .int .i64 0 ∧ wr = w3) (fun _ _ => 0)
            case atStart => exact ⟨rfl, rfl⟩
            case round =>
              obtain ⟨rfl, rfl⟩ := hrel
              obtain ⟨wn, hwn⟩ : ∃ wn, wn = wr := ⟨_, rfl⟩
              subst hwn
              clear HD HHA HA2 HN2 HC2 HM1 HGR1 HB1a HK1 HBX HTH1 hok2 HB14 HB3w hs01 hs12 hszx hSl hS2 hlA hgr
              go_wp2_with fail
              clear b3 hl3 d3
              obtain ⟨aD, cD, aD2, cD2, hDn, hMn⟩ := HBN.out.ex
              have HMn := xhide hMn
              have HDn := xhide hDn
              clear hDn hMn
              refine (mo_rows HMn.out (by unfold big; omega)).mono ?_
              rintro e wa ⟨ao5, cp5, rfl, hrs5, hth5, _, hb5⟩
              try simp only [] at hrs5 hth5
              have hD5 := HDn.out.below hb5
              have y0 : wa.cell? ⟨Y', 0, none⟩ = some (.slice aD S2.L.length cD) := hD5.cells.1
              have hYa := hD5.lt
              have HSR := xhide (ML.sameRows_any (l := S2.L) hrs5 hD5.rs)
              have HB5 := xhide hb5
              have hmxn : (S2.L.length : Int) ≤ 9223372036854775807 := by omega
              have HS0 : Hid (∀ u, Below wa.heap.size wa u → Chg (fun j => 0 < S2.L.length ∧ ao5 = some ⟨j, 0, none⟩) wa u ∧ ∀ g, 0 < S2.L.length → ao5 = some ⟨g, 0, none⟩ → u.there g 0 (S2.L.length * 3)) := xhide (fun u hu => ⟨Chg.below hu, fun g h0 e => by
                obtain ⟨g', e', _, ht⟩ := hth5 h0
                rw [e] at e'; cases e'
                intro j hj
                have h1 := ht j hj
                have hlt : g < wa.heap.size := by
                  obtain ⟨v, hv⟩ := Option.isSome_iff_exists.1 h1.1
                  exact World.block_lt_of_cell? wa _ hv
                exact ⟨by rw [hu.cell (p := ⟨g, 0 + j, none⟩) hlt]; exact h1.1, (by
                  have := hu.block g hlt
                  exact (World.frozen?_of_block this).trans h1.2)⟩⟩)
              have HG5 : Hid (0 < S2.L.length → ∃ g, ao5 = some ⟨g, 0, none⟩ ∧ wn.heap.size ≤ g) := xhide (fun h0 => by
                obtain ⟨g, e, hg, _⟩ := hth5 h0
                exact ⟨g, e, hg⟩)
              clear hrs5 hth5 hb5 hD5
              go_wp2_with fail
              refine HSR.out.mono ?_
              rintro e wb ⟨rfl, q5, rfl⟩
              have HS1 := xhide (HS0.out _ (xdrew (Below.refl _ _) q5))
              clear HSR HS0 y0 hYa
              go_wp2_with fail
              go_loopw [19] (fun i wr => ∃ m : Nat, m ≤ S2.L.length ∧ i = .int .i64 (m : Nat) ∧ Hid (Chg (fun j => 0 < S2.L.length ∧ ao5 = some ⟨j, 0, none⟩) wa wr ∧ ∀ g, 0 < S2.L.length → ao5 = some ⟨g, 0, none⟩ → wr.there g 0 (S2.L.length * 3))) (fun i _ => S2.L.length - (intOf i).toNat)
              case atStart => exact ⟨0, by omega, rfl, HS1⟩
              case round =>
                obtain ⟨m, hm, rfl, HZ⟩ := hrel
                clear HS1
                by_cases hlm : m < S2.L.length
                · obtain ⟨g5, rfl, hg5⟩ := HG5.out (by omega)
                  obtain ⟨hz1, hz2⟩ := HZ.out
                  have ht := hz2 g5 (by omega) rfl
                  have e0 := ht (m * 3) (by omega)
                  have e1 := ht (m * 3 + 1) (by omega)
                  have e2 := ht (m * 3 + 2) (by omega)
                  simp only [Nat.zero_add] at e0 e1 e2
                  obtain ⟨u0, v0⟩ := Option.isSome_iff_exists.1 e0.1
                  obtain ⟨u1, v1⟩ := Option.isSome_iff_exists.1 e1.1
                  obtain ⟨u2, v2⟩ := Option.isSome_iff_exists.1 e2.1
                  have f0 := e0.2
                  have f1 := e1.2
                  have f2 := e2.2
                  have hgw : g5 < wr.heap.size := World.block_lt_of_cell? wr _ v0
                  have d3 : (m : Int) < (S2.L.length : Int) := by omega
                  have NX : Hid (∀ x y z : Value, Chg (fun j => 0 < S2.L.length ∧ (some ⟨g5, 0, none⟩ : Option Addr) = some ⟨j, 0, none⟩) wa (((wr.setCell ⟨g5, m * 3, none⟩ x).setCell ⟨g5, m * 3 + 1, none⟩ y).setCell ⟨g5, m * 3 + 2, none⟩ z) ∧ ∀ g, 0 < S2.L.length → (some ⟨g5, 0, none⟩ : Option Addr) = some ⟨g, 0, none⟩ → (((wr.setCell ⟨g5, m * 3, none⟩ x).setCell ⟨g5, m * 3 + 1, none⟩ y).setCell ⟨g5, m * 3 + 2, none⟩ z).there g 0 (S2.L.length * 3)) := xhide (fun x y z =>
                    ⟨((hz1.trans (cell_chg wr g5 (m * 3) x) (fun j _ e => ⟨by omega, by rw [e]⟩)).trans (cell_chg _ g5 (m * 3 + 1) y) (fun j _ e => ⟨by omega, by rw [e]⟩)).trans (cell_chg _ g5 (m * 3 + 2) z) (fun j _ e => ⟨by omega, by rw [e]⟩),
                     fun g h0 e => by cases e; exact there_set (there_set (there_set ht))⟩)
                  clear hz1 hz2 ht e0 e1 e2
                  go_wp2_with fail
                  go_roundw
                  case rel => exact ⟨m + 1, by omega, by go_num, xhide (NX.out _ _ _)⟩
                  case measure => simp [intOf]; omega
                · obtain rfl : m = S2.L.length := by omega
                  have d3 : ¬ (S2.L.length : Int) < (S2.L.length : Int) := by omega
                  have hlo : Below wn.heap.size wn wr := HB5.out.trans (HZ.out.1.low HB5.out.size (fun j e => by
                    obtain ⟨g, e1, hg⟩ := HG5.out e.1
                    rw [e1] at e; cases e.2; exact hg))
                  have HBE := xhide (HBN.out.below hlo)
                  have HME := xhide (HMn.out.below hlo)
                  have hDe := HDn.out.below hlo
                  have y1 : wr.cell? ⟨Y', 1, none⟩ = some (.int .i64 S2.t) := hDe.cells.2.1
                  have hYe := hDe.lt
                  have HTT : Hid (∀ u, Below wr.heap.size wr u → Calls Try.prog 18 #[ptr X] u fun e w' => e = .returned (.int .i64 S2.t) ∧ w' = u) := xhide (fun u hu => mo_time (HME.out.below hu))
                  clear hlo hDe
                  go_wp2_with fail
                  go_quiet ((go_at_call 18; exact Calls.quiet_of_same (HTT.out _ (xdrew (Below.refl _ _) _))))
                  go_wp2_with fail
                  go_roundw
                  case rel => exact ⟨k + 1, S2, by omega, by omega, by go_num, by omega, xhide (HBE.out.below (xdrew (Below.refl _ _) _))⟩
                  case measure => simp [intOf]; omega
          · obtain ⟨g5, rfl, hg5, ht5⟩ := HTH1.out (by omega)
            have hg5l : g5 < w1.heap.size := by
              obtain ⟨vv, hvv⟩ := Option.isSome_iff_exists.1 (ht5 0 (by omega)).1
              exact World.block_lt_of_cell? w1 _ hvv
            have hE1 := HGR1.out g5 hg5 hg5l (by intro e; rw [e] at hn0; exact hn0 rfl)
            obtain ⟨aN, cN, aN2, cN2, hmN, hN1, hN2⟩ := HN2.out
            rw [hszx] at hN1 hN2
            have hE2 : Mo B' (g5 :: Ky Y' aN aN2) w2 X pr.1 := mo_addC (hE1.below HBX.out) HC2.out (fun j e => by rw [e]; simp) (fun gg hg => by
              simp only [List.mem_cons, List.mem_append] at hg ⊢
              rcases hg with e | e | e | e
              · exact .inl (.inl e)
              · exact .inl (.inr (.inl e))
              · rcases hN1 gg e with q | q
                · exact .inl (.inr (.inr (.inl q)))
                · exact .inr ⟨by rw [hszx]; exact q, hmN.l1 gg e⟩
              · rcases hN2 gg e with q | q
                · exact .inl (.inr (.inr (.inr q)))
                · exact .inr ⟨by rw [hszx]; exact q, hmN.l2 gg e⟩)
            have HE3 := xhide (hE2.below HB3w.out)
            have HM3 := xhide (hmN.below HB3w.out)
            have HG1 : Hid (∀ j ∈ Kr aN, j ≠ g5) := xhide (fun j hj => by
              rcases hN1 j hj with q | q
              · have := HD.out.l1 j q; omega
              · omega)
            have HG2 : Hid (∀ j ∈ Kr aN2, j ≠ g5) := xhide (fun j hj => by
              rcases hN2 j hj with q | q
              · have := HD.out.l2 j q; omega
              · omega)
            have hgY : g5 ≠ Y' := by omega
            have hgA : w1.heap.size ≠ g5 := by omega
            have ht3 : w3.there g5 0 (pr.2.rows.length * 3) := there_block (there_block (there_block ht5 (HBX.out.block g5 hg5l)) (HC2.out.2 g5 (by omega) hgY)) (HB3w.out.block g5 (by omega))
            have HLOW := xhide (HBM2.out.low.trans (HB3w.out.mono HBM2.out.low.size))
            have HWB := HHA.out.wB
            have HWY := HHA.out.wY
            have HZ0 : Hid (Chg (fun j => j = g5) w3 w3 ∧ w3.there g5 0 (pr.2.rows.length * 3)) := xhide ⟨Chg.refl, ht3⟩
            clear ht5 hE1 hmN hN1 hN2 hE2 ht3 HBM2 HD HHA HA2 HN2 HC2 HM1 HGR1 HB1a HK1 HBX HTH1 hok2 HB14 HB3w hszx hgr
            go_wp2_with fail
            go_loopw [16] (fun i wr => ∃ m : Nat, m ≤ pr.2.rows.length ∧ i = .int .i64 (m : Nat) ∧ Hid (Chg (fun j => j = g5) w3 wr ∧ wr.there g5 0 (pr.2.rows.length * 3))) (fun i _ => pr.2.rows.length - (intOf i).toNat)
            case atStart => exact ⟨0, by omega, rfl, HZ0⟩
            case round =>
              obtain ⟨m, hm, rfl, HZ⟩ := hrel
              clear HZ0 b3
              obtain ⟨hz1, ht⟩ := HZ.out
              have hAr := (hz1.2 w1.heap.size hl3 hgA).trans HA3.out
              have b3 : wr.cell? ⟨w1.heap.size, 3, none⟩ = some (.slice (some ⟨g5, 0, none⟩) pr.2.rows.length cp) := by rw [Go.Joins.cell_of_block hAr]; rfl
              have hlr : w1.heap.size < wr.heap.size := (Array.getElem?_eq_some_iff.1 hAr).1
              by_cases hlm : m < pr.2.rows.length
              · have e0 := ht (m * 3) (by omega)
                have e1 := ht (m * 3 + 1) (by omega)
                have e2 := ht (m * 3 + 2) (by omega)
                simp only [Nat.zero_add] at e0 e1 e2
                obtain ⟨u0, v0⟩ := Option.isSome_iff_exists.1 e0.1
                obtain ⟨u1, v1⟩ := Option.isSome_iff_exists.1 e1.1
                obtain ⟨u2, v2⟩ := Option.isSome_iff_exists.1 e2.1
                have f0 := e0.2
                have f1 := e1.2
                have f2 := e2.2
                have hgw : g5 < wr.heap.size := World.block_lt_of_cell? wr _ v0
                have d3 : (m : Int) < (pr.2.rows.length : Int) := by omega
                have NX : Hid (∀ x y z : Value, Chg (fun j => j = g5) w3 (((wr.setCell ⟨g5, m * 3, none⟩ x).setCell ⟨g5, m * 3 + 1, none⟩ y).setCell ⟨g5, m * 3 + 2, none⟩ z) ∧ (((wr.setCell ⟨g5, m * 3, none⟩ x).setCell ⟨g5, m * 3 + 1, none⟩ y).setCell ⟨g5, m * 3 + 2, none⟩ z).there g5 0 (pr.2.rows.length * 3)) := xhide (fun x y z =>
                  ⟨((hz1.trans (cell_chg wr g5 (m * 3) x) (fun j _ e => e)).trans (cell_chg _ g5 (m * 3 + 1) y) (fun j _ e => e)).trans (cell_chg _ g5 (m * 3 + 2) z) (fun j _ e => e), there_set (there_set (there_set ht))⟩)
                clear hz1 ht e0 e1 e2 hAr
                go_wp2_with fail
                go_roundw
                case rel => exact ⟨m + 1, by omega, by go_num, xhide (NX.out _ _ _)⟩
                case measure => simp [intOf]; omega
              · obtain rfl : m = pr.2.rows.length := by omega
                have d3 : ¬ (pr.2.rows.length : Int) < (pr.2.rows.length : Int) := by omega
                obtain ⟨wn, hwn⟩ : ∃ wn, wn = wr := ⟨_, rfl⟩
                subst hwn
                have HBN : Hid (Bm W B' X Y' wn S2) := xhide (by
                  rw [hS2]
                  have hmo := mo_chg HE3.out hz1 (fun j e => by rw [e]; simp)
                  exact ⟨⟨aN, cN, aN2, cN2, HM3.out.chg hz1 (fun q => hgY q.symm) (fun j hj q => HG1.out j hj q) (fun j hj q => HG2.out j hj q), hmo.sub (fun j hj => List.mem_cons_of_mem _ hj)⟩, HLOW.out.trans (hz1.low HLOW.out.size (fun j e => by omega)), HWB, HWY⟩)
                clear hz1 ht hAr HZ HE3 HM3 HG1 HG2 HLOW HA3 hSl hS2
                go_wp2_with fail
                clear b3 hlr d3 hl3 hlA hs01 hs12 hgA hgY hg5l hg5
                obtain ⟨aD, cD, aD2, cD2, hDn, hMn⟩ := HBN.out.ex
                have HMn := xhide hMn
                have HDn := xhide hDn
                clear hDn hMn
                refine (mo_rows HMn.out (by unfold big; omega)).mono ?_
                rintro e wa ⟨ao5, cp5, rfl, hrs5, hth5, _, hb5⟩
                try simp only [] at hrs5 hth5
                have hD5 := HDn.out.below hb5
                have y0 : wa.cell? ⟨Y', 0, none⟩ = some (.slice aD S2.L.length cD) := hD5.cells.1
                have hYa := hD5.lt
                have HSR := xhide (ML.sameRows_any (l := S2.L) hrs5 hD5.rs)
                have HB5 := xhide hb5
                have hmxn : (S2.L.length : Int) ≤ 9223372036854775807 := by omega
                have HS0 : Hid (∀ u, Below wa.heap.size wa u → Chg (fun j => 0 < S2.L.length ∧ ao5 = some ⟨j, 0, none⟩) wa u ∧ ∀ g, 0 < S2.L.length → ao5 = some ⟨g, 0, none⟩ → u.there g 0 (S2.L.length * 3)) := xhide (fun u hu => ⟨Chg.below hu, fun g h0 e => by
                  obtain ⟨g', e', _, ht⟩ := hth5 h0
                  rw [e] at e'; cases e'
                  intro j hj
                  have h1 := ht j hj
                  have hlt : g < wa.heap.size := by
                    obtain ⟨v, hv⟩ := Option.isSome_iff_exists.1 h1.1
                    exact World.block_lt_of_cell? wa _ hv
                  exact ⟨by rw [hu.cell (p := ⟨g, 0 + j, none⟩) hlt]; exact h1.1, (by
                    have := hu.block g hlt
                    exact (World.frozen?_of_block this).trans h1.2)⟩⟩)
                have HG5 : Hid (0 < S2.L.length → ∃ g, ao5 = some ⟨g, 0, none⟩ ∧ wn.heap.size ≤ g) := xhide (fun h0 => by
                  obtain ⟨g, e, hg, _⟩ := hth5 h0
                  exact ⟨g, e, hg⟩)
                clear hrs5 hth5 hb5 hD5
                go_wp2_with fail
                refine HSR.out.mono ?_
                rintro e wb ⟨rfl, q5, rfl⟩
                have HS1 := xhide (HS0.out _ (xdrew (Below.refl _ _) q5))
                clear HSR HS0 y0 hYa
                go_wp2_with fail
                go_loopw [19] (fun i wr => ∃ m : Nat, m ≤ S2.L.length ∧ i = .int .i64 (m : Nat) ∧ Hid (Chg (fun j => 0 < S2.L.length ∧ ao5 = some ⟨j, 0, none⟩) wa wr ∧ ∀ g, 0 < S2.L.length → ao5 = some ⟨g, 0, none⟩ → wr.there g 0 (S2.L.length * 3))) (fun i _ => S2.L.length - (intOf i).toNat)
                case atStart => exact ⟨0, by omega, rfl, HS1⟩
                case round =>
                  obtain ⟨m, hm, rfl, HZ⟩ := hrel
                  clear HS1
                  by_cases hlm : m < S2.L.length
                  · obtain ⟨g5, rfl, hg5⟩ := HG5.out (by omega)
                    obtain ⟨hz1, hz2⟩ := HZ.out
                    have ht := hz2 g5 (by omega) rfl
                    have e0 := ht (m * 3) (by omega)
                    have e1 := ht (m * 3 + 1) (by omega)
                    have e2 := ht (m * 3 + 2) (by omega)
                    simp only [Nat.zero_add] at e0 e1 e2
                    obtain ⟨u0, v0⟩ := Option.isSome_iff_exists.1 e0.1
                    obtain ⟨u1, v1⟩ := Option.isSome_iff_exists.1 e1.1
                    obtain ⟨u2, v2⟩ := Option.isSome_iff_exists.1 e2.1
                    have f0 := e0.2
                    have f1 := e1.2
                    have f2 := e2.2
                    have hgw : g5 < wr.heap.size := World.block_lt_of_cell? wr _ v0
                    have d3 : (m : Int) < (S2.L.length : Int) := by omega
                    have NX : Hid (∀ x y z : Value, Chg (fun j => 0 < S2.L.length ∧ (some ⟨g5, 0, none⟩ : Option Addr) = some ⟨j, 0, none⟩) wa (((wr.setCell ⟨g5, m * 3, none⟩ x).setCell ⟨g5, m * 3 + 1, none⟩ y).setCell ⟨g5, m * 3 + 2, none⟩ z) ∧ ∀ g, 0 < S2.L.length → (some ⟨g5, 0, none⟩ : Option Addr) = some ⟨g, 0, none⟩ → (((wr.setCell ⟨g5, m * 3, none⟩ x).setCell ⟨g5, m * 3 + 1, none⟩ y).setCell ⟨g5, m * 3 + 2, none⟩ z).there g 0 (S2.L.length * 3)) := xhide (fun x y z =>
                      ⟨((hz1.trans (cell_chg wr g5 (m * 3) x) (fun j _ e => ⟨by omega, by rw [e]⟩)).trans (cell_chg _ g5 (m * 3 + 1) y) (fun j _ e => ⟨by omega, by rw [e]⟩)).trans (cell_chg _ g5 (m * 3 + 2) z) (fun j _ e => ⟨by omega, by rw [e]⟩),
                       fun g h0 e => by cases e; exact there_set (there_set (there_set ht))⟩)
                    clear hz1 hz2 ht e0 e1 e2
                    go_wp2_with fail
                    go_roundw
                    case rel => exact ⟨m + 1, by omega, by go_num, xhide (NX.out _ _ _)⟩
                    case measure => simp [intOf]; omega
                  · obtain rfl : m = S2.L.length := by omega
                    have d3 : ¬ (S2.L.length : Int) < (S2.L.length : Int) := by omega
                    have hlo : Below wn.heap.size wn wr := HB5.out.trans (HZ.out.1.low HB5.out.size (fun j e => by
                      obtain ⟨g, e1, hg⟩ := HG5.out e.1
                      rw [e1] at e; cases e.2; exact hg))
                    have HBE := xhide (HBN.out.below hlo)
                    have HME := xhide (HMn.out.below hlo)
                    have hDe := HDn.out.below hlo
                    have y1 : wr.cell? ⟨Y', 1, none⟩ = some (.int .i64 S2.t) := hDe.cells.2.1
                    have hYe := hDe.lt
                    have HTT : Hid (∀ u, Below wr.heap.size wr u → Calls Try.prog 18 #[ptr X] u fun e w' => e = .returned (.int .i64 S2.t) ∧ w' = u) := xhide (fun u hu => mo_time (HME.out.below hu))
                    clear hlo hDe
                    go_wp2_with fail
                    go_quiet ((go_at_call 18; exact Calls.quiet_of_same (HTT.out _ (xdrew (Below.refl _ _) _))))
                    go_wp2_with fail
                    go_roundw
                    case rel => exact ⟨k + 1, S2, by omega, by omega, by go_num, by omega, xhide (HBE.out.below (xdrew (Below.refl _ _) _))⟩
                    case measure => simp [intOf]; omega
      · have FIN := xhide HS.out.low
        by_cases h1 : k < l.length
        · have d1 : (k : Int) < (l.length : Int) := by omega
          have d2 : ¬ (k : Int) < 400 := by omega
          go_wp2
          go_ret
          exact ⟨rfl, FIN.out⟩
        · have d1 : ¬ (k : Int) < (l.length : Int) := by omega
          go_wp2
          go_ret
          exact ⟨rfl, FIN.out⟩
end
end Go.Proofs.Ytheidhkmmihjlaa

/-
  XnV: how many values a slice holds, against the bulk of what came in.
-/
namespace Go.Proofs.Ytheidhkmmihjlaa
open Go.RowKit Go.ChangeShapes Go.WideShapes Go.ChangeAt
theorem bulk_one {H : Type} (d : DataW H) : 1 ≤ Rows.uptoBulk d := by
  cases d with
  | lit l => cases l <;> simp [Rows.uptoBulk]
  | nil => simp [Rows.uptoBulk]
  | ptr d => simp [Rows.uptoBulk]
  | slice elems spare => simp [Rows.uptoBulk]
  | agg parts => simp [Rows.uptoBulk]
  | iface t d => simp [Rows.uptoBulk]
  | map entries => simp [Rows.uptoBulk]
  | held h => simp [Rows.uptoBulk]
theorem bulk_length {H : Type} : ∀ (l : List (DataW H)), l.length ≤ Rows.uptoBulkAll l
  | [] => by simp [Rows.uptoBulkAll]
  | x :: r => by
    have h1 := bulk_one x
    have h2 := bulk_length r
    simp only [Rows.uptoBulkAll, List.length_cons]
    omega
theorem bulk_long {H : Type} {d : DataW H} {len : Nat} (hp : Long d len) : len ≤ Rows.uptoBulk d := by
  rcases hp with ⟨_, rfl⟩ | ⟨es, sp, rfl, hl⟩
  · omega
  · have h1 := bulk_length es
    have h2 := bulk_length sp
    simp only [Rows.uptoBulk]
    omega
end Go.Proofs.Ytheidhkmmihjlaa
