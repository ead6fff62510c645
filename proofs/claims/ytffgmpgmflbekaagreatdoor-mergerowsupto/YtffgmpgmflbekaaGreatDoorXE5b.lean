/-
  Which manifests are right, as the document says.
-/
import Derived.Test.YtffgmpgmflbekaaGreatDoorXE5
set_option linter.unusedVariables false
set_option linter.unusedSimpArgs false
namespace Go.Proofs.YtffgmpgmflbekaaGreatDoor.EL
open Go.RowKit

section
variable {w : World} {ao : Option Addr} {len cap : Nat} {ps : List Pr}
set_option maxRecDepth 100000
set_option maxHeartbeats 4000000

theorem refRightManifest_any (t lg : Int) (h : Seq 3 Pr.cells w ao len cap ps) :
    Calls Tryz.prog 70 #[.agg #[.int .i64 t, .int .i64 lg, .slice ao len cap]] w fun e w' => e = .returned (.bool (rightM ⟨t, lg, ps⟩)) ∧ Below w.heap.size w w' := by
  unfold rightM
  simp only []
  have hx := h.1
  have hm : (len : Int) ≤ 9223372036854775807 := by have := h.2.1; have := h.2.2.1; unfold maxLen at this; omega
  rw [hx]
  have hb : Below w.heap.size w (w.alloc (.cells #[.int .i64 t, .int .i64 lg, .slice ao len cap] 34)) := (Below.refl _ _).alloc (Nat.le_refl _) _
  have htime : ∀ u : World, Calls Tryz.prog 132 #[.int .i64 t] u fun e w' => e = .returned (.bool (isT t)) ∧ w' = u := fun u => timed_any u t
  cases h1 : isT t with
  | false =>
    rw [h1] at htime
    go_enter Tryz.func70, Tryz.ntmps70
    go_wp2_with (first
      | (go_at_call 132; refine (htime _).mono ?_; rintro e w' ⟨rfl, rfl⟩)
      | fail)
    go_ret
    exact ⟨ret_boolB (by simp), hb⟩
  | true =>
  rw [h1] at htime
  by_cases h2 : lg < 1
  · have hN : isN lg = false := by unfold isN; rw [decide_eq_false (by omega : ¬ 1 ≤ lg)]; rfl
    rw [hN]
    go_enter Tryz.func70, Tryz.ntmps70
    go_wp2_with (first
      | (go_at_call 132; refine (htime _).mono ?_; rintro e w' ⟨rfl, rfl⟩)
      | fail)
    go_ret
    exact ⟨ret_boolB (by simp), hb⟩
  by_cases h2' : 2147483647 < lg
  · have hN : isN lg = false := by unfold isN; rw [decide_eq_false (by omega : ¬ lg ≤ 2147483647), Bool.and_false]
    rw [hN]
    go_enter Tryz.func70, Tryz.ntmps70
    go_wp2_with (first
      | (go_at_call 132; refine (htime _).mono ?_; rintro e w' ⟨rfl, rfl⟩)
      | fail)
    go_ret
    exact ⟨ret_boolB (by simp), hb⟩
  have hN : isN lg = true := by unfold isN; rw [decide_eq_true (by omega : 1 ≤ lg), decide_eq_true (by omega : lg ≤ 2147483647)]; rfl
  rw [hN]
  by_cases h3 : len ≤ 16
  case neg =>
    rw [decide_eq_false h3]
    have h3' : (16 : Int) < (len : Int) := by omega
    go_enter Tryz.func70, Tryz.ntmps70
    go_wp2_with (first
      | (go_at_call 132; refine (htime _).mono ?_; rintro e w' ⟨rfl, rfl⟩)
      | fail)
    go_ret
    exact ⟨ret_boolB (by simp), hb⟩
  rw [decide_eq_true h3]
  have h3' : ¬ (16 : Int) < (len : Int) := by omega
  generalize hR : upP t [] 0 ps = R
  have HR := ehide3 hR
  have HS := ehide3 h
  have hbx : (w.alloc (.cells #[.int .i64 t, .int .i64 lg, .slice ao len cap] 34)).heap[w.heap.size]? = some (.cells #[.int .i64 t, .int .i64 lg, .slice ao len cap] 34 (0, 0)) := heap_alloc_new w _
  clear h hR
  go_enter Tryz.func70, Tryz.ntmps70
  go_wp2_with (first
    | (go_at_call 132; refine (htime _).mono ?_; rintro e w' ⟨rfl, rfl⟩)
    | fail)
  go_loopw [3, 4] (fun a i wr => ∃ (k : Nat) (e : Int), k ≤ len ∧ i = .int .i64 k ∧ a = .int .i64 e ∧ R = upP t ((ps.take k).map Pr.num) e (ps.drop k) ∧ Below (w.heap.size + 1) (w.alloc (.cells #[.int .i64 t, .int .i64 lg, .slice ao len cap] 34)) wr) (fun _ i _ => len - (intOf i).toNat)
  case atStart => exact ⟨0, 0, by omega, rfl, rfl, HR.out.symm, Below.refl _ _⟩
  case round =>
    obtain ⟨wR, hwR⟩ : ∃ x, x = wr := ⟨_, rfl⟩
    subst hwR
    obtain ⟨k, e0, hk, rfl, rfl, he, hB⟩ := hrel
    have HE := ehide3 he
    clear he
    have hsz := hB.size
    rw [show (w.alloc (.cells #[.int .i64 t, .int .i64 lg, .slice ao len cap] 34)).heap.size = w.heap.size + 1 from by simp] at hsz
    have hbk := (hB.block w.heap.size (by omega)).trans hbx
    have hBw : Below w.heap.size w wR := hb.trans (hB.mono (by omega))
    have b0 : wR.cell? ⟨w.heap.size, 0, none⟩ = some (.int .i64 t) := by rw [Go.Joins.cell_of_block hbk]; rfl
    have b2 : wR.cell? ⟨w.heap.size, 2, none⟩ = some (.slice ao len cap) := by rw [Go.Joins.cell_of_block hbk]; rfl
    by_cases hkl : k < len
    case neg =>
      have hki : ¬ (k : Int) < (len : Int) := by omega
      go_wp2
      go_ret
      exact ⟨ret_boolB (by rw [HE.out, List.drop_eq_nil_of_le (by omega)]; unfold upP; by_cases he : e0 = t <;> simp [he]), hBw⟩
    obtain ⟨x, hxk⟩ : ∃ x, ps[k]? = some x := ⟨ps[k], List.getElem?_eq_getElem (by omega)⟩
    obtain ⟨b, off, rfl, hbl, hcell⟩ := HS.out.three (by omega)
    obtain ⟨q0, q1, q2⟩ := hcell k x _ _ _ hxk rfl
    have hd := drop_at hxk
    have r0 := (hBw.cell (p := ⟨b, off + k * 3, none⟩) hbl).trans q0
    have r1 := (hBw.cell (p := ⟨b, off + k * 3 + 1, none⟩) hbl).trans q1
    have r2 := (hBw.cell (p := ⟨b, off + k * 3 + 2, none⟩) hbl).trans q2
    have hki : (k : Int) < (len : Int) := by omega
    have htk : ps.take (k + 1) = ps.take k ++ [x] := by
      rw [List.take_add_one, hxk]; rfl
    obtain ⟨nn, ff, tt⟩ := x
    simp only [] at r0 r1 r2
    have HE2 : R = (isN nn && !(((ps.take k).map Pr.num).contains nn) && decide (ff = e0) && decide (ff < tt) && upP t ((ps.take (k + 1)).map Pr.num) tt (ps.drop (k + 1))) := by
      rw [HE.out, hd, htk, List.map_append]; rfl
    have HE3 := ehide3 HE2
    have hB1 : Below (w.heap.size + 1) (w.alloc (.cells #[.int .i64 t, .int .i64 lg, .slice (some ⟨b, off, none⟩) len cap] 34)) (wR.alloc (.cells #[.int .i64 nn, .int .i64 ff, .int .i64 tt] 46)) := hB.alloc (by omega) _
    have hBr1 : Below w.heap.size w (wR.alloc (.cells #[.int .i64 nn, .int .i64 ff, .int .i64 tt] 46)) := hb.trans (hB1.mono (by omega))
    have hal : Below wR.heap.size wR (wR.alloc (.cells #[.int .i64 nn, .int .i64 ff, .int .i64 tt] 46)) := (Below.refl _ _).alloc (Nat.le_refl _) _
    obtain ⟨n0, n1, n2⟩ := cell_new3 (w := wR) (a := .int .i64 nn) (b := .int .i64 ff) (c := .int .i64 tt) (t := 46)
    have m2 : (wR.alloc (.cells #[.int .i64 nn, .int .i64 ff, .int .i64 tt] 46)).cell? ⟨w.heap.size, 2, none⟩ = some (.slice (some ⟨b, off, none⟩) len cap) := (hal.cell (p := ⟨w.heap.size, 2, none⟩) (by simp only []; omega)).trans b2
    have HC := ehide3 (fun j y hy => (hcell j y _ _ _ hy rfl).1)
    clear HE HE2 hcell q0 q1 q2 hd hxk
    by_cases c1 : nn < 1
    · have HE4 := ehide3 (show R = false from by rw [HE3.out]; unfold isN; rw [decide_eq_false (by omega : ¬ 1 ≤ nn)]; simp)
      go_wp2
      go_ret
      exact ⟨ret_boolB HE4.out.symm, hBr1⟩
    by_cases c2 : 2147483647 < nn
    · have HE4 := ehide3 (show R = false from by rw [HE3.out]; unfold isN; rw [decide_eq_false (by omega : ¬ nn ≤ 2147483647)]; simp)
      go_wp2
      go_ret
      exact ⟨ret_boolB HE4.out.symm, hBr1⟩
    by_cases c3 : ff = e0
    case neg =>
      have HE4 := ehide3 (show R = false from by rw [HE3.out, decide_eq_false c3]; simp)
      go_wp2
      go_ret
      exact ⟨ret_boolB HE4.out.symm, hBr1⟩
    by_cases c4 : ff < tt
    case neg =>
      have HE4 := ehide3 (show R = false from by rw [HE3.out, decide_eq_false c4]; simp)
      have c4' : tt ≤ ff := by omega
      subst c3
      go_wp2
      go_ret
      exact ⟨ret_boolB HE4.out.symm, hBr1⟩
    have c4' : ¬ tt ≤ ff := by omega
    have HE4 := ehide3 (show R = (!(((ps.take k).map Pr.num).contains nn) && upP t ((ps.take (k + 1)).map Pr.num) tt (ps.drop (k + 1))) from by
      rw [HE3.out, decide_eq_true c3, decide_eq_true c4]; unfold isN; rw [decide_eq_true (by omega : 1 ≤ nn), decide_eq_true (by omega : nn ≤ 2147483647)]; simp)
    subst c3
    clear HE3 htk
    go_wp2
    go_loopw [6] (fun i wr => ∃ j : Nat, j ≤ k ∧ i = .int .i64 j ∧ ((ps.take k).map Pr.num).contains nn = (((ps.take k).drop j).map Pr.num).contains nn ∧ Below (wR.alloc (.cells #[.int .i64 nn, .int .i64 ff, .int .i64 tt] 46)).heap.size (wR.alloc (.cells #[.int .i64 nn, .int .i64 ff, .int .i64 tt] 46)) wr) (fun i _ => k - (intOf i).toNat)
    case atStart => exact ⟨0, by omega, rfl, rfl, Below.refl _ _⟩
    case round =>
      obtain ⟨j, hj, rfl, hcn, hBi⟩ := hrel
      have HCN := ehide3 hcn
      clear hcn
      have hBi2 : Below w.heap.size w wr := hBr1.trans (hBi.mono (by simp; omega))
      have i2 := (hBi.cell (p := ⟨w.heap.size, 2, none⟩) (by simp; omega)).trans m2
      have i0 := (hBi.cell (p := ⟨wR.heap.size, 0, none⟩) (by simp)).trans n0
      have i4 := (hBi.cell (p := ⟨wR.heap.size, 2, none⟩) (by simp)).trans n2
      by_cases hjk : j < k
      · obtain ⟨y, hy⟩ : ∃ y, ps[j]? = some y := ⟨ps[j]'(by omega), List.getElem?_eq_getElem (by omega)⟩
        have c0 := (hBi2.cell (p := ⟨b, off + j * 3, none⟩) hbl).trans (HC.out j y hy)
        have hji : (j : Int) < (k : Int) := by omega
        have hjl : (j : Int) < (len : Int) := by omega
        have hdj : (ps.take k).drop j = y :: (ps.take k).drop (j + 1) := drop_at (by rw [List.getElem?_take_of_lt hjk]; exact hy)
        have HCN2 := ehide3 (show ((ps.take k).map Pr.num).contains nn = (decide (nn = y.num) || (((ps.take k).drop (j + 1)).map Pr.num).contains nn) from by rw [HCN.out, hdj]; simp [List.contains_cons])
        obtain ⟨yn, yf, yt⟩ := y
        simp only [] at c0
        clear HCN hdj hy
        by_cases hyn : yn = nn
        · have HE5 := ehide3 (show R = false from by rw [HE4.out, HCN2.out]; simp [hyn])
          subst hyn
          go_wp2
          go_quiet (fail)
          go_wp2
          go_ret
          exact ⟨ret_boolB HE5.out.symm, below_drewN hBi2 _⟩
        · have HCN3 := ehide3 (show ((ps.take k).map Pr.num).contains nn = (((ps.take k).drop (j + 1)).map Pr.num).contains nn from by rw [HCN2.out]; simp [Ne.symm hyn])
          have hyn1 : decide (yn = nn) = false := decide_eq_false hyn
          have hyn2 : (yn == nn) = false := by simpa using hyn
          go_wp2
          go_quiet (fail)
          go_wp2
          go_roundw
          case rel => exact ⟨j + 1, by omega, by go_num, HCN3.out, below_drewN hBi _⟩
          case measure => simp [intOf]; omega
      · have hji : ¬ (j : Int) < (k : Int) := by omega
        have hc : ((ps.take k).map Pr.num).contains nn = false := by
          rw [HCN.out, List.drop_eq_nil_of_le (by simp; omega)]; rfl
        have HE5 := ehide3 (show R = upP t ((ps.take (k + 1)).map Pr.num) tt (ps.drop (k + 1)) from by rw [HE4.out, hc]; rfl)
        have hB2 := hB1.trans (hBi.mono (by simp; omega))
        clear HE4 hc
        go_wp2
        go_roundw
        case rel => exact ⟨k + 1, tt, by omega, by go_num, rfl, HE5.out, hB2⟩
        case measure => simp [intOf]; omega
end
end Go.Proofs.YtffgmpgmflbekaaGreatDoor.EL
