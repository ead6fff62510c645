/-
  Which manifests are right: the program's loop and the document's.
-/
import Derived.Test.YtffgmpgmflbekaaGreatDoorXE3
import Derived.WalkSmall
import Derived.Deep.RegionHeld3
set_option linter.unusedVariables false
set_option linter.unusedSimpArgs false
namespace Go.Proofs.YtffgmpgmflbekaaGreatDoor.EL
open Go.RowKit

/-- 'list[:k]'. -/
theorem Seq.upto {α : Type} {f : α → List Value} {n : Nat} {P : Program} {w : World} {ao : Option Addr} {len cap : Nat} {xs : List α} (h : Seq n f w ao len cap xs) (t e : TypeId) (ht : P.underlying t = some (.slice e)) (hs : ∀ u : World, (Go.sizeOf e).run P u = .ok n u) (k : Nat) (hk : k ≤ len) :
    ∃ ao', (∀ u : World, (Instr.slice t (.slice ao len cap) none (some (.int .i64 (k : Int))) none).run P u = .ok (.slice ao' k cap) u) ∧ Seq n f w ao' k cap (xs.take k) := by
  have ht' : P.underlying t = some (.slice (P.elem t)) := by simp [Program.elem, ht]
  have he : P.elem t = e := by simp [Program.elem, ht]
  obtain ⟨h1, h2, h3, h4⟩ := h
  obtain ⟨ao', e1⟩ : ∃ ao', Go.sliced ao 0 k cap n = .slice ao' k cap := ⟨_, rfl⟩
  refine ⟨ao', ?_, by simp; omega, by omega, h3, fun hl => ?_⟩
  · intro u
    rw [run_slice_h u t ao len cap ht' .i64 k (by omega) (by omega), he, hs]
    simp only [Result.andThen, Int.toNat_natCast]
    rw [e1]
  · obtain ⟨b, off, rfl, hb, hc⟩ := h4 (by omega)
    refine ⟨b, off, ?_, hb, fun i x hi j u hu => ?_⟩
    · unfold Go.sliced at e1
      simp only [Value.slice.injEq] at e1
      rw [← e1.1]
      split
      · rfl
      · simp [addr_plus]
    · refine hc i x ?_ j u hu
      have hi2 := (List.getElem?_eq_some_iff.1 hi).1
      rw [List.length_take] at hi2
      rw [List.getElem?_take_of_lt (by omega)] at hi
      exact hi

section
variable {w : World} {ao : Option Addr} {len cap : Nat} {ps : List Pr}
set_option maxRecDepth 100000
set_option maxHeartbeats 4000000

theorem has_any (n : Int) (h : Seq 3 Pr.cells w ao len cap ps) :
    Calls Tryz.prog 287 #[.slice ao len cap, .int .i64 n] w fun e w' => e = .returned (.bool ((ps.map Pr.num).contains n)) ∧ Below w.heap.size w w' := by
  have hx := h.1
  have hm : (len : Int) ≤ 9223372036854775807 := by have := h.2.1; have := h.2.2.1; unfold maxLen at this; omega
  generalize hR : (ps.map Pr.num).contains n = R
  have HR := ehide3 hR
  have HS := ehide3 h
  clear h hR
  go_enter Tryz.func287, Tryz.ntmps287
  go_wp2
  go_loopw [9] (fun i wr => ∃ k : Nat, k ≤ len ∧ i = .int .i64 k ∧ R = ((ps.drop k).map Pr.num).contains n ∧ Below w.heap.size w wr) (fun i _ => len - (intOf i).toNat)
  case atStart => exact ⟨0, by omega, rfl, HR.out.symm, Below.refl _ _⟩
  case round =>
    obtain ⟨k, hk, rfl, he, hB⟩ := hrel
    have HE := ehide3 he
    clear he
    by_cases hkl : k < len
    · obtain ⟨x, hxk⟩ : ∃ x, ps[k]? = some x := ⟨ps[k], List.getElem?_eq_getElem (by omega)⟩
      obtain ⟨b, off, rfl, hbl, hcell⟩ := HS.out.three (by omega)
      obtain ⟨q0, q1, q2⟩ := hcell k x _ _ _ hxk rfl
      have hd := drop_at hxk
      have r0 := (hB.cell (p := ⟨b, off + k * 3, none⟩) hbl).trans q0
      have r1 := (hB.cell (p := ⟨b, off + k * 3 + 1, none⟩) hbl).trans q1
      have r2 := (hB.cell (p := ⟨b, off + k * 3 + 2, none⟩) hbl).trans q2
      have hki : (k : Int) < (len : Int) := by omega
      obtain ⟨nn, ff, tt⟩ := x
      simp only [] at r0 r1 r2
      have HE2 : R = (decide (n = nn) || ((ps.drop (k + 1)).map Pr.num).contains n) := by rw [HE.out, hd]; simp [List.contains_cons]
      have HE3 := ehide3 HE2
      have hlt := hB.size
      have hB1 : Below w.heap.size w (wr.alloc (.cells #[.int .i64 nn, .int .i64 ff, .int .i64 tt] 46)) := hB.alloc hlt _
      clear HE HE2 hcell q0 q1 q2 hd hxk
      by_cases hn : nn = n
      · subst hn
        go_wp2
        go_ret
        exact ⟨ret_boolB (by rw [HE3.out]; simp), hB1⟩
      · have HE4 := ehide3 (show R = ((ps.drop (k + 1)).map Pr.num).contains n from by rw [HE3.out]; simp [Ne.symm hn])
        go_wp2
        go_roundw
        case rel => exact ⟨k + 1, by omega, by go_num, HE4.out, hB1⟩
        case measure => simp [intOf]; omega
    · have hk2 : k = len := by omega
      have hki : ¬ (k : Int) < (len : Int) := by omega
      go_wp2
      go_ret
      exact ⟨ret_boolB (by rw [HE.out, List.drop_eq_nil_of_le (by omega)]; simp), hB⟩

theorem sizePair (u : World) : (Go.sizeOf 46).run Tryz.prog u = .ok 3 u := by kernel_rfl

theorem rightManifest_any (t lg : Int) (h : Seq 3 Pr.cells w ao len cap ps) :
    Calls Tryz.prog 231 #[.agg #[.int .i64 t, .int .i64 lg, .slice ao len cap]] w fun e w' => e = .returned (.bool (rightM ⟨t, lg, ps⟩)) ∧ Below w.heap.size w w' := by
  unfold rightM
  simp only []
  have hx := h.1
  have hm : (len : Int) ≤ 9223372036854775807 := by have := h.2.1; have := h.2.2.1; unfold maxLen at this; omega
  rw [hx]
  have hb : Below w.heap.size w (w.alloc (.cells #[.int .i64 t, .int .i64 lg, .slice ao len cap] 34)) := (Below.refl _ _).alloc (Nat.le_refl _) _
  have htime : ∀ u : World, Calls Tryz.prog 285 #[.int .i64 t] u fun e w' => e = .returned (.bool (isT t)) ∧ w' = u := fun u => time_any u t
  have hlog : ∀ u : World, Calls Tryz.prog 286 #[.int .i64 lg] u fun e w' => e = .returned (.bool (isN lg)) ∧ w' = u := fun u => file_any u lg
  cases h1 : isT t with
  | false =>
    rw [h1] at htime
    go_enter Tryz.func231, Tryz.ntmps231
    go_wp2_with (first
      | (go_at_call 285; refine (htime _).mono ?_; rintro e w' ⟨rfl, rfl⟩)
      | (go_at_call 286; refine (hlog _).mono ?_; rintro e w' ⟨rfl, rfl⟩)
      | fail)
    go_ret
    exact ⟨ret_boolB (by simp), hb⟩
  | true =>
  cases h2 : isN lg with
  | false =>
    rw [h1] at htime
    rw [h2] at hlog
    go_enter Tryz.func231, Tryz.ntmps231
    go_wp2_with (first
      | (go_at_call 285; refine (htime _).mono ?_; rintro e w' ⟨rfl, rfl⟩)
      | (go_at_call 286; refine (hlog _).mono ?_; rintro e w' ⟨rfl, rfl⟩)
      | fail)
    go_ret
    exact ⟨ret_boolB (by simp), hb⟩
  | true =>
  rw [h1] at htime
  rw [h2] at hlog
  by_cases h3 : len ≤ 16
  case neg =>
    rw [decide_eq_false h3]
    go_enter Tryz.func231, Tryz.ntmps231
    go_wp2_with (first
      | (go_at_call 285; refine (htime _).mono ?_; rintro e w' ⟨rfl, rfl⟩)
      | (go_at_call 286; refine (hlog _).mono ?_; rintro e w' ⟨rfl, rfl⟩)
      | fail)
    go_ret
    exact ⟨ret_boolB (by simp), hb⟩
  rw [decide_eq_true h3]
  generalize hR : upP t [] 0 ps = R
  have HR := ehide3 hR
  have HS := ehide3 h
  have hbx : (w.alloc (.cells #[.int .i64 t, .int .i64 lg, .slice ao len cap] 34)).heap[w.heap.size]? = some (.cells #[.int .i64 t, .int .i64 lg, .slice ao len cap] 34 (0, 0)) := heap_alloc_new w _
  clear h hR
  go_enter Tryz.func231, Tryz.ntmps231
  go_wp2_with (first
    | (go_at_call 285; refine (htime _).mono ?_; rintro e w' ⟨rfl, rfl⟩)
    | (go_at_call 286; refine (hlog _).mono ?_; rintro e w' ⟨rfl, rfl⟩)
    | fail)
  go_loopw [3, 25] (fun a i wr => ∃ (k : Nat) (e : Int), k ≤ len ∧ i = .int .i64 k ∧ a = .int .i64 e ∧ R = upP t ((ps.take k).map Pr.num) e (ps.drop k) ∧ Below (w.heap.size + 1) (w.alloc (.cells #[.int .i64 t, .int .i64 lg, .slice ao len cap] 34)) wr) (fun _ i _ => len - (intOf i).toNat)
  case atStart => exact ⟨0, 0, by omega, rfl, rfl, HR.out.symm, Below.refl _ _⟩
  case round =>
    obtain ⟨k, e0, hk, rfl, rfl, he, hB⟩ := hrel
    have HE := ehide3 he
    clear he
    have hsz := hB.size
    rw [show (w.alloc (.cells #[.int .i64 t, .int .i64 lg, .slice ao len cap] 34)).heap.size = w.heap.size + 1 from by simp] at hsz
    have hbk := (hB.block w.heap.size (by omega)).trans hbx
    have hBw : Below w.heap.size w wr := hb.trans (hB.mono (by omega))
    by_cases hkl : k < len
    case neg =>
      have hki : ¬ (k : Int) < (len : Int) := by omega
      have b0 : wr.cell? ⟨w.heap.size, 0, none⟩ = some (.int .i64 t) := by rw [Go.Joins.cell_of_block hbk]; rfl
      go_wp2
      go_ret
      exact ⟨ret_boolB (by rw [HE.out, List.drop_eq_nil_of_le (by omega)]; unfold upP; by_cases he : e0 = t <;> simp [he]), hBw⟩
    obtain ⟨x, hxk⟩ : ∃ x, ps[k]? = some x := ⟨ps[k], List.getElem?_eq_getElem (by omega)⟩
    obtain ⟨ac, hcut, hsl⟩ := (HS.out.keep hBw).upto (P := Tryz.prog) 32 46 Tryz.underlying32 sizePair k (by omega)
    obtain ⟨b, off, rfl, hbl, hcell⟩ := HS.out.three (by omega)
    obtain ⟨q0, q1, q2⟩ := hcell k x _ _ _ hxk rfl
    have hd := drop_at hxk
    have r0 := (hBw.cell (p := ⟨b, off + k * 3, none⟩) hbl).trans q0
    have r1 := (hBw.cell (p := ⟨b, off + k * 3 + 1, none⟩) hbl).trans q1
    have r2 := (hBw.cell (p := ⟨b, off + k * 3 + 2, none⟩) hbl).trans q2
    have hki : (k : Int) < (len : Int) := by omega
    have htk : ps.take (k + 1) = ps.take k ++ [x] := by
      rw [List.take_add_one, hxk]; rfl
    obtain ⟨nn, ff, tt⟩ := x
    simp only [] at r0 r1 r2
    have HE2 : R = (isN nn && !(((ps.take k).map Pr.num).contains nn) && decide (ff = e0) && decide (ff < tt) && upP t ((ps.take (k + 1)).map Pr.num) tt (ps.drop (k + 1))) := by
      rw [HE.out, hd, htk, List.map_append]; rfl
    have HE3 := ehide3 HE2
    obtain ⟨w1, hw1⟩ : ∃ w1, w1 = wr.alloc (.cells #[.int .i64 nn, .int .i64 ff, .int .i64 tt] 46) := ⟨_, rfl⟩
    have hB1 : Below (w.heap.size + 1) (w.alloc (.cells #[.int .i64 t, .int .i64 lg, .slice (some ⟨b, off, none⟩) len cap] 34)) (wr.alloc (.cells #[.int .i64 nn, .int .i64 ff, .int .i64 tt] 46)) := hB.alloc (by omega) _
    have hal : Below wr.heap.size wr (wr.alloc (.cells #[.int .i64 nn, .int .i64 ff, .int .i64 tt] 46)) := (Below.refl _ _).alloc (Nat.le_refl _) _
    have hfile : ∀ u : World, Calls Tryz.prog 286 #[.int .i64 nn] u fun e w' => e = .returned (.bool (isN nn)) ∧ w' = u := fun u => file_any u nn
    have hhas : ∀ u : World, Below wr.heap.size wr u → Calls Tryz.prog 287 #[.slice ac k cap, .int .i64 nn] u fun e w' => e = .returned (.bool (((ps.take k).map Pr.num).contains nn)) ∧ Below u.heap.size u w' := fun u hu => has_any nn (hsl.keep hu)
    generalize hS : ((ps.take k).map Pr.num).contains nn = S at hhas
    rw [hS] at HE3
    have n3 := cell_new3 (w := wr) (a := .int .i64 nn) (b := .int .i64 ff) (c := .int .i64 tt) (t := 46)
    have blk2 := (hal.block w.heap.size (by omega)).trans hbk
    have c2 : (wr.alloc (.cells #[.int .i64 nn, .int .i64 ff, .int .i64 tt] 46)).cell? ⟨w.heap.size, 2, none⟩ = some (.slice (some ⟨b, off, none⟩) len cap) := by rw [Go.Joins.cell_of_block blk2]; rfl
    obtain ⟨n0, n1, n2⟩ := n3
    clear HE HE2 hcell q0 q1 q2 hd hxk htk hS hw1 w1
    cases hn : isN nn with
    | false =>
      rw [hn] at hfile
      go_wp2_with fail
      go_quiet ((go_at_call 286; exact Calls.quiet_of_same (hfile _)))
      go_wp2
      go_ret
      exact ⟨ret_boolB (by rw [HE3.out, hn]; simp), below_drewN (hb.trans (hB1.mono (by omega))) _⟩
    | true =>
      rw [hn] at hfile
      go_wp2_with fail
      refine wp_region_noPanic ?_
      refine wp_region_held_drew (S := fun u => u.cell? ⟨wr.heap.size, 0, none⟩ = some (.int .i64 nn) ∧ u.cell? ⟨w.heap.size, 2, none⟩ = some (.slice (some ⟨b, off, none⟩) len cap) ∧ Below (wr.alloc (.cells #[.int .i64 nn, .int .i64 ff, .int .i64 tt] 46)).heap.size (wr.alloc (.cells #[.int .i64 nn, .int .i64 ff, .int .i64 tt] 46)) u) (by kernel_rfl) (⟨n0, c2, ⟨rfl, rfl, rfl, Nat.le_refl _, fun _ _ => rfl⟩⟩) (fun hHeld => ?_)
      refine wpAnyH_take (i := 0) (oi := { dst := some 30, op := _, type := _, pos := _, after := _, guard := _ }) (v := ?_) rfl (by kernel_rfl) (by kernel_rfl) (by kernel_rfl) (fun _ _ _ h => h) (Or.inl ⟨by rfl, ?_⟩) (by assumption) ?_
      rotate_left 1
      · intro u hSw; obtain ⟨s1, s2, s3⟩ := hSw; go_simp; try with_reducible rfl
      try simp only [Act.put, List.setIfInBounds_toArray, List.set_cons_zero, List.set_cons_succ]
      refine wpAnyH_take (i := 1) (oi := { dst := some 31, op := _, type := _, pos := _, after := _, guard := _ }) (v := ?_) rfl (by kernel_rfl) (by kernel_rfl) (by kernel_rfl) (fun _ _ _ h => h) (Or.inl ⟨by rfl, ?_⟩) (by assumption) ?_
      rotate_left 1
      · intro u hSw; obtain ⟨s1, s2, s3⟩ := hSw; go_simp; try with_reducible rfl
      try simp only [Act.put, List.setIfInBounds_toArray, List.set_cons_zero, List.set_cons_succ]
      refine wpAnyH_ready (rs := [2]) (by kernel_rfl) (by simp) ?_
      refine AllReadyH.cons (o := { dst := some 32, op := _, type := _, pos := _, after := _, guard := _ }) rfl (fun K hK => ?_) AllReadyH.nil
      obtain ⟨s1, s2, s3⟩ := hHeld
      go_simp
      refine (hfile _).mono ?_
      rintro e w' ⟨rfl, rfl⟩
      go_wp2_with fail
      refine hK.out _ _ (⟨s1, s2, s3⟩) (fun hHeld => ?_)
      clear hK K
      try simp only [Act.put, List.setIfInBounds_toArray, List.set_cons_zero, List.set_cons_succ]
      refine wpAnyH_take (i := 3) (oi := { dst := some 33, op := _, type := _, pos := _, after := _, guard := _ }) (v := ?_) rfl (by kernel_rfl) (by kernel_rfl) (by kernel_rfl) (fun _ _ _ h => h) (Or.inl ⟨by rfl, ?_⟩) (by assumption) ?_
      rotate_left 1
      · intro u hSw; obtain ⟨s1, s2, s3⟩ := hSw; go_simp; try with_reducible rfl
      try simp only [Act.put, List.setIfInBounds_toArray, List.set_cons_zero, List.set_cons_succ]
      refine wpAnyH_take (i := 4) (oi := { dst := some 34, op := _, type := _, pos := _, after := _, guard := _ }) (v := ?_) rfl (by kernel_rfl) (by kernel_rfl) (by kernel_rfl) (fun _ _ _ h => h) (Or.inl ⟨by rfl, ?_⟩) (by assumption) ?_
      rotate_left 1
      · intro u hSw; obtain ⟨s1, s2, s3⟩ := hSw; go_simp; try with_reducible rfl
      try simp only [Act.put, List.setIfInBounds_toArray, List.set_cons_zero, List.set_cons_succ]
      refine wpAnyH_take (i := 5) (oi := { dst := some 35, op := _, type := _, pos := _, after := _, guard := _ }) (v := ?_) rfl (by kernel_rfl) (by kernel_rfl) (by kernel_rfl) (fun _ _ _ h => h) (Or.inl ⟨by rfl, ?_⟩) (by assumption) ?_
      rotate_left 1
      · intro u hSw; obtain ⟨s1, s2, s3⟩ := hSw; go_simp; try with_reducible rfl
      try simp only [Act.put, List.setIfInBounds_toArray, List.set_cons_zero, List.set_cons_succ]
      refine wpAnyH_take (i := 6) (oi := { dst := some 36, op := _, type := _, pos := _, after := _, guard := _ }) (v := ?_) rfl (by kernel_rfl) (by kernel_rfl) (by kernel_rfl) (fun _ _ _ h => h) (Or.inl ⟨by rfl, ?_⟩) (by assumption) ?_
      rotate_left 1
      · intro u hSw; obtain ⟨s1, s2, s3⟩ := hSw; go_simp; try with_reducible rfl
      try simp only [Act.put, List.setIfInBounds_toArray, List.set_cons_zero, List.set_cons_succ]
      refine wpAnyH_take (i := 7) (oi := { dst := some 37, op := _, type := _, pos := _, after := _, guard := _ }) (v := ?_) rfl (by kernel_rfl) (by kernel_rfl) (by kernel_rfl) (fun _ _ _ h => h) (Or.inl ⟨by rfl, ?_⟩) (by assumption) ?_
      rotate_left 1
      · intro u hSw; obtain ⟨s1, s2, s3⟩ := hSw; go_simp; try with_reducible rfl
      try simp only [Act.put, List.setIfInBounds_toArray, List.set_cons_zero, List.set_cons_succ]
      refine wpAnyH_take (i := 8) (oi := { dst := some 38, op := _, type := _, pos := _, after := _, guard := _ }) (v := ?_) rfl (by kernel_rfl) (by kernel_rfl) (by kernel_rfl) (fun _ _ _ h => h) (Or.inl ⟨by rfl, ?_⟩) (by assumption) ?_
      rotate_left 1
      · intro u hSw; obtain ⟨s1, s2, s3⟩ := hSw; go_simp; try with_reducible rfl
      try simp only [Act.put, List.setIfInBounds_toArray, List.set_cons_zero, List.set_cons_succ]
      refine wpAnyH_take (i := 9) (oi := { dst := some 39, op := _, type := _, pos := _, after := _, guard := _ }) (v := ?_) rfl (by kernel_rfl) (by kernel_rfl) (by kernel_rfl) (fun _ _ _ h => h) (Or.inl ⟨by rfl, ?_⟩) (by assumption) ?_
      rotate_left 1
      · intro u hSw; obtain ⟨s1, s2, s3⟩ := hSw; go_simp; try with_reducible rfl
      try simp only [Act.put, List.setIfInBounds_toArray, List.set_cons_zero, List.set_cons_succ]
      refine wpAnyH_take (i := 10) (oi := { dst := some 40, op := _, type := _, pos := _, after := _, guard := _ }) (v := ?_) rfl (by kernel_rfl) (by kernel_rfl) (by kernel_rfl) (fun _ _ _ h => h) (Or.inl ⟨by rfl, ?_⟩) (by assumption) ?_
      rotate_left 1
      · intro u hSw; obtain ⟨s1, s2, s3⟩ := hSw; go_simp; try with_reducible rfl
      try simp only [Act.put, List.setIfInBounds_toArray, List.set_cons_zero, List.set_cons_succ]
      refine wpAnyH_ready (rs := [11]) (by kernel_rfl) (by simp) ?_
      refine AllReadyH.cons (o := { dst := some 41, op := _, type := _, pos := _, after := _, guard := _ }) rfl (fun K hK => ?_) AllReadyH.nil
      obtain ⟨s1, s2, s3⟩ := hHeld
      go_simp
      refine (hhas _ (hal.trans (s3.mono (by simp)))).mono ?_
      rintro e w2 ⟨rfl, hb2⟩
      have hlt2 : wr.heap.size < _ := Nat.lt_of_lt_of_le (by simp) s3.size
      go_wp2_with fail
      refine hK.out _ _ (⟨(hb2.cell (p := ⟨wr.heap.size, 0, none⟩) hlt2).trans s1, (hb2.cell (p := ⟨w.heap.size, 2, none⟩) (by simp only []; omega)).trans s2, s3.trans (hb2.mono s3.size)⟩) (fun hHeld => ?_)
      clear hK K
      try simp only [Act.put, List.setIfInBounds_toArray, List.set_cons_zero, List.set_cons_succ]
      refine wpAnyH_take (i := 12) (oi := { dst := some 42, op := _, type := _, pos := _, after := _, guard := _ }) (v := ?_) rfl (by kernel_rfl) (by kernel_rfl) (by kernel_rfl) (fun _ _ _ h => h) (Or.inl ⟨by rfl, ?_⟩) (by assumption) ?_
      rotate_left 1
      · intro u hSw; obtain ⟨s1, s2, s3⟩ := hSw; go_simp; try with_reducible rfl
      try simp only [Act.put, List.setIfInBounds_toArray, List.set_cons_zero, List.set_cons_succ]
      refine wpAnyH_done (by kernel_rfl) ?_ _
      refine NoPanic.normal ?_
      obtain ⟨m0, m2, mB⟩ := hHeld
      have m1 := (mB.cell (p := ⟨wr.heap.size, 1, none⟩) (by simp)).trans n1
      have m3 := (mB.cell (p := ⟨wr.heap.size, 2, none⟩) (by simp)).trans n2
      have hB2 := hB1.trans (mB.mono (by simp; omega))
      clear hcut hhas hfile n0 n1 n2 c2 r0 r1 r2 mB hal hB1 hb2 s1 s2 s3
      have hBr : Below w.heap.size w w2 := hb.trans (hB2.mono (by omega))
      cases S with
      | true =>
        go_wp2
        go_ret
        exact ⟨ret_boolB (by rw [HE3.out]; simp), hBr⟩
      | false =>
      by_cases hfe : ff = e0
      case neg =>
        go_wp2
        go_ret
        exact ⟨ret_boolB (by rw [HE3.out]; simp [hfe]), hBr⟩
      by_cases hft : ff < tt
      case neg =>
        have HE4 := ehide3 (show R = false from by rw [HE3.out, decide_eq_false hft]; simp)
        have hft2 : tt ≤ ff := by omega
        subst hfe
        go_wp2
        go_ret
        exact ⟨ret_boolB HE4.out.symm, hBr⟩
      have hft2 : ¬ tt ≤ ff := by omega
      have HE4 := ehide3 (show R = upP t ((ps.take (k + 1)).map Pr.num) tt (ps.drop (k + 1)) from by rw [HE3.out, hn, decide_eq_true hfe, decide_eq_true hft]; simp)
      subst hfe
      clear HE3
      go_wp2
      go_roundw
      case rel => exact ⟨k + 1, tt, by omega, by go_num, rfl, HE4.out, hB2⟩
      case measure => simp [intOf]; omega
end
end Go.Proofs.YtffgmpgmflbekaaGreatDoor.EL
