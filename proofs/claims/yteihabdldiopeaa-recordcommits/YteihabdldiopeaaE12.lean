/-
  How the document puts commits and manifests.
-/
import Derived.Test.YteihabdldiopeaaE11
set_option linter.unusedVariables false
set_option linter.unusedSimpArgs false
namespace Go.Proofs.Yteihabdldiopeaa
open Go.RowKit Go.Maps

section
variable {w : World} {ao : Option Addr} {len cap : Nat}
set_option maxRecDepth 100000
set_option maxHeartbeats 4000000

theorem RPutCommit_any {ws : List Wr} (t : Int) (hs : Seq 3 Wr.cells w ao len cap ws) :
    Calls Try.prog 15 #[.agg #[.int .i64 t, .slice ao len cap]] w fun e w' => ∃ v', e = .returned (.tuple #[v', .int .i64 (er (rightC ⟨t, ws⟩))]) ∧ Own w' w.heap.size v' (bt (rightC ⟨t, ws⟩) (cb ⟨t, ws⟩)) ∧ Below w.heap.size w w' := by
  obtain ⟨i0, hi, hz0, hz1, hz2⟩ := info_parts Try.info5
  have hA : Below w.heap.size w (w.alloc (.cells #[.int .i64 t, .slice ao len cap] 26)) := (Below.refl _ _).alloc (Nat.le_refl _) _
  have hz : (w.alloc (.cells #[.int .i64 t, .slice ao len cap] 26)).heap.size = w.heap.size + 1 := by simp
  have hright := refRightCommit_any t (hs.keep hA)
  have hx := hs.1
  cases hr : rightC ⟨t, ws⟩ with
  | false =>
    go_enter Try.func15, Try.ntmps15
    go_wp2_with fail
    refine hright.mono ?_
    rintro e w1 ⟨rfl, hb1⟩
    rw [hr]
    have hB1 : Below w.heap.size w w1 := hA.trans (hb1.mono (by omega))
    clear hright
    go_wp2
    go_ret2
    exact ⟨_, rfl, World.ownsRow_nil _ _ _ _, hB1⟩
  | true =>
    have hr2 := hr
    simp only [rightC, isT, Bool.and_eq_true, decide_eq_true_eq] at hr2
    obtain ⟨⟨⟨ht0, ht1⟩, hlen⟩, hup⟩ := hr2
    rw [hx] at hlen
    have hokw := upW_mem ws _ hup
    have hel := enc_len t
    have hel2 := enc_len ws.length
    have hle64 : (len : Int) ≤ 64 := by omega
    have HR := hide3 hright
    have HOK := hide3 hokw
    have HS := hide3 hs
    have xb : (w.alloc (.cells #[.int .i64 t, .slice ao len cap] 26)).heap[w.heap.size]? = some (.cells #[.int .i64 t, .slice ao len cap] 26 (0, 0)) := heap_alloc_new w _
    clear hright hokw hs hup
    go_enter Try.func15, Try.ntmps15
    go_wp2_with fail
    refine HR.out.mono ?_
    rintro e w1 ⟨rfl, hb1⟩
    rw [hr]
    generalize (w.alloc (.cells #[.int .i64 t, .slice ao len cap] 26)) = W0 at hA hz xb hb1
    rw [hz] at hb1
    have hs1 := hb1.size
    have xb1 := (hb1.block w.heap.size (by omega)).trans xb
    have xb1' := (blk_alloc' w1 (.cells #[.int .u8 67] 5) w.heap.size (by omega)).trans xb1
    have hB1 : Below (w.heap.size + 1) W0 (w1.alloc (.cells #[.int .u8 67] 5)) := hb1.alloc (by omega) _
    have ob1 := ob_byte w1 67 (by omega)
    have d10 : (w1.alloc (.cells #[.int .u8 67] 5)).cell? ⟨w.heap.size, 0, none⟩ = some (.int .i64 t) := by rw [Go.Joins.cell_of_block xb1']; rfl
    have HN := hide3 (refNum_any t ob1 ht0 (by omega))
    clear HR
    go_wp2_with fail
    refine HN.out.mono ?_
    rintro e w2 ⟨v2, rfl, ho2, hb2⟩
    have hal := (Below.refl w1.heap.size w1).alloc (Nat.le_refl _) (.cells #[.int .u8 67] 5)
    have hzz := hal.size
    have hs2 := hb2.size
    have hB2 : Below (w.heap.size + 1) W0 w2 := hB1.trans (hb2.mono (by omega))
    have xb2 := (hB2.block w.heap.size (by omega)).trans xb
    have d21 : w2.cell? ⟨w.heap.size, 1, none⟩ = some (.slice ao len cap) := by rw [Go.Joins.cell_of_block xb2]; rfl
    have ob2 : Ob w2 _ v2 _ := ⟨ho2, ob1.b.append (enc_byt t ht0), by simp; omega⟩
    have HN2 := hide3 (refNum_any (len : Int) ob2 (by omega) (by omega))
    clear HN
    go_wp2_with fail
    refine HN2.out.mono ?_
    rintro e w3 ⟨v3, rfl, ho3, hb3⟩
    have hB3 : Below (w.heap.size + 1) W0 w3 := hB2.trans (hb3.mono (by omega))
    have ho3' := hide3 (show Own w3 (w.heap.size + 1) v3 (67 :: (enc t ++ (enc ws.length ++ (ws.take 0).flatMap wb))) from by
      have := ho3.low (base' := w.heap.size + 1) (by omega)
      rw [hx]
      simpa [List.append_assoc] using this)
    clear HN2 ho3 ho2 hb3 hb2 hB1 hB2 ob1 ob2 d10 d21 xb1 xb1' xb2 hb1 hal
    go_wp2_with fail
    go_loopw [5, 6] (fun a i wr => ∃ (k : Nat) (va : Value), k ≤ len ∧ i = .int .i64 k ∧ a = va ∧ Own wr (w.heap.size + 1) va (67 :: (enc t ++ (enc ws.length ++ (ws.take k).flatMap wb))) ∧ Below (w.heap.size + 1) W0 wr) (fun _ i _ => len - (intOf i).toNat)
    case atStart => exact ⟨0, _, by omega, rfl, rfl, ho3'.out, hB3⟩
    case round =>
      obtain ⟨k, va, hk, rfl, hva, ho, hB⟩ := hrel
      replace hva := hva.symm
      subst hva
      have hsz := hB.size
      have xbr := (hB.block w.heap.size (by omega)).trans xb
      have b1 : wr.cell? ⟨w.heap.size, 1, none⟩ = some (.slice ao len cap) := by rw [Go.Joins.cell_of_block xbr]; rfl
      have hBw : Below w.heap.size w wr := hA.trans (hB.mono (by omega))
      by_cases hkl : k < len
      case neg =>
        have hki : ¬ (k : Int) < (len : Int) := by omega
        have hoF := hide3 (show Own wr w.heap.size va (bt true (cb ⟨t, ws⟩)) from by
          have := ho.low (base' := w.heap.size) (by omega)
          rwa [List.take_of_length_le (by omega)] at this)
        clear ho
        go_wp2
        go_ret2
        exact ⟨_, rfl, hoF.out, hBw⟩
      obtain ⟨x, hxk⟩ : ∃ x, ws[k]? = some x := ⟨ws[k], List.getElem?_eq_getElem (by omega)⟩
      have hokx := HOK.out x (List.mem_of_getElem? hxk)
      obtain ⟨b, off, rfl, hbl, hcell⟩ := HS.out.three (by omega)
      obtain ⟨r0, r1, r2⟩ := hcell k x _ _ _ hxk rfl
      have s0 := (hBw.cell (p := ⟨b, off + k * 3, none⟩) hbl).trans r0
      have s1 := (hBw.cell (p := ⟨b, off + k * 3 + 1, none⟩) hbl).trans r1
      have s2 := (hBw.cell (p := ⟨b, off + k * 3 + 2, none⟩) hbl).trans r2
      have hki : (k : Int) < (len : Int) := by omega
      have hbA : Byt (67 :: (enc t ++ (enc ws.length ++ (ws.take k).flatMap wb))) := Byt.cons (by omega) ((enc_byt t ht0).append ((enc_byt _ (by omega)).append (flat_byt wb _ (fun y _ => wb_byt y))))
      have hlA : (67 :: (enc t ++ (enc ws.length ++ (ws.take k).flatMap wb))).length ≤ 800000 := by
        have := flat_len wb (ws.take k) 101 (fun y hy => wb_len y (HOK.out y (List.mem_of_mem_take hy)))
        rw [List.length_take] at this
        simp only [List.length_cons, List.length_append]
        omega
      have hflat := take_flat wb hxk
      have hneA : some wr.heap.size ≠ va.ownBlock := ho.ne
      have hvA : ∀ j, va.ownBlock = some j → w.heap.size + 1 ≤ j := fun j hj => (World.ownsRow.lt ho j hj).1
      obtain ⟨f0, f1, f2⟩ := x
      simp only [] at s0 s1 s2
      have hk : f0.size ≤ 16 ∧ f1.size ≤ 64 := by
        simp only [okW, isK, isV, Bool.and_eq_true, decide_eq_true_eq] at hokx
        omega
      obtain ⟨hk1, hk2⟩ := hk
      have htl := tx_len f0
      have htl2 := tx_len f1
      clear hcell r0 r1 r2 hxk hokx HOK HS
      cases f2 with
      | true =>
        have hblkA : (wr.alloc (.cells #[.string f0, .string f1, .bool true] 28)).drew.heap[wr.heap.size]? = some (.cells #[.string f0, .string f1, .bool true] 28 (0, 0)) := heap_alloc_new wr _
        have hyA : wr.heap.size < (wr.alloc (.cells #[.string f0, .string f1, .bool true] 28)).drew.heap.size := by simp [World.drew]
        have hoA : Own (wr.alloc (.cells #[.string f0, .string f1, .bool true] 28)).drew (w.heap.size + 1) va (67 :: (enc t ++ (enc ws.length ++ (ws.take k).flatMap wb))) := ho.alloc _
        have hBA : Below (w.heap.size + 1) W0 (wr.alloc (.cells #[.string f0, .string f1, .bool true] 28)).drew := below_drewN (hB.alloc (by omega) _) 1
        clear ho
        go_wp2
        have hlA' : (67 :: (enc t ++ (enc ws.length ++ (ws.take k).flatMap wb))).length ≤ 1000000 := by omega
        refine wp_region_noPanic ?_
        refine wp_region_held_drew (S := fun u => u.heap[wr.heap.size]? = some (.cells #[.string f0, .string f1, .bool true] 28 (0, 0))) (by kernel_rfl) (hblkA) (fun hHeld => ?_)
        generalize (wr.alloc (.cells #[.string f0, .string f1, .bool true] 28)).drew = w0 at hblkA hyA hoA hBA hHeld ⊢
        refine wpAnyH_take (i := 0) (oi := { dst := some 35, op := _, type := _, pos := _, after := _, guard := _ }) (v := ?_) rfl (by kernel_rfl) (by kernel_rfl) (by kernel_rfl) (fun _ _ _ h => h) (Or.inl ⟨by rfl, ?_⟩) (by assumption) ?_
        rotate_left 1
        · intro u s1; have k0 : u.cell? ⟨wr.heap.size, 0, none⟩ = some (.string f0) := (by rw [Go.Joins.cell_of_block s1]; rfl); have k1 : u.cell? ⟨wr.heap.size, 1, none⟩ = some (.string f1) := (by rw [Go.Joins.cell_of_block s1]; rfl); have k2 : u.cell? ⟨wr.heap.size, 2, none⟩ = some (.bool true) := (by rw [Go.Joins.cell_of_block s1]; rfl); go_simp; try with_reducible rfl
        try simp only [Act.put, List.setIfInBounds_toArray, List.set_cons_zero, List.set_cons_succ]
        refine wpAnyH_take (i := 3) (oi := { dst := some 38, op := _, type := _, pos := _, after := _, guard := _ }) (v := ?_) rfl (by kernel_rfl) (by kernel_rfl) (by kernel_rfl) (fun _ _ _ h => h) (Or.inl ⟨by rfl, ?_⟩) (by assumption) ?_
        rotate_left 1
        · intro u s1; have k0 : u.cell? ⟨wr.heap.size, 0, none⟩ = some (.string f0) := (by rw [Go.Joins.cell_of_block s1]; rfl); have k1 : u.cell? ⟨wr.heap.size, 1, none⟩ = some (.string f1) := (by rw [Go.Joins.cell_of_block s1]; rfl); have k2 : u.cell? ⟨wr.heap.size, 2, none⟩ = some (.bool true) := (by rw [Go.Joins.cell_of_block s1]; rfl); go_simp; try with_reducible rfl
        try simp only [Act.put, List.setIfInBounds_toArray, List.set_cons_zero, List.set_cons_succ]
        refine wpAnyH_take (i := 4) (oi := { dst := some 39, op := _, type := _, pos := _, after := _, guard := _ }) (v := ?_) rfl (by kernel_rfl) (by kernel_rfl) (by kernel_rfl) (fun _ _ _ h => h) (Or.inl ⟨by rfl, ?_⟩) (by assumption) ?_
        rotate_left 1
        · intro u s1; have k0 : u.cell? ⟨wr.heap.size, 0, none⟩ = some (.string f0) := (by rw [Go.Joins.cell_of_block s1]; rfl); have k1 : u.cell? ⟨wr.heap.size, 1, none⟩ = some (.string f1) := (by rw [Go.Joins.cell_of_block s1]; rfl); have k2 : u.cell? ⟨wr.heap.size, 2, none⟩ = some (.bool true) := (by rw [Go.Joins.cell_of_block s1]; rfl); go_simp; try with_reducible rfl
        try simp only [Act.put, List.setIfInBounds_toArray, List.set_cons_zero, List.set_cons_succ]
        refine wpAnyH_ready (rs := [1]) (by kernel_rfl) (by simp) ?_
        refine AllReadyH.cons (o := { dst := some 36, op := _, type := _, pos := _, after := _, guard := _ }) rfl (fun K hK => ?_) ?_
        · go_simp
          have hoB : Own (w0.alloc (.cells #[.int .u8 1] 5)) (w.heap.size + 1) va _ := World.ownsRow.alloc hoA _
          have cb := cell_byte w0 1
          refine hK.out _ _ ((blk_alloc' w0 (.cells #[.int .u8 1] 5) wr.heap.size hyA).trans hHeld) (fun hHeld => ?_)
          clear hK K
          try simp only [Act.put, List.setIfInBounds_toArray, List.set_cons_zero, List.set_cons_succ]
          refine wpAnyH_ready (rs := [2]) (by kernel_rfl) (by simp) ?_
          refine AllReadyH.cons (o := { dst := some 37, op := _, type := _, pos := _, after := _, guard := _ }) rfl (fun K hK => ?_) ?_
          · refine step_append_byte (by rfl) _ _ _ (by rfl) (w.heap.size + 1) i0 Try.underlying29 hi hz0 hz1 hz2 va _ (by rfl) hoB w0.heap.size 1 (by rfl) cb (by omega) (by simp; omega) ?_
            intro v1 w1 ho1 p1
            have hkk := p1.block (k := wr.heap.size) (by simp; omega) hneA
            have hB1 : Below (w.heap.size + 1) W0 w1 := (hBA.alloc (by omega) _).trans (p1.blow hvA (by simp; omega))
            have hy1 : wr.heap.size < w1.heap.size := Nat.lt_of_lt_of_le hyA (Nat.le_trans (by simp) p1.g.size)
            have hl1 : ((67 :: (enc t ++ (enc ws.length ++ (ws.take k).flatMap wb))) ++ [(1 : Int)]).length ≤ 800001 := by rw [List.length_append, List.length_singleton]; omega
            have ob1 : Ob w1 _ v1 _ := ⟨ho1, hbA.append (Byt.cons (by omega) Byt.nil), by omega⟩
            refine hK.out _ _ (hkk.1.trans hHeld) (fun hHeld => ?_)
            clear hK K
            try simp only [Act.put, List.setIfInBounds_toArray, List.set_cons_zero, List.set_cons_succ]
            refine wpAnyH_ready (rs := [5]) (by kernel_rfl) (by simp) ?_
            refine AllReadyH.cons (o := { dst := some 40, op := _, type := _, pos := _, after := _, guard := _ }) rfl (fun K hK => ?_) ?_
            · go_simp
              refine (refTxt_any f0 ob1 (by omega)).mono ?_
              rintro e w2 ⟨v2, rfl, ho2, hb2⟩
              go_wp2_with fail
              have hB2 : Below (w.heap.size + 1) W0 w2 := hB1.trans (hb2.mono (by omega))
              have hz22 := hb2.size
              refine hK.out _ _ ((hb2.block _ hy1).trans hHeld) (fun hHeld => ?_)
              clear hK K
              try simp only [Act.put, List.setIfInBounds_toArray, List.set_cons_zero, List.set_cons_succ]
              refine wpAnyH_take (i := 6) (oi := { dst := some 5, op := _, type := _, pos := _, after := _, guard := _ }) (v := ?_) rfl (by kernel_rfl) (by kernel_rfl) (by kernel_rfl) (fun _ _ _ h => h) (Or.inl ⟨by rfl, ?_⟩) (by assumption) ?_
              rotate_left 1
              · intro u s1; have k0 : u.cell? ⟨wr.heap.size, 0, none⟩ = some (.string f0) := (by rw [Go.Joins.cell_of_block s1]; rfl); have k1 : u.cell? ⟨wr.heap.size, 1, none⟩ = some (.string f1) := (by rw [Go.Joins.cell_of_block s1]; rfl); have k2 : u.cell? ⟨wr.heap.size, 2, none⟩ = some (.bool true) := (by rw [Go.Joins.cell_of_block s1]; rfl); go_simp; try with_reducible rfl
              try simp only [Act.put, List.setIfInBounds_toArray, List.set_cons_zero, List.set_cons_succ]
              refine wpAnyH_done (by kernel_rfl) ?_ _
              refine NoPanic.normal ?_
              have ho3 := hide3 (show Own w2 (w.heap.size + 1) v2 (67 :: (enc t ++ (enc ws.length ++ (ws.take (k + 1)).flatMap wb))) from by
                rw [hflat]
                have := ho2.low (base' := w.heap.size + 1) (by omega)
                simpa [wb, List.append_assoc] using this)
              clear ho2 hHeld
              go_wp2
              go_roundw
              case rel => exact ⟨k + 1, v2, by omega, by go_num, rfl, ho3.out, hB2⟩
              case measure => simp [intOf]; omega
            exact AllReadyH.nil
          exact AllReadyH.nil
        exact AllReadyH.nil

      | false =>
        have hblkA : (wr.alloc (.cells #[.string f0, .string f1, .bool false] 28)).drew.heap[wr.heap.size]? = some (.cells #[.string f0, .string f1, .bool false] 28 (0, 0)) := heap_alloc_new wr _
        have hyA : wr.heap.size < (wr.alloc (.cells #[.string f0, .string f1, .bool false] 28)).drew.heap.size := by simp [World.drew]
        have hoA : Own (wr.alloc (.cells #[.string f0, .string f1, .bool false] 28)).drew (w.heap.size + 1) va (67 :: (enc t ++ (enc ws.length ++ (ws.take k).flatMap wb))) := ho.alloc _
        have hBA : Below (w.heap.size + 1) W0 (wr.alloc (.cells #[.string f0, .string f1, .bool false] 28)).drew := below_drewN (hB.alloc (by omega) _) 1
        clear ho
        go_wp2
        refine wp_region_noPanic ?_
        refine wp_region_held_drew (S := fun u => u.heap[wr.heap.size]? = some (.cells #[.string f0, .string f1, .bool false] 28 (0, 0))) (by kernel_rfl) (hblkA) (fun hHeld => ?_)
        generalize (wr.alloc (.cells #[.string f0, .string f1, .bool false] 28)).drew = w0 at hblkA hyA hoA hBA hHeld ⊢
        refine wpAnyH_take (i := 0) (oi := { dst := some 41, op := _, type := _, pos := _, after := _, guard := _ }) (v := ?_) rfl (by kernel_rfl) (by kernel_rfl) (by kernel_rfl) (fun _ _ _ h => h) (Or.inl ⟨by rfl, ?_⟩) (by assumption) ?_
        rotate_left 1
        · intro u s1; have k0 : u.cell? ⟨wr.heap.size, 0, none⟩ = some (.string f0) := (by rw [Go.Joins.cell_of_block s1]; rfl); have k1 : u.cell? ⟨wr.heap.size, 1, none⟩ = some (.string f1) := (by rw [Go.Joins.cell_of_block s1]; rfl); have k2 : u.cell? ⟨wr.heap.size, 2, none⟩ = some (.bool false) := (by rw [Go.Joins.cell_of_block s1]; rfl); go_simp; try with_reducible rfl
        try simp only [Act.put, List.setIfInBounds_toArray, List.set_cons_zero, List.set_cons_succ]
        refine wpAnyH_take (i := 3) (oi := { dst := some 44, op := _, type := _, pos := _, after := _, guard := _ }) (v := ?_) rfl (by kernel_rfl) (by kernel_rfl) (by kernel_rfl) (fun _ _ _ h => h) (Or.inl ⟨by rfl, ?_⟩) (by assumption) ?_
        rotate_left 1
        · intro u s1; have k0 : u.cell? ⟨wr.heap.size, 0, none⟩ = some (.string f0) := (by rw [Go.Joins.cell_of_block s1]; rfl); have k1 : u.cell? ⟨wr.heap.size, 1, none⟩ = some (.string f1) := (by rw [Go.Joins.cell_of_block s1]; rfl); have k2 : u.cell? ⟨wr.heap.size, 2, none⟩ = some (.bool false) := (by rw [Go.Joins.cell_of_block s1]; rfl); go_simp; try with_reducible rfl
        try simp only [Act.put, List.setIfInBounds_toArray, List.set_cons_zero, List.set_cons_succ]
        refine wpAnyH_take (i := 4) (oi := { dst := some 45, op := _, type := _, pos := _, after := _, guard := _ }) (v := ?_) rfl (by kernel_rfl) (by kernel_rfl) (by kernel_rfl) (fun _ _ _ h => h) (Or.inl ⟨by rfl, ?_⟩) (by assumption) ?_
        rotate_left 1
        · intro u s1; have k0 : u.cell? ⟨wr.heap.size, 0, none⟩ = some (.string f0) := (by rw [Go.Joins.cell_of_block s1]; rfl); have k1 : u.cell? ⟨wr.heap.size, 1, none⟩ = some (.string f1) := (by rw [Go.Joins.cell_of_block s1]; rfl); have k2 : u.cell? ⟨wr.heap.size, 2, none⟩ = some (.bool false) := (by rw [Go.Joins.cell_of_block s1]; rfl); go_simp; try with_reducible rfl
        try simp only [Act.put, List.setIfInBounds_toArray, List.set_cons_zero, List.set_cons_succ]
        refine wpAnyH_ready (rs := [1]) (by kernel_rfl) (by simp) ?_
        refine AllReadyH.cons (o := { dst := some 42, op := _, type := _, pos := _, after := _, guard := _ }) rfl (fun K hK => ?_) ?_
        · go_simp
          have hoB : Own (w0.alloc (.cells #[.int .u8 0] 5)) (w.heap.size + 1) va _ := World.ownsRow.alloc hoA _
          have cb := cell_byte w0 0
          refine hK.out _ _ ((blk_alloc' w0 (.cells #[.int .u8 0] 5) wr.heap.size hyA).trans hHeld) (fun hHeld => ?_)
          clear hK K
          try simp only [Act.put, List.setIfInBounds_toArray, List.set_cons_zero, List.set_cons_succ]
          refine wpAnyH_ready (rs := [2]) (by kernel_rfl) (by simp) ?_
          refine AllReadyH.cons (o := { dst := some 43, op := _, type := _, pos := _, after := _, guard := _ }) rfl (fun K hK => ?_) ?_
          · refine step_append_byte (by rfl) _ _ _ (by rfl) (w.heap.size + 1) i0 Try.underlying29 hi hz0 hz1 hz2 va _ (by rfl) hoB w0.heap.size 0 (by rfl) cb (by omega) (by simp; omega) ?_
            intro v1 w1 ho1 p1
            have hkk := p1.block (k := wr.heap.size) (by simp; omega) hneA
            have hB1 : Below (w.heap.size + 1) W0 w1 := (hBA.alloc (by omega) _).trans (p1.blow hvA (by simp; omega))
            have hy1 : wr.heap.size < w1.heap.size := Nat.lt_of_lt_of_le hyA (Nat.le_trans (by simp) p1.g.size)
            have hl1 : ((67 :: (enc t ++ (enc ws.length ++ (ws.take k).flatMap wb))) ++ [(0 : Int)]).length ≤ 800001 := by rw [List.length_append, List.length_singleton]; omega
            have ob1 : Ob w1 _ v1 _ := ⟨ho1, hbA.append (Byt.cons (by omega) Byt.nil), by omega⟩
            refine hK.out _ _ (hkk.1.trans hHeld) (fun hHeld => ?_)
            clear hK K
            try simp only [Act.put, List.setIfInBounds_toArray, List.set_cons_zero, List.set_cons_succ]
            refine wpAnyH_ready (rs := [5]) (by kernel_rfl) (by simp) ?_
            refine AllReadyH.cons (o := { dst := some 46, op := _, type := _, pos := _, after := _, guard := _ }) rfl (fun K hK => ?_) ?_
            · go_simp
              refine (refTxt_any f0 ob1 (by omega)).mono ?_
              rintro e w2 ⟨v2, rfl, ho2, hb2⟩
              go_wp2_with fail
              have hB2 : Below (w.heap.size + 1) W0 w2 := hB1.trans (hb2.mono (by omega))
              have hz22 := hb2.size
              refine hK.out _ _ ((hb2.block _ hy1).trans hHeld) (fun hHeld => ?_)
              clear hK K
              try simp only [Act.put, List.setIfInBounds_toArray, List.set_cons_zero, List.set_cons_succ]
              refine wpAnyH_take (i := 6) (oi := { dst := some 5, op := _, type := _, pos := _, after := _, guard := _ }) (v := ?_) rfl (by kernel_rfl) (by kernel_rfl) (by kernel_rfl) (fun _ _ _ h => h) (Or.inl ⟨by rfl, ?_⟩) (by assumption) ?_
              rotate_left 1
              · intro u s1; have k0 : u.cell? ⟨wr.heap.size, 0, none⟩ = some (.string f0) := (by rw [Go.Joins.cell_of_block s1]; rfl); have k1 : u.cell? ⟨wr.heap.size, 1, none⟩ = some (.string f1) := (by rw [Go.Joins.cell_of_block s1]; rfl); have k2 : u.cell? ⟨wr.heap.size, 2, none⟩ = some (.bool false) := (by rw [Go.Joins.cell_of_block s1]; rfl); go_simp; try with_reducible rfl
              try simp only [Act.put, List.setIfInBounds_toArray, List.set_cons_zero, List.set_cons_succ]
              refine wpAnyH_done (by kernel_rfl) ?_ _
              refine NoPanic.normal ?_
              have m1 : w2.cell? ⟨wr.heap.size, 1, none⟩ = some (.string f1) := by rw [Go.Joins.cell_of_block hHeld]; rfl
              have ob2 : Ob w2 _ v2 _ := ⟨ho2, ob1.b.append (tx_byt _), by rw [List.length_append]; omega⟩
              have HT := hide3 (refTxt_any f1 ob2 (by omega))
              clear ho2 ob1 ob2
              go_wp2_with fail
              refine HT.out.mono ?_
              rintro e w3 ⟨v3, rfl, ho3, hb3⟩
              have hB3 : Below (w.heap.size + 1) W0 w3 := hB2.trans (hb3.mono (by omega))
              have ho4 := hide3 (show Own w3 (w.heap.size + 1) v3 (67 :: (enc t ++ (enc ws.length ++ (ws.take (k + 1)).flatMap wb))) from by
                rw [hflat]
                have := ho3.low (base' := w.heap.size + 1) (by omega)
                simpa [wb, List.append_assoc] using this)
              clear HT ho3 hHeld
              go_wp2
              go_roundw
              case rel => exact ⟨k + 1, v3, by omega, by go_num, rfl, ho4.out, hB3⟩
              case measure => simp [intOf]; omega
            exact AllReadyH.nil
          exact AllReadyH.nil
        exact AllReadyH.nil

end
end Go.Proofs.Yteihabdldiopeaa
