/-
  The functions in fields that put a commit, a manifest; put; PutCommit, PutRow, PutGone, PutManifest.
-/
import Derived.Test.YtffgmpgmflbekaaGreatDoorXE8
import Derived.Test.YtffgmpgmflbekaaGreatDoorXE5b
set_option linter.unusedVariables false
set_option linter.unusedSimpArgs false
namespace Go.Proofs.YtffgmpgmflbekaaGreatDoor.EL
open Go.RowKit Go.Maps

section
variable {w : World} {base : Nat} {v : Value} {xs : List Int}
set_option maxRecDepth 100000
set_option maxHeartbeats 4000000

theorem putManifest1_any {ao : Option Addr} {len cap : Nat} {ps : List Pr} (t lg : Int) (h : Own w base v xs) (hbase : base ≤ w.heap.size) (hs : Seq 3 Pr.cells w ao len cap ps) (hlow : 0 < len → ∀ b off, ao = some ⟨b, off, none⟩ → b < base) (hr : rightM ⟨t, lg, ps⟩ = true) (hl : xs.length ≤ 50000) :
    Calls Tryz.prog 232 #[v, .agg #[.int .i64 t, .int .i64 lg, .slice ao len cap]] w fun e w' => ∃ v', e = .returned v' ∧ Own w' base v' (xs ++ (enc t ++ (enc lg ++ (enc ps.length ++ ps.flatMap pb)))) ∧ Pt w w' v v' := by
  have hx := hs.1
  have hr2 := hr
  simp only [rightM, isT, isN, Bool.and_eq_true, decide_eq_true_eq] at hr
  obtain ⟨⟨⟨⟨ht0, ht1⟩, hn0, hn1⟩, hlen⟩, hup⟩ := hr
  rw [hx] at hlen ⊢
  have hokw := upP_mem ps [] t 0 hup (by omega) ht1
  have hel := enc_len t
  have hel2 := enc_len lg
  have HL := ehide3 hlow
  have hwn : IntKind.u64.wrap lg = lg := IntWalk.u64_in _ (by omega)
  have HSQ : ∀ u : World, Below base w u → Seq 3 Pr.cells u ao len cap ps := fun u hu => by
    by_cases h0 : 0 < len
    · exact hs.below hu (fun b off e _ => hlow h0 b off e)
    · exact ⟨hs.1, hs.2.1, hs.2.2.1, fun h => absurd h h0⟩
  clear hs hlow hr2
  have hblk : (w.alloc (.cells #[.int .i64 t, .int .i64 lg, .slice ao len cap] 34)).drew.heap[w.heap.size]? = some (.cells #[.int .i64 t, .int .i64 lg, .slice ao len cap] 34 (0, 0)) := heap_alloc_new w _
  have hy0' : w.heap.size < (w.alloc (.cells #[.int .i64 t, .int .i64 lg, .slice ao len cap] 34)).drew.heap.size := by simp [World.drew]
  have ho0' : Own (w.alloc (.cells #[.int .i64 t, .int .i64 lg, .slice ao len cap] 34)).drew base v xs := h.alloc _
  have q0' : Pt w (w.alloc (.cells #[.int .i64 t, .int .i64 lg, .slice ao len cap] 34)).drew v v := (Pt.alloc w v _).drew
  have hne0' : some w.heap.size ≠ v.ownBlock := h.ne
  have hvb : ∀ k, v.ownBlock = some k → base ≤ k := fun k hk => (World.ownsRow.lt h k hk).1
  clear h
  go_enter Tryz.func232, Tryz.ntmps232
  go_wp2
  refine wp_region_noPanic ?_
  refine wp_region_held_drew (S := fun u => u.heap[w.heap.size]? = some (.cells #[.int .i64 t, .int .i64 lg, .slice ao len cap] 34 (0, 0))) (by kernel_rfl) (hblk) (fun hHeld => ?_)
  generalize (w.alloc (.cells #[.int .i64 t, .int .i64 lg, .slice ao len cap] 34)).drew = w0 at hblk hy0' ho0' q0' hHeld ⊢
  have hy0 := hy0'
  have ho0 := ho0'
  have q0 := q0'
  have hne0 := hne0'
  obtain ⟨v0, rfl⟩ : ∃ x, x = v := ⟨_, rfl⟩
  clear hy0' ho0' q0' hne0' hblk
  refine wpAnyH_take (i := 0) (oi := { dst := some 5, op := _, type := _, pos := _, after := _, guard := _ }) (v := ?_) rfl (by kernel_rfl) (by kernel_rfl) (by kernel_rfl) (fun _ _ _ h => h) (Or.inl ⟨by rfl, ?_⟩) (by assumption) ?_
  rotate_left 1
  · intro u s1; have k0 : u.cell? ⟨w.heap.size, 0, none⟩ = some (.int .i64 t) := (by rw [Go.Joins.cell_of_block s1]; rfl); have k1 : u.cell? ⟨w.heap.size, 1, none⟩ = some (.int .i64 lg) := (by rw [Go.Joins.cell_of_block s1]; rfl); have k2 : u.cell? ⟨w.heap.size, 2, none⟩ = some (.slice ao len cap) := (by rw [Go.Joins.cell_of_block s1]; rfl); go_simp; try with_reducible rfl
  try simp only [Act.put, List.setIfInBounds_toArray, List.set_cons_zero, List.set_cons_succ]
  refine wpAnyH_take (i := 1) (oi := { dst := some 6, op := _, type := _, pos := _, after := _, guard := _ }) (v := ?_) rfl (by kernel_rfl) (by kernel_rfl) (by kernel_rfl) (fun _ _ _ h => h) (Or.inl ⟨by rfl, ?_⟩) (by assumption) ?_
  rotate_left 1
  · intro u s1; have k0 : u.cell? ⟨w.heap.size, 0, none⟩ = some (.int .i64 t) := (by rw [Go.Joins.cell_of_block s1]; rfl); have k1 : u.cell? ⟨w.heap.size, 1, none⟩ = some (.int .i64 lg) := (by rw [Go.Joins.cell_of_block s1]; rfl); have k2 : u.cell? ⟨w.heap.size, 2, none⟩ = some (.slice ao len cap) := (by rw [Go.Joins.cell_of_block s1]; rfl); go_simp; try with_reducible rfl
  try simp only [Act.put, List.setIfInBounds_toArray, List.set_cons_zero, List.set_cons_succ]
  refine wpAnyH_take (i := 2) (oi := { dst := some 7, op := _, type := _, pos := _, after := _, guard := _ }) (v := ?_) rfl (by kernel_rfl) (by kernel_rfl) (by kernel_rfl) (fun _ _ _ h => h) (Or.inl ⟨by rfl, ?_⟩) (by assumption) ?_
  rotate_left 1
  · intro u s1; have k0 : u.cell? ⟨w.heap.size, 0, none⟩ = some (.int .i64 t) := (by rw [Go.Joins.cell_of_block s1]; rfl); have k1 : u.cell? ⟨w.heap.size, 1, none⟩ = some (.int .i64 lg) := (by rw [Go.Joins.cell_of_block s1]; rfl); have k2 : u.cell? ⟨w.heap.size, 2, none⟩ = some (.slice ao len cap) := (by rw [Go.Joins.cell_of_block s1]; rfl); go_simp; try with_reducible rfl
  try simp only [Act.put, List.setIfInBounds_toArray, List.set_cons_zero, List.set_cons_succ]
  refine wpAnyH_take (i := 4) (oi := { dst := some 9, op := _, type := _, pos := _, after := _, guard := _ }) (v := ?_) rfl (by kernel_rfl) (by kernel_rfl) (by kernel_rfl) (fun _ _ _ h => h) (Or.inl ⟨by rfl, ?_⟩) (by assumption) ?_
  rotate_left 1
  · intro u s1; have k0 : u.cell? ⟨w.heap.size, 0, none⟩ = some (.int .i64 t) := (by rw [Go.Joins.cell_of_block s1]; rfl); have k1 : u.cell? ⟨w.heap.size, 1, none⟩ = some (.int .i64 lg) := (by rw [Go.Joins.cell_of_block s1]; rfl); have k2 : u.cell? ⟨w.heap.size, 2, none⟩ = some (.slice ao len cap) := (by rw [Go.Joins.cell_of_block s1]; rfl); go_simp; try with_reducible rfl
  try simp only [Act.put, List.setIfInBounds_toArray, List.set_cons_zero, List.set_cons_succ]
  refine wpAnyH_take (i := 5) (oi := { dst := some 10, op := _, type := _, pos := _, after := _, guard := _ }) (v := ?_) rfl (by kernel_rfl) (by kernel_rfl) (by kernel_rfl) (fun _ _ _ h => h) (Or.inl ⟨by rfl, ?_⟩) (by assumption) ?_
  rotate_left 1
  · intro u s1; have k0 : u.cell? ⟨w.heap.size, 0, none⟩ = some (.int .i64 t) := (by rw [Go.Joins.cell_of_block s1]; rfl); have k1 : u.cell? ⟨w.heap.size, 1, none⟩ = some (.int .i64 lg) := (by rw [Go.Joins.cell_of_block s1]; rfl); have k2 : u.cell? ⟨w.heap.size, 2, none⟩ = some (.slice ao len cap) := (by rw [Go.Joins.cell_of_block s1]; rfl); go_simp; try with_reducible rfl
  try simp only [Act.put, List.setIfInBounds_toArray, List.set_cons_zero, List.set_cons_succ]
  refine wpAnyH_take (i := 6) (oi := { dst := some 11, op := _, type := _, pos := _, after := _, guard := _ }) (v := ?_) rfl (by kernel_rfl) (by kernel_rfl) (by kernel_rfl) (fun _ _ _ h => h) (Or.inl ⟨by rfl, ?_⟩) (by assumption) ?_
  rotate_left 1
  · intro u s1; have k0 : u.cell? ⟨w.heap.size, 0, none⟩ = some (.int .i64 t) := (by rw [Go.Joins.cell_of_block s1]; rfl); have k1 : u.cell? ⟨w.heap.size, 1, none⟩ = some (.int .i64 lg) := (by rw [Go.Joins.cell_of_block s1]; rfl); have k2 : u.cell? ⟨w.heap.size, 2, none⟩ = some (.slice ao len cap) := (by rw [Go.Joins.cell_of_block s1]; rfl); go_simp; try with_reducible rfl
  try simp only [Act.put, List.setIfInBounds_toArray, List.set_cons_zero, List.set_cons_succ]
  refine wpAnyH_take (i := 8) (oi := { dst := some 13, op := _, type := _, pos := _, after := _, guard := _ }) (v := ?_) rfl (by kernel_rfl) (by kernel_rfl) (by kernel_rfl) (fun _ _ _ h => h) (Or.inl ⟨by rfl, ?_⟩) (by assumption) ?_
  rotate_left 1
  · intro u s1; have k0 : u.cell? ⟨w.heap.size, 0, none⟩ = some (.int .i64 t) := (by rw [Go.Joins.cell_of_block s1]; rfl); have k1 : u.cell? ⟨w.heap.size, 1, none⟩ = some (.int .i64 lg) := (by rw [Go.Joins.cell_of_block s1]; rfl); have k2 : u.cell? ⟨w.heap.size, 2, none⟩ = some (.slice ao len cap) := (by rw [Go.Joins.cell_of_block s1]; rfl); go_simp; try with_reducible rfl
  try simp only [Act.put, List.setIfInBounds_toArray, List.set_cons_zero, List.set_cons_succ]
  refine wpAnyH_take (i := 9) (oi := { dst := some 14, op := _, type := _, pos := _, after := _, guard := _ }) (v := ?_) rfl (by kernel_rfl) (by kernel_rfl) (by kernel_rfl) (fun _ _ _ h => h) (Or.inl ⟨by rfl, ?_⟩) (by assumption) ?_
  rotate_left 1
  · intro u s1; have k0 : u.cell? ⟨w.heap.size, 0, none⟩ = some (.int .i64 t) := (by rw [Go.Joins.cell_of_block s1]; rfl); have k1 : u.cell? ⟨w.heap.size, 1, none⟩ = some (.int .i64 lg) := (by rw [Go.Joins.cell_of_block s1]; rfl); have k2 : u.cell? ⟨w.heap.size, 2, none⟩ = some (.slice ao len cap) := (by rw [Go.Joins.cell_of_block s1]; rfl); go_simp; try with_reducible rfl
  try simp only [Act.put, List.setIfInBounds_toArray, List.set_cons_zero, List.set_cons_succ]
  refine wpAnyH_ready (rs := [3]) (by kernel_rfl) (by simp) ?_
  refine AllReadyH.cons (o := { dst := some 8, op := _, type := _, pos := _, after := _, guard := _ }) rfl (fun K hK => ?_) ?_
  · go_simp
    refine (putTime_any t ho0 (by have := q0.g.size; omega) ht0 ht1 (by omega)).mono ?_
    rintro e w1 ⟨v1, rfl, ho1, p1⟩
    go_wp2_with fail
    have hk1 := p1.block (k := w.heap.size) hy0 hne0
    have hne1 := hk1.2
    have q1 := q0.trans p1
    have hy1 : w.heap.size < w1.heap.size := Nat.lt_of_lt_of_le hy0 p1.g.size
    refine hK.out _ _ (hk1.1.trans hHeld) (fun hHeld => ?_)
    clear hK K
    try simp only [Act.put, List.setIfInBounds_toArray, List.set_cons_zero, List.set_cons_succ]
    refine wpAnyH_ready (rs := [7]) (by kernel_rfl) (by simp) ?_
    refine AllReadyH.cons (o := { dst := some 12, op := _, type := _, pos := _, after := _, guard := _ }) rfl (fun K hK => ?_) ?_
    · go_simp
      refine (putNumber_any lg ho1 (by have := q1.g.size; omega) (by omega) (by omega) (by simp; omega)).mono ?_
      rintro e w2 ⟨v2, rfl, ho2, p2⟩
      go_wp2_with fail
      have hk2 := p2.block (k := w.heap.size) hy1 hne1
      have hne2 := hk2.2
      have q2 := q1.trans p2
      have hy2 : w.heap.size < w2.heap.size := Nat.lt_of_lt_of_le hy1 p2.g.size
      refine hK.out _ _ (hk2.1.trans hHeld) (fun hHeld => ?_)
      clear hK K
      try simp only [Act.put, List.setIfInBounds_toArray, List.set_cons_zero, List.set_cons_succ]
      refine wpAnyH_ready (rs := [10]) (by kernel_rfl) (by simp) ?_
      refine AllReadyH.cons (o := { dst := some 15, op := _, type := _, pos := _, after := _, guard := _ }) rfl (fun K hK => ?_) ?_
      · go_simp
        refine (pairs_any).mono ?_
        rintro e w3 ⟨rfl, hb3⟩
        go_wp2_with fail
        have ho3 := ho2.keep hb3
        have hne3 := hne2
        have q3 := q2.trans (Pt.below hb3)
        have hy3 : w.heap.size < w3.heap.size := Nat.lt_of_lt_of_le hy2 hb3.size
        refine hK.out _ _ ((hb3.block _ hy2).trans hHeld) (fun hHeld => ?_)
        clear hK K
        try simp only [Act.put, List.setIfInBounds_toArray, List.set_cons_zero, List.set_cons_succ]
        refine wpAnyH_ready (rs := [11]) (by kernel_rfl) (by simp) ?_
        refine AllReadyH.cons (o := { dst := some 16, op := _, type := _, pos := _, after := _, guard := _ }) rfl (fun K hK => ?_) ?_
        · go_simp
          refine (putPairs_any ho3 (by have := q3.g.size; omega) (HSQ _ (q3.blow hvb hbase)) HL.out hokw (by omega) (by simp; omega)).mono ?_
          rintro e w4 ⟨v3, rfl, ho4, p4⟩
          go_wp2_with fail
          have hk4 := p4.block (k := w.heap.size) hy3 hne3
          have hne4 := hk4.2
          have q4 := q3.trans p4
          have hy4 : w.heap.size < w4.heap.size := Nat.lt_of_lt_of_le hy3 p4.g.size
          refine hK.out _ _ (hk4.1.trans hHeld) (fun hHeld => ?_)
          clear hK K
          try simp only [Act.put, List.setIfInBounds_toArray, List.set_cons_zero, List.set_cons_succ]
          refine wpAnyH_take (i := 12) (oi := { dst := some 4, op := _, type := _, pos := _, after := _, guard := _ }) (v := ?_) rfl (by kernel_rfl) (by kernel_rfl) (by kernel_rfl) (fun _ _ _ h => h) (Or.inl ⟨by rfl, ?_⟩) (by assumption) ?_
          rotate_left 1
          · intro u s1; have k0 : u.cell? ⟨w.heap.size, 0, none⟩ = some (.int .i64 t) := (by rw [Go.Joins.cell_of_block s1]; rfl); have k1 : u.cell? ⟨w.heap.size, 1, none⟩ = some (.int .i64 lg) := (by rw [Go.Joins.cell_of_block s1]; rfl); have k2 : u.cell? ⟨w.heap.size, 2, none⟩ = some (.slice ao len cap) := (by rw [Go.Joins.cell_of_block s1]; rfl); go_simp; try with_reducible rfl
          try simp only [Act.put, List.setIfInBounds_toArray, List.set_cons_zero, List.set_cons_succ]
          refine wpAnyH_done (by kernel_rfl) ?_ _
          refine NoPanic.normal ?_
          go_wp2
          go_ret
          exact ⟨_, rfl, by simpa [List.append_assoc] using ho4, q4⟩
        exact AllReadyH.nil
      exact AllReadyH.nil
    exact AllReadyH.nil
  exact AllReadyH.nil
end
end Go.Proofs.YtffgmpgmflbekaaGreatDoor.EL
