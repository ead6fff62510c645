/-
  The functions in fields that put a row, a gone, a write, a pair.
-/
import Derived.Test.YtffgmpgmflbekaaGreatDoorXE6
set_option linter.unusedVariables false
set_option linter.unusedSimpArgs false
namespace Go.Proofs.YtffgmpgmflbekaaGreatDoor.EL
open Go.RowKit Go.Maps

section
variable {w : World} {base : Nat} {v : Value} {xs : List Int}
set_option maxRecDepth 100000
set_option maxHeartbeats 4000000

theorem putGone_any (g : Gn) (h : Own w base v xs) (hbase : base ≤ w.heap.size) (hr : rightG g = true) (hl : xs.length ≤ 900000) :
    Calls Tryz.prog 339 #[v, g.v] w fun e w' => ∃ v', e = .returned v' ∧ Own w' base v' (xs ++ (tx g.key ++ enc g.time)) ∧ Pt w w' v v' := by
  obtain ⟨i0, hi, hz0, hz1, hz2⟩ := info_parts Tryz.infoU8
  have hk : g.key.size ≤ 16 ∧ 0 ≤ g.time ∧ g.time ≤ 1099511627775 := by
    simp only [rightG, isK, isT, Bool.and_eq_true, decide_eq_true_eq] at hr
    omega
  obtain ⟨hk1, ht0, ht1⟩ := hk
  have htl := tx_len g.key
  unfold Gn.v
  have hblk : (w.alloc (.cells #[.string g.key, .int .i64 g.time] 30)).drew.heap[w.heap.size]? = some (.cells #[.string g.key, .int .i64 g.time] 30 (0, 0)) := heap_alloc_new w _
  have hy0' : w.heap.size < (w.alloc (.cells #[.string g.key, .int .i64 g.time] 30)).drew.heap.size := by simp [World.drew]
  have ho0' : Own (w.alloc (.cells #[.string g.key, .int .i64 g.time] 30)).drew base v xs := h.alloc _
  have q0' : Pt w (w.alloc (.cells #[.string g.key, .int .i64 g.time] 30)).drew v v := (Pt.alloc w v _).drew
  have hne0' : some w.heap.size ≠ v.ownBlock := h.ne
  clear h
  go_enter Tryz.func339, Tryz.ntmps339
  go_wp2
  refine wp_region_noPanic ?_
  refine wp_region_held_drew (S := fun u => u.heap[w.heap.size]? = some (.cells #[.string g.key, .int .i64 g.time] 30 (0, 0))) (by kernel_rfl) (hblk) (fun hHeld => ?_)
  generalize (w.alloc (.cells #[.string g.key, .int .i64 g.time] 30)).drew = w0 at hblk hy0' ho0' q0' hHeld ⊢
  have hy0 := hy0'
  have ho0 := ho0'
  have q0 := q0'
  have hne0 := hne0'
  obtain ⟨v0, rfl⟩ : ∃ x, x = v := ⟨_, rfl⟩
  clear hy0' ho0' q0' hne0' hblk
  refine wpAnyH_take (i := 0) (oi := { dst := some 5, op := _, type := _, pos := _, after := _, guard := _ }) (v := ?_) rfl (by kernel_rfl) (by kernel_rfl) (by kernel_rfl) (fun _ _ _ h => h) (Or.inl ⟨by rfl, ?_⟩) (by assumption) ?_
  rotate_left 1
  · intro u s1; have k0 : u.cell? ⟨w.heap.size, 0, none⟩ = some (.string g.key) := (by rw [Go.Joins.cell_of_block s1]; rfl); have k1 : u.cell? ⟨w.heap.size, 1, none⟩ = some (.int .i64 g.time) := (by rw [Go.Joins.cell_of_block s1]; rfl); go_simp; try with_reducible rfl
  try simp only [Act.put, List.setIfInBounds_toArray, List.set_cons_zero, List.set_cons_succ]
  refine wpAnyH_take (i := 1) (oi := { dst := some 6, op := _, type := _, pos := _, after := _, guard := _ }) (v := ?_) rfl (by kernel_rfl) (by kernel_rfl) (by kernel_rfl) (fun _ _ _ h => h) (Or.inl ⟨by rfl, ?_⟩) (by assumption) ?_
  rotate_left 1
  · intro u s1; have k0 : u.cell? ⟨w.heap.size, 0, none⟩ = some (.string g.key) := (by rw [Go.Joins.cell_of_block s1]; rfl); have k1 : u.cell? ⟨w.heap.size, 1, none⟩ = some (.int .i64 g.time) := (by rw [Go.Joins.cell_of_block s1]; rfl); go_simp; try with_reducible rfl
  try simp only [Act.put, List.setIfInBounds_toArray, List.set_cons_zero, List.set_cons_succ]
  refine wpAnyH_take (i := 2) (oi := { dst := some 7, op := _, type := _, pos := _, after := _, guard := _ }) (v := ?_) rfl (by kernel_rfl) (by kernel_rfl) (by kernel_rfl) (fun _ _ _ h => h) (Or.inl ⟨by rfl, ?_⟩) (by assumption) ?_
  rotate_left 1
  · intro u s1; have k0 : u.cell? ⟨w.heap.size, 0, none⟩ = some (.string g.key) := (by rw [Go.Joins.cell_of_block s1]; rfl); have k1 : u.cell? ⟨w.heap.size, 1, none⟩ = some (.int .i64 g.time) := (by rw [Go.Joins.cell_of_block s1]; rfl); go_simp; try with_reducible rfl
  try simp only [Act.put, List.setIfInBounds_toArray, List.set_cons_zero, List.set_cons_succ]
  refine wpAnyH_take (i := 4) (oi := { dst := some 9, op := _, type := _, pos := _, after := _, guard := _ }) (v := ?_) rfl (by kernel_rfl) (by kernel_rfl) (by kernel_rfl) (fun _ _ _ h => h) (Or.inl ⟨by rfl, ?_⟩) (by assumption) ?_
  rotate_left 1
  · intro u s1; have k0 : u.cell? ⟨w.heap.size, 0, none⟩ = some (.string g.key) := (by rw [Go.Joins.cell_of_block s1]; rfl); have k1 : u.cell? ⟨w.heap.size, 1, none⟩ = some (.int .i64 g.time) := (by rw [Go.Joins.cell_of_block s1]; rfl); go_simp; try with_reducible rfl
  try simp only [Act.put, List.setIfInBounds_toArray, List.set_cons_zero, List.set_cons_succ]
  refine wpAnyH_take (i := 5) (oi := { dst := some 10, op := _, type := _, pos := _, after := _, guard := _ }) (v := ?_) rfl (by kernel_rfl) (by kernel_rfl) (by kernel_rfl) (fun _ _ _ h => h) (Or.inl ⟨by rfl, ?_⟩) (by assumption) ?_
  rotate_left 1
  · intro u s1; have k0 : u.cell? ⟨w.heap.size, 0, none⟩ = some (.string g.key) := (by rw [Go.Joins.cell_of_block s1]; rfl); have k1 : u.cell? ⟨w.heap.size, 1, none⟩ = some (.int .i64 g.time) := (by rw [Go.Joins.cell_of_block s1]; rfl); go_simp; try with_reducible rfl
  try simp only [Act.put, List.setIfInBounds_toArray, List.set_cons_zero, List.set_cons_succ]
  refine wpAnyH_ready (rs := [3]) (by kernel_rfl) (by simp) ?_
  refine AllReadyH.cons (o := { dst := some 8, op := _, type := _, pos := _, after := _, guard := _ }) rfl (fun K hK => ?_) ?_
  · go_simp
    refine (putText2_any g.key ho0 (by have := q0.g.size; omega) (by omega) (by omega)).mono ?_
    rintro e w1 ⟨v1, rfl, ho1, p1⟩
    go_wp2_with fail
    have hk1 := p1.block (k := w.heap.size) hy0 hne0
    have hne1 := hk1.2
    have q1 := q0.trans p1
    have hy1 : w.heap.size < w1.heap.size := Nat.lt_of_lt_of_le hy0 p1.g.size
    refine hK.out _ _ (hk1.1.trans hHeld) (fun hHeld => ?_)
    clear hK K
    try simp only [Act.put, List.setIfInBounds_toArray, List.set_cons_zero, List.set_cons_succ]
    refine wpAnyH_ready (rs := [6]) (by kernel_rfl) (by simp) ?_
    refine AllReadyH.cons (o := { dst := some 11, op := _, type := _, pos := _, after := _, guard := _ }) rfl (fun K hK => ?_) ?_
    · go_simp
      refine (putTime_any g.time ho1 (by have := q1.g.size; omega) ht0 ht1 (by simp; omega)).mono ?_
      rintro e w2 ⟨v2, rfl, ho2, p2⟩
      go_wp2_with fail
      have hk2 := p2.block (k := w.heap.size) hy1 hne1
      have hne2 := hk2.2
      have q2 := q1.trans p2
      have hy2 : w.heap.size < w2.heap.size := Nat.lt_of_lt_of_le hy1 p2.g.size
      refine hK.out _ _ (hk2.1.trans hHeld) (fun hHeld => ?_)
      clear hK K
      try simp only [Act.put, List.setIfInBounds_toArray, List.set_cons_zero, List.set_cons_succ]
      refine wpAnyH_take (i := 7) (oi := { dst := some 4, op := _, type := _, pos := _, after := _, guard := _ }) (v := ?_) rfl (by kernel_rfl) (by kernel_rfl) (by kernel_rfl) (fun _ _ _ h => h) (Or.inl ⟨by rfl, ?_⟩) (by assumption) ?_
      rotate_left 1
      · intro u s1; have k0 : u.cell? ⟨w.heap.size, 0, none⟩ = some (.string g.key) := (by rw [Go.Joins.cell_of_block s1]; rfl); have k1 : u.cell? ⟨w.heap.size, 1, none⟩ = some (.int .i64 g.time) := (by rw [Go.Joins.cell_of_block s1]; rfl); go_simp; try with_reducible rfl
      try simp only [Act.put, List.setIfInBounds_toArray, List.set_cons_zero, List.set_cons_succ]
      refine wpAnyH_done (by kernel_rfl) ?_ _
      refine NoPanic.normal ?_
      go_wp2
      go_ret
      exact ⟨_, rfl, by rw [← List.append_assoc]; exact ho2, q2⟩
    exact AllReadyH.nil
  exact AllReadyH.nil

theorem putRow_any (r : Rw) (h : Own w base v xs) (hbase : base ≤ w.heap.size) (hr : rightR r = true) (hl : xs.length ≤ 900000) :
    Calls Tryz.prog 334 #[v, r.v] w fun e w' => ∃ v', e = .returned v' ∧ Own w' base v' (xs ++ (tx r.key ++ (tx r.val ++ enc r.time))) ∧ Pt w w' v v' := by
  obtain ⟨i0, hi, hz0, hz1, hz2⟩ := info_parts Tryz.infoU8
  have hk : r.key.size ≤ 16 ∧ r.val.size ≤ 64 ∧ 0 ≤ r.time ∧ r.time ≤ 1099511627775 := by
    simp only [rightR, isK, isV, isT, Bool.and_eq_true, decide_eq_true_eq] at hr
    omega
  obtain ⟨hk1, hk2, ht0, ht1⟩ := hk
  have htl := tx_len r.key
  have htl2 := tx_len r.val
  unfold Rw.v
  have hblk : (w.alloc (.cells #[.string r.key, .string r.val, .int .i64 r.time] 28)).drew.heap[w.heap.size]? = some (.cells #[.string r.key, .string r.val, .int .i64 r.time] 28 (0, 0)) := heap_alloc_new w _
  have hy0' : w.heap.size < (w.alloc (.cells #[.string r.key, .string r.val, .int .i64 r.time] 28)).drew.heap.size := by simp [World.drew]
  have ho0' : Own (w.alloc (.cells #[.string r.key, .string r.val, .int .i64 r.time] 28)).drew base v xs := h.alloc _
  have q0' : Pt w (w.alloc (.cells #[.string r.key, .string r.val, .int .i64 r.time] 28)).drew v v := (Pt.alloc w v _).drew
  have hne0' : some w.heap.size ≠ v.ownBlock := h.ne
  clear h
  go_enter Tryz.func334, Tryz.ntmps334
  go_wp2
  refine wp_region_noPanic ?_
  refine wp_region_held_drew (S := fun u => u.heap[w.heap.size]? = some (.cells #[.string r.key, .string r.val, .int .i64 r.time] 28 (0, 0))) (by kernel_rfl) (hblk) (fun hHeld => ?_)
  generalize (w.alloc (.cells #[.string r.key, .string r.val, .int .i64 r.time] 28)).drew = w0 at hblk hy0' ho0' q0' hHeld ⊢
  have hy0 := hy0'
  have ho0 := ho0'
  have q0 := q0'
  have hne0 := hne0'
  obtain ⟨v0, rfl⟩ : ∃ x, x = v := ⟨_, rfl⟩
  clear hy0' ho0' q0' hne0' hblk
  refine wpAnyH_take (i := 0) (oi := { dst := some 5, op := _, type := _, pos := _, after := _, guard := _ }) (v := ?_) rfl (by kernel_rfl) (by kernel_rfl) (by kernel_rfl) (fun _ _ _ h => h) (Or.inl ⟨by rfl, ?_⟩) (by assumption) ?_
  rotate_left 1
  · intro u s1; have k0 : u.cell? ⟨w.heap.size, 0, none⟩ = some (.string r.key) := (by rw [Go.Joins.cell_of_block s1]; rfl); have k1 : u.cell? ⟨w.heap.size, 1, none⟩ = some (.string r.val) := (by rw [Go.Joins.cell_of_block s1]; rfl); have k2 : u.cell? ⟨w.heap.size, 2, none⟩ = some (.int .i64 r.time) := (by rw [Go.Joins.cell_of_block s1]; rfl); go_simp; try with_reducible rfl
  try simp only [Act.put, List.setIfInBounds_toArray, List.set_cons_zero, List.set_cons_succ]
  refine wpAnyH_take (i := 1) (oi := { dst := some 6, op := _, type := _, pos := _, after := _, guard := _ }) (v := ?_) rfl (by kernel_rfl) (by kernel_rfl) (by kernel_rfl) (fun _ _ _ h => h) (Or.inl ⟨by rfl, ?_⟩) (by assumption) ?_
  rotate_left 1
  · intro u s1; have k0 : u.cell? ⟨w.heap.size, 0, none⟩ = some (.string r.key) := (by rw [Go.Joins.cell_of_block s1]; rfl); have k1 : u.cell? ⟨w.heap.size, 1, none⟩ = some (.string r.val) := (by rw [Go.Joins.cell_of_block s1]; rfl); have k2 : u.cell? ⟨w.heap.size, 2, none⟩ = some (.int .i64 r.time) := (by rw [Go.Joins.cell_of_block s1]; rfl); go_simp; try with_reducible rfl
  try simp only [Act.put, List.setIfInBounds_toArray, List.set_cons_zero, List.set_cons_succ]
  refine wpAnyH_take (i := 2) (oi := { dst := some 7, op := _, type := _, pos := _, after := _, guard := _ }) (v := ?_) rfl (by kernel_rfl) (by kernel_rfl) (by kernel_rfl) (fun _ _ _ h => h) (Or.inl ⟨by rfl, ?_⟩) (by assumption) ?_
  rotate_left 1
  · intro u s1; have k0 : u.cell? ⟨w.heap.size, 0, none⟩ = some (.string r.key) := (by rw [Go.Joins.cell_of_block s1]; rfl); have k1 : u.cell? ⟨w.heap.size, 1, none⟩ = some (.string r.val) := (by rw [Go.Joins.cell_of_block s1]; rfl); have k2 : u.cell? ⟨w.heap.size, 2, none⟩ = some (.int .i64 r.time) := (by rw [Go.Joins.cell_of_block s1]; rfl); go_simp; try with_reducible rfl
  try simp only [Act.put, List.setIfInBounds_toArray, List.set_cons_zero, List.set_cons_succ]
  refine wpAnyH_take (i := 4) (oi := { dst := some 9, op := _, type := _, pos := _, after := _, guard := _ }) (v := ?_) rfl (by kernel_rfl) (by kernel_rfl) (by kernel_rfl) (fun _ _ _ h => h) (Or.inl ⟨by rfl, ?_⟩) (by assumption) ?_
  rotate_left 1
  · intro u s1; have k0 : u.cell? ⟨w.heap.size, 0, none⟩ = some (.string r.key) := (by rw [Go.Joins.cell_of_block s1]; rfl); have k1 : u.cell? ⟨w.heap.size, 1, none⟩ = some (.string r.val) := (by rw [Go.Joins.cell_of_block s1]; rfl); have k2 : u.cell? ⟨w.heap.size, 2, none⟩ = some (.int .i64 r.time) := (by rw [Go.Joins.cell_of_block s1]; rfl); go_simp; try with_reducible rfl
  try simp only [Act.put, List.setIfInBounds_toArray, List.set_cons_zero, List.set_cons_succ]
  refine wpAnyH_take (i := 5) (oi := { dst := some 10, op := _, type := _, pos := _, after := _, guard := _ }) (v := ?_) rfl (by kernel_rfl) (by kernel_rfl) (by kernel_rfl) (fun _ _ _ h => h) (Or.inl ⟨by rfl, ?_⟩) (by assumption) ?_
  rotate_left 1
  · intro u s1; have k0 : u.cell? ⟨w.heap.size, 0, none⟩ = some (.string r.key) := (by rw [Go.Joins.cell_of_block s1]; rfl); have k1 : u.cell? ⟨w.heap.size, 1, none⟩ = some (.string r.val) := (by rw [Go.Joins.cell_of_block s1]; rfl); have k2 : u.cell? ⟨w.heap.size, 2, none⟩ = some (.int .i64 r.time) := (by rw [Go.Joins.cell_of_block s1]; rfl); go_simp; try with_reducible rfl
  try simp only [Act.put, List.setIfInBounds_toArray, List.set_cons_zero, List.set_cons_succ]
  refine wpAnyH_take (i := 7) (oi := { dst := some 12, op := _, type := _, pos := _, after := _, guard := _ }) (v := ?_) rfl (by kernel_rfl) (by kernel_rfl) (by kernel_rfl) (fun _ _ _ h => h) (Or.inl ⟨by rfl, ?_⟩) (by assumption) ?_
  rotate_left 1
  · intro u s1; have k0 : u.cell? ⟨w.heap.size, 0, none⟩ = some (.string r.key) := (by rw [Go.Joins.cell_of_block s1]; rfl); have k1 : u.cell? ⟨w.heap.size, 1, none⟩ = some (.string r.val) := (by rw [Go.Joins.cell_of_block s1]; rfl); have k2 : u.cell? ⟨w.heap.size, 2, none⟩ = some (.int .i64 r.time) := (by rw [Go.Joins.cell_of_block s1]; rfl); go_simp; try with_reducible rfl
  try simp only [Act.put, List.setIfInBounds_toArray, List.set_cons_zero, List.set_cons_succ]
  refine wpAnyH_take (i := 8) (oi := { dst := some 13, op := _, type := _, pos := _, after := _, guard := _ }) (v := ?_) rfl (by kernel_rfl) (by kernel_rfl) (by kernel_rfl) (fun _ _ _ h => h) (Or.inl ⟨by rfl, ?_⟩) (by assumption) ?_
  rotate_left 1
  · intro u s1; have k0 : u.cell? ⟨w.heap.size, 0, none⟩ = some (.string r.key) := (by rw [Go.Joins.cell_of_block s1]; rfl); have k1 : u.cell? ⟨w.heap.size, 1, none⟩ = some (.string r.val) := (by rw [Go.Joins.cell_of_block s1]; rfl); have k2 : u.cell? ⟨w.heap.size, 2, none⟩ = some (.int .i64 r.time) := (by rw [Go.Joins.cell_of_block s1]; rfl); go_simp; try with_reducible rfl
  try simp only [Act.put, List.setIfInBounds_toArray, List.set_cons_zero, List.set_cons_succ]
  refine wpAnyH_ready (rs := [3]) (by kernel_rfl) (by simp) ?_
  refine AllReadyH.cons (o := { dst := some 8, op := _, type := _, pos := _, after := _, guard := _ }) rfl (fun K hK => ?_) ?_
  · go_simp
    refine (putText2_any r.key ho0 (by have := q0.g.size; omega) (by omega) (by omega)).mono ?_
    rintro e w1 ⟨v1, rfl, ho1, p1⟩
    go_wp2_with fail
    have hk1 := p1.block (k := w.heap.size) hy0 hne0
    have hne1 := hk1.2
    have q1 := q0.trans p1
    have hy1 : w.heap.size < w1.heap.size := Nat.lt_of_lt_of_le hy0 p1.g.size
    refine hK.out _ _ (hk1.1.trans hHeld) (fun hHeld => ?_)
    clear hK K
    try simp only [Act.put, List.setIfInBounds_toArray, List.set_cons_zero, List.set_cons_succ]
    refine wpAnyH_ready (rs := [6]) (by kernel_rfl) (by simp) ?_
    refine AllReadyH.cons (o := { dst := some 11, op := _, type := _, pos := _, after := _, guard := _ }) rfl (fun K hK => ?_) ?_
    · go_simp
      refine (putText2_any r.val ho1 (by have := q1.g.size; omega) (by omega) (by simp; omega)).mono ?_
      rintro e w2 ⟨v2, rfl, ho2, p2⟩
      go_wp2_with fail
      have hk2 := p2.block (k := w.heap.size) hy1 hne1
      have hne2 := hk2.2
      have q2 := q1.trans p2
      have hy2 : w.heap.size < w2.heap.size := Nat.lt_of_lt_of_le hy1 p2.g.size
      refine hK.out _ _ (hk2.1.trans hHeld) (fun hHeld => ?_)
      clear hK K
      try simp only [Act.put, List.setIfInBounds_toArray, List.set_cons_zero, List.set_cons_succ]
      refine wpAnyH_ready (rs := [9]) (by kernel_rfl) (by simp) ?_
      refine AllReadyH.cons (o := { dst := some 14, op := _, type := _, pos := _, after := _, guard := _ }) rfl (fun K hK => ?_) ?_
      · go_simp
        refine (putTime_any r.time ho2 (by have := q2.g.size; omega) ht0 ht1 (by simp; omega)).mono ?_
        rintro e w3 ⟨v3, rfl, ho3, p3⟩
        go_wp2_with fail
        have hk3 := p3.block (k := w.heap.size) hy2 hne2
        have hne3 := hk3.2
        have q3 := q2.trans p3
        have hy3 : w.heap.size < w3.heap.size := Nat.lt_of_lt_of_le hy2 p3.g.size
        refine hK.out _ _ (hk3.1.trans hHeld) (fun hHeld => ?_)
        clear hK K
        try simp only [Act.put, List.setIfInBounds_toArray, List.set_cons_zero, List.set_cons_succ]
        refine wpAnyH_take (i := 10) (oi := { dst := some 4, op := _, type := _, pos := _, after := _, guard := _ }) (v := ?_) rfl (by kernel_rfl) (by kernel_rfl) (by kernel_rfl) (fun _ _ _ h => h) (Or.inl ⟨by rfl, ?_⟩) (by assumption) ?_
        rotate_left 1
        · intro u s1; have k0 : u.cell? ⟨w.heap.size, 0, none⟩ = some (.string r.key) := (by rw [Go.Joins.cell_of_block s1]; rfl); have k1 : u.cell? ⟨w.heap.size, 1, none⟩ = some (.string r.val) := (by rw [Go.Joins.cell_of_block s1]; rfl); have k2 : u.cell? ⟨w.heap.size, 2, none⟩ = some (.int .i64 r.time) := (by rw [Go.Joins.cell_of_block s1]; rfl); go_simp; try with_reducible rfl
        try simp only [Act.put, List.setIfInBounds_toArray, List.set_cons_zero, List.set_cons_succ]
        refine wpAnyH_done (by kernel_rfl) ?_ _
        refine NoPanic.normal ?_
        go_wp2
        go_ret
        exact ⟨_, rfl, by simpa [List.append_assoc] using ho3, q3⟩
      exact AllReadyH.nil
    exact AllReadyH.nil
  exact AllReadyH.nil

theorem putPair_any (q : Pr) (h : Own w base v xs) (hbase : base ≤ w.heap.size) (hr : okP q) (hl : xs.length ≤ 900000) :
    Calls Tryz.prog 289 #[v, q.v] w fun e w' => ∃ v', e = .returned v' ∧ Own w' base v' (xs ++ pb q) ∧ Pt w w' v v' := by
  obtain ⟨i0, hi, hz0, hz1, hz2⟩ := info_parts Tryz.infoU8
  obtain ⟨⟨hp0, hp1⟩, ⟨hp2, hp3⟩, ⟨hp4, hp5⟩⟩ := hr
  have htl := enc_len q.num
  have htl2 := enc_len q.frm
  have hwn : IntKind.u64.wrap q.num = q.num := IntWalk.u64_in _ (by omega)
  unfold Pr.v pb
  have hblk : (w.alloc (.cells #[.int .i64 q.num, .int .i64 q.frm, .int .i64 q.til] 46)).drew.heap[w.heap.size]? = some (.cells #[.int .i64 q.num, .int .i64 q.frm, .int .i64 q.til] 46 (0, 0)) := heap_alloc_new w _
  have hy0' : w.heap.size < (w.alloc (.cells #[.int .i64 q.num, .int .i64 q.frm, .int .i64 q.til] 46)).drew.heap.size := by simp [World.drew]
  have ho0' : Own (w.alloc (.cells #[.int .i64 q.num, .int .i64 q.frm, .int .i64 q.til] 46)).drew base v xs := h.alloc _
  have q0' : Pt w (w.alloc (.cells #[.int .i64 q.num, .int .i64 q.frm, .int .i64 q.til] 46)).drew v v := (Pt.alloc w v _).drew
  have hne0' : some w.heap.size ≠ v.ownBlock := h.ne
  clear h
  go_enter Tryz.func289, Tryz.ntmps289
  go_wp2
  refine wp_region_noPanic ?_
  refine wp_region_held_drew (S := fun u => u.heap[w.heap.size]? = some (.cells #[.int .i64 q.num, .int .i64 q.frm, .int .i64 q.til] 46 (0, 0))) (by kernel_rfl) (hblk) (fun hHeld => ?_)
  generalize (w.alloc (.cells #[.int .i64 q.num, .int .i64 q.frm, .int .i64 q.til] 46)).drew = w0 at hblk hy0' ho0' q0' hHeld ⊢
  have hy0 := hy0'
  have ho0 := ho0'
  have q0 := q0'
  have hne0 := hne0'
  obtain ⟨v0, rfl⟩ : ∃ x, x = v := ⟨_, rfl⟩
  clear hy0' ho0' q0' hne0' hblk
  refine wpAnyH_take (i := 0) (oi := { dst := some 5, op := _, type := _, pos := _, after := _, guard := _ }) (v := ?_) rfl (by kernel_rfl) (by kernel_rfl) (by kernel_rfl) (fun _ _ _ h => h) (Or.inl ⟨by rfl, ?_⟩) (by assumption) ?_
  rotate_left 1
  · intro u s1; have k0 : u.cell? ⟨w.heap.size, 0, none⟩ = some (.int .i64 q.num) := (by rw [Go.Joins.cell_of_block s1]; rfl); have k1 : u.cell? ⟨w.heap.size, 1, none⟩ = some (.int .i64 q.frm) := (by rw [Go.Joins.cell_of_block s1]; rfl); have k2 : u.cell? ⟨w.heap.size, 2, none⟩ = some (.int .i64 q.til) := (by rw [Go.Joins.cell_of_block s1]; rfl); go_simp; try with_reducible rfl
  try simp only [Act.put, List.setIfInBounds_toArray, List.set_cons_zero, List.set_cons_succ]
  refine wpAnyH_take (i := 1) (oi := { dst := some 6, op := _, type := _, pos := _, after := _, guard := _ }) (v := ?_) rfl (by kernel_rfl) (by kernel_rfl) (by kernel_rfl) (fun _ _ _ h => h) (Or.inl ⟨by rfl, ?_⟩) (by assumption) ?_
  rotate_left 1
  · intro u s1; have k0 : u.cell? ⟨w.heap.size, 0, none⟩ = some (.int .i64 q.num) := (by rw [Go.Joins.cell_of_block s1]; rfl); have k1 : u.cell? ⟨w.heap.size, 1, none⟩ = some (.int .i64 q.frm) := (by rw [Go.Joins.cell_of_block s1]; rfl); have k2 : u.cell? ⟨w.heap.size, 2, none⟩ = some (.int .i64 q.til) := (by rw [Go.Joins.cell_of_block s1]; rfl); go_simp; try with_reducible rfl
  try simp only [Act.put, List.setIfInBounds_toArray, List.set_cons_zero, List.set_cons_succ]
  refine wpAnyH_take (i := 2) (oi := { dst := some 7, op := _, type := _, pos := _, after := _, guard := _ }) (v := ?_) rfl (by kernel_rfl) (by kernel_rfl) (by kernel_rfl) (fun _ _ _ h => h) (Or.inl ⟨by rfl, ?_⟩) (by assumption) ?_
  rotate_left 1
  · intro u s1; have k0 : u.cell? ⟨w.heap.size, 0, none⟩ = some (.int .i64 q.num) := (by rw [Go.Joins.cell_of_block s1]; rfl); have k1 : u.cell? ⟨w.heap.size, 1, none⟩ = some (.int .i64 q.frm) := (by rw [Go.Joins.cell_of_block s1]; rfl); have k2 : u.cell? ⟨w.heap.size, 2, none⟩ = some (.int .i64 q.til) := (by rw [Go.Joins.cell_of_block s1]; rfl); go_simp; try with_reducible rfl
  try simp only [Act.put, List.setIfInBounds_toArray, List.set_cons_zero, List.set_cons_succ]
  refine wpAnyH_take (i := 3) (oi := { dst := some 8, op := _, type := _, pos := _, after := _, guard := _ }) (v := ?_) rfl (by kernel_rfl) (by kernel_rfl) (by kernel_rfl) (fun _ _ _ h => h) (Or.inl ⟨by rfl, ?_⟩) (by assumption) ?_
  rotate_left 1
  · intro u s1; have k0 : u.cell? ⟨w.heap.size, 0, none⟩ = some (.int .i64 q.num) := (by rw [Go.Joins.cell_of_block s1]; rfl); have k1 : u.cell? ⟨w.heap.size, 1, none⟩ = some (.int .i64 q.frm) := (by rw [Go.Joins.cell_of_block s1]; rfl); have k2 : u.cell? ⟨w.heap.size, 2, none⟩ = some (.int .i64 q.til) := (by rw [Go.Joins.cell_of_block s1]; rfl); go_simp; try with_reducible rfl
  try simp only [Act.put, List.setIfInBounds_toArray, List.set_cons_zero, List.set_cons_succ]
  refine wpAnyH_take (i := 5) (oi := { dst := some 10, op := _, type := _, pos := _, after := _, guard := _ }) (v := ?_) rfl (by kernel_rfl) (by kernel_rfl) (by kernel_rfl) (fun _ _ _ h => h) (Or.inl ⟨by rfl, ?_⟩) (by assumption) ?_
  rotate_left 1
  · intro u s1; have k0 : u.cell? ⟨w.heap.size, 0, none⟩ = some (.int .i64 q.num) := (by rw [Go.Joins.cell_of_block s1]; rfl); have k1 : u.cell? ⟨w.heap.size, 1, none⟩ = some (.int .i64 q.frm) := (by rw [Go.Joins.cell_of_block s1]; rfl); have k2 : u.cell? ⟨w.heap.size, 2, none⟩ = some (.int .i64 q.til) := (by rw [Go.Joins.cell_of_block s1]; rfl); go_simp; try with_reducible rfl
  try simp only [Act.put, List.setIfInBounds_toArray, List.set_cons_zero, List.set_cons_succ]
  refine wpAnyH_take (i := 6) (oi := { dst := some 11, op := _, type := _, pos := _, after := _, guard := _ }) (v := ?_) rfl (by kernel_rfl) (by kernel_rfl) (by kernel_rfl) (fun _ _ _ h => h) (Or.inl ⟨by rfl, ?_⟩) (by assumption) ?_
  rotate_left 1
  · intro u s1; have k0 : u.cell? ⟨w.heap.size, 0, none⟩ = some (.int .i64 q.num) := (by rw [Go.Joins.cell_of_block s1]; rfl); have k1 : u.cell? ⟨w.heap.size, 1, none⟩ = some (.int .i64 q.frm) := (by rw [Go.Joins.cell_of_block s1]; rfl); have k2 : u.cell? ⟨w.heap.size, 2, none⟩ = some (.int .i64 q.til) := (by rw [Go.Joins.cell_of_block s1]; rfl); go_simp; try with_reducible rfl
  try simp only [Act.put, List.setIfInBounds_toArray, List.set_cons_zero, List.set_cons_succ]
  refine wpAnyH_take (i := 8) (oi := { dst := some 13, op := _, type := _, pos := _, after := _, guard := _ }) (v := ?_) rfl (by kernel_rfl) (by kernel_rfl) (by kernel_rfl) (fun _ _ _ h => h) (Or.inl ⟨by rfl, ?_⟩) (by assumption) ?_
  rotate_left 1
  · intro u s1; have k0 : u.cell? ⟨w.heap.size, 0, none⟩ = some (.int .i64 q.num) := (by rw [Go.Joins.cell_of_block s1]; rfl); have k1 : u.cell? ⟨w.heap.size, 1, none⟩ = some (.int .i64 q.frm) := (by rw [Go.Joins.cell_of_block s1]; rfl); have k2 : u.cell? ⟨w.heap.size, 2, none⟩ = some (.int .i64 q.til) := (by rw [Go.Joins.cell_of_block s1]; rfl); go_simp; try with_reducible rfl
  try simp only [Act.put, List.setIfInBounds_toArray, List.set_cons_zero, List.set_cons_succ]
  refine wpAnyH_take (i := 9) (oi := { dst := some 14, op := _, type := _, pos := _, after := _, guard := _ }) (v := ?_) rfl (by kernel_rfl) (by kernel_rfl) (by kernel_rfl) (fun _ _ _ h => h) (Or.inl ⟨by rfl, ?_⟩) (by assumption) ?_
  rotate_left 1
  · intro u s1; have k0 : u.cell? ⟨w.heap.size, 0, none⟩ = some (.int .i64 q.num) := (by rw [Go.Joins.cell_of_block s1]; rfl); have k1 : u.cell? ⟨w.heap.size, 1, none⟩ = some (.int .i64 q.frm) := (by rw [Go.Joins.cell_of_block s1]; rfl); have k2 : u.cell? ⟨w.heap.size, 2, none⟩ = some (.int .i64 q.til) := (by rw [Go.Joins.cell_of_block s1]; rfl); go_simp; try with_reducible rfl
  try simp only [Act.put, List.setIfInBounds_toArray, List.set_cons_zero, List.set_cons_succ]
  refine wpAnyH_ready (rs := [4]) (by kernel_rfl) (by simp) ?_
  refine AllReadyH.cons (o := { dst := some 9, op := _, type := _, pos := _, after := _, guard := _ }) rfl (fun K hK => ?_) ?_
  · go_simp
    refine (putNumber_any q.num ho0 (by have := q0.g.size; omega) hp0 (by omega) (by omega)).mono ?_
    rintro e w1 ⟨v1, rfl, ho1, p1⟩
    go_wp2_with fail
    have hk1 := p1.block (k := w.heap.size) hy0 hne0
    have hne1 := hk1.2
    have q1 := q0.trans p1
    have hy1 : w.heap.size < w1.heap.size := Nat.lt_of_lt_of_le hy0 p1.g.size
    refine hK.out _ _ (hk1.1.trans hHeld) (fun hHeld => ?_)
    clear hK K
    try simp only [Act.put, List.setIfInBounds_toArray, List.set_cons_zero, List.set_cons_succ]
    refine wpAnyH_ready (rs := [7]) (by kernel_rfl) (by simp) ?_
    refine AllReadyH.cons (o := { dst := some 12, op := _, type := _, pos := _, after := _, guard := _ }) rfl (fun K hK => ?_) ?_
    · go_simp
      refine (putTime_any q.frm ho1 (by have := q1.g.size; omega) hp2 hp3 (by simp; omega)).mono ?_
      rintro e w2 ⟨v2, rfl, ho2, p2⟩
      go_wp2_with fail
      have hk2 := p2.block (k := w.heap.size) hy1 hne1
      have hne2 := hk2.2
      have q2 := q1.trans p2
      have hy2 : w.heap.size < w2.heap.size := Nat.lt_of_lt_of_le hy1 p2.g.size
      refine hK.out _ _ (hk2.1.trans hHeld) (fun hHeld => ?_)
      clear hK K
      try simp only [Act.put, List.setIfInBounds_toArray, List.set_cons_zero, List.set_cons_succ]
      refine wpAnyH_ready (rs := [10]) (by kernel_rfl) (by simp) ?_
      refine AllReadyH.cons (o := { dst := some 15, op := _, type := _, pos := _, after := _, guard := _ }) rfl (fun K hK => ?_) ?_
      · go_simp
        refine (putTime_any q.til ho2 (by have := q2.g.size; omega) hp4 hp5 (by simp; omega)).mono ?_
        rintro e w3 ⟨v3, rfl, ho3, p3⟩
        go_wp2_with fail
        have hk3 := p3.block (k := w.heap.size) hy2 hne2
        have hne3 := hk3.2
        have q3 := q2.trans p3
        have hy3 : w.heap.size < w3.heap.size := Nat.lt_of_lt_of_le hy2 p3.g.size
        refine hK.out _ _ (hk3.1.trans hHeld) (fun hHeld => ?_)
        clear hK K
        try simp only [Act.put, List.setIfInBounds_toArray, List.set_cons_zero, List.set_cons_succ]
        refine wpAnyH_take (i := 11) (oi := { dst := some 4, op := _, type := _, pos := _, after := _, guard := _ }) (v := ?_) rfl (by kernel_rfl) (by kernel_rfl) (by kernel_rfl) (fun _ _ _ h => h) (Or.inl ⟨by rfl, ?_⟩) (by assumption) ?_
        rotate_left 1
        · intro u s1; have k0 : u.cell? ⟨w.heap.size, 0, none⟩ = some (.int .i64 q.num) := (by rw [Go.Joins.cell_of_block s1]; rfl); have k1 : u.cell? ⟨w.heap.size, 1, none⟩ = some (.int .i64 q.frm) := (by rw [Go.Joins.cell_of_block s1]; rfl); have k2 : u.cell? ⟨w.heap.size, 2, none⟩ = some (.int .i64 q.til) := (by rw [Go.Joins.cell_of_block s1]; rfl); go_simp; try with_reducible rfl
        try simp only [Act.put, List.setIfInBounds_toArray, List.set_cons_zero, List.set_cons_succ]
        refine wpAnyH_done (by kernel_rfl) ?_ _
        refine NoPanic.normal ?_
        go_wp2
        go_ret
        exact ⟨_, rfl, by simpa [List.append_assoc] using ho3, q3⟩
      exact AllReadyH.nil
    exact AllReadyH.nil
  exact AllReadyH.nil

end
end Go.Proofs.YtffgmpgmflbekaaGreatDoor.EL
