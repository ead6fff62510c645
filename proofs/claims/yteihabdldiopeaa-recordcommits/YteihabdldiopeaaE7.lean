/-
  The functions in fields that put a row, a gone, a write, a pair.
-/
import Derived.Test.YteihabdldiopeaaE6
set_option linter.unusedVariables false
set_option linter.unusedSimpArgs false
namespace Go.Proofs.Yteihabdldiopeaa
open Go.RowKit Go.Maps

section
variable {w : World} {base : Nat} {v : Value} {xs : List Int}
set_option maxRecDepth 100000
set_option maxHeartbeats 4000000

theorem putGone_any (g : Gn) (h : Own w base v xs) (hbase : base ≤ w.heap.size) (hr : rightG g = true) (hl : xs.length ≤ 900000) :
    Calls Try.prog 73 #[v, g.v] w fun e w' => ∃ v', e = .returned v' ∧ Own w' base v' (xs ++ (tx g.key ++ enc g.time)) ∧ Pt w w' v v' := by
  obtain ⟨i0, hi, hz0, hz1, hz2⟩ := info_parts Try.info5
  have hk : g.key.size ≤ 16 ∧ 0 ≤ g.time ∧ g.time ≤ 1099511627775 := by
    simp only [rightG, isK, isT, Bool.and_eq_true, decide_eq_true_eq] at hr
    omega
  obtain ⟨hk1, ht0, ht1⟩ := hk
  have htl := tx_len g.key
  unfold Gn.v
  have hblk : (w.alloc (.cells #[.string g.key, .int .i64 g.time] 39)).drew.heap[w.heap.size]? = some (.cells #[.string g.key, .int .i64 g.time] 39 (0, 0)) := heap_alloc_new w _
  have hy0' : w.heap.size < (w.alloc (.cells #[.string g.key, .int .i64 g.time] 39)).drew.heap.size := by simp [World.drew]
  have ho0' : Own (w.alloc (.cells #[.string g.key, .int .i64 g.time] 39)).drew base v xs := h.alloc _
  have q0' : Pt w (w.alloc (.cells #[.string g.key, .int .i64 g.time] 39)).drew v v := (Pt.alloc w v _).drew
  have hne0' : some w.heap.size ≠ v.ownBlock := h.ne
  clear h
  go_enter Try.func73, Try.ntmps73
  go_wp2
  refine wp_region_noPanic ?_
  refine wp_region_held_drew (S := fun u => u.heap[w.heap.size]? = some (.cells #[.string g.key, .int .i64 g.time] 39 (0, 0))) (by kernel_rfl) (hblk) (fun hHeld => ?_)
  generalize (w.alloc (.cells #[.string g.key, .int .i64 g.time] 39)).drew = w0 at hblk hy0' ho0' q0' hHeld ⊢
  have hy0 := hy0'
  have ho0 := ho0'
  have q0 := q0'
  have hne0 := hne0'
  obtain ⟨v0, rfl⟩ : ∃ x, x = v := ⟨_, rfl⟩
  clear hy0' ho0' q0' hne0' hblk
  refine wpAnyH_take (i := 0) (oi := { dst := some 5, op := _, type := _, pos := _, after := _, guard := _ }) (v := ?_) rfl (by kernel_rfl) (by kernel_rfl) (by kernel_rfl) (fun _ _ _ h => h) (Or.inl ⟨by rfl, ?_⟩) (by assumption) ?_
  rotate_left 1
  · intro u s1; have k0 : u.cell? ⟨w.heap.size, 0, none⟩ = some (.string g.key) := (by rw [Go.Joins.cell_of_block s1]; rfl); have k1 : u.cell? ⟨w.heap.size, 1, none⟩ = some (.int .i64 g.time) := (by rw [Go.Joins.cell_of_block s1]; rfl); go_simp; try with_reducible rfl
  try simp only [Act.put, List.setIfInBounds_toArray, List.set_cons_zero, List.set_cons_succ]
  refine wpAnyH_take (i := 1) (oi := { dst := some 6, op := _, type := _, pos := _, after := _, guard := _ }) (v := ?_) rfl (by kernel_rfl) (by kernel_rfl) (by kernel_rfl) (fun _ _ _ h => h) (Or.inl ⟨by rfl, ?_⟩) (by assumption) ?_
  rotate_left 1
  · intro u s1; have k0 : u.cell? ⟨w.heap.size, 0, none⟩ = some (.string g.key) := (by rw [Go.Joins.cell_of_block s1]; rfl); have k1 : u.cell? ⟨w.heap.size, 1, none⟩ = some (.int .i64 g.time) := (by rw [Go.Joins.cell_of_block s1]; rfl); go_simp; try with_reducible rfl
  try simp only [Act.put, List.setIfInBounds_toArray, List.set_cons_zero, List.set_cons_succ]
  refine wpAnyH_take (i := 2) (oi := { dst := some 7, op := _, type := _, pos := _, after := _, guard := _ }) (v := ?_) rfl (by kernel_rfl) (by kernel_rfl) (by kernel_rfl) (fun _ _ _ h => h) (Or.inl ⟨by rfl, ?_⟩) (by assumption) ?_
  rotate_left 1
  · intro u s1; have k0 : u.cell? ⟨w.heap.size, 0, none⟩ = some (.string g.key) := (by rw [Go.Joins.cell_of_block s1]; rfl); have k1 : u.cell? ⟨w.heap.size, 1, none⟩ = some (.int .i64 g.time) := (by rw [Go.Joins.cell_of_block s1]; rfl); go_simp; try with_reducible rfl
  try simp only [Act.put, List.setIfInBounds_toArray, List.set_cons_zero, List.set_cons_succ]
  refine wpAnyH_take (i := 4) (oi := { dst := some 9, op := _, type := _, pos := _, after := _, guard := _ }) (v := ?_) rfl (by kernel_rfl) (by kernel_rfl) (by kernel_rfl) (fun _ _ _ h => h) (Or.inl ⟨by rfl, ?_⟩) (by assumption) ?_
  rotate_left 1
  · intro u s1; have k0 : u.cell? ⟨w.heap.size, 0, none⟩ = some (.string g.key) := (by rw [Go.Joins.cell_of_block s1]; rfl); have k1 : u.cell? ⟨w.heap.size, 1, none⟩ = some (.int .i64 g.time) := (by rw [Go.Joins.cell_of_block s1]; rfl); go_simp; try with_reducible rfl
  try simp only [Act.put, List.setIfInBounds_toArray, List.set_cons_zero, List.set_cons_succ]
  refine wpAnyH_take (i := 5) (oi := { dst := some 10, op := _, type := _, pos := _, after := _, guard := _ }) (v := ?_) rfl (by kernel_rfl) (by kernel_rfl) (by kernel_rfl) (fun _ _ _ h => h) (Or.inl ⟨by rfl, ?_⟩) (by assumption) ?_
  rotate_left 1
  · intro u s1; have k0 : u.cell? ⟨w.heap.size, 0, none⟩ = some (.string g.key) := (by rw [Go.Joins.cell_of_block s1]; rfl); have k1 : u.cell? ⟨w.heap.size, 1, none⟩ = some (.int .i64 g.time) := (by rw [Go.Joins.cell_of_block s1]; rfl); go_simp; try with_reducible rfl
  try simp only [Act.put, List.setIfInBounds_toArray, List.set_cons_zero, List.set_cons_succ]
  refine wpAnyH_ready (rs := [3]) (by kernel_rfl) (by simp) ?_
  refine AllReadyH.cons (o := { dst := some 8, op := _, type := _, pos := _, after := _, guard := _ }) rfl (fun K hK => ?_) ?_
  · go_simp
    refine (putText2_any g.key ho0 (by have := q0.g.size; omega) (by omega) (by omega)).mono ?_
    rintro e w1 ⟨v1, rfl, ho1, p1⟩
    go_wp2_with fail
    have hk1 := p1.block (k := w.heap.size) hy0 hne0
    have hne1 := hk1.2
    have q1 := q0.trans p1
    have hy1 : w.heap.size < w1.heap.size := Nat.lt_of_lt_of_le hy0 p1.g.size
    refine hK.out _ _ (hk1.1.trans hHeld) (fun hHeld => ?_)
    clear hK K
    try simp only [Act.put, List.setIfInBounds_toArray, List.set_cons_zero, List.set_cons_succ]
    refine wpAnyH_ready (rs := [6]) (by kernel_rfl) (by simp) ?_
    refine AllReadyH.cons (o := { dst := some 11, op := _, type := _, pos := _, after := _, guard := _ }) rfl (fun K hK => ?_) ?_
    · go_simp
      refine (putTime_any g.time ho1 (by have := q1.g.size; omega) ht0 ht1 (by simp; omega)).mono ?_
      rintro e w2 ⟨v2, rfl, ho2, p2⟩
      go_wp2_with fail
      have hk2 := p2.block (k := w.heap.size) hy1 hne1
      have hne2 := hk2.2
      have q2 := q1.trans p2
      have hy2 : w.heap.size < w2.heap.size := Nat.lt_of_lt_of_le hy1 p2.g.size
      refine hK.out _ _ (hk2.1.trans hHeld) (fun hHeld => ?_)
      clear hK K
      try simp only [Act.put, List.setIfInBounds_toArray, List.set_cons_zero, List.set_cons_succ]
      refine wpAnyH_take (i := 7) (oi := { dst := some 4, op := _, type := _, pos := _, after := _, guard := _ }) (v := ?_) rfl (by kernel_rfl) (by kernel_rfl) (by kernel_rfl) (fun _ _ _ h => h) (Or.inl ⟨by rfl, ?_⟩) (by assumption) ?_
      rotate_left 1
      · intro u s1; have k0 : u.cell? ⟨w.heap.size, 0, none⟩ = some (.string g.key) := (by rw [Go.Joins.cell_of_block s1]; rfl); have k1 : u.cell? ⟨w.heap.size, 1, none⟩ = some (.int .i64 g.time) := (by rw [Go.Joins.cell_of_block s1]; rfl); go_simp; try with_reducible rfl
      try simp only [Act.put, List.setIfInBounds_toArray, List.set_cons_zero, List.set_cons_succ]
      refine wpAnyH_done (by kernel_rfl) ?_ _
      refine NoPanic.normal ?_
      go_wp2
      go_ret
      exact ⟨_, rfl, by rw [← List.append_assoc]; exact ho2, q2⟩
    exact AllReadyH.nil
  exact AllReadyH.nil

theorem putRow_any (r : Rw) (h : Own w base v xs) (hbase : base ≤ w.heap.size) (hr : rightR r = true) (hl : xs.length ≤ 900000) :
    Calls Try.prog 68 #[v, r.v] w fun e w' => ∃ v', e = .returned v' ∧ Own w' base v' (xs ++ (tx r.key ++ (tx r.val ++ enc r.time))) ∧ Pt w w' v v' := by
  obtain ⟨i0, hi, hz0, hz1, hz2⟩ := info_parts Try.info5
  have hk : r.key.size ≤ 16 ∧ r.val.size ≤ 64 ∧ 0 ≤ r.time ∧ r.time ≤ 1099511627775 := by
    simp only [rightR, isK, isV, isT, Bool.and_eq_true, decide_eq_true_eq] at hr
    omega
  obtain ⟨hk1, hk2, ht0, ht1⟩ := hk
  have htl := tx_len r.key
  have htl2 := tx_len r.val
  unfold Rw.v
  have hblk : (w.alloc (.cells #[.string r.key, .string r.val, .int .i64 r.time] 36)).drew.heap[w.heap.size]? = some (.cells #[.string r.key, .string r.val, .int .i64 r.time] 36 (0, 0)) := heap_alloc_new w _
  have hy0' : w.heap.size < (w.alloc (.cells #[.string r.key, .string r.val, .int .i64 r.time] 36)).drew.heap.size := by simp [World.drew]
  have ho0' : Own (w.alloc (.cells #[.string r.key, .string r.val, .int .i64 r.time] 36)).drew base v xs := h.alloc _
  have q0' : Pt w (w.alloc (.cells #[.string r.key, .string r.val, .int .i64 r.time] 36)).drew v v := (Pt.alloc w v _).drew
  have hne0' : some w.heap.size ≠ v.ownBlock := h.ne
  clear h
  go_enter Try.func68, Try.ntmps68
  go_wp2
  refine wp_region_noPanic ?_
  refine wp_region_held_drew (S := fun u => u.heap[w.heap.size]? = some (.cells #[.string r.key, .string r.val, .int .i64 r.time] 36 (0, 0))) (by kernel_rfl) (hblk) (fun hHeld => ?_)
  generalize (w.alloc (.cells #[.string r.key, .string r.val, .int .i64 r.time] 36)).drew = w0 at hblk hy0' ho0' q0' hHeld ⊢
  have hy0 := hy0'
  have ho0 := ho0'
  have q0 := q0'
  have hne0 := hne0'
  obtain ⟨v0, rfl⟩ : ∃ x, x = v := ⟨_, rfl⟩
  clear hy0' ho0' q0' hne0' hblk
  refine wpAnyH_take (i := 0) (oi := { dst := some 5, op := _, type := _, pos := _, after := _, guard := _ }) (v := ?_) rfl (by kernel_rfl) (by kernel_rfl) (by kernel_rfl) (fun _ _ _ h => h) (Or.inl ⟨by rfl, ?_⟩) (by assumption) ?_
  rotate_left 1
  · intro u s1; have k0 : u.cell? ⟨w.heap.size, 0, none⟩ = some (.string r.key) := (by rw [Go.Joins.cell_of_block s1]; rfl); have k1 : u.cell? ⟨w.heap.size, 1, none⟩ = some (.string r.val) := (by rw [Go.Joins.cell_of_block s1]; rfl); have k2 : u.cell? ⟨w.heap.size, 2, none⟩ = some (.int .i64 r.time) := (by rw [Go.Joins.cell_of_block s1]; rfl); go_simp; try with_reducible rfl
  try simp only [Act.put, List.setIfInBounds_toArray, List.set_cons_zero, List.set_cons_succ]
  refine wpAnyH_take (i := 1) (oi := { dst := some 6, op := _, type := _, pos := _, after := _, guard := _ }) (v := ?_) rfl (by kernel_rfl) (by kernel_rfl) (by kernel_rfl) (fun _ _ _ h => h) (Or.inl ⟨by rfl, ?_⟩) (by assumption) ?_
  rotate_left 1
  · intro u s1; have k0 : u.cell? ⟨w.heap.size, 0, none⟩ = some (.string r.key) := (by rw [Go.Joins.cell_of_block s1]; rfl); have k1 : u.cell? ⟨w.heap.size, 1, none⟩ = some (.string r.val) := (by rw [Go.Joins.cell_of_block s1]; rfl); have k2 : u.cell? ⟨w.heap.size, 2, none⟩ = some (.int .i64 r.time) := (by rw [Go.Joins.cell_of_block s1]; rfl); go_simp; try with_reducible rfl
  try simp only [Act.put, List.setIfInBounds_toArray, List.set_cons_zero, List.set_cons_succ]
  refine wpAnyH_take (i := 2) (oi := { dst := some 7, op := _, type := _, pos := _, after := _, guard := _ }) (v := ?_) rfl (by kernel_rfl) (by kernel_rfl) (by kernel_rfl) (fun _ _ _ h => h) (Or.inl ⟨by rfl, ?_⟩) (by assumption) ?_
  rotate_left 1
  · intro u s1; have k0 : u.cell? ⟨w.heap.size, 0, none⟩ = some (.string r.key) := (by rw [Go.Joins.cell_of_block s1]; rfl); have k1 : u.cell? ⟨w.heap.size, 1, none⟩ = some (.string r.val) := (by rw [Go.Joins.cell_of_block s1]; rfl); have k2 : u.cell? ⟨w.heap.size, 2, none⟩ = some (.int .i64 r.time) := (by rw [Go.Joins.cell_of_block s1]; rfl); go_simp; try with_reducible rfl
  try simp only [Act.put, List.setIfInBounds_toArray, List.set_cons_zero, List.set_cons_succ]
  refine wpAnyH_take (i := 4) (oi := { dst := some 9, op := _, type := _, pos := _, after := _, guard := _ }) (v := ?_) rfl (by kernel_rfl) (by kernel_rfl) (by kernel_rfl) (fun _ _ _ h => h) (Or.inl ⟨by rfl, ?_⟩) (by assumption) ?_
  rotate_left 1
  · intro u s1; have k0 : u.cell? ⟨w.heap.size, 0, none⟩ = some (.string r.key) := (by rw [Go.Joins.cell_of_block s1]; rfl); have k1 : u.cell? ⟨w.heap.size, 1, none⟩ = some (.string r.val) := (by rw [Go.Joins.cell_of_block s1]; rfl); have k2 : u.cell? ⟨w.heap.size, 2, none⟩ = some (.int .i64 r.time) := (by rw [Go.Joins.cell_of_block s1]; rfl); go_simp; try with_reducible rfl
  try simp only [Act.put, List.setIfInBounds_toArray, List.set_cons_zero, List.set_cons_succ]
  refine wpAnyH_take (i := 5) (oi := { dst := some 10, op := _, type := _, pos := _, after := _, guard := _ }) (v := ?_) rfl (by kernel_rfl) (by kernel_rfl) (by kernel_rfl) (fun _ _ _ h => h) (Or.inl ⟨by rfl, ?_⟩) (by assumption) ?_
  rotate_left 1
  · intro u s1; have k0 : u.cell? ⟨w.heap.size, 0, none⟩ = some (.string r.key) := (by rw [Go.Joins.cell_of_block s1]; rfl); have k1 : u.cell? ⟨w.heap.size, 1, none⟩ = some (.string r.val) := (by rw [Go.Joins.cell_of_block s1]; rfl); have k2 : u.cell? ⟨w.heap.size, 2, none⟩ = some (.int .i64 r.time) := (by rw [Go.Joins.cell_of_block s1]; rfl); go_simp; try with_reducible rfl
  try simp only [Act.put, List.setIfInBounds_toArray, List.set_cons_zero, List.set_cons_succ]
  refine wpAnyH_take (i := 7) (oi := { dst := some 12, op := _, type := _, pos := _, after := _, guard := _ }) (v := ?_) rfl (by kernel_rfl) (by kernel_rfl) (by kernel_rfl) (fun _ _ _ h => h) (Or.inl ⟨by rfl, ?_⟩) (by assumption) ?_
  rotate_left 1
  · intro u s1; have k0 : u.cell? ⟨w.heap.size, 0, none⟩ = some (.string r.key) := (by rw [Go.Joins.cell_of_block s1]; rfl); have k1 : u.cell? ⟨w.heap.size, 1, none⟩ = some (.string r.val) := (by rw [Go.Joins.cell_of_block s1]; rfl); have k2 : u.cell? ⟨w.heap.size, 2, none⟩ = some (.int .i64 r.time) := (by rw [Go.Joins.cell_of_block s1]; rfl); go_simp; try with_reducible rfl
  try simp only [Act.put, List.setIfInBounds_toArray, List.set_cons_zero, List.set_cons_succ]
  refine wpAnyH_take (i := 8) (oi := { dst := some 13, op := _, type := _, pos := _, after := _, guard := _ }) (v := ?_) rfl (by kernel_rfl) (by kernel_rfl) (by kernel_rfl) (fun _ _ _ h => h) (Or.inl ⟨by rfl, ?_⟩) (by assumption) ?_
  rotate_left 1
  · intro u s1; have k0 : u.cell? ⟨w.heap.size, 0, none⟩ = some (.string r.key) := (by rw [Go.Joins.cell_of_block s1]; rfl); have k1 : u.cell? ⟨w.heap.size, 1, none⟩ = some (.string r.val) := (by rw [Go.Joins.cell_of_block s1]; rfl); have k2 : u.cell? ⟨w.heap.size, 2, none⟩ = some (.int .i64 r.time) := (by rw [Go.Joins.cell_of_block s1]; rfl); go_simp; try with_reducible rfl
  try simp only [Act.put, List.setIfInBounds_toArray, List.set_cons_zero, List.set_cons_succ]
  refine wpAnyH_ready (rs := [3]) (by kernel_rfl) (by simp) ?_
  refine AllReadyH.cons (o := { dst := some 8, op := _, type := _, pos := _, after := _, guard := _ }) rfl (fun K hK => ?_) ?_
  · go_simp
    refine (putText2_any r.key ho0 (by have := q0.g.size; omega) (by omega) (by omega)).mono ?_
    rintro e w1 ⟨v1, rfl, ho1, p1⟩
    go_wp2_with fail
    have hk1 := p1.block (k := w.heap.size) hy0 hne0
    have hne1 := hk1.2
    have q1 := q0.trans p1
    have hy1 : w.heap.size < w1.heap.size := Nat.lt_of_lt_of_le hy0 p1.g.size
    refine hK.out _ _ (hk1.1.trans hHeld) (fun hHeld => ?_)
    clear hK K
    try simp only [Act.put, List.setIfInBounds_toArray, List.set_cons_zero, List.set_cons_succ]
    refine wpAnyH_ready (rs := [6]) (by kernel_rfl) (by simp) ?_
    refine AllReadyH.cons (o := { dst := some 11, op := _, type := _, pos := _, after := _, guard := _ }) rfl (fun K hK => ?_) ?_
    · go_simp
      refine (putText2_any r.val ho1 (by have := q1.g.size; omega) (by omega) (by simp; omega)).mono ?_
      rintro e w2 ⟨v2, rfl, ho2, p2⟩
      go_wp2_with fail
      have hk2 := p2.block (k := w.heap.size) hy1 hne1
      have hne2 := hk2.2
      have q2 := q1.trans p2
      have hy2 : w.heap.size < w2.heap.size := Nat.lt_of_lt_of_le hy1 p2.g.size
      refine hK.out _ _ (hk2.1.trans hHeld) (fun hHeld => ?_)
      clear hK K
      try simp only [Act.put, List.setIfInBounds_toArray, List.set_cons_zero, List.set_cons_succ]
      refine wpAnyH_ready (rs := [9]) (by kernel_rfl) (by simp) ?_
      refine AllReadyH.cons (o := { dst := some 14, op := _, type := _, pos := _, after := _, guard := _ }) rfl (fun K hK => ?_) ?_
      · go_simp
        refine (putTime_any r.time ho2 (by have := q2.g.size; omega) ht0 ht1 (by simp; omega)).mono ?_
        rintro e w3 ⟨v3, rfl, ho3, p3⟩
        go_wp2_with fail
        have hk3 := p3.block (k := w.heap.size) hy2 hne2
        have hne3 := hk3.2
        have q3 := q2.trans p3
        have hy3 : w.heap.size < w3.heap.size := Nat.lt_of_lt_of_le hy2 p3.g.size
        refine hK.out _ _ (hk3.1.trans hHeld) (fun hHeld => ?_)
        clear hK K
        try simp only [Act.put, List.setIfInBounds_toArray, List.set_cons_zero, List.set_cons_succ]
        refine wpAnyH_take (i := 10) (oi := { dst := some 4, op := _, type := _, pos := _, after := _, guard := _ }) (v := ?_) rfl (by kernel_rfl) (by kernel_rfl) (by kernel_rfl) (fun _ _ _ h => h) (Or.inl ⟨by rfl, ?_⟩) (by assumption) ?_
        rotate_left 1
        · intro u s1; have k0 : u.cell? ⟨w.heap.size, 0, none⟩ = some (.string r.key) := (by rw [Go.Joins.cell_of_block s1]; rfl); have k1 : u.cell? ⟨w.heap.size, 1, none⟩ = some (.string r.val) := (by rw [Go.Joins.cell_of_block s1]; rfl); have k2 : u.cell? ⟨w.heap.size, 2, none⟩ = some (.int .i64 r.time) := (by rw [Go.Joins.cell_of_block s1]; rfl); go_simp; try with_reducible rfl
        try simp only [Act.put, List.setIfInBounds_toArray, List.set_cons_zero, List.set_cons_succ]
        refine wpAnyH_done (by kernel_rfl) ?_ _
        refine NoPanic.normal ?_
        go_wp2
        go_ret
        exact ⟨_, rfl, by simpa [List.append_assoc] using ho3, q3⟩
      exact AllReadyH.nil
    exact AllReadyH.nil
  exact AllReadyH.nil

theorem putPair_any (q : Pr) (h : Own w base v xs) (hbase : base ≤ w.heap.size) (hr : okP q) (hl : xs.length ≤ 900000) :
    Calls Try.prog 97 #[v, q.v] w fun e w' => ∃ v', e = .returned v' ∧ Own w' base v' (xs ++ pb q) ∧ Pt w w' v v' := by
  obtain ⟨i0, hi, hz0, hz1, hz2⟩ := info_parts Try.info5
  obtain ⟨⟨hp0, hp1⟩, ⟨hp2, hp3⟩, ⟨hp4, hp5⟩⟩ := hr
  have htl := enc_len q.num
  have htl2 := enc_len q.frm
  have hwn : IntKind.u64.wrap q.num = q.num := IntWalk.u64_in _ (by omega)
  unfold Pr.v pb
  have hblk : (w.alloc (.cells #[.int .i64 q.num, .int .i64 q.frm, .int .i64 q.til] 53)).drew.heap[w.heap.size]? = some (.cells #[.int .i64 q.num, .int .i64 q.frm, .int .i64 q.til] 53 (0, 0)) := heap_alloc_new w _
  have hy0' : w.heap.size < (w.alloc (.cells #[.int .i64 q.num, .int .i64 q.frm, .int .i64 q.til] 53)).drew.heap.size := by simp [World.drew]
  have ho0' : Own (w.alloc (.cells #[.int .i64 q.num, .int .i64 q.frm, .int .i64 q.til] 53)).drew base v xs := h.alloc _
  have q0' : Pt w (w.alloc (.cells #[.int .i64 q.num, .int .i64 q.frm, .int .i64 q.til] 53)).drew v v := (Pt.alloc w v _).drew
  have hne0' : some w.heap.size ≠ v.ownBlock := h.ne
  clear h
  go_enter Try.func97, Try.ntmps97
  go_wp2
  refine wp_region_noPanic ?_
  refine wp_region_held_drew (S := fun u => u.heap[w.heap.size]? = some (.cells #[.int .i64 q.num, .int .i64 q.frm, .int .i64 q.til] 53 (0, 0))) (by kernel_rfl) (hblk) (fun hHeld => ?_)
  generalize (w.alloc (.cells #[.int .i64 q.num, .int .i64 q.frm, .int .i64 q.til] 53)).drew = w0 at hblk hy0' ho0' q0' hHeld ⊢
  have hy0 := hy0'
  have ho0 := ho0'
  have q0 := q0'
  have hne0 := hne0'
  obtain ⟨v0, rfl⟩ : ∃ x, x = v := ⟨_, rfl⟩
  clear hy0' ho0' q0' hne0' hblk
  refine wpAnyH_take (i := 0) (oi := { dst := some 5, op := _, type := _, pos := _, after := _, guard := _ }) (v := ?_) rfl (by kernel_rfl) (by kernel_rfl) (by kernel_rfl) (fun _ _ _ h => h) (Or.inl ⟨by rfl, ?_⟩) (by assumption) ?_
  rotate_left 1
  · intro u s1; have k0 : u.cell? ⟨w.heap.size, 0, none⟩ = some (.int .i64 q.num) := (by rw [Go.Joins.cell_of_block s1]; rfl); have k1 : u.cell? ⟨w.heap.size, 1, none⟩ = some (.int .i64 q.frm) := (by rw [Go.Joins.cell_of_block s1]; rfl); have k2 : u.cell? ⟨w.heap.size, 2, none⟩ = some (.int .i64 q.til) := (by rw [Go.Joins.cell_of_block s1]; rfl); go_simp; try with_reducible rfl
  try simp only [Act.put, List.setIfInBounds_toArray, List.set_cons_zero, List.set_cons_succ]
  refine wpAnyH_take (i := 1) (oi := { dst := some 6, op := _, type := _, pos := _, after := _, guard := _ }) (v := ?_) rfl (by kernel_rfl) (by kernel_rfl) (by kernel_rfl) (fun _ _ _ h => h) (Or.inl ⟨by rfl, ?_⟩) (by assumption) ?_
  rotate_left 1
  · intro u s1; have k0 : u.cell? ⟨w.heap.size, 0, none⟩ = some (.int .i64 q.num) := (by rw [Go.Joins.cell_of_block s1]; rfl); have k1 : u.cell? ⟨w.heap.size, 1, none⟩ = some (.int .i64 q.frm) := (by rw [Go.Joins.cell_of_block s1]; rfl); have k2 : u.cell? ⟨w.heap.size, 2, none⟩ = some (.int .i64 q.til) := (by rw [Go.Joins.cell_of_block s1]; rfl); go_simp; try with_reducible rfl
  try simp only [Act.put, List.setIfInBounds_toArray, List.set_cons_zero, List.set_cons_succ]
  refine wpAnyH_take (i := 2) (oi := { dst := some 7, op := _, type := _, pos := _, after := _, guard := _ }) (v := ?_) rfl (by kernel_rfl) (by kernel_rfl) (by kernel_rfl) (fun _ _ _ h => h) (Or.inl ⟨by rfl, ?_⟩) (by assumption) ?_
  rotate_left 1
  · intro u s1; have k0 : u.cell? ⟨w.heap.size, 0, none⟩ = some (.int .i64 q.num) := (by rw [Go.Joins.cell_of_block s1]; rfl); have k1 : u.cell? ⟨w.heap.size, 1, none⟩ = some (.int .i64 q.frm) := (by rw [Go.Joins.cell_of_block s1]; rfl); have k2 : u.cell? ⟨w.heap.size, 2, none⟩ = some (.int .i64 q.til) := (by rw [Go.Joins.cell_of_block s1]; rfl); go_simp; try with_reducible rfl
  try simp only [Act.put, List.setIfInBounds_toArray, List.set_cons_zero, List.set_cons_succ]
  refine wpAnyH_take (i := 3) (oi := { dst := some 8, op := _, type := _, pos := _, after := _, guard := _ }) (v := ?_) rfl (by kernel_rfl) (by kernel_rfl) (by kernel_rfl) (fun _ _ _ h => h) (Or.inl ⟨by rfl, ?_⟩) (by assumption) ?_
  rotate_left 1
  · intro u s1; have k0 : u.cell? ⟨w.heap.size, 0, none⟩ = some (.int .i64 q.num) := (by rw [Go.Joins.cell_of_block s1]; rfl); have k1 : u.cell? ⟨w.heap.size, 1, none⟩ = some (.int .i64 q.frm) := (by rw [Go.Joins.cell_of_block s1]; rfl); have k2 : u.cell? ⟨w.heap.size, 2, none⟩ = some (.int .i64 q.til) := (by rw [Go.Joins.cell_of_block s1]; rfl); go_simp; try with_reducible rfl
  try simp only [Act.put, List.setIfInBounds_toArray, List.set_cons_zero, List.set_cons_succ]
  refine wpAnyH_take (i := 5) (oi := { dst := some 10, op := _, type := _, pos := _, after := _, guard := _ }) (v := ?_) rfl (by kernel_rfl) (by kernel_rfl) (by kernel_rfl) (fun _ _ _ h => h) (Or.inl ⟨by rfl, ?_⟩) (by assumption) ?_
  rotate_left 1
  · intro u s1; have k0 : u.cell? ⟨w.heap.size, 0, none⟩ = some (.int .i64 q.num) := (by rw [Go.Joins.cell_of_block s1]; rfl); have k1 : u.cell? ⟨w.heap.size, 1, none⟩ = some (.int .i64 q.frm) := (by rw [Go.Joins.cell_of_block s1]; rfl); have k2 : u.cell? ⟨w.heap.size, 2, none⟩ = some (.int .i64 q.til) := (by rw [Go.Joins.cell_of_block s1]; rfl); go_simp; try with_reducible rfl
  try simp only [Act.put, List.setIfInBounds_toArray, List.set_cons_zero, List.set_cons_succ]
  refine wpAnyH_take (i := 6) (oi := { dst := some 11, op := _, type := _, pos := _, after := _, guard := _ }) (v := ?_) rfl (by kernel_rfl) (by kernel_rfl) (by kernel_rfl) (fun _ _ _ h => h) (Or.inl ⟨by rfl, ?_⟩) (by assumption) ?_
  rotate_left 1
  · intro u s1; have k0 : u.cell? ⟨w.heap.size, 0, none⟩ = some (.int .i64 q.num) := (by rw [Go.Joins.cell_of_block s1]; rfl); have k1 : u.cell? ⟨w.heap.size, 1, none⟩ = some (.int .i64 q.frm) := (by rw [Go.Joins.cell_of_block s1]; rfl); have k2 : u.cell? ⟨w.heap.size, 2, none⟩ = some (.int .i64 q.til) := (by rw [Go.Joins.cell_of_block s1]; rfl); go_simp; try with_reducible rfl
  try simp only [Act.put, List.setIfInBounds_toArray, List.set_cons_zero, List.set_cons_succ]
  refine wpAnyH_take (i := 8) (oi := { dst := some 13, op := _, type := _, pos := _, after := _, guard := _ }) (v := ?_) rfl (by kernel_rfl) (by kernel_rfl) (by kernel_rfl) (fun _ _ _ h => h) (Or.inl ⟨by rfl, ?_⟩) (by assumption) ?_
  rotate_left 1
  · intro u s1; have k0 : u.cell? ⟨w.heap.size, 0, none⟩ = some (.int .i64 q.num) := (by rw [Go.Joins.cell_of_block s1]; rfl); have k1 : u.cell? ⟨w.heap.size, 1, none⟩ = some (.int .i64 q.frm) := (by rw [Go.Joins.cell_of_block s1]; rfl); have k2 : u.cell? ⟨w.heap.size, 2, none⟩ = some (.int .i64 q.til) := (by rw [Go.Joins.cell_of_block s1]; rfl); go_simp; try with_reducible rfl
  try simp only [Act.put, List.setIfInBounds_toArray, List.set_cons_zero, List.set_cons_succ]
  refine wpAnyH_take (i := 9) (oi := { dst := some 14, op := _, type := _, pos := _, after := _, guard := _ }) (v := ?_) rfl (by kernel_rfl) (by kernel_rfl) (by kernel_rfl) (fun _ _ _ h => h) (Or.inl ⟨by rfl, ?_⟩) (by assumption) ?_
  rotate_left 1
  · intro u s1; have k0 : u.cell? ⟨w.heap.size, 0, none⟩ = some (.int .i64 q.num) := (by rw [Go.Joins.cell_of_block s1]; rfl); have k1 : u.cell? ⟨w.heap.size, 1, none⟩ = some (.int .i64 q.frm) := (by rw [Go.Joins.cell_of_block s1]; rfl); have k2 : u.cell? ⟨w.heap.size, 2, none⟩ = some (.int .i64 q.til) := (by rw [Go.Joins.cell_of_block s1]; rfl); go_simp; try with_reducible rfl
  try simp only [Act.put, List.setIfInBounds_toArray, List.set_cons_zero, List.set_cons_succ]
  refine wpAnyH_ready (rs := [4]) (by kernel_rfl) (by simp) ?_
  refine AllReadyH.cons (o := { dst := some 9, op := _, type := _, pos := _, after := _, guard := _ }) rfl (fun K hK => ?_) ?_
  · go_simp
    refine (putNumber_any q.num ho0 (by have := q0.g.size; omega) hp0 (by omega) (by omega)).mono ?_
    rintro e w1 ⟨v1, rfl, ho1, p1⟩
    go_wp2_with fail
    have hk1 := p1.block (k := w.heap.size) hy0 hne0
    have hne1 := hk1.2
    have q1 := q0.trans p1
    have hy1 : w.heap.size < w1.heap.size := Nat.lt_of_lt_of_le hy0 p1.g.size
    refine hK.out _ _ (hk1.1.trans hHeld) (fun hHeld => ?_)
    clear hK K
    try simp only [Act.put, List.setIfInBounds_toArray, List.set_cons_zero, List.set_cons_succ]
    refine wpAnyH_ready (rs := [7]) (by kernel_rfl) (by simp) ?_
    refine AllReadyH.cons (o := { dst := some 12, op := _, type := _, pos := _, after := _, guard := _ }) rfl (fun K hK => ?_) ?_
    · go_simp
      refine (putTime_any q.frm ho1 (by have := q1.g.size; omega) hp2 hp3 (by simp; omega)).mono ?_
      rintro e w2 ⟨v2, rfl, ho2, p2⟩
      go_wp2_with fail
      have hk2 := p2.block (k := w.heap.size) hy1 hne1
      have hne2 := hk2.2
      have q2 := q1.trans p2
      have hy2 : w.heap.size < w2.heap.size := Nat.lt_of_lt_of_le hy1 p2.g.size
      refine hK.out _ _ (hk2.1.trans hHeld) (fun hHeld => ?_)
      clear hK K
      try simp only [Act.put, List.setIfInBounds_toArray, List.set_cons_zero, List.set_cons_succ]
      refine wpAnyH_ready (rs := [10]) (by kernel_rfl) (by simp) ?_
      refine AllReadyH.cons (o := { dst := some 15, op := _, type := _, pos := _, after := _, guard := _ }) rfl (fun K hK => ?_) ?_
      · go_simp
        refine (putTime_any q.til ho2 (by have := q2.g.size; omega) hp4 hp5 (by simp; omega)).mono ?_
        rintro e w3 ⟨v3, rfl, ho3, p3⟩
        go_wp2_with fail
        have hk3 := p3.block (k := w.heap.size) hy2 hne2
        have hne3 := hk3.2
        have q3 := q2.trans p3
        have hy3 : w.heap.size < w3.heap.size := Nat.lt_of_lt_of_le hy2 p3.g.size
        refine hK.out _ _ (hk3.1.trans hHeld) (fun hHeld => ?_)
        clear hK K
        try simp only [Act.put, List.setIfInBounds_toArray, List.set_cons_zero, List.set_cons_succ]
        refine wpAnyH_take (i := 11) (oi := { dst := some 4, op := _, type := _, pos := _, after := _, guard := _ }) (v := ?_) rfl (by kernel_rfl) (by kernel_rfl) (by kernel_rfl) (fun _ _ _ h => h) (Or.inl ⟨by rfl, ?_⟩) (by assumption) ?_
        rotate_left 1
        · intro u s1; have k0 : u.cell? ⟨w.heap.size, 0, none⟩ = some (.int .i64 q.num) := (by rw [Go.Joins.cell_of_block s1]; rfl); have k1 : u.cell? ⟨w.heap.size, 1, none⟩ = some (.int .i64 q.frm) := (by rw [Go.Joins.cell_of_block s1]; rfl); have k2 : u.cell? ⟨w.heap.size, 2, none⟩ = some (.int .i64 q.til) := (by rw [Go.Joins.cell_of_block s1]; rfl); go_simp; try with_reducible rfl
        try simp only [Act.put, List.setIfInBounds_toArray, List.set_cons_zero, List.set_cons_succ]
        refine wpAnyH_done (by kernel_rfl) ?_ _
        refine NoPanic.normal ?_
        go_wp2
        go_ret
        exact ⟨_, rfl, by simpa [List.append_assoc] using ho3, q3⟩
      exact AllReadyH.nil
    exact AllReadyH.nil
  exact AllReadyH.nil

theorem putWriteG_any (x : Wr) (h : Own w base v xs) (hbase : base ≤ w.heap.size) (hr : okW x = true) (hg : x.gone = true) (hl : xs.length ≤ 900000) :
    Calls Try.prog 88 #[v, x.v] w fun e w' => ∃ v', e = .returned v' ∧ Own w' base v' (xs ++ wb x) ∧ Pt w w' v v' := by
  obtain ⟨i0, hi, hz0, hz1, hz2⟩ := info_parts Try.info5
  obtain ⟨kk, vv, gg⟩ := x
  obtain rfl : gg = true := hg
  have hk : kk.size ≤ 16 ∧ vv.size ≤ 64 := by
    simp only [okW, isK, isV, Bool.and_eq_true, decide_eq_true_eq] at hr
    omega
  obtain ⟨hk1, hk2⟩ := hk
  have htl := tx_len kk
  have htl2 := tx_len vv
  unfold Wr.v wb
  have hblk : (w.alloc (.cells #[.string kk, .string vv, .bool true] 28)).drew.heap[w.heap.size]? = some (.cells #[.string kk, .string vv, .bool true] 28 (0, 0)) := heap_alloc_new w _
  have hy0' : w.heap.size < (w.alloc (.cells #[.string kk, .string vv, .bool true] 28)).drew.heap.size := by simp [World.drew]
  have ho0' : Own (w.alloc (.cells #[.string kk, .string vv, .bool true] 28)).drew base v xs := h.alloc _
  have q0' : Pt w (w.alloc (.cells #[.string kk, .string vv, .bool true] 28)).drew v v := (Pt.alloc w v _).drew
  have hne0' : some w.heap.size ≠ v.ownBlock := h.ne
  clear h
  go_enter Try.func88, Try.ntmps88
  go_wp2
  refine wp_region_noPanic ?_
  refine wp_region_held_drew (S := fun u => u.heap[w.heap.size]? = some (.cells #[.string kk, .string vv, .bool true] 28 (0, 0))) (by kernel_rfl) (hblk) (fun hHeld => ?_)
  generalize (w.alloc (.cells #[.string kk, .string vv, .bool true] 28)).drew = w0 at hblk hy0' ho0' q0' hHeld ⊢
  have hy0 := hy0'
  have ho0 := ho0'
  have q0 := q0'
  have hne0 := hne0'
  obtain ⟨v0, rfl⟩ : ∃ x, x = v := ⟨_, rfl⟩
  clear hy0' ho0' q0' hne0' hblk
  refine wpAnyH_take (i := 0) (oi := { dst := some 7, op := _, type := _, pos := _, after := _, guard := _ }) (v := ?_) rfl (by kernel_rfl) (by kernel_rfl) (by kernel_rfl) (fun _ _ _ h => h) (Or.inl ⟨by rfl, ?_⟩) (by assumption) ?_
  rotate_left 1
  · intro u s1; have k0 : u.cell? ⟨w.heap.size, 0, none⟩ = some (.string kk) := (by rw [Go.Joins.cell_of_block s1]; rfl); have k1 : u.cell? ⟨w.heap.size, 1, none⟩ = some (.string vv) := (by rw [Go.Joins.cell_of_block s1]; rfl); have k2 : u.cell? ⟨w.heap.size, 2, none⟩ = some (.bool true) := (by rw [Go.Joins.cell_of_block s1]; rfl); go_simp; try with_reducible rfl
  try simp only [Act.put, List.setIfInBounds_toArray, List.set_cons_zero, List.set_cons_succ]
  refine wpAnyH_take (i := 3) (oi := { dst := some 10, op := _, type := _, pos := _, after := _, guard := _ }) (v := ?_) rfl (by kernel_rfl) (by kernel_rfl) (by kernel_rfl) (fun _ _ _ h => h) (Or.inl ⟨by rfl, ?_⟩) (by assumption) ?_
  rotate_left 1
  · intro u s1; have k0 : u.cell? ⟨w.heap.size, 0, none⟩ = some (.string kk) := (by rw [Go.Joins.cell_of_block s1]; rfl); have k1 : u.cell? ⟨w.heap.size, 1, none⟩ = some (.string vv) := (by rw [Go.Joins.cell_of_block s1]; rfl); have k2 : u.cell? ⟨w.heap.size, 2, none⟩ = some (.bool true) := (by rw [Go.Joins.cell_of_block s1]; rfl); go_simp; try with_reducible rfl
  try simp only [Act.put, List.setIfInBounds_toArray, List.set_cons_zero, List.set_cons_succ]
  refine wpAnyH_take (i := 4) (oi := { dst := some 11, op := _, type := _, pos := _, after := _, guard := _ }) (v := ?_) rfl (by kernel_rfl) (by kernel_rfl) (by kernel_rfl) (fun _ _ _ h => h) (Or.inl ⟨by rfl, ?_⟩) (by assumption) ?_
  rotate_left 1
  · intro u s1; have k0 : u.cell? ⟨w.heap.size, 0, none⟩ = some (.string kk) := (by rw [Go.Joins.cell_of_block s1]; rfl); have k1 : u.cell? ⟨w.heap.size, 1, none⟩ = some (.string vv) := (by rw [Go.Joins.cell_of_block s1]; rfl); have k2 : u.cell? ⟨w.heap.size, 2, none⟩ = some (.bool true) := (by rw [Go.Joins.cell_of_block s1]; rfl); go_simp; try with_reducible rfl
  try simp only [Act.put, List.setIfInBounds_toArray, List.set_cons_zero, List.set_cons_succ]
  refine wpAnyH_ready (rs := [1]) (by kernel_rfl) (by simp) ?_
  refine AllReadyH.cons (o := { dst := some 8, op := _, type := _, pos := _, after := _, guard := _ }) rfl (fun K hK => ?_) ?_
  · go_simp
    have ho0' : Own (w0.alloc (.cells #[.int .u8 1] 5)) base v0 _ := World.ownsRow.alloc ho0 _
    have cb := cell_byte w0 1
    have q0' : Pt w (w0.alloc (.cells #[.int .u8 1] 5)) v0 v0 := q0.trans (Pt.alloc w0 v0 _)
    have bz := hy0
    have hHeld' := (blk_alloc' w0 (.cells #[.int .u8 1] 5) w.heap.size bz).trans hHeld
    refine hK.out _ _ hHeld' (fun hHeld => ?_)
    clear hK K
    try simp only [Act.put, List.setIfInBounds_toArray, List.set_cons_zero, List.set_cons_succ]
    refine wpAnyH_ready (rs := [2]) (by kernel_rfl) (by simp) ?_
    refine AllReadyH.cons (o := { dst := some 9, op := _, type := _, pos := _, after := _, guard := _ }) rfl (fun K hK => ?_) ?_
    · refine step_append_byte (by rfl) _ _ _ (by rfl) base i0 Try.underlying29 hi hz0 hz1 hz2 v0 _ (by rfl) ho0' w0.heap.size 1 (by rfl) cb (by first | omega | (simp; omega)) (by have := q0'.g.size; omega) ?_
      intro v1 w1 ho1 p1
      have hk1 := p1.block (k := w.heap.size) (by simp; omega) hne0
      have hne1 := hk1.2
      have q1 := q0'.trans p1
      have hy1 : w.heap.size < w1.heap.size := Nat.lt_of_lt_of_le hy0 (Nat.le_trans (by simp) p1.g.size)
      refine hK.out _ _ (hk1.1.trans hHeld) (fun hHeld => ?_)
      clear hK K
      try simp only [Act.put, List.setIfInBounds_toArray, List.set_cons_zero, List.set_cons_succ]
      refine wpAnyH_ready (rs := [5]) (by kernel_rfl) (by simp) ?_
      refine AllReadyH.cons (o := { dst := some 12, op := _, type := _, pos := _, after := _, guard := _ }) rfl (fun K hK => ?_) ?_
      · go_simp
        refine (putText2_any kk ho1 (by have := q1.g.size; omega) (by omega) (by simp; omega)).mono ?_
        rintro e w2 ⟨v2, rfl, ho2, p2⟩
        go_wp2_with fail
        have hk2 := p2.block (k := w.heap.size) hy1 hne1
        have hne2 := hk2.2
        have q2 := q1.trans p2
        have hy2 : w.heap.size < w2.heap.size := Nat.lt_of_lt_of_le hy1 p2.g.size
        refine hK.out _ _ (hk2.1.trans hHeld) (fun hHeld => ?_)
        clear hK K
        try simp only [Act.put, List.setIfInBounds_toArray, List.set_cons_zero, List.set_cons_succ]
        refine wpAnyH_take (i := 6) (oi := { dst := some 4, op := _, type := _, pos := _, after := _, guard := _ }) (v := ?_) rfl (by kernel_rfl) (by kernel_rfl) (by kernel_rfl) (fun _ _ _ h => h) (Or.inl ⟨by rfl, ?_⟩) (by assumption) ?_
        rotate_left 1
        · intro u s1; have k0 : u.cell? ⟨w.heap.size, 0, none⟩ = some (.string kk) := (by rw [Go.Joins.cell_of_block s1]; rfl); have k1 : u.cell? ⟨w.heap.size, 1, none⟩ = some (.string vv) := (by rw [Go.Joins.cell_of_block s1]; rfl); have k2 : u.cell? ⟨w.heap.size, 2, none⟩ = some (.bool true) := (by rw [Go.Joins.cell_of_block s1]; rfl); go_simp; try with_reducible rfl
        try simp only [Act.put, List.setIfInBounds_toArray, List.set_cons_zero, List.set_cons_succ]
        refine wpAnyH_done (by kernel_rfl) ?_ _
        refine NoPanic.normal ?_
        go_wp2
        go_ret
        exact ⟨_, rfl, by simpa [List.append_assoc] using ho2, q2⟩
      exact AllReadyH.nil
    exact AllReadyH.nil
  exact AllReadyH.nil

theorem putWriteV_any (x : Wr) (h : Own w base v xs) (hbase : base ≤ w.heap.size) (hr : okW x = true) (hg : x.gone = false) (hl : xs.length ≤ 900000) :
    Calls Try.prog 88 #[v, x.v] w fun e w' => ∃ v', e = .returned v' ∧ Own w' base v' (xs ++ wb x) ∧ Pt w w' v v' := by
  obtain ⟨i0, hi, hz0, hz1, hz2⟩ := info_parts Try.info5
  obtain ⟨kk, vv, gg⟩ := x
  obtain rfl : gg = false := hg
  have hk : kk.size ≤ 16 ∧ vv.size ≤ 64 := by
    simp only [okW, isK, isV, Bool.and_eq_true, decide_eq_true_eq] at hr
    omega
  obtain ⟨hk1, hk2⟩ := hk
  have htl := tx_len kk
  have htl2 := tx_len vv
  unfold Wr.v wb
  have hblk : (w.alloc (.cells #[.string kk, .string vv, .bool false] 28)).drew.heap[w.heap.size]? = some (.cells #[.string kk, .string vv, .bool false] 28 (0, 0)) := heap_alloc_new w _
  have hy0' : w.heap.size < (w.alloc (.cells #[.string kk, .string vv, .bool false] 28)).drew.heap.size := by simp [World.drew]
  have ho0' : Own (w.alloc (.cells #[.string kk, .string vv, .bool false] 28)).drew base v xs := h.alloc _
  have q0' : Pt w (w.alloc (.cells #[.string kk, .string vv, .bool false] 28)).drew v v := (Pt.alloc w v _).drew
  have hne0' : some w.heap.size ≠ v.ownBlock := h.ne
  clear h
  go_enter Try.func88, Try.ntmps88
  go_wp2
  refine wp_region_noPanic ?_
  refine wp_region_held_drew (S := fun u => u.heap[w.heap.size]? = some (.cells #[.string kk, .string vv, .bool false] 28 (0, 0))) (by kernel_rfl) (hblk) (fun hHeld => ?_)
  generalize (w.alloc (.cells #[.string kk, .string vv, .bool false] 28)).drew = w0 at hblk hy0' ho0' q0' hHeld ⊢
  have hy0 := hy0'
  have ho0 := ho0'
  have q0 := q0'
  have hne0 := hne0'
  obtain ⟨v0, rfl⟩ : ∃ x, x = v := ⟨_, rfl⟩
  clear hy0' ho0' q0' hne0' hblk
  refine wpAnyH_take (i := 0) (oi := { dst := some 13, op := _, type := _, pos := _, after := _, guard := _ }) (v := ?_) rfl (by kernel_rfl) (by kernel_rfl) (by kernel_rfl) (fun _ _ _ h => h) (Or.inl ⟨by rfl, ?_⟩) (by assumption) ?_
  rotate_left 1
  · intro u s1; have k0 : u.cell? ⟨w.heap.size, 0, none⟩ = some (.string kk) := (by rw [Go.Joins.cell_of_block s1]; rfl); have k1 : u.cell? ⟨w.heap.size, 1, none⟩ = some (.string vv) := (by rw [Go.Joins.cell_of_block s1]; rfl); have k2 : u.cell? ⟨w.heap.size, 2, none⟩ = some (.bool false) := (by rw [Go.Joins.cell_of_block s1]; rfl); go_simp; try with_reducible rfl
  try simp only [Act.put, List.setIfInBounds_toArray, List.set_cons_zero, List.set_cons_succ]
  refine wpAnyH_take (i := 3) (oi := { dst := some 16, op := _, type := _, pos := _, after := _, guard := _ }) (v := ?_) rfl (by kernel_rfl) (by kernel_rfl) (by kernel_rfl) (fun _ _ _ h => h) (Or.inl ⟨by rfl, ?_⟩) (by assumption) ?_
  rotate_left 1
  · intro u s1; have k0 : u.cell? ⟨w.heap.size, 0, none⟩ = some (.string kk) := (by rw [Go.Joins.cell_of_block s1]; rfl); have k1 : u.cell? ⟨w.heap.size, 1, none⟩ = some (.string vv) := (by rw [Go.Joins.cell_of_block s1]; rfl); have k2 : u.cell? ⟨w.heap.size, 2, none⟩ = some (.bool false) := (by rw [Go.Joins.cell_of_block s1]; rfl); go_simp; try with_reducible rfl
  try simp only [Act.put, List.setIfInBounds_toArray, List.set_cons_zero, List.set_cons_succ]
  refine wpAnyH_take (i := 4) (oi := { dst := some 17, op := _, type := _, pos := _, after := _, guard := _ }) (v := ?_) rfl (by kernel_rfl) (by kernel_rfl) (by kernel_rfl) (fun _ _ _ h => h) (Or.inl ⟨by rfl, ?_⟩) (by assumption) ?_
  rotate_left 1
  · intro u s1; have k0 : u.cell? ⟨w.heap.size, 0, none⟩ = some (.string kk) := (by rw [Go.Joins.cell_of_block s1]; rfl); have k1 : u.cell? ⟨w.heap.size, 1, none⟩ = some (.string vv) := (by rw [Go.Joins.cell_of_block s1]; rfl); have k2 : u.cell? ⟨w.heap.size, 2, none⟩ = some (.bool false) := (by rw [Go.Joins.cell_of_block s1]; rfl); go_simp; try with_reducible rfl
  try simp only [Act.put, List.setIfInBounds_toArray, List.set_cons_zero, List.set_cons_succ]
  refine wpAnyH_take (i := 6) (oi := { dst := some 19, op := _, type := _, pos := _, after := _, guard := _ }) (v := ?_) rfl (by kernel_rfl) (by kernel_rfl) (by kernel_rfl) (fun _ _ _ h => h) (Or.inl ⟨by rfl, ?_⟩) (by assumption) ?_
  rotate_left 1
  · intro u s1; have k0 : u.cell? ⟨w.heap.size, 0, none⟩ = some (.string kk) := (by rw [Go.Joins.cell_of_block s1]; rfl); have k1 : u.cell? ⟨w.heap.size, 1, none⟩ = some (.string vv) := (by rw [Go.Joins.cell_of_block s1]; rfl); have k2 : u.cell? ⟨w.heap.size, 2, none⟩ = some (.bool false) := (by rw [Go.Joins.cell_of_block s1]; rfl); go_simp; try with_reducible rfl
  try simp only [Act.put, List.setIfInBounds_toArray, List.set_cons_zero, List.set_cons_succ]
  refine wpAnyH_take (i := 7) (oi := { dst := some 20, op := _, type := _, pos := _, after := _, guard := _ }) (v := ?_) rfl (by kernel_rfl) (by kernel_rfl) (by kernel_rfl) (fun _ _ _ h => h) (Or.inl ⟨by rfl, ?_⟩) (by assumption) ?_
  rotate_left 1
  · intro u s1; have k0 : u.cell? ⟨w.heap.size, 0, none⟩ = some (.string kk) := (by rw [Go.Joins.cell_of_block s1]; rfl); have k1 : u.cell? ⟨w.heap.size, 1, none⟩ = some (.string vv) := (by rw [Go.Joins.cell_of_block s1]; rfl); have k2 : u.cell? ⟨w.heap.size, 2, none⟩ = some (.bool false) := (by rw [Go.Joins.cell_of_block s1]; rfl); go_simp; try with_reducible rfl
  try simp only [Act.put, List.setIfInBounds_toArray, List.set_cons_zero, List.set_cons_succ]
  refine wpAnyH_ready (rs := [1]) (by kernel_rfl) (by simp) ?_
  refine AllReadyH.cons (o := { dst := some 14, op := _, type := _, pos := _, after := _, guard := _ }) rfl (fun K hK => ?_) ?_
  · go_simp
    have ho0' : Own (w0.alloc (.cells #[.int .u8 0] 5)) base v0 _ := World.ownsRow.alloc ho0 _
    have cb := cell_byte w0 0
    have q0' : Pt w (w0.alloc (.cells #[.int .u8 0] 5)) v0 v0 := q0.trans (Pt.alloc w0 v0 _)
    have bz := hy0
    have hHeld' := (blk_alloc' w0 (.cells #[.int .u8 0] 5) w.heap.size bz).trans hHeld
    refine hK.out _ _ hHeld' (fun hHeld => ?_)
    clear hK K
    try simp only [Act.put, List.setIfInBounds_toArray, List.set_cons_zero, List.set_cons_succ]
    refine wpAnyH_ready (rs := [2]) (by kernel_rfl) (by simp) ?_
    refine AllReadyH.cons (o := { dst := some 15, op := _, type := _, pos := _, after := _, guard := _ }) rfl (fun K hK => ?_) ?_
    · refine step_append_byte (by rfl) _ _ _ (by rfl) base i0 Try.underlying29 hi hz0 hz1 hz2 v0 _ (by rfl) ho0' w0.heap.size 0 (by rfl) cb (by first | omega | (simp; omega)) (by have := q0'.g.size; omega) ?_
      intro v1 w1 ho1 p1
      have hk1 := p1.block (k := w.heap.size) (by simp; omega) hne0
      have hne1 := hk1.2
      have q1 := q0'.trans p1
      have hy1 : w.heap.size < w1.heap.size := Nat.lt_of_lt_of_le hy0 (Nat.le_trans (by simp) p1.g.size)
      refine hK.out _ _ (hk1.1.trans hHeld) (fun hHeld => ?_)
      clear hK K
      try simp only [Act.put, List.setIfInBounds_toArray, List.set_cons_zero, List.set_cons_succ]
      refine wpAnyH_ready (rs := [5]) (by kernel_rfl) (by simp) ?_
      refine AllReadyH.cons (o := { dst := some 18, op := _, type := _, pos := _, after := _, guard := _ }) rfl (fun K hK => ?_) ?_
      · go_simp
        refine (putText2_any kk ho1 (by have := q1.g.size; omega) (by omega) (by simp; omega)).mono ?_
        rintro e w2 ⟨v2, rfl, ho2, p2⟩
        go_wp2_with fail
        have hk2 := p2.block (k := w.heap.size) hy1 hne1
        have hne2 := hk2.2
        have q2 := q1.trans p2
        have hy2 : w.heap.size < w2.heap.size := Nat.lt_of_lt_of_le hy1 p2.g.size
        refine hK.out _ _ (hk2.1.trans hHeld) (fun hHeld => ?_)
        clear hK K
        try simp only [Act.put, List.setIfInBounds_toArray, List.set_cons_zero, List.set_cons_succ]
        refine wpAnyH_ready (rs := [8]) (by kernel_rfl) (by simp) ?_
        refine AllReadyH.cons (o := { dst := some 21, op := _, type := _, pos := _, after := _, guard := _ }) rfl (fun K hK => ?_) ?_
        · go_simp
          refine (putText2_any vv ho2 (by have := q2.g.size; omega) (by omega) (by simp; omega)).mono ?_
          rintro e w3 ⟨v3, rfl, ho3, p3⟩
          go_wp2_with fail
          have hk3 := p3.block (k := w.heap.size) hy2 hne2
          have hne3 := hk3.2
          have q3 := q2.trans p3
          have hy3 : w.heap.size < w3.heap.size := Nat.lt_of_lt_of_le hy2 p3.g.size
          refine hK.out _ _ (hk3.1.trans hHeld) (fun hHeld => ?_)
          clear hK K
          try simp only [Act.put, List.setIfInBounds_toArray, List.set_cons_zero, List.set_cons_succ]
          refine wpAnyH_take (i := 9) (oi := { dst := some 4, op := _, type := _, pos := _, after := _, guard := _ }) (v := ?_) rfl (by kernel_rfl) (by kernel_rfl) (by kernel_rfl) (fun _ _ _ h => h) (Or.inl ⟨by rfl, ?_⟩) (by assumption) ?_
          rotate_left 1
          · intro u s1; have k0 : u.cell? ⟨w.heap.size, 0, none⟩ = some (.string kk) := (by rw [Go.Joins.cell_of_block s1]; rfl); have k1 : u.cell? ⟨w.heap.size, 1, none⟩ = some (.string vv) := (by rw [Go.Joins.cell_of_block s1]; rfl); have k2 : u.cell? ⟨w.heap.size, 2, none⟩ = some (.bool false) := (by rw [Go.Joins.cell_of_block s1]; rfl); go_simp; try with_reducible rfl
          try simp only [Act.put, List.setIfInBounds_toArray, List.set_cons_zero, List.set_cons_succ]
          refine wpAnyH_done (by kernel_rfl) ?_ _
          refine NoPanic.normal ?_
          go_wp2
          go_ret
          exact ⟨_, rfl, by simpa [List.append_assoc] using ho3, q3⟩
        exact AllReadyH.nil
      exact AllReadyH.nil
    exact AllReadyH.nil
  exact AllReadyH.nil
end
end Go.Proofs.Yteihabdldiopeaa
