/-
  put, and PutCommit, PutRow, PutGone, PutManifest.
-/
import Derived.Test.YtffgmpgmflbekaaGreatDoorXE9
set_option linter.unusedVariables false
set_option linter.unusedSimpArgs false
namespace Go.Proofs.YtffgmpgmflbekaaGreatDoor.EL
open Go.RowKit Go.Maps

/-- The error of what is right, or not; the bytes. -/
def er (b : Bool) : Int := if b then 0 else 60
def bt (b : Bool) (l : List Int) : List Int := if b then l else []
theorem own_byte (w : World) (y : Int) : Own (w.alloc (.cells #[.int .u8 y] 5)) w.heap.size (.slice (some ⟨w.heap.size, 0, none⟩) 1 1) [y] :=
  Own.of_block (xs := [y]) (rest := []) (heap_alloc_new w (.cells #[.int .u8 y] 5)) (Nat.le_refl _) rfl (by unfold maxLen; omega)

section
variable {w : World}
set_option maxRecDepth 100000
set_option maxHeartbeats 4000000
end

/-- What 'rows' answers. -/
def kindR : Value := .agg #[.int .u8 82, .func (.func 331) #[] #[], .func (.func 334) #[] #[], .func (.func 336) #[] #[]]
theorem enter_rightR : ∀ args w, (callFunc 331 args).run Tryz.prog w = .ok (.enter 331 args) w := enters_of Tryz.func331 (by kernel_rfl) rfl
theorem enter_putR : ∀ args w, (callFunc 334 args).run Tryz.prog w = .ok (.enter 334 args) w := enters_of Tryz.func334 (by kernel_rfl) rfl
theorem enter_takeR : ∀ args w, (callFunc 336 args).run Tryz.prog w = .ok (.enter 336 args) w := enters_of Tryz.func336 (by kernel_rfl) rfl

section
variable {w : World}
set_option maxRecDepth 100000
set_option maxHeartbeats 4000000
theorem kindR_any : Calls Tryz.prog 293 #[] w fun e w' => e = .returned kindR ∧ Below w.heap.size w w' := by
  have hb : Below w.heap.size w (w.alloc (.cells #[.int .u8 82, .func (.func 331) #[] #[], .func (.func 334) #[] #[], .func (.func 336) #[] #[]] 372)) := (Below.refl _ _).alloc (Nat.le_refl _) _
  go_enter Tryz.func293, Tryz.ntmps293
  go_wp2
  refine bodyPost_ret (v := kindR) (by simp [results, Tryz.results293, go_sem, kindR]) rfl ⟨rfl, hb⟩

theorem putR_any (r : Rw) :
    Calls Tryz.prog 292 #[kindR, r.v] w fun e w' => ∃ v', e = .returned (.tuple #[v', .int .i64 (er (rightR r))]) ∧ Own w' w.heap.size v' (bt (rightR r) (rb r)) ∧ Below w.heap.size w w' := by
  have hA : Below w.heap.size w ((w.alloc (.cells #[.int .u8 82, .func (.func 331) #[] #[], .func (.func 334) #[] #[], .func (.func 336) #[] #[]] 372)).alloc (.cells #[.string r.key, .string r.val, .int .i64 r.time] 28)) := ((Below.refl _ _).alloc (Nat.le_refl _) _).alloc (by simp) _
  have eR := enter_rightR
  have eP := enter_putR
  have hz : ((w.alloc (.cells #[.int .u8 82, .func (.func 331) #[] #[], .func (.func 334) #[] #[], .func (.func 336) #[] #[]] 372)).alloc (.cells #[.string r.key, .string r.val, .int .i64 r.time] 28)).heap.size = w.heap.size + 2 := by simp
  have kb : ((w.alloc (.cells #[.int .u8 82, .func (.func 331) #[] #[], .func (.func 334) #[] #[], .func (.func 336) #[] #[]] 372)).alloc (.cells #[.string r.key, .string r.val, .int .i64 r.time] 28)).heap[w.heap.size]? = some (.cells #[.int .u8 82, .func (.func 331) #[] #[], .func (.func 334) #[] #[], .func (.func 336) #[] #[]] 372 (0, 0)) := (blk_alloc' (w.alloc (.cells #[.int .u8 82, .func (.func 331) #[] #[], .func (.func 334) #[] #[], .func (.func 336) #[] #[]] 372)) (.cells #[.string r.key, .string r.val, .int .i64 r.time] 28) w.heap.size (by simp)).trans (heap_alloc_new w _)
  have xb : ((w.alloc (.cells #[.int .u8 82, .func (.func 331) #[] #[], .func (.func 334) #[] #[], .func (.func 336) #[] #[]] 372)).alloc (.cells #[.string r.key, .string r.val, .int .i64 r.time] 28)).heap[w.heap.size + 1]? = some (.cells #[.string r.key, .string r.val, .int .i64 r.time] 28 (0, 0)) := by
    have := heap_alloc_new (w.alloc (.cells #[.int .u8 82, .func (.func 331) #[] #[], .func (.func 334) #[] #[], .func (.func 336) #[] #[]] 372)) (.cells #[.string r.key, .string r.val, .int .i64 r.time] 28)
    rwa [show (w.alloc (.cells #[.int .u8 82, .func (.func 331) #[] #[], .func (.func 334) #[] #[], .func (.func 336) #[] #[]] 372)).heap.size = w.heap.size + 1 from by simp] at this
  have hright : Calls Tryz.prog 331 #[r.v] ((w.alloc (.cells #[.int .u8 82, .func (.func 331) #[] #[], .func (.func 334) #[] #[], .func (.func 336) #[] #[]] 372)).alloc (.cells #[.string r.key, .string r.val, .int .i64 r.time] 28)) _ := rightRow_any _ r
  cases hr : rightR r with
  | false =>
    have HR := ehide3 hright
    clear hright
    unfold kindR Rw.v
    go_enter Tryz.func292, Tryz.ntmps292
    go_wp2_with fail
    refine HR.out.mono ?_
    rintro e w1 ⟨rfl, hb1⟩
    rw [hr]
    have hB1 : Below w.heap.size w w1 := hA.trans (hb1.mono (by omega))
    go_wp2
    go_ret2
    exact ⟨_, rfl, World.ownsRow_nil _ _ _ _, hB1⟩
  | true =>
    have HR := ehide3 hright
    clear hright
    unfold kindR Rw.v
    go_enter Tryz.func292, Tryz.ntmps292
    go_wp2_with fail
    refine HR.out.mono ?_
    rintro e w1 ⟨rfl, hb1⟩
    rw [hr]
    have hB1 : Below w.heap.size w w1 := hA.trans (hb1.mono (by omega))
    have j0 : w1.cell? ⟨w.heap.size, 0, none⟩ = some (.int .u8 82) := by rw [Go.Joins.cell_of_block ((hb1.block w.heap.size (by omega)).trans kb)]; rfl
    have j2 : w1.cell? ⟨w.heap.size, 2, none⟩ = some (.func (.func 334) #[] #[]) := by rw [Go.Joins.cell_of_block ((hb1.block w.heap.size (by omega)).trans kb)]; rfl
    have i0 : w1.cell? ⟨w.heap.size + 1, 0, none⟩ = some (.string r.key) := by rw [Go.Joins.cell_of_block ((hb1.block (w.heap.size + 1) (by omega)).trans xb)]; rfl
    have i1 : w1.cell? ⟨w.heap.size + 1, 1, none⟩ = some (.string r.val) := by rw [Go.Joins.cell_of_block ((hb1.block (w.heap.size + 1) (by omega)).trans xb)]; rfl
    have i2 : w1.cell? ⟨w.heap.size + 1, 2, none⟩ = some (.int .i64 r.time) := by rw [Go.Joins.cell_of_block ((hb1.block (w.heap.size + 1) (by omega)).trans xb)]; rfl
    have hz1 := hb1.size
    have l0 : (w1.alloc (.cells #[.int .u8 82] 5)).cell? ⟨w.heap.size + 1, 0, none⟩ = some (.string r.key) := by rw [Go.Joins.cell_of_block ((blk_alloc' w1 (.cells #[.int .u8 82] 5) (w.heap.size + 1) (by omega)).trans ((hb1.block (w.heap.size + 1) (by omega)).trans xb))]; rfl
    have l1 : (w1.alloc (.cells #[.int .u8 82] 5)).cell? ⟨w.heap.size + 1, 1, none⟩ = some (.string r.val) := by rw [Go.Joins.cell_of_block ((blk_alloc' w1 (.cells #[.int .u8 82] 5) (w.heap.size + 1) (by omega)).trans ((hb1.block (w.heap.size + 1) (by omega)).trans xb))]; rfl
    have l2 : (w1.alloc (.cells #[.int .u8 82] 5)).cell? ⟨w.heap.size + 1, 2, none⟩ = some (.int .i64 r.time) := by rw [Go.Joins.cell_of_block ((blk_alloc' w1 (.cells #[.int .u8 82] 5) (w.heap.size + 1) (by omega)).trans ((hb1.block (w.heap.size + 1) (by omega)).trans xb))]; rfl
    have hown := (own_byte w1 82).low (base' := w.heap.size) (by omega)
    have hal1 : Below w1.heap.size w1 (w1.alloc (.cells #[.int .u8 82] 5)) := (Below.refl _ _).alloc (Nat.le_refl _) _
    have hB2 : Below w.heap.size w (w1.alloc (.cells #[.int .u8 82] 5)) := hB1.trans (hal1.mono (by omega))
    have hz2 := hal1.size
    have HP := ehide3 (putRow_any r hown (by omega) hr (by simp))
    have hvb := (fun k hk => (World.ownsRow.lt hown k hk).1)
    clear hown kb xb hA hb1 HR
    go_wp2_with fail
    refine HP.out.mono ?_
    rintro e w2 ⟨v2, rfl, ho2, p2⟩
    have hB3 : Below w.heap.size w w2 := hB2.trans (p2.blow hvb (by omega))
    clear HP hB2 hvb p2
    go_wp2
    go_ret2
    exact ⟨_, rfl, ho2, hB3⟩

theorem PutRow_any (r : Rw) :
    Calls Tryz.prog 241 #[r.v] w fun e w' => ∃ v', e = .returned (.tuple #[v', .int .i64 (er (rightR r))]) ∧ Own w' w.heap.size v' (bt (rightR r) (rb r)) ∧ Below w.heap.size w w' := by
  have hy0 : w.heap.size < (w.alloc (.cells #[.string r.key, .string r.val, .int .i64 r.time] 28)).heap.size := by simp
  unfold Rw.v
  go_enter Tryz.func241, Tryz.ntmps241
  go_wp2
  refine wp_region_noPanic ?_
  refine wp_region_held_drew (S := fun u => u.heap[w.heap.size]? = some (.cells #[.string r.key, .string r.val, .int .i64 r.time] 28 (0, 0)) ∧ Below w.heap.size w u) (by kernel_rfl) (⟨heap_alloc_new w _, below_drewN ((Below.refl _ _).alloc (Nat.le_refl _) _) 1⟩) (fun hHeld => ?_)
  have hy : w.heap.size < (w.alloc (.cells #[.string r.key, .string r.val, .int .i64 r.time] 28)).drew.heap.size := hy0
  refine wpAnyH_take (i := 1) (oi := { dst := some 5, op := _, type := _, pos := _, after := _, guard := _ }) (v := ?_) rfl (by kernel_rfl) (by kernel_rfl) (by kernel_rfl) (fun _ _ _ h => h) (Or.inl ⟨by rfl, ?_⟩) (by assumption) ?_
  rotate_left 1
  · intro u s1; obtain ⟨s2, s3⟩ := s1; have k0 : u.cell? ⟨w.heap.size, 0, none⟩ = some (.string r.key) := (by rw [Go.Joins.cell_of_block s2]; rfl); have k1 : u.cell? ⟨w.heap.size, 1, none⟩ = some (.string r.val) := (by rw [Go.Joins.cell_of_block s2]; rfl); have k2 : u.cell? ⟨w.heap.size, 2, none⟩ = some (.int .i64 r.time) := (by rw [Go.Joins.cell_of_block s2]; rfl); go_simp; try with_reducible rfl
  try simp only [Act.put, List.setIfInBounds_toArray, List.set_cons_zero, List.set_cons_succ]
  refine wpAnyH_ready (rs := [0]) (by kernel_rfl) (by simp) ?_
  refine AllReadyH.cons (o := { dst := some 4, op := _, type := _, pos := _, after := _, guard := _ }) rfl (fun K hK => ?_) ?_
  · go_simp
    refine (kindR_any).mono ?_
    rintro e w1 ⟨rfl, hb1⟩
    go_wp2_with fail
    have B1 := hHeld.2.trans (hb1.mono hHeld.2.size)
    have hz1 := hb1.size
    refine hK.out _ _ ⟨(hb1.block w.heap.size hy).trans hHeld.1, B1⟩ (fun hHeld => ?_)
    clear hK K
    try simp only [Act.put, List.setIfInBounds_toArray, List.set_cons_zero, List.set_cons_succ]
    refine wpAnyH_ready (rs := [2]) (by kernel_rfl) (by simp) ?_
    refine AllReadyH.cons (o := { dst := some 6, op := _, type := _, pos := _, after := _, guard := _ }) rfl (fun K hK => ?_) ?_
    · go_simp
      refine (putR_any r).mono ?_
      rintro e w2 ⟨v2, rfl, ho2, hb2⟩
      go_wp2_with fail
      have hle : w.heap.size ≤ w1.heap.size := by omega
      have ho3 := ho2.low hle
      have hB3 := hHeld.2.trans (hb2.mono hle)
      refine hK.out _ _ ⟨(hb2.block w.heap.size (by omega)).trans hHeld.1, hB3⟩ (fun hHeld => ?_)
      clear hK K
      try simp only [Act.put, List.setIfInBounds_toArray, List.set_cons_zero, List.set_cons_succ]
      refine wpAnyH_take (i := 3) (oi := { dst := some 7, op := _, type := _, pos := _, after := _, guard := _ }) (v := ?_) rfl (by kernel_rfl) (by kernel_rfl) (by kernel_rfl) (fun _ _ _ h => h) (Or.inl ⟨by rfl, ?_⟩) (by assumption) ?_
      rotate_left 1
      · intro u s1; obtain ⟨s2, s3⟩ := s1; have k0 : u.cell? ⟨w.heap.size, 0, none⟩ = some (.string r.key) := (by rw [Go.Joins.cell_of_block s2]; rfl); have k1 : u.cell? ⟨w.heap.size, 1, none⟩ = some (.string r.val) := (by rw [Go.Joins.cell_of_block s2]; rfl); have k2 : u.cell? ⟨w.heap.size, 2, none⟩ = some (.int .i64 r.time) := (by rw [Go.Joins.cell_of_block s2]; rfl); go_simp; try with_reducible rfl
      try simp only [Act.put, List.setIfInBounds_toArray, List.set_cons_zero, List.set_cons_succ]
      refine wpAnyH_take (i := 4) (oi := { dst := some 8, op := _, type := _, pos := _, after := _, guard := _ }) (v := ?_) rfl (by kernel_rfl) (by kernel_rfl) (by kernel_rfl) (fun _ _ _ h => h) (Or.inl ⟨by rfl, ?_⟩) (by assumption) ?_
      rotate_left 1
      · intro u s1; obtain ⟨s2, s3⟩ := s1; have k0 : u.cell? ⟨w.heap.size, 0, none⟩ = some (.string r.key) := (by rw [Go.Joins.cell_of_block s2]; rfl); have k1 : u.cell? ⟨w.heap.size, 1, none⟩ = some (.string r.val) := (by rw [Go.Joins.cell_of_block s2]; rfl); have k2 : u.cell? ⟨w.heap.size, 2, none⟩ = some (.int .i64 r.time) := (by rw [Go.Joins.cell_of_block s2]; rfl); go_simp; try with_reducible rfl
      try simp only [Act.put, List.setIfInBounds_toArray, List.set_cons_zero, List.set_cons_succ]
      refine wpAnyH_take (i := 5) (oi := { dst := some 2, op := _, type := _, pos := _, after := _, guard := _ }) (v := ?_) rfl (by kernel_rfl) (by kernel_rfl) (by kernel_rfl) (fun _ _ _ h => h) (Or.inl ⟨by rfl, ?_⟩) (by assumption) ?_
      rotate_left 1
      · intro u s1; obtain ⟨s2, s3⟩ := s1; have k0 : u.cell? ⟨w.heap.size, 0, none⟩ = some (.string r.key) := (by rw [Go.Joins.cell_of_block s2]; rfl); have k1 : u.cell? ⟨w.heap.size, 1, none⟩ = some (.string r.val) := (by rw [Go.Joins.cell_of_block s2]; rfl); have k2 : u.cell? ⟨w.heap.size, 2, none⟩ = some (.int .i64 r.time) := (by rw [Go.Joins.cell_of_block s2]; rfl); go_simp; try with_reducible rfl
      try simp only [Act.put, List.setIfInBounds_toArray, List.set_cons_zero, List.set_cons_succ]
      refine wpAnyH_take (i := 6) (oi := { dst := some 3, op := _, type := _, pos := _, after := _, guard := _ }) (v := ?_) rfl (by kernel_rfl) (by kernel_rfl) (by kernel_rfl) (fun _ _ _ h => h) (Or.inl ⟨by rfl, ?_⟩) (by assumption) ?_
      rotate_left 1
      · intro u s1; obtain ⟨s2, s3⟩ := s1; have k0 : u.cell? ⟨w.heap.size, 0, none⟩ = some (.string r.key) := (by rw [Go.Joins.cell_of_block s2]; rfl); have k1 : u.cell? ⟨w.heap.size, 1, none⟩ = some (.string r.val) := (by rw [Go.Joins.cell_of_block s2]; rfl); have k2 : u.cell? ⟨w.heap.size, 2, none⟩ = some (.int .i64 r.time) := (by rw [Go.Joins.cell_of_block s2]; rfl); go_simp; try with_reducible rfl
      try simp only [Act.put, List.setIfInBounds_toArray, List.set_cons_zero, List.set_cons_succ]
      refine wpAnyH_done (by kernel_rfl) ?_ _
      refine NoPanic.normal ?_
      go_wp2
      go_ret2
      exact ⟨_, rfl, ho3, hB3⟩
    exact AllReadyH.nil
  exact AllReadyH.nil
end

/-- What 'gones' answers. -/
def kindG : Value := .agg #[.int .u8 71, .func (.func 338) #[] #[], .func (.func 339) #[] #[], .func (.func 340) #[] #[]]
theorem enter_rightG : ∀ args w, (callFunc 338 args).run Tryz.prog w = .ok (.enter 338 args) w := enters_of Tryz.func338 (by kernel_rfl) rfl
theorem enter_putG : ∀ args w, (callFunc 339 args).run Tryz.prog w = .ok (.enter 339 args) w := enters_of Tryz.func339 (by kernel_rfl) rfl
theorem enter_takeG : ∀ args w, (callFunc 340 args).run Tryz.prog w = .ok (.enter 340 args) w := enters_of Tryz.func340 (by kernel_rfl) rfl

section
variable {w : World}
set_option maxRecDepth 100000
set_option maxHeartbeats 4000000
theorem kindG_any : Calls Tryz.prog 297 #[] w fun e w' => e = .returned kindG ∧ Below w.heap.size w w' := by
  have hb : Below w.heap.size w (w.alloc (.cells #[.int .u8 71, .func (.func 338) #[] #[], .func (.func 339) #[] #[], .func (.func 340) #[] #[]] 380)) := (Below.refl _ _).alloc (Nat.le_refl _) _
  go_enter Tryz.func297, Tryz.ntmps297
  go_wp2
  refine bodyPost_ret (v := kindG) (by simp [results, Tryz.results297, go_sem, kindG]) rfl ⟨rfl, hb⟩

theorem putG_any (g : Gn) :
    Calls Tryz.prog 296 #[kindG, g.v] w fun e w' => ∃ v', e = .returned (.tuple #[v', .int .i64 (er (rightG g))]) ∧ Own w' w.heap.size v' (bt (rightG g) (gb g)) ∧ Below w.heap.size w w' := by
  have hA : Below w.heap.size w ((w.alloc (.cells #[.int .u8 71, .func (.func 338) #[] #[], .func (.func 339) #[] #[], .func (.func 340) #[] #[]] 380)).alloc (.cells #[.string g.key, .int .i64 g.time] 30)) := ((Below.refl _ _).alloc (Nat.le_refl _) _).alloc (by simp) _
  have eR := enter_rightG
  have eP := enter_putG
  have hz : ((w.alloc (.cells #[.int .u8 71, .func (.func 338) #[] #[], .func (.func 339) #[] #[], .func (.func 340) #[] #[]] 380)).alloc (.cells #[.string g.key, .int .i64 g.time] 30)).heap.size = w.heap.size + 2 := by simp
  have kb : ((w.alloc (.cells #[.int .u8 71, .func (.func 338) #[] #[], .func (.func 339) #[] #[], .func (.func 340) #[] #[]] 380)).alloc (.cells #[.string g.key, .int .i64 g.time] 30)).heap[w.heap.size]? = some (.cells #[.int .u8 71, .func (.func 338) #[] #[], .func (.func 339) #[] #[], .func (.func 340) #[] #[]] 380 (0, 0)) := (blk_alloc' (w.alloc (.cells #[.int .u8 71, .func (.func 338) #[] #[], .func (.func 339) #[] #[], .func (.func 340) #[] #[]] 380)) (.cells #[.string g.key, .int .i64 g.time] 30) w.heap.size (by simp)).trans (heap_alloc_new w _)
  have xb : ((w.alloc (.cells #[.int .u8 71, .func (.func 338) #[] #[], .func (.func 339) #[] #[], .func (.func 340) #[] #[]] 380)).alloc (.cells #[.string g.key, .int .i64 g.time] 30)).heap[w.heap.size + 1]? = some (.cells #[.string g.key, .int .i64 g.time] 30 (0, 0)) := by
    have := heap_alloc_new (w.alloc (.cells #[.int .u8 71, .func (.func 338) #[] #[], .func (.func 339) #[] #[], .func (.func 340) #[] #[]] 380)) (.cells #[.string g.key, .int .i64 g.time] 30)
    rwa [show (w.alloc (.cells #[.int .u8 71, .func (.func 338) #[] #[], .func (.func 339) #[] #[], .func (.func 340) #[] #[]] 380)).heap.size = w.heap.size + 1 from by simp] at this
  have hright : Calls Tryz.prog 338 #[g.v] ((w.alloc (.cells #[.int .u8 71, .func (.func 338) #[] #[], .func (.func 339) #[] #[], .func (.func 340) #[] #[]] 380)).alloc (.cells #[.string g.key, .int .i64 g.time] 30)) _ := rightGone_any _ g
  cases hr : rightG g with
  | false =>
    have HR := ehide3 hright
    clear hright
    unfold kindG Gn.v
    go_enter Tryz.func296, Tryz.ntmps296
    go_wp2_with fail
    refine HR.out.mono ?_
    rintro e w1 ⟨rfl, hb1⟩
    rw [hr]
    have hB1 : Below w.heap.size w w1 := hA.trans (hb1.mono (by omega))
    go_wp2
    go_ret2
    exact ⟨_, rfl, World.ownsRow_nil _ _ _ _, hB1⟩
  | true =>
    have HR := ehide3 hright
    clear hright
    unfold kindG Gn.v
    go_enter Tryz.func296, Tryz.ntmps296
    go_wp2_with fail
    refine HR.out.mono ?_
    rintro e w1 ⟨rfl, hb1⟩
    rw [hr]
    have hB1 : Below w.heap.size w w1 := hA.trans (hb1.mono (by omega))
    have j0 : w1.cell? ⟨w.heap.size, 0, none⟩ = some (.int .u8 71) := by rw [Go.Joins.cell_of_block ((hb1.block w.heap.size (by omega)).trans kb)]; rfl
    have j2 : w1.cell? ⟨w.heap.size, 2, none⟩ = some (.func (.func 339) #[] #[]) := by rw [Go.Joins.cell_of_block ((hb1.block w.heap.size (by omega)).trans kb)]; rfl
    have i0 : w1.cell? ⟨w.heap.size + 1, 0, none⟩ = some (.string g.key) := by rw [Go.Joins.cell_of_block ((hb1.block (w.heap.size + 1) (by omega)).trans xb)]; rfl
    have i1 : w1.cell? ⟨w.heap.size + 1, 1, none⟩ = some (.int .i64 g.time) := by rw [Go.Joins.cell_of_block ((hb1.block (w.heap.size + 1) (by omega)).trans xb)]; rfl
    have hz1 := hb1.size
    have l0 : (w1.alloc (.cells #[.int .u8 71] 5)).cell? ⟨w.heap.size + 1, 0, none⟩ = some (.string g.key) := by rw [Go.Joins.cell_of_block ((blk_alloc' w1 (.cells #[.int .u8 71] 5) (w.heap.size + 1) (by omega)).trans ((hb1.block (w.heap.size + 1) (by omega)).trans xb))]; rfl
    have l1 : (w1.alloc (.cells #[.int .u8 71] 5)).cell? ⟨w.heap.size + 1, 1, none⟩ = some (.int .i64 g.time) := by rw [Go.Joins.cell_of_block ((blk_alloc' w1 (.cells #[.int .u8 71] 5) (w.heap.size + 1) (by omega)).trans ((hb1.block (w.heap.size + 1) (by omega)).trans xb))]; rfl
    have hown := (own_byte w1 71).low (base' := w.heap.size) (by omega)
    have hal1 : Below w1.heap.size w1 (w1.alloc (.cells #[.int .u8 71] 5)) := (Below.refl _ _).alloc (Nat.le_refl _) _
    have hB2 : Below w.heap.size w (w1.alloc (.cells #[.int .u8 71] 5)) := hB1.trans (hal1.mono (by omega))
    have hz2 := hal1.size
    have HP := ehide3 (putGone_any g hown (by omega) hr (by simp))
    have hvb := (fun k hk => (World.ownsRow.lt hown k hk).1)
    clear hown kb xb hA hb1 HR
    go_wp2_with fail
    refine HP.out.mono ?_
    rintro e w2 ⟨v2, rfl, ho2, p2⟩
    have hB3 : Below w.heap.size w w2 := hB2.trans (p2.blow hvb (by omega))
    clear HP hB2 hvb p2
    go_wp2
    go_ret2
    exact ⟨_, rfl, ho2, hB3⟩

theorem PutGone_any (g : Gn) :
    Calls Tryz.prog 249 #[g.v] w fun e w' => ∃ v', e = .returned (.tuple #[v', .int .i64 (er (rightG g))]) ∧ Own w' w.heap.size v' (bt (rightG g) (gb g)) ∧ Below w.heap.size w w' := by
  have hy0 : w.heap.size < (w.alloc (.cells #[.string g.key, .int .i64 g.time] 30)).heap.size := by simp
  unfold Gn.v
  go_enter Tryz.func249, Tryz.ntmps249
  go_wp2
  refine wp_region_noPanic ?_
  refine wp_region_held_drew (S := fun u => u.heap[w.heap.size]? = some (.cells #[.string g.key, .int .i64 g.time] 30 (0, 0)) ∧ Below w.heap.size w u) (by kernel_rfl) (⟨heap_alloc_new w _, below_drewN ((Below.refl _ _).alloc (Nat.le_refl _) _) 1⟩) (fun hHeld => ?_)
  have hy : w.heap.size < (w.alloc (.cells #[.string g.key, .int .i64 g.time] 30)).drew.heap.size := hy0
  refine wpAnyH_take (i := 1) (oi := { dst := some 5, op := _, type := _, pos := _, after := _, guard := _ }) (v := ?_) rfl (by kernel_rfl) (by kernel_rfl) (by kernel_rfl) (fun _ _ _ h => h) (Or.inl ⟨by rfl, ?_⟩) (by assumption) ?_
  rotate_left 1
  · intro u s1; obtain ⟨s2, s3⟩ := s1; have k0 : u.cell? ⟨w.heap.size, 0, none⟩ = some (.string g.key) := (by rw [Go.Joins.cell_of_block s2]; rfl); have k1 : u.cell? ⟨w.heap.size, 1, none⟩ = some (.int .i64 g.time) := (by rw [Go.Joins.cell_of_block s2]; rfl); go_simp; try with_reducible rfl
  try simp only [Act.put, List.setIfInBounds_toArray, List.set_cons_zero, List.set_cons_succ]
  refine wpAnyH_ready (rs := [0]) (by kernel_rfl) (by simp) ?_
  refine AllReadyH.cons (o := { dst := some 4, op := _, type := _, pos := _, after := _, guard := _ }) rfl (fun K hK => ?_) ?_
  · go_simp
    refine (kindG_any).mono ?_
    rintro e w1 ⟨rfl, hb1⟩
    go_wp2_with fail
    have B1 := hHeld.2.trans (hb1.mono hHeld.2.size)
    have hz1 := hb1.size
    refine hK.out _ _ ⟨(hb1.block w.heap.size hy).trans hHeld.1, B1⟩ (fun hHeld => ?_)
    clear hK K
    try simp only [Act.put, List.setIfInBounds_toArray, List.set_cons_zero, List.set_cons_succ]
    refine wpAnyH_ready (rs := [2]) (by kernel_rfl) (by simp) ?_
    refine AllReadyH.cons (o := { dst := some 6, op := _, type := _, pos := _, after := _, guard := _ }) rfl (fun K hK => ?_) ?_
    · go_simp
      refine (putG_any g).mono ?_
      rintro e w2 ⟨v2, rfl, ho2, hb2⟩
      go_wp2_with fail
      have hle : w.heap.size ≤ w1.heap.size := by omega
      have ho3 := ho2.low hle
      have hB3 := hHeld.2.trans (hb2.mono hle)
      refine hK.out _ _ ⟨(hb2.block w.heap.size (by omega)).trans hHeld.1, hB3⟩ (fun hHeld => ?_)
      clear hK K
      try simp only [Act.put, List.setIfInBounds_toArray, List.set_cons_zero, List.set_cons_succ]
      refine wpAnyH_take (i := 3) (oi := { dst := some 7, op := _, type := _, pos := _, after := _, guard := _ }) (v := ?_) rfl (by kernel_rfl) (by kernel_rfl) (by kernel_rfl) (fun _ _ _ h => h) (Or.inl ⟨by rfl, ?_⟩) (by assumption) ?_
      rotate_left 1
      · intro u s1; obtain ⟨s2, s3⟩ := s1; have k0 : u.cell? ⟨w.heap.size, 0, none⟩ = some (.string g.key) := (by rw [Go.Joins.cell_of_block s2]; rfl); have k1 : u.cell? ⟨w.heap.size, 1, none⟩ = some (.int .i64 g.time) := (by rw [Go.Joins.cell_of_block s2]; rfl); go_simp; try with_reducible rfl
      try simp only [Act.put, List.setIfInBounds_toArray, List.set_cons_zero, List.set_cons_succ]
      refine wpAnyH_take (i := 4) (oi := { dst := some 8, op := _, type := _, pos := _, after := _, guard := _ }) (v := ?_) rfl (by kernel_rfl) (by kernel_rfl) (by kernel_rfl) (fun _ _ _ h => h) (Or.inl ⟨by rfl, ?_⟩) (by assumption) ?_
      rotate_left 1
      · intro u s1; obtain ⟨s2, s3⟩ := s1; have k0 : u.cell? ⟨w.heap.size, 0, none⟩ = some (.string g.key) := (by rw [Go.Joins.cell_of_block s2]; rfl); have k1 : u.cell? ⟨w.heap.size, 1, none⟩ = some (.int .i64 g.time) := (by rw [Go.Joins.cell_of_block s2]; rfl); go_simp; try with_reducible rfl
      try simp only [Act.put, List.setIfInBounds_toArray, List.set_cons_zero, List.set_cons_succ]
      refine wpAnyH_take (i := 5) (oi := { dst := some 2, op := _, type := _, pos := _, after := _, guard := _ }) (v := ?_) rfl (by kernel_rfl) (by kernel_rfl) (by kernel_rfl) (fun _ _ _ h => h) (Or.inl ⟨by rfl, ?_⟩) (by assumption) ?_
      rotate_left 1
      · intro u s1; obtain ⟨s2, s3⟩ := s1; have k0 : u.cell? ⟨w.heap.size, 0, none⟩ = some (.string g.key) := (by rw [Go.Joins.cell_of_block s2]; rfl); have k1 : u.cell? ⟨w.heap.size, 1, none⟩ = some (.int .i64 g.time) := (by rw [Go.Joins.cell_of_block s2]; rfl); go_simp; try with_reducible rfl
      try simp only [Act.put, List.setIfInBounds_toArray, List.set_cons_zero, List.set_cons_succ]
      refine wpAnyH_take (i := 6) (oi := { dst := some 3, op := _, type := _, pos := _, after := _, guard := _ }) (v := ?_) rfl (by kernel_rfl) (by kernel_rfl) (by kernel_rfl) (fun _ _ _ h => h) (Or.inl ⟨by rfl, ?_⟩) (by assumption) ?_
      rotate_left 1
      · intro u s1; obtain ⟨s2, s3⟩ := s1; have k0 : u.cell? ⟨w.heap.size, 0, none⟩ = some (.string g.key) := (by rw [Go.Joins.cell_of_block s2]; rfl); have k1 : u.cell? ⟨w.heap.size, 1, none⟩ = some (.int .i64 g.time) := (by rw [Go.Joins.cell_of_block s2]; rfl); go_simp; try with_reducible rfl
      try simp only [Act.put, List.setIfInBounds_toArray, List.set_cons_zero, List.set_cons_succ]
      refine wpAnyH_done (by kernel_rfl) ?_ _
      refine NoPanic.normal ?_
      go_wp2
      go_ret2
      exact ⟨_, rfl, ho3, hB3⟩
    exact AllReadyH.nil
  exact AllReadyH.nil
end

/-- What 'manifests' answers. -/
def kindM : Value := .agg #[.int .u8 77, .func (.func 231) #[] #[], .func (.func 232) #[] #[], .func (.func 237) #[] #[]]
theorem enter_rightM : ∀ args w, (callFunc 231 args).run Tryz.prog w = .ok (.enter 231 args) w := enters_of Tryz.func231 (by kernel_rfl) rfl
theorem enter_putM : ∀ args w, (callFunc 232 args).run Tryz.prog w = .ok (.enter 232 args) w := enters_of Tryz.func232 (by kernel_rfl) rfl
theorem enter_takeM : ∀ args w, (callFunc 237 args).run Tryz.prog w = .ok (.enter 237 args) w := enters_of Tryz.func237 (by kernel_rfl) rfl

section
variable {w : World}
set_option maxRecDepth 100000
set_option maxHeartbeats 4000000
theorem kindM_any : Calls Tryz.prog 175 #[] w fun e w' => e = .returned kindM ∧ Below w.heap.size w w' := by
  have hb : Below w.heap.size w (w.alloc (.cells #[.int .u8 77, .func (.func 231) #[] #[], .func (.func 232) #[] #[], .func (.func 237) #[] #[]] 263)) := (Below.refl _ _).alloc (Nat.le_refl _) _
  go_enter Tryz.func175, Tryz.ntmps175
  go_wp2
  refine bodyPost_ret (v := kindM) (by simp [results, Tryz.results175, go_sem, kindM]) rfl ⟨rfl, hb⟩

theorem putM_any {ao : Option Addr} {len cap : Nat} {ps : List Pr} (t lg : Int) (hs : Seq 3 Pr.cells w ao len cap ps) :
    Calls Tryz.prog 174 #[kindM, .agg #[.int .i64 t, .int .i64 lg, .slice ao len cap]] w fun e w' => ∃ v', e = .returned (.tuple #[v', .int .i64 (er (rightM ⟨t, lg, ps⟩))]) ∧ Own w' w.heap.size v' (bt (rightM ⟨t, lg, ps⟩) (mb ⟨t, lg, ps⟩)) ∧ Below w.heap.size w w' := by
  have hA : Below w.heap.size w ((w.alloc (.cells #[.int .u8 77, .func (.func 231) #[] #[], .func (.func 232) #[] #[], .func (.func 237) #[] #[]] 263)).alloc (.cells #[.int .i64 t, .int .i64 lg, .slice ao len cap] 34)) := ((Below.refl _ _).alloc (Nat.le_refl _) _).alloc (by simp) _
  have eR := enter_rightM
  have eP := enter_putM
  have hz : ((w.alloc (.cells #[.int .u8 77, .func (.func 231) #[] #[], .func (.func 232) #[] #[], .func (.func 237) #[] #[]] 263)).alloc (.cells #[.int .i64 t, .int .i64 lg, .slice ao len cap] 34)).heap.size = w.heap.size + 2 := by simp
  have kb : ((w.alloc (.cells #[.int .u8 77, .func (.func 231) #[] #[], .func (.func 232) #[] #[], .func (.func 237) #[] #[]] 263)).alloc (.cells #[.int .i64 t, .int .i64 lg, .slice ao len cap] 34)).heap[w.heap.size]? = some (.cells #[.int .u8 77, .func (.func 231) #[] #[], .func (.func 232) #[] #[], .func (.func 237) #[] #[]] 263 (0, 0)) := (blk_alloc' (w.alloc (.cells #[.int .u8 77, .func (.func 231) #[] #[], .func (.func 232) #[] #[], .func (.func 237) #[] #[]] 263)) (.cells #[.int .i64 t, .int .i64 lg, .slice ao len cap] 34) w.heap.size (by simp)).trans (heap_alloc_new w _)
  have xb : ((w.alloc (.cells #[.int .u8 77, .func (.func 231) #[] #[], .func (.func 232) #[] #[], .func (.func 237) #[] #[]] 263)).alloc (.cells #[.int .i64 t, .int .i64 lg, .slice ao len cap] 34)).heap[w.heap.size + 1]? = some (.cells #[.int .i64 t, .int .i64 lg, .slice ao len cap] 34 (0, 0)) := by
    have := heap_alloc_new (w.alloc (.cells #[.int .u8 77, .func (.func 231) #[] #[], .func (.func 232) #[] #[], .func (.func 237) #[] #[]] 263)) (.cells #[.int .i64 t, .int .i64 lg, .slice ao len cap] 34)
    rwa [show (w.alloc (.cells #[.int .u8 77, .func (.func 231) #[] #[], .func (.func 232) #[] #[], .func (.func 237) #[] #[]] 263)).heap.size = w.heap.size + 1 from by simp] at this
  have hright : Calls Tryz.prog 231 #[.agg #[.int .i64 t, .int .i64 lg, .slice ao len cap]] ((w.alloc (.cells #[.int .u8 77, .func (.func 231) #[] #[], .func (.func 232) #[] #[], .func (.func 237) #[] #[]] 263)).alloc (.cells #[.int .i64 t, .int .i64 lg, .slice ao len cap] 34)) _ := rightManifest_any t lg (hs.keep hA)
  have hlow : 0 < len → ∀ b off, ao = some ⟨b, off, none⟩ → b < w.heap.size := fun h0 b off e => by
    obtain ⟨b', off', e', hb, _⟩ := hs.2.2.2 h0
    rw [e] at e'
    cases e'
    exact hb
  cases hr : rightM ⟨t, lg, ps⟩ with
  | false =>
    have HR := ehide3 hright
    clear hright
    unfold kindM
    go_enter Tryz.func174, Tryz.ntmps174
    go_wp2_with fail
    refine HR.out.mono ?_
    rintro e w1 ⟨rfl, hb1⟩
    rw [hr]
    have hB1 : Below w.heap.size w w1 := hA.trans (hb1.mono (by omega))
    go_wp2
    go_ret2
    exact ⟨_, rfl, World.ownsRow_nil _ _ _ _, hB1⟩
  | true =>
    have HR := ehide3 hright
    clear hright
    unfold kindM
    go_enter Tryz.func174, Tryz.ntmps174
    go_wp2_with fail
    refine HR.out.mono ?_
    rintro e w1 ⟨rfl, hb1⟩
    rw [hr]
    have hB1 : Below w.heap.size w w1 := hA.trans (hb1.mono (by omega))
    have j0 : w1.cell? ⟨w.heap.size, 0, none⟩ = some (.int .u8 77) := by rw [Go.Joins.cell_of_block ((hb1.block w.heap.size (by omega)).trans kb)]; rfl
    have j2 : w1.cell? ⟨w.heap.size, 2, none⟩ = some (.func (.func 232) #[] #[]) := by rw [Go.Joins.cell_of_block ((hb1.block w.heap.size (by omega)).trans kb)]; rfl
    have i0 : w1.cell? ⟨w.heap.size + 1, 0, none⟩ = some (.int .i64 t) := by rw [Go.Joins.cell_of_block ((hb1.block (w.heap.size + 1) (by omega)).trans xb)]; rfl
    have i1 : w1.cell? ⟨w.heap.size + 1, 1, none⟩ = some (.int .i64 lg) := by rw [Go.Joins.cell_of_block ((hb1.block (w.heap.size + 1) (by omega)).trans xb)]; rfl
    have i2 : w1.cell? ⟨w.heap.size + 1, 2, none⟩ = some (.slice ao len cap) := by rw [Go.Joins.cell_of_block ((hb1.block (w.heap.size + 1) (by omega)).trans xb)]; rfl
    have hz1 := hb1.size
    have l0 : (w1.alloc (.cells #[.int .u8 77] 5)).cell? ⟨w.heap.size + 1, 0, none⟩ = some (.int .i64 t) := by rw [Go.Joins.cell_of_block ((blk_alloc' w1 (.cells #[.int .u8 77] 5) (w.heap.size + 1) (by omega)).trans ((hb1.block (w.heap.size + 1) (by omega)).trans xb))]; rfl
    have l1 : (w1.alloc (.cells #[.int .u8 77] 5)).cell? ⟨w.heap.size + 1, 1, none⟩ = some (.int .i64 lg) := by rw [Go.Joins.cell_of_block ((blk_alloc' w1 (.cells #[.int .u8 77] 5) (w.heap.size + 1) (by omega)).trans ((hb1.block (w.heap.size + 1) (by omega)).trans xb))]; rfl
    have l2 : (w1.alloc (.cells #[.int .u8 77] 5)).cell? ⟨w.heap.size + 1, 2, none⟩ = some (.slice ao len cap) := by rw [Go.Joins.cell_of_block ((blk_alloc' w1 (.cells #[.int .u8 77] 5) (w.heap.size + 1) (by omega)).trans ((hb1.block (w.heap.size + 1) (by omega)).trans xb))]; rfl
    have hown := (own_byte w1 77).low (base' := w.heap.size) (by omega)
    have hal1 : Below w1.heap.size w1 (w1.alloc (.cells #[.int .u8 77] 5)) := (Below.refl _ _).alloc (Nat.le_refl _) _
    have hB2 : Below w.heap.size w (w1.alloc (.cells #[.int .u8 77] 5)) := hB1.trans (hal1.mono (by omega))
    have hz2 := hal1.size
    have HP := ehide3 (putManifest1_any t lg hown (by omega) (hs.keep hB2) hlow hr (by simp))
    have hvb := (fun k hk => (World.ownsRow.lt hown k hk).1)
    clear hown kb xb hA hb1 HR
    go_wp2_with fail
    refine HP.out.mono ?_
    rintro e w2 ⟨v2, rfl, ho2, p2⟩
    have hB3 : Below w.heap.size w w2 := hB2.trans (p2.blow hvb (by omega))
    clear HP hB2 hvb p2
    go_wp2
    go_ret2
    exact ⟨_, rfl, ho2, hB3⟩

theorem PutManifest_any {ao : Option Addr} {len cap : Nat} {ps : List Pr} (t lg : Int) (hs : Seq 3 Pr.cells w ao len cap ps) :
    Calls Tryz.prog 124 #[.agg #[.int .i64 t, .int .i64 lg, .slice ao len cap]] w fun e w' => ∃ v', e = .returned (.tuple #[v', .int .i64 (er (rightM ⟨t, lg, ps⟩))]) ∧ Own w' w.heap.size v' (bt (rightM ⟨t, lg, ps⟩) (mb ⟨t, lg, ps⟩)) ∧ Below w.heap.size w w' := by
  have hy0 : w.heap.size < (w.alloc (.cells #[.int .i64 t, .int .i64 lg, .slice ao len cap] 34)).heap.size := by simp
  go_enter Tryz.func124, Tryz.ntmps124
  go_wp2
  refine wp_region_noPanic ?_
  refine wp_region_held_drew (S := fun u => u.heap[w.heap.size]? = some (.cells #[.int .i64 t, .int .i64 lg, .slice ao len cap] 34 (0, 0)) ∧ Below w.heap.size w u) (by kernel_rfl) (⟨heap_alloc_new w _, below_drewN ((Below.refl _ _).alloc (Nat.le_refl _) _) 1⟩) (fun hHeld => ?_)
  have hy : w.heap.size < (w.alloc (.cells #[.int .i64 t, .int .i64 lg, .slice ao len cap] 34)).drew.heap.size := hy0
  refine wpAnyH_take (i := 1) (oi := { dst := some 5, op := _, type := _, pos := _, after := _, guard := _ }) (v := ?_) rfl (by kernel_rfl) (by kernel_rfl) (by kernel_rfl) (fun _ _ _ h => h) (Or.inl ⟨by rfl, ?_⟩) (by assumption) ?_
  rotate_left 1
  · intro u s1; obtain ⟨s2, s3⟩ := s1; have k0 : u.cell? ⟨w.heap.size, 0, none⟩ = some (.int .i64 t) := (by rw [Go.Joins.cell_of_block s2]; rfl); have k1 : u.cell? ⟨w.heap.size, 1, none⟩ = some (.int .i64 lg) := (by rw [Go.Joins.cell_of_block s2]; rfl); have k2 : u.cell? ⟨w.heap.size, 2, none⟩ = some (.slice ao len cap) := (by rw [Go.Joins.cell_of_block s2]; rfl); go_simp; try with_reducible rfl
  try simp only [Act.put, List.setIfInBounds_toArray, List.set_cons_zero, List.set_cons_succ]
  refine wpAnyH_ready (rs := [0]) (by kernel_rfl) (by simp) ?_
  refine AllReadyH.cons (o := { dst := some 4, op := _, type := _, pos := _, after := _, guard := _ }) rfl (fun K hK => ?_) ?_
  · go_simp
    refine (kindM_any).mono ?_
    rintro e w1 ⟨rfl, hb1⟩
    go_wp2_with fail
    have B1 := hHeld.2.trans (hb1.mono hHeld.2.size)
    have hz1 := hb1.size
    refine hK.out _ _ ⟨(hb1.block w.heap.size hy).trans hHeld.1, B1⟩ (fun hHeld => ?_)
    clear hK K
    try simp only [Act.put, List.setIfInBounds_toArray, List.set_cons_zero, List.set_cons_succ]
    refine wpAnyH_ready (rs := [2]) (by kernel_rfl) (by simp) ?_
    refine AllReadyH.cons (o := { dst := some 6, op := _, type := _, pos := _, after := _, guard := _ }) rfl (fun K hK => ?_) ?_
    · go_simp
      refine (putM_any t lg (hs.keep hHeld.2)).mono ?_
      rintro e w2 ⟨v2, rfl, ho2, hb2⟩
      go_wp2_with fail
      have hle : w.heap.size ≤ w1.heap.size := by omega
      have ho3 := ho2.low hle
      have hB3 := hHeld.2.trans (hb2.mono hle)
      refine hK.out _ _ ⟨(hb2.block w.heap.size (by omega)).trans hHeld.1, hB3⟩ (fun hHeld => ?_)
      clear hK K
      try simp only [Act.put, List.setIfInBounds_toArray, List.set_cons_zero, List.set_cons_succ]
      refine wpAnyH_take (i := 3) (oi := { dst := some 7, op := _, type := _, pos := _, after := _, guard := _ }) (v := ?_) rfl (by kernel_rfl) (by kernel_rfl) (by kernel_rfl) (fun _ _ _ h => h) (Or.inl ⟨by rfl, ?_⟩) (by assumption) ?_
      rotate_left 1
      · intro u s1; obtain ⟨s2, s3⟩ := s1; have k0 : u.cell? ⟨w.heap.size, 0, none⟩ = some (.int .i64 t) := (by rw [Go.Joins.cell_of_block s2]; rfl); have k1 : u.cell? ⟨w.heap.size, 1, none⟩ = some (.int .i64 lg) := (by rw [Go.Joins.cell_of_block s2]; rfl); have k2 : u.cell? ⟨w.heap.size, 2, none⟩ = some (.slice ao len cap) := (by rw [Go.Joins.cell_of_block s2]; rfl); go_simp; try with_reducible rfl
      try simp only [Act.put, List.setIfInBounds_toArray, List.set_cons_zero, List.set_cons_succ]
      refine wpAnyH_take (i := 4) (oi := { dst := some 8, op := _, type := _, pos := _, after := _, guard := _ }) (v := ?_) rfl (by kernel_rfl) (by kernel_rfl) (by kernel_rfl) (fun _ _ _ h => h) (Or.inl ⟨by rfl, ?_⟩) (by assumption) ?_
      rotate_left 1
      · intro u s1; obtain ⟨s2, s3⟩ := s1; have k0 : u.cell? ⟨w.heap.size, 0, none⟩ = some (.int .i64 t) := (by rw [Go.Joins.cell_of_block s2]; rfl); have k1 : u.cell? ⟨w.heap.size, 1, none⟩ = some (.int .i64 lg) := (by rw [Go.Joins.cell_of_block s2]; rfl); have k2 : u.cell? ⟨w.heap.size, 2, none⟩ = some (.slice ao len cap) := (by rw [Go.Joins.cell_of_block s2]; rfl); go_simp; try with_reducible rfl
      try simp only [Act.put, List.setIfInBounds_toArray, List.set_cons_zero, List.set_cons_succ]
      refine wpAnyH_take (i := 5) (oi := { dst := some 2, op := _, type := _, pos := _, after := _, guard := _ }) (v := ?_) rfl (by kernel_rfl) (by kernel_rfl) (by kernel_rfl) (fun _ _ _ h => h) (Or.inl ⟨by rfl, ?_⟩) (by assumption) ?_
      rotate_left 1
      · intro u s1; obtain ⟨s2, s3⟩ := s1; have k0 : u.cell? ⟨w.heap.size, 0, none⟩ = some (.int .i64 t) := (by rw [Go.Joins.cell_of_block s2]; rfl); have k1 : u.cell? ⟨w.heap.size, 1, none⟩ = some (.int .i64 lg) := (by rw [Go.Joins.cell_of_block s2]; rfl); have k2 : u.cell? ⟨w.heap.size, 2, none⟩ = some (.slice ao len cap) := (by rw [Go.Joins.cell_of_block s2]; rfl); go_simp; try with_reducible rfl
      try simp only [Act.put, List.setIfInBounds_toArray, List.set_cons_zero, List.set_cons_succ]
      refine wpAnyH_take (i := 6) (oi := { dst := some 3, op := _, type := _, pos := _, after := _, guard := _ }) (v := ?_) rfl (by kernel_rfl) (by kernel_rfl) (by kernel_rfl) (fun _ _ _ h => h) (Or.inl ⟨by rfl, ?_⟩) (by assumption) ?_
      rotate_left 1
      · intro u s1; obtain ⟨s2, s3⟩ := s1; have k0 : u.cell? ⟨w.heap.size, 0, none⟩ = some (.int .i64 t) := (by rw [Go.Joins.cell_of_block s2]; rfl); have k1 : u.cell? ⟨w.heap.size, 1, none⟩ = some (.int .i64 lg) := (by rw [Go.Joins.cell_of_block s2]; rfl); have k2 : u.cell? ⟨w.heap.size, 2, none⟩ = some (.slice ao len cap) := (by rw [Go.Joins.cell_of_block s2]; rfl); go_simp; try with_reducible rfl
      try simp only [Act.put, List.setIfInBounds_toArray, List.set_cons_zero, List.set_cons_succ]
      refine wpAnyH_done (by kernel_rfl) ?_ _
      refine NoPanic.normal ?_
      go_wp2
      go_ret2
      exact ⟨_, rfl, ho3, hB3⟩
    exact AllReadyH.nil
  exact AllReadyH.nil
end
end Go.Proofs.YtffgmpgmflbekaaGreatDoor.EL
