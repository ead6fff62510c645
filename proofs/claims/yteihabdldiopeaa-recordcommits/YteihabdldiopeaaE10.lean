/-
  put, and PutCommit, PutRow, PutGone, PutManifest.
-/
import Derived.Test.YteihabdldiopeaaE9
set_option linter.unusedVariables false
set_option linter.unusedSimpArgs false
namespace Go.Proofs.Yteihabdldiopeaa
open Go.RowKit Go.Maps

/-- The error of what is right, or not; the bytes. -/
def er (b : Bool) : Int := if b then 0 else 60
def bt (b : Bool) (l : List Int) : List Int := if b then l else []
theorem own_byte (w : World) (y : Int) : Own (w.alloc (.cells #[.int .u8 y] 5)) w.heap.size (.slice (some ⟨w.heap.size, 0, none⟩) 1 1) [y] :=
  Own.of_block (xs := [y]) (rest := []) (heap_alloc_new w (.cells #[.int .u8 y] 5)) (Nat.le_refl _) rfl (by unfold maxLen; omega)

/-- What 'commits' answers. -/
def kindC : Value := .agg #[.int .u8 67, .func (.func 55) #[] #[], .func (.func 56) #[] #[], .func (.func 60) #[] #[]]
theorem enter_rightC : ∀ args w, (callFunc 55 args).run Try.prog w = .ok (.enter 55 args) w := enters_of Try.func55 (by kernel_rfl) rfl
theorem enter_putC : ∀ args w, (callFunc 56 args).run Try.prog w = .ok (.enter 56 args) w := enters_of Try.func56 (by kernel_rfl) rfl
theorem enter_takeC : ∀ args w, (callFunc 60 args).run Try.prog w = .ok (.enter 60 args) w := enters_of Try.func60 (by kernel_rfl) rfl

section
variable {w : World}
set_option maxRecDepth 100000
set_option maxHeartbeats 4000000
theorem kindC_any : Calls Try.prog 33 #[] w fun e w' => e = .returned kindC ∧ Below w.heap.size w w' := by
  have hb : Below w.heap.size w (w.alloc (.cells #[.int .u8 67, .func (.func 55) #[] #[], .func (.func 56) #[] #[], .func (.func 60) #[] #[]] 64)) := (Below.refl _ _).alloc (Nat.le_refl _) _
  go_enter Try.func33, Try.ntmps33
  go_wp2
  refine bodyPost_ret (v := kindC) (by simp [results, Try.results33, go_sem, kindC]) rfl ⟨rfl, hb⟩

theorem putC_any {ao : Option Addr} {len cap : Nat} {ws : List Wr} (t : Int) (hs : Seq 3 Wr.cells w ao len cap ws) :
    Calls Try.prog 32 #[kindC, .agg #[.int .i64 t, .slice ao len cap]] w fun e w' => ∃ v', e = .returned (.tuple #[v', .int .i64 (er (rightC ⟨t, ws⟩))]) ∧ Own w' w.heap.size v' (bt (rightC ⟨t, ws⟩) (cb ⟨t, ws⟩)) ∧ Below w.heap.size w w' := by
  have hA : Below w.heap.size w ((w.alloc (.cells #[.int .u8 67, .func (.func 55) #[] #[], .func (.func 56) #[] #[], .func (.func 60) #[] #[]] 64)).alloc (.cells #[.int .i64 t, .slice ao len cap] 26)) := ((Below.refl _ _).alloc (Nat.le_refl _) _).alloc (by simp) _
  have eR := enter_rightC
  have eP := enter_putC
  have hz : ((w.alloc (.cells #[.int .u8 67, .func (.func 55) #[] #[], .func (.func 56) #[] #[], .func (.func 60) #[] #[]] 64)).alloc (.cells #[.int .i64 t, .slice ao len cap] 26)).heap.size = w.heap.size + 2 := by simp
  have kb : ((w.alloc (.cells #[.int .u8 67, .func (.func 55) #[] #[], .func (.func 56) #[] #[], .func (.func 60) #[] #[]] 64)).alloc (.cells #[.int .i64 t, .slice ao len cap] 26)).heap[w.heap.size]? = some (.cells #[.int .u8 67, .func (.func 55) #[] #[], .func (.func 56) #[] #[], .func (.func 60) #[] #[]] 64 (0, 0)) := (blk_alloc' (w.alloc (.cells #[.int .u8 67, .func (.func 55) #[] #[], .func (.func 56) #[] #[], .func (.func 60) #[] #[]] 64)) (.cells #[.int .i64 t, .slice ao len cap] 26) w.heap.size (by simp)).trans (heap_alloc_new w _)
  have xb : ((w.alloc (.cells #[.int .u8 67, .func (.func 55) #[] #[], .func (.func 56) #[] #[], .func (.func 60) #[] #[]] 64)).alloc (.cells #[.int .i64 t, .slice ao len cap] 26)).heap[w.heap.size + 1]? = some (.cells #[.int .i64 t, .slice ao len cap] 26 (0, 0)) := by
    have := heap_alloc_new (w.alloc (.cells #[.int .u8 67, .func (.func 55) #[] #[], .func (.func 56) #[] #[], .func (.func 60) #[] #[]] 64)) (.cells #[.int .i64 t, .slice ao len cap] 26)
    rwa [show (w.alloc (.cells #[.int .u8 67, .func (.func 55) #[] #[], .func (.func 56) #[] #[], .func (.func 60) #[] #[]] 64)).heap.size = w.heap.size + 1 from by simp] at this
  have hright : Calls Try.prog 55 #[.agg #[.int .i64 t, .slice ao len cap]] ((w.alloc (.cells #[.int .u8 67, .func (.func 55) #[] #[], .func (.func 56) #[] #[], .func (.func 60) #[] #[]] 64)).alloc (.cells #[.int .i64 t, .slice ao len cap] 26)) _ := rightCommit_any t (hs.keep hA)
  have hlow : 0 < len → ∀ b off, ao = some ⟨b, off, none⟩ → b < w.heap.size := fun h0 b off e => by
    obtain ⟨b', off', e', hb, _⟩ := hs.2.2.2 h0
    rw [e] at e'
    cases e'
    exact hb
  cases hr : rightC ⟨t, ws⟩ with
  | false =>
    have HR := hide3 hright
    clear hright
    unfold kindC
    go_enter Try.func32, Try.ntmps32
    go_wp2_with fail
    refine HR.out.mono ?_
    rintro e w1 ⟨rfl, hb1⟩
    rw [hr]
    have hB1 : Below w.heap.size w w1 := hA.trans (hb1.mono (by omega))
    go_wp2
    go_ret2
    exact ⟨_, rfl, World.ownsRow_nil _ _ _ _, hB1⟩
  | true =>
    have HR := hide3 hright
    clear hright
    unfold kindC
    go_enter Try.func32, Try.ntmps32
    go_wp2_with fail
    refine HR.out.mono ?_
    rintro e w1 ⟨rfl, hb1⟩
    rw [hr]
    have hB1 : Below w.heap.size w w1 := hA.trans (hb1.mono (by omega))
    have j0 : w1.cell? ⟨w.heap.size, 0, none⟩ = some (.int .u8 67) := by rw [Go.Joins.cell_of_block ((hb1.block w.heap.size (by omega)).trans kb)]; rfl
    have j2 : w1.cell? ⟨w.heap.size, 2, none⟩ = some (.func (.func 56) #[] #[]) := by rw [Go.Joins.cell_of_block ((hb1.block w.heap.size (by omega)).trans kb)]; rfl
    have i0 : w1.cell? ⟨w.heap.size + 1, 0, none⟩ = some (.int .i64 t) := by rw [Go.Joins.cell_of_block ((hb1.block (w.heap.size + 1) (by omega)).trans xb)]; rfl
    have i1 : w1.cell? ⟨w.heap.size + 1, 1, none⟩ = some (.slice ao len cap) := by rw [Go.Joins.cell_of_block ((hb1.block (w.heap.size + 1) (by omega)).trans xb)]; rfl
    have hz1 := hb1.size
    have l0 : (w1.alloc (.cells #[.int .u8 67] 5)).cell? ⟨w.heap.size + 1, 0, none⟩ = some (.int .i64 t) := by rw [Go.Joins.cell_of_block ((blk_alloc' w1 (.cells #[.int .u8 67] 5) (w.heap.size + 1) (by omega)).trans ((hb1.block (w.heap.size + 1) (by omega)).trans xb))]; rfl
    have l1 : (w1.alloc (.cells #[.int .u8 67] 5)).cell? ⟨w.heap.size + 1, 1, none⟩ = some (.slice ao len cap) := by rw [Go.Joins.cell_of_block ((blk_alloc' w1 (.cells #[.int .u8 67] 5) (w.heap.size + 1) (by omega)).trans ((hb1.block (w.heap.size + 1) (by omega)).trans xb))]; rfl
    have hown := (own_byte w1 67).low (base' := w.heap.size) (by omega)
    have hal1 : Below w1.heap.size w1 (w1.alloc (.cells #[.int .u8 67] 5)) := (Below.refl _ _).alloc (Nat.le_refl _) _
    have hB2 : Below w.heap.size w (w1.alloc (.cells #[.int .u8 67] 5)) := hB1.trans (hal1.mono (by omega))
    have hz2 := hal1.size
    have HP := hide3 (putCommit1_any t hown (by omega) (hs.keep hB2) hlow hr (by simp))
    have hvb := (fun k hk => (World.ownsRow.lt hown k hk).1)
    clear hown kb xb hA hb1 HR
    go_wp2_with fail
    refine HP.out.mono ?_
    rintro e w2 ⟨v2, rfl, ho2, p2⟩
    have hB3 : Below w.heap.size w w2 := hB2.trans (p2.blow hvb (by omega))
    clear HP hB2 hvb p2
    go_wp2
    go_ret2
    exact ⟨_, rfl, ho2, hB3⟩

theorem PutCommit_any {ao : Option Addr} {len cap : Nat} {ws : List Wr} (t : Int) (hs : Seq 3 Wr.cells w ao len cap ws) :
    Calls Try.prog 14 #[.agg #[.int .i64 t, .slice ao len cap]] w fun e w' => ∃ v', e = .returned (.tuple #[v', .int .i64 (er (rightC ⟨t, ws⟩))]) ∧ Own w' w.heap.size v' (bt (rightC ⟨t, ws⟩) (cb ⟨t, ws⟩)) ∧ Below w.heap.size w w' := by
  have hy0 : w.heap.size < (w.alloc (.cells #[.int .i64 t, .slice ao len cap] 26)).heap.size := by simp
  go_enter Try.func14, Try.ntmps14
  go_wp2
  refine wp_region_noPanic ?_
  refine wp_region_held_drew (S := fun u => u.heap[w.heap.size]? = some (.cells #[.int .i64 t, .slice ao len cap] 26 (0, 0)) ∧ Below w.heap.size w u) (by kernel_rfl) (⟨heap_alloc_new w _, below_drewN ((Below.refl _ _).alloc (Nat.le_refl _) _) 1⟩) (fun hHeld => ?_)
  have hy : w.heap.size < (w.alloc (.cells #[.int .i64 t, .slice ao len cap] 26)).drew.heap.size := hy0
  refine wpAnyH_take (i := 1) (oi := { dst := some 5, op := _, type := _, pos := _, after := _, guard := _ }) (v := ?_) rfl (by kernel_rfl) (by kernel_rfl) (by kernel_rfl) (fun _ _ _ h => h) (Or.inl ⟨by rfl, ?_⟩) (by assumption) ?_
  rotate_left 1
  · intro u s1; obtain ⟨s2, s3⟩ := s1; have k0 : u.cell? ⟨w.heap.size, 0, none⟩ = some (.int .i64 t) := (by rw [Go.Joins.cell_of_block s2]; rfl); have k1 : u.cell? ⟨w.heap.size, 1, none⟩ = some (.slice ao len cap) := (by rw [Go.Joins.cell_of_block s2]; rfl); go_simp; try with_reducible rfl
  try simp only [Act.put, List.setIfInBounds_toArray, List.set_cons_zero, List.set_cons_succ]
  refine wpAnyH_ready (rs := [0]) (by kernel_rfl) (by simp) ?_
  refine AllReadyH.cons (o := { dst := some 4, op := _, type := _, pos := _, after := _, guard := _ }) rfl (fun K hK => ?_) ?_
  · go_simp
    refine (kindC_any).mono ?_
    rintro e w1 ⟨rfl, hb1⟩
    go_wp2_with fail
    have B1 := hHeld.2.trans (hb1.mono hHeld.2.size)
    have hz1 := hb1.size
    refine hK.out _ _ ⟨(hb1.block w.heap.size hy).trans hHeld.1, B1⟩ (fun hHeld => ?_)
    clear hK K
    try simp only [Act.put, List.setIfInBounds_toArray, List.set_cons_zero, List.set_cons_succ]
    refine wpAnyH_ready (rs := [2]) (by kernel_rfl) (by simp) ?_
    refine AllReadyH.cons (o := { dst := some 6, op := _, type := _, pos := _, after := _, guard := _ }) rfl (fun K hK => ?_) ?_
    · go_simp
      refine (putC_any t (hs.keep hHeld.2)).mono ?_
      rintro e w2 ⟨v2, rfl, ho2, hb2⟩
      go_wp2_with fail
      have hle : w.heap.size ≤ w1.heap.size := by omega
      have ho3 := ho2.low hle
      have hB3 := hHeld.2.trans (hb2.mono hle)
      refine hK.out _ _ ⟨(hb2.block w.heap.size (by omega)).trans hHeld.1, hB3⟩ (fun hHeld => ?_)
      clear hK K
      try simp only [Act.put, List.setIfInBounds_toArray, List.set_cons_zero, List.set_cons_succ]
      refine wpAnyH_take (i := 3) (oi := { dst := some 7, op := _, type := _, pos := _, after := _, guard := _ }) (v := ?_) rfl (by kernel_rfl) (by kernel_rfl) (by kernel_rfl) (fun _ _ _ h => h) (Or.inl ⟨by rfl, ?_⟩) (by assumption) ?_
      rotate_left 1
      · intro u s1; obtain ⟨s2, s3⟩ := s1; have k0 : u.cell? ⟨w.heap.size, 0, none⟩ = some (.int .i64 t) := (by rw [Go.Joins.cell_of_block s2]; rfl); have k1 : u.cell? ⟨w.heap.size, 1, none⟩ = some (.slice ao len cap) := (by rw [Go.Joins.cell_of_block s2]; rfl); go_simp; try with_reducible rfl
      try simp only [Act.put, List.setIfInBounds_toArray, List.set_cons_zero, List.set_cons_succ]
      refine wpAnyH_take (i := 4) (oi := { dst := some 8, op := _, type := _, pos := _, after := _, guard := _ }) (v := ?_) rfl (by kernel_rfl) (by kernel_rfl) (by kernel_rfl) (fun _ _ _ h => h) (Or.inl ⟨by rfl, ?_⟩) (by assumption) ?_
      rotate_left 1
      · intro u s1; obtain ⟨s2, s3⟩ := s1; have k0 : u.cell? ⟨w.heap.size, 0, none⟩ = some (.int .i64 t) := (by rw [Go.Joins.cell_of_block s2]; rfl); have k1 : u.cell? ⟨w.heap.size, 1, none⟩ = some (.slice ao len cap) := (by rw [Go.Joins.cell_of_block s2]; rfl); go_simp; try with_reducible rfl
      try simp only [Act.put, List.setIfInBounds_toArray, List.set_cons_zero, List.set_cons_succ]
      refine wpAnyH_take (i := 5) (oi := { dst := some 2, op := _, type := _, pos := _, after := _, guard := _ }) (v := ?_) rfl (by kernel_rfl) (by kernel_rfl) (by kernel_rfl) (fun _ _ _ h => h) (Or.inl ⟨by rfl, ?_⟩) (by assumption) ?_
      rotate_left 1
      · intro u s1; obtain ⟨s2, s3⟩ := s1; have k0 : u.cell? ⟨w.heap.size, 0, none⟩ = some (.int .i64 t) := (by rw [Go.Joins.cell_of_block s2]; rfl); have k1 : u.cell? ⟨w.heap.size, 1, none⟩ = some (.slice ao len cap) := (by rw [Go.Joins.cell_of_block s2]; rfl); go_simp; try with_reducible rfl
      try simp only [Act.put, List.setIfInBounds_toArray, List.set_cons_zero, List.set_cons_succ]
      refine wpAnyH_take (i := 6) (oi := { dst := some 3, op := _, type := _, pos := _, after := _, guard := _ }) (v := ?_) rfl (by kernel_rfl) (by kernel_rfl) (by kernel_rfl) (fun _ _ _ h => h) (Or.inl ⟨by rfl, ?_⟩) (by assumption) ?_
      rotate_left 1
      · intro u s1; obtain ⟨s2, s3⟩ := s1; have k0 : u.cell? ⟨w.heap.size, 0, none⟩ = some (.int .i64 t) := (by rw [Go.Joins.cell_of_block s2]; rfl); have k1 : u.cell? ⟨w.heap.size, 1, none⟩ = some (.slice ao len cap) := (by rw [Go.Joins.cell_of_block s2]; rfl); go_simp; try with_reducible rfl
      try simp only [Act.put, List.setIfInBounds_toArray, List.set_cons_zero, List.set_cons_succ]
      refine wpAnyH_done (by kernel_rfl) ?_ _
      refine NoPanic.normal ?_
      go_wp2
      go_ret2
      exact ⟨_, rfl, ho3, hB3⟩
    exact AllReadyH.nil
  exact AllReadyH.nil
end

/-- What 'rows' answers. -/
def kindR : Value := .agg #[.int .u8 82, .func (.func 66) #[] #[], .func (.func 68) #[] #[], .func (.func 70) #[] #[]]
theorem enter_rightR : ∀ args w, (callFunc 66 args).run Try.prog w = .ok (.enter 66 args) w := enters_of Try.func66 (by kernel_rfl) rfl
theorem enter_putR : ∀ args w, (callFunc 68 args).run Try.prog w = .ok (.enter 68 args) w := enters_of Try.func68 (by kernel_rfl) rfl
theorem enter_takeR : ∀ args w, (callFunc 70 args).run Try.prog w = .ok (.enter 70 args) w := enters_of Try.func70 (by kernel_rfl) rfl

section
variable {w : World}
set_option maxRecDepth 100000
set_option maxHeartbeats 4000000
theorem kindR_any : Calls Try.prog 38 #[] w fun e w' => e = .returned kindR ∧ Below w.heap.size w w' := by
  have hb : Below w.heap.size w (w.alloc (.cells #[.int .u8 82, .func (.func 66) #[] #[], .func (.func 68) #[] #[], .func (.func 70) #[] #[]] 72)) := (Below.refl _ _).alloc (Nat.le_refl _) _
  go_enter Try.func38, Try.ntmps38
  go_wp2
  refine bodyPost_ret (v := kindR) (by simp [results, Try.results38, go_sem, kindR]) rfl ⟨rfl, hb⟩

theorem putR_any (r : Rw) :
    Calls Try.prog 37 #[kindR, r.v] w fun e w' => ∃ v', e = .returned (.tuple #[v', .int .i64 (er (rightR r))]) ∧ Own w' w.heap.size v' (bt (rightR r) (rb r)) ∧ Below w.heap.size w w' := by
  have hA : Below w.heap.size w ((w.alloc (.cells #[.int .u8 82, .func (.func 66) #[] #[], .func (.func 68) #[] #[], .func (.func 70) #[] #[]] 72)).alloc (.cells #[.string r.key, .string r.val, .int .i64 r.time] 36)) := ((Below.refl _ _).alloc (Nat.le_refl _) _).alloc (by simp) _
  have eR := enter_rightR
  have eP := enter_putR
  have hz : ((w.alloc (.cells #[.int .u8 82, .func (.func 66) #[] #[], .func (.func 68) #[] #[], .func (.func 70) #[] #[]] 72)).alloc (.cells #[.string r.key, .string r.val, .int .i64 r.time] 36)).heap.size = w.heap.size + 2 := by simp
  have kb : ((w.alloc (.cells #[.int .u8 82, .func (.func 66) #[] #[], .func (.func 68) #[] #[], .func (.func 70) #[] #[]] 72)).alloc (.cells #[.string r.key, .string r.val, .int .i64 r.time] 36)).heap[w.heap.size]? = some (.cells #[.int .u8 82, .func (.func 66) #[] #[], .func (.func 68) #[] #[], .func (.func 70) #[] #[]] 72 (0, 0)) := (blk_alloc' (w.alloc (.cells #[.int .u8 82, .func (.func 66) #[] #[], .func (.func 68) #[] #[], .func (.func 70) #[] #[]] 72)) (.cells #[.string r.key, .string r.val, .int .i64 r.time] 36) w.heap.size (by simp)).trans (heap_alloc_new w _)
  have xb : ((w.alloc (.cells #[.int .u8 82, .func (.func 66) #[] #[], .func (.func 68) #[] #[], .func (.func 70) #[] #[]] 72)).alloc (.cells #[.string r.key, .string r.val, .int .i64 r.time] 36)).heap[w.heap.size + 1]? = some (.cells #[.string r.key, .string r.val, .int .i64 r.time] 36 (0, 0)) := by
    have := heap_alloc_new (w.alloc (.cells #[.int .u8 82, .func (.func 66) #[] #[], .func (.func 68) #[] #[], .func (.func 70) #[] #[]] 72)) (.cells #[.string r.key, .string r.val, .int .i64 r.time] 36)
    rwa [show (w.alloc (.cells #[.int .u8 82, .func (.func 66) #[] #[], .func (.func 68) #[] #[], .func (.func 70) #[] #[]] 72)).heap.size = w.heap.size + 1 from by simp] at this
  have hright : Calls Try.prog 66 #[r.v] ((w.alloc (.cells #[.int .u8 82, .func (.func 66) #[] #[], .func (.func 68) #[] #[], .func (.func 70) #[] #[]] 72)).alloc (.cells #[.string r.key, .string r.val, .int .i64 r.time] 36)) _ := rightRow_any _ r
  cases hr : rightR r with
  | false =>
    have HR := hide3 hright
    clear hright
    unfold kindR Rw.v
    go_enter Try.func37, Try.ntmps37
    go_wp2_with fail
    refine HR.out.mono ?_
    rintro e w1 ⟨rfl, hb1⟩
    rw [hr]
    have hB1 : Below w.heap.size w w1 := hA.trans (hb1.mono (by omega))
    go_wp2
    go_ret2
    exact ⟨_, rfl, World.ownsRow_nil _ _ _ _, hB1⟩
  | true =>
    have HR := hide3 hright
    clear hright
    unfold kindR Rw.v
    go_enter Try.func37, Try.ntmps37
    go_wp2_with fail
    refine HR.out.mono ?_
    rintro e w1 ⟨rfl, hb1⟩
    rw [hr]
    have hB1 : Below w.heap.size w w1 := hA.trans (hb1.mono (by omega))
    have j0 : w1.cell? ⟨w.heap.size, 0, none⟩ = some (.int .u8 82) := by rw [Go.Joins.cell_of_block ((hb1.block w.heap.size (by omega)).trans kb)]; rfl
    have j2 : w1.cell? ⟨w.heap.size, 2, none⟩ = some (.func (.func 68) #[] #[]) := by rw [Go.Joins.cell_of_block ((hb1.block w.heap.size (by omega)).trans kb)]; rfl
    have i0 : w1.cell? ⟨w.heap.size + 1, 0, none⟩ = some (.string r.key) := by rw [Go.Joins.cell_of_block ((hb1.block (w.heap.size + 1) (by omega)).trans xb)]; rfl
    have i1 : w1.cell? ⟨w.heap.size + 1, 1, none⟩ = some (.string r.val) := by rw [Go.Joins.cell_of_block ((hb1.block (w.heap.size + 1) (by omega)).trans xb)]; rfl
    have i2 : w1.cell? ⟨w.heap.size + 1, 2, none⟩ = some (.int .i64 r.time) := by rw [Go.Joins.cell_of_block ((hb1.block (w.heap.size + 1) (by omega)).trans xb)]; rfl
    have hz1 := hb1.size
    have l0 : (w1.alloc (.cells #[.int .u8 82] 5)).cell? ⟨w.heap.size + 1, 0, none⟩ = some (.string r.key) := by rw [Go.Joins.cell_of_block ((blk_alloc' w1 (.cells #[.int .u8 82] 5) (w.heap.size + 1) (by omega)).trans ((hb1.block (w.heap.size + 1) (by omega)).trans xb))]; rfl
    have l1 : (w1.alloc (.cells #[.int .u8 82] 5)).cell? ⟨w.heap.size + 1, 1, none⟩ = some (.string r.val) := by rw [Go.Joins.cell_of_block ((blk_alloc' w1 (.cells #[.int .u8 82] 5) (w.heap.size + 1) (by omega)).trans ((hb1.block (w.heap.size + 1) (by omega)).trans xb))]; rfl
    have l2 : (w1.alloc (.cells #[.int .u8 82] 5)).cell? ⟨w.heap.size + 1, 2, none⟩ = some (.int .i64 r.time) := by rw [Go.Joins.cell_of_block ((blk_alloc' w1 (.cells #[.int .u8 82] 5) (w.heap.size + 1) (by omega)).trans ((hb1.block (w.heap.size + 1) (by omega)).trans xb))]; rfl
    have hown := (own_byte w1 82).low (base' := w.heap.size) (by omega)
    have hal1 : Below w1.heap.size w1 (w1.alloc (.cells #[.int .u8 82] 5)) := (Below.refl _ _).alloc (Nat.le_refl _) _
    have hB2 : Below w.heap.size w (w1.alloc (.cells #[.int .u8 82] 5)) := hB1.trans (hal1.mono (by omega))
    have hz2 := hal1.size
    have HP := hide3 (putRow_any r hown (by omega) hr (by simp))
    have hvb := (fun k hk => (World.ownsRow.lt hown k hk).1)
    clear hown kb xb hA hb1 HR
    go_wp2_with fail
    refine HP.out.mono ?_
    rintro e w2 ⟨v2, rfl, ho2, p2⟩
    have hB3 : Below w.heap.size w w2 := hB2.trans (p2.blow hvb (by omega))
    clear HP hB2 hvb p2
    go_wp2
    go_ret2
    exact ⟨_, rfl, ho2, hB3⟩

theorem PutRow_any (r : Rw) :
    Calls Try.prog 17 #[r.v] w fun e w' => ∃ v', e = .returned (.tuple #[v', .int .i64 (er (rightR r))]) ∧ Own w' w.heap.size v' (bt (rightR r) (rb r)) ∧ Below w.heap.size w w' := by
  have hy0 : w.heap.size < (w.alloc (.cells #[.string r.key, .string r.val, .int .i64 r.time] 36)).heap.size := by simp
  unfold Rw.v
  go_enter Try.func17, Try.ntmps17
  go_wp2
  refine wp_region_noPanic ?_
  refine wp_region_held_drew (S := fun u => u.heap[w.heap.size]? = some (.cells #[.string r.key, .string r.val, .int .i64 r.time] 36 (0, 0)) ∧ Below w.heap.size w u) (by kernel_rfl) (⟨heap_alloc_new w _, below_drewN ((Below.refl _ _).alloc (Nat.le_refl _) _) 1⟩) (fun hHeld => ?_)
  have hy : w.heap.size < (w.alloc (.cells #[.string r.key, .string r.val, .int .i64 r.time] 36)).drew.heap.size := hy0
  refine wpAnyH_take (i := 1) (oi := { dst := some 5, op := _, type := _, pos := _, after := _, guard := _ }) (v := ?_) rfl (by kernel_rfl) (by kernel_rfl) (by kernel_rfl) (fun _ _ _ h => h) (Or.inl ⟨by rfl, ?_⟩) (by assumption) ?_
  rotate_left 1
  · intro u s1; obtain ⟨s2, s3⟩ := s1; have k0 : u.cell? ⟨w.heap.size, 0, none⟩ = some (.string r.key) := (by rw [Go.Joins.cell_of_block s2]; rfl); have k1 : u.cell? ⟨w.heap.size, 1, none⟩ = some (.string r.val) := (by rw [Go.Joins.cell_of_block s2]; rfl); have k2 : u.cell? ⟨w.heap.size, 2, none⟩ = some (.int .i64 r.time) := (by rw [Go.Joins.cell_of_block s2]; rfl); go_simp; try with_reducible rfl
  try simp only [Act.put, List.setIfInBounds_toArray, List.set_cons_zero, List.set_cons_succ]
  refine wpAnyH_ready (rs := [0]) (by kernel_rfl) (by simp) ?_
  refine AllReadyH.cons (o := { dst := some 4, op := _, type := _, pos := _, after := _, guard := _ }) rfl (fun K hK => ?_) ?_
  · go_simp
    refine (kindR_any).mono ?_
    rintro e w1 ⟨rfl, hb1⟩
    go_wp2_with fail
    have B1 := hHeld.2.trans (hb1.mono hHeld.2.size)
    have hz1 := hb1.size
    refine hK.out _ _ ⟨(hb1.block w.heap.size hy).trans hHeld.1, B1⟩ (fun hHeld => ?_)
    clear hK K
    try simp only [Act.put, List.setIfInBounds_toArray, List.set_cons_zero, List.set_cons_succ]
    refine wpAnyH_ready (rs := [2]) (by kernel_rfl) (by simp) ?_
    refine AllReadyH.cons (o := { dst := some 6, op := _, type := _, pos := _, after := _, guard := _ }) rfl (fun K hK => ?_) ?_
    · go_simp
      refine (putR_any r).mono ?_
      rintro e w2 ⟨v2, rfl, ho2, hb2⟩
      go_wp2_with fail
      have hle : w.heap.size ≤ w1.heap.size := by omega
      have ho3 := ho2.low hle
      have hB3 := hHeld.2.trans (hb2.mono hle)
      refine hK.out _ _ ⟨(hb2.block w.heap.size (by omega)).trans hHeld.1, hB3⟩ (fun hHeld => ?_)
      clear hK K
      try simp only [Act.put, List.setIfInBounds_toArray, List.set_cons_zero, List.set_cons_succ]
      refine wpAnyH_take (i := 3) (oi := { dst := some 7, op := _, type := _, pos := _, after := _, guard := _ }) (v := ?_) rfl (by kernel_rfl) (by kernel_rfl) (by kernel_rfl) (fun _ _ _ h => h) (Or.inl ⟨by rfl, ?_⟩) (by assumption) ?_
      rotate_left 1
      · intro u s1; obtain ⟨s2, s3⟩ := s1; have k0 : u.cell? ⟨w.heap.size, 0, none⟩ = some (.string r.key) := (by rw [Go.Joins.cell_of_block s2]; rfl); have k1 : u.cell? ⟨w.heap.size, 1, none⟩ = some (.string r.val) := (by rw [Go.Joins.cell_of_block s2]; rfl); have k2 : u.cell? ⟨w.heap.size, 2, none⟩ = some (.int .i64 r.time) := (by rw [Go.Joins.cell_of_block s2]; rfl); go_simp; try with_reducible rfl
      try simp only [Act.put, List.setIfInBounds_toArray, List.set_cons_zero, List.set_cons_succ]
      refine wpAnyH_take (i := 4) (oi := { dst := some 8, op := _, type := _, pos := _, after := _, guard := _ }) (v := ?_) rfl (by kernel_rfl) (by kernel_rfl) (by kernel_rfl) (fun _ _ _ h => h) (Or.inl ⟨by rfl, ?_⟩) (by assumption) ?_
      rotate_left 1
      · intro u s1; obtain ⟨s2, s3⟩ := s1; have k0 : u.cell? ⟨w.heap.size, 0, none⟩ = some (.string r.key) := (by rw [Go.Joins.cell_of_block s2]; rfl); have k1 : u.cell? ⟨w.heap.size, 1, none⟩ = some (.string r.val) := (by rw [Go.Joins.cell_of_block s2]; rfl); have k2 : u.cell? ⟨w.heap.size, 2, none⟩ = some (.int .i64 r.time) := (by rw [Go.Joins.cell_of_block s2]; rfl); go_simp; try with_reducible rfl
      try simp only [Act.put, List.setIfInBounds_toArray, List.set_cons_zero, List.set_cons_succ]
      refine wpAnyH_take (i := 5) (oi := { dst := some 2, op := _, type := _, pos := _, after := _, guard := _ }) (v := ?_) rfl (by kernel_rfl) (by kernel_rfl) (by kernel_rfl) (fun _ _ _ h => h) (Or.inl ⟨by rfl, ?_⟩) (by assumption) ?_
      rotate_left 1
      · intro u s1; obtain ⟨s2, s3⟩ := s1; have k0 : u.cell? ⟨w.heap.size, 0, none⟩ = some (.string r.key) := (by rw [Go.Joins.cell_of_block s2]; rfl); have k1 : u.cell? ⟨w.heap.size, 1, none⟩ = some (.string r.val) := (by rw [Go.Joins.cell_of_block s2]; rfl); have k2 : u.cell? ⟨w.heap.size, 2, none⟩ = some (.int .i64 r.time) := (by rw [Go.Joins.cell_of_block s2]; rfl); go_simp; try with_reducible rfl
      try simp only [Act.put, List.setIfInBounds_toArray, List.set_cons_zero, List.set_cons_succ]
      refine wpAnyH_take (i := 6) (oi := { dst := some 3, op := _, type := _, pos := _, after := _, guard := _ }) (v := ?_) rfl (by kernel_rfl) (by kernel_rfl) (by kernel_rfl) (fun _ _ _ h => h) (Or.inl ⟨by rfl, ?_⟩) (by assumption) ?_
      rotate_left 1
      · intro u s1; obtain ⟨s2, s3⟩ := s1; have k0 : u.cell? ⟨w.heap.size, 0, none⟩ = some (.string r.key) := (by rw [Go.Joins.cell_of_block s2]; rfl); have k1 : u.cell? ⟨w.heap.size, 1, none⟩ = some (.string r.val) := (by rw [Go.Joins.cell_of_block s2]; rfl); have k2 : u.cell? ⟨w.heap.size, 2, none⟩ = some (.int .i64 r.time) := (by rw [Go.Joins.cell_of_block s2]; rfl); go_simp; try with_reducible rfl
      try simp only [Act.put, List.setIfInBounds_toArray, List.set_cons_zero, List.set_cons_succ]
      refine wpAnyH_done (by kernel_rfl) ?_ _
      refine NoPanic.normal ?_
      go_wp2
      go_ret2
      exact ⟨_, rfl, ho3, hB3⟩
    exact AllReadyH.nil
  exact AllReadyH.nil
end

/-- What 'gones' answers. -/
def kindG : Value := .agg #[.int .u8 71, .func (.func 72) #[] #[], .func (.func 73) #[] #[], .func (.func 74) #[] #[]]
theorem enter_rightG : ∀ args w, (callFunc 72 args).run Try.prog w = .ok (.enter 72 args) w := enters_of Try.func72 (by kernel_rfl) rfl
theorem enter_putG : ∀ args w, (callFunc 73 args).run Try.prog w = .ok (.enter 73 args) w := enters_of Try.func73 (by kernel_rfl) rfl
theorem enter_takeG : ∀ args w, (callFunc 74 args).run Try.prog w = .ok (.enter 74 args) w := enters_of Try.func74 (by kernel_rfl) rfl

section
variable {w : World}
set_option maxRecDepth 100000
set_option maxHeartbeats 4000000
theorem kindG_any : Calls Try.prog 41 #[] w fun e w' => e = .returned kindG ∧ Below w.heap.size w w' := by
  have hb : Below w.heap.size w (w.alloc (.cells #[.int .u8 71, .func (.func 72) #[] #[], .func (.func 73) #[] #[], .func (.func 74) #[] #[]] 79)) := (Below.refl _ _).alloc (Nat.le_refl _) _
  go_enter Try.func41, Try.ntmps41
  go_wp2
  refine bodyPost_ret (v := kindG) (by simp [results, Try.results41, go_sem, kindG]) rfl ⟨rfl, hb⟩

theorem putG_any (g : Gn) :
    Calls Try.prog 40 #[kindG, g.v] w fun e w' => ∃ v', e = .returned (.tuple #[v', .int .i64 (er (rightG g))]) ∧ Own w' w.heap.size v' (bt (rightG g) (gb g)) ∧ Below w.heap.size w w' := by
  have hA : Below w.heap.size w ((w.alloc (.cells #[.int .u8 71, .func (.func 72) #[] #[], .func (.func 73) #[] #[], .func (.func 74) #[] #[]] 79)).alloc (.cells #[.string g.key, .int .i64 g.time] 39)) := ((Below.refl _ _).alloc (Nat.le_refl _) _).alloc (by simp) _
  have eR := enter_rightG
  have eP := enter_putG
  have hz : ((w.alloc (.cells #[.int .u8 71, .func (.func 72) #[] #[], .func (.func 73) #[] #[], .func (.func 74) #[] #[]] 79)).alloc (.cells #[.string g.key, .int .i64 g.time] 39)).heap.size = w.heap.size + 2 := by simp
  have kb : ((w.alloc (.cells #[.int .u8 71, .func (.func 72) #[] #[], .func (.func 73) #[] #[], .func (.func 74) #[] #[]] 79)).alloc (.cells #[.string g.key, .int .i64 g.time] 39)).heap[w.heap.size]? = some (.cells #[.int .u8 71, .func (.func 72) #[] #[], .func (.func 73) #[] #[], .func (.func 74) #[] #[]] 79 (0, 0)) := (blk_alloc' (w.alloc (.cells #[.int .u8 71, .func (.func 72) #[] #[], .func (.func 73) #[] #[], .func (.func 74) #[] #[]] 79)) (.cells #[.string g.key, .int .i64 g.time] 39) w.heap.size (by simp)).trans (heap_alloc_new w _)
  have xb : ((w.alloc (.cells #[.int .u8 71, .func (.func 72) #[] #[], .func (.func 73) #[] #[], .func (.func 74) #[] #[]] 79)).alloc (.cells #[.string g.key, .int .i64 g.time] 39)).heap[w.heap.size + 1]? = some (.cells #[.string g.key, .int .i64 g.time] 39 (0, 0)) := by
    have := heap_alloc_new (w.alloc (.cells #[.int .u8 71, .func (.func 72) #[] #[], .func (.func 73) #[] #[], .func (.func 74) #[] #[]] 79)) (.cells #[.string g.key, .int .i64 g.time] 39)
    rwa [show (w.alloc (.cells #[.int .u8 71, .func (.func 72) #[] #[], .func (.func 73) #[] #[], .func (.func 74) #[] #[]] 79)).heap.size = w.heap.size + 1 from by simp] at this
  have hright : Calls Try.prog 72 #[g.v] ((w.alloc (.cells #[.int .u8 71, .func (.func 72) #[] #[], .func (.func 73) #[] #[], .func (.func 74) #[] #[]] 79)).alloc (.cells #[.string g.key, .int .i64 g.time] 39)) _ := rightGone_any _ g
  cases hr : rightG g with
  | false =>
    have HR := hide3 hright
    clear hright
    unfold kindG Gn.v
    go_enter Try.func40, Try.ntmps40
    go_wp2_with fail
    refine HR.out.mono ?_
    rintro e w1 ⟨rfl, hb1⟩
    rw [hr]
    have hB1 : Below w.heap.size w w1 := hA.trans (hb1.mono (by omega))
    go_wp2
    go_ret2
    exact ⟨_, rfl, World.ownsRow_nil _ _ _ _, hB1⟩
  | true =>
    have HR := hide3 hright
    clear hright
    unfold kindG Gn.v
    go_enter Try.func40, Try.ntmps40
    go_wp2_with fail
    refine HR.out.mono ?_
    rintro e w1 ⟨rfl, hb1⟩
    rw [hr]
    have hB1 : Below w.heap.size w w1 := hA.trans (hb1.mono (by omega))
    have j0 : w1.cell? ⟨w.heap.size, 0, none⟩ = some (.int .u8 71) := by rw [Go.Joins.cell_of_block ((hb1.block w.heap.size (by omega)).trans kb)]; rfl
    have j2 : w1.cell? ⟨w.heap.size, 2, none⟩ = some (.func (.func 73) #[] #[]) := by rw [Go.Joins.cell_of_block ((hb1.block w.heap.size (by omega)).trans kb)]; rfl
    have i0 : w1.cell? ⟨w.heap.size + 1, 0, none⟩ = some (.string g.key) := by rw [Go.Joins.cell_of_block ((hb1.block (w.heap.size + 1) (by omega)).trans xb)]; rfl
    have i1 : w1.cell? ⟨w.heap.size + 1, 1, none⟩ = some (.int .i64 g.time) := by rw [Go.Joins.cell_of_block ((hb1.block (w.heap.size + 1) (by omega)).trans xb)]; rfl
    have hz1 := hb1.size
    have l0 : (w1.alloc (.cells #[.int .u8 71] 5)).cell? ⟨w.heap.size + 1, 0, none⟩ = some (.string g.key) := by rw [Go.Joins.cell_of_block ((blk_alloc' w1 (.cells #[.int .u8 71] 5) (w.heap.size + 1) (by omega)).trans ((hb1.block (w.heap.size + 1) (by omega)).trans xb))]; rfl
    have l1 : (w1.alloc (.cells #[.int .u8 71] 5)).cell? ⟨w.heap.size + 1, 1, none⟩ = some (.int .i64 g.time) := by rw [Go.Joins.cell_of_block ((blk_alloc' w1 (.cells #[.int .u8 71] 5) (w.heap.size + 1) (by omega)).trans ((hb1.block (w.heap.size + 1) (by omega)).trans xb))]; rfl
    have hown := (own_byte w1 71).low (base' := w.heap.size) (by omega)
    have hal1 : Below w1.heap.size w1 (w1.alloc (.cells #[.int .u8 71] 5)) := (Below.refl _ _).alloc (Nat.le_refl _) _
    have hB2 : Below w.heap.size w (w1.alloc (.cells #[.int .u8 71] 5)) := hB1.trans (hal1.mono (by omega))
    have hz2 := hal1.size
    have HP := hide3 (putGone_any g hown (by omega) hr (by simp))
    have hvb := (fun k hk => (World.ownsRow.lt hown k hk).1)
    clear hown kb xb hA hb1 HR
    go_wp2_with fail
    refine HP.out.mono ?_
    rintro e w2 ⟨v2, rfl, ho2, p2⟩
    have hB3 : Below w.heap.size w w2 := hB2.trans (p2.blow hvb (by omega))
    clear HP hB2 hvb p2
    go_wp2
    go_ret2
    exact ⟨_, rfl, ho2, hB3⟩

theorem PutGone_any (g : Gn) :
    Calls Try.prog 19 #[g.v] w fun e w' => ∃ v', e = .returned (.tuple #[v', .int .i64 (er (rightG g))]) ∧ Own w' w.heap.size v' (bt (rightG g) (gb g)) ∧ Below w.heap.size w w' := by
  have hy0 : w.heap.size < (w.alloc (.cells #[.string g.key, .int .i64 g.time] 39)).heap.size := by simp
  unfold Gn.v
  go_enter Try.func19, Try.ntmps19
  go_wp2
  refine wp_region_noPanic ?_
  refine wp_region_held_drew (S := fun u => u.heap[w.heap.size]? = some (.cells #[.string g.key, .int .i64 g.time] 39 (0, 0)) ∧ Below w.heap.size w u) (by kernel_rfl) (⟨heap_alloc_new w _, below_drewN ((Below.refl _ _).alloc (Nat.le_refl _) _) 1⟩) (fun hHeld => ?_)
  have hy : w.heap.size < (w.alloc (.cells #[.string g.key, .int .i64 g.time] 39)).drew.heap.size := hy0
  refine wpAnyH_take (i := 1) (oi := { dst := some 5, op := _, type := _, pos := _, after := _, guard := _ }) (v := ?_) rfl (by kernel_rfl) (by kernel_rfl) (by kernel_rfl) (fun _ _ _ h => h) (Or.inl ⟨by rfl, ?_⟩) (by assumption) ?_
  rotate_left 1
  · intro u s1; obtain ⟨s2, s3⟩ := s1; have k0 : u.cell? ⟨w.heap.size, 0, none⟩ = some (.string g.key) := (by rw [Go.Joins.cell_of_block s2]; rfl); have k1 : u.cell? ⟨w.heap.size, 1, none⟩ = some (.int .i64 g.time) := (by rw [Go.Joins.cell_of_block s2]; rfl); go_simp; try with_reducible rfl
  try simp only [Act.put, List.setIfInBounds_toArray, List.set_cons_zero, List.set_cons_succ]
  refine wpAnyH_ready (rs := [0]) (by kernel_rfl) (by simp) ?_
  refine AllReadyH.cons (o := { dst := some 4, op := _, type := _, pos := _, after := _, guard := _ }) rfl (fun K hK => ?_) ?_
  · go_simp
    refine (kindG_any).mono ?_
    rintro e w1 ⟨rfl, hb1⟩
    go_wp2_with fail
    have B1 := hHeld.2.trans (hb1.mono hHeld.2.size)
    have hz1 := hb1.size
    refine hK.out _ _ ⟨(hb1.block w.heap.size hy).trans hHeld.1, B1⟩ (fun hHeld => ?_)
    clear hK K
    try simp only [Act.put, List.setIfInBounds_toArray, List.set_cons_zero, List.set_cons_succ]
    refine wpAnyH_ready (rs := [2]) (by kernel_rfl) (by simp) ?_
    refine AllReadyH.cons (o := { dst := some 6, op := _, type := _, pos := _, after := _, guard := _ }) rfl (fun K hK => ?_) ?_
    · go_simp
      refine (putG_any g).mono ?_
      rintro e w2 ⟨v2, rfl, ho2, hb2⟩
      go_wp2_with fail
      have hle : w.heap.size ≤ w1.heap.size := by omega
      have ho3 := ho2.low hle
      have hB3 := hHeld.2.trans (hb2.mono hle)
      refine hK.out _ _ ⟨(hb2.block w.heap.size (by omega)).trans hHeld.1, hB3⟩ (fun hHeld => ?_)
      clear hK K
      try simp only [Act.put, List.setIfInBounds_toArray, List.set_cons_zero, List.set_cons_succ]
      refine wpAnyH_take (i := 3) (oi := { dst := some 7, op := _, type := _, pos := _, after := _, guard := _ }) (v := ?_) rfl (by kernel_rfl) (by kernel_rfl) (by kernel_rfl) (fun _ _ _ h => h) (Or.inl ⟨by rfl, ?_⟩) (by assumption) ?_
      rotate_left 1
      · intro u s1; obtain ⟨s2, s3⟩ := s1; have k0 : u.cell? ⟨w.heap.size, 0, none⟩ = some (.string g.key) := (by rw [Go.Joins.cell_of_block s2]; rfl); have k1 : u.cell? ⟨w.heap.size, 1, none⟩ = some (.int .i64 g.time) := (by rw [Go.Joins.cell_of_block s2]; rfl); go_simp; try with_reducible rfl
      try simp only [Act.put, List.setIfInBounds_toArray, List.set_cons_zero, List.set_cons_succ]
      refine wpAnyH_take (i := 4) (oi := { dst := some 8, op := _, type := _, pos := _, after := _, guard := _ }) (v := ?_) rfl (by kernel_rfl) (by kernel_rfl) (by kernel_rfl) (fun _ _ _ h => h) (Or.inl ⟨by rfl, ?_⟩) (by assumption) ?_
      rotate_left 1
      · intro u s1; obtain ⟨s2, s3⟩ := s1; have k0 : u.cell? ⟨w.heap.size, 0, none⟩ = some (.string g.key) := (by rw [Go.Joins.cell_of_block s2]; rfl); have k1 : u.cell? ⟨w.heap.size, 1, none⟩ = some (.int .i64 g.time) := (by rw [Go.Joins.cell_of_block s2]; rfl); go_simp; try with_reducible rfl
      try simp only [Act.put, List.setIfInBounds_toArray, List.set_cons_zero, List.set_cons_succ]
      refine wpAnyH_take (i := 5) (oi := { dst := some 2, op := _, type := _, pos := _, after := _, guard := _ }) (v := ?_) rfl (by kernel_rfl) (by kernel_rfl) (by kernel_rfl) (fun _ _ _ h => h) (Or.inl ⟨by rfl, ?_⟩) (by assumption) ?_
      rotate_left 1
      · intro u s1; obtain ⟨s2, s3⟩ := s1; have k0 : u.cell? ⟨w.heap.size, 0, none⟩ = some (.string g.key) := (by rw [Go.Joins.cell_of_block s2]; rfl); have k1 : u.cell? ⟨w.heap.size, 1, none⟩ = some (.int .i64 g.time) := (by rw [Go.Joins.cell_of_block s2]; rfl); go_simp; try with_reducible rfl
      try simp only [Act.put, List.setIfInBounds_toArray, List.set_cons_zero, List.set_cons_succ]
      refine wpAnyH_take (i := 6) (oi := { dst := some 3, op := _, type := _, pos := _, after := _, guard := _ }) (v := ?_) rfl (by kernel_rfl) (by kernel_rfl) (by kernel_rfl) (fun _ _ _ h => h) (Or.inl ⟨by rfl, ?_⟩) (by assumption) ?_
      rotate_left 1
      · intro u s1; obtain ⟨s2, s3⟩ := s1; have k0 : u.cell? ⟨w.heap.size, 0, none⟩ = some (.string g.key) := (by rw [Go.Joins.cell_of_block s2]; rfl); have k1 : u.cell? ⟨w.heap.size, 1, none⟩ = some (.int .i64 g.time) := (by rw [Go.Joins.cell_of_block s2]; rfl); go_simp; try with_reducible rfl
      try simp only [Act.put, List.setIfInBounds_toArray, List.set_cons_zero, List.set_cons_succ]
      refine wpAnyH_done (by kernel_rfl) ?_ _
      refine NoPanic.normal ?_
      go_wp2
      go_ret2
      exact ⟨_, rfl, ho3, hB3⟩
    exact AllReadyH.nil
  exact AllReadyH.nil
end

/-- What 'manifests' answers. -/
def kindM : Value := .agg #[.int .u8 77, .func (.func 75) #[] #[], .func (.func 76) #[] #[], .func (.func 80) #[] #[]]
theorem enter_rightM : ∀ args w, (callFunc 75 args).run Try.prog w = .ok (.enter 75 args) w := enters_of Try.func75 (by kernel_rfl) rfl
theorem enter_putM : ∀ args w, (callFunc 76 args).run Try.prog w = .ok (.enter 76 args) w := enters_of Try.func76 (by kernel_rfl) rfl
theorem enter_takeM : ∀ args w, (callFunc 80 args).run Try.prog w = .ok (.enter 80 args) w := enters_of Try.func80 (by kernel_rfl) rfl

section
variable {w : World}
set_option maxRecDepth 100000
set_option maxHeartbeats 4000000
theorem kindM_any : Calls Try.prog 44 #[] w fun e w' => e = .returned kindM ∧ Below w.heap.size w w' := by
  have hb : Below w.heap.size w (w.alloc (.cells #[.int .u8 77, .func (.func 75) #[] #[], .func (.func 76) #[] #[], .func (.func 80) #[] #[]] 85)) := (Below.refl _ _).alloc (Nat.le_refl _) _
  go_enter Try.func44, Try.ntmps44
  go_wp2
  refine bodyPost_ret (v := kindM) (by simp [results, Try.results44, go_sem, kindM]) rfl ⟨rfl, hb⟩

theorem putM_any {ao : Option Addr} {len cap : Nat} {ps : List Pr} (t lg : Int) (hs : Seq 3 Pr.cells w ao len cap ps) :
    Calls Try.prog 43 #[kindM, .agg #[.int .i64 t, .int .i64 lg, .slice ao len cap]] w fun e w' => ∃ v', e = .returned (.tuple #[v', .int .i64 (er (rightM ⟨t, lg, ps⟩))]) ∧ Own w' w.heap.size v' (bt (rightM ⟨t, lg, ps⟩) (mb ⟨t, lg, ps⟩)) ∧ Below w.heap.size w w' := by
  have hA : Below w.heap.size w ((w.alloc (.cells #[.int .u8 77, .func (.func 75) #[] #[], .func (.func 76) #[] #[], .func (.func 80) #[] #[]] 85)).alloc (.cells #[.int .i64 t, .int .i64 lg, .slice ao len cap] 44)) := ((Below.refl _ _).alloc (Nat.le_refl _) _).alloc (by simp) _
  have eR := enter_rightM
  have eP := enter_putM
  have hz : ((w.alloc (.cells #[.int .u8 77, .func (.func 75) #[] #[], .func (.func 76) #[] #[], .func (.func 80) #[] #[]] 85)).alloc (.cells #[.int .i64 t, .int .i64 lg, .slice ao len cap] 44)).heap.size = w.heap.size + 2 := by simp
  have kb : ((w.alloc (.cells #[.int .u8 77, .func (.func 75) #[] #[], .func (.func 76) #[] #[], .func (.func 80) #[] #[]] 85)).alloc (.cells #[.int .i64 t, .int .i64 lg, .slice ao len cap] 44)).heap[w.heap.size]? = some (.cells #[.int .u8 77, .func (.func 75) #[] #[], .func (.func 76) #[] #[], .func (.func 80) #[] #[]] 85 (0, 0)) := (blk_alloc' (w.alloc (.cells #[.int .u8 77, .func (.func 75) #[] #[], .func (.func 76) #[] #[], .func (.func 80) #[] #[]] 85)) (.cells #[.int .i64 t, .int .i64 lg, .slice ao len cap] 44) w.heap.size (by simp)).trans (heap_alloc_new w _)
  have xb : ((w.alloc (.cells #[.int .u8 77, .func (.func 75) #[] #[], .func (.func 76) #[] #[], .func (.func 80) #[] #[]] 85)).alloc (.cells #[.int .i64 t, .int .i64 lg, .slice ao len cap] 44)).heap[w.heap.size + 1]? = some (.cells #[.int .i64 t, .int .i64 lg, .slice ao len cap] 44 (0, 0)) := by
    have := heap_alloc_new (w.alloc (.cells #[.int .u8 77, .func (.func 75) #[] #[], .func (.func 76) #[] #[], .func (.func 80) #[] #[]] 85)) (.cells #[.int .i64 t, .int .i64 lg, .slice ao len cap] 44)
    rwa [show (w.alloc (.cells #[.int .u8 77, .func (.func 75) #[] #[], .func (.func 76) #[] #[], .func (.func 80) #[] #[]] 85)).heap.size = w.heap.size + 1 from by simp] at this
  have hright : Calls Try.prog 75 #[.agg #[.int .i64 t, .int .i64 lg, .slice ao len cap]] ((w.alloc (.cells #[.int .u8 77, .func (.func 75) #[] #[], .func (.func 76) #[] #[], .func (.func 80) #[] #[]] 85)).alloc (.cells #[.int .i64 t, .int .i64 lg, .slice ao len cap] 44)) _ := rightManifest_any t lg (hs.keep hA)
  have hlow : 0 < len → ∀ b off, ao = some ⟨b, off, none⟩ → b < w.heap.size := fun h0 b off e => by
    obtain ⟨b', off', e', hb, _⟩ := hs.2.2.2 h0
    rw [e] at e'
    cases e'
    exact hb
  cases hr : rightM ⟨t, lg, ps⟩ with
  | false =>
    have HR := hide3 hright
    clear hright
    unfold kindM
    go_enter Try.func43, Try.ntmps43
    go_wp2_with fail
    refine HR.out.mono ?_
    rintro e w1 ⟨rfl, hb1⟩
    rw [hr]
    have hB1 : Below w.heap.size w w1 := hA.trans (hb1.mono (by omega))
    go_wp2
    go_ret2
    exact ⟨_, rfl, World.ownsRow_nil _ _ _ _, hB1⟩
  | true =>
    have HR := hide3 hright
    clear hright
    unfold kindM
    go_enter Try.func43, Try.ntmps43
    go_wp2_with fail
    refine HR.out.mono ?_
    rintro e w1 ⟨rfl, hb1⟩
    rw [hr]
    have hB1 : Below w.heap.size w w1 := hA.trans (hb1.mono (by omega))
    have j0 : w1.cell? ⟨w.heap.size, 0, none⟩ = some (.int .u8 77) := by rw [Go.Joins.cell_of_block ((hb1.block w.heap.size (by omega)).trans kb)]; rfl
    have j2 : w1.cell? ⟨w.heap.size, 2, none⟩ = some (.func (.func 76) #[] #[]) := by rw [Go.Joins.cell_of_block ((hb1.block w.heap.size (by omega)).trans kb)]; rfl
    have i0 : w1.cell? ⟨w.heap.size + 1, 0, none⟩ = some (.int .i64 t) := by rw [Go.Joins.cell_of_block ((hb1.block (w.heap.size + 1) (by omega)).trans xb)]; rfl
    have i1 : w1.cell? ⟨w.heap.size + 1, 1, none⟩ = some (.int .i64 lg) := by rw [Go.Joins.cell_of_block ((hb1.block (w.heap.size + 1) (by omega)).trans xb)]; rfl
    have i2 : w1.cell? ⟨w.heap.size + 1, 2, none⟩ = some (.slice ao len cap) := by rw [Go.Joins.cell_of_block ((hb1.block (w.heap.size + 1) (by omega)).trans xb)]; rfl
    have hz1 := hb1.size
    have l0 : (w1.alloc (.cells #[.int .u8 77] 5)).cell? ⟨w.heap.size + 1, 0, none⟩ = some (.int .i64 t) := by rw [Go.Joins.cell_of_block ((blk_alloc' w1 (.cells #[.int .u8 77] 5) (w.heap.size + 1) (by omega)).trans ((hb1.block (w.heap.size + 1) (by omega)).trans xb))]; rfl
    have l1 : (w1.alloc (.cells #[.int .u8 77] 5)).cell? ⟨w.heap.size + 1, 1, none⟩ = some (.int .i64 lg) := by rw [Go.Joins.cell_of_block ((blk_alloc' w1 (.cells #[.int .u8 77] 5) (w.heap.size + 1) (by omega)).trans ((hb1.block (w.heap.size + 1) (by omega)).trans xb))]; rfl
    have l2 : (w1.alloc (.cells #[.int .u8 77] 5)).cell? ⟨w.heap.size + 1, 2, none⟩ = some (.slice ao len cap) := by rw [Go.Joins.cell_of_block ((blk_alloc' w1 (.cells #[.int .u8 77] 5) (w.heap.size + 1) (by omega)).trans ((hb1.block (w.heap.size + 1) (by omega)).trans xb))]; rfl
    have hown := (own_byte w1 77).low (base' := w.heap.size) (by omega)
    have hal1 : Below w1.heap.size w1 (w1.alloc (.cells #[.int .u8 77] 5)) := (Below.refl _ _).alloc (Nat.le_refl _) _
    have hB2 : Below w.heap.size w (w1.alloc (.cells #[.int .u8 77] 5)) := hB1.trans (hal1.mono (by omega))
    have hz2 := hal1.size
    have HP := hide3 (putManifest1_any t lg hown (by omega) (hs.keep hB2) hlow hr (by simp))
    have hvb := (fun k hk => (World.ownsRow.lt hown k hk).1)
    clear hown kb xb hA hb1 HR
    go_wp2_with fail
    refine HP.out.mono ?_
    rintro e w2 ⟨v2, rfl, ho2, p2⟩
    have hB3 : Below w.heap.size w w2 := hB2.trans (p2.blow hvb (by omega))
    clear HP hB2 hvb p2
    go_wp2
    go_ret2
    exact ⟨_, rfl, ho2, hB3⟩

theorem PutManifest_any {ao : Option Addr} {len cap : Nat} {ps : List Pr} (t lg : Int) (hs : Seq 3 Pr.cells w ao len cap ps) :
    Calls Try.prog 21 #[.agg #[.int .i64 t, .int .i64 lg, .slice ao len cap]] w fun e w' => ∃ v', e = .returned (.tuple #[v', .int .i64 (er (rightM ⟨t, lg, ps⟩))]) ∧ Own w' w.heap.size v' (bt (rightM ⟨t, lg, ps⟩) (mb ⟨t, lg, ps⟩)) ∧ Below w.heap.size w w' := by
  have hy0 : w.heap.size < (w.alloc (.cells #[.int .i64 t, .int .i64 lg, .slice ao len cap] 44)).heap.size := by simp
  go_enter Try.func21, Try.ntmps21
  go_wp2
  refine wp_region_noPanic ?_
  refine wp_region_held_drew (S := fun u => u.heap[w.heap.size]? = some (.cells #[.int .i64 t, .int .i64 lg, .slice ao len cap] 44 (0, 0)) ∧ Below w.heap.size w u) (by kernel_rfl) (⟨heap_alloc_new w _, below_drewN ((Below.refl _ _).alloc (Nat.le_refl _) _) 1⟩) (fun hHeld => ?_)
  have hy : w.heap.size < (w.alloc (.cells #[.int .i64 t, .int .i64 lg, .slice ao len cap] 44)).drew.heap.size := hy0
  refine wpAnyH_take (i := 1) (oi := { dst := some 5, op := _, type := _, pos := _, after := _, guard := _ }) (v := ?_) rfl (by kernel_rfl) (by kernel_rfl) (by kernel_rfl) (fun _ _ _ h => h) (Or.inl ⟨by rfl, ?_⟩) (by assumption) ?_
  rotate_left 1
  · intro u s1; obtain ⟨s2, s3⟩ := s1; have k0 : u.cell? ⟨w.heap.size, 0, none⟩ = some (.int .i64 t) := (by rw [Go.Joins.cell_of_block s2]; rfl); have k1 : u.cell? ⟨w.heap.size, 1, none⟩ = some (.int .i64 lg) := (by rw [Go.Joins.cell_of_block s2]; rfl); have k2 : u.cell? ⟨w.heap.size, 2, none⟩ = some (.slice ao len cap) := (by rw [Go.Joins.cell_of_block s2]; rfl); go_simp; try with_reducible rfl
  try simp only [Act.put, List.setIfInBounds_toArray, List.set_cons_zero, List.set_cons_succ]
  refine wpAnyH_ready (rs := [0]) (by kernel_rfl) (by simp) ?_
  refine AllReadyH.cons (o := { dst := some 4, op := _, type := _, pos := _, after := _, guard := _ }) rfl (fun K hK => ?_) ?_
  · go_simp
    refine (kindM_any).mono ?_
    rintro e w1 ⟨rfl, hb1⟩
    go_wp2_with fail
    have B1 := hHeld.2.trans (hb1.mono hHeld.2.size)
    have hz1 := hb1.size
    refine hK.out _ _ ⟨(hb1.block w.heap.size hy).trans hHeld.1, B1⟩ (fun hHeld => ?_)
    clear hK K
    try simp only [Act.put, List.setIfInBounds_toArray, List.set_cons_zero, List.set_cons_succ]
    refine wpAnyH_ready (rs := [2]) (by kernel_rfl) (by simp) ?_
    refine AllReadyH.cons (o := { dst := some 6, op := _, type := _, pos := _, after := _, guard := _ }) rfl (fun K hK => ?_) ?_
    · go_simp
      refine (putM_any t lg (hs.keep hHeld.2)).mono ?_
      rintro e w2 ⟨v2, rfl, ho2, hb2⟩
      go_wp2_with fail
      have hle : w.heap.size ≤ w1.heap.size := by omega
      have ho3 := ho2.low hle
      have hB3 := hHeld.2.trans (hb2.mono hle)
      refine hK.out _ _ ⟨(hb2.block w.heap.size (by omega)).trans hHeld.1, hB3⟩ (fun hHeld => ?_)
      clear hK K
      try simp only [Act.put, List.setIfInBounds_toArray, List.set_cons_zero, List.set_cons_succ]
      refine wpAnyH_take (i := 3) (oi := { dst := some 7, op := _, type := _, pos := _, after := _, guard := _ }) (v := ?_) rfl (by kernel_rfl) (by kernel_rfl) (by kernel_rfl) (fun _ _ _ h => h) (Or.inl ⟨by rfl, ?_⟩) (by assumption) ?_
      rotate_left 1
      · intro u s1; obtain ⟨s2, s3⟩ := s1; have k0 : u.cell? ⟨w.heap.size, 0, none⟩ = some (.int .i64 t) := (by rw [Go.Joins.cell_of_block s2]; rfl); have k1 : u.cell? ⟨w.heap.size, 1, none⟩ = some (.int .i64 lg) := (by rw [Go.Joins.cell_of_block s2]; rfl); have k2 : u.cell? ⟨w.heap.size, 2, none⟩ = some (.slice ao len cap) := (by rw [Go.Joins.cell_of_block s2]; rfl); go_simp; try with_reducible rfl
      try simp only [Act.put, List.setIfInBounds_toArray, List.set_cons_zero, List.set_cons_succ]
      refine wpAnyH_take (i := 4) (oi := { dst := some 8, op := _, type := _, pos := _, after := _, guard := _ }) (v := ?_) rfl (by kernel_rfl) (by kernel_rfl) (by kernel_rfl) (fun _ _ _ h => h) (Or.inl ⟨by rfl, ?_⟩) (by assumption) ?_
      rotate_left 1
      · intro u s1; obtain ⟨s2, s3⟩ := s1; have k0 : u.cell? ⟨w.heap.size, 0, none⟩ = some (.int .i64 t) := (by rw [Go.Joins.cell_of_block s2]; rfl); have k1 : u.cell? ⟨w.heap.size, 1, none⟩ = some (.int .i64 lg) := (by rw [Go.Joins.cell_of_block s2]; rfl); have k2 : u.cell? ⟨w.heap.size, 2, none⟩ = some (.slice ao len cap) := (by rw [Go.Joins.cell_of_block s2]; rfl); go_simp; try with_reducible rfl
      try simp only [Act.put, List.setIfInBounds_toArray, List.set_cons_zero, List.set_cons_succ]
      refine wpAnyH_take (i := 5) (oi := { dst := some 2, op := _, type := _, pos := _, after := _, guard := _ }) (v := ?_) rfl (by kernel_rfl) (by kernel_rfl) (by kernel_rfl) (fun _ _ _ h => h) (Or.inl ⟨by rfl, ?_⟩) (by assumption) ?_
      rotate_left 1
      · intro u s1; obtain ⟨s2, s3⟩ := s1; have k0 : u.cell? ⟨w.heap.size, 0, none⟩ = some (.int .i64 t) := (by rw [Go.Joins.cell_of_block s2]; rfl); have k1 : u.cell? ⟨w.heap.size, 1, none⟩ = some (.int .i64 lg) := (by rw [Go.Joins.cell_of_block s2]; rfl); have k2 : u.cell? ⟨w.heap.size, 2, none⟩ = some (.slice ao len cap) := (by rw [Go.Joins.cell_of_block s2]; rfl); go_simp; try with_reducible rfl
      try simp only [Act.put, List.setIfInBounds_toArray, List.set_cons_zero, List.set_cons_succ]
      refine wpAnyH_take (i := 6) (oi := { dst := some 3, op := _, type := _, pos := _, after := _, guard := _ }) (v := ?_) rfl (by kernel_rfl) (by kernel_rfl) (by kernel_rfl) (fun _ _ _ h => h) (Or.inl ⟨by rfl, ?_⟩) (by assumption) ?_
      rotate_left 1
      · intro u s1; obtain ⟨s2, s3⟩ := s1; have k0 : u.cell? ⟨w.heap.size, 0, none⟩ = some (.int .i64 t) := (by rw [Go.Joins.cell_of_block s2]; rfl); have k1 : u.cell? ⟨w.heap.size, 1, none⟩ = some (.int .i64 lg) := (by rw [Go.Joins.cell_of_block s2]; rfl); have k2 : u.cell? ⟨w.heap.size, 2, none⟩ = some (.slice ao len cap) := (by rw [Go.Joins.cell_of_block s2]; rfl); go_simp; try with_reducible rfl
      try simp only [Act.put, List.setIfInBounds_toArray, List.set_cons_zero, List.set_cons_succ]
      refine wpAnyH_done (by kernel_rfl) ?_ _
      refine NoPanic.normal ?_
      go_wp2
      go_ret2
      exact ⟨_, rfl, ho3, hB3⟩
    exact AllReadyH.nil
  exact AllReadyH.nil
end
end Go.Proofs.Yteihabdldiopeaa
