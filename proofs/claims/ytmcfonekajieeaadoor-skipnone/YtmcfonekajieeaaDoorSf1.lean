/-
  Step. (Printed by gen_sf.py.)
-/
import Derived.Test.YtmcfonekajieeaaDoorSc2
set_option linter.unusedVariables false
set_option linter.unusedSimpArgs false
namespace Go.Proofs.YtmcfonekajieeaaDoor
open Go.RowKit Go.Maps

def dA : Array Value := #[.func (.func 42) #[] #[], .func (.func 43) #[] #[], .func (.func 44) #[] #[], .func (.func 45) #[] #[], .func (.func 46) #[] #[]]
set_option maxRecDepth 100000 in
set_option maxHeartbeats 2000000 in
theorem deeds_any (w : World) : Calls Tryd.prog 33 #[] w fun e w' => e = .returned (.agg dA) ∧ Below w.heap.size w w' := by
  have hz : (w.alloc (.cells #[.nilFunc, .nilFunc, .nilFunc, .nilFunc, .nilFunc] 85)).heap[w.heap.size]? = some (.cells #[.nilFunc, .nilFunc, .nilFunc, .nilFunc, .nilFunc] 85 (0, 0)) := heap_alloc_new _ _
  have b5 : ((w.alloc (.cells #[.nilFunc, .nilFunc, .nilFunc, .nilFunc, .nilFunc] 85)).setRow w.heap.size dA).heap[w.heap.size]? = some (.cells dA 85 (0, 0)) := setRow_heap _ _ _ _ _ _ hz
  have hB : Below w.heap.size w ((w.alloc (.cells #[.nilFunc, .nilFunc, .nilFunc, .nilFunc, .nilFunc] 85)).setRow w.heap.size dA) := ((Below.refl _ w).alloc (Nat.le_refl _) _).trans ⟨rfl, rfl, rfl, by simp, fun k hk => setRow_other _ _ _ _ (by omega)⟩
  have HZ := hide2 hz
  have B5 := hide2 b5
  have HB := hide2 hB
  clear hz b5 hB
  go_enter Tryd.func33, Tryd.ntmps33
  go_wp2_with (
    (refine wpList_store_row rfl 85 (Operand.tmp 0) (Operand.tmp 1) rfl w.heap.size dA rfl rfl 85 #[.nilFunc, .nilFunc, .nilFunc, .nilFunc, .nilFunc] ?_ ?_ rfl ?_ ?_
     · exact HZ.out
     · kernel_rfl
     · kernel_rfl))
  refine bodyPost_ret (v := .agg dA) (results_cell_row (p := 0) (ty := 85) rfl _ _ w.heap.size 85 dA (0, 0) _ rfl B5.out Tryd.underlying85 rfl (by kernel_rfl)) rfl ⟨rfl, HB.out⟩

section
variable {w : World} {ob : Nat}

set_option maxRecDepth 100000 in
set_option maxHeartbeats 4000000 in
theorem step_look {R : World → Nat → Prop} (c21 : w.cell? ⟨ob, 21, none⟩ = some (.int .i64 1)) (hob : ob < w.heap.size)
    (hC : ∀ u, Fr (fun _ => False) w u → Calls Tryd.prog 43 #[.pointer (some ⟨ob, 0, none⟩)] u fun e w' => e = .returned (.tuple #[]) ∧ ∃ st, w'.cell? ⟨ob, 21, none⟩ = some (.int .i64 ((st : Nat) : Int)) ∧ R w' st) :
    Calls Tryd.prog 20 #[.pointer (some ⟨ob, 0, none⟩)] w fun e w' => ∃ st, e = .returned (.bool (decide (st = 5))) ∧ R w' st := by
  have HC := hide2 hC
  have HDE : Hid (Calls Tryd.prog 33 #[] w.drew fun e w' => e = .returned (.agg dA) ∧ Fr (fun _ => False) w w') := hide2 ((deeds_any w.drew).mono (by
    rintro e w' ⟨rfl, q⟩
    exact ⟨rfl, ((Fr.refl (fun _ => False) w).drewN 1).trans (Fr.below (F := fun _ => False) q) (fun j e => .inl e)⟩))
  clear hC
  go_enter Tryd.func20, Tryd.ntmps20
  go_wp2_with fail
  refine wp_region_noPanic ?_
  refine wp_region_held_drew (S := (fun u : World => True)) (by kernel_rfl) (trivial) (fun hHeld => ?_)
  refine wpAnyH_take (i := 1) (oi := { dst := some 11, op := _, type := _, pos := _, after := _, guard := _ }) (v := ?_) rfl (by kernel_rfl) (by kernel_rfl) (by kernel_rfl) (fun _ _ _ h => h) (Or.inl ⟨by rfl, ?_⟩) (by assumption) ?_
  rotate_left 1
  · intro u hSw; obtain s1 := hSw; go_simp; try with_reducible rfl
  try simp only [Act.put, List.setIfInBounds_toArray, List.set_cons_zero, List.set_cons_succ]
  refine wpAnyH_take (i := 2) (oi := { dst := some 12, op := _, type := _, pos := _, after := _, guard := _ }) (v := ?_) rfl (by kernel_rfl) (by kernel_rfl) (by kernel_rfl) (fun _ _ _ h => h) (Or.inl ⟨by rfl, ?_⟩) (by assumption) ?_
  rotate_left 1
  · intro u hSw; obtain s1 := hSw; go_simp; try with_reducible rfl
  try simp only [Act.put, List.setIfInBounds_toArray, List.set_cons_zero, List.set_cons_succ]
  refine wpAnyH_take (i := 3) (oi := { dst := some 13, op := _, type := _, pos := _, after := _, guard := _ }) (v := ?_) rfl (by kernel_rfl) (by kernel_rfl) (by kernel_rfl) (fun _ _ _ h => h) (Or.inl ⟨by rfl, ?_⟩) (by assumption) ?_
  rotate_left 1
  · intro u hSw; obtain s1 := hSw; go_simp; try with_reducible rfl
  try simp only [Act.put, List.setIfInBounds_toArray, List.set_cons_zero, List.set_cons_succ]
  refine wpAnyH_take (i := 6) (oi := { dst := some 16, op := _, type := _, pos := _, after := _, guard := _ }) (v := ?_) rfl (by kernel_rfl) (by kernel_rfl) (by kernel_rfl) (fun _ _ _ h => h) (Or.inl ⟨by rfl, ?_⟩) (by assumption) ?_
  rotate_left 1
  · intro u hSw; obtain s1 := hSw; go_simp; try with_reducible rfl
  try simp only [Act.put, List.setIfInBounds_toArray, List.set_cons_zero, List.set_cons_succ]
  refine wpAnyH_ready (rs := [0, 4]) (by kernel_rfl) (by simp) ?_
  refine AllReadyH.cons (o := { dst := some 10, op := _, type := _, pos := _, after := _, guard := _ }) rfl (fun Kq hK => ?_) (AllReadyH.cons (o := { dst := some 14, op := _, type := _, pos := _, after := _, guard := _ }) rfl (fun Kq hK => ?_) AllReadyH.nil)
  · go_simp
    refine HDE.out.mono ?_
    rintro e w2 ⟨rfl, f2⟩
    have d21 := (f2.cell (p := ⟨ob, 21, none⟩) hob (fun e => e)).trans c21
    have HC2 := hide2 (HC.out w2 f2)
    clear f2
    go_wp2_with fail
    refine hK.out _ _ (trivial) (fun hHeld => ?_)
    clear hK Kq
    try simp only [Act.put, List.setIfInBounds_toArray, List.set_cons_zero, List.set_cons_succ]
    refine wpAnyH_ready (rs := [4]) (by kernel_rfl) (by simp) ?_
    refine AllReadyH.cons (o := { dst := some 14, op := _, type := _, pos := _, after := _, guard := _ }) rfl (fun Kq hK => ?_) AllReadyH.nil
    go_simp
    go_wp2_with fail
    refine hK.out _ _ (trivial) (fun hHeld => ?_)
    clear hK Kq
    try simp only [Act.put, List.setIfInBounds_toArray, List.set_cons_zero, List.set_cons_succ]
    have hdA : dA = #[.func (.func 42) #[] #[], .func (.func 43) #[] #[], .func (.func 44) #[] #[], .func (.func 45) #[] #[], .func (.func 46) #[] #[]] := rfl
    have hix : ∀ u : World, (Instr.index 85 (.agg #[.func (.func 42) #[] #[], .func (.func 43) #[] #[], .func (.func 44) #[] #[], .func (.func 45) #[] #[], .func (.func 46) #[] #[]]) (.int .i64 1)).run Tryd.prog u = .ok (.func (.func 43) #[] #[]) u := fun u => by kernel_rfl
    refine wpAnyH_take (i := 5) (oi := { dst := some 15, op := _, type := _, pos := _, after := _, guard := _ }) (v := ?_) rfl (by kernel_rfl) (by kernel_rfl) (by kernel_rfl) (fun _ _ _ h => h) (Or.inl ⟨by rfl, ?_⟩) (by assumption) ?_
    rotate_left 1
    · intro u hSw; obtain s1 := hSw; go_simp; try with_reducible rfl
    try simp only [Act.put, List.setIfInBounds_toArray, List.set_cons_zero, List.set_cons_succ]
    refine wpAnyH_ready (rs := [7]) (by kernel_rfl) (by simp) ?_
    refine AllReadyH.cons (o := { dst := some 17, op := _, type := _, pos := _, after := _, guard := _ }) rfl (fun Kq hK => ?_) AllReadyH.nil
    go_simp
    refine HC2.out.mono ?_
    rintro e w3 ⟨rfl, st, e21, hR⟩
    have HR := hide2 hR
    have hob3 : ob < w3.heap.size := World.block_lt_of_cell? w3 _ e21
    clear hR HC2
    go_wp2_with fail
    refine hK.out _ _ (trivial) (fun hHeld => ?_)
    clear hK Kq
    try simp only [Act.put, List.setIfInBounds_toArray, List.set_cons_zero, List.set_cons_succ]
    refine wpAnyH_done (by kernel_rfl) ?_ _
    refine NoPanic.normal ?_
    clear d21 c21
    go_wp2
    go_ret
    refine ⟨st, ret_bool ?_, HR.out⟩
    rw [Bool.eq_iff_iff]
    simp
    omega
  · go_simp
    go_wp2_with fail
    refine hK.out _ _ (trivial) (fun hHeld => ?_)
    clear hK Kq
    try simp only [Act.put, List.setIfInBounds_toArray, List.set_cons_zero, List.set_cons_succ]
    refine wpAnyH_ready (rs := [0]) (by kernel_rfl) (by simp) ?_
    refine AllReadyH.cons (o := { dst := some 10, op := _, type := _, pos := _, after := _, guard := _ }) rfl (fun Kq hK => ?_) AllReadyH.nil
    go_simp
    refine HDE.out.mono ?_
    rintro e w2 ⟨rfl, f2⟩
    have d21 := (f2.cell (p := ⟨ob, 21, none⟩) hob (fun e => e)).trans c21
    have HC2 := hide2 (HC.out w2 f2)
    clear f2
    go_wp2_with fail
    refine hK.out _ _ (trivial) (fun hHeld => ?_)
    clear hK Kq
    try simp only [Act.put, List.setIfInBounds_toArray, List.set_cons_zero, List.set_cons_succ]
    have hdA : dA = #[.func (.func 42) #[] #[], .func (.func 43) #[] #[], .func (.func 44) #[] #[], .func (.func 45) #[] #[], .func (.func 46) #[] #[]] := rfl
    have hix : ∀ u : World, (Instr.index 85 (.agg #[.func (.func 42) #[] #[], .func (.func 43) #[] #[], .func (.func 44) #[] #[], .func (.func 45) #[] #[], .func (.func 46) #[] #[]]) (.int .i64 1)).run Tryd.prog u = .ok (.func (.func 43) #[] #[]) u := fun u => by kernel_rfl
    refine wpAnyH_take (i := 5) (oi := { dst := some 15, op := _, type := _, pos := _, after := _, guard := _ }) (v := ?_) rfl (by kernel_rfl) (by kernel_rfl) (by kernel_rfl) (fun _ _ _ h => h) (Or.inl ⟨by rfl, ?_⟩) (by assumption) ?_
    rotate_left 1
    · intro u hSw; obtain s1 := hSw; go_simp; try with_reducible rfl
    try simp only [Act.put, List.setIfInBounds_toArray, List.set_cons_zero, List.set_cons_succ]
    refine wpAnyH_ready (rs := [7]) (by kernel_rfl) (by simp) ?_
    refine AllReadyH.cons (o := { dst := some 17, op := _, type := _, pos := _, after := _, guard := _ }) rfl (fun Kq hK => ?_) AllReadyH.nil
    go_simp
    refine HC2.out.mono ?_
    rintro e w3 ⟨rfl, st, e21, hR⟩
    have HR := hide2 hR
    have hob3 : ob < w3.heap.size := World.block_lt_of_cell? w3 _ e21
    clear hR HC2
    go_wp2_with fail
    refine hK.out _ _ (trivial) (fun hHeld => ?_)
    clear hK Kq
    try simp only [Act.put, List.setIfInBounds_toArray, List.set_cons_zero, List.set_cons_succ]
    refine wpAnyH_done (by kernel_rfl) ?_ _
    refine NoPanic.normal ?_
    clear d21 c21
    go_wp2
    go_ret
    refine ⟨st, ret_bool ?_, HR.out⟩
    rw [Bool.eq_iff_iff]
    simp
    omega
end
end Go.Proofs.YtmcfonekajieeaaDoor
