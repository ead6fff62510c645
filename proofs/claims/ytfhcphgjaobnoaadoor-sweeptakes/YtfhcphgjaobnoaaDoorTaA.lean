/-
  Version: a version is made. (Printed by gen_taA.py.)
-/
import Derived.Test.YtfhcphgjaobnoaaDoorTaA0
set_option linter.unusedVariables false
set_option linter.unusedSimpArgs false
namespace Go.Proofs.YtfhcphgjaobnoaaDoor
open Go.RowKit Go.Maps

section
variable {w w' : World} {K : Nat → Prop} {sb d z M u : Nat} {A : Stt}
set_option maxRecDepth 100000 in
set_option maxHeartbeats 8000000 in
theorem ver_zero (h : Rp w K sb d z M A u) {tt : ByteArray} {bg : Int} (ht : tt.size ≤ 64) (hb0 : 0 ≤ bg ∧ bg ≤ 18446744073709551615) (hmb : mbg bg = true) (hla : A.la 1 < 1000000) (hroom : u + 3 ≤ z) (hM : M < 3900000000000000000) :
    Calls Tryd.prog 26 #[.pointer (some ⟨sb, 0, none⟩), .string tt, .int .u64 bg, .int .i64 0] w fun e w' => e = .returned (.tuple #[.int .i64 ((A.la 1 + 1 : Nat) : Int), .int .i64 0]) ∧ Aft w w' K sb d z (M + 4) (A.ver tt bg 0) (u + 3) := by
  obtain ⟨g, m0, m1, m2, T, N, m, F, own, pl, k1, h, r1, r2, r3, r4, r5⟩ := h
  have HI := hide2 (isNone_any (w := w) h.st.cells.1)
  have HMB := hide2 (mayBegin_any bg w hb0.1)
  rw [hmb] at HMB
  have hl1 := r5 1
  have hTl := h.aw.len
  have d1 : decide ((64 : Int) < (tt.size : Int)) = false := by simp; omega
  have d2 : ¬ ((64 : Int) < (tt.size : Int)) := by omega
  have HVS : Hid (tt.size ≤ 64 ∧ (0 ≤ bg ∧ bg ≤ 18446744073709551615) ∧ (0 ≤ (0 : Int) ∧ (0 : Int) ≤ (A.la 1 : Int)) ∧ (0 : Int) ≤ 18446744073709551615) := hide2 ⟨ht, hb0, by omega, by omega⟩
  have H := hide2 h
  have HR5 := hide2 r5
  clear h r5 hmb
  go_enter Tryd.func26, Tryd.ntmps26
  go_wp2_with fail
  refine HI.out.mono ?_
  rintro e wa ⟨rfl, qa⟩
  subst qa
  clear HI
  go_wp2_with fail
  refine HMB.out.mono ?_
  rintro e wb ⟨rfl, qb⟩
  subst qb
  clear HMB
  have HWC := H
  have HBC : Hid (Below wb.heap.size wb wb) := hide2 (Below.refl _ _)
  have hsc : wb.heap.size ≤ wb.heap.size := Nat.le_refl _
  have hwl := HWC.out.kl
  have hkk := HWC.out.kk
  have hdl := hwl d (hkk d (by simp))
  have hgl := hwl g (hkk g (by simp))
  have hsl := hwl sb (hkk sb (by simp))
  obtain ⟨W, hW⟩ : ∃ x, x = wb.alloc (.cells #[.int .u64 bg, .int .u64 1099511627776, .int .u64 0] 54) := ⟨_, rfl⟩
  have hbW : Below wb.heap.size wb W := by rw [hW]; exact (Below.refl _ _).alloc (Nat.le_refl _) _
  have hsW : W.heap.size = wb.heap.size + 1 := by rw [hW]; simp
  have nb : W.heap[wb.heap.size]? = some (.cells #[.int .u64 bg, .int .u64 1099511627776, .int .u64 0] 54 (0, 0)) := by rw [hW]; exact heap_alloc_new wb _
  have hWm := HWC.out.below hbW
  have htk := take_ok (w := W) (sg := wb.heap.size) (n := 3) (cap := 3) (xs := [bg, 1099511627776, 0]) hWm.st.cells.1 hWm.st.lt hWm.aw hWm.tab (fun e => hWm.k0 (e ▸ hWm.kk d (by simp))) (fun e => hWm.k0 (e ▸ hWm.kk g (by simp))) hWm.nsd hWm.nsg rfl (by decide) (by decide) (by unfold maxLen; decide) (by omega) (by omega) (by omega) (fun i x hi => by
      rw [Go.Joins.cell_of_block nb]
      rcases i with _ | _ | _ | i
      · simp at hi; rw [← hi]; rfl
      · simp at hi; rw [← hi]; rfl
      · simp at hi; rw [← hi]; rfl
      · simp at hi) (by
      intro x hx
      simp at hx
      have := HVS.out.2.2
      rcases hx with rfl | rfl | rfl <;> omega) (by omega) (by omega)
  have HTK := hide2 htk
  have HW := hide2 hWm
  have HBA : Hid (Below wb.heap.size wb W) := hide2 (HBC.out.trans ⟨hbW.os, hbW.tape, hbW.output, hbW.size, fun j hj => hbW.block j (by omega)⟩)
  clear htk hWm hbW nb hwl hkk
  go_wp2_with fail
  rw [← hW]
  clear hW
  refine HTK.out.mono ?_
  rintro e w2 ⟨v, rfl, cs, N', m', F', hrow, hcl, hfr, hA, hm1, hm2, hxs, hoth, hcnt, hF2⟩
  obtain ⟨c0, c1, c2, rfl⟩ := three_of hcl
  obtain ⟨gt, cp, egt, s0⟩ := hrow.at (i := 0) (by simp)
  obtain ⟨gt1, cp1, egt1, s1⟩ := hrow.at (i := 1) (by simp)
  obtain ⟨gt2, cp2, egt2, s2⟩ := hrow.at (i := 2) (by simp)
  rw [egt] at egt1 egt2
  simp only [Value.slice.injEq, Option.some.injEq, Addr.mk.injEq, true_and, and_true] at egt1 egt2
  obtain ⟨rfl, rfl⟩ := egt1
  obtain ⟨rfl, -⟩ := egt2
  simp only [List.length_cons, List.length_nil] at egt
  subst egt
  have s0 : w2.cell? ⟨gt, 0, none⟩ = some (.int .i64 (c0 : Int)) := s0
  have s1 : w2.cell? ⟨gt, 1, none⟩ = some (.int .i64 (c1 : Int)) := s1
  have s2 : w2.cell? ⟨gt, 2, none⟩ = some (.int .i64 (c2 : Int)) := s2
  have hgt := (World.ownsRow.lt hrow gt rfl)
  obtain ⟨own', hpc⟩ := HW.out.pc.ver HW.out.ok (N' := N') (t := tt) hfr (hxs 0 c0 _ rfl rfl) (hxs 1 c1 _ rfl rfl) (hxs 2 c2 _ rfl rfl) hoth
  have hgt2 : gt < w2.heap.size := hgt.2
  have hs2 := hF2.size
  have HCL := hide2 (fun v : World => clone_all tt v HVS.out.1)
  have KEP : Hid (∀ w5, Below w2.heap.size w2 w5 → w5.cell? ⟨gt, 0, none⟩ = some (.int .i64 (c0 : Int)) ∧ w5.cell? ⟨gt, 1, none⟩ = some (.int .i64 (c1 : Int)) ∧ w5.cell? ⟨gt, 2, none⟩ = some (.int .i64 (c2 : Int))) := hide2 (fun w5 h5 => ⟨(h5.cell (p := ⟨gt, 0, none⟩) hgt2).trans s0, (h5.cell (p := ⟨gt, 1, none⟩) hgt2).trans s1, (h5.cell (p := ⟨gt, 2, none⟩) hgt2).trans s2⟩)
  have HC := hide2 (And.intro hpc (And.intro hA (And.intro hF2 hcnt)))
  have hmb : m ≤ m' ∧ m' ≤ m + 3 := ⟨hm1, hm2⟩
  clear HTK hrow hfr hA hm1 hm2 hxs hoth hcnt hpc hF2 hgt
  go_wp2_with fail
  refine wp_region_noPanic ?_
  refine wp_region_held_drew (S := (fun u : World => u.cell? ⟨gt, 0, none⟩ = some (.int .i64 (c0 : Int)) ∧ u.cell? ⟨gt, 1, none⟩ = some (.int .i64 (c1 : Int)) ∧ u.cell? ⟨gt, 2, none⟩ = some (.int .i64 (c2 : Int)))) (by kernel_rfl) (⟨s0, s1, s2⟩) (fun hHeld => ?_)
  refine wpAnyH_take (i := 0) (oi := { dst := some 47, op := _, type := _, pos := _, after := _, guard := _ }) (v := ?_) rfl (by kernel_rfl) (by kernel_rfl) (by kernel_rfl) (fun _ _ _ h => h) (Or.inl ⟨by rfl, ?_⟩) (by assumption) ?_
  rotate_left 1
  · intro u hSw; obtain ⟨s1, s2, s3⟩ := hSw; go_simp; try with_reducible rfl
  try simp only [Act.put, List.setIfInBounds_toArray, List.set_cons_zero, List.set_cons_succ]
  refine wpAnyH_take (i := 2) (oi := { dst := some 49, op := _, type := _, pos := _, after := _, guard := _ }) (v := ?_) rfl (by kernel_rfl) (by kernel_rfl) (by kernel_rfl) (fun _ _ _ h => h) (Or.inl ⟨by rfl, ?_⟩) (by assumption) ?_
  rotate_left 1
  · intro u hSw; obtain ⟨s1, s2, s3⟩ := hSw; go_simp; try with_reducible rfl
  try simp only [Act.put, List.setIfInBounds_toArray, List.set_cons_zero, List.set_cons_succ]
  refine wpAnyH_take (i := 3) (oi := { dst := some 50, op := _, type := _, pos := _, after := _, guard := _ }) (v := ?_) rfl (by kernel_rfl) (by kernel_rfl) (by kernel_rfl) (fun _ _ _ h => h) (Or.inl ⟨by rfl, ?_⟩) (by assumption) ?_
  rotate_left 1
  · intro u hSw; obtain ⟨s1, s2, s3⟩ := hSw; go_simp; try with_reducible rfl
  try simp only [Act.put, List.setIfInBounds_toArray, List.set_cons_zero, List.set_cons_succ]
  refine wpAnyH_take (i := 4) (oi := { dst := some 51, op := _, type := _, pos := _, after := _, guard := _ }) (v := ?_) rfl (by kernel_rfl) (by kernel_rfl) (by kernel_rfl) (fun _ _ _ h => h) (Or.inl ⟨by rfl, ?_⟩) (by assumption) ?_
  rotate_left 1
  · intro u hSw; obtain ⟨s1, s2, s3⟩ := hSw; go_simp; try with_reducible rfl
  try simp only [Act.put, List.setIfInBounds_toArray, List.set_cons_zero, List.set_cons_succ]
  refine wpAnyH_take (i := 5) (oi := { dst := some 52, op := _, type := _, pos := _, after := _, guard := _ }) (v := ?_) rfl (by kernel_rfl) (by kernel_rfl) (by kernel_rfl) (fun _ _ _ h => h) (Or.inl ⟨by rfl, ?_⟩) (by assumption) ?_
  rotate_left 1
  · intro u hSw; obtain ⟨s1, s2, s3⟩ := hSw; go_simp; try with_reducible rfl
  try simp only [Act.put, List.setIfInBounds_toArray, List.set_cons_zero, List.set_cons_succ]
  refine wpAnyH_take (i := 6) (oi := { dst := some 53, op := _, type := _, pos := _, after := _, guard := _ }) (v := ?_) rfl (by kernel_rfl) (by kernel_rfl) (by kernel_rfl) (fun _ _ _ h => h) (Or.inl ⟨by rfl, ?_⟩) (by assumption) ?_
  rotate_left 1
  · intro u hSw; obtain ⟨s1, s2, s3⟩ := hSw; go_simp; try with_reducible rfl
  try simp only [Act.put, List.setIfInBounds_toArray, List.set_cons_zero, List.set_cons_succ]
  refine wpAnyH_take (i := 7) (oi := { dst := some 54, op := _, type := _, pos := _, after := _, guard := _ }) (v := ?_) rfl (by kernel_rfl) (by kernel_rfl) (by kernel_rfl) (fun _ _ _ h => h) (Or.inl ⟨by rfl, ?_⟩) (by assumption) ?_
  rotate_left 1
  · intro u hSw; obtain ⟨s1, s2, s3⟩ := hSw; go_simp; try with_reducible rfl
  try simp only [Act.put, List.setIfInBounds_toArray, List.set_cons_zero, List.set_cons_succ]
  refine wpAnyH_take (i := 8) (oi := { dst := some 55, op := _, type := _, pos := _, after := _, guard := _ }) (v := ?_) rfl (by kernel_rfl) (by kernel_rfl) (by kernel_rfl) (fun _ _ _ h => h) (Or.inl ⟨by rfl, ?_⟩) (by assumption) ?_
  rotate_left 1
  · intro u hSw; obtain ⟨s1, s2, s3⟩ := hSw; go_simp; try with_reducible rfl
  try simp only [Act.put, List.setIfInBounds_toArray, List.set_cons_zero, List.set_cons_succ]
  refine wpAnyH_take (i := 9) (oi := { dst := some 56, op := _, type := _, pos := _, after := _, guard := _ }) (v := ?_) rfl (by kernel_rfl) (by kernel_rfl) (by kernel_rfl) (fun _ _ _ h => h) (Or.inl ⟨by rfl, ?_⟩) (by assumption) ?_
  rotate_left 1
  · intro u hSw; obtain ⟨s1, s2, s3⟩ := hSw; go_simp; try with_reducible rfl
  try simp only [Act.put, List.setIfInBounds_toArray, List.set_cons_zero, List.set_cons_succ]
  refine wpAnyH_take (i := 10) (oi := { dst := some 57, op := _, type := _, pos := _, after := _, guard := _ }) (v := ?_) rfl (by kernel_rfl) (by kernel_rfl) (by kernel_rfl) (fun _ _ _ h => h) (Or.inl ⟨by rfl, ?_⟩) (by assumption) ?_
  rotate_left 1
  · intro u hSw; obtain ⟨s1, s2, s3⟩ := hSw; go_simp; try with_reducible rfl
  try simp only [Act.put, List.setIfInBounds_toArray, List.set_cons_zero, List.set_cons_succ]
  refine wpAnyH_ready (rs := [1, 12]) (by kernel_rfl) (by simp) ?_
  refine AllReadyH.cons (o := { dst := some 48, op := _, type := _, pos := _, after := _, guard := _ }) rfl (fun Kq hK => ?_) (AllReadyH.cons (o := { dst := some 12, op := _, type := _, pos := _, after := _, guard := _ }) rfl (fun Kq hK => ?_) AllReadyH.nil)
  · obtain ⟨s1, s2, s3⟩ := hHeld
    go_simp
    refine (HCL.out _).mono ?_
    rintro e w3 ⟨rfl, hb3⟩
    have hb3' : Below w2.heap.size w2 w3 := ⟨hb3.os, hb3.tape, hb3.output, hb3.size, hb3.block⟩
    go_wp2_with fail
    refine hK.out _ _ (KEP.out w3 hb3') (fun hHeld => ?_)
    clear hK Kq
    try simp only [Act.put, List.setIfInBounds_toArray, List.set_cons_zero, List.set_cons_succ]
    refine wpAnyH_take (i := 11) (oi := { dst := some 58, op := _, type := _, pos := _, after := _, guard := _ }) (v := ?_) rfl (by kernel_rfl) (by kernel_rfl) (by kernel_rfl) (fun _ _ _ h => h) (Or.inl ⟨by rfl, ?_⟩) (by assumption) ?_
    rotate_left 1
    · intro u hSw; obtain ⟨s1, s2, s3⟩ := hSw; go_simp; try with_reducible rfl
    try simp only [Act.put, List.setIfInBounds_toArray, List.set_cons_zero, List.set_cons_succ]
    refine wpAnyH_ready (rs := [12]) (by kernel_rfl) (by simp) ?_
    refine AllReadyH.cons (o := { dst := some 12, op := _, type := _, pos := _, after := _, guard := _ }) rfl (fun Kq hK => ?_) AllReadyH.nil
    obtain ⟨s1, s2, s3⟩ := hHeld
    go_simp
    go_wp2_with fail
    refine hK.out _ _ (KEP.out _ (hb3'.trans ⟨rfl, rfl, rfl, by simp, fun j hj => Below.heap_alloc _ _ _ (by have := hb3'.size; omega)⟩)) (fun hHeld => ?_)
    clear hK Kq
    try simp only [Act.put, List.setIfInBounds_toArray, List.set_cons_zero, List.set_cons_succ]
    have zz1 := heap_alloc_new w3 (.cells #[.string ⟨#[]⟩, .int .i64 0, .int .i64 0, .int .i64 0] 106)
    have zy0 : (w3.alloc (.cells #[.string ⟨#[]⟩, .int .i64 0, .int .i64 0, .int .i64 0] 106)).cell? ⟨w3.heap.size, 0, none⟩ = some (.string ⟨#[]⟩) := by rw [Go.Joins.cell_of_block zz1]; rfl
    have zf0 := Go.Joins.unfrozen_of_block zz1 0
    have zy1 : (w3.alloc (.cells #[.string ⟨#[]⟩, .int .i64 0, .int .i64 0, .int .i64 0] 106)).cell? ⟨w3.heap.size, 1, none⟩ = some (.int .i64 0) := by rw [Go.Joins.cell_of_block zz1]; rfl
    have zf1 := Go.Joins.unfrozen_of_block zz1 1
    have zy2 : (w3.alloc (.cells #[.string ⟨#[]⟩, .int .i64 0, .int .i64 0, .int .i64 0] 106)).cell? ⟨w3.heap.size, 2, none⟩ = some (.int .i64 0) := by rw [Go.Joins.cell_of_block zz1]; rfl
    have zf2 := Go.Joins.unfrozen_of_block zz1 2
    have zy3 : (w3.alloc (.cells #[.string ⟨#[]⟩, .int .i64 0, .int .i64 0, .int .i64 0] 106)).cell? ⟨w3.heap.size, 3, none⟩ = some (.int .i64 0) := by rw [Go.Joins.cell_of_block zz1]; rfl
    have zf3 := Go.Joins.unfrozen_of_block zz1 3
    obtain ⟨w4, hw4⟩ : ∃ x, x = w3.alloc (.cells #[.string tt, .int .i64 (c0 : Int), .int .i64 (c1 : Int), .int .i64 (c2 : Int)] 106) := ⟨_, rfl⟩
    have hb4 : Below w2.heap.size w2 w4 := by rw [hw4]; exact hb3'.alloc hb3'.size _
    have nb4 : w4.heap[w3.heap.size]? = some (.cells #[.string tt, .int .i64 (c0 : Int), .int .i64 (c1 : Int), .int .i64 (c2 : Int)] 106 (0, 0)) := by rw [hw4]; exact heap_alloc_new w3 _
    refine wpAnyH_ready (rs := [13]) (by kernel_rfl) (by simp) ?_
    refine AllReadyH.cons (o := { dst := none, op := _, type := _, pos := _, after := _, guard := _ }) rfl (fun Kq hK => ?_) AllReadyH.nil
    obtain ⟨s1, s2, s3⟩ := hHeld
    go_simp
    go_wp2_with fail
    refine hK.out _ _ ((by rw [← hw4]; exact KEP.out _ hb4)) (fun hHeld => ?_)
    clear hK Kq
    try simp only [Act.put, List.setIfInBounds_toArray, List.set_cons_zero, List.set_cons_succ]
    rw [← hw4]
    clear hw4 zz1 zy0 zy1 zy2 zy3 zf0 zf1 zf2 zf3
    obtain ⟨vb, hvb⟩ : ∃ x, x = w3.heap.size := ⟨_, rfl⟩
    rw [← hvb] at nb4 ⊢
    have hvl : w2.heap.size ≤ vb := by have := hb3'.size; omega
    clear hvb hb3 hb3'
    refine wpAnyH_done (by kernel_rfl) ?_ _
    refine NoPanic.normal ?_
    clear s0 s1 s2
    obtain ⟨hpc, hA, hF2, hcnt⟩ := HC.out
    have hF4 : Fr (fun j => j = d ∨ j = g) W w4 := hF2.trans (G := fun _ => False) (Fr.below hb4) (fun j e => e.elim)
    have hF4d : Fr (fun j => j = d ∨ j = g) W w4.drew := hF4.trans (G := fun _ => False) (Fr.refl _ w4).drew (fun j e => e.elim)
    obtain ⟨q0, f0⟩ := HW.out.p0
    obtain ⟨q2, f2⟩ := HW.out.p2
    obtain ⟨n0, n1, n2⟩ := HW.out.nsm
    have hnd := HW.out.nsd
    have hng := HW.out.nsg
    have h0' : Mp w4.drew m0 (fOf (A.lv 0) (ndV pl)) (A.la 0) q0 := f0.fr hF4d (fun j e q => by have := n0 j e; omega)
    have h1' : Mp w4.drew m1 (fOf (A.lv 1) (vrV pl A.tx)) (A.la 1) k1 := HW.out.p1.fr hF4d (fun j e q => by have := n1 j e; omega)
    have h2' : Mp w4.drew m2 (fOf (A.lv 2) (txV pl)) (A.la 2) q2 := f2.fr hF4d (fun j e q => by have := n2 j e; omega)
    have hst : Sb w4.drew sb d (A.la 0) m0 (A.la 1) m1 (A.la 2) m2 := HW.out.st.same (hF4d.block _ HW.out.st.lt (by rintro (e | e); exact hnd e; exact hng e))
    have hdg : d < w2.heap.size ∧ g < w2.heap.size := by omega
    have hA2 : Aw w4.drew d g (tset T [c0, c1, c2]) N' m' F' := hA.same (hb4.block d hdg.1) (hb4.block g hdg.2)
    have hadd := addV_any (x0 := tt) (x1 := (c0 : Int)) (x2 := (c1 : Int)) (x3 := (c2 : Int)) (f' := (fOf ((A.ver tt bg 0).lv 1) (vrV (plV A pl c0 c1 c2) (A.ver tt bg 0).tx))) hst h1' (by omega) (by omega) (fOf_out (.inr (by
        cases hq : A.lv 1 (A.la 1 + 1) with
        | false => exact hq
        | true => have := HW.out.ok.n1 _ _ hq; omega))) (by
        rw [fOf_in (show (A.ver tt bg 0).lv 1 (A.la 1 + 1) = true from up2_same _ _ _ _)]
        unfold vrV plV Stt.ver
        dsimp only
        rw [up1_same, up2_other _ _ (fun q => by omega), up2_other _ _ (fun q => by omega), up2_same, up2_other _ _ (fun q => by omega), up2_same, up2_same]) (fOf_new (fun n hn => up2_other _ _ (fun q => hn q.2)) (fun n hn => by
        unfold vrV plV Stt.ver
        dsimp only
        rw [up1_other _ _ hn]
        simp only [up2_other _ _ (fun (q : _ ∧ n = A.la 1 + 1) => hn q.2)]))
    have HADD := hide2 hadd
    have hs4 := hb4.size
    have hvb4 : vb < w4.heap.size := (Array.getElem?_eq_some_iff.1 nb4).1
    have hmlt := HW.out.lt0
    have y0 : w4.cell? ⟨vb, 0, none⟩ = some (.string tt) := by rw [Go.Joins.cell_of_block nb4]; rfl
    have y1 : w4.cell? ⟨vb, 1, none⟩ = some (.int .i64 (c0 : Int)) := by rw [Go.Joins.cell_of_block nb4]; rfl
    have y2 : w4.cell? ⟨vb, 2, none⟩ = some (.int .i64 (c1 : Int)) := by rw [Go.Joins.cell_of_block nb4]; rfl
    have y3 : w4.cell? ⟨vb, 3, none⟩ = some (.int .i64 (c2 : Int)) := by rw [Go.Joins.cell_of_block nb4]; rfl
    have FRC : Hid (∀ w5, Fr (fun j => j = sb ∨ m1 = some j) w4.drew w5 → w5.cell? ⟨vb, 0, none⟩ = some (.string tt) ∧ w5.cell? ⟨vb, 1, none⟩ = some (.int .i64 (c0 : Int)) ∧ w5.cell? ⟨vb, 2, none⟩ = some (.int .i64 (c1 : Int)) ∧ w5.cell? ⟨vb, 3, none⟩ = some (.int .i64 (c2 : Int))) := hide2 (fun w5 h5 => by
      have hk : ∀ i, w5.cell? ⟨vb, i, none⟩ = w4.cell? ⟨vb, i, none⟩ := fun i => h5.cell (p := ⟨vb, i, none⟩) (show vb < w4.heap.size from hvb4) (by
        rintro (e | e)
        · have : vb = sb := e
          omega
        · have := hmlt.2.1 vb e
          omega)
      exact ⟨(hk 0).trans y0, (hk 1).trans y1, (hk 2).trans y2, (hk 3).trans y3⟩)
    have HC2 := hide2 (And.intro hA2 (And.intro h0' (And.intro h2' hF4)))
    clear f0 f2 h0' h1' h2' hst hA2 hadd hF2 hF4 hF4d hmlt n0 n1 n2 hpc hA hcnt hb4 nb4
    go_wp2_with fail
    refine wp_region_noPanic ?_
    refine wp_region_held_drew (S := (fun u : World => u.cell? ⟨vb, 0, none⟩ = some (.string tt) ∧ u.cell? ⟨vb, 1, none⟩ = some (.int .i64 (c0 : Int)) ∧ u.cell? ⟨vb, 2, none⟩ = some (.int .i64 (c1 : Int)) ∧ u.cell? ⟨vb, 3, none⟩ = some (.int .i64 (c2 : Int)))) (by kernel_rfl) (⟨y0, y1, y2, y3⟩) (fun hHeld => ?_)
    refine wpAnyH_take (i := 0) (oi := { dst := some 59, op := _, type := _, pos := _, after := _, guard := _ }) (v := ?_) rfl (by kernel_rfl) (by kernel_rfl) (by kernel_rfl) (fun _ _ _ h => h) (Or.inl ⟨by rfl, ?_⟩) (by assumption) ?_
    rotate_left 1
    · intro u hSw; obtain ⟨s1, s2, s3, s4⟩ := hSw; go_simp; try with_reducible rfl
    try simp only [Act.put, List.setIfInBounds_toArray, List.set_cons_zero, List.set_cons_succ]
    refine wpAnyH_take (i := 1) (oi := { dst := some 60, op := _, type := _, pos := _, after := _, guard := _ }) (v := ?_) rfl (by kernel_rfl) (by kernel_rfl) (by kernel_rfl) (fun _ _ _ h => h) (Or.inl ⟨by rfl, ?_⟩) (by assumption) ?_
    rotate_left 1
    · intro u hSw; obtain ⟨s1, s2, s3, s4⟩ := hSw; go_simp; try with_reducible rfl
    try simp only [Act.put, List.setIfInBounds_toArray, List.set_cons_zero, List.set_cons_succ]
    refine wpAnyH_take (i := 2) (oi := { dst := some 61, op := _, type := _, pos := _, after := _, guard := _ }) (v := ?_) rfl (by kernel_rfl) (by kernel_rfl) (by kernel_rfl) (fun _ _ _ h => h) (Or.inl ⟨by rfl, ?_⟩) (by assumption) ?_
    rotate_left 1
    · intro u hSw; obtain ⟨s1, s2, s3, s4⟩ := hSw; go_simp; try with_reducible rfl
    try simp only [Act.put, List.setIfInBounds_toArray, List.set_cons_zero, List.set_cons_succ]
    refine wpAnyH_take (i := 3) (oi := { dst := some 62, op := _, type := _, pos := _, after := _, guard := _ }) (v := ?_) rfl (by kernel_rfl) (by kernel_rfl) (by kernel_rfl) (fun _ _ _ h => h) (Or.inl ⟨by rfl, ?_⟩) (by assumption) ?_
    rotate_left 1
    · intro u hSw; obtain ⟨s1, s2, s3, s4⟩ := hSw; go_simp; try with_reducible rfl
    try simp only [Act.put, List.setIfInBounds_toArray, List.set_cons_zero, List.set_cons_succ]
    refine wpAnyH_ready (rs := [4]) (by kernel_rfl) (by simp) ?_
    refine AllReadyH.cons (o := { dst := some 63, op := _, type := _, pos := _, after := _, guard := _ }) rfl (fun Kq hK => ?_) AllReadyH.nil
    obtain ⟨s1, s2, s3, s4⟩ := hHeld
    go_simp
    refine HADD.out.mono ?_
    rintro e w5 ⟨rfl, b, hb, hst5, hp5, hF5⟩
    go_wp2_with fail
    refine hK.out _ _ (FRC.out w5 hF5) (fun hHeld => ?_)
    clear hK Kq
    try simp only [Act.put, List.setIfInBounds_toArray, List.set_cons_zero, List.set_cons_succ]
    refine wpAnyH_take (i := 5) (oi := { dst := some 8, op := _, type := _, pos := _, after := _, guard := _ }) (v := ?_) rfl (by kernel_rfl) (by kernel_rfl) (by kernel_rfl) (fun _ _ _ h => h) (Or.inl ⟨by rfl, ?_⟩) (by assumption) ?_
    rotate_left 1
    · intro u hSw; obtain ⟨s1, s2, s3, s4⟩ := hSw; go_simp; try with_reducible rfl
    try simp only [Act.put, List.setIfInBounds_toArray, List.set_cons_zero, List.set_cons_succ]
    refine wpAnyH_take (i := 6) (oi := { dst := some 9, op := _, type := _, pos := _, after := _, guard := _ }) (v := ?_) rfl (by kernel_rfl) (by kernel_rfl) (by kernel_rfl) (fun _ _ _ h => h) (Or.inl ⟨by rfl, ?_⟩) (by assumption) ?_
    rotate_left 1
    · intro u hSw; obtain ⟨s1, s2, s3, s4⟩ := hSw; go_simp; try with_reducible rfl
    try simp only [Act.put, List.setIfInBounds_toArray, List.set_cons_zero, List.set_cons_succ]
    refine wpAnyH_done (by kernel_rfl) ?_ _
    refine NoPanic.normal ?_
    go_wp2
    go_ret2
    obtain ⟨hpc, hA, hF2, hcnt⟩ := HC.out
    obtain ⟨hA2, h0', h2', hF4⟩ := HC2.out
    obtain ⟨n0, n1, n2⟩ := HW.out.nsm
    have hxx : ∀ j, j = sb ∨ m1 = some j → j ≠ d ∧ j ≠ g := by
      rintro j (e | e)
      · rw [e]; exact ⟨hnd, hng⟩
      · have := n1 j e; omega
    have hA5 := hA2.fr hF5 (fun q => (hxx d q).1 rfl) (fun q => (hxx g q).2 rfl)
    have k0' := h0'.fr hF5 (fun j e q => by
      rcases q with q | q
      · have := n0 j e; omega
      · exact (HW.out.a1 j e).1 q)
    have k2' := h2'.fr hF5 (fun j e q => by
      rcases q with q | q
      · have := n2 j e; omega
      · exact HW.out.a2 j q e)
    have hFK : Fr K W w5 := ((hF4.mono (G := K) (fun j _ e => HW.out.kk j (by rcases e with e | e <;> simp [e]))).drew).trans hF5 (fun j e => .inl (HW.out.kk j (by rcases e with e | e <;> simp [e])))
    have hb' : m1 = some b ∨ m1 = none ∧ W.heap.size ≤ b := hb.imp id (fun q => ⟨q.1, by have : w4.heap.size ≤ b := q.2; omega⟩)
    have h5 := HW.out.ver hFK hA5 hpc (Stt.ver_ok HW.out.ok HVS.out.1 HVS.out.2.1 HVS.out.2.2.1 HVS.out.2.2.2) hst5 hp5 ⟨_, k0'⟩ ⟨_, k2'⟩ hb'
    have hFw : Fr K wb w5 := (Fr.below (F := K) HBA.out).trans hFK (fun j e => .inl e)
    have hNl : N'.length = z := by rw [← hA2.len, tset_len, hTl]; exact r1
    refine ⟨rfl, fun j => K j ∨ j = b, ⟨g, _, _, _, _, N', m', F', own', _, _, h5, hNl, by rw [hcnt, r2], by omega, by omega, fun c' => ?_⟩, fun j hj => ⟨fun e => e.elim id (fun e => ?_), .inl⟩, hFw⟩
    · show up1 A.la 1 (A.la 1 + 1) c' ≤ _
      unfold up1
      split
      · omega
      · exact HR5.out c'
    · rcases hb' with q | ⟨_, q⟩
      · exact HW.out.kk j (by simp [e, q])
      · have := HBA.out.size
        omega
  · obtain ⟨s1, s2, s3⟩ := hHeld
    go_simp
    go_wp2_with fail
    refine hK.out _ _ (KEP.out _ ⟨rfl, rfl, rfl, by simp, fun j hj => Below.heap_alloc _ _ _ hj⟩) (fun hHeld => ?_)
    clear hK Kq
    try simp only [Act.put, List.setIfInBounds_toArray, List.set_cons_zero, List.set_cons_succ]
    obtain ⟨w2a, hw2a⟩ : ∃ x, x = (w2.alloc (.cells #[.string ⟨#[]⟩, .int .i64 0, .int .i64 0, .int .i64 0] 106)).drew := ⟨_, rfl⟩
    have zb : w2a.heap[w2.heap.size]? = some (.cells #[.string ⟨#[]⟩, .int .i64 0, .int .i64 0, .int .i64 0] 106 (0, 0)) := by rw [hw2a]; exact heap_alloc_new w2 _
    have hba : Below w2.heap.size w2 w2a := by rw [hw2a]; exact ⟨rfl, rfl, rfl, by simp, fun j hj => Below.heap_alloc _ _ _ hj⟩
    have hsa : w2a.heap.size = w2.heap.size + 1 := by rw [hw2a]; simp
    refine wpAnyH_ready (rs := [1]) (by kernel_rfl) (by simp) ?_
    refine AllReadyH.cons (o := { dst := some 48, op := _, type := _, pos := _, after := _, guard := _ }) rfl (fun Kq hK => ?_) AllReadyH.nil
    obtain ⟨s1, s2, s3⟩ := hHeld
    go_simp
    rw [← hw2a]
    refine (HCL.out _).mono ?_
    rintro e w3 ⟨rfl, hb3⟩
    have hb3' : Below w2.heap.size w2 w3 := hba.trans ⟨hb3.os, hb3.tape, hb3.output, hb3.size, fun j hj => hb3.block j (by omega)⟩
    go_wp2_with fail
    refine hK.out _ _ (KEP.out w3 hb3') (fun hHeld => ?_)
    clear hK Kq
    try simp only [Act.put, List.setIfInBounds_toArray, List.set_cons_zero, List.set_cons_succ]
    refine wpAnyH_take (i := 11) (oi := { dst := some 58, op := _, type := _, pos := _, after := _, guard := _ }) (v := ?_) rfl (by kernel_rfl) (by kernel_rfl) (by kernel_rfl) (fun _ _ _ h => h) (Or.inl ⟨by rfl, ?_⟩) (by assumption) ?_
    rotate_left 1
    · intro u hSw; obtain ⟨s1, s2, s3⟩ := hSw; go_simp; try with_reducible rfl
    try simp only [Act.put, List.setIfInBounds_toArray, List.set_cons_zero, List.set_cons_succ]
    have zb3 := (hb3.block _ (by omega : w2.heap.size < w2a.heap.size)).trans zb
    obtain ⟨vb, hvb⟩ : ∃ x, x = w2.heap.size := ⟨_, rfl⟩
    rw [← hvb] at zb3 ⊢
    have hvl : w2.heap.size ≤ vb := by omega
    clear hvb
    have zy0 : w3.cell? ⟨vb, 0, none⟩ = some (.string ⟨#[]⟩) := by rw [Go.Joins.cell_of_block zb3]; rfl
    have zf0 := Go.Joins.unfrozen_of_block zb3 0
    have zy1 : w3.cell? ⟨vb, 1, none⟩ = some (.int .i64 0) := by rw [Go.Joins.cell_of_block zb3]; rfl
    have zf1 := Go.Joins.unfrozen_of_block zb3 1
    have zy2 : w3.cell? ⟨vb, 2, none⟩ = some (.int .i64 0) := by rw [Go.Joins.cell_of_block zb3]; rfl
    have zf2 := Go.Joins.unfrozen_of_block zb3 2
    have zy3 : w3.cell? ⟨vb, 3, none⟩ = some (.int .i64 0) := by rw [Go.Joins.cell_of_block zb3]; rfl
    have zf3 := Go.Joins.unfrozen_of_block zb3 3
    have a0 : (w3.setCell ⟨vb, 0, none⟩ (.string tt)).heap[vb]? = some (.cells #[.string tt, .int .i64 0, .int .i64 0, .int .i64 0] 106 (0, 0)) := by rw [Go.Joins.block_setCell zb3]; rfl
    have a1 : ((w3.setCell ⟨vb, 0, none⟩ (.string tt)).setCell ⟨vb, 1, none⟩ (.int .i64 (c0 : Int))).heap[vb]? = some (.cells #[.string tt, .int .i64 (c0 : Int), .int .i64 0, .int .i64 0] 106 (0, 0)) := by rw [Go.Joins.block_setCell a0]; rfl
    have a2 : (((w3.setCell ⟨vb, 0, none⟩ (.string tt)).setCell ⟨vb, 1, none⟩ (.int .i64 (c0 : Int))).setCell ⟨vb, 2, none⟩ (.int .i64 (c1 : Int))).heap[vb]? = some (.cells #[.string tt, .int .i64 (c0 : Int), .int .i64 (c1 : Int), .int .i64 0] 106 (0, 0)) := by rw [Go.Joins.block_setCell a1]; rfl
    have a3 : ((((w3.setCell ⟨vb, 0, none⟩ (.string tt)).setCell ⟨vb, 1, none⟩ (.int .i64 (c0 : Int))).setCell ⟨vb, 2, none⟩ (.int .i64 (c1 : Int))).setCell ⟨vb, 3, none⟩ (.int .i64 (c2 : Int))).heap[vb]? = some (.cells #[.string tt, .int .i64 (c0 : Int), .int .i64 (c1 : Int), .int .i64 (c2 : Int)] 106 (0, 0)) := by rw [Go.Joins.block_setCell a2]; rfl
    have hbx : Below w2.heap.size w2 ((((w3.setCell ⟨vb, 0, none⟩ (.string tt)).setCell ⟨vb, 1, none⟩ (.int .i64 (c0 : Int))).setCell ⟨vb, 2, none⟩ (.int .i64 (c1 : Int))).setCell ⟨vb, 3, none⟩ (.int .i64 (c2 : Int))) := (((((Fr.below (F := fun _ => False) hb3').setCell (p := ⟨vb, 0, none⟩) (.inr hvl) _).setCell (p := ⟨vb, 1, none⟩) (.inr hvl) _).setCell (p := ⟨vb, 2, none⟩) (.inr hvl) _).setCell (p := ⟨vb, 3, none⟩) (.inr hvl) _).to (fun _ _ e => e) (Nat.le_refl _)
    refine wpAnyH_ready (rs := [13]) (by kernel_rfl) (by simp) ?_
    refine AllReadyH.cons (o := { dst := none, op := _, type := _, pos := _, after := _, guard := _ }) rfl (fun Kq hK => ?_) AllReadyH.nil
    obtain ⟨s1, s2, s3⟩ := hHeld
    go_simp
    go_wp2_with fail
    refine hK.out _ _ (KEP.out _ hbx) (fun hHeld => ?_)
    clear hK Kq
    try simp only [Act.put, List.setIfInBounds_toArray, List.set_cons_zero, List.set_cons_succ]
    obtain ⟨w4, hw4⟩ : ∃ x, x = ((((w3.setCell ⟨vb, 0, none⟩ (.string tt)).setCell ⟨vb, 1, none⟩ (.int .i64 (c0 : Int))).setCell ⟨vb, 2, none⟩ (.int .i64 (c1 : Int))).setCell ⟨vb, 3, none⟩ (.int .i64 (c2 : Int))) := ⟨_, rfl⟩
    rw [← hw4] at hbx a3 ⊢
    have hb4 := hbx
    have nb4 := a3
    clear hw4 a0 a1 a2 a3 hbx zy0 zy1 zy2 zy3 zf0 zf1 zf2 zf3 zb3 hb3 hb3' zb hba hsa hw2a
    refine wpAnyH_done (by kernel_rfl) ?_ _
    refine NoPanic.normal ?_
    clear s0 s1 s2
    obtain ⟨hpc, hA, hF2, hcnt⟩ := HC.out
    have hF4 : Fr (fun j => j = d ∨ j = g) W w4 := hF2.trans (G := fun _ => False) (Fr.below hb4) (fun j e => e.elim)
    have hF4d : Fr (fun j => j = d ∨ j = g) W w4.drew := hF4.trans (G := fun _ => False) (Fr.refl _ w4).drew (fun j e => e.elim)
    obtain ⟨q0, f0⟩ := HW.out.p0
    obtain ⟨q2, f2⟩ := HW.out.p2
    obtain ⟨n0, n1, n2⟩ := HW.out.nsm
    have hnd := HW.out.nsd
    have hng := HW.out.nsg
    have h0' : Mp w4.drew m0 (fOf (A.lv 0) (ndV pl)) (A.la 0) q0 := f0.fr hF4d (fun j e q => by have := n0 j e; omega)
    have h1' : Mp w4.drew m1 (fOf (A.lv 1) (vrV pl A.tx)) (A.la 1) k1 := HW.out.p1.fr hF4d (fun j e q => by have := n1 j e; omega)
    have h2' : Mp w4.drew m2 (fOf (A.lv 2) (txV pl)) (A.la 2) q2 := f2.fr hF4d (fun j e q => by have := n2 j e; omega)
    have hst : Sb w4.drew sb d (A.la 0) m0 (A.la 1) m1 (A.la 2) m2 := HW.out.st.same (hF4d.block _ HW.out.st.lt (by rintro (e | e); exact hnd e; exact hng e))
    have hdg : d < w2.heap.size ∧ g < w2.heap.size := by omega
    have hA2 : Aw w4.drew d g (tset T [c0, c1, c2]) N' m' F' := hA.same (hb4.block d hdg.1) (hb4.block g hdg.2)
    have hadd := addV_any (x0 := tt) (x1 := (c0 : Int)) (x2 := (c1 : Int)) (x3 := (c2 : Int)) (f' := (fOf ((A.ver tt bg 0).lv 1) (vrV (plV A pl c0 c1 c2) (A.ver tt bg 0).tx))) hst h1' (by omega) (by omega) (fOf_out (.inr (by
        cases hq : A.lv 1 (A.la 1 + 1) with
        | false => exact hq
        | true => have := HW.out.ok.n1 _ _ hq; omega))) (by
        rw [fOf_in (show (A.ver tt bg 0).lv 1 (A.la 1 + 1) = true from up2_same _ _ _ _)]
        unfold vrV plV Stt.ver
        dsimp only
        rw [up1_same, up2_other _ _ (fun q => by omega), up2_other _ _ (fun q => by omega), up2_same, up2_other _ _ (fun q => by omega), up2_same, up2_same]) (fOf_new (fun n hn => up2_other _ _ (fun q => hn q.2)) (fun n hn => by
        unfold vrV plV Stt.ver
        dsimp only
        rw [up1_other _ _ hn]
        simp only [up2_other _ _ (fun (q : _ ∧ n = A.la 1 + 1) => hn q.2)]))
    have HADD := hide2 hadd
    have hs4 := hb4.size
    have hvb4 : vb < w4.heap.size := (Array.getElem?_eq_some_iff.1 nb4).1
    have hmlt := HW.out.lt0
    have y0 : w4.cell? ⟨vb, 0, none⟩ = some (.string tt) := by rw [Go.Joins.cell_of_block nb4]; rfl
    have y1 : w4.cell? ⟨vb, 1, none⟩ = some (.int .i64 (c0 : Int)) := by rw [Go.Joins.cell_of_block nb4]; rfl
    have y2 : w4.cell? ⟨vb, 2, none⟩ = some (.int .i64 (c1 : Int)) := by rw [Go.Joins.cell_of_block nb4]; rfl
    have y3 : w4.cell? ⟨vb, 3, none⟩ = some (.int .i64 (c2 : Int)) := by rw [Go.Joins.cell_of_block nb4]; rfl
    have FRC : Hid (∀ w5, Fr (fun j => j = sb ∨ m1 = some j) w4.drew w5 → w5.cell? ⟨vb, 0, none⟩ = some (.string tt) ∧ w5.cell? ⟨vb, 1, none⟩ = some (.int .i64 (c0 : Int)) ∧ w5.cell? ⟨vb, 2, none⟩ = some (.int .i64 (c1 : Int)) ∧ w5.cell? ⟨vb, 3, none⟩ = some (.int .i64 (c2 : Int))) := hide2 (fun w5 h5 => by
      have hk : ∀ i, w5.cell? ⟨vb, i, none⟩ = w4.cell? ⟨vb, i, none⟩ := fun i => h5.cell (p := ⟨vb, i, none⟩) (show vb < w4.heap.size from hvb4) (by
        rintro (e | e)
        · have : vb = sb := e
          omega
        · have := hmlt.2.1 vb e
          omega)
      exact ⟨(hk 0).trans y0, (hk 1).trans y1, (hk 2).trans y2, (hk 3).trans y3⟩)
    have HC2 := hide2 (And.intro hA2 (And.intro h0' (And.intro h2' hF4)))
    clear f0 f2 h0' h1' h2' hst hA2 hadd hF2 hF4 hF4d hmlt n0 n1 n2 hpc hA hcnt hb4 nb4
    go_wp2_with fail
    refine wp_region_noPanic ?_
    refine wp_region_held_drew (S := (fun u : World => u.cell? ⟨vb, 0, none⟩ = some (.string tt) ∧ u.cell? ⟨vb, 1, none⟩ = some (.int .i64 (c0 : Int)) ∧ u.cell? ⟨vb, 2, none⟩ = some (.int .i64 (c1 : Int)) ∧ u.cell? ⟨vb, 3, none⟩ = some (.int .i64 (c2 : Int)))) (by kernel_rfl) (⟨y0, y1, y2, y3⟩) (fun hHeld => ?_)
    refine wpAnyH_take (i := 0) (oi := { dst := some 59, op := _, type := _, pos := _, after := _, guard := _ }) (v := ?_) rfl (by kernel_rfl) (by kernel_rfl) (by kernel_rfl) (fun _ _ _ h => h) (Or.inl ⟨by rfl, ?_⟩) (by assumption) ?_
    rotate_left 1
    · intro u hSw; obtain ⟨s1, s2, s3, s4⟩ := hSw; go_simp; try with_reducible rfl
    try simp only [Act.put, List.setIfInBounds_toArray, List.set_cons_zero, List.set_cons_succ]
    refine wpAnyH_take (i := 1) (oi := { dst := some 60, op := _, type := _, pos := _, after := _, guard := _ }) (v := ?_) rfl (by kernel_rfl) (by kernel_rfl) (by kernel_rfl) (fun _ _ _ h => h) (Or.inl ⟨by rfl, ?_⟩) (by assumption) ?_
    rotate_left 1
    · intro u hSw; obtain ⟨s1, s2, s3, s4⟩ := hSw; go_simp; try with_reducible rfl
    try simp only [Act.put, List.setIfInBounds_toArray, List.set_cons_zero, List.set_cons_succ]
    refine wpAnyH_take (i := 2) (oi := { dst := some 61, op := _, type := _, pos := _, after := _, guard := _ }) (v := ?_) rfl (by kernel_rfl) (by kernel_rfl) (by kernel_rfl) (fun _ _ _ h => h) (Or.inl ⟨by rfl, ?_⟩) (by assumption) ?_
    rotate_left 1
    · intro u hSw; obtain ⟨s1, s2, s3, s4⟩ := hSw; go_simp; try with_reducible rfl
    try simp only [Act.put, List.setIfInBounds_toArray, List.set_cons_zero, List.set_cons_succ]
    refine wpAnyH_take (i := 3) (oi := { dst := some 62, op := _, type := _, pos := _, after := _, guard := _ }) (v := ?_) rfl (by kernel_rfl) (by kernel_rfl) (by kernel_rfl) (fun _ _ _ h => h) (Or.inl ⟨by rfl, ?_⟩) (by assumption) ?_
    rotate_left 1
    · intro u hSw; obtain ⟨s1, s2, s3, s4⟩ := hSw; go_simp; try with_reducible rfl
    try simp only [Act.put, List.setIfInBounds_toArray, List.set_cons_zero, List.set_cons_succ]
    refine wpAnyH_ready (rs := [4]) (by kernel_rfl) (by simp) ?_
    refine AllReadyH.cons (o := { dst := some 63, op := _, type := _, pos := _, after := _, guard := _ }) rfl (fun Kq hK => ?_) AllReadyH.nil
    obtain ⟨s1, s2, s3, s4⟩ := hHeld
    go_simp
    refine HADD.out.mono ?_
    rintro e w5 ⟨rfl, b, hb, hst5, hp5, hF5⟩
    go_wp2_with fail
    refine hK.out _ _ (FRC.out w5 hF5) (fun hHeld => ?_)
    clear hK Kq
    try simp only [Act.put, List.setIfInBounds_toArray, List.set_cons_zero, List.set_cons_succ]
    refine wpAnyH_take (i := 5) (oi := { dst := some 8, op := _, type := _, pos := _, after := _, guard := _ }) (v := ?_) rfl (by kernel_rfl) (by kernel_rfl) (by kernel_rfl) (fun _ _ _ h => h) (Or.inl ⟨by rfl, ?_⟩) (by assumption) ?_
    rotate_left 1
    · intro u hSw; obtain ⟨s1, s2, s3, s4⟩ := hSw; go_simp; try with_reducible rfl
    try simp only [Act.put, List.setIfInBounds_toArray, List.set_cons_zero, List.set_cons_succ]
    refine wpAnyH_take (i := 6) (oi := { dst := some 9, op := _, type := _, pos := _, after := _, guard := _ }) (v := ?_) rfl (by kernel_rfl) (by kernel_rfl) (by kernel_rfl) (fun _ _ _ h => h) (Or.inl ⟨by rfl, ?_⟩) (by assumption) ?_
    rotate_left 1
    · intro u hSw; obtain ⟨s1, s2, s3, s4⟩ := hSw; go_simp; try with_reducible rfl
    try simp only [Act.put, List.setIfInBounds_toArray, List.set_cons_zero, List.set_cons_succ]
    refine wpAnyH_done (by kernel_rfl) ?_ _
    refine NoPanic.normal ?_
    go_wp2
    go_ret2
    obtain ⟨hpc, hA, hF2, hcnt⟩ := HC.out
    obtain ⟨hA2, h0', h2', hF4⟩ := HC2.out
    obtain ⟨n0, n1, n2⟩ := HW.out.nsm
    have hxx : ∀ j, j = sb ∨ m1 = some j → j ≠ d ∧ j ≠ g := by
      rintro j (e | e)
      · rw [e]; exact ⟨hnd, hng⟩
      · have := n1 j e; omega
    have hA5 := hA2.fr hF5 (fun q => (hxx d q).1 rfl) (fun q => (hxx g q).2 rfl)
    have k0' := h0'.fr hF5 (fun j e q => by
      rcases q with q | q
      · have := n0 j e; omega
      · exact (HW.out.a1 j e).1 q)
    have k2' := h2'.fr hF5 (fun j e q => by
      rcases q with q | q
      · have := n2 j e; omega
      · exact HW.out.a2 j q e)
    have hFK : Fr K W w5 := ((hF4.mono (G := K) (fun j _ e => HW.out.kk j (by rcases e with e | e <;> simp [e]))).drew).trans hF5 (fun j e => .inl (HW.out.kk j (by rcases e with e | e <;> simp [e])))
    have hb' : m1 = some b ∨ m1 = none ∧ W.heap.size ≤ b := hb.imp id (fun q => ⟨q.1, by have : w4.heap.size ≤ b := q.2; omega⟩)
    have h5 := HW.out.ver hFK hA5 hpc (Stt.ver_ok HW.out.ok HVS.out.1 HVS.out.2.1 HVS.out.2.2.1 HVS.out.2.2.2) hst5 hp5 ⟨_, k0'⟩ ⟨_, k2'⟩ hb'
    have hFw : Fr K wb w5 := (Fr.below (F := K) HBA.out).trans hFK (fun j e => .inl e)
    have hNl : N'.length = z := by rw [← hA2.len, tset_len, hTl]; exact r1
    refine ⟨rfl, fun j => K j ∨ j = b, ⟨g, _, _, _, _, N', m', F', own', _, _, h5, hNl, by rw [hcnt, r2], by omega, by omega, fun c' => ?_⟩, fun j hj => ⟨fun e => e.elim id (fun e => ?_), .inl⟩, hFw⟩
    · show up1 A.la 1 (A.la 1 + 1) c' ≤ _
      unfold up1
      split
      · omega
      · exact HR5.out c'
    · rcases hb' with q | ⟨_, q⟩
      · exact HW.out.kk j (by simp [e, q])
      · have := HBA.out.size
        omega
end
end Go.Proofs.YtfhcphgjaobnoaaDoor
