/-
  Node, Version, Txn: something is made. (Printed by gen_ta9.py.)
-/
import Derived.Test.YtfhcphgjaobnoaaDoorTa8
set_option linter.unusedVariables false
set_option linter.unusedSimpArgs false
namespace Go.Proofs.YtfhcphgjaobnoaaDoor
open Go.RowKit Go.Maps

theorem two_of {l : List Nat} (h : l.length = 2) : ∃ a b, l = [a, b] := by
  match l, h with
  | [a, b], _ => exact ⟨a, b, rfl⟩
theorem three_of {l : List Nat} (h : l.length = 3) : ∃ a b c, l = [a, b, c] := by
  match l, h with
  | [a, b, c], _ => exact ⟨a, b, c, rfl⟩
theorem one_of {l : List Nat} (h : l.length = 1) : ∃ a, l = [a] := by
  match l, h with
  | [a], _ => exact ⟨a, rfl⟩

section
variable {w w' : World} {K : Nat → Prop} {sb d z M u : Nat} {A : Stt}
set_option maxRecDepth 100000 in
set_option maxHeartbeats 4000000 in
theorem node_any (h : Rp w K sb d z M A u)  (hla : A.la 0 < 1000000) (hroom : u + 2 ≤ z) (hM : M < 3900000000000000000) :
    Calls Tryd.prog 30 #[.pointer (some ⟨sb, 0, none⟩)] w fun e w' => e = .returned (.tuple #[.int .i64 ((A.la 0 + 1 : Nat) : Int), .int .i64 0]) ∧ Aft w w' K sb d z (M + 3) A.node (u + 2) := by
  obtain ⟨g, m0, m1, m2, T, N, m, F, own, pl, k1, h, r1, r2, r3, r4, r5⟩ := h
  have HI := hide2 (fun (v : World) (hv : Sm v K sb d g m0 m1 m2 T N m F own pl k1 A) => isNone_any (w := v) hv.st.cells.1)
  have hl0 := r5 0
  have hTl := h.aw.len
  have H := hide2 h
  have HR5 := hide2 r5
  clear h r5
  go_enter Tryd.func30, Tryd.ntmps30
  go_wp2_with fail
  refine (HI.out _ H.out).mono ?_
  rintro e wa ⟨rfl, qa⟩
  subst qa
  clear HI
  have HBA0 : Hid (Below wa.heap.size wa wa) := hide2 (Below.refl _ _)
  have hwl := H.out.kl
  have hkk := H.out.kk
  have hdl := hwl d (hkk d (by simp))
  have hgl := hwl g (hkk g (by simp))
  have hsl := hwl sb (hkk sb (by simp))
  obtain ⟨W, hW⟩ : ∃ x, x = wa.alloc (.cells #[.int .u64 0, .int .u64 0] 54) := ⟨_, rfl⟩
  have hbW : Below wa.heap.size wa W := by rw [hW]; exact (Below.refl _ _).alloc (Nat.le_refl _) _
  have hsW : W.heap.size = wa.heap.size + 1 := by rw [hW]; simp
  have nb : W.heap[wa.heap.size]? = some (.cells #[.int .u64 0, .int .u64 0] 54 (0, 0)) := by rw [hW]; exact heap_alloc_new wa _
  have hWm := H.out.below hbW
  have htk := take_ok (w := W) (sg := wa.heap.size) (n := 2) (cap := 2) (xs := [0, 0]) hWm.st.cells.1 hWm.st.lt hWm.aw hWm.tab (fun e => hWm.k0 (e ▸ hWm.kk d (by simp))) (fun e => hWm.k0 (e ▸ hWm.kk g (by simp))) hWm.nsd hWm.nsg rfl (by decide) (by decide) (by unfold maxLen; decide) (by omega) (by omega) (by omega) (fun i x hi => by
      rw [Go.Joins.cell_of_block nb]
      rcases i with _ | _ | i
      · simp at hi; rw [← hi]; rfl
      · simp at hi; rw [← hi]; rfl
      · simp at hi) (by simp) (by omega) (by omega)
  have HBA : Hid (Below wa.heap.size wa W) := hide2 (HBA0.out.trans ⟨hbW.os, hbW.tape, hbW.output, hbW.size, fun j hj => hbW.block j (by have := HBA0.out.size; omega)⟩)
  have HTK := hide2 htk
  have HW := hide2 hWm
  have HBW := hide2 hbW
  clear htk hWm hbW nb hwl hkk
  go_wp2_with fail
  rw [← hW]
  clear hW
  refine HTK.out.mono ?_
  rintro e w2 ⟨v, rfl, cs, N', m', F', hrow, hcl, hfr, hA, hm1, hm2, hxs, hoth, hcnt, hF2⟩
  obtain ⟨c0, c1, rfl⟩ := two_of hcl
  obtain ⟨gt, cp, egt, s0⟩ := hrow.at (i := 0) (by simp)
  obtain ⟨gt1, cp1, egt1, s1⟩ := hrow.at (i := 1) (by simp)
  rw [egt] at egt1
  simp only [Value.slice.injEq, Option.some.injEq, Addr.mk.injEq, true_and, and_true] at egt1
  obtain ⟨rfl, rfl⟩ := egt1
  simp only [List.length_cons, List.length_nil] at egt
  subst egt
  have s0 : w2.cell? ⟨gt, 0, none⟩ = some (.int .i64 (c0 : Int)) := s0
  have s1 : w2.cell? ⟨gt, 1, none⟩ = some (.int .i64 (c1 : Int)) := s1
  have hgt := (World.ownsRow.lt hrow gt rfl)
  obtain ⟨own', hpc⟩ := HW.out.pc.node HW.out.ok (N' := N') hfr (hxs 0 c0 _ rfl rfl) (hxs 1 c1 _ rfl rfl) hoth
  obtain ⟨q0, f0⟩ := HW.out.p0
  obtain ⟨q2, f2⟩ := HW.out.p2
  obtain ⟨n0, n1, n2⟩ := HW.out.nsm
  have hnd := HW.out.nsd
  have hng := HW.out.nsg
  have h0' : Mp w2.drew m0 (fOf (A.lv 0) (ndV pl)) (A.la 0) q0 := f0.fr (hF2.trans (G := fun _ => False) (Fr.refl _ w2).drew (fun j e => e.elim)) (fun j e q => by have := n0 j e; omega)
  have h1' : Mp w2.drew m1 (fOf (A.lv 1) (vrV pl A.tx)) (A.la 1) k1 := HW.out.p1.fr (hF2.trans (G := fun _ => False) (Fr.refl _ w2).drew (fun j e => e.elim)) (fun j e q => by have := n1 j e; omega)
  have h2' : Mp w2.drew m2 (fOf (A.lv 2) (txV pl)) (A.la 2) q2 := f2.fr (hF2.trans (G := fun _ => False) (Fr.refl _ w2).drew (fun j e => e.elim)) (fun j e q => by have := n2 j e; omega)
  have hst : Sb w2.drew sb d (A.la 0) m0 (A.la 1) m1 (A.la 2) m2 := HW.out.st.same (hF2.block _ HW.out.st.lt (by rintro (e | e); exact hnd e; exact hng e))
  have hA2 : Aw w2.drew d g (tset T [c0, c1]) N' m' F' := hA.same rfl rfl
  have hadd := addN_any (f' := (fOf (A.node.lv 0) (ndV (plN A pl c0 c1)))) hst h0' (by omega) (by omega) (fOf_out (.inr (by
      cases hq : A.lv 0 (A.la 0 + 1) with
      | false => exact hq
      | true => have := HW.out.ok.n1 _ _ hq; omega))) (by
      rw [fOf_in (show A.node.lv 0 (A.la 0 + 1) = true from up2_same _ _ _ _)]
      unfold ndV plN
      rw [up2_other _ _ (fun q => by omega), up2_same, up2_same]) (fOf_new (fun n hn => up2_other _ _ (fun q => hn q.2)) (fun n hn => by
      unfold ndV plN
      rw [up2_other _ _ (fun q => hn q.2), up2_other _ _ (fun q => hn q.2), up2_other _ _ (fun q => hn q.2), up2_other _ _ (fun q => hn q.2)]))
  have HADD := hide2 hadd
  have hs2 := hF2.size
  have hgt2 : gt < w2.heap.size ∧ W.heap.size ≤ gt := ⟨hgt.2, hgt.1⟩
  have hmlt := HW.out.lt0
  have FRC : Hid (∀ w5, Fr (fun j => j = sb ∨ m0 = some j) w2.drew w5 → w5.cell? ⟨gt, 0, none⟩ = some (.int .i64 (c0 : Int)) ∧ w5.cell? ⟨gt, 1, none⟩ = some (.int .i64 (c1 : Int))) := hide2 (fun w5 h5 => by
    have hk : ∀ i, w5.cell? ⟨gt, i, none⟩ = w2.cell? ⟨gt, i, none⟩ := fun i => h5.cell (p := ⟨gt, i, none⟩) (show gt < w2.heap.size from hgt2.1) (by
      rintro (e | e)
      · have : gt = sb := e
        omega
      · have := hmlt.1 gt e
        omega)
    exact ⟨(hk 0).trans s0, (hk 1).trans s1⟩)
  have HC := hide2 (And.intro hpc (And.intro hA2 (And.intro h0' (And.intro h1' (And.intro h2' (And.intro hF2 hcnt))))))
  have hmb : m ≤ m' ∧ m' ≤ m + 2 := ⟨hm1, hm2⟩
  clear HTK hrow hfr hA hm1 hm2 hxs hoth hcnt hpc f0 f2 h0' h1' h2' hst hA2 hadd hF2 hgt hgt2 hmlt n0 n1 n2
  go_wp2_with fail
  refine wp_region_noPanic ?_
  refine wp_region_held_drew (S := (fun u : World => u.cell? ⟨gt, 0, none⟩ = some (.int .i64 (c0 : Int)) ∧ u.cell? ⟨gt, 1, none⟩ = some (.int .i64 (c1 : Int)))) (by kernel_rfl) (⟨s0, s1⟩) (fun hHeld => ?_)
  refine wpAnyH_take (i := 0) (oi := { dst := some 17, op := _, type := _, pos := _, after := _, guard := _ }) (v := ?_) rfl (by kernel_rfl) (by kernel_rfl) (by kernel_rfl) (fun _ _ _ h => h) (Or.inl ⟨by rfl, ?_⟩) (by assumption) ?_
  rotate_left 1
  · intro u hSw; obtain ⟨s1, s2⟩ := hSw; go_simp; try with_reducible rfl
  try simp only [Act.put, List.setIfInBounds_toArray, List.set_cons_zero, List.set_cons_succ]
  refine wpAnyH_take (i := 1) (oi := { dst := some 18, op := _, type := _, pos := _, after := _, guard := _ }) (v := ?_) rfl (by kernel_rfl) (by kernel_rfl) (by kernel_rfl) (fun _ _ _ h => h) (Or.inl ⟨by rfl, ?_⟩) (by assumption) ?_
  rotate_left 1
  · intro u hSw; obtain ⟨s1, s2⟩ := hSw; go_simp; try with_reducible rfl
  try simp only [Act.put, List.setIfInBounds_toArray, List.set_cons_zero, List.set_cons_succ]
  refine wpAnyH_take (i := 2) (oi := { dst := some 19, op := _, type := _, pos := _, after := _, guard := _ }) (v := ?_) rfl (by kernel_rfl) (by kernel_rfl) (by kernel_rfl) (fun _ _ _ h => h) (Or.inl ⟨by rfl, ?_⟩) (by assumption) ?_
  rotate_left 1
  · intro u hSw; obtain ⟨s1, s2⟩ := hSw; go_simp; try with_reducible rfl
  try simp only [Act.put, List.setIfInBounds_toArray, List.set_cons_zero, List.set_cons_succ]
  refine wpAnyH_take (i := 3) (oi := { dst := some 20, op := _, type := _, pos := _, after := _, guard := _ }) (v := ?_) rfl (by kernel_rfl) (by kernel_rfl) (by kernel_rfl) (fun _ _ _ h => h) (Or.inl ⟨by rfl, ?_⟩) (by assumption) ?_
  rotate_left 1
  · intro u hSw; obtain ⟨s1, s2⟩ := hSw; go_simp; try with_reducible rfl
  try simp only [Act.put, List.setIfInBounds_toArray, List.set_cons_zero, List.set_cons_succ]
  refine wpAnyH_take (i := 4) (oi := { dst := some 21, op := _, type := _, pos := _, after := _, guard := _ }) (v := ?_) rfl (by kernel_rfl) (by kernel_rfl) (by kernel_rfl) (fun _ _ _ h => h) (Or.inl ⟨by rfl, ?_⟩) (by assumption) ?_
  rotate_left 1
  · intro u hSw; obtain ⟨s1, s2⟩ := hSw; go_simp; try with_reducible rfl
  try simp only [Act.put, List.setIfInBounds_toArray, List.set_cons_zero, List.set_cons_succ]
  refine wpAnyH_take (i := 5) (oi := { dst := some 22, op := _, type := _, pos := _, after := _, guard := _ }) (v := ?_) rfl (by kernel_rfl) (by kernel_rfl) (by kernel_rfl) (fun _ _ _ h => h) (Or.inl ⟨by rfl, ?_⟩) (by assumption) ?_
  rotate_left 1
  · intro u hSw; obtain ⟨s1, s2⟩ := hSw; go_simp; try with_reducible rfl
  try simp only [Act.put, List.setIfInBounds_toArray, List.set_cons_zero, List.set_cons_succ]
  refine wpAnyH_take (i := 6) (oi := { dst := some 23, op := _, type := _, pos := _, after := _, guard := _ }) (v := ?_) rfl (by kernel_rfl) (by kernel_rfl) (by kernel_rfl) (fun _ _ _ h => h) (Or.inl ⟨by rfl, ?_⟩) (by assumption) ?_
  rotate_left 1
  · intro u hSw; obtain ⟨s1, s2⟩ := hSw; go_simp; try with_reducible rfl
  try simp only [Act.put, List.setIfInBounds_toArray, List.set_cons_zero, List.set_cons_succ]
  refine wpAnyH_take (i := 7) (oi := { dst := some 24, op := _, type := _, pos := _, after := _, guard := _ }) (v := ?_) rfl (by kernel_rfl) (by kernel_rfl) (by kernel_rfl) (fun _ _ _ h => h) (Or.inl ⟨by rfl, ?_⟩) (by assumption) ?_
  rotate_left 1
  · intro u hSw; obtain ⟨s1, s2⟩ := hSw; go_simp; try with_reducible rfl
  try simp only [Act.put, List.setIfInBounds_toArray, List.set_cons_zero, List.set_cons_succ]
  refine wpAnyH_take (i := 8) (oi := { dst := some 25, op := _, type := _, pos := _, after := _, guard := _ }) (v := ?_) rfl (by kernel_rfl) (by kernel_rfl) (by kernel_rfl) (fun _ _ _ h => h) (Or.inl ⟨by rfl, ?_⟩) (by assumption) ?_
  rotate_left 1
  · intro u hSw; obtain ⟨s1, s2⟩ := hSw; go_simp; try with_reducible rfl
  try simp only [Act.put, List.setIfInBounds_toArray, List.set_cons_zero, List.set_cons_succ]
  refine wpAnyH_take (i := 9) (oi := { dst := some 26, op := _, type := _, pos := _, after := _, guard := _ }) (v := ?_) rfl (by kernel_rfl) (by kernel_rfl) (by kernel_rfl) (fun _ _ _ h => h) (Or.inl ⟨by rfl, ?_⟩) (by assumption) ?_
  rotate_left 1
  · intro u hSw; obtain ⟨s1, s2⟩ := hSw; go_simp; try with_reducible rfl
  try simp only [Act.put, List.setIfInBounds_toArray, List.set_cons_zero, List.set_cons_succ]
  refine wpAnyH_ready (rs := [10]) (by kernel_rfl) (by simp) ?_
  refine AllReadyH.cons (o := { dst := some 27, op := _, type := _, pos := _, after := _, guard := _ }) rfl (fun Kq hK => ?_) AllReadyH.nil
  obtain ⟨s1, s2⟩ := hHeld
  go_simp
  refine HADD.out.mono ?_
  rintro e w5 ⟨rfl, b, hb, hst5, hp5, hF5⟩
  go_wp2_with fail
  refine hK.out _ _ (FRC.out w5 hF5) (fun hHeld => ?_)
  clear hK Kq
  try simp only [Act.put, List.setIfInBounds_toArray, List.set_cons_zero, List.set_cons_succ]
  refine wpAnyH_take (i := 11) (oi := { dst := some 2, op := _, type := _, pos := _, after := _, guard := _ }) (v := ?_) rfl (by kernel_rfl) (by kernel_rfl) (by kernel_rfl) (fun _ _ _ h => h) (Or.inl ⟨by rfl, ?_⟩) (by assumption) ?_
  rotate_left 1
  · intro u hSw; obtain ⟨s1, s2⟩ := hSw; go_simp; try with_reducible rfl
  try simp only [Act.put, List.setIfInBounds_toArray, List.set_cons_zero, List.set_cons_succ]
  refine wpAnyH_take (i := 12) (oi := { dst := some 3, op := _, type := _, pos := _, after := _, guard := _ }) (v := ?_) rfl (by kernel_rfl) (by kernel_rfl) (by kernel_rfl) (fun _ _ _ h => h) (Or.inl ⟨by rfl, ?_⟩) (by assumption) ?_
  rotate_left 1
  · intro u hSw; obtain ⟨s1, s2⟩ := hSw; go_simp; try with_reducible rfl
  try simp only [Act.put, List.setIfInBounds_toArray, List.set_cons_zero, List.set_cons_succ]
  refine wpAnyH_done (by kernel_rfl) ?_ _
  refine NoPanic.normal ?_
  go_wp2
  go_ret2
  obtain ⟨hpc, hA2, h0', h1', h2', hF2, hcnt⟩ := HC.out
  obtain ⟨n0, n1, n2⟩ := HW.out.nsm
  have hxx : ∀ j, j = sb ∨ m0 = some j → j ≠ d ∧ j ≠ g := by
    rintro j (e | e)
    · rw [e]; exact ⟨hnd, hng⟩
    · have := n0 j e; omega
  have hA5 := hA2.fr hF5 (fun q => (hxx d q).1 rfl) (fun q => (hxx g q).2 rfl)
  have k1' := h1'.fr hF5 (fun j e q => by
    rcases q with q | q
    · have := n1 j e; omega
    · exact (HW.out.a1 j q).1 e)
  have k2' := h2'.fr hF5 (fun j e q => by
    rcases q with q | q
    · have := n2 j e; omega
    · exact (HW.out.a1 j q).2 e)
  have hFK : Fr K W w5 := ((hF2.mono (G := K) (fun j _ e => HW.out.kk j (by rcases e with e | e <;> simp [e]))).drew).trans hF5 (fun j e => .inl (HW.out.kk j (by rcases e with e | e <;> simp [e])))
  have hb' : m0 = some b ∨ m0 = none ∧ W.heap.size ≤ b := hb.imp id (fun q => ⟨q.1, by have : w2.heap.size ≤ b := q.2; omega⟩)
  have h5 := HW.out.node hFK hA5 hpc hst5 hp5 k1' ⟨_, k2'⟩ hb'
  have hFw : Fr K wa w5 := (Fr.below (F := K) HBA.out).trans hFK (fun j e => .inl e)
  have hNl : N'.length = z := by rw [← hA2.len, tset_len, hTl]; exact r1
  refine ⟨rfl, fun j => K j ∨ j = b, ⟨g, _, _, _, _, N', m', F', own', _, _, h5, hNl, by rw [hcnt, r2], by omega, by omega, fun c' => ?_⟩, fun j hj => ⟨fun e => e.elim id (fun e => ?_), .inl⟩, hFw⟩
  · show up1 A.la 0 (A.la 0 + 1) c' ≤ _
    unfold up1
    split
    · omega
    · exact HR5.out c'
  · rcases hb' with q | ⟨_, q⟩
    · exact HW.out.kk j (by simp [e, q])
    · have := HBA.out.size
      omega
end
end Go.Proofs.YtfhcphgjaobnoaaDoor
