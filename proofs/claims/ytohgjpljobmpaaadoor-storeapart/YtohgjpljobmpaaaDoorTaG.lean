/-
  takeAway, Forget. (Printed by gen_tag.py.)
-/
import Derived.Test.YtohgjpljobmpaaaDoorTaF
set_option linter.unusedVariables false
set_option linter.unusedSimpArgs false
namespace Go.Proofs.YtohgjpljobmpaaaDoor
open Go.RowKit Go.Maps

section
variable {w w' : World} {K : Nat → Prop} {sb d z M u : Nat} {A : Stt}
set_option maxRecDepth 100000 in
set_option maxHeartbeats 4000000 in
theorem takeAway_sm {g : Nat} {m0 m1 m2 : Option Nat} {T : List Bool} {N : List Int} {m : Int} {F : List Nat} {own : Nat → Option (Nat × Nat)} {pl : Nat → Nat → Nat} {k1 : Nat} (h : Sm w K sb d g m0 m1 m2 T N m F own pl k1 A) {n : Nat} (hn : A.lv 1 n = true) (r3 : 0 ≤ m) (r4 : m < 3950000000000000000) (hnl : A.la 1 ≤ 1000000) :
    Calls Tryd.prog 41 #[.pointer (some ⟨sb, 0, none⟩), .int .i64 (n : Int)] w fun e w' => e = .returned (.tuple #[.int .u64 (A.va 4 n), .int .i64 0]) ∧ (∃ T' F' own', Sm w' K sb d g m0 m1 m2 T' N (m + 1) F' own' pl (k1 - 1) (A.off 1 n) ∧ T'.count true + 3 = T.count true) ∧ Fr K w w' := by
  have hnb := h.ok.n1 1 n hn
  have HFD := hide2 (findV_in h.st.lt h.st.cells.2.2.2.2.1 h.p1 (n := (n : Int)) (by omega) (by omega) (fOf_in hn))
  have H := hide2 h
  have hlv : lvk A 4 n = true := lvk_of (by decide) hn
  have hct := h.pc.tak hlv
  have hvl := h.pc.vl 4 n hlv
  have hlt0 := h.st.lt
  have HN := hide2 hn
  obtain ⟨b, hmb⟩ := h.p1.some_of (fOf_in hn)
  clear h hlv hn
  go_enter Tryd.func41, Tryd.ntmps41
  go_wp2_with fail
  refine HFD.out.mono ?_
  rintro e w1 ⟨rfl, hb1⟩
  have h1 := H.out.below hb1
  obtain ⟨W2, hW2⟩ : ∃ x, x = w1.alloc (.cells #[.string (A.tx n), .int .i64 (pl 2 n : Int), .int .i64 (pl 3 n : Int), .int .i64 (pl 4 n : Int)] 77) := ⟨_, rfl⟩
  have hb2 : Below w1.heap.size w1 W2 := by rw [hW2]; exact (Below.refl _ _).alloc (Nat.le_refl _) _
  have h2 := h1.below hb2
  have nb : W2.heap[w1.heap.size]? = some (.cells #[.string (A.tx n), .int .i64 (pl 2 n : Int), .int .i64 (pl 3 n : Int), .int .i64 (pl 4 n : Int)] 77 (0, 0)) := by rw [hW2]; exact heap_alloc_new w1 _
  have s1 := h2.st.cells.1
  have s2 : W2.cell? ⟨w1.heap.size, 3, none⟩ = some (.int .i64 (pl 4 n : Int)) := by rw [Go.Joins.cell_of_block nb]; rfl
  have hkl := H.out.kl
  have hkk := H.out.kk
  have hs1 := hb1.size
  have hs2 : W2.heap.size = w1.heap.size + 1 := by rw [hW2]; simp
  have hdl := hkl d (hkk d (by simp))
  have hgl := hkl g (hkk g (by simp))
  have hsbl := hkl sb (hkk sb (by simp))
  have hbl := hkl b (hkk b (by simp [hmb]))
  have HST := hide2 (sLoad_any (w := W2.drew) (h2.aw.same rfl rfl) (pl 4 n) hct (by omega))
  rw [hvl] at HST
  have hnd := h2.nsd
  have hng := h2.nsg
  have FRC : Hid (∀ w5, Fr (fun j => j = d ∨ j = g) W2.drew w5 → w5.cell? ⟨sb, 0, none⟩ = some (.pointer (some ⟨d, 0, none⟩)) ∧ w5.cell? ⟨w1.heap.size, 3, none⟩ = some (.int .i64 (pl 4 n : Int))) := hide2 (fun w5 h5 => ⟨(h5.cell (p := ⟨sb, 0, none⟩) (show sb < W2.heap.size by omega) (show ¬ (sb = d ∨ sb = g) by omega)).trans s1, (h5.cell (p := ⟨w1.heap.size, 3, none⟩) (show w1.heap.size < W2.heap.size by omega) (show ¬ (w1.heap.size = d ∨ w1.heap.size = g) by omega)).trans s2⟩)
  have H2 := hide2 h2
  have HB : Hid (Below w.heap.size w W2) := hide2 (hb1.trans ⟨hb2.os, hb2.tape, hb2.output, hb2.size, fun j hj => hb2.block j (by omega)⟩)
  have NB := hide2 nb
  have HMB := hide2 hmb
  clear HFD h1 hb1 hb2 h2 nb hkl hkk hvl hmb
  go_wp2_with fail
  rw [← hW2]
  clear hW2
  refine wp_region_noPanic ?_
  refine wp_region_held_drew (S := (fun u : World => u.cell? ⟨sb, 0, none⟩ = some (.pointer (some ⟨d, 0, none⟩)) ∧ u.cell? ⟨w1.heap.size, 3, none⟩ = some (.int .i64 (pl 4 n : Int)))) (by kernel_rfl) (⟨s1, s2⟩) (fun hHeld => ?_)
  refine wpAnyH_take (i := 0) (oi := { dst := some 22, op := _, type := _, pos := _, after := _, guard := _ }) (v := ?_) rfl (by kernel_rfl) (by kernel_rfl) (by kernel_rfl) (fun _ _ _ h => h) (Or.inl ⟨by rfl, ?_⟩) (by assumption) ?_
  rotate_left 1
  · intro u hSw; obtain ⟨s1, s2⟩ := hSw; go_simp; try with_reducible rfl
  try simp only [Act.put, List.setIfInBounds_toArray, List.set_cons_zero, List.set_cons_succ]
  refine wpAnyH_take (i := 1) (oi := { dst := some 23, op := _, type := _, pos := _, after := _, guard := _ }) (v := ?_) rfl (by kernel_rfl) (by kernel_rfl) (by kernel_rfl) (fun _ _ _ h => h) (Or.inl ⟨by rfl, ?_⟩) (by assumption) ?_
  rotate_left 1
  · intro u hSw; obtain ⟨s1, s2⟩ := hSw; go_simp; try with_reducible rfl
  try simp only [Act.put, List.setIfInBounds_toArray, List.set_cons_zero, List.set_cons_succ]
  refine wpAnyH_take (i := 2) (oi := { dst := some 24, op := _, type := _, pos := _, after := _, guard := _ }) (v := ?_) rfl (by kernel_rfl) (by kernel_rfl) (by kernel_rfl) (fun _ _ _ h => h) (Or.inl ⟨by rfl, ?_⟩) (by assumption) ?_
  rotate_left 1
  · intro u hSw; obtain ⟨s1, s2⟩ := hSw; go_simp; try with_reducible rfl
  try simp only [Act.put, List.setIfInBounds_toArray, List.set_cons_zero, List.set_cons_succ]
  refine wpAnyH_take (i := 3) (oi := { dst := some 25, op := _, type := _, pos := _, after := _, guard := _ }) (v := ?_) rfl (by kernel_rfl) (by kernel_rfl) (by kernel_rfl) (fun _ _ _ h => h) (Or.inl ⟨by rfl, ?_⟩) (by assumption) ?_
  rotate_left 1
  · intro u hSw; obtain ⟨s1, s2⟩ := hSw; go_simp; try with_reducible rfl
  try simp only [Act.put, List.setIfInBounds_toArray, List.set_cons_zero, List.set_cons_succ]
  refine wpAnyH_take (i := 4) (oi := { dst := some 26, op := _, type := _, pos := _, after := _, guard := _ }) (v := ?_) rfl (by kernel_rfl) (by kernel_rfl) (by kernel_rfl) (fun _ _ _ h => h) (Or.inl ⟨by rfl, ?_⟩) (by assumption) ?_
  rotate_left 1
  · intro u hSw; obtain ⟨s1, s2⟩ := hSw; go_simp; try with_reducible rfl
  try simp only [Act.put, List.setIfInBounds_toArray, List.set_cons_zero, List.set_cons_succ]
  refine wpAnyH_take (i := 5) (oi := { dst := some 27, op := _, type := _, pos := _, after := _, guard := _ }) (v := ?_) rfl (by kernel_rfl) (by kernel_rfl) (by kernel_rfl) (fun _ _ _ h => h) (Or.inl ⟨by rfl, ?_⟩) (by assumption) ?_
  rotate_left 1
  · intro u hSw; obtain ⟨s1, s2⟩ := hSw; go_simp; try with_reducible rfl
  try simp only [Act.put, List.setIfInBounds_toArray, List.set_cons_zero, List.set_cons_succ]
  refine wpAnyH_ready (rs := [6]) (by kernel_rfl) (by simp) ?_
  refine AllReadyH.cons (o := { dst := some 28, op := _, type := _, pos := _, after := _, guard := _ }) rfl (fun Kq hK => ?_) AllReadyH.nil
  obtain ⟨s1, s2⟩ := hHeld
  go_simp
  refine HST.out.mono ?_
  rintro e w5 ⟨rfl, hA5, hF5⟩
  go_wp2_with fail
  refine hK.out _ _ (FRC.out w5 hF5) (fun hHeld => ?_)
  clear hK Kq
  try simp only [Act.put, List.setIfInBounds_toArray, List.set_cons_zero, List.set_cons_succ]
  refine wpAnyH_take (i := 7) (oi := { dst := some 21, op := _, type := _, pos := _, after := _, guard := _ }) (v := ?_) rfl (by kernel_rfl) (by kernel_rfl) (by kernel_rfl) (fun _ _ _ h => h) (Or.inl ⟨by rfl, ?_⟩) (by assumption) ?_
  rotate_left 1
  · intro u hSw; obtain ⟨s1, s2⟩ := hSw; go_simp; try with_reducible rfl
  try simp only [Act.put, List.setIfInBounds_toArray, List.set_cons_zero, List.set_cons_succ]
  refine wpAnyH_take (i := 8) (oi := { dst := some 29, op := _, type := _, pos := _, after := _, guard := _ }) (v := ?_) rfl (by kernel_rfl) (by kernel_rfl) (by kernel_rfl) (fun _ _ _ h => h) (Or.inl ⟨by rfl, ?_⟩) (by assumption) ?_
  rotate_left 1
  · intro u hSw; obtain ⟨s1, s2⟩ := hSw; go_simp; try with_reducible rfl
  try simp only [Act.put, List.setIfInBounds_toArray, List.set_cons_zero, List.set_cons_succ]
  refine wpAnyH_take (i := 9) (oi := { dst := some 30, op := _, type := _, pos := _, after := _, guard := _ }) (v := ?_) rfl (by kernel_rfl) (by kernel_rfl) (by kernel_rfl) (fun _ _ _ h => h) (Or.inl ⟨by rfl, ?_⟩) (by assumption) ?_
  rotate_left 1
  · intro u hSw; obtain ⟨s1, s2⟩ := hSw; go_simp; try with_reducible rfl
  try simp only [Act.put, List.setIfInBounds_toArray, List.set_cons_zero, List.set_cons_succ]
  refine wpAnyH_take (i := 10) (oi := { dst := some 8, op := _, type := _, pos := _, after := _, guard := _ }) (v := ?_) rfl (by kernel_rfl) (by kernel_rfl) (by kernel_rfl) (fun _ _ _ h => h) (Or.inl ⟨by rfl, ?_⟩) (by assumption) ?_
  rotate_left 1
  · intro u hSw; obtain ⟨s1, s2⟩ := hSw; go_simp; try with_reducible rfl
  try simp only [Act.put, List.setIfInBounds_toArray, List.set_cons_zero, List.set_cons_succ]
  refine wpAnyH_take (i := 11) (oi := { dst := some 9, op := _, type := _, pos := _, after := _, guard := _ }) (v := ?_) rfl (by kernel_rfl) (by kernel_rfl) (by kernel_rfl) (fun _ _ _ h => h) (Or.inl ⟨by rfl, ?_⟩) (by assumption) ?_
  rotate_left 1
  · intro u hSw; obtain ⟨s1, s2⟩ := hSw; go_simp; try with_reducible rfl
  try simp only [Act.put, List.setIfInBounds_toArray, List.set_cons_zero, List.set_cons_succ]
  refine wpAnyH_done (by kernel_rfl) ?_ _
  refine NoPanic.normal ?_
  have hF0 : Fr (fun j => j = d ∨ j = g) W2 w5 := (Fr.refl (fun j => j = d ∨ j = g) W2).drew.trans hF5 (fun j e => .inl e)
  have h5 := H2.out.arena hF0 hA5 H2.out.ok H2.out.pc rfl rfl rfl
  have nb5 : w5.heap[w1.heap.size]? = some (.cells #[.string (A.tx n), .int .i64 (pl 2 n : Int), .int .i64 (pl 3 n : Int), .int .i64 (pl 4 n : Int)] 77 (0, 0)) := (hF0.block _ (by omega) (by omega)).trans NB.out
  have hs5 := hF0.size
  have hmp := h5.p1
  rw [HMB.out] at hmp
  have hst5 := h5.st
  rw [HMB.out] at hst5
  have HRM := hide2 (removeV_any (f' := fOf ((A.off 1 n).lv 1) (vrV pl A.tx)) hst5.cells.2.2.2.2.1 hmp (n := (n : Int)) (by omega) (by omega) (fOf_in HN.out) (fOf_out (.inr (by
      show up2 A.lv 1 n false 1 (n : Int).toNat = false
      rw [Int.toNat_natCast, up2_same]))) (fOf_new (fun x hx => by
      show up2 A.lv 1 n false 1 x = A.lv 1 x
      exact up2_other _ _ (fun q => hx q.2)) (fun _ _ => rfl)))
  have hlt5 := hst5.lt
  have H5 := hide2 h5
  have NB5 := hide2 nb5
  have HF0 := hide2 hF0
  clear HST FRC s1 s2 hA5 hF5 hF0 h5 nb5 hmp hst5
  go_wp2_with fail
  refine HRM.out.mono ?_
  rintro e w6 ⟨rfl, hm6, hF6⟩
  obtain ⟨n0, n1, n2⟩ := H5.out.nsm
  have hnb3 := n1 b HMB.out
  have nb6 : w6.heap[w1.heap.size]? = some (.cells #[.string (A.tx n), .int .i64 (pl 2 n : Int), .int .i64 (pl 3 n : Int), .int .i64 (pl 4 n : Int)] 77 (0, 0)) := (hF6.block _ (by omega) (by omega)).trans NB5.out
  have t1 : w6.cell? ⟨w1.heap.size, 1, none⟩ = some (.int .i64 (pl 2 n : Int)) := by rw [Go.Joins.cell_of_block nb6]; rfl
  have t2 : w6.cell? ⟨w1.heap.size, 2, none⟩ = some (.int .i64 (pl 3 n : Int)) := by rw [Go.Joins.cell_of_block nb6]; rfl
  have t3 : w6.cell? ⟨w1.heap.size, 3, none⟩ = some (.int .i64 (pl 4 n : Int)) := by rw [Go.Joins.cell_of_block nb6]; rfl
  have hs6 := hF6.size
  obtain ⟨W7, hW7⟩ : ∃ x, x = w6.alloc (.cells #[.int .i64 (pl 2 n : Int), .int .i64 (pl 3 n : Int), .int .i64 (pl 4 n : Int)] 3) := ⟨_, rfl⟩
  have hb7 : Below w6.heap.size w6 W7 := by rw [hW7]; exact (Below.refl _ _).alloc (Nat.le_refl _) _
  have hs7 : W7.heap.size = w6.heap.size + 1 := by rw [hW7]; simp
  have nb7 : W7.heap[w6.heap.size]? = some (.cells #[.int .i64 (pl 2 n : Int), .int .i64 (pl 3 n : Int), .int .i64 (pl 4 n : Int)] 3 (0, 0)) := by rw [hW7]; exact heap_alloc_new w6 _
  have hF57 : Fr (fun j => j = b) w5 W7 := hF6.trans (G := fun _ => False) (Fr.below hb7) (fun j e => e.elim)
  have hst7 : Sb W7 sb d (A.la 0) m0 (A.la 1) m1 (A.la 2) m2 := H5.out.st.same (hF57.block _ H5.out.st.lt hnb3.1)
  have hA7 := H5.out.aw.fr hF57 hnb3.2.1 hnb3.2.2
  have p2 : lvk A 2 n = true := lvk_of (by decide) HN.out
  have p3 : lvk A 3 n = true := lvk_of (by decide) HN.out
  have p4 : lvk A 4 n = true := lvk_of (by decide) HN.out
  have i23 : pl 2 n ≠ pl 3 n := fun e => by have := H5.out.pc.inj p2 p3 e; omega
  have i24 : pl 2 n ≠ pl 4 n := fun e => by have := H5.out.pc.inj p2 p4 e; omega
  have i34 : pl 3 n ≠ pl 4 n := fun e => by have := H5.out.pc.inj p3 p4 e; omega
  have HGB := hide2 (giveBack_any (w := W7) (sg := w6.heap.size) (n := 3) (cap := 3) (cs := [pl 2 n, pl 3 n, pl 4 n]) hst7.cells.1 hst7.lt hA7 H5.out.nsd H5.out.nsg rfl (by decide) (by decide) (by unfold maxLen; decide) (by omega) (by omega) (by omega) (fun i c hi => by
      rw [Go.Joins.cell_of_block nb7]
      rcases i with _ | _ | _ | i
      · simp at hi; rw [← hi]; rfl
      · simp at hi; rw [← hi]; rfl
      · simp at hi; rw [← hi]; rfl
      · simp at hi) (by simp [i23, i24, i34]) (by
      intro c hc
      simp at hc
      rcases hc with rfl | rfl | rfl
      · exact H5.out.pc.on p2
      · exact H5.out.pc.on p3
      · exact H5.out.pc.on p4))
  have hlt7 := hst7.lt
  have HC := hide2 (And.intro hm6 (And.intro hF57 (And.intro hst7 hb7)))
  have hlt6 : sb < w6.heap.size := by omega
  clear HRM hm6 hF6 hb7 nb6 nb7 hF57 hst7 hA7 p2 p3 p4 i23 i24 i34 n0 n1 n2 hct
  go_wp2_with fail
  rw [← hW7]
  clear hW7 t1 t2 t3
  refine HGB.out.mono ?_
  rintro e w8 ⟨rfl, ⟨F', hA8⟩, hcnt, hF8⟩
  have HX := hide2 (And.intro hA8 (And.intro hcnt hF8))
  clear HGB hA8 hcnt hF8
  go_wp2
  go_ret2
  obtain ⟨hA8, hcnt, hF8⟩ := HX.out
  obtain ⟨hm6, hF57, hst7, hb7⟩ := HC.out
  obtain ⟨n0, n1, n2⟩ := H5.out.nsm
  obtain ⟨own', hpc⟩ := H5.out.pc.off1 HN.out
  obtain ⟨q0, f0⟩ := H5.out.p0
  obtain ⟨q2, f2⟩ := H5.out.p2
  have hF58K : Fr K w5 w8 := (hF57.mono (G := K) (fun j _ e => H5.out.kk j (by rw [e]; simp [HMB.out]))).trans hF8 (fun j e => .inl (H5.out.kk j (by rcases e with e | e <;> simp [e])))
  have hm7 : Mp W7 (some b) (fOf ((A.off 1 n).lv 1) (vrV pl A.tx)) (A.la 1) (k1 - 1) := hm6.same (fun j e => hb7.block j (hm6.lt e))
  have hm8 : Mp w8 m1 (fOf ((A.off 1 n).lv 1) (vrV pl A.tx)) (A.la 1) (k1 - 1) := by
    rw [HMB.out]
    exact hm7.fr hF8 (fun j e q => by cases e; have := n1 b HMB.out; omega)
  have k0' : Mp w8 m0 (fOf (A.lv 0) (ndV pl)) (A.la 0) q0 := (f0.fr hF57 (fun j e q => (H5.out.a1 j e).1 (by rw [q]; exact HMB.out))).fr hF8 (fun j e q => by have := n0 j e; omega)
  have k2' : Mp w8 m2 (fOf (A.lv 2) (txV pl)) (A.la 2) q2 := (f2.fr hF57 (fun j e q => H5.out.a2 j (by rw [q]; exact HMB.out) e)).fr hF8 (fun j e q => by have := n2 j e; omega)
  have hst8 : Sb w8 sb d (A.la 0) m0 (A.la 1) m1 (A.la 2) m2 := hst7.same (hF8.block _ hst7.lt (by rintro (e | e); exact hnd e; exact hng e))
  have h8 := H5.out.off1 HN.out hF58K hA8 hpc hst8 hm8 ⟨_, k0'⟩ ⟨_, k2'⟩
  have hFw : Fr K w w8 := ((Fr.below (F := K) HB.out).trans HF0.out (fun j e => .inl (H.out.kk j (by rcases e with e | e <;> simp [e])))).trans hF58K (fun j e => .inl e)
  exact ⟨rfl, ⟨_, F', own', h8, hcnt⟩, hFw⟩
theorem takeAway_in (h : Rp w K sb d z M A u) {n : Nat} (hn : A.lv 1 n = true) (hM : M < 3900000000000000000) :
    Calls Tryd.prog 41 #[.pointer (some ⟨sb, 0, none⟩), .int .i64 (n : Int)] w fun e w' => e = .returned (.tuple #[.int .u64 (A.va 4 n), .int .i64 0]) ∧ 3 ≤ u ∧ Aft w w' K sb d z (M + 1) (A.off 1 n) (u - 3) := by
  obtain ⟨g, m0, m1, m2, T, N, m, F, own, pl, k1, h, r1, r2, r3, r4, r5⟩ := h
  refine (takeAway_sm h hn r3 (by omega) (r5 1)).mono ?_
  rintro e w' ⟨rfl, ⟨T', F', own', h8, hc⟩, hF⟩
  exact ⟨rfl, by omega, K, ⟨g, m0, m1, m2, T', N, m + 1, F', own', pl, _, h8, r1, by omega, by omega, by omega, r5⟩, fun _ _ => Iff.rfl, hF⟩
set_option maxRecDepth 100000 in
set_option maxHeartbeats 4000000 in
theorem takeAway_out (h : Rp w K sb d z M A u) {n : Int} (h1 : -9223372036854775808 ≤ n) (h2 : n ≤ 9223372036854775807) (hn : n < 0 ∨ A.lv 1 n.toNat = false) :
    Calls Tryd.prog 41 #[.pointer (some ⟨sb, 0, none⟩), .int .i64 n] w fun e w' => e = .returned (.tuple #[.int .u64 0, .int .i64 110]) ∧ Below w.heap.size w w' := by
  obtain ⟨g, m0, m1, m2, T, N, m, F, own, pl, k1, h, r1, r2, r3, r4, r5⟩ := h
  have HFD := hide2 (findV_out h.st.lt h.st.cells.2.2.2.2.1 h.p1 h1 h2 (fOf_out hn))
  have hlt0 := h.st.lt
  clear h
  go_enter Tryd.func41, Tryd.ntmps41
  go_wp2_with fail
  refine HFD.out.mono ?_
  rintro e w1 ⟨rfl, hb1⟩
  have HB := hide2 hb1
  have hs1 := hb1.size
  clear HFD hb1
  go_wp2
  go_ret2
  exact ⟨rfl, HB.out.alloc hs1 _⟩
set_option maxRecDepth 100000 in
set_option maxHeartbeats 4000000 in
theorem forget_in (h : Rp w K sb d z M A u) {n : Nat} (hn : A.lv 2 n = true) :
    Calls Tryd.prog 25 #[.pointer (some ⟨sb, 0, none⟩), .int .i64 (n : Int)] w fun e w' => e = .returned (.int .i64 0) ∧ 1 ≤ u ∧ Aft w w' K sb d z M (A.off 2 n) (u - 1) := by
  obtain ⟨g, m0, m1, m2, T, N, m, F, own, pl, k1, h, r1, r2, r3, r4, r5⟩ := h
  have hnb := h.ok.n1 2 n hn
  have hnl := r5 2
  have HFD := hide2 (txnOf_in h hn (by omega))
  have H := hide2 h
  have HR5 := hide2 r5
  have HN := hide2 hn
  obtain ⟨qq, hq2⟩ := h.p2
  obtain ⟨b, hmb⟩ := hq2.some_of (fOf_in hn)
  have HMB := hide2 hmb
  have hkl := h.kl
  have hkk := h.kk
  have hdl := hkl d (hkk d (by simp))
  have hgl := hkl g (hkk g (by simp))
  have hsbl := hkl sb (hkk sb (by simp))
  have hbl := hkl b (hkk b (by simp [hmb]))
  clear h r5 hn hq2 hmb hkl hkk
  go_enter Tryd.func25, Tryd.ntmps25
  go_wp2_with fail
  refine HFD.out.mono ?_
  rintro e w5 ⟨rfl, hb5⟩
  have h5 := H.out.below hb5
  have hs5 := hb5.size
  obtain ⟨q2, hmp⟩ := h5.p2
  rw [HMB.out] at hmp
  have hst5 := h5.st
  rw [HMB.out] at hst5
  have HRM := hide2 (removeT_any (f' := fOf ((A.off 2 n).lv 2) (txV pl)) hst5.cells.2.2.2.2.2.2 hmp (n := (n : Int)) (by omega) (by omega) (fOf_in HN.out) (fOf_out (.inr (by
      show up2 A.lv 2 n false 2 (n : Int).toNat = false
      rw [Int.toNat_natCast, up2_same]))) (fOf_new (fun x hx => by
      show up2 A.lv 2 n false 2 x = A.lv 2 x
      exact up2_other _ _ (fun q => hx q.2)) (fun _ _ => rfl)))
  have hlt5 := hst5.lt
  have H5 := hide2 h5
  have HB5 := hide2 hb5
  clear HFD h5 hmp hst5 hb5
  go_wp2_with fail
  refine HRM.out.mono ?_
  rintro e w6 ⟨rfl, hm6, hF6⟩
  obtain ⟨n0, n1, n2⟩ := H5.out.nsm
  have hnb3 := n2 b HMB.out
  have hs6 := hF6.size
  obtain ⟨W7, hW7⟩ : ∃ x, x = w6.alloc (.cells #[.int .i64 (pl 5 n : Int)] 3) := ⟨_, rfl⟩
  have hb7 : Below w6.heap.size w6 W7 := by rw [hW7]; exact (Below.refl _ _).alloc (Nat.le_refl _) _
  have hs7 : W7.heap.size = w6.heap.size + 1 := by rw [hW7]; simp
  have nb7 : W7.heap[w6.heap.size]? = some (.cells #[.int .i64 (pl 5 n : Int)] 3 (0, 0)) := by rw [hW7]; exact heap_alloc_new w6 _
  have hF57 : Fr (fun j => j = b) w5 W7 := hF6.trans (G := fun _ => False) (Fr.below hb7) (fun j e => e.elim)
  have hst7 : Sb W7 sb d (A.la 0) m0 (A.la 1) m1 (A.la 2) m2 := H5.out.st.same (hF57.block _ H5.out.st.lt hnb3.1)
  have hA7 := H5.out.aw.fr hF57 hnb3.2.1 hnb3.2.2
  have p5 : lvk A 5 n = true := lvk_of (by decide) HN.out
  have HGB := hide2 (giveBack_any (w := W7) (sg := w6.heap.size) (n := 1) (cap := 1) (cs := [pl 5 n]) hst7.cells.1 hst7.lt hA7 H5.out.nsd H5.out.nsg rfl (by decide) (by decide) (by unfold maxLen; decide) (by omega) (by omega) (by omega) (fun i c hi => by
      rw [Go.Joins.cell_of_block nb7]
      rcases i with _ | i
      · simp at hi; rw [← hi]; rfl
      · simp at hi) (by simp) (by
      intro c hc
      simp at hc
      rw [hc]; exact H5.out.pc.on p5))
  have hlt6 : sb < w6.heap.size := by omega
  have HC := hide2 (And.intro hm6 (And.intro hF57 (And.intro hst7 hb7)))
  have hnd := H5.out.nsd
  have hng := H5.out.nsg
  clear HRM hm6 hF6 hb7 nb7 hF57 hst7 hA7 p5 n0 n1 n2
  go_wp2_with fail
  rw [← hW7]
  clear hW7
  refine HGB.out.mono ?_
  rintro e w8 ⟨rfl, ⟨F', hA8⟩, hcnt, hF8⟩
  have HX := hide2 (And.intro hA8 (And.intro hcnt hF8))
  clear HGB hA8 hcnt hF8
  go_wp2
  go_ret
  obtain ⟨hA8, hcnt, hF8⟩ := HX.out
  obtain ⟨hm6, hF57, hst7, hb7⟩ := HC.out
  obtain ⟨n0, n1, n2⟩ := H5.out.nsm
  obtain ⟨own', hpc⟩ := H5.out.pc.off2 HN.out
  obtain ⟨q0, f0⟩ := H5.out.p0
  have f1 := H5.out.p1
  have hF58K : Fr K w5 w8 := (hF57.mono (G := K) (fun j _ e => H5.out.kk j (by rw [e]; simp [HMB.out]))).trans hF8 (fun j e => .inl (H5.out.kk j (by rcases e with e | e <;> simp [e])))
  have hm7 := hm6.same (w' := W7) (fun j e => hb7.block j (hm6.lt e))
  have hm8 : Mp w8 m2 (fOf ((A.off 2 n).lv 2) (txV pl)) (A.la 2) (q2 - 1) := by
    rw [HMB.out]
    exact hm7.fr hF8 (fun j e q => by cases e; have := n2 b HMB.out; omega)
  have k0' : Mp w8 m0 (fOf (A.lv 0) (ndV pl)) (A.la 0) q0 := (f0.fr hF57 (fun j e q => (H5.out.a1 j e).2 (by rw [q]; exact HMB.out))).fr hF8 (fun j e q => by have := n0 j e; omega)
  have k1' : Mp w8 m1 (fOf (A.lv 1) (vrV pl A.tx)) (A.la 1) k1 := (f1.fr hF57 (fun j e q => H5.out.a2 j e (by rw [q]; exact HMB.out))).fr hF8 (fun j e q => by have := n1 j e; omega)
  have hst8 : Sb w8 sb d (A.la 0) m0 (A.la 1) m1 (A.la 2) m2 := hst7.same (hF8.block _ hst7.lt (by rintro (e | e); exact hnd e; exact hng e))
  have h8 := H5.out.off2 hF58K hA8 hpc hst8 ⟨_, hm8⟩ ⟨_, k0'⟩ k1'
  have hFw : Fr K w w8 := (Fr.below (F := K) HB5.out).trans hF58K (fun j e => .inl e)
  refine ⟨rfl, by omega, K, ⟨g, m0, m1, m2, _, N, m, F', own', pl, _, h8, r1, by omega, by omega, by omega, HR5.out⟩, fun _ _ => Iff.rfl, hFw⟩
end
end Go.Proofs.YtohgjpljobmpaaaDoor
