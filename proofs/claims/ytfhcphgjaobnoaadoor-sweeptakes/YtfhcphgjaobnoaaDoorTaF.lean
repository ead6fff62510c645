/-
  TaF: A version, a transaction is taken away: the store in memory.
  TaG: takeAway, Forget. (Printed by gen_tag.py.)
  TaH: Chains; Cut, Drop. (Printed by gen_tah.py.)
  TaI: Drop. (Printed by gen_tai.py.)
  TaJ: How many cells are taken; a version in front of a chain.
  TaL: Chain; two rows that are the same.
-/
import Derived.Test.YtfhcphgjaobnoaaDoorTaD
set_option linter.unusedVariables false
set_option linter.unusedSimpArgs false
namespace Go.Proofs.YtfhcphgjaobnoaaDoor

section
open Go.RowKit Go.Maps

section
variable {w w' : World} {K : Nat → Prop} {sb d g : Nat} {m0 m1 m2 : Option Nat} {T T' : List Bool} {N N' : List Int} {m m' : Int} {F F' : List Nat} {own own' : Nat → Option (Nat × Nat)} {pl : Nat → Nat → Nat} {k1 b : Nat} {A : Stt}
theorem Sm.off1 (h : Sm w K sb d g m0 m1 m2 T N m F own pl k1 A) {n : Nat} (hn : A.lv 1 n = true) (hF : Fr K w w') (hA : Aw w' d g T' N' m' F') (hpc : Plc (lvk (A.off 1 n)) (A.off 1 n).va T' N' own' pl)
    (hst : Sb w' sb d (A.la 0) m0 (A.la 1) m1 (A.la 2) m2) (hp : Mp w' m1 (fOf ((A.off 1 n).lv 1) (vrV pl A.tx)) (A.la 1) (k1 - 1)) (k0' : ∃ k, Mp w' m0 (fOf (A.lv 0) (ndV pl)) (A.la 0) k) (k2' : ∃ k, Mp w' m2 (fOf (A.lv 2) (txV pl)) (A.la 2) k) :
    Sm w' K sb d g m0 m1 m2 T' N' m' F' own' pl (k1 - 1) (A.off 1 n) := by
  obtain ⟨q0, k0'⟩ := k0'
  obtain ⟨q2, k2'⟩ := k2'
  refine ⟨hA, hst, ⟨q0, ?_⟩, hp, ⟨q2, ?_⟩, Stt.off_ok h.ok (by decide), hpc, fun l h1 h2 => ct_del (nn := n) h.ct hn l h1 (fun x hx => ?_), h.tab.fr hF h.k0, h.k0, h.kk, fun j hj => Nat.lt_of_lt_of_le (h.kl j hj) hF.size, h.a1, h.a2⟩
  · exact k0'.eqv (fOf_congr (fun x => by show up2 A.lv 1 n false 0 x = _; exact up2_other _ _ (fun q => by omega)) (fun x => rfl))
  · exact k2'.eqv (fOf_congr (fun x => by show up2 A.lv 1 n false 2 x = _; exact up2_other _ _ (fun q => by omega)) (fun x => rfl))
  · have hx2 := h2 x hx
    have hx3 : up2 A.lv 1 n false 1 x = true := hx2
    by_cases e : x = n
    · rw [e, up2_same] at hx3; cases hx3
    · rw [up2_other _ _ (fun q => e q.2)] at hx3
      exact ⟨hx3, e⟩
theorem Sm.off2 (h : Sm w K sb d g m0 m1 m2 T N m F own pl k1 A) {n : Nat} (hF : Fr K w w') (hA : Aw w' d g T' N' m' F') (hpc : Plc (lvk (A.off 2 n)) (A.off 2 n).va T' N' own' pl)
    (hst : Sb w' sb d (A.la 0) m0 (A.la 1) m1 (A.la 2) m2) (hp : ∃ k, Mp w' m2 (fOf ((A.off 2 n).lv 2) (txV pl)) (A.la 2) k) (k0' : ∃ k, Mp w' m0 (fOf (A.lv 0) (ndV pl)) (A.la 0) k) (k1' : Mp w' m1 (fOf (A.lv 1) (vrV pl A.tx)) (A.la 1) k1) :
    Sm w' K sb d g m0 m1 m2 T' N' m' F' own' pl k1 (A.off 2 n) := by
  obtain ⟨q0, k0'⟩ := k0'
  refine ⟨hA, hst, ⟨q0, ?_⟩, ?_, hp, Stt.off_ok h.ok (by decide), hpc, fun l h1 h2 => h.ct l h1 (fun x hx => ?_), h.tab.fr hF h.k0, h.k0, h.kk, fun j hj => Nat.lt_of_lt_of_le (h.kl j hj) hF.size, h.a1, h.a2⟩
  · exact k0'.eqv (fOf_congr (fun x => by show up2 A.lv 2 n false 0 x = _; exact up2_other _ _ (fun q => by omega)) (fun x => rfl))
  · exact k1'.eqv (fOf_congr (fun x => by show up2 A.lv 2 n false 1 x = _; exact up2_other _ _ (fun q => by omega)) (fun x => rfl))
  · have hx2 := h2 x hx
    have hx3 : up2 A.lv 2 n false 1 x = true := hx2
    rw [up2_other _ _ (fun q => by omega)] at hx3
    exact hx3
theorem Mp.some_of {f : Int → Option Value} {mb : Option Nat} {q k : Nat} {n : Int} {v : Value} (h : Mp w mb f q k) (e : f n = some v) : ∃ b, mb = some b := by
  rcases h with ⟨_, h, _⟩ | ⟨b, D, h, _⟩
  · rw [h n] at e; cases e
  · exact ⟨b, h⟩
end
end

section
open Go.RowKit Go.Maps

section
variable {w w' : World} {K : Nat → Prop} {sb d z M u : Nat} {A : Stt}
set_option maxRecDepth 100000 in
set_option maxHeartbeats 4000000 in
theorem takeAway_sm {g : Nat} {m0 m1 m2 : Option Nat} {T : List Bool} {N : List Int} {m : Int} {F : List Nat} {own : Nat → Option (Nat × Nat)} {pl : Nat → Nat → Nat} {k1 : Nat} (h : Sm w K sb d g m0 m1 m2 T N m F own pl k1 A) {n : Nat} (hn : A.lv 1 n = true) (r3 : 0 ≤ m) (r4 : m < 3950000000000000000) (hnl : A.la 1 ≤ 1000000) :
    Calls Tryd.prog 99 #[.pointer (some ⟨sb, 0, none⟩), .int .i64 (n : Int)] w fun e w' => e = .returned (.tuple #[.int .u64 (A.va 4 n), .int .i64 0]) ∧ (∃ T' F' own', Sm w' K sb d g m0 m1 m2 T' N (m + 1) F' own' pl (k1 - 1) (A.off 1 n) ∧ T'.count true + 3 = T.count true) ∧ Fr K w w' := by
  have hnb := h.ok.n1 1 n hn
  have HFD := hide2 (findV_in h.st.lt h.st.cells.2.2.2.2.1 h.p1 (n := (n : Int)) (by omega) (by omega) (fOf_in hn))
  have H := hide2 h
  have hlv : lvk A 4 n = true := lvk_of (by decide) hn
  have hct := h.pc.tak hlv
  have hvl := h.pc.vl 4 n hlv
  have hlt0 := h.st.lt
  have HN := hide2 hn
  obtain ⟨b, hmb⟩ := h.p1.some_of (fOf_in hn)
  clear h hlv hn
  go_enter Tryd.func99, Tryd.ntmps99
  go_wp2_with fail
  refine HFD.out.mono ?_
  rintro e w1 ⟨rfl, hb1⟩
  have h1 := H.out.below hb1
  obtain ⟨W2, hW2⟩ : ∃ x, x = w1.alloc (.cells #[.string (A.tx n), .int .i64 (pl 2 n : Int), .int .i64 (pl 3 n : Int), .int .i64 (pl 4 n : Int)] 106) := ⟨_, rfl⟩
  have hb2 : Below w1.heap.size w1 W2 := by rw [hW2]; exact (Below.refl _ _).alloc (Nat.le_refl _) _
  have h2 := h1.below hb2
  have nb : W2.heap[w1.heap.size]? = some (.cells #[.string (A.tx n), .int .i64 (pl 2 n : Int), .int .i64 (pl 3 n : Int), .int .i64 (pl 4 n : Int)] 106 (0, 0)) := by rw [hW2]; exact heap_alloc_new w1 _
  have s1 := h2.st.cells.1
  have s2 : W2.cell? ⟨w1.heap.size, 3, none⟩ = some (.int .i64 (pl 4 n : Int)) := by rw [Go.Joins.cell_of_block nb]; rfl
  have hkl := H.out.kl
  have hkk := H.out.kk
  have hs1 := hb1.size
  have hs2 : W2.heap.size = w1.heap.size + 1 := by rw [hW2]; simp
  have hdl := hkl d (hkk d (by simp))
  have hgl := hkl g (hkk g (by simp))
  have hsbl := hkl sb (hkk sb (by simp))
  have hbl := hkl b (hkk b (by simp [hmb]))
  have HST := hide2 (sLoad_any (w := W2.drew) (h2.aw.same rfl rfl) (pl 4 n) hct (by omega))
  rw [hvl] at HST
  have hnd := h2.nsd
  have hng := h2.nsg
  have FRC : Hid (∀ w5, Fr (fun j => j = d ∨ j = g) W2.drew w5 → w5.cell? ⟨sb, 0, none⟩ = some (.pointer (some ⟨d, 0, none⟩)) ∧ w5.cell? ⟨w1.heap.size, 3, none⟩ = some (.int .i64 (pl 4 n : Int))) := hide2 (fun w5 h5 => ⟨(h5.cell (p := ⟨sb, 0, none⟩) (show sb < W2.heap.size by omega) (show ¬ (sb = d ∨ sb = g) by omega)).trans s1, (h5.cell (p := ⟨w1.heap.size, 3, none⟩) (show w1.heap.size < W2.heap.size by omega) (show ¬ (w1.heap.size = d ∨ w1.heap.size = g) by omega)).trans s2⟩)
  have H2 := hide2 h2
  have HB : Hid (Below w.heap.size w W2) := hide2 (hb1.trans ⟨hb2.os, hb2.tape, hb2.output, hb2.size, fun j hj => hb2.block j (by omega)⟩)
  have NB := hide2 nb
  have HMB := hide2 hmb
  clear HFD h1 hb1 hb2 h2 nb hkl hkk hvl hmb
  go_wp2_with fail
  rw [← hW2]
  clear hW2
  refine wp_region_noPanic ?_
  refine wp_region_held_drew (S := (fun u : World => u.cell? ⟨sb, 0, none⟩ = some (.pointer (some ⟨d, 0, none⟩)) ∧ u.cell? ⟨w1.heap.size, 3, none⟩ = some (.int .i64 (pl 4 n : Int)))) (by kernel_rfl) (⟨s1, s2⟩) (fun hHeld => ?_)
  refine wpAnyH_take (i := 0) (oi := { dst := some 22, op := _, type := _, pos := _, after := _, guard := _ }) (v := ?_) rfl (by kernel_rfl) (by kernel_rfl) (by kernel_rfl) (fun _ _ _ h => h) (Or.inl ⟨by rfl, ?_⟩) (by assumption) ?_
  rotate_left 1
  · intro u hSw; obtain ⟨s1, s2⟩ := hSw; go_simp; try with_reducible rfl
  try simp only [Act.put, List.setIfInBounds_toArray, List.set_cons_zero, List.set_cons_succ]
  refine wpAnyH_take (i := 1) (oi := { dst := some 23, op := _, type := _, pos := _, after := _, guard := _ }) (v := ?_) rfl (by kernel_rfl) (by kernel_rfl) (by kernel_rfl) (fun _ _ _ h => h) (Or.inl ⟨by rfl, ?_⟩) (by assumption) ?_
  rotate_left 1
  · intro u hSw; obtain ⟨s1, s2⟩ := hSw; go_simp; try with_reducible rfl
  try simp only [Act.put, List.setIfInBounds_toArray, List.set_cons_zero, List.set_cons_succ]
  refine wpAnyH_take (i := 2) (oi := { dst := some 24, op := _, type := _, pos := _, after := _, guard := _ }) (v := ?_) rfl (by kernel_rfl) (by kernel_rfl) (by kernel_rfl) (fun _ _ _ h => h) (Or.inl ⟨by rfl, ?_⟩) (by assumption) ?_
  rotate_left 1
  · intro u hSw; obtain ⟨s1, s2⟩ := hSw; go_simp; try with_reducible rfl
  try simp only [Act.put, List.setIfInBounds_toArray, List.set_cons_zero, List.set_cons_succ]
  refine wpAnyH_take (i := 3) (oi := { dst := some 25, op := _, type := _, pos := _, after := _, guard := _ }) (v := ?_) rfl (by kernel_rfl) (by kernel_rfl) (by kernel_rfl) (fun _ _ _ h => h) (Or.inl ⟨by rfl, ?_⟩) (by assumption) ?_
  rotate_left 1
  · intro u hSw; obtain ⟨s1, s2⟩ := hSw; go_simp; try with_reducible rfl
  try simp only [Act.put, List.setIfInBounds_toArray, List.set_cons_zero, List.set_cons_succ]
  refine wpAnyH_take (i := 4) (oi := { dst := some 26, op := _, type := _, pos := _, after := _, guard := _ }) (v := ?_) rfl (by kernel_rfl) (by kernel_rfl) (by kernel_rfl) (fun _ _ _ h => h) (Or.inl ⟨by rfl, ?_⟩) (by assumption) ?_
  rotate_left 1
  · intro u hSw; obtain ⟨s1, s2⟩ := hSw; go_simp; try with_reducible rfl
  try simp only [Act.put, List.setIfInBounds_toArray, List.set_cons_zero, List.set_cons_succ]
  refine wpAnyH_take (i := 5) (oi := { dst := some 27, op := _, type := _, pos := _, after := _, guard := _ }) (v := ?_) rfl (by kernel_rfl) (by kernel_rfl) (by kernel_rfl) (fun _ _ _ h => h) (Or.inl ⟨by rfl, ?_⟩) (by assumption) ?_
  rotate_left 1
  · intro u hSw; obtain ⟨s1, s2⟩ := hSw; go_simp; try with_reducible rfl
  try simp only [Act.put, List.setIfInBounds_toArray, List.set_cons_zero, List.set_cons_succ]
  refine wpAnyH_ready (rs := [6]) (by kernel_rfl) (by simp) ?_
  refine AllReadyH.cons (o := { dst := some 28, op := _, type := _, pos := _, after := _, guard := _ }) rfl (fun Kq hK => ?_) AllReadyH.nil
  obtain ⟨s1, s2⟩ := hHeld
  go_simp
  refine HST.out.mono ?_
  rintro e w5 ⟨rfl, hA5, hF5⟩
  go_wp2_with fail
  refine hK.out _ _ (FRC.out w5 hF5) (fun hHeld => ?_)
  clear hK Kq
  try simp only [Act.put, List.setIfInBounds_toArray, List.set_cons_zero, List.set_cons_succ]
  refine wpAnyH_take (i := 7) (oi := { dst := some 21, op := _, type := _, pos := _, after := _, guard := _ }) (v := ?_) rfl (by kernel_rfl) (by kernel_rfl) (by kernel_rfl) (fun _ _ _ h => h) (Or.inl ⟨by rfl, ?_⟩) (by assumption) ?_
  rotate_left 1
  · intro u hSw; obtain ⟨s1, s2⟩ := hSw; go_simp; try with_reducible rfl
  try simp only [Act.put, List.setIfInBounds_toArray, List.set_cons_zero, List.set_cons_succ]
  refine wpAnyH_take (i := 8) (oi := { dst := some 29, op := _, type := _, pos := _, after := _, guard := _ }) (v := ?_) rfl (by kernel_rfl) (by kernel_rfl) (by kernel_rfl) (fun _ _ _ h => h) (Or.inl ⟨by rfl, ?_⟩) (by assumption) ?_
  rotate_left 1
  · intro u hSw; obtain ⟨s1, s2⟩ := hSw; go_simp; try with_reducible rfl
  try simp only [Act.put, List.setIfInBounds_toArray, List.set_cons_zero, List.set_cons_succ]
  refine wpAnyH_take (i := 9) (oi := { dst := some 30, op := _, type := _, pos := _, after := _, guard := _ }) (v := ?_) rfl (by kernel_rfl) (by kernel_rfl) (by kernel_rfl) (fun _ _ _ h => h) (Or.inl ⟨by rfl, ?_⟩) (by assumption) ?_
  rotate_left 1
  · intro u hSw; obtain ⟨s1, s2⟩ := hSw; go_simp; try with_reducible rfl
  try simp only [Act.put, List.setIfInBounds_toArray, List.set_cons_zero, List.set_cons_succ]
  refine wpAnyH_take (i := 10) (oi := { dst := some 8, op := _, type := _, pos := _, after := _, guard := _ }) (v := ?_) rfl (by kernel_rfl) (by kernel_rfl) (by kernel_rfl) (fun _ _ _ h => h) (Or.inl ⟨by rfl, ?_⟩) (by assumption) ?_
  rotate_left 1
  · intro u hSw; obtain ⟨s1, s2⟩ := hSw; go_simp; try with_reducible rfl
  try simp only [Act.put, List.setIfInBounds_toArray, List.set_cons_zero, List.set_cons_succ]
  refine wpAnyH_take (i := 11) (oi := { dst := some 9, op := _, type := _, pos := _, after := _, guard := _ }) (v := ?_) rfl (by kernel_rfl) (by kernel_rfl) (by kernel_rfl) (fun _ _ _ h => h) (Or.inl ⟨by rfl, ?_⟩) (by assumption) ?_
  rotate_left 1
  · intro u hSw; obtain ⟨s1, s2⟩ := hSw; go_simp; try with_reducible rfl
  try simp only [Act.put, List.setIfInBounds_toArray, List.set_cons_zero, List.set_cons_succ]
  refine wpAnyH_done (by kernel_rfl) ?_ _
  refine NoPanic.normal ?_
  have hF0 : Fr (fun j => j = d ∨ j = g) W2 w5 := (Fr.refl (fun j => j = d ∨ j = g) W2).drew.trans hF5 (fun j e => .inl e)
  have h5 := H2.out.arena hF0 hA5 H2.out.ok H2.out.pc rfl rfl rfl
  have nb5 : w5.heap[w1.heap.size]? = some (.cells #[.string (A.tx n), .int .i64 (pl 2 n : Int), .int .i64 (pl 3 n : Int), .int .i64 (pl 4 n : Int)] 106 (0, 0)) := (hF0.block _ (by omega) (by omega)).trans NB.out
  have hs5 := hF0.size
  have hmp := h5.p1
  rw [HMB.out] at hmp
  have hst5 := h5.st
  rw [HMB.out] at hst5
  have HRM := hide2 (removeV_any (f' := fOf ((A.off 1 n).lv 1) (vrV pl A.tx)) hst5.cells.2.2.2.2.1 hmp (n := (n : Int)) (by omega) (by omega) (fOf_in HN.out) (fOf_out (.inr (by
      show up2 A.lv 1 n false 1 (n : Int).toNat = false
      rw [Int.toNat_natCast, up2_same]))) (fOf_new (fun x hx => by
      show up2 A.lv 1 n false 1 x = A.lv 1 x
      exact up2_other _ _ (fun q => hx q.2)) (fun _ _ => rfl)))
  have hlt5 := hst5.lt
  have H5 := hide2 h5
  have NB5 := hide2 nb5
  have HF0 := hide2 hF0
  clear HST FRC s1 s2 hA5 hF5 hF0 h5 nb5 hmp hst5
  go_wp2_with fail
  refine HRM.out.mono ?_
  rintro e w6 ⟨rfl, hm6, hF6⟩
  obtain ⟨n0, n1, n2⟩ := H5.out.nsm
  have hnb3 := n1 b HMB.out
  have nb6 : w6.heap[w1.heap.size]? = some (.cells #[.string (A.tx n), .int .i64 (pl 2 n : Int), .int .i64 (pl 3 n : Int), .int .i64 (pl 4 n : Int)] 106 (0, 0)) := (hF6.block _ (by omega) (by omega)).trans NB5.out
  have t1 : w6.cell? ⟨w1.heap.size, 1, none⟩ = some (.int .i64 (pl 2 n : Int)) := by rw [Go.Joins.cell_of_block nb6]; rfl
  have t2 : w6.cell? ⟨w1.heap.size, 2, none⟩ = some (.int .i64 (pl 3 n : Int)) := by rw [Go.Joins.cell_of_block nb6]; rfl
  have t3 : w6.cell? ⟨w1.heap.size, 3, none⟩ = some (.int .i64 (pl 4 n : Int)) := by rw [Go.Joins.cell_of_block nb6]; rfl
  have hs6 := hF6.size
  obtain ⟨W7, hW7⟩ : ∃ x, x = w6.alloc (.cells #[.int .i64 (pl 2 n : Int), .int .i64 (pl 3 n : Int), .int .i64 (pl 4 n : Int)] 3) := ⟨_, rfl⟩
  have hb7 : Below w6.heap.size w6 W7 := by rw [hW7]; exact (Below.refl _ _).alloc (Nat.le_refl _) _
  have hs7 : W7.heap.size = w6.heap.size + 1 := by rw [hW7]; simp
  have nb7 : W7.heap[w6.heap.size]? = some (.cells #[.int .i64 (pl 2 n : Int), .int .i64 (pl 3 n : Int), .int .i64 (pl 4 n : Int)] 3 (0, 0)) := by rw [hW7]; exact heap_alloc_new w6 _
  have hF57 : Fr (fun j => j = b) w5 W7 := hF6.trans (G := fun _ => False) (Fr.below hb7) (fun j e => e.elim)
  have hst7 : Sb W7 sb d (A.la 0) m0 (A.la 1) m1 (A.la 2) m2 := H5.out.st.same (hF57.block _ H5.out.st.lt hnb3.1)
  have hA7 := H5.out.aw.fr hF57 hnb3.2.1 hnb3.2.2
  have p2 : lvk A 2 n = true := lvk_of (by decide) HN.out
  have p3 : lvk A 3 n = true := lvk_of (by decide) HN.out
  have p4 : lvk A 4 n = true := lvk_of (by decide) HN.out
  have i23 : pl 2 n ≠ pl 3 n := fun e => by have := H5.out.pc.inj p2 p3 e; omega
  have i24 : pl 2 n ≠ pl 4 n := fun e => by have := H5.out.pc.inj p2 p4 e; omega
  have i34 : pl 3 n ≠ pl 4 n := fun e => by have := H5.out.pc.inj p3 p4 e; omega
  have HGB := hide2 (giveBack_any (w := W7) (sg := w6.heap.size) (n := 3) (cap := 3) (cs := [pl 2 n, pl 3 n, pl 4 n]) hst7.cells.1 hst7.lt hA7 H5.out.nsd H5.out.nsg rfl (by decide) (by decide) (by unfold maxLen; decide) (by omega) (by omega) (by omega) (fun i c hi => by
      rw [Go.Joins.cell_of_block nb7]
      rcases i with _ | _ | _ | i
      · simp at hi; rw [← hi]; rfl
      · simp at hi; rw [← hi]; rfl
      · simp at hi; rw [← hi]; rfl
      · simp at hi) (by simp [i23, i24, i34]) (by
      intro c hc
      simp at hc
      rcases hc with rfl | rfl | rfl
      · exact H5.out.pc.on p2
      · exact H5.out.pc.on p3
      · exact H5.out.pc.on p4))
  have hlt7 := hst7.lt
  have HC := hide2 (And.intro hm6 (And.intro hF57 (And.intro hst7 hb7)))
  have hlt6 : sb < w6.heap.size := by omega
  clear HRM hm6 hF6 hb7 nb6 nb7 hF57 hst7 hA7 p2 p3 p4 i23 i24 i34 n0 n1 n2 hct
  go_wp2_with fail
  rw [← hW7]
  clear hW7 t1 t2 t3
  refine HGB.out.mono ?_
  rintro e w8 ⟨rfl, ⟨F', hA8⟩, hcnt, hF8⟩
  have HX := hide2 (And.intro hA8 (And.intro hcnt hF8))
  clear HGB hA8 hcnt hF8
  go_wp2
  go_ret2
  obtain ⟨hA8, hcnt, hF8⟩ := HX.out
  obtain ⟨hm6, hF57, hst7, hb7⟩ := HC.out
  obtain ⟨n0, n1, n2⟩ := H5.out.nsm
  obtain ⟨own', hpc⟩ := H5.out.pc.off1 HN.out
  obtain ⟨q0, f0⟩ := H5.out.p0
  obtain ⟨q2, f2⟩ := H5.out.p2
  have hF58K : Fr K w5 w8 := (hF57.mono (G := K) (fun j _ e => H5.out.kk j (by rw [e]; simp [HMB.out]))).trans hF8 (fun j e => .inl (H5.out.kk j (by rcases e with e | e <;> simp [e])))
  have hm7 : Mp W7 (some b) (fOf ((A.off 1 n).lv 1) (vrV pl A.tx)) (A.la 1) (k1 - 1) := hm6.same (fun j e => hb7.block j (hm6.lt e))
  have hm8 : Mp w8 m1 (fOf ((A.off 1 n).lv 1) (vrV pl A.tx)) (A.la 1) (k1 - 1) := by
    rw [HMB.out]
    exact hm7.fr hF8 (fun j e q => by cases e; have := n1 b HMB.out; omega)
  have k0' : Mp w8 m0 (fOf (A.lv 0) (ndV pl)) (A.la 0) q0 := (f0.fr hF57 (fun j e q => (H5.out.a1 j e).1 (by rw [q]; exact HMB.out))).fr hF8 (fun j e q => by have := n0 j e; omega)
  have k2' : Mp w8 m2 (fOf (A.lv 2) (txV pl)) (A.la 2) q2 := (f2.fr hF57 (fun j e q => H5.out.a2 j (by rw [q]; exact HMB.out) e)).fr hF8 (fun j e q => by have := n2 j e; omega)
  have hst8 : Sb w8 sb d (A.la 0) m0 (A.la 1) m1 (A.la 2) m2 := hst7.same (hF8.block _ hst7.lt (by rintro (e | e); exact hnd e; exact hng e))
  have h8 := H5.out.off1 HN.out hF58K hA8 hpc hst8 hm8 ⟨_, k0'⟩ ⟨_, k2'⟩
  have hFw : Fr K w w8 := ((Fr.below (F := K) HB.out).trans HF0.out (fun j e => .inl (H.out.kk j (by rcases e with e | e <;> simp [e])))).trans hF58K (fun j e => .inl e)
  exact ⟨rfl, ⟨_, F', own', h8, hcnt⟩, hFw⟩
theorem takeAway_in (h : Rp w K sb d z M A u) {n : Nat} (hn : A.lv 1 n = true) (hM : M < 3900000000000000000) :
    Calls Tryd.prog 99 #[.pointer (some ⟨sb, 0, none⟩), .int .i64 (n : Int)] w fun e w' => e = .returned (.tuple #[.int .u64 (A.va 4 n), .int .i64 0]) ∧ 3 ≤ u ∧ Aft w w' K sb d z (M + 1) (A.off 1 n) (u - 3) := by
  obtain ⟨g, m0, m1, m2, T, N, m, F, own, pl, k1, h, r1, r2, r3, r4, r5⟩ := h
  refine (takeAway_sm h hn r3 (by omega) (r5 1)).mono ?_
  rintro e w' ⟨rfl, ⟨T', F', own', h8, hc⟩, hF⟩
  exact ⟨rfl, by omega, K, ⟨g, m0, m1, m2, T', N, m + 1, F', own', pl, _, h8, r1, by omega, by omega, by omega, r5⟩, fun _ _ => Iff.rfl, hF⟩
set_option maxRecDepth 100000 in
set_option maxHeartbeats 4000000 in
theorem takeAway_out (h : Rp w K sb d z M A u) {n : Int} (h1 : -9223372036854775808 ≤ n) (h2 : n ≤ 9223372036854775807) (hn : n < 0 ∨ A.lv 1 n.toNat = false) :
    Calls Tryd.prog 99 #[.pointer (some ⟨sb, 0, none⟩), .int .i64 n] w fun e w' => e = .returned (.tuple #[.int .u64 0, .int .i64 110]) ∧ Below w.heap.size w w' := by
  obtain ⟨g, m0, m1, m2, T, N, m, F, own, pl, k1, h, r1, r2, r3, r4, r5⟩ := h
  have HFD := hide2 (findV_out h.st.lt h.st.cells.2.2.2.2.1 h.p1 h1 h2 (fOf_out hn))
  have hlt0 := h.st.lt
  clear h
  go_enter Tryd.func99, Tryd.ntmps99
  go_wp2_with fail
  refine HFD.out.mono ?_
  rintro e w1 ⟨rfl, hb1⟩
  have HB := hide2 hb1
  have hs1 := hb1.size
  clear HFD hb1
  go_wp2
  go_ret2
  exact ⟨rfl, HB.out.alloc hs1 _⟩
end
end

section
open Go.RowKit Go.Maps

/-- A chain: from a number on. -/
def Ch (A : Stt) : Int → List Nat → Prop
  | x, [] => x < 0 ∨ A.lv 1 x.toNat = false
  | x, n :: l => x = (n : Int) ∧ A.lv 1 n = true ∧ Ch A (A.va 4 n) l
/-- All of these are taken away. -/
def offs (A : Stt) (l : List Nat) : Stt := l.foldl (fun A n => A.off 1 n) A
section
variable {A A' : Stt}
theorem offs_snoc (A : Stt) (l : List Nat) (n : Nat) : offs A (l ++ [n]) = (offs A l).off 1 n := by simp [offs]
theorem offs_va : ∀ (l : List Nat) (A : Stt), (offs A l).va = A.va
  | [], A => rfl
  | n :: l, A => by show (offs (A.off 1 n) l).va = _; rw [offs_va l]; rfl
theorem offs_la : ∀ (l : List Nat) (A : Stt), (offs A l).la = A.la
  | [], A => rfl
  | n :: l, A => by show (offs (A.off 1 n) l).la = _; rw [offs_la l]; rfl
theorem offs_lv : ∀ (l : List Nat) (A : Stt) (c x : Nat), (offs A l).lv c x = if c = 1 ∧ x ∈ l then false else A.lv c x
  | [], A, c, x => by simp [offs]
  | n :: l, A, c, x => by
    show (offs (A.off 1 n) l).lv c x = _
    rw [offs_lv l]
    show (if c = 1 ∧ x ∈ l then false else up2 A.lv 1 n false c x) = _
    by_cases h1 : c = 1 ∧ x ∈ l
    · rw [if_pos h1, if_pos ⟨h1.1, by simp [h1.2]⟩]
    · rw [if_neg h1]
      by_cases h2 : c = 1 ∧ x = n
      · rw [h2.1, h2.2, up2_same, if_pos ⟨rfl, by simp⟩]
      · rw [up2_other _ _ h2, if_neg (fun q => ?_)]
        rcases List.mem_cons.1 q.2 with e | e
        · exact h2 ⟨q.1, e⟩
        · exact h1 ⟨q.1, e⟩
theorem Ch.live : ∀ {l : List Nat} {x : Int}, Ch A x l → ∀ n ∈ l, A.lv 1 n = true
  | [], _, _, n, hn => (nomatch hn)
  | y :: l, x, h, n, hn => by
    rcases List.mem_cons.1 hn with e | e
    · rw [e]; exact h.2.1
    · exact Ch.live h.2.2 n e
theorem Ch.le (hok : A.ok) : ∀ {l : List Nat} {x : Int}, Ch A x l → ∀ n ∈ l, (n : Int) ≤ x
  | [], _, _, n, hn => (nomatch hn)
  | y :: l, x, h, n, hn => by
    have h1 := h.1
    rcases List.mem_cons.1 hn with e | e
    · rw [e]; omega
    · have := Ch.le hok h.2.2 n e
      have := hok.nx y h.2.1
      omega
theorem Ch.nodup (hok : A.ok) : ∀ {l : List Nat} {x : Int}, Ch A x l → l.Nodup
  | [], _, _ => List.nodup_nil
  | y :: l, x, h => List.nodup_cons.2 ⟨fun q => by
      have := Ch.le hok h.2.2 y q
      have := hok.nx y h.2.1
      omega, Ch.nodup hok h.2.2⟩
theorem Ch.congr (hok : A.ok) : ∀ {l : List Nat} {x : Int}, Ch A x l → (∀ m ∈ l, A'.lv 1 m = true ∧ A'.va 4 m = A.va 4 m) → (∀ y : Nat, (y : Int) ≤ x → A'.lv 1 y = true → A.lv 1 y = true) → Ch A' x l
  | [], x, h, _, h2 => by
    rcases h with h | h
    · exact .inl h
    · by_cases q : x < 0
      · exact .inl q
      · right
        cases e : A'.lv 1 x.toNat with
        | false => rfl
        | true => have := h2 x.toNat (by omega) e; rw [h] at this; cases this
  | y :: l, x, h, h1, h2 => by
    obtain ⟨a, b⟩ := h1 y (by simp)
    refine ⟨h.1, a, ?_⟩
    rw [b]
    exact Ch.congr hok h.2.2 (fun m hm => h1 m (by simp [hm])) (fun z hz => h2 z (by have := hok.nx y h.2.1; have := h.1; omega))
theorem Ch.drop : ∀ {l : List Nat} {x : Int}, Ch A x l → ∀ i y, l[i]? = some y → Ch A (A.va 4 y) (l.drop (i + 1))
  | [], _, _, i, y, hy => by simp at hy
  | z :: l, x, h, 0, y, hy => by simp at hy; subst hy; exact h.2.2
  | z :: l, x, h, i + 1, y, hy => by simpa using Ch.drop h.2.2 i y (by simpa using hy)
end

section
variable {w w1 w2 w' : World} {K K1 : Nat → Prop} {sb d z M M' u u' : Nat} {A A' : Stt}
theorem Aft.trans (h1 : Rp w1 K1 sb d z M A u) (hk : ∀ j, j < w.heap.size → (K1 j ↔ K j)) (hF : Fr K w w1) (h2 : Aft w1 w2 K1 sb d z M' A' u') : ∃ K2, Rp w2 K2 sb d z M' A' u' ∧ (∀ j, j < w.heap.size → (K2 j ↔ K j)) ∧ Fr K w w2 := by
  obtain ⟨K2, hr, hk2, hF2⟩ := h2
  have hs := hF.size
  refine ⟨K2, hr, fun j hj => (hk2 j (by omega)).trans (hk j hj), hF.trans hF2 (fun j e => ?_)⟩
  rcases Nat.lt_or_ge j w.heap.size with q | q
  · exact .inl ((hk j q).1 e)
  · exact .inr q
set_option maxRecDepth 100000 in
set_option maxHeartbeats 8000000 in
theorem cut_in (h : Rp w K sb d z M A u) {n : Nat} (hn : A.lv 1 n = true) {l : List Nat} (hch : Ch A (A.va 4 n) l) (hll : l.length ≤ 1000000) (hM : M < 3800000000000000000) :
    Calls Tryd.prog 91 #[.pointer (some ⟨sb, 0, none⟩), .int .i64 (n : Int)] w fun e w' => e = .returned (.tuple #[.int .i64 (l.length : Nat), .int .i64 0]) ∧ 3 * l.length ≤ u ∧ Aft w w' K sb d z (M + 2 + l.length) (offs (A.put 4 n 0) l) (u - 3 * l.length) := by
  obtain ⟨g, m0, m1, m2, T, N, m, F, own, pl, k1, h, r1, r2, r3, r4, r5⟩ := h
  have hok := h.ok
  have HCH : Hid (Ch (A.put 4 n 0) (A.va 4 n) l) := hide2 (hch.congr hok (fun x hx => ⟨hch.live x hx, by
    show up2 A.va 4 n 0 4 x = A.va 4 x
    refine up2_other _ _ (fun q => ?_)
    have := hch.le hok x hx
    have := hok.nx n hn
    omega⟩) (fun y _ hy => hy))
  have hbd := hok.bd 4 n (by decide) hn
  have hnx := hok.nx n hn
  clear hch hok
  have hnb := h.ok.n1 1 n hn
  have hnl := r5 1
  have HFD := hide2 (versionOf_in h hn (by omega))
  have H := hide2 h
  have HR5 := hide2 r5
  have hlv : lvk A 4 n = true := lvk_of (by decide) hn
  have hct := h.pc.tak hlv
  have hvl := h.pc.vl 4 n hlv
  have HLV := hide2 hlv
  clear h r5 hlv
  go_enter Tryd.func91, Tryd.ntmps91
  go_wp2_with fail
  refine HFD.out.mono ?_
  rintro e w1 ⟨rfl, hb1⟩
  have h1 := H.out.below hb1
  obtain ⟨W2, hW2⟩ : ∃ x, x = w1.alloc (.cells #[.string (A.tx n), .int .i64 (pl 2 n : Int), .int .i64 (pl 3 n : Int), .int .i64 (pl 4 n : Int)] 106) := ⟨_, rfl⟩
  have hb2 : Below w1.heap.size w1 W2 := by rw [hW2]; exact (Below.refl _ _).alloc (Nat.le_refl _) _
  have h2 := h1.below hb2
  have nb : W2.heap[w1.heap.size]? = some (.cells #[.string (A.tx n), .int .i64 (pl 2 n : Int), .int .i64 (pl 3 n : Int), .int .i64 (pl 4 n : Int)] 106 (0, 0)) := by rw [hW2]; exact heap_alloc_new w1 _
  have s1 := h2.st.cells.1
  have s2 : W2.cell? ⟨w1.heap.size, 3, none⟩ = some (.int .i64 (pl 4 n : Int)) := by rw [Go.Joins.cell_of_block nb]; rfl
  have hkl := H.out.kl
  have hkk := H.out.kk
  have hs1 := hb1.size
  have hs2 : W2.heap.size = w1.heap.size + 1 := by rw [hW2]; simp
  have hdl := hkl d (hkk d (by simp))
  have hgl := hkl g (hkk g (by simp))
  have hsbl := hkl sb (hkk sb (by simp))
  have HST := hide2 (sLoad_any (w := W2.drew) (h2.aw.same rfl rfl) (pl 4 n) hct (by omega))
  rw [hvl] at HST
  have hnd := h2.nsd
  have hng := h2.nsg
  have FRC : Hid (∀ (wq : World) w5, wq.heap.size = W2.heap.size → wq.cell? ⟨sb, 0, none⟩ = some (.pointer (some ⟨d, 0, none⟩)) → wq.cell? ⟨w1.heap.size, 3, none⟩ = some (.int .i64 (pl 4 n : Int)) → Fr (fun j => j = d ∨ j = g) wq w5 → w5.cell? ⟨sb, 0, none⟩ = some (.pointer (some ⟨d, 0, none⟩)) ∧ w5.cell? ⟨w1.heap.size, 3, none⟩ = some (.int .i64 (pl 4 n : Int))) := hide2 (fun wq w5 hq c1 c2 h5 => ⟨(h5.cell (p := ⟨sb, 0, none⟩) (show sb < wq.heap.size by omega) (show ¬ (sb = d ∨ sb = g) by omega)).trans c1, (h5.cell (p := ⟨w1.heap.size, 3, none⟩) (show w1.heap.size < wq.heap.size by omega) (show ¬ (w1.heap.size = d ∨ w1.heap.size = g) by omega)).trans c2⟩)
  have H2 := hide2 h2
  have HB : Hid (Below w.heap.size w W2) := hide2 (hb1.trans ⟨hb2.os, hb2.tape, hb2.output, hb2.size, fun j hj => hb2.block j (by omega)⟩)
  have NB := hide2 nb
  have S1 := hide2 s1
  have S2 := hide2 s2
  clear HFD h1 hb1 hb2 h2 nb hkl hkk hvl
  go_wp2_with fail
  rw [← hW2]
  clear hW2
  refine wp_region_noPanic ?_
  refine wp_region_held_drew (S := (fun u : World => u.cell? ⟨sb, 0, none⟩ = some (.pointer (some ⟨d, 0, none⟩)) ∧ u.cell? ⟨w1.heap.size, 3, none⟩ = some (.int .i64 (pl 4 n : Int)))) (by kernel_rfl) (⟨s1, s2⟩) (fun hHeld => ?_)
  refine wpAnyH_take (i := 0) (oi := { dst := some 21, op := _, type := _, pos := _, after := _, guard := _ }) (v := ?_) rfl (by kernel_rfl) (by kernel_rfl) (by kernel_rfl) (fun _ _ _ h => h) (Or.inl ⟨by rfl, ?_⟩) (by assumption) ?_
  rotate_left 1
  · intro u hSw; obtain ⟨s1, s2⟩ := hSw; go_simp; try with_reducible rfl
  try simp only [Act.put, List.setIfInBounds_toArray, List.set_cons_zero, List.set_cons_succ]
  refine wpAnyH_take (i := 1) (oi := { dst := some 22, op := _, type := _, pos := _, after := _, guard := _ }) (v := ?_) rfl (by kernel_rfl) (by kernel_rfl) (by kernel_rfl) (fun _ _ _ h => h) (Or.inl ⟨by rfl, ?_⟩) (by assumption) ?_
  rotate_left 1
  · intro u hSw; obtain ⟨s1, s2⟩ := hSw; go_simp; try with_reducible rfl
  try simp only [Act.put, List.setIfInBounds_toArray, List.set_cons_zero, List.set_cons_succ]
  refine wpAnyH_take (i := 2) (oi := { dst := some 23, op := _, type := _, pos := _, after := _, guard := _ }) (v := ?_) rfl (by kernel_rfl) (by kernel_rfl) (by kernel_rfl) (fun _ _ _ h => h) (Or.inl ⟨by rfl, ?_⟩) (by assumption) ?_
  rotate_left 1
  · intro u hSw; obtain ⟨s1, s2⟩ := hSw; go_simp; try with_reducible rfl
  try simp only [Act.put, List.setIfInBounds_toArray, List.set_cons_zero, List.set_cons_succ]
  refine wpAnyH_take (i := 3) (oi := { dst := some 24, op := _, type := _, pos := _, after := _, guard := _ }) (v := ?_) rfl (by kernel_rfl) (by kernel_rfl) (by kernel_rfl) (fun _ _ _ h => h) (Or.inl ⟨by rfl, ?_⟩) (by assumption) ?_
  rotate_left 1
  · intro u hSw; obtain ⟨s1, s2⟩ := hSw; go_simp; try with_reducible rfl
  try simp only [Act.put, List.setIfInBounds_toArray, List.set_cons_zero, List.set_cons_succ]
  refine wpAnyH_take (i := 4) (oi := { dst := some 25, op := _, type := _, pos := _, after := _, guard := _ }) (v := ?_) rfl (by kernel_rfl) (by kernel_rfl) (by kernel_rfl) (fun _ _ _ h => h) (Or.inl ⟨by rfl, ?_⟩) (by assumption) ?_
  rotate_left 1
  · intro u hSw; obtain ⟨s1, s2⟩ := hSw; go_simp; try with_reducible rfl
  try simp only [Act.put, List.setIfInBounds_toArray, List.set_cons_zero, List.set_cons_succ]
  refine wpAnyH_take (i := 5) (oi := { dst := some 26, op := _, type := _, pos := _, after := _, guard := _ }) (v := ?_) rfl (by kernel_rfl) (by kernel_rfl) (by kernel_rfl) (fun _ _ _ h => h) (Or.inl ⟨by rfl, ?_⟩) (by assumption) ?_
  rotate_left 1
  · intro u hSw; obtain ⟨s1, s2⟩ := hSw; go_simp; try with_reducible rfl
  try simp only [Act.put, List.setIfInBounds_toArray, List.set_cons_zero, List.set_cons_succ]
  refine wpAnyH_ready (rs := [6]) (by kernel_rfl) (by simp) ?_
  refine AllReadyH.cons (o := { dst := some 27, op := _, type := _, pos := _, after := _, guard := _ }) rfl (fun Kq hK => ?_) AllReadyH.nil
  obtain ⟨s1, s2⟩ := hHeld
  go_simp
  refine HST.out.mono ?_
  rintro e w5 ⟨rfl, hA5, hF5⟩
  go_wp2_with fail
  refine hK.out _ _ (FRC.out W2.drew w5 rfl S1.out S2.out hF5) (fun hHeld => ?_)
  clear hK Kq
  try simp only [Act.put, List.setIfInBounds_toArray, List.set_cons_zero, List.set_cons_succ]
  refine wpAnyH_take (i := 7) (oi := { dst := some 20, op := _, type := _, pos := _, after := _, guard := _ }) (v := ?_) rfl (by kernel_rfl) (by kernel_rfl) (by kernel_rfl) (fun _ _ _ h => h) (Or.inl ⟨by rfl, ?_⟩) (by assumption) ?_
  rotate_left 1
  · intro u hSw; obtain ⟨s1, s2⟩ := hSw; go_simp; try with_reducible rfl
  try simp only [Act.put, List.setIfInBounds_toArray, List.set_cons_zero, List.set_cons_succ]
  refine wpAnyH_take (i := 8) (oi := { dst := some 28, op := _, type := _, pos := _, after := _, guard := _ }) (v := ?_) rfl (by kernel_rfl) (by kernel_rfl) (by kernel_rfl) (fun _ _ _ h => h) (Or.inl ⟨by rfl, ?_⟩) (by assumption) ?_
  rotate_left 1
  · intro u hSw; obtain ⟨s1, s2⟩ := hSw; go_simp; try with_reducible rfl
  try simp only [Act.put, List.setIfInBounds_toArray, List.set_cons_zero, List.set_cons_succ]
  refine wpAnyH_take (i := 9) (oi := { dst := some 29, op := _, type := _, pos := _, after := _, guard := _ }) (v := ?_) rfl (by kernel_rfl) (by kernel_rfl) (by kernel_rfl) (fun _ _ _ h => h) (Or.inl ⟨by rfl, ?_⟩) (by assumption) ?_
  rotate_left 1
  · intro u hSw; obtain ⟨s1, s2⟩ := hSw; go_simp; try with_reducible rfl
  try simp only [Act.put, List.setIfInBounds_toArray, List.set_cons_zero, List.set_cons_succ]
  refine wpAnyH_take (i := 10) (oi := { dst := some 8, op := _, type := _, pos := _, after := _, guard := _ }) (v := ?_) rfl (by kernel_rfl) (by kernel_rfl) (by kernel_rfl) (fun _ _ _ h => h) (Or.inl ⟨by rfl, ?_⟩) (by assumption) ?_
  rotate_left 1
  · intro u hSw; obtain ⟨s1, s2⟩ := hSw; go_simp; try with_reducible rfl
  try simp only [Act.put, List.setIfInBounds_toArray, List.set_cons_zero, List.set_cons_succ]
  refine wpAnyH_take (i := 11) (oi := { dst := some 9, op := _, type := _, pos := _, after := _, guard := _ }) (v := ?_) rfl (by kernel_rfl) (by kernel_rfl) (by kernel_rfl) (fun _ _ _ h => h) (Or.inl ⟨by rfl, ?_⟩) (by assumption) ?_
  rotate_left 1
  · intro u hSw; obtain ⟨s1, s2⟩ := hSw; go_simp; try with_reducible rfl
  try simp only [Act.put, List.setIfInBounds_toArray, List.set_cons_zero, List.set_cons_succ]
  refine wpAnyH_done (by kernel_rfl) ?_ _
  refine NoPanic.normal ?_
  have hF0 : Fr (fun j => j = d ∨ j = g) W2 w5 := (Fr.refl (fun j => j = d ∨ j = g) W2).drew.trans hF5 (fun j e => .inl e)
  have h5 := H2.out.arena hF0 hA5 H2.out.ok H2.out.pc rfl rfl rfl
  have nb5 : w5.heap[w1.heap.size]? = some (.cells #[.string (A.tx n), .int .i64 (pl 2 n : Int), .int .i64 (pl 3 n : Int), .int .i64 (pl 4 n : Int)] 106 (0, 0)) := (hF0.block _ (by omega) (by omega)).trans NB.out
  have hs5 := hF0.size
  have s1 := h5.st.cells.1
  have s2 : w5.cell? ⟨w1.heap.size, 3, none⟩ = some (.int .i64 (pl 4 n : Int)) := by rw [Go.Joins.cell_of_block nb5]; rfl
  have HST2 := hide2 (sStore_any (w := w5.drew) (h5.aw.same rfl rfl) (pl 4 n) hct 0 (by decide) (by omega))
  have FRC2 : Hid (∀ w6, Fr (fun j => j = d ∨ j = g) w5.drew w6 → w6.cell? ⟨sb, 0, none⟩ = some (.pointer (some ⟨d, 0, none⟩)) ∧ w6.cell? ⟨w1.heap.size, 3, none⟩ = some (.int .i64 (pl 4 n : Int))) := hide2 (fun w6 h6 => ⟨(h6.cell (p := ⟨sb, 0, none⟩) (show sb < w5.heap.size by omega) (show ¬ (sb = d ∨ sb = g) by omega)).trans s1, (h6.cell (p := ⟨w1.heap.size, 3, none⟩) (show w1.heap.size < w5.heap.size by omega) (show ¬ (w1.heap.size = d ∨ w1.heap.size = g) by omega)).trans s2⟩)
  have H5 := hide2 h5
  have HF0 := hide2 hF0
  clear HST FRC S1 S2 hA5 hF5 hF0 h5 nb5
  go_wp2_with fail
  refine wp_region_noPanic ?_
  refine wp_region_held_drew (S := (fun u : World => u.cell? ⟨sb, 0, none⟩ = some (.pointer (some ⟨d, 0, none⟩)) ∧ u.cell? ⟨w1.heap.size, 3, none⟩ = some (.int .i64 (pl 4 n : Int)))) (by kernel_rfl) (⟨s1, s2⟩) (fun hHeld => ?_)
  refine wpAnyH_take (i := 0) (oi := { dst := some 30, op := _, type := _, pos := _, after := _, guard := _ }) (v := ?_) rfl (by kernel_rfl) (by kernel_rfl) (by kernel_rfl) (fun _ _ _ h => h) (Or.inl ⟨by rfl, ?_⟩) (by assumption) ?_
  rotate_left 1
  · intro u hSw; obtain ⟨s1, s2⟩ := hSw; go_simp; try with_reducible rfl
  try simp only [Act.put, List.setIfInBounds_toArray, List.set_cons_zero, List.set_cons_succ]
  refine wpAnyH_take (i := 1) (oi := { dst := some 31, op := _, type := _, pos := _, after := _, guard := _ }) (v := ?_) rfl (by kernel_rfl) (by kernel_rfl) (by kernel_rfl) (fun _ _ _ h => h) (Or.inl ⟨by rfl, ?_⟩) (by assumption) ?_
  rotate_left 1
  · intro u hSw; obtain ⟨s1, s2⟩ := hSw; go_simp; try with_reducible rfl
  try simp only [Act.put, List.setIfInBounds_toArray, List.set_cons_zero, List.set_cons_succ]
  refine wpAnyH_take (i := 2) (oi := { dst := some 32, op := _, type := _, pos := _, after := _, guard := _ }) (v := ?_) rfl (by kernel_rfl) (by kernel_rfl) (by kernel_rfl) (fun _ _ _ h => h) (Or.inl ⟨by rfl, ?_⟩) (by assumption) ?_
  rotate_left 1
  · intro u hSw; obtain ⟨s1, s2⟩ := hSw; go_simp; try with_reducible rfl
  try simp only [Act.put, List.setIfInBounds_toArray, List.set_cons_zero, List.set_cons_succ]
  refine wpAnyH_take (i := 3) (oi := { dst := some 33, op := _, type := _, pos := _, after := _, guard := _ }) (v := ?_) rfl (by kernel_rfl) (by kernel_rfl) (by kernel_rfl) (fun _ _ _ h => h) (Or.inl ⟨by rfl, ?_⟩) (by assumption) ?_
  rotate_left 1
  · intro u hSw; obtain ⟨s1, s2⟩ := hSw; go_simp; try with_reducible rfl
  try simp only [Act.put, List.setIfInBounds_toArray, List.set_cons_zero, List.set_cons_succ]
  refine wpAnyH_take (i := 4) (oi := { dst := some 34, op := _, type := _, pos := _, after := _, guard := _ }) (v := ?_) rfl (by kernel_rfl) (by kernel_rfl) (by kernel_rfl) (fun _ _ _ h => h) (Or.inl ⟨by rfl, ?_⟩) (by assumption) ?_
  rotate_left 1
  · intro u hSw; obtain ⟨s1, s2⟩ := hSw; go_simp; try with_reducible rfl
  try simp only [Act.put, List.setIfInBounds_toArray, List.set_cons_zero, List.set_cons_succ]
  refine wpAnyH_take (i := 5) (oi := { dst := some 35, op := _, type := _, pos := _, after := _, guard := _ }) (v := ?_) rfl (by kernel_rfl) (by kernel_rfl) (by kernel_rfl) (fun _ _ _ h => h) (Or.inl ⟨by rfl, ?_⟩) (by assumption) ?_
  rotate_left 1
  · intro u hSw; obtain ⟨s1, s2⟩ := hSw; go_simp; try with_reducible rfl
  try simp only [Act.put, List.setIfInBounds_toArray, List.set_cons_zero, List.set_cons_succ]
  refine wpAnyH_ready (rs := [6]) (by kernel_rfl) (by simp) ?_
  refine AllReadyH.cons (o := { dst := some 36, op := _, type := _, pos := _, after := _, guard := _ }) rfl (fun Kq hK => ?_) AllReadyH.nil
  obtain ⟨s1, s2⟩ := hHeld
  go_simp
  refine HST2.out.mono ?_
  rintro e w6 ⟨rfl, hA6, hF6⟩
  go_wp2_with fail
  refine hK.out _ _ (FRC2.out w6 hF6) (fun hHeld => ?_)
  clear hK Kq
  try simp only [Act.put, List.setIfInBounds_toArray, List.set_cons_zero, List.set_cons_succ]
  refine wpAnyH_done (by kernel_rfl) ?_ _
  refine NoPanic.normal ?_
  have hF1 : Fr (fun j => j = d ∨ j = g) w5 w6 := (Fr.refl (fun j => j = d ∨ j = g) w5).drew.trans hF6 (fun j e => .inl e)
  have h6 := H5.out.arena (A' := A.put 4 n 0) hF1 hA6 (Stt.put_ok H5.out.ok (by decide) (fun e => by omega) (fun e => by omega)) (H5.out.pc.put HLV.out 0 (by rw [H5.out.aw.len]; exact Nat.le_refl _)) rfl rfl rfl
  have HL : Hid (Rp w6 K sb d z (M + 2) (A.put 4 n 0) u) := hide2 ⟨g, m0, m1, m2, T, _, _, F, own, pl, k1, h6, by rw [List.length_set]; exact r1, r2, by omega, by omega, HR5.out⟩
  have HFW : Hid (Fr K w w6) := hide2 (((Fr.below (F := K) HB.out).trans HF0.out (fun j e => .inl (H.out.kk j (by rcases e with e | e <;> simp [e])))).trans hF1 (fun j e => .inl (H.out.kk j (by rcases e with e | e <;> simp [e]))))
  have hup : A.va 4 n < 4611686018427387904 := by omega
  clear HST2 FRC2 s1 s2 hA6 hF6 hF1 h6 H5 H2 HF0 NB HLV hct HB
  go_wp2
  go_loopw [8, 10] (fun v i wr => ∃ (l1 l2 : List Nat) (x : Int) (K1 : Nat → Prop), l = l1 ++ l2 ∧ v = .int .u64 x ∧ i = .int .i64 (l1.length : Nat) ∧ 0 ≤ x ∧ x < 4611686018427387904 ∧ Hid (Ch (offs (A.put 4 n 0) l1) x l2) ∧ 3 * l1.length ≤ u ∧ Hid (Rp wr K1 sb d z (M + 2 + l1.length) (offs (A.put 4 n 0) l1) (u - 3 * l1.length)) ∧ Hid (∀ j, j < w.heap.size → (K1 j ↔ K j)) ∧ Hid (Fr K w wr)) (fun _ i _ => l.length + 1 - (intOf i).toNat)
  case atStart => exact ⟨[], l, A.va 4 n, K, rfl, rfl, rfl, hbd.1, hup, HCH, Nat.zero_le _, HL, hide2 (fun _ _ => Iff.rfl), HFW⟩
  case round =>
    obtain ⟨l1, l2, x, K1, hll2, rfl, rfl, hx0, hx1, C, hu3, L, HK, HF⟩ := hrel
    have hcv : IntKind.i64.wrap x = x := by rw [IntKind.wrap_i64]; omega
    have hlen : l.length = l1.length + l2.length := by rw [hll2]; simp
    match l2, C with
    | [], C =>
      have hout : x < 0 ∨ (offs (A.put 4 n 0) l1).lv 1 x.toNat = false := C.out
      have HTA := hide2 (takeAway_out L.out (n := x) (by omega) (by omega) hout)
      have hl1 : l = l1 := by rw [hll2]; simp
      have HLL := hide2 hl1
      clear hll2 hout hl1
      go_wp2_with fail
      refine HTA.out.mono ?_
      rintro e w7 ⟨rfl, hb7⟩
      have HB7 := hide2 hb7
      clear HTA hb7
      go_wp2
      go_ret2
      have e1 := HLL.out
      rw [e1]
      exact ⟨rfl, hu3, K1, L.out.below HB7.out, HK.out, HF.out.trans (G := fun _ => False) (Fr.below HB7.out) (fun j e => e.elim)⟩
    | y :: l3, C =>
      obtain ⟨hxy, hy, C3⟩ := C.out
      have hA := L.out.ok
      have hyb := hA.n1 1 y hy
      have hbd2 := hA.bd 4 y (by decide) hy
      have hnx2 := hA.nx y hy
      have hla := L.out.la 1
      have hta := takeAway_in L.out hy (by simp at hlen; omega)
      subst hxy
      obtain ⟨x2, hx2⟩ : ∃ q, q = (offs (A.put 4 n 0) l1).va 4 y := ⟨_, rfl⟩
      rw [← hx2] at hta C3 hbd2 hnx2
      have HTA := hide2 hta
      have HY := hide2 (And.intro hy C3)
      have HA := hide2 hA
      have HX2 := hide2 hx2
      clear hta hy C3 hA hx2
      go_wp2_with fail
      refine HTA.out.mono ?_
      rintro e w7 ⟨rfl, hu, a7⟩
      obtain ⟨K2, L2, hk2, hF2⟩ := Aft.trans L.out HK.out HF.out a7
      rw [← offs_snoc] at L2
      have HC2 : Hid (Ch (offs (A.put 4 n 0) (l1 ++ [y])) x2 l3) := hide2 (by
        rw [offs_snoc]
        have hc := HY.out.2
        refine hc.congr HA.out (fun m hm => ⟨?_, rfl⟩) (fun q _ hq => ?_)
        · show up2 (offs (A.put 4 n 0) l1).lv 1 y false 1 m = true
          rw [up2_other _ _ (fun q => ?_)]
          · exact hc.live m hm
          · have := hc.le HA.out m hm
            omega
        · have hq2 : up2 (offs (A.put 4 n 0) l1).lv 1 y false 1 q = true := hq
          by_cases e : q = y
          · rw [e, up2_same] at hq2; cases hq2
          · rw [up2_other _ _ (fun r => e r.2)] at hq2; exact hq2)
      have HL2 := hide2 L2
      have HK2 := hide2 hk2
      have HF2 := hide2 hF2
      simp at hlen
      have E1 : Hid (l1.length + 1 = (l1 ++ [y]).length) := hide2 (by simp)
      have HLL : Hid (l = (l1 ++ [y]) ++ l3) := hide2 (by rw [hll2]; simp)
      clear HTA a7 L2 hk2 hF2 hll2
      go_wp2
      go_roundw
      case rel => exact ⟨l1 ++ [y], l3, x2, K2, HLL.out, rfl, by rw [← E1.out]; go_num, hbd2.1, by omega, HC2, by rw [← E1.out]; omega, hide2 (by have q := HL2.out; rw [show u - 3 * l1.length - 3 = u - 3 * (l1 ++ [y]).length by rw [← E1.out]; omega, show M + 2 + l1.length + 1 = M + 2 + (l1 ++ [y]).length by rw [← E1.out]; omega] at q; exact q), HK2, HF2⟩
      case measure => simp [intOf]; omega
end
end

section
open Go.RowKit Go.Maps

section
variable {w w1 w2 w' : World} {K K1 : Nat → Prop} {sb d z M M' u u' : Nat} {A A' : Stt}
set_option maxRecDepth 100000 in
set_option maxHeartbeats 8000000 in
theorem drop_in (h : Rp w K sb d z M A u) {n y : Nat} (hn : A.lv 0 n = true) (hhd : A.va 0 n = (y : Int)) (hy : A.lv 1 y = true) (hM : M < 3800000000000000000) :
    Calls Tryd.prog 92 #[.pointer (some ⟨sb, 0, none⟩), .int .i64 (n : Int)] w fun e w' => e = .returned (.int .i64 0) ∧ 3 ≤ u ∧ Aft w w' K sb d z (M + 3) ((A.off 1 y).put 0 n (A.va 4 y)) (u - 3) := by
  obtain ⟨g, m0, m1, m2, T, N, m, F, own, pl, k1, h, r1, r2, r3, r4, r5⟩ := h
  have HY := hide2 hy
  have HHD := hide2 hhd
  have hyb := h.ok.n1 1 y hy
  have hbd := h.ok.bd 4 y (by decide) hy
  have hnx := h.ok.nx y hy
  have hl1 := r5 1
  have hcv : IntKind.i64.wrap (y : Int) = y := by rw [IntKind.wrap_i64]; omega
  have HN := hide2 hn
  clear hy
  have hnb := h.ok.n1 0 n hn
  have hnl := r5 0
  have HFD := hide2 (nodeOf_in h hn (by omega))
  have H := hide2 h
  have HR5 := hide2 r5
  have hlv : lvk A 0 n = true := lvk_of (by decide) hn
  have hct := h.pc.tak hlv
  have hvl := h.pc.vl 0 n hlv
  have HLV := hide2 hlv
  clear h r5 hlv
  go_enter Tryd.func92, Tryd.ntmps92
  go_wp2_with fail
  refine HFD.out.mono ?_
  rintro e w1 ⟨rfl, hb1⟩
  have h1 := H.out.below hb1
  obtain ⟨W2, hW2⟩ : ∃ x, x = w1.alloc (.cells #[.int .i64 (pl 0 n : Int), .int .i64 (pl 1 n : Int)] 91) := ⟨_, rfl⟩
  have hb2 : Below w1.heap.size w1 W2 := by rw [hW2]; exact (Below.refl _ _).alloc (Nat.le_refl _) _
  have h2 := h1.below hb2
  have nb : W2.heap[w1.heap.size]? = some (.cells #[.int .i64 (pl 0 n : Int), .int .i64 (pl 1 n : Int)] 91 (0, 0)) := by rw [hW2]; exact heap_alloc_new w1 _
  have s1 := h2.st.cells.1
  have s2 : W2.cell? ⟨w1.heap.size, 0, none⟩ = some (.int .i64 (pl 0 n : Int)) := by rw [Go.Joins.cell_of_block nb]; rfl
  have hkl := H.out.kl
  have hkk := H.out.kk
  have hs1 := hb1.size
  have hs2 : W2.heap.size = w1.heap.size + 1 := by rw [hW2]; simp
  have hdl := hkl d (hkk d (by simp))
  have hgl := hkl g (hkk g (by simp))
  have hsbl := hkl sb (hkk sb (by simp))
  have HST := hide2 (sLoad_any (w := W2.drew) (h2.aw.same rfl rfl) (pl 0 n) hct (by omega))
  rw [hvl, hhd] at HST
  have hnd := h2.nsd
  have hng := h2.nsg
  have FRC : Hid (∀ (wq : World) w5, wq.heap.size = W2.heap.size → wq.cell? ⟨sb, 0, none⟩ = some (.pointer (some ⟨d, 0, none⟩)) → wq.cell? ⟨w1.heap.size, 0, none⟩ = some (.int .i64 (pl 0 n : Int)) → Fr (fun j => j = d ∨ j = g) wq w5 → w5.cell? ⟨sb, 0, none⟩ = some (.pointer (some ⟨d, 0, none⟩)) ∧ w5.cell? ⟨w1.heap.size, 0, none⟩ = some (.int .i64 (pl 0 n : Int))) := hide2 (fun wq w5 hq c1 c2 h5 => ⟨(h5.cell (p := ⟨sb, 0, none⟩) (show sb < wq.heap.size by omega) (show ¬ (sb = d ∨ sb = g) by omega)).trans c1, (h5.cell (p := ⟨w1.heap.size, 0, none⟩) (show w1.heap.size < wq.heap.size by omega) (show ¬ (w1.heap.size = d ∨ w1.heap.size = g) by omega)).trans c2⟩)
  have H2 := hide2 h2
  have HB : Hid (Below w.heap.size w W2) := hide2 (hb1.trans ⟨hb2.os, hb2.tape, hb2.output, hb2.size, fun j hj => hb2.block j (by omega)⟩)
  have NB := hide2 nb
  have S1 := hide2 s1
  have S2 := hide2 s2
  clear HFD h1 hb1 hb2 h2 nb hkl hkk hvl hhd hn
  go_wp2_with fail
  rw [← hW2]
  clear hW2
  refine wp_region_noPanic ?_
  refine wp_region_held_drew (S := (fun u : World => u.cell? ⟨sb, 0, none⟩ = some (.pointer (some ⟨d, 0, none⟩)) ∧ u.cell? ⟨w1.heap.size, 0, none⟩ = some (.int .i64 (pl 0 n : Int)))) (by kernel_rfl) (⟨s1, s2⟩) (fun hHeld => ?_)
  refine wpAnyH_take (i := 0) (oi := { dst := some 20, op := _, type := _, pos := _, after := _, guard := _ }) (v := ?_) rfl (by kernel_rfl) (by kernel_rfl) (by kernel_rfl) (fun _ _ _ h => h) (Or.inl ⟨by rfl, ?_⟩) (by assumption) ?_
  rotate_left 1
  · intro u hSw; obtain ⟨s1, s2⟩ := hSw; go_simp; try with_reducible rfl
  try simp only [Act.put, List.setIfInBounds_toArray, List.set_cons_zero, List.set_cons_succ]
  refine wpAnyH_take (i := 1) (oi := { dst := some 21, op := _, type := _, pos := _, after := _, guard := _ }) (v := ?_) rfl (by kernel_rfl) (by kernel_rfl) (by kernel_rfl) (fun _ _ _ h => h) (Or.inl ⟨by rfl, ?_⟩) (by assumption) ?_
  rotate_left 1
  · intro u hSw; obtain ⟨s1, s2⟩ := hSw; go_simp; try with_reducible rfl
  try simp only [Act.put, List.setIfInBounds_toArray, List.set_cons_zero, List.set_cons_succ]
  refine wpAnyH_take (i := 2) (oi := { dst := some 22, op := _, type := _, pos := _, after := _, guard := _ }) (v := ?_) rfl (by kernel_rfl) (by kernel_rfl) (by kernel_rfl) (fun _ _ _ h => h) (Or.inl ⟨by rfl, ?_⟩) (by assumption) ?_
  rotate_left 1
  · intro u hSw; obtain ⟨s1, s2⟩ := hSw; go_simp; try with_reducible rfl
  try simp only [Act.put, List.setIfInBounds_toArray, List.set_cons_zero, List.set_cons_succ]
  refine wpAnyH_take (i := 3) (oi := { dst := some 23, op := _, type := _, pos := _, after := _, guard := _ }) (v := ?_) rfl (by kernel_rfl) (by kernel_rfl) (by kernel_rfl) (fun _ _ _ h => h) (Or.inl ⟨by rfl, ?_⟩) (by assumption) ?_
  rotate_left 1
  · intro u hSw; obtain ⟨s1, s2⟩ := hSw; go_simp; try with_reducible rfl
  try simp only [Act.put, List.setIfInBounds_toArray, List.set_cons_zero, List.set_cons_succ]
  refine wpAnyH_take (i := 4) (oi := { dst := some 24, op := _, type := _, pos := _, after := _, guard := _ }) (v := ?_) rfl (by kernel_rfl) (by kernel_rfl) (by kernel_rfl) (fun _ _ _ h => h) (Or.inl ⟨by rfl, ?_⟩) (by assumption) ?_
  rotate_left 1
  · intro u hSw; obtain ⟨s1, s2⟩ := hSw; go_simp; try with_reducible rfl
  try simp only [Act.put, List.setIfInBounds_toArray, List.set_cons_zero, List.set_cons_succ]
  refine wpAnyH_take (i := 5) (oi := { dst := some 25, op := _, type := _, pos := _, after := _, guard := _ }) (v := ?_) rfl (by kernel_rfl) (by kernel_rfl) (by kernel_rfl) (fun _ _ _ h => h) (Or.inl ⟨by rfl, ?_⟩) (by assumption) ?_
  rotate_left 1
  · intro u hSw; obtain ⟨s1, s2⟩ := hSw; go_simp; try with_reducible rfl
  try simp only [Act.put, List.setIfInBounds_toArray, List.set_cons_zero, List.set_cons_succ]
  refine wpAnyH_ready (rs := [6]) (by kernel_rfl) (by simp) ?_
  refine AllReadyH.cons (o := { dst := some 26, op := _, type := _, pos := _, after := _, guard := _ }) rfl (fun Kq hK => ?_) AllReadyH.nil
  obtain ⟨s1, s2⟩ := hHeld
  go_simp
  refine HST.out.mono ?_
  rintro e w5 ⟨rfl, hA5, hF5⟩
  go_wp2_with fail
  refine hK.out _ _ (FRC.out W2.drew w5 rfl S1.out S2.out hF5) (fun hHeld => ?_)
  clear hK Kq
  try simp only [Act.put, List.setIfInBounds_toArray, List.set_cons_zero, List.set_cons_succ]
  refine wpAnyH_take (i := 7) (oi := { dst := some 19, op := _, type := _, pos := _, after := _, guard := _ }) (v := ?_) rfl (by kernel_rfl) (by kernel_rfl) (by kernel_rfl) (fun _ _ _ h => h) (Or.inl ⟨by rfl, ?_⟩) (by assumption) ?_
  rotate_left 1
  · intro u hSw; obtain ⟨s1, s2⟩ := hSw; go_simp; try with_reducible rfl
  try simp only [Act.put, List.setIfInBounds_toArray, List.set_cons_zero, List.set_cons_succ]
  refine wpAnyH_take (i := 8) (oi := { dst := some 27, op := _, type := _, pos := _, after := _, guard := _ }) (v := ?_) rfl (by kernel_rfl) (by kernel_rfl) (by kernel_rfl) (fun _ _ _ h => h) (Or.inl ⟨by rfl, ?_⟩) (by assumption) ?_
  rotate_left 1
  · intro u hSw; obtain ⟨s1, s2⟩ := hSw; go_simp; try with_reducible rfl
  try simp only [Act.put, List.setIfInBounds_toArray, List.set_cons_zero, List.set_cons_succ]
  refine wpAnyH_take (i := 9) (oi := { dst := some 28, op := _, type := _, pos := _, after := _, guard := _ }) (v := ?_) rfl (by kernel_rfl) (by kernel_rfl) (by kernel_rfl) (fun _ _ _ h => h) (Or.inl ⟨by rfl, ?_⟩) (by assumption) ?_
  rotate_left 1
  · intro u hSw; obtain ⟨s1, s2⟩ := hSw; go_simp; try with_reducible rfl
  try simp only [Act.put, List.setIfInBounds_toArray, List.set_cons_zero, List.set_cons_succ]
  refine wpAnyH_take (i := 10) (oi := { dst := some 7, op := _, type := _, pos := _, after := _, guard := _ }) (v := ?_) rfl (by kernel_rfl) (by kernel_rfl) (by kernel_rfl) (fun _ _ _ h => h) (Or.inl ⟨by rfl, ?_⟩) (by assumption) ?_
  rotate_left 1
  · intro u hSw; obtain ⟨s1, s2⟩ := hSw; go_simp; try with_reducible rfl
  try simp only [Act.put, List.setIfInBounds_toArray, List.set_cons_zero, List.set_cons_succ]
  refine wpAnyH_take (i := 11) (oi := { dst := some 8, op := _, type := _, pos := _, after := _, guard := _ }) (v := ?_) rfl (by kernel_rfl) (by kernel_rfl) (by kernel_rfl) (fun _ _ _ h => h) (Or.inl ⟨by rfl, ?_⟩) (by assumption) ?_
  rotate_left 1
  · intro u hSw; obtain ⟨s1, s2⟩ := hSw; go_simp; try with_reducible rfl
  try simp only [Act.put, List.setIfInBounds_toArray, List.set_cons_zero, List.set_cons_succ]
  refine wpAnyH_done (by kernel_rfl) ?_ _
  refine NoPanic.normal ?_
  have hF0 : Fr (fun j => j = d ∨ j = g) W2 w5 := (Fr.refl (fun j => j = d ∨ j = g) W2).drew.trans hF5 (fun j e => .inl e)
  have h5 := H2.out.arena hF0 hA5 H2.out.ok H2.out.pc rfl rfl rfl
  have nb5 : w5.heap[w1.heap.size]? = some (.cells #[.int .i64 (pl 0 n : Int), .int .i64 (pl 1 n : Int)] 91 (0, 0)) := (hF0.block _ (by omega) (by omega)).trans NB.out
  have hs5 := hF0.size
  have HTA := hide2 (takeAway_sm h5 HY.out (by omega) (by omega) hl1)
  have H5 := hide2 h5
  have NB5 := hide2 nb5
  have HF0 := hide2 hF0
  clear HST FRC S1 S2 hA5 hF5 hF0 h5 nb5 hct
  go_wp2_with fail
  refine HTA.out.mono ?_
  rintro e w6 ⟨rfl, ⟨T', F', own', h6, hcnt⟩, hF6⟩
  have hs6 := hF6.size
  have hnK : ¬ K w1.heap.size := fun e => by have := H.out.kl _ e; omega
  have nb6 : w6.heap[w1.heap.size]? = some (.cells #[.int .i64 (pl 0 n : Int), .int .i64 (pl 1 n : Int)] 91 (0, 0)) := (hF6.block _ (by omega) hnK).trans NB5.out
  have s1 := h6.st.cells.1
  have s2 : w6.cell? ⟨w1.heap.size, 0, none⟩ = some (.int .i64 (pl 0 n : Int)) := by rw [Go.Joins.cell_of_block nb6]; rfl
  have hlv6 : lvk (A.off 1 y) 0 n = true := lvk_of (by decide) (by
    show up2 A.lv 1 y false 0 n = true
    rw [up2_other _ _ (fun q => by omega)]; exact HN.out)
  have hct6 := h6.pc.tak hlv6
  have HST2 := hide2 (sStore_any (w := w6.drew) (h6.aw.same rfl rfl) (pl 0 n) hct6 (A.va 4 y) hbd (by omega))
  have FRC2 : Hid (∀ w7, Fr (fun j => j = d ∨ j = g) w6.drew w7 → w7.cell? ⟨sb, 0, none⟩ = some (.pointer (some ⟨d, 0, none⟩)) ∧ w7.cell? ⟨w1.heap.size, 0, none⟩ = some (.int .i64 (pl 0 n : Int))) := hide2 (fun w7 h7 => ⟨(h7.cell (p := ⟨sb, 0, none⟩) (show sb < w6.heap.size by omega) (show ¬ (sb = d ∨ sb = g) by omega)).trans s1, (h7.cell (p := ⟨w1.heap.size, 0, none⟩) (show w1.heap.size < w6.heap.size by omega) (show ¬ (w1.heap.size = d ∨ w1.heap.size = g) by omega)).trans s2⟩)
  have H6 := hide2 (And.intro h6 (And.intro hcnt hlv6))
  have HF6 := hide2 hF6
  clear HTA h6 hcnt nb6 hF6 hlv6 hct6
  go_wp2_with fail
  refine wp_region_noPanic ?_
  refine wp_region_held_drew (S := (fun u : World => u.cell? ⟨sb, 0, none⟩ = some (.pointer (some ⟨d, 0, none⟩)) ∧ u.cell? ⟨w1.heap.size, 0, none⟩ = some (.int .i64 (pl 0 n : Int)))) (by kernel_rfl) (⟨s1, s2⟩) (fun hHeld => ?_)
  refine wpAnyH_take (i := 0) (oi := { dst := some 39, op := _, type := _, pos := _, after := _, guard := _ }) (v := ?_) rfl (by kernel_rfl) (by kernel_rfl) (by kernel_rfl) (fun _ _ _ h => h) (Or.inl ⟨by rfl, ?_⟩) (by assumption) ?_
  rotate_left 1
  · intro u hSw; obtain ⟨s1, s2⟩ := hSw; go_simp; try with_reducible rfl
  try simp only [Act.put, List.setIfInBounds_toArray, List.set_cons_zero, List.set_cons_succ]
  refine wpAnyH_take (i := 1) (oi := { dst := some 40, op := _, type := _, pos := _, after := _, guard := _ }) (v := ?_) rfl (by kernel_rfl) (by kernel_rfl) (by kernel_rfl) (fun _ _ _ h => h) (Or.inl ⟨by rfl, ?_⟩) (by assumption) ?_
  rotate_left 1
  · intro u hSw; obtain ⟨s1, s2⟩ := hSw; go_simp; try with_reducible rfl
  try simp only [Act.put, List.setIfInBounds_toArray, List.set_cons_zero, List.set_cons_succ]
  refine wpAnyH_take (i := 2) (oi := { dst := some 41, op := _, type := _, pos := _, after := _, guard := _ }) (v := ?_) rfl (by kernel_rfl) (by kernel_rfl) (by kernel_rfl) (fun _ _ _ h => h) (Or.inl ⟨by rfl, ?_⟩) (by assumption) ?_
  rotate_left 1
  · intro u hSw; obtain ⟨s1, s2⟩ := hSw; go_simp; try with_reducible rfl
  try simp only [Act.put, List.setIfInBounds_toArray, List.set_cons_zero, List.set_cons_succ]
  refine wpAnyH_take (i := 3) (oi := { dst := some 42, op := _, type := _, pos := _, after := _, guard := _ }) (v := ?_) rfl (by kernel_rfl) (by kernel_rfl) (by kernel_rfl) (fun _ _ _ h => h) (Or.inl ⟨by rfl, ?_⟩) (by assumption) ?_
  rotate_left 1
  · intro u hSw; obtain ⟨s1, s2⟩ := hSw; go_simp; try with_reducible rfl
  try simp only [Act.put, List.setIfInBounds_toArray, List.set_cons_zero, List.set_cons_succ]
  refine wpAnyH_take (i := 4) (oi := { dst := some 43, op := _, type := _, pos := _, after := _, guard := _ }) (v := ?_) rfl (by kernel_rfl) (by kernel_rfl) (by kernel_rfl) (fun _ _ _ h => h) (Or.inl ⟨by rfl, ?_⟩) (by assumption) ?_
  rotate_left 1
  · intro u hSw; obtain ⟨s1, s2⟩ := hSw; go_simp; try with_reducible rfl
  try simp only [Act.put, List.setIfInBounds_toArray, List.set_cons_zero, List.set_cons_succ]
  refine wpAnyH_take (i := 5) (oi := { dst := some 44, op := _, type := _, pos := _, after := _, guard := _ }) (v := ?_) rfl (by kernel_rfl) (by kernel_rfl) (by kernel_rfl) (fun _ _ _ h => h) (Or.inl ⟨by rfl, ?_⟩) (by assumption) ?_
  rotate_left 1
  · intro u hSw; obtain ⟨s1, s2⟩ := hSw; go_simp; try with_reducible rfl
  try simp only [Act.put, List.setIfInBounds_toArray, List.set_cons_zero, List.set_cons_succ]
  refine wpAnyH_take (i := 6) (oi := { dst := some 45, op := _, type := _, pos := _, after := _, guard := _ }) (v := ?_) rfl (by kernel_rfl) (by kernel_rfl) (by kernel_rfl) (fun _ _ _ h => h) (Or.inl ⟨by rfl, ?_⟩) (by assumption) ?_
  rotate_left 1
  · intro u hSw; obtain ⟨s1, s2⟩ := hSw; go_simp; try with_reducible rfl
  try simp only [Act.put, List.setIfInBounds_toArray, List.set_cons_zero, List.set_cons_succ]
  refine wpAnyH_ready (rs := [7]) (by kernel_rfl) (by simp) ?_
  refine AllReadyH.cons (o := { dst := some 46, op := _, type := _, pos := _, after := _, guard := _ }) rfl (fun Kq hK => ?_) AllReadyH.nil
  obtain ⟨s1, s2⟩ := hHeld
  go_simp
  refine HST2.out.mono ?_
  rintro e w7 ⟨rfl, hA7, hF7⟩
  go_wp2_with fail
  refine hK.out _ _ (FRC2.out w7 hF7) (fun hHeld => ?_)
  clear hK Kq
  try simp only [Act.put, List.setIfInBounds_toArray, List.set_cons_zero, List.set_cons_succ]
  refine wpAnyH_take (i := 8) (oi := { dst := some 4, op := _, type := _, pos := _, after := _, guard := _ }) (v := ?_) rfl (by kernel_rfl) (by kernel_rfl) (by kernel_rfl) (fun _ _ _ h => h) (Or.inl ⟨by rfl, ?_⟩) (by assumption) ?_
  rotate_left 1
  · intro u hSw; obtain ⟨s1, s2⟩ := hSw; go_simp; try with_reducible rfl
  try simp only [Act.put, List.setIfInBounds_toArray, List.set_cons_zero, List.set_cons_succ]
  refine wpAnyH_done (by kernel_rfl) ?_ _
  refine NoPanic.normal ?_
  have HA7 := hide2 hA7
  have HF7 := hide2 hF7
  clear hA7 hF7 HST2 FRC2 s1 s2
  go_wp2
  go_ret
  obtain ⟨h6, hcnt, hlv6⟩ := H6.out
  have hF1 : Fr (fun j => j = d ∨ j = g) w6 w7 := (Fr.refl (fun j => j = d ∨ j = g) w6).drew.trans HF7.out (fun j e => .inl e)
  have h7 := h6.arena (A' := (A.off 1 y).put 0 n (A.va 4 y)) hF1 HA7.out (Stt.put_ok h6.ok hbd (fun _ => by show A.va 4 y ≤ (A.la 1 : Int); omega) (fun e => by omega)) (h6.pc.put hlv6 (A.va 4 y) (by rw [h6.aw.len]; exact Nat.le_refl _)) rfl rfl rfl
  have hFw : Fr K w w7 := (((Fr.below (F := K) HB.out).trans HF0.out (fun j e => .inl (H.out.kk j (by rcases e with e | e <;> simp [e])))).trans HF6.out (fun j e => .inl e)).trans hF1 (fun j e => .inl (H.out.kk j (by rcases e with e | e <;> simp [e])))
  exact ⟨rfl, by omega, K, ⟨g, m0, m1, m2, T', _, _, F', own', pl, _, h7, by rw [List.length_set]; exact r1, by omega, by omega, by omega, HR5.out⟩, fun _ _ => Iff.rfl, hFw⟩
end
end

section
open Go.RowKit Go.Maps

section
variable {w : World} {K : Nat → Prop} {sb d z M u : Nat} {A : Stt}
theorem Rp.used (h : Rp w K sb d z M A u) : Calls Tryd.prog 16 #[.pointer (some ⟨d, 0, none⟩)] w fun e w' => e = .returned (.int .i64 (u : Nat)) ∧ w' = w := by
  obtain ⟨g, m0, m1, m2, T, N, m, F, own, pl, k1, h, r1, r2, r⟩ := h
  have := Used_any h.aw
  rw [r2] at this
  exact this
theorem mbg_small {n : Nat} (h : n < 1000) : mbg (n : Int) = true := by
  unfold mbg ptO kd
  rw [if_pos (by omega)]
  simp
  omega
/-- A version is made in front of a chain, and pushed. -/
def Stt.front (A : Stt) (n : Nat) (t : ByteArray) (b x : Int) : Stt := (A.ver t b x).put 0 n ((A.la 1 + 1 : Nat) : Int)
theorem front_la (n : Nat) (t : ByteArray) (b x : Int) : (A.front n t b x).la = up1 A.la 1 (A.la 1 + 1) := rfl
theorem front_va0 (n : Nat) (t : ByteArray) (b x : Int) (k : Nat) : (A.front n t b x).va 0 k = if k = n then ((A.la 1 + 1 : Nat) : Int) else A.va 0 k := by
  show up2 (up2 (up2 (up2 A.va 2 (A.la 1 + 1) b) 3 (A.la 1 + 1) 1099511627776) 4 (A.la 1 + 1) x) 0 n ((A.la 1 + 1 : Nat) : Int) 0 k = _
  by_cases e : k = n
  · rw [e, up2_same, if_pos rfl]
  · rw [up2_other _ _ (fun q => e q.2), if_neg e, up2_other _ _ (fun q => by omega), up2_other _ _ (fun q => by omega), up2_other _ _ (fun q => by omega)]
theorem front_va3 (n : Nat) (t : ByteArray) (b x : Int) (k : Nat) : (A.front n t b x).va 3 k = if k = A.la 1 + 1 then 1099511627776 else A.va 3 k := by
  show up2 (up2 (up2 (up2 A.va 2 (A.la 1 + 1) b) 3 (A.la 1 + 1) 1099511627776) 4 (A.la 1 + 1) x) 0 n ((A.la 1 + 1 : Nat) : Int) 3 k = _
  rw [up2_other _ _ (fun q => by omega), up2_other _ _ (fun q => by omega)]
  by_cases e : k = A.la 1 + 1
  · rw [e, up2_same, if_pos rfl]
  · rw [up2_other _ _ (fun q => e q.2), if_neg e, up2_other _ _ (fun q => by omega)]
theorem front_va4 (n : Nat) (t : ByteArray) (b x : Int) (k : Nat) : (A.front n t b x).va 4 k = if k = A.la 1 + 1 then x else A.va 4 k := by
  show up2 (up2 (up2 (up2 A.va 2 (A.la 1 + 1) b) 3 (A.la 1 + 1) 1099511627776) 4 (A.la 1 + 1) x) 0 n ((A.la 1 + 1 : Nat) : Int) 4 k = _
  rw [up2_other _ _ (fun q => by omega)]
  by_cases e : k = A.la 1 + 1
  · rw [e, up2_same, if_pos rfl]
  · rw [up2_other _ _ (fun q => e q.2), if_neg e, up2_other _ _ (fun q => by omega), up2_other _ _ (fun q => by omega)]
theorem front_lv (n : Nat) (t : ByteArray) (b x : Int) (c k : Nat) : (A.front n t b x).lv c k = if c = 1 ∧ k = A.la 1 + 1 then true else A.lv c k := by
  show up2 A.lv 1 (A.la 1 + 1) true c k = _
  rfl
theorem Ch.front (hok : A.ok) {l : List Nat} {y x b : Int} {n : Nat} {t : ByteArray} (hc : Ch A y l) (hy : y ≤ A.la 1) : Ch (A.front n t b x) y l := by
  refine hc.congr hok (fun m hm => ?_) (fun k hk hl => ?_)
  · have h1 := hc.live m hm
    have h2 := hc.le hok m hm
    have hne : m ≠ A.la 1 + 1 := by omega
    rw [front_lv, front_va4, if_neg (fun q => hne q.2), if_neg hne]
    exact ⟨h1, rfl⟩
  · rw [front_lv, if_neg (fun q => by omega)] at hl
    exact hl
theorem Ch.push (hok : A.ok) {l : List Nat} {x b : Int} {n : Nat} {t : ByteArray} (hc : Ch A x l) (hx : x ≤ A.la 1) : Ch (A.front n t b x) ((A.la 1 + 1 : Nat) : Int) ((A.la 1 + 1) :: l) := by
  refine ⟨rfl, by rw [front_lv, if_pos ⟨rfl, rfl⟩], ?_⟩
  rw [front_va4, if_pos rfl]
  exact hc.front hok hx
/-- What Push makes of it. -/
theorem swap_front {n : Nat} {t : ByteArray} {b x : Int} (h : A.va 0 n = x) : (A.ver t b x).swap 0 n x ((A.la 1 + 1 : Nat) : Int) = A.front n t b x := by
  unfold Stt.swap Stt.front
  rw [if_pos]
  show up2 (up2 (up2 A.va 2 (A.la 1 + 1) b) 3 (A.la 1 + 1) 1099511627776) 4 (A.la 1 + 1) x 0 n = x
  rw [up2_other _ _ (fun q => by omega), up2_other _ _ (fun q => by omega), up2_other _ _ (fun q => by omega)]
  exact h
theorem ver_va0 {n : Nat} {t : ByteArray} {b x : Int} : (A.ver t b x).va 0 n = A.va 0 n := by
  show up2 (up2 (up2 A.va 2 (A.la 1 + 1) b) 3 (A.la 1 + 1) 1099511627776) 4 (A.la 1 + 1) x 0 n = _
  rw [up2_other _ _ (fun q => by omega), up2_other _ _ (fun q => by omega), up2_other _ _ (fun q => by omega)]
theorem ver_lv1 {k : Nat} {t : ByteArray} {b x : Int} : (A.ver t b x).lv 1 k = if k = A.la 1 + 1 then true else A.lv 1 k := by
  show up2 A.lv 1 (A.la 1 + 1) true 1 k = _
  unfold up2
  by_cases e : k = A.la 1 + 1
  · simp [e]
  · simp [e]

/-- Version and Push, one behind the other, whatever the chain. -/
structure Frt (A : Stt) (n : Nat) (x : Int) (l : List Nat) : Prop where
  ch : Ch A x l
  hd : A.va 0 n = x
  lv : A.lv 0 n = true
  xn : x = 0 ∨ ∃ y : Nat, x = (y : Int) ∧ A.lv 1 y = true ∧ 1 ≤ y
theorem Frt.le (hok : A.ok) {n : Nat} {x : Int} {l : List Nat} (h : Frt A n x l) : 0 ≤ x ∧ x ≤ A.la 1 := by
  rcases h.xn with e | ⟨y, e, hy, _⟩
  · omega
  · have := hok.n1 1 y hy; omega
theorem ver_any {t : ByteArray} {b x : Int} {n : Nat} {l : List Nat} (h : Rp w K sb d z M A u) (hf : Frt A n x l) (ht : t.size ≤ 64) (hb : 0 ≤ b ∧ b ≤ 18446744073709551615) (hmb : mbg b = true) (hla : A.la 1 < 1000000) (hroom : u + 3 ≤ z) (hM : M < 3800000000000000000) :
    Calls Tryd.prog 26 #[.pointer (some ⟨sb, 0, none⟩), .string t, .int .u64 b, .int .i64 x] w fun e w' => e = .returned (.tuple #[.int .i64 ((A.la 1 + 1 : Nat) : Int), .int .i64 0]) ∧ Aft w w' K sb d z (M + 4) (A.ver t b x) (u + 3) := by
  rcases hf.xn with rfl | ⟨y, rfl, hy, _⟩
  · exact ver_zero h ht hb hmb hla hroom (by omega)
  · exact ver_next h ht hb hmb hy hla hroom (by omega)
theorem push_any {t : ByteArray} {b x : Int} {n : Nat} {l : List Nat} (h : Rp w K sb d z M (A.ver t b x) u) (hf : Frt A n x l) (hM : M < 3800000000000000000) :
    Calls Tryd.prog 27 #[.pointer (some ⟨sb, 0, none⟩), .int .i64 (n : Int), .int .i64 x, .int .i64 ((A.la 1 + 1 : Nat) : Int)] w fun e w' => e = .returned (.tuple #[.bool true, .int .i64 0]) ∧ Aft w w' K sb d z (M + 1) (A.front n t b x) u := by
  have hnow : (A.ver t b x).lv 1 (A.la 1 + 1) = true := by rw [ver_lv1, if_pos rfl]
  have hn : (A.ver t b x).lv 0 n = true := by rw [ver_lv (by decide)]; exact hf.lv
  have hv : (A.ver t b x).va 0 n = x := ver_va0.trans hf.hd
  have hd : decide ((A.ver t b x).va 0 n = x) = true := by rw [hv]; simp
  have key : ∀ e w', (e = Ending.returned (.tuple #[.bool (decide ((A.ver t b x).va 0 n = x)), .int .i64 0]) ∧ Aft w w' K sb d z (M + 1) ((A.ver t b x).swap 0 n x ((A.la 1 + 1 : Nat) : Int)) u) → e = .returned (.tuple #[.bool true, .int .i64 0]) ∧ Aft w w' K sb d z (M + 1) (A.front n t b x) u := by
    rintro e w' ⟨rfl, a⟩
    rw [hd]
    rw [swap_front hf.hd] at a
    exact ⟨rfl, a⟩
  rcases hf.xn with hx | ⟨y, hx, hy, _⟩
  · subst hx
    exact (push_zero h hn hnow (by omega)).mono key
  · subst hx
    have hy2 : (A.ver t b (y : Int)).lv 1 y = true := by
      rw [ver_lv1]
      split
      · rfl
      · exact hy
    exact (push_old h hn hnow hy2 (by omega)).mono key
theorem Frt.front (hok : A.ok) {t : ByteArray} {b x : Int} {n : Nat} {l : List Nat} (h : Frt A n x l) : Frt (A.front n t b x) n ((A.la 1 + 1 : Nat) : Int) ((A.la 1 + 1) :: l) :=
  ⟨h.ch.push hok (h.le hok).2, by rw [front_va0, if_pos rfl], by rw [front_lv, if_neg (fun q => by omega)]; exact h.lv, .inr ⟨_, rfl, by rw [front_lv, if_pos ⟨rfl, rfl⟩], by omega⟩⟩
end
end

section
open Go.RowKit Go.Maps

/-- What Chain leaves. -/
def ChainR (w w' : World) (K : Nat → Prop) (sb d z M : Nat) (A : Stt) (u : Nat) (l : List Nat) (v : Value) : Prop :=
  Hr w' w.heap.size v l ∧ ∃ K', Rp w' K' sb d z M A u ∧ (∀ j, j < w.heap.size → (K' j ↔ K j)) ∧ Fr K w w' ∧ ∀ j, v.ownBlock = some j → ¬ K' j

section
variable {w : World} {K : Nat → Prop} {sb d z M u : Nat} {A : Stt}
theorem ver_long (h : Rp w K sb d z M A u) {t : ByteArray} {b x : Int} (ht : 64 < t.size) :
    Calls Tryd.prog 26 #[.pointer (some ⟨sb, 0, none⟩), .string t, .int .u64 b, .int .i64 x] w fun e w' => e = .returned (.tuple #[.int .i64 0, .int .i64 111]) ∧ w' = w := by
  obtain ⟨g, m0, m1, m2, T, N, m, F, own, pl, k1, h, r⟩ := h
  have HI := hide2 (isNone_any (w := w) h.st.cells.1)
  have d1 : decide ((64 : Int) < (t.size : Int)) = true := by simp; omega
  have d2 : (64 : Int) < (t.size : Int) := by omega
  clear h r
  go_enter Tryd.func26, Tryd.ntmps26
  go_wp2_with fail
  refine HI.out.mono ?_
  rintro e wa ⟨rfl, qa⟩
  subst qa
  clear HI
  go_wp2
  go_ret2
  exact ⟨rfl, rfl⟩
set_option maxRecDepth 100000 in
set_option maxHeartbeats 4000000 in
theorem next_out (h : Rp w K sb d z M A u) {n : Int} (h1 : -9223372036854775808 ≤ n) (h2 : n ≤ 9223372036854775807) (hn : n < 0 ∨ A.lv 1 n.toNat = false) :
    Calls Tryd.prog 72 #[.pointer (some ⟨sb, 0, none⟩), .int .i64 n] w fun e w' => e = .returned (.tuple #[.int .i64 0, .int .i64 110]) ∧ Below w.heap.size w w' := by
  obtain ⟨g, m0, m1, m2, T, N, m, F, own, pl, k1, h, r⟩ := h
  have HFD := hide2 (versionOf_out h h1 h2 hn)
  clear h r
  go_enter Tryd.func72, Tryd.ntmps72
  go_wp2_with fail
  refine HFD.out.mono ?_
  rintro e w1 ⟨rfl, hb1⟩
  have HB := hide2 hb1
  have hs1 := hb1.size
  clear HFD hb1
  go_wp2
  go_ret2
  exact ⟨rfl, HB.out.alloc hs1 _⟩
set_option maxRecDepth 100000 in
set_option maxHeartbeats 8000000 in
theorem chain_any (h : Rp w K sb d z M A u) {n : Nat} (hn : A.lv 0 n = true) {l : List Nat} (hc : Ch A (A.va 0 n) l) (hll : l.length ≤ 1000000) (hM : M < 3800000000000000000) :
    Calls Tryd.prog 46 #[.pointer (some ⟨sb, 0, none⟩), .int .i64 (n : Int)] w fun e w' => ∃ v, e = .returned v ∧ ChainR w w' K sb d z (M + 2 + l.length) A u l v := by
  obtain ⟨i0, hi0, z0, z1, z2⟩ := info_parts infoH
  have HHD := hide2 (head_any h hn (by omega))
  have hok := h.ok
  have hbd := hok.bd 0 n (by decide) hn
  have hhd := hok.hd n hn
  have hla := h.la 1
  have HOK := hide2 hok
  have HC := hide2 hc
  have hk0 := h.k0
  have hz0 := h.tab.1
  have hkl := h.kl
  have HKL := hide2 hkl
  have HLI := hide2 (hc.live)
  have HND := hide2 (hc.nodup hok)
  clear h hok hc hkl
  go_enter Tryd.func46, Tryd.ntmps46
  go_wp2_with fail
  refine HHD.out.mono ?_
  rintro e w1 ⟨rfl, K1, hR1, hk1, hF1⟩
  have HR1 := hide2 hR1
  have HK1 := hide2 hk1
  have HF1 := hide2 hF1
  have hs1 := hF1.size
  clear HHD hR1 hk1 hF1
  go_wp2
  go_loopw [5, 7] (fun a v wr => ∃ (l1 l2 : List Nat) (x : Int) (K1 : Nat → Prop), l = l1 ++ l2 ∧ a = .int .i64 x ∧ 0 ≤ x ∧ x ≤ 1000000 ∧ Hid (Ch A x l2) ∧ Hid (Hr wr w.heap.size v l1) ∧ Hid (Rp wr K1 sb d z (M + 1 + l1.length) A u) ∧ Hid (∀ j, j < w.heap.size → (K1 j ↔ K j)) ∧ Hid (Fr K w wr) ∧ Hid (∀ j, v.ownBlock = some j → ¬ K1 j)) (fun _ v _ => match v with | .slice _ k _ => l.length + 1 - k | _ => 0)
  case atStart => exact ⟨[], l, A.va 0 n, K1, rfl, rfl, hbd.1, by omega, HC, hide2 ⟨rfl, .inl ⟨rfl, rfl⟩⟩, HR1, HK1, HF1, hide2 (fun j e => by cases e)⟩
  case round =>
    clear HR1 HK1 HF1 hs1
    obtain ⟨l1, l2, x, K2, hl12, rfl, hx0, hx1, C, HR, L, HK, HF, HV⟩ := hrel
    have hsz := HF.out.size
    obtain ⟨ao, cp, ev⟩ := HR.out.form
    subst ev
    have hlen : l.length = l1.length + l2.length := by rw [hl12]; simp
    have HLL := hide2 hl12
    obtain ⟨g, m0, m1, m2, T, N, m, F, own, pl, kc, hS, r⟩ := L.out
    have hct := hS.ct l HND.out HLI.out
    have hmap := hS.st.cells.2.2.2.2.1
    have hml := fun ty => hS.p1.len Tryd.underlying97 ty
    clear hS r hl12
    match l2, C with
    | [], C =>
      have hout : x < 0 ∨ A.lv 1 x.toNat = false := C.out
      have hl1 : l1.length = l.length := by simp at hlen; omega
      have RET : Hid (∀ w', Below wr.heap.size wr w' → ChainR w w' K sb d z (M + 2 + l.length) A u l (.slice ao l1.length cp)) := hide2 (fun w' hb => by
        have e : l = l1 := by rw [HLL.out]; simp
        refine ⟨?_, K2, (L.out.up (by omega)).below hb, HK.out, HF.out.trans (G := fun _ => False) (Fr.below hb) (fun j e => e.elim), HV.out⟩
        rw [e]
        exact hrow_fr HR.out (Fr.below (F := fun _ => False) hb) (fun _ _ => id))
      clear hl1 hlen hct
      by_cases hlt : l1.length < kc
      · have c1 : decide ((l1.length : Int) < (kc : Int)) = true := by simp; omega
        have c2 : (l1.length : Int) < (kc : Int) := by omega
        have HNX := hide2 (next_out L.out (n := x) (by omega) (by omega) hout)
        clear hout
        go_wp2_with fail
        refine HNX.out.mono ?_
        rintro e w3 ⟨rfl, hb3⟩
        have HB3 := hide2 hb3
        clear HNX hb3
        go_wp2
        go_ret
        exact ⟨_, rfl, RET.out _ HB3.out⟩
      · have c1 : decide ((l1.length : Int) < (kc : Int)) = false := by simp; omega
        have c2 : ¬ (l1.length : Int) < (kc : Int) := by omega
        clear hout
        go_wp2
        go_ret
        exact ⟨_, rfl, RET.out _ (Below.refl _ _)⟩
    | y :: l3, C =>
      obtain ⟨hxy, hy, C3⟩ := C.out
      subst hxy
      have hl3 : l1.length + 1 + l3.length = l.length := by simp at hlen; omega
      have c1 : decide ((l1.length : Int) < (kc : Int)) = true := by simp; omega
      have c2 : (l1.length : Int) < (kc : Int) := by omega
      have hnb := HOK.out.n1 1 y hy
      have hbd2 := HOK.out.bd 4 y (by decide) hy
      have hnx := HOK.out.nx y hy
      have HNX := hide2 (next_any L.out hy (by omega))
      have HC3 := hide2 C3
      obtain ⟨x2, hx2⟩ : ∃ q, q = A.va 4 y := ⟨_, rfl⟩
      rw [← hx2] at HNX HC3 hbd2 hnx
      clear C3 hy hx2 hlen
      go_wp2_with fail
      refine HNX.out.mono ?_
      rintro e w3 ⟨rfl, K3, hR3, hk3, hF3⟩
      have hr3 : Hr w3 w.heap.size (.slice ao l1.length cp) l1 := hrow_fr HR.out hF3 (fun j e => HV.out j e)
      have hblk : ∀ j, (Value.slice ao l1.length cp).ownBlock = some j → j < wr.heap.size ∧ w.heap.size ≤ j := fun j e => ⟨(World.ownsRow.lt HR.out j e).2, (World.ownsRow.lt HR.out j e).1⟩
      have HBK := hide2 hblk
      have HR3 : Hid (w3.ownsRow w.heap.size 3 1 (.slice ao l1.length cp) l1.length (l1.map nv)) := hide2 hr3
      have hs3 := hF3.size
      have HP3 := hide2 hR3
      have HK3 := hide2 hk3
      have HF3 := hide2 hF3
      have HNEW := hide2 (hcell_new w3 (.int .i64 (y : Int)) 3)
      clear HNX hR3 hk3 hF3 hr3 hblk
      go_wp2_with (at_builtin; refine Hid.out ?_)
      refine hide2 ?_
      refine wpList_append_own_at _ rfl _ _ 29 rfl w.heap.size 3 i0 (.int .i64 0) 1 8 Tryd.underlying29 hi0 z0 z1 z2 rfl (by decide) (.slice ao l1.length cp) _ _ rfl (World.ownsRow.alloc HR3.out _) ⟨w3.heap.size, 0, none⟩ 1 1 [.int .i64 (y : Int)] rfl rfl HNEW.out (by simp [Value.oneCell']) (by unfold maxLen; omega) (by omega) (by simp; omega) ?_
      intro v' w4 hown4 hgrow4 hat4 hb4
      obtain ⟨gt, capt, ev⟩ := hrow_succ hown4
      have hFg : Fr (fun j => (Value.slice ao l1.length cp).ownBlock = some j) w3 w4 := ((Fr.refl (fun j => (Value.slice ao l1.length cp).ownBlock = some j) w3).alloc (.cells #[.int .i64 (y : Int)] 3)).trans (Fr.grown hgrow4 (fun j e => e)) (fun j e => .inl e)
      have hvK3 : ∀ j, (Value.slice ao l1.length cp).ownBlock = some j → ¬ K3 j := fun j e q => HV.out j e ((HK3.out j (HBK.out j e).1).1 q)
      have hR4 : Rp w4 K3 sb d z (M + 1 + (l1.length + 1)) A u := (HP3.out.up (by omega)).keep hFg (fun j hj e => hvK3 j e hj) (fun e => by
        have := (HBK.out 0 e).2
        have := HF.out.size
        omega)
      have HR4 := hide2 hR4
      have HF4 : Hid (Fr K w w4) := hide2 ((HF.out.trans HF3.out (fun j e => by
        rcases Nat.lt_or_ge j w.heap.size with q | q
        · exact .inl ((HK.out j q).1 e)
        · exact .inr q)).trans hFg (fun j e => .inr (HBK.out j e).2))
      have HH4 : Hid (Hr w4 w.heap.size v' (l1 ++ [y])) := hide2 (by
        unfold Hr
        rw [List.length_append, List.length_singleton, List.map_append]
        exact hown4)
      have HV4 : Hid (∀ j, v'.ownBlock = some j → ¬ K3 j) := hide2 (fun j e q => by
        rcases hb4 with q4 | q4
        · exact hvK3 j (by rw [← q4]; exact e) q
        · rw [q4] at e
          simp at e
          have := HP3.out.kl j q
          omega)
      have HK4 : Hid (∀ j, j < w.heap.size → (K3 j ↔ K j)) := hide2 (fun j hj => (HK3.out j (by omega)).trans (HK.out j hj))
      have HL4 : Hid (l = (l1 ++ [y]) ++ l3) := hide2 (by rw [HLL.out]; simp)
      clear hown4 hgrow4 hat4 hb4 hFg HNEW HR3 HR HP3 HK3 HF3 HBK hvK3 hR4 HV
      subst ev
      go_frame
      go_wp2
      go_roundw
      case rel => exact ⟨l1 ++ [y], l3, x2, K3, HL4.out, rfl, hbd2.1, by omega, HC3, HH4, hide2 (by have q := HR4.out; rw [show l1.length + 1 = (l1 ++ [y]).length by simp] at q; exact q), HK4, HF4, HV4⟩
      case measure => show l.length + 1 - (l1.length + 1) < l.length + 1 - l1.length; omega

end
end
end Go.Proofs.YtfhcphgjaobnoaaDoor
