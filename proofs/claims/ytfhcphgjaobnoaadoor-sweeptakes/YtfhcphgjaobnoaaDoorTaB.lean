/-
  Push, TakeEnd: what swaps a cell. (Printed by gen_tab.py.)
-/
import Derived.Test.YtfhcphgjaobnoaaDoorTa9
set_option linter.unusedVariables false
set_option linter.unusedSimpArgs false
namespace Go.Proofs.YtfhcphgjaobnoaaDoor
open Go.RowKit Go.Maps

section
variable {w w' : World} {K : Nat → Prop} {sb d z M u : Nat} {A : Stt}
/-- A swap. -/
def Stt.swap (A : Stt) (k n : Nat) (a b : Int) : Stt := if A.va k n = a then A.put k n b else A
set_option maxRecDepth 100000 in
set_option maxHeartbeats 4000000 in
theorem push_zero (h : Rp w K sb d z M A u) {n : Nat} (hn : A.lv 0 n = true) {now : Nat} (hnow : A.lv 1 now = true) (hM : M < 3900000000000000000) :
    Calls Tryd.prog 27 #[.pointer (some ⟨sb, 0, none⟩), .int .i64 (n : Int), .int .i64 0, .int .i64 (now : Int)] w fun e w' => e = .returned (.tuple #[.bool (decide (A.va 0 n = (0 : Int))), .int .i64 0]) ∧ Aft w w' K sb d z (M + 1) (A.swap 0 n (0 : Int) (now : Int)) u := by
  obtain ⟨g, m0, m1, m2, T, N, m, F, own, pl, k1, h, r1, r2, r3, r4, r5⟩ := h
  have hnb := h.ok.n1 0 n hn
  have hnl := r5 0
  have HFD := hide2 (nodeOf_in h hn (by omega))
  have H := hide2 h
  have HR5 := hide2 r5
  have HN := hide2 hn
  have hlv : lvk A 0 n = true := lvk_of (by decide) hn
  have hct := h.pc.tak hlv
  have hvl := h.pc.vl 0 n hlv
  have hl1 := r5 1
  have hnw := h.ok.n1 1 now hnow
  have hcn : IntKind.u64.wrap (now : Int) = now := by rw [IntKind.wrap_u64]; omega
  have HNOW := hide2 hnow
  have HLV := hide2 hlv
  clear h r5 hlv hn hnow
  go_enter Tryd.func27, Tryd.ntmps27
  go_wp2_with fail
  refine HFD.out.mono ?_
  rintro e w1 ⟨rfl, hb1⟩
  have h1 := H.out.below hb1
  obtain ⟨W2, hW2⟩ : ∃ x, x = w1.alloc (.cells #[.int .i64 (pl 0 n : Int), .int .i64 (pl 1 n : Int)] 91) := ⟨_, rfl⟩
  have hb2 : Below w1.heap.size w1 W2 := by rw [hW2]; exact (Below.refl _ _).alloc (Nat.le_refl _) _
  have h2 := h1.below hb2
  have nb : W2.heap[w1.heap.size]? = some (.cells #[.int .i64 (pl 0 n : Int), .int .i64 (pl 1 n : Int)] 91 (0, 0)) := by rw [hW2]; exact heap_alloc_new w1 _
  have hs1 := hb1.size
  have hs2 : W2.heap.size = w1.heap.size + 1 := by rw [hW2]; simp
  have HB2 : Hid (Below w.heap.size w W2) := hide2 (hb1.trans ⟨hb2.os, hb2.tape, hb2.output, hb2.size, fun j hj => hb2.block j (by omega)⟩)
  have HHN := hide2 (hasV_in h2.st.lt h2.st.cells.2.2.2.2.1 h2.p1 (n := (now : Int)) (by omega) (by omega) (fOf_in HNOW.out))
  have H3 := hide2 h2
  have NB3 := hide2 nb
  clear HFD h1 hb1 hb2 h2 nb
  go_wp2_with fail
  rw [← hW2]
  clear hW2
  refine HHN.out.mono ?_
  rintro e w4 ⟨rfl, hb4⟩
  have h4 := H3.out.below hb4
  have nb4 := (hb4.block _ (by omega : w1.heap.size < W2.heap.size)).trans NB3.out
  have hs4 := hb4.size
  have HB4 : Hid (Below w.heap.size w w4) := hide2 (HB2.out.trans ⟨hb4.os, hb4.tape, hb4.output, hb4.size, fun j hj => hb4.block j (by omega)⟩)
  clear HHN hb4 H3 NB3 HB2
  have s1 := h4.st.cells.1
  have s2 : w4.cell? ⟨w1.heap.size, 0, none⟩ = some (.int .i64 (pl 0 n : Int)) := by rw [Go.Joins.cell_of_block nb4]; rfl
  have hkl := H.out.kl
  have hkk := H.out.kk
  have hdl := hkl d (hkk d (by simp))
  have hgl := hkl g (hkk g (by simp))
  have hsbl := hkl sb (hkk sb (by simp))
  have HST := hide2 (sCAS_any (w := w4.drew) (h4.aw.same rfl rfl) (pl 0 n) hct (0 : Int) (now : Int) (by omega) (by omega) (by omega))
  rw [hvl] at HST
  have hnd := h4.nsd
  have hng := h4.nsg
  have FRC : Hid (∀ w5, Fr (fun j => j = d ∨ j = g) w4.drew w5 → w5.cell? ⟨sb, 0, none⟩ = some (.pointer (some ⟨d, 0, none⟩)) ∧ w5.cell? ⟨w1.heap.size, 0, none⟩ = some (.int .i64 (pl 0 n : Int))) := hide2 (fun w5 h5 => ⟨(h5.cell (p := ⟨sb, 0, none⟩) (show sb < w4.heap.size by omega) (show ¬ (sb = d ∨ sb = g) by omega)).trans s1, (h5.cell (p := ⟨w1.heap.size, 0, none⟩) (show w1.heap.size < w4.heap.size by omega) (show ¬ (w1.heap.size = d ∨ w1.heap.size = g) by omega)).trans s2⟩)
  have H4 := hide2 h4
  have HVL := hide2 hvl
  clear h4 nb4 hkl hkk hvl
  go_wp2_with fail
  refine wp_region_noPanic ?_
  refine wp_region_held_drew (S := (fun u : World => u.cell? ⟨sb, 0, none⟩ = some (.pointer (some ⟨d, 0, none⟩)) ∧ u.cell? ⟨w1.heap.size, 0, none⟩ = some (.int .i64 (pl 0 n : Int)))) (by kernel_rfl) (⟨s1, s2⟩) (fun hHeld => ?_)
  refine wpAnyH_take (i := 0) (oi := { dst := some 39, op := _, type := _, pos := _, after := _, guard := _ }) (v := ?_) rfl (by kernel_rfl) (by kernel_rfl) (by kernel_rfl) (fun _ _ _ h => h) (Or.inl ⟨by rfl, ?_⟩) (by assumption) ?_
  rotate_left 1
  · intro u hSw; obtain ⟨s1, s2⟩ := hSw; go_simp; try with_reducible rfl
  try simp only [Act.put, List.setIfInBounds_toArray, List.set_cons_zero, List.set_cons_succ]
  refine wpAnyH_take (i := 1) (oi := { dst := some 40, op := _, type := _, pos := _, after := _, guard := _ }) (v := ?_) rfl (by kernel_rfl) (by kernel_rfl) (by kernel_rfl) (fun _ _ _ h => h) (Or.inl ⟨by rfl, ?_⟩) (by assumption) ?_
  rotate_left 1
  · intro u hSw; obtain ⟨s1, s2⟩ := hSw; go_simp; try with_reducible rfl
  try simp only [Act.put, List.setIfInBounds_toArray, List.set_cons_zero, List.set_cons_succ]
  refine wpAnyH_take (i := 2) (oi := { dst := some 41, op := _, type := _, pos := _, after := _, guard := _ }) (v := ?_) rfl (by kernel_rfl) (by kernel_rfl) (by kernel_rfl) (fun _ _ _ h => h) (Or.inl ⟨by rfl, ?_⟩) (by assumption) ?_
  rotate_left 1
  · intro u hSw; obtain ⟨s1, s2⟩ := hSw; go_simp; try with_reducible rfl
  try simp only [Act.put, List.setIfInBounds_toArray, List.set_cons_zero, List.set_cons_succ]
  refine wpAnyH_take (i := 3) (oi := { dst := some 42, op := _, type := _, pos := _, after := _, guard := _ }) (v := ?_) rfl (by kernel_rfl) (by kernel_rfl) (by kernel_rfl) (fun _ _ _ h => h) (Or.inl ⟨by rfl, ?_⟩) (by assumption) ?_
  rotate_left 1
  · intro u hSw; obtain ⟨s1, s2⟩ := hSw; go_simp; try with_reducible rfl
  try simp only [Act.put, List.setIfInBounds_toArray, List.set_cons_zero, List.set_cons_succ]
  refine wpAnyH_take (i := 4) (oi := { dst := some 43, op := _, type := _, pos := _, after := _, guard := _ }) (v := ?_) rfl (by kernel_rfl) (by kernel_rfl) (by kernel_rfl) (fun _ _ _ h => h) (Or.inl ⟨by rfl, ?_⟩) (by assumption) ?_
  rotate_left 1
  · intro u hSw; obtain ⟨s1, s2⟩ := hSw; go_simp; try with_reducible rfl
  try simp only [Act.put, List.setIfInBounds_toArray, List.set_cons_zero, List.set_cons_succ]
  refine wpAnyH_take (i := 5) (oi := { dst := some 44, op := _, type := _, pos := _, after := _, guard := _ }) (v := ?_) rfl (by kernel_rfl) (by kernel_rfl) (by kernel_rfl) (fun _ _ _ h => h) (Or.inl ⟨by rfl, ?_⟩) (by assumption) ?_
  rotate_left 1
  · intro u hSw; obtain ⟨s1, s2⟩ := hSw; go_simp; try with_reducible rfl
  try simp only [Act.put, List.setIfInBounds_toArray, List.set_cons_zero, List.set_cons_succ]
  refine wpAnyH_take (i := 6) (oi := { dst := some 45, op := _, type := _, pos := _, after := _, guard := _ }) (v := ?_) rfl (by kernel_rfl) (by kernel_rfl) (by kernel_rfl) (fun _ _ _ h => h) (Or.inl ⟨by rfl, ?_⟩) (by assumption) ?_
  rotate_left 1
  · intro u hSw; obtain ⟨s1, s2⟩ := hSw; go_simp; try with_reducible rfl
  try simp only [Act.put, List.setIfInBounds_toArray, List.set_cons_zero, List.set_cons_succ]
  refine wpAnyH_take (i := 7) (oi := { dst := some 46, op := _, type := _, pos := _, after := _, guard := _ }) (v := ?_) rfl (by kernel_rfl) (by kernel_rfl) (by kernel_rfl) (fun _ _ _ h => h) (Or.inl ⟨by rfl, ?_⟩) (by assumption) ?_
  rotate_left 1
  · intro u hSw; obtain ⟨s1, s2⟩ := hSw; go_simp; try with_reducible rfl
  try simp only [Act.put, List.setIfInBounds_toArray, List.set_cons_zero, List.set_cons_succ]
  refine wpAnyH_take (i := 8) (oi := { dst := some 47, op := _, type := _, pos := _, after := _, guard := _ }) (v := ?_) rfl (by kernel_rfl) (by kernel_rfl) (by kernel_rfl) (fun _ _ _ h => h) (Or.inl ⟨by rfl, ?_⟩) (by assumption) ?_
  rotate_left 1
  · intro u hSw; obtain ⟨s1, s2⟩ := hSw; go_simp; try with_reducible rfl
  try simp only [Act.put, List.setIfInBounds_toArray, List.set_cons_zero, List.set_cons_succ]
  refine wpAnyH_take (i := 9) (oi := { dst := some 48, op := _, type := _, pos := _, after := _, guard := _ }) (v := ?_) rfl (by kernel_rfl) (by kernel_rfl) (by kernel_rfl) (fun _ _ _ h => h) (Or.inl ⟨by rfl, ?_⟩) (by assumption) ?_
  rotate_left 1
  · intro u hSw; obtain ⟨s1, s2⟩ := hSw; go_simp; try with_reducible rfl
  try simp only [Act.put, List.setIfInBounds_toArray, List.set_cons_zero, List.set_cons_succ]
  refine wpAnyH_ready (rs := [10]) (by kernel_rfl) (by simp) ?_
  refine AllReadyH.cons (o := { dst := some 49, op := _, type := _, pos := _, after := _, guard := _ }) rfl (fun Kq hK => ?_) AllReadyH.nil
  obtain ⟨s1, s2⟩ := hHeld
  go_simp
  refine HST.out.mono ?_
  rintro e w5 ⟨rfl, hA5, hF5⟩
  go_wp2_with fail
  refine hK.out _ _ (FRC.out w5 hF5) (fun hHeld => ?_)
  clear hK Kq
  try simp only [Act.put, List.setIfInBounds_toArray, List.set_cons_zero, List.set_cons_succ]
  refine wpAnyH_take (i := 11) (oi := { dst := some 50, op := _, type := _, pos := _, after := _, guard := _ }) (v := ?_) rfl (by kernel_rfl) (by kernel_rfl) (by kernel_rfl) (fun _ _ _ h => h) (Or.inl ⟨by rfl, ?_⟩) (by assumption) ?_
  rotate_left 1
  · intro u hSw; obtain ⟨s1, s2⟩ := hSw; go_simp; try with_reducible rfl
  try simp only [Act.put, List.setIfInBounds_toArray, List.set_cons_zero, List.set_cons_succ]
  refine wpAnyH_take (i := 12) (oi := { dst := some 51, op := _, type := _, pos := _, after := _, guard := _ }) (v := ?_) rfl (by kernel_rfl) (by kernel_rfl) (by kernel_rfl) (fun _ _ _ h => h) (Or.inl ⟨by rfl, ?_⟩) (by assumption) ?_
  rotate_left 1
  · intro u hSw; obtain ⟨s1, s2⟩ := hSw; go_simp; try with_reducible rfl
  try simp only [Act.put, List.setIfInBounds_toArray, List.set_cons_zero, List.set_cons_succ]
  refine wpAnyH_take (i := 13) (oi := { dst := some 8, op := _, type := _, pos := _, after := _, guard := _ }) (v := ?_) rfl (by kernel_rfl) (by kernel_rfl) (by kernel_rfl) (fun _ _ _ h => h) (Or.inl ⟨by rfl, ?_⟩) (by assumption) ?_
  rotate_left 1
  · intro u hSw; obtain ⟨s1, s2⟩ := hSw; go_simp; try with_reducible rfl
  try simp only [Act.put, List.setIfInBounds_toArray, List.set_cons_zero, List.set_cons_succ]
  refine wpAnyH_take (i := 14) (oi := { dst := some 9, op := _, type := _, pos := _, after := _, guard := _ }) (v := ?_) rfl (by kernel_rfl) (by kernel_rfl) (by kernel_rfl) (fun _ _ _ h => h) (Or.inl ⟨by rfl, ?_⟩) (by assumption) ?_
  rotate_left 1
  · intro u hSw; obtain ⟨s1, s2⟩ := hSw; go_simp; try with_reducible rfl
  try simp only [Act.put, List.setIfInBounds_toArray, List.set_cons_zero, List.set_cons_succ]
  refine wpAnyH_done (by kernel_rfl) ?_ _
  refine NoPanic.normal ?_
  have HA5 := hide2 hA5
  have HF5 := hide2 hF5
  clear hA5 hF5 HST FRC s1 s2 hct
  go_wp2
  go_ret2
  refine ⟨rfl, ?_⟩
  have hF0 : Fr (fun j => j = d ∨ j = g) w4 w5 := (Fr.refl (fun j => j = d ∨ j = g) w4).drew.trans HF5.out (fun j e => .inl e)
  have hFw : Fr K w w5 := (Fr.below (F := K) HB4.out).trans hF0 (fun j e => .inl (H.out.kk j (by rcases e with e | e <;> simp [e])))
  have hA := HA5.out
  unfold Stt.swap
  by_cases q : A.va 0 n = (0 : Int)
  · rw [if_pos q] at hA ⊢
    have h5 := H4.out.arena (A' := A.put 0 n (now : Int)) hF0 hA (Stt.put_ok H4.out.ok (by omega) (fun _ => by omega) (fun e => by omega)) (H4.out.pc.put HLV.out (now : Int) (by rw [H4.out.aw.len]; exact Nat.le_refl _)) rfl rfl rfl
    exact ⟨K, ⟨g, m0, m1, m2, T, _, m + 1, F, own, pl, k1, h5, by rw [List.length_set]; exact r1, r2, by omega, by omega, HR5.out⟩, fun _ _ => Iff.rfl, hFw⟩
  · rw [if_neg q] at hA ⊢
    have h5 := H4.out.arena hF0 hA H4.out.ok H4.out.pc rfl rfl rfl
    exact ⟨K, ⟨g, m0, m1, m2, T, N, m + 1, F, own, pl, k1, h5, r1, r2, by omega, by omega, HR5.out⟩, fun _ _ => Iff.rfl, hFw⟩
set_option maxRecDepth 100000 in
set_option maxHeartbeats 4000000 in
theorem push_old (h : Rp w K sb d z M A u) {n : Nat} (hn : A.lv 0 n = true) {now : Nat} (hnow : A.lv 1 now = true) {old : Nat} (hold : A.lv 1 old = true) (hM : M < 3900000000000000000) :
    Calls Tryd.prog 27 #[.pointer (some ⟨sb, 0, none⟩), .int .i64 (n : Int), .int .i64 (old : Int), .int .i64 (now : Int)] w fun e w' => e = .returned (.tuple #[.bool (decide (A.va 0 n = (old : Int))), .int .i64 0]) ∧ Aft w w' K sb d z (M + 1) (A.swap 0 n (old : Int) (now : Int)) u := by
  obtain ⟨g, m0, m1, m2, T, N, m, F, own, pl, k1, h, r1, r2, r3, r4, r5⟩ := h
  have hnb := h.ok.n1 0 n hn
  have hnl := r5 0
  have HFD := hide2 (nodeOf_in h hn (by omega))
  have H := hide2 h
  have HR5 := hide2 r5
  have HN := hide2 hn
  have hlv : lvk A 0 n = true := lvk_of (by decide) hn
  have hct := h.pc.tak hlv
  have hvl := h.pc.vl 0 n hlv
  have hl1 := r5 1
  have hnw := h.ok.n1 1 now hnow
  have hcn : IntKind.u64.wrap (now : Int) = now := by rw [IntKind.wrap_u64]; omega
  have HNOW := hide2 hnow
  have hod := h.ok.n1 1 old hold
  have hco : IntKind.u64.wrap (old : Int) = old := by rw [IntKind.wrap_u64]; omega
  have d3 : ¬ ((old : Int) = 0) := by omega
  have d4 : decide ((old : Int) = 0) = false := by simp; omega
  have HLV := hide2 hlv
  clear h r5 hlv hn hnow
  go_enter Tryd.func27, Tryd.ntmps27
  go_wp2_with fail
  refine HFD.out.mono ?_
  rintro e w1 ⟨rfl, hb1⟩
  have h1 := H.out.below hb1
  obtain ⟨W2, hW2⟩ : ∃ x, x = w1.alloc (.cells #[.int .i64 (pl 0 n : Int), .int .i64 (pl 1 n : Int)] 91) := ⟨_, rfl⟩
  have hb2 : Below w1.heap.size w1 W2 := by rw [hW2]; exact (Below.refl _ _).alloc (Nat.le_refl _) _
  have h2 := h1.below hb2
  have nb : W2.heap[w1.heap.size]? = some (.cells #[.int .i64 (pl 0 n : Int), .int .i64 (pl 1 n : Int)] 91 (0, 0)) := by rw [hW2]; exact heap_alloc_new w1 _
  have hs1 := hb1.size
  have hs2 : W2.heap.size = w1.heap.size + 1 := by rw [hW2]; simp
  have HB2 : Hid (Below w.heap.size w W2) := hide2 (hb1.trans ⟨hb2.os, hb2.tape, hb2.output, hb2.size, fun j hj => hb2.block j (by omega)⟩)
  have HHO := hide2 (hasV_in h2.st.lt h2.st.cells.2.2.2.2.1 h2.p1 (n := (old : Int)) (by omega) (by omega) (fOf_in hold))
  have H2 := hide2 h2
  have NB := hide2 nb
  clear HFD h1 hb1 hb2 h2 nb hold
  go_wp2_with fail
  rw [← hW2]
  clear hW2
  refine HHO.out.mono ?_
  rintro e w3 ⟨rfl, hb3⟩
  have h3 := H2.out.below hb3
  have nb3 := (hb3.block _ (by omega : w1.heap.size < W2.heap.size)).trans NB.out
  have hs3 := hb3.size
  have HHN := hide2 (hasV_in h3.st.lt h3.st.cells.2.2.2.2.1 h3.p1 (n := (now : Int)) (by omega) (by omega) (fOf_in HNOW.out))
  have H3 := hide2 h3
  have NB3 := hide2 nb3
  have HB3 : Hid (Below w.heap.size w w3) := hide2 (HB2.out.trans ⟨hb3.os, hb3.tape, hb3.output, hb3.size, fun j hj => hb3.block j (by omega)⟩)
  clear HHO h3 hb3 nb3 H2 NB HB2
  go_wp2_with fail
  refine HHN.out.mono ?_
  rintro e w4 ⟨rfl, hb4⟩
  have h4 := H3.out.below hb4
  have nb4 := (hb4.block _ (by omega : w1.heap.size < w3.heap.size)).trans NB3.out
  have hs4 := hb4.size
  have HB4 : Hid (Below w.heap.size w w4) := hide2 (HB3.out.trans ⟨hb4.os, hb4.tape, hb4.output, hb4.size, fun j hj => hb4.block j (by omega)⟩)
  clear HHN hb4 H3 NB3 HB3
  have s1 := h4.st.cells.1
  have s2 : w4.cell? ⟨w1.heap.size, 0, none⟩ = some (.int .i64 (pl 0 n : Int)) := by rw [Go.Joins.cell_of_block nb4]; rfl
  have hkl := H.out.kl
  have hkk := H.out.kk
  have hdl := hkl d (hkk d (by simp))
  have hgl := hkl g (hkk g (by simp))
  have hsbl := hkl sb (hkk sb (by simp))
  have HST := hide2 (sCAS_any (w := w4.drew) (h4.aw.same rfl rfl) (pl 0 n) hct (old : Int) (now : Int) (by omega) (by omega) (by omega))
  rw [hvl] at HST
  have hnd := h4.nsd
  have hng := h4.nsg
  have FRC : Hid (∀ w5, Fr (fun j => j = d ∨ j = g) w4.drew w5 → w5.cell? ⟨sb, 0, none⟩ = some (.pointer (some ⟨d, 0, none⟩)) ∧ w5.cell? ⟨w1.heap.size, 0, none⟩ = some (.int .i64 (pl 0 n : Int))) := hide2 (fun w5 h5 => ⟨(h5.cell (p := ⟨sb, 0, none⟩) (show sb < w4.heap.size by omega) (show ¬ (sb = d ∨ sb = g) by omega)).trans s1, (h5.cell (p := ⟨w1.heap.size, 0, none⟩) (show w1.heap.size < w4.heap.size by omega) (show ¬ (w1.heap.size = d ∨ w1.heap.size = g) by omega)).trans s2⟩)
  have H4 := hide2 h4
  have HVL := hide2 hvl
  clear h4 nb4 hkl hkk hvl
  go_wp2_with fail
  refine wp_region_noPanic ?_
  refine wp_region_held_drew (S := (fun u : World => u.cell? ⟨sb, 0, none⟩ = some (.pointer (some ⟨d, 0, none⟩)) ∧ u.cell? ⟨w1.heap.size, 0, none⟩ = some (.int .i64 (pl 0 n : Int)))) (by kernel_rfl) (⟨s1, s2⟩) (fun hHeld => ?_)
  refine wpAnyH_take (i := 0) (oi := { dst := some 39, op := _, type := _, pos := _, after := _, guard := _ }) (v := ?_) rfl (by kernel_rfl) (by kernel_rfl) (by kernel_rfl) (fun _ _ _ h => h) (Or.inl ⟨by rfl, ?_⟩) (by assumption) ?_
  rotate_left 1
  · intro u hSw; obtain ⟨s1, s2⟩ := hSw; go_simp; try with_reducible rfl
  try simp only [Act.put, List.setIfInBounds_toArray, List.set_cons_zero, List.set_cons_succ]
  refine wpAnyH_take (i := 1) (oi := { dst := some 40, op := _, type := _, pos := _, after := _, guard := _ }) (v := ?_) rfl (by kernel_rfl) (by kernel_rfl) (by kernel_rfl) (fun _ _ _ h => h) (Or.inl ⟨by rfl, ?_⟩) (by assumption) ?_
  rotate_left 1
  · intro u hSw; obtain ⟨s1, s2⟩ := hSw; go_simp; try with_reducible rfl
  try simp only [Act.put, List.setIfInBounds_toArray, List.set_cons_zero, List.set_cons_succ]
  refine wpAnyH_take (i := 2) (oi := { dst := some 41, op := _, type := _, pos := _, after := _, guard := _ }) (v := ?_) rfl (by kernel_rfl) (by kernel_rfl) (by kernel_rfl) (fun _ _ _ h => h) (Or.inl ⟨by rfl, ?_⟩) (by assumption) ?_
  rotate_left 1
  · intro u hSw; obtain ⟨s1, s2⟩ := hSw; go_simp; try with_reducible rfl
  try simp only [Act.put, List.setIfInBounds_toArray, List.set_cons_zero, List.set_cons_succ]
  refine wpAnyH_take (i := 3) (oi := { dst := some 42, op := _, type := _, pos := _, after := _, guard := _ }) (v := ?_) rfl (by kernel_rfl) (by kernel_rfl) (by kernel_rfl) (fun _ _ _ h => h) (Or.inl ⟨by rfl, ?_⟩) (by assumption) ?_
  rotate_left 1
  · intro u hSw; obtain ⟨s1, s2⟩ := hSw; go_simp; try with_reducible rfl
  try simp only [Act.put, List.setIfInBounds_toArray, List.set_cons_zero, List.set_cons_succ]
  refine wpAnyH_take (i := 4) (oi := { dst := some 43, op := _, type := _, pos := _, after := _, guard := _ }) (v := ?_) rfl (by kernel_rfl) (by kernel_rfl) (by kernel_rfl) (fun _ _ _ h => h) (Or.inl ⟨by rfl, ?_⟩) (by assumption) ?_
  rotate_left 1
  · intro u hSw; obtain ⟨s1, s2⟩ := hSw; go_simp; try with_reducible rfl
  try simp only [Act.put, List.setIfInBounds_toArray, List.set_cons_zero, List.set_cons_succ]
  refine wpAnyH_take (i := 5) (oi := { dst := some 44, op := _, type := _, pos := _, after := _, guard := _ }) (v := ?_) rfl (by kernel_rfl) (by kernel_rfl) (by kernel_rfl) (fun _ _ _ h => h) (Or.inl ⟨by rfl, ?_⟩) (by assumption) ?_
  rotate_left 1
  · intro u hSw; obtain ⟨s1, s2⟩ := hSw; go_simp; try with_reducible rfl
  try simp only [Act.put, List.setIfInBounds_toArray, List.set_cons_zero, List.set_cons_succ]
  refine wpAnyH_take (i := 6) (oi := { dst := some 45, op := _, type := _, pos := _, after := _, guard := _ }) (v := ?_) rfl (by kernel_rfl) (by kernel_rfl) (by kernel_rfl) (fun _ _ _ h => h) (Or.inl ⟨by rfl, ?_⟩) (by assumption) ?_
  rotate_left 1
  · intro u hSw; obtain ⟨s1, s2⟩ := hSw; go_simp; try with_reducible rfl
  try simp only [Act.put, List.setIfInBounds_toArray, List.set_cons_zero, List.set_cons_succ]
  refine wpAnyH_take (i := 7) (oi := { dst := some 46, op := _, type := _, pos := _, after := _, guard := _ }) (v := ?_) rfl (by kernel_rfl) (by kernel_rfl) (by kernel_rfl) (fun _ _ _ h => h) (Or.inl ⟨by rfl, ?_⟩) (by assumption) ?_
  rotate_left 1
  · intro u hSw; obtain ⟨s1, s2⟩ := hSw; go_simp; try with_reducible rfl
  try simp only [Act.put, List.setIfInBounds_toArray, List.set_cons_zero, List.set_cons_succ]
  refine wpAnyH_take (i := 8) (oi := { dst := some 47, op := _, type := _, pos := _, after := _, guard := _ }) (v := ?_) rfl (by kernel_rfl) (by kernel_rfl) (by kernel_rfl) (fun _ _ _ h => h) (Or.inl ⟨by rfl, ?_⟩) (by assumption) ?_
  rotate_left 1
  · intro u hSw; obtain ⟨s1, s2⟩ := hSw; go_simp; try with_reducible rfl
  try simp only [Act.put, List.setIfInBounds_toArray, List.set_cons_zero, List.set_cons_succ]
  refine wpAnyH_take (i := 9) (oi := { dst := some 48, op := _, type := _, pos := _, after := _, guard := _ }) (v := ?_) rfl (by kernel_rfl) (by kernel_rfl) (by kernel_rfl) (fun _ _ _ h => h) (Or.inl ⟨by rfl, ?_⟩) (by assumption) ?_
  rotate_left 1
  · intro u hSw; obtain ⟨s1, s2⟩ := hSw; go_simp; try with_reducible rfl
  try simp only [Act.put, List.setIfInBounds_toArray, List.set_cons_zero, List.set_cons_succ]
  refine wpAnyH_ready (rs := [10]) (by kernel_rfl) (by simp) ?_
  refine AllReadyH.cons (o := { dst := some 49, op := _, type := _, pos := _, after := _, guard := _ }) rfl (fun Kq hK => ?_) AllReadyH.nil
  obtain ⟨s1, s2⟩ := hHeld
  go_simp
  refine HST.out.mono ?_
  rintro e w5 ⟨rfl, hA5, hF5⟩
  go_wp2_with fail
  refine hK.out _ _ (FRC.out w5 hF5) (fun hHeld => ?_)
  clear hK Kq
  try simp only [Act.put, List.setIfInBounds_toArray, List.set_cons_zero, List.set_cons_succ]
  refine wpAnyH_take (i := 11) (oi := { dst := some 50, op := _, type := _, pos := _, after := _, guard := _ }) (v := ?_) rfl (by kernel_rfl) (by kernel_rfl) (by kernel_rfl) (fun _ _ _ h => h) (Or.inl ⟨by rfl, ?_⟩) (by assumption) ?_
  rotate_left 1
  · intro u hSw; obtain ⟨s1, s2⟩ := hSw; go_simp; try with_reducible rfl
  try simp only [Act.put, List.setIfInBounds_toArray, List.set_cons_zero, List.set_cons_succ]
  refine wpAnyH_take (i := 12) (oi := { dst := some 51, op := _, type := _, pos := _, after := _, guard := _ }) (v := ?_) rfl (by kernel_rfl) (by kernel_rfl) (by kernel_rfl) (fun _ _ _ h => h) (Or.inl ⟨by rfl, ?_⟩) (by assumption) ?_
  rotate_left 1
  · intro u hSw; obtain ⟨s1, s2⟩ := hSw; go_simp; try with_reducible rfl
  try simp only [Act.put, List.setIfInBounds_toArray, List.set_cons_zero, List.set_cons_succ]
  refine wpAnyH_take (i := 13) (oi := { dst := some 8, op := _, type := _, pos := _, after := _, guard := _ }) (v := ?_) rfl (by kernel_rfl) (by kernel_rfl) (by kernel_rfl) (fun _ _ _ h => h) (Or.inl ⟨by rfl, ?_⟩) (by assumption) ?_
  rotate_left 1
  · intro u hSw; obtain ⟨s1, s2⟩ := hSw; go_simp; try with_reducible rfl
  try simp only [Act.put, List.setIfInBounds_toArray, List.set_cons_zero, List.set_cons_succ]
  refine wpAnyH_take (i := 14) (oi := { dst := some 9, op := _, type := _, pos := _, after := _, guard := _ }) (v := ?_) rfl (by kernel_rfl) (by kernel_rfl) (by kernel_rfl) (fun _ _ _ h => h) (Or.inl ⟨by rfl, ?_⟩) (by assumption) ?_
  rotate_left 1
  · intro u hSw; obtain ⟨s1, s2⟩ := hSw; go_simp; try with_reducible rfl
  try simp only [Act.put, List.setIfInBounds_toArray, List.set_cons_zero, List.set_cons_succ]
  refine wpAnyH_done (by kernel_rfl) ?_ _
  refine NoPanic.normal ?_
  have HA5 := hide2 hA5
  have HF5 := hide2 hF5
  clear hA5 hF5 HST FRC s1 s2 hct
  go_wp2
  go_ret2
  refine ⟨rfl, ?_⟩
  have hF0 : Fr (fun j => j = d ∨ j = g) w4 w5 := (Fr.refl (fun j => j = d ∨ j = g) w4).drew.trans HF5.out (fun j e => .inl e)
  have hFw : Fr K w w5 := (Fr.below (F := K) HB4.out).trans hF0 (fun j e => .inl (H.out.kk j (by rcases e with e | e <;> simp [e])))
  have hA := HA5.out
  unfold Stt.swap
  by_cases q : A.va 0 n = (old : Int)
  · rw [if_pos q] at hA ⊢
    have h5 := H4.out.arena (A' := A.put 0 n (now : Int)) hF0 hA (Stt.put_ok H4.out.ok (by omega) (fun _ => by omega) (fun e => by omega)) (H4.out.pc.put HLV.out (now : Int) (by rw [H4.out.aw.len]; exact Nat.le_refl _)) rfl rfl rfl
    exact ⟨K, ⟨g, m0, m1, m2, T, _, m + 1, F, own, pl, k1, h5, by rw [List.length_set]; exact r1, r2, by omega, by omega, HR5.out⟩, fun _ _ => Iff.rfl, hFw⟩
  · rw [if_neg q] at hA ⊢
    have h5 := H4.out.arena hF0 hA H4.out.ok H4.out.pc rfl rfl rfl
    exact ⟨K, ⟨g, m0, m1, m2, T, N, m + 1, F, own, pl, k1, h5, r1, r2, by omega, by omega, HR5.out⟩, fun _ _ => Iff.rfl, hFw⟩
end
end Go.Proofs.YtfhcphgjaobnoaaDoor
