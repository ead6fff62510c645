/-
  The store: New; what loads and swaps a cell. (Printed by gen_ta6.py.)
-/
import Derived.Test.YtfhcphgjaobnoaaDoorTa5
import Derived.Test.YtfhcphgjaobnoaaDoorC8
set_option linter.unusedVariables false
set_option linter.unusedSimpArgs false
namespace Go.Proofs.YtfhcphgjaobnoaaDoor
open Go.RowKit Go.Maps

/-- A store in memory: z cells, of which u are taken; steps and numbers below M. -/
def Rp (w : World) (K : Nat → Prop) (sb d z M : Nat) (A : Stt) (u : Nat) : Prop :=
  ∃ g m0 m1 m2 T N m F own pl k1, Sm w K sb d g m0 m1 m2 T N m F own pl k1 A ∧ N.length = z ∧ T.count true = u ∧ 0 ≤ m ∧ m ≤ (M : Int) ∧ ∀ c, A.la c ≤ 1000000
/-- What a call leaves. -/
def Aft (w w' : World) (K : Nat → Prop) (sb d z M : Nat) (A : Stt) (u : Nat) : Prop := ∃ K', Rp w' K' sb d z M A u ∧ (∀ j, j < w.heap.size → (K' j ↔ K j)) ∧ Fr K w w'

section
variable {w w' : World} {K : Nat → Prop} {sb d z M u : Nat} {A : Stt}
theorem Rp.keep {G : Nat → Prop} (h : Rp w K sb d z M A u) (hF : Fr G w w') (hG : ∀ j, K j → ¬ G j) (h0 : ¬ G 0) : Rp w' K sb d z M A u := by
  obtain ⟨g, m0, m1, m2, T, N, m, F, own, pl, k1, h, r⟩ := h
  exact ⟨g, m0, m1, m2, T, N, m, F, own, pl, k1, h.keep hF hG h0, r⟩
theorem Rp.below (h : Rp w K sb d z M A u) (hb : Below w.heap.size w w') : Rp w' K sb d z M A u := h.keep (G := fun _ => False) (Fr.below hb) (fun _ _ e => e) (fun e => e)
theorem Rp.up {M' : Nat} (h : Rp w K sb d z M A u) (hM : M ≤ M') : Rp w K sb d z M' A u := by
  obtain ⟨g, m0, m1, m2, T, N, m, F, own, pl, k1, h, r1, r2, r3, r4, r5⟩ := h
  exact ⟨g, m0, m1, m2, T, N, m, F, own, pl, k1, h, r1, r2, r3, by omega, r5⟩
theorem Rp.kl (h : Rp w K sb d z M A u) : ∀ j, K j → j < w.heap.size := by
  obtain ⟨g, m0, m1, m2, T, N, m, F, own, pl, k1, h, r⟩ := h
  exact h.kl
theorem Rp.k0 (h : Rp w K sb d z M A u) : ¬ K 0 := by
  obtain ⟨g, m0, m1, m2, T, N, m, F, own, pl, k1, h, r⟩ := h
  exact h.k0
theorem Rp.ok (h : Rp w K sb d z M A u) : A.ok := by
  obtain ⟨g, m0, m1, m2, T, N, m, F, own, pl, k1, h, r⟩ := h
  exact h.ok
theorem Rp.la (h : Rp w K sb d z M A u) (c : Nat) : A.la c ≤ 1000000 := by
  obtain ⟨g, m0, m1, m2, T, N, m, F, own, pl, k1, h, r1, r2, r3, r4, r5⟩ := h
  exact r5 c
theorem Rp.tab (h : Rp w K sb d z M A u) : Tab w := by
  obtain ⟨g, m0, m1, m2, T, N, m, F, own, pl, k1, h, r⟩ := h
  exact h.tab
theorem Aft.refl (h : Rp w K sb d z M A u) (hb : Below w.heap.size w w') : Aft w w' K sb d z M A u := ⟨K, h.below hb, fun _ _ => Iff.rfl, Fr.below hb⟩
theorem Stt.put_ok {k n : Nat} {x : Int} (h : A.ok) (hx : 0 ≤ x ∧ x ≤ 18446744073709551615) (h0 : k = 0 → x ≤ A.la 1) (h4 : k = 4 → x < n) : (A.put k n x).ok := by
  refine ⟨h.n1, h.nd, fun k' n' hk hl => ?_, fun n' hl => ?_, fun n' hl => ?_, h.ts⟩
  · show 0 ≤ up2 A.va k n x k' n' ∧ up2 A.va k n x k' n' ≤ _
    by_cases e : k' = k ∧ n' = n
    · rw [e.1, e.2, up2_same]; exact hx
    · rw [up2_other _ _ e]; exact h.bd k' n' hk hl
  · show up2 A.va k n x 0 n' ≤ _
    by_cases e : 0 = k ∧ n' = n
    · rw [← e.1, ← e.2, up2_same]; exact h0 e.1.symm
    · rw [up2_other _ _ e]; exact h.hd n' hl
  · show up2 A.va k n x 4 n' < _
    by_cases e : 4 = k ∧ n' = n
    · rw [← e.1, ← e.2, up2_same, e.2]; exact h4 e.1.symm
    · rw [up2_other _ _ e]; exact h.nx n' hl

set_option maxRecDepth 100000 in
set_option maxHeartbeats 4000000 in
theorem snew_any {g : Nat} {F : List Nat} (hA : Aw w d g (List.replicate z false) (List.replicate z 0) 0 F) (hT : Tab w) (hd0 : d ≠ 0) (hg0 : g ≠ 0) :
    Calls Tryd.prog 29 #[.pointer (some ⟨d, 0, none⟩)] w fun e w' => e = .returned (.tuple #[.pointer (some ⟨w.heap.size, 0, none⟩), .int .i64 0]) ∧ Rp w' (fun j => j = w.heap.size ∨ j = d ∨ j = g) w.heap.size d z 0 Stt.zero 0 ∧ Below w.heap.size w w' := by
  have HA := hide2 hA
  have HT := hide2 hT
  have hdl := hA.ab.lt
  have hgl := hA.nb.lt
  clear hA hT
  go_enter Tryd.func29, Tryd.ntmps29
  go_wp2
  go_ret2
  refine ⟨rfl, ?_, (Below.refl _ _).alloc (Nat.le_refl _) _⟩
  have hF : Fr (fun _ => False) w (w.alloc (.cells #[.pointer (some ⟨d, 0, none⟩), .int .i64 0, .map none, .int .i64 0, .map none, .int .i64 0, .map none] 104)) := (Fr.refl _ w).alloc _
  refine ⟨g, none, none, none, List.replicate z false, List.replicate z 0, 0, F, fun _ => none, fun _ _ => 0, 0, ⟨HA.out.fr hF id id, heap_alloc_new w _, ⟨0, .inl ⟨rfl, fun n => fOf_out (.inr rfl), rfl⟩⟩, .inl ⟨rfl, fun n => fOf_out (.inr rfl), rfl⟩, ⟨0, .inl ⟨rfl, fun n => fOf_out (.inr rfl), rfl⟩⟩, Stt.zero_ok, ⟨fun k n h => ?_, fun c k n h => (nomatch h), fun c => ?_, fun k n h => ?_⟩, fun l _ hl => ?_, HT.out.fr hF id, ?_, ?_, ?_, fun j e => (nomatch e), fun j e => (nomatch e)⟩, by simp, by simp [List.count_replicate], Int.le_refl _, Int.le_refl _, fun _ => Nat.zero_le _⟩
  · simp [lvk, Stt.zero] at h
  · simp only [List.getD, List.getElem?_replicate]
    split <;> rfl
  · simp [lvk, Stt.zero] at h
  · cases l with
    | nil => exact Nat.le_refl _
    | cons a l => have := hl a (by simp); simp [Stt.zero] at this
  · have := HT.out.1
    rintro (e | e | e)
    · omega
    · exact hd0 e.symm
    · exact hg0 e.symm
  · rintro j (e | e | e | e | e | e)
    · exact .inl e
    · exact .inr (.inl e)
    · exact .inr (.inr e)
    · cases e
    · cases e
    · cases e
  · rintro j (e | e | e)
    · simp; omega
    · have := hF.size; omega
    · have := hF.size; omega
set_option maxRecDepth 100000 in
set_option maxHeartbeats 4000000 in
theorem head_any (h : Rp w K sb d z M A u) {n : Nat} (hn : A.lv 0 n = true) (hM : M < 4000000000000000000) :
    Calls Tryd.prog 25 #[.pointer (some ⟨sb, 0, none⟩), .int .i64 (n : Int)] w fun e w' => e = .returned (.tuple #[.int .i64 (A.va 0 n), .int .i64 0]) ∧ Aft w w' K sb d z (M + 1) A u := by
  obtain ⟨g, m0, m1, m2, T, N, m, F, own, pl, k1, h, r1, r2, r3, r4, r5⟩ := h
  have hnb := h.ok.n1 0 n hn
  have hnl := r5 0
  have HFD := hide2 (nodeOf_in h hn (by omega))
  have H := hide2 h
  have HR5 := hide2 r5
  have hlv : lvk A 0 n = true := lvk_of (by decide) hn
  have hct := h.pc.tak hlv
  have hvl := h.pc.vl 0 n hlv
  have hbd := h.ok.bd 0 n (by decide) hn
  have hup : A.va 0 n < 4611686018427387904 := by
    have := h.ok.hd n hn
    have := r5 1
    omega
  have hcv : IntKind.i64.wrap (A.va 0 n) = A.va 0 n := by rw [IntKind.wrap_i64]; omega
  clear h r5 hlv
  go_enter Tryd.func25, Tryd.ntmps25
  go_wp2_with fail
  refine HFD.out.mono ?_
  rintro e w1 ⟨rfl, hb1⟩
  have h1 := H.out.below hb1
  obtain ⟨W2, hW2⟩ : ∃ x, x = w1.alloc (.cells #[.int .i64 (pl 0 n : Int), .int .i64 (pl 1 n : Int)] 91) := ⟨_, rfl⟩
  have hb2 : Below w1.heap.size w1 W2 := by rw [hW2]; exact (Below.refl _ _).alloc (Nat.le_refl _) _
  have h2 := h1.below hb2
  have nb : W2.heap[w1.heap.size]? = some (.cells #[.int .i64 (pl 0 n : Int), .int .i64 (pl 1 n : Int)] 91 (0, 0)) := by rw [hW2]; exact heap_alloc_new w1 _
  have s1 := h2.st.cells.1
  have s2 : W2.cell? ⟨w1.heap.size, 0, none⟩ = some (.int .i64 (pl 0 n : Int)) := by rw [Go.Joins.cell_of_block nb]; rfl
  have hkl := H.out.kl
  have hkk := H.out.kk
  have hs1 := hb1.size
  have hs2 : W2.heap.size = w1.heap.size + 1 := by rw [hW2]; simp
  have hdl := hkl d (hkk d (by simp))
  have hgl := hkl g (hkk g (by simp))
  have hsbl := hkl sb (hkk sb (by simp))
  have HST := hide2 (sLoad_any (w := W2.drew) (h2.aw.same rfl rfl) (pl 0 n) hct (by omega))
  rw [hvl] at HST
  have hnd := h2.nsd
  have hng := h2.nsg
  have FRC : Hid (∀ w5, Fr (fun j => j = d ∨ j = g) W2.drew w5 → w5.cell? ⟨sb, 0, none⟩ = some (.pointer (some ⟨d, 0, none⟩)) ∧ w5.cell? ⟨w1.heap.size, 0, none⟩ = some (.int .i64 (pl 0 n : Int))) := hide2 (fun w5 h5 => ⟨(h5.cell (p := ⟨sb, 0, none⟩) (show sb < W2.heap.size by omega) (show ¬ (sb = d ∨ sb = g) by omega)).trans s1, (h5.cell (p := ⟨w1.heap.size, 0, none⟩) (show w1.heap.size < W2.heap.size by omega) (show ¬ (w1.heap.size = d ∨ w1.heap.size = g) by omega)).trans s2⟩)
  have H2 := hide2 h2
  have HB : Hid (Below w.heap.size w W2) := hide2 (hb1.trans ⟨hb2.os, hb2.tape, hb2.output, hb2.size, fun j hj => hb2.block j (by omega)⟩)
  clear HFD h1 hb1 hb2 h2 nb hkl hkk hvl
  go_wp2_with fail
  rw [← hW2]
  clear hW2
  refine wp_region_noPanic ?_
  refine wp_region_held_drew (S := (fun u : World => u.cell? ⟨sb, 0, none⟩ = some (.pointer (some ⟨d, 0, none⟩)) ∧ u.cell? ⟨w1.heap.size, 0, none⟩ = some (.int .i64 (pl 0 n : Int)))) (by kernel_rfl) (⟨s1, s2⟩) (fun hHeld => ?_)
  refine wpAnyH_take (i := 0) (oi := { dst := some 19, op := _, type := _, pos := _, after := _, guard := _ }) (v := ?_) rfl (by kernel_rfl) (by kernel_rfl) (by kernel_rfl) (fun _ _ _ h => h) (Or.inl ⟨by rfl, ?_⟩) (by assumption) ?_
  rotate_left 1
  · intro u hSw; obtain ⟨s1, s2⟩ := hSw; go_simp; try with_reducible rfl
  try simp only [Act.put, List.setIfInBounds_toArray, List.set_cons_zero, List.set_cons_succ]
  refine wpAnyH_take (i := 1) (oi := { dst := some 20, op := _, type := _, pos := _, after := _, guard := _ }) (v := ?_) rfl (by kernel_rfl) (by kernel_rfl) (by kernel_rfl) (fun _ _ _ h => h) (Or.inl ⟨by rfl, ?_⟩) (by assumption) ?_
  rotate_left 1
  · intro u hSw; obtain ⟨s1, s2⟩ := hSw; go_simp; try with_reducible rfl
  try simp only [Act.put, List.setIfInBounds_toArray, List.set_cons_zero, List.set_cons_succ]
  refine wpAnyH_take (i := 2) (oi := { dst := some 21, op := _, type := _, pos := _, after := _, guard := _ }) (v := ?_) rfl (by kernel_rfl) (by kernel_rfl) (by kernel_rfl) (fun _ _ _ h => h) (Or.inl ⟨by rfl, ?_⟩) (by assumption) ?_
  rotate_left 1
  · intro u hSw; obtain ⟨s1, s2⟩ := hSw; go_simp; try with_reducible rfl
  try simp only [Act.put, List.setIfInBounds_toArray, List.set_cons_zero, List.set_cons_succ]
  refine wpAnyH_take (i := 3) (oi := { dst := some 22, op := _, type := _, pos := _, after := _, guard := _ }) (v := ?_) rfl (by kernel_rfl) (by kernel_rfl) (by kernel_rfl) (fun _ _ _ h => h) (Or.inl ⟨by rfl, ?_⟩) (by assumption) ?_
  rotate_left 1
  · intro u hSw; obtain ⟨s1, s2⟩ := hSw; go_simp; try with_reducible rfl
  try simp only [Act.put, List.setIfInBounds_toArray, List.set_cons_zero, List.set_cons_succ]
  refine wpAnyH_take (i := 4) (oi := { dst := some 23, op := _, type := _, pos := _, after := _, guard := _ }) (v := ?_) rfl (by kernel_rfl) (by kernel_rfl) (by kernel_rfl) (fun _ _ _ h => h) (Or.inl ⟨by rfl, ?_⟩) (by assumption) ?_
  rotate_left 1
  · intro u hSw; obtain ⟨s1, s2⟩ := hSw; go_simp; try with_reducible rfl
  try simp only [Act.put, List.setIfInBounds_toArray, List.set_cons_zero, List.set_cons_succ]
  refine wpAnyH_take (i := 5) (oi := { dst := some 24, op := _, type := _, pos := _, after := _, guard := _ }) (v := ?_) rfl (by kernel_rfl) (by kernel_rfl) (by kernel_rfl) (fun _ _ _ h => h) (Or.inl ⟨by rfl, ?_⟩) (by assumption) ?_
  rotate_left 1
  · intro u hSw; obtain ⟨s1, s2⟩ := hSw; go_simp; try with_reducible rfl
  try simp only [Act.put, List.setIfInBounds_toArray, List.set_cons_zero, List.set_cons_succ]
  refine wpAnyH_ready (rs := [6]) (by kernel_rfl) (by simp) ?_
  refine AllReadyH.cons (o := { dst := some 25, op := _, type := _, pos := _, after := _, guard := _ }) rfl (fun Kq hK => ?_) AllReadyH.nil
  obtain ⟨s1, s2⟩ := hHeld
  go_simp
  refine HST.out.mono ?_
  rintro e w5 ⟨rfl, hA5, hF5⟩
  go_wp2_with fail
  refine hK.out _ _ (FRC.out w5 hF5) (fun hHeld => ?_)
  clear hK Kq
  try simp only [Act.put, List.setIfInBounds_toArray, List.set_cons_zero, List.set_cons_succ]
  refine wpAnyH_take (i := 7) (oi := { dst := some 18, op := _, type := _, pos := _, after := _, guard := _ }) (v := ?_) rfl (by kernel_rfl) (by kernel_rfl) (by kernel_rfl) (fun _ _ _ h => h) (Or.inl ⟨by rfl, ?_⟩) (by assumption) ?_
  rotate_left 1
  · intro u hSw; obtain ⟨s1, s2⟩ := hSw; go_simp; try with_reducible rfl
  try simp only [Act.put, List.setIfInBounds_toArray, List.set_cons_zero, List.set_cons_succ]
  refine wpAnyH_take (i := 8) (oi := { dst := some 26, op := _, type := _, pos := _, after := _, guard := _ }) (v := ?_) rfl (by kernel_rfl) (by kernel_rfl) (by kernel_rfl) (fun _ _ _ h => h) (Or.inl ⟨by rfl, ?_⟩) (by assumption) ?_
  rotate_left 1
  · intro u hSw; obtain ⟨s1, s2⟩ := hSw; go_simp; try with_reducible rfl
  try simp only [Act.put, List.setIfInBounds_toArray, List.set_cons_zero, List.set_cons_succ]
  refine wpAnyH_take (i := 9) (oi := { dst := some 27, op := _, type := _, pos := _, after := _, guard := _ }) (v := ?_) rfl (by kernel_rfl) (by kernel_rfl) (by kernel_rfl) (fun _ _ _ h => h) (Or.inl ⟨by rfl, ?_⟩) (by assumption) ?_
  rotate_left 1
  · intro u hSw; obtain ⟨s1, s2⟩ := hSw; go_simp; try with_reducible rfl
  try simp only [Act.put, List.setIfInBounds_toArray, List.set_cons_zero, List.set_cons_succ]
  refine wpAnyH_take (i := 10) (oi := { dst := some 8, op := _, type := _, pos := _, after := _, guard := _ }) (v := ?_) rfl (by kernel_rfl) (by kernel_rfl) (by kernel_rfl) (fun _ _ _ h => h) (Or.inl ⟨by rfl, ?_⟩) (by assumption) ?_
  rotate_left 1
  · intro u hSw; obtain ⟨s1, s2⟩ := hSw; go_simp; try with_reducible rfl
  try simp only [Act.put, List.setIfInBounds_toArray, List.set_cons_zero, List.set_cons_succ]
  refine wpAnyH_take (i := 11) (oi := { dst := some 7, op := _, type := _, pos := _, after := _, guard := _ }) (v := ?_) rfl (by kernel_rfl) (by kernel_rfl) (by kernel_rfl) (fun _ _ _ h => h) (Or.inl ⟨by rfl, ?_⟩) (by assumption) ?_
  rotate_left 1
  · intro u hSw; obtain ⟨s1, s2⟩ := hSw; go_simp; try with_reducible rfl
  try simp only [Act.put, List.setIfInBounds_toArray, List.set_cons_zero, List.set_cons_succ]
  refine wpAnyH_done (by kernel_rfl) ?_ _
  refine NoPanic.normal ?_
  have HA5 := hide2 hA5
  have HF5 := hide2 hF5
  clear hA5 hF5 HST FRC s1 s2 hct
  go_wp2
  go_ret2
  have hF0 : Fr (fun j => j = d ∨ j = g) W2 w5 := (Fr.refl (fun j => j = d ∨ j = g) W2).drew.trans HF5.out (fun j e => .inl e)
  have h5 := H2.out.arena hF0 HA5.out H2.out.ok H2.out.pc rfl rfl rfl
  refine ⟨rfl, K, ⟨g, m0, m1, m2, T, N, m + 1, F, own, pl, k1, h5, r1, r2, by omega, by omega, HR5.out⟩, fun _ _ => Iff.rfl, (Fr.below (F := K) HB.out).trans hF0 (fun j e => .inl (H.out.kk j (by rcases e with e | e <;> simp [e])))⟩
set_option maxRecDepth 100000 in
set_option maxHeartbeats 4000000 in
theorem next_any (h : Rp w K sb d z M A u) {n : Nat} (hn : A.lv 1 n = true) (hM : M < 4000000000000000000) :
    Calls Tryd.prog 72 #[.pointer (some ⟨sb, 0, none⟩), .int .i64 (n : Int)] w fun e w' => e = .returned (.tuple #[.int .i64 (A.va 4 n), .int .i64 0]) ∧ Aft w w' K sb d z (M + 1) A u := by
  obtain ⟨g, m0, m1, m2, T, N, m, F, own, pl, k1, h, r1, r2, r3, r4, r5⟩ := h
  have hnb := h.ok.n1 1 n hn
  have hnl := r5 1
  have HFD := hide2 (versionOf_in h hn (by omega))
  have H := hide2 h
  have HR5 := hide2 r5
  have hlv : lvk A 4 n = true := lvk_of (by decide) hn
  have hct := h.pc.tak hlv
  have hvl := h.pc.vl 4 n hlv
  have hbd := h.ok.bd 4 n (by decide) hn
  have hup : A.va 4 n < 4611686018427387904 := by
    have := h.ok.nx n hn
    have := r5 1
    omega
  have hcv : IntKind.i64.wrap (A.va 4 n) = A.va 4 n := by rw [IntKind.wrap_i64]; omega
  clear h r5 hlv
  go_enter Tryd.func72, Tryd.ntmps72
  go_wp2_with fail
  refine HFD.out.mono ?_
  rintro e w1 ⟨rfl, hb1⟩
  have h1 := H.out.below hb1
  obtain ⟨W2, hW2⟩ : ∃ x, x = w1.alloc (.cells #[.string (A.tx n), .int .i64 (pl 2 n : Int), .int .i64 (pl 3 n : Int), .int .i64 (pl 4 n : Int)] 106) := ⟨_, rfl⟩
  have hb2 : Below w1.heap.size w1 W2 := by rw [hW2]; exact (Below.refl _ _).alloc (Nat.le_refl _) _
  have h2 := h1.below hb2
  have nb : W2.heap[w1.heap.size]? = some (.cells #[.string (A.tx n), .int .i64 (pl 2 n : Int), .int .i64 (pl 3 n : Int), .int .i64 (pl 4 n : Int)] 106 (0, 0)) := by rw [hW2]; exact heap_alloc_new w1 _
  have s1 := h2.st.cells.1
  have s2 : W2.cell? ⟨w1.heap.size, 3, none⟩ = some (.int .i64 (pl 4 n : Int)) := by rw [Go.Joins.cell_of_block nb]; rfl
  have hkl := H.out.kl
  have hkk := H.out.kk
  have hs1 := hb1.size
  have hs2 : W2.heap.size = w1.heap.size + 1 := by rw [hW2]; simp
  have hdl := hkl d (hkk d (by simp))
  have hgl := hkl g (hkk g (by simp))
  have hsbl := hkl sb (hkk sb (by simp))
  have HST := hide2 (sLoad_any (w := W2.drew) (h2.aw.same rfl rfl) (pl 4 n) hct (by omega))
  rw [hvl] at HST
  have hnd := h2.nsd
  have hng := h2.nsg
  have FRC : Hid (∀ w5, Fr (fun j => j = d ∨ j = g) W2.drew w5 → w5.cell? ⟨sb, 0, none⟩ = some (.pointer (some ⟨d, 0, none⟩)) ∧ w5.cell? ⟨w1.heap.size, 3, none⟩ = some (.int .i64 (pl 4 n : Int))) := hide2 (fun w5 h5 => ⟨(h5.cell (p := ⟨sb, 0, none⟩) (show sb < W2.heap.size by omega) (show ¬ (sb = d ∨ sb = g) by omega)).trans s1, (h5.cell (p := ⟨w1.heap.size, 3, none⟩) (show w1.heap.size < W2.heap.size by omega) (show ¬ (w1.heap.size = d ∨ w1.heap.size = g) by omega)).trans s2⟩)
  have H2 := hide2 h2
  have HB : Hid (Below w.heap.size w W2) := hide2 (hb1.trans ⟨hb2.os, hb2.tape, hb2.output, hb2.size, fun j hj => hb2.block j (by omega)⟩)
  clear HFD h1 hb1 hb2 h2 nb hkl hkk hvl
  go_wp2_with fail
  rw [← hW2]
  clear hW2
  refine wp_region_noPanic ?_
  refine wp_region_held_drew (S := (fun u : World => u.cell? ⟨sb, 0, none⟩ = some (.pointer (some ⟨d, 0, none⟩)) ∧ u.cell? ⟨w1.heap.size, 3, none⟩ = some (.int .i64 (pl 4 n : Int)))) (by kernel_rfl) (⟨s1, s2⟩) (fun hHeld => ?_)
  refine wpAnyH_take (i := 0) (oi := { dst := some 19, op := _, type := _, pos := _, after := _, guard := _ }) (v := ?_) rfl (by kernel_rfl) (by kernel_rfl) (by kernel_rfl) (fun _ _ _ h => h) (Or.inl ⟨by rfl, ?_⟩) (by assumption) ?_
  rotate_left 1
  · intro u hSw; obtain ⟨s1, s2⟩ := hSw; go_simp; try with_reducible rfl
  try simp only [Act.put, List.setIfInBounds_toArray, List.set_cons_zero, List.set_cons_succ]
  refine wpAnyH_take (i := 1) (oi := { dst := some 20, op := _, type := _, pos := _, after := _, guard := _ }) (v := ?_) rfl (by kernel_rfl) (by kernel_rfl) (by kernel_rfl) (fun _ _ _ h => h) (Or.inl ⟨by rfl, ?_⟩) (by assumption) ?_
  rotate_left 1
  · intro u hSw; obtain ⟨s1, s2⟩ := hSw; go_simp; try with_reducible rfl
  try simp only [Act.put, List.setIfInBounds_toArray, List.set_cons_zero, List.set_cons_succ]
  refine wpAnyH_take (i := 2) (oi := { dst := some 21, op := _, type := _, pos := _, after := _, guard := _ }) (v := ?_) rfl (by kernel_rfl) (by kernel_rfl) (by kernel_rfl) (fun _ _ _ h => h) (Or.inl ⟨by rfl, ?_⟩) (by assumption) ?_
  rotate_left 1
  · intro u hSw; obtain ⟨s1, s2⟩ := hSw; go_simp; try with_reducible rfl
  try simp only [Act.put, List.setIfInBounds_toArray, List.set_cons_zero, List.set_cons_succ]
  refine wpAnyH_take (i := 3) (oi := { dst := some 22, op := _, type := _, pos := _, after := _, guard := _ }) (v := ?_) rfl (by kernel_rfl) (by kernel_rfl) (by kernel_rfl) (fun _ _ _ h => h) (Or.inl ⟨by rfl, ?_⟩) (by assumption) ?_
  rotate_left 1
  · intro u hSw; obtain ⟨s1, s2⟩ := hSw; go_simp; try with_reducible rfl
  try simp only [Act.put, List.setIfInBounds_toArray, List.set_cons_zero, List.set_cons_succ]
  refine wpAnyH_take (i := 4) (oi := { dst := some 23, op := _, type := _, pos := _, after := _, guard := _ }) (v := ?_) rfl (by kernel_rfl) (by kernel_rfl) (by kernel_rfl) (fun _ _ _ h => h) (Or.inl ⟨by rfl, ?_⟩) (by assumption) ?_
  rotate_left 1
  · intro u hSw; obtain ⟨s1, s2⟩ := hSw; go_simp; try with_reducible rfl
  try simp only [Act.put, List.setIfInBounds_toArray, List.set_cons_zero, List.set_cons_succ]
  refine wpAnyH_take (i := 5) (oi := { dst := some 24, op := _, type := _, pos := _, after := _, guard := _ }) (v := ?_) rfl (by kernel_rfl) (by kernel_rfl) (by kernel_rfl) (fun _ _ _ h => h) (Or.inl ⟨by rfl, ?_⟩) (by assumption) ?_
  rotate_left 1
  · intro u hSw; obtain ⟨s1, s2⟩ := hSw; go_simp; try with_reducible rfl
  try simp only [Act.put, List.setIfInBounds_toArray, List.set_cons_zero, List.set_cons_succ]
  refine wpAnyH_ready (rs := [6]) (by kernel_rfl) (by simp) ?_
  refine AllReadyH.cons (o := { dst := some 25, op := _, type := _, pos := _, after := _, guard := _ }) rfl (fun Kq hK => ?_) AllReadyH.nil
  obtain ⟨s1, s2⟩ := hHeld
  go_simp
  refine HST.out.mono ?_
  rintro e w5 ⟨rfl, hA5, hF5⟩
  go_wp2_with fail
  refine hK.out _ _ (FRC.out w5 hF5) (fun hHeld => ?_)
  clear hK Kq
  try simp only [Act.put, List.setIfInBounds_toArray, List.set_cons_zero, List.set_cons_succ]
  refine wpAnyH_take (i := 7) (oi := { dst := some 18, op := _, type := _, pos := _, after := _, guard := _ }) (v := ?_) rfl (by kernel_rfl) (by kernel_rfl) (by kernel_rfl) (fun _ _ _ h => h) (Or.inl ⟨by rfl, ?_⟩) (by assumption) ?_
  rotate_left 1
  · intro u hSw; obtain ⟨s1, s2⟩ := hSw; go_simp; try with_reducible rfl
  try simp only [Act.put, List.setIfInBounds_toArray, List.set_cons_zero, List.set_cons_succ]
  refine wpAnyH_take (i := 8) (oi := { dst := some 26, op := _, type := _, pos := _, after := _, guard := _ }) (v := ?_) rfl (by kernel_rfl) (by kernel_rfl) (by kernel_rfl) (fun _ _ _ h => h) (Or.inl ⟨by rfl, ?_⟩) (by assumption) ?_
  rotate_left 1
  · intro u hSw; obtain ⟨s1, s2⟩ := hSw; go_simp; try with_reducible rfl
  try simp only [Act.put, List.setIfInBounds_toArray, List.set_cons_zero, List.set_cons_succ]
  refine wpAnyH_take (i := 9) (oi := { dst := some 27, op := _, type := _, pos := _, after := _, guard := _ }) (v := ?_) rfl (by kernel_rfl) (by kernel_rfl) (by kernel_rfl) (fun _ _ _ h => h) (Or.inl ⟨by rfl, ?_⟩) (by assumption) ?_
  rotate_left 1
  · intro u hSw; obtain ⟨s1, s2⟩ := hSw; go_simp; try with_reducible rfl
  try simp only [Act.put, List.setIfInBounds_toArray, List.set_cons_zero, List.set_cons_succ]
  refine wpAnyH_take (i := 10) (oi := { dst := some 8, op := _, type := _, pos := _, after := _, guard := _ }) (v := ?_) rfl (by kernel_rfl) (by kernel_rfl) (by kernel_rfl) (fun _ _ _ h => h) (Or.inl ⟨by rfl, ?_⟩) (by assumption) ?_
  rotate_left 1
  · intro u hSw; obtain ⟨s1, s2⟩ := hSw; go_simp; try with_reducible rfl
  try simp only [Act.put, List.setIfInBounds_toArray, List.set_cons_zero, List.set_cons_succ]
  refine wpAnyH_take (i := 11) (oi := { dst := some 7, op := _, type := _, pos := _, after := _, guard := _ }) (v := ?_) rfl (by kernel_rfl) (by kernel_rfl) (by kernel_rfl) (fun _ _ _ h => h) (Or.inl ⟨by rfl, ?_⟩) (by assumption) ?_
  rotate_left 1
  · intro u hSw; obtain ⟨s1, s2⟩ := hSw; go_simp; try with_reducible rfl
  try simp only [Act.put, List.setIfInBounds_toArray, List.set_cons_zero, List.set_cons_succ]
  refine wpAnyH_done (by kernel_rfl) ?_ _
  refine NoPanic.normal ?_
  have HA5 := hide2 hA5
  have HF5 := hide2 hF5
  clear hA5 hF5 HST FRC s1 s2 hct
  go_wp2
  go_ret2
  have hF0 : Fr (fun j => j = d ∨ j = g) W2 w5 := (Fr.refl (fun j => j = d ∨ j = g) W2).drew.trans HF5.out (fun j e => .inl e)
  have h5 := H2.out.arena hF0 HA5.out H2.out.ok H2.out.pc rfl rfl rfl
  refine ⟨rfl, K, ⟨g, m0, m1, m2, T, N, m + 1, F, own, pl, k1, h5, r1, r2, by omega, by omega, HR5.out⟩, fun _ _ => Iff.rfl, (Fr.below (F := K) HB.out).trans hF0 (fun j e => .inl (H.out.kk j (by rcases e with e | e <;> simp [e])))⟩
set_option maxRecDepth 100000 in
set_option maxHeartbeats 4000000 in
theorem end_any (h : Rp w K sb d z M A u) {n : Nat} (hn : A.lv 1 n = true) (hM : M < 4000000000000000000) :
    Calls Tryd.prog 48 #[.pointer (some ⟨sb, 0, none⟩), .int .i64 (n : Int)] w fun e w' => e = .returned (.tuple #[.int .u64 (A.va 3 n), .int .i64 0]) ∧ Aft w w' K sb d z (M + 1) A u := by
  obtain ⟨g, m0, m1, m2, T, N, m, F, own, pl, k1, h, r1, r2, r3, r4, r5⟩ := h
  have hnb := h.ok.n1 1 n hn
  have hnl := r5 1
  have HFD := hide2 (versionOf_in h hn (by omega))
  have H := hide2 h
  have HR5 := hide2 r5
  have hlv : lvk A 3 n = true := lvk_of (by decide) hn
  have hct := h.pc.tak hlv
  have hvl := h.pc.vl 3 n hlv
  clear h r5 hlv
  go_enter Tryd.func48, Tryd.ntmps48
  go_wp2_with fail
  refine HFD.out.mono ?_
  rintro e w1 ⟨rfl, hb1⟩
  have h1 := H.out.below hb1
  obtain ⟨W2, hW2⟩ : ∃ x, x = w1.alloc (.cells #[.string (A.tx n), .int .i64 (pl 2 n : Int), .int .i64 (pl 3 n : Int), .int .i64 (pl 4 n : Int)] 106) := ⟨_, rfl⟩
  have hb2 : Below w1.heap.size w1 W2 := by rw [hW2]; exact (Below.refl _ _).alloc (Nat.le_refl _) _
  have h2 := h1.below hb2
  have nb : W2.heap[w1.heap.size]? = some (.cells #[.string (A.tx n), .int .i64 (pl 2 n : Int), .int .i64 (pl 3 n : Int), .int .i64 (pl 4 n : Int)] 106 (0, 0)) := by rw [hW2]; exact heap_alloc_new w1 _
  have s1 := h2.st.cells.1
  have s2 : W2.cell? ⟨w1.heap.size, 2, none⟩ = some (.int .i64 (pl 3 n : Int)) := by rw [Go.Joins.cell_of_block nb]; rfl
  have hkl := H.out.kl
  have hkk := H.out.kk
  have hs1 := hb1.size
  have hs2 : W2.heap.size = w1.heap.size + 1 := by rw [hW2]; simp
  have hdl := hkl d (hkk d (by simp))
  have hgl := hkl g (hkk g (by simp))
  have hsbl := hkl sb (hkk sb (by simp))
  have HST := hide2 (sLoad_any (w := W2.drew) (h2.aw.same rfl rfl) (pl 3 n) hct (by omega))
  rw [hvl] at HST
  have hnd := h2.nsd
  have hng := h2.nsg
  have FRC : Hid (∀ w5, Fr (fun j => j = d ∨ j = g) W2.drew w5 → w5.cell? ⟨sb, 0, none⟩ = some (.pointer (some ⟨d, 0, none⟩)) ∧ w5.cell? ⟨w1.heap.size, 2, none⟩ = some (.int .i64 (pl 3 n : Int))) := hide2 (fun w5 h5 => ⟨(h5.cell (p := ⟨sb, 0, none⟩) (show sb < W2.heap.size by omega) (show ¬ (sb = d ∨ sb = g) by omega)).trans s1, (h5.cell (p := ⟨w1.heap.size, 2, none⟩) (show w1.heap.size < W2.heap.size by omega) (show ¬ (w1.heap.size = d ∨ w1.heap.size = g) by omega)).trans s2⟩)
  have H2 := hide2 h2
  have HB : Hid (Below w.heap.size w W2) := hide2 (hb1.trans ⟨hb2.os, hb2.tape, hb2.output, hb2.size, fun j hj => hb2.block j (by omega)⟩)
  clear HFD h1 hb1 hb2 h2 nb hkl hkk hvl
  go_wp2_with fail
  rw [← hW2]
  clear hW2
  refine wp_region_noPanic ?_
  refine wp_region_held_drew (S := (fun u : World => u.cell? ⟨sb, 0, none⟩ = some (.pointer (some ⟨d, 0, none⟩)) ∧ u.cell? ⟨w1.heap.size, 2, none⟩ = some (.int .i64 (pl 3 n : Int)))) (by kernel_rfl) (⟨s1, s2⟩) (fun hHeld => ?_)
  refine wpAnyH_take (i := 0) (oi := { dst := some 17, op := _, type := _, pos := _, after := _, guard := _ }) (v := ?_) rfl (by kernel_rfl) (by kernel_rfl) (by kernel_rfl) (fun _ _ _ h => h) (Or.inl ⟨by rfl, ?_⟩) (by assumption) ?_
  rotate_left 1
  · intro u hSw; obtain ⟨s1, s2⟩ := hSw; go_simp; try with_reducible rfl
  try simp only [Act.put, List.setIfInBounds_toArray, List.set_cons_zero, List.set_cons_succ]
  refine wpAnyH_take (i := 1) (oi := { dst := some 18, op := _, type := _, pos := _, after := _, guard := _ }) (v := ?_) rfl (by kernel_rfl) (by kernel_rfl) (by kernel_rfl) (fun _ _ _ h => h) (Or.inl ⟨by rfl, ?_⟩) (by assumption) ?_
  rotate_left 1
  · intro u hSw; obtain ⟨s1, s2⟩ := hSw; go_simp; try with_reducible rfl
  try simp only [Act.put, List.setIfInBounds_toArray, List.set_cons_zero, List.set_cons_succ]
  refine wpAnyH_take (i := 2) (oi := { dst := some 19, op := _, type := _, pos := _, after := _, guard := _ }) (v := ?_) rfl (by kernel_rfl) (by kernel_rfl) (by kernel_rfl) (fun _ _ _ h => h) (Or.inl ⟨by rfl, ?_⟩) (by assumption) ?_
  rotate_left 1
  · intro u hSw; obtain ⟨s1, s2⟩ := hSw; go_simp; try with_reducible rfl
  try simp only [Act.put, List.setIfInBounds_toArray, List.set_cons_zero, List.set_cons_succ]
  refine wpAnyH_take (i := 3) (oi := { dst := some 20, op := _, type := _, pos := _, after := _, guard := _ }) (v := ?_) rfl (by kernel_rfl) (by kernel_rfl) (by kernel_rfl) (fun _ _ _ h => h) (Or.inl ⟨by rfl, ?_⟩) (by assumption) ?_
  rotate_left 1
  · intro u hSw; obtain ⟨s1, s2⟩ := hSw; go_simp; try with_reducible rfl
  try simp only [Act.put, List.setIfInBounds_toArray, List.set_cons_zero, List.set_cons_succ]
  refine wpAnyH_take (i := 4) (oi := { dst := some 21, op := _, type := _, pos := _, after := _, guard := _ }) (v := ?_) rfl (by kernel_rfl) (by kernel_rfl) (by kernel_rfl) (fun _ _ _ h => h) (Or.inl ⟨by rfl, ?_⟩) (by assumption) ?_
  rotate_left 1
  · intro u hSw; obtain ⟨s1, s2⟩ := hSw; go_simp; try with_reducible rfl
  try simp only [Act.put, List.setIfInBounds_toArray, List.set_cons_zero, List.set_cons_succ]
  refine wpAnyH_take (i := 5) (oi := { dst := some 22, op := _, type := _, pos := _, after := _, guard := _ }) (v := ?_) rfl (by kernel_rfl) (by kernel_rfl) (by kernel_rfl) (fun _ _ _ h => h) (Or.inl ⟨by rfl, ?_⟩) (by assumption) ?_
  rotate_left 1
  · intro u hSw; obtain ⟨s1, s2⟩ := hSw; go_simp; try with_reducible rfl
  try simp only [Act.put, List.setIfInBounds_toArray, List.set_cons_zero, List.set_cons_succ]
  refine wpAnyH_ready (rs := [6]) (by kernel_rfl) (by simp) ?_
  refine AllReadyH.cons (o := { dst := some 23, op := _, type := _, pos := _, after := _, guard := _ }) rfl (fun Kq hK => ?_) AllReadyH.nil
  obtain ⟨s1, s2⟩ := hHeld
  go_simp
  refine HST.out.mono ?_
  rintro e w5 ⟨rfl, hA5, hF5⟩
  go_wp2_with fail
  refine hK.out _ _ (FRC.out w5 hF5) (fun hHeld => ?_)
  clear hK Kq
  try simp only [Act.put, List.setIfInBounds_toArray, List.set_cons_zero, List.set_cons_succ]
  refine wpAnyH_take (i := 7) (oi := { dst := some 24, op := _, type := _, pos := _, after := _, guard := _ }) (v := ?_) rfl (by kernel_rfl) (by kernel_rfl) (by kernel_rfl) (fun _ _ _ h => h) (Or.inl ⟨by rfl, ?_⟩) (by assumption) ?_
  rotate_left 1
  · intro u hSw; obtain ⟨s1, s2⟩ := hSw; go_simp; try with_reducible rfl
  try simp only [Act.put, List.setIfInBounds_toArray, List.set_cons_zero, List.set_cons_succ]
  refine wpAnyH_take (i := 8) (oi := { dst := some 25, op := _, type := _, pos := _, after := _, guard := _ }) (v := ?_) rfl (by kernel_rfl) (by kernel_rfl) (by kernel_rfl) (fun _ _ _ h => h) (Or.inl ⟨by rfl, ?_⟩) (by assumption) ?_
  rotate_left 1
  · intro u hSw; obtain ⟨s1, s2⟩ := hSw; go_simp; try with_reducible rfl
  try simp only [Act.put, List.setIfInBounds_toArray, List.set_cons_zero, List.set_cons_succ]
  refine wpAnyH_take (i := 9) (oi := { dst := some 4, op := _, type := _, pos := _, after := _, guard := _ }) (v := ?_) rfl (by kernel_rfl) (by kernel_rfl) (by kernel_rfl) (fun _ _ _ h => h) (Or.inl ⟨by rfl, ?_⟩) (by assumption) ?_
  rotate_left 1
  · intro u hSw; obtain ⟨s1, s2⟩ := hSw; go_simp; try with_reducible rfl
  try simp only [Act.put, List.setIfInBounds_toArray, List.set_cons_zero, List.set_cons_succ]
  refine wpAnyH_take (i := 10) (oi := { dst := some 5, op := _, type := _, pos := _, after := _, guard := _ }) (v := ?_) rfl (by kernel_rfl) (by kernel_rfl) (by kernel_rfl) (fun _ _ _ h => h) (Or.inl ⟨by rfl, ?_⟩) (by assumption) ?_
  rotate_left 1
  · intro u hSw; obtain ⟨s1, s2⟩ := hSw; go_simp; try with_reducible rfl
  try simp only [Act.put, List.setIfInBounds_toArray, List.set_cons_zero, List.set_cons_succ]
  refine wpAnyH_done (by kernel_rfl) ?_ _
  refine NoPanic.normal ?_
  have HA5 := hide2 hA5
  have HF5 := hide2 hF5
  clear hA5 hF5 HST FRC s1 s2 hct
  go_wp2
  go_ret2
  have hF0 : Fr (fun j => j = d ∨ j = g) W2 w5 := (Fr.refl (fun j => j = d ∨ j = g) W2).drew.trans HF5.out (fun j e => .inl e)
  have h5 := H2.out.arena hF0 HA5.out H2.out.ok H2.out.pc rfl rfl rfl
  refine ⟨rfl, K, ⟨g, m0, m1, m2, T, N, m + 1, F, own, pl, k1, h5, r1, r2, by omega, by omega, HR5.out⟩, fun _ _ => Iff.rfl, (Fr.below (F := K) HB.out).trans hF0 (fun j e => .inl (H.out.kk j (by rcases e with e | e <;> simp [e])))⟩
end
end Go.Proofs.YtfhcphgjaobnoaaDoor
