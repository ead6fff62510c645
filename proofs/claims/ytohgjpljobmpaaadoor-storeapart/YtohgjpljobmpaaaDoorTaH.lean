/-
  Chains; Cut, Drop. (Printed by gen_tah.py.)
-/
import Derived.Test.YtohgjpljobmpaaaDoorTaG
set_option linter.unusedVariables false
set_option linter.unusedSimpArgs false
namespace Go.Proofs.YtohgjpljobmpaaaDoor
open Go.RowKit Go.Maps

/-- A chain: from a number on. -/
def Ch (A : Stt) : Int → List Nat → Prop
  | x, [] => x < 0 ∨ A.lv 1 x.toNat = false
  | x, n :: l => x = (n : Int) ∧ A.lv 1 n = true ∧ Ch A (A.va 4 n) l
/-- All of these are taken away. -/
def offs (A : Stt) (l : List Nat) : Stt := l.foldl (fun A n => A.off 1 n) A
section
variable {A A' : Stt}
theorem offs_snoc (A : Stt) (l : List Nat) (n : Nat) : offs A (l ++ [n]) = (offs A l).off 1 n := by simp [offs]
theorem offs_va : ∀ (l : List Nat) (A : Stt), (offs A l).va = A.va
  | [], A => rfl
  | n :: l, A => by show (offs (A.off 1 n) l).va = _; rw [offs_va l]; rfl
theorem offs_la : ∀ (l : List Nat) (A : Stt), (offs A l).la = A.la
  | [], A => rfl
  | n :: l, A => by show (offs (A.off 1 n) l).la = _; rw [offs_la l]; rfl
theorem offs_lv : ∀ (l : List Nat) (A : Stt) (c x : Nat), (offs A l).lv c x = if c = 1 ∧ x ∈ l then false else A.lv c x
  | [], A, c, x => by simp [offs]
  | n :: l, A, c, x => by
    show (offs (A.off 1 n) l).lv c x = _
    rw [offs_lv l]
    show (if c = 1 ∧ x ∈ l then false else up2 A.lv 1 n false c x) = _
    by_cases h1 : c = 1 ∧ x ∈ l
    · rw [if_pos h1, if_pos ⟨h1.1, by simp [h1.2]⟩]
    · rw [if_neg h1]
      by_cases h2 : c = 1 ∧ x = n
      · rw [h2.1, h2.2, up2_same, if_pos ⟨rfl, by simp⟩]
      · rw [up2_other _ _ h2, if_neg (fun q => ?_)]
        rcases List.mem_cons.1 q.2 with e | e
        · exact h2 ⟨q.1, e⟩
        · exact h1 ⟨q.1, e⟩
theorem Ch.live : ∀ {l : List Nat} {x : Int}, Ch A x l → ∀ n ∈ l, A.lv 1 n = true
  | [], _, _, n, hn => (nomatch hn)
  | y :: l, x, h, n, hn => by
    rcases List.mem_cons.1 hn with e | e
    · rw [e]; exact h.2.1
    · exact Ch.live h.2.2 n e
theorem Ch.le (hok : A.ok) : ∀ {l : List Nat} {x : Int}, Ch A x l → ∀ n ∈ l, (n : Int) ≤ x
  | [], _, _, n, hn => (nomatch hn)
  | y :: l, x, h, n, hn => by
    have h1 := h.1
    rcases List.mem_cons.1 hn with e | e
    · rw [e]; omega
    · have := Ch.le hok h.2.2 n e
      have := hok.nx y h.2.1
      omega
theorem Ch.nodup (hok : A.ok) : ∀ {l : List Nat} {x : Int}, Ch A x l → l.Nodup
  | [], _, _ => List.nodup_nil
  | y :: l, x, h => List.nodup_cons.2 ⟨fun q => by
      have := Ch.le hok h.2.2 y q
      have := hok.nx y h.2.1
      omega, Ch.nodup hok h.2.2⟩
theorem Ch.congr (hok : A.ok) : ∀ {l : List Nat} {x : Int}, Ch A x l → (∀ m ∈ l, A'.lv 1 m = true ∧ A'.va 4 m = A.va 4 m) → (∀ y : Nat, (y : Int) ≤ x → A'.lv 1 y = true → A.lv 1 y = true) → Ch A' x l
  | [], x, h, _, h2 => by
    rcases h with h | h
    · exact .inl h
    · by_cases q : x < 0
      · exact .inl q
      · right
        cases e : A'.lv 1 x.toNat with
        | false => rfl
        | true => have := h2 x.toNat (by omega) e; rw [h] at this; cases this
  | y :: l, x, h, h1, h2 => by
    obtain ⟨a, b⟩ := h1 y (by simp)
    refine ⟨h.1, a, ?_⟩
    rw [b]
    exact Ch.congr hok h.2.2 (fun m hm => h1 m (by simp [hm])) (fun z hz => h2 z (by have := hok.nx y h.2.1; have := h.1; omega))
theorem Ch.drop : ∀ {l : List Nat} {x : Int}, Ch A x l → ∀ i y, l[i]? = some y → Ch A (A.va 4 y) (l.drop (i + 1))
  | [], _, _, i, y, hy => by simp at hy
  | z :: l, x, h, 0, y, hy => by simp at hy; subst hy; exact h.2.2
  | z :: l, x, h, i + 1, y, hy => by simpa using Ch.drop h.2.2 i y (by simpa using hy)
end

section
variable {w w1 w2 w' : World} {K K1 : Nat → Prop} {sb d z M M' u u' : Nat} {A A' : Stt}
theorem Aft.trans (h1 : Rp w1 K1 sb d z M A u) (hk : ∀ j, j < w.heap.size → (K1 j ↔ K j)) (hF : Fr K w w1) (h2 : Aft w1 w2 K1 sb d z M' A' u') : ∃ K2, Rp w2 K2 sb d z M' A' u' ∧ (∀ j, j < w.heap.size → (K2 j ↔ K j)) ∧ Fr K w w2 := by
  obtain ⟨K2, hr, hk2, hF2⟩ := h2
  have hs := hF.size
  refine ⟨K2, hr, fun j hj => (hk2 j (by omega)).trans (hk j hj), hF.trans hF2 (fun j e => ?_)⟩
  rcases Nat.lt_or_ge j w.heap.size with q | q
  · exact .inl ((hk j q).1 e)
  · exact .inr q
set_option maxRecDepth 100000 in
set_option maxHeartbeats 8000000 in
theorem cut_in (h : Rp w K sb d z M A u) {n : Nat} (hn : A.lv 1 n = true) {l : List Nat} (hch : Ch A (A.va 4 n) l) (hll : l.length ≤ 1000000) (hM : M < 3800000000000000000) :
    Calls Tryd.prog 14 #[.pointer (some ⟨sb, 0, none⟩), .int .i64 (n : Int)] w fun e w' => e = .returned (.tuple #[.int .i64 (l.length : Nat), .int .i64 0]) ∧ 3 * l.length ≤ u ∧ Aft w w' K sb d z (M + 2 + l.length) (offs (A.put 4 n 0) l) (u - 3 * l.length) := by
  obtain ⟨g, m0, m1, m2, T, N, m, F, own, pl, k1, h, r1, r2, r3, r4, r5⟩ := h
  have hok := h.ok
  have HCH : Hid (Ch (A.put 4 n 0) (A.va 4 n) l) := hide2 (hch.congr hok (fun x hx => ⟨hch.live x hx, by
    show up2 A.va 4 n 0 4 x = A.va 4 x
    refine up2_other _ _ (fun q => ?_)
    have := hch.le hok x hx
    have := hok.nx n hn
    omega⟩) (fun y _ hy => hy))
  have hbd := hok.bd 4 n (by decide) hn
  have hnx := hok.nx n hn
  clear hch hok
  have hnb := h.ok.n1 1 n hn
  have hnl := r5 1
  have HFD := hide2 (versionOf_in h hn (by omega))
  have H := hide2 h
  have HR5 := hide2 r5
  have hlv : lvk A 4 n = true := lvk_of (by decide) hn
  have hct := h.pc.tak hlv
  have hvl := h.pc.vl 4 n hlv
  have HLV := hide2 hlv
  clear h r5 hlv
  go_enter Tryd.func14, Tryd.ntmps14
  go_wp2_with fail
  refine HFD.out.mono ?_
  rintro e w1 ⟨rfl, hb1⟩
  have h1 := H.out.below hb1
  obtain ⟨W2, hW2⟩ : ∃ x, x = w1.alloc (.cells #[.string (A.tx n), .int .i64 (pl 2 n : Int), .int .i64 (pl 3 n : Int), .int .i64 (pl 4 n : Int)] 77) := ⟨_, rfl⟩
  have hb2 : Below w1.heap.size w1 W2 := by rw [hW2]; exact (Below.refl _ _).alloc (Nat.le_refl _) _
  have h2 := h1.below hb2
  have nb : W2.heap[w1.heap.size]? = some (.cells #[.string (A.tx n), .int .i64 (pl 2 n : Int), .int .i64 (pl 3 n : Int), .int .i64 (pl 4 n : Int)] 77 (0, 0)) := by rw [hW2]; exact heap_alloc_new w1 _
  have s1 := h2.st.cells.1
  have s2 : W2.cell? ⟨w1.heap.size, 3, none⟩ = some (.int .i64 (pl 4 n : Int)) := by rw [Go.Joins.cell_of_block nb]; rfl
  have hkl := H.out.kl
  have hkk := H.out.kk
  have hs1 := hb1.size
  have hs2 : W2.heap.size = w1.heap.size + 1 := by rw [hW2]; simp
  have hdl := hkl d (hkk d (by simp))
  have hgl := hkl g (hkk g (by simp))
  have hsbl := hkl sb (hkk sb (by simp))
  have HST := hide2 (sLoad_any (w := W2.drew) (h2.aw.same rfl rfl) (pl 4 n) hct (by omega))
  rw [hvl] at HST
  have hnd := h2.nsd
  have hng := h2.nsg
  have FRC : Hid (∀ (wq : World) w5, wq.heap.size = W2.heap.size → wq.cell? ⟨sb, 0, none⟩ = some (.pointer (some ⟨d, 0, none⟩)) → wq.cell? ⟨w1.heap.size, 3, none⟩ = some (.int .i64 (pl 4 n : Int)) → Fr (fun j => j = d ∨ j = g) wq w5 → w5.cell? ⟨sb, 0, none⟩ = some (.pointer (some ⟨d, 0, none⟩)) ∧ w5.cell? ⟨w1.heap.size, 3, none⟩ = some (.int .i64 (pl 4 n : Int))) := hide2 (fun wq w5 hq c1 c2 h5 => ⟨(h5.cell (p := ⟨sb, 0, none⟩) (show sb < wq.heap.size by omega) (show ¬ (sb = d ∨ sb = g) by omega)).trans c1, (h5.cell (p := ⟨w1.heap.size, 3, none⟩) (show w1.heap.size < wq.heap.size by omega) (show ¬ (w1.heap.size = d ∨ w1.heap.size = g) by omega)).trans c2⟩)
  have H2 := hide2 h2
  have HB : Hid (Below w.heap.size w W2) := hide2 (hb1.trans ⟨hb2.os, hb2.tape, hb2.output, hb2.size, fun j hj => hb2.block j (by omega)⟩)
  have NB := hide2 nb
  have S1 := hide2 s1
  have S2 := hide2 s2
  clear HFD h1 hb1 hb2 h2 nb hkl hkk hvl
  go_wp2_with fail
  rw [← hW2]
  clear hW2
  refine wp_region_noPanic ?_
  refine wp_region_held_drew (S := (fun u : World => u.cell? ⟨sb, 0, none⟩ = some (.pointer (some ⟨d, 0, none⟩)) ∧ u.cell? ⟨w1.heap.size, 3, none⟩ = some (.int .i64 (pl 4 n : Int)))) (by kernel_rfl) (⟨s1, s2⟩) (fun hHeld => ?_)
  refine wpAnyH_take (i := 0) (oi := { dst := some 21, op := _, type := _, pos := _, after := _, guard := _ }) (v := ?_) rfl (by kernel_rfl) (by kernel_rfl) (by kernel_rfl) (fun _ _ _ h => h) (Or.inl ⟨by rfl, ?_⟩) (by assumption) ?_
  rotate_left 1
  · intro u hSw; obtain ⟨s1, s2⟩ := hSw; go_simp; try with_reducible rfl
  try simp only [Act.put, List.setIfInBounds_toArray, List.set_cons_zero, List.set_cons_succ]
  refine wpAnyH_take (i := 1) (oi := { dst := some 22, op := _, type := _, pos := _, after := _, guard := _ }) (v := ?_) rfl (by kernel_rfl) (by kernel_rfl) (by kernel_rfl) (fun _ _ _ h => h) (Or.inl ⟨by rfl, ?_⟩) (by assumption) ?_
  rotate_left 1
  · intro u hSw; obtain ⟨s1, s2⟩ := hSw; go_simp; try with_reducible rfl
  try simp only [Act.put, List.setIfInBounds_toArray, List.set_cons_zero, List.set_cons_succ]
  refine wpAnyH_take (i := 2) (oi := { dst := some 23, op := _, type := _, pos := _, after := _, guard := _ }) (v := ?_) rfl (by kernel_rfl) (by kernel_rfl) (by kernel_rfl) (fun _ _ _ h => h) (Or.inl ⟨by rfl, ?_⟩) (by assumption) ?_
  rotate_left 1
  · intro u hSw; obtain ⟨s1, s2⟩ := hSw; go_simp; try with_reducible rfl
  try simp only [Act.put, List.setIfInBounds_toArray, List.set_cons_zero, List.set_cons_succ]
  refine wpAnyH_take (i := 3) (oi := { dst := some 24, op := _, type := _, pos := _, after := _, guard := _ }) (v := ?_) rfl (by kernel_rfl) (by kernel_rfl) (by kernel_rfl) (fun _ _ _ h => h) (Or.inl ⟨by rfl, ?_⟩) (by assumption) ?_
  rotate_left 1
  · intro u hSw; obtain ⟨s1, s2⟩ := hSw; go_simp; try with_reducible rfl
  try simp only [Act.put, List.setIfInBounds_toArray, List.set_cons_zero, List.set_cons_succ]
  refine wpAnyH_take (i := 4) (oi := { dst := some 25, op := _, type := _, pos := _, after := _, guard := _ }) (v := ?_) rfl (by kernel_rfl) (by kernel_rfl) (by kernel_rfl) (fun _ _ _ h => h) (Or.inl ⟨by rfl, ?_⟩) (by assumption) ?_
  rotate_left 1
  · intro u hSw; obtain ⟨s1, s2⟩ := hSw; go_simp; try with_reducible rfl
  try simp only [Act.put, List.setIfInBounds_toArray, List.set_cons_zero, List.set_cons_succ]
  refine wpAnyH_take (i := 5) (oi := { dst := some 26, op := _, type := _, pos := _, after := _, guard := _ }) (v := ?_) rfl (by kernel_rfl) (by kernel_rfl) (by kernel_rfl) (fun _ _ _ h => h) (Or.inl ⟨by rfl, ?_⟩) (by assumption) ?_
  rotate_left 1
  · intro u hSw; obtain ⟨s1, s2⟩ := hSw; go_simp; try with_reducible rfl
  try simp only [Act.put, List.setIfInBounds_toArray, List.set_cons_zero, List.set_cons_succ]
  refine wpAnyH_ready (rs := [6]) (by kernel_rfl) (by simp) ?_
  refine AllReadyH.cons (o := { dst := some 27, op := _, type := _, pos := _, after := _, guard := _ }) rfl (fun Kq hK => ?_) AllReadyH.nil
  obtain ⟨s1, s2⟩ := hHeld
  go_simp
  refine HST.out.mono ?_
  rintro e w5 ⟨rfl, hA5, hF5⟩
  go_wp2_with fail
  refine hK.out _ _ (FRC.out W2.drew w5 rfl S1.out S2.out hF5) (fun hHeld => ?_)
  clear hK Kq
  try simp only [Act.put, List.setIfInBounds_toArray, List.set_cons_zero, List.set_cons_succ]
  refine wpAnyH_take (i := 7) (oi := { dst := some 20, op := _, type := _, pos := _, after := _, guard := _ }) (v := ?_) rfl (by kernel_rfl) (by kernel_rfl) (by kernel_rfl) (fun _ _ _ h => h) (Or.inl ⟨by rfl, ?_⟩) (by assumption) ?_
  rotate_left 1
  · intro u hSw; obtain ⟨s1, s2⟩ := hSw; go_simp; try with_reducible rfl
  try simp only [Act.put, List.setIfInBounds_toArray, List.set_cons_zero, List.set_cons_succ]
  refine wpAnyH_take (i := 8) (oi := { dst := some 28, op := _, type := _, pos := _, after := _, guard := _ }) (v := ?_) rfl (by kernel_rfl) (by kernel_rfl) (by kernel_rfl) (fun _ _ _ h => h) (Or.inl ⟨by rfl, ?_⟩) (by assumption) ?_
  rotate_left 1
  · intro u hSw; obtain ⟨s1, s2⟩ := hSw; go_simp; try with_reducible rfl
  try simp only [Act.put, List.setIfInBounds_toArray, List.set_cons_zero, List.set_cons_succ]
  refine wpAnyH_take (i := 9) (oi := { dst := some 29, op := _, type := _, pos := _, after := _, guard := _ }) (v := ?_) rfl (by kernel_rfl) (by kernel_rfl) (by kernel_rfl) (fun _ _ _ h => h) (Or.inl ⟨by rfl, ?_⟩) (by assumption) ?_
  rotate_left 1
  · intro u hSw; obtain ⟨s1, s2⟩ := hSw; go_simp; try with_reducible rfl
  try simp only [Act.put, List.setIfInBounds_toArray, List.set_cons_zero, List.set_cons_succ]
  refine wpAnyH_take (i := 10) (oi := { dst := some 8, op := _, type := _, pos := _, after := _, guard := _ }) (v := ?_) rfl (by kernel_rfl) (by kernel_rfl) (by kernel_rfl) (fun _ _ _ h => h) (Or.inl ⟨by rfl, ?_⟩) (by assumption) ?_
  rotate_left 1
  · intro u hSw; obtain ⟨s1, s2⟩ := hSw; go_simp; try with_reducible rfl
  try simp only [Act.put, List.setIfInBounds_toArray, List.set_cons_zero, List.set_cons_succ]
  refine wpAnyH_take (i := 11) (oi := { dst := some 9, op := _, type := _, pos := _, after := _, guard := _ }) (v := ?_) rfl (by kernel_rfl) (by kernel_rfl) (by kernel_rfl) (fun _ _ _ h => h) (Or.inl ⟨by rfl, ?_⟩) (by assumption) ?_
  rotate_left 1
  · intro u hSw; obtain ⟨s1, s2⟩ := hSw; go_simp; try with_reducible rfl
  try simp only [Act.put, List.setIfInBounds_toArray, List.set_cons_zero, List.set_cons_succ]
  refine wpAnyH_done (by kernel_rfl) ?_ _
  refine NoPanic.normal ?_
  have hF0 : Fr (fun j => j = d ∨ j = g) W2 w5 := (Fr.refl (fun j => j = d ∨ j = g) W2).drew.trans hF5 (fun j e => .inl e)
  have h5 := H2.out.arena hF0 hA5 H2.out.ok H2.out.pc rfl rfl rfl
  have nb5 : w5.heap[w1.heap.size]? = some (.cells #[.string (A.tx n), .int .i64 (pl 2 n : Int), .int .i64 (pl 3 n : Int), .int .i64 (pl 4 n : Int)] 77 (0, 0)) := (hF0.block _ (by omega) (by omega)).trans NB.out
  have hs5 := hF0.size
  have s1 := h5.st.cells.1
  have s2 : w5.cell? ⟨w1.heap.size, 3, none⟩ = some (.int .i64 (pl 4 n : Int)) := by rw [Go.Joins.cell_of_block nb5]; rfl
  have HST2 := hide2 (sStore_any (w := w5.drew) (h5.aw.same rfl rfl) (pl 4 n) hct 0 (by decide) (by omega))
  have FRC2 : Hid (∀ w6, Fr (fun j => j = d ∨ j = g) w5.drew w6 → w6.cell? ⟨sb, 0, none⟩ = some (.pointer (some ⟨d, 0, none⟩)) ∧ w6.cell? ⟨w1.heap.size, 3, none⟩ = some (.int .i64 (pl 4 n : Int))) := hide2 (fun w6 h6 => ⟨(h6.cell (p := ⟨sb, 0, none⟩) (show sb < w5.heap.size by omega) (show ¬ (sb = d ∨ sb = g) by omega)).trans s1, (h6.cell (p := ⟨w1.heap.size, 3, none⟩) (show w1.heap.size < w5.heap.size by omega) (show ¬ (w1.heap.size = d ∨ w1.heap.size = g) by omega)).trans s2⟩)
  have H5 := hide2 h5
  have HF0 := hide2 hF0
  clear HST FRC S1 S2 hA5 hF5 hF0 h5 nb5
  go_wp2_with fail
  refine wp_region_noPanic ?_
  refine wp_region_held_drew (S := (fun u : World => u.cell? ⟨sb, 0, none⟩ = some (.pointer (some ⟨d, 0, none⟩)) ∧ u.cell? ⟨w1.heap.size, 3, none⟩ = some (.int .i64 (pl 4 n : Int)))) (by kernel_rfl) (⟨s1, s2⟩) (fun hHeld => ?_)
  refine wpAnyH_take (i := 0) (oi := { dst := some 30, op := _, type := _, pos := _, after := _, guard := _ }) (v := ?_) rfl (by kernel_rfl) (by kernel_rfl) (by kernel_rfl) (fun _ _ _ h => h) (Or.inl ⟨by rfl, ?_⟩) (by assumption) ?_
  rotate_left 1
  · intro u hSw; obtain ⟨s1, s2⟩ := hSw; go_simp; try with_reducible rfl
  try simp only [Act.put, List.setIfInBounds_toArray, List.set_cons_zero, List.set_cons_succ]
  refine wpAnyH_take (i := 1) (oi := { dst := some 31, op := _, type := _, pos := _, after := _, guard := _ }) (v := ?_) rfl (by kernel_rfl) (by kernel_rfl) (by kernel_rfl) (fun _ _ _ h => h) (Or.inl ⟨by rfl, ?_⟩) (by assumption) ?_
  rotate_left 1
  · intro u hSw; obtain ⟨s1, s2⟩ := hSw; go_simp; try with_reducible rfl
  try simp only [Act.put, List.setIfInBounds_toArray, List.set_cons_zero, List.set_cons_succ]
  refine wpAnyH_take (i := 2) (oi := { dst := some 32, op := _, type := _, pos := _, after := _, guard := _ }) (v := ?_) rfl (by kernel_rfl) (by kernel_rfl) (by kernel_rfl) (fun _ _ _ h => h) (Or.inl ⟨by rfl, ?_⟩) (by assumption) ?_
  rotate_left 1
  · intro u hSw; obtain ⟨s1, s2⟩ := hSw; go_simp; try with_reducible rfl
  try simp only [Act.put, List.setIfInBounds_toArray, List.set_cons_zero, List.set_cons_succ]
  refine wpAnyH_take (i := 3) (oi := { dst := some 33, op := _, type := _, pos := _, after := _, guard := _ }) (v := ?_) rfl (by kernel_rfl) (by kernel_rfl) (by kernel_rfl) (fun _ _ _ h => h) (Or.inl ⟨by rfl, ?_⟩) (by assumption) ?_
  rotate_left 1
  · intro u hSw; obtain ⟨s1, s2⟩ := hSw; go_simp; try with_reducible rfl
  try simp only [Act.put, List.setIfInBounds_toArray, List.set_cons_zero, List.set_cons_succ]
  refine wpAnyH_take (i := 4) (oi := { dst := some 34, op := _, type := _, pos := _, after := _, guard := _ }) (v := ?_) rfl (by kernel_rfl) (by kernel_rfl) (by kernel_rfl) (fun _ _ _ h => h) (Or.inl ⟨by rfl, ?_⟩) (by assumption) ?_
  rotate_left 1
  · intro u hSw; obtain ⟨s1, s2⟩ := hSw; go_simp; try with_reducible rfl
  try simp only [Act.put, List.setIfInBounds_toArray, List.set_cons_zero, List.set_cons_succ]
  refine wpAnyH_take (i := 5) (oi := { dst := some 35, op := _, type := _, pos := _, after := _, guard := _ }) (v := ?_) rfl (by kernel_rfl) (by kernel_rfl) (by kernel_rfl) (fun _ _ _ h => h) (Or.inl ⟨by rfl, ?_⟩) (by assumption) ?_
  rotate_left 1
  · intro u hSw; obtain ⟨s1, s2⟩ := hSw; go_simp; try with_reducible rfl
  try simp only [Act.put, List.setIfInBounds_toArray, List.set_cons_zero, List.set_cons_succ]
  refine wpAnyH_ready (rs := [6]) (by kernel_rfl) (by simp) ?_
  refine AllReadyH.cons (o := { dst := some 36, op := _, type := _, pos := _, after := _, guard := _ }) rfl (fun Kq hK => ?_) AllReadyH.nil
  obtain ⟨s1, s2⟩ := hHeld
  go_simp
  refine HST2.out.mono ?_
  rintro e w6 ⟨rfl, hA6, hF6⟩
  go_wp2_with fail
  refine hK.out _ _ (FRC2.out w6 hF6) (fun hHeld => ?_)
  clear hK Kq
  try simp only [Act.put, List.setIfInBounds_toArray, List.set_cons_zero, List.set_cons_succ]
  refine wpAnyH_done (by kernel_rfl) ?_ _
  refine NoPanic.normal ?_
  have hF1 : Fr (fun j => j = d ∨ j = g) w5 w6 := (Fr.refl (fun j => j = d ∨ j = g) w5).drew.trans hF6 (fun j e => .inl e)
  have h6 := H5.out.arena (A' := A.put 4 n 0) hF1 hA6 (Stt.put_ok H5.out.ok (by decide) (fun e => by omega) (fun e => by omega)) (H5.out.pc.put HLV.out 0 (by rw [H5.out.aw.len]; exact Nat.le_refl _)) rfl rfl rfl
  have HL : Hid (Rp w6 K sb d z (M + 2) (A.put 4 n 0) u) := hide2 ⟨g, m0, m1, m2, T, _, _, F, own, pl, k1, h6, by rw [List.length_set]; exact r1, r2, by omega, by omega, HR5.out⟩
  have HFW : Hid (Fr K w w6) := hide2 (((Fr.below (F := K) HB.out).trans HF0.out (fun j e => .inl (H.out.kk j (by rcases e with e | e <;> simp [e])))).trans hF1 (fun j e => .inl (H.out.kk j (by rcases e with e | e <;> simp [e]))))
  have hup : A.va 4 n < 4611686018427387904 := by omega
  clear HST2 FRC2 s1 s2 hA6 hF6 hF1 h6 H5 H2 HF0 NB HLV hct HB
  go_wp2
  go_loopw [8, 10] (fun v i wr => ∃ (l1 l2 : List Nat) (x : Int) (K1 : Nat → Prop), l = l1 ++ l2 ∧ v = .int .u64 x ∧ i = .int .i64 (l1.length : Nat) ∧ 0 ≤ x ∧ x < 4611686018427387904 ∧ Hid (Ch (offs (A.put 4 n 0) l1) x l2) ∧ 3 * l1.length ≤ u ∧ Hid (Rp wr K1 sb d z (M + 2 + l1.length) (offs (A.put 4 n 0) l1) (u - 3 * l1.length)) ∧ Hid (∀ j, j < w.heap.size → (K1 j ↔ K j)) ∧ Hid (Fr K w wr)) (fun _ i _ => l.length + 1 - (intOf i).toNat)
  case atStart => exact ⟨[], l, A.va 4 n, K, rfl, rfl, rfl, hbd.1, hup, HCH, Nat.zero_le _, HL, hide2 (fun _ _ => Iff.rfl), HFW⟩
  case round =>
    obtain ⟨l1, l2, x, K1, hll2, rfl, rfl, hx0, hx1, C, hu3, L, HK, HF⟩ := hrel
    have hcv : IntKind.i64.wrap x = x := by rw [IntKind.wrap_i64]; omega
    have hlen : l.length = l1.length + l2.length := by rw [hll2]; simp
    match l2, C with
    | [], C =>
      have hout : x < 0 ∨ (offs (A.put 4 n 0) l1).lv 1 x.toNat = false := C.out
      have HTA := hide2 (takeAway_out L.out (n := x) (by omega) (by omega) hout)
      have hl1 : l = l1 := by rw [hll2]; simp
      have HLL := hide2 hl1
      clear hll2 hout hl1
      go_wp2_with fail
      refine HTA.out.mono ?_
      rintro e w7 ⟨rfl, hb7⟩
      have HB7 := hide2 hb7
      clear HTA hb7
      go_wp2
      go_ret2
      have e1 := HLL.out
      rw [e1]
      exact ⟨rfl, hu3, K1, L.out.below HB7.out, HK.out, HF.out.trans (G := fun _ => False) (Fr.below HB7.out) (fun j e => e.elim)⟩
    | y :: l3, C =>
      obtain ⟨hxy, hy, C3⟩ := C.out
      have hA := L.out.ok
      have hyb := hA.n1 1 y hy
      have hbd2 := hA.bd 4 y (by decide) hy
      have hnx2 := hA.nx y hy
      have hla := L.out.la 1
      have hta := takeAway_in L.out hy (by simp at hlen; omega)
      subst hxy
      obtain ⟨x2, hx2⟩ : ∃ q, q = (offs (A.put 4 n 0) l1).va 4 y := ⟨_, rfl⟩
      rw [← hx2] at hta C3 hbd2 hnx2
      have HTA := hide2 hta
      have HY := hide2 (And.intro hy C3)
      have HA := hide2 hA
      have HX2 := hide2 hx2
      clear hta hy C3 hA hx2
      go_wp2_with fail
      refine HTA.out.mono ?_
      rintro e w7 ⟨rfl, hu, a7⟩
      obtain ⟨K2, L2, hk2, hF2⟩ := Aft.trans L.out HK.out HF.out a7
      rw [← offs_snoc] at L2
      have HC2 : Hid (Ch (offs (A.put 4 n 0) (l1 ++ [y])) x2 l3) := hide2 (by
        rw [offs_snoc]
        have hc := HY.out.2
        refine hc.congr HA.out (fun m hm => ⟨?_, rfl⟩) (fun q _ hq => ?_)
        · show up2 (offs (A.put 4 n 0) l1).lv 1 y false 1 m = true
          rw [up2_other _ _ (fun q => ?_)]
          · exact hc.live m hm
          · have := hc.le HA.out m hm
            omega
        · have hq2 : up2 (offs (A.put 4 n 0) l1).lv 1 y false 1 q = true := hq
          by_cases e : q = y
          · rw [e, up2_same] at hq2; cases hq2
          · rw [up2_other _ _ (fun r => e r.2)] at hq2; exact hq2)
      have HL2 := hide2 L2
      have HK2 := hide2 hk2
      have HF2 := hide2 hF2
      simp at hlen
      have E1 : Hid (l1.length + 1 = (l1 ++ [y]).length) := hide2 (by simp)
      have HLL : Hid (l = (l1 ++ [y]) ++ l3) := hide2 (by rw [hll2]; simp)
      clear HTA a7 L2 hk2 hF2 hll2
      go_wp2
      go_roundw
      case rel => exact ⟨l1 ++ [y], l3, x2, K2, HLL.out, rfl, by rw [← E1.out]; go_num, hbd2.1, by omega, HC2, by rw [← E1.out]; omega, hide2 (by have q := HL2.out; rw [show u - 3 * l1.length - 3 = u - 3 * (l1 ++ [y]).length by rw [← E1.out]; omega, show M + 2 + l1.length + 1 = M + 2 + (l1 ++ [y]).length by rw [← E1.out]; omega] at q; exact q), HK2, HF2⟩
      case measure => simp [intOf]; omega
end
end Go.Proofs.YtohgjpljobmpaaaDoor
