/-
  A key's bucket.
-/
import Derived.Test.YtbpihkojmbfccaaDoorHa7
import Derived.Test.YtbpihkojmbfccaaDoorCrc
import Derived.Test.YtbpihkojmbfccaaDoorClo
import Derived.Lib.ConvBytes
import Derived.Deep.RegionHeld3
set_option linter.unusedVariables false
set_option linter.unusedSimpArgs false
namespace Go.Proofs.YtbpihkojmbfccaaDoor
open Go.RowKit Go.Maps

/-- A text's bytes. -/
def kb (k : ByteArray) : List Int := k.data.toList.map fun b => (b.toNat : Int)
theorem kb_len (k : ByteArray) : (kb k).length = k.size := by unfold kb; rw [List.length_map]; cases k; rfl
theorem kb_byt (k : ByteArray) : Byt (kb k) := by
  intro x hx
  obtain ⟨b, _, rfl⟩ := List.mem_map.1 hx
  have := b.toNat_lt
  omega
theorem kb_at (k : ByteArray) (i : Nat) (h : i < k.size) : (kb k).getD i 0 = ((k.data.toList.getD i 0).toNat : Int) := by
  have h2 : i < k.data.toList.length := by cases k; exact h
  simp [kb, List.getD, List.getElem?_eq_getElem h2]

/-- A bucket's number. -/
def bkt (n : Nat) (k : ByteArray) : Nat := crc (kb k) % n

/-- '[]byte(k)'. -/
theorem conv_any (u : World) (k : ByteArray) (hk : k.size ≤ 16) : ∃ cap u', (convert 9 55 (.string k)).run Tryd.prog u = .ok (.slice (some ⟨u.heap.size, 0, none⟩) k.size cap) u' ∧ Sl u' (some ⟨u.heap.size, 0, none⟩) k.size cap (kb k) ∧ Below u.heap.size u u' ∧ u'.heap.size = u.heap.size + 1 := by
  refine ⟨_, _, Lib.run_convert_string_bytes u 9 55 5 k Tryd.underlying9 Tryd.underlying55 Tryd.underlying5, ⟨kb_len k, ?_, ?_, kb_byt k, fun e => (by cases e), fun _ => ⟨_, 0, rfl, ?_, fun i hi => ?_⟩⟩, ?_, Lib.bytesWorld_size _ _ _⟩
  · exact grownCap_ge u k.size 0 5
  · exact grownCap_le_maxLen u k.size 0 5 (by unfold maxLen; omega)
  · rw [Lib.bytesWorld_size]; omega
  · rw [Nat.zero_add, Lib.bytesWorld_cell u 5 k i hi, kb_at k i hi]
  · exact ⟨rfl, rfl, rfl, by rw [Lib.bytesWorld_size]; omega, fun j hj => Lib.bytesWorld_at_old _ _ _ j hj⟩

section
variable {w w' : World} {tb d mb : Nat} {sv : Value} {ao : Option Addr} {n cap : Nat}
theorem crc_lt (xs : List Int) (h : Byt xs) : crc xs < 4294967296 := xor_lt (cl_lt (by decide) h) (by decide)

set_option maxRecDepth 100000 in
set_option maxHeartbeats 4000000 in
theorem bucket_any (h : Tk4 w tb d (.slice ao n cap) mb sv) (hn : 1 ≤ n ∧ n ≤ 256) (k : ByteArray) (hk : good k = true) :
    Calls Tryd.prog 21 #[.pointer (some ⟨tb, 0, none⟩), .string k] w fun e w' => e = .returned (.int .i64 (bkt n k : Nat)) ∧ Below w.heap.size w w' := by
  obtain ⟨c0, c1, c2, c3⟩ := h.cells
  have hks : 1 ≤ k.size ∧ k.size ≤ 16 := by simpa [good] using hk
  have HN := hide2 (isNone_raw h hn.1)
  have hm := mayBe_any k (by unfold maxLen; omega) w
  rw [hk] at hm
  have HM := hide2 hm
  obtain ⟨cp, u', hconv, hsl, hb, hsz⟩ : ∃ cap u', (convert 9 55 (.string k)).run Tryd.prog w.drew = .ok (.slice (some ⟨w.heap.size, 0, none⟩) k.size cap) u' ∧ Sl u' (some ⟨w.heap.size, 0, none⟩) k.size cap (kb k) ∧ Below w.heap.size w.drew u' ∧ u'.heap.size = w.heap.size + 1 := conv_any w.drew k hks.2
  have hlt := h.lt
  have hu : u'.heap[tb]? = w.heap[tb]? := hb.block tb hlt
  have h1 := h.same hu
  obtain ⟨d0, d1, d2, d3⟩ := h1.cells
  obtain ⟨u2, hu2⟩ : ∃ x, x = u'.alloc (.cells #[.slice (some ⟨w.heap.size, 0, none⟩) k.size cp] 55) := ⟨_, rfl⟩
  have hb2 : Below u'.heap.size u' u2 := by rw [hu2]; exact (Below.refl _ _).alloc (Nat.le_refl _) _
  have hn2 : u2.heap[u'.heap.size]? = some (.cells #[.slice (some ⟨w.heap.size, 0, none⟩) k.size cp] 55 (0, 0)) := by rw [hu2]; exact heap_alloc_new u' _
  have hpl : Pl u2 (some ⟨u'.heap.size, 0, none⟩) 1 1 [kb k] := ⟨rfl, Nat.le_refl _, by decide, fun _ => ⟨_, 0, rfl, by rw [hu2]; simp, fun i hi => by
    obtain rfl : i = 0 := by omega
    exact ⟨_, _, _, by rw [Go.Joins.cell_of_block hn2]; rfl, hsl.below hb2⟩⟩⟩
  rw [hsz] at hpl
  have hcrc := crc_any _ _ _ _ u2 hpl
  have h2 := h1.same (hb2.block tb (by rw [hsz]; omega))
  obtain ⟨g0, g1, g2, g3⟩ := h2.cells
  rw [show [kb k].flatten = kb k by simp] at hcrc
  have hcl := crc_lt (kb k) (kb_byt k)
  have HC := hide2 hcrc
  have HB := hide2 (hb.trans (⟨hb2.os, hb2.tape, hb2.output, hb2.size, fun j hj => hb2.block j (by rw [hsz]; omega)⟩ : Below w.heap.size u' u2))
  have hBK : Hid (bkt n k = crc (kb k) % n) := hide2 rfl
  generalize hcc : crc (kb k) = C at *
  clear hpl hsl h h1 h2 hcc hcrc hb hb2 hn2
  have e1 : IntKind.u32.wrap (n : Int) = (n : Int) := by rw [IntKind.wrap_u32]; omega
  have e2 : ¬ n = 0 := by omega
  obtain ⟨R, HR⟩ : ∃ R : Nat, R = C % n := ⟨_, rfl⟩
  have hR : R < 4294967296 := by rw [HR]; exact Nat.lt_of_le_of_lt (Nat.mod_le _ _) hcl
  have e4 : (C : Int).tmod (n : Int) = (R : Int) := by rw [HR]; exact Int.ofNat_tmod C n
  have e5 : IntKind.i64.wrap (R : Int) = (R : Int) := by rw [IntKind.wrap_i64]; omega
  rw [← HR] at hBK
  clear HR
  subst hu2
  go_enter Tryd.func21, Tryd.ntmps21
  go_wp2_with fail
  refine HN.out.mono ?_
  rintro e w0 ⟨rfl, q0⟩
  subst q0
  go_wp2_with fail
  refine HM.out.mono ?_
  rintro e w0 ⟨rfl, q0⟩
  subst q0
  go_wp2
  refine wp_region_noPanic ?_
  refine wp_region_held_drew (S := (fun u : World => u.cell? ⟨tb, 1, none⟩ = some (.slice ao n cap))) (by kernel_rfl) (c1) (fun hHeld => ?_)
  refine wpAnyH_take (i := 0) (oi := { dst := some 12, op := _, type := _, pos := _, after := _, guard := _ }) (v := ?_) rfl (by kernel_rfl) (by kernel_rfl) (by kernel_rfl) (fun _ _ _ h => h) (Or.inl ⟨by rfl, ?_⟩) (by assumption) ?_
  rotate_left 1
  · intro u s1; go_simp; try with_reducible rfl
  try simp only [Act.put, List.setIfInBounds_toArray, List.set_cons_zero, List.set_cons_succ]
  refine wpAnyH_take (i := 4) (oi := { dst := some 16, op := _, type := _, pos := _, after := _, guard := _ }) (v := ?_) rfl (by kernel_rfl) (by kernel_rfl) (by kernel_rfl) (fun _ _ _ h => h) (Or.inl ⟨by rfl, ?_⟩) (by assumption) ?_
  rotate_left 1
  · intro u s1; go_simp; try with_reducible rfl
  try simp only [Act.put, List.setIfInBounds_toArray, List.set_cons_zero, List.set_cons_succ]
  refine wpAnyH_take (i := 5) (oi := { dst := some 17, op := _, type := _, pos := _, after := _, guard := _ }) (v := ?_) rfl (by kernel_rfl) (by kernel_rfl) (by kernel_rfl) (fun _ _ _ h => h) (Or.inl ⟨by rfl, ?_⟩) (by assumption) ?_
  rotate_left 1
  · intro u s1; go_simp; try with_reducible rfl
  try simp only [Act.put, List.setIfInBounds_toArray, List.set_cons_zero, List.set_cons_succ]
  refine wpAnyH_take (i := 6) (oi := { dst := some 18, op := _, type := _, pos := _, after := _, guard := _ }) (v := ?_) rfl (by kernel_rfl) (by kernel_rfl) (by kernel_rfl) (fun _ _ _ h => h) (Or.inl ⟨by rfl, ?_⟩) (by assumption) ?_
  rotate_left 1
  · intro u s1; go_simp; try with_reducible rfl
  try simp only [Act.put, List.setIfInBounds_toArray, List.set_cons_zero, List.set_cons_succ]
  refine wpAnyH_take (i := 7) (oi := { dst := some 19, op := _, type := _, pos := _, after := _, guard := _ }) (v := ?_) rfl (by kernel_rfl) (by kernel_rfl) (by kernel_rfl) (fun _ _ _ h => h) (Or.inl ⟨by rfl, ?_⟩) (by assumption) ?_
  rotate_left 1
  · intro u s1; go_simp; try with_reducible rfl
  try simp only [Act.put, List.setIfInBounds_toArray, List.set_cons_zero, List.set_cons_succ]
  refine wpAnyH_take (i := 8) (oi := { dst := some 20, op := _, type := _, pos := _, after := _, guard := _ }) (v := ?_) rfl (by kernel_rfl) (by kernel_rfl) (by kernel_rfl) (fun _ _ _ h => h) (Or.inl ⟨by rfl, ?_⟩) (by assumption) ?_
  rotate_left 1
  · intro u s1; go_simp; try with_reducible rfl
  try simp only [Act.put, List.setIfInBounds_toArray, List.set_cons_zero, List.set_cons_succ]
  refine wpAnyH_take (i := 9) (oi := { dst := some 21, op := _, type := _, pos := _, after := _, guard := _ }) (v := ?_) rfl (by kernel_rfl) (by kernel_rfl) (by kernel_rfl) (fun _ _ _ h => h) (Or.inl ⟨by rfl, ?_⟩) (by assumption) ?_
  rotate_left 1
  · intro u s1; go_simp; try with_reducible rfl
  try simp only [Act.put, List.setIfInBounds_toArray, List.set_cons_zero, List.set_cons_succ]
  refine wpAnyH_take (i := 10) (oi := { dst := some 22, op := _, type := _, pos := _, after := _, guard := _ }) (v := ?_) rfl (by kernel_rfl) (by kernel_rfl) (by kernel_rfl) (fun _ _ _ h => h) (Or.inl ⟨by rfl, ?_⟩) (by assumption) ?_
  rotate_left 1
  · intro u s1; go_simp; try with_reducible rfl
  try simp only [Act.put, List.setIfInBounds_toArray, List.set_cons_zero, List.set_cons_succ]
  refine wpAnyH_ready (rs := [1]) (by kernel_rfl) (by simp) ?_
  refine AllReadyH.cons (o := { dst := some 13, op := _, type := _, pos := _, after := _, guard := _ }) rfl (fun K hK => ?_) AllReadyH.nil
  go_simp
  refine hK.out _ _ (d1) (fun hHeld => ?_)
  clear hK K
  try simp only [Act.put, List.setIfInBounds_toArray, List.set_cons_zero, List.set_cons_succ]
  refine wpAnyH_ready (rs := [2]) (by kernel_rfl) (by simp) ?_
  refine AllReadyH.cons (o := { dst := some 14, op := _, type := _, pos := _, after := _, guard := _ }) rfl (fun K hK => ?_) AllReadyH.nil
  go_simp
  refine hK.out _ _ (g1) (fun hHeld => ?_)
  clear hK K
  try simp only [Act.put, List.setIfInBounds_toArray, List.set_cons_zero, List.set_cons_succ]
  refine wpAnyH_ready (rs := [3]) (by kernel_rfl) (by simp) ?_
  refine AllReadyH.cons (o := { dst := some 15, op := _, type := _, pos := _, after := _, guard := _ }) rfl (fun K hK => ?_) AllReadyH.nil
  go_simp
  refine HC.out.mono ?_
  rintro e w1 ⟨rfl, q1⟩
  subst q1
  go_wp2_with fail
  refine hK.out _ _ (g1) (fun hHeld => ?_)
  clear hK K
  try simp only [Act.put, List.setIfInBounds_toArray, List.set_cons_zero, List.set_cons_succ]
  refine wpAnyH_take (i := 11) (oi := { dst := some 23, op := _, type := _, pos := _, after := _, guard := _ }) (v := ?_) rfl (by kernel_rfl) (by kernel_rfl) (by kernel_rfl) (fun _ _ _ h => h) (Or.inl ⟨by rfl, ?_⟩) (by assumption) ?_
  rotate_left 1
  · intro u s1; go_simp; try with_reducible rfl
  try simp only [Act.put, List.setIfInBounds_toArray, List.set_cons_zero, List.set_cons_succ]
  refine wpAnyH_take (i := 12) (oi := { dst := some 24, op := _, type := _, pos := _, after := _, guard := _ }) (v := ?_) rfl (by kernel_rfl) (by kernel_rfl) (by kernel_rfl) (fun _ _ _ h => h) (Or.inl ⟨by rfl, ?_⟩) (by assumption) ?_
  rotate_left 1
  · intro u s1; go_simp; try with_reducible rfl
  try simp only [Act.put, List.setIfInBounds_toArray, List.set_cons_zero, List.set_cons_succ]
  refine wpAnyH_take (i := 13) (oi := { dst := some 4, op := _, type := _, pos := _, after := _, guard := _ }) (v := ?_) rfl (by kernel_rfl) (by kernel_rfl) (by kernel_rfl) (fun _ _ _ h => h) (Or.inl ⟨by rfl, ?_⟩) (by assumption) ?_
  rotate_left 1
  · intro u s1; go_simp; try with_reducible rfl
  try simp only [Act.put, List.setIfInBounds_toArray, List.set_cons_zero, List.set_cons_succ]
  refine wpAnyH_done (by kernel_rfl) ?_ _
  refine NoPanic.normal ?_
  go_wp2
  go_ret
  exact ⟨ret_int (by rw [hBK.out]), ⟨HB.out.os, HB.out.tape, HB.out.output, HB.out.size, HB.out.block⟩⟩

set_option maxRecDepth 100000 in
set_option maxHeartbeats 1000000 in
theorem bucket_bad (h : Tk4 w tb d (.slice ao n cap) mb sv) (hn : 1 ≤ n) (k : ByteArray) (hkl : k.size ≤ maxLen) (hk : good k = false) :
    Calls Tryd.prog 21 #[.pointer (some ⟨tb, 0, none⟩), .string k] w fun e w' => e = .returned (.int .i64 0) ∧ w' = w := by
  have HN := hide2 (isNone_raw h hn)
  have hm := mayBe_any k hkl w
  rw [hk] at hm
  have HM := hide2 hm
  clear hm h
  go_enter Tryd.func21, Tryd.ntmps21
  go_wp2_with fail
  refine HN.out.mono ?_
  rintro e w0 ⟨rfl, q0⟩
  subst q0
  go_wp2_with fail
  refine HM.out.mono ?_
  rintro e w0 ⟨rfl, q0⟩
  subst q0
  go_wp2
  go_ret
  exact ⟨rfl, rfl⟩
set_option maxHeartbeats 1000000 in
theorem bucket_nil (w : World) (k : ByteArray) :
    Calls Tryd.prog 21 #[.pointer none, .string k] w fun e w' => e = .returned (.int .i64 0) ∧ w' = w := by
  have HN := hide2 (isNone_nil w)
  go_enter Tryd.func21, Tryd.ntmps21
  go_wp2_with fail
  refine HN.out.mono ?_
  rintro e w0 ⟨rfl, q0⟩
  subst q0
  go_wp2
  go_ret
  exact ⟨rfl, rfl⟩
end
end Go.Proofs.YtbpihkojmbfccaaDoor
