/-
  TbB: Every call of what is not there, and of words that may not be. (Printed by gen_tbb.py.)
  TbC: take where there are too few cells; Node, Version, Txn then. (Printed by gen_tbc.py.)
-/
import Derived.Test.YtfhcphgjaobnoaaDoorTaF
set_option linter.unusedVariables false
set_option linter.unusedSimpArgs false
namespace Go.Proofs.YtfhcphgjaobnoaaDoor

section
open Go.RowKit Go.Maps

section
variable {w w' : World} {K : Nat → Prop} {sb d z M u : Nat} {A : Stt}
set_option maxRecDepth 100000 in
set_option maxHeartbeats 4000000 in
theorem Head_out (h : Rp w K sb d z M A u) {y : Int} (h1 : -9223372036854775808 ≤ y) (h2 : y ≤ 9223372036854775807) (hn : y < 0 ∨ A.lv 0 y.toNat = false)  :
    Calls Tryd.prog 25 #[.pointer (some ⟨sb, 0, none⟩), .int .i64 y] w fun e w' => e = .returned (.tuple #[.int .i64 0, .int .i64 110]) ∧ Below w.heap.size w w' := by
  obtain ⟨g, m0, m1, m2, T, N, m, F, own, pl, k1, h, r⟩ := h
  have HI := hide2 (nodeOf_out h h1 h2 hn)
  clear h r
  go_enter Tryd.func25, Tryd.ntmps25
  go_wp2_with fail
  refine HI.out.mono ?_
  rintro e w1 ⟨rfl, hb1⟩
  have HB := hide2 hb1
  have hs1 := hb1.size
  clear HI hb1
  go_wp2
  go_ret2
  exact ⟨rfl, HB.out.alloc hs1 _⟩
set_option maxRecDepth 100000 in
set_option maxHeartbeats 4000000 in
theorem Push_out (h : Rp w K sb d z M A u) {y : Int} (h1 : -9223372036854775808 ≤ y) (h2 : y ≤ 9223372036854775807) (hn : y < 0 ∨ A.lv 0 y.toNat = false) (y2 y3 : Int) :
    Calls Tryd.prog 27 #[.pointer (some ⟨sb, 0, none⟩), .int .i64 y, .int .i64 y2, .int .i64 y3] w fun e w' => e = .returned (.tuple #[.bool false, .int .i64 110]) ∧ Below w.heap.size w w' := by
  obtain ⟨g, m0, m1, m2, T, N, m, F, own, pl, k1, h, r⟩ := h
  have HI := hide2 (nodeOf_out h h1 h2 hn)
  clear h r
  go_enter Tryd.func27, Tryd.ntmps27
  go_wp2_with fail
  refine HI.out.mono ?_
  rintro e w1 ⟨rfl, hb1⟩
  have HB := hide2 hb1
  have hs1 := hb1.size
  clear HI hb1
  go_wp2
  go_ret2
  exact ⟨rfl, HB.out.alloc hs1 _⟩
set_option maxRecDepth 100000 in
set_option maxHeartbeats 4000000 in
theorem Begin_out (h : Rp w K sb d z M A u) {y : Int} (h1 : -9223372036854775808 ≤ y) (h2 : y ≤ 9223372036854775807) (hn : y < 0 ∨ A.lv 1 y.toNat = false)  :
    Calls Tryd.prog 47 #[.pointer (some ⟨sb, 0, none⟩), .int .i64 y] w fun e w' => e = .returned (.tuple #[.int .u64 0, .int .i64 110]) ∧ Below w.heap.size w w' := by
  obtain ⟨g, m0, m1, m2, T, N, m, F, own, pl, k1, h, r⟩ := h
  have HI := hide2 (versionOf_out h h1 h2 hn)
  clear h r
  go_enter Tryd.func47, Tryd.ntmps47
  go_wp2_with fail
  refine HI.out.mono ?_
  rintro e w1 ⟨rfl, hb1⟩
  have HB := hide2 hb1
  have hs1 := hb1.size
  clear HI hb1
  go_wp2
  go_ret2
  exact ⟨rfl, HB.out.alloc hs1 _⟩
set_option maxRecDepth 100000 in
set_option maxHeartbeats 4000000 in
theorem End_out (h : Rp w K sb d z M A u) {y : Int} (h1 : -9223372036854775808 ≤ y) (h2 : y ≤ 9223372036854775807) (hn : y < 0 ∨ A.lv 1 y.toNat = false)  :
    Calls Tryd.prog 48 #[.pointer (some ⟨sb, 0, none⟩), .int .i64 y] w fun e w' => e = .returned (.tuple #[.int .u64 0, .int .i64 110]) ∧ Below w.heap.size w w' := by
  obtain ⟨g, m0, m1, m2, T, N, m, F, own, pl, k1, h, r⟩ := h
  have HI := hide2 (versionOf_out h h1 h2 hn)
  clear h r
  go_enter Tryd.func48, Tryd.ntmps48
  go_wp2_with fail
  refine HI.out.mono ?_
  rintro e w1 ⟨rfl, hb1⟩
  have HB := hide2 hb1
  have hs1 := hb1.size
  clear HI hb1
  go_wp2
  go_ret2
  exact ⟨rfl, HB.out.alloc hs1 _⟩
set_option maxRecDepth 100000 in
set_option maxHeartbeats 4000000 in
theorem SetEnd_out (h : Rp w K sb d z M A u) {y : Int} (h1 : -9223372036854775808 ≤ y) (h2 : y ≤ 9223372036854775807) (hn : y < 0 ∨ A.lv 1 y.toNat = false) (x : Int) :
    Calls Tryd.prog 37 #[.pointer (some ⟨sb, 0, none⟩), .int .i64 y, .int .u64 x] w fun e w' => e = .returned (.int .i64 110) ∧ Below w.heap.size w w' := by
  obtain ⟨g, m0, m1, m2, T, N, m, F, own, pl, k1, h, r⟩ := h
  have HI := hide2 (versionOf_out h h1 h2 hn)
  clear h r
  go_enter Tryd.func37, Tryd.ntmps37
  go_wp2_with fail
  refine HI.out.mono ?_
  rintro e w1 ⟨rfl, hb1⟩
  have HB := hide2 hb1
  have hs1 := hb1.size
  clear HI hb1
  go_wp2
  go_ret
  exact ⟨rfl, HB.out.alloc hs1 _⟩
set_option maxRecDepth 100000 in
set_option maxHeartbeats 4000000 in
theorem Cut_out (h : Rp w K sb d z M A u) {y : Int} (h1 : -9223372036854775808 ≤ y) (h2 : y ≤ 9223372036854775807) (hn : y < 0 ∨ A.lv 1 y.toNat = false)  :
    Calls Tryd.prog 91 #[.pointer (some ⟨sb, 0, none⟩), .int .i64 y] w fun e w' => e = .returned (.tuple #[.int .i64 0, .int .i64 110]) ∧ Below w.heap.size w w' := by
  obtain ⟨g, m0, m1, m2, T, N, m, F, own, pl, k1, h, r⟩ := h
  have HI := hide2 (versionOf_out h h1 h2 hn)
  clear h r
  go_enter Tryd.func91, Tryd.ntmps91
  go_wp2_with fail
  refine HI.out.mono ?_
  rintro e w1 ⟨rfl, hb1⟩
  have HB := hide2 hb1
  have hs1 := hb1.size
  clear HI hb1
  go_wp2
  go_ret2
  exact ⟨rfl, HB.out.alloc hs1 _⟩
set_option maxRecDepth 100000 in
set_option maxHeartbeats 4000000 in
theorem Drop_out (h : Rp w K sb d z M A u) {y : Int} (h1 : -9223372036854775808 ≤ y) (h2 : y ≤ 9223372036854775807) (hn : y < 0 ∨ A.lv 0 y.toNat = false)  :
    Calls Tryd.prog 92 #[.pointer (some ⟨sb, 0, none⟩), .int .i64 y] w fun e w' => e = .returned (.int .i64 110) ∧ Below w.heap.size w w' := by
  obtain ⟨g, m0, m1, m2, T, N, m, F, own, pl, k1, h, r⟩ := h
  have HI := hide2 (nodeOf_out h h1 h2 hn)
  clear h r
  go_enter Tryd.func92, Tryd.ntmps92
  go_wp2_with fail
  refine HI.out.mono ?_
  rintro e w1 ⟨rfl, hb1⟩
  have HB := hide2 hb1
  have hs1 := hb1.size
  clear HI hb1
  go_wp2
  go_ret
  exact ⟨rfl, HB.out.alloc hs1 _⟩
set_option maxRecDepth 100000 in
set_option maxHeartbeats 4000000 in
theorem Chain_out (h : Rp w K sb d z M A u) {y : Int} (h1 : -9223372036854775808 ≤ y) (h2 : y ≤ 9223372036854775807) (hn : y < 0 ∨ A.lv 0 y.toNat = false)  :
    Calls Tryd.prog 46 #[.pointer (some ⟨sb, 0, none⟩), .int .i64 y] w fun e w' => e = .returned (.slice none 0 0) ∧ Below w.heap.size w w' := by
  have HI := hide2 (Head_out h h1 h2 hn)
  clear h
  go_enter Tryd.func46, Tryd.ntmps46
  go_wp2_with fail
  refine HI.out.mono ?_
  rintro e w1 ⟨rfl, hb1⟩
  have HB := hide2 hb1
  have hs1 := hb1.size
  clear HI hb1
  go_wp2
  go_ret
  exact ⟨rfl, HB.out⟩
set_option maxRecDepth 100000 in
set_option maxHeartbeats 4000000 in
theorem SetEnd_form (h : Rp w K sb d z M A u) {n : Nat} (hn : A.lv 1 n = true) (x : Int) (hx : 0 ≤ x) (hf : ptO x = false) :
    Calls Tryd.prog 37 #[.pointer (some ⟨sb, 0, none⟩), .int .i64 (n : Int), .int .u64 x] w fun e w' => e = .returned (.int .i64 50) ∧ Below w.heap.size w w' := by
  obtain ⟨g, m0, m1, m2, T, N, m, F, own, pl, k1, h, r1, r2, r3, r4, r5⟩ := h
  have hnb := h.ok.n1 1 n hn
  have hnl := r5 1
  have HFD := hide2 (versionOf_in h hn (by omega))
  have HME := hide2 (fun u : World => mayEnd_any x u hx)
  rw [hf] at HME
  clear h r5 hf
  go_enter Tryd.func37, Tryd.ntmps37
  go_wp2_with fail
  refine HFD.out.mono ?_
  rintro e w1 ⟨rfl, hb1⟩
  have HB := hide2 hb1
  have hs1 := hb1.size
  clear HFD hb1
  go_wp2_with fail
  refine (HME.out _).mono ?_
  rintro e w4 ⟨rfl, q4⟩
  subst q4
  clear HME
  go_wp2
  go_ret
  exact ⟨rfl, HB.out.alloc hs1 _⟩
set_option maxRecDepth 100000 in
set_option maxHeartbeats 4000000 in
theorem Version_form (h : Rp w K sb d z M A u) {t : ByteArray} (ht : t.size ≤ 64) (b x : Int) (hb : 0 ≤ b) (hf : mbg b = false) :
    Calls Tryd.prog 26 #[.pointer (some ⟨sb, 0, none⟩), .string t, .int .u64 b, .int .i64 x] w fun e w' => e = .returned (.tuple #[.int .i64 0, .int .i64 50]) ∧ w' = w := by
  obtain ⟨g, m0, m1, m2, T, N, m, F, own, pl, k1, h, r⟩ := h
  have HI := hide2 (isNone_any (w := w) h.st.cells.1)
  have HMB := hide2 (mayBegin_any b w hb)
  rw [hf] at HMB
  have d1 : decide ((64 : Int) < (t.size : Int)) = false := by simp; omega
  have d2 : ¬ (64 : Int) < (t.size : Int) := by omega
  clear h r hf
  go_enter Tryd.func26, Tryd.ntmps26
  go_wp2_with fail
  refine HI.out.mono ?_
  rintro e wa ⟨rfl, qa⟩
  subst qa
  clear HI
  go_wp2_with fail
  refine HMB.out.mono ?_
  rintro e wb ⟨rfl, qb⟩
  subst qb
  clear HMB
  go_wp2
  go_ret2
  exact ⟨rfl, rfl⟩
set_option maxRecDepth 100000 in
set_option maxHeartbeats 4000000 in
theorem Version_none (h : Rp w K sb d z M A u) {t : ByteArray} (ht : t.size ≤ 64) (b x : Int) (hb : 0 ≤ b) (hf : mbg b = true) (h1 : -9223372036854775808 ≤ x) (h2 : x ≤ 9223372036854775807) (hx0 : x ≠ 0) (hx : x < 0 ∨ A.lv 1 x.toNat = false) :
    Calls Tryd.prog 26 #[.pointer (some ⟨sb, 0, none⟩), .string t, .int .u64 b, .int .i64 x] w fun e w' => e = .returned (.tuple #[.int .i64 0, .int .i64 110]) ∧ Below w.heap.size w w' := by
  obtain ⟨g, m0, m1, m2, T, N, m, F, own, pl, k1, h, r⟩ := h
  have HI := hide2 (isNone_any (w := w) h.st.cells.1)
  have HMB := hide2 (mayBegin_any b w hb)
  rw [hf] at HMB
  have HHS := hide2 (hasV_out h.st.lt h.st.cells.2.2.2.2.1 h.p1 h1 h2 (fOf_out hx))
  have d1 : decide ((64 : Int) < (t.size : Int)) = false := by simp; omega
  have d2 : ¬ (64 : Int) < (t.size : Int) := by omega
  have d3 : decide (x = 0) = false := by simp [hx0]
  clear h r hf hx
  go_enter Tryd.func26, Tryd.ntmps26
  go_wp2_with fail
  refine HI.out.mono ?_
  rintro e wa ⟨rfl, qa⟩
  subst qa
  clear HI
  go_wp2_with fail
  refine HMB.out.mono ?_
  rintro e wb ⟨rfl, qb⟩
  subst qb
  clear HMB
  go_wp2_with fail
  refine HHS.out.mono ?_
  rintro e wc ⟨rfl, hbc⟩
  have HB := hide2 hbc
  clear HHS hbc
  go_wp2
  go_ret2
  exact ⟨rfl, HB.out⟩
set_option maxRecDepth 100000 in
set_option maxHeartbeats 4000000 in
theorem Push_old (h : Rp w K sb d z M A u) {n : Nat} (hn : A.lv 0 n = true) {old now : Int} (h1 : -9223372036854775808 ≤ old) (h2 : old ≤ 9223372036854775807) (ho0 : old ≠ 0) (ho : old < 0 ∨ A.lv 1 old.toNat = false) :
    Calls Tryd.prog 27 #[.pointer (some ⟨sb, 0, none⟩), .int .i64 (n : Int), .int .i64 old, .int .i64 now] w fun e w' => e = .returned (.tuple #[.bool false, .int .i64 110]) ∧ Below w.heap.size w w' := by
  obtain ⟨g, m0, m1, m2, T, N, m, F, own, pl, k1, h, r1, r2, r3, r4, r5⟩ := h
  have hnb := h.ok.n1 0 n hn
  have hnl := r5 0
  have hl1 := r5 1
  have HFD := hide2 (nodeOf_in h hn (by omega))
  have H := hide2 h
  have d3 : decide (old = 0) = false := by simp [ho0]
  have HO := hide2 ho
  clear h r5 ho
  go_enter Tryd.func27, Tryd.ntmps27
  go_wp2_with fail
  refine HFD.out.mono ?_
  rintro e w1 ⟨rfl, hb1⟩
  obtain ⟨W2, hW2⟩ : ∃ x, x = w1.alloc (.cells #[.int .i64 (pl 0 n : Int), .int .i64 (pl 1 n : Int)] 91) := ⟨_, rfl⟩
  have hb2 : Below w1.heap.size w1 W2 := by rw [hW2]; exact (Below.refl _ _).alloc (Nat.le_refl _) _
  have hs1 := hb1.size
  have HB2 : Hid (Below w.heap.size w W2) := hide2 (hb1.trans ⟨hb2.os, hb2.tape, hb2.output, hb2.size, fun j hj => hb2.block j (by omega)⟩)
  have h2' := (H.out.below hb1).below hb2
  have HHO := hide2 (hasV_out h2'.st.lt h2'.st.cells.2.2.2.2.1 h2'.p1 h1 h2 (fOf_out HO.out))
  clear HFD hb1 hb2 h2'
  go_wp2_with fail
  rw [← hW2]
  clear hW2
  refine HHO.out.mono ?_
  rintro e w3 ⟨rfl, hb3⟩
  have HB3 : Hid (Below w.heap.size w w3) := hide2 (HB2.out.trans ⟨hb3.os, hb3.tape, hb3.output, hb3.size, fun j hj => hb3.block j (by have := HB2.out.size; omega)⟩)
  clear HHO hb3
  go_wp2
  go_ret2
  exact ⟨rfl, HB3.out⟩
set_option maxRecDepth 100000 in
set_option maxHeartbeats 4000000 in
theorem Push_now_zero (h : Rp w K sb d z M A u) {n : Nat} (hn : A.lv 0 n = true) {now : Int} (h1 : -9223372036854775808 ≤ now) (h2 : now ≤ 9223372036854775807) (ho : now < 0 ∨ A.lv 1 now.toNat = false) :
    Calls Tryd.prog 27 #[.pointer (some ⟨sb, 0, none⟩), .int .i64 (n : Int), .int .i64 0, .int .i64 now] w fun e w' => e = .returned (.tuple #[.bool false, .int .i64 110]) ∧ Below w.heap.size w w' := by
  obtain ⟨g, m0, m1, m2, T, N, m, F, own, pl, k1, h, r1, r2, r3, r4, r5⟩ := h
  have hnb := h.ok.n1 0 n hn
  have hnl := r5 0
  have hl1 := r5 1
  have HFD := hide2 (nodeOf_in h hn (by omega))
  have H := hide2 h
  have HO := hide2 ho
  clear h r5 ho
  go_enter Tryd.func27, Tryd.ntmps27
  go_wp2_with fail
  refine HFD.out.mono ?_
  rintro e w1 ⟨rfl, hb1⟩
  obtain ⟨W2, hW2⟩ : ∃ x, x = w1.alloc (.cells #[.int .i64 (pl 0 n : Int), .int .i64 (pl 1 n : Int)] 91) := ⟨_, rfl⟩
  have hb2 : Below w1.heap.size w1 W2 := by rw [hW2]; exact (Below.refl _ _).alloc (Nat.le_refl _) _
  have hs1 := hb1.size
  have HB2 : Hid (Below w.heap.size w W2) := hide2 (hb1.trans ⟨hb2.os, hb2.tape, hb2.output, hb2.size, fun j hj => hb2.block j (by omega)⟩)
  have h2' := (H.out.below hb1).below hb2
  have HHO := hide2 (hasV_out h2'.st.lt h2'.st.cells.2.2.2.2.1 h2'.p1 h1 h2 (fOf_out HO.out))
  clear HFD hb1 hb2 h2'
  go_wp2_with fail
  rw [← hW2]
  clear hW2
  refine HHO.out.mono ?_
  rintro e w3 ⟨rfl, hb3⟩
  have HB3 : Hid (Below w.heap.size w w3) := hide2 (HB2.out.trans ⟨hb3.os, hb3.tape, hb3.output, hb3.size, fun j hj => hb3.block j (by have := HB2.out.size; omega)⟩)
  clear HHO hb3
  go_wp2
  go_ret2
  exact ⟨rfl, HB3.out⟩
set_option maxRecDepth 100000 in
set_option maxHeartbeats 4000000 in
theorem Push_now_old (h : Rp w K sb d z M A u) {n : Nat} (hn : A.lv 0 n = true) {old : Nat} {now : Int} (hold : A.lv 1 old = true) (h1 : -9223372036854775808 ≤ now) (h2 : now ≤ 9223372036854775807) (ho : now < 0 ∨ A.lv 1 now.toNat = false) :
    Calls Tryd.prog 27 #[.pointer (some ⟨sb, 0, none⟩), .int .i64 (n : Int), .int .i64 (old : Int), .int .i64 now] w fun e w' => e = .returned (.tuple #[.bool false, .int .i64 110]) ∧ Below w.heap.size w w' := by
  obtain ⟨g, m0, m1, m2, T, N, m, F, own, pl, k1, h, r1, r2, r3, r4, r5⟩ := h
  have hnb := h.ok.n1 0 n hn
  have hnl := r5 0
  have hl1 := r5 1
  have HFD := hide2 (nodeOf_in h hn (by omega))
  have H := hide2 h
  have hod := h.ok.n1 1 old hold
  have d3 : ¬ ((old : Int) = 0) := by omega
  have d4 : decide ((old : Int) = 0) = false := by simp; omega
  have HOLD := hide2 hold
  clear hold
  have HO := hide2 ho
  clear h r5 ho
  go_enter Tryd.func27, Tryd.ntmps27
  go_wp2_with fail
  refine HFD.out.mono ?_
  rintro e w1 ⟨rfl, hb1⟩
  obtain ⟨W2, hW2⟩ : ∃ x, x = w1.alloc (.cells #[.int .i64 (pl 0 n : Int), .int .i64 (pl 1 n : Int)] 91) := ⟨_, rfl⟩
  have hb2 : Below w1.heap.size w1 W2 := by rw [hW2]; exact (Below.refl _ _).alloc (Nat.le_refl _) _
  have hs1 := hb1.size
  have HB2 : Hid (Below w.heap.size w W2) := hide2 (hb1.trans ⟨hb2.os, hb2.tape, hb2.output, hb2.size, fun j hj => hb2.block j (by omega)⟩)
  have h2' := (H.out.below hb1).below hb2
  have HHO := hide2 (hasV_in h2'.st.lt h2'.st.cells.2.2.2.2.1 h2'.p1 (n := (old : Int)) (by omega) (by omega) (fOf_in HOLD.out))
  have H2 := hide2 h2'
  clear HFD hb1 hb2 h2'
  go_wp2_with fail
  rw [← hW2]
  clear hW2
  refine HHO.out.mono ?_
  rintro e w3 ⟨rfl, hb3⟩
  have h3 := H2.out.below hb3
  have HHN := hide2 (hasV_out h3.st.lt h3.st.cells.2.2.2.2.1 h3.p1 h1 h2 (fOf_out HO.out))
  have HB3 : Hid (Below w.heap.size w w3) := hide2 (HB2.out.trans ⟨hb3.os, hb3.tape, hb3.output, hb3.size, fun j hj => hb3.block j (by have := HB2.out.size; omega)⟩)
  clear HHO hb3 h3
  go_wp2_with fail
  refine HHN.out.mono ?_
  rintro e w4 ⟨rfl, hb4⟩
  have HB4 : Hid (Below w.heap.size w w4) := hide2 (HB3.out.trans ⟨hb4.os, hb4.tape, hb4.output, hb4.size, fun j hj => hb4.block j (by have := HB3.out.size; omega)⟩)
  clear HHN hb4
  go_wp2
  go_ret2
  exact ⟨rfl, HB4.out⟩
end
end

section
open Go.RowKit Go.Maps

theorem bool_ext2 {L M : List Bool} (h : L.length = M.length) (he : ∀ k, L.getD k false = M.getD k false) : L = M := by
  apply List.ext_getElem h
  intro i h1 h2
  have := he i
  simpa [List.getD, List.getElem?_eq_getElem h1, List.getElem?_eq_getElem h2] using this
theorem tclr_len : ∀ (cs : List Nat) (T : List Bool), (tclr T cs).length = T.length
  | [], T => rfl
  | c :: cs, T => by rw [tclr_cons, tclr_len cs]; simp
theorem back_same {T : List Bool} {cs : List Nat} (h : Fresh T cs) : tclr (tset T cs) cs = T := by
  apply bool_ext2 (by rw [tclr_len, tset_len])
  intro k
  rw [tclr_at, tset_at, tset_len]
  by_cases hk : k ∈ cs
  · have h1 := h.2 k hk
    have hl := getD_free h1
    rw [if_pos ⟨hk, hl⟩]
    simp only [List.getD, List.getElem?_eq_getElem hl] at h1 ⊢
    exact h1.symm
  · rw [if_neg (fun q => hk q.1), if_neg (fun q => hk q.1)]
/-- What a take that is refused leaves. -/
def TakeF (w w' : World) (d g : Nat) (T : List Bool) (N : List Int) (m : Int) : Prop :=
  ∃ (N' : List Int) (F' : List Nat), Aw w' d g T N' m F' ∧ (∀ c, T.getD c false = true → N'.getD c 0 = N.getD c 0) ∧ N'.length = N.length ∧ Fr (fun j => j = d ∨ j = g) w w'

section
variable {w : World} {sb d g sg : Nat} {T : List Bool} {N : List Int} {m : Int} {F : List Nat}
theorem giveBack_none (ao : Option Addr) (cap : Nat) (p : Value) : Calls Tryd.prog 82 #[p, .slice ao 0 cap] w fun e w' => e = .returned (.tuple #[]) ∧ w' = w := by
  go_enter Tryd.func82, Tryd.ntmps82
  go_wp2
  go_loopw [8] (fun i wr => i = .int .i64 0 ∧ wr = w) (fun _ _ => 0)
  case atStart => exact ⟨rfl, rfl⟩
  case round =>
    obtain ⟨rfl, rfl⟩ := hrel
    go_wp2
    go_end0
    exact ⟨rfl, rfl⟩
set_option maxRecDepth 100000 in
set_option maxHeartbeats 4000000 in
theorem take_full {n cap : Nat} {xs : List Int} (hc : w.cell? ⟨sb, 0, none⟩ = some (.pointer (some ⟨d, 0, none⟩))) (hl : sb < w.heap.size) (h : Aw w d g T N m F) (hT : Tab w) (hd0 : d ≠ 0) (hg0 : g ≠ 0) (hsd : sb ≠ d) (hsg : sb ≠ g)
    (hx : xs.length = n) (hn : n ≤ 1000) (hcap : n ≤ cap) (hcm : cap ≤ maxLen) (hgl : sg < w.heap.size) (hgd : sg ≠ d) (hgg : sg ≠ g) (hnum : ∀ (i : Nat) (x : Int), xs[i]? = some x → w.cell? ⟨sg, i, none⟩ = some (.int .u64 x)) (hbd : ∀ x ∈ xs, 0 ≤ x ∧ x ≤ 18446744073709551615)
    (hroom : T.length < T.count true + n) (hm : 0 ≤ m ∧ m < 4000000000000000000) :
    Calls Tryd.prog 55 #[.pointer (some ⟨sb, 0, none⟩), .slice (some ⟨sg, 0, none⟩) n cap] w fun e w' => e = .returned (.tuple #[.slice none 0 0, .int .i64 31]) ∧ TakeF w w' d g T N m := by
  obtain ⟨i0, hi0, z0, z1, z2⟩ := info_parts infoH
  have hdl := h.ab.lt
  have hgl2 := h.nb.lt
  have hlen := h.len
  unfold maxLen at hcm
  have HT := hide2 hT
  have H := hide2 h
  have HNUM := hide2 hnum
  have HBD := hide2 hbd
  have hzl : N.length ≤ 65536 := h.one.2
  clear h hT hnum hbd
  go_enter Tryd.func55, Tryd.ntmps55
  go_wp2
  go_loopw [6, 13] (fun v i wr => ∃ (cs : List Nat) (N' : List Int) (F' : List Nat), cs.length ≤ n ∧ i = .int .i64 (cs.length : Nat) ∧ Hid (Fresh T cs) ∧ Hid (Hr wr w.heap.size v cs) ∧ Hid (Aw wr d g (tset T cs) N' m F') ∧ Hid (∀ c ∈ cs, N'.getD c 0 = 0) ∧ Hid (∀ c, c ∉ cs → N'.getD c 0 = N.getD c 0) ∧ Hid ((tset T cs).count true = T.count true + cs.length) ∧ Hid (Fr (fun j => j = d ∨ j = g) w wr)) (fun _ i _ => n - (intOf i).toNat)
  case atStart =>
    exact ⟨[], N, F, Nat.zero_le _, rfl, hide2 ⟨List.nodup_nil, fun _ h => (nomatch h)⟩, hide2 ⟨rfl, .inl ⟨rfl, rfl⟩⟩, H, hide2 (fun _ h => (nomatch h)), hide2 (fun _ _ => rfl), hide2 rfl, hide2 (Fr.refl _ w)⟩
  case round =>
    obtain ⟨cs, N', F', hkn, rfl, HFS, HR, HA, HZ, HN, HC, HF⟩ := hrel
    have hsz := HF.out.size
    have hc1 : wr.cell? ⟨sb, 0, none⟩ = some (.pointer (some ⟨d, 0, none⟩)) := (HF.out.cell (p := ⟨sb, 0, none⟩) hl (by rintro (e | e); exact hsd e; exact hsg e)).trans hc
    have hk : cs.length < n := by
      have := HC.out
      have := List.count_le_length (a := true) (l := tset T cs)
      rw [tset_len] at this
      omega
    by_cases hfree : (tset T cs).count true < T.length
    · have hki : (cs.length : Int) < (n : Int) := by omega
      have hki2 : decide ((cs.length : Int) < (n : Int)) = true := by simp; omega
      obtain ⟨c, hcf, hmin⟩ := least_free (tset T cs) (by rw [tset_len]; exact hfree)
      have hcl := getD_free hcf
      have ha := Alloc_one HA.out (HT.out.fr HF.out (by rintro (e | e); exact hd0 e.symm; exact hg0 e.symm)) c hcf hmin hd0 hg0
      rw [← tset_snoc] at ha
      have HAL := hide2 ha
      have hcnt := count_on hcl hcf
      rw [← tset_snoc, HC.out] at hcnt
      have HFS2 := hide2 (HFS.out.snoc hcf)
      have hl' : c < N'.length := by rw [← HA.out.len]; exact hcl
      have hcn : c ∉ cs := by
        intro q
        have := HFS2.out.1
        rw [List.nodup_append] at this
        exact this.2.2 c q c (by simp) rfl
      have HZ2 : Hid (∀ x ∈ cs ++ [c], (N'.set c 0).getD x 0 = 0) := hide2 (fun x hx => by
        rw [getD_set]
        by_cases e : x = c
        · rw [if_pos ⟨e, hl'⟩]
        · rw [if_neg (fun q => e q.1)]
          rcases List.mem_append.1 hx with q | q
          · exact HZ.out x q
          · simp at q; exact absurd q e)
      have HN2 : Hid (∀ x, x ∉ cs ++ [c] → (N'.set c 0).getD x 0 = N.getD x 0) := hide2 (fun x hx => by
        have h1 : x ∉ cs := fun q => hx (List.mem_append.2 (.inl q))
        have h2 : x ≠ c := fun q => hx (List.mem_append.2 (.inr (by simp [q])))
        rw [getD_set, if_neg (fun q => h2 q.1), HN.out x h1])
      have HC2 : Hid ((tset T (cs ++ [c])).count true = T.count true + (cs ++ [c]).length) := hide2 (by rw [hcnt]; simp; omega)
      have hcs : c < 65536 := by rw [tset_len] at hcl; omega
      clear ha hcf hmin hcnt HZ HN HC
      obtain ⟨ao, capv, ev⟩ := HR.out.form
      subst ev
      go_wp2_with fail
      refine HAL.out.mono ?_
      rintro e w1 ⟨rfl, hA1, hF1⟩
      have hr1 : Hr w1 w.heap.size (.slice ao cs.length capv) cs := hrow_fr HR.out hF1 (fun j e => by
        have := (World.ownsRow.lt HR.out j e).1
        rintro (q | q) <;> omega)
      have HR1 : Hid (w1.ownsRow w.heap.size 3 1 (.slice ao cs.length capv) cs.length (cs.map nv)) := hide2 hr1
      have HA1 := hide2 hA1
      have HF1 := hide2 (HF.out.trans hF1 (fun j e => .inl e))
      have hs1 := HF1.out.size
      have HNEW := hide2 (hcell_new w1 (.int .i64 (c : Int)) 3)
      clear HAL hA1 hF1 hr1
      go_wp2_with (at_builtin; refine Hid.out ?_)
      refine hide2 ?_
      refine wpList_append_own_at _ rfl _ _ 29 rfl w.heap.size 3 i0 (.int .i64 0) 1 8 Tryd.underlying29 hi0 z0 z1 z2 rfl (by decide) (.slice ao cs.length capv) _ _ rfl (World.ownsRow.alloc HR1.out _) ⟨w1.heap.size, 0, none⟩ 1 1 [.int .i64 (c : Int)] rfl rfl HNEW.out (by simp [Value.oneCell']) (by unfold maxLen; omega) (by omega) (by simp; omega) ?_
      intro v' w4 hown4 hgrow4 hat4 hb4
      obtain ⟨gt, capt, ev⟩ := hrow_succ hown4
      have hFg : Fr (fun j => w.heap.size ≤ j) w1 w4 := ((Fr.refl (fun j => w.heap.size ≤ j) w1).alloc (.cells #[.int .i64 (c : Int)] 3)).trans (G := fun j => w.heap.size ≤ j) (Fr.grown hgrow4 (fun j e => (World.ownsRow.lt HR1.out j e).1)) (fun j e => .inl e)
      have HA4 := hide2 (HA1.out.fr hFg (by omega) (by omega))
      have HF4 : Hid (Fr (fun j => j = d ∨ j = g) w w4) := hide2 (HF1.out.trans hFg (fun j e => .inr e))
      have HR4 : Hid (Hr w4 w.heap.size v' (cs ++ [c])) := hide2 (by
        unfold Hr
        rw [List.length_append, List.length_singleton, List.map_append]
        exact hown4)
      clear hown4 hgrow4 hat4 hb4 hFg HNEW HR1 HR HA1 HF1 HA HF
      subst ev
      go_frame
      go_wp2
      go_roundw
      case rel => exact ⟨cs ++ [c], N'.set c 0, _, by simp; omega, by simp, HFS2, HR4, HA4, HZ2, HN2, HC2, HF4⟩
      case measure => simp [intOf]; omega
    · have hki : (cs.length : Int) < (n : Int) := by omega
      have hki2 : decide ((cs.length : Int) < (n : Int)) = true := by simp; omega
      have hfl : (tset T cs).count true = (tset T cs).length := by
        have := List.count_le_length (a := true) (l := tset T cs)
        rw [tset_len] at this ⊢
        omega
      have HAL := hide2 (Alloc_full HA.out hfl)
      obtain ⟨ao, capv, ev⟩ := HR.out.form
      subst ev
      have FIN : Hid (∀ (w1 w2 : World), Fr (fun j => j = d ∨ j = g) wr w1 → Fr (fun j => j = d ∨ j = g) w1 w2 → (∃ F2, Aw w2 d g (tclr (tset T cs) cs) N' m F2) → TakeF w w2 d g T N m) := hide2 (fun w1 w2 f1 f2 ⟨F2, ha⟩ => by
        rw [back_same HFS.out] at ha
        refine ⟨N', F2, ha, fun c hc => HN.out c (fun q => ?_), ?_, (HF.out.trans f1 (fun j e => .inl e)).trans f2 (fun j e => .inl e)⟩
        · have h1 := HFS.out.2 c q
          have hl := getD_lt hc
          simp only [List.getD, List.getElem?_eq_getElem hl] at h1 hc
          simp only [Option.getD_some] at h1 hc
          rw [h1] at hc; cases hc
        · rw [← ha.len, ← H.out.len])
      clear hfl hfree
      go_wp2_with fail
      refine HAL.out.mono ?_
      rintro e w1 ⟨rfl, q, hw1⟩
      have hF1 : Fr (fun j => j = d ∨ j = g) wr w1 := by rw [hw1]; exact (Fr.refl _ wr).drewN q
      have hA1 : Aw w1 d g (tset T cs) N' m F' := by rw [hw1]; exact HA.out.same rfl rfl
      have hr1 : Hr w1 w.heap.size (.slice ao cs.length capv) cs := hrow_fr HR.out hF1 (fun j e => by
        have := (World.ownsRow.lt HR.out j e).1
        rintro (q | q) <;> omega)
      have hc2 : w1.cell? ⟨sb, 0, none⟩ = some (.pointer (some ⟨d, 0, none⟩)) := by rw [hw1]; exact hc1
      have hsz1 := hF1.size
      have HF1 := hide2 hF1
      by_cases hcs : cs.length = 0
      · have e0 : cs = [] := List.eq_nil_of_length_eq_zero hcs
        have HGB := hide2 (giveBack_none (w := w1) ao capv (.pointer (some ⟨sb, 0, none⟩)))
        have HA1 : Hid (∃ F2, Aw w1 d g (tclr (tset T cs) cs) N' m F2) := hide2 ⟨F', by rw [e0] at hA1 ⊢; exact hA1⟩
        clear HAL hw1 hF1 hA1 hr1 hc2 e0 hc1
        rw [hcs]
        clear hcs
        go_wp2_with fail
        refine HGB.out.mono ?_
        rintro e w2 ⟨rfl, q2⟩
        subst q2
        go_wp2
        go_ret2
        exact ⟨rfl, FIN.out _ _ HF1.out (Fr.refl _ _) HA1.out⟩
      · obtain ⟨gt, cp, egt, -⟩ := hr1.at (i := 0) (by omega)
        simp only [Value.slice.injEq, true_and] at egt
        obtain ⟨rfl, rfl⟩ := egt
        have hgt := World.ownsRow.lt hr1 gt rfl
        have hcells : ∀ (i c : Nat), cs[i]? = some c → w1.cell? ⟨gt, i, none⟩ = some (.int .i64 (c : Int)) := fun i c hi => by
          obtain ⟨gt2, cp2, e2, hcc⟩ := hr1.at (i := i) (List.getElem?_eq_some_iff.1 hi).1
          simp only [Value.slice.injEq, Option.some.injEq, Addr.mk.injEq, true_and, and_true] at e2
          obtain ⟨rfl, rfl⟩ := e2
          rw [hcc]
          simp [List.getD, hi]
        have hcapl : cs.length ≤ capv := by
          obtain ⟨ao3, cp3, e3, hsq⟩ := hr1.seq
          simp only [Value.slice.injEq, true_and] at e3
          obtain ⟨rfl, rfl⟩ := e3
          exact hsq.2.1
        have hcapm : capv ≤ maxLen := by
          obtain ⟨ao3, cp3, e3, hsq⟩ := hr1.seq
          simp only [Value.slice.injEq, true_and] at e3
          obtain ⟨rfl, rfl⟩ := e3
          exact hsq.2.2.1
        have HGB := hide2 (giveBack_any (w := w1) (sg := gt) (cs := cs) (n := cs.length) (cap := capv) hc2 (by omega) hA1 hsd hsg rfl (by omega) hcapl hcapm hgt.2 (by have := hgt.1; omega) (by have := hgt.1; omega) hcells HFS.out.1 (fun c hc => by
          rw [tset_at, if_pos ⟨hc, getD_free (HFS.out.2 c hc)⟩]))
        clear HAL hw1 hF1 hA1 hr1 hgt hcells hcapl hcapm hcs hc1
        go_wp2_with fail
        refine HGB.out.mono ?_
        rintro e w2 ⟨rfl, ha2, -, hF2⟩
        have HF2 := hide2 hF2
        have HA2 := hide2 ha2
        clear HGB hF2 ha2
        go_wp2
        go_ret2
        exact ⟨rfl, FIN.out _ _ HF1.out HF2.out HA2.out⟩
end
end
end Go.Proofs.YtfhcphgjaobnoaaDoor
