/-
  The law's examples; of nothing there is nothing: StoreNone. (Printed by gen_tad.py.)
-/
import Derived.Test.YtohgjpljobmpaaaDoorTaB
import Derived.Test.YtohgjpljobmpaaaDoorTaC
import Derived.Test.YtohgjpljobmpaaaDoorTaA
import Derived.Test.YtohgjpljobmpaaaDoorC9
set_option linter.unusedVariables false
set_option linter.unusedSimpArgs false
namespace Go.Proofs.YtohgjpljobmpaaaDoor
open Go.RowKit Go.Maps

/-- A store that a call has made. -/
structure Lv (w wk : World) (K : Nat → Prop) (sb d z M : Nat) (A : Stt) (u : Nat) : Prop where
  rp : Rp wk K sb d z M A u
  kb : ∀ j, K j → w.heap.size ≤ j
  bl : Below w.heap.size w wk
section
variable {w w1 w2 w' : World} {K : Nat → Prop} {sb d z M M' u u' : Nat} {A A' : Stt}
theorem Lv.step (h : Lv w w1 K sb d z M A u) (ha : Aft w1 w2 K sb d z M' A' u') : ∃ K', Lv w w2 K' sb d z M' A' u' ∧ (∀ j, j < w1.heap.size → (K' j ↔ K j)) ∧ Fr K w1 w2 := by
  obtain ⟨K', hr, hk, hF⟩ := ha
  refine ⟨K', ⟨hr, fun j hj => ?_, h.bl.trans (hF.to (fun j hj e => ?_) h.bl.size)⟩, hk, hF⟩
  · rcases Nat.lt_or_ge j w1.heap.size with q | q
    · exact h.kb j ((hk j q).1 hj)
    · have := h.bl.size; omega
  · have := h.kb j e; omega
theorem Lv.below (h : Lv w w1 K sb d z M A u) (hb : Below w1.heap.size w1 w2) : Lv w w2 K sb d z M A u :=
  ⟨h.rp.below hb, h.kb, h.bl.trans ⟨hb.os, hb.tape, hb.output, hb.size, fun j hj => hb.block j (by have := h.bl.size; omega)⟩⟩
theorem Lv.up {M' : Nat} (h : Lv w w1 K sb d z M A u) (hM : M ≤ M') : Lv w w1 K sb d z M' A u := ⟨h.rp.up hM, h.kb, h.bl⟩
/-- New of an arena, and of a store over it. -/
theorem lv_new {g : Nat} {F : List Nat} (hT : Tab w) (hb1 : Below w.heap.size w w1) (hA : Aw w1 (w.heap.size + 1) w.heap.size (List.replicate z false) (List.replicate z 0) 0 F) :
    Calls Tryd.prog 9 #[.pointer (some ⟨w.heap.size + 1, 0, none⟩)] w1 fun e w' => e = .returned (.tuple #[.pointer (some ⟨w1.heap.size, 0, none⟩), .int .i64 0]) ∧ ∃ K, Lv w w' K w1.heap.size (w.heap.size + 1) z 0 Stt.zero 0 := by
  have h0 := hT.1
  have hs := hb1.size
  refine (snew_any hA (hT.fr (Fr.below (F := fun _ => False) hb1) id) (by omega) (by omega)).mono ?_
  rintro e w' ⟨rfl, hR, hb⟩
  refine ⟨rfl, _, hR, ?_, hb1.trans ⟨hb.os, hb.tape, hb.output, hb.size, fun j hj => hb.block j (by omega)⟩⟩
  rintro j (e | e | e) <;> omega

def sA2 : Stt := Stt.zero.node.ver ⟨#[120]⟩ 5 0
set_option maxRecDepth 100000 in
set_option maxHeartbeats 4000000 in
theorem sshown_any (hT : Tab w) : Calls Tryd.prog 7 #[] w fun e w' => e = .returned (.bool true) ∧ Below w.heap.size w w' := by
  have HM := hide2 (New_any 10 w (by decide) (by decide))
  have HT := hide2 hT
  clear hT
  go_enter Tryd.func7, Tryd.ntmps7
  go_wp2_with fail
  refine HM.out.mono ?_
  rintro e w1 ⟨rfl, ⟨F, hA⟩, hb1⟩
  have HN := hide2 (lv_new (g := 0) (z := 10) HT.out hb1 hA)
  clear HM hA hb1
  go_wp2_with fail
  refine HN.out.mono ?_
  rintro e w2 ⟨rfl, K2, L2⟩
  obtain ⟨sb, hsb⟩ : ∃ x, x = w1.heap.size := ⟨_, rfl⟩
  obtain ⟨d, hd⟩ : ∃ x, x = w.heap.size + 1 := ⟨_, rfl⟩
  rw [← hsb, ← hd] at L2
  rw [← hsb, ← hd]
  have HND := hide2 (node_any L2.rp (by decide) (by decide) (by decide))
  have HL2 := hide2 L2
  clear HN hsb hd L2
  go_wp2_with fail
  refine HND.out.mono ?_
  rintro e w3 ⟨rfl, a3⟩
  obtain ⟨K3, L3, -, -⟩ := HL2.out.step a3
  have e1 : ((Stt.zero.la 0 + 1 : Nat) : Int) = 1 := rfl
  rw [e1]
  have HVR := hide2 (ver_zero (tt := ⟨#[120]⟩) (bg := 5) L3.rp (by decide) (by decide) (by decide) (by decide) (by decide) (by decide))
  have HL3 := hide2 L3
  clear HND HL2 a3 L3 e1
  go_wp2_with fail
  refine HVR.out.mono ?_
  rintro e w4 ⟨rfl, a4⟩
  obtain ⟨K4, L4, -, -⟩ := HL3.out.step a4
  have e1 : ((Stt.zero.node.la 1 + 1 : Nat) : Int) = 1 := rfl
  rw [e1]
  have HPU := hide2 (push_zero (n := 1) (now := 1) L4.rp (by decide) (by decide) (by decide))
  have HL4 := hide2 L4
  clear HVR HL3 a4 L4 e1
  go_wp2_with fail
  refine HPU.out.mono ?_
  rintro e w5 ⟨rfl, a5⟩
  obtain ⟨K5, L5, -, -⟩ := HL4.out.step a5
  have e1 : decide ((Stt.zero.node.ver ⟨#[120]⟩ 5 0).va 0 1 = 0) = true := by decide
  rw [e1]
  have hhd := head_any (n := 1) L5.rp (by decide) (by decide)
  have e2 : ((Stt.zero.node.ver ⟨#[120]⟩ 5 0).swap 0 1 0 ((1 : Nat) : Int)).va 0 1 = 1 := by decide
  rw [e2] at hhd
  have HHD := hide2 hhd
  have HL5 := hide2 L5
  clear HPU HL4 a5 L5 e1 hhd e2
  go_wp2_with fail
  refine HHD.out.mono ?_
  rintro e w6 ⟨rfl, a6⟩
  obtain ⟨K6, L6, -, -⟩ := HL5.out.step a6
  have HL6 := hide2 L6
  clear HHD HL5 a6 L6
  go_wp2
  go_ret
  exact ⟨rfl, HL6.out.bl⟩

/-! ### of nothing -/
theorem snew_nil : Calls Tryd.prog 9 #[.pointer none] w fun e w' => e = .returned (.tuple #[.pointer none, .int .i64 1]) ∧ w' = w := by
  go_enter Tryd.func9, Tryd.ntmps9
  go_wp2
  go_ret2
  exact ⟨rfl, rfl⟩
set_option maxRecDepth 100000 in
set_option maxHeartbeats 4000000 in
theorem Node_nil  : Calls Tryd.prog 10 #[.pointer none] w fun e w' => e = .returned (.tuple #[.int .i64 0, .int .i64 1]) ∧ Below w.heap.size w w' := by
  have HI := hide2 (fun u : World => isNone_nil (w := u))
  go_enter Tryd.func10, Tryd.ntmps10
  go_wp2_with fail
  refine (HI.out _).mono ?_
  rintro e w1 ⟨rfl, q1⟩
  subst q1
  clear HI
  go_wp2
  go_ret2
  exact ⟨rfl, Below.refl _ _⟩
set_option maxRecDepth 100000 in
set_option maxHeartbeats 4000000 in
theorem Version_nil (s : ByteArray) (x y : Int) : Calls Tryd.prog 11 #[.pointer none, .string s, .int .u64 x, .int .i64 y] w fun e w' => e = .returned (.tuple #[.int .i64 0, .int .i64 1]) ∧ Below w.heap.size w w' := by
  have HI := hide2 (fun u : World => isNone_nil (w := u))
  go_enter Tryd.func11, Tryd.ntmps11
  go_wp2_with fail
  refine (HI.out _).mono ?_
  rintro e w1 ⟨rfl, q1⟩
  subst q1
  clear HI
  go_wp2
  go_ret2
  exact ⟨rfl, Below.refl _ _⟩
set_option maxRecDepth 100000 in
set_option maxHeartbeats 4000000 in
theorem Txn_nil  : Calls Tryd.prog 20 #[.pointer none] w fun e w' => e = .returned (.tuple #[.int .i64 0, .int .i64 1]) ∧ Below w.heap.size w w' := by
  have HI := hide2 (fun u : World => isNone_nil (w := u))
  go_enter Tryd.func20, Tryd.ntmps20
  go_wp2_with fail
  refine (HI.out _).mono ?_
  rintro e w1 ⟨rfl, q1⟩
  subst q1
  clear HI
  go_wp2
  go_ret2
  exact ⟨rfl, Below.refl _ _⟩
set_option maxRecDepth 100000 in
set_option maxHeartbeats 4000000 in
theorem Head_nil (y : Int) : Calls Tryd.prog 21 #[.pointer none, .int .i64 y] w fun e w' => e = .returned (.tuple #[.int .i64 0, .int .i64 1]) ∧ Below w.heap.size w w' := by
  have HI := hide2 (fun (u : World) => nodeOf_nil (w := u) y)
  go_enter Tryd.func21, Tryd.ntmps21
  go_wp2_with fail
  refine (HI.out _).mono ?_
  rintro e w1 ⟨rfl, hb1⟩
  have HB := hide2 hb1
  have hs1 := hb1.size
  clear HI hb1
  go_wp2
  go_ret2
  exact ⟨rfl, HB.out.alloc hs1 _⟩
set_option maxRecDepth 100000 in
set_option maxHeartbeats 4000000 in
theorem Push_nil (y y2 y3 : Int) : Calls Tryd.prog 12 #[.pointer none, .int .i64 y, .int .i64 y2, .int .i64 y3] w fun e w' => e = .returned (.tuple #[.bool false, .int .i64 1]) ∧ Below w.heap.size w w' := by
  have HI := hide2 (fun (u : World) => nodeOf_nil (w := u) y)
  go_enter Tryd.func12, Tryd.ntmps12
  go_wp2_with fail
  refine (HI.out _).mono ?_
  rintro e w1 ⟨rfl, hb1⟩
  have HB := hide2 hb1
  have hs1 := hb1.size
  clear HI hb1
  go_wp2
  go_ret2
  exact ⟨rfl, HB.out.alloc hs1 _⟩
set_option maxRecDepth 100000 in
set_option maxHeartbeats 4000000 in
theorem Begin_nil (y : Int) : Calls Tryd.prog 22 #[.pointer none, .int .i64 y] w fun e w' => e = .returned (.tuple #[.int .u64 0, .int .i64 1]) ∧ Below w.heap.size w w' := by
  have HI := hide2 (fun (u : World) => versionOf_nil (w := u) y)
  go_enter Tryd.func22, Tryd.ntmps22
  go_wp2_with fail
  refine (HI.out _).mono ?_
  rintro e w1 ⟨rfl, hb1⟩
  have HB := hide2 hb1
  have hs1 := hb1.size
  clear HI hb1
  go_wp2
  go_ret2
  exact ⟨rfl, HB.out.alloc hs1 _⟩
set_option maxRecDepth 100000 in
set_option maxHeartbeats 4000000 in
theorem TakeEnd_nil (y y2 y3 : Int) : Calls Tryd.prog 19 #[.pointer none, .int .i64 y, .int .u64 y2, .int .u64 y3] w fun e w' => e = .returned (.tuple #[.bool false, .int .i64 1]) ∧ Below w.heap.size w w' := by
  have HI := hide2 (fun (u : World) => versionOf_nil (w := u) y)
  go_enter Tryd.func19, Tryd.ntmps19
  go_wp2_with fail
  refine (HI.out _).mono ?_
  rintro e w1 ⟨rfl, hb1⟩
  have HB := hide2 hb1
  have hs1 := hb1.size
  clear HI hb1
  go_wp2
  go_ret2
  exact ⟨rfl, HB.out.alloc hs1 _⟩
set_option maxRecDepth 100000 in
set_option maxHeartbeats 4000000 in
theorem SetState_nil (y x : Int) : Calls Tryd.prog 23 #[.pointer none, .int .i64 y, .int .u64 x] w fun e w' => e = .returned (.int .i64 1) ∧ Below w.heap.size w w' := by
  have HI := hide2 (fun (u : World) => txnOf_nil (w := u) y)
  go_enter Tryd.func23, Tryd.ntmps23
  go_wp2_with fail
  refine (HI.out _).mono ?_
  rintro e w1 ⟨rfl, hb1⟩
  have HB := hide2 hb1
  have hs1 := hb1.size
  clear HI hb1
  go_wp2
  go_ret
  exact ⟨rfl, HB.out⟩
set_option maxRecDepth 100000 in
set_option maxHeartbeats 4000000 in
theorem Cut_nil (y : Int) : Calls Tryd.prog 14 #[.pointer none, .int .i64 y] w fun e w' => e = .returned (.tuple #[.int .i64 0, .int .i64 1]) ∧ Below w.heap.size w w' := by
  have HI := hide2 (fun (u : World) => versionOf_nil (w := u) y)
  go_enter Tryd.func14, Tryd.ntmps14
  go_wp2_with fail
  refine (HI.out _).mono ?_
  rintro e w1 ⟨rfl, hb1⟩
  have HB := hide2 hb1
  have hs1 := hb1.size
  clear HI hb1
  go_wp2
  go_ret2
  exact ⟨rfl, HB.out.alloc hs1 _⟩
set_option maxRecDepth 100000 in
set_option maxHeartbeats 4000000 in
theorem Drop_nil (y : Int) : Calls Tryd.prog 15 #[.pointer none, .int .i64 y] w fun e w' => e = .returned (.int .i64 1) ∧ Below w.heap.size w w' := by
  have HI := hide2 (fun (u : World) => nodeOf_nil (w := u) y)
  go_enter Tryd.func15, Tryd.ntmps15
  go_wp2_with fail
  refine (HI.out _).mono ?_
  rintro e w1 ⟨rfl, hb1⟩
  have HB := hide2 hb1
  have hs1 := hb1.size
  clear HI hb1
  go_wp2
  go_ret
  exact ⟨rfl, HB.out.alloc hs1 _⟩
set_option maxRecDepth 100000 in
set_option maxHeartbeats 4000000 in
theorem Val_nil (y : Int) : Calls Tryd.prog 24 #[.pointer none, .int .i64 y] w fun e w' => e = .returned (.tuple #[.string .empty, .int .i64 1]) ∧ Below w.heap.size w w' := by
  have HI := hide2 (fun (u : World) => versionOf_nil (w := u) y)
  have HCL := hide2 (fun u : World => clone_all .empty u (by decide))
  go_enter Tryd.func24, Tryd.ntmps24
  go_wp2_with fail
  refine (HI.out _).mono ?_
  rintro e w1 ⟨rfl, hb1⟩
  have HB := hide2 hb1
  have hs1 := hb1.size
  clear HI hb1
  go_wp2_with fail
  refine (HCL.out _).mono ?_
  rintro e w2 ⟨rfl, hb2⟩
  have HB2 := hide2 hb2
  clear HCL hb2
  go_wp2
  go_ret2
  have h1 := HB.out
  have h2 := HB2.out
  refine ⟨rfl, h1.trans ⟨h2.os, h2.tape, h2.output, Nat.le_trans (by simp) h2.size, fun j hj => (h2.block j (by simp; omega)).trans (Below.heap_alloc _ _ _ (by omega))⟩⟩
set_option maxRecDepth 100000 in
set_option maxHeartbeats 4000000 in
theorem Chain_nil (y : Int) : Calls Tryd.prog 13 #[.pointer none, .int .i64 y] w fun e w' => e = .returned (.slice none 0 0) ∧ Below w.heap.size w w' := by
  have HI := hide2 (fun (u : World) => Head_nil (w := u) y)
  go_enter Tryd.func13, Tryd.ntmps13
  go_wp2_with fail
  refine (HI.out _).mono ?_
  rintro e w1 ⟨rfl, hb1⟩
  have HB := hide2 hb1
  have hs1 := hb1.size
  clear HI hb1
  go_wp2
  go_ret
  exact ⟨rfl, HB.out⟩

set_option maxRecDepth 100000 in
set_option maxHeartbeats 8000000 in
theorem storeNone_walk (n x : Int) (hT : Tab w) : Calls Tryd.prog 5 #[.int .i64 n, .int .u64 x] w fun e w' => e = .returned (.bool true) ∧ Below w.heap.size w w' := by
  have HS := hide2 (sshown_any hT)
  clear hT
  go_enter Tryd.func5, Tryd.ntmps5
  go_wp2_with fail
  refine HS.out.mono ?_
  rintro e w1 ⟨rfl, hb1⟩
  have HB1 := hide2 hb1
  clear HS hb1
  have HX := hide2 (snew_nil (w := w1))
  go_wp2_with fail
  refine HX.out.mono ?_
  rintro e w2 ⟨rfl, q2⟩
  subst q2
  clear HX
  have HX := hide2 (Node_nil (w := w2))
  go_wp2_with fail
  refine HX.out.mono ?_
  rintro e w3 ⟨rfl, hb⟩
  have HB3 : Hid (Below w.heap.size w w3) := hide2 (HB1.out.trans ⟨hb.os, hb.tape, hb.output, hb.size, fun j hj => hb.block j (by have := HB1.out.size; omega)⟩)
  clear HX hb HB1
  have HX := hide2 (Version_nil (w := w3) .empty x n)
  go_wp2_with fail
  refine HX.out.mono ?_
  rintro e w4 ⟨rfl, hb⟩
  have HB4 : Hid (Below w.heap.size w w4) := hide2 (HB3.out.trans ⟨hb.os, hb.tape, hb.output, hb.size, fun j hj => hb.block j (by have := HB3.out.size; omega)⟩)
  clear HX hb HB3
  have HX := hide2 (Txn_nil (w := w4))
  go_wp2_with fail
  refine HX.out.mono ?_
  rintro e w5 ⟨rfl, hb⟩
  have HB5 : Hid (Below w.heap.size w w5) := hide2 (HB4.out.trans ⟨hb.os, hb.tape, hb.output, hb.size, fun j hj => hb.block j (by have := HB4.out.size; omega)⟩)
  clear HX hb HB4
  have HX := hide2 (Head_nil (w := w5) n)
  go_wp2_with fail
  refine HX.out.mono ?_
  rintro e w6 ⟨rfl, hb⟩
  have HB6 : Hid (Below w.heap.size w w6) := hide2 (HB5.out.trans ⟨hb.os, hb.tape, hb.output, hb.size, fun j hj => hb.block j (by have := HB5.out.size; omega)⟩)
  clear HX hb HB5
  have HX := hide2 (Push_nil (w := w6) n n n)
  go_wp2_with fail
  refine HX.out.mono ?_
  rintro e w7 ⟨rfl, hb⟩
  have HB7 : Hid (Below w.heap.size w w7) := hide2 (HB6.out.trans ⟨hb.os, hb.tape, hb.output, hb.size, fun j hj => hb.block j (by have := HB6.out.size; omega)⟩)
  clear HX hb HB6
  have HX := hide2 (Begin_nil (w := w7) n)
  go_wp2_with fail
  refine HX.out.mono ?_
  rintro e w8 ⟨rfl, hb⟩
  have HB8 : Hid (Below w.heap.size w w8) := hide2 (HB7.out.trans ⟨hb.os, hb.tape, hb.output, hb.size, fun j hj => hb.block j (by have := HB7.out.size; omega)⟩)
  clear HX hb HB7
  have HX := hide2 (TakeEnd_nil (w := w8) n x x)
  go_wp2_with fail
  refine HX.out.mono ?_
  rintro e w9 ⟨rfl, hb⟩
  have HB9 : Hid (Below w.heap.size w w9) := hide2 (HB8.out.trans ⟨hb.os, hb.tape, hb.output, hb.size, fun j hj => hb.block j (by have := HB8.out.size; omega)⟩)
  clear HX hb HB8
  have HX := hide2 (SetState_nil (w := w9) n x)
  go_wp2_with fail
  refine HX.out.mono ?_
  rintro e w10 ⟨rfl, hb⟩
  have HB10 : Hid (Below w.heap.size w w10) := hide2 (HB9.out.trans ⟨hb.os, hb.tape, hb.output, hb.size, fun j hj => hb.block j (by have := HB9.out.size; omega)⟩)
  clear HX hb HB9
  have HX := hide2 (Cut_nil (w := w10) n)
  go_wp2_with fail
  refine HX.out.mono ?_
  rintro e w11 ⟨rfl, hb⟩
  have HB11 : Hid (Below w.heap.size w w11) := hide2 (HB10.out.trans ⟨hb.os, hb.tape, hb.output, hb.size, fun j hj => hb.block j (by have := HB10.out.size; omega)⟩)
  clear HX hb HB10
  have HX := hide2 (Drop_nil (w := w11) n)
  go_wp2_with fail
  refine HX.out.mono ?_
  rintro e w12 ⟨rfl, hb⟩
  have HB12 : Hid (Below w.heap.size w w12) := hide2 (HB11.out.trans ⟨hb.os, hb.tape, hb.output, hb.size, fun j hj => hb.block j (by have := HB11.out.size; omega)⟩)
  clear HX hb HB11
  have HX := hide2 (Val_nil (w := w12) n)
  go_wp2_with fail
  refine HX.out.mono ?_
  rintro e w13 ⟨rfl, hb⟩
  have HB13 : Hid (Below w.heap.size w w13) := hide2 (HB12.out.trans ⟨hb.os, hb.tape, hb.output, hb.size, fun j hj => hb.block j (by have := HB12.out.size; omega)⟩)
  clear HX hb HB12
  have HX := hide2 (Chain_nil (w := w13) n)
  go_wp2_with fail
  refine HX.out.mono ?_
  rintro e w14 ⟨rfl, hb⟩
  have HB14 : Hid (Below w.heap.size w w14) := hide2 (HB13.out.trans ⟨hb.os, hb.tape, hb.output, hb.size, fun j hj => hb.block j (by have := HB13.out.size; omega)⟩)
  clear HX hb HB13
  go_wp2
  go_ret
  exact ⟨rfl, HB14.out⟩
end
end Go.Proofs.YtohgjpljobmpaaaDoor
