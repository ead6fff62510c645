/-
  The law's examples; of nothing there is nothing: StoreNone. (Printed by gen_tad.py.)
-/
import Derived.Test.YtbhpkidlhhkbmaaGreatDoorTaB
import Derived.Test.YtbhpkidlhhkbmaaGreatDoorTaC
import Derived.Test.YtbhpkidlhhkbmaaGreatDoorTaA
import Derived.Test.YtbhpkidlhhkbmaaGreatDoorC9
set_option linter.unusedVariables false
set_option linter.unusedSimpArgs false
namespace Go.Proofs.YtbhpkidlhhkbmaaGreatDoor
open Go.RowKit Go.Maps

/-- A store that a call has made. -/
structure Lv (w wk : World) (K : Nat → Prop) (sb d z M : Nat) (A : Stt) (u : Nat) : Prop where
  rp : Rp wk K sb d z M A u
  kb : ∀ j, K j → w.heap.size ≤ j
  bl : Below w.heap.size w wk
section
variable {w w1 w2 w' : World} {K : Nat → Prop} {sb d z M M' u u' : Nat} {A A' : Stt}
theorem Lv.step (h : Lv w w1 K sb d z M A u) (ha : Aft w1 w2 K sb d z M' A' u') : ∃ K', Lv w w2 K' sb d z M' A' u' ∧ (∀ j, j < w1.heap.size → (K' j ↔ K j)) ∧ Fr K w1 w2 := by
  obtain ⟨K', hr, hk, hF⟩ := ha
  refine ⟨K', ⟨hr, fun j hj => ?_, h.bl.trans (hF.to (fun j hj e => ?_) h.bl.size)⟩, hk, hF⟩
  · rcases Nat.lt_or_ge j w1.heap.size with q | q
    · exact h.kb j ((hk j q).1 hj)
    · have := h.bl.size; omega
  · have := h.kb j e; omega
theorem Lv.below (h : Lv w w1 K sb d z M A u) (hb : Below w1.heap.size w1 w2) : Lv w w2 K sb d z M A u :=
  ⟨h.rp.below hb, h.kb, h.bl.trans ⟨hb.os, hb.tape, hb.output, hb.size, fun j hj => hb.block j (by have := h.bl.size; omega)⟩⟩
theorem Lv.up {M' : Nat} (h : Lv w w1 K sb d z M A u) (hM : M ≤ M') : Lv w w1 K sb d z M' A u := ⟨h.rp.up hM, h.kb, h.bl⟩
/-- New of an arena, and of a store over it. -/
theorem lv_new {g : Nat} {F : List Nat} (hT : Tab w) (hb1 : Below w.heap.size w w1) (hA : Aw w1 (w.heap.size + 1) w.heap.size (List.replicate z false) (List.replicate z 0) 0 F) :
    Calls Tryz.prog 7 #[.pointer (some ⟨w.heap.size + 1, 0, none⟩)] w1 fun e w' => e = .returned (.tuple #[.pointer (some ⟨w1.heap.size, 0, none⟩), .int .i64 0]) ∧ ∃ K, Lv w w' K w1.heap.size (w.heap.size + 1) z 0 Stt.zero 0 := by
  have h0 := hT.1
  have hs := hb1.size
  refine (snew_any hA (hT.fr (Fr.below (F := fun _ => False) hb1) id) (by omega) (by omega)).mono ?_
  rintro e w' ⟨rfl, hR, hb⟩
  refine ⟨rfl, _, hR, ?_, hb1.trans ⟨hb.os, hb.tape, hb.output, hb.size, fun j hj => hb.block j (by omega)⟩⟩
  rintro j (e | e | e) <;> omega

def sA2 : Stt := Stt.zero.node.ver ⟨#[120]⟩ 5 0
set_option maxRecDepth 100000 in
set_option maxHeartbeats 4000000 in
theorem sshown_any (hT : Tab w) : Calls Tryz.prog 5 #[] w fun e w' => e = .returned (.bool true) ∧ Below w.heap.size w w' := by
  have HM := hide2 (New_any 10 w (by decide) (by decide))
  have HT := hide2 hT
  clear hT
  go_enter Tryz.func5, Tryz.ntmps5
  go_wp2_with fail
  refine HM.out.mono ?_
  rintro e w1 ⟨rfl, ⟨F, hA⟩, hb1⟩
  have HN := hide2 (lv_new (g := 0) (z := 10) HT.out hb1 hA)
  clear HM hA hb1
  go_wp2_with fail
  refine HN.out.mono ?_
  rintro e w2 ⟨rfl, K2, L2⟩
  obtain ⟨sb, hsb⟩ : ∃ x, x = w1.heap.size := ⟨_, rfl⟩
  obtain ⟨d, hd⟩ : ∃ x, x = w.heap.size + 1 := ⟨_, rfl⟩
  rw [← hsb, ← hd] at L2
  rw [← hsb, ← hd]
  have HND := hide2 (node_any L2.rp (by decide) (by decide) (by decide))
  have HL2 := hide2 L2
  clear HN hsb hd L2
  go_wp2_with fail
  refine HND.out.mono ?_
  rintro e w3 ⟨rfl, a3⟩
  obtain ⟨K3, L3, -, -⟩ := HL2.out.step a3
  have e1 : ((Stt.zero.la 0 + 1 : Nat) : Int) = 1 := rfl
  rw [e1]
  have HVR := hide2 (ver_zero (tt := ⟨#[120]⟩) (bg := 5) L3.rp (by decide) (by decide) (by decide) (by decide) (by decide) (by decide))
  have HL3 := hide2 L3
  clear HND HL2 a3 L3 e1
  go_wp2_with fail
  refine HVR.out.mono ?_
  rintro e w4 ⟨rfl, a4⟩
  obtain ⟨K4, L4, -, -⟩ := HL3.out.step a4
  have e1 : ((Stt.zero.node.la 1 + 1 : Nat) : Int) = 1 := rfl
  rw [e1]
  have HPU := hide2 (push_zero (n := 1) (now := 1) L4.rp (by decide) (by decide) (by decide))
  have HL4 := hide2 L4
  clear HVR HL3 a4 L4 e1
  go_wp2_with fail
  refine HPU.out.mono ?_
  rintro e w5 ⟨rfl, a5⟩
  obtain ⟨K5, L5, -, -⟩ := HL4.out.step a5
  have e1 : decide ((Stt.zero.node.ver ⟨#[120]⟩ 5 0).va 0 1 = 0) = true := by decide
  rw [e1]
  have hhd := head_any (n := 1) L5.rp (by decide) (by decide)
  have e2 : ((Stt.zero.node.ver ⟨#[120]⟩ 5 0).swap 0 1 0 ((1 : Nat) : Int)).va 0 1 = 1 := by decide
  rw [e2] at hhd
  have HHD := hide2 hhd
  have HL5 := hide2 L5
  clear HPU HL4 a5 L5 e1 hhd e2
  go_wp2_with fail
  refine HHD.out.mono ?_
  rintro e w6 ⟨rfl, a6⟩
  obtain ⟨K6, L6, -, -⟩ := HL5.out.step a6
  have HL6 := hide2 L6
  clear HHD HL5 a6 L6
  go_wp2
  go_ret
  exact ⟨rfl, HL6.out.bl⟩

/-! ### of nothing -/
theorem snew_nil : Calls Tryz.prog 7 #[.pointer none] w fun e w' => e = .returned (.tuple #[.pointer none, .int .i64 1]) ∧ w' = w := by
  go_enter Tryz.func7, Tryz.ntmps7
  go_wp2
  go_ret2
  exact ⟨rfl, rfl⟩
set_option maxRecDepth 100000 in
set_option maxHeartbeats 4000000 in
theorem Node_nil  : Calls Tryz.prog 18 #[.pointer none] w fun e w' => e = .returned (.tuple #[.int .i64 0, .int .i64 1]) ∧ Below w.heap.size w w' := by
  have HI := hide2 (fun u : World => isNone_nil (w := u))
  go_enter Tryz.func18, Tryz.ntmps18
  go_wp2_with fail
  refine (HI.out _).mono ?_
  rintro e w1 ⟨rfl, q1⟩
  subst q1
  clear HI
  go_wp2
  go_ret2
  exact ⟨rfl, Below.refl _ _⟩
set_option maxRecDepth 100000 in
set_option maxHeartbeats 4000000 in
theorem Version_nil (s : ByteArray) (x y : Int) : Calls Tryz.prog 19 #[.pointer none, .string s, .int .u64 x, .int .i64 y] w fun e w' => e = .returned (.tuple #[.int .i64 0, .int .i64 1]) ∧ Below w.heap.size w w' := by
  have HI := hide2 (fun u : World => isNone_nil (w := u))
  go_enter Tryz.func19, Tryz.ntmps19
  go_wp2_with fail
  refine (HI.out _).mono ?_
  rintro e w1 ⟨rfl, q1⟩
  subst q1
  clear HI
  go_wp2
  go_ret2
  exact ⟨rfl, Below.refl _ _⟩
set_option maxRecDepth 100000 in
set_option maxHeartbeats 4000000 in
theorem Txn_nil  : Calls Tryz.prog 25 #[.pointer none] w fun e w' => e = .returned (.tuple #[.int .i64 0, .int .i64 1]) ∧ Below w.heap.size w w' := by
  have HI := hide2 (fun u : World => isNone_nil (w := u))
  go_enter Tryz.func25, Tryz.ntmps25
  go_wp2_with fail
  refine (HI.out _).mono ?_
  rintro e w1 ⟨rfl, q1⟩
  subst q1
  clear HI
  go_wp2
  go_ret2
  exact ⟨rfl, Below.refl _ _⟩
set_option maxRecDepth 100000 in
set_option maxHeartbeats 4000000 in
theorem Head_nil (y : Int) : Calls Tryz.prog 21 #[.pointer none, .int .i64 y] w fun e w' => e = .returned (.tuple #[.int .i64 0, .int .i64 1]) ∧ Below w.heap.size w w' := by
  have HI := hide2 (fun (u : World) => nodeOf_nil (w := u) y)
  go_enter Tryz.func21, Tryz.ntmps21
  go_wp2_with fail
  refine (HI.out _).mono ?_
  rintro e w1 ⟨rfl, hb1⟩
  have HB := hide2 hb1
  have hs1 := hb1.size
  clear HI hb1
  go_wp2
  go_ret2
  exact ⟨rfl, HB.out.alloc hs1 _⟩
set_option maxRecDepth 100000 in
set_option maxHeartbeats 4000000 in
theorem Push_nil (y y2 y3 : Int) : Calls Tryz.prog 20 #[.pointer none, .int .i64 y, .int .i64 y2, .int .i64 y3] w fun e w' => e = .returned (.tuple #[.bool false, .int .i64 1]) ∧ Below w.heap.size w w' := by
  have HI := hide2 (fun (u : World) => nodeOf_nil (w := u) y)
  go_enter Tryz.func20, Tryz.ntmps20
  go_wp2_with fail
  refine (HI.out _).mono ?_
  rintro e w1 ⟨rfl, hb1⟩
  have HB := hide2 hb1
  have hs1 := hb1.size
  clear HI hb1
  go_wp2
  go_ret2
  exact ⟨rfl, HB.out.alloc hs1 _⟩
set_option maxRecDepth 100000 in
set_option maxHeartbeats 4000000 in
theorem Begin_nil (y : Int) : Calls Tryz.prog 17 #[.pointer none, .int .i64 y] w fun e w' => e = .returned (.tuple #[.int .u64 0, .int .i64 1]) ∧ Below w.heap.size w w' := by
  have HI := hide2 (fun (u : World) => versionOf_nil (w := u) y)
  go_enter Tryz.func17, Tryz.ntmps17
  go_wp2_with fail
  refine (HI.out _).mono ?_
  rintro e w1 ⟨rfl, hb1⟩
  have HB := hide2 hb1
  have hs1 := hb1.size
  clear HI hb1
  go_wp2
  go_ret2
  exact ⟨rfl, HB.out.alloc hs1 _⟩
set_option maxRecDepth 100000 in
set_option maxHeartbeats 4000000 in
theorem TakeEnd_nil (y y2 y3 : Int) : Calls Tryz.prog 31 #[.pointer none, .int .i64 y, .int .u64 y2, .int .u64 y3] w fun e w' => e = .returned (.tuple #[.bool false, .int .i64 1]) ∧ Below w.heap.size w w' := by
  have HI := hide2 (fun (u : World) => versionOf_nil (w := u) y)
  go_enter Tryz.func31, Tryz.ntmps31
  go_wp2_with fail
  refine (HI.out _).mono ?_
  rintro e w1 ⟨rfl, hb1⟩
  have HB := hide2 hb1
  have hs1 := hb1.size
  clear HI hb1
  go_wp2
  go_ret2
  exact ⟨rfl, HB.out.alloc hs1 _⟩
set_option maxRecDepth 100000 in
set_option maxHeartbeats 4000000 in
theorem SetState_nil (y x : Int) : Calls Tryz.prog 45 #[.pointer none, .int .i64 y, .int .u64 x] w fun e w' => e = .returned (.int .i64 1) ∧ Below w.heap.size w w' := by
  have HI := hide2 (fun (u : World) => txnOf_nil (w := u) y)
  go_enter Tryz.func45, Tryz.ntmps45
  go_wp2_with fail
  refine (HI.out _).mono ?_
  rintro e w1 ⟨rfl, hb1⟩
  have HB := hide2 hb1
  have hs1 := hb1.size
  clear HI hb1
  go_wp2
  go_ret
  exact ⟨rfl, HB.out⟩
set_option maxRecDepth 100000 in
set_option maxHeartbeats 4000000 in
theorem Cut_nil (y : Int) : Calls Tryz.prog 28 #[.pointer none, .int .i64 y] w fun e w' => e = .returned (.tuple #[.int .i64 0, .int .i64 1]) ∧ Below w.heap.size w w' := by
  have HI := hide2 (fun (u : World) => versionOf_nil (w := u) y)
  go_enter Tryz.func28, Tryz.ntmps28
  go_wp2_with fail
  refine (HI.out _).mono ?_
  rintro e w1 ⟨rfl, hb1⟩
  have HB := hide2 hb1
  have hs1 := hb1.size
  clear HI hb1
  go_wp2
  go_ret2
  exact ⟨rfl, HB.out.alloc hs1 _⟩
set_option maxRecDepth 100000 in
set_option maxHeartbeats 4000000 in
theorem Drop_nil (y : Int) : Calls Tryz.prog 49 #[.pointer none, .int .i64 y] w fun e w' => e = .returned (.int .i64 1) ∧ Below w.heap.size w w' := by
  have HI := hide2 (fun (u : World) => nodeOf_nil (w := u) y)
  go_enter Tryz.func49, Tryz.ntmps49
  go_wp2_with fail
  refine (HI.out _).mono ?_
  rintro e w1 ⟨rfl, hb1⟩
  have HB := hide2 hb1
  have hs1 := hb1.size
  clear HI hb1
  go_wp2
  go_ret
  exact ⟨rfl, HB.out.alloc hs1 _⟩
set_option maxRecDepth 100000 in
set_option maxHeartbeats 4000000 in
theorem Val_nil (y : Int) : Calls Tryz.prog 51 #[.pointer none, .int .i64 y] w fun e w' => e = .returned (.tuple #[.string .empty, .int .i64 1]) ∧ Below w.heap.size w w' := by
  have HI := hide2 (fun (u : World) => versionOf_nil (w := u) y)
  have HCL := hide2 (fun u : World => clone_all .empty u (by decide))
  go_enter Tryz.func51, Tryz.ntmps51
  go_wp2_with fail
  refine (HI.out _).mono ?_
  rintro e w1 ⟨rfl, hb1⟩
  have HB := hide2 hb1
  have hs1 := hb1.size
  clear HI hb1
  go_wp2_with fail
  refine (HCL.out _).mono ?_
  rintro e w2 ⟨rfl, hb2⟩
  have HB2 := hide2 hb2
  clear HCL hb2
  go_wp2
  go_ret2
  have h1 := HB.out
  have h2 := HB2.out
  refine ⟨rfl, h1.trans ⟨h2.os, h2.tape, h2.output, Nat.le_trans (by simp) h2.size, fun j hj => (h2.block j (by simp; omega)).trans (Below.heap_alloc _ _ _ (by omega))⟩⟩
set_option maxRecDepth 100000 in
set_option maxHeartbeats 4000000 in
theorem Chain_nil (y : Int) : Calls Tryz.prog 14 #[.pointer none, .int .i64 y] w fun e w' => e = .returned (.slice none 0 0) ∧ Below w.heap.size w w' := by
  have HI := hide2 (fun (u : World) => Head_nil (w := u) y)
  go_enter Tryz.func14, Tryz.ntmps14
  go_wp2_with fail
  refine (HI.out _).mono ?_
  rintro e w1 ⟨rfl, hb1⟩
  have HB := hide2 hb1
  have hs1 := hb1.size
  clear HI hb1
  go_wp2
  go_ret
  exact ⟨rfl, HB.out⟩

end
end Go.Proofs.YtbhpkidlhhkbmaaGreatDoor
