/-
  The law's examples; of nothing there is nothing: StoreNone. (Printed by gen_tad.py.)
-/
import Derived.Test.YtfhcphgjaobnoaaDoorTaB
import Derived.Test.YtfhcphgjaobnoaaDoorTaC
import Derived.Test.YtfhcphgjaobnoaaDoorTaA
import Derived.Test.YtfhcphgjaobnoaaDoorC9
set_option linter.unusedVariables false
set_option linter.unusedSimpArgs false
namespace Go.Proofs.YtfhcphgjaobnoaaDoor
open Go.RowKit Go.Maps

/-- A store that a call has made. -/
structure Lv (w wk : World) (K : Nat → Prop) (sb d z M : Nat) (A : Stt) (u : Nat) : Prop where
  rp : Rp wk K sb d z M A u
  kb : ∀ j, K j → w.heap.size ≤ j
  bl : Below w.heap.size w wk
section
variable {w w1 w2 w' : World} {K : Nat → Prop} {sb d z M M' u u' : Nat} {A A' : Stt}
theorem Lv.step (h : Lv w w1 K sb d z M A u) (ha : Aft w1 w2 K sb d z M' A' u') : ∃ K', Lv w w2 K' sb d z M' A' u' ∧ (∀ j, j < w1.heap.size → (K' j ↔ K j)) ∧ Fr K w1 w2 := by
  obtain ⟨K', hr, hk, hF⟩ := ha
  refine ⟨K', ⟨hr, fun j hj => ?_, h.bl.trans (hF.to (fun j hj e => ?_) h.bl.size)⟩, hk, hF⟩
  · rcases Nat.lt_or_ge j w1.heap.size with q | q
    · exact h.kb j ((hk j q).1 hj)
    · have := h.bl.size; omega
  · have := h.kb j e; omega
theorem Lv.below (h : Lv w w1 K sb d z M A u) (hb : Below w1.heap.size w1 w2) : Lv w w2 K sb d z M A u :=
  ⟨h.rp.below hb, h.kb, h.bl.trans ⟨hb.os, hb.tape, hb.output, hb.size, fun j hj => hb.block j (by have := h.bl.size; omega)⟩⟩
theorem Lv.up {M' : Nat} (h : Lv w w1 K sb d z M A u) (hM : M ≤ M') : Lv w w1 K sb d z M' A u := ⟨h.rp.up hM, h.kb, h.bl⟩
/-- New of an arena, and of a store over it. -/
theorem lv_new {g : Nat} {F : List Nat} (hT : Tab w) (hb1 : Below w.heap.size w w1) (hA : Aw w1 (w.heap.size + 1) w.heap.size (List.replicate z false) (List.replicate z 0) 0 F) :
    Calls Tryd.prog 29 #[.pointer (some ⟨w.heap.size + 1, 0, none⟩)] w1 fun e w' => e = .returned (.tuple #[.pointer (some ⟨w1.heap.size, 0, none⟩), .int .i64 0]) ∧ ∃ K, Lv w w' K w1.heap.size (w.heap.size + 1) z 0 Stt.zero 0 := by
  have h0 := hT.1
  have hs := hb1.size
  refine (snew_any hA (hT.fr (Fr.below (F := fun _ => False) hb1) id) (by omega) (by omega)).mono ?_
  rintro e w' ⟨rfl, hR, hb⟩
  refine ⟨rfl, _, hR, ?_, hb1.trans ⟨hb.os, hb.tape, hb.output, hb.size, fun j hj => hb.block j (by omega)⟩⟩
  rintro j (e | e | e) <;> omega

def sA2 : Stt := Stt.zero.node.ver ⟨#[120]⟩ 5 0
/-! ### of nothing -/
theorem snew_nil : Calls Tryd.prog 29 #[.pointer none] w fun e w' => e = .returned (.tuple #[.pointer none, .int .i64 1]) ∧ w' = w := by
  go_enter Tryd.func29, Tryd.ntmps29
  go_wp2
  go_ret2
  exact ⟨rfl, rfl⟩
set_option maxRecDepth 100000 in
set_option maxHeartbeats 4000000 in
theorem Node_nil  : Calls Tryd.prog 30 #[.pointer none] w fun e w' => e = .returned (.tuple #[.int .i64 0, .int .i64 1]) ∧ Below w.heap.size w w' := by
  have HI := hide2 (fun u : World => isNone_nil (w := u))
  go_enter Tryd.func30, Tryd.ntmps30
  go_wp2_with fail
  refine (HI.out _).mono ?_
  rintro e w1 ⟨rfl, q1⟩
  subst q1
  clear HI
  go_wp2
  go_ret2
  exact ⟨rfl, Below.refl _ _⟩
set_option maxRecDepth 100000 in
set_option maxHeartbeats 4000000 in
theorem Version_nil (s : ByteArray) (x y : Int) : Calls Tryd.prog 26 #[.pointer none, .string s, .int .u64 x, .int .i64 y] w fun e w' => e = .returned (.tuple #[.int .i64 0, .int .i64 1]) ∧ Below w.heap.size w w' := by
  have HI := hide2 (fun u : World => isNone_nil (w := u))
  go_enter Tryd.func26, Tryd.ntmps26
  go_wp2_with fail
  refine (HI.out _).mono ?_
  rintro e w1 ⟨rfl, q1⟩
  subst q1
  clear HI
  go_wp2
  go_ret2
  exact ⟨rfl, Below.refl _ _⟩
set_option maxRecDepth 100000 in
set_option maxHeartbeats 4000000 in
theorem Head_nil (y : Int) : Calls Tryd.prog 25 #[.pointer none, .int .i64 y] w fun e w' => e = .returned (.tuple #[.int .i64 0, .int .i64 1]) ∧ Below w.heap.size w w' := by
  have HI := hide2 (fun (u : World) => nodeOf_nil (w := u) y)
  go_enter Tryd.func25, Tryd.ntmps25
  go_wp2_with fail
  refine (HI.out _).mono ?_
  rintro e w1 ⟨rfl, hb1⟩
  have HB := hide2 hb1
  have hs1 := hb1.size
  clear HI hb1
  go_wp2
  go_ret2
  exact ⟨rfl, HB.out.alloc hs1 _⟩
set_option maxRecDepth 100000 in
set_option maxHeartbeats 4000000 in
theorem Push_nil (y y2 y3 : Int) : Calls Tryd.prog 27 #[.pointer none, .int .i64 y, .int .i64 y2, .int .i64 y3] w fun e w' => e = .returned (.tuple #[.bool false, .int .i64 1]) ∧ Below w.heap.size w w' := by
  have HI := hide2 (fun (u : World) => nodeOf_nil (w := u) y)
  go_enter Tryd.func27, Tryd.ntmps27
  go_wp2_with fail
  refine (HI.out _).mono ?_
  rintro e w1 ⟨rfl, hb1⟩
  have HB := hide2 hb1
  have hs1 := hb1.size
  clear HI hb1
  go_wp2
  go_ret2
  exact ⟨rfl, HB.out.alloc hs1 _⟩
set_option maxRecDepth 100000 in
set_option maxHeartbeats 4000000 in
theorem Begin_nil (y : Int) : Calls Tryd.prog 47 #[.pointer none, .int .i64 y] w fun e w' => e = .returned (.tuple #[.int .u64 0, .int .i64 1]) ∧ Below w.heap.size w w' := by
  have HI := hide2 (fun (u : World) => versionOf_nil (w := u) y)
  go_enter Tryd.func47, Tryd.ntmps47
  go_wp2_with fail
  refine (HI.out _).mono ?_
  rintro e w1 ⟨rfl, hb1⟩
  have HB := hide2 hb1
  have hs1 := hb1.size
  clear HI hb1
  go_wp2
  go_ret2
  exact ⟨rfl, HB.out.alloc hs1 _⟩
set_option maxRecDepth 100000 in
set_option maxHeartbeats 4000000 in
theorem Cut_nil (y : Int) : Calls Tryd.prog 91 #[.pointer none, .int .i64 y] w fun e w' => e = .returned (.tuple #[.int .i64 0, .int .i64 1]) ∧ Below w.heap.size w w' := by
  have HI := hide2 (fun (u : World) => versionOf_nil (w := u) y)
  go_enter Tryd.func91, Tryd.ntmps91
  go_wp2_with fail
  refine (HI.out _).mono ?_
  rintro e w1 ⟨rfl, hb1⟩
  have HB := hide2 hb1
  have hs1 := hb1.size
  clear HI hb1
  go_wp2
  go_ret2
  exact ⟨rfl, HB.out.alloc hs1 _⟩
set_option maxRecDepth 100000 in
set_option maxHeartbeats 4000000 in
theorem Drop_nil (y : Int) : Calls Tryd.prog 92 #[.pointer none, .int .i64 y] w fun e w' => e = .returned (.int .i64 1) ∧ Below w.heap.size w w' := by
  have HI := hide2 (fun (u : World) => nodeOf_nil (w := u) y)
  go_enter Tryd.func92, Tryd.ntmps92
  go_wp2_with fail
  refine (HI.out _).mono ?_
  rintro e w1 ⟨rfl, hb1⟩
  have HB := hide2 hb1
  have hs1 := hb1.size
  clear HI hb1
  go_wp2
  go_ret
  exact ⟨rfl, HB.out.alloc hs1 _⟩
set_option maxRecDepth 100000 in
set_option maxHeartbeats 4000000 in
theorem Chain_nil (y : Int) : Calls Tryd.prog 46 #[.pointer none, .int .i64 y] w fun e w' => e = .returned (.slice none 0 0) ∧ Below w.heap.size w w' := by
  have HI := hide2 (fun (u : World) => Head_nil (w := u) y)
  go_enter Tryd.func46, Tryd.ntmps46
  go_wp2_with fail
  refine (HI.out _).mono ?_
  rintro e w1 ⟨rfl, hb1⟩
  have HB := hide2 hb1
  have hs1 := hb1.size
  clear HI hb1
  go_wp2
  go_ret
  exact ⟨rfl, HB.out⟩

end
end Go.Proofs.YtfhcphgjaobnoaaDoor
