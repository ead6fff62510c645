/-
  Node, Version, Txn where there are too few cells, or numbers; Drop of an empty chain. (Printed by gen_tbd.py.)
-/
import Derived.Test.YtfhcphgjaobnoaaDoorTbA
import Derived.Test.YtfhcphgjaobnoaaDoorTbB
set_option linter.unusedVariables false
set_option linter.unusedSimpArgs false
namespace Go.Proofs.YtfhcphgjaobnoaaDoor
open Go.RowKit Go.Maps

section
variable {w w' : World} {K : Nat → Prop} {sb d z M u : Nat} {m : Int} {A : Stt}
set_option maxRecDepth 100000 in
set_option maxHeartbeats 4000000 in
theorem node_full (h : Re w K sb d z m A u)  (hroom : z < u + 2) (hM : m < 4000000000000000000) :
    Calls Tryd.prog 30 #[.pointer (some ⟨sb, 0, none⟩)] w fun e w' => e = .returned (.tuple #[.int .i64 0, .int .i64 31]) ∧ Afe w w' K sb d z m A u := by
  obtain ⟨g, m0, m1, m2, T, N, F, own, pl, k1, h, r1, r2, r3, r5⟩ := h
  have HI := hide2 (isNone_any (w := w) h.st.cells.1)
  have hTl := h.aw.len
  have H := hide2 h
  have HR5 := hide2 r5
  clear h r5
  go_enter Tryd.func30, Tryd.ntmps30
  go_wp2_with fail
  refine HI.out.mono ?_
  rintro e wa ⟨rfl, qa⟩
  subst qa
  clear HI
  have HWC := H
  have HBC : Hid (Below wa.heap.size wa wa) := hide2 (Below.refl _ _)
  have hwl := HWC.out.kl
  have hkk := HWC.out.kk
  have hdl := hwl d (hkk d (by simp))
  have hgl := hwl g (hkk g (by simp))
  have hsl := hwl sb (hkk sb (by simp))
  obtain ⟨W, hW⟩ : ∃ x, x = wa.alloc (.cells #[.int .u64 0, .int .u64 0] 54) := ⟨_, rfl⟩
  have hbW : Below wa.heap.size wa W := by rw [hW]; exact (Below.refl _ _).alloc (Nat.le_refl _) _
  have hsW : W.heap.size = wa.heap.size + 1 := by rw [hW]; simp
  have nb : W.heap[wa.heap.size]? = some (.cells #[.int .u64 0, .int .u64 0] 54 (0, 0)) := by rw [hW]; exact heap_alloc_new wa _
  have hWm := HWC.out.below hbW
  have htk := take_full (w := W) (sg := wa.heap.size) (n := 2) (cap := 2) (xs := [0, 0]) hWm.st.cells.1 hWm.st.lt hWm.aw hWm.tab (fun e => hWm.k0 (e ▸ hWm.kk d (by simp))) (fun e => hWm.k0 (e ▸ hWm.kk g (by simp))) hWm.nsd hWm.nsg rfl (by decide) (by decide) (by unfold maxLen; decide) (by omega) (by omega) (by omega) (fun i x hi => by
      rw [Go.Joins.cell_of_block nb]
      rcases i with _ | _ | i
      · simp at hi; rw [← hi]; rfl
      · simp at hi; rw [← hi]; rfl
      · simp at hi) (by simp) (by omega) (by omega)
  have HTK := hide2 htk
  have HW := hide2 hWm
  have HBA : Hid (Below wa.heap.size wa W) := hide2 (HBC.out.trans ⟨hbW.os, hbW.tape, hbW.output, hbW.size, fun j hj => hbW.block j (by have := HBC.out.size; omega)⟩)
  clear htk hWm hbW nb hwl hkk
  go_wp2_with fail
  rw [← hW]
  clear hW
  refine HTK.out.mono ?_
  rintro e w2 ⟨rfl, hF⟩
  have HTF := hide2 hF
  clear HTK hF
  go_wp2
  go_ret2
  obtain ⟨N', F', hA, hN, hNl, hF2⟩ := HTF.out
  have h2 := HW.out.arena hF2 hA HW.out.ok (HW.out.pc.cells hN) rfl rfl rfl
  exact ⟨rfl, K, ⟨g, m0, m1, m2, T, N', F', own, pl, k1, h2, by omega, r2, r3, HR5.out⟩, fun _ _ => Iff.rfl, (Fr.below (F := K) HBA.out).trans hF2 (fun j e => .inl (HW.out.kk j (by rcases e with e | e <;> simp [e])))⟩
set_option maxRecDepth 100000 in
set_option maxHeartbeats 4000000 in
theorem ver_full_zero (h : Re w K sb d z m A u) {tt : ByteArray} {bg : Int} (ht : tt.size ≤ 64) (hb0 : 0 ≤ bg ∧ bg ≤ 18446744073709551615) (hmb : mbg bg = true) (hroom : z < u + 3) (hM : m < 4000000000000000000) :
    Calls Tryd.prog 26 #[.pointer (some ⟨sb, 0, none⟩), .string tt, .int .u64 bg, .int .i64 0] w fun e w' => e = .returned (.tuple #[.int .i64 0, .int .i64 31]) ∧ Afe w w' K sb d z m A u := by
  obtain ⟨g, m0, m1, m2, T, N, F, own, pl, k1, h, r1, r2, r3, r5⟩ := h
  have HI := hide2 (isNone_any (w := w) h.st.cells.1)
  have hTl := h.aw.len
  have HMB := hide2 (mayBegin_any bg w hb0.1)
  rw [hmb] at HMB
  have d1 : decide ((64 : Int) < (tt.size : Int)) = false := by simp; omega
  have d2 : ¬ ((64 : Int) < (tt.size : Int)) := by omega
  have H := hide2 h
  have HR5 := hide2 r5
  clear h r5
  go_enter Tryd.func26, Tryd.ntmps26
  go_wp2_with fail
  refine HI.out.mono ?_
  rintro e wa ⟨rfl, qa⟩
  subst qa
  clear HI
  go_wp2_with fail
  refine HMB.out.mono ?_
  rintro e wb ⟨rfl, qb⟩
  subst qb
  clear HMB
  have HWC := H
  have HBC : Hid (Below wb.heap.size wb wb) := hide2 (Below.refl _ _)
  have hwl := HWC.out.kl
  have hkk := HWC.out.kk
  have hdl := hwl d (hkk d (by simp))
  have hgl := hwl g (hkk g (by simp))
  have hsl := hwl sb (hkk sb (by simp))
  obtain ⟨W, hW⟩ : ∃ x, x = wb.alloc (.cells #[.int .u64 bg, .int .u64 1099511627776, .int .u64 0] 54) := ⟨_, rfl⟩
  have hbW : Below wb.heap.size wb W := by rw [hW]; exact (Below.refl _ _).alloc (Nat.le_refl _) _
  have hsW : W.heap.size = wb.heap.size + 1 := by rw [hW]; simp
  have nb : W.heap[wb.heap.size]? = some (.cells #[.int .u64 bg, .int .u64 1099511627776, .int .u64 0] 54 (0, 0)) := by rw [hW]; exact heap_alloc_new wb _
  have hWm := HWC.out.below hbW
  have htk := take_full (w := W) (sg := wb.heap.size) (n := 3) (cap := 3) (xs := [bg, 1099511627776, 0]) hWm.st.cells.1 hWm.st.lt hWm.aw hWm.tab (fun e => hWm.k0 (e ▸ hWm.kk d (by simp))) (fun e => hWm.k0 (e ▸ hWm.kk g (by simp))) hWm.nsd hWm.nsg rfl (by decide) (by decide) (by unfold maxLen; decide) (by omega) (by omega) (by omega) (fun i x hi => by
      rw [Go.Joins.cell_of_block nb]
      rcases i with _ | _ | _ | i
      · simp at hi; rw [← hi]; rfl
      · simp at hi; rw [← hi]; rfl
      · simp at hi; rw [← hi]; rfl
      · simp at hi) (by 
      intro x hx
      simp at hx
      rcases hx with rfl | rfl | rfl <;> omega) (by omega) (by omega)
  have HTK := hide2 htk
  have HW := hide2 hWm
  have HBA : Hid (Below wb.heap.size wb W) := hide2 (HBC.out.trans ⟨hbW.os, hbW.tape, hbW.output, hbW.size, fun j hj => hbW.block j (by have := HBC.out.size; omega)⟩)
  clear htk hWm hbW nb hwl hkk
  go_wp2_with fail
  rw [← hW]
  clear hW
  refine HTK.out.mono ?_
  rintro e w2 ⟨rfl, hF⟩
  have HTF := hide2 hF
  clear HTK hF
  go_wp2
  go_ret2
  obtain ⟨N', F', hA, hN, hNl, hF2⟩ := HTF.out
  have h2 := HW.out.arena hF2 hA HW.out.ok (HW.out.pc.cells hN) rfl rfl rfl
  exact ⟨rfl, K, ⟨g, m0, m1, m2, T, N', F', own, pl, k1, h2, by omega, r2, r3, HR5.out⟩, fun _ _ => Iff.rfl, (Fr.below (F := K) HBA.out).trans hF2 (fun j e => .inl (HW.out.kk j (by rcases e with e | e <;> simp [e])))⟩
set_option maxRecDepth 100000 in
set_option maxHeartbeats 4000000 in
theorem ver_full_next (h : Re w K sb d z m A u) {tt : ByteArray} {bg : Int} (ht : tt.size ≤ 64) (hb0 : 0 ≤ bg ∧ bg ≤ 18446744073709551615) (hmb : mbg bg = true) {nx : Nat} (hnx : A.lv 1 nx = true) (hroom : z < u + 3) (hM : m < 4000000000000000000) :
    Calls Tryd.prog 26 #[.pointer (some ⟨sb, 0, none⟩), .string tt, .int .u64 bg, .int .i64 (nx : Int)] w fun e w' => e = .returned (.tuple #[.int .i64 0, .int .i64 31]) ∧ Afe w w' K sb d z m A u := by
  obtain ⟨g, m0, m1, m2, T, N, F, own, pl, k1, h, r1, r2, r3, r5⟩ := h
  have HI := hide2 (isNone_any (w := w) h.st.cells.1)
  have hTl := h.aw.len
  have HMB := hide2 (mayBegin_any bg w hb0.1)
  rw [hmb] at HMB
  have d1 : decide ((64 : Int) < (tt.size : Int)) = false := by simp; omega
  have d2 : ¬ ((64 : Int) < (tt.size : Int)) := by omega
  have hnb := h.ok.n1 1 nx hnx
  have hl1 := r5 1
  have d3 : ¬ ((nx : Int) = 0) := by omega
  have d4 : decide ((nx : Int) = 0) = false := by simp; omega
  have hcv : IntKind.u64.wrap (nx : Int) = nx := by rw [IntKind.wrap_u64]; omega
  have HHS := hide2 (hasV_in h.st.lt h.st.cells.2.2.2.2.1 h.p1 (n := (nx : Int)) (by omega) (by omega) (fOf_in hnx))
  have H := hide2 h
  have HR5 := hide2 r5
  clear h r5
  go_enter Tryd.func26, Tryd.ntmps26
  go_wp2_with fail
  refine HI.out.mono ?_
  rintro e wa ⟨rfl, qa⟩
  subst qa
  clear HI
  go_wp2_with fail
  refine HMB.out.mono ?_
  rintro e wb ⟨rfl, qb⟩
  subst qb
  clear HMB
  go_wp2_with fail
  refine HHS.out.mono ?_
  rintro e wc ⟨rfl, hbc⟩
  have HWC := hide2 (H.out.below hbc)
  have HBC := hide2 hbc
  have hsc := hbc.size
  clear HHS hbc
  have hwl := HWC.out.kl
  have hkk := HWC.out.kk
  have hdl := hwl d (hkk d (by simp))
  have hgl := hwl g (hkk g (by simp))
  have hsl := hwl sb (hkk sb (by simp))
  obtain ⟨W, hW⟩ : ∃ x, x = wc.alloc (.cells #[.int .u64 bg, .int .u64 1099511627776, .int .u64 (nx : Int)] 54) := ⟨_, rfl⟩
  have hbW : Below wc.heap.size wc W := by rw [hW]; exact (Below.refl _ _).alloc (Nat.le_refl _) _
  have hsW : W.heap.size = wc.heap.size + 1 := by rw [hW]; simp
  have nb : W.heap[wc.heap.size]? = some (.cells #[.int .u64 bg, .int .u64 1099511627776, .int .u64 (nx : Int)] 54 (0, 0)) := by rw [hW]; exact heap_alloc_new wc _
  have hWm := HWC.out.below hbW
  have htk := take_full (w := W) (sg := wc.heap.size) (n := 3) (cap := 3) (xs := [bg, 1099511627776, (nx : Int)]) hWm.st.cells.1 hWm.st.lt hWm.aw hWm.tab (fun e => hWm.k0 (e ▸ hWm.kk d (by simp))) (fun e => hWm.k0 (e ▸ hWm.kk g (by simp))) hWm.nsd hWm.nsg rfl (by decide) (by decide) (by unfold maxLen; decide) (by omega) (by omega) (by omega) (fun i x hi => by
      rw [Go.Joins.cell_of_block nb]
      rcases i with _ | _ | _ | i
      · simp at hi; rw [← hi]; rfl
      · simp at hi; rw [← hi]; rfl
      · simp at hi; rw [← hi]; rfl
      · simp at hi) (by 
      intro x hx
      simp at hx
      rcases hx with rfl | rfl | rfl <;> omega) (by omega) (by omega)
  have HTK := hide2 htk
  have HW := hide2 hWm
  have HBA : Hid (Below wb.heap.size wb W) := hide2 (HBC.out.trans ⟨hbW.os, hbW.tape, hbW.output, hbW.size, fun j hj => hbW.block j (by have := HBC.out.size; omega)⟩)
  clear htk hWm hbW nb hwl hkk
  go_wp2_with fail
  rw [← hW]
  clear hW
  refine HTK.out.mono ?_
  rintro e w2 ⟨rfl, hF⟩
  have HTF := hide2 hF
  clear HTK hF
  go_wp2
  go_ret2
  obtain ⟨N', F', hA, hN, hNl, hF2⟩ := HTF.out
  have h2 := HW.out.arena hF2 hA HW.out.ok (HW.out.pc.cells hN) rfl rfl rfl
  exact ⟨rfl, K, ⟨g, m0, m1, m2, T, N', F', own, pl, k1, h2, by omega, r2, r3, HR5.out⟩, fun _ _ => Iff.rfl, (Fr.below (F := K) HBA.out).trans hF2 (fun j e => .inl (HW.out.kk j (by rcases e with e | e <;> simp [e])))⟩
end
end Go.Proofs.YtfhcphgjaobnoaaDoor
