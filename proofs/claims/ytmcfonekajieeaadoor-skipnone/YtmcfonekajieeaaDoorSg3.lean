/-
  New: a list.
-/
import Derived.Test.YtmcfonekajieeaaDoorSd1
import Derived.Test.YtmcfonekajieeaaDoorSb1
set_option linter.unusedVariables false
set_option linter.unusedSimpArgs false
namespace Go.Proofs.YtmcfonekajieeaaDoor
open Go.RowKit Go.Maps

/-- The head's tower; a list without keys. -/
def tH : Tw := ⟨.empty, 0, 8, 8, fun l => if l < 8 then l else 0, fun _ => 0, fun _ => 0⟩
def s0 : Sl := ⟨[tH], []⟩
theorem s0_at (i : Nat) : s0.at i = if i = 0 then tH else t0 := by
  unfold s0 Sl.at
  rcases i with _ | i
  · rfl
  · simp [List.getD]
theorem s0_ok : s0.ok := by
  have h1 : ∀ i, i < s0.tw.length → i = 0 := fun i hi => by simp [s0] at hi; exact hi
  refine ⟨by simp [s0], ?_, fun i hi => ?_, fun i h hi => ?_, fun i hi l hl => ?_, fun i hi l => ?_, fun i hi l hl hz => ?_, fun i j hi hj hij => ?_, fun i j hi hj hij => ?_⟩
  · rw [s0_at]; exact ⟨rfl, rfl, rfl, rfl⟩
  · rw [h1 i hi, s0_at]; exact ⟨by decide, by decide, by decide⟩
  · have := h1 i hi; omega
  · rw [h1 i hi, s0_at]; rfl
  · rw [h1 i hi, s0_at]; show 0 < 1; decide
  · exfalso
    apply hz
    unfold Sl.nx
    rw [h1 i hi, s0_at]; rfl
  · rw [h1 i hi, h1 j hj] at hij
    exact absurd hij Blw.irrefl
  · rw [h1 i hi, h1 j hj]
theorem s0_cells : s0.cells = List.range 8 := rfl
theorem s0_cw (z : Nat) (h3 : 8 ≤ z) : s0.cw (upT z 8) (List.replicate z 0) := by
  refine ⟨by rw [s0_cells]; exact List.nodup_range, fun c hc => ?_, ?_, by rw [upT_len z 8 h3]; simp, fun c hc => by simp [s0] at hc, fun i hi l hl => ?_⟩
  · rw [s0_cells] at hc
    have := List.mem_range.1 hc
    rw [upT_at z 8 c h3, if_pos this]
  · rw [upT_count, s0_cells]; simp
  · have h1 : i = 0 := by simp [s0] at hi; exact hi
    rw [h1, s0_at, if_pos rfl]
    show (List.replicate z (0 : Int)).getD _ 0 = 0
    simp only [List.getD, List.getElem?_replicate]
    by_cases q : tH.cs l < z
    · rw [if_pos q]; rfl
    · rw [if_neg q]; rfl

section
variable {w : World} {d g z : Nat} {m : Int} {F : List Nat}
theorem new_nil (w : World) : Calls Tryd.prog 10 #[.pointer none] w fun e w' => e = .returned (.tuple #[.pointer none, .int .i64 1]) ∧ w' = w := by
  go_enter Tryd.func10, Tryd.ntmps10
  go_wp2
  go_ret2
  exact ⟨rfl, rfl⟩
set_option maxRecDepth 100000 in
set_option maxHeartbeats 2000000 in
theorem new_full (h : Aw w d g (upT z 0) (List.replicate z 0) m F) (hT : Tab w) (hd0 : d ≠ 0) (hg0 : g ≠ 0) (h3 : z < 8) :
    Calls Tryd.prog 10 #[.pointer (some ⟨d, 0, none⟩)] w fun e w' => e = .returned (.tuple #[.pointer none, .int .i64 31]) ∧ (∃ F', Aw w' d g (dnT z z) (List.replicate z 0) m F') ∧ Fr (fun j => j = d ∨ j = g) w w' := by
  have HTA := hide2 (takeAll_any h hT hd0 hg0 (n := 8) (by omega))
  clear h hT
  go_enter Tryd.func10, Tryd.ntmps10
  go_wp2_with fail
  refine HTA.out.mono ?_
  rintro e w1 ⟨-, hB, hF⟩
  obtain ⟨F', rfl, hA⟩ := hB h3
  clear HTA
  go_wp2
  go_ret2
  exact ⟨rfl, ⟨F', hA⟩, hF⟩

set_option maxRecDepth 100000 in
set_option maxHeartbeats 4000000 in
theorem new_any (h : Aw w d g (upT z 0) (List.replicate z 0) m F) (hT : Tab w) (hd0 : d ≠ 0) (hg0 : g ≠ 0) (h3 : 8 ≤ z) :
    Calls Tryd.prog 10 #[.pointer (some ⟨d, 0, none⟩)] w fun e w' => ∃ lb K gt F', e = .returned (.tuple #[.pointer (some ⟨lb, 0, none⟩), .int .i64 0]) ∧ Lm w' K lb d g gt 1 (.slice none 0 0) (upT z 8) (List.replicate z 0) m F' s0 ∧ (∀ j, K j → j = d ∨ j = g ∨ w.heap.size ≤ j) ∧ Fr (fun j => j = d ∨ j = g) w w' := by
  have HTA := hide2 (takeAll_any h hT hd0 hg0 (n := 8) (by omega))
  have HT0 := hide2 hT
  have hdl := h.ab.lt
  have hgl := h.nb.lt
  clear h hT
  go_enter Tryd.func10, Tryd.ntmps10
  go_wp2_with fail
  refine HTA.out.mono ?_
  rintro e w1 ⟨hAA, -, hF⟩
  obtain ⟨v, F', rfl, hr, hA⟩ := hAA h3
  clear hAA
  obtain ⟨hb, hc, ev, hx⟩ := hr.at (i := 0) (by simp)
  rw [List.length_range] at ev
  clear HTA hx
  subst ev
  have hcell : ∀ j, j < 8 → w1.cell? ⟨hb, j, none⟩ = some (.int .i64 (j : Int)) := fun j hj => by
    rw [World.ownsRow.cellAt hr _ (by simp; omega)]
    simp [hj, nv]
  have k0 : w1.cell? ⟨hb, 0, none⟩ = some (.int .i64 0) := hcell 0 (by decide)
  have k1 : w1.cell? ⟨hb, 1, none⟩ = some (.int .i64 1) := hcell 1 (by decide)
  have k2 : w1.cell? ⟨hb, 2, none⟩ = some (.int .i64 2) := hcell 2 (by decide)
  have k3 : w1.cell? ⟨hb, 3, none⟩ = some (.int .i64 3) := hcell 3 (by decide)
  have k4 : w1.cell? ⟨hb, 4, none⟩ = some (.int .i64 4) := hcell 4 (by decide)
  have k5 : w1.cell? ⟨hb, 5, none⟩ = some (.int .i64 5) := hcell 5 (by decide)
  have k6 : w1.cell? ⟨hb, 6, none⟩ = some (.int .i64 6) := hcell 6 (by decide)
  have k7 : w1.cell? ⟨hb, 7, none⟩ = some (.int .i64 7) := hcell 7 (by decide)
  have hs := hF.size
  have HA := hide2 hA
  have HF := hide2 hF
  have hcap : 8 ≤ hc := by
    rcases hr.2 with ⟨e, _⟩ | ⟨g', cap', cur, e, _, _, q, _⟩
    · cases e
    · cases e; simpa using q
  clear hr hA hF hcell
  have hat : (Instr.arrayAt 70 (.slice (some ⟨hb, 0, none⟩) 8 hc)).run Tryd.prog w1 = .ok (.pointer (some ⟨hb, 0, none⟩)) w1 := by
    simp [Instr.arrayAt, run_underlying Tryd.underlying70]
  go_wp2
  go_ret2
  obtain ⟨w2, hw2⟩ : ∃ y, y = w1.alloc (.cells #[.int .u8 0, .int .u8 0, .int .u8 0, .int .u8 0, .int .u8 0, .int .u8 0, .int .u8 0, .int .u8 0, .int .u8 0, .int .u8 0, .int .u8 0, .int .u8 0, .int .u8 0, .int .u8 0, .int .u8 0, .int .u8 0, .int .u8 0, .int .i64 0, .int .i64 0, .int .i64 1, .int .i64 2, .int .i64 3, .int .i64 4, .int .i64 5, .int .i64 6, .int .i64 7, .int .i64 0, .int .i64 0, .int .i64 0, .int .i64 0, .int .i64 0, .int .i64 0, .int .i64 0, .int .i64 0] 74) := ⟨_, rfl⟩
  have hlit : #[.int .u8 0, .int .u8 0, .int .u8 0, .int .u8 0, .int .u8 0, .int .u8 0, .int .u8 0, .int .u8 0, .int .u8 0, .int .u8 0, .int .u8 0, .int .u8 0, .int .u8 0, .int .u8 0, .int .u8 0, .int .u8 0, .int .u8 0, .int .i64 0, .int .i64 0, .int .i64 1, .int .i64 2, .int .i64 3, .int .i64 4, .int .i64 5, .int .i64 6, .int .i64 7, .int .i64 0, .int .i64 0, .int .i64 0, .int .i64 0, .int .i64 0, .int .i64 0, .int .i64 0, .int .i64 0] = (twL tH).toArray := by kernel_rfl
  have hs2 : w2.heap.size = w1.heap.size + 1 := by rw [hw2]; simp
  obtain ⟨w3, hw3⟩ : ∃ y, y = w2.alloc (.cells #[.pointer (some ⟨d, 0, none⟩), .slice (some ⟨w1.heap.size, 0, none⟩) 1 1, .slice none 0 0] 77) := ⟨_, rfl⟩
  have b2 : w2.heap[w1.heap.size]? = some (.cells (twL tH).toArray 74 (0, 0)) := by rw [hw2, hlit]; exact heap_alloc_new _ _
  have b3 : w3.heap[w2.heap.size]? = some (.cells #[.pointer (some ⟨d, 0, none⟩), .slice (some ⟨w1.heap.size, 0, none⟩) 1 1, .slice none 0 0] 77 (0, 0)) := by rw [hw3]; exact heap_alloc_new _ _
  have f2 : Fr (fun _ => False) w1 w2 := by rw [hw2]; exact (Fr.refl _ w1).alloc _
  have f3 : Fr (fun _ => False) w2 w3 := by rw [hw3]; exact (Fr.refl _ w2).alloc _
  have f13 := f2.trans f3 (fun j e => .inl e)
  have b2' : w3.heap[w1.heap.size]? = some (.cells (twL tH).toArray 74 (0, 0)) := (f3.block _ (by omega) (fun e => e)).trans b2
  try rw [← hw2]
  try rw [← hw3]
  have hF0 : ¬ (0 = d ∨ 0 = g) := by rintro (e | e); exact hd0 e.symm; exact hg0 e.symm
  refine ⟨w2.heap.size, fun j => j = w2.heap.size ∨ j = d ∨ j = g ∨ j = w1.heap.size, w1.heap.size, F', ?_, ⟨HA.out.fr f13 id id, b3, ⟨rfl, .inr ⟨w1.heap.size, 1, (twL tH).toArray, rfl, Nat.zero_le _, b2', Nat.le_refl _, by unfold maxLen; omega, rfl, rfl⟩⟩, ⟨rfl, .inl ⟨rfl, rfl⟩⟩, (HT0.out.fr HF.out hF0).fr f13 id, ?_, ?_, ?_⟩, ?_, HF.out.trans f13 (fun j e => e.elim)⟩
  · rw [hs2]; rfl
  · rintro (e | e | e | e) <;> omega
  · rintro j (e | e | e | e | e)
    · exact .inl e
    · exact .inr (.inl e)
    · exact .inr (.inr (.inl e))
    · exact .inr (.inr (.inr e))
    · cases e
  · have hsz3 : w3.heap.size = w2.heap.size + 1 := by rw [hw3]; simp
    rintro j (e | e | e | e) <;> omega
  · rintro j (e | e | e | e)
    · omega
    · exact .inl e
    · exact .inr (.inl e)
    · omega
end
end Go.Proofs.YtmcfonekajieeaaDoor
