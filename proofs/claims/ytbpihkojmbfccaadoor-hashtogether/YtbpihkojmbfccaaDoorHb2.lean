/-
  A table: New, and the law's made.
-/
import Derived.Test.YtbpihkojmbfccaaDoorHb1
set_option linter.unusedVariables false
set_option linter.unusedSimpArgs false
namespace Go.Proofs.YtbpihkojmbfccaaDoor
open Go.RowKit Go.Maps

/-- A table in memory, of an arena of z cells of its own; at most M steps were done there. -/
def HT (w : World) (K : Nat → Prop) (tb d z M : Nat) (s : Tb) : Prop :=
  ∃ g hb hc mb sv D T N m F, Hm w K tb d g hb hc mb sv D T N m F s ∧ s.inv (bkt s.hd.length) T N 0 ∧ N.length = z ∧ 0 ≤ m ∧ m ≤ (M : Int)

/-- A table without keys. -/
def s0 (n : Nat) : Tb := ⟨List.range n, List.replicate n [], []⟩
theorem s0_at (n b : Nat) : (s0 n).at b = [] := by
  unfold Tb.at s0
  simp only [List.getD, List.getElem?_replicate]
  split <;> rfl
theorem s0_all (n : Nat) : (s0 n).all = [] := by simp [Tb.all, s0]
theorem s0_cells (n : Nat) : (s0 n).cells = List.range n := by unfold Tb.cells; rw [s0_all]; simp [s0]
theorem s0_inv (n z : Nat) (h1 : 1 ≤ n) (h2 : n ≤ 256) (h3 : n ≤ z) (bk : ByteArray → Nat) : (s0 n).inv bk (upT z n) (List.replicate z 0) 0 := by
  refine ⟨by simp [s0]; omega, by simp [s0], ?_, fun c hc => ?_, ?_, by rw [upT_len z n h3]; simp, fun b hb => ?_, fun c hc => by simp [s0] at hc, fun b hb e he => ?_, fun b hb => ?_⟩
  · rw [s0_cells]; exact List.nodup_range
  · rw [s0_cells] at hc
    have := List.mem_range.1 hc
    rw [upT_at z n c h3, if_pos this]
  · rw [upT_count, s0_cells]; simp
  · rw [s0_at]
    show (List.replicate z (0 : Int)).getD _ 0 = 0
    simp only [List.getD, List.getElem?_replicate]
    split <;> rfl
  · rw [s0_at] at he; cases he
  · rw [s0_at]; simp

section
variable {w : World} {d g z n : Nat} {m : Int} {F : List Nat}

theorem hnew_nil (w : World) (n : Int) : Calls Tryd.prog 23 #[.pointer none, .int .i64 n] w fun e w' => e = .returned (.tuple #[.pointer none, .int .i64 1]) ∧ w' = w := by
  go_enter Tryd.func23, Tryd.ntmps23
  go_wp2
  go_ret2
  exact ⟨rfl, rfl⟩
set_option maxHeartbeats 1000000 in
theorem hnew_bad (w : World) (d : Nat) (n : Int) (h : n < 1 ∨ 256 < n) : Calls Tryd.prog 23 #[.pointer (some ⟨d, 0, none⟩), .int .i64 n] w fun e w' => e = .returned (.tuple #[.pointer none, .int .i64 2]) ∧ w' = w := by
  by_cases h1 : n < 1
  · clear h
    go_enter Tryd.func23, Tryd.ntmps23
    go_wp2
    go_ret2
    exact ⟨rfl, rfl⟩
  · have h2 : 256 < n := by omega
    have d1 : decide (n < 1) = false := by simpa using h1
    have d2 : decide (256 < n) = true := by simpa using h2
    clear h
    go_enter Tryd.func23, Tryd.ntmps23
    go_wp2
    go_ret2
    exact ⟨rfl, rfl⟩

set_option maxRecDepth 100000 in
set_option maxHeartbeats 2000000 in
theorem hnew_full (h : Aw w d g (upT z 0) (List.replicate z 0) m F) (hT : Tab w) (hd0 : d ≠ 0) (hg0 : g ≠ 0) (h1 : 1 ≤ n) (h2 : n ≤ 256) (h3 : z < n) :
    Calls Tryd.prog 23 #[.pointer (some ⟨d, 0, none⟩), .int .i64 (n : Int)] w fun e w' => e = .returned (.tuple #[.pointer none, .int .i64 31]) ∧ (∃ F', Aw w' d g (dnT z z) (List.replicate z 0) m F') ∧ Fr (fun j => j = d ∨ j = g) w w' := by
  have HTA := hide2 (takeAll_any h hT hd0 hg0 (n := n) (by omega))
  have d1 : decide ((n : Int) < 1) = false := by simp; omega
  have d2 : decide ((256 : Int) < (n : Int)) = false := by simp; omega
  clear h hT
  go_enter Tryd.func23, Tryd.ntmps23
  go_wp2_with fail
  refine HTA.out.mono ?_
  rintro e w1 ⟨-, hB, hF⟩
  obtain ⟨F', rfl, hA⟩ := hB h3
  clear HTA
  go_wp2
  go_ret2
  exact ⟨rfl, ⟨F', hA⟩, hF⟩

set_option maxRecDepth 100000 in
set_option maxHeartbeats 2000000 in
theorem hnew_any (h : Aw w d g (upT z 0) (List.replicate z 0) m F) (hT : Tab w) (hd0 : d ≠ 0) (hg0 : g ≠ 0) (h1 : 1 ≤ n) (h2 : n ≤ 256) (h3 : n ≤ z) (hm : m = 0) :
    Calls Tryd.prog 23 #[.pointer (some ⟨d, 0, none⟩), .int .i64 (n : Int)] w fun e w' => ∃ tb K, e = .returned (.tuple #[.pointer (some ⟨tb, 0, none⟩), .int .i64 0]) ∧ HT w' K tb d z 0 (s0 n) ∧ (∀ j, K j → j = d ∨ j = g ∨ w.heap.size ≤ j) ∧ Fr (fun j => j = d ∨ j = g) w w' := by
  have HTA := hide2 (takeAll_any h hT hd0 hg0 (n := n) (by omega))
  have d1 : decide ((n : Int) < 1) = false := by simp; omega
  have d2 : decide ((256 : Int) < (n : Int)) = false := by simp; omega
  have HT0 := hide2 hT
  have hdl := h.ab.lt
  have hgl := h.nb.lt
  clear h hT
  go_enter Tryd.func23, Tryd.ntmps23
  go_wp2_with fail
  refine HTA.out.mono ?_
  rintro e w1 ⟨hAA, -, hF⟩
  obtain ⟨v, F', rfl, hr, hA⟩ := hAA h3
  clear hAA
  obtain ⟨hb, hc, ev, hx⟩ := hr.at (i := 0) (by simp; omega)
  rw [List.length_range] at ev
  clear HTA hx
  subst ev
  have hs := hF.size
  have HR := hide2 hr
  have HA := hide2 hA
  have HF := hide2 hF
  have hmm : (Instr.makeMap 70 none).run Tryd.prog w1 = .ok (.map (some w1.heap.size)) (w1.alloc (.map #[] 0)) := rfl
  clear hr hA hF
  go_wp2
  go_ret2
  obtain ⟨w2, hw2⟩ : ∃ x, x = w1.alloc (.map #[] 0) := ⟨_, rfl⟩
  have hs2 : w2.heap.size = w1.heap.size + 1 := by rw [hw2]; simp
  obtain ⟨w3, hw3⟩ : ∃ x, x = w2.alloc (.cells #[.pointer (some ⟨d, 0, none⟩), .slice (some ⟨hb, 0, none⟩) n hc, .map (some w1.heap.size), .slice none 0 0] 74) := ⟨_, rfl⟩
  have hs3 : w3.heap.size = w2.heap.size + 1 := by rw [hw3]; simp
  have hw4 : (w1.alloc (.map #[] 0)).alloc (.cells #[.pointer (some ⟨d, 0, none⟩), .slice (some ⟨hb, 0, none⟩) n hc, .map (some w1.heap.size), .slice none 0 0] 74) = w3 := by rw [hw3, hw2]
  rw [hw4]
  have hF2 : Fr (fun _ => False) w1 w2 := by rw [hw2]; exact (Fr.refl _ w1).alloc _
  have hF3 : Fr (fun _ => False) w2 w3 := by rw [hw3]; exact (Fr.refl _ w2).alloc _
  have hF13 : Fr (fun _ => False) w1 w3 := hF2.trans hF3 (fun j e => .inl e)
  have hm2 : w2.ownsMap Tryd.prog 3 RVh w1.heap.size 0 (.map []) := by rw [hw2]; exact World.ownsMap_made w1 Tryd.prog 3 RVh
  have htb : Tk4 w3 w2.heap.size d (.slice (some ⟨hb, 0, none⟩) n hc) w1.heap.size (.slice none 0 0) := by rw [hw3]; exact heap_alloc_new w2 _
  have hhb := World.ownsRow.lt HR.out hb rfl
  have hlen : (s0 n).hd.length = n := by simp [s0]
  refine ⟨w2.heap.size, fun j => j = w2.heap.size ∨ j = d ∨ j = g ∨ j = hb ∨ j = w1.heap.size, ?_, ⟨g, hb, hc, w1.heap.size, .slice none 0 0, .map [], upT z n, List.replicate z 0, m, F', ⟨HA.out.fr hF13 id id, by rw [hlen]; exact htb, ?_, ?_, ?_, ?_, ?_, ?_, ?_, ?_, ?_⟩, s0_inv n z h1 h2 h3 _, by simp, by omega, by omega⟩, ?_, ?_⟩
  · show Ending.returned (.tuple #[.pointer (some ⟨w1.heap.size + 1, 0, none⟩), .int .i64 0]) = _
    rw [hs2]
  · rw [hlen]
    exact Go.Joins.ownsRow_le (hrow_fr HR.out hF13 (fun _ _ => id)) (Nat.zero_le _)
  · rw [s0_all]
    exact own_fr hm2 hF3 id
  · rw [s0_all]
    exact ⟨isMap_empty, fun e he => (by cases he), fun e he => (by cases he), fun kl hkl => (by simp [Maps.has_eq] at hkl)⟩
  · exact ⟨rfl, .inl ⟨rfl, rfl⟩⟩
  · intro e; cases e
  · exact (HT0.out.fr HF.out (by rintro (e | e); exact hd0 e.symm; exact hg0 e.symm)).fr hF13 id
  · rintro (e | e | e | e | e) <;> omega
  · rintro j (e | e | e | e | e | e)
    · exact .inl e
    · exact .inr (.inl e)
    · exact .inr (.inr (.inl e))
    · exact .inr (.inr (.inr (.inl e)))
    · exact .inr (.inr (.inr (.inr e)))
    · cases e
  · rintro j (e | e | e | e | e) <;> omega
  · rintro j (e | e | e | e | e)
    · omega
    · exact .inl e
    · exact .inr (.inl e)
    · omega
    · omega
  · exact (HF.out.trans hF2 (fun j e => e.elim)).trans hF3 (fun j e => e.elim)
end
end Go.Proofs.YtbpihkojmbfccaaDoor
