/-
  Alloc, Free, New.
-/
import Derived.Test.YtfhcphgjaobnoaaDoorC6
import Derived.Laws.MakeOwn
set_option linter.unusedVariables false
set_option linter.unusedSimpArgs false
namespace Go.Proofs.YtfhcphgjaobnoaaDoor
open Go.RowKit

theorem getD_set {α : Type} (l : List α) (c i : Nat) (x z : α) : (l.set c x).getD i z = if i = c ∧ c < l.length then x else l.getD i z := by
  by_cases h : i = c
  · subst h
    by_cases hl : i < l.length
    · simp [List.getD, List.getElem?_set, hl]
    · simp [List.getD, List.getElem?_set, hl]
  · simp [List.getD, List.getElem?_set, Ne.symm h, h]

/-- How many are taken, when one is turned. -/
theorem count_on {T : List Bool} {c : Nat} (hc : c < T.length) (h : T.getD c true = false) : (T.set c true).count true = T.count true + 1 := by
  have e : T[c] = false := by simpa [List.getD, List.getElem?_eq_getElem hc] using h
  rw [List.count_set hc]
  simp [e]
theorem count_off {T : List Bool} {c : Nat} (hc : c < T.length) (h : T.getD c true = true) : (T.set c false).count true + 1 = T.count true := by
  have e : T[c] = true := by simpa [List.getD, List.getElem?_eq_getElem hc] using h
  have h1 : 0 < T.count true := List.count_pos_iff.2 (e ▸ List.getElem_mem hc)
  rw [List.count_set hc]
  simp [e]
  omega
theorem count_all {T : List Bool} : T.count true = T.length ↔ ∀ c, T.getD c true = true := by
  rw [List.count_eq_length]
  constructor
  · intro h c
    by_cases hc : c < T.length
    · simpa [List.getD, List.getElem?_eq_getElem hc] using (h _ (List.getElem_mem hc)).symm
    · simp [List.getD, List.getElem?_eq_none (by omega : T.length ≤ c)]
  · intro h b hb
    obtain ⟨i, hi, rfl⟩ := List.getElem_of_mem hb
    have := h i
    simpa [List.getD, List.getElem?_eq_getElem hi] using this.symm

section
variable {w w' : World} {d g : Nat} {T : List Bool} {N : List Int} {m : Int} {F : List Nat}

set_option maxRecDepth 100000 in
set_option maxHeartbeats 1000000 in
/-- Alloc, where all are taken. -/
theorem Alloc_full (h : Aw w d g T N m F) (hf : T.count true = T.length) :
    Calls Tryd.prog 81 #[.pointer (some ⟨d, 0, none⟩)] w fun e w' => e = .returned (.tuple #[.int .i64 0, .int .i64 31]) ∧ ∃ q, w' = w.drewN q := by
  obtain ⟨c1, c2, c3⟩ := h.ab.tail
  rw [hf, h.len] at c2
  generalize N.length = n at c1 c2
  go_enter Tryd.func81, Tryd.ntmps81
  go_wp2
  go_quiet (fail)
  go_wp2
  go_ret2
  exact ⟨rfl, _, rfl⟩

set_option maxRecDepth 100000 in
set_option maxHeartbeats 1000000 in
/-- Alloc, where one is free: the least. -/
theorem Alloc_one (h : Aw w d g T N m F) (hT : Tab w) (c : Nat) (hc : T.getD c true = false) (hmin : ∀ j, j < c → T.getD j true = true) (hd0 : d ≠ 0) (hg0 : g ≠ 0) :
    Calls Tryd.prog 81 #[.pointer (some ⟨d, 0, none⟩)] w fun e w' => e = .returned (.tuple #[.int .i64 (c : Int), .int .i64 0]) ∧ Aw w' d g (T.set c true) (N.set c 0) m (flip F c) ∧ Fr (fun j => j = d ∨ j = g) w w' := by
  have hcl : c < T.length := by
    rcases Nat.lt_or_ge c T.length with h1 | h1
    · exact h1
    · simp [List.getD, List.getElem?_eq_none h1] at hc
  have hlen := h.len
  have hone := h.one
  have hlt : c < 65536 := by omega
  have hne : ¬ T.count true = T.length := fun e => by
    have := count_all.1 e c
    rw [hc] at this
    cases this
  have hle : T.count true ≤ T.length := List.count_le_length
  obtain ⟨c1, c2, c3⟩ := h.ab.tail
  have hleast : ∀ q, Calls Tryd.prog 96 #[.pointer (some ⟨d, 0, none⟩)] (w.drewN q) fun e w' => e = .returned (.int .i64 (c : Int)) ∧ w' = w.drewN q := fun q =>
    least_any (h.ab.same (w' := w.drewN q) rfl) (hT.drewN q) c hlt (by rw [h.bit c hlt, hc]; rfl) (fun j hj => by rw [h.bit j (by omega), hmin j hj]; rfl)
  have hturn : ∀ q, Calls Tryd.prog 59 #[.pointer (some ⟨d, 0, none⟩), .int .i64 (c : Int)] (w.drewN q) fun e w' => e = .returned (.tuple #[]) ∧ Ab w' d (flip F c) (.slice (some ⟨g, 0, none⟩) N.length N.length) ((T.count true : Nat) : Int) m ∧ Fr (fun j => j = d) (w.drewN q) w' := fun q =>
    turn_any (h.ab.same (w' := w.drewN q) rfl) c hlt
  have HL := hide2 hleast
  have HT := hide2 hturn
  clear hleast hturn
  have hon := count_on hcl hc
  have HON := hide2 hon
  have hbit := h.bit
  have hcN : c < N.length := by omega
  have hnb := h.nb
  have hnl := h.nb.lt
  have hdg := h.ne
  have hnum := h.num
  have hFl := h.ab.1
  have hcnt : ¬ ((T.count true : Nat) : Int) = ((N.length : Nat) : Int) := by omega
  have hcnt2 : (((T.count true : Nat) : Int) == ((N.length : Nat) : Int)) = false := by simpa using hcnt
  have hcb : T.count true ≤ 65536 := by omega
  clear hon hne hle
  generalize hu : T.count true = u at *
  generalize hn : N.length = n at *
  go_enter Tryd.func81, Tryd.ntmps81
  go_wp2
  go_quiet (fail)
  go_wp2_with fail
  refine (HL.out _).mono ?_
  rintro e w1 ⟨rfl, rfl⟩
  go_wp2_with fail
  refine (HT.out _).mono ?_
  rintro e w2 ⟨rfl, hA2, hF2⟩
  have hnb2 : Nb w2 g N := (hnb.same (w' := w.drewN _) rfl).same (hF2.block g (by simpa using hnl) (fun e => hdg e.symm))
  obtain ⟨b1, b2, b3⟩ := hA2.tail
  have f1 := hA2.free 1025
  have f2 := hnb2.free c
  have k1 := hnb2.cell c (by omega)
  have l2 := hA2.lt
  have hcn : (c : Int) < (n : Int) := by omega
  clear HL HT c1 c2 c3
  go_wp2
  go_ret2
  have hA3 := hA2.setTail.1 ((u : Int) + 1)
  have hnb3 : Nb (w2.setCell ⟨d, 1025, none⟩ (.int .i64 ((u : Int) + 1))) g N := hnb2.same (Below.heap_setCell _ _ _ _ hdg.symm)
  have F3 : Fr (fun j => j = d ∨ j = g) w (((w2.setCell ⟨d, 1025, none⟩ (.int .i64 ((u : Int) + 1))).setCell ⟨g, c, none⟩ (.int .u64 0))) := by
    have F1 : Fr (fun j => j = d ∨ j = g) w w2 := ((Fr.refl _ w).drewN nq).trans hF2 (fun j hj => .inl (.inl hj))
    exact (F1.setCell (p := ⟨d, 1025, none⟩) (.inl (.inl rfl)) _).setCell (p := ⟨g, c, none⟩) (.inl (.inr rfl)) _
  refine ⟨rfl, ⟨?_, hnb3.set c 0, fun i => ?_, by simp; omega, by simp; omega, fun i hi => ?_⟩, F3⟩
  · have e1 := HON.out
    rw [e1, List.length_set, hn]
    have := hA3.same (w' := (w2.setCell ⟨d, 1025, none⟩ (.int .i64 ((u : Int) + 1))).setCell ⟨g, c, none⟩ (.int .u64 0)) (Below.heap_setCell _ _ _ _ hdg)
    simpa using this
  · rw [getD_set]
    split
    · decide
    · exact hnum i
  · rw [bitOf_flip F c i hFl hlt, getD_set]
    by_cases hic : i = c
    · subst hic
      rw [if_pos rfl, if_pos ⟨rfl, hcl⟩, hbit i hi, hc]
      rfl
    · rw [if_neg hic, if_neg (fun e => hic e.1), hbit i hi]

set_option maxRecDepth 100000 in
set_option maxHeartbeats 1000000 in
/-- Free, of a cell that is taken. -/
theorem Free_in (h : Aw w d g T N m F) (c : Nat) (hc : tk T c = true) :
    Calls Tryd.prog 97 #[.pointer (some ⟨d, 0, none⟩), .int .i64 (c : Int)] w fun e w' => e = .returned (.int .i64 0) ∧ Aw w' d g (T.set c false) N m (flip F c) ∧ Fr (fun j => j = d ∨ j = g) w w' := by
  have hcl : c < T.length := by simpa using (tk_lt hc).2
  have hct : T.getD c true = true := by
    unfold tk at hc
    simpa [List.getD, List.getElem?_eq_getElem hcl] using hc
  have hlen := h.len
  have hone := h.one
  have hlt : c < 65536 := by omega
  have htk := taken_any h.ab h.one.2 (c : Int)
  rw [h.tk, hc] at htk
  have HK := hide2 htk
  have hturn : ∀ q, Calls Tryd.prog 59 #[.pointer (some ⟨d, 0, none⟩), .int .i64 (c : Int)] (w.drewN q) fun e w' => e = .returned (.tuple #[]) ∧ Ab w' d (flip F c) (.slice (some ⟨g, 0, none⟩) N.length N.length) ((T.count true : Nat) : Int) m ∧ Fr (fun j => j = d) (w.drewN q) w' := fun q =>
    turn_any (h.ab.same (w' := w.drewN q) rfl) c hlt
  have HT := hide2 hturn
  have HOFF := hide2 (count_off hcl hct)
  have hle : T.count true ≤ T.length := List.count_le_length
  have hpos : 1 ≤ T.count true := by have := HOFF.out; omega
  have hbit := h.bit
  have hnb := h.nb
  have hnl := h.nb.lt
  have hdg := h.ne
  have hnum := h.num
  have hFl := h.ab.1
  clear htk hturn
  generalize hu : T.count true = u at *
  go_enter Tryd.func97, Tryd.ntmps97
  go_wp2_with fail
  refine HK.out.mono ?_
  rintro e w1 ⟨rfl, q, rfl⟩
  go_wp2_with fail
  refine (HT.out _).mono ?_
  rintro e w2 ⟨rfl, hA2, hF2⟩
  have hnb2 : Nb w2 g N := (hnb.same (w' := w.drewN q) rfl).same (hF2.block g (by simpa using hnl) (fun e => hdg e.symm))
  obtain ⟨b1, b2, b3⟩ := hA2.tail
  have f1 := hA2.free 1025
  clear HK HT
  go_wp2
  go_ret
  have hA3 := hA2.setTail.1 ((u : Int) - 1)
  have hnb3 : Nb (w2.setCell ⟨d, 1025, none⟩ (.int .i64 ((u : Int) - 1))) g N := hnb2.same (Below.heap_setCell _ _ _ _ hdg.symm)
  have F3 : Fr (fun j => j = d ∨ j = g) w (w2.setCell ⟨d, 1025, none⟩ (.int .i64 ((u : Int) - 1))) := by
    have F1 : Fr (fun j => j = d ∨ j = g) w w2 := ((Fr.refl _ w).drewN q).trans hF2 (fun j hj => .inl (.inl hj))
    exact (F1.setCell (p := ⟨d, 1025, none⟩) (.inl (.inl rfl)) _)
  refine ⟨rfl, ⟨?_, hnb3, hnum, by simpa using hlen, hone, fun i hi => ?_⟩, F3⟩
  · have e1 := HOFF.out
    have e2 : (((T.set c false).count true : Nat) : Int) = (u : Int) - 1 := by omega
    rw [e2]
    exact hA3
  · rw [bitOf_flip F c i hFl hlt, getD_set]
    by_cases hic : i = c
    · subst hic
      rw [if_pos rfl, if_pos ⟨rfl, hcl⟩, hbit i hi, hct]
      rfl
    · rw [if_neg hic, if_neg (fun e => hic e.1), hbit i hi]

set_option maxRecDepth 100000 in
set_option maxHeartbeats 1000000 in
/-- Free, of a cell that is not taken. -/
theorem Free_out (h : Aw w d g T N m F) (c : Int) (hc : tk T c = false) :
    Calls Tryd.prog 97 #[.pointer (some ⟨d, 0, none⟩), .int .i64 c] w fun e w' => e = .returned (.int .i64 30) ∧ ∃ q, w' = w.drewN q := by
  have htk := taken_any h.ab h.one.2 c
  rw [h.tk, hc] at htk
  have HK := hide2 htk
  clear htk
  go_enter Tryd.func97, Tryd.ntmps97
  go_wp2_with fail
  refine HK.out.mono ?_
  rintro e w1 ⟨rfl, q, rfl⟩
  go_wp2
  go_ret
  exact ⟨rfl, _, rfl⟩
end

end Go.Proofs.YtfhcphgjaobnoaaDoor
