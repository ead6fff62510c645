/-
  An operation more in memory; one that has gone on.
-/
import Derived.Test.YtbpihkojmbfccaaDoorHd4
set_option linter.unusedVariables false
set_option linter.unusedSimpArgs false
namespace Go.Proofs.YtbpihkojmbfccaaDoor
open Go.RowKit Go.Maps Go.Sort

theorem flat7 (l : List Un) (i j : Nat) (u : Un) (hi : l[i]? = some u) (hj : j < 7) : (l.flatMap Un.cells)[i * 7 + j]? = u.cells[j]? := by
  induction l generalizing i with
  | nil => simp at hi
  | cons y ys ih =>
    rw [List.flatMap_cons]
    cases i with
    | zero =>
      simp at hi; subst hi
      rw [List.getElem?_append_left (by show 0 * 7 + j < 7; omega), Nat.zero_mul, Nat.zero_add]
    | succ i =>
      rw [List.getElem?_append_right (by show 7 ≤ _; omega)]
      rw [show (i + 1) * 7 + j - y.cells.length = i * 7 + j by show _ - 7 = _; omega]
      exact ih i (by simpa using hi)
theorem flat_o (l : List Un) (j : Nat) (u : Un) (o' : Opm) (hj : l[j]? = some u) : (l.set j { u with o := o' }).flatMap Un.cells = l.flatMap Un.cells := by
  induction l generalizing j with
  | nil => simp at hj
  | cons y ys ih =>
    cases j with
    | zero => simp at hj; subst hj; rfl
    | succ j =>
      rw [List.set_cons_succ, List.flatMap_cons, List.flatMap_cons, ih j (by simpa using hj)]
theorem flat_fin (l : List Un) (j : Nat) (u : Un) (o' : Opm) (f : Option Nat) (hj : l[j]? = some u) : (l.flatMap Un.cells).set (j * 7 + 6) (.int .i64 (finI f)) = (l.set j { u with o := o', fin := f }).flatMap Un.cells := by
  induction l generalizing j with
  | nil => simp at hj
  | cons y ys ih =>
    cases j with
    | zero =>
      simp at hj; subst hj
      rw [List.set_cons_zero, List.flatMap_cons, List.flatMap_cons, List.set_append]
      rw [if_pos (by show 0 * 7 + 6 < 7; omega)]
      rfl
    | succ j =>
      rw [List.set_cons_succ, List.flatMap_cons, List.flatMap_cons, List.set_append, if_neg (by show ¬ (j + 1) * 7 + 6 < 7; omega)]
      rw [show (j + 1) * 7 + 6 - y.cells.length = j * 7 + 6 by show _ - 7 = _; omega, ih j (by simpa using hj)]

section
variable {w wr w1 w2 w4 : World} {tb d M : Nat} {K : Nat → Prop} {s : Tb} {l : List Un} {v v' : Value} {ab nb : Nat} {at4 : List Nat} {now4 : List (Option Nat)}
theorem Tm.pushed (h : Tm w w1 tb d M K s l v ab nb at4 now4) {u : Un} (hb : Below w1.heap.size w1 w2) (ho : Om w2 u.b (tp tb) u.o) (hb1 : w1.heap.size ≤ u.b) (hF : Fr (fun j => v.ownBlock = some j) w2 w4) (hr : w4.ownsRow w.heap.size 48 7 v' (l.length + 1) (l.flatMap Un.cells ++ u.cells)) (hv : ∀ j, v'.ownBlock = some j → v.ownBlock = some j ∨ w2.heap.size ≤ j) :
    Tm w w4 tb d M K s (l ++ [u]) v' ab nb at4 now4 := by
  have h2 := h.below hb
  have hs1 := h.bl.size
  have hs2 := hb.size
  have hkl := h.ht.kl
  have hvl : ∀ j, v.ownBlock = some j → w.heap.size ≤ j ∧ j < w1.heap.size := fun j e => World.ownsRow.lt h.row j e
  have hbl : ∀ x ∈ l, x.b < w1.heap.size := fun x hx => (h.ops x hx).lt
  refine ⟨h2.ht.keep hF (fun j hj e => h.kv j e hj) (fun e => by have := (hvl 0 e).1; have := h.b0; omega), ?_, fun x hx => ?_, ?_, h.kb, fun x hx => ?_, fun j e q => ?_, (hF.block ab (Array.getElem?_eq_some_iff.1 h2.atb).1 (fun e => h.vb.1 e)).trans h2.atb, (hF.block nb (Array.getElem?_eq_some_iff.1 h2.nowb).1 (fun e => h.vb.2.1 e)).trans h2.nowb, h.la, h.ka, h2.bl.trans (hF.to (fun j hj e => by have := (hvl j e).1; omega) h2.bl.size), h.b0⟩
  · rw [List.length_append, List.length_singleton, List.flatMap_append, List.flatMap_singleton]
    exact hr
  · rcases List.mem_append.1 hx with q | q
    · exact (h2.ops x q).fr hF (fun e => h.vb.2.2 x q e)
    · simp at q; subst q
      exact ho.fr hF (fun e => by have := (hvl _ e).2; omega)
  · rw [List.map_append, List.nodup_append]
    refine ⟨h.nd, by simp, fun a ha b hb2 e => ?_⟩
    obtain ⟨x, hx, rfl⟩ := List.mem_map.1 ha
    simp at hb2
    have := hbl x hx
    omega
  · rcases List.mem_append.1 hx with q | q
    · exact h.ko x q
    · simp at q; subst q
      exact ⟨fun e => by have := hkl _ e; omega, by omega⟩
  · rcases hv j e with q2 | q2
    · exact h.kv j q2 q
    · have := hkl j q; omega

/-- One has gone on, and is not done. -/
theorem Tm.went {j : Nat} {u : Un} {o' : Opm} {s' : Tb} {K' : Nat → Prop} {M' : Nat} (h : Tm w wr tb d M K s l v ab nb at4 now4) (hj : l[j]? = some u) (hH : HT w1 K' tb d 400 M' s') (ho : Om w1 u.b (tp tb) o') (hK : ∀ j, j < wr.heap.size → (K' j ↔ K j)) (hF : Fr (fun j => K j ∨ j = u.b) wr w1) :
    Tm w w1 tb d M' K' s' (l.set j { u with o := o' }) v ab nb at4 now4 := by
  have hu := List.mem_of_getElem? hj
  have hs1 := h.bl.size
  have hbl : ∀ x ∈ l, x.b < wr.heap.size := fun x hx => (h.ops x hx).lt
  have hmem : ∀ x ∈ l.set j { u with o := o' }, x = { u with o := o' } ∨ (x ∈ l ∧ x.b ≠ u.b) := fun x hx => by
    rcases set_mem hj hx with e | ⟨i, hi, h1⟩
    · exact .inl e
    · refine .inr ⟨List.mem_of_getElem? h1, fun e => hi ?_⟩
      have hil := (List.getElem?_eq_some_iff.1 h1).1
      have hjl := (List.getElem?_eq_some_iff.1 hj).1
      refine getD_inj (z := 0) h.nd (i := i) (j := j) (by simpa using hil) (by simpa using hjl) ?_
      simp [List.getD, List.getElem?_map, h1, hj, e]
  have hvG : ∀ j2, v.ownBlock = some j2 → ¬ (K j2 ∨ j2 = u.b) := fun j2 e q => by
    rcases q with q | q
    · exact h.kv j2 e q
    · exact h.vb.2.2 u hu (q ▸ e)
  have hab : ¬ (K ab ∨ ab = u.b) := fun q => by
    rcases q with q | q
    · exact h.ka.1 q
    · exact (h.ob hu).1 q.symm
  have hnb : ¬ (K nb ∨ nb = u.b) := fun q => by
    rcases q with q | q
    · exact h.ka.2.1 q
    · exact (h.ob hu).2 q.symm
  have abl := (Array.getElem?_eq_some_iff.1 h.atb).1
  have nbl := (Array.getElem?_eq_some_iff.1 h.nowb).1
  refine ⟨hH, ?_, fun x hx => ?_, ?_, fun j2 hj2 => ?_, fun x hx => ?_, fun j2 e q => ?_, (hF.block ab abl hab).trans h.atb, (hF.block nb nbl hnb).trans h.nowb, h.la, ?_, h.bl.trans (hF.to (fun j2 hj2 q => ?_) hs1), h.b0⟩
  · rw [List.length_set, flat_o l j u o' hj]
    exact hrow_fr h.row hF hvG
  · rcases hmem x hx with e | ⟨e1, e2⟩
    · rw [e]; exact ho
    · exact (h.ops x e1).fr hF (fun q => by
        rcases q with q | q
        · exact (h.ko x e1).1 q
        · exact e2 q)
  · have : (l.set j { u with o := o' }).map Un.b = l.map Un.b := by
      rw [List.map_set]
      have hjl := (List.getElem?_eq_some_iff.1 hj).1
      apply List.ext_getElem?
      intro i
      rw [List.getElem?_set]
      by_cases e : j = i
      · subst e
        rw [if_pos rfl, if_pos (by simpa using hjl), List.getElem?_map, hj]; rfl
      · rw [if_neg e]
    rw [this]; exact h.nd
  · rcases Nat.lt_or_ge j2 wr.heap.size with q | q
    · exact h.kb j2 ((hK j2 q).1 hj2)
    · omega
  · rcases hmem x hx with e | ⟨e1, e2⟩
    · rw [e]
      exact ⟨fun q => (h.ko u hu).1 ((hK _ (hbl u hu)).1 q), (h.ko u hu).2⟩
    · exact ⟨fun q => (h.ko x e1).1 ((hK _ (hbl x e1)).1 q), (h.ko x e1).2⟩
  · exact h.kv j2 e ((hK j2 (World.ownsRow.lt h.row j2 e).2).1 q)
  · exact ⟨fun q => h.ka.1 ((hK ab abl).1 q), fun q => h.ka.2.1 ((hK nb nbl).1 q), h.ka.2.2⟩
  · rcases q with q | q
    · have := h.kb j2 q; omega
    · have := (h.ko u hu).2; omega

/-- It is written down when one was done. -/
theorem Tm.ended {j : Nat} {u : Un} {g cap n : Nat} (h : Tm w wr tb d M K s l (.slice (some ⟨g, 0, none⟩) n cap) ab nb at4 now4) (hn : n = l.length) (hj : l[j]? = some u) (f : Option Nat) :
    Tm w (wr.setCell ⟨g, j * 7 + 6, none⟩ (.int .i64 (finI f))) tb d M K s (l.set j { u with fin := f }) (.slice (some ⟨g, 0, none⟩) n cap) ab nb at4 now4 := by
  subst hn
  have hF : Fr (fun j => j = g) wr (wr.setCell ⟨g, j * 7 + 6, none⟩ (.int .i64 (finI f))) := Fr.setCell (p := ⟨g, j * 7 + 6, none⟩) (Fr.refl (fun j => j = g) wr) (.inl rfl) _
  have hg := World.ownsRow.lt h.row g rfl
  have hmem : ∀ x ∈ l.set j { u with fin := f }, ∃ y ∈ l, y.b = x.b ∧ y.o = x.o := fun x hx => by
    rcases set_mem hj hx with e | ⟨i, hi, h1⟩
    · exact ⟨u, List.mem_of_getElem? hj, by rw [e], by rw [e]⟩
    · exact ⟨x, List.mem_of_getElem? h1, rfl, rfl⟩
  have hvb := h.vb
  refine ⟨h.ht.keep hF (fun j2 hj2 e => h.kv j2 (by rw [e]; rfl) hj2) (fun e => by have := hg.1; have := h.b0; omega), ?_, fun x hx => ?_, ?_, h.kb, fun x hx => ?_, h.kv, (hF.block ab (Array.getElem?_eq_some_iff.1 h.atb).1 (fun e => hvb.1 (by rw [e]; rfl))).trans h.atb, (hF.block nb (Array.getElem?_eq_some_iff.1 h.nowb).1 (fun e => hvb.2.1 (by rw [e]; rfl))).trans h.nowb, h.la, h.ka, h.bl.trans (hF.to (fun j2 hj2 e => by have := hg.1; omega) h.bl.size), h.b0⟩
  · have := World.ownsRow.stored h.row (j * 7 + 6) (.int .i64 (finI f))
    rw [flat_fin l j u u.o f hj] at this
    rw [List.length_set]
    exact this.1
  · obtain ⟨y, hy, e1, e2⟩ := hmem x hx
    rw [← e1, ← e2]
    exact (h.ops y hy).fr hF (fun e => hvb.2.2 y hy (by rw [e]; rfl))
  · have : (l.set j { u with fin := f }).map Un.b = l.map Un.b := by
      rw [List.map_set]
      have hjl := (List.getElem?_eq_some_iff.1 hj).1
      apply List.ext_getElem?
      intro i
      rw [List.getElem?_set]
      by_cases e : j = i
      · subst e
        rw [if_pos rfl, if_pos (by simpa using hjl), List.getElem?_map, hj]; rfl
      · rw [if_neg e]
    rw [this]; exact h.nd
  · obtain ⟨y, hy, e1, e2⟩ := hmem x hx
    rw [← e1]; exact h.ko y hy
end
end Go.Proofs.YtbpihkojmbfccaaDoor
