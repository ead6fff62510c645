/-
  The document's own disk: a disk that Crash is making.
-/
import Derived.Test.YtolaagbdnchhiaaRD14
set_option linter.unusedVariables false
set_option linter.unusedSimpArgs false
namespace Go.Proofs.Ytolaagbdnchhiaa
open Go.RowKit Go.Maps

structure Wc (w : World) (o : Nat) (κ : Nat → Ro) (vF vO : Value) (φ : Nat → Nat) (β : Nat → Value) (D : PDir) (fs : List (List Int × Nat)) : Prop where
  rk : Rk w o vF vO (.slice none 0 0) (.slice none 0 0) 0 (-1) false
  kr : κ o = .dsk
  rF : w.ownsRow 0 95 1 vF fs.length ((List.range fs.length).map fun i => rpt (φ i))
  kF : ∀ g, vF.ownBlock = some g → κ g = .fs
  rO : Nr w 0 vO (nl D)
  kO : ∀ g, vO.ownBlock = some g → κ g = .nam
  fil : ∀ (i : Nat) (x : List Int × Nat), fs[i]? = some x → RFl w (φ i) (β i) x.2 ∧ κ (φ i) = .fl i ∧ Own w 0 (β i) x.1 ∧ ∀ g, (β i).ownBlock = some g → κ g = .byt i
  frs : ∀ g, κ g ≠ .out → g < w.heap.size

section
variable {w w' : World} {o : Nat} {κ : Nat → Ro} {vF vO : Value} {φ : Nat → Nat} {β : Nat → Value} {D : PDir} {fs : List (List Int × Nat)}

theorem Wc.start (h : Rk w o (.slice none 0 0) (.slice none 0 0) (.slice none 0 0) (.slice none 0 0) 0 (-1) false) : Wc w o (fun j => if j = o then .dsk else .out) (.slice none 0 0) (.slice none 0 0) (fun _ => 0) (fun _ => .slice none 0 0) [] [] :=
  ⟨h, by simp, World.ownsRow_nil _ _ _ _, (fun g e => by cases e), World.ownsRow_nil _ _ _ _, (fun g e => by cases e), (fun i x hx => by cases hx), fun g hg => by
    by_cases e : g = o
    · rw [e]; exact h.lt
    · exact absurd (if_neg e) hg⟩

theorem Wc.step (h : Wc w o κ vF vO φ β D fs) {f sy : Nat} {v vF' vO' : Value} {xs : List Int} {D' : PDir} (hf : w.heap.size ≤ f) (hfl : RFl w' f v sy) (hv : Own w' 0 v xs) (hvb : ∀ g, v.ownBlock = some g → w.heap.size ≤ g ∧ g ≠ f)
    (hrow : w'.ownsRow 0 95 1 vF' (fs.length + 1) (((List.range fs.length).map fun i => rpt (φ i)) ++ [rpt f])) (hF' : vF'.ownBlock = vF.ownBlock ∨ ∃ g, vF'.ownBlock = some g ∧ w.heap.size ≤ g ∧ g ≠ f ∧ v.ownBlock ≠ some g)
    (hO : Nr w' 0 vO' (nl D')) (hO' : vO'.ownBlock = vO.ownBlock ∨ ∃ g, vO'.ownBlock = some g ∧ w.heap.size ≤ g ∧ g ≠ f ∧ v.ownBlock ≠ some g ∧ vF'.ownBlock ≠ some g)
    (hk : Rk w' o vF' vO' (.slice none 0 0) (.slice none 0 0) 0 (-1) false) (F : Fr (fun j => j = o ∨ vF.ownBlock = some j ∨ vO.ownBlock = some j) w w') :
    ∃ κ' φ' β', Wc w' o κ' vF' vO' φ' β' D' (fs ++ [(xs, sy)]) ∧ ∀ j, j < w.heap.size → κ' j = κ j := by
  obtain ⟨κ', hκ⟩ : ∃ κ' : Nat → Ro, κ' = fun j => if j = f then .fl fs.length else if v.ownBlock = some j then .byt fs.length else if vF'.ownBlock = some j then .fs else if vO'.ownBlock = some j then .nam else κ j := ⟨_, rfl⟩
  have k1 : κ' f = .fl fs.length := by rw [hκ]; exact if_pos rfl
  have k2 : ∀ g, v.ownBlock = some g → κ' g = .byt fs.length := fun g e => by
    rw [hκ]
    exact (if_neg (hvb g e).2).trans (if_pos e)
  have k3 : ∀ g, vF'.ownBlock = some g → κ' g = .fs := fun g e => by
    rw [hκ]
    rcases hF' with e2 | ⟨g2, e2, q1, q2, q3⟩
    · have hg := (World.ownsRow.lt h.rF g (e2 ▸ e)).2
      exact (if_neg (by omega)).trans ((if_neg (fun q => by have := (hvb g q).1; omega)).trans (if_pos e))
    · rw [e2] at e
      cases e
      exact (if_neg q2).trans ((if_neg q3).trans (if_pos e2))
  have k4 : ∀ g, vO'.ownBlock = some g → κ' g = .nam := fun g e => by
    rw [hκ]
    rcases hO' with e2 | ⟨g2, e2, q1, q2, q3, q4⟩
    · have hg := (World.ownsRow.lt h.rO g (e2 ▸ e)).2
      have hkg := h.kO g (e2 ▸ e)
      refine (if_neg (by omega)).trans ((if_neg (fun q => by have := (hvb g q).1; omega)).trans ((if_neg fun q => ?_).trans (if_pos e)))
      rcases hF' with e3 | ⟨g3, e3, q1, _⟩
      · rw [h.kF g (e3 ▸ q)] at hkg
        cases hkg
      · rw [e3] at q
        cases q
        omega
    · rw [e2] at e
      cases e
      exact (if_neg q2).trans ((if_neg q3).trans ((if_neg q4).trans (if_pos e2)))
  have o1 : ∀ j, j < w.heap.size → κ' j = κ j := fun j hj => by
    by_cases e3 : vF'.ownBlock = some j
    · rw [k3 j e3]
      rcases hF' with e | ⟨g, e, q, _⟩
      · exact (h.kF j (e ▸ e3)).symm
      · rw [e] at e3
        cases e3
        omega
    · by_cases e4 : vO'.ownBlock = some j
      · rw [k4 j e4]
        rcases hO' with e | ⟨g, e, q, _⟩
        · exact (h.kO j (e ▸ e4)).symm
        · rw [e] at e4
          cases e4
          omega
      · rw [hκ]
        exact (if_neg (by omega)).trans ((if_neg (fun q => by have := (hvb j q).1; omega)).trans ((if_neg e3).trans (if_neg e4)))
  have lt : ∀ g, κ g ≠ .out → κ' g = κ g := fun g hg => o1 g (h.frs g hg)
  have hlen : (fs ++ [(xs, sy)]).length = fs.length + 1 := by simp
  refine ⟨κ', fun k => if k = fs.length then f else φ k, fun k => if k = fs.length then v else β k, ⟨hk, ?_, ?_, k3, hO, k4, fun k x hx => ?_, fun g hg => ?_⟩, o1⟩
  · rw [lt o (by rw [h.kr]; exact Ro.noConfusion), h.kr]
  · rw [hlen, List.range_succ, List.map_append]
    have e1 : (List.range fs.length).map (fun i => rpt (if i = fs.length then f else φ i)) = (List.range fs.length).map fun i => rpt (φ i) := by
      apply List.map_congr_left
      intro i hi
      have := List.mem_range.1 hi
      rw [if_neg (by omega)]
    rw [e1]
    simpa using hrow
  · by_cases e : k = fs.length
    · subst e
      rw [List.getElem?_append_right (Nat.le_refl _), Nat.sub_self] at hx
      simp only [List.getElem?_cons_zero, Option.some.injEq] at hx
      subst hx
      simp only [if_true]
      exact ⟨hfl, k1, hv, k2⟩
    · have hkl : k < fs.length := by
        have := (List.getElem?_eq_some_iff.1 hx).1
        rw [hlen] at this
        omega
      rw [List.getElem?_append_left hkl] at hx
      simp only [e, if_false]
      obtain ⟨d1, d2, d3, d4⟩ := h.fil k x hx
      have ne : ∀ j, (j = o ∨ vF.ownBlock = some j ∨ vO.ownBlock = some j) → κ j = .dsk ∨ κ j = .fs ∨ κ j = .nam := fun j e => by
        rcases e with e | e | e
        · rw [e, h.kr]; exact .inl rfl
        · exact .inr (.inl (h.kF j e))
        · exact .inr (.inr (h.kO j e))
      refine ⟨(F.block _ d1.lt fun q => by have := ne _ q; rw [d2] at this; simp at this).trans d1, by rw [lt _ (by rw [d2]; exact Ro.noConfusion)]; exact d2, row_any d3 fun j e => F.block j (World.ownsRow.lt d3 j e).2 fun q => by have := ne _ q; rw [d4 j e] at this; simp at this, fun g eg => by rw [lt g (by rw [d4 g eg]; exact Ro.noConfusion)]; exact d4 g eg⟩
  · by_cases e0 : g = f
    · rw [e0]; exact hfl.lt
    · by_cases e1 : v.ownBlock = some g
      · exact (World.ownsRow.lt hv g e1).2
      · by_cases e2 : vF'.ownBlock = some g
        · exact (World.ownsRow.lt hrow g e2).2
        · by_cases e3 : vO'.ownBlock = some g
          · exact (World.ownsRow.lt hO g e3).2
          · have e4 : κ' g = κ g := by
              rw [hκ]
              exact (if_neg e0).trans ((if_neg e1).trans ((if_neg e2).trans (if_neg e3)))
            rw [e4] at hg
            exact Nat.lt_of_lt_of_le (h.frs g hg) F.size

theorem Wc.fin (h : Wc w o κ vF vO φ β D fs) : RD (w.setCell ⟨o, 3, none⟩ vO) o κ ⟨D, [], fs, 0⟩ (-1) false := by
  have hs : ∀ j, j ≠ o → (w.setCell ⟨o, 3, none⟩ vO).heap[j]? = w.heap[j]? := fun j hj => Below.heap_setCell _ _ _ _ (by simpa using hj)
  have no : ∀ j, vO.ownBlock = some j → j ≠ o := fun j e q => by
    have := h.kO j e
    rw [q, h.kr] at this
    cases this
  have nf : ∀ j, vF.ownBlock = some j → j ≠ o := fun j e q => by
    have := h.kF j e
    rw [q, h.kr] at this
    cases this
  have hO := row_any h.rO fun j e => hs j (no j e)
  refine ⟨vF, vO, .slice none 0 0, vO, φ, β, h.rk.set.2.2.2.1 vO, h.kr, row_any h.rF fun j e => hs j (nf j e), h.kF, hO, h.kO, World.ownsRow_nil _ _ _ _, (fun g e => by cases e), hO, h.kO, fun i x hx => ?_, fun g hg => by have := h.frs g hg; simpa using this⟩
  obtain ⟨d1, d2, d3, d4⟩ := h.fil i x hx
  exact ⟨(hs _ fun q => by rw [q, h.kr] at d2; cases d2).trans d1, d2, row_any d3 (fun j e => hs j fun q => by have := d4 j e; rw [q, h.kr] at this; cases this), d4⟩
end
end Go.Proofs.Ytolaagbdnchhiaa
