/-
  The document's own disk: a file is made.
-/
import Derived.Test.YtolaagbdnchhiaaRD9
set_option linter.unusedVariables false
set_option linter.unusedSimpArgs false
namespace Go.Proofs.Ytolaagbdnchhiaa
open Go.RowKit Go.Maps

section
variable {w w' : World} {r : Nat} {κ : Nat → Ro} {vF vO vL vN : Value} {φ : Nat → Nat} {β : Nat → Value} {P : PD} {cut : Int} {off : Bool}

/-- A file is made, with nothing in it. -/
theorem Wd.made (h : Wd w r κ vF vO vL vN φ β P cut off) {f : Nat} {vF' : Value} (hf : w.heap.size ≤ f) (hfl : RFl w' f (.slice none 0 0) 0) (hrow : w'.ownsRow 0 95 1 vF' (P.fil.length + 1) (((List.range P.fil.length).map fun i => rpt (φ i)) ++ [rpt f]))
    (F : Fr (fun j => j = r ∨ vF.ownBlock = some j) w w') (hat : vF'.ownBlock = vF.ownBlock ∨ ∃ g, vF'.ownBlock = some g ∧ w.heap.size ≤ g) (hne : vF'.ownBlock ≠ some f) (hk : Rk w' r vF' vO vL vN P.n cut off) :
    ∃ κ' φ' β', Wd w' r κ' vF' vO vL vN φ' β' { P with fil := P.fil ++ [([], 0)] } cut off ∧ φ' P.fil.length = f ∧ β' P.fil.length = .slice none 0 0 ∧ (∀ j, j < w.heap.size → κ' j = κ j) ∧ Fr (fun j => κ j ≠ .out) w w' := by
  have sm : Sm κ (fun x => x = .dsk ∨ x = .fs) w w' := ⟨F.size, fun j hj hn => F.block j hj fun e => hn (by
    rcases e with e | e
    · rw [e, h.kr]; exact .inl rfl
    · rw [h.kF j e]; exact .inr rfl)⟩
  obtain ⟨κ', hκ⟩ : ∃ κ' : Nat → Ro, κ' = fun j => if j = f then .fl P.fil.length else if vF'.ownBlock = some j then .fs else κ j := ⟨_, rfl⟩
  have o1 : ∀ j, j < w.heap.size → κ' j = κ j := fun j hj => by
    rw [hκ]
    show (if j = f then Ro.fl P.fil.length else if vF'.ownBlock = some j then Ro.fs else κ j) = κ j
    rw [if_neg (by omega)]
    by_cases e : vF'.ownBlock = some j
    · rw [if_pos e]
      rcases hat with e2 | ⟨g, e2, hg⟩
      · rw [e2] at e
        exact (h.kF j e).symm
      · rw [e2] at e
        cases e
        omega
    · rw [if_neg e]
  have o2 : ∀ g, vF'.ownBlock = some g → κ' g = .fs := fun g e => by
    rw [hκ]
    show (if g = f then Ro.fl P.fil.length else if vF'.ownBlock = some g then Ro.fs else κ g) = _
    rw [if_neg (fun q => hne (by rw [e, q])), if_pos e]
  have o3 : κ' f = .fl P.fil.length := by
    rw [hκ]
    show (if f = f then Ro.fl P.fil.length else _) = _
    rw [if_pos rfl]
  have lt : ∀ g, κ g ≠ .out → κ' g = κ g := fun g hg => o1 g (h.frs g hg)
  have hlen : (P.fil ++ [(([] : List Int), 0)]).length = P.fil.length + 1 := by simp
  refine ⟨κ', fun k => if k = P.fil.length then f else φ k, fun k => if k = P.fil.length then .slice none 0 0 else β k, ⟨hk, ?_, ?_, o2, h.oO sm (by simp), ?_, h.oL sm (by simp), ?_, h.oN sm (by simp), ?_, fun k x hx => ?_, fun g hg => ?_⟩, by simp, by simp, o1, F.mono fun j _ e => ?_⟩
  · rw [lt r (by rw [h.kr]; exact Ro.noConfusion), h.kr]
  · show World.ownsRow _ 0 _ 1 _ (P.fil ++ [(([] : List Int), 0)]).length ((List.range (P.fil ++ [(([] : List Int), 0)]).length).map _)
    rw [hlen, List.range_succ, List.map_append]
    have e1 : (List.range P.fil.length).map (fun i => rpt (if i = P.fil.length then f else φ i)) = (List.range P.fil.length).map fun i => rpt (φ i) := by
      apply List.map_congr_left
      intro i hi
      have := List.mem_range.1 hi
      rw [if_neg (by omega)]
    rw [e1]
    simpa using hrow
  · intro g e
    rw [lt g (by rw [h.kO g e]; exact Ro.noConfusion), h.kO g e]
  · intro g e
    rw [lt g (by rw [h.kL g e]; exact Ro.noConfusion), h.kL g e]
  · intro g e
    rw [lt g (by rw [h.kN g e]; exact Ro.noConfusion), h.kN g e]
  · have hx' : (P.fil ++ [(([] : List Int), 0)])[k]? = some x := hx
    by_cases e : k = P.fil.length
    · subst e
      rw [List.getElem?_append_right (Nat.le_refl _), Nat.sub_self] at hx'
      simp only [List.getElem?_cons_zero, Option.some.injEq] at hx'
      subst hx'
      simp only [if_true]
      exact ⟨hfl, o3, World.ownsRow_nil _ _ _ _, fun g e => by cases e⟩
    · have hkl : k < P.fil.length := by
        have := (List.getElem?_eq_some_iff.1 hx').1
        rw [hlen] at this
        omega
      rw [List.getElem?_append_left hkl] at hx'
      simp only [e, if_false]
      obtain ⟨d1, d2, d3, d4⟩ := h.oFil sm k x hx' (by simp) (by simp)
      exact ⟨d1, by rw [lt _ (by rw [d2]; exact Ro.noConfusion)]; exact d2, d3, fun g eg => by rw [lt g (by rw [d4 g eg]; exact Ro.noConfusion)]; exact d4 g eg⟩
  · by_cases e0 : g = f
    · rw [e0]; exact hfl.lt
    · by_cases e : vF'.ownBlock = some g
      · exact (World.ownsRow.lt hrow g e).2
      · have e2 : κ' g = κ g := by
          rw [hκ]
          show (if g = f then Ro.fl P.fil.length else if vF'.ownBlock = some g then Ro.fs else κ g) = _
          rw [if_neg e0, if_neg e]
        rw [e2] at hg
        exact Nat.lt_of_lt_of_le (h.frs g hg) F.size
  · rcases e with e | e
    · rw [e, h.kr]; exact Ro.noConfusion
    · rw [h.kF j e]; exact Ro.noConfusion
end
end Go.Proofs.Ytolaagbdnchhiaa
