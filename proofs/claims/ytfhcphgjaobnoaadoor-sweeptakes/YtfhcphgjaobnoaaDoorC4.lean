/-
  The arena, told apart from its words: which cells are taken, what they have; the deeds; a step.
-/
import Derived.Test.YtfhcphgjaobnoaaDoorC3
set_option linter.unusedVariables false
set_option linter.unusedSimpArgs false
namespace Go.Proofs.YtfhcphgjaobnoaaDoor
open Go.RowKit

/-- A row of numbers of 64 bits, a whole block. -/
def Nb (w : World) (g : Nat) (N : List Int) : Prop := w.heap[g]? = some (.cells (N.map (Value.int .u64)).toArray 54 (0, 0))
section
variable {w w' : World} {g : Nat} {N : List Int}
theorem Nb.lt (h : Nb w g N) : g < w.heap.size := (Array.getElem?_eq_some_iff.1 h).1
theorem Nb.free (h : Nb w g N) (i : Nat) : w.frozen? ⟨g, i, none⟩ = false := Go.Joins.unfrozen_of_block h i
theorem Nb.cell (h : Nb w g N) (c : Nat) (hc : c < N.length) : w.cell? ⟨g, c, none⟩ = some (.int .u64 (N.getD c 0)) := by
  rw [Go.Joins.cell_of_block h]
  simp [List.getD, List.getElem?_eq_getElem hc]
theorem Nb.same (h : Nb w g N) (e : w'.heap[g]? = w.heap[g]?) : Nb w' g N := e.trans h
theorem Nb.set (h : Nb w g N) (c : Nat) (x : Int) : Nb (w.setCell ⟨g, c, none⟩ (.int .u64 x)) g (N.set c x) := by
  unfold Nb at *
  rw [Go.Joins.block_setCell h]
  simp [List.map_set]
end

/-- An arena: T says which cells are taken, N what they have, m how many steps there were. -/
structure Aw (w : World) (d g : Nat) (T : List Bool) (N : List Int) (m : Int) (F : List Nat) : Prop where
  ab : Ab w d F (.slice (some ⟨g, 0, none⟩) N.length N.length) ((T.count true : Nat) : Int) m
  nb : Nb w g N
  num : ∀ c, 0 ≤ N.getD c 0 ∧ N.getD c 0 ≤ 18446744073709551615
  len : T.length = N.length
  one : 1 ≤ N.length ∧ N.length ≤ 65536
  bit : ∀ c, c < 65536 → bitOf F c = !T.getD c true

section
variable {w w' : World} {d g : Nat} {T : List Bool} {N : List Int} {m : Int} {F : List Nat}
theorem Aw.ne (h : Aw w d g T N m F) : d ≠ g := by
  rintro rfl
  have h1 := h.ab.2.2
  have h2 := h.nb
  unfold Nb at h2
  rw [h1] at h2
  simp at h2
theorem Aw.same (h : Aw w d g T N m F) (e1 : w'.heap[d]? = w.heap[d]?) (e2 : w'.heap[g]? = w.heap[g]?) : Aw w' d g T N m F :=
  { h with ab := h.ab.same e1, nb := h.nb.same e2 }
theorem Aw.fr {G : Nat → Prop} (h : Aw w d g T N m F) (k : Fr G w w') (h1 : ¬ G d) (h2 : ¬ G g) : Aw w' d g T N m F :=
  h.same (k.block d h.ab.lt h1) (k.block g h.nb.lt h2)
/-- A cell's number is another one. -/
theorem Aw.put (h : Aw w d g T N m F) (c : Nat) (y : Int) (hy : 0 ≤ y ∧ y ≤ 18446744073709551615) (e1 : w'.heap[d]? = w.heap[d]?) (e2 : Nb w' g (N.set c y)) : Aw w' d g T (N.set c y) m F := by
  refine ⟨?_, e2, fun i => ?_, by simpa using h.len, by simpa using h.one, h.bit⟩
  · have := h.ab.same e1
    simpa using this
  · by_cases hi : i = c
    · subst hi
      by_cases hl : i < N.length
      · simpa [List.getD, List.getElem?_set, hl] using hy
      · simp [List.getD, List.getElem?_set, hl]
    · have := h.num i
      simpa [List.getD, List.getElem?_set, Ne.symm hi] using this
end

/-- Is a cell taken? -/
def tk (T : List Bool) (c : Int) : Bool := decide (0 ≤ c) && T.getD c.toNat false
theorem Aw.tk {w : World} {d g : Nat} {T : List Bool} {N : List Int} {m : Int} {F : List Nat} (h : Aw w d g T N m F) (c : Int) : isTaken F N.length c = tk T c := by
  unfold isTaken Go.Proofs.YtfhcphgjaobnoaaDoor.tk
  have h1 := h.len
  have h2 := h.one
  by_cases h0 : 0 ≤ c
  · by_cases hc : c < N.length
    · have := h.bit c.toNat (by omega)
      rw [decide_eq_true (show 0 ≤ c ∧ c < N.length from ⟨h0, hc⟩), decide_eq_true h0, this]
      simp [List.getD, List.getElem?_eq_getElem (show c.toNat < T.length by omega)]
    · rw [decide_eq_false (fun e => hc e.2), decide_eq_true h0]
      simp [List.getD, List.getElem?_eq_none (show T.length ≤ c.toNat by omega)]
  · rw [decide_eq_false (fun e => h0 e.1), decide_eq_false h0]
    rfl

/-- What is answered, and what the cell has then: 1 load, 2 store, 3 cas, 4 add. -/
def act (kind : Nat) (a b x : Int) : Int × Int :=
  if kind = 1 then (x, x) else if kind = 2 then (0, a) else if kind = 3 then (if x = a then (1, b) else (0, x)) else ((x + a) % 18446744073709551616, (x + a) % 18446744073709551616)
theorem act_bd (kind : Nat) (a b x : Int) (ha : 0 ≤ a ∧ a ≤ 18446744073709551615) (hb : 0 ≤ b ∧ b ≤ 18446744073709551615) (hx : 0 ≤ x ∧ x ≤ 18446744073709551615) :
    (0 ≤ (act kind a b x).1 ∧ (act kind a b x).1 ≤ 18446744073709551615) ∧ 0 ≤ (act kind a b x).2 ∧ (act kind a b x).2 ≤ 18446744073709551615 := by
  unfold act
  repeat' split
  all_goals (constructor <;> constructor <;> omega)

/-- Function k does what is done at a cell by 'kind'. -/
def Deed (k kind : Nat) : Prop := ∀ (W : World) (d g : Nat) (T : List Bool) (N : List Int) (m : Int) (F : List Nat) (o : Int) (c : Nat) (a b : Int), Aw W d g T N m F → c < N.length → (0 ≤ a ∧ a ≤ 18446744073709551615) → (0 ≤ b ∧ b ≤ 18446744073709551615) →
  Calls Tryd.prog k (#[.pointer (some ⟨d, 0, none⟩)] ++ #[opV o c a b]) W fun e w' => e = .returned (.int .u64 (act kind a b (N.getD c 0)).1) ∧ Aw w' d g T (N.set c (act kind a b (N.getD c 0)).2) m F ∧ Fr (fun j => j = d ∨ j = g) W w'

theorem set_self (N : List Int) (c : Nat) (hc : c < N.length) : N.set c (N.getD c 0) = N := by
  apply List.ext_getElem?
  intro i
  by_cases hi : i = c
  · subst hi; simp [List.getElem?_set, hc, List.getD]
  · simp [List.getElem?_set, Ne.symm hi]

theorem blk_alloc (w : World) (o : Obj) (j : Nat) (h : j < w.heap.size) : (w.alloc o).heap[j]? = w.heap[j]? := Below.heap_alloc _ _ _ h

theorem load_deed : Deed 80 1 := by
  intro W d g T N m F o c a b h hc ha hb
  refine (load_raw h.ab.lt h.nb.lt h.ab.tail.1 (h.nb.cell c hc) hc).mono ?_
  rintro e w' ⟨rfl, q, rfl⟩
  have F1 : Fr (fun j => j = d ∨ j = g) W (W.alloc (opC o c a b)) := (Fr.refl _ W).alloc _
  refine ⟨rfl, ?_, F1.drewN q⟩
  show Aw _ d g T (N.set c (N.getD c 0)) m F
  rw [set_self N c hc]
  exact h.same (blk_alloc _ _ _ h.ab.lt) (blk_alloc _ _ _ h.nb.lt)

theorem store_deed : Deed 88 2 := by
  intro W d g T N m F o c a b h hc ha hb
  refine (store_raw h.ab.lt h.nb.lt h.ab.tail.1 (h.nb.cell c hc) (h.nb.free c) hc).mono ?_
  rintro e w' ⟨rfl, rfl⟩
  have F1 : Fr (fun j => j = d ∨ j = g) W (((W.setCell ⟨g, c, none⟩ (.int .u64 a)).alloc (opC o c a b)).drew) := ((Fr.setCell (p := ⟨g, c, none⟩) (Fr.refl (fun j => j = d ∨ j = g) W) (.inl (.inr rfl)) _).alloc _).drew
  refine ⟨rfl, h.put c a ha ?_ ?_, F1⟩
  · exact (blk_alloc _ _ _ (by simpa [World.setCell] using h.ab.lt)).trans (Below.heap_setCell _ _ _ _ h.ne)
  · exact (h.nb.set c a).same (blk_alloc _ _ _ (by simpa [World.setCell] using h.nb.lt))

theorem cas_deed : Deed 84 3 := by
  intro W d g T N m F o c a b h hc ha hb
  by_cases hx : N.getD c 0 = a
  · have e1 : act 3 a b (N.getD c 0) = (1, b) := by rw [hx]; simp [act]
    rw [e1]
    have hcell := h.nb.cell c hc
    rw [hx] at hcell
    refine (cas_yes h.ab.lt h.nb.lt h.ab.tail.1 hcell (h.nb.free c) hc).mono ?_
    rintro e w' ⟨rfl, q, rfl⟩
    have h1 : Aw ((W.alloc (opC o c a b)).drewN q) d g T N m F := h.same (blk_alloc _ _ _ h.ab.lt) (blk_alloc _ _ _ h.nb.lt)
    have F1 : Fr (fun j => j = d ∨ j = g) W ((W.alloc (opC o c a b)).drewN q) := ((Fr.refl _ W).alloc _).drewN q
    refine ⟨rfl, h1.put c b hb ?_ (h1.nb.set c b), F1.setCell (.inl (.inr rfl)) _⟩
    exact Below.heap_setCell _ _ _ _ h.ne
  · have e1 : act 3 a b (N.getD c 0) = (0, N.getD c 0) := by unfold act; rw [if_neg (by decide), if_neg (by decide), if_pos rfl, if_neg hx]
    rw [e1]
    refine (cas_no h.ab.lt h.nb.lt h.ab.tail.1 (h.nb.cell c hc) hc hx).mono ?_
    rintro e w' ⟨rfl, q, rfl⟩
    have F1 : Fr (fun j => j = d ∨ j = g) W (W.alloc (opC o c a b)) := (Fr.refl _ W).alloc _
    refine ⟨rfl, ?_, F1.drewN q⟩
    show Aw _ d g T (N.set c (N.getD c 0)) m F
    rw [set_self N c hc]
    exact h.same (blk_alloc _ _ _ h.ab.lt) (blk_alloc _ _ _ h.nb.lt)

end Go.Proofs.YtfhcphgjaobnoaaDoor
