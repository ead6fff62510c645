/-
  The reader in memory: take (commits among bodies).
-/
import Derived.Test.YthfcjfhaoabdeaaGreatDoorRz32
import Derived.Test.YthfcjfhaoabdeaaGreatDoorRz35
import Derived.Deep.AppendLies
import Derived.Deep.RegionLaw
set_option linter.unusedVariables false
set_option linter.unusedSimpArgs false
namespace Go.Proofs.YthfcjfhaoabdeaaGreatDoor
open Go.RowKit

abbrev cc (p : Cm × Value) : List Value := [.int .i64 p.1.time, p.2]
/-- A row of commits, each with its writes in a block of its own; A: these blocks. -/
def CRow (w : World) (A : Nat → Prop) (v : Value) (cs : List Cm) : Prop :=
  ∃ ps : List (Cm × Value), ps.map (·.1) = cs ∧ w.ownsRow 0 27 2 v ps.length (ps.flatMap cc) ∧ (∀ g, v.ownBlock = some g → A g) ∧ ∀ p ∈ ps, WRow w 0 p.2 p.1.ws ∧ ∀ g, p.2.ownBlock = some g → A g
/-- The reader's three cells. -/
def Rm (w : World) (r : Nat) (v : Value) (R : Rdr) : Prop := w.heap[r]? = some (.cells #[.bool R.begun, .int .u64 (R.next : Int), v] 148 (0, 0))

theorem row_on {w w' : World} {B k size : Nat} {e : TypeId} {v : Value} {cs : List Value} (h : w.ownsRow B e size v k cs) (hs : ∀ j, v.ownBlock = some j → w'.heap[j]? = w.heap[j]?) : w'.ownsRow B e size v k cs := by
  obtain ⟨h1, h2⟩ := h
  refine ⟨h1, ?_⟩
  rcases h2 with h2 | ⟨g, cap, cur, rfl, hg, hh, r⟩
  · exact .inl h2
  · exact .inr ⟨g, cap, cur, rfl, hg, (hs g rfl).trans hh, r⟩
section
variable {w w' : World} {A : Nat → Prop} {v : Value} {cs : List Cm} {r : Nat} {R : Rdr}
theorem CRow.nil (w : World) (A : Nat → Prop) : CRow w A (.slice none 0 0) [] := ⟨[], rfl, World.ownsRow_nil _ _ _ _, (fun g e => by cases e), fun p hp => by cases hp⟩
theorem CRow.same (h : CRow w A v cs) (hs : ∀ j, A j → w'.heap[j]? = w.heap[j]?) : CRow w' A v cs := by
  obtain ⟨ps, h0, h1, h2, h3⟩ := h
  exact ⟨ps, h0, row_on h1 (fun j e => hs j (h2 j e)), h2, fun p hp => ⟨row_on (h3 p hp).1 (fun j e => hs j ((h3 p hp).2 j e)), (h3 p hp).2⟩⟩
theorem CRow.mono {A' : Nat → Prop} (h : CRow w A v cs) (hA : ∀ j, j < w.heap.size → A j → A' j) : CRow w A' v cs := by
  obtain ⟨ps, h0, h1, h2, h3⟩ := h
  exact ⟨ps, h0, h1, fun g e => hA g (World.ownsRow.lt h1 g e).2 (h2 g e), fun p hp => ⟨(h3 p hp).1, fun g e => hA g (World.ownsRow.lt (h3 p hp).1 g e).2 ((h3 p hp).2 g e)⟩⟩
theorem CRow.below (h : CRow w A v cs) (hb : Below w.heap.size w w') : CRow w' A v cs := by
  obtain ⟨ps, h0, h1, h2, h3⟩ := h
  exact ⟨ps, h0, row_on h1 (fun j e => hb.block j (World.ownsRow.lt h1 j e).2), h2, fun p hp => ⟨row_on (h3 p hp).1 (fun j e => hb.block j (World.ownsRow.lt (h3 p hp).1 j e).2), (h3 p hp).2⟩⟩
theorem CRow.len (h : CRow w A v cs) : ∃ ao cap, v = .slice ao cs.length cap := by
  obtain ⟨ps, h0, h1, h2, h3⟩ := h
  have e : cs.length = ps.length := by rw [← h0]; simp
  rcases h1.2 with ⟨rfl, h⟩ | ⟨g, cap, cur, rfl, r⟩
  · exact ⟨none, 0, by rw [e, h]⟩
  · exact ⟨_, cap, by rw [e]⟩
/-- The row's block is no block of writes. -/
theorem crow_ne {B B' n m : Nat} {u : Value} {xs ys : List Value} (h : w.ownsRow B 27 2 v n xs) (k : w.ownsRow B' 37 3 u m ys) : ∀ g, v.ownBlock = some g → u.ownBlock ≠ some g := by
  intro g e1 e2
  rcases h.2 with ⟨rfl, _⟩ | ⟨g1, c1, cur1, rfl, _, hh1, _⟩
  · cases e1
  · rcases k.2 with ⟨rfl, _⟩ | ⟨g2, c2, cur2, rfl, _, hh2, _⟩
    · cases e2
    · simp only [Value.ownBlock, Option.some.injEq] at e1 e2
      subst e1
      subst e2
      rw [hh1] at hh2
      simp at hh2
/-- One more. -/
theorem CRow.push {B : Nat} {v' u : Value} {c : Cm} {ps : List (Cm × Value)} (h0 : ps.map (·.1) = cs) (h1 : w.ownsRow 0 27 2 v ps.length (ps.flatMap cc)) (h3 : ∀ p ∈ ps, WRow w 0 p.2 p.1.ws ∧ ∀ g, p.2.ownBlock = some g → A g)
    (hu : WRow w 0 u c.ws) (hua : ∀ g, u.ownBlock = some g → A g) (hg : w.grownBy w' v.ownBlock) (hr : w'.ownsRow 0 27 2 v' (ps.length + 1) (ps.flatMap cc ++ cc (c, u))) (hv : ∀ g, v'.ownBlock = some g → A g) : CRow w' A v' (cs ++ [c]) := by
  have keep : ∀ (x : Value) (l : List Wr), WRow w 0 x l → WRow w' 0 x l := fun x l hx => row_on hx (fun j e => hg.block j (World.ownsRow.lt hx j e).2 (fun e2 => crow_ne h1 hx j e2.symm e))
  refine ⟨ps ++ [(c, u)], by simp [h0], ?_, hv, fun p hp => ?_⟩
  · rw [List.length_append, List.length_singleton, List.flatMap_append]
    simpa using hr
  · rcases List.mem_append.1 hp with hp | hp
    · exact ⟨keep _ _ (h3 p hp).1, (h3 p hp).2⟩
    · simp only [List.mem_singleton] at hp
      subst hp
      exact ⟨keep _ _ hu, hua⟩
theorem Rm.lt (h : Rm w r v R) : r < w.heap.size := (Array.getElem?_eq_some_iff.1 h).1
theorem Rm.cells (h : Rm w r v R) : w.cell? ⟨r, 0, none⟩ = some (.bool R.begun) ∧ w.cell? ⟨r, 1, none⟩ = some (.int .u64 (R.next : Int)) ∧ w.cell? ⟨r, 2, none⟩ = some v := by
  refine ⟨?_, ?_, ?_⟩ <;> (rw [Go.Joins.cell_of_block h]; rfl)
theorem Rm.free (h : Rm w r v R) (i : Nat) : w.frozen? ⟨r, i, none⟩ = false := Go.Joins.unfrozen_of_block h i
theorem Rm.same (h : Rm w r v R) (e : w'.heap[r]? = w.heap[r]?) : Rm w' r v R := e.trans h
theorem Rm.below (h : Rm w r v R) (hb : Below w.heap.size w w') : Rm w' r v R := h.same (hb.block r h.lt)
end
theorem infoC : (Tryz.prog.info? 27).map (fun i => (i.zero, i.size, i.bytes)) = some (some (.agg #[.int .i64 0, .slice none 0 0]), 2, 32) := by kernel_rfl
theorem cell_two_new (w : World) (x y : Value) (t : TypeId) : ∀ j u, [x, y][j]? = some u → (w.alloc (.cells #[x, y] t)).cell? ((⟨w.heap.size, 0, none⟩ : Addr).add j) = some u := by
  intro j u hj
  rw [addr_plus, Go.Joins.cell_of_block (heap_alloc_new w _)]
  match j, hj with
  | 0, hj => simpa using hj
  | 1, hj => simpa using hj
end Go.Proofs.YthfcjfhaoabdeaaGreatDoor
