/-
  Rows of numbers; Index, Contains of numbers.
-/
import Derived.Test.YtfhcphgjaobnoaaDoorC7
import Derived.Test.YtfhcphgjaobnoaaDoorSeq
import Derived.Laws.OwnMore
import Derived.Maps.AppendAt
import Derived.Lib.OwnKind
import Derived.Maps.RangeWalk
set_option linter.unusedVariables false
set_option linter.unusedSimpArgs false
namespace Go.Proofs.YtfhcphgjaobnoaaDoor
open Go.RowKit

abbrev ih (n : Int) : List Value := [.int .i64 n]
theorem infoH : (Tryd.prog.info? 3).map (fun i => (i.zero, i.size, i.bytes)) = some (some (.int .i64 0), 1, 8) := by kernel_rfl
theorem hrow_fr {G : Nat → Prop} {w w' : World} {B : Nat} {e : TypeId} {s : Nat} {v : Value} {k : Nat} {xs : List Value} (h : w.ownsRow B e s v k xs) (hF : Fr G w w') (hn : ∀ j, v.ownBlock = some j → ¬ G j) : w'.ownsRow B e s v k xs := by
  refine ⟨h.1, ?_⟩
  rcases h.2 with h2 | ⟨g, cap, cur, e1, hg, hh, r1, r2, r3, r4⟩
  · exact .inl h2
  · refine .inr ⟨g, cap, cur, e1, hg, (hF.block g (Array.getElem?_eq_some_iff.1 hh).1 (hn g (by rw [e1]; rfl))).trans hh, r1, r2, r3, r4⟩
theorem hrow_succ {W : World} {base : Nat} {e : TypeId} {size : Nat} {v : Value} {k : Nat} {xs : List Value} (h : W.ownsRow base e size v (k + 1) xs) : ∃ g cap, v = .slice (some ⟨g, 0, none⟩) (k + 1) cap := by
  rcases h.2 with ⟨_, h0⟩ | ⟨g, cap, cur, rfl, _⟩
  · omega
  · exact ⟨g, cap, rfl⟩
theorem hcell_new (w : World) (x : Value) (t : TypeId) : ∀ j u, [x][j]? = some u → (w.alloc (.cells #[x] t)).cell? ((⟨w.heap.size, 0, none⟩ : Addr).add j) = some u := by
  intro j u h
  have hb : (w.alloc (.cells #[x] t)).heap[w.heap.size]? = some (.cells #[x] t (0, 0)) := heap_alloc_new w _
  rw [addr_add]
  rw [Go.Joins.cell_of_block hb]
  rw [← Array.getElem?_toList]
  simpa using h

/-- A row of numbers that are none below 0. -/
def nv (c : Nat) : Value := .int .i64 (c : Int)
def Hr (w : World) (base : Nat) (v : Value) (l : List Nat) : Prop := w.ownsRow base 3 1 v l.length (l.map nv)
theorem Hr.form {w : World} {base : Nat} {v : Value} {l : List Nat} (h : Hr w base v l) : ∃ ao cap, v = .slice ao l.length cap := by
  rcases h.2 with ⟨rfl, h0⟩ | ⟨g, cap, cur, rfl, _⟩
  · exact ⟨none, 0, by rw [h0]⟩
  · exact ⟨_, cap, rfl⟩
theorem Hr.kind {w : World} {base : Nat} {v : Value} {l : List Nat} (h : Hr w base v l) {j : Nat} (e : v.ownBlock = some j) : ∃ c fz, w.heap[j]? = some (.cells c 3 fz) := Go.Lib.ownsRow_kind h j e
theorem Hr.seq {w : World} {base : Nat} {v : Value} {l : List Nat} (h : Hr w base v l) : ∃ ao cap, v = .slice ao l.length cap ∧ Seq 1 ih w ao l.length cap (l.map fun c : Nat => (c : Int)) := by
  rcases h.2 with ⟨rfl, h0⟩ | ⟨g, cap, cur, rfl, hg, hh, hn, hm, hs, ht⟩
  · exact ⟨none, 0, by rw [h0], ⟨by simp, by omega, Nat.zero_le _, fun h => absurd h (by omega)⟩⟩
  · refine ⟨_, cap, rfl, ⟨by simp, hn, hm, fun _ => ⟨g, 0, rfl, (Array.getElem?_eq_some_iff.1 hh).1, fun i x hi j u hj => ?_⟩⟩⟩
    have hj0 : j = 0 := by
      rcases j with _ | j
      · rfl
      · simp [ih] at hj
    subst hj0
    simp [ih] at hj
    subst hj
    rw [Go.Joins.cell_of_block hh]
    have hi2 : i < l.length := by
      have := (List.getElem?_eq_some_iff.1 hi).1
      simpa using this
    rw [← Array.getElem?_toList]
    have : (cur.toList.take (l.length * 1))[i]? = some (nv l[i]) := by rw [ht]; simp [hi2]
    rw [List.getElem?_take, if_pos (by omega)] at this
    have e : x = (l[i] : Int) := by
      rw [List.getElem?_map, List.getElem?_eq_getElem hi2] at hi
      simpa using hi.symm
    rw [e]
    simpa [nv] using this
theorem Hr.at {w : World} {base : Nat} {v : Value} {l : List Nat} (h : Hr w base v l) {i : Nat} (hi : i < l.length) : ∃ g cap, v = .slice (some ⟨g, 0, none⟩) l.length cap ∧ w.cell? ⟨g, i, none⟩ = some (.int .i64 (l.getD i 0 : Nat)) := by
  rcases h.2 with ⟨rfl, h0⟩ | ⟨g, cap, cur, rfl, hg, hh, hn, hm, hs, ht⟩
  · omega
  · refine ⟨g, cap, rfl, ?_⟩
    rw [Go.Joins.cell_of_block hh, ← Array.getElem?_toList]
    have : (cur.toList.take (l.length * 1))[i]? = some (nv l[i]) := by rw [ht]; simp [hi]
    rw [List.getElem?_take, if_pos (by omega)] at this
    simpa [nv, List.getD, List.getElem?_eq_getElem hi] using this

end Go.Proofs.YtfhcphgjaobnoaaDoor
