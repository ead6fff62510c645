/-
  The document's own arena: its memory; New, there, Free, Used.
-/
import Derived.Test.YtnpmldlnckbppaaDoorC9
import Derived.Laws.OwnMore
import Derived.Maps.AppendAt
import Derived.Lib.OwnKind
set_option linter.unusedVariables false
set_option linter.unusedSimpArgs false
namespace Go.Proofs.YtnpmldlnckbppaaDoor
open Go.RowKit

/-- The document's arena: R says which of those that were ever taken are, H what they have. -/
structure Rw (w : World) (B r n : Nat) (R : List Bool) (H : List Int) (m : Int) (hv tv : Value) : Prop where
  blk : w.heap[r]? = some (.cells #[.int .i64 (n : Int), hv, tv, .int .i64 m] 57 (0, 0))
  tr : w.ownsRow B 4 1 tv R.length (R.map Value.bool)
  hr : w.ownsRow B 32 1 hv R.length (H.map (Value.int .u64))
  len : H.length = R.length
  low : B ≤ r
  num : ∀ c, 0 ≤ H.getD c 0 ∧ H.getD c 0 ≤ 18446744073709551615
  top : R.length ≤ n
  big : n ≤ 65536

section
variable {w w' : World} {B r n : Nat} {R : List Bool} {H : List Int} {m : Int} {hv tv : Value}
theorem Rw.lt (h : Rw w B r n R H m hv tv) : r < w.heap.size := (Array.getElem?_eq_some_iff.1 h.blk).1
theorem Rw.cells (h : Rw w B r n R H m hv tv) : w.cell? ⟨r, 0, none⟩ = some (.int .i64 (n : Int)) ∧ w.cell? ⟨r, 1, none⟩ = some hv ∧ w.cell? ⟨r, 2, none⟩ = some tv ∧ w.cell? ⟨r, 3, none⟩ = some (.int .i64 m) := by
  have hb := h.blk
  refine ⟨?_, ?_, ?_, ?_⟩ <;> (rw [Go.Joins.cell_of_block hb]; rfl)
theorem Rw.free (h : Rw w B r n R H m hv tv) (i : Nat) : w.frozen? ⟨r, i, none⟩ = false := Go.Joins.unfrozen_of_block h.blk i
/-- The rows lie elsewhere than the arena, and than each other. -/
theorem Rw.nt (h : Rw w B r n R H m hv tv) : tv.ownBlock ≠ some r := fun e => by
  obtain ⟨c, fz, hh⟩ := Go.Lib.ownsRow_kind h.tr r e
  rw [h.blk] at hh
  simp at hh
theorem Rw.nh (h : Rw w B r n R H m hv tv) : hv.ownBlock ≠ some r := fun e => by
  obtain ⟨c, fz, hh⟩ := Go.Lib.ownsRow_kind h.hr r e
  rw [h.blk] at hh
  simp at hh
theorem Rw.nn (h : Rw w B r n R H m hv tv) (j : Nat) (e : tv.ownBlock = some j) : hv.ownBlock ≠ some j := fun e2 => by
  obtain ⟨c, fz, hh⟩ := Go.Lib.ownsRow_kind h.tr j e
  obtain ⟨c2, fz2, hh2⟩ := Go.Lib.ownsRow_kind h.hr j e2
  rw [hh] at hh2
  simp at hh2
/-- What leaves all from B on as it was, leaves the document's arena. -/
theorem Rw.same (h : Rw w B r n R H m hv tv) (hk : ∀ k, B ≤ k → k < w.heap.size → w'.heap[k]? = w.heap[k]?) (hs : w.heap.size ≤ w'.heap.size) (he : w'.os = w.os ∧ w'.tape = w.tape ∧ w'.output = w.output) : Rw w' B r n R H m hv tv := by
  have keep : ∀ {e : TypeId} {v : Value} {k : Nat} {xs : List Value}, w.ownsRow B e 1 v k xs → w'.ownsRow B e 1 v k xs := by
    intro e v k xs h
    refine ⟨h.1, ?_⟩
    rcases h.2 with h2 | ⟨g, cap, cur, e1, hg, hh, r1, r2, r3, r4⟩
    · exact .inl h2
    · exact .inr ⟨g, cap, cur, e1, hg, (hk g hg (Array.getElem?_eq_some_iff.1 hh).1).trans hh, r1, r2, r3, r4⟩
  exact { h with blk := (hk r h.low h.lt).trans h.blk, tr := keep h.tr, hr := keep h.hr }
theorem Rw.fr {d g : Nat} (h : Rw w B r n R H m hv tv) (k : Fr (fun j => j = d ∨ j = g) w w') (hd : d < B) (hg : g < B) : Rw w' B r n R H m hv tv :=
  h.same (fun j h1 h2 => k.block j h2 (by omega)) k.size ⟨k.os, k.tape, k.output⟩
theorem Rw.drewN (h : Rw w B r n R H m hv tv) (q : Nat) : Rw (w.drewN q) B r n R H m hv tv := h.same (fun _ _ _ => rfl) (Nat.le_refl _) ⟨rfl, rfl, rfl⟩
theorem Rw.alloc (h : Rw w B r n R H m hv tv) (o : Obj) : Rw (w.alloc o) B r n R H m hv tv := h.same (fun j _ hj => blk_alloc _ _ _ hj) (by simp) ⟨rfl, rfl, rfl⟩
end

section
variable {w w' : World} {B r n : Nat} {R : List Bool} {H : List Int} {m : Int} {hv tv : Value}
/-- The rows, when there is one. -/
theorem Rw.trow (h : Rw w B r n R H m hv tv) (hl : 0 < R.length) : ∃ g cap, tv = .slice (some ⟨g, 0, none⟩) R.length cap ∧ B ≤ g ∧ ∀ c, c < R.length → w.cell? ⟨g, c, none⟩ = some (.bool (R.getD c false)) ∧ w.frozen? ⟨g, c, none⟩ = false := by
  obtain ⟨g, cap, rfl⟩ := Go.Joins.ownsRow_form h.tr hl
  refine ⟨g, cap, rfl, (h.tr.lt g rfl).1, fun c hc => ⟨?_, h.tr.frozenAt c⟩⟩
  rw [h.tr.cellAt c (by omega)]
  simp [List.getD, List.getElem?_eq_getElem hc]
theorem Rw.hrow (h : Rw w B r n R H m hv tv) (hl : 0 < R.length) : ∃ g cap, hv = .slice (some ⟨g, 0, none⟩) R.length cap ∧ B ≤ g ∧ ∀ c, c < R.length → w.cell? ⟨g, c, none⟩ = some (.int .u64 (H.getD c 0)) ∧ w.frozen? ⟨g, c, none⟩ = false := by
  obtain ⟨g, cap, rfl⟩ := Go.Joins.ownsRow_form h.hr hl
  refine ⟨g, cap, rfl, (h.hr.lt g rfl).1, fun c hc => ⟨?_, h.hr.frozenAt c⟩⟩
  have hc2 : c < H.length := by rw [h.len]; exact hc
  rw [h.hr.cellAt c (by omega)]
  simp [List.getD, List.getElem?_eq_getElem hc2]
theorem Rw.tlen (h : Rw w B r n R H m hv tv) : ∃ ao cap, tv = .slice ao R.length cap := by
  rcases Go.Joins.ownsRow_forms h.tr with ⟨rfl, h0⟩ | ⟨g, cap, rfl⟩
  · exact ⟨none, 0, by rw [h0]⟩
  · exact ⟨_, cap, rfl⟩

set_option maxRecDepth 100000 in
set_option maxHeartbeats 1000000 in
theorem there_any (h : Rw w B r n R H m hv tv) (c : Int) :
    Calls Tryd.prog 36 #[.pointer (some ⟨r, 0, none⟩), .int .i64 c] w fun e w' => e = .returned (.bool (tk R c)) ∧ w' = w := by
  obtain ⟨c0, c1, c2, c3⟩ := h.cells
  by_cases h0 : 0 ≤ c
  · obtain ⟨k, rfl⟩ : ∃ k : Nat, c = k := ⟨c.toNat, by omega⟩
    by_cases hk : k < R.length
    · obtain ⟨g, cap, rfl, hg, hcell⟩ := h.trow (by omega)
      obtain ⟨q0, -⟩ := hcell k hk
      have e1 : tk R k = R.getD k false := by simp [tk]
      rw [e1]
      generalize R.getD k false = b at *
      have t2 : decide ((k : Int) < (R.length : Int)) = true := by simpa using hk
      have t3 : decide (k < R.length) = true := by simpa using hk
      generalize R.length = len at *
      go_enter Tryd.func36, Tryd.ntmps36
      go_wp2
      go_ret
      exact ⟨rfl, rfl⟩
    · obtain ⟨ao, cap, rfl⟩ := h.tlen
      have e1 : tk R k = false := by simp [tk, List.getElem?_eq_none (show R.length ≤ k by omega)]
      rw [e1]
      have t2 : decide ((k : Int) < (R.length : Int)) = false := by simpa using hk
      have t3 : decide (k < R.length) = false := by simpa using hk
      generalize R.length = len at *
      go_enter Tryd.func36, Tryd.ntmps36
      go_wp2
      go_ret
      exact ⟨rfl, rfl⟩
  · have e1 : tk R c = false := by simp [tk, h0]
    rw [e1]
    have t1 : decide (0 ≤ c) = false := by simpa using h0
    go_enter Tryd.func36, Tryd.ntmps36
    go_wp2
    go_ret
    exact ⟨rfl, rfl⟩
end
end Go.Proofs.YtnpmldlnckbppaaDoor
