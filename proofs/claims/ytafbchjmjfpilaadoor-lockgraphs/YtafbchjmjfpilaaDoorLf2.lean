/-
  Lf2: A queue of paths in memory: its first one is taken, one more is put behind it.
-/
import Derived.Test.YtafbchjmjfpilaaDoorLf1
import Derived.Deep.AppendSrc
import Derived.Deep.Upon
set_option linter.unusedVariables false
set_option linter.unusedSimpArgs false
namespace Go.Proofs.YtafbchjmjfpilaaDoor
open Go.RowKit

/-- A queue: where it lies, its paths in order, each in a block of its own. -/
structure Qd (w : World) (base : Nat) (v : Value) (ps : List (List Nat)) (g off cap : Nat) (cur : Array Value) : Prop where
  eq : v = .slice (some ⟨g, off, none⟩) ps.length cap
  lo : base ≤ g
  blk : w.heap[g]? = some (.cells cur 33 (0, 0))
  fit : off + cap ≤ cur.size
  le : ps.length ≤ cap
  mx : cap ≤ maxLen
  el : ∀ i p, ps[i]? = some p → ∃ x, cur[off + i]? = some x ∧ x.oneCell' = true ∧ Hr w base x p
def Qu (w : World) (base : Nat) (v : Value) (ps : List (List Nat)) : Prop := ∃ g off cap cur, Qd w base v ps g off cap cur
/-- The block that it lies in. -/
def qb : Value → Nat
  | .slice (some a) _ _ => a.block
  | _ => 0

theorem Hr.block {w w' : World} {base : Nat} {v : Value} {l : List Nat} (h : Hr w base v l) (hb : ∀ (g : Nat) (cur : Array Value), w.heap[g]? = some (Obj.cells cur 3 (0, 0)) → w'.heap[g]? = w.heap[g]?) : Hr w' base v l := by
  refine ⟨h.1, ?_⟩
  rcases h.2 with q | ⟨g, cap, cur, e, hbs, hg, r⟩
  · exact .inl q
  · exact .inr ⟨g, cap, cur, e, hbs, (hb g cur hg).trans hg, r⟩
theorem int_ne : (3 : TypeId) ≠ 33 := by decide
theorem infoR : (Tryd.prog.info? 33).map (fun i => (i.zero, i.size, i.bytes)) = some (some (.slice none 0 0), 1, 24) := by kernel_rfl

section
variable {w w' : World} {base : Nat} {v x : Value} {ps : List (List Nat)} {p : List Nat} {g off cap s : Nat} {cur : Array Value}
theorem Qd.isq (h : Qd w base v ps g off cap cur) : qb v = g := by rw [h.eq]; rfl
theorem Qd.lt (h : Qd w base v ps g off cap cur) : g < w.heap.size := (Array.getElem?_eq_some_iff.1 h.blk).1
theorem Qd.cell (h : Qd w base v ps g off cap cur) (i : Nat) : w.cell? ⟨g, off + i, none⟩ = cur[off + i]? := Go.Joins.cell_of_block h.blk _

/-- Where what it leans on is as it was. -/
theorem Qd.keep (h : Qd w base v ps g off cap cur) (hb : ∀ k, base ≤ k → k < w.heap.size → w'.heap[k]? = w.heap[k]?) : Qd w' base v ps g off cap cur :=
  ⟨h.eq, h.lo, (hb g h.lo h.lt).trans h.blk, h.fit, h.le, h.mx, fun i p hi => by
    obtain ⟨x, hx, h1, hr⟩ := h.el i p hi
    refine ⟨x, hx, h1, hr.1, ?_⟩
    rcases hr.2 with q | ⟨g', c', cur', e, hbs, hg, r⟩
    · exact .inl q
    · exact .inr ⟨g', c', cur', e, hbs, (hb g' hbs (Array.getElem?_eq_some_iff.1 hg).1).trans hg, r⟩⟩

/-- The first one is taken. -/
theorem Qd.tail {q : List Nat} (h : Qd w base v (q :: ps) g off cap cur) : Qd w base (.slice (some ⟨g, off + 1, none⟩) ps.length (cap - 1)) ps g (off + 1) (cap - 1) cur := by
  have hle := h.le
  have hf := h.fit
  have hm := h.mx
  simp only [List.length_cons] at hle
  refine ⟨rfl, h.lo, h.blk, by omega, by omega, by omega, fun i p hi => ?_⟩
  obtain ⟨x, hx, r⟩ := h.el (i + 1) p (by simpa using hi)
  exact ⟨x, by rw [← hx]; congr 1; omega, r⟩

set_option maxHeartbeats 1000000 in
/-- One more. -/
theorem Qd.push (h : Qd w base v ps g off cap cur) (hx : Hr w base x p) (h1 : x.oneCell' = true) (hs : w.cell? ⟨s, 0, none⟩ = some x) (hl : ps.length ≤ 64) (hbase : base ≤ w.heap.size) (ty : TypeId) :
    ∃ v' w', (Builtin.append_ #[64, 64] ty #[v, .slice (some ⟨s, 0, none⟩) 1 1]).run Tryd.prog w = .ok v' w' ∧ Qu w' base v' (ps ++ [p]) ∧ w.grownBy w' (some g) ∧ (qb v' = g ∨ qb v' = w.heap.size) := by
  obtain ⟨i0, hi0, z0, z1, z2⟩ := info_parts infoR
  have hle := h.le
  have hm := h.mx
  have hfit := h.fit
  have src : Src Tryd.prog i0.size 64 (.slice (some ⟨s, 0, none⟩) 1 1) 1 [x] w := Src.ofSlice (P := Tryd.prog) w (e' := 33) Tryd.underlying64 ⟨s, 0, none⟩ 1 1 [x] (by rw [z1]; rfl) (fun j u hu => by
    cases j with
    | zero => simp at hu; subst hu; exact hs
    | succ j => simp at hu) (fun u hu => by rw [List.mem_singleton.1 hu]; exact h1)
  have hcl : ∀ j, j < cap → (w.cell? ⟨g, off + j, none⟩).isSome = true := fun j hj => by
    rw [h.cell, Array.getElem?_eq_getElem (by omega)]; rfl
  have heq := h.eq
  subst heq
  by_cases hroom : ps.length + 1 ≤ cap
  · have hrun := run_append_room_src (P := Tryd.prog) w 64 64 ty 33 i0 Tryd.underlying64 hi0 g off ps.length cap _ 1 [x] src hroom
      (fun j hj => by simp at hj; subst hj; rw [z1, Nat.mul_one, Nat.add_zero]; exact hcl _ (by omega))
      (fun j hj => Go.Joins.unfrozen_of_block h.blk _)
    rw [z1, Nat.mul_one] at hrun
    have hset : (w.setCells g (off + ps.length) [x]) = w.setCell ⟨g, off + ps.length, none⟩ x := by rfl
    rw [hset] at hrun
    have hb' : (w.setCell ⟨g, off + ps.length, none⟩ x).heap[g]? = some (.cells (cur.setIfInBounds (off + ps.length) x) 33 (0, 0)) := by
      obtain ⟨hlt, hk⟩ := Array.getElem?_eq_some_iff.1 h.blk
      show (w.heap.modify g _)[g]? = _
      rw [Array.getElem?_eq_getElem (by rw [Array.size_modify]; exact hlt), Array.getElem_modify_self, hk]
      simp
    have hkeep : ∀ k', k' ≠ g → (w.setCell ⟨g, off + ps.length, none⟩ x).heap[k']? = w.heap[k']? := fun k' hk' => Below.heap_setCell _ _ _ k' hk'
    have hint : ∀ (k' : Nat) (cu : Array Value), w.heap[k']? = some (Obj.cells cu 3 (0, 0)) → (w.setCell ⟨g, off + ps.length, none⟩ x).heap[k']? = w.heap[k']? := fun k' cu hk' => hkeep k' (fun e => by
      rw [e, h.blk] at hk'; injection hk' with e1; injection e1 with _ e2; exact int_ne e2.symm)
    refine ⟨_, _, hrun, ⟨g, off, cap, _, ?_, h.lo, hb', by simpa using hfit, by simpa using hroom, hm, fun i p' hi => ?_⟩, ⟨rfl, rfl, rfl, by simp [World.setCell], fun k' _ hk' => hkeep k' (fun e => hk' (by rw [e]))⟩, .inl rfl⟩
    · simp
    · by_cases hi2 : i < ps.length
      · rw [List.getElem?_append_left hi2] at hi
        obtain ⟨y, hy, h2, hr⟩ := h.el i p' hi
        refine ⟨y, ?_, h2, hr.block hint⟩
        rw [Array.getElem?_setIfInBounds_ne (by omega)]; exact hy
      · rw [List.getElem?_append_right (by omega)] at hi
        have e0 : i = ps.length := by
          have := (List.getElem?_eq_some_iff.1 hi).1
          simp at this; omega
        subst e0
        simp at hi
        subst hi
        refine ⟨x, ?_, h1, hx.block hint⟩
        rw [Array.getElem?_setIfInBounds_self_of_lt (by omega)]
  · have hcap : cap = ps.length := by omega
    obtain ⟨olds, hol, hoe⟩ : ∃ olds : List Value, olds.length = ps.length ∧ ∀ i p', ps[i]? = some p' → ∃ y, olds[i]? = some y ∧ cur[off + i]? = some y := by
      refine ⟨(cur.toList.drop off).take ps.length, ?_, fun i p' hi => ?_⟩
      · have e1 : cur.toList.length = cur.size := Array.length_toList
        rw [List.length_take, List.length_drop]; omega
      · obtain ⟨y, hy, _⟩ := h.el i p' hi
        refine ⟨y, ?_, hy⟩
        have hi2 := (List.getElem?_eq_some_iff.1 hi).1
        rw [List.getElem?_take, if_pos hi2, List.getElem?_drop, Array.getElem?_toList]; exact hy
    have hold : (Builtin.firstCells i0.size ps.length (.slice (some ⟨g, off, none⟩) ps.length cap)).run Tryd.prog w.drew = .ok olds.toArray w.drew := by
      refine run_firstCells_some w.drew i0.size ps.length ⟨g, off, none⟩ ps.length cap olds (by rw [z1, hol]; omega) (fun j u hu => ?_)
      rw [Addr.add_lit]
      have hj := (List.getElem?_eq_some_iff.1 hu).1
      obtain ⟨p', hp'⟩ := some_at (l := ps) rfl (by omega : j < ps.length)
      obtain ⟨y, hy1, hy2⟩ := hoe j p' hp'
      rw [hu] at hy1
      injection hy1 with e
      show w.cell? ⟨g, off + j, none⟩ = _
      rw [h.cell, hy2, e]
    have hrun := run_append_grow_src (P := Tryd.prog) w 64 64 ty 33 i0 (.slice none 0 0) Tryd.underlying64 hi0 z0 (some ⟨g, off, none⟩) ps.length cap olds hold _ 1 [x] src (by omega) (by omega) (growslice_fits (by omega) (by rw [z2]; omega))
    have hge := grownCap_ge w (ps.length + 1) cap 33
    have hgm := grownCap_le_maxLen w (ps.length + 1) cap 33 (by unfold maxLen; omega)
    generalize grownCap w (ps.length + 1) cap 33 = nc at *
    have hkeep : ∀ k', k' < w.heap.size → ∀ o, (w.drew.alloc o).heap[k']? = w.heap[k']? := fun k' hk' o => Below.heap_alloc w.drew o k' hk'
    refine ⟨_, _, hrun, ⟨w.heap.size, 0, nc, _, ?_, hbase, World.alloc_heap_new w.drew _, ?_, by simpa using hge, hgm, fun i p' hi => ?_⟩, ⟨rfl, rfl, rfl, by simp, fun k' hk' _ => hkeep k' hk' _⟩, .inr rfl⟩
    · simp
    · rw [Array.size_append, size_zeroCells]
      simp [hol, Value.cells]
      omega
    · by_cases hi2 : i < ps.length
      · rw [List.getElem?_append_left hi2] at hi
        obtain ⟨y, hy, h2, hr⟩ := h.el i p' hi
        obtain ⟨y', hy1, hy2⟩ := hoe i p' hi
        rw [hy] at hy2
        injection hy2 with e
        subst e
        refine ⟨y, ?_, h2, hr.block (fun g' cu hg' => hkeep g' (Array.getElem?_eq_some_iff.1 hg').1 _)⟩
        rw [Nat.zero_add, Array.getElem?_append_left (by simp [hol]; omega), List.getElem?_toArray, List.getElem?_append_left (by omega)]
        exact hy1
      · rw [List.getElem?_append_right (by omega)] at hi
        have e0 : i = ps.length := by
          have := (List.getElem?_eq_some_iff.1 hi).1
          simp at this; omega
        subst e0
        simp at hi
        subst hi
        refine ⟨x, ?_, h1, hx.block (fun g' cu hg' => hkeep g' (Array.getElem?_eq_some_iff.1 hg').1 _)⟩
        rw [Nat.zero_add, Array.getElem?_append_left (by simp [hol]), List.getElem?_toArray, List.getElem?_append_right (by omega), hol]
        simp
end
end Go.Proofs.YtafbchjmjfpilaaDoor
