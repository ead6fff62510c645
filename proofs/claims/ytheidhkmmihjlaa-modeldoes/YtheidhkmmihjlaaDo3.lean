/-
  Mr2: Appending rows to rows. The document's own put.
-/
import Derived.Test.YtheidhkmmihjlaaDo2
import Derived.Lib.AppendZeros
set_option linter.unusedVariables false
set_option linter.unusedSimpArgs false
namespace Go.Proofs.Ytheidhkmmihjlaa.ML
open Go.RowKit
attribute [local go_sem] Oper.semAt_some

/-- A slice of rows that may be appended. -/
def Sv (w : World) (x : Value) (m : List Ro) : Prop :=
  (x = .slice none 0 0 ∧ m = []) ∨ ∃ ad c, x = .slice (some ad) m.length c ∧ ∀ j u, (rc m)[j]? = some u → w.cell? (ad.add j) = some u
theorem addr_add2 (ad : Addr) (a b : Nat) : (ad.add a).add b = ad.add (a + b) := by
  cases ad
  unfold Addr.add
  by_cases h1 : a = 0 <;> by_cases h2 : b = 0 <;> simp [h1, h2, Nat.add_assoc]

/-- All its cells lie below. -/
theorem Sv.keep {w w' : World} {x : Value} {m : List Ro} (h : Sv w x m) (hb : Below w.heap.size w w') : Sv w' x m := by
  rcases h with q | ⟨ad, c, e, hc⟩
  · exact .inl q
  · refine .inr ⟨ad, c, e, fun j u hu => ?_⟩
    have h1 := hc j u hu
    exact (hb.cell (p := ad.add j) (World.block_lt_of_cell? w _ h1)).trans h1
section
variable {w : World} {B : Nat} {v : Value} {l m : List Ro} {x : Value}
theorem rapp (h : Rr w B v l) (hB : B ≤ w.heap.size) (hs : Sv w x m) (hl : l.length + m.length ≤ 1000000000) :
    ∃ v' w', (Builtin.append_ #[22, 22] 22 #[v, x]).run Try.prog w = .ok v' w' ∧ Rr w' B v' (l ++ m) ∧ (∀ a n, n ≤ B → Below n a w → Below n a w') ∧ w.heap.size ≤ w'.heap.size ∧ (∀ k, k < w.heap.size → v.ownBlock ≠ some k → w'.heap[k]? = w.heap[k]?) := by
  obtain ⟨i0, hi0, z0, z1, z2⟩ := info_parts infoRo
  rcases hs with ⟨rfl, rfl⟩ | ⟨ad, c, rfl, hc⟩
  · refine ⟨v, w, run_append_owned_none (P := Try.prog) (w := w) B 22 22 45 i0 3 Try.underlying22 hi0 v _ _ h, by rw [List.append_nil]; exact h, fun _ _ _ hb => hb, Nat.le_refl _, fun _ _ _ => rfl⟩
  · obtain ⟨v', w', hr, ho, hg, _, _⟩ := run_append_own_at (P := Try.prog) w B 22 22 45 i0 _ 3 40 Try.underlying22 hi0 z0 z1 z2 rfl (by decide) v _ _ h ad m.length c (rc m) (rc_len m) hc (rc_one m) (by unfold maxLen; omega) (by omega) hB
    refine ⟨v', w', hr, ?_, fun a n hn hb => hb.grown hg (by omega) (fun k e => Nat.le_trans hn (World.ownsRow.lt h k e).1), hg.size, fun k hk hne => hg.block k hk (fun e => hne e.symm)⟩
    unfold Rr
    rw [List.length_append, rc_append]
    exact ho
theorem sv_one (w : World) (r : Ro) : Sv (w.alloc (.cells #[.string r.k, .string r.v, .int .i64 r.t] 45)) (.slice (some ⟨w.heap.size, 0, none⟩) 1 1) [r] :=
  .inr ⟨_, 1, rfl, cell_three_new w _ _ _ _⟩
theorem rr_nil (w : World) (B : Nat) : Rr w B (.slice none 0 0) [] := ⟨rfl, .inl ⟨rfl, rfl⟩⟩

/-- The cells of a slice that is read. -/
theorem rs_cells {ao : Option Addr} {len cap : Nat} (h : RS w ao len cap l) (hl : 0 < len) : ∃ g off, ao = some ⟨g, off, none⟩ ∧ g < w.heap.size ∧ ∀ j u, (rc l)[j]? = some u → w.cell? ⟨g, off + j, none⟩ = some u := by
  obtain ⟨g, off, e, hg, hc⟩ := h.2.2.2 hl
  refine ⟨g, off, e, hg, fun j u hu => ?_⟩
  have hj := (List.getElem?_eq_some_iff.1 hu).1
  rw [rc_len] at hj
  obtain ⟨r, hr⟩ := some_at (l := l) (i := j / 3) (n := l.length) rfl (by omega)
  have hm : j % 3 < 3 := Nat.mod_lt _ (by decide)
  obtain ⟨y, hy⟩ : ∃ y, r.cl[j % 3]? = some y := ⟨r.cl[j % 3]'(by simp; omega), List.getElem?_eq_getElem (by simp; omega)⟩
  have e1 := rc_at l (j / 3) r hr (j % 3) y hy
  have e2 : j / 3 * 3 + j % 3 = j := by omega
  rw [e2, hu] at e1
  have e3 := hc (j / 3) r hr (j % 3) y hy
  have e4 : off + j / 3 * 3 + j % 3 = off + j := by omega
  rw [e4] at e3
  rw [e3, Option.some.inj e1]
theorem RS.sv {ao : Option Addr} {len cap : Nat} (h : RS w ao len cap l) (hn : ao = none → cap = 0) : Sv w (.slice ao len cap) l := by
  have hl := h.1
  cases ao with
  | none =>
    have : len = 0 := by
      by_cases q : 0 < len
      · obtain ⟨g, off, e, _⟩ := h.2.2.2 q; cases e
      · omega
    exact .inl ⟨by rw [hn rfl, this], List.eq_nil_of_length_eq_zero (by omega)⟩
  | some ad =>
    refine .inr ⟨ad, cap, by rw [hl], fun j u hu => ?_⟩
    have hj := (List.getElem?_eq_some_iff.1 hu).1
    rw [rc_len] at hj
    obtain ⟨g, off, e, hg, hc⟩ := rs_cells h (by omega)
    cases e
    rw [addr_plus]
    exact hc j u hu
/-- The rest of such a slice. -/
theorem Sv.from {ao : Option Addr} {cap : Nat} (h : Sv w (.slice ao l.length cap) l) (hc : l.length ≤ cap) (k : Nat) (hk : k ≤ l.length) :
    ∃ x, (∀ u : World, (Instr.slice 22 (.slice ao l.length cap) (some (.int .i64 (k : Int))) none none).run Try.prog u = .ok x u) ∧ Sv w x (l.drop k) := by
  have ht : Try.prog.underlying 22 = some (.slice (Try.prog.elem 22)) := by kernel_rfl
  have he : Try.prog.elem 22 = 45 := by kernel_rfl
  have hs : ∀ u : World, (Go.sizeOf 45).run Try.prog u = .ok 3 u := fun u => by kernel_rfl
  refine ⟨sliced ao k l.length cap 3, fun u => ?_, ?_⟩
  · rw [run_slice_l u 22 ao l.length cap ht .i64 (k : Int) (by omega) (by omega), he, hs]
    rfl
  · simp only [sliced]
    rcases h with ⟨e, rfl⟩ | ⟨ad, c, e, hcell⟩
    · cases e
      refine .inl ⟨?_, by simp⟩
      simp
    · cases e
      by_cases q : cap = k
      · have : l.drop k = [] := List.drop_eq_nil_of_le (by omega)
        rw [if_pos q, this]
        refine .inr ⟨ad, cap - k, by simp; omega, fun j u hu => by cases hu⟩
      · rw [if_neg q]
        refine .inr ⟨ad.add (k * 3), cap - k, by simp, fun j u hu => ?_⟩
        have e2 : rc l = rc (l.take k) ++ rc (l.drop k) := by rw [← rc_append, List.take_append_drop]
        have e3 : (rc (l.take k)).length = k * 3 := by rw [rc_len, List.length_take, Nat.min_eq_left hk]
        have h1 := hcell (k * 3 + j) u (by rw [e2, List.getElem?_append_right (by omega), e3, Nat.add_sub_cancel_left]; exact hu)
        rw [addr_add2]
        exact h1
end
end Go.Proofs.Ytheidhkmmihjlaa.ML

/-
  Mr3: The document's own: put, Rows.
-/
set_option linter.unusedVariables false
set_option linter.unusedSimpArgs false
namespace Go.Proofs.Ytheidhkmmihjlaa.ML
open Go.RowKit
attribute [local go_sem] Oper.semAt_some

theorem while_at {α : Type} (f : α → Bool) : ∀ (l : List α) (k : Nat), (∀ x ∈ l.take k, f x = true) → (∀ x, l[k]? = some x → f x = false) → l.takeWhile f = l.take k ∧ l.dropWhile f = l.drop k
  | [], k, _, _ => by simp
  | x :: l, 0, _, h => by
    have := h x rfl
    simp [List.takeWhile, List.dropWhile, this]
  | x :: l, k + 1, h1, h2 => by
    have hx : f x = true := h1 x (by simp)
    obtain ⟨e1, e2⟩ := while_at f l k (fun y hy => h1 y (by simp [hy])) (fun y hy => h2 y (by simpa using hy))
    simp [List.takeWhile, List.dropWhile, hx, e1, e2]

section
set_option maxHeartbeats 8000000
set_option maxRecDepth 100000
variable {w : World} {B : Nat} {v : Value} {l : List Ro}
variable {ao bo go : Option Addr} {la ca lb cb lg cg : Nat} {a b : List Ro} {gone : List Gn}
end
end Go.Proofs.Ytheidhkmmihjlaa.ML
