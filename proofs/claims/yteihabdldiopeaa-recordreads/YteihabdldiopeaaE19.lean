/-
  What stays as it is while the document reads a list.
-/
import Derived.Test.YteihabdldiopeaaE18
set_option linter.unusedVariables false
set_option linter.unusedSimpArgs false
namespace Go.Proofs.Yteihabdldiopeaa
open Go.RowKit Go.Maps

/-- The reader, what is read into, the result's place, and the list so far. -/
structure Kp (w W : World) (r xb : Nat) (ao : Option Addr) (len cap : Nat) (xs : List Int) (s : Rs) (cc zz : Array Value) (t : TypeId) (e : TypeId) (base : Nat) (va : Value) (n : Nat) (row : List Value) : Prop where
  rr : Rr W r ao len cap xs s
  cb : W.heap[xb]? = some (.cells cc t (0, 0))
  zb : W.heap[w.heap.size]? = some (.cells zz t (0, 0))
  ro : W.ownsRow base e 3 va n row
  bl : Below w.heap.size w W
  n1 : w.heap.size < r
  n2 : r < xb
  n3 : xb < base
  n4 : base ≤ W.heap.size
  sl : Sl w ao len cap xs

section
variable {w W W' : World} {r xb : Nat} {ao : Option Addr} {len cap : Nat} {xs : List Int} {s s' : Rs} {cc zz : Array Value} {t e : TypeId} {base : Nat} {va v' : Value} {n n' : Nat} {row row' : List Value}
theorem Rr.re (h : Rr W r ao len cap xs s) (hb : W'.heap[r]? = W.heap[r]?) (sl : Sl W' ao len cap xs) : Rr W' r ao len cap xs s := by
  obtain ⟨a, b, h1, h2, h3⟩ := h
  exact ⟨a, b, hb.trans h1, sl, h3⟩
theorem Kp.own (h : Kp w W r xb ao len cap xs s cc zz t e base va n row) : ∀ j, va.ownBlock = some j → base ≤ j ∧ j < W.heap.size := fun j hj => World.ownsRow.lt h.ro j hj
theorem Kp.read (h : Kp w W r xb ao len cap xs s cc zz t e base va n row) (g : W.grownBy W' (some r)) (h' : Rr W' r ao len cap xs s') : Kp w W' r xb ao len cap xs s' cc zz t e base va n row where
  rr := h'
  cb := res3 h.cb g (by have := h.n2; omega)
  zb := res3 h.zb g (by have := h.n1; omega)
  ro := World.ownsRow.kept h.ro g (by
    cases hv : va.ownBlock with
    | none => exact .inl rfl
    | some j =>
      refine .inr fun e => ?_
      have := (h.own j hv).1
      have := h.n2
      have := h.n3
      simp only [Option.some.injEq] at e
      omega)
  bl := below_of_grown h.bl g (Nat.le_of_lt h.n1)
  n1 := h.n1
  n2 := h.n2
  n3 := h.n3
  n4 := Nat.le_trans h.n4 g.size
  sl := h.sl
theorem Kp.past (h : Kp w W r xb ao len cap xs s cc zz t e base va n row) (g : W.grownBy W' (some r)) : W'.heap[xb]? = some (.cells cc t (0, 0)) ∧ W'.heap[w.heap.size]? = some (.cells zz t (0, 0)) ∧ W'.ownsRow base e 3 va n row ∧ Below w.heap.size w W' := by
  refine ⟨res3 h.cb g (by have := h.n2; omega), res3 h.zb g (by have := h.n1; omega), World.ownsRow.kept h.ro g ?_, below_of_grown h.bl g (Nat.le_of_lt h.n1)⟩
  cases hv : va.ownBlock with
  | none => exact .inl rfl
  | some j =>
    refine .inr fun e => ?_
    have := (h.own j hv).1
    have := h.n2
    have := h.n3
    simp only [Option.some.injEq] at e
    omega
theorem Kp.below (h : Kp w W r xb ao len cap xs s cc zz t e base va n row) (hb : Below W.heap.size W W') : Kp w W' r xb ao len cap xs s cc zz t e base va n row where
  rr := h.rr.keep hb
  cb := (hb.block xb (by have := h.n3; have := h.n4; omega)).trans h.cb
  zb := (hb.block _ (by have := h.n1; have := h.n2; have := h.n3; have := h.n4; omega)).trans h.zb
  ro := row_below h.ro hb
  bl := h.bl.trans (hb.mono h.bl.size)
  n1 := h.n1
  n2 := h.n2
  n3 := h.n3
  n4 := Nat.le_trans h.n4 hb.size
  sl := h.sl
theorem Kp.alloc (h : Kp w W r xb ao len cap xs s cc zz t e base va n row) (o : Obj) : Kp w (W.alloc o) r xb ao len cap xs s cc zz t e base va n row :=
  h.below ((Below.refl _ _).alloc (Nat.le_refl _) o)
/-- A store elsewhere. -/
theorem Kp.set (h : Kp w W r xb ao len cap xs s cc zz t e base va n row) {y : Nat} (hy : base ≤ y) (hv : va.ownBlock ≠ some y) (i : Nat) (u : Value) : Kp w (W.setCell ⟨y, i, none⟩ u) r xb ao len cap xs s cc zz t e base va n row := by
  have g := grown_set W y i u
  have a1 := h.n1
  have a2 := h.n2
  have a3 := h.n3
  have a4 := h.n4
  have hB : Below w.heap.size w (W.setCell ⟨y, i, none⟩ u) := h.bl.setCell (p := ⟨y, i, none⟩) (by simp; omega) u
  exact {
    rr := h.rr.re (g.block r (by omega) (by simp; omega)) (h.sl.below hB)
    cb := (g.block xb (by omega) (by simp; omega)).trans h.cb
    zb := (g.block _ (by omega) (by simp; omega)).trans h.zb
    ro := World.ownsRow.kept h.ro g (.inr hv)
    bl := hB
    n1 := h.n1
    n2 := h.n2
    n3 := h.n3
    n4 := Nat.le_trans h.n4 g.size
    sl := h.sl }
/-- The list grows. -/
theorem Kp.app (h : Kp w W r xb ao len cap xs s cc zz t e base va n row) (g : W.grownBy W' va.ownBlock) (hr : W'.ownsRow base e 3 v' n' row') : Kp w W' r xb ao len cap xs s cc zz t e base v' n' row' := by
  have a1 := h.n1
  have a2 := h.n2
  have a3 := h.n3
  have a4 := h.n4
  have hn : ∀ j, j < base → some j ≠ va.ownBlock := fun j hj e => by have := (h.own j e.symm).1; omega
  have hB : Below w.heap.size w W' := h.bl.trans ⟨g.os, g.tape, g.output, g.size, fun k hk => g.block k (by omega) (hn k (by omega))⟩
  exact {
    rr := h.rr.re (g.block r (by omega) (hn r (by omega))) (h.sl.below hB)
    cb := (g.block xb (by omega) (hn xb (by omega))).trans h.cb
    zb := (g.block _ (by omega) (hn _ (by omega))).trans h.zb
    ro := hr
    bl := hB
    n1 := h.n1
    n2 := h.n2
    n3 := h.n3
    n4 := Nat.le_trans h.n4 g.size
    sl := h.sl }
/-- A store into what is read into. -/
theorem Kp.setc (h : Kp w W r xb ao len cap xs s cc zz t e base va n row) (i : Nat) (u : Value) : Kp w (W.setCell ⟨xb, i, none⟩ u) r xb ao len cap xs s (cc.setIfInBounds i u) zz t e base va n row := by
  have g := grown_set W xb i u
  have a1 := h.n1
  have a2 := h.n2
  have a3 := h.n3
  have a4 := h.n4
  have hB : Below w.heap.size w (W.setCell ⟨xb, i, none⟩ u) := h.bl.setCell (p := ⟨xb, i, none⟩) (by simp; omega) u
  exact {
    rr := h.rr.re (g.block r (by omega) (by simp; omega)) (h.sl.below hB)
    cb := Go.Joins.block_setCell h.cb u
    zb := (g.block _ (by omega) (by simp; omega)).trans h.zb
    ro := World.ownsRow.kept h.ro g (.inr fun e => by have := (h.own xb e).1; omega)
    bl := hB
    n1 := h.n1
    n2 := h.n2
    n3 := h.n3
    n4 := Nat.le_trans h.n4 g.size
    sl := h.sl }
end

theorem rwr_bad (xs : List Int) (p : Nat) : (rwr xs (.bad p)).2 = .bad p := by
  unfold rwr
  rw [if_neg (show ¬ (rmark xs 0 1 (.bad p)).1 = 1 from by show ¬ (0 : Int) = 1; decide)]
  rfl
theorem rpr_bad (xs : List Int) (p : Nat) : (rpr xs (.bad p)).2 = .bad p := rfl
theorem rlist_bad {α : Type} (f : Rs → α × Rs) (hf : ∀ p, (f (.bad p)).2 = .bad p) : ∀ (k p : Nat), (rlist f k (.bad p)).2 = .bad p
  | 0, p => rfl
  | k + 1, p => by
    rw [show (rlist f (k + 1) (.bad p)).2 = (rlist f k (f (.bad p)).2).2 from rfl, hf p]
    exact rlist_bad f hf k p
theorem rlist_add {α : Type} (f : Rs → α × Rs) : ∀ (k m : Nat) (s : Rs), (rlist f (k + m) s).2 = (rlist f m (rlist f k s).2).2
  | 0, m, s => by rw [Nat.zero_add]; rfl
  | k + 1, m, s => by
    rw [show k + 1 + m = (k + m) + 1 by omega]
    exact rlist_add f k m (f s).2
/-- A fault early on is the fault of all. -/
theorem rlist_stop {α : Type} (f : Rs → α × Rs) (hf : ∀ p, (f (.bad p)).2 = .bad p) {k n p : Nat} {s : Rs} (hk : k ≤ n) (h : (rlist f k s).2 = .bad p) : (rlist f n s).2 = .bad p := by
  obtain ⟨m, rfl⟩ : ∃ m, n = k + m := ⟨n - k, by omega⟩
  rw [rlist_add, h, rlist_bad f hf]

end Go.Proofs.Yteihabdldiopeaa
