/-
  Programs that come in, opened.
-/
import Derived.Test.YtnpmldlnckbppaaDoorS1
set_option linter.unusedVariables false
set_option linter.unusedSimpArgs false
namespace Go.Proofs.YtnpmldlnckbppaaDoor
open Go.RowKit Go.ChangeShapes Go.WideShapes Go.ChangeAt

section
variable {H : Type} {enc : TypeId × Value → H} {W : World} {a : Option Addr} {len cap : Nat} {d : DataW H} {p : List MemPlace}
theorem cellsSl : Tryd.prog.cellsOf 39 = 1 := by kernel_rfl
theorem open_progs (h : DataW.Trod enc Tryd.prog W 0 (fun _ => true) true 22 (.slice a len cap) d p) : ∃ Ps : List PrR, (∀ x ∈ Ps, x.ops.length = x.len) ∧ Progs W a len cap Ps ∧ Long d len := by
  obtain ⟨Ps, h1, h2, h3⟩ := open_seq PrR.cells (fun p => Seq 4 OpR.cells W p.ao p.len p.cap p.ops ∧ ∀ o ∈ p.ops, o.ok) Tryd.underlying22 cellsSl (by decide) (fun _ _ => rfl) (fun m cs y hl hy => by
    rcases DataW.trod_slice Tryd.underlying39 hy with ⟨hcs, hdn⟩ | ⟨x, l, c, elems, rest, n, _, hcs, _⟩
    · subst hcs
      obtain ⟨xs, q1, q2, -⟩ := open_ops (a := none) (len := 0) (cap := 0) (d := y.1) (p := y.2) ⟨m, hy⟩
      exact ⟨⟨none, 0, 0, xs⟩, ⟨q2, q1⟩, rfl⟩
    · subst hcs
      obtain ⟨xs, q1, q2, -⟩ := open_ops (a := some x) (len := l) (cap := c) (d := y.1) (p := y.2) ⟨m, hy⟩
      exact ⟨⟨some x, l, c, xs⟩, ⟨q2, q1⟩, rfl⟩) h
  exact ⟨Ps, fun x hx => (h1 x hx).1.1, ⟨h2, h1⟩, h3⟩
/-- Numbers, and what a nil slice has. -/
theorem open_ints0 (h : DataW.Trod enc Tryd.prog W 0 (fun _ => true) true 23 (.slice a len cap) d p) : ∃ xs : List Int, (∀ x ∈ xs, I64 x) ∧ (Ints .i64 W a len cap xs ∧ (a = none → cap = 0)) ∧ Long d len := by
  obtain ⟨xs, h1, h2, h3⟩ := open_i64s h
  refine ⟨xs, h1, ⟨h2, fun ha => ?_⟩, h3⟩
  obtain ⟨m, hy⟩ := h
  rcases DataW.trod_slice Tryd.underlying23 hy with ⟨hcs, hdn⟩ | ⟨x, l, c, elems, rest, n, _, hcs, _⟩
  · simp [Value.cells] at hcs
    exact hcs.2.2
  · simp [Value.cells] at hcs
    rw [ha] at hcs
    simp at hcs
end
end Go.Proofs.YtnpmldlnckbppaaDoor
