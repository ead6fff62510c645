/-
  How a fate that came in is opened.
-/
import Derived.Test.YtgckkjkbjabgfaaOpenScript
set_option linter.unusedVariables false
set_option linter.unusedSimpArgs false
namespace Go.Proofs.Ytgckkjkbjabgfaa
open Go.RowKit Go.ChangeShapes Go.WideShapes Go.ChangeAt

set_option maxRecDepth 100000 in
theorem open_fate {H : Type} {enc : TypeId × Value → H} {W : World} {base : Nat} {v : Value} {d : DataW H} {p : List MemPlace} (hv : Value.okWide Try.prog W .any base 34 v) (h : DataW.Trod enc Try.prog W 0 (fun _ => true) true 34 v d p) :
    ∃ a b c : Int, v = .agg #[.int .i64 a, .int .i64 b, .int .i64 c] := by
  have hv2 : ∃ cs, v = .agg cs ∧ cs.size = Try.prog.cellsOf 34 := by
    unfold Value.okWide at hv
    rw [Try.underlying34] at hv
    obtain ⟨cs, h1, h2, _⟩ := hv
    exact ⟨cs, h1, h2⟩
  obtain ⟨cs, rfl, hsz⟩ := hv2
  obtain ⟨fuel, hf⟩ := h
  obtain ⟨zs, m, _, _, hl, hzl, hgs⟩ := DataW.trod_struct Try.underlying34 hf
  have hzl3 : zs.length = 3 := hzl
  rw [cellsFate] at hsz
  obtain ⟨l, rfl⟩ : ∃ l : List Value, cs = l.toArray := ⟨cs.toList, by simp⟩
  have hl3 : l.length = 3 := by simpa using hsz
  match l, hl3 with
  | [c0, c1, c2], _ =>
    obtain ⟨z0, f0⟩ := some_at hzl3 (i := 0) (by omega)
    obtain ⟨z1, f1⟩ := some_at hzl3 (i := 1) (by omega)
    obtain ⟨z2, f2⟩ := some_at hzl3 (i := 2) (by omega)
    have g0 := (field_at hgs 0 3 0 _ cellsInt rfl).trans f0
    have g1 := (field_at hgs 1 3 1 _ cellsInt rfl).trans f1
    have g2 := (field_at hgs 2 3 2 _ cellsInt rfl).trans f2
    simp only [Value.cells, List.drop, List.take] at g0 g1 g2
    obtain ⟨k0, q0, _, _⟩ := DataW.trod_int Try.underlying3 g0
    obtain ⟨k1, q1, _, _⟩ := DataW.trod_int Try.underlying3 g1
    obtain ⟨k2, q2, _, _⟩ := DataW.trod_int Try.underlying3 g2
    simp only [List.cons.injEq, and_true] at q0 q1 q2
    subst q0 q1 q2
    exact ⟨k0, k1, k2, rfl⟩
end Go.Proofs.Ytgckkjkbjabgfaa
