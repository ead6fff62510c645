/-
  The slices that come in, opened: numbers, operations, steps.
-/
import Derived.Test.YtfhcphgjaobnoaaDoorC4
import Derived.Test.YtfhcphgjaobnoaaDoorSeq
import Derived.OpenShut
set_option linter.unusedVariables false
set_option linter.unusedSimpArgs false
namespace Go.Proofs.YtfhcphgjaobnoaaDoor
open Go.RowKit Go.ChangeShapes Go.WideShapes Go.ChangeAt

abbrev U64 (x : Int) : Prop := 0 ≤ x ∧ x ≤ 18446744073709551615
abbrev I64 (x : Int) : Prop := -9223372036854775808 ≤ x ∧ x ≤ 9223372036854775807

/-- An operation as it comes in. -/
structure OpR where
  k : Int
  c : Int
  a : Int
  b : Int
def OpR.cells (o : OpR) : List Value := [.int .i64 o.k, .int .i64 o.c, .int .u64 o.a, .int .u64 o.b]
def OpR.ok (o : OpR) : Prop := I64 o.k ∧ I64 o.c ∧ U64 o.a ∧ U64 o.b
/-- A step as it comes in. -/
structure StepR where
  kind : Int
  op : OpR
def StepR.cells (s : StepR) : List Value := .int .i64 s.kind :: s.op.cells
def StepR.ok (s : StepR) : Prop := I64 s.kind ∧ s.op.ok

section
variable {H : Type} {enc : TypeId × Value → H} {W : World} {a : Option Addr} {len cap : Nat} {d : DataW H} {p : List MemPlace}

theorem open_nums (h : DataW.Trod enc Tryd.prog W 0 (fun _ => true) true 23 (.slice a len cap) d p) : ∃ xs : List Int, (∀ x ∈ xs, U64 x) ∧ Ints .u64 W a len cap xs ∧ Long d len := by
  obtain ⟨xs, h1, h2⟩ := open_ints_of Tryd.underlying23 Tryd.underlying54 (by kernel_rfl) h
  exact ⟨xs, fun x hx => bounds_u64 (h1 x hx), h2⟩
theorem open_i64s (h : DataW.Trod enc Tryd.prog W 0 (fun _ => true) true 29 (.slice a len cap) d p) : ∃ xs : List Int, (∀ x ∈ xs, I64 x) ∧ Ints .i64 W a len cap xs ∧ Long d len := by
  obtain ⟨xs, h1, h2⟩ := open_ints_of Tryd.underlying29 Tryd.underlying3 (by kernel_rfl) h
  exact ⟨xs, fun x hx => bounds_i64 (h1 x hx), h2⟩

theorem cellsInt : Tryd.prog.cellsOf 3 = 1 := by kernel_rfl
theorem cellsU : Tryd.prog.cellsOf 54 = 1 := by kernel_rfl
theorem cellsOp : Tryd.prog.cellsOf 126 = 4 := by kernel_rfl
set_option maxRecDepth 100000 in
theorem op_of {n : Nat} {cs : List Value} {y : DataW H × List MemPlace} (hl : cs.length = 4) (ht : DataW.trod enc Tryd.prog W 0 (fun _ => true) true n 126 cs = some y) : ∃ o : OpR, o.ok ∧ cs = o.cells := by
  obtain ⟨xs, m, _, _, _, hxl, hfs⟩ := DataW.trod_struct Tryd.underlying126 ht
  have hx4 : xs.length = 4 := hxl
  match cs, hl with
  | [c0, c1, c2, c3], _ =>
    obtain ⟨y0, e0⟩ := some_at hx4 (i := 0) (by omega)
    obtain ⟨y1, e1⟩ := some_at hx4 (i := 1) (by omega)
    obtain ⟨y2, e2⟩ := some_at hx4 (i := 2) (by omega)
    obtain ⟨y3, e3⟩ := some_at hx4 (i := 3) (by omega)
    have h0 := (field_at hfs 0 3 0 _ cellsInt rfl).trans e0
    have h1 := (field_at hfs 1 3 1 _ cellsInt rfl).trans e1
    have h2 := (field_at hfs 2 54 2 _ cellsU rfl).trans e2
    have h3 := (field_at hfs 3 54 3 _ cellsU rfl).trans e3
    dsimp only [List.drop, List.take] at h0 h1 h2 h3
    obtain ⟨k0, q0, _, w0⟩ := DataW.trod_int Tryd.underlying3 h0
    obtain ⟨k1, q1, _, w1⟩ := DataW.trod_int Tryd.underlying3 h1
    obtain ⟨k2, q2, _, w2⟩ := DataW.trod_int Tryd.underlying54 h2
    obtain ⟨k3, q3, _, w3⟩ := DataW.trod_int Tryd.underlying54 h3
    simp only [List.cons.injEq, and_true] at q0 q1 q2 q3
    subst q0 q1 q2 q3
    exact ⟨⟨k0, k1, k2, k3⟩, ⟨bounds_i64 w0, bounds_i64 w1, bounds_u64 w2, bounds_u64 w3⟩, rfl⟩

end
end Go.Proofs.YtfhcphgjaobnoaaDoor
