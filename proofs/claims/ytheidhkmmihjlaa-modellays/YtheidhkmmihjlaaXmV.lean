/-
  XmV: Writes that came in, opened.
-/
import Derived.Test.YtheidhkmmihjlaaXmO
import Derived.Test.YtheidhkmmihjlaaXmU
set_option linter.unusedVariables false
set_option linter.unusedSimpArgs false
namespace Go.Proofs.Ytheidhkmmihjlaa
open Go.RowKit Go.ChangeShapes Go.WideShapes Go.ChangeAt
theorem oBool : Try.prog.cellsOf 4 = 1 := by kernel_rfl
theorem oWrt : Try.prog.cellsOf 61 = 3 := by kernel_rfl
section
variable {H : Type} {enc : TypeId × Value → H} {W : World} {a : Option Addr} {len cap : Nat} {d : DataW H} {p : List MemPlace}
set_option maxRecDepth 100000 in
theorem owrite_of {n : Nat} {cs : List Value} {y : DataW H × List MemPlace} (hl : cs.length = 3) (ht : DataW.trod enc Try.prog W 0 (fun _ => true) true n 61 cs = some y) : ∃ o : Wr, True ∧ cs = o.cl := by
  obtain ⟨xs, m, _, hy, _, hxl, hfs⟩ := DataW.trod_struct Try.underlying61 ht
  have hx3 : xs.length = 3 := hxl
  match cs, hl, xs, hx3 with
  | [c0, c1, c2], _, [y0, y1, y2], _ =>
    have h0 := (field_at hfs 0 9 0 _ oSt rfl)
    have h1 := (field_at hfs 1 9 1 _ oSt rfl)
    have h2 := (field_at hfs 2 4 2 _ oBool rfl)
    simp only [List.drop, List.take] at h0 h1 h2
    obtain ⟨k0, q0, r0, _⟩ := DataW.trod_string Try.underlying9 h0
    obtain ⟨k1, q1, r1, _⟩ := DataW.trod_string Try.underlying9 h1
    obtain ⟨k2, q2, r2⟩ := DataW.trod_bool Try.underlying4 h2
    simp only [List.cons.injEq, and_true] at q0 q1 q2
    subst q0 q1 q2
    exact ⟨⟨k0, k1, k2⟩, trivial, rfl⟩
theorem open_writesW (h : DataW.Trod enc Try.prog W 0 (fun _ => true) true 34 (.slice a len cap) d p) : ∃ xs : List Wr, WS W a len cap xs := by
  obtain ⟨xs, _, h2, _⟩ := open_seq Wr.cl (fun _ => True) Try.underlying34 oWrt (by decide) (fun _ _ => rfl) (fun m cs y hl hy => owrite_of hl hy) h
  exact ⟨xs, h2⟩
end
end Go.Proofs.Ytheidhkmmihjlaa
