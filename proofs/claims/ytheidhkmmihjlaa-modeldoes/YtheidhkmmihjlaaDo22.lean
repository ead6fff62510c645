/-
  XnN: Operations that came in, opened.
-/
import Derived.Test.YtheidhkmmihjlaaDo21
set_option linter.unusedVariables false
set_option linter.unusedSimpArgs false
namespace Go.Proofs.Ytheidhkmmihjlaa
open Go.RowKit Go.ChangeShapes Go.WideShapes Go.ChangeAt
/-- An operation: a call, or (lay) a commit as it lies. -/
structure Opd where
  lay : Bool
  c : Cl
  t : Int
  ao : Option Addr
  len : Nat
  cap : Nat
  ws : List Wr
abbrev Opd.cells (x : Opd) : List Value := .bool x.lay :: (x.c.cells ++ [.int .i64 x.t, .slice x.ao x.len x.cap])
theorem oCom : Try.prog.cellsOf 36 = 2 := by kernel_rfl
theorem oOp : Try.prog.cellsOf 38 = 10 := by kernel_rfl
theorem oWs : Try.prog.cellsOf 34 = 1 := by kernel_rfl
section
variable {H : Type} {enc : TypeId × Value → H} {W : World} {a : Option Addr} {len cap : Nat} {d : DataW H} {p : List MemPlace}
set_option maxRecDepth 100000 in
theorem ocom_of {n : Nat} {cs : List Value} {y : DataW H × List MemPlace} (hl : cs.length = 2) (ht : DataW.trod enc Try.prog W 0 (fun _ => true) true n 36 cs = some y) : ∃ (t : Int) (ao : Option Addr) (ln cp : Nat) (ws : List Wr), WS W ao ln cp ws ∧ cs = [.int .i64 t, .slice ao ln cp] := by
  obtain ⟨xs, m, _, hy, _, hxl, hfs⟩ := DataW.trod_struct Try.underlying36 ht
  have hx2 : xs.length = 2 := hxl
  match cs, hl, xs, hx2 with
  | [c0, c1], _, [y0, y1], _ =>
    have h0 := (field_at hfs 0 2 0 _ oI64 rfl)
    have h1 := (field_at hfs 1 34 1 _ oWs rfl)
    simp only [List.drop, List.take] at h0 h1
    obtain ⟨k0, q0, r0, _⟩ := DataW.trod_int Try.underlying2 h0
    simp only [List.cons.injEq, and_true] at q0
    subst q0
    obtain ⟨ao, ln, cp, rfl⟩ : ∃ ao ln cp, c1 = .slice ao ln cp := by
      rcases DataW.trod_slice Try.underlying34 h1 with ⟨e, _⟩ | ⟨x, l, c, _, _, _, _, e, _⟩
      · exact ⟨none, 0, 0, by simpa using e⟩
      · exact ⟨some x, l, c, by simpa using e⟩
    obtain ⟨ws, hw⟩ := open_writesW (W := W) (d := y1.1) (p := y1.2) ⟨_, h1⟩
    exact ⟨k0, ao, ln, cp, ws, hw, rfl⟩
set_option maxRecDepth 100000 in
theorem oop_of {n : Nat} {cs : List Value} {y : DataW H × List MemPlace} (hl : cs.length = 10) (ht : DataW.trod enc Try.prog W 0 (fun _ => true) true n 38 cs = some y) : ∃ o : Opd, WS W o.ao o.len o.cap o.ws ∧ cs = o.cells := by
  obtain ⟨xs, m, _, hy, _, hxl, hfs⟩ := DataW.trod_struct Try.underlying38 ht
  have hx3 : xs.length = 3 := hxl
  match cs, hl, xs, hx3 with
  | [c0, c1, c2, c3, c4, c5, c6, c7, c8, c9], _, [y0, y1, y2], _ =>
    have h0 := (field_at hfs 0 4 0 _ oBool rfl)
    have h1 := (field_at hfs 1 33 1 _ oCall rfl)
    have h2 := (field_at hfs 2 36 8 _ oCom rfl)
    simp only [List.drop, List.take] at h0 h1 h2
    obtain ⟨k0, q0, _⟩ := DataW.trod_bool Try.underlying4 h0
    simp only [List.cons.injEq, and_true] at q0
    subst q0
    obtain ⟨c, _, e1⟩ := ocall_of rfl h1
    obtain ⟨t, ao, ln, cp, ws, hw, e2⟩ := ocom_of rfl h2
    exact ⟨⟨k0, c, t, ao, ln, cp, ws⟩, hw, by
      show _ = Value.bool k0 :: (c.cells ++ [.int .i64 t, .slice ao ln cp])
      rw [← e1, ← e2]; rfl⟩
theorem open_opsW (h : DataW.Trod enc Try.prog W 0 (fun _ => true) true 23 (.slice a len cap) d p) : ∃ xs : List Opd, (∀ x ∈ xs, WS W x.ao x.len x.cap x.ws) ∧ Seq 10 Opd.cells W a len cap xs := by
  obtain ⟨xs, h1, h2, _⟩ := open_seq Opd.cells (fun o => WS W o.ao o.len o.cap o.ws) Try.underlying23 oOp (by decide) (fun _ _ => rfl) (fun m cs y hl hy => oop_of hl hy) h
  exact ⟨xs, h1, h2⟩
end
end Go.Proofs.Ytheidhkmmihjlaa
