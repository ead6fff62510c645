/-
  XmO: Rows and calls that came in, opened, with what the form's own bounds say of their number.
-/
import Derived.Test.YtheidhkmmihjlaaXmM
import Derived.ProofKit
import Derived.OpenShut
import Derived.SizedLaws
set_option linter.unusedVariables false
set_option linter.unusedSimpArgs false
namespace Go.Proofs.Ytheidhkmmihjlaa
open Go.RowKit Go.ChangeShapes Go.WideShapes Go.ChangeAt

theorem oSt : Try.prog.cellsOf 9 = 1 := by kernel_rfl
theorem oI64 : Try.prog.cellsOf 2 = 1 := by kernel_rfl
theorem oInt : Try.prog.cellsOf 3 = 1 := by kernel_rfl
theorem oRow : Try.prog.cellsOf 45 = 3 := by kernel_rfl
theorem oCall : Try.prog.cellsOf 33 = 7 := by kernel_rfl
theorem bytesR : Try.prog.bytesOf 45 = 40 := by kernel_rfl
section
variable {H : Type} {enc : TypeId × Value → H} {W : World} {a : Option Addr} {len cap : Nat} {d : DataW H} {p : List MemPlace}
set_option maxRecDepth 100000 in
theorem orow_of {n : Nat} {cs : List Value} {y : DataW H × List MemPlace} (hl : cs.length = 3) (ht : DataW.trod enc Try.prog W 0 (fun _ => true) true n 45 cs = some y) : ∃ o : ML.Ro, True ∧ cs = o.cl := by
  obtain ⟨xs, m, _, hy, _, hxl, hfs⟩ := DataW.trod_struct Try.underlying45 ht
  have hx3 : xs.length = 3 := hxl
  match cs, hl, xs, hx3 with
  | [c0, c1, c2], _, [y0, y1, y2], _ =>
    have h0 := (field_at hfs 0 9 0 _ oSt rfl)
    have h1 := (field_at hfs 1 9 1 _ oSt rfl)
    have h2 := (field_at hfs 2 2 2 _ oI64 rfl)
    simp only [List.drop, List.take] at h0 h1 h2
    obtain ⟨k0, q0, r0, _⟩ := DataW.trod_string Try.underlying9 h0
    obtain ⟨k1, q1, r1, _⟩ := DataW.trod_string Try.underlying9 h1
    obtain ⟨k2, q2, r2, s2⟩ := DataW.trod_int Try.underlying2 h2
    simp only [List.cons.injEq, and_true] at q0 q1 q2
    subst q0 q1 q2
    exact ⟨⟨k0, k1, k2⟩, trivial, rfl⟩
set_option maxRecDepth 100000 in
theorem ocall_of {n : Nat} {cs : List Value} {y : DataW H × List MemPlace} (hl : cs.length = 7) (ht : DataW.trod enc Try.prog W 0 (fun _ => true) true n 33 cs = some y) : ∃ o : Cl, True ∧ cs = o.cells := by
  obtain ⟨xs, m, _, hy, _, hxl, hfs⟩ := DataW.trod_struct Try.underlying33 ht
  have hx3 : xs.length = 7 := hxl
  match cs, hl, xs, hx3 with
  | [c0, c1, c2, c3, c4, c5, c6], _, [y0, y1, y2, y3, y4, y5, y6], _ =>
    have h0 := (field_at hfs 0 3 0 _ oInt rfl)
    have h1 := (field_at hfs 1 3 1 _ oInt rfl)
    have h2 := (field_at hfs 2 9 2 _ oSt rfl)
    have h3 := (field_at hfs 3 9 3 _ oSt rfl)
    have h4 := (field_at hfs 4 9 4 _ oSt rfl)
    have h5 := (field_at hfs 5 3 5 _ oInt rfl)
    have h6 := (field_at hfs 6 3 6 _ oInt rfl)
    simp only [List.drop, List.take] at h0 h1 h2 h3 h4 h5 h6
    obtain ⟨k0, q0, r0, _⟩ := DataW.trod_int Try.underlying3 h0
    obtain ⟨k1, q1, r1, _⟩ := DataW.trod_int Try.underlying3 h1
    obtain ⟨k2, q2, r2, _⟩ := DataW.trod_string Try.underlying9 h2
    obtain ⟨k3, q3, r3, _⟩ := DataW.trod_string Try.underlying9 h3
    obtain ⟨k4, q4, r4, _⟩ := DataW.trod_string Try.underlying9 h4
    obtain ⟨k5, q5, r5, _⟩ := DataW.trod_int Try.underlying3 h5
    obtain ⟨k6, q6, r6, _⟩ := DataW.trod_int Try.underlying3 h6
    simp only [List.cons.injEq, and_true] at q0 q1 q2 q3 q4 q5 q6
    subst q0 q1 q2 q3 q4 q5 q6
    exact ⟨⟨k0, k1, k2, k3, k4, k5, k6⟩, trivial, rfl⟩
theorem open_rowsW (h : DataW.Trod enc Try.prog W 0 (fun _ => true) true 22 (.slice a len cap) d p) : ∃ xs : List ML.Ro, ML.RS W a len cap xs ∧ (a = none → cap = 0) ∧ Long d len := by
  obtain ⟨xs, _, h2, h3⟩ := open_seq ML.Ro.cl (fun _ => True) Try.underlying22 oRow (by decide) (fun _ _ => rfl) (fun m cs y hl hy => orow_of hl hy) h
  refine ⟨xs, h2, fun e => ?_, h3⟩
  obtain ⟨fuel, hf⟩ := h
  rcases DataW.trod_slice Try.underlying22 hf with ⟨hcs, _⟩ | ⟨x, l, c, _, _, _, _, hcs, _⟩
  · simp [Value.cells] at hcs
    exact hcs.2.2
  · simp [Value.cells] at hcs
    rw [e] at hcs; cases hcs.1
theorem open_callsW (h : DataW.Trod enc Try.prog W 0 (fun _ => true) true 52 (.slice a len cap) d p) : ∃ xs : List Cl, CS W a len cap xs := by
  obtain ⟨xs, _, h2, _⟩ := open_seq Cl.cells (fun _ => True) Try.underlying52 oCall (by decide) (fun _ _ => rfl) (fun m cs y hl hy => ocall_of hl hy) h
  exact ⟨xs, h2⟩
set_option maxRecDepth 100000 in
theorem sized_rows {ts : List TypeId} {ds : List (DataW H)} {j : Nat} (h : (DataW.weightsEach Try.prog ts ds).all (· ≤ reachBytes) = true) (ht : ts[j]? = some 22) (hd : ds[j]? = some d) (hp : Long d len) : len + 64 ≤ big := by
  unfold big
  rcases hp with ⟨_, rfl⟩ | ⟨es, sp, rfl, hl⟩
  · omega
  · have := of_decide_eq_true (List.all_eq_true.1 h _ (DataW.weights_mem_each ht hd ((es.length + sp.length) * Try.prog.bytesOf 45) (by
      simp [DataW.weights, Try.underlying22])))
    rw [bytesR] at this
    unfold reachBytes at this
    omega
end
end Go.Proofs.Ytheidhkmmihjlaa
