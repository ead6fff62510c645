/-
  How rows, commits and manifests that came in are opened.
-/
import Derived.Test.YteihabdldiopeaaE3
import Derived.Test.YteihabdldiopeaaRows
import Derived.ProofKit
import Derived.OpenShut
set_option linter.unusedVariables false
set_option linter.unusedSimpArgs false
namespace Go.Proofs.Yteihabdldiopeaa
open Go.RowKit Go.ChangeShapes Go.WideShapes Go.ChangeAt

theorem cellsI64 : Try.prog.cellsOf 2 = 1 := by kernel_rfl
theorem cellsIn : Try.prog.cellsOf 3 = 1 := by kernel_rfl
theorem cellsSt : Try.prog.cellsOf 9 = 1 := by kernel_rfl
theorem cellsBo : Try.prog.cellsOf 4 = 1 := by kernel_rfl
theorem cellsWs : Try.prog.cellsOf 24 = 1 := by kernel_rfl
theorem cellsPs : Try.prog.cellsOf 42 = 1 := by kernel_rfl
theorem cellsWrite : Try.prog.cellsOf 28 = 3 := by kernel_rfl
theorem cellsPair : Try.prog.cellsOf 53 = 3 := by kernel_rfl
theorem cellsRow : Try.prog.cellsOf 36 = 3 := by kernel_rfl
theorem cellsCommit : Try.prog.cellsOf 26 = 2 := by kernel_rfl
theorem cellsManifest : Try.prog.cellsOf 44 = 3 := by kernel_rfl

section
variable {H : Type} {enc : TypeId × Value → H} {W : World} {base : Nat} {v : Value} {d : DataW H} {p : List MemPlace}

set_option maxRecDepth 100000 in
theorem write_of {n : Nat} {cs : List Value} {y : DataW H × List MemPlace} (hl : cs.length = 3) (ht : DataW.trod enc Try.prog W 0 (fun _ => true) true n 28 cs = some y) : ∃ o : Wr, True ∧ cs = o.cells := by
  obtain ⟨xs, m, _, _, _, hxl, hfs⟩ := DataW.trod_struct Try.underlying28 ht
  have hx3 : xs.length = 3 := hxl
  match cs, hl with
  | [c0, c1, c2], _ =>
    obtain ⟨y0, e0⟩ := some_at hx3 (i := 0) (by omega)
    obtain ⟨y1, e1⟩ := some_at hx3 (i := 1) (by omega)
    obtain ⟨y2, e2⟩ := some_at hx3 (i := 2) (by omega)
    have h0 := (field_at hfs 0 9 0 _ cellsSt rfl).trans e0
    have h1 := (field_at hfs 1 9 1 _ cellsSt rfl).trans e1
    have h2 := (field_at hfs 2 4 2 _ cellsBo rfl).trans e2
    dsimp only [List.drop, List.take] at h0 h1 h2
    obtain ⟨k0, q0, _, _⟩ := DataW.trod_string Try.underlying9 h0
    obtain ⟨k1, q1, _, _⟩ := DataW.trod_string Try.underlying9 h1
    obtain ⟨k2, q2, _⟩ := DataW.trod_bool Try.underlying4 h2
    simp only [List.cons.injEq, and_true] at q0 q1 q2
    subst q0 q1 q2
    exact ⟨⟨k0, k1, k2⟩, trivial, rfl⟩
set_option maxRecDepth 100000 in
theorem pair_of {n : Nat} {cs : List Value} {y : DataW H × List MemPlace} (hl : cs.length = 3) (ht : DataW.trod enc Try.prog W 0 (fun _ => true) true n 53 cs = some y) : ∃ o : Pr, True ∧ cs = o.cells := by
  obtain ⟨xs, m, _, _, _, hxl, hfs⟩ := DataW.trod_struct Try.underlying53 ht
  have hx3 : xs.length = 3 := hxl
  match cs, hl with
  | [c0, c1, c2], _ =>
    obtain ⟨y0, e0⟩ := some_at hx3 (i := 0) (by omega)
    obtain ⟨y1, e1⟩ := some_at hx3 (i := 1) (by omega)
    obtain ⟨y2, e2⟩ := some_at hx3 (i := 2) (by omega)
    have h0 := (field_at hfs 0 3 0 _ cellsIn rfl).trans e0
    have h1 := (field_at hfs 1 2 1 _ cellsI64 rfl).trans e1
    have h2 := (field_at hfs 2 2 2 _ cellsI64 rfl).trans e2
    dsimp only [List.drop, List.take] at h0 h1 h2
    obtain ⟨k0, q0, _, _⟩ := DataW.trod_int Try.underlying3 h0
    obtain ⟨k1, q1, _, _⟩ := DataW.trod_int Try.underlying2 h1
    obtain ⟨k2, q2, _, _⟩ := DataW.trod_int Try.underlying2 h2
    simp only [List.cons.injEq, and_true] at q0 q1 q2
    subst q0 q1 q2
    exact ⟨⟨k0, k1, k2⟩, trivial, rfl⟩

set_option maxRecDepth 100000 in
theorem open_row (hv : Value.okWide Try.prog W .any base 36 v) (h : DataW.Trod enc Try.prog W 0 (fun _ => true) true 36 v d p) : ∃ r : Rw, v = r.v := by
  have hv2 : ∃ cs, v = .agg cs ∧ cs.size = Try.prog.cellsOf 36 := by
    unfold Value.okWide at hv
    rw [Try.underlying36] at hv
    obtain ⟨cs, h1, h2, _⟩ := hv
    exact ⟨cs, h1, h2⟩
  obtain ⟨cs, rfl, hsz⟩ := hv2
  obtain ⟨fuel, hf⟩ := h
  obtain ⟨zs, m, _, _, hl, hzl, hgs⟩ := DataW.trod_struct Try.underlying36 hf
  have hzl3 : zs.length = 3 := hzl
  rw [cellsRow] at hsz
  obtain ⟨l, rfl⟩ : ∃ l : List Value, cs = l.toArray := ⟨cs.toList, by simp⟩
  have hl3 : l.length = 3 := by simpa using hsz
  match l, hl3 with
  | [c0, c1, c2], _ =>
    obtain ⟨z0, f0⟩ := some_at hzl3 (i := 0) (by omega)
    obtain ⟨z1, f1⟩ := some_at hzl3 (i := 1) (by omega)
    obtain ⟨z2, f2⟩ := some_at hzl3 (i := 2) (by omega)
    have g0 := (field_at hgs 0 9 0 _ cellsSt rfl).trans f0
    have g1 := (field_at hgs 1 9 1 _ cellsSt rfl).trans f1
    have g2 := (field_at hgs 2 2 2 _ cellsI64 rfl).trans f2
    simp only [Value.cells, List.drop, List.take] at g0 g1 g2
    obtain ⟨k0, q0, _, _⟩ := DataW.trod_string Try.underlying9 g0
    obtain ⟨k1, q1, _, _⟩ := DataW.trod_string Try.underlying9 g1
    obtain ⟨k2, q2, _, _⟩ := DataW.trod_int Try.underlying2 g2
    simp only [List.cons.injEq, and_true] at q0 q1 q2
    subst q0 q1 q2
    exact ⟨⟨k0, k1, k2⟩, rfl⟩

set_option maxRecDepth 100000 in
theorem open_commit (hv : Value.okWide Try.prog W .any base 26 v) (h : DataW.Trod enc Try.prog W 0 (fun _ => true) true 26 v d p) :
    ∃ (t : Int) (a : Option Addr) (len cap : Nat) (ws : List Wr), v = .agg #[.int .i64 t, .slice a len cap] ∧ Seq 3 Wr.cells W a len cap ws ∧ ∃ d0 d1, d = .agg [d0, d1] ∧ Long d1 len := by
  have hv2 : ∃ cs, v = .agg cs ∧ cs.size = Try.prog.cellsOf 26 := by
    unfold Value.okWide at hv
    rw [Try.underlying26] at hv
    obtain ⟨cs, h1, h2, _⟩ := hv
    exact ⟨cs, h1, h2⟩
  obtain ⟨cs, rfl, hsz⟩ := hv2
  obtain ⟨fuel, hf⟩ := h
  obtain ⟨zs, m, _, hdd, hl, hzl, hgs⟩ := DataW.trod_struct Try.underlying26 hf
  have hzl2 : zs.length = 2 := hzl
  rw [cellsCommit] at hsz
  obtain ⟨l, rfl⟩ : ∃ l : List Value, cs = l.toArray := ⟨cs.toList, by simp⟩
  have hl2 : l.length = 2 := by simpa using hsz
  match l, hl2, zs, hzl2 with
  | [c0, c1], _, [z0, z1], _ =>
    have g0 := (field_at hgs 0 2 0 _ cellsI64 rfl)
    have g1 := (field_at hgs 1 24 1 _ cellsWs rfl)
    simp only [Value.cells, List.drop, List.take] at g0 g1
    obtain ⟨k0, q0, _, _⟩ := DataW.trod_int Try.underlying2 g0
    obtain ⟨a3, l3, c3', q3⟩ : ∃ a l c, c1 = .slice a l c := by
      rcases DataW.trod_slice Try.underlying24 g1 with ⟨e, _⟩ | ⟨a, l, c, _, _, _, _, e, _⟩
      · exact ⟨none, 0, 0, by simpa using e⟩
      · exact ⟨some a, l, c, by simpa using e⟩
    subst q3
    simp only [List.cons.injEq, and_true] at q0
    subst q0
    obtain ⟨ws, _, hs, hlg⟩ := open_seq (enc := enc) (W := W) Wr.cells (fun _ => True) Try.underlying24 cellsWrite (by decide) (fun _ _ => rfl) (fun m cs y hl hy => write_of hl hy) (⟨_, g1⟩ : DataW.Trod enc Try.prog W 0 (fun _ => true) true 24 (.slice a3 l3 c3') _ _)
    exact ⟨k0, a3, l3, c3', ws, rfl, hs, z0.1, z1.1, (Prod.mk.inj hdd).1, hlg⟩

set_option maxRecDepth 100000 in
theorem open_manifest (hv : Value.okWide Try.prog W .any base 44 v) (h : DataW.Trod enc Try.prog W 0 (fun _ => true) true 44 v d p) :
    ∃ (t lg : Int) (a : Option Addr) (len cap : Nat) (ps : List Pr), v = .agg #[.int .i64 t, .int .i64 lg, .slice a len cap] ∧ Seq 3 Pr.cells W a len cap ps ∧ ∃ d0 d1 d2, d = .agg [d0, d1, d2] ∧ Long d2 len := by
  have hv2 : ∃ cs, v = .agg cs ∧ cs.size = Try.prog.cellsOf 44 := by
    unfold Value.okWide at hv
    rw [Try.underlying44] at hv
    obtain ⟨cs, h1, h2, _⟩ := hv
    exact ⟨cs, h1, h2⟩
  obtain ⟨cs, rfl, hsz⟩ := hv2
  obtain ⟨fuel, hf⟩ := h
  obtain ⟨zs, m, _, hdd, hl, hzl, hgs⟩ := DataW.trod_struct Try.underlying44 hf
  have hzl2 : zs.length = 3 := hzl
  rw [cellsManifest] at hsz
  obtain ⟨l, rfl⟩ : ∃ l : List Value, cs = l.toArray := ⟨cs.toList, by simp⟩
  have hl2 : l.length = 3 := by simpa using hsz
  match l, hl2, zs, hzl2 with
  | [c0, cg, c1], _, [z0, zg, z1], _ =>
    have g0 := (field_at hgs 0 2 0 _ cellsI64 rfl)
    have gg := (field_at hgs 1 3 1 _ cellsIn rfl)
    have g1 := (field_at hgs 2 42 2 _ cellsPs rfl)
    simp only [Value.cells, List.drop, List.take] at g0 gg g1
    obtain ⟨k0, q0, _, _⟩ := DataW.trod_int Try.underlying2 g0
    obtain ⟨kg, qg, _, _⟩ := DataW.trod_int Try.underlying3 gg
    obtain ⟨a3, l3, c3', q3⟩ : ∃ a l c, c1 = .slice a l c := by
      rcases DataW.trod_slice Try.underlying42 g1 with ⟨e, _⟩ | ⟨a, l, c, _, _, _, _, e, _⟩
      · exact ⟨none, 0, 0, by simpa using e⟩
      · exact ⟨some a, l, c, by simpa using e⟩
    subst q3
    simp only [List.cons.injEq, and_true] at q0 qg
    subst q0 qg
    obtain ⟨ws, _, hs, hlg⟩ := open_seq (enc := enc) (W := W) Pr.cells (fun _ => True) Try.underlying42 cellsPair (by decide) (fun _ _ => rfl) (fun m cs y hl hy => pair_of hl hy) (⟨_, g1⟩ : DataW.Trod enc Try.prog W 0 (fun _ => true) true 42 (.slice a3 l3 c3') _ _)
    exact ⟨k0, kg, a3, l3, c3', ws, rfl, hs, z0.1, zg.1, z1.1, (Prod.mk.inj hdd).1, hlg⟩
end
end Go.Proofs.Yteihabdldiopeaa
