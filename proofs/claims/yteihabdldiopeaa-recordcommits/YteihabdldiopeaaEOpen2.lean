/-
  How commits and manifests that came in are opened, and what the form's own bounds say of their lists.
-/
import Derived.Test.YteihabdldiopeaaEOpen
set_option linter.unusedVariables false
set_option linter.unusedSimpArgs false
namespace Go.Proofs.Yteihabdldiopeaa
open Go.RowKit Go.ChangeShapes Go.WideShapes Go.ChangeAt

theorem bytesW : Try.prog.bytesOf 28 = 40 := by kernel_rfl
theorem bytesP : Try.prog.bytesOf 53 = 24 := by kernel_rfl
set_option maxRecDepth 100000 in
theorem sized_writes {H : Type} {ts : List TypeId} {ds : List (DataW H)} {d0 d1 : DataW H} {len j : Nat} (h : (DataW.weightsEach Try.prog ts ds).all (· ≤ reachBytes) = true) (ht : ts[j]? = some 26) (hd : ds[j]? = some (.agg [d0, d1])) (hp : Long d1 len) : len * 40 ≤ 140737488351232 := by
  rcases hp with ⟨_, rfl⟩ | ⟨es, sp, rfl, hl⟩
  · omega
  · have := of_decide_eq_true (List.all_eq_true.1 h _ (DataW.weights_mem_each ht hd ((es.length + sp.length) * Try.prog.bytesOf 28) (by
      simp only [DataW.weights, Try.underlying26]
      simp [DataW.weightsEach, DataW.weights, Try.underlying24])))
    rw [bytesW] at this
    unfold reachBytes at this
    omega
set_option maxRecDepth 100000 in
theorem sized_pairs {H : Type} {ts : List TypeId} {ds : List (DataW H)} {d0 d1 d2 : DataW H} {len j : Nat} (h : (DataW.weightsEach Try.prog ts ds).all (· ≤ reachBytes) = true) (ht : ts[j]? = some 44) (hd : ds[j]? = some (.agg [d0, d1, d2])) (hp : Long d2 len) : len * 24 ≤ 140737488351232 := by
  rcases hp with ⟨_, rfl⟩ | ⟨es, sp, rfl, hl⟩
  · omega
  · have := of_decide_eq_true (List.all_eq_true.1 h _ (DataW.weights_mem_each ht hd ((es.length + sp.length) * Try.prog.bytesOf 53) (by
      simp only [DataW.weights, Try.underlying44]
      simp [DataW.weightsEach, DataW.weights, Try.underlying42])))
    rw [bytesP] at this
    unfold reachBytes at this
    omega

section
variable {H : Type} {enc : TypeId × Value → H} {W : World} {base : Nat} {v : Value} {d : DataW H} {p : List MemPlace}

set_option maxRecDepth 100000 in
theorem open_commit2 (hv : Value.okWide Try.prog W .any base 26 v) (h : DataW.Trod enc Try.prog W 0 (fun _ => true) true 26 v d p) :
    ∃ (t : Int) (a : Option Addr) (len cap : Nat) (ws : List Wr), v = .agg #[.int .i64 t, .slice a len cap] ∧ Seq 3 Wr.cells W a len cap ws ∧ (a = none → cap = 0) ∧ ∃ d0 d1, d = .agg [d0, d1] ∧ Long d1 len := by
  have hv2 : ∃ cs, v = .agg cs ∧ cs.size = Try.prog.cellsOf 26 := by
    unfold Value.okWide at hv
    rw [Try.underlying26] at hv
    obtain ⟨cs, h1, h2, _⟩ := hv
    exact ⟨cs, h1, h2⟩
  obtain ⟨cs, rfl, hsz⟩ := hv2
  obtain ⟨fuel, hf⟩ := h
  obtain ⟨zs, m, _, hdd, hl, hzl, hgs⟩ := DataW.trod_struct Try.underlying26 hf
  have hzl2 : zs.length = 2 := hzl
  rw [cellsCommit] at hsz
  obtain ⟨l, rfl⟩ : ∃ l : List Value, cs = l.toArray := ⟨cs.toList, by simp⟩
  have hl2 : l.length = 2 := by simpa using hsz
  match l, hl2, zs, hzl2 with
  | [c0, c1], _, [z0, z1], _ =>
    have g0 := (field_at hgs 0 2 0 _ cellsI64 rfl)
    have g1 := (field_at hgs 1 24 1 _ cellsWs rfl)
    simp only [Value.cells, List.drop, List.take] at g0 g1
    obtain ⟨k0, q0, _, _⟩ := DataW.trod_int Try.underlying2 g0
    obtain ⟨a3, l3, c3', q3, hn⟩ : ∃ a l c, c1 = .slice a l c ∧ (a = none → c = 0) := by
      rcases DataW.trod_slice Try.underlying24 g1 with ⟨e, _⟩ | ⟨a, l, c, _, _, _, _, e, _⟩
      · exact ⟨none, 0, 0, by simpa using e, fun _ => rfl⟩
      · exact ⟨some a, l, c, by simpa using e, fun e => by cases e⟩
    subst q3
    simp only [List.cons.injEq, and_true] at q0
    subst q0
    obtain ⟨ws, _, hs, hlg⟩ := open_seq (enc := enc) (W := W) Wr.cells (fun _ => True) Try.underlying24 cellsWrite (by decide) (fun _ _ => rfl) (fun m cs y hl hy => write_of hl hy) (⟨_, g1⟩ : DataW.Trod enc Try.prog W 0 (fun _ => true) true 24 (.slice a3 l3 c3') _ _)
    exact ⟨k0, a3, l3, c3', ws, rfl, hs, hn, z0.1, z1.1, (Prod.mk.inj hdd).1, hlg⟩

set_option maxRecDepth 100000 in
theorem open_manifest2 (hv : Value.okWide Try.prog W .any base 44 v) (h : DataW.Trod enc Try.prog W 0 (fun _ => true) true 44 v d p) :
    ∃ (t lg : Int) (a : Option Addr) (len cap : Nat) (ps : List Pr), v = .agg #[.int .i64 t, .int .i64 lg, .slice a len cap] ∧ Seq 3 Pr.cells W a len cap ps ∧ (a = none → cap = 0) ∧ ∃ d0 d1 d2, d = .agg [d0, d1, d2] ∧ Long d2 len := by
  have hv2 : ∃ cs, v = .agg cs ∧ cs.size = Try.prog.cellsOf 44 := by
    unfold Value.okWide at hv
    rw [Try.underlying44] at hv
    obtain ⟨cs, h1, h2, _⟩ := hv
    exact ⟨cs, h1, h2⟩
  obtain ⟨cs, rfl, hsz⟩ := hv2
  obtain ⟨fuel, hf⟩ := h
  obtain ⟨zs, m, _, hdd, hl, hzl, hgs⟩ := DataW.trod_struct Try.underlying44 hf
  have hzl2 : zs.length = 3 := hzl
  rw [cellsManifest] at hsz
  obtain ⟨l, rfl⟩ : ∃ l : List Value, cs = l.toArray := ⟨cs.toList, by simp⟩
  have hl2 : l.length = 3 := by simpa using hsz
  match l, hl2, zs, hzl2 with
  | [c0, cg, c1], _, [z0, zg, z1], _ =>
    have g0 := (field_at hgs 0 2 0 _ cellsI64 rfl)
    have gg := (field_at hgs 1 3 1 _ cellsIn rfl)
    have g1 := (field_at hgs 2 42 2 _ cellsPs rfl)
    simp only [Value.cells, List.drop, List.take] at g0 gg g1
    obtain ⟨k0, q0, _, _⟩ := DataW.trod_int Try.underlying2 g0
    obtain ⟨kg, qg, _, _⟩ := DataW.trod_int Try.underlying3 gg
    obtain ⟨a3, l3, c3', q3, hn⟩ : ∃ a l c, c1 = .slice a l c ∧ (a = none → c = 0) := by
      rcases DataW.trod_slice Try.underlying42 g1 with ⟨e, _⟩ | ⟨a, l, c, _, _, _, _, e, _⟩
      · exact ⟨none, 0, 0, by simpa using e, fun _ => rfl⟩
      · exact ⟨some a, l, c, by simpa using e, fun e => by cases e⟩
    subst q3
    simp only [List.cons.injEq, and_true] at q0 qg
    subst q0 qg
    obtain ⟨ws, _, hs, hlg⟩ := open_seq (enc := enc) (W := W) Pr.cells (fun _ => True) Try.underlying42 cellsPair (by decide) (fun _ _ => rfl) (fun m cs y hl hy => pair_of hl hy) (⟨_, g1⟩ : DataW.Trod enc Try.prog W 0 (fun _ => true) true 42 (.slice a3 l3 c3') _ _)
    exact ⟨k0, kg, a3, l3, c3', ws, rfl, hs, hn, z0.1, zg.1, z1.1, (Prod.mk.inj hdd).1, hlg⟩
end
end Go.Proofs.Yteihabdldiopeaa
