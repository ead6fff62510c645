/-
  How a script that came in is opened.
-/
import Derived.Test.YtmggmnbialacbaaDp9
import Derived.Test.YtmggmnbialacbaaDp16
import Derived.ChangeArms
import Derived.ChangeSlices
import Derived.SizedLaws
set_option linter.unusedVariables false
set_option linter.unusedSimpArgs false
namespace Go.Proofs.Ytmggmnbialacbaa
open Go.RowKit Go.ChangeShapes Go.WideShapes Go.ChangeAt

theorem cellsOp : Try.prog.cellsOf 36 = 8 := by kernel_rfl
theorem cellsInt : Try.prog.cellsOf 3 = 1 := by kernel_rfl
theorem cellsStr : Try.prog.cellsOf 9 = 1 := by kernel_rfl
theorem cellsByt : Try.prog.cellsOf 32 = 1 := by kernel_rfl
theorem cellsFate : Try.prog.cellsOf 34 = 3 := by kernel_rfl

theorem some_at {α : Type} {l : List α} {i n : Nat} (h : l.length = n) (hi : i < n) : ∃ y, l[i]? = some y := ⟨l[i]'(by omega), List.getElem?_eq_getElem (by omega)⟩

theorem field_at {H : Type} {enc : TypeId × Value → H} {W : World} {m : Nat} {fs : Array Field} {cs : List Value} {xs : List (DataW H × List MemPlace)}
    (hfs : ∀ (i : Nat) (f : Field), fs[i]? = some f → DataW.trod enc Try.prog W 0 (fun _ => true) true m f.type ((cs.drop f.offset).take (Try.prog.cellsOf f.type)) = xs[i]?) (i : Nat) (ty : TypeId) (off n : Nat) (hn : Try.prog.cellsOf ty = n)
    (h : fs[i]?.map (fun f => (f.type, f.offset)) = some (ty, off)) : DataW.trod enc Try.prog W 0 (fun _ => true) true m ty ((cs.drop off).take n) = xs[i]? := by
  cases hf : fs[i]? with
  | none => rw [hf] at h; cases h
  | some f =>
    rw [hf] at h
    simp only [Option.map_some, Option.some.injEq, Prod.mk.injEq] at h
    obtain ⟨rfl, rfl⟩ := h
    rw [← hn]
    exact hfs i f hf

set_option maxRecDepth 100000 in
theorem op_of {H : Type} {enc : TypeId × Value → H} {W : World} {n : Nat} {cs : List Value} {y : DataW H × List MemPlace} (ht : DataW.trod enc Try.prog W 0 (fun _ => true) true n 36 cs = some y) : ∃ o : OpR, o.ok W ∧ cs = o.cells := by
  obtain ⟨xs, m, _, _, hl, hxl, hfs⟩ := DataW.trod_struct Try.underlying36 ht
  rw [cellsOp] at hl
  have hxl6 : xs.length = 6 := hxl
  match cs, hl with
  | [c0, c1, c2, c3, c4, c5, c6, c7], _ =>
    obtain ⟨y0, e0⟩ := some_at hxl6 (i := 0) (by omega)
    obtain ⟨y1, e1⟩ := some_at hxl6 (i := 1) (by omega)
    obtain ⟨y2, e2⟩ := some_at hxl6 (i := 2) (by omega)
    obtain ⟨y3, e3⟩ := some_at hxl6 (i := 3) (by omega)
    obtain ⟨y4, e4⟩ := some_at hxl6 (i := 4) (by omega)
    obtain ⟨y5, e5⟩ := some_at hxl6 (i := 5) (by omega)
    have h0 := (field_at hfs 0 3 0 _ cellsInt rfl).trans e0
    dsimp only [List.drop, List.take] at h0
    have h1 := (field_at hfs 1 9 1 _ cellsStr rfl).trans e1
    dsimp only [List.drop, List.take] at h1
    have h2 := (field_at hfs 2 9 2 _ cellsStr rfl).trans e2
    dsimp only [List.drop, List.take] at h2
    have h3 := (field_at hfs 3 32 3 _ cellsByt rfl).trans e3
    dsimp only [List.drop, List.take] at h3
    have h4 := (field_at hfs 4 3 4 _ cellsInt rfl).trans e4
    dsimp only [List.drop, List.take] at h4
    have h5 := (field_at hfs 5 34 5 _ cellsFate rfl).trans e5
    dsimp only [List.drop, List.take] at h5
    obtain ⟨k0, q0, _, w0⟩ := DataW.trod_int Try.underlying3 h0
    obtain ⟨s1, q1, _, w1⟩ := DataW.trod_string Try.underlying9 h1
    obtain ⟨s2, q2, _, w2⟩ := DataW.trod_string Try.underlying9 h2
    obtain ⟨k4, q4, _, w4⟩ := DataW.trod_int Try.underlying3 h4
    obtain ⟨zs, m2, _, _, hl2, hzl, hgs⟩ := DataW.trod_struct Try.underlying34 h5
    have hzl3 : zs.length = 3 := hzl
    obtain ⟨z0, f0⟩ := some_at hzl3 (i := 0) (by omega)
    obtain ⟨z1, f1⟩ := some_at hzl3 (i := 1) (by omega)
    obtain ⟨z2, f2⟩ := some_at hzl3 (i := 2) (by omega)
    have g0 := (field_at hgs 0 3 0 _ cellsInt rfl).trans f0
    dsimp only [List.drop, List.take] at g0
    have g1 := (field_at hgs 1 3 1 _ cellsInt rfl).trans f1
    dsimp only [List.drop, List.take] at g1
    have g2 := (field_at hgs 2 3 2 _ cellsInt rfl).trans f2
    dsimp only [List.drop, List.take] at g2
    obtain ⟨k5, q5, _, w5⟩ := DataW.trod_int Try.underlying3 g0
    obtain ⟨k6, q6, _, w6⟩ := DataW.trod_int Try.underlying3 g1
    obtain ⟨k7, q7, _, w7⟩ := DataW.trod_int Try.underlying3 g2
    have b0 := bounds_i64 w0
    obtain ⟨a3, l3, c3', q3⟩ : ∃ a l c, c3 = .slice a l c := by
      rcases DataW.trod_slice Try.underlying32 h3 with ⟨e, _⟩ | ⟨a, l, c, _, _, _, _, e, _⟩
      · exact ⟨none, 0, 0, by simpa using e⟩
      · exact ⟨some a, l, c, by simpa using e⟩
    subst q3
    obtain ⟨bs, hsl, _⟩ := open_bytes (enc := enc) (W := W) Try.underlying32 Try.underlying5 (by kernel_rfl) (⟨_, h3⟩ : DataW.Trod enc Try.prog W 0 (fun _ => true) true 32 (.slice a3 l3 c3') _ _)
    simp only [List.cons.injEq, and_true] at q0 q1 q2 q4 q5 q6 q7
    subst q0 q1 q2 q4 q5 q6 q7
    exact ⟨⟨k0, s1, s2, a3, l3, c3', bs, k4, k5, k6, k7⟩, ⟨b0.1, b0.2, w1, w2, hsl⟩, rfl⟩

end Go.Proofs.Ytmggmnbialacbaa

/-
  How a script that came in is opened, with the bounds of its calls' bytes.
-/
set_option linter.unusedVariables false
set_option linter.unusedSimpArgs false
namespace Go.Proofs.Ytmggmnbialacbaa
open Go.RowKit Go.ChangeShapes Go.WideShapes Go.ChangeAt

theorem weights_all {H : Type} {P : Program} {e : TypeId} : ∀ {l : List (DataW H)} {d : DataW H}, d ∈ l → ∀ n ∈ d.weights P e, n ∈ DataW.weightsAll P e l
  | x :: l, d, h, n, hn => by
    rcases List.mem_cons.1 h with rfl | h
    · simp only [DataW.weightsAll]
      exact List.mem_append_left _ hn
    · simp only [DataW.weightsAll]
      exact List.mem_append_right _ (weights_all h n hn)
theorem bytesU : Try.prog.bytesOf 5 = 1 := by kernel_rfl
set_option maxRecDepth 100000 in
theorem op_wide {H : Type} {enc : TypeId × Value → H} {W : World} {n : Nat} {o : OpR} {y : DataW H × List MemPlace} (ht : DataW.trod enc Try.prog W 0 (fun _ => true) true n 36 o.cells = some y) (hw : ∀ n ∈ y.1.weights Try.prog 36, n ≤ reachBytes) : o.bl ≤ 140737488351232 := by
  obtain ⟨xs, m, _, hdd, hl, hxl, hfs⟩ := DataW.trod_struct Try.underlying36 ht
  have hxl6 : xs.length = 6 := hxl
  obtain ⟨y3, e3⟩ := some_at hxl6 (i := 3) (by omega)
  have h3 := (field_at hfs 3 32 3 _ cellsByt rfl).trans e3
  dsimp only [OpR.cells, List.drop, List.take] at h3
  rcases DataW.trod_slice Try.underlying32 h3 with ⟨e, _⟩ | ⟨a, l, c, elems, rest, _, _, e, hd3, _, _, _, hlen, _⟩
  · simp at e
    omega
  · simp at e
    have hm := hw ((elems.length + rest.length) * Try.prog.bytesOf 5) (by
      rw [hdd]
      simp only [DataW.weights, Try.underlying36]
      refine DataW.weights_mem_each (j := 3) (t := 32) (d := y3.1) rfl (by simp [e3]) _ ?_
      rw [hd3]
      simp [DataW.weights, Try.underlying32])
    rw [bytesU] at hm
    unfold reachBytes at hm
    omega

theorem open_script2 {H : Type} {enc : TypeId × Value → H} {W : World} {a : Option Addr} {len cap : Nat} {d : DataW H} {p : List MemPlace}
    (h : DataW.Trod enc Try.prog W 0 (fun _ => true) true 22 (.slice a len cap) d p) (hw : ∀ n ∈ d.weights Try.prog 22, n ≤ reachBytes) : ∃ os, Sc W a len cap os ∧ ∀ o ∈ os, o.bl ≤ 140737488351232 := by
  obtain ⟨fuel, hf⟩ := h
  rcases DataW.trod_slice Try.underlying22 hf with ⟨hcs, _⟩ | ⟨x, l, c, elems, rest, n, _, hcs, hdd, _, hl, hm, hlen, hel, _, _⟩
  · simp [Value.cells] at hcs
    obtain ⟨rfl, rfl, rfl⟩ := hcs
    exact ⟨[], ⟨rfl, Nat.le_refl _, Nat.zero_le _, (fun o ho => by cases ho), fun h => absurd h (by omega)⟩, (fun o ho => by cases ho)⟩
  · simp [Value.cells] at hcs
    obtain ⟨rfl, rfl, rfl⟩ := hcs
    have hd1 : d = .slice (elems.map (·.1)) (rest.map (·.1)) := (Prod.mk.inj hdd).1
    have each : ∀ i, i < len → ∃ o : OpR, (o.ok W ∧ o.bl ≤ 140737488351232) ∧ W.cells? 0 (x.add (i * 8)) 8 = some o.cells := fun i hi => by
      have h1 := hel i hi
      obtain ⟨y, hy⟩ := some_at hlen hi
      rw [hy, cellsOp, Option.bind_eq_some_iff] at h1
      obtain ⟨cs, hc, ht⟩ := h1
      obtain ⟨o, ho, rfl⟩ := op_of ht
      refine ⟨o, ⟨ho, op_wide ht fun n hn => hw n ?_⟩, hc⟩
      rw [hd1]
      simp only [DataW.weights, Try.underlying22]
      exact List.mem_cons_of_mem _ (List.mem_append_left _ (weights_all (List.mem_map.2 ⟨y, List.mem_of_getElem? hy, rfl⟩) n hn))
    have hall : ∀ k, k ≤ len → ∃ os : List OpR, os.length = k ∧ (∀ o ∈ os, o.ok W ∧ o.bl ≤ 140737488351232) ∧ ∀ (i : Nat) (o : OpR), os[i]? = some o → W.cells? 0 (x.add (i * 8)) 8 = some o.cells := fun k => by
      induction k with
      | zero => exact fun _ => ⟨[], rfl, (fun o ho => by cases ho), (fun i o hi => by cases hi)⟩
      | succ k ih =>
        intro hk
        obtain ⟨os, e1, e2, e3⟩ := ih (by omega)
        obtain ⟨o, ho, hc⟩ := each k (by omega)
        refine ⟨os ++ [o], by simp [e1], fun o' ho' => ?_, fun i o' hi => ?_⟩
        · rcases List.mem_append.1 ho' with h | h
          · exact e2 o' h
          · simp at h; subst h; exact ho
        · by_cases e : i < os.length
          · rw [List.getElem?_append_left e] at hi
            exact e3 i o' hi
          · rw [List.getElem?_append_right (by omega)] at hi
            have e4 : i - os.length = 0 := by
              rcases Nat.eq_zero_or_pos (i - os.length) with h | h
              · exact h
              · rw [List.getElem?_eq_none (by simp; omega)] at hi; cases hi
            rw [e4] at hi
            cases hi
            obtain rfl : i = k := by omega
            exact hc
    obtain ⟨os, e1, e2, e3⟩ := hall len (Nat.le_refl _)
    refine ⟨os, ⟨e1, hl, hm, fun o ho => (e2 o ho).1, fun h0 => ?_⟩, fun o ho => (e2 o ho).2⟩
    obtain ⟨o0, ho0⟩ := some_at e1 h0
    have hc0 := (World.cells?_some (e3 0 o0 ho0)).2.2 0 (by omega)
    obtain ⟨b, off, sp⟩ := x
    have hc1 : W.cell? (((⟨b, off, sp⟩ : Addr).add (0 * 8)).add 0) = some (.int .i64 o0.kind) := hc0
    have hsp : sp = none := by simpa [Addr.add] using World.cell?_spot hc1
    subst hsp
    refine ⟨b, off, rfl, ?_, fun i o hi j u hu => ?_⟩
    · rw [addr_add, addr_add] at hc1
      exact World.block_lt_of_cell? W _ hc1
    · have hj : j < 8 := by
        have := (List.getElem?_eq_some_iff.1 hu).1
        simpa [OpR.cells] using this
      have := (World.cells?_some (e3 i o hi)).2.2 j hj
      rw [addr_add, addr_add] at this
      rw [this]
      exact hu
end Go.Proofs.Ytmggmnbialacbaa
