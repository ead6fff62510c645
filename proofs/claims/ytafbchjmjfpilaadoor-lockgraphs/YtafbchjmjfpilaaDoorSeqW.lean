/-
  SeqW: A slice that came in, whatever its elements are, opened with the bounds of all that it reaches. No program in sight.
-/
import Derived.Test.YtafbchjmjfpilaaDoorSeq
set_option linter.unusedVariables false
set_option linter.unusedSimpArgs false
namespace Go.Proofs.YtafbchjmjfpilaaDoor
open Go.RowKit Go.ChangeShapes Go.WideShapes Go.ChangeAt

theorem weights_all {H : Type} {P : Program} {e : TypeId} : ∀ {l : List (DataW H)} {d : DataW H}, d ∈ l → ∀ n ∈ d.weights P e, n ∈ DataW.weightsAll P e l
  | x :: l, d, h, n, hn => by
    rcases List.mem_cons.1 h with rfl | h
    · simp only [DataW.weightsAll]
      exact List.mem_append_left _ hn
    · simp only [DataW.weightsAll]
      exact List.mem_append_right _ (weights_all h n hn)

/-- As open_seq; an element's reading may use the bounds. -/
theorem open_seqW {α H : Type} {enc : TypeId × Value → H} {P : Program} {W : World} {t e : TypeId} {a : Option Addr} {len cap k : Nat} {d : DataW H} {p : List MemPlace} (f : α → List Value) (ok : α → Prop)
    (ht : P.underlying t = some (.slice e)) (hk : P.cellsOf e = k) (hk0 : 0 < k) (hf : ∀ x, ok x → (f x).length = k)
    (one : ∀ (m : Nat) (cs : List Value) (y : DataW H × List MemPlace), cs.length = k → DataW.trod enc P W 0 (fun _ => true) true m e cs = some y → (∀ n ∈ y.1.weights P e, n ≤ reachBytes) → ∃ x, ok x ∧ cs = f x)
    (h : DataW.Trod enc P W 0 (fun _ => true) true t (.slice a len cap) d p) (hw : ∀ n ∈ d.weights P t, n ≤ reachBytes) : ∃ xs : List α, (∀ x ∈ xs, ok x) ∧ Seq k f W a len cap xs ∧ Long d len := by
  obtain ⟨fuel, hf2⟩ := h
  rcases DataW.trod_slice ht hf2 with ⟨hcs, hdn⟩ | ⟨x, l, c, elems, rest, n, _, hcs, hds, _, hl, hm, hlen, hel, _, _⟩
  · simp [Value.cells] at hcs
    obtain ⟨rfl, rfl, rfl⟩ := hcs
    exact ⟨[], (fun o ho => by cases ho), ⟨rfl, Nat.le_refl _, Nat.zero_le _, fun h => absurd h (by omega)⟩, .inl ⟨(Prod.mk.inj hdn).1, rfl⟩⟩
  · simp [Value.cells] at hcs
    obtain ⟨rfl, rfl, rfl⟩ := hcs
    have hd1 : d = .slice (elems.map (·.1)) (rest.map (·.1)) := (Prod.mk.inj hds).1
    have each : ∀ i, i < len → ∃ o : α, ok o ∧ W.cells? 0 (x.add (i * k)) k = some (f o) := fun i hi => by
      have h1 := hel i hi
      obtain ⟨y, hy⟩ := some_at hlen hi
      rw [hy, hk, Option.bind_eq_some_iff] at h1
      obtain ⟨cs, hc, ht2⟩ := h1
      obtain ⟨o, ho, rfl⟩ := one _ _ _ (World.cells?_some hc).2.1 ht2 (fun n hn => hw n (by
        rw [hd1]
        simp only [DataW.weights, ht]
        exact List.mem_cons_of_mem _ (List.mem_append_left _ (weights_all (List.mem_map.2 ⟨y, List.mem_of_getElem? hy, rfl⟩) n hn))))
      exact ⟨o, ho, hc⟩
    have hall : ∀ n, n ≤ len → ∃ os : List α, os.length = n ∧ (∀ o ∈ os, ok o) ∧ ∀ (i : Nat) (o : α), os[i]? = some o → W.cells? 0 (x.add (i * k)) k = some (f o) := fun n => by
      induction n with
      | zero => exact fun _ => ⟨[], rfl, (fun o ho => by cases ho), (fun i o hi => by cases hi)⟩
      | succ n ih =>
        intro hn
        obtain ⟨os, e1, e2, e3⟩ := ih (by omega)
        obtain ⟨o, ho, hc⟩ := each n (by omega)
        refine ⟨os ++ [o], by simp [e1], fun o' ho' => ?_, fun i o' hi => ?_⟩
        · rcases List.mem_append.1 ho' with h | h
          · exact e2 o' h
          · simp at h; subst h; exact ho
        · by_cases e : i < os.length
          · rw [List.getElem?_append_left e] at hi
            exact e3 i o' hi
          · rw [List.getElem?_append_right (by omega)] at hi
            have e4 : i - os.length = 0 := by
              rcases Nat.eq_zero_or_pos (i - os.length) with h | h
              · exact h
              · rw [List.getElem?_eq_none (by simp; omega)] at hi; cases hi
            rw [e4] at hi
            cases hi
            obtain rfl : i = n := by omega
            exact hc
    obtain ⟨os, e1, e2, e3⟩ := hall len (Nat.le_refl _)
    refine ⟨os, e2, ⟨e1, hl, hm, fun h0 => ?_⟩, .inr ⟨_, _, hd1, by simp; omega⟩⟩
    obtain ⟨o0, ho0⟩ := some_at e1 h0
    have hc0 := (World.cells?_some (e3 0 o0 ho0)).2.2 0 hk0
    obtain ⟨b, off, sp⟩ := x
    have hok0 := hf o0 (e2 o0 (List.mem_of_getElem? ho0))
    obtain ⟨u0, hu0⟩ := some_at hok0 hk0
    have hc1 : W.cell? (((⟨b, off, sp⟩ : Addr).add (0 * k)).add 0) = some u0 := hc0.trans hu0
    have hsp : sp = none := by simpa [Addr.add] using World.cell?_spot hc1
    subst hsp
    refine ⟨b, off, rfl, ?_, fun i o hi j u hu => ?_⟩
    · rw [addr_plus, addr_plus] at hc1
      exact World.block_lt_of_cell? W _ hc1
    · have hj : j < k := by
        have h1 := (List.getElem?_eq_some_iff.1 hu).1
        have h2 := hf o (e2 o (List.mem_of_getElem? hi))
        omega
      have := (World.cells?_some (e3 i o hi)).2.2 j hj
      rw [addr_plus, addr_plus] at this
      rw [this]
      exact hu
end Go.Proofs.YtafbchjmjfpilaaDoor
