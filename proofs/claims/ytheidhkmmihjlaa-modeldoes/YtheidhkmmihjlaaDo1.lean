/-
  A slice that came in, whatever its elements are: each is some cells, told by a function. No program in sight.
-/
import Derived.WalkKit
import Derived.Below
import Derived.ProofKit
import Derived.ChangeArms
import Derived.ChangeSlices
import Derived.SizedLaws
set_option linter.unusedVariables false
set_option linter.unusedSimpArgs false
namespace Go.Proofs.Ytheidhkmmihjlaa
open Go.RowKit Go.ChangeShapes Go.WideShapes Go.ChangeAt

theorem addr_plus (g off i : Nat) : (⟨g, off, none⟩ : Addr).add i = ⟨g, off + i, none⟩ := by unfold Addr.add; split <;> simp_all

/-- A slice that is read: xs are its elements, each of k cells, which f tells. -/
def Seq {α : Type} (k : Nat) (f : α → List Value) (w : World) (ao : Option Addr) (len cap : Nat) (xs : List α) : Prop :=
  xs.length = len ∧ len ≤ cap ∧ cap ≤ maxLen ∧
  (0 < len → ∃ b off, ao = some ⟨b, off, none⟩ ∧ b < w.heap.size ∧ ∀ (i : Nat) (x : α), xs[i]? = some x → ∀ j u, (f x)[j]? = some u → w.cell? ⟨b, off + i * k + j, none⟩ = some u)

section
variable {α : Type} {k : Nat} {f : α → List Value} {w w' : World} {ao : Option Addr} {len cap : Nat} {xs : List α}
theorem Seq.below {n : Nat} (h : Seq k f w ao len cap xs) (hb : Below n w w') (hn : ∀ b off, ao = some ⟨b, off, none⟩ → b < w.heap.size → b < n) : Seq k f w' ao len cap xs := by
  obtain ⟨h1, h2, h3, h4⟩ := h
  refine ⟨h1, h2, h3, fun hl => ?_⟩
  obtain ⟨b, off, e, hlt, hc⟩ := h4 hl
  exact ⟨b, off, e, Nat.lt_of_lt_of_le hlt hb.size, fun i x hi j u hu => (hb.cell (p := ⟨b, off + i * k + j, none⟩) (hn b off e hlt)).trans (hc i x hi j u hu)⟩
end

theorem some_at {α : Type} {l : List α} {i n : Nat} (h : l.length = n) (hi : i < n) : ∃ y, l[i]? = some y := ⟨l[i]'(by omega), List.getElem?_eq_getElem (by omega)⟩

theorem field_at {H : Type} {enc : TypeId × Value → H} {P : Program} {W : World} {m : Nat} {fs : Array Field} {cs : List Value} {xs : List (DataW H × List MemPlace)}
    (hfs : ∀ (i : Nat) (f : Field), fs[i]? = some f → DataW.trod enc P W 0 (fun _ => true) true m f.type ((cs.drop f.offset).take (P.cellsOf f.type)) = xs[i]?) (i : Nat) (ty : TypeId) (off n : Nat) (hn : P.cellsOf ty = n)
    (h : fs[i]?.map (fun f => (f.type, f.offset)) = some (ty, off)) : DataW.trod enc P W 0 (fun _ => true) true m ty ((cs.drop off).take n) = xs[i]? := by
  cases hf : fs[i]? with
  | none => rw [hf] at h; cases h
  | some f =>
    rw [hf] at h
    simp only [Option.map_some, Option.some.injEq, Prod.mk.injEq] at h
    obtain ⟨rfl, rfl⟩ := h
    rw [← hn]
    exact hfs i f hf

/-- The datum of a slice with at least so many places. -/
def Long {H : Type} (d : DataW H) (len : Nat) : Prop := (d = .nil ∧ len = 0) ∨ ∃ es sp, d = .slice es sp ∧ len ≤ es.length + sp.length
/-- How such a slice is opened: one element's reading is enough. -/
theorem open_seq {α H : Type} {enc : TypeId × Value → H} {P : Program} {W : World} {t e : TypeId} {a : Option Addr} {len cap k : Nat} {d : DataW H} {p : List MemPlace} (f : α → List Value) (ok : α → Prop)
    (ht : P.underlying t = some (.slice e)) (hk : P.cellsOf e = k) (hk0 : 0 < k) (hf : ∀ x, ok x → (f x).length = k)
    (one : ∀ (m : Nat) (cs : List Value) (y : DataW H × List MemPlace), cs.length = k → DataW.trod enc P W 0 (fun _ => true) true m e cs = some y → ∃ x, ok x ∧ cs = f x)
    (h : DataW.Trod enc P W 0 (fun _ => true) true t (.slice a len cap) d p) : ∃ xs : List α, (∀ x ∈ xs, ok x) ∧ Seq k f W a len cap xs ∧ Long d len := by
  obtain ⟨fuel, hf2⟩ := h
  rcases DataW.trod_slice ht hf2 with ⟨hcs, hdn⟩ | ⟨x, l, c, elems, rest, n, _, hcs, hds, _, hl, hm, hlen, hel, _, _⟩
  · simp [Value.cells] at hcs
    obtain ⟨rfl, rfl, rfl⟩ := hcs
    exact ⟨[], (fun o ho => by cases ho), ⟨rfl, Nat.le_refl _, Nat.zero_le _, fun h => absurd h (by omega)⟩, .inl ⟨(Prod.mk.inj hdn).1, rfl⟩⟩
  · simp [Value.cells] at hcs
    obtain ⟨rfl, rfl, rfl⟩ := hcs
    have each : ∀ i, i < len → ∃ o : α, ok o ∧ W.cells? 0 (x.add (i * k)) k = some (f o) := fun i hi => by
      have h1 := hel i hi
      obtain ⟨y, hy⟩ := some_at hlen hi
      rw [hy, hk, Option.bind_eq_some_iff] at h1
      obtain ⟨cs, hc, ht2⟩ := h1
      obtain ⟨o, ho, rfl⟩ := one _ _ _ (World.cells?_some hc).2.1 ht2
      exact ⟨o, ho, hc⟩
    have hall : ∀ n, n ≤ len → ∃ os : List α, os.length = n ∧ (∀ o ∈ os, ok o) ∧ ∀ (i : Nat) (o : α), os[i]? = some o → W.cells? 0 (x.add (i * k)) k = some (f o) := fun n => by
      induction n with
      | zero => exact fun _ => ⟨[], rfl, (fun o ho => by cases ho), (fun i o hi => by cases hi)⟩
      | succ n ih =>
        intro hn
        obtain ⟨os, e1, e2, e3⟩ := ih (by omega)
        obtain ⟨o, ho, hc⟩ := each n (by omega)
        refine ⟨os ++ [o], by simp [e1], fun o' ho' => ?_, fun i o' hi => ?_⟩
        · rcases List.mem_append.1 ho' with h | h
          · exact e2 o' h
          · simp at h; subst h; exact ho
        · by_cases e : i < os.length
          · rw [List.getElem?_append_left e] at hi
            exact e3 i o' hi
          · rw [List.getElem?_append_right (by omega)] at hi
            have e4 : i - os.length = 0 := by
              rcases Nat.eq_zero_or_pos (i - os.length) with h | h
              · exact h
              · rw [List.getElem?_eq_none (by simp; omega)] at hi; cases hi
            rw [e4] at hi
            cases hi
            obtain rfl : i = n := by omega
            exact hc
    obtain ⟨os, e1, e2, e3⟩ := hall len (Nat.le_refl _)
    refine ⟨os, e2, ⟨e1, hl, hm, fun h0 => ?_⟩, .inr ⟨_, _, (Prod.mk.inj hds).1, by simp; omega⟩⟩
    obtain ⟨o0, ho0⟩ := some_at e1 h0
    have hc0 := (World.cells?_some (e3 0 o0 ho0)).2.2 0 hk0
    obtain ⟨b, off, sp⟩ := x
    have hok0 := hf o0 (e2 o0 (List.mem_of_getElem? ho0))
    obtain ⟨u0, hu0⟩ := some_at hok0 hk0
    have hc1 : W.cell? (((⟨b, off, sp⟩ : Addr).add (0 * k)).add 0) = some u0 := hc0.trans hu0
    have hsp : sp = none := by simpa [Addr.add] using World.cell?_spot hc1
    subst hsp
    refine ⟨b, off, rfl, ?_, fun i o hi j u hu => ?_⟩
    · rw [addr_plus, addr_plus] at hc1
      exact World.block_lt_of_cell? W _ hc1
    · have hj : j < k := by
        have h1 := (List.getElem?_eq_some_iff.1 hu).1
        have h2 := hf o (e2 o (List.mem_of_getElem? hi))
        omega
      have := (World.cells?_some (e3 i o hi)).2.2 j hj
      rw [addr_plus, addr_plus] at this
      rw [this]
      exact hu

/-! ### Numbers -/
end Go.Proofs.Ytheidhkmmihjlaa
