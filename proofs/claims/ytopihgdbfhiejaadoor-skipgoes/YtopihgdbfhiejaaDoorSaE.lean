/-
  Two keys' arrays, compared.
-/
import Derived.Test.YtopihgdbfhiejaaDoorSaB
import Derived.Laws.StructEq
set_option linter.unusedVariables false
set_option linter.unusedSimpArgs false
namespace Go.Proofs.YtopihgdbfhiejaaDoor
open Go.RowKit

theorem eq_loop {P : Program} (w : World) (p : Nat → Bool) (f : Nat → (Option Bool × Unit) → Sem (ForInStep (Option Bool × Unit))) : ∀ (l : List Nat) (s : Option Bool × Unit), s = (none, ()) → (∀ i ∈ l, ∀ s, (f i s).run P w = .ok (if p i = true then .yield (none, ()) else .done (some false, ())) w) →
    (forIn l s f : Sem (Option Bool × Unit)).run P w = .ok (if l.all p = true then (none, ()) else (some false, ())) w
  | [], s, hs, h => by subst hs; simp
  | x :: xs, s, hs, h => by
    have h1 := h x (by simp) s
    have ih := eq_loop w p f xs (none, ()) rfl (fun i hi => h i (by simp [hi]))
    rw [List.forIn_cons, Sem.run_bind, h1]
    by_cases hp : p x = true
    · rw [if_pos hp]
      simp only [Result.andThen_ok, List.all_cons, hp, Bool.true_and]
      exact ih
    · have hp2 : p x = false := by simpa using hp
      rw [if_neg hp]
      simp [hp2]

theorem kC_get (k : ByteArray) {i : Nat} (hi : i < 17) : (kC k)[i]? = some (.int .u8 (kb k i)) := by
  rcases (show i = 0 ∨ i = 1 ∨ i = 2 ∨ i = 3 ∨ i = 4 ∨ i = 5 ∨ i = 6 ∨ i = 7 ∨ i = 8 ∨ i = 9 ∨ i = 10 ∨ i = 11 ∨ i = 12 ∨ i = 13 ∨ i = 14 ∨ i = 15 ∨ i = 16 by omega) with rfl | rfl | rfl | rfl | rfl | rfl | rfl | rfl | rfl | rfl | rfl | rfl | rfl | rfl | rfl | rfl | rfl <;> rfl
theorem part_key (k : ByteArray) (w : World) {i : Nat} (hi : i < 17) : (part 5 (kC k) i).run Tryd.prog w = .ok (.int .u8 (kb k i)) w := by
  simp [part, isAgg, run_underlying Tryd.underlying5, kC_get k hi]
theorem KL_bytes {a b : ByteArray} (h : ∀ i, i < 17 → kb a i = kb b i) : KL a = KL b := by
  apply List.ext_getElem
  · rw [KL_length, KL_length]
  · intro i h1 h2
    rw [KL_length] at h1
    have := h i h1
    unfold kb at this
    simp only [List.getD, List.getElem?_eq_getElem (show i < (KL a).length by rw [KL_length]; exact h1), List.getElem?_eq_getElem h2, Option.getD_some] at this
    exact UInt8.toNat_inj.1 (by omega)

theorem eq_key (a b : ByteArray) (w : World) : (Op.equalIn 10000 72 (.agg (kC a)) (.agg (kC b))).run Tryd.prog w = .ok (decide (KL a = KL b)) w := by
  obtain ⟨i0, hi, hz0, hz1, hz2⟩ := info_parts Tryd.infoCl
  have hs5 : (sizeOf 5).run Tryd.prog w = .ok 1 w := by simp [sizeOf, typeInfo, hi, hz1]
  rw [show (10000 : Nat) = 9999 + 1 from rfl]
  unfold Op.equalIn
  simp only [Sem.run_bind, run_underlying Tryd.underlying72, Result.andThen, hs5]
  rw [Std.Legacy.Range.forIn_eq_forIn_range']
  rw [eq_loop w (fun i => kb a i == kb b i) _ _ _ rfl]
  · have hall : ((List.range' 0 17).all fun i => kb a i == kb b i) = decide (KL a = KL b) := by
      rw [Bool.eq_iff_iff, decide_eq_true_eq, List.all_eq_true]
      constructor
      · intro h
        exact KL_bytes (fun i hi => by simpa using h i (by simp [List.mem_range'_1]; omega))
      · intro h i _
        unfold kb
        rw [h]
        simp
    rw [show ((List.range' ([:17] : Std.Legacy.Range).start ([:17] : Std.Legacy.Range).size ([:17] : Std.Legacy.Range).step).all fun i => kb a i == kb b i) = decide (KL a = KL b) from hall]
    by_cases h : KL a = KL b
    · simp [h]
    · simp [h]
  · intro i hi' s
    have hi2 : i < 17 := by
      have := List.mem_range'_1.1 hi'
      have : i < 0 + 17 := this.2
      omega
    simp only [Nat.mul_one, Sem.run_bind, part_key _ w hi2, Result.andThen_ok]
    rw [show (9999 : Nat) = 9998 + 1 from rfl, run_equalIn_int (P := Tryd.prog) (w := w) 9998 5 .u8 .u8 _ _ Tryd.underlying5]
    simp only [Result.andThen_ok]
    cases h : (kb a i == kb b i) <;> simp
end Go.Proofs.YtopihgdbfhiejaaDoor
