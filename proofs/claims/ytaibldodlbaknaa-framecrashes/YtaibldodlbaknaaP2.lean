/-
  The walk of the law FramePokes: what its calls do.
-/
import Derived.Test.YtaibldodlbaknaaP1
import Derived.Test.YtaibldodlbaknaaH3
set_option linter.unusedVariables false
set_option linter.unusedSimpArgs false
namespace Go.Proofs.Ytaibldodlbaknaa
open Go.RowKit

/-- The bodies' lengths, each up to a bound, together. -/
def su (ps : List (List Int)) : Nat → Nat
  | 0 => 0
  | k + 1 => su ps k + min (ps.getD k []).length 100000
theorem su_le (ps : List (List Int)) : ∀ k, su ps k ≤ 100000 * k
  | 0 => by simp [su]
  | k + 1 => by have := su_le ps k; simp only [su]; omega
theorem su_at (ps : List (List Int)) : ∀ k j, j < k → min (ps.getD j []).length 100000 ≤ su ps k
  | 0, j, h => by omega
  | k + 1, j, h => by
    simp only [su]
    by_cases hj : j < k
    · have := su_at ps k j hj
      omega
    · obtain rfl : j = k := by omega
      omega

/-- put, where no body is too long. -/
theorem lput_ok (ao : Option Addr) (len cap : Nat) (ps : List (List Int)) (F : Nat) (most m : Nat) (w : World) (h : Pl w ao len cap ps) (hF0 : F < 18446744073709551616) (hmo : most ≤ 20) (hm : m = min len most) (hs : ∀ i, i < m → (ps.getD i []).length ≤ 65536) :
    Calls Try.prog 19 #[.int .u64 (F : Int), .slice ao len cap, .int .i64 (most : Int)] w fun e w' =>
      (∃ av lv cv ae ce, e = .returned (.tuple #[.slice av lv cv, .slice ae m ce, .bool true]) ∧ Own w' w.heap.size (.slice av lv cv) (fras F (ps.take m)) ∧ En w' w.heap.size (.slice ae m ce) ps m ∧ Okb (ps.take m) ∧ lv = eo (ps.take m)) ∧ Below w.heap.size w w' := by
  refine (lput_any ao len cap ps F most w h hF0 hmo).mono ?_
  rintro e w' ⟨hr, hb⟩
  rw [← hm] at hr
  refine ⟨?_, hb⟩
  rcases hr with ⟨hok, v, ve, rfl, ho, he⟩ | ⟨⟨i, hi, hl⟩, _⟩
  · obtain ⟨av, lv, cv, rfl, hsl, _⟩ := ho.sl' (fras_byt F _ hok)
    obtain ⟨ae, ce, rfl⟩ := he.len
    exact ⟨av, lv, cv, ae, ce, rfl, ho, he, hok, by rw [← hsl.1, fras_len]⟩
  · have := hs i hi
    omega

theorem En.cell {w : World} {base m : Nat} {ae : Option Addr} {ce : Nat} {ps : List (List Int)} (h : En w base (.slice ae m ce) ps m) (i : Nat) (hi : i < m) : ∃ g, ae = some ⟨g, 0, none⟩ ∧ w.cell? ⟨g, i, none⟩ = some (.int .i64 ((eo (ps.take (i + 1)) : Nat) : Int)) := by
  rcases h.2 with ⟨e, h0⟩ | ⟨g, cap2, cur, e, rest⟩
  · omega
  · simp only [Value.slice.injEq, true_and] at e
    obtain ⟨rfl, rfl⟩ := e
    refine ⟨g, rfl, ?_⟩
    have := World.ownsRow.cellAt h i (by omega)
    rw [this]
    simp [enC, hi]

/-- An own row with an element, and a byte of it turned. -/
theorem Own.form {w : World} {base : Nat} {v : Value} {xs : List Int} (h : Own w base v xs) (k : Nat) (hk : k < xs.length) (z : Int) :
    ∃ g c, v = .slice (some ⟨g, 0, none⟩) xs.length c ∧ base ≤ g ∧ g < w.heap.size ∧ w.cell? ⟨g, k, none⟩ = some (.int .u8 (xs.getD k 0)) ∧ w.frozen? ⟨g, k, none⟩ = false ∧
      Own (w.setCell ⟨g, k, none⟩ (.int .u8 z)) base (.slice (some ⟨g, 0, none⟩) xs.length c) (xs.set k z) := by
  have hv : ∃ g c, v = .slice (some ⟨g, 0, none⟩) xs.length c := by
    rcases h.2 with ⟨_, h0⟩ | ⟨g, cap, cur, rfl, _⟩
    · omega
    · exact ⟨g, cap, rfl⟩
  obtain ⟨g, c, rfl⟩ := hv
  have hlt := World.ownsRow.lt h g rfl
  refine ⟨g, c, rfl, hlt.1, hlt.2, ?_, World.ownsRow.frozenAt h k, ?_⟩
  · rw [World.ownsRow.cellAt h k (by omega)]
    simp [bc, List.getD, List.getElem?_eq_getElem hk]
  · have := (World.ownsRow.stored h k (.int .u8 z)).1
    refine Own.of_bc (n := xs.length) ?_ (by simp)
    rw [show bc (xs.set k z) = (bc xs).set k (.int .u8 z) from by simp [bc, List.map_set]]
    exact this
theorem En.other {w : World} {base base' m g c l i : Nat} {ve : Value} {ps : List (List Int)} {xs : List Int} {u : Value} (h : En w base ve ps m) (ho : Own w base' (.slice (some ⟨g, 0, none⟩) l c) xs) : En (w.setCell ⟨g, i, none⟩ u) base ve ps m := by
  have hne := own_ne h ho (by decide)
  refine World.ownsRow.kept h (row := some g) ⟨rfl, rfl, rfl, by simp [World.setCell], fun k hk hne => Below.heap_setCell _ _ _ _ (by simpa using hne)⟩ ?_
  simpa [Value.ownBlock] using hne

theorem xor8 (x y : Int) (hx0 : 0 ≤ x) (hx1 : x ≤ 255) (hy0 : 0 ≤ y) (hy1 : y ≤ 255) (hy : y ≠ 0) :
    ∃ z : Int, bits BinOp.xor IntKind.u8 x y = z ∧ 0 ≤ z ∧ z ≤ 255 ∧ x ≠ z := by
  refine ⟨_, u8_xor x y hx0 (by omega) hy0 (by omega), by omega, ?_, ?_⟩
  · have : x.toNat ^^^ y.toNat < 2 ^ 8 := Nat.xor_lt_two_pow (by omega) (by omega)
    omega
  · intro e
    have e2 : x.toNat = x.toNat ^^^ y.toNat := by omega
    have e3 : x.toNat ^^^ 0 = x.toNat ^^^ y.toNat := by rw [Nat.xor_zero]; exact e2
    have := xor_cancel' e3
    omega

/-- All of frames one byte of which is another one. -/
theorem all_poked {bs : List (List Int)} {first i at_ : Nat} {z : Int} (ho : Okb bs) (hf : first + 100 < 18446744073709551616) (hi : i < bs.length) (hi2 : bs.length ≤ 20) (h1 : eo (bs.take i) ≤ at_) (h2 : at_ < eo (bs.take (i + 1))) (hz : 0 ≤ z ∧ z ≤ 255) (hne : (fras first bs).getD at_ 0 ≠ z)
    (ao : Option Addr) (len cap : Nat) (w : World) (h : Sl w ao len cap ((fras first bs).set at_ z)) :
    Calls Try.prog 17 #[.slice ao len cap, .int .u64 (first : Int)] w fun e w' =>
      (e = .returned (.tuple #[.slice none 0 0, .int .i64 0, .int .i64 41]) ∨ (i + 1 = bs.length ∧ ∃ av cv, e = .returned (.tuple #[.slice av i cv, .int .i64 ((eo (bs.take i) : Nat) : Int), .int .i64 0]) ∧ Bs w' w.heap.size (.slice av i cv) (bs.take i))) ∧ Below w.heap.size w w' := by
  obtain ⟨p1, p2, p3, p4⟩ := poke_all ho hf hi hi2 h1 h2 hz hne
  have hlen : len = eo bs := by
    have := h.1
    rw [List.length_set, fras_len] at this
    exact this.symm
  have hbd := eo_bound bs ho
  refine (all_any ao len cap _ (first : Int) w h (by omega) (by omega) (by omega)).mono ?_
  rintro e w' ⟨⟨cs, a, f, q1, q2, q3⟩, hb⟩
  rw [Int.toNat_natCast] at q1
  obtain ⟨rfl, rfl, rfl⟩ := goes_det _ _ _ _ _ _ _ _ _ q1 p3 q2 (fun b => by rw [p2]; simp)
  refine ⟨?_, hb⟩
  rcases q3 with ⟨_, e1⟩ | ⟨hnl, v, e1, hB⟩
  · exact .inl e1
  · refine .inr ⟨?_, ?_⟩
    · rcases Nat.lt_or_ge (i + 1) bs.length with hlt | hge
      · exact absurd (p4 hlt) hnl
      · omega
    · obtain ⟨av, cv, rfl⟩ := hB.len
      have hl : (bs.take i).length = i := by simp; omega
      rw [hl] at e1 hB
      exact ⟨av, cv, e1, hB⟩
theorem take_poked {bs : List (List Int)} {first i at_ : Nat} {z : Int} (ho : Okb bs) (hf : first + 100 < 18446744073709551616) (hi : i < bs.length) (hi2 : bs.length ≤ 20) (h1 : eo (bs.take i) ≤ at_) (h2 : at_ < eo (bs.take (i + 1))) (hz : 0 ≤ z ∧ z ≤ 255) (hne : (fras first bs).getD at_ 0 ≠ z)
    (ao : Option Addr) (len cap : Nat) (w : World) (h : Sl w ao len cap ((fras first bs).set at_ z)) :
    Calls Try.prog 15 #[.slice ao len cap, .int .i64 ((eo (bs.take i) : Nat) : Int)] w fun e w' => e = .returned (.tuple #[.int .u64 0, .slice none 0 0, .int .i64 0, .bool false]) ∧ Below w.heap.size w w' := by
  obtain ⟨p1, p2, p3, p4⟩ := poke_all ho hf hi hi2 h1 h2 hz hne
  have hlen : len = eo bs := by
    have := h.1
    rw [List.length_set, fras_len] at this
    exact this.symm
  have hbd := eo_bound bs ho
  refine (take_any ao len cap _ _ w h (by omega)).mono ?_
  rintro e w' ⟨hr, hb⟩
  refine ⟨?_, hb⟩
  rcases hr with ⟨s, b, v, g, ht, _⟩ | ⟨_, e1⟩
  · rw [p2] at ht
    cases ht
  · exact e1
end Go.Proofs.Ytaibldodlbaknaa
