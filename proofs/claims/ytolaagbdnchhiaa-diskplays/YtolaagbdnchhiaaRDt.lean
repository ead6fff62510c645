/-
  Bytes that are turned one behind the other.
-/
import Derived.Test.YtolaagbdnchhiaaRD15
set_option linter.unusedVariables false
set_option linter.unusedSimpArgs false
namespace Go.Proofs.Ytolaagbdnchhiaa
open Go.RowKit Go.Maps

def tnb (x : List Int) (m : Nat) : List Int := x.take m ++ (x.drop m).map tb
theorem tnb_len (x : List Int) (m : Nat) : (tnb x m).length = x.length := by
  unfold tnb
  rw [List.length_append, List.length_map, ← List.length_append, List.take_append_drop]
theorem tnb_get (x : List Int) (m i : Nat) : (tnb x m)[i]? = (x[i]?).map fun v => if i < m then v else tb v := by
  unfold tnb
  by_cases h : i < m
  · rw [List.getElem?_append]
    split
    · rename_i h2
      rw [List.getElem?_take_of_lt h]
      cases x[i]? <;> simp [h]
    · rename_i h2
      simp at h2
      have hx : x.length ≤ i := by omega
      rw [List.getElem?_map, List.getElem?_drop, List.getElem?_eq_none (by simp; omega), List.getElem?_eq_none hx]
      rfl
  · by_cases hm : m ≤ x.length
    · rw [List.getElem?_append_right (by simp; omega), List.getElem?_map, List.getElem?_drop, List.length_take, Nat.min_eq_left hm, show m + (i - m) = i from by omega]
      cases x[i]? <;> simp [h]
    · rw [List.getElem?_eq_none (by simp; omega), List.getElem?_eq_none (by omega)]
      rfl
theorem tnb_append (x y : List Int) (m : Nat) : tnb (x ++ y) m = tnb x m ++ tnb y (m - x.length) := by
  apply List.ext_getElem?
  intro i
  rw [tnb_get]
  by_cases h : i < x.length
  · rw [List.getElem?_append_left h, List.getElem?_append_left (by rw [tnb_len]; exact h), tnb_get]
  · rw [List.getElem?_append_right (by omega), List.getElem?_append_right (by rw [tnb_len]; omega), tnb_len, tnb_get]
    congr 1
    funext v
    by_cases h2 : i < m
    · rw [if_pos h2, if_pos (by omega)]
    · rw [if_neg h2, if_neg (by omega)]
theorem tnb_all (x : List Int) (m : Nat) (h : x.length ≤ m) : tnb x m = x := by
  unfold tnb
  rw [List.take_of_length_le h, List.drop_eq_nil_of_le h, List.map_nil, List.append_nil]

def tpb (X : List Int) (m i : Nat) : List Int := tnb (X.take i) m ++ X.drop i
theorem tpb_len (X : List Int) (m i : Nat) : (tpb X m i).length = X.length := by
  unfold tpb
  rw [List.length_append, tnb_len, ← List.length_append, List.take_append_drop]
theorem tpb_start (X : List Int) (m : Nat) : tpb X m m = X := by
  unfold tpb
  rw [tnb_all _ _ (by simp; omega), List.take_append_drop]
theorem tpb_end (X : List Int) (m i : Nat) (h : X.length ≤ i) : tpb X m i = tnb X m := by
  unfold tpb
  rw [List.take_of_length_le h, List.drop_eq_nil_of_le h, List.append_nil]
theorem tpb_at (X : List Int) (m i : Nat) (hi : i < X.length) : (tpb X m i).getD i 0 = X.getD i 0 := by
  unfold tpb
  simp only [List.getD]
  rw [List.getElem?_append_right (by rw [tnb_len]; simp; omega), tnb_len, List.length_take, Nat.min_eq_left (by omega), Nat.sub_self, List.getElem?_drop, Nat.add_zero]
theorem tpb_step (X : List Int) (m i : Nat) (hi : i < X.length) (hm : m ≤ i) : (tpb X m i).set i (tb (X.getD i 0)) = tpb X m (i + 1) := by
  unfold tpb
  have hl : (tnb (X.take i) m).length = i := by rw [tnb_len]; simp; omega
  rw [List.set_append_right _ _ (by omega), hl, Nat.sub_self, List.drop_eq_getElem_cons hi, List.set_cons_zero, List.take_succ_eq_append_getElem hi, tnb_append, List.append_assoc, List.length_take, Nat.min_eq_left (by omega)]
  congr 1
  have e : tnb [X[i]] (m - i) = [tb X[i]] := by
    rw [show m - i = 0 from by omega]
    rfl
  rw [e]
  simp [List.getD, List.getElem?_eq_getElem hi]

theorem tnb_turnL (X : List Int) (m t : Nat) (h : m + t = X.length) : tnb X m = turnL X t := by
  unfold tnb turnL
  rw [show X.length - t = m from by omega]
theorem Own.form5 {w : World} {base : Nat} {v : Value} {xs : List Int} (h : Own w base v xs) (k : Nat) (hk : k < xs.length) (z : Int) :
    ∃ g c, v = .slice (some ⟨g, 0, none⟩) xs.length c ∧ base ≤ g ∧ g < w.heap.size ∧ w.cell? ⟨g, k, none⟩ = some (.int .u8 (xs.getD k 0)) ∧ w.frozen? ⟨g, k, none⟩ = false ∧
      Own (w.setCell ⟨g, k, none⟩ (.int .u8 z)) base (.slice (some ⟨g, 0, none⟩) xs.length c) (xs.set k z) := by
  have hv : ∃ g c, v = .slice (some ⟨g, 0, none⟩) xs.length c := by
    rcases h.2 with ⟨_, h0⟩ | ⟨g, cap, cur, rfl, _⟩
    · omega
    · exact ⟨g, cap, rfl⟩
  obtain ⟨g, c, rfl⟩ := hv
  have hlt := World.ownsRow.lt h g rfl
  refine ⟨g, c, rfl, hlt.1, hlt.2, ?_, World.ownsRow.frozenAt h k, ?_⟩
  · rw [World.ownsRow.cellAt h k (by omega)]
    simp [bc, List.getD, List.getElem?_eq_getElem hk]
  · have := (World.ownsRow.stored h k (.int .u8 z)).1
    refine Own.of_bc (n := xs.length) ?_ (by simp)
    rw [show bc (xs.set k z) = (bc xs).set k (.int .u8 z) from by simp [bc, List.map_set]]
    exact this
end Go.Proofs.Ytolaagbdnchhiaa
