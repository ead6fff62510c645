/-
  Which names may be: the program's own look, and the document's.
-/
import Derived.Test.YthfcjfhaoabdeaaGreatDoorRows
import Derived.Test.YthfcjfhaoabdeaaGreatDoorRz9
import Derived.BigQuiet
import Derived.Deep.QuietTactic
set_option linter.unusedVariables false
set_option linter.unusedSimpArgs false
namespace Go.Proofs.YthfcjfhaoabdeaaGreatDoor
open Go.RowKit

/-- May this byte stand in a name? -/
def okc (c : Int) : Bool := (decide (97 ≤ c) && decide (c ≤ 122)) || (decide (65 ≤ c) && decide (c ≤ 90)) || (decide (48 ≤ c) && decide (c ≤ 57)) || decide (c = 45) || decide (c = 46)

theorem okc_iff (c : Int) : okc c = true ↔ (97 ≤ c ∧ c ≤ 122) ∨ (65 ≤ c ∧ c ≤ 90) ∨ (48 ≤ c ∧ c ≤ 57) ∨ c = 45 ∨ c = 46 := by
  simp [okc]
  omega

/-- Is it a name? -/
def isName (s : ByteArray) : Bool := decide (1 ≤ s.size) && decide (s.size ≤ 16) && s.data.toList.all fun c => okc c.toNat

theorem hide2 {p : Prop} (h : p) : Hid p := h
theorem ret_bool {a b : Bool} (h : a = b) : Ending.returned (.bool a) = .returned (.bool b) := by rw [h]

set_option maxHeartbeats 1000000 in
theorem mayStand_any (c : Int) (w : World) (h0 : 0 ≤ c) (h1 : c ≤ 255) :
    Calls Tryz.prog 189 #[.int .u8 c] w fun e w' => e = .returned (.bool (okc c)) ∧ w' = w := by
  go_enter Tryz.func189, Tryz.ntmps189
  go_wp2
  all_goals go_ret
  all_goals refine ⟨ret_bool ?_, rfl⟩
  all_goals (rw [Bool.eq_iff_iff, okc_iff]; simp; try omega)

theorem all_take_snoc (s : ByteArray) (k : Nat) (h : k < s.size) (p : UInt8 → Bool) : (s.data.toList.take (k + 1)).all p = ((s.data.toList.take k).all p && p s[k]) := by
  rw [List.take_succ_eq_append_getElem (by simpa using h)]
  simp
  rfl

theorem isName_no (s : ByteArray) (h : s.size < 1 ∨ 16 < s.size) : isName s = false := by
  unfold isName
  rcases h with h | h
  · have : decide (1 ≤ s.size) = false := decide_eq_false (by omega)
    simp [this]
  · have : decide (s.size ≤ 16) = false := decide_eq_false (by omega)
    simp [this]

theorem isName_bad (s : ByteArray) (k : Nat) (hk : k < s.size) (h : okc (s[k].toNat : Int) = false) : isName s = false := by
  unfold isName
  have : (s.data.toList.all fun c => okc c.toNat) = false := by
    rw [List.all_eq_false]
    exact ⟨s[k], by simp only [ByteArray.getElem_eq_getElem_data]; exact Array.getElem_mem_toList _, by simp [h]⟩
  simp [this]

theorem isName_ok (s : ByteArray) (h1 : 1 ≤ s.size) (h2 : s.size ≤ 16) (h : (s.data.toList.all fun c => okc c.toNat) = true) : isName s = true := by
  unfold isName
  simp only [h, Bool.and_true, Bool.and_eq_true, decide_eq_true_eq]
  exact ⟨h1, h2⟩

theorem isName_size {s : ByteArray} (h : isName s = true) : 1 ≤ s.size ∧ s.size ≤ 16 := by
  unfold isName at h
  simp only [Bool.and_eq_true, decide_eq_true_eq] at h
  exact h.1

theorem take_all (s : ByteArray) (k : Nat) (h : s.size ≤ k) : s.data.toList.take k = s.data.toList := List.take_of_length_le (by simpa using h)

set_option maxHeartbeats 1000000 in
theorem isName_any (s : ByteArray) (w : World) (hs : s.size ≤ maxLen) :
    Calls Tryz.prog 156 #[.string s] w fun e w' => e = .returned (.bool (isName s)) ∧ w' = w := by
  unfold maxLen at hs
  by_cases ha : s.size < 1
  · go_enter Tryz.func156, Tryz.ntmps156
    go_wp2
    go_ret
    exact ⟨ret_bool (isName_no s (.inl ha)).symm, rfl⟩
  by_cases hb : 16 < s.size
  · go_enter Tryz.func156, Tryz.ntmps156
    go_wp2
    go_ret
    exact ⟨ret_bool (isName_no s (.inr hb)).symm, rfl⟩
  go_enter Tryz.func156, Tryz.ntmps156
  go_wp2
  go_loop [14, 3] (fun i j => ∃ k : Nat, k ≤ s.size ∧ i = .int .i64 (k : Int) ∧ Hid (((s.data.toList.take k).all fun c => okc c.toNat) = true)) (fun i _ => s.size - (intOf i).toNat)
  case atStart => exact ⟨0, by omega, rfl, hide2 (by simp)⟩
  case round =>
    obtain ⟨k, hk, rfl, hal⟩ := hrel
    by_cases hlt : k < s.size
    · have hsn := all_take_snoc s k hlt fun c => okc c.toNat
      have hbad := isName_bad s k hlt
      have hc0 : (0 : Int) ≤ (s[k].toNat : Int) := by omega
      have hc1 : (s[k].toNat : Int) ≤ 255 := by have := s[k].toNat_lt; omega
      cases hok : okc (s[k].toNat : Int) with
      | true =>
        have H : Hid (((s.data.toList.take (k + 1)).all fun c => okc c.toNat) = true) := hide2 (by rw [hsn, hal.out, hok]; rfl)
        clear hsn hbad
        go_wp2_with (go_at_call 189; refine (mayStand_any _ _ (by omega) (by omega)).mono ?_; rw [hok]; rintro e w' ⟨rfl, rfl⟩)
        go_round
        case rel => exact ⟨k + 1, by omega, by go_num, H⟩
        case measure => simp [intOf]; omega
      | false =>
        have H := hide2 (hbad hok)
        clear hsn hbad
        go_wp2_with (go_at_call 189; refine (mayStand_any _ _ (by omega) (by omega)).mono ?_; rw [hok]; rintro e w' ⟨rfl, rfl⟩)
        go_ret
        exact ⟨ret_bool H.out.symm, rfl⟩
    · have e := take_all s k (by omega)
      have H : Hid (isName s = true) := hide2 (isName_ok s (by omega) (by omega) (by rw [← e]; exact hal.out))
      clear e
      go_wp2
      go_ret
      exact ⟨ret_bool H.out.symm, rfl⟩

end Go.Proofs.YthfcjfhaoabdeaaGreatDoor
