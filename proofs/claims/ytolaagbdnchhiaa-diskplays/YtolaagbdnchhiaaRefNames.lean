/-
  Which names may be: the document's own look.
-/
import Derived.Test.YtolaagbdnchhiaaNames
set_option linter.unusedVariables false
set_option linter.unusedSimpArgs false
namespace Go.Proofs.Ytolaagbdnchhiaa
open Go.RowKit

set_option maxHeartbeats 1000000 in
theorem refIsName_any (s : ByteArray) (w : World) (hs : s.size ≤ maxLen) :
    Calls Try.prog 15 #[.string s] w fun e w' => e = .returned (.bool (isName s)) ∧ w' = w := by
  unfold maxLen at hs
  go_enter Try.func15, Try.ntmps15
  go_wp2
  go_loop [3, 4, 5] (fun i _ _ => ∃ k : Nat, k ≤ s.size ∧ i = .int .i64 (k : Int) ∧ Hid (((s.data.toList.take k).all fun c => okc c.toNat) = true)) (fun i _ _ => s.size - (intOf i).toNat)
  case atStart => exact ⟨0, by omega, rfl, hide2 (by simp)⟩
  case round =>
    obtain ⟨k, hk, rfl, hal⟩ := hrel
    by_cases hlt : k < s.size
    · have hsn := all_take_snoc s k hlt fun c => okc c.toNat
      have hbad := isName_bad s k hlt
      have hc0 : (0 : Int) ≤ (s[k].toNat : Int) := by omega
      have hc1 : (s[k].toNat : Int) ≤ 255 := by have := s[k].toNat_lt; omega
      have HY : okc (s[k].toNat : Int) = true → Hid (((s.data.toList.take (k + 1)).all fun c => okc c.toNat) = true) := fun hok => hide2 (by rw [hsn, hal.out, hok]; rfl)
      clear hsn
      by_cases a1 : 97 ≤ (s[k].toNat : Int)
      · by_cases a2 : (s[k].toNat : Int) ≤ 122
        · have HZ := HY ((okc_iff _).2 (.inl ⟨a1, a2⟩))
          clear hbad HY
          go_wp2
          go_round
          case rel => exact ⟨k + 1, by omega, by go_num, HZ⟩
          case measure => simp [intOf]; omega
        · have HZ := hide2 (hbad (by rw [← Bool.not_eq_true, okc_iff]; omega))
          have b5 : ((s[k].toNat : Int) == 45) = false := by simp; omega
          have b6 : ((s[k].toNat : Int) == 46) = false := by simp; omega
          have b1 : 65 ≤ (s[k].toNat : Int) := by omega
          have b2 : ¬ (s[k].toNat : Int) ≤ 90 := by omega
          have b3 : 48 ≤ (s[k].toNat : Int) := by omega
          have b4 : ¬ (s[k].toNat : Int) ≤ 57 := by omega
          clear hbad HY
          go_wp2
          go_ret
          exact ⟨ret_bool HZ.out.symm, rfl⟩
      · by_cases c1 : 65 ≤ (s[k].toNat : Int)
        · by_cases c2 : (s[k].toNat : Int) ≤ 90
          · have HZ := HY ((okc_iff _).2 (.inr (.inl ⟨c1, c2⟩)))
            clear hbad HY
            go_wp2
            go_round
            case rel => exact ⟨k + 1, by omega, by go_num, HZ⟩
            case measure => simp [intOf]; omega
          · have HZ := hide2 (hbad (by rw [← Bool.not_eq_true, okc_iff]; omega))
            have b5 : ((s[k].toNat : Int) == 45) = false := by simp; omega
            have b6 : ((s[k].toNat : Int) == 46) = false := by simp; omega
            have b3 : 48 ≤ (s[k].toNat : Int) := by omega
            have b4 : ¬ (s[k].toNat : Int) ≤ 57 := by omega
            clear hbad HY
            go_wp2
            go_ret
            exact ⟨ret_bool HZ.out.symm, rfl⟩
        · by_cases d1 : 48 ≤ (s[k].toNat : Int)
          · by_cases d2 : (s[k].toNat : Int) ≤ 57
            · have HZ := HY ((okc_iff _).2 (.inr (.inr (.inl ⟨d1, d2⟩))))
              clear hbad HY
              go_wp2
              go_round
              case rel => exact ⟨k + 1, by omega, by go_num, HZ⟩
              case measure => simp [intOf]; omega
            · have HZ := hide2 (hbad (by rw [← Bool.not_eq_true, okc_iff]; omega))
              have b5 : ((s[k].toNat : Int) == 45) = false := by simp; omega
              have b6 : ((s[k].toNat : Int) == 46) = false := by simp; omega
              clear hbad HY
              go_wp2
              go_ret
              exact ⟨ret_bool HZ.out.symm, rfl⟩
          · by_cases e1 : (s[k].toNat : Int) = 45
            · have HZ := HY ((okc_iff _).2 (.inr (.inr (.inr (.inl e1)))))
              have b5 : ((s[k].toNat : Int) == 45) = true := by simp [e1]
              clear e1
              clear hbad HY
              go_wp2
              go_round
              case rel => exact ⟨k + 1, by omega, by go_num, HZ⟩
              case measure => simp [intOf]; omega
            · by_cases e2 : (s[k].toNat : Int) = 46
              · have HZ := HY ((okc_iff _).2 (.inr (.inr (.inr (.inr e2)))))
                have b5 : ((s[k].toNat : Int) == 45) = false := by simp [e2]
                have b6 : ((s[k].toNat : Int) == 46) = true := by simp [e2]
                clear e1 e2
                clear hbad HY
                go_wp2
                go_round
                case rel => exact ⟨k + 1, by omega, by go_num, HZ⟩
                case measure => simp [intOf]; omega
              · have HZ := hide2 (hbad (by rw [← Bool.not_eq_true, okc_iff]; omega))
                have b5 : ((s[k].toNat : Int) == 45) = false := by simp; omega
                have b6 : ((s[k].toNat : Int) == 46) = false := by simp; omega
                clear e1 e2
                clear hbad HY
                go_wp2
                go_ret
                exact ⟨ret_bool HZ.out.symm, rfl⟩
    · have e := take_all s k (by omega)
      have H : Hid ((s.data.toList.all fun c => okc c.toNat) = true) := hide2 (by rw [← e]; exact hal.out)
      clear e
      by_cases h1 : 1 ≤ s.size
      · by_cases h2 : s.size ≤ 16
        · have H2 := hide2 (isName_ok s h1 h2 H.out)
          have h2' : decide ((s.size : Int) ≤ 16) = true := by simp; omega
          go_wp2
          go_ret
          exact ⟨ret_bool H2.out.symm, rfl⟩
        · have H2 := hide2 (isName_no s (.inr (by omega)))
          have h2' : decide ((s.size : Int) ≤ 16) = false := by simp; omega
          go_wp2
          go_ret
          exact ⟨ret_bool H2.out.symm, rfl⟩
      · have H2 := hide2 (isName_no s (.inl (by omega)))
        go_wp2
        go_ret
        exact ⟨ret_bool H2.out.symm, rfl⟩
end Go.Proofs.Ytolaagbdnchhiaa
