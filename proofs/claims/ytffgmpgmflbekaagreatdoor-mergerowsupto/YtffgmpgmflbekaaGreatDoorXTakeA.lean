/-
  What Take answers.
-/
import Derived.Test.YtffgmpgmflbekaaGreatDoorXNum
import Derived.Test.YtffgmpgmflbekaaGreatDoorXDec
import Derived.ProofKit
import Derived.OpenShut
import Derived.Deep.QuietTactic
import Derived.BigQuiet
set_option linter.unusedVariables false
set_option linter.unusedSimpArgs false
namespace Go.Proofs.YtffgmpgmflbekaaGreatDoor.EL
open Go.RowKit


theorem ret_res {rest : List Int} {a : Int} {n n' p' : Int} {k : Nat} (h : dec 0 0 rest = some (n, k)) (h1 : n' = n) (h2 : p' = a + k) :
    Ending.returned (.tuple #[.int .u64 n', .int .i64 p', .bool true]) = .returned (tkVal ((dec 0 0 rest).map fun p => (p.1, a + p.2))) := by rw [h, h1, h2]; rfl
theorem p9 : (128 : Int) ^ 9 = 9223372036854775808 := by decide
theorem pos9 (a : Nat) (h : a + 10 ≤ 9223372036854775807) : wrap64 (wrap64 ((a : Int) + 9) + 1) = (a : Int) + ((9 + 1 : Nat) : Int) := by
  unfold wrap64
  omega
theorem posk (a k : Nat) (h : a + k + 1 ≤ 9223372036854775807) : wrap64 (wrap64 ((a : Int) + (k : Int)) + 1) = (a : Int) + ((k + 1 : Nat) : Int) := by
  unfold wrap64
  omega
theorem hide {p : Prop} (h : p) : Hid p := h

set_option maxHeartbeats 1000000 in
theorem take_any (ao : Option Addr) (len cap : Nat) (xs : List Int) (at_ : Int) (w : World) (h : Sl w ao len cap xs) :
    Calls Tryz.prog 330 #[.slice ao len cap, .int .i64 at_] w fun e w' => e = .returned (tkVal (tk xs at_)) ∧ w' = w := by
  have hx := h.1
  by_cases hn : at_ < 0
  · have ht : tk xs at_ = none := by unfold tk; rw [if_pos (.inl hn)]
    rw [ht]
    unfold tkVal
    go_enter Tryz.func330, Tryz.ntmps330
    go_wp2
    go_ret3
    exact ⟨rfl, rfl⟩
  by_cases hg : (len : Int) ≤ at_
  · have ht : tk xs at_ = none := by unfold tk; rw [if_pos (.inr (by omega))]
    rw [ht]
    unfold tkVal
    go_enter Tryz.func330, Tryz.ntmps330
    go_wp2
    go_ret3
    exact ⟨rfl, rfl⟩
  obtain ⟨a, rfl⟩ : ∃ a : Nat, at_ = (a : Int) := ⟨at_.toNat, by omega⟩
  have hlt : (a : Int) < (len : Int) := by omega
  have ht : tk xs a = (dec 0 0 (xs.drop a)).map fun p => (p.1, (a : Int) + p.2) := by unfold tk; rw [if_neg (by omega)]; rfl
  rw [ht]
  obtain ⟨a1, hcut, hsl⟩ := h.from (P := Tryz.prog) 43 Tryz.underlying43 Tryz.size5 a (by omega)
  generalize hrest : xs.drop a = rest at *
  obtain ⟨b, off, rfl, _, hcell⟩ := hsl.2.2.2.2.2 (by omega)
  have hlen : (len : Int) ≤ 9223372036854775807 := by have := h.2.1; have := h.2.2.1; unfold maxLen at this; omega
  obtain ⟨m, hm⟩ : ∃ m, m = len - a := ⟨_, rfl⟩
  have hbyt := hsl.2.2.2.1
  have hrl := hsl.1
  clear hsl h hrest ht hx hn hg
  rw [← hm] at hcut hcell hrl
  have HM : Hid (m = len - a) := hm
  have hm0 : (0 : Int) < (m : Int) := by omega
  clear hm
  have hd : decide ((a : Int) < 0) = false := by simp
  have hd2 : ¬ (a : Int) < 0 := by omega
  have hd3 : ¬ (len : Int) ≤ (a : Int) := by omega
  have hcase : (m : Int) ≤ 10 ∨ 10 < (m : Int) := by omega
  rcases hcase with hm10 | hm10
  all_goals
    go_enter Tryz.func330, Tryz.ntmps330
    go_wp2
    go_loop [8, 25] (fun n i => ∃ (k : Nat) (acc : Int), k ≤ 10 ∧ k ≤ m ∧ i = .int .i64 k ∧ n = .int .u64 acc ∧ DcK rest k acc) (fun _ i => 10 - (intOf i).toNat)
    case atStart => exact ⟨0, 0, by omega, by omega, rfl, rfl, DcK.start _⟩
    case round =>
      obtain ⟨k, acc, hk, hkm, rfl, rfl, hD⟩ := hrel
      by_cases hk2 : k < 10 ∧ k < m
      · obtain ⟨hk3, hk4⟩ := hk2
        obtain ⟨x, hx⟩ : ∃ x, x = rest.getD k 0 := ⟨_, rfl⟩
        have hc : w.cell? ⟨b, off + k, none⟩ = some (.int .u8 x) := by rw [hx]; exact hcell k hk4
        have hxb := hbyt.getD k
        rw [← hx] at hxb
        obtain ⟨hx0, hx1⟩ := hxb
        have HX : Hid (x = rest.getD k 0) := hx
        have hlk : k < rest.length := by omega
        clear hx hcell hcut
        by_cases h9 : k = 9
        · subst h9
          by_cases h1x : 1 < x
          · have hres := hide (hD.big hlk HX.out rfl h1x)
            go_wp2
            go_ret3
            exact ⟨by rw [hres.out]; rfl, rfl⟩
          · have hor := or_shl acc x 9 hD.2.1 hD.2.2 hx0 hx1 (.inr ⟨rfl, by omega⟩)
            have hor2 : bits BinOp.or IntKind.u64 acc (IntKind.u64.wrap (IntKind.u64.wrap (bits BinOp.and IntKind.u8 x 127) * 9223372036854775808)) = acc + x % 128 * 128 ^ 9 := hor
            clear hor
            by_cases hz : x = 0
            · have hres := hide (hD.zero hlk HX.out (by omega) hz (by omega))
              clear HX hlk
              subst hz
              go_wp2
              go_ret3
              exact ⟨by rw [hres.out]; rfl, rfl⟩
            · have hres := hide (hD.last hlk HX.out (.inr (by omega)) (by omega) (by omega) (by omega))
              go_wp2
              go_ret3
              have hm := HM.out
              exact ⟨ret_res hres.out (by first | (with_reducible rfl) | (rw [p9]) | (simp; done)) (by first | exact pos9 a (by omega) | exact posk a _ (by omega) | omega), rfl⟩
        · have hor := or_shl acc x k hD.2.1 hD.2.2 hx0 hx1 (.inl (by omega))
          have h9' : ¬ (k : Int) = 9 := by omega
          by_cases h128 : 128 ≤ x
          · have hD2 := hD.more hlk HX.out (by omega) h128 hx1
            go_wp2
            go_round
            case rel => exact ⟨k + 1, _, by omega, by omega, by go_num, rfl, hD2⟩
            case measure => simp [intOf]; omega
          · by_cases hz : x = 0
            · by_cases hk0 : 0 < k
              · have hres := hide (hD.zero hlk HX.out (by omega) hz hk0)
                clear HX hlk
                subst hz
                go_wp2
                go_ret3
                exact ⟨by rw [hres.out]; rfl, rfl⟩
              · have hres := hide (hD.last hlk HX.out (.inl (by omega)) (by omega) (by omega) (by omega))
                have hk00 : ¬ (0 : Int) < (k : Int) := by omega
                have hor0 := or_shl acc 0 k hD.2.1 hD.2.2 (by decide) (by decide) (.inl (by omega))
                clear HX hlk
                subst hz
                go_wp2
                go_ret3
                have hm := HM.out
                exact ⟨ret_res hres.out (by first | (with_reducible rfl) | (rw [p9]) | (simp; done)) (by first | exact pos9 a (by omega) | exact posk a _ (by omega) | omega), rfl⟩
            · have hres := hide (hD.last hlk HX.out (.inl (by omega)) (by omega) (by omega) (by omega))
              go_wp2
              go_ret3
              have hm := HM.out
              exact ⟨ret_res hres.out (by first | (with_reducible rfl) | (rw [p9]) | (simp; done)) (by first | exact pos9 a (by omega) | exact posk a _ (by omega) | omega), rfl⟩
      · have hres : dec 0 0 rest = none := by
          by_cases h10 : k = 10
          · exact hD.ten (by omega)
          · exact hD.short (by omega)
        replace hres := hide hres
        clear hcell hcut
        have hnot1 : ¬ (k : Int) < (m : Int) ∨ ¬ (k : Int) < 10 := by omega
        go_wp2
        go_ret3
        exact ⟨by rw [hres.out]; rfl, rfl⟩
end Go.Proofs.YtffgmpgmflbekaaGreatDoor.EL
