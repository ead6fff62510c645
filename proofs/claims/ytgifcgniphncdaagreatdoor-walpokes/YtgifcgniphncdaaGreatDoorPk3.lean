/-
  How an operation begins: the names, the power, the file.
-/
import Derived.Test.YtgifcgniphncdaaGreatDoorPk2
import Derived.Shelf.RegionOpen
import Derived.Shelf.Abstract
import Derived.Maps.OwnSet
set_option linter.unusedVariables false
set_option linter.unusedSimpArgs false
namespace Go.Proofs.YtgifcgniphncdaaGreatDoor
open Go.RowKit

set_option maxHeartbeats 400000 in
theorem notName_any (s : ByteArray) (w : World) (hs : s.size ≤ maxLen) :
    Calls Tryz.prog 159 #[.string s] w fun e w' => e = .returned (.bool (!isName s)) ∧ w' = w := by
  go_enter Tryz.func159, Tryz.ntmps159
  go_wp2_with (go_at_call 108; refine (isName_any _ _ hs).mono ?_; rintro e w' ⟨rfl, rfl⟩)
  go_ret
  exact ⟨rfl, rfl⟩

set_option maxHeartbeats 400000 in
theorem indexNone_any (fv : Value) (w : World) :
    Calls Tryz.prog 214 #[.slice none 0 0, fv] w fun e w' => e = .returned (.int .i64 (-1)) ∧ w' = w := by
  go_enter Tryz.func214, Tryz.ntmps214
  go_wp2
  go_loop [8, 5] (fun i _ => i = .int .i64 0) (fun _ _ => 0)
  case atStart => rfl
  case round =>
    subst hrel
    go_wp2
    go_ret
    exact ⟨rfl, rfl⟩

theorem ret_int {k : IntKind} {a b : Int} (h : a = b) : Ending.returned (.int k a) = .returned (.int k b) := by rw [h]

set_option maxHeartbeats 400000 in
theorem indexOne_any (b c : Nat) (s : ByteArray) (w : World) (hs : s.size ≤ maxLen) (hc : w.cell? ⟨b, 0, none⟩ = some (.string s)) (x : Int) (hx : x = if isName s then -1 else 0) :
    Calls Tryz.prog 214 #[.slice (some ⟨b, 0, none⟩) 1 c, .func (.func 159) #[] #[]] w fun e w' => e = .returned (.int .i64 x) ∧ w' = w := by
  have HX := hide2 hx
  clear hx
  have hcall := notName_any s w hs
  go_enter Tryz.func214, Tryz.ntmps214
  cases hn : isName s with
  | true =>
    rw [hn] at hcall
    have HX2 : Hid (x = -1) := by have := HX.out; rw [hn] at this; exact this
    clear HX
    go_wp2
    go_loop [8, 5] (fun i _ => ∃ k : Nat, k ≤ 1 ∧ i = .int .i64 (k : Int)) (fun i _ => (1 - intOf i).toNat)
    case atStart => exact ⟨0, by omega, rfl⟩
    case round =>
      obtain ⟨k, hk, rfl⟩ := hrel
      by_cases h0 : k = 0
      · subst h0
        go_wp2_with fail
        refine hcall.mono ?_
        rintro e w' ⟨rfl, rfl⟩
        go_wp2
        go_round
        case rel => exact ⟨1, by omega, rfl⟩
        case measure => simp [intOf]
      · obtain rfl : k = 1 := by omega
        go_wp2
        go_ret
        exact ⟨ret_int HX2.out.symm, rfl⟩
  | false =>
    rw [hn] at hcall
    have HX2 : Hid (x = 0) := by have := HX.out; rw [hn] at this; exact this
    clear HX
    go_wp2
    go_loop [8, 5] (fun i _ => i = .int .i64 0) (fun _ _ => 0)
    case atStart => rfl
    case round =>
      subst hrel
      go_wp2_with fail
      refine hcall.mono ?_
      rintro e w' ⟨rfl, rfl⟩
      go_wp2
      go_ret
      exact ⟨ret_int HX2.out.symm, rfl⟩

theorem areNone_any (w : World) : Calls Tryz.prog 115 #[.slice none 0 0] w fun e w' => e = .returned (.bool true) ∧ w' = w := by
  have hcon : ∀ fv, Calls Tryz.prog 158 #[.slice none 0 0, fv] w fun e w' => e = .returned (.bool false) ∧ w' = w := by
    intro fv
    go_enter Tryz.func158, Tryz.ntmps158
    go_wp2_with (go_at_call 214; refine (indexNone_any _ _).mono ?_; rintro e w' ⟨rfl, rfl⟩)
    go_ret
    exact ⟨rfl, rfl⟩
  go_enter Tryz.func115, Tryz.ntmps115
  go_wp2_with (go_at_call 158; refine (hcon _).mono ?_; rintro e w' ⟨rfl, rfl⟩)
  go_ret
  exact ⟨rfl, rfl⟩

theorem areOne_any (b c : Nat) (s : ByteArray) (w : World) (hs : s.size ≤ maxLen) (hc : w.cell? ⟨b, 0, none⟩ = some (.string s)) :
    Calls Tryz.prog 115 #[.slice (some ⟨b, 0, none⟩) 1 c] w fun e w' => e = .returned (.bool (isName s)) ∧ w' = w := by
  have hcon : Calls Tryz.prog 158 #[.slice (some ⟨b, 0, none⟩) 1 c, .func (.func 159) #[] #[]] w fun e w' => e = .returned (.bool (!isName s)) ∧ w' = w := by
    have hi := indexOne_any b c s w hs hc _ rfl
    go_enter Tryz.func158, Tryz.ntmps158
    cases hn : isName s with
    | true =>
      rw [hn] at hi
      go_wp2_with (go_at_call 214; refine hi.mono ?_; rintro e w' ⟨rfl, rfl⟩)
      go_ret
      exact ⟨rfl, rfl⟩
    | false =>
      rw [hn] at hi
      go_wp2_with (go_at_call 214; refine hi.mono ?_; rintro e w' ⟨rfl, rfl⟩)
      go_ret
      exact ⟨rfl, rfl⟩
  go_enter Tryz.func115, Tryz.ntmps115
  go_wp2_with (go_at_call 158; refine hcon.mono ?_; rintro e w' ⟨rfl, rfl⟩)
  go_ret
  exact ⟨by simp, rfl⟩
end Go.Proofs.YtgifcgniphncdaaGreatDoor
