/-
  What PutText and TakeText do.
-/
import Derived.Test.YtffgmpgmflbekaaGreatDoorXNum
import Derived.Test.YtffgmpgmflbekaaGreatDoorXTakeA
import Derived.Test.YtffgmpgmflbekaaGreatDoorXKit2
set_option linter.unusedVariables false
set_option linter.unusedSimpArgs false
namespace Go.Proofs.YtffgmpgmflbekaaGreatDoor.EL
open Go.RowKit

set_option maxRecDepth 100000 in
set_option maxHeartbeats 400000 in
/-- PutText: the bytes, the text's length as a number, the text. -/
theorem putText_any (ao : Option Addr) (len cap : Nat) (xs : List Int) (s : ByteArray) (w : World) (h : Sl w ao len cap xs) (hl : len + s.size + 200 ≤ 140737488355328) :
    Calls Tryz.prog 356 #[.slice ao len cap, .string s] w fun e w' => ∃ v', e = .returned v' ∧ Own w' w.heap.size v' (xs ++ enc s.size ++ sb s) ∧ Below w.heap.size w w' := by
  obtain ⟨i0, hi, hz0, hz1, hz2⟩ := info_parts Tryz.infoU8
  have hs63 : (s.size : Int) ≤ 9223372036854775807 := by omega
  have hx := h.1
  have hel := enc_len s.size
  generalize hA : xs ++ enc s.size ++ sb s = all
  replace hA := hide hA
  go_enter Tryz.func356, Tryz.ntmps356
  go_wp2_with fail
  refine (size_any (s.size : Int) w (by omega) (by omega)).mono ?_
  rintro e w' ⟨⟨r, rfl, hr⟩, rfl⟩
  go_wp2_with fail
  rw [show ((r : Int) + (s.size : Int)) = ((r + s.size : Nat) : Int) from by omega]
  refine (room_any ao len cap xs (r + s.size) _ h (by omega)).mono ?_
  rintro e w1 ⟨rfl, hown, hb1⟩
  have hs1 := hb1.size
  go_wp2_with fail
  refine (app_any _ _ xs (s.size : Int) w1 hown hs1 (by omega) (by omega) (by omega)).mono ?_
  rintro e w2 ⟨v2, rfl, hown2, hb2⟩
  have hb : Below w'.heap.size w' w2 := hb1.trans hb2
  have hs2 := hb.size
  clear hown hb1 hb2 hs1
  go_wp2_with (at_builtin; refine wpList_append_str rfl _ _ 43 rfl w'.heap.size i0 Tryz.underlying43 Tryz.underlying9 hi hz0 hz1 hz2 v2 _ rfl hown2 s rfl (by rw [List.length_append]; omega) hs2 ?_)
  intro v3 w3 hown3 hb3
  have hb4 := hb.trans hb3
  rw [← List.append_assoc, hA.out] at hown3
  clear hown2 hb hb3 hs2
  go_wp2
  go_ret
  exact ⟨_, rfl, hown3, hb4⟩

/-- What TakeText tells. -/
def tt (xs : List Int) (at_ most : Int) : Option (List Int × Int) :=
  match tk xs at_ with
  | none => none
  | some p => if most < 0 ∨ most < p.1 ∨ (xs.length : Int) - p.2 < p.1 then none else some ((xs.take (p.2 + p.1).toNat).drop p.2.toNat, p.2 + p.1)
def ttVal : Option (List Int × Int) → Value
  | none => .tuple #[.string ⟨#[]⟩, .int .i64 0, .bool false]
  | some p => .tuple #[.string (strOfNums p.1), .int .i64 p.2, .bool true]

set_option maxRecDepth 100000 in
set_option maxHeartbeats 1000000 in
theorem takeText_any (ao : Option Addr) (len cap : Nat) (xs : List Int) (at_ most : Int) (w : World) (h : Sl w ao len cap xs) (hm0 : -9223372036854775808 ≤ most) (hm1 : most ≤ 9223372036854775807) :
    Calls Tryz.prog 357 #[.slice ao len cap, .int .i64 at_, .int .i64 most] w fun e w' => e = .returned (ttVal (tt xs at_ most)) ∧ w' = w := by
  have hx := h.1
  have hlen : (len : Int) ≤ 9223372036854775807 := by have := h.2.1; have := h.2.2.1; unfold maxLen at this; omega
  cases ht : tk xs at_ with
  | none =>
    have hr : tt xs at_ most = none := by unfold tt; rw [ht]
    rw [hr]
    unfold ttVal
    go_enter Tryz.func357, Tryz.ntmps357
    go_wp2_with fail
    refine (take_any ao len cap xs at_ w h).mono ?_
    rintro e w1 ⟨rfl, rfl⟩
    rw [ht]
    unfold tkVal
    clear ht
    go_wp2
    go_ret3
    exact ⟨rfl, rfl⟩
  | some p =>
    obtain ⟨n, next⟩ := p
    obtain ⟨a, b, rfl, rfl, hab, hb, hn0, hn1, henc⟩ := tk_spec h.2.2.2.1 ht
    have hr : tt xs a most = if most < 0 ∨ most < n ∨ (len : Int) - b < n then none else some ((xs.take ((b : Int) + n).toNat).drop b, (b : Int) + n) := by
      unfold tt; rw [ht, ← hx]; rfl
    have hsub : (0 : Int) ≤ (len : Int) - (b : Int) := by omega
    have hsub1 : (len : Int) - (b : Int) ≤ 9223372036854775807 := by omega
    have hbl : (b : Int) ≤ (len : Int) := by omega
    have hst := fun (w : World) => take_any ao len cap xs a w
    clear henc
    by_cases c1 : most < 0
    · rw [hr, if_pos (.inl c1)]
      unfold ttVal
      go_enter Tryz.func357, Tryz.ntmps357
      go_wp2_with fail
      refine (hst w h).mono ?_
      rintro e w1 ⟨rfl, rfl⟩
      rw [ht]
      unfold tkVal
      clear ht hr hst
      go_wp2
      go_ret3
      exact ⟨rfl, rfl⟩
    by_cases c2 : most < n
    · rw [hr, if_pos (.inr (.inl c2))]
      unfold ttVal
      go_enter Tryz.func357, Tryz.ntmps357
      go_wp2_with fail
      refine (hst w h).mono ?_
      rintro e w1 ⟨rfl, rfl⟩
      rw [ht]
      unfold tkVal
      clear ht hr hst
      go_wp2
      go_ret3
      exact ⟨rfl, rfl⟩
    by_cases c3 : (len : Int) - b < n
    · rw [hr, if_pos (.inr (.inr c3))]
      unfold ttVal
      go_enter Tryz.func357, Tryz.ntmps357
      go_wp2_with fail
      refine (hst w h).mono ?_
      rintro e w1 ⟨rfl, rfl⟩
      rw [ht]
      unfold tkVal
      clear ht hr hst
      go_wp2
      go_ret3
      exact ⟨rfl, rfl⟩
    · rw [hr, if_neg (by omega)]
      obtain ⟨m, rfl⟩ : ∃ m : Nat, n = (m : Int) := ⟨n.toNat, by omega⟩
      obtain ⟨ac, hcut, hslC⟩ := h.part (P := Tryz.prog) 43 Tryz.underlying43 Tryz.size5 b (b + m) (by omega) (by omega)
      have hstr := hslC.str (P := Tryz.prog) 43 Tryz.underlying43 Tryz.underlying5 Tryz.underlying9
      have e1 : ((b + m : Nat) : Int) = (b : Int) + (m : Int) := by omega
      rw [e1] at hcut
      rw [show ((b : Int) + (m : Int)).toNat = b + m from by omega]
      generalize hys : (xs.take (b + m)).drop b = ys at *
      have e2 : b + m - b = m := by omega
      rw [e2] at hcut hstr
      have hsum : (b : Int) + (m : Int) ≤ 9223372036854775807 := by omega
      have hm63 : (m : Int) ≤ 9223372036854775807 := by omega
      unfold ttVal
      go_enter Tryz.func357, Tryz.ntmps357
      go_wp2_with fail
      refine (hst w h).mono ?_
      rintro e w1 ⟨rfl, rfl⟩
      rw [ht]
      unfold tkVal
      clear ht hr hst hslC e1 e2 hys
      go_wp2
      go_ret3
      exact ⟨rfl, rfl⟩
end Go.Proofs.YtffgmpgmflbekaaGreatDoor.EL
