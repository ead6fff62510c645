/-
  The calls Store, CAS, Add, Do, Used, Steps, Free; all of no arena.
-/
import Derived.Test.YtfhcphgjaobnoaaDoorC5
set_option linter.unusedVariables false
set_option linter.unusedSimpArgs false
namespace Go.Proofs.YtfhcphgjaobnoaaDoor
open Go.RowKit

section
variable {w : World} {d g : Nat} {T : List Bool} {N : List Int} {m : Int} {F : List Nat}

set_option maxRecDepth 100000 in
set_option maxHeartbeats 1000000 in
theorem Store_any (h : Aw w d g T N m F) (c a : Int) (ha : 0 ≤ a ∧ a ≤ 18446744073709551615) (hm : 0 ≤ m ∧ m < 4611686018427387904) :
    Calls Tryd.prog 67 #[.pointer (some ⟨d, 0, none⟩), .int .i64 c, .int .u64 a] w fun e w' => ∃ v x, e = .returned (.int .i64 x) ∧ Did 2 w w' d g T N m F c a 0 v x := by
  have hs := step_any store_deed eg_store h 0 c a 0 ha (by decide) hm
  have HS := hide2 hs
  have hmf := made_func
  clear hs
  go_enter Tryd.func67, Tryd.ntmps67
  go_wp2_with fail
  refine HS.out.mono ?_
  rintro e w' ⟨v, x, rfl, hD⟩
  go_wp2
  go_ret
  exact ⟨_, _, rfl, hD⟩

set_option maxRecDepth 100000 in
set_option maxHeartbeats 1000000 in
theorem CAS_any (h : Aw w d g T N m F) (c a b : Int) (ha : 0 ≤ a ∧ a ≤ 18446744073709551615) (hb : 0 ≤ b ∧ b ≤ 18446744073709551615) (hm : 0 ≤ m ∧ m < 4611686018427387904) :
    Calls Tryd.prog 58 #[.pointer (some ⟨d, 0, none⟩), .int .i64 c, .int .u64 a, .int .u64 b] w fun e w' => ∃ v x, e = .returned (.tuple #[.bool (v == 1), .int .i64 x]) ∧ Did 3 w w' d g T N m F c a b v x := by
  have hs := step_any cas_deed eg_cas h 0 c a b ha hb hm
  have HS := hide2 hs
  have hmf := made_func
  clear hs
  go_enter Tryd.func58, Tryd.ntmps58
  go_wp2_with fail
  refine HS.out.mono ?_
  rintro e w' ⟨v, x, rfl, hD⟩
  go_wp2
  go_ret2
  exact ⟨_, _, rfl, hD⟩

set_option maxHeartbeats 1000000 in
theorem Used_any (h : Aw w d g T N m F) :
    Calls Tryd.prog 16 #[.pointer (some ⟨d, 0, none⟩)] w fun e w' => e = .returned (.int .i64 (T.count true : Nat)) ∧ w' = w := by
  obtain ⟨-, c1, -⟩ := h.ab.tail
  generalize T.count true = u at c1 ⊢
  go_enter Tryd.func16, Tryd.ntmps16
  go_wp2
  go_ret
  exact ⟨rfl, rfl⟩

end

/-! ### Of no arena -/
section
variable {w : World}
set_option maxHeartbeats 1000000 in
theorem Alloc_nil : Calls Tryd.prog 81 #[.pointer none] w fun e w' => e = .returned (.tuple #[.int .i64 0, .int .i64 1]) ∧ w' = w := by
  go_enter Tryd.func81, Tryd.ntmps81
  go_wp2
  go_ret2
  exact ⟨rfl, rfl⟩
set_option maxHeartbeats 1000000 in
theorem Free_nil (c : Int) : Calls Tryd.prog 97 #[.pointer none, .int .i64 c] w fun e w' => e = .returned (.int .i64 1) ∧ w' = w := by
  go_enter Tryd.func97, Tryd.ntmps97
  go_wp2
  go_ret
  exact ⟨rfl, rfl⟩
set_option maxHeartbeats 1000000 in
theorem Used_nil : Calls Tryd.prog 16 #[.pointer none] w fun e w' => e = .returned (.int .i64 0) ∧ w' = w := by
  go_enter Tryd.func16, Tryd.ntmps16
  go_wp2
  go_ret
  exact ⟨rfl, rfl⟩
set_option maxHeartbeats 1000000 in
theorem Load_nil (c : Int) : Calls Tryd.prog 51 #[.pointer none, .int .i64 c] w fun e w' => e = .returned (.tuple #[.int .u64 0, .int .i64 1]) ∧ Fr (fun _ => False) w w' := by
  have HS := fun f => hide2 (step_nil (w := w) (f := f) 0 c 0 0)
  have hmf := made_func
  go_enter Tryd.func51, Tryd.ntmps51
  go_wp2_with fail
  refine (HS _).out.mono ?_
  rintro e w' ⟨rfl, hF⟩
  go_wp2
  go_ret2
  exact ⟨rfl, hF⟩
set_option maxHeartbeats 1000000 in
theorem Store_nil (c a : Int) : Calls Tryd.prog 67 #[.pointer none, .int .i64 c, .int .u64 a] w fun e w' => e = .returned (.int .i64 1) ∧ Fr (fun _ => False) w w' := by
  have HS := fun f => hide2 (step_nil (w := w) (f := f) 0 c a 0)
  have hmf := made_func
  go_enter Tryd.func67, Tryd.ntmps67
  go_wp2_with fail
  refine (HS _).out.mono ?_
  rintro e w' ⟨rfl, hF⟩
  go_wp2
  go_ret
  exact ⟨rfl, hF⟩
set_option maxHeartbeats 1000000 in
theorem CAS_nil (c a b : Int) : Calls Tryd.prog 58 #[.pointer none, .int .i64 c, .int .u64 a, .int .u64 b] w fun e w' => e = .returned (.tuple #[.bool false, .int .i64 1]) ∧ Fr (fun _ => False) w w' := by
  have HS := fun f => hide2 (step_nil (w := w) (f := f) 0 c a b)
  have hmf := made_func
  go_enter Tryd.func58, Tryd.ntmps58
  go_wp2_with fail
  refine (HS _).out.mono ?_
  rintro e w' ⟨rfl, hF⟩
  go_wp2
  go_ret2
  exact ⟨rfl, hF⟩
end
end Go.Proofs.YtfhcphgjaobnoaaDoor
