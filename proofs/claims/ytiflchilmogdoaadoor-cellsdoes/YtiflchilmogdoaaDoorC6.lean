/-
  The calls Store, CAS, Add, Do, Used, Steps, Free; all of no arena.
-/
import Derived.Test.YtiflchilmogdoaaDoorC5
set_option linter.unusedVariables false
set_option linter.unusedSimpArgs false
namespace Go.Proofs.YtiflchilmogdoaaDoor
open Go.RowKit

section
variable {w : World} {d g : Nat} {T : List Bool} {N : List Int} {m : Int} {F : List Nat}

set_option maxRecDepth 100000 in
set_option maxHeartbeats 1000000 in
theorem Store_any (h : Aw w d g T N m F) (c a : Int) (ha : 0 ≤ a ∧ a ≤ 18446744073709551615) (hm : 0 ≤ m ∧ m < 4611686018427387904) :
    Calls Tryd.prog 19 #[.pointer (some ⟨d, 0, none⟩), .int .i64 c, .int .u64 a] w fun e w' => ∃ v x, e = .returned (.int .i64 x) ∧ Did 2 w w' d g T N m F c a 0 v x := by
  have hs := step_any store_deed eg_store h 0 c a 0 ha (by decide) hm
  have HS := hide2 hs
  have hmf := made_func
  clear hs
  go_enter Tryd.func19, Tryd.ntmps19
  go_wp2_with fail
  refine HS.out.mono ?_
  rintro e w' ⟨v, x, rfl, hD⟩
  go_wp2
  go_ret
  exact ⟨_, _, rfl, hD⟩

set_option maxRecDepth 100000 in
set_option maxHeartbeats 1000000 in
theorem CAS_any (h : Aw w d g T N m F) (c a b : Int) (ha : 0 ≤ a ∧ a ≤ 18446744073709551615) (hb : 0 ≤ b ∧ b ≤ 18446744073709551615) (hm : 0 ≤ m ∧ m < 4611686018427387904) :
    Calls Tryd.prog 20 #[.pointer (some ⟨d, 0, none⟩), .int .i64 c, .int .u64 a, .int .u64 b] w fun e w' => ∃ v x, e = .returned (.tuple #[.bool (v == 1), .int .i64 x]) ∧ Did 3 w w' d g T N m F c a b v x := by
  have hs := step_any cas_deed eg_cas h 0 c a b ha hb hm
  have HS := hide2 hs
  have hmf := made_func
  clear hs
  go_enter Tryd.func20, Tryd.ntmps20
  go_wp2_with fail
  refine HS.out.mono ?_
  rintro e w' ⟨v, x, rfl, hD⟩
  go_wp2
  go_ret2
  exact ⟨_, _, rfl, hD⟩

set_option maxRecDepth 100000 in
set_option maxHeartbeats 1000000 in
theorem Add_any (h : Aw w d g T N m F) (c a : Int) (ha : 0 ≤ a ∧ a ≤ 18446744073709551615) (hm : 0 ≤ m ∧ m < 4611686018427387904) :
    Calls Tryd.prog 17 #[.pointer (some ⟨d, 0, none⟩), .int .i64 c, .int .u64 a] w fun e w' => ∃ v x, e = .returned (.tuple #[.int .u64 v, .int .i64 x]) ∧ Did 4 w w' d g T N m F c a 0 v x := by
  have hs := step_any add_deed eg_add h 0 c a 0 ha (by decide) hm
  have HS := hide2 hs
  have hmf := made_func
  clear hs
  go_enter Tryd.func17, Tryd.ntmps17
  go_wp2_with fail
  refine HS.out.mono ?_
  rintro e w' ⟨v, x, rfl, hD⟩
  go_wp2
  go_ret2
  exact ⟨_, _, rfl, hD⟩

set_option maxRecDepth 100000 in
set_option maxHeartbeats 2000000 in
/-- Do, of the four kinds. -/
theorem Do_kind {k kind : Nat} (hk : Deed k kind) (eg : ∀ args w, (callFunc k args).run Tryd.prog w = .ok (.enter k args) w) (hkk : (k = 31 ∧ kind = 1) ∨ (k = 32 ∧ kind = 2) ∨ (k = 33 ∧ kind = 3) ∨ (k = 30 ∧ kind = 4))
    (h : Aw w d g T N m F) (c a b : Int) (ha : 0 ≤ a ∧ a ≤ 18446744073709551615) (hb : 0 ≤ b ∧ b ≤ 18446744073709551615) (hm : 0 ≤ m ∧ m < 4611686018427387904) :
    Calls Tryd.prog 21 #[.pointer (some ⟨d, 0, none⟩), opV (kind : Int) c a b] w fun e w' => ∃ v x, e = .returned (.tuple #[.int .u64 v, .int .i64 x]) ∧ Did kind w w' d g T N m F c a b v x := by
  have h1 : Aw (w.alloc (opC kind c a b)) d g T N m F := h.same (blk_alloc _ _ _ h.ab.lt) (blk_alloc _ _ _ h.nb.lt)
  have hs := step_any hk eg h1 kind c a b ha hb hm
  have HS := hide2 hs
  have hmf := made_func
  have F1 : Fr (fun j => j = d ∨ j = g) w (w.alloc (opC kind c a b)) := (Fr.refl _ w).alloc _
  clear hs
  rcases hkk with ⟨rfl, rfl⟩ | ⟨rfl, rfl⟩ | ⟨rfl, rfl⟩ | ⟨rfl, rfl⟩
  all_goals
    go_enter Tryd.func21, Tryd.ntmps21
    go_wp2_with fail
    refine HS.out.mono ?_
    rintro e w' ⟨v, x, rfl, hD⟩
    clear HS
    go_wp2
    go_ret2
    exact ⟨_, _, rfl, ⟨hD.yes, hD.no, F1.trans hD.fr (fun j hj => .inl hj)⟩⟩

set_option maxRecDepth 100000 in
set_option maxHeartbeats 2000000 in
/-- Do, of no kind. -/
theorem Do_bad (h : Aw w d g T N m F) (o c a b : Int) (ho : o < 1 ∨ 4 < o) :
    Calls Tryd.prog 21 #[.pointer (some ⟨d, 0, none⟩), opV o c a b] w fun e w' => e = .returned (.tuple #[.int .u64 0, .int .i64 2]) ∧ Aw w' d g T N m F ∧ Fr (fun j => j = d ∨ j = g) w w' := by
  have h1 : Aw (w.alloc (opC o c a b)) d g T N m F := h.same (blk_alloc _ _ _ h.ab.lt) (blk_alloc _ _ _ h.nb.lt)
  have F1 : Fr (fun j => j = d ∨ j = g) w (w.alloc (opC o c a b)) := (Fr.refl _ w).alloc _
  have t1 : (o == 1) = false := by simp; omega
  have t2 : (o == 2) = false := by simp; omega
  have t3 : (o == 3) = false := by simp; omega
  have t4 : (o == 4) = false := by simp; omega
  go_enter Tryd.func21, Tryd.ntmps21
  go_wp2
  go_ret2
  exact ⟨rfl, h1, F1⟩

set_option maxHeartbeats 1000000 in
theorem Used_any (h : Aw w d g T N m F) :
    Calls Tryd.prog 13 #[.pointer (some ⟨d, 0, none⟩)] w fun e w' => e = .returned (.int .i64 (T.count true : Nat)) ∧ w' = w := by
  obtain ⟨-, c1, -⟩ := h.ab.tail
  generalize T.count true = u at c1 ⊢
  go_enter Tryd.func13, Tryd.ntmps13
  go_wp2
  go_ret
  exact ⟨rfl, rfl⟩

set_option maxHeartbeats 1000000 in
theorem Steps_any (h : Aw w d g T N m F) :
    Calls Tryd.prog 15 #[.pointer (some ⟨d, 0, none⟩)] w fun e w' => e = .returned (.int .i64 m) ∧ w' = w := by
  obtain ⟨-, -, c1⟩ := h.ab.tail
  go_enter Tryd.func15, Tryd.ntmps15
  go_wp2
  go_ret
  exact ⟨rfl, rfl⟩
end

/-! ### Of no arena -/
section
variable {w : World}
set_option maxHeartbeats 1000000 in
theorem Alloc_nil : Calls Tryd.prog 16 #[.pointer none] w fun e w' => e = .returned (.tuple #[.int .i64 0, .int .i64 1]) ∧ w' = w := by
  go_enter Tryd.func16, Tryd.ntmps16
  go_wp2
  go_ret2
  exact ⟨rfl, rfl⟩
set_option maxHeartbeats 1000000 in
theorem Free_nil (c : Int) : Calls Tryd.prog 22 #[.pointer none, .int .i64 c] w fun e w' => e = .returned (.int .i64 1) ∧ w' = w := by
  go_enter Tryd.func22, Tryd.ntmps22
  go_wp2
  go_ret
  exact ⟨rfl, rfl⟩
set_option maxHeartbeats 1000000 in
theorem Used_nil : Calls Tryd.prog 13 #[.pointer none] w fun e w' => e = .returned (.int .i64 0) ∧ w' = w := by
  go_enter Tryd.func13, Tryd.ntmps13
  go_wp2
  go_ret
  exact ⟨rfl, rfl⟩
set_option maxHeartbeats 1000000 in
theorem Steps_nil : Calls Tryd.prog 15 #[.pointer none] w fun e w' => e = .returned (.int .i64 0) ∧ w' = w := by
  go_enter Tryd.func15, Tryd.ntmps15
  go_wp2
  go_ret
  exact ⟨rfl, rfl⟩
set_option maxHeartbeats 1000000 in
theorem Load_nil (c : Int) : Calls Tryd.prog 18 #[.pointer none, .int .i64 c] w fun e w' => e = .returned (.tuple #[.int .u64 0, .int .i64 1]) ∧ Fr (fun _ => False) w w' := by
  have HS := fun f => hide2 (step_nil (w := w) (f := f) 0 c 0 0)
  have hmf := made_func
  go_enter Tryd.func18, Tryd.ntmps18
  go_wp2_with fail
  refine (HS _).out.mono ?_
  rintro e w' ⟨rfl, hF⟩
  go_wp2
  go_ret2
  exact ⟨rfl, hF⟩
set_option maxHeartbeats 1000000 in
theorem Store_nil (c a : Int) : Calls Tryd.prog 19 #[.pointer none, .int .i64 c, .int .u64 a] w fun e w' => e = .returned (.int .i64 1) ∧ Fr (fun _ => False) w w' := by
  have HS := fun f => hide2 (step_nil (w := w) (f := f) 0 c a 0)
  have hmf := made_func
  go_enter Tryd.func19, Tryd.ntmps19
  go_wp2_with fail
  refine (HS _).out.mono ?_
  rintro e w' ⟨rfl, hF⟩
  go_wp2
  go_ret
  exact ⟨rfl, hF⟩
set_option maxHeartbeats 1000000 in
theorem CAS_nil (c a b : Int) : Calls Tryd.prog 20 #[.pointer none, .int .i64 c, .int .u64 a, .int .u64 b] w fun e w' => e = .returned (.tuple #[.bool false, .int .i64 1]) ∧ Fr (fun _ => False) w w' := by
  have HS := fun f => hide2 (step_nil (w := w) (f := f) 0 c a b)
  have hmf := made_func
  go_enter Tryd.func20, Tryd.ntmps20
  go_wp2_with fail
  refine (HS _).out.mono ?_
  rintro e w' ⟨rfl, hF⟩
  go_wp2
  go_ret2
  exact ⟨rfl, hF⟩
set_option maxHeartbeats 1000000 in
theorem Add_nil (c a : Int) : Calls Tryd.prog 17 #[.pointer none, .int .i64 c, .int .u64 a] w fun e w' => e = .returned (.tuple #[.int .u64 0, .int .i64 1]) ∧ Fr (fun _ => False) w w' := by
  have HS := fun f => hide2 (step_nil (w := w) (f := f) 0 c a 0)
  have hmf := made_func
  go_enter Tryd.func17, Tryd.ntmps17
  go_wp2_with fail
  refine (HS _).out.mono ?_
  rintro e w' ⟨rfl, hF⟩
  go_wp2
  go_ret2
  exact ⟨rfl, hF⟩
set_option maxHeartbeats 1000000 in
theorem Do_nil (o c a b : Int) : Calls Tryd.prog 21 #[.pointer none, opV o c a b] w fun e w' => e = .returned (.tuple #[.int .u64 0, .int .i64 1]) ∧ Fr (fun _ => False) w w' := by
  go_enter Tryd.func21, Tryd.ntmps21
  go_wp2
  go_ret2
  exact ⟨rfl, (Fr.refl _ w).alloc _⟩
end
end Go.Proofs.YtiflchilmogdoaaDoor
