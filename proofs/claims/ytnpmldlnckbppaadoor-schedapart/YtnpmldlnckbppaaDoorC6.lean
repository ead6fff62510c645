/-
  The calls Store, CAS, Add, Do, Used, Steps, Free; all of no arena.
-/
import Derived.Test.YtnpmldlnckbppaaDoorC5
set_option linter.unusedVariables false
set_option linter.unusedSimpArgs false
namespace Go.Proofs.YtnpmldlnckbppaaDoor
open Go.RowKit

section
variable {w : World} {d g : Nat} {T : List Bool} {N : List Int} {m : Int} {F : List Nat}

set_option maxRecDepth 100000 in
set_option maxHeartbeats 2000000 in
/-- Do, of the four kinds. -/
theorem Do_kind {k kind : Nat} (hk : Deed k kind) (eg : ∀ args w, (callFunc k args).run Tryd.prog w = .ok (.enter k args) w) (hkk : (k = 44 ∧ kind = 1) ∨ (k = 73 ∧ kind = 2) ∨ (k = 74 ∧ kind = 3) ∨ (k = 75 ∧ kind = 4))
    (h : Aw w d g T N m F) (c a b : Int) (ha : 0 ≤ a ∧ a ≤ 18446744073709551615) (hb : 0 ≤ b ∧ b ≤ 18446744073709551615) (hm : 0 ≤ m ∧ m < 4611686018427387904) :
    Calls Tryd.prog 72 #[.pointer (some ⟨d, 0, none⟩), opV (kind : Int) c a b] w fun e w' => ∃ v x, e = .returned (.tuple #[.int .u64 v, .int .i64 x]) ∧ Did kind w w' d g T N m F c a b v x := by
  have h1 : Aw (w.alloc (opC kind c a b)) d g T N m F := h.same (blk_alloc _ _ _ h.ab.lt) (blk_alloc _ _ _ h.nb.lt)
  have hs := step_any hk eg h1 kind c a b ha hb hm
  have HS := hide2 hs
  have hmf := made_func
  have F1 : Fr (fun j => j = d ∨ j = g) w (w.alloc (opC kind c a b)) := (Fr.refl _ w).alloc _
  clear hs
  rcases hkk with ⟨rfl, rfl⟩ | ⟨rfl, rfl⟩ | ⟨rfl, rfl⟩ | ⟨rfl, rfl⟩
  all_goals
    go_enter Tryd.func72, Tryd.ntmps72
    go_wp2_with fail
    refine HS.out.mono ?_
    rintro e w' ⟨v, x, rfl, hD⟩
    clear HS
    go_wp2
    go_ret2
    exact ⟨_, _, rfl, ⟨hD.yes, hD.no, F1.trans hD.fr (fun j hj => .inl hj)⟩⟩

set_option maxRecDepth 100000 in
set_option maxHeartbeats 2000000 in
/-- Do, of no kind. -/
theorem Do_bad (h : Aw w d g T N m F) (o c a b : Int) (ho : o < 1 ∨ 4 < o) :
    Calls Tryd.prog 72 #[.pointer (some ⟨d, 0, none⟩), opV o c a b] w fun e w' => e = .returned (.tuple #[.int .u64 0, .int .i64 2]) ∧ Aw w' d g T N m F ∧ Fr (fun j => j = d ∨ j = g) w w' := by
  have h1 : Aw (w.alloc (opC o c a b)) d g T N m F := h.same (blk_alloc _ _ _ h.ab.lt) (blk_alloc _ _ _ h.nb.lt)
  have F1 : Fr (fun j => j = d ∨ j = g) w (w.alloc (opC o c a b)) := (Fr.refl _ w).alloc _
  have t1 : (o == 1) = false := by simp; omega
  have t2 : (o == 2) = false := by simp; omega
  have t3 : (o == 3) = false := by simp; omega
  have t4 : (o == 4) = false := by simp; omega
  go_enter Tryd.func72, Tryd.ntmps72
  go_wp2
  go_ret2
  exact ⟨rfl, h1, F1⟩

end

/-! ### Of no arena -/
section
variable {w : World}
set_option maxHeartbeats 1000000 in
theorem Alloc_nil : Calls Tryd.prog 34 #[.pointer none] w fun e w' => e = .returned (.tuple #[.int .i64 0, .int .i64 1]) ∧ w' = w := by
  go_enter Tryd.func34, Tryd.ntmps34
  go_wp2
  go_ret2
  exact ⟨rfl, rfl⟩
set_option maxHeartbeats 1000000 in
theorem Load_nil (c : Int) : Calls Tryd.prog 35 #[.pointer none, .int .i64 c] w fun e w' => e = .returned (.tuple #[.int .u64 0, .int .i64 1]) ∧ Fr (fun _ => False) w w' := by
  have HS := fun f => hide2 (step_nil (w := w) (f := f) 0 c 0 0)
  have hmf := made_func
  go_enter Tryd.func35, Tryd.ntmps35
  go_wp2_with fail
  refine (HS _).out.mono ?_
  rintro e w' ⟨rfl, hF⟩
  go_wp2
  go_ret2
  exact ⟨rfl, hF⟩
set_option maxHeartbeats 1000000 in
theorem Do_nil (o c a b : Int) : Calls Tryd.prog 72 #[.pointer none, opV o c a b] w fun e w' => e = .returned (.tuple #[.int .u64 0, .int .i64 1]) ∧ Fr (fun _ => False) w w' := by
  go_enter Tryd.func72, Tryd.ntmps72
  go_wp2
  go_ret2
  exact ⟨rfl, (Fr.refl _ w).alloc _⟩
end
end Go.Proofs.YtnpmldlnckbppaaDoor
