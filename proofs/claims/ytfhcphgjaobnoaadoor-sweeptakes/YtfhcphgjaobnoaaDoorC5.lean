/-
  A step; the calls Load, Store, CAS, Add, Do.
-/
import Derived.Test.YtfhcphgjaobnoaaDoorC4
import Derived.Shelf.Abstract
set_option linter.unusedVariables false
set_option linter.unusedSimpArgs false
namespace Go.Proofs.YtfhcphgjaobnoaaDoor
open Go.RowKit

theorem Aw.steps {w : World} {d g : Nat} {T : List Bool} {N : List Int} {m : Int} {F : List Nat} (h : Aw w d g T N m F) (n : Int) : Aw (w.setCell ⟨d, 1026, none⟩ (.int .i64 n)) d g T N n F :=
  { h with ab := h.ab.setTail.2 n, nb := h.nb.same (Below.heap_setCell _ _ _ _ h.ne.symm) }

set_option maxRecDepth 100000 in
set_option maxHeartbeats 1000000 in
/-- A step at a cell that is taken. -/
theorem step_in {k kind : Nat} (hk : Deed k kind) (eg : ∀ args w, (callFunc k args).run Tryd.prog w = .ok (.enter k args) w)
    {w : World} {d g : Nat} {T : List Bool} {N : List Int} {m : Int} {F : List Nat} (h : Aw w d g T N m F) (o : Int) (c : Nat) (a b : Int) (hc : c < N.length) (ht : tk T c = true) (ha : 0 ≤ a ∧ a ≤ 18446744073709551615) (hb : 0 ≤ b ∧ b ≤ 18446744073709551615) (hm : 0 ≤ m ∧ m < 4611686018427387904) :
    Calls Tryd.prog 79 #[.pointer (some ⟨d, 0, none⟩), .func (.func k) #[.pointer (some ⟨d, 0, none⟩)] #[], opV o c a b] w fun e w' => e = .returned (.tuple #[.int .u64 (act kind a b (N.getD c 0)).1, .int .i64 0]) ∧ Aw w' d g T (N.set c (act kind a b (N.getD c 0)).2) (m + 1) F ∧ Fr (fun j => j = d ∨ j = g) w w' := by
  have h1 : Aw (w.alloc (opC o c a b)) d g T N m F := h.same (blk_alloc _ _ _ h.ab.lt) (blk_alloc _ _ _ h.nb.lt)
  have htk := taken_any h1.ab h1.one.2 (c : Int)
  rw [h1.tk, ht] at htk
  have hdl := h.ab.lt
  have HT := hide2 htk
  clear htk
  have hk2 := fun W h3 => hk W d g T N (m + 1) F o c a b h3 hc ha hb
  generalize (act kind a b (N.getD c 0)).1 = v at hk2 ⊢
  generalize N.set c (act kind a b (N.getD c 0)).2 = N' at hk2 ⊢
  have HK := hide2 hk2
  clear hk2
  go_enter Tryd.func79, Tryd.ntmps79
  go_wp2_with fail
  refine HT.out.mono ?_
  rintro e w' ⟨rfl, q, rfl⟩
  have h2 : Aw ((w.alloc (opC o c a b)).drewN q) d g T N m F := h1.same rfl rfl
  have c3 := h2.ab.tail.2.2
  have f3 := h2.ab.free 1026
  have h3 := h2.steps (m + 1)
  have HC := hide2 (HK.out _ h3)
  go_wp2_with fail
  refine HC.out.mono ?_
  rintro e w' ⟨rfl, hA, hF⟩
  clear HC h3 c3 f3 h2
  go_wp2
  go_ret2
  have F1 : Fr (fun j => j = d ∨ j = g) w (w.alloc (opC o c a b)) := (Fr.refl _ w).alloc _
  have F2 := Fr.setCell (p := ⟨d, 1026, none⟩) (F1.drewN q) (.inl (.inl rfl)) (.int .i64 (m + 1))
  exact ⟨rfl, hA, F2.trans hF (fun j hj => .inl hj)⟩

set_option maxRecDepth 100000 in
set_option maxHeartbeats 1000000 in
/-- A step at a cell that is not taken: none. -/
theorem step_out {k : Nat} {w : World} {d g : Nat} {T : List Bool} {N : List Int} {m : Int} {F : List Nat} (h : Aw w d g T N m F) (o c a b : Int) (ht : tk T c = false) :
    Calls Tryd.prog 79 #[.pointer (some ⟨d, 0, none⟩), .func (.func k) #[.pointer (some ⟨d, 0, none⟩)] #[], opV o c a b] w fun e w' => e = .returned (.tuple #[.int .u64 0, .int .i64 30]) ∧ Aw w' d g T N m F ∧ Fr (fun j => j = d ∨ j = g) w w' := by
  have h1 : Aw (w.alloc (opC o c a b)) d g T N m F := h.same (blk_alloc _ _ _ h.ab.lt) (blk_alloc _ _ _ h.nb.lt)
  have htk := taken_any h1.ab h1.one.2 c
  rw [h1.tk, ht] at htk
  have hdl := h.ab.lt
  have HT := hide2 htk
  clear htk
  go_enter Tryd.func79, Tryd.ntmps79
  go_wp2_with fail
  refine HT.out.mono ?_
  rintro e w' ⟨rfl, q, rfl⟩
  go_wp2
  go_ret2
  have F1 : Fr (fun j => j = d ∨ j = g) w (w.alloc (opC o c a b)) := (Fr.refl _ w).alloc _
  exact ⟨rfl, h1.same rfl rfl, F1.drewN q⟩

set_option maxRecDepth 100000 in
set_option maxHeartbeats 1000000 in
/-- A step of no arena. -/
theorem step_nil {w : World} {f : Value} (o c a b : Int) :
    Calls Tryd.prog 79 #[.pointer none, f, opV o c a b] w fun e w' => e = .returned (.tuple #[.int .u64 0, .int .i64 1]) ∧ Fr (fun _ => False) w w' := by
  go_enter Tryd.func79, Tryd.ntmps79
  go_wp2
  go_ret2
  exact ⟨rfl, (Fr.refl _ w).alloc _⟩

/-- What a step answers, and leaves, whether the cell is taken or not. -/
structure Did (kind : Nat) (w w' : World) (d g : Nat) (T : List Bool) (N : List Int) (m : Int) (F : List Nat) (c a b v e : Int) : Prop where
  yes : tk T c = true → v = (act kind a b (N.getD c.toNat 0)).1 ∧ e = 0 ∧ Aw w' d g T (N.set c.toNat (act kind a b (N.getD c.toNat 0)).2) (m + 1) F
  no : tk T c = false → v = 0 ∧ e = 30 ∧ Aw w' d g T N m F
  fr : Fr (fun j => j = d ∨ j = g) w w'

theorem tk_lt {T : List Bool} {c : Int} (h : tk T c = true) : 0 ≤ c ∧ c.toNat < T.length := by
  unfold tk at h
  rw [Bool.and_eq_true, decide_eq_true_eq] at h
  refine ⟨h.1, ?_⟩
  rcases Nat.lt_or_ge c.toNat T.length with h1 | h1
  · exact h1
  · have := h.2
    simp [List.getD, List.getElem?_eq_none h1] at this

theorem step_any {k kind : Nat} (hk : Deed k kind) (eg : ∀ args w, (callFunc k args).run Tryd.prog w = .ok (.enter k args) w)
    {w : World} {d g : Nat} {T : List Bool} {N : List Int} {m : Int} {F : List Nat} (h : Aw w d g T N m F) (o c a b : Int) (ha : 0 ≤ a ∧ a ≤ 18446744073709551615) (hb : 0 ≤ b ∧ b ≤ 18446744073709551615) (hm : 0 ≤ m ∧ m < 4611686018427387904) :
    Calls Tryd.prog 79 #[.pointer (some ⟨d, 0, none⟩), .func (.func k) #[.pointer (some ⟨d, 0, none⟩)] #[], opV o c a b] w fun e w' => ∃ v x, e = .returned (.tuple #[.int .u64 v, .int .i64 x]) ∧ Did kind w w' d g T N m F c a b v x := by
  cases ht : tk T c with
  | true =>
    obtain ⟨h0, h1⟩ := tk_lt ht
    obtain ⟨n, rfl⟩ : ∃ n : Nat, c = n := ⟨c.toNat, by omega⟩
    have := h.len
    refine (step_in hk eg h o n a b (by omega) ht ha hb hm).mono ?_
    rintro e w' ⟨rfl, hA, hF⟩
    exact ⟨_, _, rfl, ⟨fun _ => ⟨rfl, rfl, hA⟩, (fun e => by rw [ht] at e; cases e), hF⟩⟩
  | false =>
    refine (step_out h o c a b ht).mono ?_
    rintro e w' ⟨rfl, hA, hF⟩
    exact ⟨_, _, rfl, ⟨(fun e => by rw [ht] at e; cases e), fun _ => ⟨rfl, rfl, hA⟩, hF⟩⟩

theorem eg_load : ∀ args w, (callFunc 80 args).run Tryd.prog w = .ok (.enter 80 args) w := enters_of Tryd.func80 (by kernel_rfl) rfl
theorem eg_store : ∀ args w, (callFunc 88 args).run Tryd.prog w = .ok (.enter 88 args) w := enters_of Tryd.func88 (by kernel_rfl) rfl
theorem eg_cas : ∀ args w, (callFunc 84 args).run Tryd.prog w = .ok (.enter 84 args) w := enters_of Tryd.func84 (by kernel_rfl) rfl
theorem made_func : ∀ (fn : Fn) (first cap : Array Value) (w : World), (Instr.makeFunc fn first cap).run Tryd.prog w = .ok (.func fn first cap) w := fun _ _ _ _ => rfl

section
variable {w : World} {d g : Nat} {T : List Bool} {N : List Int} {m : Int} {F : List Nat}

set_option maxRecDepth 100000 in
set_option maxHeartbeats 1000000 in
theorem Load_any (h : Aw w d g T N m F) (c : Int) (hm : 0 ≤ m ∧ m < 4611686018427387904) :
    Calls Tryd.prog 51 #[.pointer (some ⟨d, 0, none⟩), .int .i64 c] w fun e w' => ∃ v x, e = .returned (.tuple #[.int .u64 v, .int .i64 x]) ∧ Did 1 w w' d g T N m F c 0 0 v x := by
  have hs := step_any load_deed eg_load h 0 c 0 0 (by decide) (by decide) hm
  have HS := hide2 hs
  have hmf := made_func
  clear hs
  go_enter Tryd.func51, Tryd.ntmps51
  go_wp2_with fail
  refine HS.out.mono ?_
  rintro e w' ⟨v, x, rfl, hD⟩
  go_wp2
  go_ret2
  exact ⟨_, _, rfl, hD⟩
end
end Go.Proofs.YtfhcphgjaobnoaaDoor
