/-
  ModelDoes: each call is answered, and does to the rows, just what the document's own model says. Where what comes in is of bulk at most 1048576.
-/
import Derived.Test.YtheidhkmmihjlaaDo1
import Derived.Test.YtheidhkmmihjlaaDo2
import Derived.Test.YtheidhkmmihjlaaDo3
import Derived.Test.YtheidhkmmihjlaaDo4
import Derived.Test.YtheidhkmmihjlaaDo5
import Derived.Test.YtheidhkmmihjlaaDo6
import Derived.Test.YtheidhkmmihjlaaDo7
import Derived.Test.YtheidhkmmihjlaaDo8
import Derived.Test.YtheidhkmmihjlaaDo9
import Derived.Test.YtheidhkmmihjlaaDo10
import Derived.Test.YtheidhkmmihjlaaDo11
import Derived.Test.YtheidhkmmihjlaaDo12
import Derived.Test.YtheidhkmmihjlaaDo13
import Derived.Test.YtheidhkmmihjlaaDo14
import Derived.Test.YtheidhkmmihjlaaDo15
import Derived.Test.YtheidhkmmihjlaaDo16
import Derived.Test.YtheidhkmmihjlaaDo17
import Derived.Test.YtheidhkmmihjlaaDo18
import Derived.Test.YtheidhkmmihjlaaDo19
import Derived.Test.YtheidhkmmihjlaaDo20
import Derived.Test.YtheidhkmmihjlaaDo21
import Derived.Test.YtheidhkmmihjlaaDo22
import Derived.Test.YtheidhkmmihjlaaDo23
import Derived.Test.YtheidhkmmihjlaaDo24
import Derived.Test.YtheidhkmmihjlaaDo25
import Derived.Test.YtheidhkmmihjlaaDo26
import Derived.Test.YtheidhkmmihjlaaDo27
import Derived.Test.YtheidhkmmihjlaaDo28
import Derived.Handy
import Derived.ProofKit
import Derived.OpenShut
import Derived.ShutString
import Derived.ChangeOld
import Derived.Below
import Derived.SizedLaws
import Derived.JoinedCond
namespace Go.Proofs.Ytheidhkmmihjlaa
namespace modelDoesRow
open Go.ChangeShapes Go.WideShapes Go.ChangeAt Go.RowKit
open Go.ChangeMaps (open_string shut_string)
set_option linter.unusedVariables false

theorem own : ownKnob Try.prog.godebug = none := by kernel_rfl
theorem laidOut : laidOutB Try.prog = true := by kernel_rfl

set_option maxRecDepth 100000 in
theorem contract (H : Type) (enc : TypeId × Value → H) (W : World) (base : Nat) (args : Array Value) (ds gs : List (DataW H)) (before : List MemPlace)
    (hval : ∀ (j : Nat) t v, Try.f3.params[j]? = some t → args[j]? = some v → Value.okWide Try.prog W .any base t v)
    (hW : DataW.Whole enc Try.prog Try.f3.params.toList Rows.modelDoesSpec.vars false W args.toList ds gs before)
    (hk : Rows.uptoSmall H ds = true) :
    Calls Try.prog 3 args W fun e W' => ∃ v, e = .returned v ∧ Rows.modelDoesSpec.post enc Try.prog Try.f3 false true false false W args v W' := by
  have hW' := hW
  obtain ⟨p, q, hA0, hV, rfl, hfz, hnd⟩ := hW
  have hA : DataW.TrodAll enc Try.prog W 0 (fun _ => true) true Try.f3.params.toList args.toList ds p := hA0
  rw [Try.params3] at hA hval
  obtain ⟨v0, vs0, d0, ds0, p0, q0, hargs, rfl, rfl, k0, r0⟩ := trodAll_cons hA
  obtain ⟨v1, vs1, d1, ds1, p1, q1, rfl, rfl, rfl, k1, r1⟩ := trodAll_cons r0
  obtain ⟨rfl, rfl, rfl⟩ := trodAll_nil r1
  obtain rfl : args = #[v0, v1] := by cases args; simp_all
  obtain ⟨rfl, rfl⟩ := trodVars_none hV
  have hbulk := of_decide_eq_true hk
  simp only [Rows.uptoBulkAll] at hbulk
  obtain ⟨o0, l0, c0, rfl⟩ := okWide_slice Try.underlying22 (hval 0 22 v0 rfl rfl)
  have lt0 : ∀ x ∈ p0, x.block < W.heap.size := by obtain ⟨m, hm⟩ := k0; exact DataW.trod_lt m _ _ _ hm
  obtain ⟨x0, h0, n0, g0⟩ := open_rowsW k0
  have z0 : l0 ≤ 1048576 := by
    have := bulk_long g0
    omega
  obtain ⟨o1, l1, c1, rfl⟩ := okWide_slice Try.underlying23 (hval 1 23 v1 rfl rfl)
  have lt1 : ∀ x ∈ p1, x.block < W.heap.size := by obtain ⟨m, hm⟩ := k1; exact DataW.trod_lt m _ _ _ hm
  obtain ⟨x1, h1⟩ := open_opsW k1
  clear hA0
  refine (does_walk h0 n0 z0 h1.2 h1.1).mono fun e W' ⟨he, bel⟩ => ?_
  subst he
  exact ⟨_, rfl, _, _, _, [], _, [], hW', trodAll_mk1 (shut_bool Try.underlying4 _), (trodAll_cons_mk (Below.trod laidOut (by kernel_rfl) (of_decide_eq_true (by kernel_rfl)) k0 bel lt0) (trodAll_cons_mk (Below.trod laidOut (by kernel_rfl) (of_decide_eq_true (by kernel_rfl)) k1 bel lt1) trodAll_mk0)), rfl, bel.frame _, fun h => by cases h⟩

set_option maxRecDepth 100000 in
theorem lifted (os : Os) (started : os.Started) (H : Type) (enc : TypeId × Value → H) (F : Stop.Interp) :
    ReturnsInHanded {} Try.checked os 3 .any ((Rows.OpenSpec.upto Rows.modelDoesSpec).pre6 enc Try.prog Try.f3 Rows.modelDoesUptoRow.domain false) (((Rows.OpenSpec.upto Rows.modelDoesSpec).at F).post enc Try.prog Try.f3 false true false false) := by
  refine returnsInHanded_of_cond (C := Try.checked) (s := Rows.OpenSpec.upto Rows.modelDoesSpec) (k := Rows.uptoSmall) rfl own started (by kernel_rfl) Try.func3
    (OpenSpec.witness (enc := enc) (C := Try.checked) (s := Rows.OpenSpec.upto Rows.modelDoesSpec) (k := Rows.uptoSmall) rfl false ⟨#[], #[.slice none 0 0, .slice none 0 0], []⟩ 8 (by kernel_rfl) (by kernel_rfl) (by kernel_rfl)
      (x := ([.nil, .nil], [], [])) (by kernel_rfl) rfl (by kernel_rfl)) ?_
  intro W base args ds gs before hval hW _ hk _
  have hg : gs = [] := by
    obtain ⟨p, q, hA0, hV, rfl, hfz, hnd⟩ := hW
    exact (trodVars_none hV).1
  subst hg
  rw [List.append_nil] at hk
  exact contract H enc W base args ds [] before hval hW hk

theorem proved : Rows.ModelDoesUptoSaid :=
  OpenClaim.holds_of_cond 3 Try.f3 rfl rfl rfl rfl rfl rfl rfl ⟨rfl, rfl, rfl, rfl, rfl⟩ rfl rfl rfl rfl rfl (by kernel_rfl) Try.func3 (by kernel_rfl)
    (of_decide_eq_true (by kernel_rfl)) (by unfold Func.isWrapper; first | (rw [if_pos (by decide +kernel)]; kernel_rfl) | (rw [if_neg (by decide +kernel)]; exact ⟨rfl, rfl⟩))
    (fun os started H enc _ F => lifted os started H enc F)
end modelDoesRow

/-- The statement. -/
theorem modelDoes_holds : Rows.ModelDoesUptoSaid := modelDoesRow.proved
#print axioms modelDoes_holds
end Go.Proofs.Ytheidhkmmihjlaa
