/-
  What stands in segments that were dropped is gone, what was put behind them is told.
-/
import Derived.Test.YtgifcgniphncdaaGreatDoorDe1
import Derived.Test.YtgifcgniphncdaaGreatDoorDe2
import Derived.Test.YtgifcgniphncdaaGreatDoorDe3
import Derived.Test.YtgifcgniphncdaaGreatDoorDe4
import Derived.Test.YtgifcgniphncdaaGreatDoorDe5
import Derived.Test.YtgifcgniphncdaaGreatDoorDe6
import Derived.Test.YtgifcgniphncdaaGreatDoorDe7
import Derived.Test.YtgifcgniphncdaaGreatDoorDe8
import Derived.Test.YtgifcgniphncdaaGreatDoorDe9
import Derived.Test.YtgifcgniphncdaaGreatDoorDe10
import Derived.Test.YtgifcgniphncdaaGreatDoorDe11
import Derived.Test.YtgifcgniphncdaaGreatDoorDe12
import Derived.Test.YtgifcgniphncdaaGreatDoorDe13
import Derived.Test.YtgifcgniphncdaaGreatDoorDe14
import Derived.Test.YtgifcgniphncdaaGreatDoorDe15
import Derived.Test.YtgifcgniphncdaaGreatDoorDe16
import Derived.Test.YtgifcgniphncdaaGreatDoorDe17
import Derived.Test.YtgifcgniphncdaaGreatDoorDe18
import Derived.Test.YtgifcgniphncdaaGreatDoorDe19
import Derived.Test.YtgifcgniphncdaaGreatDoorDe20
import Derived.Test.YtgifcgniphncdaaGreatDoorDe21
import Derived.Test.YtgifcgniphncdaaGreatDoorDe22
import Derived.Test.YtgifcgniphncdaaGreatDoorDe23
import Derived.Test.YtgifcgniphncdaaGreatDoorDe24
import Derived.Test.YtgifcgniphncdaaGreatDoorDe25
import Derived.Test.YtgifcgniphncdaaGreatDoorDe26
import Derived.Test.YtgifcgniphncdaaGreatDoorDe27
import Derived.Test.YtgifcgniphncdaaGreatDoorDe28
import Derived.Test.YtgifcgniphncdaaGreatDoorDe29
import Derived.Test.YtgifcgniphncdaaGreatDoorDe30
import Derived.Test.YtgifcgniphncdaaGreatDoorDe31
import Derived.Test.YtgifcgniphncdaaGreatDoorDe32
import Derived.Test.YtgifcgniphncdaaGreatDoorDe33
import Derived.Test.YtgifcgniphncdaaGreatDoorDe34
import Derived.Test.YtgifcgniphncdaaGreatDoorDe35
import Derived.Test.YtgifcgniphncdaaGreatDoorDe36
import Derived.Test.YtgifcgniphncdaaGreatDoorDe37
import Derived.Test.YtgifcgniphncdaaGreatDoorDe38
import Derived.Test.YtgifcgniphncdaaGreatDoorDe39
import Derived.Test.YtgifcgniphncdaaGreatDoorDe40
import Derived.Test.YtgifcgniphncdaaGreatDoorDe41
import Derived.Test.YtgifcgniphncdaaGreatDoorDe42
import Derived.ProofKit
import Derived.OpenShut
import Derived.ShutString
import Derived.ChangeOld
import Derived.Below
import Derived.SizedLaws
import Derived.JoinedCond
import Derived.SevenTiedAt
namespace Go.Proofs.YtgifcgniphncdaaGreatDoor
namespace walDropsRow
open Go.ChangeShapes Go.WideShapes Go.ChangeAt Go.RowKit
set_option linter.unusedVariables false

theorem own : ownKnob Tryz.prog.godebug = none := by kernel_rfl
theorem laidOut : laidOutB Tryz.prog = true := by kernel_rfl

set_option maxRecDepth 100000 in
theorem contract (H : Type) (enc : TypeId × Value → H) (W : World) (base : Nat) (args : Array Value) (ds gs : List (DataW H)) (before : List MemPlace)
    (hval : ∀ (j : Nat) t v, Tryz.f7.params[j]? = some t → args[j]? = some v → Value.okWide Tryz.prog W .any base t v)
    (hW : DataW.Whole enc Tryz.prog Tryz.f7.params.toList Rows.walDropsSpec.vars false W args.toList ds gs before) (HT : Gl W.heap.size W)
    (hsz : (DataW.weightsEach Tryz.prog Tryz.f7.params.toList ds).all (· ≤ reachBytes) = true) :
    Calls Tryz.prog 7 args W fun e W' => ∃ v, e = .returned v ∧ Rows.walDropsSpec.post enc Tryz.prog Tryz.f7 false true false false W args v W' := by
  have hW' := hW
  obtain ⟨p, q, hA0, hV, rfl, hfz, hnd⟩ := hW
  have hA : DataW.TrodAll enc Tryz.prog W 0 (fun _ => true) true Tryz.f7.params.toList args.toList ds p := hA0
  rw [Tryz.params7] at hA hval hsz
  obtain ⟨v0, vs0, d0, ds0, p0, q0, hargs, rfl, rfl, k0, r0⟩ := trodAll_cons hA
  obtain ⟨v1, vs1, d1, ds1, p1, q1, rfl, rfl, rfl, k1, r1⟩ := trodAll_cons r0
  obtain ⟨rfl, rfl, rfl⟩ := trodAll_nil r1
  obtain rfl : args = #[v0, v1] := by cases args; simp_all
  obtain ⟨rfl, rfl⟩ := trodVars_none hV
  obtain ⟨o0, l0, c0, rfl⟩ := okWide_slice Tryz.underlying22 (hval 0 22 v0 rfl rfl)
  have lt0 : ∀ x ∈ p0, x.block < W.heap.size := by obtain ⟨m, hm⟩ := k0; exact DataW.trod_lt m _ _ _ hm
  obtain ⟨x0, h0⟩ := open_script8 k0
  obtain ⟨o1, l1, c1, rfl⟩ := okWide_slice Tryz.underlying22 (hval 1 22 v1 rfl rfl)
  have lt1 : ∀ x ∈ p1, x.block < W.heap.size := by obtain ⟨m, hm⟩ := k1; exact DataW.trod_lt m _ _ _ hm
  obtain ⟨x1, h1⟩ := open_script8 k1
  clear hA0
  refine (walDrops_walk W HT (Nat.le_refl _) h0 h1).mono fun e W' ⟨he, bel⟩ => ?_
  subst he
  exact ⟨_, rfl, _, _, _, [], _, [], hW', trodAll_mk1 (shut_bool Tryz.underlying4 _), (trodAll_cons_mk (Below.trod laidOut (by kernel_rfl) (of_decide_eq_true (by kernel_rfl)) k0 bel lt0) (trodAll_cons_mk (Below.trod laidOut (by kernel_rfl) (of_decide_eq_true (by kernel_rfl)) k1 bel lt1) trodAll_mk0)), rfl, bel.frame _, fun h => by cases h⟩

set_option maxRecDepth 100000 in
theorem lifted (os : Os) (started : os.Started) (H : Type) (enc : TypeId × Value → H) :
    ReturnsInHanded {} Tryz.checked os 7 .any (fun w args => (Rows.walDropsSpec.pre enc Tryz.prog Tryz.f7 [] false w args ∧ laidMetH Tryz.prog theLaid w) ∧ sizedMet enc Tryz.prog Tryz.f7 (OpenSpec.ofChange Rows.walDropsSpec) false w args)
      (Rows.walDropsSpec.post enc Tryz.prog Tryz.f7 false true false false) := by
  refine returnsInHanded_of_change_and (C := Tryz.checked) (X := fun w _ => laidMetH Tryz.prog theLaid w) (fun _ _ _ hh h => h.of_heap hh) own started (by kernel_rfl) Tryz.func7
    (ChangeSpec.witness_shaped (enc := enc) (C := Tryz.checked) (os := os) (X := fun w _ => laidMetH Tryz.prog theLaid w) false (World.doorLaid Tryz.prog 400 os) #[.slice none 0 0, .slice none 0 0] 8 rfl (World.shaped_of_RefB (by kernel_rfl) (by kernel_rfl)) (by kernel_rfl) (by kernel_rfl) (by kernel_rfl) (door_met os _)) ?_
  intro W base args ds gs before hval0 hW _ hsz hL _
  have hg : gs = [] := by
    obtain ⟨p, q, hA0, hV, rfl, hfz, hnd⟩ := hW
    exact (trodVars_none hV).1
  subst hg
  have hsz2 : (DataW.weightsEach Tryz.prog (Tryz.f7.params.toList ++ []) (ds ++ [])).all (· ≤ reachBytes) = true := hsz
  rw [List.append_nil, List.append_nil] at hsz2
  exact contract H enc W base args ds [] before hval0 hW (gl_of_laid hL) hsz2

theorem proved : Rows.WalDropsSaid :=
  OpenClaim.holds_of_wide 7 Tryz.f7 rfl rfl rfl rfl rfl rfl rfl ⟨rfl, rfl, rfl, rfl, rfl⟩ rfl rfl rfl rfl rfl (by kernel_rfl) Tryz.func7 (by kernel_rfl)
    (of_decide_eq_true (by kernel_rfl)) (by unfold Func.isWrapper; first | (rw [if_pos (by decide +kernel)]; kernel_rfl) | (rw [if_neg (by decide +kernel)]; exact ⟨rfl, rfl⟩))
    (fun os started H enc _ => lifted os started H enc)
end walDropsRow

/-- The card. -/
theorem walDrops_holds : Rows.WalDropsCardSaid :=
  Claim7.holds_tied_plain_at .later [] [.data, .data, .data, .sentinel, .sentinel] true (true, "607da9a8463012012585dd485d6ad78a1fcead4072f7b24c7c9d073b72f2d639") true
    walDropsRow.proved (fun _ h => by cases h) (by kernel_rfl) (fun _ h => by cases h) walDrops_row_tie rfl ⟨rfl, rfl⟩ (by kernel_rfl) rfl
    (fun f fn hf hfn => by
      obtain rfl : f = 7 := Option.some.inj ((show Tryz.prog.funcNamed "varve/varvelaw08.WalDrops" = some 7 by kernel_rfl).symm.trans hf) |>.symm
      obtain rfl : fn = Tryz.f7 := (Option.some.inj (Tryz.func7.symm.trans hfn)).symm
      exact ⟨by kernel_rfl, fun j t ht => by
        rw [Tryz.params7] at ht
        have hm : t ∈ [22, 22] := by simpa using Array.mem_of_getElem? ht
        have hall : ([22, 22].all fun u => !Tryz.prog.wantsStandIn u) = true := by kernel_rfl
        exact (show Tryz.prog.wantsStandIn t = false by simpa using List.all_eq_true.1 hall t hm)⟩)
    (by kernel_rfl)
#print axioms walDrops_holds
end Go.Proofs.YtgifcgniphncdaaGreatDoor
