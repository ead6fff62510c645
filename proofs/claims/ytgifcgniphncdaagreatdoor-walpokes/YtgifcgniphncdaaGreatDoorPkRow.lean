/-
  One byte that is another one, in any segment of a log of which all is flushed, is told, or makes no difference.
-/
import Derived.Test.YtgifcgniphncdaaGreatDoorPk1
import Derived.Test.YtgifcgniphncdaaGreatDoorPk2
import Derived.Test.YtgifcgniphncdaaGreatDoorPk3
import Derived.Test.YtgifcgniphncdaaGreatDoorPk4
import Derived.Test.YtgifcgniphncdaaGreatDoorPk5
import Derived.Test.YtgifcgniphncdaaGreatDoorPk6
import Derived.Test.YtgifcgniphncdaaGreatDoorPk7
import Derived.Test.YtgifcgniphncdaaGreatDoorPk8
import Derived.Test.YtgifcgniphncdaaGreatDoorPk9
import Derived.Test.YtgifcgniphncdaaGreatDoorPk10
import Derived.Test.YtgifcgniphncdaaGreatDoorPk11
import Derived.Test.YtgifcgniphncdaaGreatDoorPk12
import Derived.Test.YtgifcgniphncdaaGreatDoorPk13
import Derived.Test.YtgifcgniphncdaaGreatDoorPk14
import Derived.Test.YtgifcgniphncdaaGreatDoorPk15
import Derived.Test.YtgifcgniphncdaaGreatDoorPk16
import Derived.Test.YtgifcgniphncdaaGreatDoorPk17
import Derived.Test.YtgifcgniphncdaaGreatDoorPk18
import Derived.Test.YtgifcgniphncdaaGreatDoorPk19
import Derived.Test.YtgifcgniphncdaaGreatDoorPk20
import Derived.Test.YtgifcgniphncdaaGreatDoorPk21
import Derived.Test.YtgifcgniphncdaaGreatDoorPk22
import Derived.Test.YtgifcgniphncdaaGreatDoorPk23
import Derived.Test.YtgifcgniphncdaaGreatDoorPk24
import Derived.Test.YtgifcgniphncdaaGreatDoorPk25
import Derived.Test.YtgifcgniphncdaaGreatDoorPk26
import Derived.Test.YtgifcgniphncdaaGreatDoorPk27
import Derived.Test.YtgifcgniphncdaaGreatDoorPk28
import Derived.Test.YtgifcgniphncdaaGreatDoorPk29
import Derived.Test.YtgifcgniphncdaaGreatDoorPk30
import Derived.Test.YtgifcgniphncdaaGreatDoorPk31
import Derived.Test.YtgifcgniphncdaaGreatDoorPk32
import Derived.Test.YtgifcgniphncdaaGreatDoorPk33
import Derived.Test.YtgifcgniphncdaaGreatDoorPk34
import Derived.Test.YtgifcgniphncdaaGreatDoorPk35
import Derived.Test.YtgifcgniphncdaaGreatDoorPk36
import Derived.Test.YtgifcgniphncdaaGreatDoorPk37
import Derived.Test.YtgifcgniphncdaaGreatDoorPk38
import Derived.Test.YtgifcgniphncdaaGreatDoorPk39
import Derived.Test.YtgifcgniphncdaaGreatDoorPk40
import Derived.Test.YtgifcgniphncdaaGreatDoorPk41
import Derived.Test.YtgifcgniphncdaaGreatDoorPk42
import Derived.ProofKit
import Derived.OpenShut
import Derived.ShutString
import Derived.ChangeOld
import Derived.Below
import Derived.SizedLaws
import Derived.JoinedCond
import Derived.SevenTiedAt
namespace Go.Proofs.YtgifcgniphncdaaGreatDoor
namespace walPokesRow
open Go.ChangeShapes Go.WideShapes Go.ChangeAt Go.RowKit
set_option linter.unusedVariables false

theorem own : ownKnob Tryz.prog.godebug = none := by kernel_rfl
theorem laidOut : laidOutB Tryz.prog = true := by kernel_rfl

set_option maxRecDepth 100000 in
theorem contract (H : Type) (enc : TypeId × Value → H) (W : World) (base : Nat) (args : Array Value) (ds gs : List (DataW H)) (before : List MemPlace)
    (hval : ∀ (j : Nat) t v, Tryz.f6.params[j]? = some t → args[j]? = some v → Value.okWide Tryz.prog W .any base t v)
    (hW : DataW.Whole enc Tryz.prog Tryz.f6.params.toList Rows.walPokesSpec.vars false W args.toList ds gs before) (HT : Gl W.heap.size W)
    (hsz : (DataW.weightsEach Tryz.prog Tryz.f6.params.toList ds).all (· ≤ reachBytes) = true) :
    Calls Tryz.prog 6 args W fun e W' => ∃ v, e = .returned v ∧ Rows.walPokesSpec.post enc Tryz.prog Tryz.f6 false true false false W args v W' := by
  have hW' := hW
  obtain ⟨p, q, hA0, hV, rfl, hfz, hnd⟩ := hW
  have hA : DataW.TrodAll enc Tryz.prog W 0 (fun _ => true) true Tryz.f6.params.toList args.toList ds p := hA0
  rw [Tryz.params6] at hA hval hsz
  obtain ⟨v0, vs0, d0, ds0, p0, q0, hargs, rfl, rfl, k0, r0⟩ := trodAll_cons hA
  obtain ⟨v1, vs1, d1, ds1, p1, q1, rfl, rfl, rfl, k1, r1⟩ := trodAll_cons r0
  obtain ⟨v2, vs2, d2, ds2, p2, q2, rfl, rfl, rfl, k2, r2⟩ := trodAll_cons r1
  obtain ⟨v3, vs3, d3, ds3, p3, q3, rfl, rfl, rfl, k3, r3⟩ := trodAll_cons r2
  obtain ⟨v4, vs4, d4, ds4, p4, q4, rfl, rfl, rfl, k4, r4⟩ := trodAll_cons r3
  obtain ⟨rfl, rfl, rfl⟩ := trodAll_nil r4
  obtain rfl : args = #[v0, v1, v2, v3, v4] := by cases args; simp_all
  obtain ⟨rfl, rfl⟩ := trodVars_none hV
  obtain ⟨o0, l0, c0, rfl⟩ := okWide_slice Tryz.underlying22 (hval 0 22 v0 rfl rfl)
  have lt0 : ∀ x ∈ p0, x.block < W.heap.size := by obtain ⟨m, hm⟩ := k0; exact DataW.trod_lt m _ _ _ hm
  obtain ⟨x0, h0⟩ := open_script8 k0
  obtain ⟨o1, l1, c1, rfl⟩ := okWide_slice Tryz.underlying22 (hval 1 22 v1 rfl rfl)
  have lt1 : ∀ x ∈ p1, x.block < W.heap.size := by obtain ⟨m, hm⟩ := k1; exact DataW.trod_lt m _ _ _ hm
  obtain ⟨x1, h1⟩ := open_script8 k1
  obtain ⟨a2, rfl, rfl, rfl, w2⟩ := open_int Tryz.underlying3 (hval 2 3 v2 rfl rfl) k2
  have b2 := bounds_i64 w2
  obtain ⟨a3, rfl, rfl, rfl, w3⟩ := open_int Tryz.underlying3 (hval 3 3 v3 rfl rfl) k3
  have b3 := bounds_i64 w3
  obtain ⟨a4, rfl, rfl, rfl, w4⟩ := open_int Tryz.underlying5 (hval 4 5 v4 rfl rfl) k4
  have b4 := bounds_u8 w4
  clear hA0
  refine (walPokes_walk W HT (Nat.le_refl _) h0 h1 a2 a3 a4 b2.1 b2.2 b3.1 b3.2 b4.1 b4.2).mono fun e W' ⟨he, bel⟩ => ?_
  subst he
  exact ⟨_, rfl, _, _, _, [], _, [], hW', trodAll_mk1 (shut_bool Tryz.underlying4 _), (trodAll_cons_mk (Below.trod laidOut (by kernel_rfl) (of_decide_eq_true (by kernel_rfl)) k0 bel lt0) (trodAll_cons_mk (Below.trod laidOut (by kernel_rfl) (of_decide_eq_true (by kernel_rfl)) k1 bel lt1) (trodAll_cons_mk (shut_int Tryz.underlying3 w2) (trodAll_cons_mk (shut_int Tryz.underlying3 w3) (trodAll_cons_mk (shut_int Tryz.underlying5 w4) trodAll_mk0))))), rfl, bel.frame _, fun h => by cases h⟩

set_option maxRecDepth 100000 in
theorem lifted (os : Os) (started : os.Started) (H : Type) (enc : TypeId × Value → H) :
    ReturnsInHanded {} Tryz.checked os 6 .any (fun w args => (Rows.walPokesSpec.pre enc Tryz.prog Tryz.f6 [] false w args ∧ laidMetH Tryz.prog theLaid w) ∧ sizedMet enc Tryz.prog Tryz.f6 (OpenSpec.ofChange Rows.walPokesSpec) false w args)
      (Rows.walPokesSpec.post enc Tryz.prog Tryz.f6 false true false false) := by
  refine returnsInHanded_of_change_and (C := Tryz.checked) (X := fun w _ => laidMetH Tryz.prog theLaid w) (fun _ _ _ hh h => h.of_heap hh) own started (by kernel_rfl) Tryz.func6
    (ChangeSpec.witness_shaped (enc := enc) (C := Tryz.checked) (os := os) (X := fun w _ => laidMetH Tryz.prog theLaid w) false (World.doorLaid Tryz.prog 400 os) #[.slice none 0 0, .slice none 0 0, .int .i64 0, .int .i64 0, .int .u8 0] 8 rfl (World.shaped_of_RefB (by kernel_rfl) (by kernel_rfl)) (by kernel_rfl) (by kernel_rfl) (by kernel_rfl) (door_met os _)) ?_
  intro W base args ds gs before hval0 hW _ hsz hL _
  have hg : gs = [] := by
    obtain ⟨p, q, hA0, hV, rfl, hfz, hnd⟩ := hW
    exact (trodVars_none hV).1
  subst hg
  have hsz2 : (DataW.weightsEach Tryz.prog (Tryz.f6.params.toList ++ []) (ds ++ [])).all (· ≤ reachBytes) = true := hsz
  rw [List.append_nil, List.append_nil] at hsz2
  exact contract H enc W base args ds [] before hval0 hW (gl_of_laid hL) hsz2

theorem proved : Rows.WalPokesSaid :=
  OpenClaim.holds_of_wide 6 Tryz.f6 rfl rfl rfl rfl rfl rfl rfl ⟨rfl, rfl, rfl, rfl, rfl⟩ rfl rfl rfl rfl rfl (by kernel_rfl) Tryz.func6 (by kernel_rfl)
    (of_decide_eq_true (by kernel_rfl)) (by unfold Func.isWrapper; first | (rw [if_pos (by decide +kernel)]; kernel_rfl) | (rw [if_neg (by decide +kernel)]; exact ⟨rfl, rfl⟩))
    (fun os started H enc _ => lifted os started H enc)
end walPokesRow

/-- The card. -/
theorem walPokes_holds : Rows.WalPokesCardSaid :=
  Claim7.holds_tied_plain_at .later [] [.data, .data, .data, .sentinel, .sentinel] true (true, "607da9a8463012012585dd485d6ad78a1fcead4072f7b24c7c9d073b72f2d639") true
    walPokesRow.proved (fun _ h => by cases h) (by kernel_rfl) (fun _ h => by cases h) walPokes_row_tie rfl ⟨rfl, rfl⟩ (by kernel_rfl) rfl
    (fun f fn hf hfn => by
      obtain rfl : f = 6 := Option.some.inj ((show Tryz.prog.funcNamed "varve/varvelaw08.WalPokes" = some 6 by kernel_rfl).symm.trans hf) |>.symm
      obtain rfl : fn = Tryz.f6 := (Option.some.inj (Tryz.func6.symm.trans hfn)).symm
      exact ⟨by kernel_rfl, fun j t ht => by
        rw [Tryz.params6] at ht
        have hm : t ∈ [22, 22, 3, 3, 5] := by simpa using Array.mem_of_getElem? ht
        have hall : ([22, 22, 3, 3, 5].all fun u => !Tryz.prog.wantsStandIn u) = true := by kernel_rfl
        exact (show Tryz.prog.wantsStandIn t = false by simpa using List.all_eq_true.1 hall t hm)⟩)
    (by kernel_rfl)
#print axioms walPokes_holds
end Go.Proofs.YtgifcgniphncdaaGreatDoor
