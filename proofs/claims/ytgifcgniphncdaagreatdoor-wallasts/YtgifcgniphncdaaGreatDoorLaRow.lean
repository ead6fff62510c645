/-
  Behind a crash a log tells a beginning of all that was put, with all that was flushed, and goes on.
-/
import Derived.Test.YtgifcgniphncdaaGreatDoorLa1
import Derived.Test.YtgifcgniphncdaaGreatDoorLa2
import Derived.Test.YtgifcgniphncdaaGreatDoorLa3
import Derived.Test.YtgifcgniphncdaaGreatDoorLa4
import Derived.Test.YtgifcgniphncdaaGreatDoorLa5
import Derived.Test.YtgifcgniphncdaaGreatDoorLa6
import Derived.Test.YtgifcgniphncdaaGreatDoorLa7
import Derived.Test.YtgifcgniphncdaaGreatDoorLa8
import Derived.Test.YtgifcgniphncdaaGreatDoorLa9
import Derived.Test.YtgifcgniphncdaaGreatDoorLa10
import Derived.Test.YtgifcgniphncdaaGreatDoorLa11
import Derived.Test.YtgifcgniphncdaaGreatDoorLa12
import Derived.Test.YtgifcgniphncdaaGreatDoorLa13
import Derived.Test.YtgifcgniphncdaaGreatDoorLa14
import Derived.Test.YtgifcgniphncdaaGreatDoorLa15
import Derived.Test.YtgifcgniphncdaaGreatDoorLa16
import Derived.Test.YtgifcgniphncdaaGreatDoorLa17
import Derived.Test.YtgifcgniphncdaaGreatDoorLa18
import Derived.Test.YtgifcgniphncdaaGreatDoorLa19
import Derived.Test.YtgifcgniphncdaaGreatDoorLa20
import Derived.Test.YtgifcgniphncdaaGreatDoorLa21
import Derived.Test.YtgifcgniphncdaaGreatDoorLa22
import Derived.Test.YtgifcgniphncdaaGreatDoorLa23
import Derived.Test.YtgifcgniphncdaaGreatDoorLa24
import Derived.Test.YtgifcgniphncdaaGreatDoorLa25
import Derived.Test.YtgifcgniphncdaaGreatDoorLa26
import Derived.Test.YtgifcgniphncdaaGreatDoorLa27
import Derived.Test.YtgifcgniphncdaaGreatDoorLa28
import Derived.Test.YtgifcgniphncdaaGreatDoorLa29
import Derived.Test.YtgifcgniphncdaaGreatDoorLa30
import Derived.Test.YtgifcgniphncdaaGreatDoorLa31
import Derived.Test.YtgifcgniphncdaaGreatDoorLa32
import Derived.Test.YtgifcgniphncdaaGreatDoorLa33
import Derived.Test.YtgifcgniphncdaaGreatDoorLa34
import Derived.Test.YtgifcgniphncdaaGreatDoorLa35
import Derived.Test.YtgifcgniphncdaaGreatDoorLa36
import Derived.Test.YtgifcgniphncdaaGreatDoorLa37
import Derived.Test.YtgifcgniphncdaaGreatDoorLa38
import Derived.Test.YtgifcgniphncdaaGreatDoorLa39
import Derived.Test.YtgifcgniphncdaaGreatDoorLa40
import Derived.ProofKit
import Derived.OpenShut
import Derived.ShutString
import Derived.ChangeOld
import Derived.Below
import Derived.SizedLaws
import Derived.JoinedCond
import Derived.SevenTiedAt
namespace Go.Proofs.YtgifcgniphncdaaGreatDoor
namespace walLastsRow
open Go.ChangeShapes Go.WideShapes Go.ChangeAt Go.RowKit
set_option linter.unusedVariables false

theorem own : ownKnob Tryz.prog.godebug = none := by kernel_rfl
theorem laidOut : laidOutB Tryz.prog = true := by kernel_rfl

set_option maxRecDepth 100000 in
theorem contract (H : Type) (enc : TypeId × Value → H) (W : World) (base : Nat) (args : Array Value) (ds gs : List (DataW H)) (before : List MemPlace)
    (hval : ∀ (j : Nat) t v, Tryz.f5.params[j]? = some t → args[j]? = some v → Value.okWide Tryz.prog W .any base t v)
    (hW : DataW.Whole enc Tryz.prog Tryz.f5.params.toList Rows.walLastsSpec.vars false W args.toList ds gs before) (HT : Gl W.heap.size W)
    (hsz : (DataW.weightsEach Tryz.prog Tryz.f5.params.toList ds).all (· ≤ reachBytes) = true) :
    Calls Tryz.prog 5 args W fun e W' => ∃ v, e = .returned v ∧ Rows.walLastsSpec.post enc Tryz.prog Tryz.f5 false true false false W args v W' := by
  have hW' := hW
  obtain ⟨p, q, hA0, hV, rfl, hfz, hnd⟩ := hW
  have hA : DataW.TrodAll enc Tryz.prog W 0 (fun _ => true) true Tryz.f5.params.toList args.toList ds p := hA0
  rw [Tryz.params5] at hA hval hsz
  obtain ⟨v0, vs0, d0, ds0, p0, q0, hargs, rfl, rfl, k0, r0⟩ := trodAll_cons hA
  obtain ⟨v1, vs1, d1, ds1, p1, q1, rfl, rfl, rfl, k1, r1⟩ := trodAll_cons r0
  obtain ⟨v2, vs2, d2, ds2, p2, q2, rfl, rfl, rfl, k2, r2⟩ := trodAll_cons r1
  obtain ⟨v3, vs3, d3, ds3, p3, q3, rfl, rfl, rfl, k3, r3⟩ := trodAll_cons r2
  obtain ⟨v4, vs4, d4, ds4, p4, q4, rfl, rfl, rfl, k4, r4⟩ := trodAll_cons r3
  obtain ⟨v5, vs5, d5, ds5, p5, q5, rfl, rfl, rfl, k5, r5⟩ := trodAll_cons r4
  obtain ⟨rfl, rfl, rfl⟩ := trodAll_nil r5
  obtain rfl : args = #[v0, v1, v2, v3, v4, v5] := by cases args; simp_all
  obtain ⟨rfl, rfl⟩ := trodVars_none hV
  obtain ⟨o0, l0, c0, rfl⟩ := okWide_slice Tryz.underlying22 (hval 0 22 v0 rfl rfl)
  have lt0 : ∀ x ∈ p0, x.block < W.heap.size := by obtain ⟨m, hm⟩ := k0; exact DataW.trod_lt m _ _ _ hm
  obtain ⟨x0, h0⟩ := open_script8 k0
  obtain ⟨a1, rfl, rfl, rfl, w1⟩ := open_int Tryz.underlying3 (hval 1 3 v1 rfl rfl) k1
  have b1 := bounds_i64 w1
  obtain ⟨u2, t2, y2, rfl⟩ := open_fate8 (hval 2 39 v2 rfl rfl) k2
  have lt2 : ∀ x ∈ p2, x.block < W.heap.size := by obtain ⟨m, hm⟩ := k2; exact DataW.trod_lt m _ _ _ hm
  obtain ⟨o3, l3, c3, rfl⟩ := okWide_slice Tryz.underlying22 (hval 3 22 v3 rfl rfl)
  have lt3 : ∀ x ∈ p3, x.block < W.heap.size := by obtain ⟨m, hm⟩ := k3; exact DataW.trod_lt m _ _ _ hm
  obtain ⟨x3, h3⟩ := open_script8 k3
  obtain ⟨a4, rfl, rfl, rfl, w4⟩ := open_int Tryz.underlying3 (hval 4 3 v4 rfl rfl) k4
  have b4 := bounds_i64 w4
  obtain ⟨u5, t5, y5, rfl⟩ := open_fate8 (hval 5 39 v5 rfl rfl) k5
  have lt5 : ∀ x ∈ p5, x.block < W.heap.size := by obtain ⟨m, hm⟩ := k5; exact DataW.trod_lt m _ _ _ hm
  clear hA0
  refine (walLasts_walk W HT (Nat.le_refl _) h0 a1 b1.1 b1.2 u2 t2 y2 h3 a4 b4.1 b4.2 u5 t5 y5).mono fun e W' ⟨he, bel⟩ => ?_
  subst he
  exact ⟨_, rfl, _, _, _, [], _, [], hW', trodAll_mk1 (shut_bool Tryz.underlying4 _), (trodAll_cons_mk (Below.trod laidOut (by kernel_rfl) (of_decide_eq_true (by kernel_rfl)) k0 bel lt0) (trodAll_cons_mk (shut_int Tryz.underlying3 w1) (trodAll_cons_mk (Below.trod laidOut (by kernel_rfl) (of_decide_eq_true (by kernel_rfl)) k2 bel lt2) (trodAll_cons_mk (Below.trod laidOut (by kernel_rfl) (of_decide_eq_true (by kernel_rfl)) k3 bel lt3) (trodAll_cons_mk (shut_int Tryz.underlying3 w4) (trodAll_cons_mk (Below.trod laidOut (by kernel_rfl) (of_decide_eq_true (by kernel_rfl)) k5 bel lt5) trodAll_mk0)))))), rfl, bel.frame _, fun h => by cases h⟩

set_option maxRecDepth 100000 in
theorem lifted (os : Os) (started : os.Started) (H : Type) (enc : TypeId × Value → H) :
    ReturnsInHanded {} Tryz.checked os 5 .any (fun w args => (Rows.walLastsSpec.pre enc Tryz.prog Tryz.f5 [] false w args ∧ laidMetH Tryz.prog theLaid w) ∧ sizedMet enc Tryz.prog Tryz.f5 (OpenSpec.ofChange Rows.walLastsSpec) false w args)
      (Rows.walLastsSpec.post enc Tryz.prog Tryz.f5 false true false false) := by
  refine returnsInHanded_of_change_and (C := Tryz.checked) (X := fun w _ => laidMetH Tryz.prog theLaid w) (fun _ _ _ hh h => h.of_heap hh) own started (by kernel_rfl) Tryz.func5
    (ChangeSpec.witness_shaped (enc := enc) (C := Tryz.checked) (os := os) (X := fun w _ => laidMetH Tryz.prog theLaid w) false (World.doorLaid Tryz.prog 400 os) #[.slice none 0 0, .int .i64 0, .agg #[.int .i64 0, .int .i64 0, .int .i64 0], .slice none 0 0, .int .i64 0, .agg #[.int .i64 0, .int .i64 0, .int .i64 0]] 8 rfl (World.shaped_of_RefB (by kernel_rfl) (by kernel_rfl)) (by kernel_rfl) (by kernel_rfl) (by kernel_rfl) (door_met os _)) ?_
  intro W base args ds gs before hval0 hW _ hsz hL _
  have hg : gs = [] := by
    obtain ⟨p, q, hA0, hV, rfl, hfz, hnd⟩ := hW
    exact (trodVars_none hV).1
  subst hg
  have hsz2 : (DataW.weightsEach Tryz.prog (Tryz.f5.params.toList ++ []) (ds ++ [])).all (· ≤ reachBytes) = true := hsz
  rw [List.append_nil, List.append_nil] at hsz2
  exact contract H enc W base args ds [] before hval0 hW (gl_of_laid hL) hsz2

theorem proved : Rows.WalLastsSaid :=
  OpenClaim.holds_of_wide 5 Tryz.f5 rfl rfl rfl rfl rfl rfl rfl ⟨rfl, rfl, rfl, rfl, rfl⟩ rfl rfl rfl rfl rfl (by kernel_rfl) Tryz.func5 (by kernel_rfl)
    (of_decide_eq_true (by kernel_rfl)) (by unfold Func.isWrapper; first | (rw [if_pos (by decide +kernel)]; kernel_rfl) | (rw [if_neg (by decide +kernel)]; exact ⟨rfl, rfl⟩))
    (fun os started H enc _ => lifted os started H enc)
end walLastsRow

/-- The card. -/
theorem walLasts_holds : Rows.WalLastsCardSaid :=
  Claim7.holds_tied_plain_at .later [] [.data, .data, .data, .sentinel, .sentinel] true (true, "607da9a8463012012585dd485d6ad78a1fcead4072f7b24c7c9d073b72f2d639") true
    walLastsRow.proved (fun _ h => by cases h) (by kernel_rfl) (fun _ h => by cases h) walLasts_row_tie rfl ⟨rfl, rfl⟩ (by kernel_rfl) rfl
    (fun f fn hf hfn => by
      obtain rfl : f = 5 := Option.some.inj ((show Tryz.prog.funcNamed "varve/varvelaw08.WalLasts" = some 5 by kernel_rfl).symm.trans hf) |>.symm
      obtain rfl : fn = Tryz.f5 := (Option.some.inj (Tryz.func5.symm.trans hfn)).symm
      exact ⟨by kernel_rfl, fun j t ht => by
        rw [Tryz.params5] at ht
        have hm : t ∈ [22, 3, 39, 22, 3, 39] := by simpa using Array.mem_of_getElem? ht
        have hall : ([22, 3, 39, 22, 3, 39].all fun u => !Tryz.prog.wantsStandIn u) = true := by kernel_rfl
        exact (show Tryz.prog.wantsStandIn t = false by simpa using List.all_eq_true.1 hall t hm)⟩)
    (by kernel_rfl)
#print axioms walLasts_holds
end Go.Proofs.YtgifcgniphncdaaGreatDoor
