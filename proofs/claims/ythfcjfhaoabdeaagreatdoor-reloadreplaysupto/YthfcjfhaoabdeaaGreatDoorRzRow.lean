/-
  ReloadReplays: for every list of rows, time and list of commits whose bulk is at most 1048576, which rows Replay leaves is what the document says; what is handed in stays. (The listed variables are those of the card.)
-/
import Derived.Test.YthfcjfhaoabdeaaGreatDoorRz1
import Derived.Test.YthfcjfhaoabdeaaGreatDoorRz2
import Derived.Test.YthfcjfhaoabdeaaGreatDoorRz3
import Derived.Test.YthfcjfhaoabdeaaGreatDoorRz5
import Derived.Test.YthfcjfhaoabdeaaGreatDoorRz6
import Derived.Test.YthfcjfhaoabdeaaGreatDoorRz8
import Derived.Test.YthfcjfhaoabdeaaGreatDoorRz9
import Derived.Test.YthfcjfhaoabdeaaGreatDoorRz10
import Derived.Test.YthfcjfhaoabdeaaGreatDoorRz11
import Derived.Test.YthfcjfhaoabdeaaGreatDoorRz12
import Derived.Test.YthfcjfhaoabdeaaGreatDoorRz14
import Derived.Test.YthfcjfhaoabdeaaGreatDoorRz15
import Derived.Test.YthfcjfhaoabdeaaGreatDoorRz16
import Derived.Test.YthfcjfhaoabdeaaGreatDoorRz17
import Derived.Test.YthfcjfhaoabdeaaGreatDoorRz18
import Derived.Test.YthfcjfhaoabdeaaGreatDoorRz19
import Derived.Test.YthfcjfhaoabdeaaGreatDoorRz20
import Derived.Test.YthfcjfhaoabdeaaGreatDoorRz22
import Derived.Test.YthfcjfhaoabdeaaGreatDoorRz23
import Derived.Test.YthfcjfhaoabdeaaGreatDoorRz24
import Derived.Test.YthfcjfhaoabdeaaGreatDoorRz25
import Derived.Test.YthfcjfhaoabdeaaGreatDoorRz26
import Derived.Test.YthfcjfhaoabdeaaGreatDoorRz27
import Derived.Test.YthfcjfhaoabdeaaGreatDoorRz28
import Derived.Test.YthfcjfhaoabdeaaGreatDoorRz29
import Derived.Test.YthfcjfhaoabdeaaGreatDoorRz30
import Derived.Test.YthfcjfhaoabdeaaGreatDoorRz31
import Derived.Test.YthfcjfhaoabdeaaGreatDoorRz32
import Derived.Test.YthfcjfhaoabdeaaGreatDoorRz33
import Derived.Test.YthfcjfhaoabdeaaGreatDoorRz34
import Derived.Test.YthfcjfhaoabdeaaGreatDoorRz35
import Derived.Test.YthfcjfhaoabdeaaGreatDoorRz36
import Derived.Test.YthfcjfhaoabdeaaGreatDoorRz37
import Derived.Test.YthfcjfhaoabdeaaGreatDoorRz38
import Derived.Test.YthfcjfhaoabdeaaGreatDoorRz40
import Derived.Test.YthfcjfhaoabdeaaGreatDoorRz41
import Derived.Test.YthfcjfhaoabdeaaGreatDoorRz42
import Derived.Test.YthfcjfhaoabdeaaGreatDoorRz44
import Derived.Test.YthfcjfhaoabdeaaGreatDoorRz45
import Derived.Test.YthfcjfhaoabdeaaGreatDoorRz47
import Derived.Test.YthfcjfhaoabdeaaGreatDoorRz48
import Derived.Test.YthfcjfhaoabdeaaGreatDoorRz51
import Derived.Test.YthfcjfhaoabdeaaGreatDoorRz52
import Derived.Test.YthfcjfhaoabdeaaGreatDoorRz53
import Derived.Test.YthfcjfhaoabdeaaGreatDoorRz54
import Derived.Test.YthfcjfhaoabdeaaGreatDoorRz56
import Derived.Test.YthfcjfhaoabdeaaGreatDoorRz57
import Derived.Test.YthfcjfhaoabdeaaGreatDoorRz58
import Derived.Test.YthfcjfhaoabdeaaGreatDoorRz59
import Derived.Test.YthfcjfhaoabdeaaGreatDoorRz60
import Derived.Test.YthfcjfhaoabdeaaGreatDoorRz61
import Derived.Test.YthfcjfhaoabdeaaGreatDoorRz62
import Derived.ProofKit
import Derived.OpenShut
import Derived.ShutString
import Derived.ChangeOld
import Derived.Below
import Derived.SizedLaws
import Derived.JoinedCond
import Derived.SevenTiedAt
import Derived.Deep.DeepHandedRow
namespace Go.Proofs.YthfcjfhaoabdeaaGreatDoor
namespace reloadReplaysRow
open Go.ChangeShapes Go.WideShapes Go.ChangeAt Go.RowKit
open Go.ChangeMaps (open_string shut_string)
set_option linter.unusedVariables false

theorem own : ownKnob Tryz.prog.godebug = none := by as_aux_lemma => kernel_rfl
theorem laidOut : laidOutB Tryz.prog = true := by as_aux_lemma => kernel_rfl

set_option maxRecDepth 100000 in
theorem contract (H : Type) (enc : TypeId × Value → H) (W : World) (base : Nat) (args : Array Value) (ds gs : List (DataW H)) (before : List MemPlace)
    (hval : ∀ (j : Nat) t v, Tryz.f3.params[j]? = some t → args[j]? = some v → Value.okWide Tryz.prog W .any base t v)
    (hW : DataW.Whole enc Tryz.prog Tryz.f3.params.toList Rows.reloadReplaysSpec.vars false W args.toList ds gs before) (hk : Rows.uptoSmall H ds = true) (HT : Lai W) :
    Calls Tryz.prog 3 args W fun e W' => ∃ v, e = .returned v ∧ Rows.reloadReplaysSpec.post enc Tryz.prog Tryz.f3 false true false false W args v W' := by
  have hW' := hW
  obtain ⟨p, q, hA0, hV, rfl, hfz, hnd⟩ := hW
  have hA : DataW.TrodAll enc Tryz.prog W 0 (fun _ => true) true Tryz.f3.params.toList args.toList ds p := hA0
  rw [Tryz.params3] at hA hval
  obtain ⟨v0, vs0, d0, ds0, p0, q0, hargs, rfl, rfl, k0, r0⟩ := trodAll_cons hA
  obtain ⟨v1, vs1, d1, ds1, p1, q1, rfl, rfl, rfl, k1, r1⟩ := trodAll_cons r0
  obtain ⟨v2, vs2, d2, ds2, p2, q2, rfl, rfl, rfl, k2, r2⟩ := trodAll_cons r1
  obtain ⟨rfl, rfl, rfl⟩ := trodAll_nil r2
  obtain rfl : args = #[v0, v1, v2] := by cases args; simp_all
  obtain ⟨rfl, rfl⟩ := trodVars_none hV
  have hbulk := of_decide_eq_true hk
  simp only [Rows.uptoBulkAll] at hbulk
  obtain ⟨o0, l0, c0, rfl⟩ := okWide_slice Tryz.underlying22 (hval 0 22 v0 rfl rfl)
  have lt0 : ∀ x ∈ p0, x.block < W.heap.size := by obtain ⟨m, hm⟩ := k0; exact DataW.trod_lt m _ _ _ hm
  obtain ⟨x0, y0, h0, u0, z0⟩ := open_rowsB k0 (by omega)
  obtain ⟨a1, rfl, rfl, rfl, w1⟩ := open_int Tryz.underlying2 (hval 1 2 v1 rfl rfl) k1
  have b1 := bounds_i64 w1
  obtain ⟨o2, l2, c2, rfl⟩ := okWide_slice Tryz.underlying23 (hval 2 23 v2 rfl rfl)
  have lt2 : ∀ x ∈ p2, x.block < W.heap.size := by obtain ⟨m, hm⟩ := k2; exact DataW.trod_lt m _ _ _ hm
  obtain ⟨x2, h2, u2⟩ := open_comsB k2 (by omega)
  clear hA0
  refine (reloadReplays_walk HT.1 HT.2 h0 u0 y0 z0 h2 u2 a1).mono fun e W' ⟨he, bel⟩ => ?_
  subst he
  exact ⟨_, rfl, _, _, _, [], _, [], hW', trodAll_mk1 (shut_bool Tryz.underlying4 _), (trodAll_cons_mk (Below.trod laidOut (by as_aux_lemma => kernel_rfl) (of_decide_eq_true (by as_aux_lemma => kernel_rfl)) k0 bel lt0) (trodAll_cons_mk (shut_int Tryz.underlying2 w1) (trodAll_cons_mk (Below.trod laidOut (by as_aux_lemma => kernel_rfl) (of_decide_eq_true (by as_aux_lemma => kernel_rfl)) k2 bel lt2) trodAll_mk0))), rfl, bel.frame _, fun h => by cases h⟩

set_option maxHeartbeats 8000000 in
set_option maxRecDepth 100000 in
theorem fits (os : Os) (H : Type) (enc : TypeId × Value → H) : ∃ (w : World) (tape : Tape) (i : Input), w.os = os ∧ (w.forCall tape i).Shaped Tryz.prog ∧ i.vars = [] ∧ Input.okWide Tryz.prog (w.forCall tape i) .any w.heap.size 3 i ∧
      (Rows.OpenSpec.upto Rows.reloadReplaysSpec).preRow enc Tryz.prog Tryz.f3 [] false Rows.reloadReplaysUptoRow.laid (w.forCall tape i).memory i.args ∧ ({} : Assume).holds Tryz.prog (lone (Frame.enter Tryz.prog 3 i.args .normal) [] (w.forCall tape i)) :=
  ⟨World.doorLaid Tryz.prog 400 os, fun _ _ => 0, ⟨#[], #[.slice none 0 0, .int .i64 0, .slice none 0 0], []⟩, rfl, World.shaped_of_RefB (by kernel_rfl) (by kernel_rfl), rfl, (Input.okWide_of_okWideB (by kernel_rfl)).2,
    ⟨⟨(OpenSpec.pre_some (s := Rows.OpenSpec.upto Rows.reloadReplaysSpec) (k := Rows.uptoSmall) rfl [] false _ _).2 ⟨[.nil, .lit (.int .i64 0), .nil], [], [], DataW.Whole_of_whole (fuel := 8) (x := ([.nil, .lit (.int .i64 0), .nil], [], [])) (by kernel_rfl), rfl, by kernel_rfl⟩, door_met os _⟩, sizedMet_of_sizedB (fuel := 8) (by kernel_rfl)⟩, by
    simp only [Assume.holds]
    exact ⟨by simp, by simp, fun _ => Modest.zero, by simp, by simp⟩⟩

set_option maxHeartbeats 8000000 in
set_option maxRecDepth 100000 in
theorem lifted (os : Os) (started : os.Started) (H : Type) (enc : TypeId × Value → H) (F : Stop.Interp) :
    ReturnsInHanded {} Tryz.checked os 3 .any (Rows.reloadReplaysUptoRow.pre enc Tryz.prog Tryz.f3 (Rows.OpenSpec.upto Rows.reloadReplaysSpec)) (((Rows.OpenSpec.upto Rows.reloadReplaysSpec).at F).post enc Tryz.prog Tryz.f3 false true false false) := by
  rw [OpenClaim.pre_eq_preRow]
  refine returnsInHanded_of_row (C := Tryz.checked) (s := Rows.OpenSpec.upto Rows.reloadReplaysSpec) own started (by as_aux_lemma => kernel_rfl) Tryz.func3 (fits os H enc) ?_
  intro W base args ds gs before hval0 hW _ hc _ hL _ _
  have hk := hc Rows.uptoSmall rfl
  have hg : gs = [] := by
    obtain ⟨p, q, hA0, hV, rfl, hfz, hnd⟩ := hW
    exact (trodVars_none hV).1
  subst hg
  rw [List.append_nil] at hk
  exact contract H enc W base args ds [] before hval0 hW hk (lai_of_laid hL)

set_option maxHeartbeats 8000000 in
theorem proved : Rows.ReloadReplaysUptoSaid :=
  OpenClaim.holds_of_cond 3 Tryz.f3 rfl rfl rfl rfl rfl rfl rfl ⟨rfl, rfl, rfl, rfl, rfl⟩ rfl rfl rfl rfl rfl (by as_aux_lemma => kernel_rfl) Tryz.func3 (by as_aux_lemma => kernel_rfl)
    (of_decide_eq_true (by as_aux_lemma => kernel_rfl)) (by unfold Func.isWrapper; first | (rw [if_pos (by decide +kernel)]; kernel_rfl) | (rw [if_neg (by decide +kernel)]; exact ⟨rfl, rfl⟩))
    (fun os started H enc _ F => lifted os started H enc F)
end reloadReplaysRow

set_option maxHeartbeats 8000000 in
/-- The card. -/
theorem reloadReplays_holds : Rows.ReloadReplaysUptoCardSaid :=
  Claim7.holds_tied_plain_at .later [] [.data, .data, .data, .handle, .sentinel, .sentinel] true (true, "81913041dcc745c862a929e90a6f9fa7a2989a155eab1df11db477494546fc45") true
    reloadReplaysRow.proved (fun _ h => by cases h) (by as_aux_lemma => kernel_rfl) (fun _ h => by cases h) reloadReplaysUpto_row_tie rfl ⟨rfl, rfl⟩ (by as_aux_lemma => kernel_rfl) rfl
    (fun f fn hf hfn => by
      obtain rfl : f = 3 := Option.some.inj ((show Tryz.prog.funcNamed "varve/varvelaw16.ReloadReplays" = some 3 by as_aux_lemma => kernel_rfl).symm.trans hf) |>.symm
      obtain rfl : fn = Tryz.f3 := (Option.some.inj (Tryz.func3.symm.trans hfn)).symm
      exact ⟨by as_aux_lemma => kernel_rfl, fun j t ht => by
        rw [Tryz.params3] at ht
        have hm : t ∈ [22, 2, 23] := by simpa using Array.mem_of_getElem? ht
        have hall : ([22, 2, 23].all fun u => !Tryz.prog.wantsStandIn u) = true := by as_aux_lemma => kernel_rfl
        exact (show Tryz.prog.wantsStandIn t = false by simpa using List.all_eq_true.1 hall t hm)⟩)
    (by as_aux_lemma => kernel_rfl)
#print axioms reloadReplays_holds
end Go.Proofs.YthfcjfhaoabdeaaGreatDoor
