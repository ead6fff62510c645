/-
  LqH: A region that draws its order, in a round, walked as everywhere. No program in sight.
-/
import Derived.Test.YtafbchjmjfpilaaDoorLqR
import Derived.Deep.RegionHeld3
set_option linter.unusedVariables false
namespace Go.Proofs.YtafbchjmjfpilaaDoor
open Go

/-- The normal way out alone. -/
def Only (Q : Exit → Act → World → Prop) : Exit → Act → World → Prop
  | .normal, a, w => Q .normal a w
  | _, _, _ => False
theorem only_in {Q : Exit → Act → World → Prop} : ¬ LetsOut (Only Q) := fun ⟨_, _, h⟩ => h
theorem only_imp {Q : Exit → Act → World → Prop} : ∀ e a w, Only Q e a w → Q e a w := fun e a w h => by cases e <;> first | exact h | exact (h : False).elim

section
variable {n : Nat} {P : Program} {ops : Array Oper} {md : Region.Mode} {Q : Exit → Act → World → Prop}

theorem plain_oper {o : Oper} {a : Act} {K K' : Act → World → Prop} {w : World} (l : Nat) (hd : calm o = true) (hK : ∀ a w, K a w → K' a w) (h : o.wp P a w K (Only Q)) : o.wpIn (Fence.wide.inRound l) n P a w K' Q := by
  refine ⟨fun _ _ => trivial, ?_⟩
  rw [Oper.semAt_eq _ _ _ (calm_spec hd)]
  unfold Oper.wp at h
  generalize (execOp a.eval o).run P w = r at *
  match r, h with
  | .ok (.value u) w', e => exact hK _ _ e
  | .ok .skip w', e => exact hK _ _ e
  | .ok (.defer d) w', e => exact hK _ _ e
  | .ok (.enter f args) w', e =>
    refine ⟨fun q => (by cases q), (CallsIn.inRound l (callsIn_wide.2 e)).mono fun e2 w2 h2 => ?_⟩
    cases e2 with
    | returned v => exact hK _ _ h2
    | panicked c => exact (h2 : False).elim
    | outgrown => exact (only_in h2).elim
  | .ok (.row row args) w', e =>
    refine ⟨fun q => (by cases q), fun c cs _ => ?_⟩
    obtain ⟨v, w2, r2, s⟩ := e c cs
    exact ⟨v, w2, hK _ _ r2, stepsIn_wide.2 s⟩
  | .halt (.panic v) w', e => exact (e : False).elim

theorem plain_any (l : Nat) (hd : ∀ (i : Nat) o, ops[i]? = some o → calm o = true) : ∀ (fuel : Nat) (listed : Array Bool) (a : Act) (w : World),
    wpAny P md ops (Only Q) fuel listed a w → wpAnyIn (Fence.wide.inRound l) n P md ops Q fuel listed a w := by
  intro fuel
  induction fuel with
  | zero => intro listed a w h; exact h
  | succ fuel ih =>
    intro listed a w h
    refine ⟨fun h0 => h.1 h0, fun i hi => ?_⟩
    have hh := h.2 i hi
    unfold wpOp at hh
    unfold wpOpIn
    cases ho : ops[i]? with
    | none => simp only [ho] at hh; exact ih _ _ _ hh
    | some o =>
      simp only [ho] at hh
      by_cases hwt : Region.wanted o (yielded ops a.tmps) = true
      · simp only [hwt, if_true] at hh ⊢
        rcases hh with hh | ⟨_, hh⟩
        · exact plain_oper l (hd i o ho) (fun a' w' => ih _ a' w') hh
        · exact (only_in hh).elim
      · simp only [hwt] at hh ⊢
        exact ⟨fun _ _ => trivial, ih _ _ _ hh⟩

theorem round_held {id : Nat} {a : Act} {w : World} {lst : List Oper} {S : World → Prop} (l : Nat) (hm : P.follows .mixedOrders = true) (hd : lst.all calm = true) (hS : S w.drew)
    (h : S w.drew → wpAnyH P .any lst.toArray (Only Q) S lst.toArray.size (Array.replicate lst.toArray.size false) a w.drew) : (Code.region id lst.toArray true).wpIn (Fence.wide.inRound l) n P Q a w := by
  have hd2 : ∀ (i : Nat) o, lst.toArray[i]? = some o → calm o = true := fun i o ho => List.all_eq_true.1 hd o (by
    rw [List.getElem?_toArray] at ho
    exact List.mem_of_getElem? ho)
  exact wpIn_region_any hm (plain_any l hd2 _ _ _ _ (wpAny_of_held _ _ _ _ (h hS)))
end
end Go.Proofs.YtafbchjmjfpilaaDoor
