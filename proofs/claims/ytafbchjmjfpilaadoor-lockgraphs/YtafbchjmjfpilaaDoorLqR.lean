/-
  LqR: A region that only reads, in a round of a range over a function: one walk in the text's order serves every order. No program in sight.
-/
import Derived.Test.YtafbchjmjfpilaaDoorRows
import Derived.Sort.QuietIn
import Derived.RangeFuncCalls
import Derived.OwnWalkIn
set_option linter.unusedVariables false
namespace Go.Proofs.YtafbchjmjfpilaaDoor
open Go

/-- No deferred call. -/
def calm (o : Oper) : Bool := match o.op with
  | .defer _ => false
  | _ => true
theorem calm_spec {o : Oper} (h : calm o = true) : ∀ c, o.op ≠ .defer c := fun c e => by unfold calm at h; rw [e] at h; cases h

section
variable {F : Fence} {n : Nat} {P : Program} {ops : Array Oper} {md : Region.Mode} {C : World → Prop}

theorem round_oper {o : Oper} {a : Act} {K : Act → Prop} {K' : Act → World → Prop} {Q' : Exit → Act → World → Prop} {w : World} (l : Nat) (hd : calm o = true) (hw : C w) (h : ∀ a w', C w' → K a → K' a w')
    (ha : o.askedIn F P a C) (hh : o.quietIn F n P a C K) : o.wpIn (F.inRound l) n P a w K' Q' := by
  obtain ⟨v, h1, h2⟩ := hh
  have h3 := h1 w hw
  unfold Oper.quietAtIn at h3
  refine ⟨ha w hw, ?_⟩
  rw [Oper.semAt_eq _ _ _ (calm_spec hd)]
  generalize (execOp a.eval o).run P w = r at *
  match r, h3 with
  | .ok (.value u) w', e => obtain ⟨e1, e2⟩ := e; subst e1; subst e2; exact h _ _ hw h2
  | .ok .skip w', e => obtain ⟨e1, e2⟩ := e; subst e1; subst e2; exact h _ _ hw h2
  | .ok (.enter f args) w', e =>
    obtain ⟨e1, e2, e3⟩ := e
    subst e1
    exact ⟨e2, (CallsIn.inRound l e3).mono fun e w'' ⟨he, hw''⟩ => by subst he; exact h _ _ hw'' h2⟩

theorem round_any {Q : Act → Prop} {Q' : Exit → Act → World → Prop} (l : Nat) (hd : ∀ (i : Nat) o, ops[i]? = some o → calm o = true) (hQ : ∀ a w, C w → Q a → Q' .normal a w) : ∀ (fuel : Nat) (listed : Array Bool) (a : Act) (w : World), C w →
    wpAnyQIn F n P md ops C Q fuel listed a → wpAnyIn (F.inRound l) n P md ops Q' fuel listed a w := by
  intro fuel
  induction fuel with
  | zero => intro listed a w hw h; exact ⟨h.1, hQ _ _ hw h.2⟩
  | succ fuel ih =>
    intro listed a w hw h
    refine ⟨fun h0 => hQ _ _ hw (h.1 h0), fun i hi => ?_⟩
    have hh := h.2 i hi
    unfold qOpIn at hh
    unfold wpOpIn
    cases ho : ops[i]? with
    | none => simp only [ho] at hh; exact ih _ _ _ hw hh
    | some o =>
      simp only [ho] at hh
      obtain ⟨ha, hh⟩ := hh
      by_cases hwt : Region.wanted o (yielded ops a.tmps) = true
      · simp only [hwt, if_true] at hh ⊢
        exact round_oper l (hd i o ho) hw (fun a' w' hw' => ih _ a' w' hw') ha hh
      · simp only [hwt] at hh ⊢
        exact ⟨ha w hw, ih _ _ _ hw hh⟩

theorem round_region {id : Nat} {Q : Exit → Act → World → Prop} {a : Act} {w : World} {lst : List Oper} (l : Nat) (hm : P.follows .mixedOrders = true) (hB : Region.lexB .any lst.toArray = true) (hd : lst.all calm = true)
    (h : wpQuietIn F n P lst.toArray (fun w' => ∃ n, w' = w.drewN n) (fun a' => ∀ w', (∃ n, w' = w.drewN n) → Q .normal a' w') lst a) : (Code.region id lst.toArray true).wpIn (F.inRound l) n P Q a w := by
  simp only [Region.lexB, Bool.and_eq_true] at hB
  have hd2 : ∀ (i : Nat) o, lst.toArray[i]? = some o → calm o = true := fun i o ho => List.all_eq_true.1 hd o (by
    rw [List.getElem?_toArray] at ho
    exact List.mem_of_getElem? ho)
  refine wpIn_region_any hm (round_any (C := fun w' => ∃ n, w' = w.drewN n) (Q := fun a' => ∀ w', (∃ n, w' = w.drewN n) → Q .normal a' w') l hd2 (fun _ w' hw' h => h w' hw') _ _ _ _ ⟨1, rfl⟩ ?_)
  have := wpAnyQIn_lex (F := F) (n := n) (C := fun w' => ∃ n, w' = w.drewN n) (md := .any) hB.1 lst 0 (Array.replicate lst.toArray.size false) a (by simp) (by simpa using hB.2) (by simpa using h)
  simpa using this
end
end Go.Proofs.YtafbchjmjfpilaaDoor
