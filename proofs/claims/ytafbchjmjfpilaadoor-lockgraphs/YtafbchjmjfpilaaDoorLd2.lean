/-
  Ld2: Which one of a cycle goes, by the program (LockVictims).
-/
import Derived.Test.YtafbchjmjfpilaaDoorLd1
import Derived.Test.YtafbchjmjfpilaaDoorLqR
set_option linter.unusedVariables false
set_option linter.unusedSimpArgs false
namespace Go.Proofs.YtafbchjmjfpilaaDoor
open Go.RowKit Go.Shelf
attribute [local go_sem] Oper.semAt_some

/-- The one that goes, step by step. -/
def vs1 (l : List Int) (s : Nat × Bool) (a : Nat) : Nat × Bool := if s.2 = false ∨ ag l s.1 < ag l a then (a, true) else s
def vst (l : List Int) (pre : List Nat) : Nat × Bool := pre.foldl (vs1 l) (0, false)
theorem vst_snoc (l : List Int) (pre : List Nat) (a : Nat) : vst l (pre ++ [a]) = vs1 l (vst l pre) a := by unfold vst; rw [List.foldl_append]; rfl
theorem vst_ok (l : List Int) : ∀ (n : Nat) (pre : List Nat), pre.length = n → pre.Pairwise (· < ·) → (pre = [] ∧ vst l pre = (0, false)) ∨ ∃ v, Lk.Vc (ag l) pre v ∧ vst l pre = (v, true) := by
  intro n
  induction n with
  | zero => intro pre h _; exact .inl ⟨List.length_eq_zero_iff.1 h, by rw [List.length_eq_zero_iff.1 h]; rfl⟩
  | succ n ih =>
    intro pre h hs
    obtain ⟨q, a, rfl⟩ : ∃ q a, pre = q ++ [a] := by
      have hne : pre ≠ [] := fun e => by subst e; simp at h
      exact ⟨pre.dropLast, pre.getLast hne, (List.dropLast_concat_getLast hne).symm⟩
    have hs' := List.pairwise_append.1 hs
    refine .inr ?_
    rw [vst_snoc]
    rcases ih q (by simpa using h) hs'.1 with ⟨rfl, e⟩ | ⟨v, hv, e⟩
    · rw [e]; exact ⟨a, Lk.Vc.one _ _, by simp [vs1]⟩
    · rw [e]
      have hva : v < a := hs'.2.2 v hv.mem a (by simp)
      by_cases c : ag l v < ag l a
      · exact ⟨a, hv.new (.inl c), by simp [vs1, c]⟩
      · exact ⟨v, hv.old (by omega), by simp [vs1, c]⟩
theorem rds_rise (x : Nat) : (Lk.rds x).Pairwise (· < ·) := List.Pairwise.filter _ List.pairwise_lt_range
theorem mem_cm {cs : List Int} {k : Nat} : k ∈ Lk.rds (cm cs) ↔ k ∈ wk cs := by
  rw [Lk.mem_rds]
  unfold cm
  rw [Lk.cme_bit]
  constructor
  · rintro ⟨_, h⟩; simpa using h
  · intro h; exact ⟨wk_lt k h, by simpa using h⟩
theorem vic_of {cs l : List Int} (hall : cs.all isW = true) : vic cs l (((vst l (Lk.rds (cm cs))).1 : Int), (vst l (Lk.rds (cm cs))).2) := by
  rcases vst_ok l _ (Lk.rds (cm cs)) rfl (rds_rise _) with ⟨h, e⟩ | ⟨v, hv, e⟩
  · rw [e]
    refine .inr ⟨.inl ?_, rfl⟩
    cases cs with
    | nil => rfl
    | cons x cs =>
      have hx : isW x = true := by simp at hall; exact hall.1
      have : x.toNat ∈ Lk.rds (cm (x :: cs)) := mem_cm.2 (by unfold wk; simp [hx])
      rw [h] at this; cases this
  · rw [e]
    refine .inl ⟨hall, fun q => ?_, v, vc_set hv (fun k => mem_cm), rfl⟩
    subst q
    have := mem_cm.1 hv.mem
    cases this

section
set_option maxHeartbeats 4000000
set_option maxRecDepth 100000
variable {w : World} {ao bo : Option Addr} {len cap len2 cap2 : Nat} {cs l : List Int}
end
end Go.Proofs.YtafbchjmjfpilaaDoor
