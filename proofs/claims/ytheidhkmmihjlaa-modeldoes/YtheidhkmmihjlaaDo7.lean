/-
  Ck0: Rows by rising keys, without memory: put, taken away, told apart into what is new and what is gone, and put together again.
-/
import Derived.Test.YtheidhkmmihjlaaRows
set_option linter.unusedVariables false
set_option linter.unusedSimpArgs false
set_option linter.unusedSectionVars false
namespace Go.Proofs.Ytheidhkmmihjlaa
namespace Ck

/-- An order of keys. -/
structure Od {κ : Type} (lt : κ → κ → Prop) : Prop where
  irr : ∀ a, ¬ lt a a
  tr : ∀ a b c, lt a b → lt b c → lt a c
  tot : ∀ a b, lt a b ∨ a = b ∨ lt b a

section
variable {κ ρ : Type} [DecidableEq κ] [DecidableEq ρ] {lt : κ → κ → Prop} [DecidableRel lt] {key : ρ → κ} {l m old now : List ρ} {x y r : ρ} {j i : Nat}

/-- By rising keys. -/
def Ris (lt : κ → κ → Prop) (key : ρ → κ) (l : List ρ) : Prop := l.Pairwise fun a b => lt (key a) (key b)

theorem Ris.inj (o : Od lt) : ∀ {l : List ρ}, Ris lt key l → ∀ {x y : ρ}, x ∈ l → y ∈ l → key x = key y → x = y := by
  intro l
  induction l with
  | nil => intro _ x y hx; cases hx
  | cons a l ih =>
    intro h x y hx hy e
    have h' := List.pairwise_cons.1 h
    rcases List.mem_cons.1 hx with p | p <;> rcases List.mem_cons.1 hy with q | q
    · rw [p, q]
    · have := h'.1 y q; rw [← p, e] at this; exact absurd this (o.irr _)
    · have := h'.1 x p; rw [← q, e] at this; exact absurd this (o.irr _)
    · exact ih h'.2 p q e

/-- Rows by rising keys are one to one with what they have. -/
theorem Ris.eq (o : Od lt) : ∀ {l m : List ρ}, Ris lt key l → Ris lt key m → (∀ x, x ∈ l ↔ x ∈ m) → l = m := by
  intro l
  induction l with
  | nil =>
    intro m _ _ h
    cases m with
    | nil => rfl
    | cons b m => have := (h b).2 List.mem_cons_self; cases this
  | cons a l ih =>
    intro m hl hm h
    cases m with
    | nil => have := (h a).1 List.mem_cons_self; cases this
    | cons b m =>
      have hl' := List.pairwise_cons.1 hl
      have hm' := List.pairwise_cons.1 hm
      have e : a = b := by
        rcases List.mem_cons.1 ((h a).1 List.mem_cons_self) with p | p
        · exact p
        · rcases List.mem_cons.1 ((h b).2 List.mem_cons_self) with q | q
          · exact q.symm
          · exact absurd (o.tr _ _ _ (hm'.1 a p) (hl'.1 b q)) (o.irr _)
      subst e
      rw [ih hl'.2 hm'.2 (fun x => ?_)]
      constructor
      · intro p
        rcases List.mem_cons.1 ((h x).1 (List.mem_cons_of_mem _ p)) with q | q
        · have := hl'.1 x p; rw [q] at this; exact absurd this (o.irr _)
        · exact q
      · intro p
        rcases List.mem_cons.1 ((h x).2 (List.mem_cons_of_mem _ p)) with q | q
        · have := hm'.1 x p; rw [q] at this; exact absurd this (o.irr _)
        · exact q

/-- A row, in the place of that of its key. -/
def put (lt : κ → κ → Prop) [DecidableRel lt] (key : ρ → κ) (r : ρ) : List ρ → List ρ
  | [] => [r]
  | a :: l => if lt (key a) (key r) then a :: put lt key r l else if key a = key r then r :: l else r :: a :: l

theorem mem_put (o : Od lt) : ∀ {l : List ρ}, Ris lt key l → ∀ {x : ρ}, x ∈ put lt key r l ↔ x = r ∨ x ∈ l ∧ key x ≠ key r := by
  intro l
  induction l with
  | nil => intro _ x; simp [put]
  | cons a l ih =>
    intro h x
    have h' := List.pairwise_cons.1 h
    unfold put
    split
    · next q =>
      rw [List.mem_cons, ih h'.2, List.mem_cons]
      constructor
      · rintro (p | p | p)
        · exact .inr ⟨.inl p, fun e => by rw [← p] at q; rw [e] at q; exact o.irr _ q⟩
        · exact .inl p
        · exact .inr ⟨.inr p.1, p.2⟩
      · rintro (p | ⟨p | p, e⟩)
        · exact .inr (.inl p)
        · exact .inl p
        · exact .inr (.inr ⟨p, e⟩)
    · next q =>
      have far : ∀ z ∈ l, ¬ lt (key a) (key r) → key z ≠ key r := fun z hz n e => by
        have := h'.1 z hz; rw [e] at this; exact n this
      split
      · next e =>
        rw [List.mem_cons, List.mem_cons]
        constructor
        · rintro (p | p)
          · exact .inl p
          · exact .inr ⟨.inr p, far x p q⟩
        · rintro (p | ⟨p | p, n⟩)
          · exact .inl p
          · rw [p] at n; exact absurd e n
          · exact .inr p
      · next e =>
        rw [List.mem_cons, List.mem_cons]
        constructor
        · rintro (p | p | p)
          · exact .inl p
          · exact .inr ⟨.inl p, by rw [p]; exact e⟩
          · exact .inr ⟨.inr p, far x p q⟩
        · rintro (p | ⟨p, _⟩)
          · exact .inl p
          · exact .inr p

theorem put_ris (o : Od lt) : ∀ {l : List ρ}, Ris lt key l → Ris lt key (put lt key r l) := by
  intro l
  induction l with
  | nil => intro _; exact List.pairwise_singleton _ _
  | cons a l ih =>
    intro h
    have h' := List.pairwise_cons.1 h
    unfold put
    split
    · next q =>
      refine List.pairwise_cons.2 ⟨fun z hz => ?_, ih h'.2⟩
      rcases (mem_put o h'.2).1 hz with p | p
      · rw [p]; exact q
      · exact h'.1 z p.1
    · next q =>
      split
      · next e =>
        refine List.pairwise_cons.2 ⟨fun z hz => ?_, h'.2⟩
        rw [← e]; exact h'.1 z hz
      · next e =>
        have hr : lt (key r) (key a) := by
          rcases o.tot (key a) (key r) with p | p | p
          · exact absurd p q
          · exact absurd p e
          · exact p
        refine List.pairwise_cons.2 ⟨fun z hz => ?_, h⟩
        rcases List.mem_cons.1 hz with p | p
        · rw [p]; exact hr
        · exact o.tr _ _ _ hr (h'.1 z p)

/-- As a loop makes it: those below it, it itself, the rest. -/
theorem put_at : ∀ {l : List ρ} {i : Nat}, i ≤ l.length → (∀ z ∈ l.take i, lt (key z) (key r)) → (∀ z, l[i]? = some z → ¬ lt (key z) (key r)) →
    put lt key r l = l.take i ++ r :: (match l[i]? with | some z => if key z = key r then l.drop (i + 1) else l.drop i | none => []) := by
  intro l
  induction l with
  | nil => intro i hi _ _; simp at hi; subst hi; rfl
  | cons a l ih =>
    intro i hi hb ha
    cases i with
    | zero =>
      have n := ha a rfl
      unfold put
      rw [if_neg n]
      show _ = r :: (if key a = key r then l else a :: l)
      split <;> rfl
    | succ i =>
      have b : lt (key a) (key r) := hb a (by simp)
      unfold put
      rw [if_pos b, ih (by simpa using hi) (fun z hz => hb z (by simp [hz])) (fun z hz => ha z (by simpa using hz))]
      simp

def out (key : ρ → κ) (k : κ) (l : List ρ) : List ρ := l.filter fun z => !decide (key z = k)
/-! What is new, what is gone. -/

/-! Writes of a turn. -/

/-- A write: of a right row, of what goes, or none. -/
inductive Act (κ ρ : Type) where
  | no
  | put (r : ρ)
  | out (k : κ)

theorem put_len : ∀ {l : List ρ}, (put lt key r l).length ≤ l.length + 1 := by
  intro l
  induction l with
  | nil => simp [put]
  | cons a l ih =>
    unfold put
    split
    · simp; exact ih
    · split <;> simp
end
end Ck
end Go.Proofs.Ytheidhkmmihjlaa
