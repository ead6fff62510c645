/-
  Ck0: Rows by rising keys, without memory: put, taken away, told apart into what is new and what is gone, and put together again.
-/
import Derived.Test.YthfcjfhaoabdeaaGreatDoorRows
import Derived.Test.YthfcjfhaoabdeaaGreatDoorRz3
import Derived.Test.YthfcjfhaoabdeaaGreatDoorRz6
import Derived.Lib.Bytealg
set_option linter.unusedVariables false
set_option linter.unusedSimpArgs false
set_option linter.unusedSectionVars false
namespace Go.Proofs.YthfcjfhaoabdeaaGreatDoor
namespace Ck

/-- An order of keys. -/
structure Od {κ : Type} (lt : κ → κ → Prop) : Prop where
  irr : ∀ a, ¬ lt a a
  tr : ∀ a b c, lt a b → lt b c → lt a c
  tot : ∀ a b, lt a b ∨ a = b ∨ lt b a

section
variable {κ ρ : Type} [DecidableEq κ] [DecidableEq ρ] {lt : κ → κ → Prop} [DecidableRel lt] {key : ρ → κ} {l m old now : List ρ} {x y r : ρ} {j i : Nat}

/-- By rising keys. -/
def Ris (lt : κ → κ → Prop) (key : ρ → κ) (l : List ρ) : Prop := l.Pairwise fun a b => lt (key a) (key b)

theorem Ris.inj (o : Od lt) : ∀ {l : List ρ}, Ris lt key l → ∀ {x y : ρ}, x ∈ l → y ∈ l → key x = key y → x = y := by
  intro l
  induction l with
  | nil => intro _ x y hx; cases hx
  | cons a l ih =>
    intro h x y hx hy e
    have h' := List.pairwise_cons.1 h
    rcases List.mem_cons.1 hx with p | p <;> rcases List.mem_cons.1 hy with q | q
    · rw [p, q]
    · have := h'.1 y q; rw [← p, e] at this; exact absurd this (o.irr _)
    · have := h'.1 x p; rw [← q, e] at this; exact absurd this (o.irr _)
    · exact ih h'.2 p q e

/-- Rows by rising keys are one to one with what they have. -/
theorem Ris.eq (o : Od lt) : ∀ {l m : List ρ}, Ris lt key l → Ris lt key m → (∀ x, x ∈ l ↔ x ∈ m) → l = m := by
  intro l
  induction l with
  | nil =>
    intro m _ _ h
    cases m with
    | nil => rfl
    | cons b m => have := (h b).2 List.mem_cons_self; cases this
  | cons a l ih =>
    intro m hl hm h
    cases m with
    | nil => have := (h a).1 List.mem_cons_self; cases this
    | cons b m =>
      have hl' := List.pairwise_cons.1 hl
      have hm' := List.pairwise_cons.1 hm
      have e : a = b := by
        rcases List.mem_cons.1 ((h a).1 List.mem_cons_self) with p | p
        · exact p
        · rcases List.mem_cons.1 ((h b).2 List.mem_cons_self) with q | q
          · exact q.symm
          · exact absurd (o.tr _ _ _ (hm'.1 a p) (hl'.1 b q)) (o.irr _)
      subst e
      rw [ih hl'.2 hm'.2 (fun x => ?_)]
      constructor
      · intro p
        rcases List.mem_cons.1 ((h x).1 (List.mem_cons_of_mem _ p)) with q | q
        · have := hl'.1 x p; rw [q] at this; exact absurd this (o.irr _)
        · exact q
      · intro p
        rcases List.mem_cons.1 ((h x).2 (List.mem_cons_of_mem _ p)) with q | q
        · have := hm'.1 x p; rw [q] at this; exact absurd this (o.irr _)
        · exact q

/-- A row, in the place of that of its key. -/
def put (lt : κ → κ → Prop) [DecidableRel lt] (key : ρ → κ) (r : ρ) : List ρ → List ρ
  | [] => [r]
  | a :: l => if lt (key a) (key r) then a :: put lt key r l else if key a = key r then r :: l else r :: a :: l

theorem mem_put (o : Od lt) : ∀ {l : List ρ}, Ris lt key l → ∀ {x : ρ}, x ∈ put lt key r l ↔ x = r ∨ x ∈ l ∧ key x ≠ key r := by
  intro l
  induction l with
  | nil => intro _ x; simp [put]
  | cons a l ih =>
    intro h x
    have h' := List.pairwise_cons.1 h
    unfold put
    split
    · next q =>
      rw [List.mem_cons, ih h'.2, List.mem_cons]
      constructor
      · rintro (p | p | p)
        · exact .inr ⟨.inl p, fun e => by rw [← p] at q; rw [e] at q; exact o.irr _ q⟩
        · exact .inl p
        · exact .inr ⟨.inr p.1, p.2⟩
      · rintro (p | ⟨p | p, e⟩)
        · exact .inr (.inl p)
        · exact .inl p
        · exact .inr (.inr ⟨p, e⟩)
    · next q =>
      have far : ∀ z ∈ l, ¬ lt (key a) (key r) → key z ≠ key r := fun z hz n e => by
        have := h'.1 z hz; rw [e] at this; exact n this
      split
      · next e =>
        rw [List.mem_cons, List.mem_cons]
        constructor
        · rintro (p | p)
          · exact .inl p
          · exact .inr ⟨.inr p, far x p q⟩
        · rintro (p | ⟨p | p, n⟩)
          · exact .inl p
          · rw [p] at n; exact absurd e n
          · exact .inr p
      · next e =>
        rw [List.mem_cons, List.mem_cons]
        constructor
        · rintro (p | p | p)
          · exact .inl p
          · exact .inr ⟨.inl p, by rw [p]; exact e⟩
          · exact .inr ⟨.inr p, far x p q⟩
        · rintro (p | ⟨p, _⟩)
          · exact .inl p
          · exact .inr p

def out (key : ρ → κ) (k : κ) (l : List ρ) : List ρ := l.filter fun z => !decide (key z = k)
/-! What is new, what is gone. -/

/-! Writes of a turn. -/

/-- A write: of a right row, of what goes, or none. -/
inductive Act (κ ρ : Type) where
  | no
  | put (r : ρ)
  | out (k : κ)

end
end Ck
end Go.Proofs.YthfcjfhaoabdeaaGreatDoor

/-
  Mr8: Rows by rising keys, without memory: what the document's puts come to, and what sorting the first rows comes to, is one.
-/
set_option linter.unusedVariables false
set_option linter.unusedSimpArgs false
namespace Go.Proofs.YthfcjfhaoabdeaaGreatDoor.ML

theorem bl_irr : ∀ a : List UInt8, Op.bytesLess a a = false
  | [] => rfl
  | a :: x => by
    unfold Op.bytesLess
    have h1 : ¬ a < a := UInt8.lt_irrefl a
    rw [bl_irr x]
    simp [h1]
theorem bl_tr : ∀ a b c : List UInt8, Op.bytesLess a b = true → Op.bytesLess b c = true → Op.bytesLess a c = true
  | _, _, [], _, h => by unfold Op.bytesLess at h; simp at h
  | _, [], _ :: _, h, _ => by unfold Op.bytesLess at h; simp at h
  | [], _ :: _, _ :: _, _, _ => rfl
  | a :: x, b :: y, c :: z, h1, h2 => by
    unfold Op.bytesLess at h1 h2 ⊢
    simp only [Bool.or_eq_true, Bool.and_eq_true, decide_eq_true_eq, beq_iff_eq] at h1 h2 ⊢
    rcases h1 with h1 | ⟨rfl, h1⟩
    · rcases h2 with h2 | ⟨rfl, h2⟩
      · exact .inl (UInt8.lt_trans h1 h2)
      · exact .inl h1
    · rcases h2 with h2 | ⟨rfl, h2⟩
      · exact .inl h2
      · exact .inr ⟨rfl, bl_tr x y z h1 h2⟩
theorem bl_tot : ∀ a b : List UInt8, Op.bytesLess a b = true ∨ a = b ∨ Op.bytesLess b a = true
  | [], [] => .inr (.inl rfl)
  | [], _ :: _ => .inl rfl
  | _ :: _, [] => .inr (.inr rfl)
  | a :: x, b :: y => by
    unfold Op.bytesLess
    simp only [Bool.or_eq_true, Bool.and_eq_true, decide_eq_true_eq, beq_iff_eq]
    rcases Nat.lt_trichotomy a.toNat b.toNat with h | h | h
    · exact .inl (.inl (UInt8.lt_iff_toNat_lt.2 h))
    · have e : a = b := UInt8.toNat_inj.1 h
      subst e
      rcases bl_tot x y with q | q | q
      · exact .inl (.inr ⟨rfl, q⟩)
      · exact .inr (.inl (by rw [q]))
      · exact .inr (.inr (.inr ⟨rfl, q⟩))
    · exact .inr (.inr (.inl (UInt8.lt_iff_toNat_lt.2 h)))
theorem cmp_less : ∀ a b : List UInt8, decide (Lib.compareBytes a b < 0) = Op.bytesLess a b
  | [], [] => rfl
  | [], _ :: _ => rfl
  | _ :: _, [] => rfl
  | a :: x, b :: y => by
    unfold Lib.compareBytes Op.bytesLess
    by_cases h1 : a < b
    · simp [h1]
    · by_cases h2 : b < a
      · have h3 : ¬ a = b := fun e => h1 (by rw [e] at h2; exact absurd h2 (UInt8.lt_irrefl _))
        simp [h1, h2, h3]
      · have h3 : a = b := by
          apply UInt8.toNat_inj.1
          have q1 : ¬ a.toNat < b.toNat := fun q => h1 (UInt8.lt_iff_toNat_lt.2 q)
          have q2 : ¬ b.toNat < a.toNat := fun q => h2 (UInt8.lt_iff_toNat_lt.2 q)
          omega
        rw [if_neg h1, if_neg h2, cmp_less x y]
        subst h3
        simp [h1]
theorem nl_irr (a : ByteArray) : nless a a = false := bl_irr _
theorem nl_tr {a b c : ByteArray} (h : nless a b = true) (k : nless b c = true) : nless a c = true := bl_tr _ _ _ h k
theorem nl_tot (a b : ByteArray) : nless a b = true ∨ a = b ∨ nless b a = true := by
  rcases bl_tot a.toList b.toList with h | h | h
  · exact .inl h
  · refine .inr (.inl ?_)
    rw [ByteArray.toList_eq, ByteArray.toList_eq] at h
    exact ByteArray.ext (Array.toList_inj.1 h)
  · exact .inr (.inr h)
theorem od : Ck.Od (fun a b : ByteArray => nless a b = true) := ⟨fun a h => (by rw [nl_irr] at h; cases h), fun _ _ _ h k => nl_tr h k, nl_tot⟩

/-- By rising keys. -/
abbrev Srt (l : List Ro) : Prop := Ck.Ris (fun a b : ByteArray => nless a b = true) Ro.k l
theorem tw_mem {α : Type} (p : α → Bool) {x : α} : ∀ l : List α, x ∈ l.takeWhile p → p x = true
  | [], h => by cases h
  | a :: l, h => by
    unfold List.takeWhile at h
    cases hp : p a with
    | false => rw [hp] at h; cases h
    | true =>
      rw [hp] at h
      rcases List.mem_cons.1 h with e | e
      · rw [e]; exact hp
      · exact tw_mem p l e
end Go.Proofs.YthfcjfhaoabdeaaGreatDoor.ML

/-
  Cp8: What is gone, taken out of a map of rows that stands already.
-/
set_option linter.unusedVariables false
set_option linter.unusedSimpArgs false
namespace Go.Proofs.YthfcjfhaoabdeaaGreatDoor.ML
open Go.RowKit Go.Shelf Go.Maps
attribute [local go_sem] Oper.semAt_some

theorem Rdg.del {D : DataW Value} {f f' : Lit → Option Value} (h : Rdg D f) {n : Lit} (e1 : f' n = none) (e2 : ∀ m, m ≠ n → f' m = f m) : Rdg (D.del n) f' := by
  refine ⟨h.td.del _, fun m u hm => ?_, fun m hm => ?_⟩
  · by_cases e : m = n
    · subst e
      rw [e1] at hm; cases hm
    · rw [e2 m e] at hm
      obtain ⟨a, b⟩ := h.yes m u hm
      exact ⟨by rw [has_del_other e]; exact a, fun z => by rw [atKey_del_other e]; exact b z⟩
  · by_cases e : m = n
    · subst e
      exact has_del_same
    · rw [e2 m e] at hm
      rw [has_del_other e]
      exact h.no m hm
theorem Mg.drop {k : TypeId} {w : World} {b q : Nat} {f f' : Lit → Option Value} (h : Mg k w b f q) (K : Keyed Tryz.prog k) {t e : TypeId} (ht : Tryz.prog.underlying t = some (.map k e)) {key : Value} {l : Lit} (hkey : keyOf Tryz.prog k key = some l) (ty : TypeId)
    (e1 : f' l = none) (e2 : ∀ m, m ≠ l → f' m = f m) : ∃ w', (Builtin.delete_ #[t, k] ty #[.map (some b), key]).run Tryz.prog w = .ok (.tuple #[]) w' ∧ Mg k w' b f' q ∧ w.mapTurned w' b := by
  obtain ⟨D, ho, hr⟩ := h
  obtain ⟨w', hrun, ho', ht'⟩ := ho.drop K ht hkey ty
  exact ⟨w', hrun, ⟨_, ho', hr.del e1 e2⟩, ht'⟩
noncomputable def delL (f : Lit → Option Value) (l : Lit) : Lit → Option Value := by
  classical
  exact fun m => if m = l then none else f m
theorem delL_same {f : Lit → Option Value} {l : Lit} : delL f l l = none := by unfold delL; simp
theorem delL_other {f : Lit → Option Value} {l m : Lit} (h : m ≠ l) : delL f l m = f m := by unfold delL; simp [h]
end Go.Proofs.YthfcjfhaoabdeaaGreatDoor.ML
