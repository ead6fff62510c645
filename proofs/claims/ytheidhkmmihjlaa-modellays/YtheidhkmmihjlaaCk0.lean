/-
  Ck0: Rows by rising keys, without memory: put, taken away, told apart into what is new and what is gone, and put together again.
-/
import Derived.Test.YtheidhkmmihjlaaRows
set_option linter.unusedVariables false
set_option linter.unusedSimpArgs false
set_option linter.unusedSectionVars false
namespace Go.Proofs.Ytheidhkmmihjlaa
namespace Ck

/-- An order of keys. -/
structure Od {κ : Type} (lt : κ → κ → Prop) : Prop where
  irr : ∀ a, ¬ lt a a
  tr : ∀ a b c, lt a b → lt b c → lt a c
  tot : ∀ a b, lt a b ∨ a = b ∨ lt b a

section
variable {κ ρ : Type} [DecidableEq κ] [DecidableEq ρ] {lt : κ → κ → Prop} [DecidableRel lt] {key : ρ → κ} {l m old now : List ρ} {x y r : ρ} {j i : Nat}

/-- By rising keys. -/
def Ris (lt : κ → κ → Prop) (key : ρ → κ) (l : List ρ) : Prop := l.Pairwise fun a b => lt (key a) (key b)

theorem Ris.inj (o : Od lt) : ∀ {l : List ρ}, Ris lt key l → ∀ {x y : ρ}, x ∈ l → y ∈ l → key x = key y → x = y := by
  intro l
  induction l with
  | nil => intro _ x y hx; cases hx
  | cons a l ih =>
    intro h x y hx hy e
    have h' := List.pairwise_cons.1 h
    rcases List.mem_cons.1 hx with p | p <;> rcases List.mem_cons.1 hy with q | q
    · rw [p, q]
    · have := h'.1 y q; rw [← p, e] at this; exact absurd this (o.irr _)
    · have := h'.1 x p; rw [← q, e] at this; exact absurd this (o.irr _)
    · exact ih h'.2 p q e

theorem Ris.nd (o : Od lt) (h : Ris lt key l) : l.Nodup := by
  refine List.Pairwise.imp ?_ h
  intro a b hab e
  rw [e] at hab
  exact o.irr _ hab

/-- Rows by rising keys are one to one with what they have. -/
theorem Ris.eq (o : Od lt) : ∀ {l m : List ρ}, Ris lt key l → Ris lt key m → (∀ x, x ∈ l ↔ x ∈ m) → l = m := by
  intro l
  induction l with
  | nil =>
    intro m _ _ h
    cases m with
    | nil => rfl
    | cons b m => have := (h b).2 List.mem_cons_self; cases this
  | cons a l ih =>
    intro m hl hm h
    cases m with
    | nil => have := (h a).1 List.mem_cons_self; cases this
    | cons b m =>
      have hl' := List.pairwise_cons.1 hl
      have hm' := List.pairwise_cons.1 hm
      have e : a = b := by
        rcases List.mem_cons.1 ((h a).1 List.mem_cons_self) with p | p
        · exact p
        · rcases List.mem_cons.1 ((h b).2 List.mem_cons_self) with q | q
          · exact q.symm
          · exact absurd (o.tr _ _ _ (hm'.1 a p) (hl'.1 b q)) (o.irr _)
      subst e
      rw [ih hl'.2 hm'.2 (fun x => ?_)]
      constructor
      · intro p
        rcases List.mem_cons.1 ((h x).1 (List.mem_cons_of_mem _ p)) with q | q
        · have := hl'.1 x p; rw [q] at this; exact absurd this (o.irr _)
        · exact q
      · intro p
        rcases List.mem_cons.1 ((h x).2 (List.mem_cons_of_mem _ p)) with q | q
        · have := hm'.1 x p; rw [q] at this; exact absurd this (o.irr _)
        · exact q

/-- A row, in the place of that of its key. -/
def put (lt : κ → κ → Prop) [DecidableRel lt] (key : ρ → κ) (r : ρ) : List ρ → List ρ
  | [] => [r]
  | a :: l => if lt (key a) (key r) then a :: put lt key r l else if key a = key r then r :: l else r :: a :: l

theorem mem_put (o : Od lt) : ∀ {l : List ρ}, Ris lt key l → ∀ {x : ρ}, x ∈ put lt key r l ↔ x = r ∨ x ∈ l ∧ key x ≠ key r := by
  intro l
  induction l with
  | nil => intro _ x; simp [put]
  | cons a l ih =>
    intro h x
    have h' := List.pairwise_cons.1 h
    unfold put
    split
    · next q =>
      rw [List.mem_cons, ih h'.2, List.mem_cons]
      constructor
      · rintro (p | p | p)
        · exact .inr ⟨.inl p, fun e => by rw [← p] at q; rw [e] at q; exact o.irr _ q⟩
        · exact .inl p
        · exact .inr ⟨.inr p.1, p.2⟩
      · rintro (p | ⟨p | p, e⟩)
        · exact .inr (.inl p)
        · exact .inl p
        · exact .inr (.inr ⟨p, e⟩)
    · next q =>
      have far : ∀ z ∈ l, ¬ lt (key a) (key r) → key z ≠ key r := fun z hz n e => by
        have := h'.1 z hz; rw [e] at this; exact n this
      split
      · next e =>
        rw [List.mem_cons, List.mem_cons]
        constructor
        · rintro (p | p)
          · exact .inl p
          · exact .inr ⟨.inr p, far x p q⟩
        · rintro (p | ⟨p | p, n⟩)
          · exact .inl p
          · rw [p] at n; exact absurd e n
          · exact .inr p
      · next e =>
        rw [List.mem_cons, List.mem_cons]
        constructor
        · rintro (p | p | p)
          · exact .inl p
          · exact .inr ⟨.inl p, by rw [p]; exact e⟩
          · exact .inr ⟨.inr p, far x p q⟩
        · rintro (p | ⟨p, _⟩)
          · exact .inl p
          · exact .inr p

theorem put_ris (o : Od lt) : ∀ {l : List ρ}, Ris lt key l → Ris lt key (put lt key r l) := by
  intro l
  induction l with
  | nil => intro _; exact List.pairwise_singleton _ _
  | cons a l ih =>
    intro h
    have h' := List.pairwise_cons.1 h
    unfold put
    split
    · next q =>
      refine List.pairwise_cons.2 ⟨fun z hz => ?_, ih h'.2⟩
      rcases (mem_put o h'.2).1 hz with p | p
      · rw [p]; exact q
      · exact h'.1 z p.1
    · next q =>
      split
      · next e =>
        refine List.pairwise_cons.2 ⟨fun z hz => ?_, h'.2⟩
        rw [← e]; exact h'.1 z hz
      · next e =>
        have hr : lt (key r) (key a) := by
          rcases o.tot (key a) (key r) with p | p | p
          · exact absurd p q
          · exact absurd p e
          · exact p
        refine List.pairwise_cons.2 ⟨fun z hz => ?_, h⟩
        rcases List.mem_cons.1 hz with p | p
        · rw [p]; exact hr
        · exact o.tr _ _ _ hr (h'.1 z p)

/-- As a loop makes it: those below it, it itself, the rest. -/
theorem put_at : ∀ {l : List ρ} {i : Nat}, i ≤ l.length → (∀ z ∈ l.take i, lt (key z) (key r)) → (∀ z, l[i]? = some z → ¬ lt (key z) (key r)) →
    put lt key r l = l.take i ++ r :: (match l[i]? with | some z => if key z = key r then l.drop (i + 1) else l.drop i | none => []) := by
  intro l
  induction l with
  | nil => intro i hi _ _; simp at hi; subst hi; rfl
  | cons a l ih =>
    intro i hi hb ha
    cases i with
    | zero =>
      have n := ha a rfl
      unfold put
      rw [if_neg n]
      show _ = r :: (if key a = key r then l else a :: l)
      split <;> rfl
    | succ i =>
      have b : lt (key a) (key r) := hb a (by simp)
      unfold put
      rw [if_pos b, ih (by simpa using hi) (fun z hz => hb z (by simp [hz])) (fun z hz => ha z (by simpa using hz))]
      simp

theorem Ris.filter {p : ρ → Bool} (h : Ris lt key l) : Ris lt key (l.filter p) := List.Pairwise.filter p h
def out (key : ρ → κ) (k : κ) (l : List ρ) : List ρ := l.filter fun z => !decide (key z = k)
theorem mem_out {k : κ} : x ∈ out key k l ↔ x ∈ l ∧ key x ≠ k := by unfold out; simp
theorem out_ris {k : κ} (h : Ris lt key l) : Ris lt key (out key k l) := h.filter

/-! What is new, what is gone. -/

def nw (old now : List ρ) : List ρ := now.filter fun z => !decide (z ∈ old)
def gn (old now : List ρ) : List ρ := old.filter fun z => !decide (z ∈ now)
theorem mem_nw : x ∈ nw old now ↔ x ∈ now ∧ x ∉ old := by unfold nw; simp
theorem mem_gn : x ∈ gn old now ↔ x ∈ old ∧ x ∉ now := by unfold gn; simp

theorem take_get (hj : j < l.length) : l.take (j + 1) = l.take j ++ [l[j]] := by rw [List.take_add_one, List.getElem?_eq_getElem hj]; rfl
theorem nd_take (h : l.Nodup) (hj : j < l.length) : l[j] ∉ l.take j := by
  intro q
  have e : l.take (j + 1) = l.take j ++ [l[j]] := take_get hj
  have n : (l.take (j + 1)).Nodup := List.Nodup.sublist (List.take_sublist _ _) h
  rw [e] at n
  exact (List.nodup_append.1 n).2.2 _ q _ (by simp) rfl

/-- What goes next is there by then. -/
theorem gone_there (o : Od lt) (h : Ris lt key old) (hj : j < (gn old now).length) : (gn old now)[j] ∈ old ∧ (gn old now)[j] ∉ (gn old now).take j :=
  ⟨(mem_gn.1 (List.getElem_mem hj)).1, nd_take ((h.filter (p := fun z => !decide (z ∈ now))).nd o) hj⟩
theorem gone_next (o : Od lt) (h : Ris lt key old) (hj : j < (gn old now).length) : (x ∈ old ∧ x ∉ (gn old now).take (j + 1)) ↔ (x ∈ old ∧ x ∉ (gn old now).take j) ∧ key x ≠ key (gn old now)[j] := by
  rw [take_get hj]
  have g := (gone_there o h hj).1
  constructor
  · rintro ⟨a, b⟩
    exact ⟨⟨a, fun q => b (List.mem_append_left _ q)⟩, fun e => b (by rw [h.inj o a g e]; exact List.mem_append_right _ (List.mem_singleton.2 rfl))⟩
  · rintro ⟨⟨a, b⟩, c⟩
    refine ⟨a, fun q => ?_⟩
    rcases List.mem_append.1 q with p | p
    · exact b p
    · rw [List.mem_singleton.1 p] at c; exact c rfl
theorem gone_end : (x ∈ old ∧ x ∉ gn old now) ↔ (x ∈ old ∧ x ∈ now) := by
  rw [mem_gn]
  constructor
  · rintro ⟨a, b⟩
    exact ⟨a, Decidable.byContradiction fun q => b ⟨a, q⟩⟩
  · rintro ⟨a, b⟩
    exact ⟨a, fun q => q.2 b⟩

/-- What comes next has a key that is not there by then. -/
theorem new_free (o : Od lt) (h : Ris lt key now) (hj : j < (nw old now).length) (hx : (x ∈ old ∧ x ∈ now) ∨ x ∈ (nw old now).take j) : key x ≠ key (nw old now)[j] := by
  intro e
  have g := mem_nw.1 (List.getElem_mem hj)
  have hx' : x ∈ now := by
    rcases hx with p | p
    · exact p.2
    · exact (mem_nw.1 (List.mem_of_mem_take p)).1
  have q := h.inj o hx' g.1 e
  rcases hx with p | p
  · rw [q] at p; exact g.2 p.1
  · rw [q] at p; exact nd_take ((h.filter (p := fun z => !decide (z ∈ old))).nd o) hj p
theorem new_next (hj : j < (nw old now).length) : ((x ∈ old ∧ x ∈ now) ∨ x ∈ (nw old now).take (j + 1)) ↔ ((x ∈ old ∧ x ∈ now) ∨ x ∈ (nw old now).take j) ∨ x = (nw old now)[j] := by
  rw [take_get hj, List.mem_append, List.mem_singleton, or_assoc]
theorem new_end : ((x ∈ old ∧ x ∈ now) ∨ x ∈ nw old now) ↔ x ∈ now := by
  rw [mem_nw]
  constructor
  · rintro (p | p)
    · exact p.2
    · exact p.1
  · intro p
    by_cases q : x ∈ old
    · exact .inl ⟨q, p⟩
    · exact .inr ⟨p, q⟩

/-! Writes of a turn. -/

/-- A write: of a right row, of what goes, or none. -/
inductive Act (κ ρ : Type) where
  | no
  | put (r : ρ)
  | out (k : κ)

def act (lt : κ → κ → Prop) [DecidableRel lt] (key : ρ → κ) (l : List ρ) : Act κ ρ → List ρ
  | .no => l
  | .put r => Ck.put lt key r l
  | .out k => Ck.out key k l
def trn (lt : κ → κ → Prop) [DecidableRel lt] (key : ρ → κ) (l : List ρ) (ws : List (Act κ ρ)) : List ρ := ws.foldl (act lt key) l

theorem act_ris (o : Od lt) {a : Act κ ρ} (h : Ris lt key l) : Ris lt key (act lt key l a) := by
  cases a with
  | no => exact h
  | put r => exact put_ris o h
  | out k => exact out_ris h
theorem trn_ris (o : Od lt) : ∀ {ws : List (Act κ ρ)} {l : List ρ}, Ris lt key l → Ris lt key (trn lt key l ws) := by
  intro ws
  induction ws with
  | nil => intro l h; exact h
  | cons a ws ih => intro l h; exact ih (act_ris o h)
/-- What is there behind a turn was there, or has come by it. -/
theorem trn_mem (o : Od lt) : ∀ {ws : List (Act κ ρ)} {l : List ρ}, Ris lt key l → ∀ {x : ρ}, x ∈ trn lt key l ws → x ∈ l ∨ .put x ∈ ws := by
  intro ws
  induction ws with
  | nil => intro l _ x h; exact .inl h
  | cons a ws ih =>
    intro l h x hx
    rcases ih (act_ris o h) hx with p | p
    · cases a with
      | no => exact .inl p
      | put r =>
        rcases (mem_put o h).1 p with q | q
        · rw [q]; exact .inr List.mem_cons_self
        · exact .inl q.1
      | out k => exact .inl (mem_out.1 p).1
    · exact .inr (List.mem_cons_of_mem _ p)
theorem put_len : ∀ {l : List ρ}, (put lt key r l).length ≤ l.length + 1 := by
  intro l
  induction l with
  | nil => simp [put]
  | cons a l ih =>
    unfold put
    split
    · simp; exact ih
    · split <;> simp
theorem trn_len : ∀ {ws : List (Act κ ρ)} {l : List ρ}, (trn lt key l ws).length ≤ l.length + ws.length := by
  intro ws
  induction ws with
  | nil => intro l; exact Nat.le_refl _
  | cons a ws ih =>
    intro l
    have h : (act lt key l a).length ≤ l.length + 1 := by
      cases a with
      | no => exact Nat.le_succ _
      | put r => exact put_len
      | out k => exact Nat.le_succ_of_le (List.length_filter_le _ _)
    have := ih (l := act lt key l a)
    show (trn lt key (act lt key l a) ws).length ≤ _
    simp only [List.length_cons]
    omega
end
end Ck
end Go.Proofs.Ytheidhkmmihjlaa
