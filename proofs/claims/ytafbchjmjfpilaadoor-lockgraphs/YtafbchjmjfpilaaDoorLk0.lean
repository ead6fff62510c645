/-
  Lk0: Who waits for whom, without memory: ways from a worker to a worker, the shortest, the one that is told; what an array of distances comes to, pass by pass.
-/
import Derived.Test.YtafbchjmjfpilaaDoorRows
set_option linter.unusedVariables false
set_option linter.unusedSimpArgs false
namespace Go.Proofs.YtafbchjmjfpilaaDoor
namespace Lk

section
variable {E E' : Nat → Nat → Bool} {t n m i k : Nat}

/-- Is there a way from i to t with n workers between, none of which is t? -/
def rch (E : Nat → Nat → Bool) (t : Nat) : Nat → Nat → Bool
  | 0, i => E i t
  | n + 1, i => (List.range 16).any fun k => E i k && !(k == t) && rch E t n k

/-- May k be next, with n workers between it and t? -/
def may (E : Nat → Nat → Bool) (t n i k : Nat) : Bool := E i k && !(k == t) && rch E t n k

theorem may_iff : may E t n i k = true ↔ E i k = true ∧ k ≠ t ∧ rch E t n k = true := by
  unfold may
  simp [and_assoc]

theorem rch_zero : rch E t 0 i = E i t := rfl
theorem rch_succ : rch E t (n + 1) i = true ↔ ∃ k, k < 16 ∧ E i k = true ∧ k ≠ t ∧ rch E t n k = true := by
  show (List.range 16).any (fun k => may E t n i k) = true ↔ _
  rw [List.any_eq_true]
  constructor
  · rintro ⟨k, hk, h⟩
    exact ⟨k, List.mem_range.1 hk, may_iff.1 h⟩
  · rintro ⟨k, hk, h⟩
    exact ⟨k, List.mem_range.2 hk, may_iff.2 h⟩

/-- A shortest way has n between. -/
structure lst (E : Nat → Nat → Bool) (t n i : Nat) : Prop where
  is : rch E t n i = true
  no : ∀ m, m < n → rch E t m i = false

theorem lst_ex : ∀ {n : Nat}, rch E t n i = true → ∃ m, m ≤ n ∧ lst E t m i := by
  intro n
  induction n using Nat.strongRecOn with
  | _ n ih =>
    intro h
    by_cases q : ∃ m, m < n ∧ rch E t m i = true
    · obtain ⟨m, hm, hr⟩ := q
      obtain ⟨z, hz, hl⟩ := ih m hm hr
      exact ⟨z, by omega, hl⟩
    · refine ⟨n, Nat.le_refl _, h, fun m hm => ?_⟩
      cases e : rch E t m i with
      | false => rfl
      | true => exact absurd ⟨m, hm, e⟩ q

theorem lst.le (h : lst E t n i) (hm : rch E t m i = true) : n ≤ m := by
  by_cases q : m < n
  · have := h.no m q; rw [hm] at this; cases this
  · omega
theorem lst.eq (h : lst E t n i) (h' : lst E t m i) : n = m := Nat.le_antisymm (h.le h'.is) (h'.le h.is)
theorem lst.step (h : lst E t (n + 1) i) (hk : k < 16) (he : E i k = true) (hn : k ≠ t) (hr : rch E t n k = true) : lst E t n k := by
  refine ⟨hr, fun m hm => ?_⟩
  cases e : rch E t m k with
  | false => rfl
  | true =>
    have := h.le (m := m + 1) (rch_succ.2 ⟨k, hk, he, hn, e⟩)
    omega

/-- The workers of a shortest way: all different. -/
theorem lst.row : ∀ {n i : Nat}, lst E t n i → i < 16 → ∃ l : List Nat, l.length = n + 1 ∧ l.Nodup ∧ ∀ x ∈ l, x < 16 ∧ ∃ m, m ≤ n ∧ lst E t m x := by
  intro n
  induction n with
  | zero =>
    intro i h hi
    exact ⟨[i], rfl, by simp, fun x hx => by rw [List.mem_singleton.1 hx]; exact ⟨hi, 0, Nat.le_refl _, h⟩⟩
  | succ n ih =>
    intro i h hi
    obtain ⟨k, hk, he, hn, hr⟩ := rch_succ.1 h.is
    obtain ⟨l, hl, hd, ha⟩ := ih (h.step hk he hn hr) hk
    refine ⟨i :: l, by simp [hl], List.nodup_cons.2 ⟨fun q => ?_, hd⟩, fun x hx => ?_⟩
    · obtain ⟨_, m, hm, hx⟩ := ha i q
      have := h.eq hx
      omega
    · rcases List.mem_cons.1 hx with q | q
      · rw [q]; exact ⟨hi, n + 1, Nat.le_refl _, h⟩
      · obtain ⟨a, m, hm, b⟩ := ha x q
        exact ⟨a, m, by omega, b⟩

theorem nodup_le16 : ∀ (ss M : List Nat), ss.Nodup → (∀ x ∈ ss, x ∈ M) → ss.length ≤ M.length := by
  intro ss
  induction ss with
  | nil => intro M _ _; exact Nat.zero_le _
  | cons a l ih =>
    intro M hn hm
    have ha := hm a List.mem_cons_self
    have hn' := List.nodup_cons.1 hn
    have h := ih (M.erase a) hn'.2 (fun x hx => (List.mem_erase_of_ne (fun q : x = a => hn'.1 (by rw [← q]; exact hx))).2 (hm x (List.mem_cons_of_mem _ hx)))
    rw [List.length_erase_of_mem ha] at h
    have := List.length_pos_of_mem ha
    simp only [List.length_cons]
    omega

theorem lst.le15 (h : lst E t n i) (hi : i < 16) : n ≤ 15 := by
  obtain ⟨l, hl, hd, ha⟩ := h.row hi
  have := nodup_le16 l (List.range 16) hd (fun x hx => List.mem_range.2 (ha x hx).1)
  rw [List.length_range, hl] at this
  omega

theorem rch_more (hE : ∀ i k, E' i k = true → E i k = true) : ∀ {n i : Nat}, rch E' t n i = true → rch E t n i = true := by
  intro n
  induction n with
  | zero => intro i h; exact hE _ _ h
  | succ n ih =>
    intro i h
    obtain ⟨k, a, b, c, d⟩ := rch_succ.1 h
    exact rch_succ.2 ⟨k, a, hE _ _ b, c, ih d⟩

theorem rch_out (h : rch E t n i = true) : ∃ k, E i k = true := by
  cases n with
  | zero => exact ⟨t, h⟩
  | succ n => obtain ⟨k, _, b, _, _⟩ := rch_succ.1 h; exact ⟨k, b⟩

/-! The way that is told. -/

/-- The next one: the least that may be. -/
def nxt (E : Nat → Nat → Bool) (t n i : Nat) : Nat := ((List.range 16).find? (may E t n i)).getD 15

theorem find_range {p : Nat → Bool} {N k : Nat} (hk : k < N) (hp : p k = true) (hj : ∀ j, j < k → p j = false) : (List.range N).find? p = some k := by
  rw [List.find?_range_eq_some]
  exact ⟨hp, List.mem_range.2 hk, fun j hj' => by simp [hj j hj']⟩

theorem first_ex {p : Nat → Bool} : ∀ {k : Nat}, p k = true → ∃ j, j ≤ k ∧ p j = true ∧ ∀ x, x < j → p x = false := by
  intro k
  induction k using Nat.strongRecOn with
  | _ k ih =>
    intro h
    by_cases q : ∃ j, j < k ∧ p j = true
    · obtain ⟨j, a, b⟩ := q
      obtain ⟨z, c, d⟩ := ih j a b
      exact ⟨z, by omega, d⟩
    · refine ⟨k, Nat.le_refl _, h, fun x hx => ?_⟩
      cases e : p x with
      | false => rfl
      | true => exact absurd ⟨x, hx, e⟩ q

theorem nxt_eq (hk : k < 16) (hp : may E t n i k = true) (hj : ∀ j, j < k → may E t n i j = false) : nxt E t n i = k := by
  unfold nxt
  rw [find_range hk hp hj]
  rfl

structure Nx (E : Nat → Nat → Bool) (t n i : Nat) : Prop where
  lt : nxt E t n i < 16
  may : may E t n i (nxt E t n i) = true
  no : ∀ j, j < nxt E t n i → Lk.may E t n i j = false

theorem nxt_is (h : rch E t (n + 1) i = true) : Nx E t n i := by
  obtain ⟨k, hk, a, b, c⟩ := rch_succ.1 h
  obtain ⟨j, hj, hp, hx⟩ := first_ex (p := may E t n i) (may_iff.2 ⟨a, b, c⟩)
  have e := nxt_eq (E := E) (t := t) (n := n) (i := i) (by omega : j < 16) hp hx
  exact ⟨by rw [e]; omega, by rw [e]; exact hp, by rw [e]; exact hx⟩

/-- The workers between. -/
def bst (E : Nat → Nat → Bool) (t : Nat) : Nat → Nat → List Nat
  | 0, _ => []
  | n + 1, i => nxt E t n i :: bst E t n (nxt E t n i)

theorem bst_len : ∀ {n i : Nat}, (bst E t n i).length = n := by
  intro n
  induction n with
  | zero => intro i; rfl
  | succ n ih => intro i; show (bst E t n _).length + 1 = n + 1; rw [ih]

/-- A way: n workers between i and t. -/
def pth (E : Nat → Nat → Bool) (t : Nat) : Nat → List Nat → Prop
  | i, [] => E i t = true
  | i, k :: p => k < 16 ∧ E i k = true ∧ k ≠ t ∧ pth E t k p

theorem pth_rch : ∀ {p : List Nat} {i : Nat}, pth E t i p → rch E t p.length i = true := by
  intro p
  induction p with
  | nil => intro i h; exact h
  | cons k p ih => intro i h; exact rch_succ.2 ⟨k, h.1, h.2.1, h.2.2.1, ih h.2.2.2⟩

theorem bst_pth : ∀ {n i : Nat}, rch E t n i = true → pth E t i (bst E t n i) := by
  intro n
  induction n with
  | zero => intro i h; exact h
  | succ n ih =>
    intro i h
    have N := nxt_is h
    have q := may_iff.1 N.may
    exact ⟨N.lt, q.1, q.2.1, ih q.2.2⟩

/-- One row is ahead of another of the same length, or it is that. -/
def ahead : List Nat → List Nat → Prop
  | [], _ => True
  | _ :: _, [] => False
  | a :: l, b :: m => a < b ∨ a = b ∧ ahead l m

theorem ahead_eq : ∀ {l m : List Nat}, l.length = m.length → ahead l m → ahead m l → l = m := by
  intro l
  induction l with
  | nil => intro m h _ _; exact (List.length_eq_zero_iff.1 h.symm).symm
  | cons a l ih =>
    intro m h p q
    cases m with
    | nil => cases h
    | cons b m =>
      have h' : l.length = m.length := by simpa using h
      rcases p with p | ⟨p, p'⟩ <;> rcases q with q | ⟨q, q'⟩
      · omega
      · omega
      · omega
      · rw [p, ih h' p' q']

theorem bst_first : ∀ {p : List Nat} {i : Nat}, pth E t i p → ahead (bst E t p.length i) p := by
  intro p
  induction p with
  | nil => intro i h; trivial
  | cons k p ih =>
    intro i h
    have N := nxt_is (pth_rch (p := k :: p) h)
    show nxt E t p.length i < k ∨ nxt E t p.length i = k ∧ ahead (bst E t p.length (nxt E t p.length i)) p
    rcases Nat.lt_trichotomy (nxt E t p.length i) k with q | q | q
    · exact .inl q
    · exact .inr ⟨q, by rw [q]; exact ih h.2.2.2⟩
    · have := N.no k q
      rw [may_iff.2 ⟨h.2.1, h.2.2.1, pth_rch h.2.2.2⟩] at this
      cases this

theorem bst_only {p : List Nat} (h : pth E t i p) (hl : ∀ q, q.length = p.length → pth E t i q → ahead p q) : p = bst E t p.length i :=
  ahead_eq bst_len.symm (hl _ bst_len (bst_pth (pth_rch h))) (bst_first h)

/-- Those of a shortest way are different, workers, and each has its distance. -/
structure Way (E : Nat → Nat → Bool) (t n i : Nat) (l : List Nat) : Prop where
  len : l.length = n
  nd : (i :: l).Nodup
  lt : ∀ x ∈ l, x < 16
  ne : ∀ x ∈ l, x ≠ t
  at_ : ∀ x ∈ l, ∃ m, m < n ∧ lst E t m x

theorem lst.way : ∀ {n i : Nat}, lst E t n i → Way E t n i (bst E t n i) := by
  intro n
  induction n with
  | zero => intro i h; exact ⟨rfl, by simp [bst], by simp [bst], by simp [bst], by simp [bst]⟩
  | succ n ih =>
    intro i h
    have N := nxt_is h.is
    have q := may_iff.1 N.may
    have hl := h.step N.lt q.1 q.2.1 q.2.2
    have W := ih hl
    refine ⟨bst_len, List.nodup_cons.2 ⟨fun x => ?_, W.nd⟩, fun x hx => ?_, fun x hx => ?_, fun x hx => ?_⟩
    · rcases List.mem_cons.1 x with y | y
      · rw [← y] at hl; have := h.eq hl; omega
      · obtain ⟨m, hm, hx⟩ := W.at_ i y
        have := h.eq hx; omega
    · rcases List.mem_cons.1 hx with y | y
      · rw [y]; exact N.lt
      · exact W.lt x y
    · rcases List.mem_cons.1 hx with y | y
      · rw [y]; exact q.2.1
      · exact W.ne x y
    · rcases List.mem_cons.1 hx with y | y
      · rw [y]; exact ⟨n, by omega, hl⟩
      · obtain ⟨m, hm, hx⟩ := W.at_ x y
        exact ⟨m, by omega, hx⟩

/-- Each waits for the next one, the last for t. -/
theorem pth_next : ∀ {p : List Nat} {i : Nat}, pth E t i p → ∀ j, j ≤ p.length → E ((i :: p).getD j 0) ((p ++ [t]).getD j 0) = true := by
  intro p
  induction p with
  | nil => intro i h j hj; have : j = 0 := by simpa using hj
           subst this; exact h
  | cons k p ih =>
    intro i h j hj
    cases j with
    | zero => exact h.2.1
    | succ j => exact ih h.2.2.2 j (by simpa using hj)

/-! What Cycle tells. -/

/-- The cycle of t, if it is in one. -/
def cyc (E : Nat → Nat → Bool) (t : Nat) : Option (List Nat) := ((List.range 16).find? fun n => rch E t n t).map fun n => t :: bst E t n t

theorem cyc_is (h : lst E t n t) (ht : t < 16) : cyc E t = some (t :: bst E t n t) := by
  unfold cyc
  rw [find_range (p := fun n => rch E t n t) (by have := h.le15 ht; omega : n < 16) h.is h.no]
  rfl
theorem cyc_no (h : ∀ n, rch E t n t = false) : cyc E t = none := by
  unfold cyc
  rw [List.find?_eq_none.2 (fun x _ => by simp [h x])]
  rfl
theorem cyc_cases (E : Nat → Nat → Bool) {t : Nat} (ht : t < 16) : (∃ n, n ≤ 15 ∧ lst E t n t ∧ cyc E t = some (t :: bst E t n t)) ∨ (∀ n, rch E t n t = false) ∧ cyc E t = none := by
  by_cases q : ∃ n, rch E t n t = true
  · obtain ⟨n, h⟩ := q
    obtain ⟨m, _, hl⟩ := lst_ex h
    exact .inl ⟨m, hl.le15 ht, hl, cyc_is hl ht⟩
  · have h : ∀ n, rch E t n t = false := fun n => by
      cases e : rch E t n t with
      | false => rfl
      | true => exact absurd ⟨n, e⟩ q
    exact .inr ⟨h, cyc_no h⟩

/-- One of a cycle waits no more: none goes through it, and none is shorter. -/
theorem cyc_gone {v : Nat} (hs : ∀ i k, E' i k = true → E i k = true) (hv : ∀ k, E' v k = false) (h : lst E t n t) (h' : lst E' t m t) (ht : t < 16) : n ≤ m ∧ v ∉ t :: bst E' t m t := by
  refine ⟨h.le (rch_more hs h'.is), fun q => ?_⟩
  have : ∃ z, rch E' t z v = true := by
    rcases List.mem_cons.1 q with y | y
    · rw [y]; exact ⟨m, h'.is⟩
    · obtain ⟨z, _, hz⟩ := h'.way.at_ v y
      exact ⟨z, hz.is⟩
  obtain ⟨z, hz⟩ := this
  obtain ⟨k, hk⟩ := rch_out hz
  rw [hv k] at hk; cases hk

/-! An array of distances, pass by pass. -/

/-- What is told is a way's length; ways of at most n between are told. -/
structure Far (E : Nat → Nat → Bool) (t n : Nat) (L : Nat → Nat) : Prop where
  le : ∀ i, i < 16 → L i ≤ 99
  is : ∀ i, i < 16 → L i < 99 → 1 ≤ L i ∧ rch E t (L i - 1) i = true
  all : ∀ i, i < 16 → ∀ m, m ≤ n → rch E t m i = true → L i ≤ m + 1

/-- Within a pass: rows below a are done, of row a those below b. -/
structure Fam (E : Nat → Nat → Bool) (t n a b : Nat) (L : Nat → Nat) : Prop where
  far : Far E t n L
  done : ∀ i, i < a → i < 16 → ∀ m, m ≤ n + 1 → rch E t m i = true → L i ≤ m + 1
  row : a < 16 → ∀ k, k < b → k < 16 → E a k = true → k ≠ t → ∀ m, m ≤ n → rch E t m k = true → L a ≤ m + 2

def set1 (L : Nat → Nat) (i v : Nat) : Nat → Nat := fun x => if x = i then v else L x

theorem far_zero {L : Nat → Nat} (h : ∀ i, i < 16 → L i = if E i t then 1 else 99) : Far E t 0 L := by
  refine ⟨fun i hi => ?_, fun i hi hl => ?_, fun i hi m hm hr => ?_⟩
  · rw [h i hi]; split <;> omega
  · rw [h i hi] at hl ⊢
    split at hl
    · next q => rw [if_pos q]; exact ⟨Nat.le_refl _, q⟩
    · omega
  · have : m = 0 := by omega
    subst this
    rw [h i hi, if_pos (show E i t = true from hr)]
    omega

theorem Fam.start {L : Nat → Nat} (h : Far E t n L) : Fam E t n 0 0 L := ⟨h, fun i hi => by omega, fun _ k hk => by omega⟩

theorem Fam.skip {L : Nat → Nat} {a b : Nat} (h : Fam E t n a b L) (hq : ¬ (E a b = true ∧ b ≠ t)) : Fam E t n a (b + 1) L := by
  refine ⟨h.far, h.done, fun ha k hk hk' he hn => ?_⟩
  by_cases q : k = b
  · subst q; exact absurd ⟨he, hn⟩ hq
  · exact h.row ha k (by omega) hk' he hn

theorem Fam.take {L : Nat → Nat} {a b : Nat} (h : Fam E t n a b L) (ha : a < 16) (hb : b < 16) (he : E a b = true) (hn : b ≠ t) : Fam E t n a (b + 1) (set1 L a (min (L a) (L b + 1))) := by
  have hle : ∀ x, set1 L a (min (L a) (L b + 1)) x ≤ L x := fun x => by
    unfold set1
    split
    · next q => rw [q]; exact Nat.min_le_left _ _
    · exact Nat.le_refl _
  refine ⟨⟨fun i hi => Nat.le_trans (hle i) (h.far.le i hi), fun i hi hl => ?_, fun i hi m hm hr => Nat.le_trans (hle i) (h.far.all i hi m hm hr)⟩, fun i hi hi' m hm hr => Nat.le_trans (hle i) (h.done i hi hi' m hm hr), fun _ k hk hk' hek hnk m hm hr => ?_⟩
  · unfold set1 at hl ⊢
    by_cases q : i = a
    · rw [if_pos q] at hl ⊢
      subst q
      by_cases r : L i ≤ L b + 1
      · rw [Nat.min_eq_left r] at hl ⊢
        exact h.far.is i hi hl
      · rw [Nat.min_eq_right (by omega)] at hl ⊢
        have s := h.far.is b hb (by omega)
        refine ⟨by omega, ?_⟩
        have : L b + 1 - 1 = (L b - 1) + 1 := by omega
        rw [this]
        exact rch_succ.2 ⟨b, hb, he, hn, s.2⟩
    · rw [if_neg q] at hl ⊢
      exact h.far.is i hi hl
  · by_cases q : k = b
    · subst q
      have := h.far.all k hb m hm hr
      unfold set1
      rw [if_pos rfl]
      omega
    · exact Nat.le_trans (hle a) (h.row ha k (by omega) hk' hek hnk m hm hr)

theorem Fam.line {L : Nat → Nat} {a : Nat} (h : Fam E t n a 16 L) : Fam E t n (a + 1) 0 L := by
  refine ⟨h.far, fun i hi hi' m hm hr => ?_, fun _ k hk => by omega⟩
  by_cases q : i = a
  · subst q
    cases m with
    | zero => exact h.far.all i hi' 0 (Nat.zero_le _) hr
    | succ m =>
      obtain ⟨k, hk, he, hn, hk'⟩ := rch_succ.1 hr
      exact h.row hi' k hk hk he hn m (by omega) hk'
  · exact h.done i (by omega) hi' m hm hr

theorem Fam.pass {L : Nat → Nat} (h : Fam E t n 16 0 L) : Far E t (n + 1) L :=
  ⟨h.far.le, h.far.is, fun i hi m hm hr => h.done i hi hi m hm hr⟩

/-- Behind enough passes it is told just how far each is. -/
theorem Far.dist {L : Nat → Nat} (h : Far E t n L) (hn : 15 ≤ n) (hi : i < 16) : (∀ m, lst E t m i → L i = m + 1) ∧ ((∀ m, rch E t m i = false) → L i = 99) := by
  refine ⟨fun m hl => ?_, fun hr => ?_⟩
  · have a := hl.le15 hi
    have b := h.all i hi m (by omega) hl.is
    have c := h.is i hi (by omega)
    have d := hl.le c.2
    omega
  · have a := h.le i hi
    by_cases q : L i < 99
    · have c := (h.is i hi q).2
      rw [hr] at c; cases c
    · omega

theorem Far.sel {L : Nat → Nat} (h : Far E t n L) (hn : 15 ≤ n) (hl : lst E t (m + 1) i) (hi : i < 16) (hk : k < 16) : (E i k = true ∧ k ≠ t ∧ L k = L i - 1) ↔ may E t m i k = true := by
  have e := (h.dist hn hi).1 _ hl
  rw [may_iff]
  constructor
  · rintro ⟨a, b, c⟩
    refine ⟨a, b, ?_⟩
    have z := hl.le15 hi
    have q := (h.is k hk (by omega)).2
    have : L k - 1 = m := by omega
    rwa [this] at q
  · rintro ⟨a, b, c⟩
    refine ⟨a, b, ?_⟩
    rw [(h.dist hn hk).1 _ (hl.step hk a b c)]
    omega
end
end Lk
end Go.Proofs.YtafbchjmjfpilaaDoor
