/-
  Lk3: A search in breadth, without memory: paths in a queue, each worker reached by one; the first that leads back is the cycle that is told.
-/
import Derived.Test.YtafbchjmjfpilaaDoorLk2
set_option linter.unusedVariables false
set_option linter.unusedSimpArgs false
namespace Go.Proofs.YtafbchjmjfpilaaDoor
namespace Lk

section
variable {E : Nat → Nat → Bool} {t : Nat}

/-- The last one of a path. -/
def las (x : List Nat) : Nat := x.getLastD 0
theorem las_snoc (x : List Nat) (k : Nat) : las (x ++ [k]) = k := by unfold las; simp
theorem las_one (k : Nat) : las [k] = k := rfl

/-- Strictly ahead, of one length. -/
def bef : List Nat → List Nat → Prop
  | a :: l, b :: m => a < b ∨ a = b ∧ bef l m
  | _, _ => False
theorem bef_ahead : ∀ {l m : List Nat}, bef l m → ahead l m := by
  intro l
  induction l with
  | nil => intro m h; trivial
  | cons a l ih =>
    intro m h
    cases m with
    | nil => exact h.elim
    | cons b m =>
      rcases h with h | ⟨h, h'⟩
      · exact .inl h
      · exact .inr ⟨h, ih h'⟩
theorem bef_snoc : ∀ {l m : List Nat}, bef l m → ∀ j k : Nat, bef (l ++ [j]) (m ++ [k]) := by
  intro l
  induction l with
  | nil => intro m h; cases m <;> exact h.elim
  | cons a l ih =>
    intro m h j k
    cases m with
    | nil => exact h.elim
    | cons b m =>
      rcases h with h | ⟨h, h'⟩
      · exact .inl h
      · exact .inr ⟨h, ih h' j k⟩
theorem bef_last : ∀ {l : List Nat} {j k : Nat}, j < k → bef (l ++ [j]) (l ++ [k]) := by
  intro l
  induction l with
  | nil => intro j k h; exact .inl h
  | cons a l ih => intro j k h; exact .inr ⟨rfl, ih h⟩
theorem bef_trans : ∀ {l m n : List Nat}, bef l m → bef m n → bef l n := by
  intro l
  induction l with
  | nil => intro m n h; cases m <;> exact h.elim
  | cons a l ih =>
    intro m n h h2
    cases m with
    | nil => exact h.elim
    | cons b m =>
      cases n with
      | nil => exact h2.elim
      | cons c n =>
        rcases h with h | ⟨h, h'⟩ <;> rcases h2 with q | ⟨q, q'⟩
        · exact .inl (by omega)
        · exact .inl (by omega)
        · exact .inl (by omega)
        · exact .inr ⟨by omega, ih h' q'⟩

/-- The order in which paths come. -/
def plt (p q : List Nat) : Prop := p.length < q.length ∨ p.length = q.length ∧ bef p q
def ple (p q : List Nat) : Prop := p = q ∨ plt p q
theorem plt_trans {p q r : List Nat} (h : plt p q) (k : plt q r) : plt p r := by
  rcases h with h | ⟨h, h'⟩ <;> rcases k with k | ⟨k, k'⟩
  · exact .inl (by omega)
  · exact .inl (by omega)
  · exact .inl (by omega)
  · exact .inr ⟨by omega, bef_trans h' k'⟩
theorem ple_trans {p q r : List Nat} (h : ple p q) (k : ple q r) : ple p r := by
  rcases h with rfl | h
  · exact k
  · rcases k with rfl | k
    · exact .inr h
    · exact .inr (plt_trans h k)
theorem plt_snoc {p q : List Nat} (h : plt p q) (j k : Nat) : plt (p ++ [j]) (q ++ [k]) := by
  rcases h with h | ⟨h, h'⟩
  · exact .inl (by simp; omega)
  · exact .inr ⟨by simp [h], bef_snoc h' j k⟩
theorem ple_snoc {p q : List Nat} (h : ple p q) (k : Nat) : ple (p ++ [k]) (q ++ [k]) := by
  rcases h with rfl | h
  · exact .inl rfl
  · exact .inr (plt_snoc h k k)
theorem plt_more (p : List Nat) (k : Nat) : plt p (p ++ [k]) := .inl (by simp)
theorem plt_last (p : List Nat) {j k : Nat} (h : j < k) : plt (p ++ [j]) (p ++ [k]) := .inr ⟨by simp, bef_last h⟩
theorem ple_len {p q : List Nat} (h : ple p q) : p.length ≤ q.length := by
  rcases h with rfl | h | ⟨h, _⟩ <;> omega
theorem ahead_refl : ∀ l : List Nat, ahead l l := by
  intro l
  induction l with
  | nil => trivial
  | cons a l ih => exact .inr ⟨rfl, ih⟩
theorem ple_ahead {p q : List Nat} (h : ple p q) (hl : p.length = q.length) : ahead p q := by
  rcases h with rfl | h | ⟨_, h⟩
  · exact ahead_refl _
  · omega
  · exact bef_ahead h

/-- What holds between two paths: those that have been gone on from, those that wait. -/
structure Bf (E : Nat → Nat → Bool) (t : Nat) (pop que : List (List Nat)) : Prop where
  ord : (pop ++ que).Pairwise plt
  frm : ∀ x ∈ pop ++ que, x = [t] ∨ ∃ y k, x = y ++ [k] ∧ y ∈ pop ∧ E (las y) k = true ∧ k < 16 ∧ k ≠ t
  one : ((pop ++ que).map las).Nodup
  all : ∀ y ∈ pop, ∀ k, k < 16 → E (las y) k = true → ∃ x ∈ pop ++ que, las x = k ∧ ple x (y ++ [k])
  fst : [t] ∈ pop ++ que

theorem Bf.start (E : Nat → Nat → Bool) (t : Nat) : Bf E t [] [[t]] :=
  ⟨by simp, fun x hx => .inl (by simpa using hx), by simp, fun y hy => (by cases hy), by simp⟩

variable {pop que : List (List Nat)} {p : List Nat}

theorem Bf.ne (h : Bf E t pop que) {x : List Nat} (hx : x ∈ pop ++ que) : x ≠ [] := by
  rcases h.frm x hx with rfl | ⟨y, k, rfl, _⟩
  · simp
  · simp

/-- The way of a path. -/
def lnk (E : Nat → Nat → Bool) (t : Nat) : Nat → List Nat → Prop
  | _, [] => True
  | i, k :: p => k < 16 ∧ E i k = true ∧ k ≠ t ∧ lnk E t k p
theorem las_cons (i k : Nat) (p : List Nat) : las (i :: k :: p) = las (k :: p) := rfl
theorem lnk_snoc : ∀ {p : List Nat} {i k : Nat}, lnk E t i p → k < 16 → E (las (i :: p)) k = true → k ≠ t → lnk E t i (p ++ [k]) := by
  intro p
  induction p with
  | nil => intro i k _ hk he hn; exact ⟨hk, he, hn, trivial⟩
  | cons a p ih => intro i k h hk he hn; exact ⟨h.1, h.2.1, h.2.2.1, ih h.2.2.2 hk (by rwa [las_cons] at he) hn⟩
theorem lnk_left : ∀ {p : List Nat} {i k : Nat}, lnk E t i (p ++ [k]) → lnk E t i p ∧ k < 16 ∧ E (las (i :: p)) k = true := by
  intro p
  induction p with
  | nil => intro i k h; exact ⟨trivial, h.1, h.2.1⟩
  | cons a p ih =>
    intro i k h
    have := ih h.2.2.2
    exact ⟨⟨h.1, h.2.1, h.2.2.1, this.1⟩, this.2.1, by rw [las_cons]; exact this.2.2⟩
theorem pth_lnk : ∀ {p : List Nat} {i : Nat}, pth E t i p ↔ lnk E t i p ∧ E (las (i :: p)) t = true := by
  intro p
  induction p with
  | nil => intro i; exact ⟨fun h => ⟨trivial, h⟩, fun h => h.2⟩
  | cons a p ih =>
    intro i
    rw [las_cons]
    constructor
    · intro h; have := ih.1 h.2.2.2; exact ⟨⟨h.1, h.2.1, h.2.2.1, this.1⟩, this.2⟩
    · intro h; exact ⟨h.1.1, h.1.2.1, h.1.2.2.1, ih.2 ⟨h.1.2.2.2, h.2⟩⟩

theorem Bf.way (h : Bf E t pop que) : ∀ (n : Nat) (x : List Nat), x ∈ pop ++ que → x.length ≤ n → ∃ q, x = t :: q ∧ lnk E t t q := by
  intro n
  induction n with
  | zero => intro x hx hn; exact absurd (List.length_eq_zero_iff.1 (by omega)) (h.ne hx)
  | succ n ih =>
    intro x hx hn
    rcases h.frm x hx with rfl | ⟨y, k, rfl, hy, he, hk, hkt⟩
    · exact ⟨[], rfl, trivial⟩
    · obtain ⟨q, rfl, hq⟩ := ih y (List.mem_append_left _ hy) (by simp at hn ⊢; omega)
      exact ⟨q ++ [k], rfl, lnk_snoc hq hk he hkt⟩

theorem Bf.has (h : Bf E t pop que) {q : List Nat} : lnk E t t q → (∃ x ∈ pop ++ que, las x = las (t :: q) ∧ ple x (t :: q)) ∨ ∃ x ∈ que, ple x (t :: q) := by
  generalize hn : q.length = n
  induction n generalizing q with
  | zero =>
    intro _
    have := List.length_eq_zero_iff.1 hn
    subst this
    exact .inl ⟨[t], h.fst, rfl, .inl rfl⟩
  | succ n ih =>
    intro hq
    obtain ⟨q', k, rfl⟩ : ∃ q' k, q = q' ++ [k] := by
      have hne : q ≠ [] := fun e => by subst e; simp at hn
      exact ⟨q.dropLast, q.getLast hne, (List.dropLast_concat_getLast hne).symm⟩
    obtain ⟨hq', hk, he⟩ := lnk_left hq
    rcases ih (by simpa using hn) hq' with ⟨x, hx, hl, hle⟩ | ⟨x, hx, hle⟩
    · rcases List.mem_append.1 hx with hp | hp
      · obtain ⟨z, hz, hzl, hzle⟩ := h.all x hp k hk (by rw [hl]; exact he)
        refine .inl ⟨z, hz, ?_, ple_trans hzle (ple_snoc hle k)⟩
        rw [hzl]
        exact (las_snoc (t :: q') k).symm
      · exact .inr ⟨x, hp, ple_trans hle (.inr (plt_more (t :: q') k))⟩
    · exact .inr ⟨x, hx, ple_trans hle (.inr (plt_more (t :: q') k))⟩

theorem Bf.head (h : Bf E t pop (p :: que)) {x : List Nat} (hx : x ∈ p :: que) : ple p x := by
  rcases List.mem_cons.1 hx with q | q
  · exact .inl q.symm
  · have o := (List.pairwise_append.1 h.ord).2.1
    exact .inr ((List.pairwise_cons.1 o).1 x q)
theorem Bf.popped (h : Bf E t pop (p :: que)) {x : List Nat} (hx : x ∈ pop) : plt x p :=
  (List.pairwise_append.1 h.ord).2.2 x hx p List.mem_cons_self

/-- A path that has been met is ahead of each that comes of this one. -/
theorem Bf.met (h : Bf E t pop (p :: que)) {x : List Nat} (hx : x ∈ pop ++ p :: que) (k : Nat) : plt x (p ++ [k]) := by
  have hp : p ≠ [] := h.ne (List.mem_append_right _ List.mem_cons_self)
  have hl : 0 < p.length := List.length_pos_iff.2 hp
  rcases List.mem_append.1 hx with q | q
  · exact plt_trans (h.popped q) (plt_more p k)
  · rcases List.mem_cons.1 q with q | q
    · rw [q]; exact plt_more p k
    · rcases h.frm x hx with rfl | ⟨y, j, rfl, hy, _⟩
      · exact .inl (by simp; omega)
      · exact plt_snoc (h.popped hy) j k

/-- Those that are new. -/
def new (E : Nat → Nat → Bool) (R : Nat → Bool) (u : Nat) : List Nat := (List.range 16).filter fun k => E u k && !R k

theorem Bf.step (h : Bf E t pop (p :: que)) {R : Nat → Bool} (hR : ∀ k, k < 16 → (R k = true ↔ k ∈ (pop ++ p :: que).map las)) (ht : t < 16) :
    Bf E t (pop ++ [p]) (que ++ (new E R (las p)).map fun k => p ++ [k]) := by
  have hnew : ∀ k, k ∈ new E R (las p) ↔ k < 16 ∧ E (las p) k = true ∧ k ∉ (pop ++ p :: que).map las := fun k => by
    unfold new
    rw [List.mem_filter, List.mem_range]
    constructor
    · rintro ⟨a, b⟩
      simp only [Bool.and_eq_true, Bool.not_eq_true'] at b
      exact ⟨a, b.1, fun q => by rw [(hR k a).2 q] at b; cases b.2⟩
    · rintro ⟨a, b, c⟩
      refine ⟨a, ?_⟩
      simp only [Bool.and_eq_true, Bool.not_eq_true']
      refine ⟨b, ?_⟩
      cases e : R k with
      | false => rfl
      | true => exact absurd ((hR k a).1 e) c
  have hall : ∀ x, x ∈ (pop ++ [p]) ++ (que ++ (new E R (las p)).map fun k => p ++ [k]) ↔ x ∈ pop ++ p :: que ∨ ∃ k ∈ new E R (las p), x = p ++ [k] := fun x => by
    simp only [List.mem_append, List.mem_cons, List.mem_map, List.not_mem_nil, or_false]
    constructor
    · rintro ((q | q) | q | ⟨k, hk, rfl⟩)
      · exact .inl (.inl q)
      · exact .inl (.inr (.inl q))
      · exact .inl (.inr (.inr q))
      · exact .inr ⟨k, hk, rfl⟩
    · rintro ((q | q | q) | ⟨k, hk, rfl⟩)
      · exact .inl (.inl q)
      · exact .inl (.inr q)
      · exact .inr (.inl q)
      · exact .inr (.inr ⟨k, hk, rfl⟩)
  have heq : (pop ++ [p]) ++ (que ++ (new E R (las p)).map fun k => p ++ [k]) = (pop ++ p :: que) ++ (new E R (las p)).map fun k => p ++ [k] := by simp
  have hsort : (new E R (las p)).Pairwise (· < ·) := List.Pairwise.filter _ List.pairwise_lt_range
  refine ⟨?_, fun x hx => ?_, ?_, fun y hy k hk he => ?_, ?_⟩
  · rw [heq]
    refine List.pairwise_append.2 ⟨h.ord, ?_, fun x hx z hz => ?_⟩
    · rw [List.pairwise_map]
      exact hsort.imp (fun q => plt_last p q)
    · obtain ⟨k, _, rfl⟩ := List.mem_map.1 hz
      exact h.met hx k
  · rcases (hall x).1 hx with q | ⟨k, hk, rfl⟩
    · rcases h.frm x q with e | ⟨y, k, a, b, c⟩
      · exact .inl e
      · exact .inr ⟨y, k, a, List.mem_append_left _ b, c⟩
    · obtain ⟨a, b, c⟩ := (hnew k).1 hk
      refine .inr ⟨p, k, rfl, by simp, b, a, fun q => c ?_⟩
      rw [q]
      exact List.mem_map.2 ⟨[t], h.fst, rfl⟩
  · rw [heq, List.map_append, List.map_map]
    have hid : (new E R (las p)).map (las ∘ fun k => p ++ [k]) = new E R (las p) := by
      conv => rhs; rw [← List.map_id (new E R (las p))]
      exact List.map_congr_left (fun k _ => las_snoc p k)
    rw [hid]
    refine List.nodup_append.2 ⟨h.one, hsort.imp (fun q => Nat.ne_of_lt q), fun a ha b hb e => ?_⟩
    subst e
    exact ((hnew a).1 hb).2.2 ha
  · rcases List.mem_append.1 hy with q | q
    · obtain ⟨x, hx, hl, hle⟩ := h.all y q k hk he
      exact ⟨x, (hall x).2 (.inl hx), hl, hle⟩
    · have : y = p := List.mem_singleton.1 q
      subst this
      by_cases c : k ∈ (pop ++ y :: que).map las
      · obtain ⟨x, hx, hl⟩ := List.mem_map.1 c
        exact ⟨x, (hall x).2 (.inl hx), hl, .inr (h.met hx k)⟩
      · exact ⟨y ++ [k], (hall _).2 (.inr ⟨k, (hnew k).2 ⟨hk, he, c⟩, rfl⟩), las_snoc y k, .inl rfl⟩
  · exact (hall _).2 (.inl h.fst)

/-- Who has been reached, behind that step. -/
theorem Bf.reach (h : Bf E t pop (p :: que)) {R : Nat → Bool} (hR : ∀ k, k < 16 → (R k = true ↔ k ∈ (pop ++ p :: que).map las)) :
    ∀ k, k < 16 → ((R k || E (las p) k) = true ↔ k ∈ ((pop ++ [p]) ++ (que ++ (new E R (las p)).map fun k => p ++ [k])).map las) := fun k hk => by
  have heq : (pop ++ [p]) ++ (que ++ (new E R (las p)).map fun k => p ++ [k]) = (pop ++ p :: que) ++ (new E R (las p)).map fun k => p ++ [k] := by simp
  have hid : (new E R (las p)).map (las ∘ fun k => p ++ [k]) = new E R (las p) := by
    conv => rhs; rw [← List.map_id (new E R (las p))]
    exact List.map_congr_left (fun k _ => las_snoc p k)
  rw [heq, List.map_append, List.map_map, hid, List.mem_append, ← hR k hk]
  unfold new
  rw [List.mem_filter, List.mem_range]
  cases R k <;> cases E (las p) k <;> simp [hk]

/-- All that are there are at most sixteen. -/
theorem Bf.few (h : Bf E t pop que) (ht : t < 16) : pop.length + que.length ≤ 16 := by
  have := nodup_le16 ((pop ++ que).map las) (List.range 16) h.one (fun x hx => by
    obtain ⟨y, hy, rfl⟩ := List.mem_map.1 hx
    rcases h.frm y hy with rfl | ⟨z, k, rfl, _, _, hk, _⟩
    · exact List.mem_range.2 ht
    · rw [las_snoc]; exact List.mem_range.2 hk)
  simpa using this
theorem Bf.short (h : Bf E t pop que) (ht : t < 16) : ∀ x ∈ pop ++ que, las x < 16 := fun y hy => by
  rcases h.frm y hy with rfl | ⟨z, k, rfl, _, _, hk, _⟩
  · exact ht
  · rw [las_snoc]; exact hk

/-- The first that leads back. -/
theorem Bf.found (h : Bf E t pop (p :: que)) (ht : t < 16) (hn : ∀ y ∈ pop, E (las y) t = false) (he : E (las p) t = true) : cyc E t = some p := by
  have hpm : p ∈ pop ++ p :: que := List.mem_append_right _ List.mem_cons_self
  obtain ⟨q, rfl, hq⟩ := h.way p.length p hpm (Nat.le_refl _)
  have hp : pth E t t q := pth_lnk.2 ⟨hq, he⟩
  have least : ∀ r, pth E t t r → ple (t :: q) (t :: r) := fun r hr => by
    obtain ⟨hl, hE⟩ := pth_lnk.1 hr
    rcases h.has hl with ⟨x, hx, hlx, hle⟩ | ⟨x, hx, hle⟩
    · rcases List.mem_append.1 hx with a | a
      · have := hn x a
        rw [hlx, hE] at this; cases this
      · exact ple_trans (h.head a) hle
    · exact ple_trans (h.head hx) hle
  have hb : q = bst E t q.length t := bst_only hp (fun r hr hpr => by
    have := ple_ahead (least r hpr) (by simp [hr])
    rcases this with a | ⟨_, a⟩
    · omega
    · exact a)
  have hl : lst E t q.length t := ⟨pth_rch hp, fun m hm => by
    cases e : rch E t m t with
    | false => rfl
    | true =>
      have := ple_len (least _ (bst_pth e))
      simp only [List.length_cons, bst_len] at this
      omega⟩
  rw [cyc_is hl ht, ← hb]

theorem Bf.none (h : Bf E t pop []) (hn : ∀ y ∈ pop, E (las y) t = false) : cyc E t = none := by
  refine cyc_no fun n => ?_
  cases e : rch E t n t with
  | false => rfl
  | true =>
    obtain ⟨hl, hE⟩ := pth_lnk.1 (bst_pth e)
    rcases h.has hl with ⟨x, hx, hlx, hle⟩ | ⟨x, hx, hle⟩
    · rw [List.append_nil] at hx
      have := hn x hx
      rw [hlx, hE] at this; cases this
    · cases hx
end
end Lk
end Go.Proofs.YtafbchjmjfpilaaDoor
