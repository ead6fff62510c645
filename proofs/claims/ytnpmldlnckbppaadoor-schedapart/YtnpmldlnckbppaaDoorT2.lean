/-
  Turns without memory: how long each worker has waited, who comes next.
-/
set_option linter.unusedVariables false
set_option linter.unusedSimpArgs false
namespace Go.Proofs.YtnpmldlnckbppaaDoor

/-- A worker comes, all others wait. -/
def comeW (W : List Nat) (q : Nat) : List Nat := (W.map (· + 1)).set q 0
/-- How long each worker has waited behind a list. -/
def Wl (n : Nat) (l : List Nat) : List Nat := l.foldl comeW (List.replicate n 0)
theorem comeW_len (W : List Nat) (q : Nat) : (comeW W q).length = W.length := by simp [comeW]
theorem comeW_at (W : List Nat) (q k : Nat) (hk : k < W.length) : (comeW W q).getD k 0 = if k = q then 0 else W.getD k 0 + 1 := by
  unfold comeW
  simp only [List.getD, List.getElem?_set, List.length_map, List.getElem?_map]
  by_cases h : q = k
  · subst h; simp [hk]
  · rw [if_neg h, if_neg (Ne.symm h), List.getElem?_eq_getElem hk]
    simp
theorem Wl_snoc (n : Nat) (l : List Nat) (q : Nat) : Wl n (l ++ [q]) = comeW (Wl n l) q := by simp [Wl]
theorem Wl_len (n : Nat) (l : List Nat) : (Wl n l).length = n := by
  unfold Wl
  have : ∀ (l : List Nat) (W : List Nat), (l.foldl comeW W).length = W.length := by
    intro l
    induction l with
    | nil => intro W; rfl
    | cons x l ih => intro W; rw [List.foldl_cons, ih, comeW_len]
  rw [this]
  simp
theorem Wl_snoc_at (n : Nat) (l : List Nat) (q k : Nat) (hk : k < n) : (Wl n (l ++ [q])).getD k 0 = if k = q then 0 else (Wl n l).getD k 0 + 1 := by
  rw [Wl_snoc, comeW_at _ _ _ (by rw [Wl_len]; exact hk)]
theorem list_snoc {α : Type} (l : List α) : l = [] ∨ ∃ l' q, l = l' ++ [q] := by
  rcases List.eq_nil_or_concat l with h | ⟨l', q, h⟩
  · exact .inl h
  · exact .inr ⟨l', q, by simpa using h⟩
theorem snoc_ind {α : Type} {P : List α → Prop} (h0 : P []) (h1 : ∀ l q, P l → P (l ++ [q])) : ∀ l, P l := by
  intro l
  have : ∀ n (l : List α), l.length = n → P l := by
    intro n
    induction n with
    | zero => intro l hl; rw [List.eq_nil_of_length_eq_zero hl]; exact h0
    | succ n ih =>
      intro l hl
      rcases list_snoc l with rfl | ⟨l', q, rfl⟩
      · simp at hl
      · exact h1 l' q (ih l' (by simpa using hl))
  exact this _ l rfl
theorem Wl_le (n : Nat) (l : List Nat) (k : Nat) (hk : k < n) : (Wl n l).getD k 0 ≤ l.length := by
  induction l using snoc_ind with
  | h0 => simp [Wl, List.getD, List.getElem?_replicate, hk]
  | h1 l q ih =>
    rw [Wl_snoc_at n l q k hk, List.length_append, List.length_singleton]
    split <;> omega

/-- The first of those who have waited longest. -/
def isTop (W : List Nat) (i : Nat) : Bool := (List.range W.length).all fun j => decide (W.getD j 0 ≤ W.getD i 0)
def top (W : List Nat) : Nat := ((List.range W.length).find? (isTop W)).getD 0
theorem isTop_iff (W : List Nat) (i : Nat) : isTop W i = true ↔ ∀ j, j < W.length → W.getD j 0 ≤ W.getD i 0 := by
  unfold isTop
  simp only [List.all_eq_true, List.mem_range, decide_eq_true_eq]
theorem exists_top (W : List Nat) (h : 0 < W.length) : ∃ i, i < W.length ∧ isTop W i = true := by
  have : ∀ n, n ≤ W.length → 0 < n → ∃ i, i < n ∧ ∀ j, j < n → W.getD j 0 ≤ W.getD i 0 := by
    intro n
    induction n with
    | zero => intro _ h; omega
    | succ n ih =>
      intro hn _
      rcases Nat.eq_zero_or_pos n with rfl | hp
      · exact ⟨0, by omega, fun j hj => by obtain rfl : j = 0 := (by omega); exact Nat.le_refl _⟩
      · obtain ⟨i, hi, ha⟩ := ih (by omega) hp
        by_cases hc : W.getD n 0 ≤ W.getD i 0
        · exact ⟨i, by omega, fun j hj => by
            by_cases e : j = n
            · rw [e]; exact hc
            · exact ha j (by omega)⟩
        · exact ⟨n, by omega, fun j hj => by
            by_cases e : j = n
            · rw [e]; exact Nat.le_refl _
            · have := ha j (by omega); omega⟩
  obtain ⟨i, hi, ha⟩ := this W.length (Nat.le_refl _) h
  exact ⟨i, hi, (isTop_iff W i).2 ha⟩
theorem top_spec (W : List Nat) (h : 0 < W.length) : top W < W.length ∧ (∀ j, j < W.length → W.getD j 0 ≤ W.getD (top W) 0) ∧ ∀ j, j < top W → W.getD j 0 < W.getD (top W) 0 := by
  obtain ⟨i, hi, ht⟩ := exists_top W h
  cases hf : (List.range W.length).find? (isTop W) with
  | none =>
    rw [List.find?_eq_none] at hf
    exact absurd ht (by simpa using hf i (by simpa using hi))
  | some t =>
    have et : top W = t := by unfold top; rw [hf]; rfl
    rw [et]
    have h1 := List.find?_some hf
    have h2 : t < W.length := by simpa using List.mem_of_find?_eq_some hf
    refine ⟨h2, (isTop_iff W t).1 h1, fun j hj => ?_⟩
    have hjn : ¬ isTop W j = true := by
      rw [List.find?_range_eq_some] at hf
      have := hf.2.2 j hj
      simpa using this
    have hle := (isTop_iff W t).1 h1 j (by omega)
    rcases Nat.lt_or_ge (W.getD j 0) (W.getD t 0) with h3 | h3
    · exact h3
    · exact absurd ((isTop_iff W j).2 (fun i hi => Nat.le_trans ((isTop_iff W t).1 h1 i hi) h3)) hjn
theorem top_unique (W : List Nat) (i : Nat) (h : i < W.length) (h1 : ∀ j, j < W.length → W.getD j 0 ≤ W.getD i 0) (h2 : ∀ j, j < i → W.getD j 0 < W.getD i 0) : i = top W := by
  obtain ⟨t1, t2, t3⟩ := top_spec W (by omega)
  rcases Nat.lt_trichotomy i (top W) with hl | he | hg
  · have a := t3 i hl
    have b := h1 (top W) t1
    omega
  · exact he
  · have a := h2 (top W) hg
    have b := t2 i h
    omega

/-- Is somebody late? -/
def isLate (n E : Nat) (l : List Nat) : Prop := E ≤ (Wl n l).getD (top (Wl n l)) 0
instance (n E : Nat) (l : List Nat) : Decidable (isLate n E l) := by unfold isLate; infer_instance
/-- All who are late are laid (so many at most). -/
def lateF (n E : Nat) : Nat → List Nat → List Nat
  | 0, l => l
  | f + 1, l => if isLate n E l then lateF n E f (l ++ [top (Wl n l)]) else l
theorem lateF_stop {n E f : Nat} {l : List Nat} (h : ¬ isLate n E l) : lateF n E f l = l := by
  cases f with
  | zero => rfl
  | succ f => unfold lateF; rw [if_neg h]
theorem lateF_step {n E f : Nat} {l : List Nat} (h : isLate n E l) : lateF n E (f + 1) l = lateF n E f (l ++ [top (Wl n l)]) := by
  rw [lateF, if_pos h]
def turnsF (n window : Nat) (xs : List Int) (l : List Nat) : List Nat :=
  xs.foldl (fun l p => if p < 0 ∨ (n : Int) ≤ p then l else lateF n (window - n) n l ++ [p.toNat]) l
theorem turnsF_take {n window : Nat} {xs : List Int} {k : Nat} (h : k < xs.length) :
    turnsF n window (xs.take (k + 1)) [] = if xs.getD k 0 < 0 ∨ (n : Int) ≤ xs.getD k 0 then turnsF n window (xs.take k) [] else lateF n (window - n) n (turnsF n window (xs.take k) []) ++ [(xs.getD k 0).toNat] := by
  have e : xs.getD k 0 = xs[k] := by simp [List.getD, List.getElem?_eq_getElem h]
  rw [e]
  unfold turnsF
  rw [← List.take_append_getElem h, List.foldl_append]
  rfl

/-! ### How many are laid -/
/-- Within the rounds of one pick: s have been laid, they are those who have waited less than s. -/
def Sofar (n : Nat) (l : List Nat) (s : Nat) : Prop := ((List.range n).countP fun k => decide ((Wl n l).getD k 0 < s)) = s
theorem Sofar.zero (n : Nat) (l : List Nat) : Sofar n l 0 := by
  unfold Sofar
  rw [List.countP_eq_zero]
  intro k _
  simp
theorem countP_lt_of {n : Nat} {p : Nat → Bool} {q : Nat} (hq : q < n) (hp : p q = false) : (List.range n).countP p + 1 ≤ n := by
  have h1 : (List.range n).countP p + (List.range n).countP (fun k => !p k) = (List.range n).length := by
    have := List.length_eq_countP_add_countP (p := p) (l := List.range n)
    simp only [Bool.decide_eq_true, Bool.not_eq_true, Bool.decide_eq_false] at this
    omega
  have h2 : 0 < (List.range n).countP (fun k => !p k) := by
    rw [List.countP_pos_iff]
    exact ⟨q, by simpa using hq, by simp [hp]⟩
  simp at h1
  omega
theorem Sofar.le {n s : Nat} {l : List Nat} (h : Sofar n l s) : s ≤ n := by
  unfold Sofar at h
  have := List.countP_le_length (p := fun k => decide ((Wl n l).getD k 0 < s)) (l := List.range n)
  rw [List.length_range] at this
  omega
theorem countP_set {n q : Nat} {p p' : Nat → Bool} (hq : q < n) (h1 : p q = false) (h2 : p' q = true) (h3 : ∀ k, k < n → k ≠ q → p' k = p k) : (List.range n).countP p' = (List.range n).countP p + 1 := by
  induction n with
  | zero => omega
  | succ n ih =>
    rw [List.range_succ, List.countP_append, List.countP_append]
    by_cases e : q = n
    · subst e
      have : (List.range q).countP p' = (List.range q).countP p := by
        apply List.countP_congr
        intro k hk
        have hk2 : k < q := by simpa using hk
        rw [h3 k (by omega) (by omega)]
      rw [this]
      simp [h1, h2]
    · rw [ih (by omega) (fun k hk => h3 k (by omega))]
      have := h3 n (by omega) (fun h => e h.symm)
      simp [this]
      omega
theorem Sofar.next {n s E : Nat} {l : List Nat} (h : Sofar n l s) (hn : 0 < n) (hE : n ≤ E) (hl : isLate n E l) : s + 1 ≤ n ∧ Sofar n (l ++ [top (Wl n l)]) (s + 1) := by
  have hs := h.le
  obtain ⟨t1, t2, t3⟩ := top_spec (Wl n l) (by rw [Wl_len]; exact hn)
  rw [Wl_len] at t1
  unfold isLate at hl
  have hp : (fun k => decide ((Wl n l).getD k 0 < s)) (top (Wl n l)) = false := decide_eq_false (by omega)
  refine ⟨?_, ?_⟩
  · have := countP_lt_of (p := fun k => decide ((Wl n l).getD k 0 < s)) t1 hp
    unfold Sofar at h
    omega
  · unfold Sofar
    rw [countP_set (p := fun k => decide ((Wl n l).getD k 0 < s)) t1 hp]
    · unfold Sofar at h
      rw [h]
    · show decide ((Wl n (l ++ [top (Wl n l)])).getD (top (Wl n l)) 0 < s + 1) = true
      rw [Wl_snoc_at n l _ _ t1, if_pos rfl]
      exact decide_eq_true (by omega)
    · intro k hk hne
      show decide ((Wl n (l ++ [top (Wl n l)])).getD k 0 < s + 1) = decide ((Wl n l).getD k 0 < s)
      rw [Wl_snoc_at n l _ _ hk, if_neg hne]
      exact decide_eq_decide.2 (by omega)
end Go.Proofs.YtnpmldlnckbppaaDoor
