/-
  Runs without memory: how many operations are done; programs apart; programs that add.
-/
import Derived.Test.YtnpmldlnckbppaaDoorS4
import Derived.Test.YtnpmldlnckbppaaDoorT2
set_option linter.unusedVariables false
set_option linter.unusedSimpArgs false
namespace Go.Proofs.YtnpmldlnckbppaaDoor

theorem runs_snoc (Q : List (List OpR)) (xs : List Int) (x : Int) (s : St) : runs Q (xs ++ [x]) s = stp Q (runs Q xs s) x := by
  unfold runs
  rw [List.foldl_append]
  rfl
theorem runs_alen (Q : List (List OpR)) (xs : List Int) (s : St) : (runs Q xs s).A.length = s.A.length ∧ (runs Q xs s).N.length = s.N.length := by
  induction xs using snoc_ind with
  | h0 => exact ⟨rfl, rfl⟩
  | h1 xs x ih =>
    rw [runs_snoc]
    have := stp_len (Q := Q) (s := runs Q xs s) (p := x)
    exact ⟨this.1.trans ih.1, this.2.1.trans ih.2⟩
theorem stp_cases (Q : List (List OpR)) (s : St) (x : Int) : stp Q s x = s ∧ (∀ i : Nat, x = i → nxt Q s.A i = none) ∨ ∃ (i : Nat) (o : OpR), x = i ∧ nxt Q s.A i = some o ∧ stp Q s x = s.does i o := by
  unfold stp
  by_cases h : x < 0
  · rw [if_pos h]
    exact .inl ⟨rfl, fun i hi => by omega⟩
  · rw [if_neg h]
    obtain ⟨i, rfl⟩ : ∃ i : Nat, x = i := ⟨x.toNat, by omega⟩
    rw [Int.toNat_natCast]
    cases e : nxt Q s.A i with
    | none => exact .inl ⟨rfl, fun j hj => by obtain rfl : i = j := (by omega); exact e⟩
    | some o => exact .inr ⟨i, o, rfl, e, rfl⟩
theorem nxt_lt {Q : List (List OpR)} {A : List (List Int)} {i : Nat} {o : OpR} (h : nxt Q A i = some o) : (A.getD i []).length < (Q.getD i []).length ∧ i < Q.length := by
  have h1 := (List.getElem?_eq_some_iff.1 h).1
  refine ⟨h1, ?_⟩
  rcases Nat.lt_or_ge i Q.length with h2 | h2
  · exact h2
  · have : Q.getD i [] = [] := by simp [List.getD, List.getElem?_eq_none h2]
    rw [this] at h1
    simp at h1
/-- So many of a program's operations are done. -/
theorem runs_done (Q : List (List OpR)) (n : Nat) (xs : List Int) (i : Nat) (hi : i < Q.length) : ((runs Q xs (St.start n Q.length)).A.getD i []).length = min (Q.getD i []).length (xs.count (i : Int)) := by
  induction xs using snoc_ind with
  | h0 =>
    have : (St.start n Q.length).A.getD i [] = [] := by simp [St.start, List.getD, List.getElem?_replicate, hi]
    show ((St.start n Q.length).A.getD i []).length = _
    rw [this]
    simp
  | h1 xs x ih =>
    rw [runs_snoc, List.count_append]
    have hl := (runs_alen Q xs (St.start n Q.length)).1
    have hl2 : (St.start n Q.length).A.length = Q.length := by simp [St.start]
    generalize runs Q xs (St.start n Q.length) = s at *
    rcases stp_cases Q s x with ⟨e, hno⟩ | ⟨j, o, rfl, hn, e⟩
    · rw [e]
      by_cases hx : x = (i : Int)
      · have h1 := hno i hx
        have h2 : (Q.getD i []).length ≤ (s.A.getD i []).length := List.getElem?_eq_none_iff.1 h1
        subst hx
        simp only [List.count_singleton_self]
        omega
      · have : [x].count (i : Int) = 0 := by simp [List.count_cons, hx]
        omega
    · rw [e]
      obtain ⟨h3, h4⟩ := nxt_lt hn
      show ((s.A.set j (s.A.getD j [] ++ [_])).getD i []).length = _
      rw [getD_set_list (by omega)]
      by_cases hj : i = j
      · subst hj
        rw [if_pos rfl, List.length_append, List.length_singleton, List.count_singleton_self]
        omega
      · rw [if_neg hj]
        have : [(j : Int)].count (i : Int) = 0 := by
          have : ¬ (j : Int) = (i : Int) := by omega
          simp [List.count_cons, this]
        omega
theorem sum_set (A : List (List Int)) (i : Nat) (x : List Int) (hi : i < A.length) : ((A.set i x).map List.length).sum + (A.getD i []).length = (A.map List.length).sum + x.length := by
  induction A generalizing i with
  | nil => simp at hi
  | cons a A ih =>
    cases i with
    | zero => simp; omega
    | succ i =>
      have := ih i (by simpa using hi)
      simp only [List.set_cons_succ, List.map_cons, List.sum_cons, List.getD_cons_succ]
      omega
/-- As many picks did something as operations are done. -/
theorem runs_sum (Q : List (List OpR)) (n : Nat) (xs : List Int) : (runs Q xs (St.start n Q.length)).n = ((runs Q xs (St.start n Q.length)).A.map List.length).sum := by
  induction xs using snoc_ind with
  | h0 =>
    show 0 = ((List.replicate Q.length ([] : List Int)).map List.length).sum
    rw [List.map_replicate]
    simp
  | h1 xs x ih =>
    rw [runs_snoc]
    have hl := (runs_alen Q xs (St.start n Q.length)).1
    have hl2 : (St.start n Q.length).A.length = Q.length := by simp [St.start]
    generalize runs Q xs (St.start n Q.length) = s at *
    rcases stp_cases Q s x with ⟨e, hno⟩ | ⟨j, o, rfl, hn, e⟩
    · rw [e]; exact ih
    · rw [e]
      obtain ⟨h3, h4⟩ := nxt_lt hn
      show s.n + 1 = ((s.A.set j (s.A.getD j [] ++ [_])).map List.length).sum
      have := sum_set s.A j (s.A.getD j [] ++ [(act o.k.toNat o.a o.b (s.N.getD o.c.toNat 0)).1]) (by omega)
      rw [List.length_append, List.length_singleton] at this
      omega
theorem len_ext {A : List (List Int)} {Q : List (List OpR)} (hl : A.length = Q.length) (h : ∀ i, i < Q.length → (A.getD i []).length = (Q.getD i []).length) : A.map List.length = Q.map List.length := by
  apply List.ext_getElem (by simpa using hl)
  intro i h1 h2
  have hi : i < Q.length := by simpa using h2
  have hi2 : i < A.length := by omega
  have := h i hi
  simpa [List.getD, List.getElem?_eq_getElem hi, List.getElem?_eq_getElem hi2] using this
/-- All is done. -/
theorem runs_all (Q : List (List OpR)) (n : Nat) (xs : List Int) (h : ∀ i, i < Q.length → (Q.getD i []).length ≤ xs.count (i : Int)) :
    (∀ i, i < Q.length → ((runs Q xs (St.start n Q.length)).A.getD i []).length = (Q.getD i []).length) ∧ (runs Q xs (St.start n Q.length)).n = (Q.map List.length).sum := by
  have h1 : ∀ i, i < Q.length → ((runs Q xs (St.start n Q.length)).A.getD i []).length = (Q.getD i []).length := fun i hi => by
    rw [runs_done Q n xs i hi]
    have := h i hi
    omega
  refine ⟨h1, ?_⟩
  rw [runs_sum, len_ext (by rw [(runs_alen _ _ _).1]; simp [St.start]) h1]

/-! ### Programs apart -/
/-- A program alone: what the cells have, what is answered. -/
def sol (n : Nat) (os : List OpR) : List Int × List Int := os.foldl (fun p o => (p.1.set o.c.toNat (act o.k.toNat o.a o.b (p.1.getD o.c.toNat 0)).2, p.2 ++ [(act o.k.toNat o.a o.b (p.1.getD o.c.toNat 0)).1])) (List.replicate n 0, [])
theorem sol_len (n : Nat) (os : List OpR) : (sol n os).1.length = n := by
  unfold sol
  have : ∀ (os : List OpR) (p : List Int × List Int), (os.foldl (fun p o => (p.1.set o.c.toNat (act o.k.toNat o.a o.b (p.1.getD o.c.toNat 0)).2, p.2 ++ [(act o.k.toNat o.a o.b (p.1.getD o.c.toNat 0)).1])) p).1.length = p.1.length := by
    intro os
    induction os with
    | nil => intro p; rfl
    | cons o os ih => intro p; rw [List.foldl_cons, ih]; simp
  rw [this]
  simp
theorem sol_snoc (n : Nat) (os : List OpR) (o : OpR) : sol n (os ++ [o]) = ((sol n os).1.set o.c.toNat (act o.k.toNat o.a o.b ((sol n os).1.getD o.c.toNat 0)).2, (sol n os).2 ++ [(act o.k.toNat o.a o.b ((sol n os).1.getD o.c.toNat 0)).1]) := by
  unfold sol
  rw [List.foldl_append]
  rfl
/-- The i-th program touches the cells from 4 * i on alone. -/
def Moved (n : Nat) (Q : List (List OpR)) : Prop := ∀ i o, o ∈ Q.getD i [] → o.c.toNat / 4 = i ∧ o.c.toNat < n
structure Each (n : Nat) (Q : List (List OpR)) (s : St) : Prop where
  ans : ∀ i, i < Q.length → s.A.getD i [] = (sol n ((Q.getD i []).take (s.A.getD i []).length)).2
  own : ∀ c, c / 4 < Q.length → s.N.getD c 0 = (sol n ((Q.getD (c / 4) []).take (s.A.getD (c / 4) []).length)).1.getD c 0
  rest : ∀ c, Q.length ≤ c / 4 → s.N.getD c 0 = 0
theorem each_runs {n : Nat} {Q : List (List OpR)} (hM : Moved n Q) (xs : List Int) : Each n Q (runs Q xs (St.start n Q.length)) := by
  induction xs using snoc_ind with
  | h0 =>
    have e : ∀ i, (St.start n Q.length).A.getD i [] = [] := fun i => by
      simp only [St.start, List.getD, List.getElem?_replicate]
      split <;> rfl
    have e2 : ∀ c, (List.replicate n (0 : Int)).getD c 0 = 0 := fun c => by
      simp only [List.getD, List.getElem?_replicate]
      split <;> rfl
    refine ⟨fun i hi => ?_, fun c hc => ?_, fun c hc => e2 c⟩
    · show (St.start n Q.length).A.getD i [] = (sol n ((Q.getD i []).take ((St.start n Q.length).A.getD i []).length)).2
      rw [e]
      rfl
    · show (St.start n Q.length).N.getD c 0 = (sol n ((Q.getD (c / 4) []).take ((St.start n Q.length).A.getD (c / 4) []).length)).1.getD c 0
      rw [e]
      rfl
  | h1 xs x ih =>
    rw [runs_snoc]
    have hl := (runs_alen Q xs (St.start n Q.length)).1
    have hlN := (runs_alen Q xs (St.start n Q.length)).2
    have hl2 : (St.start n Q.length).A.length = Q.length := by simp [St.start]
    have hl3 : (St.start n Q.length).N.length = n := by simp [St.start]
    generalize runs Q xs (St.start n Q.length) = s at *
    rcases stp_cases Q s x with ⟨e, hno⟩ | ⟨j, o, rfl, hn, e⟩
    · rw [e]; exact ih
    · rw [e]
      obtain ⟨h3, h4⟩ := nxt_lt hn
      have hon : (Q.getD j [])[(s.A.getD j []).length]? = some o := hn
      have hom : o ∈ Q.getD j [] := List.mem_of_getElem? hon
      obtain ⟨hc1, hc2⟩ := hM j o hom
      have hown := ih.own o.c.toNat (by omega)
      rw [hc1] at hown
      have hjA : j < s.A.length := by omega
      have etake : (Q.getD j []).take ((s.A.getD j []).length + 1) = (Q.getD j []).take (s.A.getD j []).length ++ [o] := by
        rw [List.take_add_one, hon]; rfl
      have eA : ∀ i, (s.does j o).A.getD i [] = if i = j then s.A.getD j [] ++ [(act o.k.toNat o.a o.b (s.N.getD o.c.toNat 0)).1] else s.A.getD i [] := fun i => getD_set_list hjA
      have eN : ∀ c, (s.does j o).N.getD c 0 = if c = o.c.toNat then (act o.k.toNat o.a o.b (s.N.getD o.c.toNat 0)).2 else s.N.getD c 0 := fun c => by
        show (s.N.set o.c.toNat _).getD c 0 = _
        rw [getD_set]
        by_cases hc : c = o.c.toNat
        · rw [if_pos hc, if_pos ⟨hc, by omega⟩]
        · rw [if_neg hc, if_neg (fun h => hc h.1)]
      refine ⟨fun i hi => ?_, fun c hc => ?_, fun c hc => ?_⟩
      · rw [eA]
        by_cases hij : i = j
        · subst hij
          rw [if_pos rfl, List.length_append, List.length_singleton, etake, sol_snoc, ← hown, ← ih.ans i hi]
        · rw [if_neg hij]
          exact ih.ans i hi
      · rw [eN, eA]
        by_cases hcj : c / 4 = j
        · rw [hcj, if_pos rfl, List.length_append, List.length_singleton, etake, sol_snoc, getD_set, sol_len, ← hown]
          by_cases hcc : c = o.c.toNat
          · rw [if_pos hcc, if_pos ⟨hcc, by omega⟩]
          · rw [if_neg hcc, if_neg (fun h => hcc h.1)]
            have := ih.own c hc
            rw [hcj] at this
            exact this
        · rw [if_neg (fun h => hcj (by rw [h]; exact hc1)), if_neg hcj]
          exact ih.own c hc
      · rw [eN, if_neg (fun h => by rw [h] at hc; omega)]
        exact ih.rest c hc
theorem list_ext {A B : List (List Int)} (h : A.length = B.length) (he : ∀ i, i < A.length → A.getD i [] = B.getD i []) : A = B := by
  apply List.ext_getElem h
  intro i h1 h2
  have := he i h1
  simpa [List.getD, List.getElem?_eq_getElem h1, List.getElem?_eq_getElem h2] using this
theorem int_ext {L M : List Int} (h : L.length = M.length) (he : ∀ k, L.getD k 0 = M.getD k 0) : L = M := by
  apply List.ext_getElem h
  intro i h1 h2
  have := he i
  simpa [List.getD, List.getElem?_eq_getElem h1, List.getElem?_eq_getElem h2] using this
/-- What programs apart do does not hang on the order. -/
theorem apart_same {n : Nat} {Q : List (List OpR)} (hM : Moved n Q) (xs ys : List Int) (hx : ∀ i, i < Q.length → (Q.getD i []).length ≤ xs.count (i : Int)) (hy : ∀ i, i < Q.length → (Q.getD i []).length ≤ ys.count (i : Int)) :
    (runs Q xs (St.start n Q.length)).A = (runs Q ys (St.start n Q.length)).A ∧ (runs Q xs (St.start n Q.length)).N = (runs Q ys (St.start n Q.length)).N := by
  have e1 := each_runs hM xs
  have e2 := each_runs hM ys
  have a1 := (runs_all Q n xs hx).1
  have a2 := (runs_all Q n ys hy).1
  have l1 := runs_alen Q xs (St.start n Q.length)
  have l2 := runs_alen Q ys (St.start n Q.length)
  have hl2 : (St.start n Q.length).A.length = Q.length := by simp [St.start]
  generalize runs Q xs (St.start n Q.length) = s at *
  generalize runs Q ys (St.start n Q.length) = t at *
  refine ⟨list_ext (by omega) (fun i hi => ?_), int_ext (by omega) (fun c => ?_)⟩
  · rw [e1.ans i (by omega), e2.ans i (by omega), a1 i (by omega), a2 i (by omega)]
  · rcases Nat.lt_or_ge (c / 4) Q.length with h | h
    · rw [e1.own c h, e2.own c h, a1 _ h, a2 _ h]
    · rw [e1.rest c h, e2.rest c h]
end Go.Proofs.YtnpmldlnckbppaaDoor
