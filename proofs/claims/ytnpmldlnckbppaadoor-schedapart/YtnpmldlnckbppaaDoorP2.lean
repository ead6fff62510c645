/-
  Programs that add one, without memory: each sum comes out once.
-/
import Derived.Test.YtnpmldlnckbppaaDoorP1
set_option linter.unusedVariables false
set_option linter.unusedSimpArgs false
namespace Go.Proofs.YtnpmldlnckbppaaDoor

def addOne : OpR := ⟨4, 0, 1, 0⟩
/-- So many programs of so many additions. -/
def adds (ns : List Nat) : List (List OpR) := ns.map fun n => List.replicate n addOne
theorem adds_len (ns : List Nat) : (adds ns).length = ns.length := by simp [adds]
theorem adds_at (ns : List Nat) (i : Nat) : (adds ns).getD i [] = List.replicate (ns.getD i 0) addOne := by
  simp only [adds, List.getD, List.getElem?_map]
  cases ns[i]? <;> rfl
theorem adds_sum (ns : List Nat) : ((adds ns).map List.length).sum = ns.sum := by
  simp [adds, Function.comp_def]
/-- What holds of the answers. -/
structure Cnt (s : St) : Prop where
  num : s.N = [(s.n : Int)]
  rise : ∀ i, (s.A.getD i []).Pairwise (· < ·)
  bd : ∀ i v, v ∈ s.A.getD i [] → 1 ≤ v ∧ v ≤ (s.n : Int)
  apart : ∀ i j v, i ≠ j → v ∈ s.A.getD i [] → v ∉ s.A.getD j []
theorem cnt_runs (ns : List Nat) (xs : List Int) (hb : ns.sum < 18446744073709551615) : Cnt (runs (adds ns) xs (St.start 1 (adds ns).length)) := by
  have hmax : ∀ xs, (runs (adds ns) xs (St.start 1 (adds ns).length)).n ≤ ns.sum := fun xs => by
    rw [runs_sum, ← adds_sum ns]
    have hl : (runs (adds ns) xs (St.start 1 (adds ns).length)).A.length = (adds ns).length := by rw [(runs_alen _ _ _).1]; simp [St.start]
    have hle : ∀ i, i < (adds ns).length → ((runs (adds ns) xs (St.start 1 (adds ns).length)).A.getD i []).length ≤ ((adds ns).getD i []).length := fun i hi => by
      rw [runs_done _ _ _ _ hi]
      omega
    generalize (runs (adds ns) xs (St.start 1 (adds ns).length)).A = A at *
    generalize adds ns = Q at *
    clear hb
    induction Q generalizing A with
    | nil =>
      cases A with
      | nil => simp
      | cons a A => simp at hl
    | cons q Q ih =>
      cases A with
      | nil => simp
      | cons a A =>
        have h0 := hle 0 (by simp)
        have h1 := ih A (by simpa using hl) (fun i hi => by have := hle (i + 1) (by simpa using hi); simpa using this)
        simp only [List.map_cons, List.sum_cons]
        simp at h0
        omega
  induction xs using snoc_ind with
  | h0 =>
    have e : ∀ i, (St.start 1 (adds ns).length).A.getD i [] = [] := fun i => by
      simp only [St.start, List.getD, List.getElem?_replicate]
      split <;> rfl
    refine ⟨rfl, fun i => ?_, fun i v hv => ?_, fun i j v hne hv => ?_⟩
    · show ((St.start 1 (adds ns).length).A.getD i []).Pairwise (· < ·)
      rw [e]; exact List.Pairwise.nil
    · have hv2 : v ∈ (St.start 1 (adds ns).length).A.getD i [] := hv
      rw [e] at hv2; cases hv2
    · have hv2 : v ∈ (St.start 1 (adds ns).length).A.getD i [] := hv
      rw [e] at hv2; cases hv2
  | h1 xs x ih =>
    have hm := hmax (xs ++ [x])
    rw [runs_snoc] at hm ⊢
    have hl := (runs_alen (adds ns) xs (St.start 1 (adds ns).length)).1
    have hl2 : (St.start 1 (adds ns).length).A.length = (adds ns).length := by simp [St.start]
    generalize runs (adds ns) xs (St.start 1 (adds ns).length) = s at *
    rcases stp_cases (adds ns) s x with ⟨e, hno⟩ | ⟨j, o, rfl, hn, e⟩
    · rw [e]; exact ih
    · rw [e] at hm ⊢
      obtain ⟨h3, h4⟩ := nxt_lt hn
      have ho : o = addOne := by
        have : o ∈ (adds ns).getD j [] := List.mem_of_getElem? hn
        rw [adds_at] at this
        exact (List.mem_replicate.1 this).2
      subst ho
      have hjA : j < s.A.length := by omega
      have hm2 : s.n + 1 ≤ ns.sum := hm
      have eact : act 4 1 0 (s.N.getD 0 0) = ((s.n : Int) + 1, (s.n : Int) + 1) := by
        rw [ih.num]
        show ((((s.n : Int) + 1) % 18446744073709551616, ((s.n : Int) + 1) % 18446744073709551616) : Int × Int) = _
        have : ((s.n : Int) + 1) % 18446744073709551616 = (s.n : Int) + 1 := by omega
        rw [this]
      have eA : ∀ i, (s.does j addOne).A.getD i [] = if i = j then s.A.getD j [] ++ [(s.n : Int) + 1] else s.A.getD i [] := fun i => by
        show (s.A.set j (s.A.getD j [] ++ [(act 4 1 0 (s.N.getD 0 0)).1])).getD i [] = _
        rw [getD_set_list hjA, eact]
      have eN : (s.does j addOne).N = [((s.does j addOne).n : Int)] := by
        show s.N.set 0 (act 4 1 0 (s.N.getD 0 0)).2 = [((s.n + 1 : Nat) : Int)]
        rw [eact, ih.num]
        simp
      have en : (s.does j addOne).n = s.n + 1 := rfl
      refine ⟨eN, fun i => ?_, fun i v hv => ?_, fun i k v hne hv => ?_⟩
      · rw [eA]
        split
        · rw [List.pairwise_append]
          refine ⟨ih.rise j, List.pairwise_singleton _ _, fun a ha b hb => ?_⟩
          have := (ih.bd j a ha).2
          simp at hb
          omega
        · exact ih.rise i
      · rw [eA] at hv
        rw [en]
        split at hv
        · rcases List.mem_append.1 hv with h | h
          · have := ih.bd j v h; omega
          · simp at h; omega
        · have := ih.bd i v hv; omega
      · rw [eA] at hv
        rw [eA]
        by_cases h1 : i = j
        · rw [if_pos h1] at hv
          have h2 : k ≠ j := fun h => hne (h1.trans h.symm)
          rw [if_neg h2]
          rcases List.mem_append.1 hv with h | h
          · exact ih.apart j k v (Ne.symm h2) h
          · simp at h
            intro hk
            have := (ih.bd k v hk).2
            omega
        · rw [if_neg h1] at hv
          by_cases h2 : k = j
          · rw [if_pos h2]
            intro hk
            rcases List.mem_append.1 hk with h | h
            · exact ih.apart i j v h1 hv h
            · simp at h
              have := (ih.bd i v hv).2
              omega
          · rw [if_neg h2]
            exact ih.apart i k v hne hv
end Go.Proofs.YtnpmldlnckbppaaDoor
