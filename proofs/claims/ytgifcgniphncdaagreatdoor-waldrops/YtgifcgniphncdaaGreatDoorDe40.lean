/-
  Numbers sorted; the least segment.
-/
import Derived.Test.YtgifcgniphncdaaGreatDoorDe38
import Derived.Test.YtgifcgniphncdaaGreatDoorShelf8
import Derived.Sort.OwnSortedInts
import Derived.Shelf.SortM.Plain
import Derived.Shelf.SortM.SortNone
set_option linter.unusedVariables false
set_option linter.unusedSimpArgs false
namespace Go.Proofs.YtgifcgniphncdaaGreatDoor
open Go.RowKit Go.Maps

def srt (ns : List Int) : List Int := ns.mergeSort fun x y => decide (x ≤ y)
theorem srt_perm (ns : List Int) : (srt ns).Perm ns := List.mergeSort_perm ns _
theorem srt_sorted (ns : List Int) : (srt ns).Pairwise fun x y => x ≤ y := by
  have := List.pairwise_mergeSort (le := fun x y : Int => decide (x ≤ y)) (fun a b c h1 h2 => by simp only [decide_eq_true_eq] at *; omega) (fun a b => by simp only [Bool.or_eq_true, decide_eq_true_eq]; omega) ns
  exact this.imp fun h => by simpa using h
theorem sort8_any {w : World} {base : Nat} {v : Value} {ns : List Int} (h : IRow w base v ns) (hl : ns.length ≤ 1000000) :
    Calls Tryz.prog (sortIL_ren.f 5) #[v] w fun e w' => e = .returned (.tuple #[]) ∧ IRow w' base v (srt ns) ∧ w.grownBy w' v.ownBlock := by
  rcases h.2 with ⟨rfl, h0⟩ | ⟨g, cap, cur, rfl, hg, hh, hn, hm, hs, ht⟩
  · have e : ns = [] := List.eq_nil_of_length_eq_zero h0
    subst e
    refine (AnyM.slices_Sort_int_none sortIL none 0 w).mono ?_
    rintro e w' ⟨rfl, rfl⟩
    exact ⟨rfl, by simpa [srt] using h, World.grownBy.refl _ _⟩
  · refine (AnyM.slices_Sort_int sortIL g 0 cap ns w (holds_of_blockI hh (by simpa using ht)) (Array.getElem?_eq_some_iff.1 hh).1 (by omega)).mono ?_
    rintro e w' ⟨rfl, n, os, rfl⟩
    have hle : (srt ns).length = ns.length := (srt_perm ns).length_eq
    refine ⟨rfl, ?_, grownBy_sortedI _⟩
    have := ownsRow_sortedI (n := n) (os := os) (ts := srt ns) (ss := ns) hle hg hh hn hm hs
    unfold IRow
    rw [hle]
    exact this

/-! ### The least of them -/
def lst (ns : List Int) (below : Int) : Int := (ns.filter fun n => decide (n < below)).foldl (fun a n => if a = 0 ∨ n < a then n else a) 0
theorem fold_min : ∀ (l : List Int) (a : Int), 1 ≤ a → (∀ x ∈ l, 1 ≤ x) → (l.foldl (fun a n => if a = 0 ∨ n < a then n else a) a = a ∨ l.foldl (fun a n => if a = 0 ∨ n < a then n else a) a ∈ l) ∧ l.foldl (fun a n => if a = 0 ∨ n < a then n else a) a ≤ a ∧ ∀ x ∈ l, l.foldl (fun a n => if a = 0 ∨ n < a then n else a) a ≤ x
  | [], a, ha, h => ⟨.inl rfl, Int.le_refl _, fun x hx => by cases hx⟩
  | y :: l, a, ha, h => by
    have hy := h y (List.mem_cons_self ..)
    have hb : 1 ≤ (if a = 0 ∨ y < a then y else a) := by split <;> assumption
    obtain ⟨h1, h2, h3⟩ := fold_min l (if a = 0 ∨ y < a then y else a) hb fun x hx => h x (List.mem_cons_of_mem _ hx)
    simp only [List.foldl_cons]
    generalize l.foldl (fun a n => if a = 0 ∨ n < a then n else a) (if a = 0 ∨ y < a then y else a) = m at h1 h2 h3
    have hle : m ≤ a ∧ m ≤ y := by split at h2 <;> omega
    refine ⟨?_, hle.1, fun x hx => ?_⟩
    · rcases h1 with h1 | h1
      · split at h1
        · right; rw [h1]; exact List.mem_cons_self ..
        · left; exact h1
      · right; exact List.mem_cons_of_mem _ h1
    · rcases List.mem_cons.1 hx with rfl | hx
      · exact hle.2
      · exact h3 x hx
section
variable {ns r : List Int} {x below : Int}
theorem srt_min (hs : srt ns = x :: r) : x ∈ ns ∧ ∀ y ∈ ns, x ≤ y := by
  have hp := srt_perm ns
  have h2 := srt_sorted ns
  rw [hs] at hp h2
  refine ⟨hp.mem_iff.1 (List.mem_cons_self ..), fun y hy => ?_⟩
  rcases List.mem_cons.1 (hp.mem_iff.2 hy) with rfl | h
  · exact Int.le_refl _
  · exact (List.pairwise_cons.1 h2).1 y h
theorem lst_some (h1 : ∀ n ∈ ns, 1 ≤ n) (hs : srt ns = x :: r) (hx : x < below) : lst ns below = x := by
  obtain ⟨m1, m2⟩ := srt_min hs
  unfold lst
  have hmem : x ∈ ns.filter fun n => decide (n < below) := List.mem_filter.2 ⟨m1, by simpa using hx⟩
  have hall : ∀ y ∈ ns.filter (fun n => decide (n < below)), 1 ≤ y ∧ x ≤ y := fun y hy => ⟨h1 y (List.mem_filter.1 hy).1, m2 y (List.mem_filter.1 hy).1⟩
  generalize ns.filter (fun n => decide (n < below)) = l at hmem hall
  cases l with
  | nil => cases hmem
  | cons a l =>
    simp only [List.foldl_cons]
    rw [if_pos (.inl trivial)]
    obtain ⟨g1, g2, g3⟩ := fold_min l a (hall a (List.mem_cons_self ..)).1 fun y hy => (hall y (List.mem_cons_of_mem _ hy)).1
    have hxa := (hall a (List.mem_cons_self ..)).2
    have hge : x ≤ l.foldl (fun a n => if a = 0 ∨ n < a then n else a) a := by
      rcases g1 with g1 | g1
      · rw [g1]; exact hxa
      · exact (hall _ (List.mem_cons_of_mem _ g1)).2
    rcases List.mem_cons.1 hmem with e | e
    · omega
    · have := g3 x e
      omega
theorem lst_none (hs : srt ns = [] ∨ ∃ x r, srt ns = x :: r ∧ below ≤ x) : lst ns below = 0 := by
  have he : ns.filter (fun n => decide (n < below)) = [] := by
    rw [List.filter_eq_nil_iff]
    intro y hy
    simp only [decide_eq_true_eq, Int.not_lt]
    rcases hs with hs | ⟨x, r, hs, hx⟩
    · have := (srt_perm ns).mem_iff.2 hy
      rw [hs] at this
      cases this
    · have := (srt_min hs).2 y hy
      omega
  unfold lst
  rw [he]
  rfl
theorem lst_count (hs : srt ns = x :: r) (hx : x < below) : decide ((ns.filter fun n => decide (n < below)).length ≤ 1) = (decide (r.length = 0) || decide (below ≤ r.getD 0 0)) := by
  have hp := (srt_perm ns).filter fun n => decide (n < below)
  have h2 := srt_sorted ns
  rw [← hp.length_eq]
  rw [hs] at h2 ⊢
  rw [List.filter_cons_of_pos (by simpa using hx), List.length_cons]
  cases r with
  | nil => simp
  | cons y r =>
    by_cases hy : y < below
    · rw [List.filter_cons_of_pos (by simpa using hy)]
      have : ¬ below ≤ y := by omega
      simp [this]
    · have he : (y :: r).filter (fun n => decide (n < below)) = [] := by
        rw [List.filter_eq_nil_iff]
        intro z hz
        simp only [decide_eq_true_eq, Int.not_lt]
        rcases List.mem_cons.1 hz with rfl | hz
        · omega
        · have := (List.pairwise_cons.1 (List.pairwise_cons.1 h2).2).1 z hz
          omega
      have : below ≤ y := by omega
      rw [he]
      simp [this]
end
end Go.Proofs.YtgifcgniphncdaaGreatDoor
