/-
  The document's reader: what is wrong, a number, a text.
-/
import Derived.Test.YteihabdldiopeaaE14
import Derived.Test.YteihabdldiopeaaRefTake
set_option linter.unusedVariables false
set_option linter.unusedSimpArgs false
namespace Go.Proofs.Yteihabdldiopeaa
open Go.RowKit Go.Maps

/-- What the two numbers of the document's reader say. -/
def Says (len : Nat) (a b : Int) : Rs → Prop
  | .at n => a = n ∧ b = -1 ∧ n ≤ len
  | .bad p => b = p
/-- The document's reader, where it stands. -/
def Rr (w : World) (r : Nat) (ao : Option Addr) (len cap : Nat) (xs : List Int) (s : Rs) : Prop :=
  ∃ a b : Int, w.heap[r]? = some (.cells #[.slice ao len cap, .int .i64 a, .int .i64 b] 92 (0, 0)) ∧ Sl w ao len cap xs ∧ Says len a b s

section
variable {w w' : World} {r : Nat} {ao : Option Addr} {len cap : Nat} {xs : List Int} {s : Rs}
theorem Rr.lt (h : Rr w r ao len cap xs s) : r < w.heap.size := by
  obtain ⟨a, b, hb, _⟩ := h
  exact (Array.getElem?_eq_some_iff.1 hb).1
theorem Rr.sl (h : Rr w r ao len cap xs s) : Sl w ao len cap xs := by
  obtain ⟨a, b, _, h, _⟩ := h
  exact h
theorem Rr.keep (h : Rr w r ao len cap xs s) (hb : Below w.heap.size w w') : Rr w' r ao len cap xs s := by
  have := h.lt
  obtain ⟨a, b, h1, h2, h3⟩ := h
  exact ⟨a, b, (hb.block r this).trans h1, h2.below hb, h3⟩
theorem Rr.drewN (h : Rr w r ao len cap xs s) (q : Nat) : Rr (w.drewN q) r ao len cap xs s := by
  obtain ⟨a, b, h1, h2, h3⟩ := h
  exact ⟨a, b, h1, h2.drewN q, h3⟩
theorem Rr.set1 {n : Nat} (h : Rr w r ao len cap xs (.at n)) (m : Nat) (hm : m ≤ len) : Rr (w.setCell ⟨r, 1, none⟩ (.int .i64 (m : Int))) r ao len cap xs (.at m) := by
  obtain ⟨a, b, h1, h2, h3, h4, h5⟩ := h
  exact ⟨m, b, (Go.Joins.block_setCell h1 _).trans rfl, h2.off h1 (by simp) (by simp) (by simp) (grown_set _ _ _ _), rfl, h4, hm⟩
theorem Rr.set2 {n : Nat} (h : Rr w r ao len cap xs (.at n)) : Rr (w.setCell ⟨r, 2, none⟩ (.int .i64 (n : Int))) r ao len cap xs (.bad n) := by
  obtain ⟨a, b, h1, h2, h3, h4, h5⟩ := h
  exact ⟨a, n, (Go.Joins.block_setCell h1 _).trans rfl, h2.off h1 (by simp) (by simp) (by simp) (grown_set _ _ _ _), rfl⟩
theorem Rr.cells {n : Nat} (h : Rr w r ao len cap xs (.at n)) : w.cell? ⟨r, 0, none⟩ = some (.slice ao len cap) ∧ w.cell? ⟨r, 1, none⟩ = some (.int .i64 (n : Int)) ∧ w.cell? ⟨r, 2, none⟩ = some (.int .i64 (-1)) ∧ w.frozen? ⟨r, 1, none⟩ = false ∧ w.frozen? ⟨r, 2, none⟩ = false ∧ n ≤ len := by
  obtain ⟨a, b, h1, h2, rfl, rfl, h5⟩ := h
  refine ⟨?_, ?_, ?_, Go.Joins.unfrozen_of_block h1 1, Go.Joins.unfrozen_of_block h1 2, h5⟩ <;> (rw [Go.Joins.cell_of_block h1]; rfl)
theorem Rr.cells' {p : Nat} (h : Rr w r ao len cap xs (.bad p)) : ∃ a : Int, w.cell? ⟨r, 0, none⟩ = some (.slice ao len cap) ∧ w.cell? ⟨r, 1, none⟩ = some (.int .i64 a) ∧ w.cell? ⟨r, 2, none⟩ = some (.int .i64 (p : Int)) ∧ w.frozen? ⟨r, 1, none⟩ = false ∧ w.frozen? ⟨r, 2, none⟩ = false := by
  obtain ⟨a, b, h1, h2, rfl⟩ := h
  refine ⟨a, ?_, ?_, ?_, Go.Joins.unfrozen_of_block h1 1, Go.Joins.unfrozen_of_block h1 2⟩ <;> (rw [Go.Joins.cell_of_block h1]; rfl)
end

section
variable {w : World} {r : Nat} {ao : Option Addr} {len cap : Nat} {xs : List Int} {s : Rs}
set_option maxRecDepth 100000
set_option maxHeartbeats 1500000

theorem wrong_any {n : Nat} (h : Rr w r ao len cap xs (.at n)) :
    Calls Try.prog 84 #[.pointer (some ⟨r, 0, none⟩)] w fun e w' => e = .returned (.tuple #[]) ∧ Rr w' r ao len cap xs (.bad n) ∧ w.grownBy w' (some r) := by
  obtain ⟨c0, c1, c2, f1, f2, _⟩ := h.cells
  have hlt := h.lt
  have HF := hide3 h.set2
  have G := grown_set w r 2 (.int .i64 (n : Int))
  clear h
  go_enter Try.func84, Try.ntmps84
  go_wp2
  refine bodyPost_end (results_none rfl _ _ _) rfl ?_
  exact ⟨rfl, HF.out, G⟩

theorem rnumber_any (most : Int) (h : Rr w r ao len cap xs s) (h0 : 0 ≤ most) (h1 : most ≤ 9223372036854775807) :
    Calls Try.prog 48 #[.pointer (some ⟨r, 0, none⟩), .int .i64 most] w fun e w' => e = .returned (.int .i64 (rnum xs most s).1) ∧ Rr w' r ao len cap xs (rnum xs most s).2 ∧ w.grownBy w' (some r) := by
  have hlt := h.lt
  cases s with
  | bad p =>
    obtain ⟨a, c0, c1, c2, f1, f2⟩ := h.cells'
    have eR : rnum xs most (.bad p) = (0, .bad p) := rfl
    rw [eR]
    have HH := hide3 h
    clear h
    have hp : (0 : Int) ≤ (p : Int) := by omega
    go_enter Try.func48, Try.ntmps48
    go_wp2
    go_ret
    exact ⟨rfl, HH.out, World.grownBy.refl _ _⟩
  | «at» n =>
    obtain ⟨c0, c1, c2, f1, f2, hle⟩ := h.cells
    have hw : ∀ q, Calls Try.prog 84 #[.pointer (some ⟨r, 0, none⟩)] (w.drewN q) fun e w' => e = .returned (.tuple #[]) ∧ Rr w' r ao len cap xs (.bad n) ∧ (w.drewN q).grownBy w' (some r) := fun q => wrong_any (h.drewN q)
    have HW := hide3 hw
    have hT : ∀ q, Calls Try.prog 85 #[.slice ao len cap, .int .i64 (n : Int)] (w.drewN q) fun e w' => e = .returned (tkVal (tk xs n)) ∧ w' = w.drewN q := fun q => refTake_any ao len cap xs _ _ (h.sl.drewN q)
    clear hw
    cases ht : tk xs (n : Int) with
    | none =>
      have eR : rnum xs most (.at n) = (0, .bad n) := by simp only [rnum, ht]
      rw [eR]
      rw [ht] at hT
      unfold tkVal at hT
      clear h
      go_enter Try.func48, Try.ntmps48
      go_wp2
      go_quiet ((go_at_call 85; refine Calls.quiet_of_same (hT _)))
      clear hT
      go_wp2_with fail
      refine (HW.out _).mono ?_
      rintro e w2 ⟨rfl, h2, g2⟩
      go_wp2
      go_ret
      exact ⟨rfl, h2, grown_drew g2⟩
    | some q =>
      obtain ⟨v, nx⟩ := q
      obtain ⟨a, b, -, rfl, -, hb, hv0, hv1, -⟩ := tk_spec h.sl.2.2.2.1 ht
      rw [ht] at hT
      replace hT : ∀ q, Calls Try.prog 85 #[.slice ao len cap, .int .i64 (n : Int)] (w.drewN q) fun e w' => e = .returned (.tuple #[.int .u64 v, .int .i64 (b : Int), .bool true]) ∧ w' = w.drewN q := hT
      have hxl := h.sl.1
      by_cases hvm : v ≤ most
      · have eR : rnum xs most (.at n) = (v, .at b) := by simp only [rnum, ht, if_pos hvm]; rfl
        rw [eR]
        have hgood : ∀ nq, Rr ((w.drewN nq).setCell ⟨r, 1, none⟩ (.int .i64 (b : Int))) r ao len cap xs (.at b) ∧ w.grownBy ((w.drewN nq).setCell ⟨r, 1, none⟩ (.int .i64 (b : Int))) (some r) := fun nq => ⟨(h.drewN nq).set1 b (by omega), grown_drew (grown_set _ _ _ _)⟩
        have HG := hide3 hgood
        have hvm' : ¬ most < v := by omega
        have hv63 : v ≤ 9223372036854775807 := by omega
        clear h hgood HW
        go_enter Try.func48, Try.ntmps48
        go_wp2
        go_quiet ((go_at_call 85; refine Calls.quiet_of_same (hT _)))
        clear hT
        go_wp2
        go_ret
        exact ⟨rfl, HG.out _⟩
      · have eR : rnum xs most (.at n) = (0, .bad n) := by simp only [rnum, ht, if_neg hvm]
        rw [eR]
        have hvm' : most < v := by omega
        clear h
        go_enter Try.func48, Try.ntmps48
        go_wp2
        go_quiet ((go_at_call 85; refine Calls.quiet_of_same (hT _)))
        clear hT
        go_wp2_with fail
        refine (HW.out _).mono ?_
        rintro e w2 ⟨rfl, h2, g2⟩
        go_wp2
        go_ret
        exact ⟨rfl, h2, grown_drew g2⟩

theorem rtext_any (most : Int) (h : Rr w r ao len cap xs s) (h0 : 0 ≤ most) (h1 : most ≤ 9223372036854775807) :
    Calls Try.prog 50 #[.pointer (some ⟨r, 0, none⟩), .int .i64 most] w fun e w' => e = .returned (.string (rtxt xs most s).1) ∧ Rr w' r ao len cap xs (rtxt xs most s).2 ∧ w.grownBy w' (some r) := by
  have hlt := h.lt
  cases s with
  | bad p =>
    obtain ⟨a, c0, c1, c2, f1, f2⟩ := h.cells'
    have eR : rtxt xs most (.bad p) = (⟨#[]⟩, .bad p) := rfl
    rw [eR]
    have HH := hide3 h
    clear h
    have hp : (0 : Int) ≤ (p : Int) := by omega
    go_enter Try.func50, Try.ntmps50
    go_wp2
    go_ret
    exact ⟨rfl, HH.out, World.grownBy.refl _ _⟩
  | «at» n =>
    obtain ⟨c0, c1, c2, f1, f2, hle⟩ := h.cells
    have hw : ∀ q, Calls Try.prog 84 #[.pointer (some ⟨r, 0, none⟩)] (w.drewN q) fun e w' => e = .returned (.tuple #[]) ∧ Rr w' r ao len cap xs (.bad n) ∧ (w.drewN q).grownBy w' (some r) := fun q => wrong_any (h.drewN q)
    have HW := hide3 hw
    have hT : ∀ q, Calls Try.prog 86 #[.slice ao len cap, .int .i64 (n : Int), .int .i64 most] (w.drewN q) fun e w' => e = .returned (ttVal (tt xs n most)) ∧ w' = w.drewN q := fun q => refTakeText_any ao len cap xs _ _ _ (h.sl.drewN q) (by omega) h1
    clear hw
    cases ht : tt xs (n : Int) most with
    | none =>
      have eR : rtxt xs most (.at n) = (⟨#[]⟩, .bad n) := by simp only [rtxt, ht]
      rw [eR]
      rw [ht] at hT
      replace hT : ∀ q, Calls Try.prog 86 #[.slice ao len cap, .int .i64 (n : Int), .int .i64 most] (w.drewN q) fun e w' => e = .returned (.tuple #[.string ⟨#[]⟩, .int .i64 0, .bool false]) ∧ w' = w.drewN q := hT
      clear h
      go_enter Try.func50, Try.ntmps50
      go_wp2
      go_quiet ((go_at_call 86; refine Calls.quiet_of_same (hT _)))
      clear hT
      go_wp2_with fail
      refine (HW.out _).mono ?_
      rintro e w2 ⟨rfl, h2, g2⟩
      go_wp2
      go_ret
      exact ⟨rfl, h2, grown_drew g2⟩
    | some q =>
      obtain ⟨ys, nx⟩ := q
      obtain ⟨b, rfl, hb⟩ := tt_some h.sl.2.2.2.1 ht
      rw [ht] at hT
      have hxl := h.sl.1
      have eR : rtxt xs most (.at n) = (strOfNums ys, .at b) := by simp only [rtxt, ht]; rfl
      rw [eR]
      replace hT : ∀ q, Calls Try.prog 86 #[.slice ao len cap, .int .i64 (n : Int), .int .i64 most] (w.drewN q) fun e w' => e = .returned (.tuple #[.string (strOfNums ys), .int .i64 (b : Int), .bool true]) ∧ w' = w.drewN q := hT
      generalize strOfNums ys = S at *
      have hgood : ∀ nq, Rr ((w.drewN nq).setCell ⟨r, 1, none⟩ (.int .i64 (b : Int))) r ao len cap xs (.at b) ∧ w.grownBy ((w.drewN nq).setCell ⟨r, 1, none⟩ (.int .i64 (b : Int))) (some r) := fun nq => ⟨(h.drewN nq).set1 b (by omega), grown_drew (grown_set _ _ _ _)⟩
      have HG := hide3 hgood
      clear h hgood HW
      go_enter Try.func50, Try.ntmps50
      go_wp2
      go_quiet ((go_at_call 86; refine Calls.quiet_of_same (hT _)))
      clear hT
      go_wp2
      go_ret
      exact ⟨rfl, HG.out _⟩
end
end Go.Proofs.Yteihabdldiopeaa
