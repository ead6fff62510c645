/-
  The program's reader: a mark.
-/
import Derived.Test.YteihabdldiopeaaE13
set_option linter.unusedVariables false
set_option linter.unusedSimpArgs false
namespace Go.Proofs.Yteihabdldiopeaa
open Go.RowKit Go.Maps

section
variable {w : World} {r : Nat} {ao : Option Addr} {len cap : Nat} {xs : List Int} {s : Rs}
set_option maxRecDepth 100000
set_option maxHeartbeats 1500000

theorem mark_any (lo hi : Int) (h : Rd w r ao len cap xs s) (h0 : 0 ≤ lo) (h1 : hi ≤ 255) :
    Calls Try.prog 83 #[.pointer (some ⟨r, 0, none⟩), .int .u8 lo, .int .u8 hi] w fun e w' => e = .returned (.int .u8 (rmark xs lo hi s).1) ∧ Rd w' r ao len cap xs (rmark xs lo hi s).2 ∧ w.grownBy w' (some r) := by
  obtain ⟨c0, c1, c2⟩ := h.cells
  have f1 := h.free 1
  have f2 := h.free 2
  have hlt := h.lt
  have hbad : ∀ nq, Rd ((w.drewN nq).setCell ⟨r, 2, none⟩ (.bool true)) r ao len cap xs (.bad s.pos) ∧ w.grownBy ((w.drewN nq).setCell ⟨r, 2, none⟩ (.bool true)) (some r) := fun nq => ⟨(h.drewN nq).toBad, grown_drew (grown_set _ _ _ _)⟩
  have HBAD := hide3 hbad
  clear hbad
  cases s with
  | bad p =>
    have eR : rmark xs lo hi (.bad p) = (0, .bad p) := rfl
    rw [eR]
    have HH := hide3 h
    clear h
    simp only [Rs.pos, Rs.isBad] at c1 c2 HBAD
    go_enter Try.func83, Try.ntmps83
    go_wp2
    go_quiet (fail)
    go_wp2
    go_ret
    exact ⟨rfl, HBAD.out _⟩
  | «at» n =>
    simp only [Rs.pos, Rs.isBad] at c1 c2 HBAD
    have hxl := h.sl.1
    have hle := h.le
    have hlen63 : (len : Int) ≤ 9223372036854775807 := by have := h.sl.2.1; have := h.sl.2.2.1; unfold maxLen at this; omega
    simp only [Rs.pos] at hle
    by_cases hn : n < len
    case neg =>
      have eR : rmark xs lo hi (.at n) = (0, .bad n) := by simp only [rmark]; rw [if_neg (by omega)]
      rw [eR]
      have hd : decide ((len : Int) ≤ (n : Int)) = true := by simp; omega
      have hdN : decide (len ≤ n) = true := by simp; omega
      have hd2 : (len : Int) ≤ (n : Int) := by omega
      have HH := hide3 h
      clear h
      go_enter Try.func83, Try.ntmps83
      go_wp2
      go_quiet (fail)
      go_wp2
      go_ret
      exact ⟨rfl, HBAD.out _⟩
    obtain ⟨b, off, rfl, hbl, hcell⟩ := h.sl.2.2.2.2.2 (by omega)
    obtain ⟨x, hx⟩ : ∃ x, x = xs.getD n 0 := ⟨_, rfl⟩
    have hcx := hcell n hn
    rw [← hx] at hcx
    have hxb := h.sl.2.2.2.1.getD n
    rw [← hx] at hxb
    obtain ⟨hx0, hx1⟩ := hxb
    have hd : decide ((len : Int) ≤ (n : Int)) = false := by simp; omega
    have hdN : decide (len ≤ n) = false := by simp; omega
    have hdM : ¬ len ≤ n := by omega
    have hd2 : ¬ (len : Int) ≤ (n : Int) := by omega
    have hni : (n : Int) < (len : Int) := by omega
    have HX := hide3 hx
    clear hx hcell
    by_cases hlo : x < lo
    · have eR : rmark xs lo hi (.at n) = (0, .bad n) := by simp only [rmark]; rw [if_neg (by rw [← HX.out]; omega)]
      rw [eR]
      have hdl : decide (x < lo) = true := by simpa using hlo
      have HH := hide3 h
      clear h
      go_enter Try.func83, Try.ntmps83
      go_wp2
      go_quiet (fail)
      go_wp2
      go_ret
      exact ⟨rfl, HBAD.out _⟩
    have hdl : decide (x < lo) = false := by simpa using hlo
    by_cases hhi : hi < x
    · have eR : rmark xs lo hi (.at n) = (0, .bad n) := by simp only [rmark]; rw [if_neg (by rw [← HX.out]; omega)]
      rw [eR]
      have hdh : decide (hi < x) = true := by simpa using hhi
      have HH := hide3 h
      clear h
      go_enter Try.func83, Try.ntmps83
      go_wp2
      go_quiet (fail)
      go_wp2
      go_ret
      exact ⟨rfl, HBAD.out _⟩
    have hdh : decide (hi < x) = false := by simpa using hhi
    have eR : rmark xs lo hi (.at n) = (x, .at (n + 1)) := by simp only [rmark]; rw [if_pos (by rw [← HX.out]; omega), ← HX.out]
    rw [eR]
    have hgood : ∀ nq, Rd ((w.drewN nq).setCell ⟨r, 1, none⟩ (.int .i64 ((n : Int) + 1))) r (some ⟨b, off, none⟩) len cap xs (.at (n + 1)) ∧ w.grownBy ((w.drewN nq).setCell ⟨r, 1, none⟩ (.int .i64 ((n : Int) + 1))) (some r) := fun nq => ⟨(h.drewN nq).toAt (n + 1) (by omega), grown_drew (grown_set _ _ _ _)⟩
    have HG := hide3 hgood
    clear h hgood HBAD
    go_enter Try.func83, Try.ntmps83
    go_wp2
    go_quiet (fail)
    go_wp2
    go_quiet (fail)
    go_wp2
    go_ret
    exact ⟨rfl, HG.out _⟩
end
end Go.Proofs.Yteihabdldiopeaa
