/-
  The document's reader: a flag.
-/
import Derived.Test.YteihabdldiopeaaE17
set_option linter.unusedVariables false
set_option linter.unusedSimpArgs false
namespace Go.Proofs.Yteihabdldiopeaa
open Go.RowKit Go.Maps

section
variable {w : World} {r : Nat} {ao : Option Addr} {len cap : Nat} {xs : List Int} {s : Rs}
set_option maxRecDepth 100000
set_option maxHeartbeats 1500000

theorem flag_any (h : Rr w r ao len cap xs s) :
    Calls Try.prog 49 #[.pointer (some ⟨r, 0, none⟩)] w fun e w' => e = .returned (.bool (decide ((rmark xs 0 1 s).1 = 1))) ∧ Rr w' r ao len cap xs (rmark xs 0 1 s).2 ∧ w.grownBy w' (some r) := by
  have hlt := h.lt
  cases s with
  | bad p =>
    obtain ⟨a, c0, c1, c2, f1, f2⟩ := h.cells'
    have eR : rmark xs 0 1 (.bad p) = (0, .bad p) := rfl
    rw [eR]
    have hp : (0 : Int) ≤ (p : Int) := by omega
    have hpd : decide ((0 : Int) ≤ (p : Int)) = true := by simp
    have hp2 : ¬ (p : Int) < 0 := by omega
    have HH := hide3 (fun q => h.drewN q)
    clear h
    have hG : ∀ q, w.grownBy (w.drewN q) (some r) := fun q => drew_grown (World.grownBy.refl w (some r)) q
    go_enter Try.func49, Try.ntmps49
    go_wp2
    go_quiet (fail)
    go_wp2
    go_ret
    exact ⟨rfl, HH.out _, hG _⟩
  | «at» n =>
    obtain ⟨c0, c1, c2, f1, f2, hle⟩ := h.cells
    have hw : ∀ q, Calls Try.prog 84 #[.pointer (some ⟨r, 0, none⟩)] (w.drewN q) fun e w' => e = .returned (.tuple #[]) ∧ Rr w' r ao len cap xs (.bad n) ∧ (w.drewN q).grownBy w' (some r) := fun q => wrong_any (h.drewN q)
    have HW := hide3 hw
    have hxl := h.sl.1
    have hlen63 : (len : Int) ≤ 9223372036854775807 := by have := h.sl.2.1; have := h.sl.2.2.1; unfold maxLen at this; omega
    clear hw
    by_cases hn : n < len
    case neg =>
      have eR : rmark xs 0 1 (.at n) = (0, .bad n) := by simp only [rmark]; rw [if_neg (by omega)]
      rw [eR]
      have hd : decide ((len : Int) ≤ (n : Int)) = true := by simp; omega
      have hdN : decide (len ≤ n) = true := by simp; omega
      have hd2 : (len : Int) ≤ (n : Int) := by omega
      clear h
      go_enter Try.func49, Try.ntmps49
      go_wp2
      go_quiet (fail)
      go_wp2_with fail
      refine (HW.out _).mono ?_
      rintro e w2 ⟨rfl, h2, g2⟩
      go_wp2
      go_ret
      exact ⟨rfl, h2, grown_drew g2⟩
    obtain ⟨b, off, rfl, hbl, hcell⟩ := h.sl.2.2.2.2.2 (by omega)
    obtain ⟨x, hx⟩ : ∃ x, x = xs.getD n 0 := ⟨_, rfl⟩
    have hcx := hcell n hn
    rw [← hx] at hcx
    have hxb := h.sl.2.2.2.1.getD n
    rw [← hx] at hxb
    obtain ⟨hx0, hx1⟩ := hxb
    have hd : decide ((len : Int) ≤ (n : Int)) = false := by simp; omega
    have hdN : decide (len ≤ n) = false := by simp; omega
    have hdM : ¬ len ≤ n := by omega
    have hd2 : ¬ (len : Int) ≤ (n : Int) := by omega
    have hni : (n : Int) < (len : Int) := by omega
    have HX := hide3 hx
    clear hx hcell
    by_cases hhi : 1 < x
    · have eR : rmark xs 0 1 (.at n) = (0, .bad n) := by simp only [rmark]; rw [if_neg (by rw [← HX.out]; omega)]
      rw [eR]
      have hdh : decide (1 < x) = true := by simpa using hhi
      clear h
      go_enter Try.func49, Try.ntmps49
      go_wp2
      go_quiet (fail)
      go_wp2_with fail
      refine (HW.out _).mono ?_
      rintro e w2 ⟨rfl, h2, g2⟩
      go_wp2
      go_ret
      exact ⟨rfl, h2, grown_drew g2⟩
    have hdh : decide (1 < x) = false := by simpa using hhi
    have eR : rmark xs 0 1 (.at n) = (x, .at (n + 1)) := by simp only [rmark]; rw [if_pos (by rw [← HX.out]; omega), ← HX.out]
    rw [eR]
    have hR2 : ∀ nq, Rr ((w.drewN nq).setCell ⟨r, 1, none⟩ (.int .i64 ((n : Int) + 1))) r (some ⟨b, off, none⟩) len cap xs (.at (n + 1)) := fun nq => (h.drewN nq).set1 (n + 1) (by omega)
    have hc2 : ∀ nq, ((w.drewN nq).setCell ⟨r, 1, none⟩ (.int .i64 ((n : Int) + 1))).cell? ⟨b, off + n, none⟩ = some (.int .u8 x) := fun nq => by
      obtain ⟨b', off', e', hlt', hcc⟩ := (hR2 nq).sl.2.2.2.2.2 (by omega)
      cases e'
      rw [HX.out]
      exact hcc n hn
    have HR := hide3 hR2
    have HC := hide3 hc2
    clear h hR2 hc2 HW
    go_enter Try.func49, Try.ntmps49
    go_wp2
    go_quiet (fail)
    have hR3 := HR.out nq
    have hc3 := HC.out nq
    obtain ⟨d0, d1, d2, d3, d4, _⟩ := hR3.cells
    have hG3 : w.grownBy ((w.drewN nq).setCell ⟨r, 1, none⟩ (.int .i64 ((n : Int) + 1))) (some r) := grown_drew (grown_set _ _ _ _)
    have hwr : IntKind.i64.wrap ((n : Int) + 1 - 1) = (n : Int) := by rw [show (n : Int) + 1 - 1 = n by omega]; exact IntWalk.i64_in _ (by omega)
    have hsub : (n : Int) + 1 - 1 = (n : Int) := by omega
    clear HR HC
    go_wp2
    generalize ((w.drewN nq).setCell ⟨r, 1, none⟩ (.int .i64 ((n : Int) + 1))) = W at *
    go_quiet (fail)
    go_wp2
    go_ret
    exact ⟨ret_bool (by by_cases hx1 : x = 1 <;> simp [hx1]), hR3.drewN _, drew_grown hG3 _⟩
end
end Go.Proofs.Yteihabdldiopeaa
