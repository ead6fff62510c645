/-
  The law NumApart holds for every two numbers: no number's bytes, as Put lays them, are the beginning of another one's. No conditions.
-/
import Derived.Test.YtckfocfcfflcbabShown
import Derived.ProofKit
import Derived.OpenShut
import Derived.Deep.QuietTactic
import Derived.BigQuiet
set_option linter.unusedVariables false
set_option linter.unusedSimpArgs false
namespace Go.Proofs.Ytckfocfcfflcbab
open Go.RowKit

theorem Try.size5 (u : World) : (Go.sizeOf 5).run Try.prog u = .ok 1 u := by kernel_rfl

set_option maxHeartbeats 1000000 in
theorem apart_walk (n m : Int) (w : World) (h0 : 0 ≤ n) (h1 : n ≤ 18446744073709551615) (k0 : 0 ≤ m) (k1 : m ≤ 18446744073709551615) :
    Calls Try.prog 3 #[.int .u64 n, .int .u64 m] w fun e w' => e = .returned (.bool true) ∧ Below w.heap.size w w' := by
  go_enter Try.func3, Try.ntmps3
  go_wp2_with fail
  refine (shown_any w).mono ?_
  rintro e w1 ⟨rfl, hb1⟩
  go_wp2_with fail
  refine (put_any none 0 0 [] n w1 (Sl.nil _) h0 h1 (by decide)).mono ?_
  rintro e w2 ⟨va, rfl, hownA, hb2⟩
  obtain ⟨aa, la, ca, rfl, hslA, _⟩ := hownA.sl' (enc_byt n h0)
  clear hownA
  go_wp2_with fail
  refine (put_any none 0 0 [] m w2 (Sl.nil _) k0 k1 (by decide)).mono ?_
  rintro e w3 ⟨vb, rfl, hownB, hb3⟩
  obtain ⟨ab, lb, cb, rfl, hslB, _⟩ := hownB.sl' (enc_byt m k0)
  clear hownB
  have hslA' := hslA.below hb3
  have hb : Below w.heap.size w w3 := (hb1.trans (hb2.mono hb1.size)).trans (hb3.mono (Nat.le_trans hb1.size hb2.size))
  clear hslA hb1 hb2 hb3
  have hstrA := fun q => (hslA'.drewN q).str (P := Try.prog) 24 Try.underlying24 Try.underlying5 Try.underlying9
  have hstrB := fun q => (hslB.drewN q).str (P := Try.prog) 24 Try.underlying24 Try.underlying5 Try.underlying9
  have hlA : (enc n).length = la := hslA'.1
  have hlB : (enc m).length = lb := hslB.1
  by_cases hlt : lb < la
  · have hne : (n == m) = false := by
      simp only [beq_eq_false_iff_ne, ne_eq]
      rintro rfl
      omega
    have hne2 : (n != m) = true := by simp only [bne, hne, Bool.not_false]
    have hcmp : ((strOfNums ((enc n).take lb)).toList == (strOfNums (enc m)).toList) = false := by
      rw [str_eq ((enc_byt n h0).take _) (enc_byt m k0)]
      simp only [decide_eq_false_iff_not]
      intro e
      have := (enc_take k0 k1 h0 h1 lb hlB).1 e
      subst this
      simp at hne
    obtain ⟨ac, hcut, hslC⟩ := hslA'.upto (P := Try.prog) 24 Try.underlying24 Try.size5 lb (by omega)
    have hstrC := fun q => (hslC.drewN q).str (P := Try.prog) 24 Try.underlying24 Try.underlying5 Try.underlying9
    clear hslC hslA' hslB hlA hlB
    go_wp2
    go_quiet (fail)
    go_wp2
    go_ret
    exact ⟨rfl, below_drewN hb _⟩
  · obtain ⟨ac, hcut, hslC⟩ := hslB.upto (P := Try.prog) 24 Try.underlying24 Try.size5 la (by omega)
    have hstrC := fun q => (hslC.drewN q).str (P := Try.prog) 24 Try.underlying24 Try.underlying5 Try.underlying9
    have hpos := enc_pos n
    have hla : (1 : Int) ≤ (la : Int) := by omega
    have hcmp0 : ((strOfNums ((enc m).take la)).toList == (strOfNums (enc n)).toList) = decide (n = m) := by
      rw [str_eq ((enc_byt m k0).take _) (enc_byt n h0)]
      exact decide_eq_decide.2 (enc_take h0 h1 k0 k1 la hlA)
    have hge : ¬ (lb : Int) < (la : Int) := by omega
    by_cases hnm : n = m
    · have heq : (n == m) = true := by simpa using hnm
      have hcmp : ((strOfNums ((enc m).take la)).toList == (strOfNums (enc n)).toList) = true := by rw [hcmp0]; simpa using hnm
      clear hslC hslA' hslB hlA hlB hpos hcmp0 hnm
      go_wp2
      go_quiet (fail)
      go_wp2
      go_ret
      exact ⟨rfl, below_drewN hb _⟩
    · have heq : (n == m) = false := by simpa using hnm
      have hcmp : ((strOfNums ((enc m).take la)).toList == (strOfNums (enc n)).toList) = false := by rw [hcmp0]; simpa using hnm
      clear hslC hslA' hslB hlA hlB hpos hcmp0 hnm
      go_wp2
      go_quiet (fail)
      go_wp2
      go_ret
      exact ⟨rfl, below_drewN hb _⟩
end Go.Proofs.Ytckfocfcfflcbab
