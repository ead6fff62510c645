/-
  XnB: Are rows the same?
-/
import Derived.Test.YtheidhkmmihjlaaXn9
set_option linter.unusedVariables false
set_option linter.unusedSimpArgs false
namespace Go.Proofs.Ytheidhkmmihjlaa.ML
open Go.RowKit Go.Shelf
attribute [local go_sem] Oper.semAt_some

section
set_option maxHeartbeats 4000000
set_option maxRecDepth 100000
variable {w : World} {ao bo : Option Addr} {len ca cb : Nat} {l : List Ro}
theorem htRo : Try.prog.underlying 45 = some (.struct (Try.prog.fieldsOf 45)) := by kernel_rfl
theorem hpRo : Try.prog.stoodInHeld 45 = false := by kernel_rfl
theorem neqRo (r : Ro) (u : World) : (binOp .neq 45 (.agg #[.string r.k, .string r.v, .int .i64 r.t]) (.agg #[.string r.k, .string r.v, .int .i64 r.t])).run Try.prog u = .ok (.bool false) u := by
  rw [run_neq_struct, run_equalIn_agg _ 9999 45 _ _ htRo hpRo]
  unfold Program.fieldsOf
  rw [Try.underlying45]
  simp only [Op.eqFields]
  simp [go_sem, Try.isAgg9, Try.isAgg2, Try.sizeOf9, Try.sizeOf2, Try.underlying9, Try.underlying2]
theorem sameRows_any (h : RS w ao len ca l) (h2 : RS w bo len cb l) :
    Calls Try.prog 17 #[.slice ao len ca, .slice bo len cb] w fun e w' => e = .returned (.bool true) ∧ ∃ q, w' = w.drewN q := by
  have hmx := h.2.2.1
  have hle := h.2.1
  have hmx2 := h2.2.2.1
  have hle2 := h2.2.1
  unfold maxLen at hmx hmx2
  have hxl := h.1
  have H := hide2 h
  have H2 := hide2 h2
  clear h h2
  go_enter Try.func17, Try.ntmps17
  go_wp2
  go_loopw [5] (fun i wr => ∃ k q : Nat, k ≤ len ∧ i = .int .i64 (k : Nat) ∧ wr = w.drewN q) (fun i _ => len - (intOf i).toNat)
  case atStart => exact ⟨0, 0, by omega, rfl, rfl⟩
  case round =>
    obtain ⟨k, q, hk, rfl, hw⟩ := hrel
    subst hw
    by_cases hlt : k < len
    · obtain ⟨r, hr⟩ := some_at hxl hlt
      obtain ⟨g, off, rfl, hg, hc⟩ := RS.at H.out (by omega)
      obtain ⟨g2, off2, rfl, hg2, hc2⟩ := RS.at H2.out (by omega)
      obtain ⟨c0, c1, c2⟩ := hc k r hr
      obtain ⟨e0, e1, e2⟩ := hc2 k r hr
      have hneq := fun u => neqRo r u
      have d1 : (k : Int) < (len : Int) := by omega
      clear hc hc2 hr
      go_wp2
      go_quiet (fail)
      go_wp2
      go_roundw
      case rel => exact ⟨k + 1, _, by omega, by go_num, by first | rfl | exact World.drewN_drewN _ _ _⟩
      case measure => simp [intOf]; omega
    · have e1 : k = len := by omega
      subst e1
      have d1 : ¬ (k : Int) < (k : Int) := by omega
      go_wp2
      go_ret
      exact ⟨rfl, q, rfl⟩
end
end Go.Proofs.Ytheidhkmmihjlaa.ML
