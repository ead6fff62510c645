/-
  The document's own arena: Alloc.
-/
import Derived.Test.YtiflchilmogdoaaDoorR3
import Derived.OwnWalk
import Derived.OneCell
set_option linter.unusedVariables false
set_option linter.unusedSimpArgs false
namespace Go.Proofs.YtiflchilmogdoaaDoor
open Go.RowKit

theorem infoB : (Tryd.prog.info? 4).map (fun i => (i.zero, i.size, i.bytes)) = some (some (.bool false), 1, 1) := by kernel_rfl
theorem infoU2 : (Tryd.prog.info? 32).map (fun i => (i.zero, i.size, i.bytes)) = some (some (.int .u64 0), 1, 8) := by kernel_rfl

section
variable {w w' : World} {B r n : Nat} {R : List Bool} {H : List Int} {m : Int} {hv tv : Value}

set_option maxRecDepth 100000 in
set_option maxHeartbeats 2000000 in
/-- All that was ever to be taken is: none is free. -/
theorem refAlloc_full (h : Rw w B r n R H m hv tv) (hf : ∀ j, j < R.length → R.getD j false = true) (hn : R.length = n) :
    Calls Tryd.prog 24 #[.pointer (some ⟨r, 0, none⟩)] w fun e w' => e = .returned (.tuple #[.int .i64 0, .int .i64 31]) ∧ w' = w := by
  obtain ⟨c0, c1, c2, c3⟩ := h.cells
  obtain ⟨ao, cap, rfl⟩ := h.tlen
  have hbig := h.big
  have hrow := h.trow
  have HR := hide2 hrow
  clear hrow
  go_enter Tryd.func24, Tryd.ntmps24
  go_wp2
  go_loop [4] (fun i => ∃ k : Nat, k ≤ R.length ∧ i = .int .i64 k) (fun i => R.length - (intOf i).toNat)
  case atStart => exact ⟨0, by omega, rfl⟩
  case round =>
    obtain ⟨k, hk, rfl⟩ := hrel
    by_cases hkl : k < R.length
    · obtain ⟨g, cap', e, hg, hcell⟩ := HR.out (by omega)
      cases e
      obtain ⟨q0, -⟩ := hcell k hkl
      rw [hf k hkl] at q0
      have hc2 : (k : Int) < (R.length : Int) := by omega
      have t3 : decide ((k : Int) < (R.length : Int)) = true := by simpa using hkl
      have t4 : decide (k < R.length) = true := by simpa using hkl
      clear hcell
      go_wp2
      go_round
      case rel => exact ⟨k + 1, by omega, by go_num⟩
      case measure => simp [intOf]; omega
    · obtain rfl : k = R.length := by omega
      have t3 : decide ((R.length : Int) < (R.length : Int)) = false := by simp
      have t5 : decide ((n : Int) ≤ (R.length : Int)) = true := by simp; omega
      go_wp2
      go_ret2
      exact ⟨rfl, rfl⟩

set_option maxRecDepth 100000 in
set_option maxHeartbeats 4000000 in
/-- One that was taken before is free: the least. -/
theorem refAlloc_old (h : Rw w B r n R H m hv tv) (c : Nat) (hc : c < R.length) (hcf : R.getD c false = false) (hf : ∀ j, j < c → R.getD j false = true) :
    Calls Tryd.prog 24 #[.pointer (some ⟨r, 0, none⟩)] w fun e w' => e = .returned (.tuple #[.int .i64 (c : Int), .int .i64 0]) ∧ Rw w' B r n (R.set c true) (H.set c 0) m hv tv ∧ Fr (fun k => B ≤ k) w w' := by
  obtain ⟨c0, c1, c2, c3⟩ := h.cells
  have hbig := h.big
  have htop := h.top
  obtain ⟨g, cap, rfl, hg, hcell⟩ := h.trow (by omega)
  obtain ⟨g2, cap2, rfl, hg2, hcell2⟩ := h.hrow (by omega)
  have HC := hide2 hcell
  obtain ⟨q0, f0⟩ := hcell c hc
  obtain ⟨q1, f1⟩ := hcell2 c hc
  have hgl := (h.tr.lt g rfl).2
  have hgl2 := (h.hr.lt g2 rfl).2
  have hne1 : r ≠ g := fun e => h.nt (by rw [e]; rfl)
  have hne2 : r ≠ g2 := fun e => h.nh (by rw [e]; rfl)
  have hne3 : g ≠ g2 := fun e => h.nn g rfl (by rw [e]; rfl)
  have h2 := h.flag c true
  have H2 := hide2 h2
  have HF := hide2 (Fr.setCell (p := ⟨g2, c, none⟩) (Fr.setCell (p := ⟨g, c, none⟩) (Fr.refl (fun k => B ≤ k) w) (.inl hg) (.bool true)) (.inl hg2) (.int .u64 0))
  clear hcell hcell2 h2 h
  generalize hlen : R.length = len at *
  have HL := hide2 hlen
  clear hlen
  rw [hcf] at q0
  go_enter Tryd.func24, Tryd.ntmps24
  go_wp2
  go_loop [4] (fun i => ∃ k : Nat, k ≤ c ∧ i = .int .i64 k) (fun i => c - (intOf i).toNat)
  case atStart => exact ⟨0, by omega, rfl⟩
  case round =>
    obtain ⟨k, hk, rfl⟩ := hrel
    have t3 : decide ((k : Int) < (len : Int)) = true := by simp; omega
    have t4 : decide (k < len) = true := by simp; omega
    have hc2 : (k : Int) < (len : Int) := by omega
    by_cases hkl : k < c
    · obtain ⟨q2, -⟩ := HC.out k (by omega)
      rw [hf k hkl] at q2
      go_wp2
      go_round
      case rel => exact ⟨k + 1, by omega, by go_num⟩
      case measure => simp [intOf]; omega
    · obtain rfl : k = c := by omega
      have t5 : decide ((n : Int) ≤ (k : Int)) = false := by simp; omega
      have t6 : ((k : Int) == (len : Int)) = false := by simp; omega
      go_wp2
      go_ret2
      have hl := HL.out
      subst hl
      have h3 := H2.out
      have el : (R.set k true).length = R.length := by simp
      rw [← el] at h3
      have h4 := Rw.numb (cap := cap2) h3 k 0 (by decide)
      rw [el] at h4
      exact ⟨rfl, h4, HF.out⟩
end
end Go.Proofs.YtiflchilmogdoaaDoor
