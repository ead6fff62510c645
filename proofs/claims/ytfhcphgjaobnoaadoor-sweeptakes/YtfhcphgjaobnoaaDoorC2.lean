/-
  The least free cell: math/bits.TrailingZeros64 (over its table), leastFree.
-/
import Derived.Test.YtfhcphgjaobnoaaDoorC1
set_option linter.unusedVariables false
set_option linter.unusedSimpArgs false
namespace Go.Proofs.YtfhcphgjaobnoaaDoor
open Go.RowKit

/-- The table of math/bits lies in its variable. -/
def Tab (w : World) : Prop := 0 < w.heap.size ∧ ∀ j, j < 64 → w.cell? ⟨0, j, none⟩ = some (.int .u8 (Lib.deBruijn64tab.getD j 0 : Nat))

theorem Tab.fr {F : Nat → Prop} {w w' : World} (h : Tab w) (k : Fr F w w') (h0 : ¬ F 0) : Tab w' :=
  ⟨Nat.lt_of_lt_of_le h.1 k.size, fun j hj => (k.cell (p := ⟨0, j, none⟩) h.1 h0).trans (h.2 j hj)⟩
theorem Tab.drewN {w : World} (h : Tab w) (q : Nat) : Tab (w.drewN q) := h.fr (Fr.drewN (Fr.refl (fun _ => False) w) q) id

set_option maxRecDepth 100000 in
set_option maxHeartbeats 1000000 in
theorem tz_raw (x k idx : Nat) (w : World) (hx0 : ((x : Int) == 0) = false)
    (key : IntKind.u64.wrap (bits BinOp.and IntKind.u64 (x : Int) (IntKind.u64.wrap (-(x : Int))) * 285870213051353865) / 288230376151711744 = (idx : Int))
    (hi : (idx : Int) < 64) (hk : k < 64) (hcell : w.cell? ⟨0, idx, none⟩ = some (.int .u8 (k : Int))) :
    Calls Tryd.prog 101 #[.int .u64 (x : Int)] w fun e w' => e = .returned (.int .i64 (k : Int)) ∧ w' = w := by
  go_enter Tryd.func101, Tryd.ntmps101
  go_wp2_with (simp only [key])
  go_ret
  exact ⟨rfl, rfl⟩

theorem tz_key (x a : Nat) (hx : x < 18446744073709551616) (hx0 : x ≠ 0) (hlow : x &&& (18446744073709551616 - x) = a) :
    IntKind.u64.wrap (bits BinOp.and IntKind.u64 (x : Int) (IntKind.u64.wrap (-(x : Int))) * 285870213051353865) / 288230376151711744 = ((a * 285870213051353865 % 18446744073709551616 / 288230376151711744 : Nat) : Int) := by
  have e1 : IntKind.u64.wrap (-(x : Int)) = ((18446744073709551616 - x : Nat) : Int) := by rw [IntKind.wrap_u64]; omega
  rw [e1, bits_and_u64_nat x _ hx (by omega), hlow, IntKind.wrap_u64]
  omega

/-- Of a number that is not 0: the place of its lowest bit. -/
theorem tz_any (x : Nat) (hx : x < 18446744073709551616) (hx0 : x ≠ 0) (w : World) (hT : Tab w) :
    Calls Tryd.prog 101 #[.int .u64 (x : Int)] w fun e w' => (∃ k : Nat, e = .returned (.int .i64 (k : Int)) ∧ k < 64 ∧ x.testBit k = true ∧ ∀ j, j < k → x.testBit j = false) ∧ w' = w := by
  obtain ⟨m, hm, hk⟩ := Lib.ctzFrom_spec 64 x (by omega) hx
  generalize Lib.ctzFrom 64 x = k at hm hk
  have hlow : x &&& (18446744073709551616 - x) = 2 ^ k := by
    have := Lib.and_neg 64 k m (by rw [← hm]; exact hx)
    rwa [← hm] at this
  obtain ⟨hi, htab⟩ := Lib.deBruijn64_at k hk
  have hcell := hT.2 _ hi
  rw [htab] at hcell
  refine (tz_raw x k _ w (by simpa using hx0) (tz_key x _ hx hx0 hlow) (by exact_mod_cast hi) hk hcell).mono ?_
  rintro e w' ⟨rfl, rfl⟩
  refine ⟨⟨k, rfl, hk, ?_, fun j hj => ?_⟩, rfl⟩
  · rw [hm, Nat.mul_comm, Nat.testBit_mul_two_pow]; simp
  · rw [hm, Nat.mul_comm, Nat.testBit_mul_two_pow]
    have : ¬ k ≤ j := by omega
    simp [this]

set_option maxRecDepth 100000 in
set_option maxHeartbeats 1000000 in
/-- leastFree, where there is one. -/
theorem least_any {w : World} {d : Nat} {F : List Nat} {nums : Value} {used steps : Int} (h : Ab w d F nums used steps) (hT : Tab w) (c : Nat) (hc : c < 65536) (hb : bitOf F c = true) (hmin : ∀ j, j < c → bitOf F j = false) :
    Calls Tryd.prog 96 #[.pointer (some ⟨d, 0, none⟩)] w fun e w' => e = .returned (.int .i64 (c : Int)) ∧ w' = w := by
  have hz : F.getD (c / 64) 0 ≠ 0 := fun e => by unfold bitOf at hb; rw [e] at hb; simp at hb
  have hlow : ∀ j, j < c / 64 → F.getD j 0 = 0 := by
    intro j hj
    have hlt := h.2.1 j
    apply Nat.eq_of_testBit_eq
    intro i
    rw [Nat.zero_testBit]
    by_cases hi : i < 64
    · have := hmin (64 * j + i) (by omega)
      unfold bitOf at this
      rwa [show (64 * j + i) / 64 = j by omega, show (64 * j + i) % 64 = i by omega] at this
    · exact Nat.testBit_lt_two_pow (Nat.lt_of_lt_of_le hlt (by
        have : 2 ^ 64 ≤ 2 ^ i := Nat.pow_le_pow_right (by decide) (by omega)
        omega))
  have htz := tz_any (F.getD (c / 64) 0) (h.2.1 _) hz w hT
  have hword : ∀ k, k < 1024 → w.cell? ⟨d, k, none⟩ = some (.int .u64 (F.getD k 0 : Nat)) := fun k hk => h.word k hk
  have hb2 : (F.getD (c / 64) 0).testBit (c % 64) = true := hb
  have hmin2 : ∀ j, j < c % 64 → (F.getD (c / 64) 0).testBit j = false := by
    intro j hj
    have := hmin (64 * (c / 64) + j) (by omega)
    unfold bitOf at this
    rwa [show (64 * (c / 64) + j) / 64 = c / 64 by omega, show (64 * (c / 64) + j) % 64 = j by omega] at this
  have hm : c / 64 < 1024 := by omega
  have HC : Hid (c = 64 * (c / 64) + c % 64) := hide2 (by omega)
  have hr : c % 64 < 64 := by omega
  generalize c / 64 = m at *
  generalize c % 64 = r at *
  clear hmin hb h hT
  go_enter Tryd.func96, Tryd.ntmps96
  go_wp2
  go_loop [3] (fun i => ∃ k : Nat, k ≤ m ∧ i = .int .i64 k) (fun i => m - (intOf i).toNat)
  case atStart => exact ⟨0, by omega, rfl⟩
  case round =>
    obtain ⟨k, hk, rfl⟩ := hrel
    have c0 := hword k (by omega)
    by_cases hkm : k = m
    · subst hkm
      generalize F.getD k 0 = x at *
      have hx0 : ((x : Int) == 0) = false := by simpa using hz
      have hT2 : Hid (Calls Tryd.prog 101 #[.int .u64 (x : Int)] w fun e w' => (∃ k : Nat, e = .returned (.int .i64 (k : Int)) ∧ k < 64 ∧ x.testBit k = true ∧ ∀ j, j < k → x.testBit j = false) ∧ w' = w) := hide2 htz
      clear htz hword
      go_wp2_with fail
      refine hT2.out.mono ?_
      rintro e w' ⟨⟨r2, rfl, hr2, hr3, hr4⟩, rfl⟩
      have er : r2 = r := by
        rcases Nat.lt_trichotomy r2 r with hlt | heq | hgt
        · rw [hmin2 r2 hlt] at hr3; cases hr3
        · exact heq
        · rw [hr4 r hgt] at hb2; cases hb2
      subst er
      have hc2 := HC.out
      clear hr3 hr4 hT2 HC hmin2
      go_wp2
      go_ret
      exact ⟨ret_int (by go_arith), rfl⟩
    · have hx0 := hlow k (by omega)
      rw [hx0] at c0
      go_wp2
      go_round
      case rel => exact ⟨k + 1, by omega, by go_num⟩
      case measure => simp [intOf]; omega
end Go.Proofs.YtfhcphgjaobnoaaDoor
