/-
  La1: Sets of workers as words of sixteen bits; math/bits over its table; what package lock's small functions do.
-/
import Derived.Test.YtafbchjmjfpilaaDoorLk3
import Derived.WalkKit
import Derived.WalkSpells
import Derived.WalkLawsBesides
import Derived.Handy
import Derived.BigQuiet
import Derived.Deep.RegionWith
import Derived.Lib.SmallJoins
import Derived.Lib.TrailingZeros
import Derived.Laws.Bits64b
set_option linter.unusedVariables false
set_option linter.unusedSimpArgs false
namespace Go.Proofs.YtafbchjmjfpilaaDoor
open Go.RowKit

theorem hide2 {p : Prop} (h : p) : Hid p := h
theorem ret_bool {a b : Bool} (h : a = b) : Ending.returned (.bool a) = .returned (.bool b) := by rw [h]
theorem ret_int {k : IntKind} {a b : Int} (h : a = b) : Ending.returned (.int k a) = .returned (.int k b) := by rw [h]

/-! Bits of sixteen. -/

theorem wrap16 (x : Int) : IntKind.u16.wrap x = x % 65536 := by
  unfold IntKind.wrap; simp [IntKind.bits, IntKind.signed]
theorem nat16 {a : Nat} (h : a < 65536) : (BitVec.ofInt 16 (a : Int)).toNat = a := by
  rw [BitVec.ofInt_natCast, BitVec.toNat_ofNat]; exact Nat.mod_eq_of_lt (by omega)
theorem and16 {a b : Nat} (ha : a < 65536) (hb : b < 65536) : bits .and .u16 (a : Int) (b : Int) = ((a &&& b : Nat) : Int) := by
  have hx : a &&& b < 2 ^ 16 := Nat.and_lt_two_pow _ (by omega)
  show IntKind.u16.wrap ((BitVec.ofInt 16 (a : Int) &&& BitVec.ofInt 16 (b : Int)).toNat : Int) = _
  rw [BitVec.toNat_and, nat16 ha, nat16 hb, wrap16]
  omega
theorem or16 {a b : Nat} (ha : a < 65536) (hb : b < 65536) : bits .or .u16 (a : Int) (b : Int) = ((a ||| b : Nat) : Int) := by
  have hx : a ||| b < 2 ^ 16 := Nat.or_lt_two_pow (by omega) (by omega)
  show IntKind.u16.wrap ((BitVec.ofInt 16 (a : Int) ||| BitVec.ofInt 16 (b : Int)).toNat : Int) = _
  rw [BitVec.toNat_or, nat16 ha, nat16 hb, wrap16]
  omega
/-- One set without another. -/
def wo (a b : Nat) : Nat := a &&& (65535 - b)
theorem wo_lt {a b : Nat} (ha : a < 65536) : wo a b < 65536 := Nat.lt_of_le_of_lt Nat.and_le_left ha
theorem wo_bit {a b : Nat} (ha : a < 65536) (hb : b < 65536) (k : Nat) : (wo a b).testBit k = (a.testBit k && !b.testBit k) := by
  unfold wo
  rw [Nat.testBit_and]
  by_cases h : k < 16
  · have e : 65535 - b = 2 ^ 16 - (b + 1) := by omega
    rw [e, Nat.testBit_two_pow_sub_succ (by omega) k]
    simp [h]
  · have : a.testBit k = false := by
      cases e : a.testBit k with
      | false => rfl
      | true => exact absurd (Lk.bit_le ha e) h
    simp [this]
theorem andNot16 {a b : Nat} (ha : a < 65536) (hb : b < 65536) : bits .andNot .u16 (a : Int) (b : Int) = ((wo a b : Nat) : Int) := by
  have hx := wo_lt (b := b) ha
  show IntKind.u16.wrap ((BitVec.ofInt 16 (a : Int) &&& ~~~ BitVec.ofInt 16 (b : Int)).toNat : Int) = _
  rw [BitVec.toNat_and, BitVec.toNat_not, nat16 ha, nat16 hb, wrap16]
  have e : 2 ^ 16 - 1 - b = 65535 - b := by omega
  rw [e]
  show ((wo a b : Nat) : Int) % 65536 = _
  omega
theorem pow16_lt {k : Nat} (h : k < 16) : 2 ^ k < 65536 := by have := Lk.pow16 h; omega
theorem or_lt16 {a b : Nat} (ha : a < 65536) (hb : b < 65536) : a ||| b < 65536 := Nat.or_lt_two_pow (n := 16) (by omega) (by omega)

/-- The set of a writer's part. -/
def ws (x : Nat) : Nat := if x = 0 then 0 else 2 ^ (x - 1)
theorem ws_lt {x : Nat} (h : x ≤ 16) : ws x < 65536 := by
  unfold ws
  split
  · omega
  · exact pow16_lt (by omega)
theorem ws_bit {x k : Nat} : (ws x).testBit k = (x == k + 1) := by
  unfold ws
  split
  · next h => subst h; simp
  · next h =>
    rw [Nat.testBit_two_pow]
    by_cases e : x - 1 = k
    · subst e; simp; omega
    · have : x ≠ k + 1 := by omega
      simp [e, this]
theorem ws_zero {x : Nat} : ws x = 0 ↔ x = 0 := by
  unfold ws
  split
  · next h => simp [h]
  · next h => have := Nat.two_pow_pos (x - 1); constructor <;> intro <;> omega

/-! What is in a set, rising. -/

theorem filter_first {p : Nat → Bool} {k : Nat} : ∀ {l : List Nat}, l.Pairwise (· < ·) → k ∈ l → p k = true → (∀ j, j < k → p j = false) → l.filter p = k :: l.filter fun j => p j && !decide (j = k) := by
  intro l
  induction l with
  | nil => intro _ h; cases h
  | cons a l ih =>
    intro hs hk hp hj
    obtain ⟨ha, hs'⟩ := List.pairwise_cons.1 hs
    by_cases e : a = k
    · subst e
      rw [List.filter_cons_of_pos hp, List.filter_cons_of_neg (by simp)]
      congr 1
      exact List.filter_congr (fun j h => by have := ha j h; have : j ≠ a := by omega
                                             simp [this])
    · have hk' : k ∈ l := by rcases List.mem_cons.1 hk with h | h
                             · exact absurd h.symm e
                             · exact h
      have := hj a (ha k hk')
      rw [List.filter_cons_of_neg (by simp [this]), List.filter_cons_of_neg (by simp [this])]
      exact ih hs' hk' hp hj
theorem rds_first {x k : Nat} (hk : k < 16) (hp : x.testBit k = true) (hj : ∀ j, j < k → x.testBit j = false) : Lk.rds x = k :: Lk.rds (x - 2 ^ k) := by
  unfold Lk.rds
  rw [filter_first (p := fun k => x.testBit k) List.pairwise_lt_range (List.mem_range.2 hk) hp hj]
  congr 1
  exact List.filter_congr (fun j _ => (Lk.bit_sub hp).symm)
theorem rds_zero : Lk.rds 0 = [] := by unfold Lk.rds; simp
theorem rds_nil {x : Nat} (hx : x < 65536) : Lk.rds x = [] ↔ x = 0 := by
  constructor
  · intro h
    refine Lk.bits_eq hx (by decide) (fun k hk => ?_)
    cases e : x.testBit k with
    | false => simp
    | true =>
      have : k ∈ Lk.rds x := Lk.mem_rds.2 ⟨hk, e⟩
      rw [h] at this; cases this
  · rintro rfl; exact rds_zero
theorem rds_len (x : Nat) : (Lk.rds x).length ≤ 16 := by
  have := List.length_filter_le (fun k => x.testBit k) (List.range 16)
  unfold Lk.rds
  simpa using this

/-- The lowest one is taken out. -/
theorem low_out {x k m : Nat} (hm : x = 2 ^ k * (2 * m + 1)) : x &&& (x - 1) = x - 2 ^ k := by
  have hp := Nat.two_pow_pos k
  have hx : x.testBit k = true := by rw [hm, Nat.mul_comm, Nat.testBit_mul_two_pow]; simp
  apply Nat.eq_of_testBit_eq
  intro j
  rw [Nat.testBit_and, Lk.bit_sub hx]
  have e1 : x = 2 ^ k * (2 * m) + 2 ^ k := by rw [hm, Nat.mul_add]; omega
  have e : x - 1 = 2 ^ k * (2 * m) + (2 ^ k - 1) := by omega
  rw [e, Nat.testBit_two_pow_mul_add (2 * m) (by omega : 2 ^ k - 1 < 2 ^ k) j]
  by_cases h : j < k
  · have : x.testBit j = false := by
      rw [hm, Nat.mul_comm, Nat.testBit_mul_two_pow]
      have : ¬ k ≤ j := by omega
      simp [this]
    simp [this]
  · rw [if_neg h]
    by_cases q : j = k
    · subst q; simp
    · obtain ⟨d, rfl⟩ : ∃ d, j = k + (d + 1) := ⟨j - k - 1, by omega⟩
      have e3 : k + (d + 1) - k = d + 1 := by omega
      have : x.testBit (k + (d + 1)) = m.testBit d := by
        rw [hm, Nat.mul_comm, Nat.testBit_mul_two_pow, e3, Nat.testBit_succ]
        have : (2 * m + 1) / 2 = m := by omega
        rw [this]
        simp
      rw [this, e3, Nat.testBit_succ]
      have : 2 * m / 2 = m := by omega
      rw [this]
      simp [q]

/-! math/bits. -/

/-- The table of math/bits lies in its variable. -/
def Tab (w : World) : Prop := 0 < w.heap.size ∧ ∀ j, j < 32 → w.cell? ⟨0, j, none⟩ = some (.int .u8 (Lib.deBruijn32tab.getD j 0 : Nat))
theorem Tab.below {w w' : World} {n : Nat} (h : Tab w) (k : Below n w w') (hn : 1 ≤ n) : Tab w' :=
  ⟨Nat.lt_of_lt_of_le h.1 k.size, fun j hj => (k.cell (p := ⟨0, j, none⟩) (by show 0 < n; omega)).trans (h.2 j hj)⟩
theorem Tab.keep {w w' : World} (h : Tab w) (k : Below w.heap.size w w') : Tab w' := h.below k h.1

set_option maxRecDepth 100000 in
set_option maxHeartbeats 1000000 in
theorem tz_raw (x k idx : Nat) (w : World) (hx0 : ((x : Int) == 0) = false)
    (key : bits BinOp.and IntKind.u16 (x : Int) (IntKind.u16.wrap (-(x : Int))) % 4294967296 * 125613361 % 4294967296 / 134217728 = (idx : Int))
    (hi : (idx : Int) < 32) (hk : k < 32) (hcell : w.cell? ⟨0, idx, none⟩ = some (.int .u8 (k : Int))) :
    Calls Tryd.prog 28 #[.int .u16 (x : Int)] w fun e w' => e = .returned (.int .i64 (k : Int)) ∧ w' = w := by
  go_enter Tryd.func28, Tryd.ntmps28
  go_wp2_with (simp only [key])
  go_ret
  exact ⟨rfl, rfl⟩

/-- Of a set that is not empty: the least one in it. -/
structure Low (x k m : Nat) : Prop where
  eq : x = 2 ^ k * (2 * m + 1)
  lt : k < 16
theorem Low.bit {x k m : Nat} (h : Low x k m) : x.testBit k = true := by rw [h.eq, Nat.mul_comm, Nat.testBit_mul_two_pow]; simp
theorem Low.no {x k m : Nat} (h : Low x k m) {j : Nat} (hj : j < k) : x.testBit j = false := by
  rw [h.eq, Nat.mul_comm, Nat.testBit_mul_two_pow]
  have : ¬ k ≤ j := by omega
  simp [this]
theorem low_ex {x : Nat} (hx : x < 65536) (h0 : x ≠ 0) : ∃ k m, Low x k m := by
  obtain ⟨m, hm, hk⟩ := Lib.ctzFrom_spec 16 x (by omega) hx
  exact ⟨_, m, hm, hk⟩
theorem Low.only {x k m : Nat} (h : Low x k m) (hx : x < 65536) {j : Nat} (hb : x.testBit j = true) (hj : ∀ i, i < j → x.testBit i = false) : k = j := by
  rcases Nat.lt_trichotomy k j with q | q | q
  · have := hj k q; rw [h.bit] at this; cases this
  · exact q
  · have := h.no q; rw [hb] at this; cases this

theorem tz_any {x k m : Nat} (h : Low x k m) (hx : x < 65536) (w : World) (hT : Tab w) :
    Calls Tryd.prog 28 #[.int .u16 (x : Int)] w fun e w' => e = .returned (.int .i64 (k : Int)) ∧ w' = w := by
  have h0 : x ≠ 0 := fun e => by have := h.bit; rw [e] at this; simp at this
  have hlow : x &&& (65536 - x) = 2 ^ k := by
    have := Lib.and_neg 16 k m (by rw [← h.eq]; exact hx)
    rwa [← h.eq] at this
  have hk32 : k < 32 := by have := h.lt; omega
  obtain ⟨hi, htab⟩ := Lib.deBruijn32_at k hk32
  have hcell := hT.2 _ hi
  rw [htab] at hcell
  refine tz_raw x k _ w (by simpa using h0) ?_ (by exact_mod_cast hi) hk32 hcell
  have e1 : IntKind.u16.wrap (-(x : Int)) = ((65536 - x : Nat) : Int) := by rw [wrap16]; omega
  have hp := pow16_lt h.lt
  rw [e1, and16 hx (by omega), hlow]
  have : ((2 ^ k : Nat) : Int) % 4294967296 = ((2 ^ k : Nat) : Int) := by omega
  rw [this]
  generalize 2 ^ k = a
  simp only [Int.natCast_ediv, Int.natCast_emod, Int.natCast_mul]
  rfl

set_option maxRecDepth 100000 in
set_option maxHeartbeats 2000000 in
theorem len_raw (z y : Int) (h : z = 0 ∧ y = 0 ∨ z = 1 ∧ y = 1 ∨ z = 2 ∧ y = 2 ∨ z = 4 ∧ y = 3 ∨ z = 8 ∧ y = 4 ∨ z = 16 ∧ y = 5 ∨ z = 32 ∧ y = 6 ∨ z = 64 ∧ y = 7 ∨ z = 128 ∧ y = 8 ∨ z = 256 ∧ y = 9 ∨ z = 512 ∧ y = 10 ∨ z = 1024 ∧ y = 11 ∨ z = 2048 ∧ y = 12 ∨ z = 4096 ∧ y = 13 ∨ z = 8192 ∧ y = 14 ∨ z = 16384 ∧ y = 15 ∨ z = 32768 ∧ y = 16) (w : World) :
    Calls Tryd.prog 26 #[.int .u16 z] w fun e w' => e = .returned (.int .i64 y) ∧ w' = w := by
  rcases h with ⟨rfl, rfl⟩ | ⟨rfl, rfl⟩ | ⟨rfl, rfl⟩ | ⟨rfl, rfl⟩ | ⟨rfl, rfl⟩ | ⟨rfl, rfl⟩ | ⟨rfl, rfl⟩ | ⟨rfl, rfl⟩ | ⟨rfl, rfl⟩ | ⟨rfl, rfl⟩ | ⟨rfl, rfl⟩ | ⟨rfl, rfl⟩ | ⟨rfl, rfl⟩ | ⟨rfl, rfl⟩ | ⟨rfl, rfl⟩ | ⟨rfl, rfl⟩ | ⟨rfl, rfl⟩ <;>
  · go_enter Tryd.func26, Tryd.ntmps26
    go_wp2
    go_ret
    refine ⟨ret_int ?_, rfl⟩
    kernel_rfl
/-- Of the set of a writer's part: that part. -/
theorem len_any (x : Nat) (hx : x ≤ 16) (w : World) :
    Calls Tryd.prog 26 #[.int .u16 (ws x : Int)] w fun e w' => e = .returned (.int .i64 (x : Int)) ∧ w' = w := by
  refine len_raw _ _ ?_ w
  have hc : ∀ y : Nat, y ≤ 16 → y = 0 ∨ y = 1 ∨ y = 2 ∨ y = 3 ∨ y = 4 ∨ y = 5 ∨ y = 6 ∨ y = 7 ∨ y = 8 ∨ y = 9 ∨ y = 10 ∨ y = 11 ∨ y = 12 ∨ y = 13 ∨ y = 14 ∨ y = 15 ∨ y = 16 := by omega
  rcases hc x hx with rfl | rfl | rfl | rfl | rfl | rfl | rfl | rfl | rfl | rfl | rfl | rfl | rfl | rfl | rfl | rfl | rfl <;> simp [ws]

/-! Workers. -/

theorem only_any (k : Nat) (hk : k < 16) (w : World) :
    Calls Tryd.prog 14 #[.int .i64 (k : Int)] w fun e w' => e = .returned (.int .u16 ((2 ^ k : Nat) : Int)) ∧ w' = w := by
  have hp := pow16_lt hk
  go_enter Tryd.func14, Tryd.ntmps14
  go_wp2
  go_ret
  refine ⟨ret_int ?_, rfl⟩
  have e : ((2 : Int) ^ k) = ((2 ^ k : Nat) : Int) := by simp
  rw [wrap16, e]
  generalize 2 ^ k = a at hp
  omega

/-- Is it a worker? -/
def isW (k : Int) : Bool := decide (0 ≤ k) && decide (k < 16)
theorem isW_iff {k : Int} : isW k = true ↔ 0 ≤ k ∧ k < 16 := by simp [isW]
theorem isW_nat {k : Nat} (h : k < 16) : isW (k : Int) = true := isW_iff.2 ⟨by omega, by omega⟩
theorem isWorker_any (k : Int) (w : World) :
    Calls Tryd.prog 13 #[.int .i64 k] w fun e w' => e = .returned (.bool (isW k)) ∧ w' = w := by
  by_cases h1 : 0 ≤ k
  · by_cases h2 : k < 16
    · go_enter Tryd.func13, Tryd.ntmps13
      go_wp2
      go_ret
      exact ⟨ret_bool (by simp [isW, h1, h2]), rfl⟩
    · go_enter Tryd.func13, Tryd.ntmps13
      go_wp2
      go_ret
      exact ⟨ret_bool (by simp [isW, h1, h2]), rfl⟩
  · go_enter Tryd.func13, Tryd.ntmps13
    go_wp2
    go_ret
    exact ⟨ret_bool (by unfold isW; simp; omega), rfl⟩
end Go.Proofs.YtafbchjmjfpilaaDoor
