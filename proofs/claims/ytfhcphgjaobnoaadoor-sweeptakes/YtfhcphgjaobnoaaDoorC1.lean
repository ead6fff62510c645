/-
  The arena in memory; the contracts of bit, turn and taken.
-/
import Derived.Test.YtfhcphgjaobnoaaDoorRows
import Derived.WalkKit
import Derived.WalkSpells
import Derived.WalkLawsBesides
import Derived.Handy
import Derived.BigQuiet
import Derived.Deep.RegionWith
import Derived.Lib.SmallJoins
import Derived.Lib.TrailingZeros
import Derived.Laws.Bits64b
set_option linter.unusedVariables false
set_option linter.unusedSimpArgs false
namespace Go.Proofs.YtfhcphgjaobnoaaDoor
open Go.RowKit

theorem addr_add (g off i : Nat) : (⟨g, off, none⟩ : Addr).add i = ⟨g, off + i, none⟩ := by unfold Addr.add; split <;> simp_all
theorem hide2 {p : Prop} (h : p) : Hid p := h
theorem ret_bool {a b : Bool} (h : a = b) : Ending.returned (.bool a) = .returned (.bool b) := by rw [h]
theorem ret_int {k : IntKind} {a b : Int} (h : a = b) : Ending.returned (.int k a) = .returned (.int k b) := by rw [h]

theorem pow_lt64 (c : Nat) : 2 ^ (c % 64) < 18446744073709551616 := by
  have h : 2 ^ (c % 64) ≤ 2 ^ 63 := Nat.pow_le_pow_right (by decide) (by omega)
  have : (2 : Nat) ^ 63 = 9223372036854775808 := by decide
  omega
theorem wrap_pow (c : Nat) : IntKind.u64.wrap (2 ^ (c % 64)) = ((2 ^ (c % 64) : Nat) : Int) := by
  have := pow_lt64 c
  rw [IntKind.wrap_u64]
  have e : ((2 : Int) ^ (c % 64)) = ((2 ^ (c % 64) : Nat) : Int) := by simp
  rw [e]
  generalize 2 ^ (c % 64) = x at this
  omega

theorem bits_xor_u64_nat (a b : Nat) (ha : a < 18446744073709551616) (hb : b < 18446744073709551616) :
    bits .xor .u64 (a : Int) (b : Int) = ((a ^^^ b : Nat) : Int) := by
  have hx : a ^^^ b < 2 ^ 64 := Nat.xor_lt_two_pow (by omega) (by omega)
  have h1 : (BitVec.ofInt 64 (a : Int)).toNat = a := by
    rw [BitVec.ofInt_natCast, BitVec.toNat_ofNat]; exact Nat.mod_eq_of_lt (by omega)
  have h2 : (BitVec.ofInt 64 (b : Int)).toNat = b := by
    rw [BitVec.ofInt_natCast, BitVec.toNat_ofNat]; exact Nat.mod_eq_of_lt (by omega)
  show IntKind.u64.wrap ((BitVec.ofInt 64 (a : Int) ^^^ BitVec.ofInt 64 (b : Int)).toNat : Int) = _
  rw [BitVec.toNat_xor, h1, h2, IntKind.wrap_u64]
  omega

set_option maxHeartbeats 400000 in
theorem bit_any (c : Nat) (w : World) :
    Calls Tryd.prog 85 #[.int .i64 (c : Int)] w fun e w' => e = .returned (.int .u64 ((2 ^ (c % 64) : Nat) : Int)) ∧ w' = w := by
  go_enter Tryd.func85, Tryd.ntmps85
  go_wp2
  go_ret
  exact ⟨ret_int (wrap_pow c), rfl⟩

/-- The arena's cells: the words of the free ones, the numbers' slice, how many are taken, the steps. -/
def words (F : List Nat) : List Value := F.map fun x : Nat => Value.int .u64 (x : Int)
def arena (F : List Nat) (nums : Value) (used steps : Int) : List Value := words F ++ [nums, .int .i64 used, .int .i64 steps]
def Ab (w : World) (d : Nat) (F : List Nat) (nums : Value) (used steps : Int) : Prop :=
  F.length = 1024 ∧ (∀ i, F.getD i 0 < 18446744073709551616) ∧ w.heap[d]? = some (.cells (arena F nums used steps).toArray 78 (0, 0))

section
variable {w w' : World} {d : Nat} {F : List Nat} {nums : Value} {used steps : Int}
theorem Ab.lt (h : Ab w d F nums used steps) : d < w.heap.size := (Array.getElem?_eq_some_iff.1 h.2.2).1
theorem Ab.free (h : Ab w d F nums used steps) (i : Nat) : w.frozen? ⟨d, i, none⟩ = false := Go.Joins.unfrozen_of_block h.2.2 i
theorem Ab.word (h : Ab w d F nums used steps) (i : Nat) (hi : i < 1024) : w.cell? ⟨d, i, none⟩ = some (.int .u64 (F.getD i 0 : Nat)) := by
  have hl := h.1
  rw [Go.Joins.cell_of_block h.2.2]
  simp [arena, words, List.getElem?_append, hl, hi, List.getD, List.getElem?_eq_getElem (show i < F.length by omega)]
theorem Ab.tail (h : Ab w d F nums used steps) : w.cell? ⟨d, 1024, none⟩ = some nums ∧ w.cell? ⟨d, 1025, none⟩ = some (.int .i64 used) ∧ w.cell? ⟨d, 1026, none⟩ = some (.int .i64 steps) := by
  have hl := h.1
  refine ⟨?_, ?_, ?_⟩ <;> (rw [Go.Joins.cell_of_block h.2.2]; simp [arena, words, List.getElem?_append, hl])
theorem Ab.same (h : Ab w d F nums used steps) (e : w'.heap[d]? = w.heap[d]?) : Ab w' d F nums used steps := ⟨h.1, h.2.1, e.trans h.2.2⟩
theorem Ab.setWord (h : Ab w d F nums used steps) (i : Nat) (hi : i < 1024) (x : Nat) (hx : x < 18446744073709551616) : Ab (w.setCell ⟨d, i, none⟩ (.int .u64 (x : Int))) d (F.set i x) nums used steps := by
  obtain ⟨h1, h2, h3⟩ := h
  refine ⟨by simpa using h1, fun j => ?_, ?_⟩
  · by_cases hj : j = i
    · subst hj
      simp [List.getD, List.getElem?_set, h1, hi, hx]
    · have := h2 j
      simp only [List.getD, List.getElem?_set, if_neg (Ne.symm hj)]
      simpa [List.getD] using this
  · rw [Go.Joins.block_setCell h3]
    simp [arena, words, List.set_append, h1, hi, List.map_set]
theorem Ab.setTail (h : Ab w d F nums used steps) : (∀ n : Int, Ab (w.setCell ⟨d, 1025, none⟩ (.int .i64 n)) d F nums n steps) ∧ (∀ n : Int, Ab (w.setCell ⟨d, 1026, none⟩ (.int .i64 n)) d F nums used n) := by
  obtain ⟨h1, h2, h3⟩ := h
  refine ⟨fun n => ⟨h1, h2, ?_⟩, fun n => ⟨h1, h2, ?_⟩⟩ <;> (rw [Go.Joins.block_setCell h3]; simp [arena, words, List.set_append, h1])
end

/-- Outside F, all that was there is as it was. -/
structure Fr (F : Nat → Prop) (w w' : World) : Prop where
  os : w'.os = w.os
  tape : w'.tape = w.tape
  output : w'.output = w.output
  size : w.heap.size ≤ w'.heap.size
  block : ∀ k, k < w.heap.size → ¬ F k → w'.heap[k]? = w.heap[k]?

section
variable {F G : Nat → Prop} {a b c w w' : World}
theorem Fr.refl (F : Nat → Prop) (w : World) : Fr F w w := ⟨rfl, rfl, rfl, Nat.le_refl _, fun _ _ _ => rfl⟩
theorem Fr.trans (h : Fr F a b) (k : Fr G b c) (hG : ∀ j, G j → F j ∨ a.heap.size ≤ j) : Fr F a c :=
  ⟨k.os.trans h.os, k.tape.trans h.tape, k.output.trans h.output, Nat.le_trans h.size k.size, fun j hj hF => by
    refine (k.block j (Nat.lt_of_lt_of_le hj h.size) fun hg => ?_).trans (h.block j hj hF)
    rcases hG j hg with h1 | h1
    · exact hF h1
    · omega⟩
theorem Fr.mono (h : Fr F a b) (hG : ∀ j, j < a.heap.size → F j → G j) : Fr G a b := ⟨h.os, h.tape, h.output, h.size, fun j hj hn => h.block j hj fun hf => hn (hG j hj hf)⟩
theorem Fr.below (h : Below w.heap.size w w') : Fr F w w' := ⟨h.os, h.tape, h.output, h.size, fun k hk _ => h.block k hk⟩
theorem Fr.grown {row : Option Nat} (h : w.grownBy w' row) (hr : ∀ j, row = some j → F j) : Fr F w w' :=
  ⟨h.os, h.tape, h.output, h.size, fun k hk hF => h.block k hk fun e => hF (hr k e.symm)⟩
theorem Fr.setCell (h : Fr F a w) {p : Addr} (hp : F p.block ∨ a.heap.size ≤ p.block) (v : Value) : Fr F a (w.setCell p v) :=
  ⟨h.os, h.tape, h.output, by simpa [World.setCell] using h.size, fun k hk hF => (Below.heap_setCell _ _ _ _ (by
    intro e
    rcases hp with hp | hp
    · exact hF (e ▸ hp)
    · omega)).trans (h.block k hk hF)⟩
theorem Fr.alloc (h : Fr F a w) (o : Obj) : Fr F a (w.alloc o) := h.trans (G := fun _ => False) (Fr.below ((Below.refl _ _).alloc (Nat.le_refl _) _)) (fun _ h => h.elim)
theorem Fr.drewN (h : Fr F a w) (q : Nat) : Fr F a (w.drewN q) := ⟨h.os, h.tape, h.output, h.size, h.block⟩
theorem Fr.to {n : Nat} (h : Fr F w w') (hF : ∀ k, k < n → ¬ F k) (hn : n ≤ w.heap.size) : Below n w w' := ⟨h.os, h.tape, h.output, h.size, fun k hk => h.block k (Nat.lt_of_lt_of_le hk hn) (hF k hk)⟩
theorem Fr.cell (h : Fr F w w') {p : Addr} (hp : p.block < w.heap.size) (hF : ¬ F p.block) : w'.cell? p = w.cell? p := World.cell?_of_block (h.block _ hp hF)
end

theorem Fr.drew {F : Nat → Prop} {a w : World} (h : Fr F a w) : Fr F a w.drew := ⟨h.os, h.tape, h.output, h.size, h.block⟩

/-- Is a cell's bit set? -/
def bitOf (F : List Nat) (c : Nat) : Bool := (F.getD (c / 64) 0).testBit (c % 64)
/-- The words with one cell's bit turned. -/
def flip (F : List Nat) (c : Nat) : List Nat := F.set (c / 64) (F.getD (c / 64) 0 ^^^ 2 ^ (c % 64))

theorem bitOf_flip (F : List Nat) (c x : Nat) (hl : F.length = 1024) (hc : c < 65536) : bitOf (flip F c) x = if x = c then !bitOf F c else bitOf F x := by
  unfold bitOf flip
  by_cases hw : x / 64 = c / 64
  · have hlt : c / 64 < F.length := by omega
    have e : (F.set (c / 64) (F.getD (c / 64) 0 ^^^ 2 ^ (c % 64))).getD (x / 64) 0 = F.getD (c / 64) 0 ^^^ 2 ^ (c % 64) := by
      rw [hw]; simp [List.getD, List.getElem?_set, hlt]
    rw [e, Nat.testBit_xor, Nat.testBit_two_pow, hw]
    by_cases hx : x = c
    · subst hx; simp
    · have : ¬ c % 64 = x % 64 := by omega
      simp [hx, this]
  · have e : (F.set (c / 64) (F.getD (c / 64) 0 ^^^ 2 ^ (c % 64))).getD (x / 64) 0 = F.getD (x / 64) 0 := by
      simp [List.getD, List.getElem?_set, Ne.symm hw]
    have hx : ¬ x = c := fun h => hw (by rw [h])
    rw [e]; simp [hx]

section
variable {w w' : World} {d : Nat} {F : List Nat} {nums : Value} {used steps : Int}
theorem Ab.flipped (h : Ab w d F nums used steps) (c : Nat) (hc : c < 65536) : (F.getD (c / 64) 0 ^^^ 2 ^ (c % 64)) < 18446744073709551616 := by
  have h1 := h.2.1 (c / 64)
  have h2 := pow_lt64 c
  have : F.getD (c / 64) 0 ^^^ 2 ^ (c % 64) < 2 ^ 64 := Nat.xor_lt_two_pow (by omega) (by omega)
  omega
end

theorem wrap_quo (c : Nat) (hc : c < 9223372036854775808) : IntKind.i64.wrap ((c : Int) / 64) = ((c / 64 : Nat) : Int) := by
  rw [IntKind.wrap_i64]; omega

set_option maxRecDepth 100000 in
set_option maxHeartbeats 1000000 in
theorem turn_raw {w : World} {d : Nat} {F : List Nat} {nums : Value} {used steps : Int} (h : Ab w d F nums used steps) (c i x : Nat) (hi : i < 1024) (hq : IntKind.i64.wrap ((c : Int) / 64) = (i : Int))
    (hx : bits .xor .u64 (F.getD i 0 : Nat) ((2 ^ (c % 64) : Nat) : Int) = x) :
    Calls Tryd.prog 59 #[.pointer (some ⟨d, 0, none⟩), .int .i64 (c : Int)] w fun e w' => e = .returned (.tuple #[]) ∧ w' = (w.setCell ⟨d, i, none⟩ (.int .u64 (x : Int))).drew := by
  have hi2 : (i : Int) < 1024 := by omega
  have c0 := h.word i hi
  have f0 := h.free i
  have hbit : ∀ u, Calls Tryd.prog 85 #[.int .i64 (c : Int)] u fun e w' => e = .returned (.int .u64 ((2 ^ (c % 64) : Nat) : Int)) ∧ w' = u := fun u => bit_any c u
  generalize 2 ^ (c % 64) = y at hbit hx
  generalize F.getD i 0 = z at c0 hx
  go_enter Tryd.func59, Tryd.ntmps59
  go_region_with (go_at_call 85; refine (hbit _).mono ?_; rintro e w' ⟨rfl, rfl⟩)
  all_goals go_end0
  all_goals exact ⟨rfl, rfl⟩

/-- turn: a cell's bit is turned. -/
theorem turn_any {w : World} {d : Nat} {F : List Nat} {nums : Value} {used steps : Int} (h : Ab w d F nums used steps) (c : Nat) (hc : c < 65536) :
    Calls Tryd.prog 59 #[.pointer (some ⟨d, 0, none⟩), .int .i64 (c : Int)] w fun e w' => e = .returned (.tuple #[]) ∧ Ab w' d (flip F c) nums used steps ∧ Fr (fun j => j = d) w w' := by
  have hi : c / 64 < 1024 := by omega
  refine (turn_raw h c (c / 64) _ hi (wrap_quo c (by omega)) (bits_xor_u64_nat _ _ (h.2.1 _) (pow_lt64 c))).mono ?_
  rintro e w' ⟨rfl, rfl⟩
  exact ⟨rfl, (h.setWord (c / 64) hi _ (h.flipped c hc)).same rfl, (Fr.setCell (p := ⟨d, c / 64, none⟩) (Fr.refl (fun j => j = d) w) (.inl rfl) _).drew⟩

theorem and_pow (x k : Nat) : ((x &&& 2 ^ k) == 0) = !x.testBit k := by
  cases h : x.testBit k with
  | true =>
    have h1 : (x &&& 2 ^ k).testBit k = true := by rw [Nat.testBit_and, Nat.testBit_two_pow, h]; simp
    have h2 : x &&& 2 ^ k ≠ 0 := fun e => by rw [e] at h1; simp at h1
    simpa using h2
  | false =>
    have h1 : x &&& 2 ^ k = 0 := by
      apply Nat.eq_of_testBit_eq
      intro i
      rw [Nat.testBit_and, Nat.testBit_two_pow, Nat.zero_testBit]
      by_cases hi : k = i
      · subst hi; simp [h]
      · simp [hi]
    simp [h1]
theorem and_bit (x c : Nat) (hx : x < 18446744073709551616) : (bits .and .u64 (x : Int) ((2 ^ (c % 64) : Nat) : Int) == 0) = !x.testBit (c % 64) := by
  rw [bits_and_u64_nat x _ hx (pow_lt64 c), ← and_pow]
  generalize x &&& 2 ^ (c % 64) = y
  cases y <;> rfl

set_option maxRecDepth 100000 in
set_option maxHeartbeats 1000000 in
theorem taken_in {w : World} {d : Nat} {F : List Nat} {used steps : Int} {ao : Option Addr} {n m : Nat} (h : Ab w d F (.slice ao n m) used steps) (c i : Nat) (b : Bool) (hc : c < n) (hi : i < 1024) (hq : IntKind.i64.wrap ((c : Int) / 64) = (i : Int))
    (hx : (bits .and .u64 (F.getD i 0 : Nat) ((2 ^ (c % 64) : Nat) : Int) == 0) = b) :
    Calls Tryd.prog 95 #[.pointer (some ⟨d, 0, none⟩), .int .i64 (c : Int)] w fun e w' => e = .returned (.bool b) ∧ w' = w.drew := by
  have hi2 : (i : Int) < 1024 := by omega
  have c0 := h.word i hi
  obtain ⟨c1, _, _⟩ := h.tail
  have hd : decide ((n : Int) ≤ (c : Int)) = false := by simp; omega
  have hbit : ∀ u, Calls Tryd.prog 85 #[.int .i64 (c : Int)] u fun e w' => e = .returned (.int .u64 ((2 ^ (c % 64) : Nat) : Int)) ∧ w' = u := fun u => bit_any c u
  generalize 2 ^ (c % 64) = y at hbit hx
  generalize F.getD i 0 = z at c0 hx
  go_enter Tryd.func95, Tryd.ntmps95
  go_wp2
  go_region_with (go_at_call 85; refine (hbit _).mono ?_; rintro e w' ⟨rfl, rfl⟩)
  all_goals go_wp2
  all_goals go_ret
  all_goals exact ⟨rfl, rfl⟩

set_option maxHeartbeats 1000000 in
theorem taken_out {w : World} {d : Nat} {F : List Nat} {used steps : Int} {ao : Option Addr} {n m : Nat} (h : Ab w d F (.slice ao n m) used steps) (c : Int) (hc : c < 0 ∨ (n : Int) ≤ c) :
    Calls Tryd.prog 95 #[.pointer (some ⟨d, 0, none⟩), .int .i64 c] w fun e w' => e = .returned (.bool false) ∧ w' = w := by
  obtain ⟨c1, -, -⟩ := h.tail
  by_cases h0 : c < 0
  · clear hc
    go_enter Tryd.func95, Tryd.ntmps95
    go_wp2
    go_ret
    exact ⟨rfl, rfl⟩
  · have h1 : (n : Int) ≤ c := by omega
    have hd0 : decide (c < 0) = false := by simpa using h0
    have hd1 : decide ((n : Int) ≤ c) = true := by simpa using h1
    clear hc
    go_enter Tryd.func95, Tryd.ntmps95
    go_wp2
    go_ret
    exact ⟨rfl, rfl⟩

/-- taken: is a cell in, and its bit not set? -/
def isTaken (F : List Nat) (n : Nat) (c : Int) : Bool := decide (0 ≤ c ∧ c < n) && !bitOf F c.toNat
theorem taken_any {w : World} {d : Nat} {F : List Nat} {used steps : Int} {ao : Option Addr} {n m : Nat} (h : Ab w d F (.slice ao n m) used steps) (hn : n ≤ 65536) (c : Int) :
    Calls Tryd.prog 95 #[.pointer (some ⟨d, 0, none⟩), .int .i64 c] w fun e w' => e = .returned (.bool (isTaken F n c)) ∧ ∃ q, w' = w.drewN q := by
  by_cases hc : 0 ≤ c ∧ c < n
  · obtain ⟨k, rfl⟩ : ∃ k : Nat, c = k := ⟨c.toNat, by omega⟩
    refine (taken_in h k (k / 64) _ (by omega) (by omega) (wrap_quo k (by omega)) (and_bit _ k (h.2.1 _))).mono ?_
    rintro e w' ⟨rfl, rfl⟩
    refine ⟨ret_bool ?_, 1, rfl⟩
    unfold isTaken
    rw [decide_eq_true hc]
    simp [bitOf]
  · refine (taken_out h c (by omega)).mono ?_
    rintro e w' ⟨rfl, rfl⟩
    refine ⟨ret_bool ?_, 0, rfl⟩
    unfold isTaken
    rw [decide_eq_false hc]
    rfl
end Go.Proofs.YtfhcphgjaobnoaaDoor
