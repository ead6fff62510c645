/-
  CRC-32 of a list of bytes: plain mathematics.
-/
import Derived.Test.YtbpihkojmbfccaaDoorKit
set_option linter.unusedVariables false
set_option linter.unusedSimpArgs false
namespace Go.Proofs.YtbpihkojmbfccaaDoor
open Go.RowKit

/-- One bit's step. -/
def cs (c : Nat) : Nat := if c % 2 = 1 then (c / 2) ^^^ 3988292384 else c / 2
/-- So many bits' steps. -/
def csK : Nat → Nat → Nat
  | 0, c => c
  | k + 1, c => cs (csK k c)
/-- One byte's step. -/
def cb (c : Nat) (x : Int) : Nat := csK 8 (c ^^^ x.toNat)
/-- The steps of bytes. -/
def cl (c : Nat) (xs : List Int) : Nat := xs.foldl cb c
/-- The sum. -/
def crc (xs : List Int) : Nat := cl 4294967295 xs ^^^ 4294967295

theorem cs_lt {c : Nat} (h : c < 4294967296) : cs c < 4294967296 := by
  unfold cs
  split
  · have : (c / 2) ^^^ 3988292384 < 2 ^ 32 := Nat.xor_lt_two_pow (by omega) (by decide)
    omega
  · omega
theorem csK_lt {c : Nat} (h : c < 4294967296) : ∀ k, csK k c < 4294967296
  | 0 => h
  | k + 1 => cs_lt (csK_lt h k)
theorem xor_lt {a b : Nat} (h : a < 4294967296) (k : b < 4294967296) : a ^^^ b < 4294967296 := by
  have : a ^^^ b < 2 ^ 32 := Nat.xor_lt_two_pow (by omega) (by omega)
  omega
theorem cb_lt {c : Nat} {x : Int} (h : c < 4294967296) (hx : x ≤ 255) : cb c x < 4294967296 := csK_lt (xor_lt h (by omega)) 8
theorem cl_lt : ∀ {xs : List Int} {c : Nat}, c < 4294967296 → Byt xs → cl c xs < 4294967296
  | [], c, h, _ => h
  | x :: xs, c, h, hb => cl_lt (xs := xs) (cb_lt h (hb x (List.mem_cons_self ..)).2) fun y hy => hb y (List.mem_cons_of_mem _ hy)
theorem cl_append (c : Nat) (xs ys : List Int) : cl c (xs ++ ys) = cl (cl c xs) ys := by simp [cl, List.foldl_append]
theorem cl_snoc (c : Nat) (xs : List Int) (x : Int) : cl c (xs ++ [x]) = cb (cl c xs) x := by simp [cl]
theorem cl_take (c : Nat) (xs : List Int) (k : Nat) (h : k < xs.length) : cl c (xs.take (k + 1)) = cb (cl c (xs.take k)) (xs.getD k 0) := by
  rw [List.take_succ_eq_append_getElem h, cl_snoc]
  simp [List.getD, List.getElem?_eq_getElem h]

/-- A step is one to one: the highest bit tells which bit fell. -/
theorem xor_cancel {a b c : Nat} (h : a ^^^ c = b ^^^ c) : a = b := by
  have := congrArg (· ^^^ c) h
  simpa [Nat.xor_assoc] using this
theorem xor_cancel' {a b c : Nat} (h : c ^^^ a = c ^^^ b) : a = b := by
  rw [Nat.xor_comm c a, Nat.xor_comm c b] at h
  exact xor_cancel h
theorem top_set {a : Nat} (h : a < 2147483648) : 2147483648 ≤ a ^^^ 3988292384 := by
  have h1 : (a ^^^ 3988292384).testBit 31 = true := by
    rw [Nat.testBit_xor]
    have : a.testBit 31 = false := Nat.testBit_lt_two_pow (by omega)
    rw [this]
    decide
  exact Nat.ge_two_pow_of_testBit h1
theorem cs_inj {a b : Nat} (ha : a < 4294967296) (hb : b < 4294967296) (h : cs a = cs b) : a = b := by
  unfold cs at h
  split at h <;> split at h
  · have := xor_cancel h
    omega
  · have := top_set (a := a / 2) (by omega)
    omega
  · have := top_set (a := b / 2) (by omega)
    omega
  · omega
theorem csK_inj {a b : Nat} (ha : a < 4294967296) (hb : b < 4294967296) : ∀ k, csK k a = csK k b → a = b
  | 0, h => h
  | k + 1, h => csK_inj ha hb k (cs_inj (csK_lt ha k) (csK_lt hb k) h)
theorem cb_inj {a b : Nat} {x : Int} (ha : a < 4294967296) (hb : b < 4294967296) (hx : x ≤ 255) (h : cb a x = cb b x) : a = b :=
  xor_cancel (csK_inj (xor_lt ha (by omega)) (xor_lt hb (by omega)) 8 h)
theorem cb_inj' {c : Nat} {x y : Int} (hc : c < 4294967296) (hx0 : 0 ≤ x) (hy0 : 0 ≤ y) (hx : x ≤ 255) (hy : y ≤ 255) (h : cb c x = cb c y) : x = y := by
  have := xor_cancel' (csK_inj (xor_lt hc (by omega)) (xor_lt hc (by omega)) 8 h)
  omega
theorem cl_inj : ∀ {xs : List Int} {a b : Nat}, Byt xs → a < 4294967296 → b < 4294967296 → cl a xs = cl b xs → a = b
  | [], a, b, _, _, _, h => h
  | x :: xs, a, b, hx, ha, hb, h => by
    have hx1 := (hx x (List.mem_cons_self ..)).2
    exact cb_inj ha hb hx1 (cl_inj (xs := xs) (fun y hy => hx y (List.mem_cons_of_mem _ hy)) (cb_lt ha hx1) (cb_lt hb hx1) h)
/-- One byte that is turned turns the sum. -/
theorem crc_turns {xs ys : List Int} {x y : Int} (hx : Byt xs) (hy : Byt ys) (hx0 : 0 ≤ x) (hy0 : 0 ≤ y) (hx1 : x ≤ 255) (hy1 : y ≤ 255) (hne : x ≠ y) : crc (xs ++ x :: ys) ≠ crc (xs ++ y :: ys) := by
  intro h
  have h1 := xor_cancel h
  rw [cl_append, cl_append] at h1
  have hc : cl 4294967295 xs < 4294967296 := cl_lt (by decide) hx
  have h2 := cl_inj (xs := ys) (a := cb (cl 4294967295 xs) x) (b := cb (cl 4294967295 xs) y) hy (cb_lt hc hx1) (cb_lt hc hy1) h1
  exact hne (cb_inj' hc hx0 hy0 hx1 hy1 h2)

/-! ### The machine's operations -/
theorem xor32 (c : Nat) (x : Int) (h : c < 4294967296) (hx0 : 0 ≤ x) (hx1 : x ≤ 4294967295) : bits BinOp.xor IntKind.u32 (c : Int) x = ((c ^^^ x.toNat : Nat) : Int) := by
  rw [u32_xor (c : Int) x (by omega) (by omega) hx0 (by omega), Int.toNat_natCast]
theorem and32 (c : Nat) (h : c < 4294967296) : bits BinOp.and IntKind.u32 (c : Int) 1 = (c : Int) % 2 := by
  rw [u32_and (c : Int) 1 (by omega) (by omega) (by decide) (by decide), Int.toNat_natCast, show (1 : Int).toNat = 1 from rfl, Nat.and_one_is_mod]
  omega
theorem cs_odd (c : Nat) (h : c < 4294967296) (ho : c % 2 = 1) : bits BinOp.xor IntKind.u32 ((c : Int) / 2) 3988292384 = ((cs c : Nat) : Int) := by
  have e : (c : Int) / 2 = ((c / 2 : Nat) : Int) := by omega
  rw [e, xor32 (c / 2) 3988292384 (by omega) (by decide) (by decide)]
  unfold cs
  rw [if_pos ho]
  rfl
theorem cs_even (c : Nat) (ho : ¬ c % 2 = 1) : (c : Int) / 2 = ((cs c : Nat) : Int) := by
  unfold cs
  rw [if_neg ho]
  omega

end Go.Proofs.YtbpihkojmbfccaaDoor
