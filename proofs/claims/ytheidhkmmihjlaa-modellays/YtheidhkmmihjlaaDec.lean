/-
  The number that begins a list of bytes: plain mathematics.
-/
import Derived.Test.YtheidhkmmihjlaaKit
set_option linter.unusedVariables false
set_option linter.unusedSimpArgs false
namespace Go.Proofs.Ytheidhkmmihjlaa
open Go.RowKit

/-- The number that begins a list of bytes: it, and how many bytes it has. 'i' bytes have gone ahead and said 'acc'. -/
def dec : Nat → Int → List Int → Option (Int × Nat)
  | _, _, [] => none
  | i, acc, x :: r =>
    if 10 ≤ i then none
    else if i = 9 ∧ 1 < x then none
    else if 128 ≤ x then dec (i + 1) (acc + x % 128 * 128 ^ i) r
    else if x = 0 ∧ 0 < i then none
    else some (acc + x % 128 * 128 ^ i, i + 1)

/-- What Take tells of bytes and a place. -/
def tk (xs : List Int) (at_ : Int) : Option (Int × Int) :=
  if at_ < 0 ∨ (xs.length : Int) ≤ at_ then none else (dec 0 0 (xs.drop at_.toNat)).map fun p => (p.1, at_ + p.2)

/-- As the three results. -/
def tkVal : Option (Int × Int) → Value
  | none => .tuple #[.int .u64 0, .int .i64 0, .bool false]
  | some p => .tuple #[.int .u64 p.1, .int .i64 p.2, .bool true]

/-- How far the bytes have been read. -/
def DcK (rest : List Int) (k : Nat) (acc : Int) : Prop := dec 0 0 rest = dec k acc (rest.drop k) ∧ 0 ≤ acc ∧ acc < 128 ^ k

theorem DcK.start (rest : List Int) : DcK rest 0 0 := ⟨rfl, by decide, by decide⟩

theorem drop_getD {rest : List Int} {k : Nat} (h : k < rest.length) : rest.drop k = rest.getD k 0 :: rest.drop (k + 1) := by
  rw [List.drop_eq_getElem_cons h]
  simp [List.getD, List.getElem?_eq_getElem h]

section
variable {rest : List Int} {k : Nat} {acc x : Int}

theorem DcK.more (h : DcK rest k acc) (hk : k < rest.length) (hx : x = rest.getD k 0) (h9 : k < 9) (h128 : 128 ≤ x) (hb : x ≤ 255) : DcK rest (k + 1) (acc + x % 128 * 128 ^ k) := by
  obtain ⟨h1, h2, h3⟩ := h
  refine ⟨?_, ?_, ?_⟩
  · rw [h1, drop_getD hk, ← hx]
    rw [dec, if_neg (by omega), if_neg (by omega), if_pos h128]
  · have : (0 : Int) < 128 ^ k := Int.pow_pos (by decide)
    have h5 : 0 ≤ x % 128 * 128 ^ k := Int.mul_nonneg (by omega) (by omega)
    omega
  · have hp : (0 : Int) < 128 ^ k := Int.pow_pos (by decide)
    have h5 : x % 128 * 128 ^ k ≤ 127 * 128 ^ k := Int.mul_le_mul_of_nonneg_right (by omega) (by omega)
    have h6 : (128 : Int) ^ (k + 1) = 128 ^ k * 128 := Int.pow_succ ..
    omega
theorem DcK.big (h : DcK rest k acc) (hk : k < rest.length) (hx : x = rest.getD k 0) (h9 : k = 9) (h1x : 1 < x) : dec 0 0 rest = none := by
  rw [h.1, drop_getD hk, ← hx, dec, if_neg (by omega), if_pos ⟨h9, h1x⟩]
theorem DcK.zero (h : DcK rest k acc) (hk : k < rest.length) (hx : x = rest.getD k 0) (h9 : k ≤ 9) (h0 : x = 0) (hk0 : 0 < k) : dec 0 0 rest = none := by
  rw [h.1, drop_getD hk, ← hx, dec, if_neg (by omega), if_neg (by omega), if_neg (by omega), if_pos ⟨h0, hk0⟩]
theorem DcK.last (h : DcK rest k acc) (hk : k < rest.length) (hx : x = rest.getD k 0) (h9 : k < 9 ∨ x ≤ 1) (h10 : k ≤ 9) (h128 : x < 128) (h0 : ¬ (x = 0 ∧ 0 < k)) : dec 0 0 rest = some (acc + x % 128 * 128 ^ k, k + 1) := by
  rw [h.1, drop_getD hk, ← hx, dec, if_neg (by omega), if_neg (by omega), if_neg (by omega), if_neg h0]
theorem DcK.short (h : DcK rest k acc) (hk : rest.length ≤ k) : dec 0 0 rest = none := by
  rw [h.1, List.drop_eq_nil_of_le hk, dec]
theorem DcK.ten (h : DcK rest k acc) (hk : 10 ≤ k) : dec 0 0 rest = none := by
  rw [h.1]
  cases rest.drop k with
  | nil => rfl
  | cons y r => rw [dec, if_pos hk]
end

theorem pow128_le {k n : Nat} (h : k ≤ n) : (128 : Int) ^ k ≤ 128 ^ n := by
  have := Nat.pow_le_pow_right (n := 128) (by decide) h
  exact_mod_cast this

/-- What is read is written as just the bytes that were read. -/
theorem dec_spec : ∀ (r : List Int) (i : Nat) (acc n : Int) (k : Nat), Byt r → i ≤ 9 → dec i acc r = some (n, k) →
    ∃ m : Int, n = acc + m * 128 ^ i ∧ i < k ∧ k - i ≤ r.length ∧ encF (9 - i + 1) m = r.take (k - i) ∧ 0 ≤ m ∧ m < 2 * 128 ^ (9 - i) ∧ (0 < i → 1 ≤ m)
  | [], i, acc, n, k, hb, hi, h => by simp [dec] at h
  | x :: r, i, acc, n, k, hb, hi, h => by
    have hx := hb x (List.mem_cons_self ..)
    have hbr : Byt r := fun y hy => hb y (List.mem_cons_of_mem _ hy)
    rw [dec, if_neg (by omega)] at h
    split at h
    · cases h
    rename_i h9
    split at h
    · rename_i h128
      obtain ⟨m', e1, e2, e3, e4, e5, e6, e7⟩ := dec_spec r (i + 1) _ n k hbr (by omega) h
      have hm' := e7 (by omega)
      have ei : 9 - i = 9 - (i + 1) + 1 := by omega
      refine ⟨x % 128 + 128 * m', ?_, by omega, by simp; omega, ?_, by omega, ?_, fun _ => by omega⟩
      · rw [e1, Int.pow_succ, Int.add_mul, Int.add_assoc, show m' * (128 ^ i * 128) = 128 * m' * 128 ^ i from by rw [Int.mul_comm m', Int.mul_assoc, Int.mul_comm (128 ^ i) (128 * m')]]
      · rw [ei, encF, if_neg (by omega), show (x % 128 + 128 * m') / 128 = m' from by omega, e4, show k - i = k - (i + 1) + 1 from by omega, List.take_succ_cons, show (x % 128 + 128 * m') % 128 + 128 = x from by omega]
      · rw [ei, Int.pow_succ]
        omega
    · rename_i h128
      split at h
      · cases h
      rename_i hz
      simp only [Option.some.injEq, Prod.mk.injEq] at h
      obtain ⟨rfl, rfl⟩ := h
      refine ⟨x, by rw [show x % 128 = x from by omega], by omega, by simp, ?_, by omega, ?_, fun _ => by omega⟩
      · rw [encF, if_pos (by omega), show i + 1 - i = 1 from by omega]
        rfl
      · by_cases hi9 : i = 9
        · subst hi9
          simp
          omega
        · have : (128 : Int) ^ 1 ≤ 128 ^ (9 - i) := pow128_le (by omega)
          simp at this
          omega

/-- A number's bytes, whatever is behind them, are read as it. -/
theorem dec_encF : ∀ (f i : Nat) (acc m : Int) (s : List Int), i + f = 9 → 0 ≤ m → m < 2 * 128 ^ f → (0 < i → 1 ≤ m) →
    dec i acc (encF (f + 1) m ++ s) = some (acc + m * 128 ^ i, i + (encF (f + 1) m).length)
  | 0, i, acc, m, s, hi, h0, h1, h2 => by
    have h3 : m < 2 := by simpa using h1
    have e : encF (0 + 1) m = [m] := by rw [encF, if_pos (by omega)]
    rw [e, List.cons_append, dec, if_neg (by omega), if_neg (by omega), if_neg (by omega), if_neg (by omega), show m % 128 = m from by omega]
    rfl
  | f + 1, i, acc, m, s, hi, h0, h1, h2 => by
    have e : encF (f + 1 + 1) m = if m < 128 then [m] else (m % 128 + 128) :: encF (f + 1) (m / 128) := rfl
    by_cases hm : m < 128
    · rw [e, if_pos hm, List.cons_append, dec, if_neg (by omega), if_neg (by omega), if_neg (by omega), if_neg (by omega), show m % 128 = m from by omega]
      rfl
    · have hq : m / 128 < 2 * 128 ^ f := by rw [Int.pow_succ] at h1; omega
      rw [e, if_neg hm, List.cons_append, dec, if_neg (by omega), if_neg (by omega), if_pos (by omega), dec_encF f (i + 1) _ (m / 128) s (by omega) (by omega) hq (by omega)]
      rw [show (m % 128 + 128) % 128 = m % 128 from by omega]
      congr 2
      · have e2 : m * 128 ^ i = (m % 128) * 128 ^ i + (m / 128) * 128 ^ (i + 1) := by
          rw [Int.pow_succ, Int.mul_comm (128 ^ i) 128, ← Int.mul_assoc, ← Int.add_mul]
          congr 1
          omega
        rw [e2, Int.add_assoc]
      · simp; omega

theorem enc_dec (n : Int) (s : List Int) (h0 : 0 ≤ n) (h1 : n ≤ 18446744073709551615) : dec 0 0 (enc n ++ s) = some (n, (enc n).length) := by
  have e : (2 : Int) * 128 ^ 9 = 18446744073709551616 := by decide
  have := dec_encF 9 0 0 n s rfl h0 (by omega) (by omega)
  simpa [enc] using this

/-- What Take tells, if it tells a number. -/
theorem tk_spec {xs : List Int} {at_ n next : Int} (hb : Byt xs) (h : tk xs at_ = some (n, next)) :
    ∃ a b : Nat, at_ = a ∧ next = b ∧ a < b ∧ b ≤ xs.length ∧ 0 ≤ n ∧ n ≤ 18446744073709551615 ∧ enc n = (xs.take b).drop a := by
  unfold tk at h
  split at h
  · cases h
  rename_i hat
  obtain ⟨a, rfl⟩ : ∃ a : Nat, at_ = (a : Int) := ⟨at_.toNat, by omega⟩
  simp only [Int.toNat_natCast, Option.map_eq_some_iff, Prod.mk.injEq, Prod.exists] at h
  obtain ⟨n', k, hd, rfl, rfl⟩ := h
  obtain ⟨m, e1, e2, e3, e4, e5, e6, _⟩ := dec_spec _ 0 0 n' k (hb.drop a) (by omega) hd
  have e9 : (2 : Int) * 128 ^ (9 - 0) = 18446744073709551616 := by decide
  simp only [Int.pow_zero, Int.mul_one, Int.zero_add] at e1
  subst e1
  rw [List.length_drop] at e3
  refine ⟨a, a + k, rfl, by omega, by omega, by omega, e5, by omega, ?_⟩
  have e7 : encF 10 n' = List.take k (List.drop a xs) := e4
  unfold enc
  rw [e7, List.drop_take]
  congr 1
  omega

theorem and127 (x : Int) (h0 : 0 ≤ x) (h1 : x ≤ 255) : bits BinOp.and IntKind.u8 x 127 = x % 128 := by
  rw [u8_and x 127 h0 (by omega) (by decide) (by decide)]
  have key : ∀ a : Fin 256, a.val &&& 127 = a.val % 128 := by decide +kernel
  have := key ⟨x.toNat, by omega⟩
  simp only [] at this
  rw [show (127 : Int).toNat = 127 from rfl, this]
  omega

/-- 'n | x&127 << (7 * i)', where nothing of n lies so high. -/
theorem or_shl (acc x : Int) (k : Nat) (h0 : 0 ≤ acc) (h1 : acc < 128 ^ k) (hx0 : 0 ≤ x) (hx1 : x ≤ 255) (h9 : k < 9 ∨ (k = 9 ∧ x ≤ 1)) :
    bits BinOp.or IntKind.u64 acc (IntKind.u64.wrap (IntKind.u64.wrap (bits BinOp.and IntKind.u8 x 127) * 2 ^ (7 * k))) = acc + x % 128 * 128 ^ k := by
  rw [and127 x hx0 hx1]
  have e7 : (2 : Int) ^ (7 * k) = 128 ^ k := by rw [Int.pow_mul]; rfl
  have eN : ((2 ^ (7 * k) : Nat) : Int) = 128 ^ k := by rw [← e7]; simp
  rw [e7, IntWalk.u64_in (x % 128) (by omega)]
  have hP : (0 : Int) < 128 ^ k := Int.pow_pos (by decide)
  have hle : x % 128 * 128 ^ k ≤ 9223372036854775808 := by
    rcases h9 with h9 | ⟨rfl, h9⟩
    · have h2 : (128 : Int) ^ k ≤ 128 ^ 8 := pow128_le (by omega)
      have h3 : x % 128 * 128 ^ k ≤ 128 * 128 ^ 8 := Int.mul_le_mul (by omega) h2 (by omega) (by decide)
      have h4 : (128 : Int) * 128 ^ 8 = 9223372036854775808 := by decide
      omega
    · have h4 : (128 : Int) ^ 9 = 9223372036854775808 := by decide
      rw [h4]
      omega
  have hnn : 0 ≤ x % 128 * 128 ^ k := Int.mul_nonneg (by omega) (by omega)
  rw [IntWalk.u64_in (x % 128 * 128 ^ k) (by omega)]
  have hacc : acc ≤ 9223372036854775808 := by
    have h2 : (128 : Int) ^ k ≤ 128 ^ 9 := pow128_le (by omega)
    have h4 : (128 : Int) ^ 9 = 9223372036854775808 := by decide
    omega
  rw [u64_or acc _ h0 (by omega) hnn (by omega)]
  have e3 : (x % 128 * 128 ^ k).toNat = 2 ^ (7 * k) * (x % 128).toNat := by
    have : ((2 ^ (7 * k) * (x % 128).toNat : Nat) : Int) = x % 128 * 128 ^ k := by
      rw [Int.natCast_mul, eN, Int.toNat_of_nonneg (by omega), Int.mul_comm]
    omega
  have e4 : acc.toNat ||| (x % 128 * 128 ^ k).toNat = (x % 128 * 128 ^ k).toNat + acc.toNat := by
    rw [e3, Nat.or_comm, Nat.two_pow_add_eq_or_of_lt (by
      have : (acc.toNat : Int) < ((2 ^ (7 * k) : Nat) : Int) := by rw [eN]; omega
      omega)]
  rw [e4]
  omega

end Go.Proofs.Ytheidhkmmihjlaa
