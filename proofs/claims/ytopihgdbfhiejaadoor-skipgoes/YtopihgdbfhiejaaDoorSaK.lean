/-
  A key's array: its first sixteen bytes, noughts behind them, and how many there are.
-/
import Derived.Test.YtopihgdbfhiejaaDoorSa0
import Derived.Lib.BytesEntry
import Derived.Lib.UnsafeStr
set_option linter.unusedVariables false
set_option linter.unusedSimpArgs false
namespace Go.Proofs.YtopihgdbfhiejaaDoor
open Go.RowKit

/-- n bytes of a text, noughts behind them, and one byte more. -/
def padL : Nat → List UInt8 → UInt8 → List UInt8
  | 0, _, x => [x]
  | n + 1, [], x => 0 :: padL n [] x
  | n + 1, a :: xs, x => a :: padL n xs x
theorem padL_length (n : Nat) (a : List UInt8) (x : UInt8) : (padL n a x).length = n + 1 := by
  induction n generalizing a with
  | zero => rfl
  | succ n ih => cases a <;> simp [padL, ih]
theorem padL_nil (n : Nat) (b : List UInt8) {x y : UInt8} (h : x < y) : padL n [] x < padL n b y := by
  induction n generalizing b with
  | zero =>
    show [x] < [y]
    exact List.Lex.rel h
  | succ n ih =>
    cases b with
    | nil => exact List.Lex.cons (ih [])
    | cons z zs =>
      show (0 :: padL n [] x) < (z :: padL n zs y)
      by_cases hz : z = 0
      · subst hz; exact List.Lex.cons (ih zs)
      · refine List.Lex.rel ?_
        have : z.toNat ≠ 0 := fun e => hz (by apply UInt8.toNat_inj.1; simpa using e)
        rw [UInt8.lt_iff_toNat_lt]
        simp
        omega
theorem padL_lt (n : Nat) (a b : List UInt8) {x y : UInt8} (h : a < b) (hl : a.length ≤ n ∨ b.length ≤ n) (hp : a.length < b.length → a <+: b → x < y) : padL n a x < padL n b y := by
  induction n generalizing a b with
  | zero =>
    cases a with
    | nil =>
      cases b with
      | nil => exact absurd h (List.lt_irrefl _)
      | cons z zs => exact List.Lex.rel (hp (by simp) (List.nil_prefix))
    | cons z zs =>
      cases b with
      | nil => exact absurd h (List.not_lt_nil _)
      | cons z2 zs2 => simp at hl
  | succ n ih =>
    cases a with
    | nil =>
      cases b with
      | nil => exact absurd h (List.lt_irrefl _)
      | cons z zs => exact padL_nil (n + 1) (z :: zs) (hp (by simp) (List.nil_prefix))
    | cons z zs =>
      cases b with
      | nil => exact absurd h (List.not_lt_nil _)
      | cons z2 zs2 =>
        show (z :: padL n zs x) < (z2 :: padL n zs2 y)
        rcases List.cons_lt_cons_iff.1 h with h1 | ⟨h1, h2⟩
        · exact List.Lex.rel h1
        · subst h1
          refine List.Lex.cons (ih zs zs2 h2 (by simpa using hl) (fun q1 q2 => hp (by simpa using q1) ?_))
          obtain ⟨t, ht⟩ := q2
          exact ⟨t, by rw [List.cons_append, ht]⟩

/-- A key's array. -/
def KL (k : ByteArray) : List UInt8 := padL 16 (bl k) (UInt8.ofNat (min k.size 17))
theorem KL_length (k : ByteArray) : (KL k).length = 17 := padL_length _ _ _
theorem bl_length (k : ByteArray) : (bl k).length = k.size := by unfold bl; rw [Array.length_toList]; rfl
theorem KL_lt {a b : ByteArray} (hl : a.size ≤ 16 ∨ b.size ≤ 16) (h : Blw a b) : KL a < KL b := by
  refine padL_lt 16 _ _ h (by rw [bl_length, bl_length]; exact hl) (fun h1 _ => ?_)
  rw [bl_length, bl_length] at h1
  rw [UInt8.lt_iff_toNat_lt]
  simp
  omega
theorem KL_iff {a b : ByteArray} (hl : a.size ≤ 16 ∨ b.size ≤ 16) : KL a < KL b ↔ Blw a b := by
  refine ⟨fun h => ?_, KL_lt hl⟩
  rcases Blw.tri a b with q | q | q
  · exact q
  · subst q; exact absurd h (List.lt_irrefl _)
  · exact absurd (List.lt_trans h (KL_lt hl.symm q)) (List.lt_irrefl _)
theorem KL_eq {a b : ByteArray} (hl : a.size ≤ 16 ∨ b.size ≤ 16) : KL a = KL b ↔ a = b := by
  refine ⟨fun h => ?_, fun h => by rw [h]⟩
  rcases Blw.tri a b with q | q | q
  · have := KL_lt hl q; rw [h] at this; exact absurd this (List.lt_irrefl _)
  · exact q
  · have := KL_lt hl.symm q; rw [h] at this; exact absurd this (List.lt_irrefl _)

/-- The entry's comparison. -/
theorem compare_lt (a b : List UInt8) : Lib.compareBytes a b < 0 ↔ a < b := by
  induction a generalizing b with
  | nil =>
    cases b with
    | nil => simp [Lib.compareBytes]
    | cons y ys => simp [Lib.compareBytes]
  | cons x xs ih =>
    cases b with
    | nil => simp [Lib.compareBytes]
    | cons y ys =>
      unfold Lib.compareBytes
      rw [List.cons_lt_cons_iff]
      by_cases h1 : x < y
      · simp [h1]
      · rw [if_neg h1]
        by_cases h2 : y < x
        · rw [if_pos h2]
          have : x ≠ y := fun e => by subst e; exact h1 h2
          simp [h1, this]
        · rw [if_neg h2]
          have : x = y := UInt8.le_antisymm (UInt8.not_lt.1 h2) (UInt8.not_lt.1 h1)
          subst this
          rw [ih]
          simp [h1]

/-- A key's byte. -/
def kb (k : ByteArray) (i : Nat) : Int := (((KL k).getD i 0).toNat : Int)
def kI (k : ByteArray) : List Int := (KL k).map fun b => (b.toNat : Int)
theorem kI_eq (k : ByteArray) : kI k = [kb k 0, kb k 1, kb k 2, kb k 3, kb k 4, kb k 5, kb k 6, kb k 7, kb k 8, kb k 9, kb k 10, kb k 11, kb k 12, kb k 13, kb k 14, kb k 15, kb k 16] := by
  unfold kI kb
  have h := KL_length k
  generalize KL k = l at h ⊢
  rcases l with _ | ⟨a0, _ | ⟨a1, _ | ⟨a2, _ | ⟨a3, _ | ⟨a4, _ | ⟨a5, _ | ⟨a6, _ | ⟨a7, _ | ⟨a8, _ | ⟨a9, _ | ⟨a10, _ | ⟨a11, _ | ⟨a12, _ | ⟨a13, _ | ⟨a14, _ | ⟨a15, _ | ⟨a16, _ | ⟨a17, l⟩⟩⟩⟩⟩⟩⟩⟩⟩⟩⟩⟩⟩⟩⟩⟩⟩⟩ <;> first | (simp at h; done) | rfl | (simp at h)
theorem kb_byte (k : ByteArray) (i : Nat) : 0 ≤ kb k i ∧ kb k i < 256 := by
  unfold kb
  have := ((KL k).getD i 0).toNat_lt
  omega
end Go.Proofs.YtopihgdbfhiejaaDoor
