/-
  Plain facts on lists of bytes and on slices of bytes in memory: no program in sight.
-/
import Derived.WalkKit
import Derived.WalkSpells
import Derived.WalkLawsBesides
import Derived.Laws.BytesArg
import Derived.Laws.CopyOwn
import Derived.Laws.AppendOwnNone
import Derived.Lib.AppendStr
set_option linter.unusedVariables false
set_option linter.unusedSimpArgs false
namespace Go.Proofs.Ytheidhkmmihjlaa
open Go.RowKit

theorem addr_add (g off i : Nat) : (⟨g, off, none⟩ : Addr).add i = ⟨g, off + i, none⟩ := by unfold Addr.add; split <;> simp_all

/-! ### Numbers as bytes -/
/-- The bytes of a number, with fuel. -/
def encF : Nat → Int → List Int
  | 0, _ => []
  | f + 1, n => if n < 128 then [n] else (n % 128 + 128) :: encF f (n / 128)
/-- The bytes of a number. -/
def enc (n : Int) : List Int := encF 10 n

end Go.Proofs.Ytheidhkmmihjlaa

/-
  Laws for 'append' of slices and strings onto an own row of bytes: no program in sight.
-/
set_option linter.unusedVariables false
set_option linter.unusedSimpArgs false
namespace Go.Proofs.Ytheidhkmmihjlaa
open Go.RowKit

/-- A string's bytes as numbers. -/
def sb (s : ByteArray) : List Int := s.data.toList.map fun u => (u.toNat : Int)
end Go.Proofs.Ytheidhkmmihjlaa

/-
  The number that begins a list of bytes: plain mathematics.
-/
set_option linter.unusedVariables false
set_option linter.unusedSimpArgs false
namespace Go.Proofs.Ytheidhkmmihjlaa
open Go.RowKit

/-- The number that begins a list of bytes: it, and how many bytes it has. 'i' bytes have gone ahead and said 'acc'. -/
def dec : Nat → Int → List Int → Option (Int × Nat)
  | _, _, [] => none
  | i, acc, x :: r =>
    if 10 ≤ i then none
    else if i = 9 ∧ 1 < x then none
    else if 128 ≤ x then dec (i + 1) (acc + x % 128 * 128 ^ i) r
    else if x = 0 ∧ 0 < i then none
    else some (acc + x % 128 * 128 ^ i, i + 1)

/-- What Take tells of bytes and a place. -/
def tk (xs : List Int) (at_ : Int) : Option (Int × Int) :=
  if at_ < 0 ∨ (xs.length : Int) ≤ at_ then none else (dec 0 0 (xs.drop at_.toNat)).map fun p => (p.1, at_ + p.2)

section
variable {rest : List Int} {k : Nat} {acc x : Int}

end

end Go.Proofs.Ytheidhkmmihjlaa
