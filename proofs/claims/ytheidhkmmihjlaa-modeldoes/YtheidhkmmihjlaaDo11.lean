/-
  What PutText and TakeText do.
-/
import Derived.Test.YtheidhkmmihjlaaDo10
import Derived.Test.YtheidhkmmihjlaaDo9
import Derived.ProofKit
import Derived.OpenShut
import Derived.Deep.QuietTactic
import Derived.BigQuiet
set_option linter.unusedVariables false
set_option linter.unusedSimpArgs false
namespace Go.Proofs.Ytheidhkmmihjlaa
open Go.RowKit

/-- What TakeText tells. -/
def tt (xs : List Int) (at_ most : Int) : Option (List Int × Int) :=
  match tk xs at_ with
  | none => none
  | some p => if most < 0 ∨ most < p.1 ∨ (xs.length : Int) - p.2 < p.1 then none else some ((xs.take (p.2 + p.1).toNat).drop p.2.toNat, p.2 + p.1)
end Go.Proofs.Ytheidhkmmihjlaa

/-
  Records as plain data, their bytes, which are right, and how bytes are read: no program in sight.
-/
set_option linter.unusedVariables false
set_option linter.unusedSimpArgs false
namespace Go.Proofs.Ytheidhkmmihjlaa
open Go.RowKit

/-! ### Texts that are below others -/
def slt (a b : ByteArray) : Bool := Op.bytesLess a.toList b.toList

theorem less_flip : ∀ x y : List UInt8, (Op.bytesLess x y || (x == y)) = !Op.bytesLess y x
  | [], [] => rfl
  | [], b :: y => by simp [Op.bytesLess]
  | a :: x, [] => by simp [Op.bytesLess]
  | a :: x, b :: y => by
    have ih := less_flip x y
    by_cases h1 : a < b
    · have h2 : ¬ b < a := UInt8.lt_asymm h1
      have h3 : ¬ b = a := fun e => by subst e; exact UInt8.lt_irrefl _ h1
      have h4 : (b == a) = false := by simpa using h3
      simp [Op.bytesLess, h1, h2, h4]
    · by_cases h2 : b < a
      · have h3 : ¬ a = b := fun e => by subst e; exact UInt8.lt_irrefl _ h2
        have h4 : (a == b) = false := by simpa using h3
        simp [Op.bytesLess, h1, h2, h4, h3]
      · have h3 : a = b := UInt8.le_antisymm (UInt8.not_lt.1 h2) (UInt8.not_lt.1 h1)
        subst h3
        simpa [Op.bytesLess, h1] using ih
theorem slt_flip (a b : ByteArray) : (slt a b || (a.toList == b.toList)) = !slt b a := less_flip _ _
theorem slt_empty (b : ByteArray) : slt ⟨#[]⟩ b = decide (1 ≤ b.size) := by
  unfold slt
  rw [ByteArray.toList_eq, ByteArray.toList_eq]
  have e : b.size = b.data.toList.length := by rw [Array.length_toList]; rfl
  rw [e]
  cases b.data.toList with
  | nil => rfl
  | cons x r => simp [Op.bytesLess]
theorem size_zero {b : ByteArray} (h : b.size = 0) : b = ⟨#[]⟩ := by
  apply ByteArray.ext
  apply Array.toList_inj.1
  have e : b.size = b.data.toList.length := by rw [Array.length_toList]; rfl
  rw [e] at h
  exact List.eq_nil_of_length_eq_zero h

/-! ### The records -/
structure Wr where
  key : ByteArray
  val : ByteArray
  gone : Bool
structure Pr where
  num : Int
  frm : Int
  til : Int
structure Cm where
  time : Int
  ws : List Wr
structure Rw where
  key : ByteArray
  val : ByteArray
  time : Int
structure Gn where
  key : ByteArray
  time : Int
structure Mf where
  time : Int
  log : Int
  ps : List Pr

def isK (s : ByteArray) : Bool := decide (1 ≤ s.size) && decide (s.size ≤ 16)
def isV (s : ByteArray) : Bool := decide (s.size ≤ 64)
def isT (t : Int) : Bool := decide (0 ≤ t) && decide (t ≤ 1099511627775)
def okW (w : Wr) : Bool := isK w.key && isV w.val && (!w.gone || decide (w.val.size = 0))
/-- Writes by rising keys, the first above a text. -/
def upW : ByteArray → List Wr → Bool
  | _, [] => true
  | a, w :: r => okW w && slt a w.key && upW w.key r
def rightC (c : Cm) : Bool := isT c.time && decide (c.ws.length ≤ 64) && upW ⟨#[]⟩ c.ws
def rightR (r : Rw) : Bool := isK r.key && isV r.val && isT r.time
/-! ### Their bytes -/
def tx (s : ByteArray) : List Int := enc s.size ++ sb s
def wb (w : Wr) : List Int := if w.gone then 1 :: tx w.key else 0 :: (tx w.key ++ tx w.val)
def pb (p : Pr) : List Int := enc p.num ++ (enc p.frm ++ enc p.til)
def rb (r : Rw) : List Int := 82 :: (tx r.key ++ (tx r.val ++ enc r.time))
def mb (m : Mf) : List Int := 77 :: (enc m.time ++ (enc m.log ++ (enc m.ps.length ++ m.ps.flatMap pb)))

theorem upW_mem : ∀ (l : List Wr) (a : ByteArray), upW a l = true → ∀ w ∈ l, okW w = true
  | [], a, h, w, hw => by cases hw
  | x :: r, a, h, w, hw => by
    simp only [upW, Bool.and_eq_true] at h
    rcases List.mem_cons.1 hw with rfl | hw
    · exact h.1.1
    · exact upW_mem r x.key h.2 w hw
/-! ### Reading -/
end Go.Proofs.Ytheidhkmmihjlaa
