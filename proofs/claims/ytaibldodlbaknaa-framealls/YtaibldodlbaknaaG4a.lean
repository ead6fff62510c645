/-
  What the document's own Take does.
-/

import Derived.Test.YtaibldodlbaknaaF10
set_option linter.unusedVariables false
set_option linter.unusedSimpArgs false
namespace Go.Proofs.Ytaibldodlbaknaa
open Go.RowKit

/-- What Take does where it stops early. -/
theorem refTake_none (ao : Option Addr) (len cap : Nat) (xs : List Int) (at_ : Int) (w : World) (h : Sl w ao len cap xs) (hlb : len ≤ 140737488355328) (hno : at_ < 0 ∨ ¬ at_ % 32 = 0 ∨ (len : Int) ≤ at_ ∨ (len : Int) - at_ < 32 ∨ xs.getD at_.toNat 0 ≠ 161) :
    Calls Try.prog 16 #[.slice ao len cap, .int .i64 at_] w fun e w' => TkR w xs at_ e w' ∧ Below w.heap.size w w' := by
  have hx := h.1
  have hbyt := h.2.2.2.1
  have ht : Hid (takA xs at_ = none) := by
    unfold Hid takA
    split
    · rename_i hc
      rcases hno with hno | hno | hno | hno | hno
      · omega
      · omega
      · omega
      · exact tak_short (hbyt.drop _) (by simp; omega)
      · refine tak_kind (hbyt.drop _) ?_
        simpa [List.getD, List.getElem?_drop] using hno
    · rfl
  by_cases hn : at_ < 0
  · have hd : decide (at_ < 0) = true := by simpa using hn
    go_enter Try.func16, Try.ntmps16
    go_wp2
    try simp only [Exit.inBlock, Exit.then]
    refine bodyPost_ret (results_tmp4 rfl _ _ _) rfl ?_
    exact ⟨.inr ⟨ht.out, rfl⟩, Below.refl _ _⟩
  obtain ⟨a, rfl⟩ : ∃ a : Nat, at_ = (a : Int) := ⟨at_.toNat, by omega⟩
  have hd1 : decide ((a : Int) < 0) = false := by simp
  by_cases hr : ¬ (a : Int) % 32 = 0
  · have hr1 : ((a : Int) % 32 == 0) = false := by simpa using hr
    have hr2 : ((a : Int) % 32 != 0) = true := by simpa using hr
    go_enter Try.func16, Try.ntmps16
    go_wp2
    try simp only [Exit.inBlock, Exit.then]
    refine bodyPost_ret (results_tmp4 rfl _ _ _) rfl ?_
    exact ⟨.inr ⟨ht.out, rfl⟩, Below.refl _ _⟩
  have hr' : (a : Int) % 32 = 0 := by omega
  have hr1 : ((a : Int) % 32 == 0) = true := by simpa using hr'
  have hr2 : ((a : Int) % 32 != 0) = false := by simpa using hr'
  clear hr
  by_cases hg : len ≤ a
  · have hgi : (len : Int) ≤ (a : Int) := by omega
    have hd2 : decide ((len : Int) ≤ (a : Int)) = true := by simp; omega
    have hd3 : decide (len ≤ a) = true := by simp; omega
    go_enter Try.func16, Try.ntmps16
    go_wp2
    try simp only [Exit.inBlock, Exit.then]
    refine bodyPost_ret (results_tmp4 rfl _ _ _) rfl ?_
    exact ⟨.inr ⟨ht.out, rfl⟩, Below.refl _ _⟩
  have hgi : ¬ (len : Int) ≤ (a : Int) := by omega
  have hd2 : decide ((len : Int) ≤ (a : Int)) = false := by simp; omega
  have hd3 : decide (len ≤ a) = false := by simp; omega
  have hli : (len : Int) ≤ 140737488355328 := by omega
  by_cases hs : (len : Int) - (a : Int) < 32
  · have hd4 : decide ((len : Int) - (a : Int) < 32) = true := by simpa using hs
    go_enter Try.func16, Try.ntmps16
    go_wp2
    try simp only [Exit.inBlock, Exit.then]
    refine bodyPost_ret (results_tmp4 rfl _ _ _) rfl ?_
    exact ⟨.inr ⟨ht.out, rfl⟩, Below.refl _ _⟩
  have hd4 : decide ((len : Int) - (a : Int) < 32) = false := by simpa using hs
  have hk : xs.getD a 0 ≠ 161 := by
    rcases hno with hno | hno | hno | hno | hno
    · omega
    · omega
    · omega
    · omega
    · simpa using hno
  obtain ⟨b, off, rfl, hblt, hcell⟩ := h.2.2.2.2.2 (by omega)
  have hc := hcell a (by omega)
  have hai : (a : Int) < (len : Int) := by omega
  clear hcell h hno hs
  generalize xs.getD a 0 = f at *
  have hf1 : (f == 161) = false := by simpa using hk
  have hf2 : (f != 161) = true := by simpa using hk
  go_enter Try.func16, Try.ntmps16
  go_wp2
  try simp only [Exit.inBlock, Exit.then]
  refine bodyPost_ret (results_tmp4 rfl _ _ _) rfl ?_
  exact ⟨.inr ⟨ht.out, rfl⟩, Below.refl _ _⟩
end Go.Proofs.Ytaibldodlbaknaa
