/-
  XmI: The document's example, without memory.
-/
import Derived.Test.YtheidhkmmihjlaaXm9
set_option linter.unusedVariables false
set_option linter.unusedSimpArgs false
namespace Go.Proofs.Ytheidhkmmihjlaa
open ML (Ro Srt nless fstOf)
def bA : ByteArray := ⟨#[97]⟩
def bB : ByteArray := ⟨#[98]⟩
def bX : ByteArray := ⟨#[120]⟩
def bY : ByteArray := ⟨#[121]⟩
def z0 : ByteArray := ⟨#[]⟩
theorem n_ab : nless bA bB = true := by unfold nless bA bB; rw [ByteArray.toList_eq, ByteArray.toList_eq]; rfl
theorem n_ba : nless bB bA = false := by unfold nless bA bB; rw [ByteArray.toList_eq, ByteArray.toList_eq]; rfl
theorem n_aa : nless bA bA = false := ML.nl_irr _
theorem n_bz : nless bB z0 = false := by unfold nless bB z0; rw [ByteArray.toList_eq, ByteArray.toList_eq]; rfl
theorem e_ab : (bA = bB) = False := by simp [bA, bB]
theorem e_ba : (bB = bA) = False := by simp [bA, bB]
def T0 : Ms := ⟨[⟨bA, bX, 5⟩], 5, none⟩
def T1 : Ms := ⟨[⟨bA, bX, 5⟩], 5, some []⟩
def T2 : Ms := ⟨[⟨bA, bX, 5⟩], 5, some [⟨bB, bY, false⟩]⟩
def T3 : Ms := ⟨[⟨bA, bX, 5⟩], 5, some [⟨bA, .empty, true⟩, ⟨bB, bY, false⟩]⟩
def T4 : Ms := ⟨[⟨bB, bY, 6⟩], 6, none⟩
theorem s_z0 : z0.size = 0 := rfl
theorem s_zA : bA.size = 1 := rfl
theorem s_zB : bB.size = 1 := rfl
theorem s_zY : bY.size = 1 := rfl
theorem t1 : stp T0 ⟨2, 0, bA, z0, z0, 0, 0⟩ = (T0, { code := 152 }) := by simp [stp, wrg, fst0, T0]
theorem t2 : stp T0 ⟨1, 1, z0, z0, z0, 0, 0⟩ = (T1, {}) := by simp [stp, wrg, fst0, T0, T1, badM, ans]
theorem t3 : stp T1 ⟨2, 0, bA, z0, z0, 0, 0⟩ = (T1, { val := bX, found := true }) := by simp [stp, wrg, fst0, T1, ans, isK, s_zA, look, wOf, fstOf]
theorem t4 : stp T1 ⟨4, 0, bA, z0, z0, 0, 0⟩ = (T1, { code := 156 }) := by simp [stp, wrg, fst0, T1, ans, isK, isV, s_zA, look, wOf, fstOf, s_z0]
theorem t5 : stp T1 ⟨4, 0, bB, z0, bY, 0, 0⟩ = (T2, {}) := by simp [stp, wrg, fst0, T1, T2, ans, isK, isV, s_zB, s_zY, look, wOf, fstOf, wrt, putW, Ck.put, e_ab]
theorem t6 : stp T2 ⟨6, 0, bA, z0, z0, 0, 0⟩ = (T3, {}) := by simp [stp, wrg, fst0, T2, T3, ans, isK, isV, s_zA, look, wOf, fstOf, wrt, putW, Ck.put, e_ba, n_ba]
theorem t7 : stp T3 ⟨3, 0, z0, z0, z0, 0, 0⟩ = (T3, { rows := [⟨bB, bY, 0⟩] }) := by
  simp [stp, wrg, fst0, T3, ans, badS, s_z0, scn, now, doneW, doneD, zt, n_aa, n_ab, newR, cutK, ins, n_bz]
theorem t8 : stp T3 ⟨11, 0, z0, z0, z0, 0, 0⟩ = (T3, { code := 153 }) := by simp [stp, wrg, fst0, T3]
theorem t9 : stp T3 ⟨7, 0, z0, z0, z0, 0, 0⟩ = (T4, { time := 6 }) := by
  simp [stp, wrg, fst0, T3, T4, ans, cmt, isT, doneW, doneD, n_aa, n_ab, newR, cutK]
end Go.Proofs.Ytheidhkmmihjlaa
