/-
  What the calls of DiskLasts keep.
-/
import Derived.Test.YtolaagbdnchhiaaPlayQ
import Derived.Test.YtolaagbdnchhiaaSee
set_option linter.unusedVariables false
set_option linter.unusedSimpArgs false
namespace Go.Proofs.Ytolaagbdnchhiaa
open Go.RowKit Go.Maps

/-- No two names lead to one file, and there were no more operations than calls. -/
def Q1 (k : Nat) (S : AD) : Prop := S.apart ∧ S.ops ≤ (k : Int)
theorem qp1 (o : OpR) : QP Q1 o where
  idle k S h := ⟨h.1, by have := h.2; omega⟩
  del k S ok h := ⟨apart_del ok h.1 _, by have := h.2; show S.ops + 1 ≤ _; omega⟩
  ren k S f ok h hf := ⟨apart_ren ok h.1 _ _ hf, by have := h.2; show S.ops + 1 ≤ _; omega⟩
  made k S f xs ok h hf := ⟨apart_made ok h.1 _ xs hf, by have := h.2; show S.ops + 1 ≤ _; omega⟩
  grown k S f y xs ok h hf := ⟨h.1, by have := h.2; show S.ops + 1 ≤ _; omega⟩
  synced k S f y ok h hf := ⟨h.1, by have := h.2; show S.ops + 1 ≤ _; omega⟩
  sync k S ok h := ⟨apart_sync ok h.1, by have := h.2; show S.ops + 1 ≤ _; omega⟩

/-- .. and a name that is not touched leads to its file. -/
def Q2 (s0 : ByteArray) (f0 : Nat) (x0 : List Int × Nat) (_ : Nat) (S : AD) : Prop := S.apart ∧ S.keeps s0 f0 x0
theorem qp2 {s0 : ByteArray} {f0 : Nat} {x0 : List Int × Nat} {o : OpR} (h1 : o.name ≠ s0) (h2 : o.to ≠ s0) : QP (Q2 s0 f0 x0) o where
  idle k S h := h
  del k S ok h := ⟨apart_del ok h.1 _, keeps_del ok h.2 h1⟩
  ren k S f ok h hf := ⟨apart_ren ok h.1 _ _ hf, keeps_ren ok h.2 h1 h2 hf⟩
  made k S f xs ok h hf := ⟨apart_made ok h.1 _ xs hf, keeps_made ok h.2 h1 xs hf⟩
  grown k S f y xs ok h hf := ⟨h.1, keeps_grown ok h.1 h.2 h1 y xs hf⟩
  synced k S f y ok h hf := ⟨h.1, keeps_synced ok h.1 h.2 h1 y hf⟩
  sync k S ok h := ⟨apart_sync ok h.1, keeps_sync ok h.2⟩

def lasting : ByteArray := ⟨#[108, 97, 115, 116, 105, 110, 103]⟩
theorem isName_lasting : isName lasting = true := by decide +kernel

/-- Of a file that is synced a crash leaves all. -/
theorem left_synced (ke te : Int) (xs : List Int) : leftOf ke te (xs, xs.length) = xs := by
  unfold leftOf
  have e : ∀ a : Int, shr a (xs.length - xs.length) = 0 := fun a => by
    have := shr_le a (xs.length - xs.length)
    omega
  have e0 : shr te 0 = 0 := by have := shr_le te 0; omega
  rw [e, e0, turnL_zero]
  exact List.take_of_length_le (Nat.le_refl _)

/-- A name that is kept is in the directory that a crash leaves. -/
theorem AD.keeps.crash {S : AD} {s : ByteArray} {f : Nat} {x : List Int × Nat} (h : S.keeps s f x) (di : Int) : To (S.crashDir di) s f := h.1 _ (shr_le di S.chs.length)
end Go.Proofs.Ytolaagbdnchhiaa
