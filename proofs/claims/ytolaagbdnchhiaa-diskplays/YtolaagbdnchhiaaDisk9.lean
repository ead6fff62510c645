/-
  What changes of a directory do, one behind the other.
-/
import Derived.Test.YtolaagbdnchhiaaDisk8
set_option linter.unusedVariables false
set_option linter.unusedSimpArgs false
namespace Go.Proofs.Ytolaagbdnchhiaa
open Go.RowKit Go.Maps

/-- A change of a directory. -/
inductive Ch where
  | mk (s : ByteArray) (f : Nat)
  | del (s : ByteArray)
  | ren (s t : ByteArray)

def kl (s : ByteArray) : Lit := .string s.data.toList
def pt (f : Nat) : DataW Value := .held (.pointer (some ⟨f, 0, none⟩))
def no : DataW Value := .held (.pointer none)

def Ch.run : Ch → DataW Value → DataW Value
  | .mk s f, D => D.put (kl s) (pt f)
  | .del s, D => D.del (kl s)
  | .ren s t, D => (D.del (kl s)).put (kl t) (D.atKey (kl s) no)

def runs (l : List Ch) (D : DataW Value) : DataW Value := l.foldl (fun D c => c.run D) D
theorem runs_take (l : List Ch) (k : Nat) (c : Ch) (h : l[k]? = some c) (D : DataW Value) : runs (l.take (k + 1)) D = c.run (runs (l.take k) D) := by
  unfold runs
  rw [List.take_add_one, h]
  simp

def dlCl (n : Nat) : Value := .func (.func 45) #[] #[.pointer (some ⟨n, 0, none⟩)]
def rnCl (n m : Nat) : Value := .func (.func 61) #[] #[.pointer (some ⟨n, 0, none⟩), .pointer (some ⟨m, 0, none⟩)]

/-- A closure that makes this change. -/
def ChAt (w : World) (c : Value) : Ch → Prop
  | .mk s f => ∃ fb nb, c = mkCl fb nb ∧ Box w nb (.string s) 9 ∧ Box w fb (.pointer (some ⟨f, 0, none⟩)) 77 ∧ s.size ≤ 16
  | .del s => ∃ nb, c = dlCl nb ∧ Box w nb (.string s) 9 ∧ s.size ≤ 16
  | .ren s t => ∃ nb mb, c = rnCl nb mb ∧ Box w nb (.string s) 9 ∧ Box w mb (.string t) 9 ∧ s.size ≤ 16 ∧ t.size ≤ 16

/-- All that it needs lies in these blocks. -/
theorem ChAt.same {w w' : World} {c : Value} {ch : Ch} (h : ChAt w c ch) (e : ∀ j v t, Box w j v t → w'.heap[j]? = w.heap[j]?) : ChAt w' c ch := by
  cases ch with
  | mk s f =>
    obtain ⟨fb, nb, rfl, h1, h2, h3⟩ := h
    exact ⟨fb, nb, rfl, (e _ _ _ h1).trans h1, (e _ _ _ h2).trans h2, h3⟩
  | del s =>
    obtain ⟨nb, rfl, h1, h3⟩ := h
    exact ⟨nb, rfl, (e _ _ _ h1).trans h1, h3⟩
  | ren s t =>
    obtain ⟨nb, mb, rfl, h1, h2, h3, h4⟩ := h
    exact ⟨nb, mb, rfl, (e _ _ _ h1).trans h1, (e _ _ _ h2).trans h2, h3, h4⟩

/-- Each name leads to a pointer, or nowhere. -/
def Good (D : DataW Value) : Prop := ∀ s : ByteArray, ∃ p, D.atKey (kl s) no = .held (.pointer p)

theorem act_any {w : World} {b n : Nat} {D : DataW Value} {c : Value} {ch : Ch} (hc : ChAt w c ch) (ho : w.ownsMap Try.prog 9 RV b n D) (hn : n < 1000000) (hg : Good D) :
    ∃ g cb, c = .func (.func g) #[] cb ∧ (∀ args w, (callFunc g args).run Try.prog w = .ok (.enter g args) w) ∧ Calls Try.prog g (#[.map (some b)] ++ cb) w fun e w' => e = .returned (.tuple #[]) ∧
      w'.ownsMap Try.prog 9 RV b (n + 1) (ch.run D) ∧ w.grownBy w' (some b) := by
  have hm : n < maxLen := by unfold maxLen; omega
  cases ch with
  | mk s f =>
    obtain ⟨fb, nb, rfl, h1, h2, h3⟩ := hc
    exact ⟨_, _, rfl, enter_made, made_any ho hm fb nb s _ (by unfold maxLen; omega) h2.cell h1.cell⟩
  | del s =>
    obtain ⟨nb, rfl, h1, h3⟩ := hc
    refine ⟨_, _, rfl, enters_of Try.func45 (by kernel_rfl) rfl, (deleted_any ho nb s (by unfold maxLen; omega) h1.cell).mono ?_⟩
    rintro e w' ⟨rfl, a1, a2⟩
    exact ⟨rfl, a1.mono (by omega), a2⟩
  | ren s t =>
    obtain ⟨nb, mb, rfl, h1, h2, h3, h4⟩ := hc
    obtain ⟨p, hp⟩ := hg s
    refine ⟨_, _, rfl, enters_of Try.func61 (by kernel_rfl) rfl, (renamed_any ho hm nb mb s t (by unfold maxLen; omega) (by unfold maxLen; omega) h1.cell h2.cell p hp (own_not_cells ho h1) (own_not_cells ho h2) h1.lt h2.lt).mono ?_⟩
    rintro e w' ⟨rfl, a1, a2⟩
    refine ⟨rfl, ?_, a2⟩
    show World.ownsMap _ _ _ _ _ _ ((D.del (kl s)).put (kl t) (D.atKey (kl s) no))
    rw [hp]
    exact a1

/-- A row of changes, as a slice. -/
theorem row_slice {w : World} {B : Nat} {v : Value} {k : Nat} {cs : List Value} (h : w.ownsRow B 83 1 v k cs) :
    ∃ ao cap, v = .slice ao k cap ∧ k ≤ cap ∧ cap ≤ maxLen ∧ cs.length = k ∧ (∀ n : Nat, n ≤ k → ∀ u : World, (Instr.slice 59 (.slice ao k cap) none (some (.int .i64 (n : Int))) none).run Try.prog u = .ok (.slice ao n cap) u) ∧
      ∀ j u, cs[j]? = some u → ∃ g, ao = some ⟨g, 0, none⟩ ∧ w.cell? ⟨g, j, none⟩ = some u ∧ g < w.heap.size ∧ v.ownBlock = some g := by
  have hut := Try.underlying59
  have ht' : Try.prog.underlying 59 = some (.slice (Try.prog.elem 59)) := by simp [Program.elem, hut]
  have he : Try.prog.elem 59 = 83 := by simp [Program.elem, hut]
  have hsz : ∀ u : World, (Go.sizeOf 83).run Try.prog u = .ok 1 u := fun u => by kernel_rfl
  have hl := h.1
  rw [Nat.mul_one] at hl
  have hrun : ∀ (ao : Option Addr) (cap : Nat), k ≤ cap → (∀ a, ao = some a → ∃ g, a = ⟨g, 0, none⟩) → ∀ n : Nat, n ≤ k → ∀ u : World, (Instr.slice 59 (.slice ao k cap) none (some (.int .i64 (n : Int))) none).run Try.prog u = .ok (.slice ao n cap) u := fun ao cap hc ha n hn u => by
    rw [run_slice_h u 59 ao k cap ht' .i64 n (by omega) (by omega), he, hsz]
    cases ao with
    | none => simp [Result.andThen, sliced]
    | some a =>
      obtain ⟨g, rfl⟩ := ha a rfl
      simp [Result.andThen, sliced, addr_add]
  rcases h.2 with ⟨rfl, rfl⟩ | ⟨g, cap, cur, rfl, hB, hh, hn, hm, hs, ht⟩
  · refine ⟨none, 0, rfl, Nat.le_refl _, Nat.zero_le _, hl, hrun none 0 (Nat.le_refl _) (fun a e => by cases e), fun j u hj => ?_⟩
    obtain rfl : cs = [] := List.eq_nil_of_length_eq_zero hl
    cases hj
  · refine ⟨some ⟨g, 0, none⟩, cap, rfl, hn, hm, hl, hrun _ cap hn (fun a e => ⟨g, by cases e; rfl⟩), fun j u hj => ⟨g, rfl, ?_, (Array.getElem?_eq_some_iff.1 hh).1, rfl⟩⟩
    have hj' : j < cs.length := (List.getElem?_eq_some_iff.1 hj).1
    rw [Go.Joins.cell_of_block hh, ← Array.getElem?_toList]
    rw [← ht, List.getElem?_take_of_lt (by omega)] at hj
    exact hj
end Go.Proofs.Ytolaagbdnchhiaa
