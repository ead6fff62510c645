/-
  Read of every kind, Poke.
-/
import Derived.Test.YtolaagbdnchhiaaLCrash2
set_option linter.unusedVariables false
set_option linter.unusedSimpArgs false
namespace Go.Proofs.Ytolaagbdnchhiaa.Land
open Go.RowKit Go.Maps

section
variable {w w' : World} {K : Nat → Prop} {d : Nat} {P : PD} {cutAt : Int} {cuts gone : Bool} {syn since : Value} {mb : Option Nat} {ops : Int} {D : DataW Value}
theorem read_bad (h : Dk w d (.map mb) syn since ops cutAt cuts false) (s : ByteArray) (hs : s.size ≤ maxLen) (hn : isName s = false) :
    Calls Try.prog 22 #[.pointer (some ⟨d, 0, none⟩), .string s] w fun e w' => e = .returned (.tuple #[.slice none 0 0, .int .i64 20]) ∧ w' = w := by
  obtain ⟨c0, c1, c2, c3, c4, c5, c6⟩ := h.cells
  have hfind := find_bad (w := w) (p := .pointer (some ⟨d, 0, none⟩)) s hs hn
  clear h
  go_enter Try.func22, Try.ntmps22
  go_wp2_with fail
  refine hfind.mono ?_
  rintro e w' ⟨rfl, rfl⟩
  go_wp2
  go_ret2
  exact ⟨rfl, rfl⟩
theorem read_none (h : Dk w d (.map mb) syn since ops cutAt cuts false) (hd : Dir w mb D) (s : ByteArray) (hn : isName s = true) (hl : Leads D s none) :
    Calls Try.prog 22 #[.pointer (some ⟨d, 0, none⟩), .string s] w fun e w' => e = .returned (.tuple #[.slice none 0 0, .int .i64 21]) ∧ w' = w := by
  obtain ⟨c0, c1, c2, c3, c4, c5, c6⟩ := h.cells
  have hfind := find_none h hd s hn hl
  clear h
  go_enter Try.func22, Try.ntmps22
  go_wp2_with fail
  refine hfind.mono ?_
  rintro e w' ⟨rfl, rfl⟩
  go_wp2
  go_ret2
  exact ⟨rfl, rfl⟩

theorem poke_bad (h : Dk w d (.map mb) syn since ops cutAt cuts gone) (s : ByteArray) (hs : s.size ≤ maxLen) (hn : isName s = false) (at0 b : Int) :
    Calls Try.prog 37 #[.pointer (some ⟨d, 0, none⟩), .string s, .int .i64 at0, .int .u8 b] w fun e w' => e = .returned (.int .i64 20) ∧ w' = w := by
  have hfind := find_bad (w := w) (p := .pointer (some ⟨d, 0, none⟩)) s hs hn
  clear h
  go_enter Try.func37, Try.ntmps37
  go_wp2_with fail
  refine hfind.mono ?_
  rintro e w' ⟨rfl, rfl⟩
  go_wp2
  go_ret
  exact ⟨rfl, rfl⟩
theorem poke_none (h : Dk w d (.map mb) syn since ops cutAt cuts gone) (hd : Dir w mb D) (s : ByteArray) (hn : isName s = true) (hl : Leads D s none) (at0 b : Int) :
    Calls Try.prog 37 #[.pointer (some ⟨d, 0, none⟩), .string s, .int .i64 at0, .int .u8 b] w fun e w' => e = .returned (.int .i64 21) ∧ w' = w := by
  have hfind := find_none h hd s hn hl
  clear h
  go_enter Try.func37, Try.ntmps37
  go_wp2_with fail
  refine hfind.mono ?_
  rintro e w' ⟨rfl, rfl⟩
  go_wp2
  go_ret
  exact ⟨rfl, rfl⟩
theorem poke_arg (h : Dk w d (.map mb) syn since ops cutAt cuts gone) (hd : Dir w mb D) (s : ByteArray) (hn : isName s = true) (f sy : Nat) (hl : Leads D s (some ⟨f, 0, none⟩)) (ao : Option Addr) (len cap : Nat) (hf : Fl w f (.slice ao len cap) sy) (at0 b : Int) (ha : at0 < 0 ∨ (len : Int) ≤ at0) :
    Calls Try.prog 37 #[.pointer (some ⟨d, 0, none⟩), .string s, .int .i64 at0, .int .u8 b] w fun e w' => e = .returned (.int .i64 2) ∧ ∃ q, w' = w.drewN q := by
  have hfind := find_some h hd s hn _ hl
  have cf := hf.cells.1
  clear h
  go_enter Try.func37, Try.ntmps37
  go_wp2_with fail
  refine hfind.mono ?_
  rintro e w' ⟨rfl, rfl⟩
  by_cases h0 : at0 < 0
  · go_wp2
    go_ret
    exact ⟨rfl, 0, rfl⟩
  · have h1 : (len : Int) ≤ at0 := by omega
    have h2 : decide (at0 < 0) = false := by simpa using h0
    go_wp2
    go_ret
    exact ⟨rfl, 0, rfl⟩
theorem poke_ok (h : Dk w d (.map mb) syn since ops cutAt cuts gone) (hd : Dir w mb D) (s : ByteArray) (hn : isName s = true) (f sy : Nat) (hl : Leads D s (some ⟨f, 0, none⟩)) (g len cap : Nat) (ys : List Int) (hf : Fl w f (.slice (some ⟨g, 0, none⟩) len cap) sy) (hown : Own w 0 (.slice (some ⟨g, 0, none⟩) len cap) ys) (k : Nat) (hk : k < len) (hlen : len ≤ 262144) (b : Int) :
    Calls Try.prog 37 #[.pointer (some ⟨d, 0, none⟩), .string s, .int .i64 (k : Int), .int .u8 b] w fun e w' => e = .returned (.int .i64 0) ∧ ∃ q, w' = (w.drewN q).setCell ⟨g, k, none⟩ (.int .u8 b) := by
  have hfind := find_some h hd s hn _ hl
  have cf := hf.cells.1
  have e0 : len = ys.length := by
    rcases Go.Joins.ownsRow_forms hown with ⟨e, _⟩ | ⟨g', cap', e⟩
    · cases e
    · cases e; rfl
  have fz : w.frozen? ⟨g, k, none⟩ = false := by
    rw [e0] at hown
    exact World.ownsRow.frozenAt hown k
  have cc : (w.cell? ⟨g, k, none⟩).isSome = true := by
    rw [e0] at hown
    have hk2 : k < (bc ys).length := by rw [bc_length]; omega
    rw [World.ownsRow.cellAt hown k (by omega), List.getElem?_eq_getElem hk2]
    rfl
  obtain ⟨c, hc⟩ := Option.isSome_iff_exists.1 cc
  clear h hown cc
  go_enter Try.func37, Try.ntmps37
  go_wp2_with fail
  refine hfind.mono ?_
  rintro e w' ⟨rfl, rfl⟩
  have h1 : ¬ ((k : Int) < 0) := by omega
  have h3 : ¬ ((len : Int) ≤ (k : Int)) := by omega
  have h2 : decide ((k : Int) < 0) = false := by simp
  have h4 : decide ((len : Int) ≤ (k : Int)) = false := by simpa using hk
  go_wp2
  go_ret
  exact ⟨rfl, 0, rfl⟩
end
end Go.Proofs.Ytolaagbdnchhiaa.Land
