/-
  Small functions of the library that the log calls: Index, Contains of numbers, TrimPrefix, Equal of bytes; Name.
-/
import Derived.Test.YthfcjfhaoabdeaaGreatDoorRows
import Derived.Test.YthfcjfhaoabdeaaGreatDoorRz9
import Derived.Test.YthfcjfhaoabdeaaGreatDoorRz1
import Derived.Test.YthfcjfhaoabdeaaGreatDoorRz27
import Derived.Lib.AppendIntMem
import Derived.Lib.ItoaLen
set_option linter.unusedVariables false
set_option linter.unusedSimpArgs false
namespace Go.Proofs.YthfcjfhaoabdeaaGreatDoor
open Go.RowKit

theorem hid8 {p : Prop} (h : p) : Hid p := h
theorem ret8 {a b : Bool} (h : a = b) : Ending.returned (.bool a) = .returned (.bool b) := by rw [h]
theorem rets8 {a b : ByteArray} (h : a = b) : Ending.returned (.string a) = .returned (.string b) := by rw [h]
abbrev ic (n : Int) : List Value := [.int .i64 n]

set_option maxRecDepth 100000 in
set_option maxHeartbeats 2000000 in
theorem sIndex_any {w : World} {ao : Option Addr} {len cap : Nat} {ns : List Int} (hs : Seq 1 ic w ao len cap ns) (x : Int) :
    Calls Tryz.prog 132 #[.slice ao len cap, .int .i64 x] w fun e w' => (∃ r : Int, e = .returned (.int .i64 r) ∧ (0 ≤ r ↔ x ∈ ns)) ∧ w' = w := by
  have hcap := hs.2.1
  have hmax := hs.2.2.1
  unfold maxLen at hmax
  go_enter Tryz.func132, Tryz.ntmps132
  go_wp2
  go_loop [8, 5] (fun i _ => ∃ k : Nat, k ≤ len ∧ i = .int .i64 k ∧ Hid (x ∉ ns.take k)) (fun i _ => len - (intOf i).toNat)
  case atStart => exact ⟨0, by omega, rfl, hid8 (by simp)⟩
  case round =>
    obtain ⟨k, hk, rfl, hno⟩ := hrel
    by_cases hkl : k < len
    · obtain ⟨b, off, rfl, hbl, hcell⟩ := hs.2.2.2 (by omega)
      obtain ⟨o, ho⟩ := some_at hs.1 hkl
      have q0 : w.cell? ⟨b, off + k, none⟩ = some (.int .i64 o) := by have := hcell k o ho 0 _ rfl; simpa using this
      have hmem : o ∈ ns := List.mem_of_getElem? ho
      have hk2 : k < ns.length := by rw [hs.1]; exact hkl
      have hat : ns[k] = o := by rw [List.getElem?_eq_getElem hk2] at ho; exact Option.some.inj ho
      have HE : Hid (ns.take (k + 1) = ns.take k ++ [o]) := hid8 (by rw [← List.take_append_getElem hk2, hat])
      have hkl2 : (k : Int) < (len : Int) := by omega
      by_cases hx : x = o
      · subst hx
        have HM : Hid (x ∈ ns) := hid8 hmem
        clear hcell ho hat hmem
        go_wp2
        go_ret
        exact ⟨⟨_, rfl, fun _ => HM.out, fun _ => by omega⟩, rfl⟩
      · have hd : (x == o) = false := by simpa using hx
        have HX := hid8 hx
        clear hcell ho hat
        go_wp2
        go_round
        case rel => exact ⟨k + 1, by omega, by go_num, hid8 (by rw [HE.out]; intro e; rcases List.mem_append.1 e with e | e; exact hno.out e; exact HX.out (by simpa using e))⟩
        case measure => simp [intOf]; omega
    · obtain rfl : k = len := by omega
      have HO : Hid (x ∉ ns) := hid8 (by
        have h := hno.out
        rw [show ns.take k = ns from by rw [← hs.1]; exact List.take_length] at h
        exact h)
      go_wp2
      go_ret
      exact ⟨⟨_, rfl, fun h => absurd h (by decide), fun h => absurd h HO.out⟩, rfl⟩

set_option maxRecDepth 100000 in
theorem sContains_any {w : World} {ao : Option Addr} {len cap : Nat} {ns : List Int} (hs : Seq 1 ic w ao len cap ns) (x : Int) :
    Calls Tryz.prog 76 #[.slice ao len cap, .int .i64 x] w fun e w' => e = .returned (.bool (ns.contains x)) ∧ w' = w := by
  have HI := hid8 (sIndex_any hs x)
  clear hs
  go_enter Tryz.func76, Tryz.ntmps76
  go_wp2_with fail
  refine HI.out.mono ?_
  rintro e w' ⟨⟨r, rfl, hr⟩, rfl⟩
  have HR : Hid (decide (0 ≤ r) = ns.contains x) := hid8 (by
    rw [Bool.eq_iff_iff]
    simpa using hr)
  clear HI hr
  go_wp2
  go_ret
  exact ⟨ret8 HR.out, rfl⟩

/-! ### Bytes -/
set_option maxRecDepth 100000 in
theorem bEqual_any {w : World} {ao bo : Option Addr} {al ac bl bcp : Nat} {xs ys : List Int} (ha : Sl w ao al ac xs) (hb : Sl w bo bl bcp ys) :
    Calls Tryz.prog 134 #[.slice ao al ac, .slice bo bl bcp] w fun e w' => e = .returned (.bool (decide (xs = ys))) ∧ w' = w := by
  have s1 := ha.str (P := Tryz.prog) 82 Tryz.underlying82 Tryz.underlying5 Tryz.underlying9
  have s2 := hb.str (P := Tryz.prog) 82 Tryz.underlying82 Tryz.underlying5 Tryz.underlying9
  have hx := ha.2.2.2.1
  have hy := hb.2.2.2.1
  have H := hid8 (str_eq hx hy)
  clear ha hb hx hy
  go_enter Tryz.func134, Tryz.ntmps134
  go_wp2
  go_ret
  exact ⟨ret8 H.out, rfl⟩

/-! ### The prefix -/
abbrev pfx : ByteArray := ⟨#[108, 111, 103, 45]⟩
set_option maxRecDepth 100000 in
set_option maxHeartbeats 1000000 in
theorem hasPrefix_any (s : ByteArray) (hs : s.size ≤ maxLen) (w : World) :
    Calls Tryz.prog 230 #[.string s, .string pfx] w fun e w' => e = .returned (.bool (decide (4 ≤ s.size) && ((s.extract 0 4).toList == [108, 111, 103, 45]))) ∧ w' = w := by
  unfold maxLen at hs
  by_cases h4 : 4 ≤ s.size
  · have hd : decide ((4 : Int) ≤ (s.size : Int)) = true := by simp; omega
    have h5 : (4 : Int) ≤ (s.size : Int) := by omega
    have e : decide (4 ≤ s.size) = true := by simpa using h4
    rw [e, Bool.true_and]
    go_enter Tryz.func230, Tryz.ntmps230
    go_wp2
    go_ret
    exact ⟨ret8 rfl, rfl⟩
  · have hd : decide ((4 : Int) ≤ (s.size : Int)) = false := by simp; omega
    have e : decide (4 ≤ s.size) = false := by simpa using h4
    rw [e, Bool.false_and]
    go_enter Tryz.func230, Tryz.ntmps230
    go_wp2
    go_ret
    exact ⟨ret8 rfl, rfl⟩
/-- A text without the prefix, if it has it. -/
def trimB (s : ByteArray) : ByteArray := if (decide (4 ≤ s.size) && ((s.extract 0 4).toList == [108, 111, 103, 45])) = true then s.extract 4 s.size else s
set_option maxRecDepth 100000 in
set_option maxHeartbeats 1000000 in
theorem trimPrefix_any (s : ByteArray) (hs : s.size ≤ maxLen) (w : World) :
    Calls Tryz.prog 129 #[.string s, .string pfx] w fun e w' => e = .returned (.string (trimB s)) ∧ w' = w := by
  have HP := hid8 (hasPrefix_any s hs w)
  unfold maxLen at hs
  have hin : Calls Tryz.prog 172 #[.string s, .string pfx] w fun e w' => e = .returned (.string (trimB s)) ∧ w' = w := by
    unfold trimB
    cases hc : (decide (4 ≤ s.size) && ((s.extract 0 4).toList == [108, 111, 103, 45])) with
    | true =>
      have h4 : 4 ≤ s.size := by
        simp only [Bool.and_eq_true, decide_eq_true_eq] at hc
        exact hc.1
      have h5 : (4 : Int) ≤ (s.size : Int) := by omega
      rw [hc] at HP
      clear hc
      rw [if_pos rfl]
      go_enter Tryz.func172, Tryz.ntmps172
      go_wp2_with fail
      refine HP.out.mono ?_
      rintro e w' ⟨rfl, rfl⟩
      clear HP
      go_wp2
      go_ret
      exact ⟨rfl, rfl⟩
    | false =>
      rw [hc] at HP
      clear hc
      rw [if_neg (by decide)]
      go_enter Tryz.func172, Tryz.ntmps172
      go_wp2_with fail
      refine HP.out.mono ?_
      rintro e w' ⟨rfl, rfl⟩
      clear HP
      go_wp2
      go_ret
      exact ⟨rfl, rfl⟩
  clear HP
  have HI := hid8 hin
  clear hin
  go_enter Tryz.func129, Tryz.ntmps129
  go_wp2_with fail
  refine HI.out.mono ?_
  rintro e w' ⟨rfl, rfl⟩
  clear HI
  go_wp2
  go_ret
  exact ⟨rfl, rfl⟩

/-! ### The library's tables and errors; Name -/
/-- They stand, whatever is done from block B on. -/
def Gl (B : Nat) (w : World) : Prop := ∀ w', Below B w w' → Lib.TabIs Tryz.prog w' "internal/strconv.uint64pow10" .u64 Lib.pow10Tab ∧ ∃ te pe, w'.cell? ⟨atoiL_ren.g 15, 0, none⟩ = some (.iface te pe)
theorem Gl.on {B : Nat} {w w' : World} (h : Gl B w) (hb : Below B w w') : Gl B w' := fun w2 h2 => h w2 (hb.trans h2)
theorem Gl.tab {B : Nat} {w : World} (h : Gl B w) : Lib.TabIs Tryz.prog w "internal/strconv.uint64pow10" .u64 Lib.pow10Tab := (h w (Below.refl _ _)).1
def nmL (n : Int) : List UInt8 := [108, 111, 103, 45] ++ Lib.itoa n
def nm8 (n : Int) : ByteArray := ⟨(nmL n).toArray⟩
theorem nm8_eq (n : Int) : pfx ++ (⟨(Lib.itoa n).toArray⟩ : ByteArray) = nm8 n := by
  apply ByteArray.ext
  apply Array.toList_inj.1
  simp [nm8, nmL]
set_option maxRecDepth 100000 in
theorem name_any {B : Nat} {w : World} (hg : Gl B w) (n : Int) (h0 : -9223372036854775808 ≤ n) (h1 : n ≤ 9223372036854775807) :
    Calls Tryz.prog 51 #[.int .i64 n] w fun e w' => e = .returned (.string (nm8 n)) ∧ Below w.heap.size w w' := by
  have HI := hid8 (Any.strconv_Itoa itoaL n h0 h1 w hg.tab)
  have hle : (Lib.itoa n).length ≤ 21 := Lib.itoa_length_le n h0 h1
  have hle2 : ¬ 9223372036854775807 < 4 + (Lib.itoa n).length := by omega
  clear hg
  go_enter Tryz.func51, Tryz.ntmps51
  go_wp2_with fail
  refine HI.out.mono ?_
  rintro e w' ⟨rfl, k, os, rfl⟩
  clear HI
  have hb := Lib.below_grow w.heap.size w (Nat.le_refl _) k os
  generalize Sort.grow (w.drewN k) os = w' at *
  go_wp2
  go_ret
  exact ⟨rets8 (nm8_eq n), hb⟩
end Go.Proofs.YthfcjfhaoabdeaaGreatDoor
