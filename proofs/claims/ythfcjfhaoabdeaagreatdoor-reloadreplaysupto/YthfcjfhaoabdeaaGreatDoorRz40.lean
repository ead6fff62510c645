/-
  How an operation begins: the names, the power, the file.
-/
import Derived.Test.YthfcjfhaoabdeaaGreatDoorRz38
import Derived.Shelf.RegionOpen
import Derived.Shelf.Abstract
import Derived.Maps.OwnSet
import Derived.Shelf.SlMaps.Copy
import Derived.Lib.SmallJoins
set_option linter.unusedVariables false
set_option linter.unusedSimpArgs false
namespace Go.Proofs.YthfcjfhaoabdeaaGreatDoor
open Go.RowKit

set_option maxHeartbeats 400000 in
theorem notName_any (s : ByteArray) (w : World) (hs : s.size ≤ maxLen) :
    Calls Tryz.prog 264 #[.string s] w fun e w' => e = .returned (.bool (!isName s)) ∧ w' = w := by
  go_enter Tryz.func264, Tryz.ntmps264
  go_wp2_with (go_at_call 156; refine (isName_any _ _ hs).mono ?_; rintro e w' ⟨rfl, rfl⟩)
  go_ret
  exact ⟨rfl, rfl⟩

set_option maxHeartbeats 400000 in
theorem indexNone_any (fv : Value) (w : World) :
    Calls Tryz.prog 276 #[.slice none 0 0, fv] w fun e w' => e = .returned (.int .i64 (-1)) ∧ w' = w := by
  go_enter Tryz.func276, Tryz.ntmps276
  go_wp2
  go_loop [8, 5] (fun i _ => i = .int .i64 0) (fun _ _ => 0)
  case atStart => rfl
  case round =>
    subst hrel
    go_wp2
    go_ret
    exact ⟨rfl, rfl⟩

theorem ret_int {k : IntKind} {a b : Int} (h : a = b) : Ending.returned (.int k a) = .returned (.int k b) := by rw [h]

set_option maxHeartbeats 400000 in
theorem indexOne_any (b c : Nat) (s : ByteArray) (w : World) (hs : s.size ≤ maxLen) (hc : w.cell? ⟨b, 0, none⟩ = some (.string s)) (x : Int) (hx : x = if isName s then -1 else 0) :
    Calls Tryz.prog 276 #[.slice (some ⟨b, 0, none⟩) 1 c, .func (.func 264) #[] #[]] w fun e w' => e = .returned (.int .i64 x) ∧ w' = w := by
  have HX := hide2 hx
  clear hx
  have hcall := notName_any s w hs
  go_enter Tryz.func276, Tryz.ntmps276
  cases hn : isName s with
  | true =>
    rw [hn] at hcall
    have HX2 : Hid (x = -1) := by have := HX.out; rw [hn] at this; exact this
    clear HX
    go_wp2
    go_loop [8, 5] (fun i _ => ∃ k : Nat, k ≤ 1 ∧ i = .int .i64 (k : Int)) (fun i _ => (1 - intOf i).toNat)
    case atStart => exact ⟨0, by omega, rfl⟩
    case round =>
      obtain ⟨k, hk, rfl⟩ := hrel
      by_cases h0 : k = 0
      · subst h0
        go_wp2_with fail
        refine hcall.mono ?_
        rintro e w' ⟨rfl, rfl⟩
        go_wp2
        go_round
        case rel => exact ⟨1, by omega, rfl⟩
        case measure => simp [intOf]
      · obtain rfl : k = 1 := by omega
        go_wp2
        go_ret
        exact ⟨ret_int HX2.out.symm, rfl⟩
  | false =>
    rw [hn] at hcall
    have HX2 : Hid (x = 0) := by have := HX.out; rw [hn] at this; exact this
    clear HX
    go_wp2
    go_loop [8, 5] (fun i _ => i = .int .i64 0) (fun _ _ => 0)
    case atStart => rfl
    case round =>
      subst hrel
      go_wp2_with fail
      refine hcall.mono ?_
      rintro e w' ⟨rfl, rfl⟩
      go_wp2
      go_ret
      exact ⟨ret_int HX2.out.symm, rfl⟩

theorem areNone_any (w : World) : Calls Tryz.prog 236 #[.slice none 0 0] w fun e w' => e = .returned (.bool true) ∧ w' = w := by
  have hcon : ∀ fv, Calls Tryz.prog 263 #[.slice none 0 0, fv] w fun e w' => e = .returned (.bool false) ∧ w' = w := by
    intro fv
    go_enter Tryz.func263, Tryz.ntmps263
    go_wp2_with (go_at_call 276; refine (indexNone_any _ _).mono ?_; rintro e w' ⟨rfl, rfl⟩)
    go_ret
    exact ⟨rfl, rfl⟩
  go_enter Tryz.func236, Tryz.ntmps236
  go_wp2_with (go_at_call 263; refine (hcon _).mono ?_; rintro e w' ⟨rfl, rfl⟩)
  go_ret
  exact ⟨rfl, rfl⟩

theorem areOne_any (b c : Nat) (s : ByteArray) (w : World) (hs : s.size ≤ maxLen) (hc : w.cell? ⟨b, 0, none⟩ = some (.string s)) :
    Calls Tryz.prog 236 #[.slice (some ⟨b, 0, none⟩) 1 c] w fun e w' => e = .returned (.bool (isName s)) ∧ w' = w := by
  have hcon : Calls Tryz.prog 263 #[.slice (some ⟨b, 0, none⟩) 1 c, .func (.func 264) #[] #[]] w fun e w' => e = .returned (.bool (!isName s)) ∧ w' = w := by
    have hi := indexOne_any b c s w hs hc _ rfl
    go_enter Tryz.func263, Tryz.ntmps263
    cases hn : isName s with
    | true =>
      rw [hn] at hi
      go_wp2_with (go_at_call 276; refine hi.mono ?_; rintro e w' ⟨rfl, rfl⟩)
      go_ret
      exact ⟨rfl, rfl⟩
    | false =>
      rw [hn] at hi
      go_wp2_with (go_at_call 276; refine hi.mono ?_; rintro e w' ⟨rfl, rfl⟩)
      go_ret
      exact ⟨rfl, rfl⟩
  go_enter Tryz.func236, Tryz.ntmps236
  go_wp2_with (go_at_call 263; refine hcon.mono ?_; rintro e w' ⟨rfl, rfl⟩)
  go_ret
  exact ⟨by simp, rfl⟩
end Go.Proofs.YthfcjfhaoabdeaaGreatDoor

/-
  The disk in memory: its cells, its directories; how an operation begins.
-/
set_option linter.unusedVariables false
set_option linter.unusedSimpArgs false
namespace Go.Proofs.YthfcjfhaoabdeaaGreatDoor
open Go.RowKit Go.Maps

/-- A directory's files are read as the pointers that they are. -/
def RV (v : Value) : Option (DataW Value × List MemPlace) := some (.held v, [])

theorem dirKeyed : Keyed Tryz.prog 9 := string_keyed Tryz.underlying9

/-- A map, or none, that reads as D. -/
abbrev Dir (w : World) (mb : Option Nat) (D : DataW Value) : Prop := SrcOf Tryz.prog 9 RV w mb D

/-- What a name leads to. -/
abbrev Leads (D : DataW Value) (s : ByteArray) (p : Option Addr) : Prop := D.atKey (.string s.data.toList) (.held (.pointer none)) = .held (.pointer p)

theorem key_str (s : ByteArray) (hs : s.size ≤ maxLen) : keyOf Tryz.prog 9 (.string s) = some (.string s.data.toList) := by simp [keyOf, Tryz.underlying9, mapKey, hs]

theorem Dir.look {w : World} {mb : Option Nat} {D : DataW Value} (h : Dir w mb D) (s : ByteArray) (hs : s.size ≤ maxLen) (p : Option Addr) (hl : Leads D s p) :
    (Instr.lookup 74 (.map mb) (.string s) false).run Tryz.prog w = .ok (.pointer p) w := by
  have hz : (zeroValue 141).run Tryz.prog w = .ok (.pointer none) w := Tryz.zeroValue141 w
  rcases h with ⟨rfl, rfl⟩ | ⟨b, n, rfl, ho⟩
  · have := Maps.look_nil (P := Tryz.prog) (w := w) false dirKeyed Tryz.underlying74 hz (key_str s hs)
    simp only [Leads, DataW.atKey] at hl
    cases hl
    simpa using this
  · obtain ⟨v, ps, hrun, hR⟩ := ho.lookup dirKeyed Tryz.underlying74 hz (zd := .held (.pointer none)) (zp := []) rfl (key_str s hs)
    rw [hrun]
    simp only [RV, Option.some.injEq, Prod.mk.injEq] at hR
    rw [hl] at hR
    cases hR.1
    rfl

theorem Dir.len {w : World} {mb : Option Nat} {D : DataW Value} (h : Dir w mb D) (ty : TypeId) : (Builtin.len_ #[74] ty #[.map mb]).run Tryz.prog w = .ok (.int .i64 (Maps.size D)) w := by
  rcases h with ⟨rfl, rfl⟩ | ⟨b, n, rfl, ho⟩
  · have := Maps.len_nil (P := Tryz.prog) (w := w) Tryz.underlying74 ty
    simpa [Maps.size] using this
  · exact ho.len Tryz.underlying74 ty

/-- The disk's own cells. -/
def Dk (w : World) (d : Nat) (now syn since : Value) (ops cutAt : Int) (cuts gone : Bool) : Prop :=
  w.heap[d]? = some (.cells #[now, syn, since, .int .i64 ops, .bool cuts, .int .i64 cutAt, .bool gone] 77 (0, 0))

section
variable {w w' : World} {d : Nat} {now syn since : Value} {ops cutAt : Int} {cuts gone : Bool}
theorem Dk.lt (h : Dk w d now syn since ops cutAt cuts gone) : d < w.heap.size := (Array.getElem?_eq_some_iff.1 h).1
theorem Dk.cells (h : Dk w d now syn since ops cutAt cuts gone) : w.cell? ⟨d, 0, none⟩ = some now ∧ w.cell? ⟨d, 1, none⟩ = some syn ∧ w.cell? ⟨d, 2, none⟩ = some since ∧ w.cell? ⟨d, 3, none⟩ = some (.int .i64 ops) ∧
    w.cell? ⟨d, 4, none⟩ = some (.bool cuts) ∧ w.cell? ⟨d, 5, none⟩ = some (.int .i64 cutAt) ∧ w.cell? ⟨d, 6, none⟩ = some (.bool gone) := by
  unfold Dk at h
  refine ⟨?_, ?_, ?_, ?_, ?_, ?_, ?_⟩ <;> (rw [Go.Joins.cell_of_block h]; rfl)
theorem Dk.free (h : Dk w d now syn since ops cutAt cuts gone) (i : Nat) : w.frozen? ⟨d, i, none⟩ = false := Go.Joins.unfrozen_of_block h i
theorem Dk.same (h : Dk w d now syn since ops cutAt cuts gone) (e : w'.heap[d]? = w.heap[d]?) : Dk w' d now syn since ops cutAt cuts gone := e.trans h
theorem Dk.set (h : Dk w d now syn since ops cutAt cuts gone) :
    (∀ v, Dk (w.setCell ⟨d, 0, none⟩ v) d v syn since ops cutAt cuts gone) ∧ (∀ v, Dk (w.setCell ⟨d, 1, none⟩ v) d now v since ops cutAt cuts gone) ∧
    (∀ v, Dk (w.setCell ⟨d, 2, none⟩ v) d now syn v ops cutAt cuts gone) ∧ (∀ n, Dk (w.setCell ⟨d, 3, none⟩ (.int .i64 n)) d now syn since n cutAt cuts gone) ∧
    (∀ x, Dk (w.setCell ⟨d, 4, none⟩ (.bool x)) d now syn since ops cutAt x gone) ∧ (∀ n, Dk (w.setCell ⟨d, 5, none⟩ (.int .i64 n)) d now syn since ops n cuts gone) ∧
    (∀ x, Dk (w.setCell ⟨d, 6, none⟩ (.bool x)) d now syn since ops cutAt cuts x) := by
  unfold Dk at *
  refine ⟨?_, ?_, ?_, ?_, ?_, ?_, ?_⟩ <;> (intro v; rw [Go.Joins.block_setCell h]; rfl)
end

set_option maxHeartbeats 400000 in
theorem worn_any {w : World} {d : Nat} {now syn since : Value} {ops cutAt : Int} {cuts gone : Bool} (h : Dk w d now syn since ops cutAt cuts gone) :
    Calls Tryz.prog 181 #[.pointer (some ⟨d, 0, none⟩)] w fun e w' => e = .returned (.bool (decide (65536 ≤ ops))) ∧ w' = w := by
  obtain ⟨c0, c1, c2, c3, c4, c5, c6⟩ := h.cells
  go_enter Tryz.func181, Tryz.ntmps181
  go_wp2
  go_ret
  exact ⟨rfl, rfl⟩

set_option maxHeartbeats 400000 in
theorem find_bad {w : World} {p : Value} (s : ByteArray) (hs : s.size ≤ maxLen) (hn : isName s = false) :
    Calls Tryz.prog 116 #[p, .string s] w fun e w' => e = .returned (.tuple #[.pointer none, .int .i64 20]) ∧ w' = w := by
  have hc := isName_any s w hs
  rw [hn] at hc
  go_enter Tryz.func116, Tryz.ntmps116
  go_wp2_with (go_at_call 156; refine hc.mono ?_; rintro e w' ⟨rfl, rfl⟩)
  go_ret2
  exact ⟨rfl, rfl⟩

set_option maxHeartbeats 400000 in
theorem find_none {w : World} {d : Nat} {mb : Option Nat} {syn since : Value} {ops cutAt : Int} {cuts gone : Bool} {D : DataW Value} (h : Dk w d (.map mb) syn since ops cutAt cuts gone) (hd : Dir w mb D)
    (s : ByteArray) (hn : isName s = true) (hl : Leads D s none) :
    Calls Tryz.prog 116 #[.pointer (some ⟨d, 0, none⟩), .string s] w fun e w' => e = .returned (.tuple #[.pointer none, .int .i64 21]) ∧ w' = w := by
  have hz := isName_size hn
  have hs : s.size ≤ maxLen := by unfold maxLen; omega
  have hc := isName_any s w hs
  rw [hn] at hc
  have hlook := hd.look s hs none hl
  obtain ⟨c0, c1, c2, c3, c4, c5, c6⟩ := h.cells
  go_enter Tryz.func116, Tryz.ntmps116
  go_wp2_with (go_at_call 156; refine hc.mono ?_; rintro e w' ⟨rfl, rfl⟩)
  go_ret2
  exact ⟨rfl, rfl⟩

set_option maxHeartbeats 400000 in
theorem find_some {w : World} {d : Nat} {mb : Option Nat} {syn since : Value} {ops cutAt : Int} {cuts gone : Bool} {D : DataW Value} (h : Dk w d (.map mb) syn since ops cutAt cuts gone) (hd : Dir w mb D)
    (s : ByteArray) (hn : isName s = true) (a : Addr) (hl : Leads D s (some a)) :
    Calls Tryz.prog 116 #[.pointer (some ⟨d, 0, none⟩), .string s] w fun e w' => e = .returned (.tuple #[.pointer (some a), .int .i64 0]) ∧ w' = w := by
  have hz := isName_size hn
  have hs : s.size ≤ maxLen := by unfold maxLen; omega
  have hc := isName_any s w hs
  rw [hn] at hc
  have hlook := hd.look s hs (some a) hl
  obtain ⟨c0, c1, c2, c3, c4, c5, c6⟩ := h.cells
  go_enter Tryz.func116, Tryz.ntmps116
  go_wp2_with (go_at_call 156; refine hc.mono ?_; rintro e w' ⟨rfl, rfl⟩)
  go_ret2
  exact ⟨rfl, rfl⟩

/-- No power is cut here. -/
def On (ops cutAt : Int) (cuts gone : Bool) : Prop := gone = false ∧ (cuts = false ∨ ops < cutAt)

set_option maxHeartbeats 1000000 in
/-- With one name, and power. -/
theorem start_one {w : World} {d : Nat} {now syn since : Value} {ops cutAt : Int} {cuts gone : Bool} (h : Dk w d now syn since ops cutAt cuts gone) (hon : On ops cutAt cuts gone)
    (b c : Nat) (s : ByteArray) (hs : s.size ≤ maxLen) (hc : w.cell? ⟨b, 0, none⟩ = some (.string s)) (x : Int) (hx : x = if isName s then 0 else 20) :
    Calls Tryz.prog 180 #[.pointer (some ⟨d, 0, none⟩), .slice (some ⟨b, 0, none⟩) 1 c] w fun e w' => e = .returned (.int .i64 x) ∧ ∃ q, w' = w.drewN q := by
  have HX := hide2 hx
  clear hx
  obtain ⟨rfl, hcut⟩ := hon
  have ha : ∀ q, Calls Tryz.prog 236 #[.slice (some ⟨b, 0, none⟩) 1 c] (w.drewN q) fun e w' => e = .returned (.bool (isName s)) ∧ w' = w.drewN q := fun q => areOne_any b c s (w.drewN q) hs hc
  obtain ⟨c0, c1, c2, c3, c4, c5, c6⟩ := h.cells
  have fr := h.free
  cases cuts with
  | false =>
    go_enter Tryz.func180, Tryz.ntmps180
    go_wp2
    go_quiet (fail)
    cases hn : isName s with
    | true =>
      have HX2 : Hid (x = 0) := by have := HX.out; rw [hn] at this; exact this
      clear HX
      rw [hn] at ha
      go_wp2_with (go_at_call 236; refine (ha _).mono ?_; rintro e w' ⟨rfl, rfl⟩)
      go_ret
      exact ⟨ret_int HX2.out.symm, _, rfl⟩
    | false =>
      have HX2 : Hid (x = 20) := by have := HX.out; rw [hn] at this; exact this
      clear HX
      rw [hn] at ha
      go_wp2_with (go_at_call 236; refine (ha _).mono ?_; rintro e w' ⟨rfl, rfl⟩)
      go_ret
      exact ⟨ret_int HX2.out.symm, _, rfl⟩
  | true =>
    have hlt : ops < cutAt := by simpa using hcut
    have hd0 : decide (cutAt ≤ ops) = false := by simp; omega
    clear hcut
    go_enter Tryz.func180, Tryz.ntmps180
    go_wp2
    go_quiet (fail)
    cases hn : isName s with
    | true =>
      have HX2 : Hid (x = 0) := by have := HX.out; rw [hn] at this; exact this
      clear HX
      rw [hn] at ha
      go_wp2_with (go_at_call 236; refine (ha _).mono ?_; rintro e w' ⟨rfl, rfl⟩)
      go_ret
      exact ⟨ret_int HX2.out.symm, _, rfl⟩
    | false =>
      have HX2 : Hid (x = 20) := by have := HX.out; rw [hn] at this; exact this
      clear HX
      rw [hn] at ha
      go_wp2_with (go_at_call 236; refine (ha _).mono ?_; rintro e w' ⟨rfl, rfl⟩)
      go_ret
      exact ⟨ret_int HX2.out.symm, _, rfl⟩
end Go.Proofs.YthfcjfhaoabdeaaGreatDoor
