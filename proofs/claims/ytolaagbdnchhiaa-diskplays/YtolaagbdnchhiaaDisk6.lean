/-
  Read, Ops; an operation without another name; Sync of what is not there.
-/
import Derived.Test.YtolaagbdnchhiaaDisk5
import Derived.Lib.SliceRun
set_option linter.unusedVariables false
set_option linter.unusedSimpArgs false
namespace Go.Proofs.Ytolaagbdnchhiaa
open Go.RowKit Go.Maps

set_option maxHeartbeats 1000000 in
theorem cloneBytes_any {w : World} {ao : Option Addr} {len cap : Nat} {xs : List Int} (hx : Sl w ao len cap xs) (hl : len ≤ 1000000) :
    Calls Try.prog 54 #[.slice ao len cap] w fun e w' => ∃ v, e = .returned v ∧ Own w' w.heap.size v xs ∧ Below w.heap.size w w' := by
  obtain ⟨i0, hi, hz0, hz1, hz2⟩ := info_parts Try.info5
  have hq := Go.Lib.run_eql_slice_nil (P := Try.prog) w 32 5 ao len cap 0 0 Try.underlying32
  cases ao with
  | none =>
    obtain ⟨rfl, rfl⟩ := hx.2.2.2.2.1 rfl
    obtain rfl : xs = [] := List.eq_nil_of_length_eq_zero hx.1
    go_enter Try.func54, Try.ntmps54
    go_wp2
    go_ret
    exact ⟨_, rfl, World.ownsRow_nil _ _ _ _, Below.refl _ _⟩
  | some a =>
    have hb1 : Below w.heap.size w (w.alloc (.cells #[] 5)) := (Below.refl _ _).alloc (Nat.le_refl _) _
    have x1 := hx.below hb1
    have own1 : Own (w.alloc (.cells #[] 5)) w.heap.size (.slice (some ⟨w.heap.size, 0, none⟩) 0 0) [] := ⟨rfl, .inr ⟨w.heap.size, 0, #[], rfl, Nat.le_refl _, heap_alloc_new w _, Nat.le_refl _, Nat.zero_le _, rfl, rfl⟩⟩
    go_enter Try.func54, Try.ntmps54
    go_wp2_with (first
      | (at_builtin
         refine wpList_append_sl rfl _ _ 32 rfl w.heap.size i0 Try.underlying32 hi hz0 hz1 hz2 _ [] rfl own1 _ len cap xs rfl x1 (by simp; omega) (by simp) ?_
         intro v w2 own2 b2
         rw [List.nil_append] at own2
         go_frame)
      | go_in)
    go_ret
    exact ⟨v, rfl, own2, hb1.trans b2⟩

set_option maxHeartbeats 1000000 in
theorem read_ok {w : World} {d : Nat} {mb : Option Nat} {syn since : Value} {ops cutAt : Int} {cuts : Bool} {D : DataW Value} (h : Dk w d (.map mb) syn since ops cutAt cuts false) (hd : Dir w mb D)
    (s : ByteArray) (hn : isName s = true) (f sy : Nat) (hl : Leads D s (some ⟨f, 0, none⟩)) (ao : Option Addr) (len cap : Nat) (xs : List Int) (hf : Fl w f (.slice ao len cap) sy) (hx : Sl w ao len cap xs) (hlen : len ≤ 1000000) :
    Calls Try.prog 22 #[.pointer (some ⟨d, 0, none⟩), .string s] w fun e w' => ∃ v, e = .returned (.tuple #[v, .int .i64 0]) ∧ Own w' w.heap.size v xs ∧ Below w.heap.size w w' := by
  obtain ⟨c0, c1, c2, c3, c4, c5, c6⟩ := h.cells
  have hfind := find_some h hd s hn _ hl
  have hcl := cloneBytes_any hx hlen
  have cf := hf.cells.1
  go_enter Try.func22, Try.ntmps22
  go_wp2_with fail
  refine hfind.mono ?_
  rintro e w' ⟨rfl, rfl⟩
  go_wp2_with fail
  refine hcl.mono ?_
  rintro e w' ⟨v, rfl, own, hb⟩
  go_wp2
  go_ret2
  exact ⟨v, rfl, own, hb⟩

set_option maxHeartbeats 1000000 in
theorem ops_any {w : World} {d : Nat} {now syn since : Value} {ops cutAt : Int} {cuts gone : Bool} (h : Dk w d now syn since ops cutAt cuts gone) :
    Calls Try.prog 26 #[.pointer (some ⟨d, 0, none⟩)] w fun e w' => e = .returned (.int .i64 ops) ∧ w' = w := by
  obtain ⟨c0, c1, c2, c3, c4, c5, c6⟩ := h.cells
  go_enter Try.func26, Try.ntmps26
  go_wp2
  go_ret
  exact ⟨rfl, rfl⟩

set_option maxHeartbeats 1000000 in
/-- With no name, and power. -/
theorem start_none {w : World} {d : Nat} {now syn since : Value} {ops cutAt : Int} {cuts gone : Bool} (h : Dk w d now syn since ops cutAt cuts gone) (hon : On ops cutAt cuts gone) :
    Calls Try.prog 46 #[.pointer (some ⟨d, 0, none⟩), .slice none 0 0] w fun e w' => e = .returned (.int .i64 0) ∧ ∃ q, w' = w.drewN q := by
  obtain ⟨rfl, hcut⟩ := hon
  have ha : ∀ q, Calls Try.prog 64 #[.slice none 0 0] (w.drewN q) fun e w' => e = .returned (.bool true) ∧ w' = w.drewN q := fun q => areNone_any (w.drewN q)
  obtain ⟨c0, c1, c2, c3, c4, c5, c6⟩ := h.cells
  have fr := h.free
  cases cuts with
  | false =>
    go_enter Try.func46, Try.ntmps46
    go_wp2
    go_quiet (fail)
    go_wp2_with (go_at_call 64; refine (ha _).mono ?_; rintro e w' ⟨rfl, rfl⟩)
    go_ret
    exact ⟨rfl, _, rfl⟩
  | true =>
    have hlt : ops < cutAt := by simpa using hcut
    have hd0 : decide (cutAt ≤ ops) = false := by simp; omega
    clear hcut
    go_enter Try.func46, Try.ntmps46
    go_wp2
    go_quiet (fail)
    go_wp2_with (go_at_call 64; refine (ha _).mono ?_; rintro e w' ⟨rfl, rfl⟩)
    go_ret
    exact ⟨rfl, _, rfl⟩

set_option maxHeartbeats 1000000 in
theorem startOn_none {w : World} {d : Nat} {mb : Option Nat} {syn since : Value} {ops cutAt : Int} {cuts gone : Bool} {D : DataW Value} (h : Dk w d (.map mb) syn since ops cutAt cuts gone) (hon : On ops cutAt cuts gone) (hd : Dir w mb D)
    (s : ByteArray) (hn : isName s = true) (hl : Leads D s none) :
    Calls Try.prog 42 #[.pointer (some ⟨d, 0, none⟩), .string s, .slice none 0 0] w fun e w' => e = .returned (.int .i64 21) ∧ ∃ q, w' = w.drewN q := by
  have hst := start_none h hon
  have hfind : ∀ q, Calls Try.prog 53 #[.pointer (some ⟨d, 0, none⟩), .string s] (w.drewN q) fun e w' => e = .returned (.tuple #[.pointer none, .int .i64 21]) ∧ w' = w.drewN q := fun q =>
    find_none (w := w.drewN q) (h.same rfl) (Dir.same hd fun _ _ => rfl) s hn hl
  go_enter Try.func42, Try.ntmps42
  go_wp2_with fail
  refine hst.mono ?_
  rintro e w' ⟨rfl, q, rfl⟩
  go_wp2_with fail
  refine (hfind q).mono ?_
  rintro e w' ⟨rfl, rfl⟩
  go_wp2
  go_ret
  exact ⟨rfl, _, rfl⟩

set_option maxHeartbeats 1000000 in
theorem sync_none {w : World} {d : Nat} {mb : Option Nat} {syn since : Value} {ops cutAt : Int} {cuts gone : Bool} {D : DataW Value} (h : Dk w d (.map mb) syn since ops cutAt cuts gone) (hon : On ops cutAt cuts gone) (hd : Dir w mb D)
    (s : ByteArray) (hn : isName s = true) (hl : Leads D s none) :
    Calls Try.prog 19 #[.pointer (some ⟨d, 0, none⟩), .string s] w fun e w' => e = .returned (.int .i64 21) ∧ ∃ q, w' = w.drewN q := by
  have hst := startOn_none h hon hd s hn hl
  go_enter Try.func19, Try.ntmps19
  go_wp2_with fail
  refine hst.mono ?_
  rintro e w' ⟨rfl, q, rfl⟩
  go_wp2
  go_ret
  exact ⟨rfl, _, rfl⟩
end Go.Proofs.Ytolaagbdnchhiaa
