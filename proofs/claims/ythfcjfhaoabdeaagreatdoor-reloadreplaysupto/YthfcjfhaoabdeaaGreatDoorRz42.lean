/-
  Read, Ops; an operation without another name; Sync of what is not there.
-/
import Derived.Test.YthfcjfhaoabdeaaGreatDoorRz41
import Derived.Lib.SliceRun
set_option linter.unusedVariables false
set_option linter.unusedSimpArgs false
namespace Go.Proofs.YthfcjfhaoabdeaaGreatDoor
open Go.RowKit Go.Maps

set_option maxHeartbeats 1000000 in
theorem cloneBytes_any {w : World} {ao : Option Addr} {len cap : Nat} {xs : List Int} (hx : Sl w ao len cap xs) (hl : len ≤ 1000000) :
    Calls Tryz.prog 117 #[.slice ao len cap] w fun e w' => ∃ v, e = .returned v ∧ Own w' w.heap.size v xs ∧ Below w.heap.size w w' := by
  obtain ⟨i0, hi, hz0, hz1, hz2⟩ := info_parts Tryz.info5
  have hq := Go.Lib.run_eql_slice_nil (P := Tryz.prog) w 82 5 ao len cap 0 0 Tryz.underlying82
  cases ao with
  | none =>
    obtain ⟨rfl, rfl⟩ := hx.2.2.2.2.1 rfl
    obtain rfl : xs = [] := List.eq_nil_of_length_eq_zero hx.1
    go_enter Tryz.func117, Tryz.ntmps117
    go_wp2
    go_ret
    exact ⟨_, rfl, World.ownsRow_nil _ _ _ _, Below.refl _ _⟩
  | some a =>
    have hb1 : Below w.heap.size w (w.alloc (.cells #[] 5)) := (Below.refl _ _).alloc (Nat.le_refl _) _
    have x1 := hx.below hb1
    have own1 : Own (w.alloc (.cells #[] 5)) w.heap.size (.slice (some ⟨w.heap.size, 0, none⟩) 0 0) [] := ⟨rfl, .inr ⟨w.heap.size, 0, #[], rfl, Nat.le_refl _, heap_alloc_new w _, Nat.le_refl _, Nat.zero_le _, rfl, rfl⟩⟩
    go_enter Tryz.func117, Tryz.ntmps117
    go_wp2_with (first
      | (at_builtin
         refine wpList_append_sl rfl _ _ 82 rfl w.heap.size i0 Tryz.underlying82 hi hz0 hz1 hz2 _ [] rfl own1 _ len cap xs rfl x1 (by simp; omega) (by simp) ?_
         intro v w2 own2 b2
         rw [List.nil_append] at own2
         go_frame)
      | go_in)
    go_ret
    exact ⟨v, rfl, own2, hb1.trans b2⟩

set_option maxHeartbeats 1000000 in
theorem read_ok {w : World} {d : Nat} {mb : Option Nat} {syn since : Value} {ops cutAt : Int} {cuts : Bool} {D : DataW Value} (h : Dk w d (.map mb) syn since ops cutAt cuts false) (hd : Dir w mb D)
    (s : ByteArray) (hn : isName s = true) (f sy : Nat) (hl : Leads D s (some ⟨f, 0, none⟩)) (ao : Option Addr) (len cap : Nat) (xs : List Int) (hf : Fl w f (.slice ao len cap) sy) (hx : Sl w ao len cap xs) (hlen : len ≤ 1000000) :
    Calls Tryz.prog 67 #[.pointer (some ⟨d, 0, none⟩), .string s] w fun e w' => ∃ v, e = .returned (.tuple #[v, .int .i64 0]) ∧ Own w' w.heap.size v xs ∧ Below w.heap.size w w' := by
  obtain ⟨c0, c1, c2, c3, c4, c5, c6⟩ := h.cells
  have hfind := find_some h hd s hn _ hl
  have hcl := cloneBytes_any hx hlen
  have cf := hf.cells.1
  go_enter Tryz.func67, Tryz.ntmps67
  go_wp2_with fail
  refine hfind.mono ?_
  rintro e w' ⟨rfl, rfl⟩
  go_wp2_with fail
  refine hcl.mono ?_
  rintro e w' ⟨v, rfl, own, hb⟩
  go_wp2
  go_ret2
  exact ⟨v, rfl, own, hb⟩

set_option maxHeartbeats 1000000 in
/-- With no name, and power. -/
theorem start_none {w : World} {d : Nat} {now syn since : Value} {ops cutAt : Int} {cuts gone : Bool} (h : Dk w d now syn since ops cutAt cuts gone) (hon : On ops cutAt cuts gone) :
    Calls Tryz.prog 180 #[.pointer (some ⟨d, 0, none⟩), .slice none 0 0] w fun e w' => e = .returned (.int .i64 0) ∧ ∃ q, w' = w.drewN q := by
  obtain ⟨rfl, hcut⟩ := hon
  have ha : ∀ q, Calls Tryz.prog 236 #[.slice none 0 0] (w.drewN q) fun e w' => e = .returned (.bool true) ∧ w' = w.drewN q := fun q => areNone_any (w.drewN q)
  obtain ⟨c0, c1, c2, c3, c4, c5, c6⟩ := h.cells
  have fr := h.free
  cases cuts with
  | false =>
    go_enter Tryz.func180, Tryz.ntmps180
    go_wp2
    go_quiet (fail)
    go_wp2_with (go_at_call 236; refine (ha _).mono ?_; rintro e w' ⟨rfl, rfl⟩)
    go_ret
    exact ⟨rfl, _, rfl⟩
  | true =>
    have hlt : ops < cutAt := by simpa using hcut
    have hd0 : decide (cutAt ≤ ops) = false := by simp; omega
    clear hcut
    go_enter Tryz.func180, Tryz.ntmps180
    go_wp2
    go_quiet (fail)
    go_wp2_with (go_at_call 236; refine (ha _).mono ?_; rintro e w' ⟨rfl, rfl⟩)
    go_ret
    exact ⟨rfl, _, rfl⟩

end Go.Proofs.YthfcjfhaoabdeaaGreatDoor

/-
  How an operation on a file that must be there begins; and without power.
-/
set_option linter.unusedVariables false
set_option linter.unusedSimpArgs false
namespace Go.Proofs.YthfcjfhaoabdeaaGreatDoor
open Go.RowKit Go.Maps

/-- What such an operation answers, 0 where it is done. -/
def code (names : Bool) (p : Option Addr) (ops : Int) : Int := if names = false then 20 else if p = none then 21 else if 65536 ≤ ops then 23 else 0
theorem code_full {a : Addr} {ops : Int} (h : 65536 ≤ ops) : code true (some a) ops = 23 := by simp [code, h]
theorem code_ok {a : Addr} {ops : Int} (h : ops < 65536) : code true (some a) ops = 0 := by
  have : ¬ 65536 ≤ ops := by omega
  simp [code, this]
theorem code_zero {nm : Bool} {p : Option Addr} {ops : Int} (h : code nm p ops = 0) : nm = true ∧ (∃ a, p = some a) ∧ ops < 65536 := by
  unfold code at h
  cases nm with
  | false => simp at h
  | true =>
    cases p with
    | none => simp at h
    | some a =>
      by_cases e : 65536 ≤ ops
      · simp [e] at h
      · exact ⟨rfl, ⟨a, rfl⟩, by omega⟩

set_option maxHeartbeats 1000000 in
theorem startOn_gen {w : World} {d : Nat} {mb : Option Nat} {syn since : Value} {ops cutAt : Int} {cuts gone : Bool} {D : DataW Value} (h : Dk w d (.map mb) syn since ops cutAt cuts gone) (hd : Dir w mb D)
    (s : ByteArray) (hs : s.size ≤ maxLen) (p : Option Addr) (hl : Leads D s p) (nv : Value) (nm : Bool) (x0 : Int) (hx0 : x0 = if nm then 0 else 20)
    (hst : Calls Tryz.prog 180 #[.pointer (some ⟨d, 0, none⟩), nv] w fun e w' => e = .returned (.int .i64 x0) ∧ ∃ q, w' = w.drewN q) (x : Int) (hx : x = code (nm && isName s) p ops) :
    Calls Tryz.prog 235 #[.pointer (some ⟨d, 0, none⟩), .string s, nv] w fun e w' => e = .returned (.int .i64 x) ∧ ∃ q, w' = w.drewN q := by
  cases nm with
  | false =>
    obtain rfl : x0 = 20 := hx0
    obtain rfl : x = 20 := hx
    go_enter Tryz.func235, Tryz.ntmps235
    go_wp2_with fail
    refine hst.mono ?_
    rintro e w' ⟨rfl, q, rfl⟩
    go_wp2
    go_ret
    exact ⟨rfl, _, rfl⟩
  | true =>
    obtain rfl : x0 = 0 := hx0
    rw [Bool.true_and] at hx
    cases hn : isName s with
    | false =>
      rw [hn] at hx
      obtain rfl : x = 20 := hx
      have hfind : ∀ q, Calls Tryz.prog 116 #[.pointer (some ⟨d, 0, none⟩), .string s] (w.drewN q) fun e w' => e = .returned (.tuple #[.pointer none, .int .i64 20]) ∧ w' = w.drewN q := fun q => find_bad s hs hn
      go_enter Tryz.func235, Tryz.ntmps235
      go_wp2_with fail
      refine hst.mono ?_
      rintro e w' ⟨rfl, q, rfl⟩
      go_wp2_with fail
      refine (hfind q).mono ?_
      rintro e w' ⟨rfl, rfl⟩
      go_wp2
      go_ret
      exact ⟨rfl, _, rfl⟩
    | true =>
      rw [hn] at hx
      cases p with
      | none =>
        obtain rfl : x = 21 := hx
        have hfind : ∀ q, Calls Tryz.prog 116 #[.pointer (some ⟨d, 0, none⟩), .string s] (w.drewN q) fun e w' => e = .returned (.tuple #[.pointer none, .int .i64 21]) ∧ w' = w.drewN q := fun q =>
          find_none (w := w.drewN q) (h.same rfl) (Dir.same hd fun _ _ => rfl) s hn hl
        go_enter Tryz.func235, Tryz.ntmps235
        go_wp2_with fail
        refine hst.mono ?_
        rintro e w' ⟨rfl, q, rfl⟩
        go_wp2_with fail
        refine (hfind q).mono ?_
        rintro e w' ⟨rfl, rfl⟩
        go_wp2
        go_ret
        exact ⟨rfl, _, rfl⟩
      | some a =>
        have hfind : ∀ q, Calls Tryz.prog 116 #[.pointer (some ⟨d, 0, none⟩), .string s] (w.drewN q) fun e w' => e = .returned (.tuple #[.pointer (some a), .int .i64 0]) ∧ w' = w.drewN q := fun q =>
          find_some (w := w.drewN q) (h.same rfl) (Dir.same hd fun _ _ => rfl) s hn a hl
        have hworn : ∀ q, Calls Tryz.prog 181 #[.pointer (some ⟨d, 0, none⟩)] (w.drewN q) fun e w' => e = .returned (.bool (decide (65536 ≤ ops))) ∧ w' = w.drewN q := fun q => worn_any (w := w.drewN q) (h.same rfl)
        by_cases ho : 65536 ≤ ops
        · rw [code_full ho] at hx
          subst hx
          have e1 : decide (65536 ≤ ops) = true := by simpa using ho
          rw [e1] at hworn
          clear e1
          go_enter Tryz.func235, Tryz.ntmps235
          go_wp2_with fail
          refine hst.mono ?_
          rintro e w' ⟨rfl, q, rfl⟩
          go_wp2_with fail
          refine (hfind q).mono ?_
          rintro e w' ⟨rfl, rfl⟩
          go_wp2_with fail
          refine (hworn q).mono ?_
          rintro e w' ⟨rfl, rfl⟩
          go_wp2
          go_ret
          exact ⟨rfl, _, rfl⟩
        · rw [code_ok (by omega)] at hx
          subst hx
          have e1 : decide (65536 ≤ ops) = false := by simpa using ho
          rw [e1] at hworn
          clear e1
          go_enter Tryz.func235, Tryz.ntmps235
          go_wp2_with fail
          refine hst.mono ?_
          rintro e w' ⟨rfl, q, rfl⟩
          go_wp2_with fail
          refine (hfind q).mono ?_
          rintro e w' ⟨rfl, rfl⟩
          go_wp2_with fail
          refine (hworn q).mono ?_
          rintro e w' ⟨rfl, rfl⟩
          go_wp2
          go_ret
          exact ⟨rfl, _, rfl⟩

theorem startOn_on0 {w : World} {d : Nat} {mb : Option Nat} {syn since : Value} {ops cutAt : Int} {cuts gone : Bool} {D : DataW Value} (h : Dk w d (.map mb) syn since ops cutAt cuts gone) (hon : On ops cutAt cuts gone) (hd : Dir w mb D)
    (s : ByteArray) (hs : s.size ≤ maxLen) (p : Option Addr) (hl : Leads D s p) :
    Calls Tryz.prog 235 #[.pointer (some ⟨d, 0, none⟩), .string s, .slice none 0 0] w fun e w' => e = .returned (.int .i64 (code (isName s) p ops)) ∧ ∃ q, w' = w.drewN q :=
  startOn_gen h hd s hs p hl _ true 0 rfl (start_none h hon) _ (by rw [Bool.true_and])

set_option maxHeartbeats 1000000 in
/-- Sync. -/
theorem sync_err {w : World} {d : Nat} {mb : Option Nat} {syn since : Value} {ops cutAt : Int} {cuts gone : Bool} {D : DataW Value} (h : Dk w d (.map mb) syn since ops cutAt cuts gone) (hon : On ops cutAt cuts gone) (hd : Dir w mb D)
    (s : ByteArray) (hs : s.size ≤ maxLen) (p : Option Addr) (hl : Leads D s p) (x : Int) (hx : x = code (isName s) p ops) (hne : x ≠ 0) :
    Calls Tryz.prog 179 #[.pointer (some ⟨d, 0, none⟩), .string s] w fun e w' => e = .returned (.int .i64 x) ∧ ∃ q, w' = w.drewN q := by
  have hst := startOn_on0 h hon hd s hs p hl
  rw [← hx] at hst
  clear hx
  go_enter Tryz.func179, Tryz.ntmps179
  go_wp2_with fail
  refine hst.mono ?_
  rintro e w' ⟨rfl, q, rfl⟩
  go_wp2
  go_ret
  exact ⟨rfl, _, rfl⟩

set_option maxHeartbeats 1000000 in
theorem sync_ok {w : World} {d : Nat} {mb : Option Nat} {syn since : Value} {ops cutAt : Int} {cuts gone : Bool} {D : DataW Value} (h : Dk w d (.map mb) syn since ops cutAt cuts gone) (hon : On ops cutAt cuts gone) (hd : Dir w mb D) (ho0 : 0 ≤ ops)
    (s : ByteArray) (hn : isName s = true) (f sy l c : Nat) (ao : Option Addr) (hl : Leads D s (some ⟨f, 0, none⟩)) (hops : ops < 65536) (hf : Fl w f (.slice ao l c) sy) :
    Calls Tryz.prog 179 #[.pointer (some ⟨d, 0, none⟩), .string s] w fun e w' => e = .returned (.int .i64 0) ∧ Dk w' d (.map mb) syn since (ops + 1) cutAt cuts gone ∧ Fl w' f (.slice ao l c) l ∧ Fr (fun j => j = d ∨ j = f) w w' := by
  have hz := isName_size hn
  have hs : s.size ≤ maxLen := by unfold maxLen; omega
  have hst := startOn_on0 h hon hd s hs _ hl
  rw [hn, code_ok hops] at hst
  have hdf : d ≠ f := fun e => by
    unfold Dk at h; unfold Fl at hf
    rw [e, hf] at h
    simp at h
  go_enter Tryz.func179, Tryz.ntmps179
  go_wp2_with fail
  refine hst.mono ?_
  rintro e w' ⟨rfl, q, rfl⟩
  have G0 : Fr (fun j => j = d ∨ j = f) w (w.drewN q) := (Fr.refl _ w).drewN q
  have h1 : Dk (w.drewN q) d (.map mb) syn since ops cutAt cuts gone := h.same rfl
  have f1 : Fl (w.drewN q) f (.slice ao l c) sy := hf
  have hlook := (Dir.same (w' := w.drewN q) hd fun _ _ => rfl).look s hs _ hl
  generalize w.drewN q = W at G0 h1 f1 hlook ⊢
  obtain ⟨c0, c1, c2, c3, c4, c5, c6⟩ := h1.cells
  have z3 := h1.free 3
  obtain ⟨k0, k1⟩ := f1.cells
  have y1 := f1.free 1
  have hfd := hdf.symm
  have S1 := hide2 (f1.set1 l)
  have S2 : Hid (Dk ((W.setCell ⟨f, 1, none⟩ (.int .i64 (l : Int))).setCell ⟨d, 3, none⟩ (.int .i64 (ops + 1))) d (.map mb) syn since (ops + 1) cutAt cuts gone) := hide2 ((h1.same (Below.heap_setCell _ _ _ _ (by simpa using hdf))).set.2.2.2.1 (ops + 1))
  have S3 := hide2 ((G0.setCell (p := ⟨f, 1, none⟩) (.inl (.inr rfl)) (.int .i64 (l : Int))).setCell (p := ⟨d, 3, none⟩) (.inl (.inl rfl)) (.int .i64 (ops + 1)))
  clear h1 f1 G0 hst h hf hd
  go_wp2
  go_ret
  exact ⟨rfl, S2.out, (Below.heap_setCell _ _ _ _ (by simpa using hfd)).trans S1.out, S3.out⟩
end Go.Proofs.YthfcjfhaoabdeaaGreatDoor
