/-
  The power that goes: CutAt, and every operation without power.
-/
import Derived.Test.YtolaagbdnchhiaaDisk2
set_option linter.unusedVariables false
set_option linter.unusedSimpArgs false
namespace Go.Proofs.Ytolaagbdnchhiaa
open Go.RowKit Go.Maps

/-- There is no power here, or it goes. -/
def Off (ops cutAt : Int) (cuts gone : Bool) : Prop := gone = true ∨ (cuts = true ∧ cutAt ≤ ops)

section
variable {w : World} {d : Nat} {now syn since : Value} {ops cutAt : Int} {cuts gone : Bool}

set_option maxHeartbeats 1000000 in
theorem start_off (h : Dk w d now syn since ops cutAt cuts gone) (hoff : Off ops cutAt cuts gone) (v : Value) :
    Calls Try.prog 46 #[.pointer (some ⟨d, 0, none⟩), v] w fun e w' => e = .returned (.int .i64 24) ∧ Dk w' d now syn since ops cutAt cuts true ∧ Fr (fun j => j = d) w w' := by
  obtain ⟨c0, c1, c2, c3, c4, c5, c6⟩ := h.cells
  have fr := h.free 6
  have HD := hide2 h
  cases cuts with
  | false =>
    have hg : gone = true := by
      rcases hoff with h | h
      · exact h
      · cases h.1
    subst hg
    clear hoff h
    go_enter Try.func46, Try.ntmps46
    go_wp2
    go_quiet (fail)
    go_wp2
    go_ret
    exact ⟨rfl, HD.out.same rfl, (Fr.refl _ w).drewN _⟩
  | true =>
    by_cases hc : cutAt ≤ ops
    · have hd0 : decide (cutAt ≤ ops) = true := by simpa using hc
      clear hoff h
      go_enter Try.func46, Try.ntmps46
      go_wp2
      go_quiet (fail)
      go_wp2
      go_ret
      exact ⟨rfl, Dk.set (HD.out.same rfl) |>.2.2.2.2.2.2 true, Fr.setCell (p := ⟨d, 6, none⟩) ((Fr.refl (fun j => j = d) w).drewN _) (.inl rfl) _⟩
    · have hg : gone = true := by
        rcases hoff with h | h
        · exact h
        · exact absurd h.2 hc
      subst hg
      have hd0 : decide (cutAt ≤ ops) = false := by simpa using hc
      clear hoff h
      go_enter Try.func46, Try.ntmps46
      go_wp2
      go_quiet (fail)
      go_wp2
      go_ret
      exact ⟨rfl, HD.out.same rfl, (Fr.refl _ w).drewN _⟩

set_option maxHeartbeats 1000000 in
theorem startOn_off (h : Dk w d now syn since ops cutAt cuts gone) (hoff : Off ops cutAt cuts gone) (s v : Value) :
    Calls Try.prog 42 #[.pointer (some ⟨d, 0, none⟩), s, v] w fun e w' => e = .returned (.int .i64 24) ∧ Dk w' d now syn since ops cutAt cuts true ∧ Fr (fun j => j = d) w w' := by
  have HS := hide2 (start_off h hoff v)
  clear h hoff
  go_enter Try.func42, Try.ntmps42
  go_wp2_with fail
  refine HS.out.mono ?_
  rintro e w' ⟨rfl, hD, hF⟩
  clear HS
  go_wp2
  go_ret
  exact ⟨rfl, hD, hF⟩

set_option maxHeartbeats 1000000 in
theorem sync_off (h : Dk w d now syn since ops cutAt cuts gone) (hoff : Off ops cutAt cuts gone) (s : ByteArray) :
    Calls Try.prog 19 #[.pointer (some ⟨d, 0, none⟩), .string s] w fun e w' => e = .returned (.int .i64 24) ∧ Dk w' d now syn since ops cutAt cuts true ∧ Fr (fun j => j = d) w w' := by
  have HS := hide2 (fun v => startOn_off h hoff (.string s) v)
  clear h hoff
  go_enter Try.func19, Try.ntmps19
  go_wp2_with fail
  refine (HS.out _).mono ?_
  rintro e w' ⟨rfl, hD, hF⟩
  clear HS
  go_wp2
  go_ret
  exact ⟨rfl, hD, hF⟩
set_option maxHeartbeats 1000000 in
theorem syncDir_off (h : Dk w d now syn since ops cutAt cuts gone) (hoff : Off ops cutAt cuts gone) :
    Calls Try.prog 20 #[.pointer (some ⟨d, 0, none⟩)] w fun e w' => e = .returned (.int .i64 24) ∧ Dk w' d now syn since ops cutAt cuts true ∧ Fr (fun j => j = d) w w' := by
  have HS := hide2 (fun v => start_off h hoff v)
  clear h hoff
  go_enter Try.func20, Try.ntmps20
  go_wp2_with fail
  refine (HS.out _).mono ?_
  rintro e w' ⟨rfl, hD, hF⟩
  clear HS
  go_wp2
  go_ret
  exact ⟨rfl, hD, hF⟩
set_option maxHeartbeats 1000000 in
theorem append_off (h : Dk w d now syn since ops cutAt cuts gone) (hoff : Off ops cutAt cuts gone) (s : ByteArray) (v : Value) :
    Calls Try.prog 18 #[.pointer (some ⟨d, 0, none⟩), .string s, v] w fun e w' => e = .returned (.int .i64 24) ∧ Dk w' d now syn since ops cutAt cuts true ∧ Fr (fun j => j = d) w w' := by
  have HL := hide2 h.lt
  have hal : ∀ o : Obj, Dk (w.alloc o) d now syn since ops cutAt cuts gone := fun o => h.same (Below.heap_alloc _ _ d h.lt)
  have HS := hide2 (fun o v => start_off (hal o) hoff v)
  clear h hoff hal
  go_enter Try.func18, Try.ntmps18
  go_wp2_with fail
  refine (HS.out _ _).mono ?_
  rintro e w' ⟨rfl, hD, hF⟩
  clear HS
  go_wp2
  go_ret
  exact ⟨rfl, hD, Fr.trans ((Fr.refl (fun j => j = d) w).alloc _) hF (fun j e => .inl e)⟩
set_option maxHeartbeats 1000000 in
theorem rename_off (h : Dk w d now syn since ops cutAt cuts gone) (hoff : Off ops cutAt cuts gone) (s t : ByteArray) :
    Calls Try.prog 32 #[.pointer (some ⟨d, 0, none⟩), .string s, .string t] w fun e w' => e = .returned (.int .i64 24) ∧ Dk w' d now syn since ops cutAt cuts true ∧ Fr (fun j => j = d) w w' := by
  have hal : ∀ o1 o2 o3 : Obj, Dk (((w.alloc o1).alloc o2).alloc o3) d now syn since ops cutAt cuts gone := fun o1 o2 o3 => h.same ((Below.heap_alloc _ _ d (by have := h.lt; simp; omega)).trans ((Below.heap_alloc _ _ d (by have := h.lt; simp; omega)).trans (Below.heap_alloc _ _ d h.lt)))
  have HS := hide2 (fun o1 o2 o3 s v => startOn_off (hal o1 o2 o3) hoff s v)
  have hl := h.lt
  clear h hoff hal
  go_enter Try.func32, Try.ntmps32
  go_wp2_with fail
  refine (HS.out _ _ _ _ _).mono ?_
  rintro e w' ⟨rfl, hD, hF⟩
  clear HS
  go_wp2
  go_ret
  exact ⟨rfl, hD, Fr.trans ((((Fr.refl (fun j => j = d) w).alloc _).alloc _).alloc _) hF (fun j e => .inl e)⟩
set_option maxHeartbeats 1000000 in
theorem delete_off (h : Dk w d now syn since ops cutAt cuts gone) (hoff : Off ops cutAt cuts gone) (s : ByteArray) :
    Calls Try.prog 17 #[.pointer (some ⟨d, 0, none⟩), .string s] w fun e w' => e = .returned (.int .i64 24) ∧ Dk w' d now syn since ops cutAt cuts true ∧ Fr (fun j => j = d) w w' := by
  have hal : ∀ o1 : Obj, Dk (w.alloc o1) d now syn since ops cutAt cuts gone := fun o1 => h.same (Below.heap_alloc _ _ d h.lt)
  have HS := hide2 (fun o1 s v => startOn_off (hal o1) hoff s v)
  have hl := h.lt
  clear h hoff hal
  go_enter Try.func17, Try.ntmps17
  go_wp2_with fail
  refine (HS.out _ _ _).mono ?_
  rintro e w' ⟨rfl, hD, hF⟩
  clear HS
  go_wp2
  go_ret
  exact ⟨rfl, hD, Fr.trans ((Fr.refl (fun j => j = d) w).alloc _) hF (fun j e => .inl e)⟩
set_option maxHeartbeats 1000000 in
theorem read_off (h : Dk w d now syn since ops cutAt cuts true) (s : ByteArray) :
    Calls Try.prog 22 #[.pointer (some ⟨d, 0, none⟩), .string s] w fun e w' => e = .returned (.tuple #[.slice none 0 0, .int .i64 24]) ∧ w' = w := by
  obtain ⟨c0, c1, c2, c3, c4, c5, c6⟩ := h.cells
  clear h
  go_enter Try.func22, Try.ntmps22
  go_wp2
  go_ret2
  exact ⟨rfl, rfl⟩
set_option maxHeartbeats 1000000 in
theorem cutAt_any (h : Dk w d now syn since ops cutAt cuts gone) (n : Int) :
    Calls Try.prog 27 #[.pointer (some ⟨d, 0, none⟩), .int .i64 n] w fun e w' => e = .returned (.tuple #[]) ∧ Dk w' d now syn since ops n (decide (0 ≤ n)) false ∧ Fr (fun j => j = d) w w' := by
  obtain ⟨c0, c1, c2, c3, c4, c5, c6⟩ := h.cells
  have f4 := h.free 4
  have f5 := h.free 5
  have f6 := h.free 6
  have HD := hide2 h
  clear h
  go_enter Try.func27, Try.ntmps27
  go_wp2
  go_end0
  have h1 := HD.out.set.2.2.2.2.1 (decide (0 ≤ n))
  have h2 := h1.set.2.2.2.2.2.1 n
  have h3 := h2.set.2.2.2.2.2.2 false
  exact ⟨rfl, h3, Fr.setCell (p := ⟨d, 6, none⟩) (Fr.setCell (p := ⟨d, 5, none⟩) (Fr.setCell (p := ⟨d, 4, none⟩) (Fr.refl (fun j => j = d) w) (.inl rfl) _) (.inl rfl) _) (.inl rfl) _⟩
end
end Go.Proofs.Ytolaagbdnchhiaa
