/-
  SyncDir; Append where it is not done, and to a file that is there.
-/
import Derived.Test.YtolaagbdnchhiaaRename
set_option linter.unusedVariables false
set_option linter.unusedSimpArgs false
namespace Go.Proofs.Ytolaagbdnchhiaa
open Go.RowKit Go.Maps

set_option maxHeartbeats 1000000 in
theorem syncDir_full {w : World} {d : Nat} {now syn since : Value} {ops cutAt : Int} {cuts gone : Bool} (h : Dk w d now syn since ops cutAt cuts gone) (hon : On ops cutAt cuts gone) (hops : 65536 ≤ ops) :
    Calls Try.prog 20 #[.pointer (some ⟨d, 0, none⟩)] w fun e w' => e = .returned (.int .i64 23) ∧ ∃ q, w' = w.drewN q := by
  have hst := start_none h hon
  have hworn : ∀ q, Calls Try.prog 47 #[.pointer (some ⟨d, 0, none⟩)] (w.drewN q) fun e w' => e = .returned (.bool true) ∧ w' = w.drewN q := fun q => by
    have := worn_any (w := w.drewN q) (h.same rfl)
    rwa [show decide (65536 ≤ ops) = true by simpa using hops] at this
  go_enter Try.func20, Try.ntmps20
  go_wp2_with fail
  refine hst.mono ?_
  rintro e w' ⟨rfl, q, rfl⟩
  go_wp2_with fail
  refine (hworn q).mono ?_
  rintro e w' ⟨rfl, rfl⟩
  go_wp2
  go_ret
  exact ⟨rfl, _, rfl⟩

set_option maxHeartbeats 2000000 in
theorem syncDir_ok {w : World} {d : Nat} {mb : Option Nat} {syn since : Value} {ops cutAt : Int} {cuts gone : Bool} {D : DataW Value} (h : Dk w d (.map mb) syn since ops cutAt cuts gone) (hon : On ops cutAt cuts gone) (hd : Dir w mb D) (hD : Maps.size D ≤ 1000000) (ho0 : 0 ≤ ops) (hops : ops < 65536) :
    Calls Try.prog 20 #[.pointer (some ⟨d, 0, none⟩)] w fun e w' => ∃ b, e = .returned (.int .i64 0) ∧ w.heap.size ≤ b ∧ Dk w' d (.map mb) (.map (some b)) (.slice none 0 0) (ops + 1) cutAt cuts gone ∧
      w'.ownsMap Try.prog 9 RV b (Maps.size D) (dn D) ∧ Fr (fun j => j = d) w w' := by
  have hlt := h.lt
  have hst := start_none h hon
  have hworn : ∀ q, Calls Try.prog 47 #[.pointer (some ⟨d, 0, none⟩)] (w.drewN q) fun e w' => e = .returned (.bool false) ∧ w' = w.drewN q := fun q => by
    have := worn_any (w := w.drewN q) (h.same rfl)
    rwa [show decide (65536 ≤ ops) = false by simp; omega] at this
  go_enter Try.func20, Try.ntmps20
  go_wp2_with fail
  refine hst.mono ?_
  rintro e w' ⟨rfl, q, rfl⟩
  go_wp2_with fail
  refine (hworn q).mono ?_
  rintro e w' ⟨rfl, rfl⟩
  have b1 : Below w.heap.size w (w.drewN q) := ⟨rfl, rfl, rfl, Nat.le_refl _, fun _ _ => rfl⟩
  have h1 : Dk (w.drewN q) d (.map mb) syn since ops cutAt cuts gone := h.same rfl
  have d1 : Dir (w.drewN q) mb D := Dir.same hd fun _ _ => rfl
  have s1 : (w.drewN q).heap.size = w.heap.size := rfl
  generalize w.drewN q = W at b1 h1 d1 s1 ⊢
  have hcop := copied_any d1 hD
  obtain ⟨c0, c1, c2, c3, c4, c5, c6⟩ := h1.cells
  clear hst hworn
  go_wp2_with fail
  refine hcop.mono ?_
  rintro e w2 ⟨b, rfl, hb, o2, b2⟩
  have h2 := h1.same (b2.block d (by omega))
  clear c0 c1 c2 c3 c4 c5 c6
  obtain ⟨c0, c1, c2, c3, c4, c5, c6⟩ := h2.cells
  have fr2 := h2.free
  have z1 := fr2 1
  have z2 := fr2 2
  have z3 := fr2 3
  have S1 := hide2 (((h2.set.2.1 (.map (some b))).set.2.2.1 (.slice none 0 0)).set.2.2.2.1 (ops + 1))
  have hbd : b ≠ d := by omega
  have G := hide2 ((((Fr.below (F := fun j => j = d) (w := w) (w' := w2) (b1.trans (b2.mono (by omega)))).setCell (p := ⟨d, 1, none⟩) (.inl rfl) (.map (some b))).setCell (p := ⟨d, 2, none⟩) (.inl rfl) (.slice none 0 0)).setCell (p := ⟨d, 3, none⟩) (.inl rfl) (.int .i64 (ops + 1)))
  have O := hide2 (((o2.setCell (a := ⟨d, 1, none⟩) hbd (.map (some b))).setCell (a := ⟨d, 2, none⟩) hbd (.slice none 0 0)).setCell (a := ⟨d, 3, none⟩) hbd (.int .i64 (ops + 1)))
  clear hcop h1 d1 o2 b2 b1 fr2
  go_wp2
  go_ret
  exact ⟨b, rfl, by omega, S1.out, O.out, G.out⟩

set_option maxHeartbeats 2000000 in
/-- Append, where there is no room. -/
theorem append_full {w : World} {d : Nat} {mb : Option Nat} {syn since : Value} {ops cutAt : Int} {cuts gone : Bool} {D : DataW Value} (h : Dk w d (.map mb) syn since ops cutAt cuts gone) (hon : On ops cutAt cuts gone) (hd : Dir w mb D)
    (s : ByteArray) (hn : isName s = true) (p : Option Addr) (hl : Leads D s p) (ao : Option Addr) (len cap : Nat) (hlen : len ≤ maxLen)
    (hf : ∀ a, p = some a → ∃ f ao' l c sy, a = ⟨f, 0, none⟩ ∧ Fl w f (.slice ao' l c) sy ∧ l ≤ 262144 ∧ (ops < 65536 → 262144 < len + l)) (hnew : p = none → ops < 65536 → 262144 < len ∨ 64 ≤ Maps.size D) :
    Calls Try.prog 18 #[.pointer (some ⟨d, 0, none⟩), .string s, .slice ao len cap] w fun e w' => e = .returned (.int .i64 23) ∧ Below w.heap.size w w' := by
  have hlt := h.lt
  have hz := isName_size hn
  have hs : s.size ≤ maxLen := by unfold maxLen; omega
  have h1 : Dk (w.alloc (.cells #[.string s] 9)) d (.map mb) syn since ops cutAt cuts gone := h.same (Below.heap_alloc _ _ d hlt)
  have hst := start_one h1 hon w.heap.size 1 s hs (by simp) 0 (by simp [hn])
  have hjm : ∀ j, mb = some j → j < w.heap.size := fun j e => by
    rcases hd with ⟨rfl, _⟩ | ⟨b, n, rfl, ho⟩
    · cases e
    · cases e; exact ho.lt
  go_enter Try.func18, Try.ntmps18
  go_wp2_with fail
  refine hst.mono ?_
  rintro e w' ⟨rfl, q, rfl⟩
  have b1 : Below w.heap.size w ((w.alloc (.cells #[.string s] 9)).drewN q) := ((Below.refl _ _).alloc (Nat.le_refl _) _).trans ⟨rfl, rfl, rfl, Nat.le_refl _, fun _ _ => rfl⟩
  generalize (w.alloc (.cells #[.string s] 9)).drewN q = W at b1 ⊢
  clear hst h1
  have h1 : Dk W d (.map mb) syn since ops cutAt cuts gone := h.same (b1.block d hlt)
  have d1 : Dir W mb D := Dir.same hd fun j e => b1.block j (hjm j e)
  have hlook := d1.look s hs p hl
  have hworn := worn_any h1
  obtain ⟨c0, c1, c2, c3, c4, c5, c6⟩ := h1.cells
  by_cases ho : 65536 ≤ ops
  · rw [show decide (65536 ≤ ops) = true by simpa using ho] at hworn
    go_wp2_with (go_at_call 47; refine hworn.mono ?_; rintro e w' ⟨rfl, rfl⟩)
    go_ret
    exact ⟨rfl, b1⟩
  · rw [show decide (65536 ≤ ops) = false by simpa using ho] at hworn
    cases p with
    | none =>
      have hroom := room_new h1 d1 len hlen
      rw [show (decide (len ≤ 262144) && decide (Maps.size D < 64)) = false by have := hnew rfl (by omega); simp; omega] at hroom
      have hl63 : (len : Int) ≤ 9223372036854775807 := by unfold maxLen at hlen; omega
      go_wp2_with (first
        | (go_at_call 47; refine hworn.mono ?_; rintro e w' ⟨rfl, rfl⟩)
        | (go_at_call 48; refine hroom.mono ?_; rintro e w' ⟨rfl, rfl⟩)
        | fail)
      go_ret
      exact ⟨rfl, b1⟩
    | some a =>
      obtain ⟨f, ao', l, c, sy, rfl, hF, hl2, hbig⟩ := hf a rfl
      have hroom := room_old (p := .pointer (some ⟨d, 0, none⟩)) ((b1.block f hF.lt).trans hF : Fl W f (.slice ao' l c) sy) (by unfold maxLen; omega) len hlen
      rw [show decide (len + l ≤ 262144) = false by have := hbig (by omega); simp; omega] at hroom
      have hl63 : (len : Int) ≤ 9223372036854775807 := by unfold maxLen at hlen; omega
      go_wp2_with (first
        | (go_at_call 47; refine hworn.mono ?_; rintro e w' ⟨rfl, rfl⟩)
        | (go_at_call 48; refine hroom.mono ?_; rintro e w' ⟨rfl, rfl⟩)
        | fail)
      go_ret
      exact ⟨rfl, b1⟩
end Go.Proofs.Ytolaagbdnchhiaa
