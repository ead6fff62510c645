/-
  The program's reader: a text, a mark, a time, a file's number.
-/
import Derived.Test.YteihabdldiopeaaE13
set_option linter.unusedVariables false
set_option linter.unusedSimpArgs false
namespace Go.Proofs.Yteihabdldiopeaa
open Go.RowKit Go.Maps

theorem tt_some {xs : List Int} {at_ most nx : Int} {ys : List Int} (hb : Byt xs) (h : tt xs at_ most = some (ys, nx)) : ∃ b : Nat, nx = b ∧ b ≤ xs.length := by
  unfold tt at h
  cases ht : tk xs at_ with
  | none => rw [ht] at h; cases h
  | some q =>
    obtain ⟨n, m⟩ := q
    rw [ht] at h
    simp only [] at h
    split at h
    · cases h
    rename_i hc
    simp only [Option.some.injEq, Prod.mk.injEq] at h
    obtain ⟨a, b, _, rfl, hab, hbl, h0, h1, _⟩ := tk_spec hb ht
    exact ⟨(b + n.toNat), by omega, by omega⟩

section
variable {w : World} {r : Nat} {ao : Option Addr} {len cap : Nat} {xs : List Int} {s : Rs}
set_option maxRecDepth 100000
set_option maxHeartbeats 1000000

theorem text_any (most : Int) (h : Rd w r ao len cap xs s) (h0 : 0 ≤ most) (h1 : most ≤ 9223372036854775807) :
    Calls Try.prog 71 #[.pointer (some ⟨r, 0, none⟩), .int .i64 most] w fun e w' => e = .returned (.string (rtxt xs most s).1) ∧ Rd w' r ao len cap xs (rtxt xs most s).2 ∧ w.grownBy w' (some r) := by
  obtain ⟨c0, c1, c2⟩ := h.cells
  have f1 := h.free 1
  have f2 := h.free 2
  have hlt := h.lt
  have hT : ∀ q, Calls Try.prog 93 #[.slice ao len cap, .int .i64 (s.pos : Int), .int .i64 most] (w.drewN q) fun e w' => e = .returned (ttVal (tt xs s.pos most)) ∧ w' = w.drewN q := fun q => takeText_any ao len cap xs _ _ _ (h.sl.drewN q) (by omega) h1
  have hbad : ∀ nq, Rd ((w.drewN nq).setCell ⟨r, 2, none⟩ (.bool true)) r ao len cap xs (.bad s.pos) ∧ w.grownBy ((w.drewN nq).setCell ⟨r, 2, none⟩ (.bool true)) (some r) := fun nq => ⟨(h.drewN nq).toBad, grown_drew (grown_set _ _ _ _)⟩
  have HBAD := hide3 hbad
  clear hbad
  cases s with
  | bad p =>
    have eR : rtxt xs most (.bad p) = (⟨#[]⟩, .bad p) := rfl
    rw [eR]
    have HH := hide3 h
    clear h
    simp only [Rs.pos, Rs.isBad] at c1 c2 hT HBAD
    obtain ⟨z0, z1, z2, hz⟩ : ∃ z0 z1 z2, ttVal (tt xs p most) = .tuple #[.string z0, .int .i64 z1, .bool z2] := by
      cases tt xs p most with
      | none => exact ⟨_, _, _, rfl⟩
      | some q => exact ⟨_, _, _, rfl⟩
    rw [hz] at hT
    go_enter Try.func71, Try.ntmps71
    go_wp2
    go_quiet ((go_at_call 93; refine Calls.quiet_of_same (hT _)))
    clear hT
    go_wp2
    go_ret
    exact ⟨rfl, HBAD.out _⟩
  | «at» n =>
    simp only [Rs.pos, Rs.isBad] at c1 c2 hT HBAD
    cases ht : tt xs (n : Int) most with
    | none =>
      have eR : rtxt xs most (.at n) = (⟨#[]⟩, .bad n) := by simp only [rtxt, ht]
      rw [eR]
      rw [ht] at hT
      replace hT : ∀ q, Calls Try.prog 93 #[.slice ao len cap, .int .i64 (n : Int), .int .i64 most] (w.drewN q) fun e w' => e = .returned (.tuple #[.string ⟨#[]⟩, .int .i64 0, .bool false]) ∧ w' = w.drewN q := hT
      have HH := hide3 h
      clear h
      go_enter Try.func71, Try.ntmps71
      go_wp2
      go_quiet ((go_at_call 93; refine Calls.quiet_of_same (hT _)))
      clear hT
      go_wp2
      go_ret
      exact ⟨rfl, HBAD.out _⟩
    | some q =>
      obtain ⟨ys, nx⟩ := q
      obtain ⟨b, rfl, hb⟩ := tt_some h.sl.2.2.2.1 ht
      rw [ht] at hT
      have hxl := h.sl.1
      have eR : rtxt xs most (.at n) = (strOfNums ys, .at b) := by simp only [rtxt, ht]; rfl
      rw [eR]
      replace hT : ∀ q, Calls Try.prog 93 #[.slice ao len cap, .int .i64 (n : Int), .int .i64 most] (w.drewN q) fun e w' => e = .returned (.tuple #[.string (strOfNums ys), .int .i64 (b : Int), .bool true]) ∧ w' = w.drewN q := hT
      generalize strOfNums ys = S at *
      have hgood : ∀ nq, Rd ((w.drewN nq).setCell ⟨r, 1, none⟩ (.int .i64 (b : Int))) r ao len cap xs (.at b) ∧ w.grownBy ((w.drewN nq).setCell ⟨r, 1, none⟩ (.int .i64 (b : Int))) (some r) := fun nq => ⟨(h.drewN nq).toAt b (by omega), grown_drew (grown_set _ _ _ _)⟩
      have HG := hide3 hgood
      clear h hgood HBAD
      go_enter Try.func71, Try.ntmps71
      go_wp2
      go_quiet ((go_at_call 93; refine Calls.quiet_of_same (hT _)))
      clear hT
      go_wp2
      go_ret
      exact ⟨rfl, HG.out _⟩

theorem time2_any (h : Rd w r ao len cap xs s) :
    Calls Try.prog 61 #[.pointer (some ⟨r, 0, none⟩)] w fun e w' => e = .returned (.int .i64 (rnum xs 1099511627775 s).1) ∧ Rd w' r ao len cap xs (rnum xs 1099511627775 s).2 ∧ w.grownBy w' (some r) := by
  have hbd := rnum_bd h.sl.2.2.2.1 1099511627775 (by omega) s
  have HN := hide3 (number_any 1099511627775 h (by omega) (by omega))
  clear h
  generalize rnum xs 1099511627775 s = R at *
  obtain ⟨b0, b1⟩ := hbd
  go_enter Try.func61, Try.ntmps61
  go_wp2_with fail
  refine HN.out.mono ?_
  rintro e w1 ⟨rfl, h1, h2⟩
  go_wp2
  go_ret
  exact ⟨rfl, h1, h2⟩
theorem fileNumber_any (h : Rd w r ao len cap xs s) :
    Calls Try.prog 81 #[.pointer (some ⟨r, 0, none⟩)] w fun e w' => e = .returned (.int .i64 (rnum xs 2147483647 s).1) ∧ Rd w' r ao len cap xs (rnum xs 2147483647 s).2 ∧ w.grownBy w' (some r) := by
  have hbd := rnum_bd h.sl.2.2.2.1 2147483647 (by omega) s
  have HN := hide3 (number_any 2147483647 h (by omega) (by omega))
  clear h
  generalize rnum xs 2147483647 s = R at *
  obtain ⟨b0, b1⟩ := hbd
  go_enter Try.func81, Try.ntmps81
  go_wp2_with fail
  refine HN.out.mono ?_
  rintro e w1 ⟨rfl, h1, h2⟩
  go_wp2
  go_ret
  exact ⟨rfl, h1, h2⟩

end
end Go.Proofs.Yteihabdldiopeaa
