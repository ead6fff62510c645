/-
  The program's reader: a number, a text, a mark.
-/
import Derived.Test.YthfcjfhaoabdeaaGreatDoorRz14
import Derived.WalkSmall
import Derived.Maps.AppendAt
set_option linter.unusedVariables false
set_option linter.unusedSimpArgs false
namespace Go.Proofs.YthfcjfhaoabdeaaGreatDoor
open Go.RowKit Go.Maps

/-- Bytes that are read lie apart from a block that holds none in its three cells. -/
theorem Sl.off {w w' : World} {ao : Option Addr} {len cap : Nat} {xs : List Int} (h : Sl w ao len cap xs) {r : Nat} {a b c : Value} {t : TypeId} {fz : Nat × Nat} (hr : w.heap[r]? = some (.cells #[a, b, c] t fz))
    (ha : ∀ n, a ≠ .int .u8 n) (hb : ∀ n, b ≠ .int .u8 n) (hc : ∀ n, c ≠ .int .u8 n) (hg : w.grownBy w' (some r)) : Sl w' ao len cap xs := by
  obtain ⟨h1, h2, h3, h4, h5, h6⟩ := h
  refine ⟨h1, h2, h3, h4, h5, fun hl => ?_⟩
  obtain ⟨bl, off, e, hlt, hcl⟩ := h6 hl
  have hne : some bl ≠ some r := fun e2 => by
    cases e2
    have h7 := hcl 0 hl
    rw [Go.Joins.cell_of_block hr] at h7
    rcases hoff : off + 0 with _ | _ | _ | n
    all_goals rw [hoff] at h7
    · simp at h7; exact ha _ h7
    · simp at h7; exact hb _ h7
    · simp at h7; exact hc _ h7
    · simp at h7
  exact ⟨bl, off, e, Nat.lt_of_lt_of_le hlt hg.size, fun i hi => (World.cell?_of_block (hg.block bl hlt hne)).trans (hcl i hi)⟩

/-- The program's reader, where it stands. -/
structure Rd (w : World) (r : Nat) (ao : Option Addr) (len cap : Nat) (xs : List Int) (s : Rs) : Prop where
  blk : w.heap[r]? = some (.cells #[.slice ao len cap, .int .i64 (s.pos : Int), .bool s.isBad] 240 (0, 0))
  sl : Sl w ao len cap xs
  le : s.pos ≤ len

section
variable {w w' : World} {r : Nat} {ao : Option Addr} {len cap : Nat} {xs : List Int} {s : Rs}
theorem Rd.lt (h : Rd w r ao len cap xs s) : r < w.heap.size := (Array.getElem?_eq_some_iff.1 h.blk).1
theorem Rd.cells (h : Rd w r ao len cap xs s) : w.cell? ⟨r, 0, none⟩ = some (.slice ao len cap) ∧ w.cell? ⟨r, 1, none⟩ = some (.int .i64 (s.pos : Int)) ∧ w.cell? ⟨r, 2, none⟩ = some (.bool s.isBad) := by
  refine ⟨?_, ?_, ?_⟩ <;> (rw [Go.Joins.cell_of_block h.blk]; rfl)
theorem Rd.free (h : Rd w r ao len cap xs s) (i : Nat) : w.frozen? ⟨r, i, none⟩ = false := Go.Joins.unfrozen_of_block h.blk i
/-- Elsewhere something was done. -/
theorem Rd.keep (h : Rd w r ao len cap xs s) (hb : Below w.heap.size w w') : Rd w' r ao len cap xs s := ⟨(hb.block r h.lt).trans h.blk, h.sl.below hb, h.le⟩
theorem Rd.drewN (h : Rd w r ao len cap xs s) (q : Nat) : Rd (w.drewN q) r ao len cap xs s := ⟨h.blk, h.sl.drewN q, h.le⟩
theorem grown_set (w : World) (r i : Nat) (u : Value) : w.grownBy (w.setCell ⟨r, i, none⟩ u) (some r) :=
  ⟨rfl, rfl, rfl, by simp [World.setCell], fun k hk hn => Below.heap_setCell _ _ _ _ (fun e => hn (by rw [e]))⟩
theorem Rd.toAt {n : Nat} (h : Rd w r ao len cap xs (.at n)) (m : Nat) (hm : m ≤ len) : Rd (w.setCell ⟨r, 1, none⟩ (.int .i64 (m : Int))) r ao len cap xs (.at m) :=
  ⟨(Go.Joins.block_setCell h.blk _).trans rfl, h.sl.off h.blk (by simp) (by simp) (by simp) (grown_set _ _ _ _), hm⟩
theorem Rd.toBad (h : Rd w r ao len cap xs s) : Rd (w.setCell ⟨r, 2, none⟩ (.bool true)) r ao len cap xs (.bad s.pos) :=
  ⟨(Go.Joins.block_setCell h.blk _).trans rfl, h.sl.off h.blk (by simp) (by simp) (by simp) (grown_set _ _ _ _), h.le⟩
theorem grown_drew {w w' : World} {row : Option Nat} {q : Nat} (h : (w.drewN q).grownBy w' row) : w.grownBy w' row := ⟨h.os, h.tape, h.output, h.size, h.block⟩
end

section
variable {w : World} {r : Nat} {ao : Option Addr} {len cap : Nat} {xs : List Int} {s : Rs}
set_option maxRecDepth 100000
set_option maxHeartbeats 1000000

theorem number_any (most : Int) (h : Rd w r ao len cap xs s) (h0 : 0 ≤ most) (h1 : most ≤ 18446744073709551615) :
    Calls Tryz.prog 148 #[.pointer (some ⟨r, 0, none⟩), .int .u64 most] w fun e w' => e = .returned (.int .u64 (rnum xs most s).1) ∧ Rd w' r ao len cap xs (rnum xs most s).2 ∧ w.grownBy w' (some r) := by
  obtain ⟨c0, c1, c2⟩ := h.cells
  have f1 := h.free 1
  have f2 := h.free 2
  have hlt := h.lt
  have hT : ∀ q, Calls Tryz.prog 187 #[.slice ao len cap, .int .i64 (s.pos : Int)] (w.drewN q) fun e w' => e = .returned (tkVal (tk xs s.pos)) ∧ w' = w.drewN q := fun q => take_any ao len cap xs _ _ (h.sl.drewN q)
  have hbad : ∀ nq, Rd ((w.drewN nq).setCell ⟨r, 2, none⟩ (.bool true)) r ao len cap xs (.bad s.pos) ∧ w.grownBy ((w.drewN nq).setCell ⟨r, 2, none⟩ (.bool true)) (some r) := fun nq => ⟨(h.drewN nq).toBad, grown_drew (grown_set _ _ _ _)⟩
  have HBAD := ehide3 hbad
  clear hbad
  cases s with
  | bad p =>
    have eR : rnum xs most (.bad p) = (0, .bad p) := rfl
    rw [eR]
    have HH := ehide3 h
    clear h
    simp only [Rs.pos, Rs.isBad] at c1 c2 hT HBAD
    obtain ⟨z0, z1, z2, hz⟩ : ∃ z0 z1 z2, tkVal (tk xs p) = .tuple #[.int .u64 z0, .int .i64 z1, .bool z2] := by
      cases tk xs p with
      | none => exact ⟨_, _, _, rfl⟩
      | some q => exact ⟨_, _, _, rfl⟩
    rw [hz] at hT
    all_goals
      go_enter Tryz.func148, Tryz.ntmps148
      go_wp2
      go_quiet ((go_at_call 187; refine Calls.quiet_of_same (hT _)))
      clear hT
      go_wp2
      go_ret
      exact ⟨rfl, HBAD.out _⟩
  | «at» n =>
    simp only [Rs.pos, Rs.isBad] at c1 c2 hT HBAD
    cases ht : tk xs (n : Int) with
    | none =>
      have eR : rnum xs most (.at n) = (0, .bad n) := by simp only [rnum, ht]
      rw [eR]
      rw [ht] at hT
      unfold tkVal at hT
      have HH := ehide3 h
      clear h
      go_enter Tryz.func148, Tryz.ntmps148
      go_wp2
      go_quiet ((go_at_call 187; refine Calls.quiet_of_same (hT _)))
      clear hT
      go_wp2
      go_ret
      exact ⟨rfl, HBAD.out _⟩
    | some q =>
      obtain ⟨v, nx⟩ := q
      obtain ⟨a, b, -, rfl, -, hb, hv0, hv1, -⟩ := tk_spec h.sl.2.2.2.1 ht
      rw [ht] at hT
      replace hT : ∀ q, Calls Tryz.prog 187 #[.slice ao len cap, .int .i64 (n : Int)] (w.drewN q) fun e w' => e = .returned (.tuple #[.int .u64 v, .int .i64 (b : Int), .bool true]) ∧ w' = w.drewN q := hT
      have hxl := h.sl.1
      by_cases hvm : v ≤ most
      · have eR : rnum xs most (.at n) = (v, .at b) := by simp only [rnum, ht, if_pos hvm]; rfl
        rw [eR]
        have hgood : ∀ nq, Rd ((w.drewN nq).setCell ⟨r, 1, none⟩ (.int .i64 (b : Int))) r ao len cap xs (.at b) ∧ w.grownBy ((w.drewN nq).setCell ⟨r, 1, none⟩ (.int .i64 (b : Int))) (some r) := fun nq => ⟨(h.drewN nq).toAt b (by omega), grown_drew (grown_set _ _ _ _)⟩
        have HG := ehide3 hgood
        have hvm' : ¬ most < v := by omega
        clear h hgood HBAD
        go_enter Tryz.func148, Tryz.ntmps148
        go_wp2
        go_quiet ((go_at_call 187; refine Calls.quiet_of_same (hT _)))
        clear hT
        go_wp2
        go_ret
        exact ⟨rfl, HG.out _⟩
      · have eR : rnum xs most (.at n) = (0, .bad n) := by simp only [rnum, ht, if_neg hvm]
        rw [eR]
        have hvm' : most < v := by omega
        have HH := ehide3 h
        clear h
        go_enter Tryz.func148, Tryz.ntmps148
        go_wp2
        go_quiet ((go_at_call 187; refine Calls.quiet_of_same (hT _)))
        clear hT
        go_wp2
        go_ret
        exact ⟨rfl, HBAD.out _⟩
end
end Go.Proofs.YthfcjfhaoabdeaaGreatDoor

/-
  The program's reader: a text, a mark, a time, a file's number.
-/
set_option linter.unusedVariables false
set_option linter.unusedSimpArgs false
namespace Go.Proofs.YthfcjfhaoabdeaaGreatDoor
open Go.RowKit Go.Maps

theorem tt_some {xs : List Int} {at_ most nx : Int} {ys : List Int} (hb : Byt xs) (h : tt xs at_ most = some (ys, nx)) : ∃ b : Nat, nx = b ∧ b ≤ xs.length := by
  unfold tt at h
  cases ht : tk xs at_ with
  | none => rw [ht] at h; cases h
  | some q =>
    obtain ⟨n, m⟩ := q
    rw [ht] at h
    simp only [] at h
    split at h
    · cases h
    rename_i hc
    simp only [Option.some.injEq, Prod.mk.injEq] at h
    obtain ⟨a, b, _, rfl, hab, hbl, h0, h1, _⟩ := tk_spec hb ht
    exact ⟨(b + n.toNat), by omega, by omega⟩

section
variable {w : World} {r : Nat} {ao : Option Addr} {len cap : Nat} {xs : List Int} {s : Rs}
set_option maxRecDepth 100000
set_option maxHeartbeats 1000000

theorem text_any (most : Int) (h : Rd w r ao len cap xs s) (h0 : 0 ≤ most) (h1 : most ≤ 9223372036854775807) :
    Calls Tryz.prog 97 #[.pointer (some ⟨r, 0, none⟩), .int .i64 most] w fun e w' => e = .returned (.string (rtxt xs most s).1) ∧ Rd w' r ao len cap xs (rtxt xs most s).2 ∧ w.grownBy w' (some r) := by
  obtain ⟨c0, c1, c2⟩ := h.cells
  have f1 := h.free 1
  have f2 := h.free 2
  have hlt := h.lt
  have hT : ∀ q, Calls Tryz.prog 147 #[.slice ao len cap, .int .i64 (s.pos : Int), .int .i64 most] (w.drewN q) fun e w' => e = .returned (ttVal (tt xs s.pos most)) ∧ w' = w.drewN q := fun q => takeText_any ao len cap xs _ _ _ (h.sl.drewN q) (by omega) h1
  have hbad : ∀ nq, Rd ((w.drewN nq).setCell ⟨r, 2, none⟩ (.bool true)) r ao len cap xs (.bad s.pos) ∧ w.grownBy ((w.drewN nq).setCell ⟨r, 2, none⟩ (.bool true)) (some r) := fun nq => ⟨(h.drewN nq).toBad, grown_drew (grown_set _ _ _ _)⟩
  have HBAD := ehide3 hbad
  clear hbad
  cases s with
  | bad p =>
    have eR : rtxt xs most (.bad p) = (⟨#[]⟩, .bad p) := rfl
    rw [eR]
    have HH := ehide3 h
    clear h
    simp only [Rs.pos, Rs.isBad] at c1 c2 hT HBAD
    obtain ⟨z0, z1, z2, hz⟩ : ∃ z0 z1 z2, ttVal (tt xs p most) = .tuple #[.string z0, .int .i64 z1, .bool z2] := by
      cases tt xs p most with
      | none => exact ⟨_, _, _, rfl⟩
      | some q => exact ⟨_, _, _, rfl⟩
    rw [hz] at hT
    go_enter Tryz.func97, Tryz.ntmps97
    go_wp2
    go_quiet ((go_at_call 147; refine Calls.quiet_of_same (hT _)))
    clear hT
    go_wp2
    go_ret
    exact ⟨rfl, HBAD.out _⟩
  | «at» n =>
    simp only [Rs.pos, Rs.isBad] at c1 c2 hT HBAD
    cases ht : tt xs (n : Int) most with
    | none =>
      have eR : rtxt xs most (.at n) = (⟨#[]⟩, .bad n) := by simp only [rtxt, ht]
      rw [eR]
      rw [ht] at hT
      replace hT : ∀ q, Calls Tryz.prog 147 #[.slice ao len cap, .int .i64 (n : Int), .int .i64 most] (w.drewN q) fun e w' => e = .returned (.tuple #[.string ⟨#[]⟩, .int .i64 0, .bool false]) ∧ w' = w.drewN q := hT
      have HH := ehide3 h
      clear h
      go_enter Tryz.func97, Tryz.ntmps97
      go_wp2
      go_quiet ((go_at_call 147; refine Calls.quiet_of_same (hT _)))
      clear hT
      go_wp2
      go_ret
      exact ⟨rfl, HBAD.out _⟩
    | some q =>
      obtain ⟨ys, nx⟩ := q
      obtain ⟨b, rfl, hb⟩ := tt_some h.sl.2.2.2.1 ht
      rw [ht] at hT
      have hxl := h.sl.1
      have eR : rtxt xs most (.at n) = (strOfNums ys, .at b) := by simp only [rtxt, ht]; rfl
      rw [eR]
      replace hT : ∀ q, Calls Tryz.prog 147 #[.slice ao len cap, .int .i64 (n : Int), .int .i64 most] (w.drewN q) fun e w' => e = .returned (.tuple #[.string (strOfNums ys), .int .i64 (b : Int), .bool true]) ∧ w' = w.drewN q := hT
      generalize strOfNums ys = S at *
      have hgood : ∀ nq, Rd ((w.drewN nq).setCell ⟨r, 1, none⟩ (.int .i64 (b : Int))) r ao len cap xs (.at b) ∧ w.grownBy ((w.drewN nq).setCell ⟨r, 1, none⟩ (.int .i64 (b : Int))) (some r) := fun nq => ⟨(h.drewN nq).toAt b (by omega), grown_drew (grown_set _ _ _ _)⟩
      have HG := ehide3 hgood
      clear h hgood HBAD
      go_enter Tryz.func97, Tryz.ntmps97
      go_wp2
      go_quiet ((go_at_call 147; refine Calls.quiet_of_same (hT _)))
      clear hT
      go_wp2
      go_ret
      exact ⟨rfl, HG.out _⟩

theorem time2_any (h : Rd w r ao len cap xs s) :
    Calls Tryz.prog 98 #[.pointer (some ⟨r, 0, none⟩)] w fun e w' => e = .returned (.int .i64 (rnum xs 1099511627775 s).1) ∧ Rd w' r ao len cap xs (rnum xs 1099511627775 s).2 ∧ w.grownBy w' (some r) := by
  have hbd := rnum_bd h.sl.2.2.2.1 1099511627775 (by omega) s
  have HN := ehide3 (number_any 1099511627775 h (by omega) (by omega))
  clear h
  generalize rnum xs 1099511627775 s = R at *
  obtain ⟨b0, b1⟩ := hbd
  go_enter Tryz.func98, Tryz.ntmps98
  go_wp2_with fail
  refine HN.out.mono ?_
  rintro e w1 ⟨rfl, h1, h2⟩
  go_wp2
  go_ret
  exact ⟨rfl, h1, h2⟩
theorem fileNumber_any (h : Rd w r ao len cap xs s) :
    Calls Tryz.prog 198 #[.pointer (some ⟨r, 0, none⟩)] w fun e w' => e = .returned (.int .i64 (rnum xs 2147483647 s).1) ∧ Rd w' r ao len cap xs (rnum xs 2147483647 s).2 ∧ w.grownBy w' (some r) := by
  have hbd := rnum_bd h.sl.2.2.2.1 2147483647 (by omega) s
  have HN := ehide3 (number_any 2147483647 h (by omega) (by omega))
  clear h
  generalize rnum xs 2147483647 s = R at *
  obtain ⟨b0, b1⟩ := hbd
  go_enter Tryz.func198, Tryz.ntmps198
  go_wp2_with fail
  refine HN.out.mono ?_
  rintro e w1 ⟨rfl, h1, h2⟩
  go_wp2
  go_ret
  exact ⟨rfl, h1, h2⟩

end
end Go.Proofs.YthfcjfhaoabdeaaGreatDoor

/-
  The program's reader: a mark.
-/
set_option linter.unusedVariables false
set_option linter.unusedSimpArgs false
namespace Go.Proofs.YthfcjfhaoabdeaaGreatDoor
open Go.RowKit Go.Maps

section
variable {w : World} {r : Nat} {ao : Option Addr} {len cap : Nat} {xs : List Int} {s : Rs}
set_option maxRecDepth 100000
set_option maxHeartbeats 1500000

theorem mark_any (lo hi : Int) (h : Rd w r ao len cap xs s) (h0 : 0 ≤ lo) (h1 : hi ≤ 255) :
    Calls Tryz.prog 152 #[.pointer (some ⟨r, 0, none⟩), .int .u8 lo, .int .u8 hi] w fun e w' => e = .returned (.int .u8 (rmark xs lo hi s).1) ∧ Rd w' r ao len cap xs (rmark xs lo hi s).2 ∧ w.grownBy w' (some r) := by
  obtain ⟨c0, c1, c2⟩ := h.cells
  have f1 := h.free 1
  have f2 := h.free 2
  have hlt := h.lt
  have hbad : ∀ nq, Rd ((w.drewN nq).setCell ⟨r, 2, none⟩ (.bool true)) r ao len cap xs (.bad s.pos) ∧ w.grownBy ((w.drewN nq).setCell ⟨r, 2, none⟩ (.bool true)) (some r) := fun nq => ⟨(h.drewN nq).toBad, grown_drew (grown_set _ _ _ _)⟩
  have HBAD := ehide3 hbad
  clear hbad
  cases s with
  | bad p =>
    have eR : rmark xs lo hi (.bad p) = (0, .bad p) := rfl
    rw [eR]
    have HH := ehide3 h
    clear h
    simp only [Rs.pos, Rs.isBad] at c1 c2 HBAD
    go_enter Tryz.func152, Tryz.ntmps152
    go_wp2
    go_quiet (fail)
    go_wp2
    go_ret
    exact ⟨rfl, HBAD.out _⟩
  | «at» n =>
    simp only [Rs.pos, Rs.isBad] at c1 c2 HBAD
    have hxl := h.sl.1
    have hle := h.le
    have hlen63 : (len : Int) ≤ 9223372036854775807 := by have := h.sl.2.1; have := h.sl.2.2.1; unfold maxLen at this; omega
    simp only [Rs.pos] at hle
    by_cases hn : n < len
    case neg =>
      have eR : rmark xs lo hi (.at n) = (0, .bad n) := by simp only [rmark]; rw [if_neg (by omega)]
      rw [eR]
      have hd : decide ((len : Int) ≤ (n : Int)) = true := by simp; omega
      have hdN : decide (len ≤ n) = true := by simp; omega
      have hd2 : (len : Int) ≤ (n : Int) := by omega
      have HH := ehide3 h
      clear h
      go_enter Tryz.func152, Tryz.ntmps152
      go_wp2
      go_quiet (fail)
      go_wp2
      go_ret
      exact ⟨rfl, HBAD.out _⟩
    obtain ⟨b, off, rfl, hbl, hcell⟩ := h.sl.2.2.2.2.2 (by omega)
    obtain ⟨x, hx⟩ : ∃ x, x = xs.getD n 0 := ⟨_, rfl⟩
    have hcx := hcell n hn
    rw [← hx] at hcx
    have hxb := h.sl.2.2.2.1.getD n
    rw [← hx] at hxb
    obtain ⟨hx0, hx1⟩ := hxb
    have hd : decide ((len : Int) ≤ (n : Int)) = false := by simp; omega
    have hdN : decide (len ≤ n) = false := by simp; omega
    have hdM : ¬ len ≤ n := by omega
    have hd2 : ¬ (len : Int) ≤ (n : Int) := by omega
    have hni : (n : Int) < (len : Int) := by omega
    have HX := ehide3 hx
    clear hx hcell
    by_cases hlo : x < lo
    · have eR : rmark xs lo hi (.at n) = (0, .bad n) := by simp only [rmark]; rw [if_neg (by rw [← HX.out]; omega)]
      rw [eR]
      have hdl : decide (x < lo) = true := by simpa using hlo
      have HH := ehide3 h
      clear h
      go_enter Tryz.func152, Tryz.ntmps152
      go_wp2
      go_quiet (fail)
      go_wp2
      go_ret
      exact ⟨rfl, HBAD.out _⟩
    have hdl : decide (x < lo) = false := by simpa using hlo
    by_cases hhi : hi < x
    · have eR : rmark xs lo hi (.at n) = (0, .bad n) := by simp only [rmark]; rw [if_neg (by rw [← HX.out]; omega)]
      rw [eR]
      have hdh : decide (hi < x) = true := by simpa using hhi
      have HH := ehide3 h
      clear h
      go_enter Tryz.func152, Tryz.ntmps152
      go_wp2
      go_quiet (fail)
      go_wp2
      go_ret
      exact ⟨rfl, HBAD.out _⟩
    have hdh : decide (hi < x) = false := by simpa using hhi
    have eR : rmark xs lo hi (.at n) = (x, .at (n + 1)) := by simp only [rmark]; rw [if_pos (by rw [← HX.out]; omega), ← HX.out]
    rw [eR]
    have hgood : ∀ nq, Rd ((w.drewN nq).setCell ⟨r, 1, none⟩ (.int .i64 ((n : Int) + 1))) r (some ⟨b, off, none⟩) len cap xs (.at (n + 1)) ∧ w.grownBy ((w.drewN nq).setCell ⟨r, 1, none⟩ (.int .i64 ((n : Int) + 1))) (some r) := fun nq => ⟨(h.drewN nq).toAt (n + 1) (by omega), grown_drew (grown_set _ _ _ _)⟩
    have HG := ehide3 hgood
    clear h hgood HBAD
    go_enter Tryz.func152, Tryz.ntmps152
    go_wp2
    go_quiet (fail)
    go_wp2
    go_quiet (fail)
    go_wp2
    go_ret
    exact ⟨rfl, HG.out _⟩
end
end Go.Proofs.YthfcjfhaoabdeaaGreatDoor

/-
  The functions in fields that read.
-/
set_option linter.unusedVariables false
set_option linter.unusedSimpArgs false
namespace Go.Proofs.YthfcjfhaoabdeaaGreatDoor
open Go.RowKit Go.Maps

/-- A block behind what a reader did. -/
theorem res3 {w w1 : World} {n r : Nat} {cs : Array Value} {t : TypeId} (h : w.heap[n]? = some (.cells cs t (0, 0))) (hg : w.grownBy w1 (some r)) (hn : n ≠ r) : w1.heap[n]? = some (.cells cs t (0, 0)) :=
  (hg.block n (Array.getElem?_eq_some_iff.1 h).1 (by simpa using hn)).trans h
theorem grown_of_below {w w' : World} (h : Below w.heap.size w w') (row : Option Nat) : w.grownBy w' row := ⟨h.os, h.tape, h.output, h.size, fun k hk _ => h.block k hk⟩

theorem Sl.off2 {w w' : World} {ao : Option Addr} {len cap : Nat} {xs : List Int} (h : Sl w ao len cap xs) {r : Nat} {cs : Array Value} {t : TypeId} {fz : Nat × Nat} (hr : w.heap[r]? = some (.cells cs t fz))
    (hc : ∀ (i : Nat) (n : Int), cs[i]? ≠ some (Value.int .u8 n)) (hg : w.grownBy w' (some r)) : Sl w' ao len cap xs := by
  obtain ⟨h1, h2, h3, h4, h5, h6⟩ := h
  refine ⟨h1, h2, h3, h4, h5, fun hl => ?_⟩
  obtain ⟨bl, off, e, hlt, hcl⟩ := h6 hl
  have hne : some bl ≠ some r := fun e2 => by
    cases e2
    have h7 := hcl 0 hl
    rw [Go.Joins.cell_of_block hr] at h7
    exact hc _ _ h7
  exact ⟨bl, off, e, Nat.lt_of_lt_of_le hlt hg.size, fun i hi => (World.cell?_of_block (hg.block bl hlt hne)).trans (hcl i hi)⟩

section
variable {w w1 W : World} {r : Nat} {ao : Option Addr} {len cap : Nat} {xs : List Int} {s : Rs}
/-- A result is laid into a block of its own. -/
theorem Rd.laid (h : Rd w1 r ao len cap xs s) (G : w.grownBy w1 (some r)) (hr : r < w.heap.size) {n : Nat} (hn : w.heap.size ≤ n) {cs : Array Value} {t : TypeId} (z : w1.heap[n]? = some (.cells cs t (0, 0))) (hc : ∀ (i : Nat) (m : Int), cs[i]? ≠ some (Value.int .u8 m)) (hW : w1.grownBy W (some n)) :
    Rd W r ao len cap xs s ∧ w.grownBy W (some r) := by
  have hs := G.size
  refine ⟨⟨(hW.block r h.lt (by simp; omega)).trans h.blk, h.sl.off2 z hc hW, h.le⟩, ⟨hW.os.trans G.os, hW.tape.trans G.tape, hW.output.trans G.output, Nat.le_trans hs hW.size, fun k hk hne => (hW.block k (by omega) (by simp; omega)).trans (G.block k hk hne)⟩⟩
theorem set3 (w : World) (n : Nat) (a b c : Value) : w.grownBy (((w.setCell ⟨n, 0, none⟩ a).setCell ⟨n, 1, none⟩ b).setCell ⟨n, 2, none⟩ c) (some n) := ((grown_set w n 0 a).trans (grown_set _ n 1 b)).trans (grown_set _ n 2 c)
theorem set2 (w : World) (n : Nat) (a b : Value) : w.grownBy ((w.setCell ⟨n, 0, none⟩ a).setCell ⟨n, 1, none⟩ b) (some n) := (grown_set w n 0 a).trans (grown_set _ n 1 b)
theorem blk_set3 {w : World} {n : Nat} {x y z : Value} {t : TypeId} (h : w.heap[n]? = some (.cells #[x, y, z] t (0, 0))) (a b c : Value) : (((w.setCell ⟨n, 0, none⟩ a).setCell ⟨n, 1, none⟩ b).setCell ⟨n, 2, none⟩ c).heap[n]? = some (.cells #[a, b, c] t (0, 0)) :=
  (Go.Joins.block_setCell (Go.Joins.block_setCell (Go.Joins.block_setCell h a) b) c).trans rfl
theorem blk_set2 {w : World} {n : Nat} {x y : Value} {t : TypeId} (h : w.heap[n]? = some (.cells #[x, y] t (0, 0))) (a b : Value) : ((w.setCell ⟨n, 0, none⟩ a).setCell ⟨n, 1, none⟩ b).heap[n]? = some (.cells #[a, b] t (0, 0)) :=
  (Go.Joins.block_setCell (Go.Joins.block_setCell h a) b).trans rfl
theorem no3 {a b c : Value} (ha : ∀ n, a ≠ .int .u8 n) (hb : ∀ n, b ≠ .int .u8 n) (hc : ∀ n, c ≠ .int .u8 n) : ∀ (i : Nat) (m : Int), (#[a, b, c] : Array Value)[i]? ≠ some (Value.int .u8 m) := by
  intro i m h
  rcases i with _ | _ | _ | n
  · simp at h; exact ha _ h
  · simp at h; exact hb _ h
  · simp at h; exact hc _ h
  · simp at h
theorem no2 {a b : Value} (ha : ∀ n, a ≠ .int .u8 n) (hb : ∀ n, b ≠ .int .u8 n) : ∀ (i : Nat) (m : Int), (#[a, b] : Array Value)[i]? ≠ some (Value.int .u8 m) := by
  intro i m h
  rcases i with _ | _ | n
  · simp at h; exact ha _ h
  · simp at h; exact hb _ h
  · simp at h
end

section
variable {w : World} {r : Nat} {ao : Option Addr} {len cap : Nat} {xs : List Int} {s : Rs}
set_option maxRecDepth 100000
set_option maxHeartbeats 2000000

theorem takePair_any (h : Rd w r ao len cap xs s) :
    Calls Tryz.prog 243 #[.pointer (some ⟨r, 0, none⟩)] w fun e w' => e = .returned (rpr xs s).1.v ∧ Rd w' r ao len cap xs (rpr xs s).2 ∧ w.grownBy w' (some r) := by
  have hne : w.heap.size ≠ r := by have := h.lt; omega
  have hlt := h.lt
  have z0 := heap_alloc_new w (.cells #[.int .i64 0, .int .i64 0, .int .i64 0] 206)
  have G0 : w.grownBy (w.alloc (.cells #[.int .i64 0, .int .i64 0, .int .i64 0] 206)) (some r) := World.grownBy_alloc w _ _
  have h0 := h.keep ((Below.refl _ _).alloc (Nat.le_refl _) (.cells #[.int .i64 0, .int .i64 0, .int .i64 0] 206))
  clear h
  unfold rpr Pr.v
  simp only []
  obtain ⟨R1, e1⟩ : ∃ R, R = rnum xs 2147483647 s := ⟨_, rfl⟩
  obtain ⟨R2, e2⟩ : ∃ R, R = rnum xs 1099511627775 R1.2 := ⟨_, rfl⟩
  obtain ⟨R3, e3⟩ : ∃ R, R = rnum xs 1099511627775 R2.2 := ⟨_, rfl⟩
  rw [← e1, ← e2, ← e3]
  (try rw [← e1] at hm)
  have E1 := ehide3 e1
  clear e1
  have E2 := ehide3 e2
  clear e2
  have E3 := ehide3 e3
  clear e3
  have HC1 := ehide3 (fileNumber_any h0)
  go_enter Tryz.func243, Tryz.ntmps243
  go_wp2_with fail
  refine HC1.out.mono ?_
  rintro e w1 ⟨rfl, h1, g1⟩
  rw [← E1.out] at h1 ⊢
  have z1 := res3 z0 g1 hne
  have G1 := G0.trans g1
  clear HC1 z0 g1 G0 h0
  have HC2 := ehide3 (time2_any h1)
  go_wp2_with fail
  refine HC2.out.mono ?_
  rintro e w2 ⟨rfl, h2, g2⟩
  rw [← E2.out] at h2 ⊢
  have z2 := res3 z1 g2 hne
  have G2 := G1.trans g2
  clear HC2 z1 g2 G1 h1
  have HC3 := ehide3 (time2_any h2)
  go_wp2_with fail
  refine HC3.out.mono ?_
  rintro e w3 ⟨rfl, h3, g3⟩
  rw [← E3.out] at h3 ⊢
  have z3 := res3 z2 g3 hne
  have G3 := G2.trans g3
  clear HC3 z2 g3 G2 h2
  have c0 : w3.cell? ⟨w.heap.size, 0, none⟩ = some (.int .i64 0) := by rw [Go.Joins.cell_of_block z3]; rfl
  have f0 := Go.Joins.unfrozen_of_block z3 0
  have c1 : w3.cell? ⟨w.heap.size, 1, none⟩ = some (.int .i64 0) := by rw [Go.Joins.cell_of_block z3]; rfl
  have f1 := Go.Joins.unfrozen_of_block z3 1
  have c2 : w3.cell? ⟨w.heap.size, 2, none⟩ = some (.int .i64 0) := by rw [Go.Joins.cell_of_block z3]; rfl
  have f2 := Go.Joins.unfrozen_of_block z3 2
  have HF := ehide3 (h3.laid G3 hlt (Nat.le_refl _) z3 (no3 (by simp) (by simp) (by simp)) (set3 _ _ (.int .i64 R1.1) (.int .i64 R2.1) (.int .i64 R3.1)))
  have zW : (((w3.setCell ⟨w.heap.size, 0, none⟩ (.int .i64 R1.1)).setCell ⟨w.heap.size, 1, none⟩ (.int .i64 R2.1)).setCell ⟨w.heap.size, 2, none⟩ (.int .i64 R3.1)).heap[w.heap.size]? = some (.cells #[.int .i64 R1.1, .int .i64 R2.1, .int .i64 R3.1] 206 (0, 0)) := blk_set3 z3 _ _ _
  go_wp2
  generalize (((w3.setCell ⟨w.heap.size, 0, none⟩ (.int .i64 R1.1)).setCell ⟨w.heap.size, 1, none⟩ (.int .i64 R2.1)).setCell ⟨w.heap.size, 2, none⟩ (.int .i64 R3.1)) = W at HF zW ⊢
  clear c0 f0 c1 f1 c2 f2
  have y0 : W.cell? ⟨w.heap.size, 0, none⟩ = some (.int .i64 R1.1) := (by rw [Go.Joins.cell_of_block zW]; rfl)
  have y1 : W.cell? ⟨w.heap.size, 1, none⟩ = some (.int .i64 R2.1) := (by rw [Go.Joins.cell_of_block zW]; rfl)
  have y2 : W.cell? ⟨w.heap.size, 2, none⟩ = some (.int .i64 R3.1) := (by rw [Go.Joins.cell_of_block zW]; rfl)
  refine bodyPost_ret (v := .agg #[.int .i64 R1.1, .int .i64 R2.1, .int .i64 R3.1]) (by simp [results, Tryz.results243, go_sem, y0, y1, y2]) rfl ⟨rfl, HF.out⟩

theorem takeRow_any (h : Rd w r ao len cap xs s) :
    Calls Tryz.prog 96 #[.pointer (some ⟨r, 0, none⟩)] w fun e w' => e = .returned (Rw.v ⟨(rtxt xs 16 s).1, (rtxt xs 64 (rtxt xs 16 s).2).1, (rnum xs 1099511627775 (rtxt xs 64 (rtxt xs 16 s).2).2).1⟩) ∧ Rd w' r ao len cap xs (rnum xs 1099511627775 (rtxt xs 64 (rtxt xs 16 s).2).2).2 ∧ w.grownBy w' (some r) := by
  have hne : w.heap.size ≠ r := by have := h.lt; omega
  have hlt := h.lt
  have z0 := heap_alloc_new w (.cells #[.string .empty, .string .empty, .int .i64 0] 33)
  have G0 : w.grownBy (w.alloc (.cells #[.string .empty, .string .empty, .int .i64 0] 33)) (some r) := World.grownBy_alloc w _ _
  have h0 := h.keep ((Below.refl _ _).alloc (Nat.le_refl _) (.cells #[.string .empty, .string .empty, .int .i64 0] 33))
  clear h
  unfold Rw.v
  simp only []
  obtain ⟨R1, e1⟩ : ∃ R, R = rtxt xs 16 s := ⟨_, rfl⟩
  obtain ⟨R2, e2⟩ : ∃ R, R = rtxt xs 64 R1.2 := ⟨_, rfl⟩
  obtain ⟨R3, e3⟩ : ∃ R, R = rnum xs 1099511627775 R2.2 := ⟨_, rfl⟩
  rw [← e1, ← e2, ← e3]
  (try rw [← e1] at hm)
  have E1 := ehide3 e1
  clear e1
  have E2 := ehide3 e2
  clear e2
  have E3 := ehide3 e3
  clear e3
  have HC1 := ehide3 (text_any 16 h0 (by omega) (by omega))
  go_enter Tryz.func96, Tryz.ntmps96
  go_wp2_with fail
  refine HC1.out.mono ?_
  rintro e w1 ⟨rfl, h1, g1⟩
  rw [← E1.out] at h1 ⊢
  have z1 := res3 z0 g1 hne
  have G1 := G0.trans g1
  clear HC1 z0 g1 G0 h0
  have HC2 := ehide3 (text_any 64 h1 (by omega) (by omega))
  go_wp2_with fail
  refine HC2.out.mono ?_
  rintro e w2 ⟨rfl, h2, g2⟩
  rw [← E2.out] at h2 ⊢
  have z2 := res3 z1 g2 hne
  have G2 := G1.trans g2
  clear HC2 z1 g2 G1 h1
  have HC3 := ehide3 (time2_any h2)
  go_wp2_with fail
  refine HC3.out.mono ?_
  rintro e w3 ⟨rfl, h3, g3⟩
  rw [← E3.out] at h3 ⊢
  have z3 := res3 z2 g3 hne
  have G3 := G2.trans g3
  clear HC3 z2 g3 G2 h2
  have c0 : w3.cell? ⟨w.heap.size, 0, none⟩ = some (.string .empty) := by rw [Go.Joins.cell_of_block z3]; rfl
  have f0 := Go.Joins.unfrozen_of_block z3 0
  have c1 : w3.cell? ⟨w.heap.size, 1, none⟩ = some (.string .empty) := by rw [Go.Joins.cell_of_block z3]; rfl
  have f1 := Go.Joins.unfrozen_of_block z3 1
  have c2 : w3.cell? ⟨w.heap.size, 2, none⟩ = some (.int .i64 0) := by rw [Go.Joins.cell_of_block z3]; rfl
  have f2 := Go.Joins.unfrozen_of_block z3 2
  have HF := ehide3 (h3.laid G3 hlt (Nat.le_refl _) z3 (no3 (by simp) (by simp) (by simp)) (set3 _ _ (.string R1.1) (.string R2.1) (.int .i64 R3.1)))
  have zW : (((w3.setCell ⟨w.heap.size, 0, none⟩ (.string R1.1)).setCell ⟨w.heap.size, 1, none⟩ (.string R2.1)).setCell ⟨w.heap.size, 2, none⟩ (.int .i64 R3.1)).heap[w.heap.size]? = some (.cells #[.string R1.1, .string R2.1, .int .i64 R3.1] 33 (0, 0)) := blk_set3 z3 _ _ _
  go_wp2
  generalize (((w3.setCell ⟨w.heap.size, 0, none⟩ (.string R1.1)).setCell ⟨w.heap.size, 1, none⟩ (.string R2.1)).setCell ⟨w.heap.size, 2, none⟩ (.int .i64 R3.1)) = W at HF zW ⊢
  clear c0 f0 c1 f1 c2 f2
  have y0 : W.cell? ⟨w.heap.size, 0, none⟩ = some (.string R1.1) := (by rw [Go.Joins.cell_of_block zW]; rfl)
  have y1 : W.cell? ⟨w.heap.size, 1, none⟩ = some (.string R2.1) := (by rw [Go.Joins.cell_of_block zW]; rfl)
  have y2 : W.cell? ⟨w.heap.size, 2, none⟩ = some (.int .i64 R3.1) := (by rw [Go.Joins.cell_of_block zW]; rfl)
  refine bodyPost_ret (v := .agg #[.string R1.1, .string R2.1, .int .i64 R3.1]) (by simp [results, Tryz.results96, go_sem, y0, y1, y2]) rfl ⟨rfl, HF.out⟩

theorem takeWriteG_any (h : Rd w r ao len cap xs s) (hm : (rmark xs 0 1 s).1 = 1) :
    Calls Tryz.prog 151 #[.pointer (some ⟨r, 0, none⟩)] w fun e w' => e = .returned (Wr.v ⟨(rtxt xs 16 (rmark xs 0 1 s).2).1, ⟨#[]⟩, true⟩) ∧ Rd w' r ao len cap xs (rtxt xs 16 (rmark xs 0 1 s).2).2 ∧ w.grownBy w' (some r) := by
  have hne : w.heap.size ≠ r := by have := h.lt; omega
  have hlt := h.lt
  have z0 := heap_alloc_new w (.cells #[.string .empty, .string .empty, .bool false] 37)
  have G0 : w.grownBy (w.alloc (.cells #[.string .empty, .string .empty, .bool false] 37)) (some r) := World.grownBy_alloc w _ _
  have h0 := h.keep ((Below.refl _ _).alloc (Nat.le_refl _) (.cells #[.string .empty, .string .empty, .bool false] 37))
  clear h
  unfold Wr.v
  simp only []
  obtain ⟨R1, e1⟩ : ∃ R, R = rmark xs 0 1 s := ⟨_, rfl⟩
  obtain ⟨R2, e2⟩ : ∃ R, R = rtxt xs 16 R1.2 := ⟨_, rfl⟩
  rw [← e1, ← e2]
  (try rw [← e1] at hm)
  have E1 := ehide3 e1
  clear e1
  have E2 := ehide3 e2
  clear e2
  have HC1 := ehide3 (mark_any 0 1 h0 (by omega) (by omega))
  go_enter Tryz.func151, Tryz.ntmps151
  go_wp2_with fail
  refine HC1.out.mono ?_
  rintro e w1 ⟨rfl, h1, g1⟩
  rw [← E1.out] at h1 ⊢
  have z1 := res3 z0 g1 hne
  have G1 := G0.trans g1
  clear HC1 z0 g1 G0 h0
  have HC2 := ehide3 (text_any 16 h1 (by omega) (by omega))
  go_wp2_with fail
  refine HC2.out.mono ?_
  rintro e w2 ⟨rfl, h2, g2⟩
  rw [← E2.out] at h2 ⊢
  have z2 := res3 z1 g2 hne
  have G2 := G1.trans g2
  clear HC2 z1 g2 G1 h1
  have c0 : w2.cell? ⟨w.heap.size, 0, none⟩ = some (.string .empty) := by rw [Go.Joins.cell_of_block z2]; rfl
  have f0 := Go.Joins.unfrozen_of_block z2 0
  have c1 : w2.cell? ⟨w.heap.size, 1, none⟩ = some (.string .empty) := by rw [Go.Joins.cell_of_block z2]; rfl
  have f1 := Go.Joins.unfrozen_of_block z2 1
  have c2 : w2.cell? ⟨w.heap.size, 2, none⟩ = some (.bool false) := by rw [Go.Joins.cell_of_block z2]; rfl
  have f2 := Go.Joins.unfrozen_of_block z2 2
  have HF := ehide3 (h2.laid G2 hlt (Nat.le_refl _) z2 (no3 (by simp) (by simp) (by simp)) (set3 _ _ (.string R2.1) (.string ⟨#[]⟩) (.bool true)))
  have zW : (((w2.setCell ⟨w.heap.size, 0, none⟩ (.string R2.1)).setCell ⟨w.heap.size, 1, none⟩ (.string ⟨#[]⟩)).setCell ⟨w.heap.size, 2, none⟩ (.bool true)).heap[w.heap.size]? = some (.cells #[.string R2.1, .string ⟨#[]⟩, .bool true] 37 (0, 0)) := blk_set3 z2 _ _ _
  go_wp2
  generalize (((w2.setCell ⟨w.heap.size, 0, none⟩ (.string R2.1)).setCell ⟨w.heap.size, 1, none⟩ (.string ⟨#[]⟩)).setCell ⟨w.heap.size, 2, none⟩ (.bool true)) = W at HF zW ⊢
  clear c0 f0 c1 f1 c2 f2
  have y0 : W.cell? ⟨w.heap.size, 0, none⟩ = some (.string R2.1) := (by rw [Go.Joins.cell_of_block zW]; rfl)
  have y1 : W.cell? ⟨w.heap.size, 1, none⟩ = some (.string ⟨#[]⟩) := (by rw [Go.Joins.cell_of_block zW]; rfl)
  have y2 : W.cell? ⟨w.heap.size, 2, none⟩ = some (.bool true) := (by rw [Go.Joins.cell_of_block zW]; rfl)
  refine bodyPost_ret (v := .agg #[.string R2.1, .string ⟨#[]⟩, .bool true]) (by simp [results, Tryz.results151, go_sem, y0, y1, y2]) rfl ⟨rfl, HF.out⟩

theorem takeWriteV_any (h : Rd w r ao len cap xs s) (hm : ¬ (rmark xs 0 1 s).1 = 1) :
    Calls Tryz.prog 151 #[.pointer (some ⟨r, 0, none⟩)] w fun e w' => e = .returned (Wr.v ⟨(rtxt xs 16 (rmark xs 0 1 s).2).1, (rtxt xs 64 (rtxt xs 16 (rmark xs 0 1 s).2).2).1, false⟩) ∧ Rd w' r ao len cap xs (rtxt xs 64 (rtxt xs 16 (rmark xs 0 1 s).2).2).2 ∧ w.grownBy w' (some r) := by
  have hne : w.heap.size ≠ r := by have := h.lt; omega
  have hlt := h.lt
  have z0 := heap_alloc_new w (.cells #[.string .empty, .string .empty, .bool false] 37)
  have G0 : w.grownBy (w.alloc (.cells #[.string .empty, .string .empty, .bool false] 37)) (some r) := World.grownBy_alloc w _ _
  have h0 := h.keep ((Below.refl _ _).alloc (Nat.le_refl _) (.cells #[.string .empty, .string .empty, .bool false] 37))
  clear h
  unfold Wr.v
  simp only []
  obtain ⟨R1, e1⟩ : ∃ R, R = rmark xs 0 1 s := ⟨_, rfl⟩
  obtain ⟨R2, e2⟩ : ∃ R, R = rtxt xs 16 R1.2 := ⟨_, rfl⟩
  obtain ⟨R3, e3⟩ : ∃ R, R = rtxt xs 64 R2.2 := ⟨_, rfl⟩
  rw [← e1, ← e2, ← e3]
  (try rw [← e1] at hm)
  have E1 := ehide3 e1
  clear e1
  have E2 := ehide3 e2
  clear e2
  have E3 := ehide3 e3
  clear e3
  have HC1 := ehide3 (mark_any 0 1 h0 (by omega) (by omega))
  go_enter Tryz.func151, Tryz.ntmps151
  go_wp2_with fail
  refine HC1.out.mono ?_
  rintro e w1 ⟨rfl, h1, g1⟩
  rw [← E1.out] at h1 ⊢
  have z1 := res3 z0 g1 hne
  have G1 := G0.trans g1
  clear HC1 z0 g1 G0 h0
  have HC2 := ehide3 (text_any 16 h1 (by omega) (by omega))
  go_wp2_with fail
  refine HC2.out.mono ?_
  rintro e w2 ⟨rfl, h2, g2⟩
  rw [← E2.out] at h2 ⊢
  have z2 := res3 z1 g2 hne
  have G2 := G1.trans g2
  clear HC2 z1 g2 G1 h1
  have HC3 := ehide3 (text_any 64 h2 (by omega) (by omega))
  go_wp2_with fail
  refine HC3.out.mono ?_
  rintro e w3 ⟨rfl, h3, g3⟩
  rw [← E3.out] at h3 ⊢
  have z3 := res3 z2 g3 hne
  have G3 := G2.trans g3
  clear HC3 z2 g3 G2 h2
  have c0 : w3.cell? ⟨w.heap.size, 0, none⟩ = some (.string .empty) := by rw [Go.Joins.cell_of_block z3]; rfl
  have f0 := Go.Joins.unfrozen_of_block z3 0
  have c1 : w3.cell? ⟨w.heap.size, 1, none⟩ = some (.string .empty) := by rw [Go.Joins.cell_of_block z3]; rfl
  have f1 := Go.Joins.unfrozen_of_block z3 1
  have c2 : w3.cell? ⟨w.heap.size, 2, none⟩ = some (.bool false) := by rw [Go.Joins.cell_of_block z3]; rfl
  have f2 := Go.Joins.unfrozen_of_block z3 2
  have HF := ehide3 (h3.laid G3 hlt (Nat.le_refl _) z3 (no3 (by simp) (by simp) (by simp)) (set3 _ _ (.string R2.1) (.string R3.1) (.bool false)))
  have zW : (((w3.setCell ⟨w.heap.size, 0, none⟩ (.string R2.1)).setCell ⟨w.heap.size, 1, none⟩ (.string R3.1)).setCell ⟨w.heap.size, 2, none⟩ (.bool false)).heap[w.heap.size]? = some (.cells #[.string R2.1, .string R3.1, .bool false] 37 (0, 0)) := blk_set3 z3 _ _ _
  go_wp2
  generalize (((w3.setCell ⟨w.heap.size, 0, none⟩ (.string R2.1)).setCell ⟨w.heap.size, 1, none⟩ (.string R3.1)).setCell ⟨w.heap.size, 2, none⟩ (.bool false)) = W at HF zW ⊢
  clear c0 f0 c1 f1 c2 f2
  have y0 : W.cell? ⟨w.heap.size, 0, none⟩ = some (.string R2.1) := (by rw [Go.Joins.cell_of_block zW]; rfl)
  have y1 : W.cell? ⟨w.heap.size, 1, none⟩ = some (.string R3.1) := (by rw [Go.Joins.cell_of_block zW]; rfl)
  have y2 : W.cell? ⟨w.heap.size, 2, none⟩ = some (.bool false) := (by rw [Go.Joins.cell_of_block zW]; rfl)
  refine bodyPost_ret (v := .agg #[.string R2.1, .string R3.1, .bool false]) (by simp [results, Tryz.results151, go_sem, y0, y1, y2]) rfl ⟨rfl, HF.out⟩

theorem takeWrite_any (h : Rd w r ao len cap xs s) :
    Calls Tryz.prog 151 #[.pointer (some ⟨r, 0, none⟩)] w fun e w' => e = .returned (rwr xs s).1.v ∧ Rd w' r ao len cap xs (rwr xs s).2 ∧ w.grownBy w' (some r) := by
  unfold rwr
  by_cases hm : (rmark xs 0 1 s).1 = 1
  · rw [if_pos hm]
    exact takeWriteG_any h hm
  · rw [if_neg hm]
    exact takeWriteV_any h hm
end
end Go.Proofs.YthfcjfhaoabdeaaGreatDoor
