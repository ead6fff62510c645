/-
  The program's reader: a number, a text, a mark.
-/
import Derived.Test.YteihabdldiopeaaE3
import Derived.WalkSmall
import Derived.Maps.AppendAt
set_option linter.unusedVariables false
set_option linter.unusedSimpArgs false
namespace Go.Proofs.Yteihabdldiopeaa
open Go.RowKit Go.Maps

/-- Bytes that are read lie apart from a block that holds none in its three cells. -/
theorem Sl.off {w w' : World} {ao : Option Addr} {len cap : Nat} {xs : List Int} (h : Sl w ao len cap xs) {r : Nat} {a b c : Value} {t : TypeId} {fz : Nat × Nat} (hr : w.heap[r]? = some (.cells #[a, b, c] t fz))
    (ha : ∀ n, a ≠ .int .u8 n) (hb : ∀ n, b ≠ .int .u8 n) (hc : ∀ n, c ≠ .int .u8 n) (hg : w.grownBy w' (some r)) : Sl w' ao len cap xs := by
  obtain ⟨h1, h2, h3, h4, h5, h6⟩ := h
  refine ⟨h1, h2, h3, h4, h5, fun hl => ?_⟩
  obtain ⟨bl, off, e, hlt, hcl⟩ := h6 hl
  have hne : some bl ≠ some r := fun e2 => by
    cases e2
    have h7 := hcl 0 hl
    rw [Go.Joins.cell_of_block hr] at h7
    rcases hoff : off + 0 with _ | _ | _ | n
    all_goals rw [hoff] at h7
    · simp at h7; exact ha _ h7
    · simp at h7; exact hb _ h7
    · simp at h7; exact hc _ h7
    · simp at h7
  exact ⟨bl, off, e, Nat.lt_of_lt_of_le hlt hg.size, fun i hi => (World.cell?_of_block (hg.block bl hlt hne)).trans (hcl i hi)⟩

/-- The program's reader, where it stands. -/
structure Rd (w : World) (r : Nat) (ao : Option Addr) (len cap : Nat) (xs : List Int) (s : Rs) : Prop where
  blk : w.heap[r]? = some (.cells #[.slice ao len cap, .int .i64 (s.pos : Int), .bool s.isBad] 120 (0, 0))
  sl : Sl w ao len cap xs
  le : s.pos ≤ len

section
variable {w w' : World} {r : Nat} {ao : Option Addr} {len cap : Nat} {xs : List Int} {s : Rs}
theorem Rd.lt (h : Rd w r ao len cap xs s) : r < w.heap.size := (Array.getElem?_eq_some_iff.1 h.blk).1
theorem Rd.cells (h : Rd w r ao len cap xs s) : w.cell? ⟨r, 0, none⟩ = some (.slice ao len cap) ∧ w.cell? ⟨r, 1, none⟩ = some (.int .i64 (s.pos : Int)) ∧ w.cell? ⟨r, 2, none⟩ = some (.bool s.isBad) := by
  refine ⟨?_, ?_, ?_⟩ <;> (rw [Go.Joins.cell_of_block h.blk]; rfl)
theorem Rd.free (h : Rd w r ao len cap xs s) (i : Nat) : w.frozen? ⟨r, i, none⟩ = false := Go.Joins.unfrozen_of_block h.blk i
/-- Elsewhere something was done. -/
theorem Rd.keep (h : Rd w r ao len cap xs s) (hb : Below w.heap.size w w') : Rd w' r ao len cap xs s := ⟨(hb.block r h.lt).trans h.blk, h.sl.below hb, h.le⟩
theorem Rd.drewN (h : Rd w r ao len cap xs s) (q : Nat) : Rd (w.drewN q) r ao len cap xs s := ⟨h.blk, h.sl.drewN q, h.le⟩
theorem grown_set (w : World) (r i : Nat) (u : Value) : w.grownBy (w.setCell ⟨r, i, none⟩ u) (some r) :=
  ⟨rfl, rfl, rfl, by simp [World.setCell], fun k hk hn => Below.heap_setCell _ _ _ _ (fun e => hn (by rw [e]))⟩
theorem Rd.toAt {n : Nat} (h : Rd w r ao len cap xs (.at n)) (m : Nat) (hm : m ≤ len) : Rd (w.setCell ⟨r, 1, none⟩ (.int .i64 (m : Int))) r ao len cap xs (.at m) :=
  ⟨(Go.Joins.block_setCell h.blk _).trans rfl, h.sl.off h.blk (by simp) (by simp) (by simp) (grown_set _ _ _ _), hm⟩
theorem Rd.toBad (h : Rd w r ao len cap xs s) : Rd (w.setCell ⟨r, 2, none⟩ (.bool true)) r ao len cap xs (.bad s.pos) :=
  ⟨(Go.Joins.block_setCell h.blk _).trans rfl, h.sl.off h.blk (by simp) (by simp) (by simp) (grown_set _ _ _ _), h.le⟩
theorem drew_grown {w w' : World} {row : Option Nat} (h : w.grownBy w' row) (q : Nat) : w.grownBy (w'.drewN q) row := ⟨h.os, h.tape, h.output, h.size, h.block⟩
theorem grown_drew {w w' : World} {row : Option Nat} {q : Nat} (h : (w.drewN q).grownBy w' row) : w.grownBy w' row := ⟨h.os, h.tape, h.output, h.size, h.block⟩
end

section
variable {w : World} {r : Nat} {ao : Option Addr} {len cap : Nat} {xs : List Int} {s : Rs}
set_option maxRecDepth 100000
set_option maxHeartbeats 1000000

theorem number_any (most : Int) (h : Rd w r ao len cap xs s) (h0 : 0 ≤ most) (h1 : most ≤ 18446744073709551615) :
    Calls Try.prog 90 #[.pointer (some ⟨r, 0, none⟩), .int .u64 most] w fun e w' => e = .returned (.int .u64 (rnum xs most s).1) ∧ Rd w' r ao len cap xs (rnum xs most s).2 ∧ w.grownBy w' (some r) := by
  obtain ⟨c0, c1, c2⟩ := h.cells
  have f1 := h.free 1
  have f2 := h.free 2
  have hlt := h.lt
  have hT : ∀ q, Calls Try.prog 99 #[.slice ao len cap, .int .i64 (s.pos : Int)] (w.drewN q) fun e w' => e = .returned (tkVal (tk xs s.pos)) ∧ w' = w.drewN q := fun q => take_any ao len cap xs _ _ (h.sl.drewN q)
  have hbad : ∀ nq, Rd ((w.drewN nq).setCell ⟨r, 2, none⟩ (.bool true)) r ao len cap xs (.bad s.pos) ∧ w.grownBy ((w.drewN nq).setCell ⟨r, 2, none⟩ (.bool true)) (some r) := fun nq => ⟨(h.drewN nq).toBad, grown_drew (grown_set _ _ _ _)⟩
  have HBAD := hide3 hbad
  clear hbad
  cases s with
  | bad p =>
    have eR : rnum xs most (.bad p) = (0, .bad p) := rfl
    rw [eR]
    have HH := hide3 h
    clear h
    simp only [Rs.pos, Rs.isBad] at c1 c2 hT HBAD
    obtain ⟨z0, z1, z2, hz⟩ : ∃ z0 z1 z2, tkVal (tk xs p) = .tuple #[.int .u64 z0, .int .i64 z1, .bool z2] := by
      cases tk xs p with
      | none => exact ⟨_, _, _, rfl⟩
      | some q => exact ⟨_, _, _, rfl⟩
    rw [hz] at hT
    all_goals
      go_enter Try.func90, Try.ntmps90
      go_wp2
      go_quiet ((go_at_call 99; refine Calls.quiet_of_same (hT _)))
      clear hT
      go_wp2
      go_ret
      exact ⟨rfl, HBAD.out _⟩
  | «at» n =>
    simp only [Rs.pos, Rs.isBad] at c1 c2 hT HBAD
    cases ht : tk xs (n : Int) with
    | none =>
      have eR : rnum xs most (.at n) = (0, .bad n) := by simp only [rnum, ht]
      rw [eR]
      rw [ht] at hT
      unfold tkVal at hT
      have HH := hide3 h
      clear h
      go_enter Try.func90, Try.ntmps90
      go_wp2
      go_quiet ((go_at_call 99; refine Calls.quiet_of_same (hT _)))
      clear hT
      go_wp2
      go_ret
      exact ⟨rfl, HBAD.out _⟩
    | some q =>
      obtain ⟨v, nx⟩ := q
      obtain ⟨a, b, -, rfl, -, hb, hv0, hv1, -⟩ := tk_spec h.sl.2.2.2.1 ht
      rw [ht] at hT
      replace hT : ∀ q, Calls Try.prog 99 #[.slice ao len cap, .int .i64 (n : Int)] (w.drewN q) fun e w' => e = .returned (.tuple #[.int .u64 v, .int .i64 (b : Int), .bool true]) ∧ w' = w.drewN q := hT
      have hxl := h.sl.1
      by_cases hvm : v ≤ most
      · have eR : rnum xs most (.at n) = (v, .at b) := by simp only [rnum, ht, if_pos hvm]; rfl
        rw [eR]
        have hgood : ∀ nq, Rd ((w.drewN nq).setCell ⟨r, 1, none⟩ (.int .i64 (b : Int))) r ao len cap xs (.at b) ∧ w.grownBy ((w.drewN nq).setCell ⟨r, 1, none⟩ (.int .i64 (b : Int))) (some r) := fun nq => ⟨(h.drewN nq).toAt b (by omega), grown_drew (grown_set _ _ _ _)⟩
        have HG := hide3 hgood
        have hvm' : ¬ most < v := by omega
        clear h hgood HBAD
        go_enter Try.func90, Try.ntmps90
        go_wp2
        go_quiet ((go_at_call 99; refine Calls.quiet_of_same (hT _)))
        clear hT
        go_wp2
        go_ret
        exact ⟨rfl, HG.out _⟩
      · have eR : rnum xs most (.at n) = (0, .bad n) := by simp only [rnum, ht, if_neg hvm]
        rw [eR]
        have hvm' : most < v := by omega
        have HH := hide3 h
        clear h
        go_enter Try.func90, Try.ntmps90
        go_wp2
        go_quiet ((go_at_call 99; refine Calls.quiet_of_same (hT _)))
        clear hT
        go_wp2
        go_ret
        exact ⟨rfl, HBAD.out _⟩
end
end Go.Proofs.Yteihabdldiopeaa
