/-
  The walk of the law NumPuts.
-/
import Derived.Test.YtckfocfcfflcbaaShown
import Derived.Test.YtckfocfcfflcbaaText
import Derived.Test.YtckfocfcfflcbaaRef
import Derived.Test.YtckfocfcfflcbaaLent
set_option linter.unusedVariables false
set_option linter.unusedSimpArgs false
namespace Go.Proofs.Ytckfocfcfflcbaa
open Go.RowKit

/-- A slice of bytes in another block than the one that was written. -/
theorem Sl.grown {w w' : World} {g : Nat} {ao : Option Addr} {len cap : Nat} {xs : List Int} (h : Sl w ao len cap xs) (hg : w.grownBy w' (some g)) (hne : ∀ b off, ao = some ⟨b, off, none⟩ → b ≠ g) : Sl w' ao len cap xs := by
  obtain ⟨h1, h2, h3, h4, h5, h6⟩ := h
  refine ⟨h1, h2, h3, h4, h5, fun hl => ?_⟩
  obtain ⟨b, off, e, hlt, hc⟩ := h6 hl
  refine ⟨b, off, e, Nat.lt_of_lt_of_le hlt hg.size, fun i hi => ?_⟩
  have hb := hne b off e
  exact hg.cell (hc i hi) (by simpa using hb)
theorem grownBy_setCell {w w' : World} {g j : Nat} {u : Value} (h : w.grownBy w' (some g)) : w.grownBy (w'.setCell ⟨g, j, none⟩ u) (some g) :=
  ⟨h.os, h.tape, h.output, by simpa [World.setCell] using h.size, fun k hk hne => (Below.heap_setCell _ _ _ _ (by simpa using hne)).trans (h.block k hk hne)⟩
theorem below_grownBy {B g : Nat} {a w w' : World} (h : Below B a w) (hg : w.grownBy w' (some g)) (hB : B ≤ w.heap.size) (hr : B ≤ g) : Below B a w' :=
  h.grown hg hB fun k hk => by cases hk; exact hr

set_option maxHeartbeats 1000000 in
theorem puts_walk (ao : Option Addr) (len cap : Nat) (xs : List Int) (n : Int) (s : ByteArray) (w : World)
    (h : Sl w ao len cap xs) (h0 : 0 ≤ n) (h1 : n ≤ 18446744073709551615) (hl : len ≤ 1048576) (hsz : s.size ≤ 1048576) :
    Calls Try.prog 3 #[.slice ao len cap, .int .u64 n, .string s] w fun e w' => e = .returned (.bool true) ∧ Below w.heap.size w w' := by
  have hx := h.1
  have hbyt := h.2.2.2.1
  have bytX : Byt (xs ++ enc n) := hbyt.append (enc_byt n h0)
  have bytY : Byt (xs ++ enc s.size ++ sb s) := (hbyt.append (enc_byt _ (by omega))).append (sb_byt s)
  go_enter Try.func3, Try.ntmps3
  go_wp2_with fail
  refine (shown_any w).mono ?_
  rintro e w1 ⟨rfl, hb1⟩
  have h1' := h.below hb1
  go_wp2_with fail
  refine (lent_any ao len cap xs w1 h1' (by omega)).mono ?_
  rintro e w2 ⟨rfl, hrow2, hb2⟩
  have hb02 : Below w.heap.size w w2 := hb1.trans (hb2.mono hb1.size)
  obtain ⟨g, hg⟩ : ∃ g, g = w1.heap.size := ⟨_, rfl⟩
  rw [← hg] at hrow2
  have hgw : w.heap.size ≤ g := by rw [hg]; exact hb1.size
  have hA2 := h.below hb02
  have hI2 : Sl w2 (some ⟨g, 0, none⟩) len (len + 16) xs := by
    have := hrow2.sl (hbyt.append (spare_byt 16)) len (by simp; omega) (by simp [spare_len]; unfold maxLen; omega)
    rw [List.length_append, spare_len 16 (by omega), hx] at this
    rwa [List.take_left' hx] at this
  rw [← hg]
  have hg2 : g < w2.heap.size := hrow2.lt
  clear hg hb1 hb2 h1'
  go_wp2_with fail
  refine (put_any (some ⟨g, 0, none⟩) len (len + 16) xs n w2 hI2 h0 h1 (by omega)).mono ?_
  rintro e w3 ⟨vx, rfl, hownX, hb3⟩
  obtain ⟨ax, lx, cx, rfl, slX3, neX⟩ := hownX.sl' bytX
  have hI3 := hI2.below hb3
  have hs3 := hb3.size
  clear hownX
  go_wp2_with fail
  refine (putText_any (some ⟨g, 0, none⟩) len (len + 16) xs s w3 hI3 (by omega)).mono ?_
  rintro e w4 ⟨vy, rfl, hownY, hb4⟩
  obtain ⟨ay, ly, cy, rfl, slY4, neY⟩ := hownY.sl' bytY
  have hb24 : Below w2.heap.size w2 w4 := hb3.trans (hb4.mono hs3)
  have slX4 := slX3.below hb4
  have hs4 := hb24.size
  have hA4 := hA2.below hb24
  clear hownY hb3 hb4 hI3 slX3
  go_wp2_with fail
  refine (refPut_any ao len cap xs n w4 hA4 h0 h1 (by omega)).mono ?_
  rintro e w5 ⟨vwx, rfl, hownWX, hb5⟩
  obtain ⟨awx, lwx, cwx, rfl, slWX, _⟩ := hownWX.sl' bytX
  have hstrWX := slWX.str (P := Try.prog) 22 Try.underlying22 Try.underlying5 Try.underlying9
  have slX5 := slX4.below hb5
  have slY5 := slY4.below hb5
  have hA5 := hA4.below hb5
  have hb25 : Below w2.heap.size w2 w5 := hb24.trans (hb5.mono hs4)
  have hs5 := hb25.size
  clear hownWX hb5 slX4 slY4 hA4 hb24 slWX
  go_wp2_with fail
  refine (refPutText_any ao len cap xs s w5 hA5 (by omega)).mono ?_
  rintro e w6 ⟨vwy, rfl, hownWY, hb6⟩
  obtain ⟨awy, lwy, cwy, rfl, slWY, _⟩ := hownWY.sl' bytY
  have hstrWY := slWY.str (P := Try.prog) 22 Try.underlying22 Try.underlying5 Try.underlying9
  have slX6 := slX5.below hb6
  have slY6 := slY5.below hb6
  have hA6 := hA5.below hb6
  have hb26 : Below w2.heap.size w2 w6 := hb25.trans (hb6.mono hs5)
  have hs6 := hb26.size
  have hrow6 := hrow2.below hb26 hg2
  clear hownWY hb6 slX5 slY5 hA5 hb25 slWY hstrWX
  go_wp2_with fail
  refine (still_any g ao len cap xs w6 hA6 hrow6 (by omega)).mono ?_
  rintro e w7 ⟨rfl, hb7⟩
  have slX7 := slX6.below hb7
  have slY7 := slY6.below hb7
  have hrow7 := hrow6.below hb7 (by omega)
  have hb27 : Below w2.heap.size w2 w7 := hb26.trans (hb7.mono hs6)
  have hs7 := hb27.size
  have hb07 : Below w.heap.size w w7 := hb02.trans (hb27.mono hb02.size)
  have hs07 := hb07.size
  clear hA6 hb26 slX6 slY6 hb7 hrow6 hrow2 hstrWY hb02 hb27
  have hl64 : (len : Int) ≤ 1048576 := by omega
  go_wp2
  go_loopw [14] (fun i wr => ∃ (k : Nat) (ys : List Int), k ≤ len ∧ i = .int .i64 (k : Int) ∧ ys.length = len + 16 ∧ Row wr g ys ∧ w7.grownBy wr (some g)) (fun i _ => len - (intOf i).toNat)
  case atStart => exact ⟨0, xs ++ spare 16, by omega, rfl, by simp [spare_len, hx], hrow7, World.grownBy.refl _ _⟩
  case round =>
    obtain ⟨k, ys, hk, rfl, hyl, hr, hgr⟩ := hrel
    by_cases hlt : k < len
    · have hc := hr.cell k (by omega)
      generalize ys.getD k 0 = old at hc
      have hf := hr.free k
      have hr1 := hide2 (hr.set k 1)
      have hg1 := hide2 (grownBy_setCell (j := k) (u := .int .u8 1) hgr)
      have hi1 : (k : Int) < (len : Int) := by omega
      clear hr hgr slX7 slY7 hb07
      go_wp2
      go_roundw
      case rel => exact ⟨k + 1, ys.set k 1, by omega, by go_num, by simpa using hyl, hr1.out, hg1.out⟩
      case measure => simp [intOf]; omega
    · have hi1 : ¬ (k : Int) < (len : Int) := by omega
      have slX8 := slX7.grown hgr (fun b off e => by have := neX b off e; omega)
      have slY8 := slY7.grown hgr (fun b off e => by have := neY b off e; omega)
      have hstrX := slX8.str (P := Try.prog) 22 Try.underlying22 Try.underlying5 Try.underlying9
      have hstrY := slY8.str (P := Try.prog) 22 Try.underlying22 Try.underlying5 Try.underlying9
      have hb08 := below_grownBy hb07 hgr hs07 hgw
      clear slX7 slY7 slX8 slY8 hr hgr hrow7 hb07
      go_wp2
      go_ret
      exact ⟨by first | rfl | (simp; done), hb08⟩
end Go.Proofs.Ytckfocfcfflcbaa
