/-
  The walk of the law NumBack.
-/
import Derived.Test.YtckfocfcfflcbaaShown
import Derived.Test.YtckfocfcfflcbaaText
set_option linter.unusedVariables false
set_option linter.unusedSimpArgs false
namespace Go.Proofs.Ytckfocfcfflcbaa
open Go.RowKit

/-- Take of Put is the number, wherever it stands, whatever is behind it. -/
theorem tk_put (xs rest : List Int) (n : Int) (h0 : 0 ≤ n) (h1 : n ≤ 18446744073709551615) :
    tk (xs ++ enc n ++ rest) xs.length = some (n, ((xs.length + (enc n).length : Nat) : Int)) := by
  have hp := enc_pos n
  unfold tk
  rw [if_neg (by simp; omega), Int.toNat_natCast, List.append_assoc, List.drop_left, enc_dec n rest h0 h1]
  simp

theorem tt_put (xs rest ss : List Int) (m : Int) (hm : m = ss.length) (hs : ss.length ≤ 9223372036854775807) :
    tt (xs ++ enc ss.length ++ ss ++ rest) xs.length m = some (ss, ((xs.length + (enc ss.length).length + ss.length : Nat) : Int)) := by
  subst hm
  unfold tt
  rw [List.append_assoc (xs ++ enc ss.length), tk_put xs (ss ++ rest) ss.length (by omega) (by omega)]
  simp only []
  rw [if_neg (by simp; omega)]
  have e1 : (((xs.length + (enc ss.length).length : Nat) : Int) + (ss.length : Int)).toNat = (xs ++ enc ss.length).length + ss.length := by simp; omega
  have e2 : (((xs.length + (enc ss.length).length : Nat) : Int)).toNat = (xs ++ enc ss.length).length := by simp; omega
  rw [e1, e2, List.take_append, List.take_of_length_le (by omega), Nat.add_sub_cancel_left, List.drop_left, List.take_left]
  congr 2

theorem ttVal_sb (s : ByteArray) (p : Int) : ttVal (some (sb s, p)) = .tuple #[.string s, .int .i64 p, .bool true] := by
  unfold ttVal
  simp only [str_sb]

set_option maxHeartbeats 1000000 in
theorem back_walk (ao : Option Addr) (len cap : Nat) (xs : List Int) (n : Int) (s : ByteArray) (ro : Option Addr) (rl rc : Nat) (rs : List Int) (w : World)
    (h : Sl w ao len cap xs) (h0 : 0 ≤ n) (h1 : n ≤ 18446744073709551615) (hr : Sl w ro rl rc rs) (hl : len ≤ 1048576) (hsz : s.size ≤ 1048576) (hrl : rl ≤ 1048576) :
    Calls Try.prog 5 #[.slice ao len cap, .int .u64 n, .string s, .slice ro rl rc] w fun e w' => e = .returned (.bool true) ∧ Below w.heap.size w w' := by
  obtain ⟨i0, hi, hz0, hz1, hz2⟩ := info_parts Try.info5
  have hx := h.1
  have hrx := hr.1
  have hel := enc_len n
  have hes := enc_len s.size
  go_enter Try.func5, Try.ntmps5
  go_wp2_with fail
  refine (shown_any w).mono ?_
  rintro e w1 ⟨rfl, hb1⟩
  have hs1 := hb1.size
  have g1 := h.below hb1
  have r1 := hr.below hb1
  go_wp2_with fail
  refine (put_any ao len cap xs n w1 g1 h0 h1 (by omega)).mono ?_
  rintro e w2 ⟨vp, rfl, hownP, hb2⟩
  have hs2 := hb2.size
  have r2 := r1.below hb2
  go_wp2_with (first | (at_builtin; refine wpList_append_sl rfl _ _ 22 rfl w1.heap.size i0 Try.underlying22 hi hz0 hz1 hz2 vp _ rfl hownP ro rl rc rs rfl r2 (by rw [List.length_append]; omega) hs2 ?_) | fail)
  intro vx w3 hownX hb3
  have hb13 : Below w1.heap.size w1 w3 := hb2.trans hb3
  have g3 := g1.below hb13
  have r3 := r1.below hb13
  have hbA : Below w.heap.size w w3 := hb1.trans (hb13.mono hs1)
  have hs3 := hbA.size
  have hbytX : Byt (xs ++ enc n ++ rs) := ((g1.2.2.2.1).append (enc_byt n h0)).append r1.2.2.2.1
  rw [← List.append_assoc] at hownX
  obtain ⟨ax, lx, cx, rfl, hslX, _⟩ := hownX.sl' hbytX
  have hlx : xs.length + (enc n).length + rs.length = lx := by have := hslX.1; simpa [Nat.add_assoc] using this
  clear hb3 hb2 hb13 hb1 g1 r1 r2 hownP hownX hs1 hs2 hbytX
  go_wp2_with fail
  refine (take_any ax lx cx _ (len : Int) w3 hslX).mono ?_
  rintro e w4 ⟨rfl, rfl⟩
  have htk := tk_put xs rs n h0 h1
  rw [hx] at htk
  rw [htk]
  unfold tkVal
  clear htk hslX
  go_wp2_with fail
  refine (putText_any ao len cap xs s w4 g3 (by omega)).mono ?_
  rintro e w5 ⟨vq, rfl, hownQ, hb5⟩
  have hs5 := hb5.size
  have r5 := r3.below hb5
  go_wp2_with (first | (at_builtin; refine wpList_append_sl rfl _ _ 22 rfl w4.heap.size i0 Try.underlying22 hi hz0 hz1 hz2 vq _ rfl hownQ ro rl rc rs rfl r5 (by rw [List.length_append, List.length_append, sb_length]; omega) hs5 ?_) | fail)
  intro vy w6 hownY hb6
  have hb46 : Below w4.heap.size w4 w6 := hb5.trans hb6
  have hbB : Below w.heap.size w w6 := hbA.trans (hb46.mono hs3)
  have hbytY : Byt (xs ++ enc s.size ++ sb s ++ rs) := (((g3.2.2.2.1).append (enc_byt _ (by omega))).append (sb_byt s)).append r3.2.2.2.1
  have hownY' : Own w6 w4.heap.size vy (xs ++ enc s.size ++ sb s ++ rs) := by simpa using hownY
  obtain ⟨ay, ly, cy, rfl, hslY, _⟩ := hownY'.sl' hbytY
  have hly : xs.length + (enc s.size).length + s.size + rs.length = ly := by have := hslY.1; simpa [Nat.add_assoc, sb_length] using this
  clear hb5 hb6 hb46 hbA r3 r5 g3 hownQ hownY hownY' hs3 hs5 hbytY
  go_wp2_with fail
  refine (takeText_any ay ly cy _ (len : Int) (s.size : Int) w6 hslY (by omega) (by omega)).mono ?_
  rintro e w7 ⟨rfl, rfl⟩
  have htt := tt_put xs rs (sb s) (s.size : Int) (by rw [sb_length]) (by rw [sb_length]; omega)
  rw [hx, sb_length] at htt
  rw [htt, ttVal_sb]
  have e1 : ((lx : Int) - (rl : Int)) = (len : Int) + ((enc n).length : Int) := by omega
  have e2 : ((ly : Int) - (rl : Int)) = (len : Int) + ((enc s.size).length : Int) + (s.size : Int) := by omega
  have b1 : (lx : Int) ≤ 10000000 := by omega
  have b2 : (ly : Int) ≤ 10000000 := by omega
  clear htt hslY hlx hly hx hrx
  go_wp2

  go_ret
  exact ⟨by first | rfl | (simp; done), hbB⟩
end Go.Proofs.Ytckfocfcfflcbaa
