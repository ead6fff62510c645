/-
  Turns of the program.
-/
import Derived.Test.YtnpmldlnckbppaaDoorT3
import Derived.Test.YtnpmldlnckbppaaDoorS5
set_option linter.unusedVariables false
set_option linter.unusedSimpArgs false
namespace Go.Proofs.YtnpmldlnckbppaaDoor
open Go.RowKit

def mayT (n window len : Int) : Bool := decide (1 ≤ n ∧ n ≤ 16 ∧ len ≤ 65536 ∧ 2 * n ≤ window ∧ window ≤ 1000)

set_option maxRecDepth 100000 in
set_option maxHeartbeats 2000000 in
theorem mayTurn_any (w : World) (n window len : Int) :
    Calls Tryd.prog 26 #[.int .i64 n, .int .i64 window, .int .i64 len] w fun e w' => e = .returned (.bool (mayT n window len)) ∧ w' = w := by
  by_cases h1 : n < 1
  · have e : mayT n window len = false := decide_eq_false (by omega)
    rw [e]
    have t1 : decide (n < 1) = true := by simpa using h1
    go_enter Tryd.func26, Tryd.ntmps26
    go_wp2
    go_ret
    exact ⟨rfl, rfl⟩
  · have t1 : decide (n < 1) = false := by simpa using h1
    by_cases h2 : 16 < n
    · have e : mayT n window len = false := decide_eq_false (by omega)
      rw [e]
      have t2 : decide (16 < n) = true := by simpa using h2
      go_enter Tryd.func26, Tryd.ntmps26
      go_wp2
      go_ret
      exact ⟨rfl, rfl⟩
    · have t2 : decide (16 < n) = false := by simpa using h2
      by_cases h3 : 65536 < len
      · have e : mayT n window len = false := decide_eq_false (by omega)
        rw [e]
        have t3 : decide (65536 < len) = true := by simpa using h3
        go_enter Tryd.func26, Tryd.ntmps26
        go_wp2
        go_ret
        exact ⟨rfl, rfl⟩
      · have t3 : decide (65536 < len) = false := by simpa using h3
        have u : IntKind.i64.wrap (2 * n) = 2 * n := by rw [IntKind.wrap_i64]; omega
        by_cases h4 : 2 * n ≤ window
        · have t4 : decide (2 * n ≤ window) = true := by simpa using h4
          have e : mayT n window len = decide (window ≤ 1000) := by
            unfold mayT
            exact decide_eq_decide.2 (by omega)
          rw [e]
          generalize hd : decide (window ≤ 1000) = d
          go_enter Tryd.func26, Tryd.ntmps26
          go_wp2
          go_ret
          exact ⟨by simp [hd], rfl⟩
        · have t4 : decide (2 * n ≤ window) = false := by simpa using h4
          have e : mayT n window len = false := decide_eq_false (by omega)
          rw [e]
          go_enter Tryd.func26, Tryd.ntmps26
          go_wp2
          go_ret
          exact ⟨rfl, rfl⟩

set_option maxRecDepth 100000 in
set_option maxHeartbeats 1000000 in
theorem Turns_wrong (w : World) (n window : Int) (xao : Option Addr) (xlen xcap : Nat) (h : mayT n window xlen = false) :
    Calls Tryd.prog 14 #[.int .i64 n, .int .i64 window, .slice xao xlen xcap] w fun e w' => e = .returned (.tuple #[nilS, .int .i64 70]) ∧ w' = w := by
  have HM := hide2 (mayTurn_any w n window xlen)
  rw [h] at HM
  go_enter Tryd.func14, Tryd.ntmps14
  go_wp2_with fail
  refine HM.out.mono ?_
  rintro e w1 ⟨rfl, rfl⟩
  go_wp2
  go_ret2
  exact ⟨rfl, rfl⟩

set_option maxRecDepth 100000 in
set_option maxHeartbeats 8000000 in
theorem Turns_right (w : World) (n window : Nat) (xao : Option Addr) (xlen xcap : Nat) (xs : List Int) (hxs : Ints .i64 w xao xlen xcap xs) (h : mayT n window xlen = true) :
    Calls Tryd.prog 14 #[.int .i64 (n : Int), .int .i64 (window : Int), .slice xao xlen xcap] w fun e w' => ∃ lv, e = .returned (.tuple #[lv, .int .i64 0]) ∧ w'.ownsRow w.heap.size 3 1 lv (turnsF n window xs []).length ((ints (turnsF n window xs [])).map (Value.int .i64)) ∧ Below w.heap.size w w' ∧ (turnsF n window xs []).length ≤ 2000000 := by
  have HM := hide2 (mayTurn_any w n window xlen)
  rw [h] at HM
  have hm : 1 ≤ n ∧ n ≤ 16 ∧ xlen ≤ 65536 ∧ 2 * n ≤ window ∧ window ≤ 1000 := by
    have := of_decide_eq_true h
    omega
  obtain ⟨h1, h2, h3, h4, h5⟩ := hm
  have hxl : xs.length = xlen := hxs.1
  have HXL := hide2 hxl
  have HXS := hide2 hxs
  have hcell0 : (w.alloc (.cells #[.int .i64 (-1)] 3)).cell? ⟨w.heap.size, 0, none⟩ = some (.int .i64 (-1)) := by
    rw [Go.Joins.cell_of_block (heap_alloc_new w (.cells #[.int .i64 (-1)] 3))]; rfl
  have HR := hide2 (repeat_any (w.alloc (.cells #[.int .i64 (-1)] 3)) w.heap.size n h1 h2 (by simp) hcell0)
  have hB0 : Below w.heap.size w (w.alloc (.cells #[.int .i64 (-1)] 3)) := (Below.refl _ w).alloc (Nat.le_refl _) _
  have hsz0 : (w.alloc (.cells #[.int .i64 (-1)] 3)).heap.size = w.heap.size + 1 := by simp
  generalize hlb : (w.alloc (.cells #[.int .i64 (-1)] 3)).heap.size = lb at HR hsz0
  have hlw : w.heap.size < lb := by omega
  clear hxl hxs hcell0 hsz0 h
  go_enter Tryd.func14, Tryd.ntmps14
  go_wp2_with fail
  refine HM.out.mono ?_
  rintro e w1 ⟨rfl, rfl⟩
  clear HM
  go_wp2_with fail
  refine HR.out.mono ?_
  rintro e w2 ⟨rfl, hlast, hB2⟩
  clear HR
  have hBB : Below w1.heap.size w1 w2 := hB0.trans (hB2.mono (by omega))
  obtain ⟨tb, htb⟩ : ∃ tb, tb = w2.heap.size := ⟨_, rfl⟩
  have hT0 : Tn (w2.alloc (.cells #[nilS, .slice (some ⟨lb, 0, none⟩) n n] 63)) (tb + 1) tb lb n [] nilS := by
    have hl2 : lb < w2.heap.size := (Array.getElem?_eq_some_iff.1 hlast).1
    refine ⟨by rw [htb]; exact heap_alloc_new _ _, ?_, ⟨rfl, .inl ⟨rfl, rfl⟩⟩, by omega, by simp; omega⟩
    unfold Ib
    rw [blk_alloc _ _ _ hl2, hlast, lastL_nil]
    simp
  have hB3 : Below w1.heap.size w1 (w2.alloc (.cells #[nilS, .slice (some ⟨lb, 0, none⟩) n n] 63)) := hBB.alloc hBB.size _
  have hwt : w1.heap.size ≤ tb := by rw [htb]; exact hBB.size
  have HT0 := hide2 hT0
  have HB3 := hide2 hB3
  have HTB := hide2 htb
  have hE : ((window : Int) - (n : Int)) = ((window - n : Nat) : Int) := by omega
  clear hT0 hB3 hBB hB2 hlast hB0 hlb
  go_wp2
  rw [← htb]
  clear htb
  obtain ⟨wx, hwx⟩ : ∃ x, x = w1 := ⟨_, rfl⟩
  subst hwx
  go_loopw [24] (fun i wr => ∃ k : Nat, k ≤ xlen ∧ i = .int .i64 k ∧ (∃ lv, Tn wr (tb + 1) tb lb n (turnsF n window (xs.take k) []) lv) ∧ Below wx.heap.size wx wr ∧ (turnsF n window (xs.take k) []).length ≤ k * 17) (fun i _ => xlen - (intOf i).toNat)
  case atStart =>
    refine ⟨0, by omega, rfl, ⟨_, HT0.out⟩, HB3.out, Nat.zero_le _⟩
  case round =>
    clear HT0 HB3 HTB
    obtain ⟨k, hk, rfl, ⟨lv, hT⟩, hB, hlen⟩ := hrel
    by_cases hkl : k < xlen
    · obtain ⟨b, off, rfl, hbl, hcell⟩ := (HXS.out.keep hB).num (by omega)
      have q0 := hcell k hkl
      have E1 := hide2 (turnsF_take (n := n) (window := window) (xs := xs) (k := k) (by rw [HXL.out]; exact hkl))
      have hkl2 : (k : Int) < (xlen : Int) := by omega
      generalize xs.getD k 0 = x at *
      generalize turnsF n window (xs.take k) [] = l at *
      clear hcell
      by_cases hout : x < 0 ∨ (n : Int) ≤ x
      · rw [if_pos hout] at E1
        have HT := hide2 hT
        have HB := hide2 hB
        clear hT hB
        by_cases hx0 : x < 0
        · have t1 : decide (x < 0) = true := by simpa using hx0
          clear hout
          go_wp2
          go_roundw
          case rel => exact ⟨k + 1, by omega, by go_num, by rw [E1.out]; exact ⟨_, HT.out⟩, HB.out, by rw [E1.out]; omega⟩
          case measure => simp [intOf]; omega
        · have hx1 : (n : Int) ≤ x := by omega
          have t1 : decide (x < 0) = false := by simpa using hx0
          have t2 : decide ((n : Int) ≤ x) = true := by simpa using hx1
          clear hout
          go_wp2
          go_roundw
          case rel => exact ⟨k + 1, by omega, by go_num, by rw [E1.out]; exact ⟨_, HT.out⟩, HB.out, by rw [E1.out]; omega⟩
          case measure => simp [intOf]; omega
      · rw [if_neg hout] at E1
        obtain ⟨p, rfl⟩ : ∃ p : Nat, x = p := ⟨x.toNat, by omega⟩
        have hpn : p < n := by omega
        have t1 : decide ((p : Int) < 0) = false := by simp
        have t2 : decide ((n : Int) ≤ (p : Int)) = false := by simp; omega
        have t3 : decide (n ≤ p) = false := by simp; omega
        rw [Int.toNat_natCast] at E1
        have HL := hide2 (layLate_any (E := window - n) hT h1 h2 (by omega) (by omega) (by omega))
        rw [← hE] at HL
        have HB := hide2 hB
        have hwr := hB.size
        clear hT hB hout
        generalize lateF n (window - n) n l = l2 at *
        have u1 : IntKind.i64.wrap ((window : Int) - (n : Int)) = (window : Int) - (n : Int) := by rw [IntKind.wrap_i64]; omega
        have HEE := hide2 hE
        clear hE
        go_wp2_with fail
        refine HL.out.mono ?_
        rintro e w3 ⟨rfl, ⟨lv3, hT3⟩, hF3, hl3⟩
        clear HL
        have HY := hide2 (lay_any hT3 p hpn (by omega))
        have hs3 := hF3.size
        have HF3 := hide2 hF3
        clear hT3 hF3
        go_wp2_with fail
        refine HY.out.mono ?_
        rintro e w4 ⟨rfl, hT4, hF4⟩
        clear HY
        have hF := HF3.out.trans hF4 (fun j hj => .inl hj)
        have hB4 : Below wx.heap.size wx w4 := HB.out.trans (hF.to (fun j hj => by rintro (h | h | h) <;> omega) hwr)
        have HX := hide2 (And.intro hT4 hB4)
        clear hT4 hB4 hF hF4 HF3 HB
        go_wp2
        go_roundw
        case rel => exact ⟨k + 1, by omega, by go_num, by rw [E1.out]; exact HX.out.1, HX.out.2, by rw [E1.out, List.length_append, List.length_singleton]; omega⟩
        case measure => simp [intOf]; omega
    · obtain rfl : xlen = k := by omega
      have ext : xs.take xlen = xs := by rw [← HXL.out]; exact List.take_length
      rw [ext] at hT hlen
      obtain ⟨c0, c1⟩ := hT.cell
      obtain ⟨ao, cap, rfl⟩ := hT.form
      have hrow := row_low (B' := wx.heap.size) hT.row (by omega)
      have HX := hide2 (And.intro hrow (And.intro hB (show (turnsF n window xs []).length ≤ 2000000 by omega)))
      clear hrow hT hB hlen
      go_wp2
      go_ret2
      exact ⟨.slice ao (turnsF n window xs []).length cap, rfl, HX.out⟩
end Go.Proofs.YtnpmldlnckbppaaDoor
