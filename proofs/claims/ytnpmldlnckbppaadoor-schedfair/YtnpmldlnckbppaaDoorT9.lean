/-
  SchedFair's walk.
-/
import Derived.Test.YtnpmldlnckbppaaDoorT7
set_option linter.unusedVariables false
set_option linter.unusedSimpArgs false
namespace Go.Proofs.YtnpmldlnckbppaaDoor
open Go.RowKit

theorem fair_at {n window : Nat} {L : List Nat} (h : Fair n window L) : ∀ i, i < L.length → L.getD i 0 < n ∧ ∀ k, k < n → k ≠ L.getD i 0 → (Wl n (L.take i)).getD k 0 + 1 < window := by
  induction h with
  | nil => intro i hi; simp at hi
  | snoc l q h hq hw ih =>
    intro i hi
    rw [List.length_append, List.length_singleton] at hi
    by_cases e : i < l.length
    · have e1 : (l ++ [q]).getD i 0 = l.getD i 0 := by simp [List.getD, List.getElem?_append_left e]
      have e2 : (l ++ [q]).take i = l.take i := by rw [List.take_append_of_le_length (by omega)]
      rw [e1, e2]
      exact ih i e
    · obtain rfl : i = l.length := by omega
      have e1 : (l ++ [q]).getD l.length 0 = q := by simp [List.getD]
      have e2 : (l ++ [q]).take l.length = l := by simp
      rw [e1, e2]
      exact ⟨hq, hw⟩
theorem lateF_app (n E : Nat) : ∀ (f : Nat) (l : List Nat), ∃ zs, lateF n E f l = l ++ zs := by
  intro f
  induction f with
  | zero => intro l; exact ⟨[], by simp [lateF]⟩
  | succ f ih =>
    intro l
    by_cases h : isLate n E l
    · obtain ⟨zs, hz⟩ := ih (l ++ [top (Wl n l)])
      exact ⟨[top (Wl n l)] ++ zs, by rw [lateF_step h, hz, List.append_assoc]⟩
    · exact ⟨[], by rw [lateF_stop h]; simp⟩
theorem turnsF_app (n window : Nat) : ∀ (xs : List Int) (l : List Nat), ∃ zs, turnsF n window xs l = l ++ zs := by
  intro xs
  induction xs with
  | nil => intro l; exact ⟨[], by simp [turnsF]⟩
  | cons x xs ih =>
    intro l
    have e : turnsF n window (x :: xs) l = turnsF n window xs (if x < 0 ∨ (n : Int) ≤ x then l else lateF n (window - n) n l ++ [x.toNat]) := rfl
    rw [e]
    by_cases h : x < 0 ∨ (n : Int) ≤ x
    · rw [if_pos h]
      exact ih l
    · rw [if_neg h]
      obtain ⟨zs, hz⟩ := ih (lateF n (window - n) n l ++ [x.toNat])
      obtain ⟨ys, hy⟩ := lateF_app n (window - n) n l
      exact ⟨ys ++ [x.toNat] ++ zs, by rw [hz, hy]; simp⟩
theorem turnsF_split (n window : Nat) (xs : List Int) (k : Nat) : ∃ zs, turnsF n window xs [] = turnsF n window (xs.take k) [] ++ zs := by
  have e : turnsF n window xs [] = turnsF n window (xs.drop k) (turnsF n window (xs.take k) []) := by
    unfold turnsF
    rw [← List.foldl_append, List.take_append_drop]
  rw [e]
  exact turnsF_app n window _ _
/-- Where a pick that may be stands in the list. -/
theorem pick_at {n window : Nat} {xs : List Int} {k p : Nat} (hk : k < xs.length) (hx : xs.getD k 0 = (p : Int)) (hp : p < n) :
    ∃ T, (turnsF n window (xs.take k) []).length ≤ T ∧ T + 1 = (turnsF n window (xs.take (k + 1)) []).length ∧ T < (turnsF n window xs []).length ∧ (turnsF n window xs []).getD T 0 = p := by
  have e := turnsF_take (n := n) (window := window) hk
  rw [hx, if_neg (by omega), Int.toNat_natCast] at e
  obtain ⟨ys, hy⟩ := lateF_app n (window - n) n (turnsF n window (xs.take k) [])
  obtain ⟨zs, hz⟩ := turnsF_split n window xs (k + 1)
  rw [e] at hz ⊢
  rw [hz]
  refine ⟨(lateF n (window - n) n (turnsF n window (xs.take k) [])).length, by rw [hy]; simp, by simp, by simp, ?_⟩
  simp [List.getD]
theorem skip_at {n window : Nat} {xs : List Int} {k : Nat} (hk : k < xs.length) (hx : xs.getD k 0 < 0 ∨ (n : Int) ≤ xs.getD k 0) : turnsF n window (xs.take (k + 1)) [] = turnsF n window (xs.take k) [] := by
  rw [turnsF_take hk, if_pos hx]

set_option maxRecDepth 100000 in
set_option maxHeartbeats 4000000 in
theorem fair_wrong (n window : Int) (xao : Option Addr) (xlen xcap : Nat) (w : World) (hT : Tab w) (hm : mayT n window xlen = false) :
    Calls Tryd.prog 5 #[.int .i64 n, .int .i64 window, .slice xao xlen xcap] w fun e w' => e = .returned (.bool true) ∧ Below w.heap.size w w' := by
  have HN := hide2 (shown_any w hT)
  go_enter Tryd.func5, Tryd.ntmps5
  go_wp2_with fail
  refine HN.out.mono ?_
  rintro e w1 ⟨rfl, hB1⟩
  clear HN
  have HP := hide2 (Turns_wrong w1 n window xao xlen xcap hm)
  go_wp2_with fail
  refine HP.out.mono ?_
  rintro e w2 ⟨rfl, rfl⟩
  clear HP
  go_wp2
  go_ret
  exact ⟨rfl, hB1⟩

set_option maxRecDepth 100000 in
set_option maxHeartbeats 16000000 in
theorem fair_right (n window : Nat) (xao : Option Addr) (xlen xcap : Nat) (xs : List Int) (w : World) (hT : Tab w) (hxs : Ints .i64 w xao xlen xcap xs) (hm : mayT n window xlen = true) :
    Calls Tryd.prog 5 #[.int .i64 (n : Int), .int .i64 (window : Int), .slice xao xlen xcap] w fun e w' => e = .returned (.bool true) ∧ Below w.heap.size w w' := by
  have HN := hide2 (shown_any w hT)
  have hm' : 1 ≤ n ∧ n ≤ 16 ∧ xlen ≤ 65536 ∧ 2 * n ≤ window ∧ window ≤ 1000 := by
    have := of_decide_eq_true hm
    omega
  obtain ⟨h1, h2, h3, h4, h5⟩ := hm'
  have HXS := hide2 hxs
  have HXL := hide2 hxs.1
  have hmk := mk_ints n (by omega)
  obtain ⟨hfair, -⟩ := turns_fair (n := n) (window := window) (by omega) h4 xs
  have HFA := hide2 (fair_at hfair)
  have HPK : Hid (∀ k p : Nat, k < xs.length → xs.getD k 0 = (p : Int) → p < n → ∃ T, (turnsF n window (xs.take k) []).length ≤ T ∧ T + 1 = (turnsF n window (xs.take (k + 1)) []).length ∧ T < (turnsF n window xs []).length ∧ (turnsF n window xs []).getD T 0 = p) := hide2 (fun k p hk hx hp => pick_at hk hx hp)
  have HSK : Hid (∀ k : Nat, k < xs.length → (xs.getD k 0 < 0 ∨ (n : Int) ≤ xs.getD k 0) → turnsF n window (xs.take (k + 1)) [] = turnsF n window (xs.take k) []) := hide2 (fun k hk hx => skip_at hk hx)
  clear hxs hfair
  go_enter Tryd.func5, Tryd.ntmps5
  go_wp2_with fail
  refine HN.out.mono ?_
  rintro e w1 ⟨rfl, hB1⟩
  clear HN
  have HP := hide2 (Turns_right w1 n window xao xlen xcap xs (HXS.out.keep hB1) hm)
  have hs1 := hB1.size
  go_wp2_with fail
  refine HP.out.mono ?_
  rintro e w2 ⟨lv, rfl, hrow2, hB2, hlen⟩
  clear HP
  have hs2 := hB2.size
  obtain ⟨a1, c1, rfl, hi1⟩ := row_ints64 (xs := ints (turnsF n window xs [])) hrow2 (by rw [ints_len])
  have hBB2 : Below w.heap.size w w2 := hB1.trans (hB2.mono hs1)
  have HI1 := hide2 hi1
  obtain ⟨L, hL⟩ : ∃ L, L = turnsF n window xs [] := ⟨_, rfl⟩
  rw [← hL] at HI1 HFA HPK hlen ⊢
  have hnew : (w2.alloc (.cells (List.replicate n (Value.int .i64 0)).toArray 3)).heap[w2.heap.size]? = some (.cells (List.replicate n (Value.int .i64 0)).toArray 3 (0, 0)) := heap_alloc_new _ _
  have hI0 : Ib (w2.alloc (.cells (List.replicate n (Value.int .i64 0)).toArray 3)) w2.heap.size (ints (Wl n (L.take 0))) := by
    unfold Ib
    rw [hnew]
    simp [Wl, ints]
  have hB3 : Below w2.heap.size w2 (w2.alloc (.cells (List.replicate n (Value.int .i64 0)).toArray 3)) := (Below.refl _ w2).alloc (Nat.le_refl _) _
  generalize (List.replicate n (Value.int .i64 0)).toArray = Y at *
  obtain ⟨wb, hwb⟩ : ∃ wb, wb = w2.heap.size := ⟨_, rfl⟩
  rw [← hwb] at hI0 hB3
  have HI0 := hide2 hI0
  have HB3 := hide2 hB3
  have HBB := hide2 hBB2
  have HWB := hide2 hwb
  have hwbl : w.heap.size ≤ wb := by rw [hwb]; omega
  generalize hlL : L.length = len at hlen ⊢
  have HLL := hide2 hlL
  rw [hlL] at HI1
  clear hI0 hB3 hBB2 hB1 hB2 hrow2 hi1 hnew hL hlL
  go_wp2
  rw [← hwb]
  clear hwb
  go_loopw [11] (fun i wr => ∃ k : Nat, k ≤ len ∧ i = .int .i64 k ∧ Ib wr wb (ints (Wl n (L.take k))) ∧ Below wb w2 wr) (fun i _ => len - (intOf i).toNat)
  case atStart => exact ⟨0, by omega, rfl, HI0.out, HB3.out⟩
  case round =>
    clear HI0 HB3 hmk
    obtain ⟨k, hk, rfl, hI, hB⟩ := hrel
    by_cases hkl : k < len
    · have hBk : Below w2.heap.size w2 wr := by rw [← HWB.out]; exact hB
      have hlenpos : 0 < len := by omega
      obtain ⟨b, off, rfl, hbl, hcell⟩ := (HI1.out).num hlenpos
      have q0 : wr.cell? ⟨b, off + k, none⟩ = some (.int .i64 ((ints L).getD k 0)) := (hBk.cell (p := ⟨b, off + k, none⟩) hbl).trans (hcell k hkl)
      rw [ints_at] at q0
      obtain ⟨hq, hw⟩ := HFA.out k (by rw [HLL.out]; exact hkl)
      have E1 : Hid (Wl n (L.take (k + 1)) = comeW (Wl n (L.take k)) (L.getD k 0)) := hide2 (by
        have hk2 : k < L.length := by rw [HLL.out]; exact hkl
        have e : L.getD k 0 = L[k] := by simp [List.getD, List.getElem?_eq_getElem hk2]
        rw [← List.take_append_getElem hk2, Wl_snoc, e])
      have hWle : ∀ j, j < n → (Wl n (L.take k)).getD j 0 ≤ len := fun j hj => by
        have := Wl_le n (L.take k) j hj
        have h3 : (L.take k).length ≤ k := by simp; omega
        omega
      have HWLE := hide2 hWle
      have HW := hide2 hw
      have hWl : (Wl n (L.take k)).length = n := Wl_len n _
      have HWL := hide2 hWl
      generalize L.getD k 0 = q at *
      generalize Wl n (L.take k) = W at *
      have hbw : b ≠ wb := by rw [HWB.out]; omega
      have t1 : decide ((q : Int) < 0) = false := by simp
      have t2 : decide ((n : Int) ≤ (q : Int)) = false := by simp; omega
      have t3 : decide (n ≤ q) = false := by simp; omega
      have hk2 : (k : Int) < (len : Int) := by omega
      have e0 : ints W = ints (upTo W 0) := by simp [upTo]
      rw [e0] at hI
      have HI := hide2 hI
      have HB := hide2 hB
      have HC : Hid (∀ u : World, Below wb w2 u → u.cell? ⟨b, off + k, none⟩ = some (.int .i64 (q : Int))) := hide2 (fun u hu => by
        have hu2 : Below w2.heap.size w2 u := by rw [← HWB.out]; exact hu
        rw [hu2.cell (p := ⟨b, off + k, none⟩) hbl, ← hBk.cell (p := ⟨b, off + k, none⟩) hbl]
        exact q0)
      have hqn : (q : Int) < (n : Int) := by omega
      clear hcell hw hWle hWl e0 hI hBk hB
      obtain ⟨wx, hwx⟩ : ∃ x, x = wr := ⟨_, rfl⟩
      subst hwx
      go_wp2
      go_loopw [12] (fun i wr => ∃ j : Nat, j ≤ n ∧ i = .int .i64 j ∧ Ib wr wb (ints (upTo W j)) ∧ Below wb w2 wr) (fun i _ => n - (intOf i).toNat)
      case atStart => exact ⟨0, by omega, rfl, HI.out, HB.out⟩
      case round =>
        clear HI HB q0
        obtain ⟨j, hj, rfl, hI, hB⟩ := hrel
        have q0 := HC.out wr hB
        have hul : (ints (upTo W j)).length = n := by rw [ints_len, upTo_len, HWL.out]
        have hgl := hI.lt
        by_cases hjn : j < n
        · have c0 := hI.cell j (by omega)
          have f0 := hI.free j
          have hWj := HWL.out
          rw [ints_at, upTo_at W j j (by omega), if_neg (by omega)] at c0
          have hI2 := hI.set j ((W.getD j 0 + 1 : Nat) : Int)
          rw [ints_set, upTo_set W j (by omega)] at hI2
          have hB2 := hB.setCell (p := ⟨wb, j, none⟩) (Nat.le_refl _) (.int .i64 ((W.getD j 0 + 1 : Nat) : Int))
          have hb1 := HWLE.out j hjn
          have hj2 : (j : Int) < (n : Int) := by omega
          have HI2 := hide2 hI2
          have HB2 := hide2 hB2
          clear hI hB hI2 hB2 hul hWj
          by_cases hjq : j = q
          · subst hjq
            have t4 : ((j : Int) != (j : Int)) = false := by simp
            have t5 : (j != j) = false := by simp
            have u1 : ((W.getD j 0 + 1 : Nat) : Int) = ((W.getD j 0 : Nat) : Int) + 1 := by omega
            rw [u1] at HI2 HB2
            generalize W.getD j 0 = x at *
            go_wp2
            go_roundw
            case rel => exact ⟨j + 1, by omega, by go_num, HI2.out, HB2.out⟩
            case measure => simp [intOf]; omega
          · have hwj := HW.out j hjn hjq
            have t4 : ((j : Int) != (q : Int)) = true := by simp; omega
            have t5 : (j != q) = true := by simp; omega
            have u1 : ((W.getD j 0 + 1 : Nat) : Int) = ((W.getD j 0 : Nat) : Int) + 1 := by omega
            have t6 : decide ((window : Int) ≤ ((W.getD j 0 : Nat) : Int) + 1) = false := decide_eq_false (by omega)
            rw [u1] at HI2 HB2
            generalize W.getD j 0 = x at *
            go_wp2
            go_roundw
            case rel => exact ⟨j + 1, by omega, by go_num, HI2.out, HB2.out⟩
            case measure => simp [intOf]; omega
        · obtain rfl : n = j := by omega
          have c0 := hI.cell q (by omega)
          have f0 := hI.free q
          have hI2 := hI.set q ((0 : Nat) : Int)
          rw [ints_set] at hI2
          have e3 : (upTo W n).set q 0 = comeW W q := by
            have := upTo_all W q (by rw [HWL.out]; exact hq)
            rw [HWL.out] at this
            exact this
          rw [e3, ← E1.out] at hI2
          have hB2 := hB.setCell (p := ⟨wb, q, none⟩) (Nat.le_refl _) (.int .i64 ((0 : Nat) : Int))
          generalize (ints (upTo W n)).getD q 0 = x at *
          have HI2 := hide2 hI2
          have HB2 := hide2 hB2
          clear hI hB hI2 hB2 e3 hul
          go_wp2
          go_roundw
          case rel => exact ⟨k + 1, by omega, by go_num, HI2.out, HB2.out⟩
          case measure => simp [intOf]; omega
    · obtain rfl : len = k := by omega
      have hBk : Below w2.heap.size w2 wr := by rw [← HWB.out]; exact hB
      have hBw : Below w.heap.size w wr := HBB.out.trans (hBk.mono HBB.out.size)
      have HC : Hid (∀ m, Ints .i64 (wr.drewN m) a1 len c1 (ints L)) := hide2 (fun m => (HI1.out.keep hBk).drewN m)
      have HX : Hid (∀ m, Ints .i64 (wr.drewN m) xao xlen xcap xs) := hide2 (fun m => (HXS.out.keep hBw).drewN m)
      have HBW := hide2 hBw
      clear hI hB hBk hBw
      obtain ⟨wx, hwx⟩ : ∃ x, x = wr := ⟨_, rfl⟩
      subst hwx
      go_wp2
      go_loopw [13, 14] (fun a i wr => ∃ k at' : Nat, k ≤ xlen ∧ i = .int .i64 k ∧ a = .int .i64 at' ∧ at' ≤ (turnsF n window (xs.take k) []).length ∧ at' ≤ len ∧ ∃ m, wr = wx.drewN m) (fun _ i _ => xlen - (intOf i).toNat)
      case atStart => exact ⟨0, 0, by omega, rfl, rfl, Nat.zero_le _, Nat.zero_le _, 0, rfl⟩
      case round =>
        obtain ⟨k, at', hk, rfl, rfl, hat, hatl, m, hwr⟩ := hrel
        by_cases hkx : k < xlen
        · have hX1 : Ints .i64 wr xao xlen xcap xs := by rw [hwr]; exact HX.out m
          obtain ⟨b, off, rfl, hbl, hcell⟩ := hX1.num (by omega)
          have q0 := hcell k hkx
          have hk2 : (k : Int) < (xlen : Int) := by omega
          have hkl : k < xs.length := by rw [HXL.out]; exact hkx
          have HQ := hide2 hcell
          have HWR := hide2 hwr
          by_cases hout : xs.getD k 0 < 0 ∨ (n : Int) ≤ xs.getD k 0
          · have E1 := hide2 (HSK.out k hkl hout)
            generalize xs.getD k 0 = x at *
            clear hcell hwr hX1
            by_cases hx0 : x < 0
            · have t1 : decide (x < 0) = true := by simpa using hx0
              clear hout
              go_wp2
              go_roundw
              case rel => exact ⟨k + 1, at', by omega, by go_num, rfl, by rw [E1.out]; exact hat, hatl, m, HWR.out⟩
              case measure => simp [intOf]; omega
            · have hx1 : (n : Int) ≤ x := by omega
              have t1 : decide (x < 0) = false := by simpa using hx0
              have t2 : decide ((n : Int) ≤ x) = true := by simpa using hx1
              clear hout
              go_wp2
              go_roundw
              case rel => exact ⟨k + 1, at', by omega, by go_num, rfl, by rw [E1.out]; exact hat, hatl, m, HWR.out⟩
              case measure => simp [intOf]; omega
          · obtain ⟨p, hp⟩ : ∃ p : Nat, xs.getD k 0 = p := ⟨(xs.getD k 0).toNat, by omega⟩
            have hpn : p < n := by omega
            obtain ⟨T, hT1, hT2, hT3, hT4⟩ := HPK.out k p hkl hp hpn
            rw [HLL.out] at hT3
            rw [hp] at q0
            have t1 : decide ((p : Int) < 0) = false := by simp
            have t2 : decide ((n : Int) ≤ (p : Int)) = false := by simp; omega
            have t3 : decide (n ≤ p) = false := by simp; omega
            have hT5 : T + 1 ≤ (turnsF n window (xs.take (k + 1)) []).length := by omega
            have HT4 := hide2 hT4
            have HXC : Hid (∀ m, (wx.drewN m).cell? ⟨b, off + k, none⟩ = some (.int .i64 (p : Int))) := hide2 (fun m2 => by
              have : wr.cell? ⟨b, off + k, none⟩ = some (.int .i64 (p : Int)) := q0
              rw [hwr] at this
              exact this)
            have hTat : at' ≤ T := by omega
            clear hcell hwr hX1 hp hout HQ hT2 hT4 hat
            obtain ⟨a1b, a1o, ea1, -, -⟩ := (HC.out 0).num (by omega)
            have HCC : Hid (∀ (m j : Nat), j < len → (wx.drewN m).cell? ⟨a1b, a1o + j, none⟩ = some (.int .i64 (L.getD j 0 : Nat))) := hide2 (fun m2 j hj => by
              obtain ⟨b3, o3, e3, -, hc3⟩ := (HC.out m2).num (by omega)
              rw [ea1] at e3
              obtain ⟨rfl, rfl⟩ : a1b = b3 ∧ a1o = o3 := by simpa using e3
              have := hc3 j hj
              rw [ints_at] at this
              exact this)
            subst ea1
            go_wp2
            go_loopw [13] (fun a wr => ∃ at2 : Nat, a = .int .i64 at2 ∧ at2 ≤ T ∧ ∃ m, wr = wx.drewN m) (fun a _ => T - (intOf a).toNat)
            case atStart => exact ⟨at', rfl, hTat, m, HWR.out⟩
            case round =>
              obtain ⟨at2, rfl, hat2, m2, hwr2⟩ := hrel
              have c1 : wr.cell? ⟨a1b, a1o + at2, none⟩ = some (.int .i64 (L.getD at2 0 : Nat)) := by rw [hwr2]; exact HCC.out m2 at2 (by omega)
              have c2 : wr.cell? ⟨b, off + k, none⟩ = some (.int .i64 (p : Int)) := by rw [hwr2]; exact HXC.out m2
              have HWR2 := hide2 hwr2
              have g1 : (at2 : Int) < (len : Int) := by omega
              have g2 : decide ((at2 : Int) < (len : Int)) = true := decide_eq_true g1
              have g3 : decide (at2 < len) = true := decide_eq_true (by omega)
              by_cases heq : L.getD at2 0 = p
              · rw [heq] at c1
                have g4 : ((p : Int) != (p : Int)) = false := by simp
                have g5 : ((at2 : Int) == (len : Int)) = false := by simp; omega
                have g6 : (at2 == len) = false := by simp; omega
                clear hwr2
                go_wp2
                go_quiet (fail)
                go_wp2
                go_roundw
                case rel => exact ⟨k + 1, at2 + 1, by omega, by go_num, by go_num, by omega, by omega, _, by rw [HWR2.out]; exact drewN_twice _ _ _⟩
                case measure => simp [intOf]; omega
              · have hne : at2 ≠ T := fun e => heq (by rw [e]; exact HT4.out)
                generalize L.getD at2 0 = y at *
                have g4 : ((y : Int) != (p : Int)) = true := by simp; omega
                have g5 : (y != p) = true := by simp; omega
                clear hwr2
                go_wp2
                go_quiet (fail)
                go_wp2
                go_roundw
                case rel => exact ⟨at2 + 1, by go_num, by omega, _, by rw [HWR2.out]; exact drewN_twice _ _ _⟩
                case measure => simp [intOf]; omega
        · obtain rfl : xlen = k := by omega
          have hfin : Below w.heap.size w wr := by rw [hwr]; exact HBW.out.trans (below_drewN _ _ _)
          clear hwr
          go_wp2
          go_ret
          exact ⟨rfl, hfin⟩

theorem fair_walk (n window : Int) (xao : Option Addr) (xlen xcap : Nat) (xs : List Int) (w : World) (hT : Tab w) (hxs : Ints .i64 w xao xlen xcap xs) :
    Calls Tryd.prog 5 #[.int .i64 n, .int .i64 window, .slice xao xlen xcap] w fun e w' => e = .returned (.bool true) ∧ Below w.heap.size w w' := by
  cases hm : mayT n window xlen with
  | false => exact fair_wrong n window xao xlen xcap w hT hm
  | true =>
    have hm2 := of_decide_eq_true hm
    obtain ⟨n, rfl⟩ : ∃ m : Nat, n = m := ⟨n.toNat, by omega⟩
    obtain ⟨window, rfl⟩ : ∃ m : Nat, window = m := ⟨window.toNat, by omega⟩
    exact fair_right n window xao xlen xcap xs w hT hxs hm
end Go.Proofs.YtnpmldlnckbppaaDoor
