/-
  What crcByte, Crc and the document's own Crc answer.
-/
import Derived.Test.YtbpihkojmbfccaaDoorNum
import Derived.Test.YtbpihkojmbfccaaDoorCrcSpec
set_option linter.unusedVariables false
set_option linter.unusedSimpArgs false
namespace Go.Proofs.YtbpihkojmbfccaaDoor
open Go.RowKit

theorem hide3 {p : Prop} (h : p) : Hid p := h

set_option maxHeartbeats 800000 in
theorem crcByte_any (c : Nat) (x : Int) (w : World) (hc : c < 4294967296) (hx0 : 0 ≤ x) (hx1 : x ≤ 255) :
    Calls Tryd.prog 42 #[.int .u32 (c : Int), .int .u8 x] w fun e w' => e = .returned (.int .u32 ((cb c x : Nat) : Int)) ∧ w' = w := by
  have hxo := xor32 c x hc hx0 (by omega)
  have hd := xor_lt (a := c) (b := x.toNat) hc (by omega)
  have hcb : cb c x = csK 8 (c ^^^ x.toNat) := rfl
  rw [hcb]
  clear hcb
  generalize c ^^^ x.toNat = c0 at *
  go_enter Tryd.func42, Tryd.ntmps42
  go_wp2
  go_loop [0, 10] (fun v i => ∃ k d : Nat, k ≤ 8 ∧ i = .int .i64 (k : Int) ∧ v = .int .u32 (d : Int) ∧ Hid (d = csK k c0) ∧ d < 4294967296) (fun _ i => 8 - (intOf i).toNat)
  case atStart => exact ⟨0, c0, by omega, rfl, rfl, rfl, hd⟩
  case round =>
    obtain ⟨k, d, hk, rfl, rfl, HD, hdl⟩ := hrel
    have hand := and32 d hdl
    clear hxo hd
    by_cases hlt : k < 8
    · have hlti : (k : Int) < 8 := by omega
      have hd32 : (d : Int) ≤ 4294967295 := by omega
      by_cases ho : d % 2 = 1
      · have hod : (d : Int) % 2 = 1 := by omega
        have hcs := cs_odd d hdl ho
        have hcl := cs_lt hdl
        have HD2 : Hid (cs d = csK (k + 1) c0) := by unfold Hid; rw [HD.out]; rfl
        generalize cs d = d2 at *
        go_wp2
        go_round
        case rel => exact ⟨k + 1, d2, by omega, by go_num, rfl, HD2, hcl⟩
        case measure => simp [intOf]; omega
      · have hod : ((d : Int) % 2 == 1) = false := by simp; omega
        have hcs := cs_even d ho
        have hcl := cs_lt hdl
        have HD2 : Hid (cs d = csK (k + 1) c0) := by unfold Hid; rw [HD.out]; rfl
        generalize cs d = d2 at *
        go_wp2
        go_round
        case rel => exact ⟨k + 1, d2, by omega, by go_num, rfl, HD2, hcl⟩
        case measure => simp [intOf]; omega
    · obtain rfl : k = 8 := by omega
      go_wp2
      go_ret
      exact ⟨ret_intB (by rw [HD.out]), rfl⟩

/-- A slice of slices of bytes that is read. -/
def Pl (w : World) (ao : Option Addr) (len cap : Nat) (ps : List (List Int)) : Prop :=
  ps.length = len ∧ len ≤ cap ∧ cap ≤ maxLen ∧
  (0 < len → ∃ b off, ao = some ⟨b, off, none⟩ ∧ b < w.heap.size ∧ ∀ i, i < len → ∃ a l c, w.cell? ⟨b, off + i, none⟩ = some (.slice a l c) ∧ Sl w a l c (ps.getD i []))

theorem Pl.below {w w' : World} {ao : Option Addr} {len cap : Nat} {ps : List (List Int)} (h : Pl w ao len cap ps) (hb : Below w.heap.size w w') : Pl w' ao len cap ps := by
  obtain ⟨h1, h2, h3, h4⟩ := h
  refine ⟨h1, h2, h3, fun hl => ?_⟩
  obtain ⟨b, off, e, hlt, hc⟩ := h4 hl
  refine ⟨b, off, e, Nat.lt_of_lt_of_le hlt hb.size, fun i hi => ?_⟩
  obtain ⟨a, l, c, h5, h6⟩ := hc i hi
  exact ⟨a, l, c, (hb.cell (p := ⟨b, off + i, none⟩) hlt).trans h5, h6.below hb⟩
theorem flat_take (ps : List (List Int)) (k : Nat) (h : k < ps.length) : (ps.take (k + 1)).flatten = (ps.take k).flatten ++ ps.getD k [] := by
  rw [List.take_succ_eq_append_getElem h, List.flatten_append]
  congr 1
  simp [List.getD, List.getElem?_eq_getElem h]

set_option maxHeartbeats 2000000 in
theorem crc_any (ao : Option Addr) (len cap : Nat) (ps : List (List Int)) (w : World) (h : Pl w ao len cap ps) :
    Calls Tryd.prog 32 #[.slice ao len cap] w fun e w' => e = .returned (.int .u32 ((crc ps.flatten : Nat) : Int)) ∧ w' = w := by
  obtain ⟨h1, h2, h3, h4⟩ := h
  have hlen : (len : Int) ≤ 9223372036854775807 := by unfold maxLen at h3; omega
  by_cases h0 : len = 0
  · subst h0
    obtain rfl : ps = [] := List.eq_nil_of_length_eq_zero h1
    go_enter Tryd.func32, Tryd.ntmps32
    go_wp2
    refine wp_loop_rounds 1 ?_
    rw [rounds_succ]
    go_wp2
    go_ret
    exact ⟨ret_intB (by decide +kernel), rfl⟩
  obtain ⟨b, off, rfl, hbl, hcell⟩ := h4 (by omega)
  replace hcell := hide3 hcell
  clear h4
  go_enter Tryd.func32, Tryd.ntmps32
  go_wp2
  go_loop [3, 10] (fun v i => ∃ k d : Nat, k ≤ len ∧ i = .int .i64 (k : Int) ∧ v = .int .u32 (d : Int) ∧ Hid (d = cl 4294967295 (ps.take k).flatten) ∧ d < 4294967296) (fun _ i => len - (intOf i).toNat)
  case atStart => exact ⟨0, 4294967295, by omega, rfl, rfl, rfl, by decide⟩
  case round =>
    obtain ⟨k, d, hk, rfl, rfl, HD, hdl⟩ := hrel
    by_cases hlt : k < len
    · have hlti : (k : Int) < (len : Int) := by omega
      obtain ⟨a, l, c, hc, hsl⟩ := hcell.out k hlt
      have hfl := hide3 (flat_take ps k (by omega))
      generalize ps.getD k [] = xs at *
      have hl64 : (l : Int) ≤ 9223372036854775807 := by have := hsl.2.1; have := hsl.2.2.1; unfold maxLen at this; omega
      have hbyt := hsl.2.2.2.1
      have hxl := hsl.1
      by_cases hl0 : l = 0
      · subst hl0
        obtain rfl : xs = [] := List.eq_nil_of_length_eq_zero hxl
        have HD2 : Hid (d = cl 4294967295 (ps.take (k + 1)).flatten) := by unfold Hid; rw [hfl.out, List.append_nil]; exact HD.out
        clear hfl hsl hbyt
        go_wp2
        refine wp_loop_rounds 1 ?_
        rw [rounds_succ]
        go_wp2
        go_round
        case rel => exact ⟨k + 1, d, by omega, by go_num, rfl, HD2, hdl⟩
        case measure => simp [intOf]; omega
      · obtain ⟨b2, off2, rfl, _, hcell2⟩ := hsl.2.2.2.2.2 (by omega)
        replace hcell2 := hide3 hcell2
        clear hsl
        go_wp2
        go_loop [3, 16] (fun v i => ∃ j e : Nat, j ≤ l ∧ i = .int .i64 (j : Int) ∧ v = .int .u32 (e : Int) ∧ Hid (e = cl d (xs.take j)) ∧ e < 4294967296) (fun _ i => l - (intOf i).toNat)
        case atStart => exact ⟨0, d, by omega, rfl, rfl, rfl, hdl⟩
        case round =>
          obtain ⟨j, e, hj, rfl, rfl, HE, hel⟩ := hrel
          by_cases hjl : j < l
          · have hjli : (j : Int) < (l : Int) := by omega
            have hc2 := hcell2.out j hjl
            have hxb := hbyt.getD j
            have HE2 : Hid (cb e (xs.getD j 0) = cl d (xs.take (j + 1))) := by unfold Hid; rw [cl_take d xs j (by omega), HE.out]
            generalize xs.getD j 0 = x at *
            obtain ⟨hx0, hx1⟩ := hxb
            have hcl := cb_lt hel hx1
            go_wp2_with (go_at_call 42; refine (crcByte_any e x _ hel hx0 hx1).mono ?_; rintro e' w' ⟨rfl, rfl⟩)
            go_round
            case rel => exact ⟨j + 1, cb e x, by omega, by go_num, rfl, HE2, hcl⟩
            case measure => simp [intOf]; omega
          · have hjli : ¬ (j : Int) < (l : Int) := by omega
            have HD2 : Hid (e = cl 4294967295 (ps.take (k + 1)).flatten) := by
              unfold Hid
              rw [hfl.out, cl_append, ← HD.out, HE.out, List.take_of_length_le (by omega)]
            go_wp2
            go_round
            case rel => exact ⟨k + 1, e, by omega, by go_num, rfl, HD2, hel⟩
            case measure => simp [intOf]; omega
    · have hlti : ¬ (k : Int) < (len : Int) := by omega
      have hxo := xor32 d 4294967295 hdl (by decide) (by decide)
      have HR : Hid (d ^^^ 4294967295 = crc ps.flatten) := by
        unfold Hid crc
        rw [HD.out, List.take_of_length_le (by omega)]
      have hxo2 : bits BinOp.xor IntKind.u32 (d : Int) 4294967295 = ((d ^^^ 4294967295 : Nat) : Int) := hxo
      clear hxo
      generalize d ^^^ 4294967295 = r at *
      go_wp2
      go_ret
      exact ⟨ret_intB (by rw [← HR.out]), rfl⟩

set_option maxHeartbeats 2000000 in
theorem refCrc_any (ao : Option Addr) (len cap : Nat) (xs : List Int) (w : World) (h : Sl w ao len cap xs) :
    Calls Tryd.prog 22 #[.slice ao len cap] w fun e w' => e = .returned (.int .u32 ((crc xs : Nat) : Int)) ∧ w' = w := by
  have hbyt := h.2.2.2.1
  have hxl := h.1
  have hlen : (len : Int) ≤ 9223372036854775807 := by have := h.2.1; have := h.2.2.1; unfold maxLen at this; omega
  by_cases h0 : len = 0
  · subst h0
    obtain rfl : xs = [] := List.eq_nil_of_length_eq_zero hxl
    go_enter Tryd.func22, Tryd.ntmps22
    go_wp2
    refine wp_loop_rounds 1 ?_
    rw [rounds_succ]
    go_wp2
    go_ret
    exact ⟨ret_intB (by decide +kernel), rfl⟩
  obtain ⟨b, off, rfl, hbl, hcell⟩ := h.2.2.2.2.2 (by omega)
  replace hcell := hide3 hcell
  clear h
  go_enter Tryd.func22, Tryd.ntmps22
  go_wp2
  go_loop [3, 4] (fun v i => ∃ k d : Nat, k ≤ len ∧ i = .int .i64 (k : Int) ∧ v = .int .u32 (d : Int) ∧ Hid (d = cl 4294967295 (xs.take k)) ∧ d < 4294967296) (fun _ i => len - (intOf i).toNat)
  case atStart => exact ⟨0, 4294967295, by omega, rfl, rfl, rfl, by decide⟩
  case round =>
    obtain ⟨k, d, hk, rfl, rfl, HD, hdl⟩ := hrel
    by_cases hlt : k < len
    · have hlti : (k : Int) < (len : Int) := by omega
      have hc2 := hcell.out k hlt
      have hxb := hbyt.getD k
      have HE2 : Hid (cb d (xs.getD k 0) = cl 4294967295 (xs.take (k + 1))) := by unfold Hid; rw [cl_take _ xs k (by omega), HD.out]
      generalize xs.getD k 0 = x at *
      obtain ⟨hx0, hx1⟩ := hxb
      have hxo := xor32 d x hdl hx0 (by omega)
      have hd0 := xor_lt (a := d) (b := x.toNat) hdl (by omega)
      have HC : Hid (cb d x = csK 8 (d ^^^ x.toNat)) := rfl
      generalize d ^^^ x.toNat = c0 at *
      have hxw : IntKind.u32.wrap x = x := by rw [IntKind.wrap_u32]; omega
      go_wp2
      go_loop [3, 5, 6] (fun v i _ => ∃ j e : Nat, j ≤ 8 ∧ i = .int .i64 (j : Int) ∧ v = .int .u32 (e : Int) ∧ Hid (e = csK j c0) ∧ e < 4294967296) (fun _ i _ => 8 - (intOf i).toNat)
      case atStart => exact ⟨0, c0, by omega, rfl, rfl, rfl, hd0⟩
      case round =>
        obtain ⟨j, e, hj, rfl, rfl, HE, hel⟩ := hrel
        clear hxo hc2
        by_cases hjl : j < 8
        · have hjli : (j : Int) < 8 := by omega
          have he32 : (e : Int) ≤ 4294967295 := by omega
          by_cases ho : e % 2 = 1
          · have hod : (e : Int) % 2 = 1 := by omega
            have hcs := cs_odd e hel ho
            have hcl := cs_lt hel
            have HE3 : Hid (cs e = csK (j + 1) c0) := by unfold Hid; rw [HE.out]; rfl
            generalize cs e = e2 at *
            go_wp2
            go_round
            case rel => exact ⟨j + 1, e2, by omega, by go_num, rfl, HE3, hcl⟩
            case measure => simp [intOf]; omega
          · have hod : ((e : Int) % 2 == 1) = false := by simp; omega
            have hcs := cs_even e ho
            have hcl := cs_lt hel
            have HE3 : Hid (cs e = csK (j + 1) c0) := by unfold Hid; rw [HE.out]; rfl
            generalize cs e = e2 at *
            go_wp2
            go_round
            case rel => exact ⟨j + 1, e2, by omega, by go_num, rfl, HE3, hcl⟩
            case measure => simp [intOf]; omega
        · obtain rfl : j = 8 := by omega
          have HD2 : Hid (e = cl 4294967295 (xs.take (k + 1))) := by
            unfold Hid
            rw [← HE2.out, HC.out, HE.out]
          go_wp2
          go_round
          case rel => exact ⟨k + 1, e, by omega, by go_num, rfl, HD2, hel⟩
          case measure => simp [intOf]; omega
    · have hlti : ¬ (k : Int) < (len : Int) := by omega
      have hxo := xor32 d 4294967295 hdl (by decide) (by decide)
      have HR : Hid (d ^^^ 4294967295 = crc xs) := by
        unfold Hid crc
        rw [HD.out, List.take_of_length_le (by omega)]
      have hxo2 : bits BinOp.xor IntKind.u32 (d : Int) 4294967295 = ((d ^^^ 4294967295 : Nat) : Int) := hxo
      clear hxo
      generalize d ^^^ 4294967295 = r at *
      go_wp2
      go_ret
      exact ⟨ret_intB (by rw [← HR.out]), rfl⟩
end Go.Proofs.YtbpihkojmbfccaaDoor
