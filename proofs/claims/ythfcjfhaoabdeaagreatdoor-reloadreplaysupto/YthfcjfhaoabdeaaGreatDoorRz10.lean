/-
  What the calls of package num do, each by itself: the contracts of bits.Len64, size, withRoom, appendNumber, Put, and of the law's own 'shown'.
-/
import Derived.Test.YthfcjfhaoabdeaaGreatDoorRows
import Derived.Test.YthfcjfhaoabdeaaGreatDoorRz9
import Derived.Handy
set_option linter.unusedVariables false
set_option linter.unusedSimpArgs false
namespace Go.Proofs.YthfcjfhaoabdeaaGreatDoor
open Go.RowKit

theorem one_u8 (x : Int) : ∀ u ∈ [Value.int .u8 x], u.oneCell' = true := by intro u hu; simp at hu; subst hu; rfl
theorem ret_boolB {a b : Bool} (h : a = b) : Ending.returned (.bool a) = .returned (.bool b) := by rw [h]
theorem ret_intB {k : IntKind} {a b : Int} (h : a = b) : Ending.returned (.int k a) = .returned (.int k b) := by rw [h]

theorem tab_bd (k : Int) (b : UInt8) (h0 : 0 ≤ k) (h1 : k ≤ 56) : 0 ≤ wrap64 (k + wrap64 (b.toNat : Int)) ∧ wrap64 (k + wrap64 (b.toNat : Int)) ≤ 400 := by
  have := b.toNat_lt
  unfold wrap64
  omega
theorem tab_bd1 (b : UInt8) : 0 ≤ wrap64 (wrap64 (b.toNat : Int)) ∧ wrap64 (wrap64 (b.toNat : Int)) ≤ 400 := by
  have := b.toNat_lt
  unfold wrap64
  omega

set_option maxHeartbeats 1600000 in
set_option maxRecDepth 100000 in
/-- bits.Len64: a small number (which one is not asked here: it is room alone). -/
theorem len64_any (x : Int) (w : World) (h0 : 0 ≤ x) (h1 : x ≤ 18446744073709551615) :
    Calls Tryz.prog 88 #[.int .u64 x] w fun e w' => (∃ r : Int, e = .returned (.int .i64 r) ∧ 0 ≤ r ∧ r ≤ 400) ∧ w' = w := by
  go_enter Tryz.func88, Tryz.ntmps88
  go_wp2
  all_goals go_ret
  all_goals refine ⟨⟨_, rfl, ?_⟩, rfl⟩
  all_goals first | exact tab_bd _ _ (by decide) (by decide) | exact tab_bd1 _

theorem or_one_bd (n : Int) (h0 : 0 ≤ n) (h1 : n ≤ 18446744073709551615) : 0 ≤ bits BinOp.or IntKind.u64 n 1 ∧ bits BinOp.or IntKind.u64 n 1 ≤ 18446744073709551615 := by
  rw [u64_or n 1 h0 (by omega) (by decide) (by decide)]
  have : n.toNat ||| (1 : Int).toNat < 2 ^ 64 := Nat.or_lt_two_pow (by omega) (by decide)
  omega

set_option maxHeartbeats 400000 in
/-- size: a small number. -/
theorem size_any (n : Int) (w : World) (h0 : 0 ≤ n) (h1 : n ≤ 18446744073709551615) :
    Calls Tryz.prog 186 #[.int .u64 n] w fun e w' => (∃ r : Nat, e = .returned (.int .i64 r) ∧ r ≤ 60) ∧ w' = w := by
  have hb := or_one_bd n h0 h1
  go_enter Tryz.func186, Tryz.ntmps186
  go_wp2_with fail
  refine (len64_any _ w hb.1 hb.2).mono ?_
  rintro e w' ⟨⟨r, rfl, hr0, hr1⟩, rfl⟩
  clear hb
  go_wp2
  go_ret
  exact ⟨⟨((r + 6) / 7).toNat, ret_intB (by go_arith), by omega⟩, rfl⟩

theorem Tryz.size5 (u : World) : (Go.sizeOf 5).run Tryz.prog u = .ok 1 u := by kernel_rfl
theorem Tryz.infoU8 : (Tryz.prog.info? 5).map (fun i => (i.zero, i.size, i.bytes)) = some (some (.int .u8 0), 1, 1) := by kernel_rfl

set_option maxHeartbeats 400000 in
/-- withRoom: the bytes in new memory, with so much room behind them. -/
theorem room_any (ao : Option Addr) (len cap : Nat) (xs : List Int) (r : Nat) (w : World) (h : Sl w ao len cap xs) (hr : len + r ≤ 281474976710656) :
    Calls Tryz.prog 185 #[.slice ao len cap, .int .i64 r] w fun e w' => e = .returned (.slice (some ⟨w.heap.size, 0, none⟩) len (len + r)) ∧ Own w' w.heap.size (.slice (some ⟨w.heap.size, 0, none⟩) len (len + r)) xs ∧ Below w.heap.size w w' := by
  obtain ⟨i0, hi, hz0, hz1, hz2⟩ := info_parts Tryz.infoU8
  have hmk : ∀ u : World, (Instr.makeSlice 82 (.int .i64 (len : Int)) (.int .i64 ((len : Int) + (r : Int)))).run Tryz.prog u = .ok (.slice (some ⟨u.heap.size, 0, none⟩) len (len + r)) (u.alloc (.cells (madeCells #[.int .u8 0] (len + r)) 5)) := by
    intro u
    have := run_make (P := Tryz.prog) u 82 5 i0 (.int .u8 0) Tryz.underlying82 hi hz0 .i64 .i64 len (len + r) (by omega) (by omega) (by rw [hz2]; omega) (by omega)
    rw [this, hz1]
    have e1 : ((len : Int) + (r : Int)).toNat = len + r := by omega
    simp only [e1, Nat.mul_one, Int.toNat_natCast, Value.cells]
  obtain ⟨w2, hcp, hrow, hbel⟩ := h.copy (P := Tryz.prog) 82 Tryz.underlying82 (by kernel_rfl) 3 (madeCells #[.int .u8 0] (len + r)) (len + r) (by rw [size_madeCells]; omega)
  have hx := h.1
  have hown : Own w2 w.heap.size (.slice (some ⟨w.heap.size, 0, none⟩) len (len + r)) xs := by
    subst hx
    refine Own.of_block hrow (Nat.le_refl _) ?_ (by unfold maxLen; omega)
    simp [size_madeCells]
  clear hrow
  go_enter Tryz.func185, Tryz.ntmps185
  go_wp2
  go_ret
  exact ⟨rfl, hown, hbel⟩

set_option maxHeartbeats 800000 in
/-- appendNumber: the number's bytes behind an own row. -/
theorem app_any (base : Nat) (v : Value) (xs : List Int) (n : Int) (w : World) (h : Own w base v xs) (hbase : base ≤ w.heap.size) (h0 : 0 ≤ n) (h1 : n ≤ 18446744073709551615) (hl : xs.length + 10 ≤ 140737488355328) :
    Calls Tryz.prog 184 #[v, .int .u64 n] w fun e w' => ∃ v', e = .returned v' ∧ Own w' base v' (xs ++ enc n) ∧ Below base w w' := by
  obtain ⟨i0, hi, hz0, hz1, hz2⟩ := info_parts Tryz.infoU8
  have hlen := enc_len n
  have hall : (xs ++ enc n).length ≤ 140737488355328 := by simp; omega
  generalize hA : xs ++ enc n = all at hall
  have hrest : Rest all xs n := hA
  clear hA hlen
  go_enter Tryz.func184, Tryz.ntmps184
  go_wp2
  go_loopw [0, 1] (fun v i wr => ∃ (ys : List Int) (m : Int), i = .int .u64 m ∧ 0 ≤ m ∧ m ≤ 18446744073709551615 ∧ Own wr base v ys ∧ Rest all ys m ∧ Below base w wr) (fun _ i _ => (intOf i).toNat)
  case atStart => exact ⟨xs, n, rfl, h0, h1, h, hrest, Below.refl _ _⟩
  case round =>
    obtain ⟨ys, m, rfl, hm0, hm1, hown, hr, hbel⟩ := hrel
    have hyl := hr.len
    have hsz := hbel.size
    by_cases hlt : 127 < m
    · have hor := or128 m hm0
      go_wp2_with (at_builtin; refine wpList_append_own _ rfl _ _ 82 rfl base 5 i0 (.int .u8 0) 1 1 Tryz.underlying82 hi hz0 hz1 hz2 rfl (by decide) _ _ _ rfl (World.ownsRow.alloc hown _) ⟨wr.heap.size, 0, none⟩ 1 1 [.int .u8 (m % 128 + 128)] rfl rfl (cell_one_new _ _ _) (one_u8 _) (by unfold maxLen; omega) (by omega) (by simp; omega) ?_)
      intro v' w1 hown' hgrow _
      have hb1 : Below base w w1 := (hbel.alloc (by omega) _).trans ((Own.grown (World.ownsRow.alloc hown _) hgrow (by simp; omega)))
      have ho1 := Own.snoc hown'
      have hr1 := hr.step (by omega) hm1
      clear hown' hgrow hown hor hbel hr hsz
      go_wp2
      go_roundw
      case rel => exact ⟨_, _, rfl, by omega, by omega, ho1, hr1, hb1⟩
      case measure => simp [intOf]; omega
    · have hm2 : m % 256 = m := by omega
      go_wp2_with (at_builtin; refine wpList_append_own _ rfl _ _ 82 rfl base 5 i0 (.int .u8 0) 1 1 Tryz.underlying82 hi hz0 hz1 hz2 rfl (by decide) _ _ _ rfl (World.ownsRow.alloc hown _) ⟨wr.heap.size, 0, none⟩ 1 1 [.int .u8 m] rfl rfl (cell_one_new _ _ _) (one_u8 _) (by unfold maxLen; omega) (by omega) (by simp; omega) ?_)
      intro v' w1 hown' hgrow _
      have hb1 : Below base w w1 := (hbel.alloc (by omega) _).trans ((Own.grown (World.ownsRow.alloc hown _) hgrow (by simp; omega)))
      have ho1 := Own.snoc hown'
      have hr1 := hr.last (by omega)
      rw [hr1] at ho1
      clear hown' hgrow hown hbel hr hsz hr1
      go_wp2
      go_ret
      exact ⟨_, rfl, ho1, hb1⟩

set_option maxHeartbeats 400000 in
/-- Put: the bytes, and behind them the number's, in new memory. -/
theorem put_any (ao : Option Addr) (len cap : Nat) (xs : List Int) (n : Int) (w : World) (h : Sl w ao len cap xs) (h0 : 0 ≤ n) (h1 : n ≤ 18446744073709551615) (hl : len + 100 ≤ 140737488355328) :
    Calls Tryz.prog 175 #[.slice ao len cap, .int .u64 n] w fun e w' => ∃ v', e = .returned v' ∧ Own w' w.heap.size v' (xs ++ enc n) ∧ Below w.heap.size w w' := by
  go_enter Tryz.func175, Tryz.ntmps175
  go_wp2_with fail
  refine (size_any n w h0 h1).mono ?_
  rintro e w' ⟨⟨r, rfl, hr⟩, rfl⟩
  go_wp2_with fail
  refine (room_any ao len cap xs r _ h (by omega)).mono ?_
  rintro e w1 ⟨rfl, hown, hb1⟩
  have hx := h.1
  have hs1 := hb1.size
  go_wp2_with fail
  refine (app_any _ _ xs n w1 hown hs1 h0 h1 (by omega)).mono ?_
  rintro e w2 ⟨v2, rfl, hown2, hb2⟩
  have hb : Below w'.heap.size w' w2 := hb1.trans hb2
  clear hown hb1 hb2 hs1 hx
  go_wp2
  go_ret
  exact ⟨_, rfl, hown2, hb⟩

end Go.Proofs.YthfcjfhaoabdeaaGreatDoor

/-
  What crcByte, Crc and the document's own Crc answer.
-/
set_option linter.unusedVariables false
set_option linter.unusedSimpArgs false
namespace Go.Proofs.YthfcjfhaoabdeaaGreatDoor
open Go.RowKit

theorem hide3 {p : Prop} (h : p) : Hid p := h

set_option maxHeartbeats 800000 in
theorem crcByte_any (c : Nat) (x : Int) (w : World) (hc : c < 4294967296) (hx0 : 0 ≤ x) (hx1 : x ≤ 255) :
    Calls Tryz.prog 265 #[.int .u32 (c : Int), .int .u8 x] w fun e w' => e = .returned (.int .u32 ((cb c x : Nat) : Int)) ∧ w' = w := by
  have hxo := xor32 c x hc hx0 (by omega)
  have hd := xor_lt (a := c) (b := x.toNat) hc (by omega)
  have hcb : cb c x = csK 8 (c ^^^ x.toNat) := rfl
  rw [hcb]
  clear hcb
  generalize c ^^^ x.toNat = c0 at *
  go_enter Tryz.func265, Tryz.ntmps265
  go_wp2
  go_loop [0, 10] (fun v i => ∃ k d : Nat, k ≤ 8 ∧ i = .int .i64 (k : Int) ∧ v = .int .u32 (d : Int) ∧ Hid (d = csK k c0) ∧ d < 4294967296) (fun _ i => 8 - (intOf i).toNat)
  case atStart => exact ⟨0, c0, by omega, rfl, rfl, rfl, hd⟩
  case round =>
    obtain ⟨k, d, hk, rfl, rfl, HD, hdl⟩ := hrel
    have hand := and32 d hdl
    clear hxo hd
    by_cases hlt : k < 8
    · have hlti : (k : Int) < 8 := by omega
      have hd32 : (d : Int) ≤ 4294967295 := by omega
      by_cases ho : d % 2 = 1
      · have hod : (d : Int) % 2 = 1 := by omega
        have hcs := cs_odd d hdl ho
        have hcl := cs_lt hdl
        have HD2 : Hid (cs d = csK (k + 1) c0) := by unfold Hid; rw [HD.out]; rfl
        generalize cs d = d2 at *
        go_wp2
        go_round
        case rel => exact ⟨k + 1, d2, by omega, by go_num, rfl, HD2, hcl⟩
        case measure => simp [intOf]; omega
      · have hod : ((d : Int) % 2 == 1) = false := by simp; omega
        have hcs := cs_even d ho
        have hcl := cs_lt hdl
        have HD2 : Hid (cs d = csK (k + 1) c0) := by unfold Hid; rw [HD.out]; rfl
        generalize cs d = d2 at *
        go_wp2
        go_round
        case rel => exact ⟨k + 1, d2, by omega, by go_num, rfl, HD2, hcl⟩
        case measure => simp [intOf]; omega
    · obtain rfl : k = 8 := by omega
      go_wp2
      go_ret
      exact ⟨ret_intB (by rw [HD.out]), rfl⟩

/-- A slice of slices of bytes that is read. -/
def Pl (w : World) (ao : Option Addr) (len cap : Nat) (ps : List (List Int)) : Prop :=
  ps.length = len ∧ len ≤ cap ∧ cap ≤ maxLen ∧
  (0 < len → ∃ b off, ao = some ⟨b, off, none⟩ ∧ b < w.heap.size ∧ ∀ i, i < len → ∃ a l c, w.cell? ⟨b, off + i, none⟩ = some (.slice a l c) ∧ Sl w a l c (ps.getD i []))

theorem Pl.below {w w' : World} {ao : Option Addr} {len cap : Nat} {ps : List (List Int)} (h : Pl w ao len cap ps) (hb : Below w.heap.size w w') : Pl w' ao len cap ps := by
  obtain ⟨h1, h2, h3, h4⟩ := h
  refine ⟨h1, h2, h3, fun hl => ?_⟩
  obtain ⟨b, off, e, hlt, hc⟩ := h4 hl
  refine ⟨b, off, e, Nat.lt_of_lt_of_le hlt hb.size, fun i hi => ?_⟩
  obtain ⟨a, l, c, h5, h6⟩ := hc i hi
  exact ⟨a, l, c, (hb.cell (p := ⟨b, off + i, none⟩) hlt).trans h5, h6.below hb⟩
theorem flat_take (ps : List (List Int)) (k : Nat) (h : k < ps.length) : (ps.take (k + 1)).flatten = (ps.take k).flatten ++ ps.getD k [] := by
  rw [List.take_succ_eq_append_getElem h, List.flatten_append]
  congr 1
  simp [List.getD, List.getElem?_eq_getElem h]

set_option maxHeartbeats 2000000 in
theorem crc_any (ao : Option Addr) (len cap : Nat) (ps : List (List Int)) (w : World) (h : Pl w ao len cap ps) :
    Calls Tryz.prog 239 #[.slice ao len cap] w fun e w' => e = .returned (.int .u32 ((crc ps.flatten : Nat) : Int)) ∧ w' = w := by
  obtain ⟨h1, h2, h3, h4⟩ := h
  have hlen : (len : Int) ≤ 9223372036854775807 := by unfold maxLen at h3; omega
  by_cases h0 : len = 0
  · subst h0
    obtain rfl : ps = [] := List.eq_nil_of_length_eq_zero h1
    go_enter Tryz.func239, Tryz.ntmps239
    go_wp2
    refine wp_loop_rounds 1 ?_
    rw [rounds_succ]
    go_wp2
    go_ret
    exact ⟨ret_intB (by decide +kernel), rfl⟩
  obtain ⟨b, off, rfl, hbl, hcell⟩ := h4 (by omega)
  replace hcell := hide3 hcell
  clear h4
  go_enter Tryz.func239, Tryz.ntmps239
  go_wp2
  go_loop [3, 10] (fun v i => ∃ k d : Nat, k ≤ len ∧ i = .int .i64 (k : Int) ∧ v = .int .u32 (d : Int) ∧ Hid (d = cl 4294967295 (ps.take k).flatten) ∧ d < 4294967296) (fun _ i => len - (intOf i).toNat)
  case atStart => exact ⟨0, 4294967295, by omega, rfl, rfl, rfl, by decide⟩
  case round =>
    obtain ⟨k, d, hk, rfl, rfl, HD, hdl⟩ := hrel
    by_cases hlt : k < len
    · have hlti : (k : Int) < (len : Int) := by omega
      obtain ⟨a, l, c, hc, hsl⟩ := hcell.out k hlt
      have hfl := hide3 (flat_take ps k (by omega))
      generalize ps.getD k [] = xs at *
      have hl64 : (l : Int) ≤ 9223372036854775807 := by have := hsl.2.1; have := hsl.2.2.1; unfold maxLen at this; omega
      have hbyt := hsl.2.2.2.1
      have hxl := hsl.1
      by_cases hl0 : l = 0
      · subst hl0
        obtain rfl : xs = [] := List.eq_nil_of_length_eq_zero hxl
        have HD2 : Hid (d = cl 4294967295 (ps.take (k + 1)).flatten) := by unfold Hid; rw [hfl.out, List.append_nil]; exact HD.out
        clear hfl hsl hbyt
        go_wp2
        refine wp_loop_rounds 1 ?_
        rw [rounds_succ]
        go_wp2
        go_round
        case rel => exact ⟨k + 1, d, by omega, by go_num, rfl, HD2, hdl⟩
        case measure => simp [intOf]; omega
      · obtain ⟨b2, off2, rfl, _, hcell2⟩ := hsl.2.2.2.2.2 (by omega)
        replace hcell2 := hide3 hcell2
        clear hsl
        go_wp2
        go_loop [3, 16] (fun v i => ∃ j e : Nat, j ≤ l ∧ i = .int .i64 (j : Int) ∧ v = .int .u32 (e : Int) ∧ Hid (e = cl d (xs.take j)) ∧ e < 4294967296) (fun _ i => l - (intOf i).toNat)
        case atStart => exact ⟨0, d, by omega, rfl, rfl, rfl, hdl⟩
        case round =>
          obtain ⟨j, e, hj, rfl, rfl, HE, hel⟩ := hrel
          by_cases hjl : j < l
          · have hjli : (j : Int) < (l : Int) := by omega
            have hc2 := hcell2.out j hjl
            have hxb := hbyt.getD j
            have HE2 : Hid (cb e (xs.getD j 0) = cl d (xs.take (j + 1))) := by unfold Hid; rw [cl_take d xs j (by omega), HE.out]
            generalize xs.getD j 0 = x at *
            obtain ⟨hx0, hx1⟩ := hxb
            have hcl := cb_lt hel hx1
            go_wp2_with (go_at_call 265; refine (crcByte_any e x _ hel hx0 hx1).mono ?_; rintro e' w' ⟨rfl, rfl⟩)
            go_round
            case rel => exact ⟨j + 1, cb e x, by omega, by go_num, rfl, HE2, hcl⟩
            case measure => simp [intOf]; omega
          · have hjli : ¬ (j : Int) < (l : Int) := by omega
            have HD2 : Hid (e = cl 4294967295 (ps.take (k + 1)).flatten) := by
              unfold Hid
              rw [hfl.out, cl_append, ← HD.out, HE.out, List.take_of_length_le (by omega)]
            go_wp2
            go_round
            case rel => exact ⟨k + 1, e, by omega, by go_num, rfl, HD2, hel⟩
            case measure => simp [intOf]; omega
    · have hlti : ¬ (k : Int) < (len : Int) := by omega
      have hxo := xor32 d 4294967295 hdl (by decide) (by decide)
      have HR : Hid (d ^^^ 4294967295 = crc ps.flatten) := by
        unfold Hid crc
        rw [HD.out, List.take_of_length_le (by omega)]
      have hxo2 : bits BinOp.xor IntKind.u32 (d : Int) 4294967295 = ((d ^^^ 4294967295 : Nat) : Int) := hxo
      clear hxo
      generalize d ^^^ 4294967295 = r at *
      go_wp2
      go_ret
      exact ⟨ret_intB (by rw [← HR.out]), rfl⟩

end Go.Proofs.YthfcjfhaoabdeaaGreatDoor
