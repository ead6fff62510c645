/-
  What the small functions of package frame do: numbers as bytes, sums.
-/
import Derived.Test.YthfcjfhaoabdeaaGreatDoorRz10
import Derived.Test.YthfcjfhaoabdeaaGreatDoorRz9
import Derived.Deep.QuietTactic
import Derived.BigQuiet
set_option linter.unusedVariables false
set_option linter.unusedSimpArgs false
namespace Go.Proofs.YthfcjfhaoabdeaaGreatDoor
open Go.RowKit

theorem hF {p : Prop} (h : p) : Hid p := h

/-- One slice as the parts. -/
theorem Pl.one {w : World} {ao : Option Addr} {len cap : Nat} {xs : List Int} (h : Sl w ao len cap xs) (t : TypeId) : Pl (w.alloc (.cells #[.slice ao len cap] t)) (some ⟨w.heap.size, 0, none⟩) 1 1 [xs] := by
  have hb : Below w.heap.size w (w.alloc (.cells #[.slice ao len cap] t)) := (Below.refl _ _).alloc (Nat.le_refl _) _
  refine ⟨rfl, Nat.le_refl _, by unfold maxLen; omega, fun _ => ⟨w.heap.size, 0, rfl, by simp, fun i hi => ?_⟩⟩
  obtain rfl : i = 0 := by omega
  exact ⟨ao, len, cap, by simp, h.below hb⟩

/-- An own row while others do. -/
theorem Own.up {w w' : World} {base : Nat} {v : Value} {xs : List Int} (h : Own w base v xs) (hb : Below w.heap.size w w') : Own w' base v xs := by
  refine World.ownsRow.kept h (row := none) ⟨hb.os, hb.tape, hb.output, hb.size, fun k hk _ => hb.block k hk⟩ ?_
  cases hv : v.ownBlock <;> simp

/-- 'n | uint64(x) << (8 * i)', where nothing of n lies so high. -/
theorem or_shl8 (acc : Nat) (x : Int) (k : Nat) (h1 : acc < 256 ^ k) (hx0 : 0 ≤ x) (hx1 : x ≤ 255) (h9 : k < 8) :
    bits BinOp.or IntKind.u64 (acc : Int) (IntKind.u64.wrap (x * 2 ^ (8 * k))) = ((acc + x.toNat * 256 ^ k : Nat) : Int) := by
  have e7 : (2 : Int) ^ (8 * k) = 256 ^ k := by rw [Int.pow_mul]; rfl
  have eN : (2 : Nat) ^ (8 * k) = 256 ^ k := by rw [Nat.pow_mul]
  rw [e7]
  have hle : x.toNat * 256 ^ k ≤ 255 * 256 ^ 7 := Nat.mul_le_mul (by omega) (Nat.pow_le_pow_right (by decide) (by omega))
  have hacc : 256 ^ k ≤ 256 ^ 7 := Nat.pow_le_pow_right (by decide) (by omega)
  have e8 : (256 : Nat) ^ 7 = 72057594037927936 := by decide
  rw [e8] at hle hacc
  have ex : x * 256 ^ k = ((x.toNat * 256 ^ k : Nat) : Int) := by
    rw [Int.natCast_mul, Int.toNat_of_nonneg hx0]
    simp
  rw [ex]
  generalize hY : x.toNat * 256 ^ k = y at *
  rw [IntWalk.u64_in (y : Int) (by omega), u64_or (acc : Int) (y : Int) (by omega) (by omega) (by omega) (by omega), Int.toNat_natCast, Int.toNat_natCast]
  have e4 : acc ||| y = y + acc := by
    rw [← hY, Nat.mul_comm, ← eN, Nat.or_comm, Nat.two_pow_add_eq_or_of_lt (by rw [eN]; exact h1)]
  rw [e4]
  omega

set_option maxHeartbeats 800000 in
/-- lowFirst: the number of bytes. -/
theorem lowFirst_any (ao : Option Addr) (len cap : Nat) (xs : List Int) (w : World) (h : Sl w ao len cap xs) (hl : len ≤ 8) :
    Calls Tryz.prog 159 #[.slice ao len cap] w fun e w' => e = .returned (.int .u64 ((va xs : Nat) : Int)) ∧ w' = w := by
  have hbyt := h.2.2.2.1
  have hxl := h.1
  by_cases h0 : len = 0
  · subst h0
    obtain rfl : xs = [] := List.eq_nil_of_length_eq_zero hxl
    go_enter Tryz.func159, Tryz.ntmps159
    go_wp2
    refine wp_loop_rounds 1 ?_
    rw [rounds_succ]
    go_wp2
    go_ret
    exact ⟨rfl, rfl⟩
  obtain ⟨b, off, rfl, hbl, hcell⟩ := h.2.2.2.2.2 (by omega)
  replace hcell := hF hcell
  clear h
  go_enter Tryz.func159, Tryz.ntmps159
  go_wp2
  go_loop [3, 4, 5, 8] (fun v _ _ i => ∃ k d : Nat, k ≤ len ∧ i = .int .i64 (k : Int) ∧ v = .int .u64 (d : Int) ∧ Hid (d = va (xs.take k))) (fun _ _ _ i => len - (intOf i).toNat)
  case atStart => exact ⟨0, 0, by omega, rfl, rfl, rfl⟩
  case round =>
    obtain ⟨k, d, hk, rfl, rfl, HD⟩ := hrel
    by_cases hlt : k < len
    · have hlti : (k : Int) < (len : Int) := by omega
      have hc2 := hcell.out k hlt
      have hxb := hbyt.getD k
      have hdl : d < 256 ^ k := by
        have := va_lt (xs.take k) (hbyt.take k)
        rw [List.length_take, Nat.min_eq_left (by omega)] at this
        rw [HD.out]
        exact this
      have hor := or_shl8 d (xs.getD k 0) k hdl hxb.1 hxb.2 (by omega)
      have HE : Hid (d + (xs.getD k 0).toNat * 256 ^ k = va (xs.take (k + 1))) := by
        unfold Hid
        rw [List.take_succ_eq_append_getElem (by omega : k < xs.length), va_snoc, HD.out, List.length_take, Nat.min_eq_left (by omega)]
        congr 2
        simp [List.getD, List.getElem?_eq_getElem (by omega : k < xs.length)]
      generalize xs.getD k 0 = x at *
      obtain ⟨hx0, hx1⟩ := hxb
      generalize d + x.toNat * 256 ^ k = d2 at *
      go_wp2
      go_round
      case rel => exact ⟨k + 1, d2, by omega, by go_num, rfl, HE⟩
      case measure => simp [intOf]; omega
    · have hlti : ¬ (k : Int) < (len : Int) := by omega
      go_wp2
      go_ret
      exact ⟨ret_intB (by rw [HD.out, List.take_of_length_le (by omega)]), rfl⟩

set_option maxHeartbeats 800000 in
/-- appendLowFirst: so many bytes of a number behind an own row. -/
theorem appendLow_any (base : Nat) (v : Value) (xs : List Int) (n : Int) (k : Nat) (w : World) (h : Own w base v xs) (hbase : base ≤ w.heap.size) (h0 : 0 ≤ n) (h1 : n ≤ 18446744073709551615) (hk : k ≤ 8) (hl : xs.length + 10 ≤ 140737488355328) :
    Calls Tryz.prog 274 #[v, .int .u64 n, .int .i64 (k : Int)] w fun e w' => ∃ v', e = .returned v' ∧ Own w' base v' (xs ++ lo k n.toNat) ∧ Below base w w' := by
  obtain ⟨i0, hi, hz0, hz1, hz2⟩ := info_parts Tryz.infoU8
  have hall : (xs ++ lo k n.toNat).length ≤ 140737488355328 := by simp [lo_len]; omega
  generalize hA : xs ++ lo k n.toNat = all at hall
  have hrest : xs ++ lo (k - 0) n.toNat = all := hA
  clear hA
  go_enter Tryz.func274, Tryz.ntmps274
  go_wp2
  go_loopw [0, 1, 8] (fun v i j wr => ∃ (ys : List Int) (m : Int) (q : Nat), q ≤ k ∧ j = .int .i64 (q : Int) ∧ i = .int .u64 m ∧ 0 ≤ m ∧ m ≤ 18446744073709551615 ∧ Own wr base v ys ∧ Hid (ys ++ lo (k - q) m.toNat = all) ∧ Below base w wr) (fun _ _ j _ => k - (intOf j).toNat)
  case atStart => exact ⟨xs, n, 0, by omega, rfl, rfl, h0, h1, h, hrest, Below.refl _ _⟩
  case round =>
    obtain ⟨ys, m, q, hq, rfl, rfl, hm0, hm1, hown, hr, hbel⟩ := hrel
    have hsz := hbel.size
    by_cases hlt : q < k
    · have hlti : (q : Int) < (k : Int) := by omega
      have hstep : lo (k - q) m.toNat = (m % 256) :: lo (k - (q + 1)) (m / 256).toNat := by
        obtain ⟨r, hr⟩ : ∃ r, k - q = r + 1 := ⟨k - q - 1, by omega⟩
        have e1 : ((m.toNat % 256 : Nat) : Int) = m % 256 := by omega
        have e2 : m.toNat / 256 = (m / 256).toNat := by omega
        rw [hr, show k - (q + 1) = r from by omega, lo, e1, e2]
      have hr1 : Hid ((ys ++ [m % 256]) ++ lo (k - (q + 1)) (m / 256).toNat = all) := by
        unfold Hid
        rw [← hr.out, hstep]
        simp
      have hyl : ys.length + 1 ≤ all.length := by
        rw [← hr1.out]
        simp
      go_wp2_with (at_builtin; refine wpList_append_own _ rfl _ _ 82 rfl base 5 i0 (.int .u8 0) 1 1 Tryz.underlying82 hi hz0 hz1 hz2 rfl (by decide) _ _ _ rfl (World.ownsRow.alloc hown _) ⟨wr.heap.size, 0, none⟩ 1 1 [.int .u8 (m % 256)] rfl rfl (cell_one_new _ _ _) (one_u8 _) (by unfold maxLen; omega) (by omega) (by simp; omega) ?_)
      intro v' w1 hown' hgrow _
      have hb1 : Below base w w1 := (hbel.alloc (by omega) _).trans ((Own.grown (World.ownsRow.alloc hown _) hgrow (by simp; omega)))
      have ho1 := Own.snoc hown'
      clear hown' hgrow hown hbel hr hsz hstep
      go_wp2
      go_roundw
      case rel => exact ⟨_, _, q + 1, by omega, by go_num, rfl, by omega, by omega, ho1, hr1, hb1⟩
      case measure => simp [intOf]; omega
    · have hlti : ¬ (q : Int) < (k : Int) := by omega
      have hr1 : ys = all := by
        rw [← hr.out, show k - q = 0 from by omega]
        simp [lo]
      rw [hr1] at hown
      go_wp2
      go_ret
      exact ⟨_, rfl, hown, hbel⟩

set_option maxHeartbeats 800000 in
/-- appendSum: the sum behind an own row. -/
theorem appendSum_any (base : Nat) (v : Value) (xs : List Int) (w : World) (h : Own w base v xs) (hb : Byt xs) (hbase : base ≤ w.heap.size) (hl : xs.length + 10 ≤ 140737488355328) :
    Calls Tryz.prog 275 #[v] w fun e w' => ∃ v', e = .returned v' ∧ Own w' base v' (sm xs) ∧ Below base w w' := by
  obtain ⟨ao, len, cap, rfl, hsl, _⟩ := h.sl' hb
  have hp := Pl.one hsl 152
  have hc := crc_lt hb
  have hown : Own (w.alloc (.cells #[.slice ao len cap] 152)) base (.slice ao len cap) xs := World.ownsRow.alloc h _
  have hb1 : Below base w (w.alloc (.cells #[.slice ao len cap] 82)) := (Below.refl _ _).alloc hbase _
  go_enter Tryz.func275, Tryz.ntmps275
  go_wp2_with fail
  refine (crc_any _ 1 1 [xs] _ (Pl.one hsl 82)).mono ?_
  rintro e w2 ⟨rfl, rfl⟩
  simp only [List.flatten_cons, List.flatten_nil, List.append_nil]
  have hown : Own (w.alloc (.cells #[.slice ao len cap] 82)) base (.slice ao len cap) xs := World.ownsRow.alloc h _
  have hs1 := hb1.size
  generalize w.alloc (.cells #[.slice ao len cap] 82) = w1 at *
  clear hp hsl h
  go_wp2_with fail
  refine (appendLow_any base (.slice ao len cap) xs (crc xs : Nat) 4 w1 hown (by omega) (by omega) (by omega) (by omega) hl).mono ?_
  rintro e w3 ⟨v3, rfl, hown3, hb3⟩
  rw [Int.toNat_natCast] at hown3
  have hb4 := hb1.trans hb3
  clear hown hb3
  go_wp2
  go_ret
  exact ⟨_, rfl, hown3, hb4⟩
end Go.Proofs.YthfcjfhaoabdeaaGreatDoor

/-
  What the small functions of package frame do: whether bytes end in their sum, a head's length, a frame's bytes.
-/
set_option linter.unusedVariables false
set_option linter.unusedSimpArgs false
namespace Go.Proofs.YthfcjfhaoabdeaaGreatDoor
open Go.RowKit

theorem bdrew (w : World) : Below w.heap.size w w.drew := below_drewN (Below.refl _ _) 1
theorem bdrewA (w : World) (o : Obj) : Below w.heap.size w (w.drew.alloc o) := (bdrew w).alloc (Nat.le_refl _) _

theorem ends_dec (xs : List Int) (len : Nat) (hx : xs.length = len) (hl : 4 ≤ len) : ((((va (xs.drop (len - 4)) : Nat) : Int)) == (((crc (xs.take (len - 4)) : Nat) : Int))) = true ↔ Ends xs := by
  subst hx
  unfold Ends
  simp only [beq_iff_eq]
  constructor
  · intro h
    exact ⟨hl, by omega⟩
  · intro h
    have := h.2
    omega

set_option maxHeartbeats 2000000 in
/-- endsInSum: do bytes end in their sum? -/
theorem endsInSum_any (ao : Option Addr) (len cap : Nat) (xs : List Int) (w : World) (h : Sl w ao len cap xs) (hl : 4 ≤ len) :
    Calls Tryz.prog 192 #[.slice ao len cap] w fun e w' => ∃ r : Bool, e = .returned (.bool r) ∧ (r = true ↔ Ends xs) ∧ Below w.heap.size w w' := by
  have hlen : (len : Int) ≤ 9223372036854775807 := by have := h.2.1; have := h.2.2.1; unfold maxLen at this; omega
  have hdec := ends_dec xs len h.1 hl
  obtain ⟨a1, hs1, hsl1⟩ := h.from (P := Tryz.prog) 82 Tryz.underlying82 Tryz.size5 (len - 4) (by omega)
  obtain ⟨a2, hs2, hsl2⟩ := h.upto (P := Tryz.prog) 82 Tryz.underlying82 Tryz.size5 (len - 4) (by omega)
  rw [show len - (len - 4) = 4 from by omega] at hs1 hsl1
  have ecast : ((len - 4 : Nat) : Int) = (len : Int) - 4 := by omega
  rw [ecast] at hs1 hs2
  have hlow : ∀ u : World, Below w.heap.size w u → Calls Tryz.prog 159 #[.slice a1 4 (cap - (len - 4))] u fun e w' => e = .returned (.int .u64 ((va (xs.drop (len - 4)) : Nat) : Int)) ∧ w' = u := fun u hu =>
    lowFirst_any a1 4 _ _ u (hsl1.below hu) (by omega)
  have hcrc : ∀ u : World, Below w.heap.size w u → Calls Tryz.prog 239 #[.slice (some ⟨u.heap.size, 0, none⟩) 1 1] (u.alloc (.cells #[.slice a2 (len - 4) cap] 82)) fun e w' => e = .returned (.int .u32 ((crc (xs.take (len - 4)) : Nat) : Int)) ∧ w' = u.alloc (.cells #[.slice a2 (len - 4) cap] 82) := fun u hu => by
      have := crc_any _ 1 1 [xs.take (len - 4)] _ (Pl.one (hsl2.below hu) 82)
      simpa using this
  have hcl := crc_lt (h.2.2.2.1.take (len - 4))
  generalize va (xs.drop (len - 4)) = A at *
  generalize crc (xs.take (len - 4)) = B at *
  have hwB : IntKind.u64.wrap (B : Int) = (B : Int) := IntWalk.u64_in (B : Int) (by omega)
  clear hsl1 hsl2 h
  go_enter Tryz.func192, Tryz.ntmps192
  go_wp2
  go_region_with (first
    | (go_at_call 159; (first | refine (hlow _ (bdrewA w _)).mono ?_ | refine (hlow _ (bdrew w)).mono ?_); rintro e w' ⟨rfl, rfl⟩)
    | (go_at_call 239; refine (hcrc _ (bdrew w)).mono ?_; rintro e w' ⟨rfl, rfl⟩))
  all_goals (go_wp2; go_ret; exact ⟨_, rfl, hdec, bdrewA w _⟩)

set_option maxHeartbeats 400000 in
/-- blocksOf: how many blocks so many bytes take. -/
theorem blocksOf_any (n : Nat) (w : World) (h : n ≤ 140737488355328) :
    Calls Tryz.prog 160 #[.int .i64 (n : Int)] w fun e w' => e = .returned (.int .i64 (((n + 30) / 31 : Nat) : Int)) ∧ w' = w := by
  go_enter Tryz.func160, Tryz.ntmps160
  go_wp2
  go_ret
  exact ⟨ret_intB (by go_arith), rfl⟩

set_option maxHeartbeats 2000000 in
/-- bodySize: how long a body the head at a piece's beginning tells of, if its sum is right. -/
theorem bodySize_any (ao : Option Addr) (len cap : Nat) (xs : List Int) (w : World) (h : Sl w ao len cap xs) (hl : 16 ≤ len) :
    Calls Tryz.prog 191 #[.slice ao len cap] w fun e w' => Below w.heap.size w w' ∧ ∃ n : Nat, n = va ((xs.drop 8).take 4) ∧
      ((n ≤ 65536 ∧ Ends (xs.take 16)) ∧ e = .returned (.tuple #[.int .i64 (n : Int), .bool true]) ∨ ¬ (n ≤ 65536 ∧ Ends (xs.take 16)) ∧ e = .returned (.tuple #[.int .i64 0, .bool false])) := by
  have hx := h.1
  obtain ⟨a1, hs1, hsl1⟩ := h.upto (P := Tryz.prog) 82 Tryz.underlying82 Tryz.size5 16 hl
  obtain ⟨a2, hs2, hsl2⟩ := hsl1.part (P := Tryz.prog) 82 Tryz.underlying82 Tryz.size5 8 12 (by omega) (by omega)
  replace hs1 : ∀ u : World, (Instr.slice 82 (.slice ao len cap) none (some (.int .i64 16)) none).run Tryz.prog u = .ok (.slice a1 16 cap) u := hs1
  replace hs2 : ∀ u : World, (Instr.slice 82 (.slice a1 16 cap) (some (.int .i64 8)) (some (.int .i64 12)) none).run Tryz.prog u = .ok (.slice a2 4 (cap - 8)) u := hs2
  replace hsl2 : Sl w a2 4 (cap - 8) (((xs.take 16).take 12).drop 8) := hsl2
  have e12 : ((xs.take 16).take 12).drop 8 = (xs.drop 8).take 4 := by
    rw [List.take_take, Nat.min_eq_left (by omega), List.drop_take]
  rw [e12] at hsl2
  have hn := va_lt ((xs.drop 8).take 4) ((h.2.2.2.1.drop _).take _)
  have hn2 : va ((xs.drop 8).take 4) < 4294967296 := by
    have h2 : 256 ^ ((xs.drop 8).take 4).length ≤ 256 ^ 4 := Nat.pow_le_pow_right (by decide) (by simp; omega)
    have h3 : (256 : Nat) ^ 4 = 4294967296 := by decide
    omega
  clear hn e12
  go_enter Tryz.func191, Tryz.ntmps191
  go_wp2_with fail
  refine (lowFirst_any a2 4 _ _ w hsl2 (by omega)).mono ?_
  rintro e w1 ⟨rfl, rfl⟩
  generalize hN : va ((xs.drop 8).take 4) = n at *
  clear hsl2 hs2
  by_cases hbig : 65536 < n
  · have hbi : (65536 : Int) < (n : Int) := by omega
    have hbd : decide ((65536 : Int) < (n : Int)) = true := by simp; omega
    go_wp2
    go_ret2
    exact ⟨Below.refl _ _, n, hN.symm, .inr ⟨by omega, rfl⟩⟩
  · have hbi : ¬ (65536 : Int) < (n : Int) := by omega
    have hbd : decide ((65536 : Int) < (n : Int)) = false := by simp; omega
    go_wp2_with fail
    refine (endsInSum_any a1 16 cap _ w1 hsl1 (by omega)).mono ?_
    rintro e w2 ⟨r, rfl, hr, hb2⟩
    clear hsl1 hs1
    have hn0 : (0 : Int) ≤ (n : Int) := by omega
    have hn1 : (n : Int) ≤ 65536 := by omega
    cases r with
    | true =>
      have hE := hF (hr.1 rfl)
      clear hr
      go_wp2
      go_ret2
      exact ⟨hb2, n, hN.symm, .inl ⟨⟨by omega, hE.out⟩, rfl⟩⟩
    | false =>
      have hE : Hid (¬ Ends (xs.take 16)) := fun k => by simpa using hr.2 k
      clear hr
      go_wp2
      go_ret2
      exact ⟨hb2, n, hN.symm, .inr ⟨fun ⟨_, k⟩ => hE.out k, rfl⟩⟩

end Go.Proofs.YthfcjfhaoabdeaaGreatDoor

/-
  What unblocked does: a frame's bytes, not yet in blocks.
-/
set_option linter.unusedVariables false
set_option linter.unusedSimpArgs false
namespace Go.Proofs.YthfcjfhaoabdeaaGreatDoor
open Go.RowKit

set_option maxHeartbeats 1000000 in
/-- unblocked: a frame's bytes, not yet in blocks. -/
theorem unblocked_any (ao : Option Addr) (len cap : Nat) (xs : List Int) (seq : Int) (w : World) (h : Sl w ao len cap xs) (h0 : 0 ≤ seq) (h1 : seq ≤ 18446744073709551615) (hl : len ≤ 65536) :
    Calls Tryz.prog 262 #[.int .u64 seq, .slice ao len cap] w fun e w' => ∃ v', e = .returned v' ∧ Own w' w.heap.size v' (st seq.toNat xs) ∧ Below w.heap.size w w' := by
  obtain ⟨i0, hi, hz0, hz1, hz2⟩ := info_parts Tryz.infoU8
  have hx := h.1
  have hbyt := h.2.2.2.1
  have hmk : ∀ u : World, (Instr.makeSlice 82 (.int .i64 0) (.int .i64 (16 + (len : Int) + 4))).run Tryz.prog u = .ok (.slice (some ⟨u.heap.size, 0, none⟩) 0 (len + 20)) (u.alloc (.cells (madeCells #[.int .u8 0] (len + 20)) 5)) := by
    intro u
    have := run_make (P := Tryz.prog) u 82 5 i0 (.int .u8 0) Tryz.underlying82 hi hz0 .i64 .i64 0 (16 + (len : Int) + 4) (by omega) (by omega) (by rw [hz2]; omega) (by omega)
    rw [this, hz1]
    have e1 : (16 + (len : Int) + 4).toNat = len + 20 := by omega
    simp only [e1, Nat.mul_one, Value.cells, Int.toNat_zero]
  have hown0 : Own (w.alloc (.cells (madeCells #[.int .u8 0] (len + 20)) 5)) w.heap.size (.slice (some ⟨w.heap.size, 0, none⟩) 0 (len + 20)) [] :=
    World.ownsRow_made w _ (len + 20) (Nat.le_refl _) (by unfold maxLen; omega) (by simp [size_madeCells])
  have hb0 : Below w.heap.size w (w.alloc (.cells (madeCells #[.int .u8 0] (len + 20)) 5)) := (Below.refl _ _).alloc (Nat.le_refl _) _
  have hst : st seq.toNat xs = sm (sm (hd seq.toNat len) ++ xs) := by unfold st; rw [hx]
  go_enter Tryz.func262, Tryz.ntmps262
  go_wp2_with fail
  have hs0 := hb0.size
  generalize w.alloc (.cells (madeCells #[.int .u8 0] (len + 20)) 5) = w0 at *
  refine (appendLow_any w.heap.size _ [] seq 8 w0 hown0 hs0 h0 h1 (by omega) (by simp)).mono ?_
  rintro e w1 ⟨v1, rfl, hown1, hb1⟩
  have hb01 := hb0.trans hb1
  have hs1 := hb01.size
  clear hmk hown0 hb0 hb1
  go_wp2_with fail
  refine (appendLow_any w.heap.size v1 _ (len : Int) 4 w1 hown1 hs1 (by omega) (by omega) (by omega) (by simp [lo_len])).mono ?_
  rintro e w2 ⟨v2, rfl, hown2, hb2⟩
  have hb02 := hb01.trans hb2
  have hs2 := hb02.size
  rw [Int.toNat_natCast, List.nil_append] at hown2
  replace hown2 : Own w2 w.heap.size v2 (hd seq.toNat len) := hown2
  clear hown1 hb01 hb2
  go_wp2_with fail
  refine (appendSum_any w.heap.size v2 _ w2 hown2 (hd_byt _ _) hs2 (by rw [hd_len]; omega)).mono ?_
  rintro e w3 ⟨v3, rfl, hown3, hb3⟩
  have hb03 := hb02.trans hb3
  have hs3 := hb03.size
  have hsl3 := h.below hb03
  clear hown2 hb02 hb3
  go_wp2_with (first | (at_builtin; refine wpList_append_sl rfl _ _ 82 rfl w.heap.size i0 Tryz.underlying82 hi hz0 hz1 hz2 _ _ rfl hown3 ao len cap xs rfl hsl3 (by rw [sm_len, hd_len]; omega) hs3 ?_) | fail)
  intro v4 w4 hown4 hb4
  have hb04 := hb03.trans hb4
  have hs4 := hb04.size
  clear hown3 hb03 hb4 hsl3
  go_wp2_with fail
  refine (appendSum_any w.heap.size v4 _ w4 hown4 ((sm_byt (hd_byt _ _)).append hbyt) hs4 (by rw [List.length_append, sm_len, hd_len]; omega)).mono ?_
  rintro e w5 ⟨v5, rfl, hown5, hb5⟩
  have hb05 := hb04.trans hb5
  clear hown4 hb04 hb5
  go_wp2
  go_ret
  exact ⟨_, rfl, by rw [hst]; exact hown5, hb05⟩
end Go.Proofs.YthfcjfhaoabdeaaGreatDoor

/-
  What cut and its closure do: bytes handed out piece by piece.
-/
set_option linter.unusedVariables false
set_option linter.unusedSimpArgs false
namespace Go.Proofs.YthfcjfhaoabdeaaGreatDoor
open Go.RowKit

/-- The closure of 'cut', by its two boxes. -/
def ctF (sb bb : Nat) : Value := .func (.func 238) #[] #[.pointer (some ⟨sb, 0, none⟩), .pointer (some ⟨bb, 0, none⟩)]

theorem slice_h {P : Program} (t : TypeId) (ht : P.underlying t = some (.slice 5)) (hs : ∀ u : World, (Go.sizeOf 5).run P u = .ok 1 u) (ao : Option Addr) (len cap k : Nat) (hk : k ≤ cap) (u : World) :
    (Instr.slice t (.slice ao len cap) none (some (.int .i64 (k : Int))) none).run P u = .ok (Go.sliced ao 0 k cap 1) u := by
  have ht' : P.underlying t = some (.slice (P.elem t)) := by simp [Program.elem, ht]
  have he : P.elem t = 5 := by simp [Program.elem, ht]
  rw [run_slice_h u t ao len cap ht' .i64 k (by omega) (by omega), he, hs]
  simp only [Result.andThen, Int.toNat_natCast]
theorem slice_l {P : Program} (t : TypeId) (ht : P.underlying t = some (.slice 5)) (hs : ∀ u : World, (Go.sizeOf 5).run P u = .ok 1 u) (ao : Option Addr) (len cap k : Nat) (hk : k ≤ len) (u : World) :
    (Instr.slice t (.slice ao len cap) (some (.int .i64 (k : Int))) none none).run P u = .ok (Go.sliced ao k len cap 1) u := by
  have ht' : P.underlying t = some (.slice (P.elem t)) := by simp [Program.elem, ht]
  have he : P.elem t = 5 := by simp [Program.elem, ht]
  rw [run_slice_l u t ao len cap ht' .i64 k (by omega) (by omega), he, hs]
  simp only [Result.andThen, Int.toNat_natCast]

set_option maxHeartbeats 800000 in
/-- The closure: the first so many are handed out, the rest is kept. -/
theorem cut1_any (sb bb size len cap : Nat) (ao : Option Addr) (w : World) (hlc : len ≤ cap) (hcm : cap ≤ maxLen) (hsz : size ≤ 1000)
    (h1 : w.cell? ⟨sb, 0, none⟩ = some (.int .i64 (size : Int))) (h2 : w.cell? ⟨bb, 0, none⟩ = some (.slice ao len cap)) (h3 : w.frozen? ⟨bb, 0, none⟩ = false) :
    Calls Tryz.prog 238 (#[] ++ #[.pointer (some ⟨sb, 0, none⟩), .pointer (some ⟨bb, 0, none⟩)]) w fun e w' => e = .returned (Go.sliced ao 0 (min size len) cap 1) ∧ w' = w.setCell ⟨bb, 0, none⟩ (Go.sliced ao (min size len) len cap 1) := by
  have hlen : (len : Int) ≤ 9223372036854775807 := by unfold maxLen at hcm; omega
  have hs1 := slice_h (P := Tryz.prog) 82 Tryz.underlying82 Tryz.size5 ao len cap (min size len) (by omega)
  have hs2 := slice_l (P := Tryz.prog) 82 Tryz.underlying82 Tryz.size5 ao len cap (min size len) (by omega)
  generalize Go.sliced ao 0 (min size len) cap 1 = V1 at *
  obtain ⟨a2, l2, c2, hV2⟩ : ∃ a2 l2 c2, Go.sliced ao (min size len) len cap 1 = .slice a2 l2 c2 := ⟨_, _, _, rfl⟩
  rw [hV2] at hs2 ⊢
  clear hV2
  by_cases hlt : size ≤ len
  · rw [Nat.min_eq_left hlt] at hs1 hs2
    have hlt2 : (size : Int) ≤ (len : Int) := by omega
    go_enter Tryz.func238, Tryz.ntmps238
    go_wp2
    go_ret
    exact ⟨rfl, rfl⟩
  · rw [Nat.min_eq_right (by omega)] at hs1 hs2
    have hlt2 : (len : Int) ≤ (size : Int) := by omega
    have hlt3 : ¬ (size : Int) ≤ (len : Int) := by omega
    go_enter Tryz.func238, Tryz.ntmps238
    go_wp2
    go_ret
    exact ⟨rfl, rfl⟩

set_option maxHeartbeats 400000 in
/-- cut: two boxes, and the closure over them. -/
theorem cut_any (ao : Option Addr) (len cap size : Nat) (w : World) :
    Calls Tryz.prog 190 #[.slice ao len cap, .int .i64 (size : Int)] w fun e w' => e = .returned (ctF (w.heap.size + 1) w.heap.size) ∧
      w' = (w.alloc (.cells #[.slice ao len cap] 82)).alloc (.cells #[.int .i64 (size : Int)] 3) := by
  go_enter Tryz.func190, Tryz.ntmps190
  go_wp2
  go_ret
  exact ⟨rfl, rfl⟩
end Go.Proofs.YthfcjfhaoabdeaaGreatDoor
