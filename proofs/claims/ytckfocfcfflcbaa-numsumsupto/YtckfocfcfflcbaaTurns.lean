/-
  The walk of the law NumTurns.
-/
import Derived.Test.YtckfocfcfflcbaaShown
import Derived.Test.YtckfocfcfflcbaaCrc
import Derived.Test.YtckfocfcfflcbaaKit2
set_option linter.unusedVariables false
set_option linter.unusedSimpArgs false
namespace Go.Proofs.Ytckfocfcfflcbaa
open Go.RowKit

/-- One slice as the parts. -/
theorem Pl.one {w : World} {ao : Option Addr} {len cap : Nat} {xs : List Int} (h : Sl w ao len cap xs) (t : TypeId) : Pl (w.alloc (.cells #[.slice ao len cap] t)) (some ⟨w.heap.size, 0, none⟩) 1 1 [xs] := by
  have hb : Below w.heap.size w (w.alloc (.cells #[.slice ao len cap] t)) := (Below.refl _ _).alloc (Nat.le_refl _) _
  refine ⟨rfl, Nat.le_refl _, by unfold maxLen; omega, fun _ => ⟨w.heap.size, 0, rfl, by simp, fun i hi => ?_⟩⟩
  obtain rfl : i = 0 := by omega
  exact ⟨ao, len, cap, by simp, h.below hb⟩

theorem xor8 (x y : Int) (hx0 : 0 ≤ x) (hx1 : x ≤ 255) (hy0 : 0 ≤ y) (hy1 : y ≤ 255) (hy : y ≠ 0) :
    ∃ z : Int, bits BinOp.xor IntKind.u8 x y = z ∧ 0 ≤ z ∧ z ≤ 255 ∧ x ≠ z := by
  refine ⟨_, u8_xor x y hx0 (by omega) hy0 (by omega), by omega, ?_, ?_⟩
  · have : x.toNat ^^^ y.toNat < 2 ^ 8 := Nat.xor_lt_two_pow (by omega) (by omega)
    omega
  · intro e
    have e2 : x.toNat = x.toNat ^^^ y.toNat := by omega
    have e3 : x.toNat ^^^ 0 = x.toNat ^^^ y.toNat := by rw [Nat.xor_zero]; exact e2
    have := xor_cancel' e3
    omega

theorem split_at (xs : List Int) (k : Nat) (h : k < xs.length) (z : Int) : xs = xs.take k ++ xs.getD k 0 :: xs.drop (k + 1) ∧ xs.set k z = xs.take k ++ z :: xs.drop (k + 1) := by
  constructor
  · conv => lhs; rw [← List.take_append_drop k xs]
    congr 1
    rw [List.drop_eq_getElem_cons h]
    simp [List.getD, List.getElem?_eq_getElem h]
  · rw [List.set_eq_take_append_cons_drop, if_pos h]

theorem turned (xs : List Int) (k : Nat) (h : k < xs.length) (z : Int) (hb : Byt xs) (hz0 : 0 ≤ z) (hz1 : z ≤ 255) (hne : xs.getD k 0 ≠ z) : crc xs ≠ crc (xs.set k z) := by
  obtain ⟨e1, e2⟩ := split_at xs k h z
  have hx := hb.getD k
  rw [e2]
  conv => lhs; rw [e1]
  exact crc_turns (hb.take _) (hb.drop _) hx.1 hz0 hx.2 hz1 hne

/-- An own row with an element, and a byte of it turned. -/
theorem Own.form {w : World} {base : Nat} {v : Value} {xs : List Int} (h : Own w base v xs) (k : Nat) (hk : k < xs.length) (z : Int) :
    ∃ g c, v = .slice (some ⟨g, 0, none⟩) xs.length c ∧ base ≤ g ∧ g < w.heap.size ∧ w.cell? ⟨g, k, none⟩ = some (.int .u8 (xs.getD k 0)) ∧ w.frozen? ⟨g, k, none⟩ = false ∧
      Own (w.setCell ⟨g, k, none⟩ (.int .u8 z)) base (.slice (some ⟨g, 0, none⟩) xs.length c) (xs.set k z) := by
  have hv : ∃ g c, v = .slice (some ⟨g, 0, none⟩) xs.length c := by
    rcases h.2 with ⟨_, h0⟩ | ⟨g, cap, cur, rfl, _⟩
    · omega
    · exact ⟨g, cap, rfl⟩
  obtain ⟨g, c, rfl⟩ := hv
  have hlt := World.ownsRow.lt h g rfl
  refine ⟨g, c, rfl, hlt.1, hlt.2, ?_, World.ownsRow.frozenAt h k, ?_⟩
  · rw [World.ownsRow.cellAt h k (by omega)]
    simp [bc, List.getD, List.getElem?_eq_getElem hk]
  · have := (World.ownsRow.stored h k (.int .u8 z)).1
    refine Own.of_bc (n := xs.length) ?_ (by simp)
    rw [show bc (xs.set k z) = (bc xs).set k (.int .u8 z) from by simp [bc, List.map_set]]
    exact this

set_option maxHeartbeats 1000000 in
theorem turns_walk (ao : Option Addr) (len cap : Nat) (xs : List Int) (at_ by_ : Int) (w : World) (h : Sl w ao len cap xs) (hl : cap ≤ reachBytes) (hby : 0 ≤ by_ ∧ by_ ≤ 255) :
    Calls Try.prog 8 #[.slice ao len cap, .int .i64 at_, .int .u8 by_] w fun e w' => e = .returned (.bool true) ∧ Below w.heap.size w w' := by
  obtain ⟨i0, hi, hz0, hz1, hz2⟩ := info_parts Try.info5
  have hx := h.1
  have hlc := h.2.1
  have hbyt := h.2.2.2.1
  have hl2 : len ≤ 140737488351232 := by unfold reachBytes at hl; omega
  by_cases c1 : at_ < 0
  · go_enter Try.func8, Try.ntmps8
    go_wp2_with fail
    refine (shown_any w).mono ?_
    rintro e w1 ⟨rfl, hb1⟩
    go_wp2
    go_ret
    exact ⟨rfl, hb1⟩
  by_cases c2 : (len : Int) ≤ at_
  · go_enter Try.func8, Try.ntmps8
    go_wp2_with fail
    refine (shown_any w).mono ?_
    rintro e w1 ⟨rfl, hb1⟩
    go_wp2
    go_ret
    exact ⟨rfl, hb1⟩
  by_cases c3 : by_ = 0
  · subst c3
    go_enter Try.func8, Try.ntmps8
    go_wp2_with fail
    refine (shown_any w).mono ?_
    rintro e w1 ⟨rfl, hb1⟩
    go_wp2
    go_ret
    exact ⟨rfl, hb1⟩
  obtain ⟨k, rfl⟩ : ∃ k : Nat, at_ = (k : Int) := ⟨at_.toNat, by omega⟩
  have hk : k < len := by omega
  have hki : (k : Int) < (len : Int) := by omega
  have hd : decide ((k : Int) < 0) = false := by simp
  have c3b : (by_ == 0) = false := by simpa using c3
  have hxb := hbyt.getD k
  obtain ⟨z, hxo, hzb0, hzb1, hne⟩ := xor8 (xs.getD k 0) by_ hxb.1 hxb.2 hby.1 hby.2 c3
  have hturn := turned xs k (by omega) z hbyt hzb0 hzb1 hne
  have hmk : ∀ u : World, (Instr.makeSlice 22 (.int .i64 0) (.int .i64 (len : Int))).run Try.prog u = .ok (.slice (some ⟨u.heap.size, 0, none⟩) 0 len) (u.alloc (.cells (madeCells #[.int .u8 0] len) 5)) := by
    intro u
    have := run_make (P := Try.prog) u 22 5 i0 (.int .u8 0) Try.underlying22 hi hz0 .i64 .i64 0 len (by omega) (by omega) (by rw [hz2]; omega) (by omega)
    rw [this, hz1]
    simp only [Nat.mul_one, Int.toNat_natCast, Value.cells, Int.toNat_zero]
  go_enter Try.func8, Try.ntmps8
  go_wp2_with fail
  refine (shown_any w).mono ?_
  rintro e w1 ⟨rfl, hb1⟩
  have h1 := h.below hb1
  have hp1 := Pl.one h1 22
  go_wp2_with fail
  refine (crc_any _ 1 1 [xs] _ hp1).mono ?_
  rintro e w2 ⟨rfl, hw2⟩
  have hb12 : Below w1.heap.size w1 w2 := by rw [hw2]; exact (Below.refl _ _).alloc (Nat.le_refl _) _
  have h2 := h1.below hb12
  have hb02 : Below w.heap.size w w2 := hb1.trans (hb12.mono hb1.size)
  clear hw2 hp1 h1 hb1 hb12
  have hown0 : Own (w2.alloc (.cells (madeCells #[.int .u8 0] len) 5)) w2.heap.size (.slice (some ⟨w2.heap.size, 0, none⟩) 0 len) [] :=
    World.ownsRow_made w2 _ len (Nat.le_refl _) (by unfold maxLen; omega) (by simp [size_madeCells])
  have hbA : Below w2.heap.size w2 (w2.alloc (.cells (madeCells #[.int .u8 0] len) 5)) := (Below.refl _ _).alloc (Nat.le_refl _) _
  have h2A := h2.below hbA
  go_wp2_with (first | (at_builtin; refine wpList_append_sl rfl _ _ 22 rfl w2.heap.size i0 Try.underlying22 hi hz0 hz1 hz2 _ _ rfl hown0 ao len cap xs rfl h2A (by simp; omega) (by simp) ?_) | fail)
  intro v3 w3 hown3 hb3
  have hb23 : Below w2.heap.size w2 w3 := hbA.trans hb3
  have hb03 : Below w.heap.size w w3 := hb02.trans (hb23.mono hb02.size)
  have hs03 := hb02.size
  have hown3' : Own w3 w2.heap.size v3 xs := hown3
  obtain ⟨g, c, rfl, hg1, hg2, hcg, hfg, hown4⟩ := hown3'.form k (by omega) z
  have hb04 : Below w.heap.size w (w3.setCell ⟨g, k, none⟩ (.int .u8 z)) := hb03.setCell (by simp; omega) _
  rw [hx] at hown4 ⊢
  have hbytz : Byt (xs.set k z) := by
    intro y hy
    rcases List.mem_or_eq_of_mem_set hy with hy | rfl
    · exact hbyt y hy
    · exact ⟨hzb0, hzb1⟩
  obtain ⟨w4, hw4⟩ : ∃ w4, w4 = w3.setCell ⟨g, k, none⟩ (.int .u8 z) := ⟨_, rfl⟩
  rw [← hw4] at hown4 hb04
  obtain ⟨a5, l5, c5, e5, hsl5, _⟩ := hown4.sl' hbytz
  have hp5 := Pl.one hsl5 22
  rw [← e5] at hp5
  have hsz4 : w4.heap.size = w3.heap.size := by rw [hw4]; simp [World.setCell]
  rw [hsz4] at hp5
  have hxo2 : bits BinOp.xor IntKind.u8 (xs.getD k 0) by_ = z := hxo
  generalize xs.getD k 0 = x at *
  have hcne : ((crc xs : Int) != (crc (xs.set k z) : Int)) = true := by
    simp only [bne_iff_ne, ne_eq]
    omega
  replace hw4 := hide3 hw4
  clear hmk hown0 hbA h2A hown3 hown3' hb3 hb23 hb03 hb02 h2 h hown4 hsl5 hturn hxo e5 hsz4
  go_wp2_with fail
  rw [← hw4.out]
  refine (crc_any (some ⟨w3.heap.size, 0, none⟩) 1 1 [xs.set k z] _ hp5).mono ?_
  rintro e w6 ⟨rfl, hw6⟩
  have hb06 : Below w.heap.size w w6 := by rw [hw6]; exact hb04.alloc hb04.size _
  clear hw6 hb04 hw4 hp5
  simp only [List.flatten_cons, List.flatten_nil, List.append_nil]
  go_wp2
  go_ret
  exact ⟨by first | rfl | (simp; done), hb06⟩
end Go.Proofs.Ytckfocfcfflcbaa
