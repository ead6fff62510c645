/-
  What the small functions of package frame do: whether bytes end in their sum, a head's length, a frame's bytes.
-/
import Derived.Test.YtaibldodlbaknaaF1
set_option linter.unusedVariables false
set_option linter.unusedSimpArgs false
namespace Go.Proofs.Ytaibldodlbaknaa
open Go.RowKit

theorem bdrew (w : World) : Below w.heap.size w w.drew := below_drewN (Below.refl _ _) 1
theorem bdrewA (w : World) (o : Obj) : Below w.heap.size w (w.drew.alloc o) := (bdrew w).alloc (Nat.le_refl _) _

theorem ends_dec (xs : List Int) (len : Nat) (hx : xs.length = len) (hl : 4 ≤ len) : ((((va (xs.drop (len - 4)) : Nat) : Int)) == (((crc (xs.take (len - 4)) : Nat) : Int))) = true ↔ Ends xs := by
  subst hx
  unfold Ends
  simp only [beq_iff_eq]
  constructor
  · intro h
    exact ⟨hl, by omega⟩
  · intro h
    have := h.2
    omega

set_option maxHeartbeats 2000000 in
/-- endsInSum: do bytes end in their sum? -/
theorem endsInSum_any (ao : Option Addr) (len cap : Nat) (xs : List Int) (w : World) (h : Sl w ao len cap xs) (hl : 4 ≤ len) :
    Calls Try.prog 36 #[.slice ao len cap] w fun e w' => ∃ r : Bool, e = .returned (.bool r) ∧ (r = true ↔ Ends xs) ∧ Below w.heap.size w w' := by
  have hlen : (len : Int) ≤ 9223372036854775807 := by have := h.2.1; have := h.2.2.1; unfold maxLen at this; omega
  have hdec := ends_dec xs len h.1 hl
  obtain ⟨a1, hs1, hsl1⟩ := h.from (P := Try.prog) 22 Try.underlying22 Try.size5 (len - 4) (by omega)
  obtain ⟨a2, hs2, hsl2⟩ := h.upto (P := Try.prog) 22 Try.underlying22 Try.size5 (len - 4) (by omega)
  rw [show len - (len - 4) = 4 from by omega] at hs1 hsl1
  have ecast : ((len - 4 : Nat) : Int) = (len : Int) - 4 := by omega
  rw [ecast] at hs1 hs2
  have hlow : ∀ u : World, Below w.heap.size w u → Calls Try.prog 27 #[.slice a1 4 (cap - (len - 4))] u fun e w' => e = .returned (.int .u64 ((va (xs.drop (len - 4)) : Nat) : Int)) ∧ w' = u := fun u hu =>
    lowFirst_any a1 4 _ _ u (hsl1.below hu) (by omega)
  have hcrc : ∀ u : World, Below w.heap.size w u → Calls Try.prog 37 #[.slice (some ⟨u.heap.size, 0, none⟩) 1 1] (u.alloc (.cells #[.slice a2 (len - 4) cap] 22)) fun e w' => e = .returned (.int .u32 ((crc (xs.take (len - 4)) : Nat) : Int)) ∧ w' = u.alloc (.cells #[.slice a2 (len - 4) cap] 22) := fun u hu => by
      have := crc_any _ 1 1 [xs.take (len - 4)] _ (Pl.one (hsl2.below hu) 22)
      simpa using this
  have hcl := crc_lt (h.2.2.2.1.take (len - 4))
  generalize va (xs.drop (len - 4)) = A at *
  generalize crc (xs.take (len - 4)) = B at *
  have hwB : IntKind.u64.wrap (B : Int) = (B : Int) := IntWalk.u64_in (B : Int) (by omega)
  clear hsl1 hsl2 h
  go_enter Try.func36, Try.ntmps36
  go_wp2
  go_region_with (first
    | (go_at_call 27; (first | refine (hlow _ (bdrewA w _)).mono ?_ | refine (hlow _ (bdrew w)).mono ?_); rintro e w' ⟨rfl, rfl⟩)
    | (go_at_call 37; refine (hcrc _ (bdrew w)).mono ?_; rintro e w' ⟨rfl, rfl⟩))
  all_goals (go_wp2; go_ret; exact ⟨_, rfl, hdec, bdrewA w _⟩)

set_option maxHeartbeats 400000 in
/-- blocksOf: how many blocks so many bytes take. -/
theorem blocksOf_any (n : Nat) (w : World) (h : n ≤ 140737488355328) :
    Calls Try.prog 22 #[.int .i64 (n : Int)] w fun e w' => e = .returned (.int .i64 (((n + 30) / 31 : Nat) : Int)) ∧ w' = w := by
  go_enter Try.func22, Try.ntmps22
  go_wp2
  go_ret
  exact ⟨ret_int (by go_arith), rfl⟩

set_option maxHeartbeats 2000000 in
/-- bodySize: how long a body the head at a piece's beginning tells of, if its sum is right. -/
theorem bodySize_any (ao : Option Addr) (len cap : Nat) (xs : List Int) (w : World) (h : Sl w ao len cap xs) (hl : 16 ≤ len) :
    Calls Try.prog 35 #[.slice ao len cap] w fun e w' => Below w.heap.size w w' ∧ ∃ n : Nat, n = va ((xs.drop 8).take 4) ∧
      ((n ≤ 65536 ∧ Ends (xs.take 16)) ∧ e = .returned (.tuple #[.int .i64 (n : Int), .bool true]) ∨ ¬ (n ≤ 65536 ∧ Ends (xs.take 16)) ∧ e = .returned (.tuple #[.int .i64 0, .bool false])) := by
  have hx := h.1
  obtain ⟨a1, hs1, hsl1⟩ := h.upto (P := Try.prog) 22 Try.underlying22 Try.size5 16 hl
  obtain ⟨a2, hs2, hsl2⟩ := hsl1.part (P := Try.prog) 22 Try.underlying22 Try.size5 8 12 (by omega) (by omega)
  replace hs1 : ∀ u : World, (Instr.slice 22 (.slice ao len cap) none (some (.int .i64 16)) none).run Try.prog u = .ok (.slice a1 16 cap) u := hs1
  replace hs2 : ∀ u : World, (Instr.slice 22 (.slice a1 16 cap) (some (.int .i64 8)) (some (.int .i64 12)) none).run Try.prog u = .ok (.slice a2 4 (cap - 8)) u := hs2
  replace hsl2 : Sl w a2 4 (cap - 8) (((xs.take 16).take 12).drop 8) := hsl2
  have e12 : ((xs.take 16).take 12).drop 8 = (xs.drop 8).take 4 := by
    rw [List.take_take, Nat.min_eq_left (by omega), List.drop_take]
  rw [e12] at hsl2
  have hn := va_lt ((xs.drop 8).take 4) ((h.2.2.2.1.drop _).take _)
  have hn2 : va ((xs.drop 8).take 4) < 4294967296 := by
    have h2 : 256 ^ ((xs.drop 8).take 4).length ≤ 256 ^ 4 := Nat.pow_le_pow_right (by decide) (by simp; omega)
    have h3 : (256 : Nat) ^ 4 = 4294967296 := by decide
    omega
  clear hn e12
  go_enter Try.func35, Try.ntmps35
  go_wp2_with fail
  refine (lowFirst_any a2 4 _ _ w hsl2 (by omega)).mono ?_
  rintro e w1 ⟨rfl, rfl⟩
  generalize hN : va ((xs.drop 8).take 4) = n at *
  clear hsl2 hs2
  by_cases hbig : 65536 < n
  · have hbi : (65536 : Int) < (n : Int) := by omega
    have hbd : decide ((65536 : Int) < (n : Int)) = true := by simp; omega
    go_wp2
    go_ret2
    exact ⟨Below.refl _ _, n, hN.symm, .inr ⟨by omega, rfl⟩⟩
  · have hbi : ¬ (65536 : Int) < (n : Int) := by omega
    have hbd : decide ((65536 : Int) < (n : Int)) = false := by simp; omega
    go_wp2_with fail
    refine (endsInSum_any a1 16 cap _ w1 hsl1 (by omega)).mono ?_
    rintro e w2 ⟨r, rfl, hr, hb2⟩
    clear hsl1 hs1
    have hn0 : (0 : Int) ≤ (n : Int) := by omega
    have hn1 : (n : Int) ≤ 65536 := by omega
    cases r with
    | true =>
      have hE := hF (hr.1 rfl)
      clear hr
      go_wp2
      go_ret2
      exact ⟨hb2, n, hN.symm, .inl ⟨⟨by omega, hE.out⟩, rfl⟩⟩
    | false =>
      have hE : Hid (¬ Ends (xs.take 16)) := fun k => by simpa using hr.2 k
      clear hr
      go_wp2
      go_ret2
      exact ⟨hb2, n, hN.symm, .inr ⟨fun ⟨_, k⟩ => hE.out k, rfl⟩⟩

end Go.Proofs.Ytaibldodlbaknaa
