/-
  What becomes of frames when the end is turned: plain mathematics.
-/
import Derived.Test.YtaibldodlbaknaaP1
set_option linter.unusedVariables false
set_option linter.unusedSimpArgs false
namespace Go.Proofs.Ytaibldodlbaknaa
open Go.RowKit

/-- A byte turned. -/
def tu (x : Int) : Int := 255 - x
theorem tu_xor (x : Int) (h0 : 0 ≤ x) (h1 : x ≤ 255) : (tu x).toNat = x.toNat ^^^ 255 := by
  have key : ∀ a : Fin 256, a.val ^^^ 255 = 255 - a.val := by decide +kernel
  have := key ⟨x.toNat, by omega⟩
  simp only [] at this
  rw [this]
  unfold tu
  omega
theorem tu_byt {xs : List Int} (h : Byt xs) : Byt (xs.map tu) := by
  intro y hy
  obtain ⟨x, hx, rfl⟩ := List.mem_map.1 hy
  have := h x hx
  unfold tu
  omega

theorem xor_half (a b : Nat) : (a ^^^ b) / 2 = (a / 2) ^^^ (b / 2) := by
  apply Nat.eq_of_testBit_eq
  intro i
  rw [Nat.testBit_xor, Nat.testBit_div_two, Nat.testBit_div_two, Nat.testBit_div_two, Nat.testBit_xor]
theorem xor_odd (a b : Nat) : (a ^^^ b) % 2 = (a % 2 + b % 2) % 2 := by
  have h := Nat.testBit_xor a b 0
  simp only [Nat.testBit_zero] at h
  have ha : a % 2 = 0 ∨ a % 2 = 1 := by omega
  have hb : b % 2 = 0 ∨ b % 2 = 1 := by omega
  have hc : (a ^^^ b) % 2 = 0 ∨ (a ^^^ b) % 2 = 1 := by omega
  rcases ha with ha | ha <;> rcases hb with hb | hb <;> rcases hc with hc | hc <;> simp [ha, hb, hc] at h ⊢
theorem cs_xor (a b : Nat) : cs (a ^^^ b) = cs a ^^^ cs b := by
  unfold cs
  rw [xor_half, xor_odd]
  have ha : a % 2 = 0 ∨ a % 2 = 1 := by omega
  have hb : b % 2 = 0 ∨ b % 2 = 1 := by omega
  have hx : ∀ u v p : Nat, u ^^^ p ^^^ v = u ^^^ v ^^^ p := fun u v p => by rw [Nat.xor_assoc, Nat.xor_comm p v, ← Nat.xor_assoc]
  have hy : ∀ u v p : Nat, u ^^^ p ^^^ (v ^^^ p) = u ^^^ v := fun u v p => by rw [← Nat.xor_assoc, hx u v p, Nat.xor_assoc, Nat.xor_self, Nat.xor_zero]
  rcases ha with ha | ha <;> rcases hb with hb | hb <;> simp [ha, hb]
  · rw [Nat.xor_assoc]
  · rw [hx]
  · rw [hy]
theorem csK_xor : ∀ (k a b : Nat), csK k (a ^^^ b) = csK k a ^^^ csK k b
  | 0, _, _ => rfl
  | k + 1, a, b => by simp only [csK, csK_xor k a b, cs_xor]
theorem cb_turn (c d : Nat) (x : Int) (h0 : 0 ≤ x) (h1 : x ≤ 255) : cb (c ^^^ d) (tu x) = cb c x ^^^ cb d 255 := by
  unfold cb
  rw [tu_xor x h0 h1, ← csK_xor]
  congr 1
  show c ^^^ d ^^^ (x.toNat ^^^ 255) = c ^^^ x.toNat ^^^ (d ^^^ 255)
  rw [Nat.xor_assoc, Nat.xor_assoc, ← Nat.xor_assoc d, Nat.xor_comm d, Nat.xor_assoc]
theorem cl_turn : ∀ (xs : List Int) (c d : Nat), Byt xs → cl (c ^^^ d) (xs.map tu) = cl c xs ^^^ cl d (List.replicate xs.length 255)
  | [], _, _, _ => rfl
  | x :: xs, c, d, h => by
    have hx := h x (List.mem_cons_self ..)
    have ih := cl_turn xs (cb c x) (cb d 255) fun y hy => h y (List.mem_cons_of_mem _ hy)
    simp only [List.map_cons, cl, List.foldl_cons, List.length_cons, List.replicate_succ] at ih ⊢
    rw [cb_turn c d x hx.1 hx.2]
    exact ih
/-- The sum of bytes the last of which are turned. -/
theorem crc_turn (xs ys : List Int) (h : Byt ys) : crc (xs ++ ys.map tu) = crc (xs ++ ys) ^^^ cl 0 (List.replicate ys.length 255) := by
  unfold crc
  rw [cl_append, cl_append]
  have := cl_turn ys (cl 4294967295 xs) 0 h
  rw [Nat.xor_zero] at this
  rw [this, Nat.xor_assoc, Nat.xor_assoc, Nat.xor_comm 4294967295]
theorem ones_not : ∀ j : Fin 36, cl 0 (List.replicate j.val 255) ≠ 4294967295 := by decide +kernel

theorem lo_turn : ∀ (k n : Nat), n < 256 ^ k → (lo k n).map tu = lo k (256 ^ k - 1 - n)
  | 0, n, _ => rfl
  | k + 1, n, h => by
    rw [Nat.pow_succ] at h ⊢
    have hp : 0 < 256 ^ k := Nat.pow_pos (by decide)
    have ih := lo_turn k (n / 256) (by omega)
    simp only [lo, List.map_cons, ih]
    congr 1
    · unfold tu
      omega
    · congr 1
      omega

/-- Bytes with their sum, the last of which are turned, do not end in their sum. -/
theorem torn_ends {s : List Int} (hs : Byt s) {m : Nat} (hm : m < (sm s).length) (hj : (sm s).length - m ≤ 35) : ¬ Ends ((sm s).take m ++ ((sm s).drop m).map tu) := by
  rintro ⟨_, h⟩
  have hl := sm_len s
  have hlen : ((sm s).take m ++ ((sm s).drop m).map tu).length = s.length + 4 := by simp; omega
  rw [hlen, show s.length + 4 - 4 = s.length from by omega] at h
  have hc := crc_lt hs
  by_cases hms : m < s.length
  · have e1 : (sm s).take m ++ ((sm s).drop m).map tu = (s.take m ++ (s.drop m).map tu) ++ (lo 4 (crc s)).map tu := by
      unfold sm
      rw [List.take_append_of_le_length (by omega), List.drop_append_of_le_length (by omega), List.map_append, List.append_assoc]
    have e2 : (s.take m ++ (s.drop m).map tu).length = s.length := by simp; omega
    rw [e1, List.drop_left' e2, List.take_left' e2, lo_turn 4 _ hc, va_lo 4 _ (by
      have : (256 : Nat) ^ 4 = 4294967296 := by decide
      omega), crc_turn _ _ (hs.drop m), List.take_append_drop] at h
    have hone := ones_not ⟨(s.drop m).length, by simp; omega⟩
    simp only [] at hone
    have e3 : (256 : Nat) ^ 4 - 1 - crc s = crc s ^^^ 4294967295 := by
      apply Nat.eq_of_testBit_eq
      intro i
      rw [Nat.testBit_xor, show (256 : Nat) ^ 4 - 1 - crc s = 2 ^ 32 - (crc s + 1) from by
        have : (256 : Nat) ^ 4 = 2 ^ 32 := by decide
        omega, Nat.testBit_two_pow_sub_succ (by omega), show (4294967295 : Nat) = 2 ^ 32 - 1 from rfl, Nat.testBit_two_pow_sub_one]
      by_cases hi : i < 32
      · simp [hi]
      · have : (crc s).testBit i = false := Nat.testBit_lt_two_pow (Nat.lt_of_lt_of_le hc (by
          have := Nat.pow_le_pow_right (n := 2) (by decide) (by omega : 32 ≤ i)
          omega))
        simp [hi, this]
    rw [e3] at h
    exact hone (xor_cancel' h).symm
  · have e1 : (sm s).take m ++ ((sm s).drop m).map tu = s ++ ((lo 4 (crc s)).take (m - s.length) ++ ((lo 4 (crc s)).drop (m - s.length)).map tu) := by
      unfold sm
      rw [List.take_append, List.drop_append, List.take_of_length_le (by omega), List.drop_eq_nil_of_le (by omega), List.nil_append, List.append_assoc]
    rw [e1, List.drop_left, List.take_left] at h
    have hlo : va (lo 4 (crc s)) = crc s := va_lo 4 _ hc
    have hb4 := lo_byt 4 (crc s)
    have e2 := va_inj ((hb4.take _).append (tu_byt (hb4.drop _))) hb4 (by simp; omega) (h.trans hlo.symm)
    have h3 : (lo 4 (crc s)).length = 4 := lo_len _ _
    have e3 := congrArg (fun l => l.getD 3 0) e2
    simp only [List.getD] at e3
    rw [List.getElem?_append_right (by simp; omega), List.getElem?_map, List.getElem?_drop, List.length_take, h3, Nat.min_eq_left (by omega), show m - s.length + (3 - (m - s.length)) = 3 from by omega, List.getElem?_eq_getElem (by omega : 3 < (lo 4 (crc s)).length)] at e3
    simp only [Option.map_some, Option.getD_some, tu] at e3
    omega
end Go.Proofs.Ytaibldodlbaknaa
