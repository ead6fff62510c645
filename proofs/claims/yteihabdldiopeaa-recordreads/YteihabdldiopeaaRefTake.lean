/-
  What the document's own Take and TakeText answer.
-/
import Derived.Test.YteihabdldiopeaaText
set_option linter.unusedVariables false
set_option linter.unusedSimpArgs false
namespace Go.Proofs.Yteihabdldiopeaa
open Go.RowKit

theorem mul_bd (x p : Int) (k : Nat) (hp : p = 128 ^ k) (hx0 : 0 ≤ x) (hx1 : x ≤ 255) (h9 : k < 9 ∨ (k = 9 ∧ x ≤ 1)) : 0 ≤ x % 128 * p ∧ x % 128 * p ≤ 9223372036854775808 := by
  subst hp
  have hP : (0 : Int) < 128 ^ k := Int.pow_pos (by decide)
  refine ⟨Int.mul_nonneg (by omega) (by omega), ?_⟩
  rcases h9 with h9 | ⟨rfl, h9⟩
  · have h2 : (128 : Int) ^ k ≤ 128 ^ 8 := pow128_le (by omega)
    have h3 : x % 128 * 128 ^ k ≤ 128 * 128 ^ 8 := Int.mul_le_mul (by omega) h2 (by omega) (by decide)
    have h4 : (128 : Int) * 128 ^ 8 = 9223372036854775808 := by decide
    omega
  · rw [p9]
    omega
theorem pow_bd (k : Nat) (h : k ≤ 9) : (0 : Int) < 128 ^ k ∧ (128 : Int) ^ k ≤ 9223372036854775808 := by
  have h2 : (128 : Int) ^ k ≤ 128 ^ 9 := pow128_le h
  rw [p9] at h2
  exact ⟨Int.pow_pos (by decide), h2⟩

set_option maxRecDepth 100000 in
set_option maxHeartbeats 2000000 in
theorem refTake_any (ao : Option Addr) (len cap : Nat) (xs : List Int) (at_ : Int) (w : World) (h : Sl w ao len cap xs) :
    Calls Try.prog 85 #[.slice ao len cap, .int .i64 at_] w fun e w' => e = .returned (tkVal (tk xs at_)) ∧ w' = w := by
  have hx := h.1
  by_cases hn : at_ < 0
  · have ht : tk xs at_ = none := by unfold tk; rw [if_pos (.inl hn)]
    rw [ht]
    unfold tkVal
    go_enter Try.func85, Try.ntmps85
    go_wp2
    go_ret3
    exact ⟨rfl, rfl⟩
  by_cases hg : (len : Int) ≤ at_
  · have ht : tk xs at_ = none := by unfold tk; rw [if_pos (.inr (by omega))]
    rw [ht]
    unfold tkVal
    go_enter Try.func85, Try.ntmps85
    go_wp2
    go_ret3
    exact ⟨rfl, rfl⟩
  obtain ⟨a, rfl⟩ : ∃ a : Nat, at_ = (a : Int) := ⟨at_.toNat, by omega⟩
  have hlt : (a : Int) < (len : Int) := by omega
  have ht : tk xs a = (dec 0 0 (xs.drop a)).map fun p => (p.1, (a : Int) + p.2) := by unfold tk; rw [if_neg (by omega)]; rfl
  rw [ht]
  obtain ⟨b, off, rfl, _, hcell⟩ := h.2.2.2.2.2 (by omega)
  have hlen : (len : Int) ≤ 9223372036854775807 := by have := h.2.1; have := h.2.2.1; unfold maxLen at this; omega
  have hbyt : Byt (xs.drop a) := h.2.2.2.1.drop a
  have hrl : (xs.drop a).length = len - a := by simp [hx]
  have hcell2 : ∀ k, k < len - a → w.cell? ⟨b, off + (a + k), none⟩ = some (.int .u8 ((xs.drop a).getD k 0)) := fun k hk => by
    rw [hcell (a + k) (by omega)]
    simp [List.getD, List.getElem?_drop]
  generalize xs.drop a = rest at *
  have hd : decide ((a : Int) < 0) = false := by simp
  have hd2 : ¬ (a : Int) < 0 := by omega
  have hd3 : ¬ (len : Int) ≤ (a : Int) := by omega
  clear h hcell hn hg ht
  replace hcell2 := hide hcell2
  go_enter Try.func85, Try.ntmps85
  go_wp2
  go_loop [7, 8, 9] (fun n p i => ∃ (k : Nat) (acc pw : Int), k ≤ 9 ∧ k ≤ len - a ∧ i = .int .i64 k ∧ n = .int .u64 acc ∧ p = .int .u64 pw ∧ pw = 128 ^ k ∧ Dk rest k acc) (fun _ _ i => 10 - (intOf i).toNat)
  case atStart => exact ⟨0, 0, 1, by omega, by omega, rfl, rfl, rfl, rfl, Dk.start _⟩
  case round =>
    obtain ⟨k, acc, pw, hk, hkm, rfl, rfl, rfl, hpw, hD⟩ := hrel
    have hk10 : (k : Int) < 10 := by omega
    by_cases hk4 : k < len - a
    · obtain ⟨x, hx'⟩ : ∃ x, x = rest.getD k 0 := ⟨_, rfl⟩
      have hc : w.cell? ⟨b, off + (a + k), none⟩ = some (.int .u8 x) := by rw [hx']; exact hcell2.out k hk4
      have hxb := hbyt.getD k
      rw [← hx'] at hxb
      obtain ⟨hx0, hx1⟩ := hxb
      have HX : Hid (x = rest.getD k 0) := hx'
      have hlk : k < rest.length := by omega
      have hsub : ¬ (len : Int) - (a : Int) ≤ (k : Int) := by omega
      have hak : (a : Int) + (k : Int) < (len : Int) := by omega
      have hacc0 := hD.2.1
      have hacc1 : acc ≤ 9223372036854775807 := by have := hD.2.2; have := (pow_bd k hk).2; omega
      have hpw0 : 0 ≤ pw := by rw [hpw]; have := (pow_bd k hk).1; omega
      have hpw1 : pw ≤ 9223372036854775808 := by rw [hpw]; exact (pow_bd k hk).2
      have HP := hide hpw
      have hm := HX
      clear hx' hcell2 hpw
      by_cases h9 : k = 9
      · have h9i : (k : Int) = 9 := by omega
        by_cases h1x : 1 < x
        · have hres := hide (hD.big hlk HX.out h9 h1x)
          subst h9
          go_wp2
          go_ret3
          exact ⟨by rw [hres.out]; rfl, rfl⟩
        · have hmul := mul_bd x pw k HP.out hx0 hx1 (.inr ⟨h9, by omega⟩)
          obtain ⟨hmul0, hmul1⟩ := hmul
          have hsum : acc + x % 128 * pw ≤ 18446744073709551615 := by omega
          have hx128 : x < 128 := by omega
          by_cases hz : x = 0
          · have hres := hide (hD.zero hlk HX.out hk hz (by omega))
            clear HX hlk hm hmul0 hmul1 hsum
            subst hz
            subst h9
            go_wp2
            go_ret3
            exact ⟨by rw [hres.out]; rfl, rfl⟩
          · have hres := hide (hD.last hlk HX.out (.inr (by omega)) hk hx128 (by omega))
            have hk0 : (0 : Int) < (k : Int) := by omega
            subst h9
            go_wp2
            go_ret3
            exact ⟨ret_res hres.out (by rw [← HP.out]) (by first | exact pos9 a (by omega) | omega), rfl⟩
      · have hmul := mul_bd x pw k HP.out hx0 hx1 (.inl (by omega))
        obtain ⟨hmul0, hmul1⟩ := hmul
        have hsum : acc + x % 128 * pw ≤ 18446744073709551615 := by omega
        have h9i : ¬ (k : Int) = 9 := by omega
        by_cases hx128 : x < 128
        · by_cases hz : x = 0
          · by_cases hk0 : 0 < k
            · have hres := hide (hD.zero hlk HX.out hk hz hk0)
              have hk0i : (0 : Int) < (k : Int) := by omega
              clear HX hlk hm hmul0 hmul1 hsum
              subst hz
              go_wp2
              go_ret3
              exact ⟨by rw [hres.out]; rfl, rfl⟩
            · have hres := hide (hD.last hlk HX.out (.inl (by omega)) hk hx128 (by omega))
              have hk0i : ¬ (0 : Int) < (k : Int) := by omega
              clear HX hlk hm hmul0 hmul1 hsum
              subst hz
              go_wp2
              go_ret3
              exact ⟨ret_res hres.out (by simp) (by first | exact posk a _ (by omega) | omega), rfl⟩
          · have hres := hide (hD.last hlk HX.out (.inl (by omega)) hk hx128 (by omega))
            by_cases hk0 : (0 : Int) < (k : Int)
            · go_wp2
              go_ret3
              exact ⟨ret_res hres.out (by rw [← HP.out]) (by first | exact posk a _ (by omega) | omega), rfl⟩
            · go_wp2
              go_ret3
              exact ⟨ret_res hres.out (by rw [← HP.out]) (by first | exact posk a _ (by omega) | omega), rfl⟩
        · have hD2 := hD.more hlk HX.out (by omega) (by omega) hx1
          rw [← HP.out] at hD2
          have hp2 : pw * 128 = 128 ^ (k + 1) := by rw [HP.out, Int.pow_succ]
          have hpb := (pow_bd (k + 1) (by omega)).2
          rw [← hp2] at hpb
          replace hp2 := hide hp2
          clear HX hm
          go_wp2
          go_round
          case rel => exact ⟨k + 1, _, _, by omega, by omega, by go_num, rfl, rfl, hp2.out, hD2⟩
          case measure => simp [intOf]; omega
    · have hres := hide (hD.short (by omega))
      have hsub : (len : Int) - (a : Int) ≤ (k : Int) := by omega
      clear hcell2 hpw
      go_wp2
      go_ret3
      exact ⟨by rw [hres.out]; rfl, rfl⟩

set_option maxRecDepth 100000 in
set_option maxHeartbeats 1000000 in
theorem refTakeText_any (ao : Option Addr) (len cap : Nat) (xs : List Int) (at_ most : Int) (w : World) (h : Sl w ao len cap xs) (hm0 : -9223372036854775808 ≤ most) (hm1 : most ≤ 9223372036854775807) :
    Calls Try.prog 86 #[.slice ao len cap, .int .i64 at_, .int .i64 most] w fun e w' => e = .returned (ttVal (tt xs at_ most)) ∧ w' = w := by
  have hx := h.1
  have hlen : (len : Int) ≤ 9223372036854775807 := by have := h.2.1; have := h.2.2.1; unfold maxLen at this; omega
  cases ht : tk xs at_ with
  | none =>
    have hr : tt xs at_ most = none := by unfold tt; rw [ht]
    rw [hr]
    unfold ttVal
    go_enter Try.func86, Try.ntmps86
    go_wp2_with fail
    refine (refTake_any ao len cap xs at_ w h).mono ?_
    rintro e w1 ⟨rfl, rfl⟩
    rw [ht]
    unfold tkVal
    clear ht
    go_wp2
    go_ret3
    exact ⟨rfl, rfl⟩
  | some p =>
    obtain ⟨n, next⟩ := p
    obtain ⟨a, b, rfl, rfl, hab, hb, hn0, hn1, henc⟩ := tk_spec h.2.2.2.1 ht
    have hr : tt xs a most = if most < 0 ∨ most < n ∨ (len : Int) - b < n then none else some ((xs.take ((b : Int) + n).toNat).drop b, (b : Int) + n) := by
      unfold tt; rw [ht, ← hx]; rfl
    have hsub : (0 : Int) ≤ (len : Int) - (b : Int) := by omega
    have hsub1 : (len : Int) - (b : Int) ≤ 9223372036854775807 := by omega
    have hbl : (b : Int) ≤ (len : Int) := by omega
    have hst := fun (w : World) => refTake_any ao len cap xs a w
    clear henc
    by_cases hbad : most < 0 ∨ most < n ∨ (len : Int) - b < n
    · rw [hr, if_pos hbad]
      unfold ttVal
      by_cases c1 : most < 0
      · go_enter Try.func86, Try.ntmps86
        go_wp2_with fail
        refine (hst w h).mono ?_
        rintro e w1 ⟨rfl, rfl⟩
        rw [ht]
        unfold tkVal
        clear ht hr hst hbad
        go_wp2
        go_ret3
        exact ⟨rfl, rfl⟩
      · by_cases c2 : most < n
        · go_enter Try.func86, Try.ntmps86
          go_wp2_with fail
          refine (hst w h).mono ?_
          rintro e w1 ⟨rfl, rfl⟩
          rw [ht]
          unfold tkVal
          clear ht hr hst hbad
          go_wp2
          go_ret3
          exact ⟨rfl, rfl⟩
        · have c3 : (len : Int) - b < n := by omega
          go_enter Try.func86, Try.ntmps86
          go_wp2_with fail
          refine (hst w h).mono ?_
          rintro e w1 ⟨rfl, rfl⟩
          rw [ht]
          unfold tkVal
          clear ht hr hst hbad
          go_wp2
          go_ret3
          exact ⟨rfl, rfl⟩
    · rw [hr, if_neg hbad]
      have c1 : ¬ most < 0 := by omega
      have c2 : ¬ most < n := by omega
      have c3 : ¬ (len : Int) - b < n := by omega
      clear hbad
      obtain ⟨m, rfl⟩ : ∃ m : Nat, n = (m : Int) := ⟨n.toNat, by omega⟩
      obtain ⟨ac, hcut, hslC⟩ := h.part (P := Try.prog) 29 Try.underlying29 Try.size5 b (b + m) (by omega) (by omega)
      have hstr := hslC.str (P := Try.prog) 29 Try.underlying29 Try.underlying5 Try.underlying9
      have e1 : ((b + m : Nat) : Int) = (b : Int) + (m : Int) := by omega
      rw [e1] at hcut
      rw [show ((b : Int) + (m : Int)).toNat = b + m from by omega]
      generalize hys : (xs.take (b + m)).drop b = ys at *
      have e2 : b + m - b = m := by omega
      rw [e2] at hcut hstr
      have hsum : (b : Int) + (m : Int) ≤ 9223372036854775807 := by omega
      have hm63 : (m : Int) ≤ 9223372036854775807 := by omega
      unfold ttVal
      go_enter Try.func86, Try.ntmps86
      go_wp2_with fail
      refine (hst w h).mono ?_
      rintro e w1 ⟨rfl, rfl⟩
      rw [ht]
      unfold tkVal
      clear ht hr hst hslC e1 e2 hys
      go_wp2
      go_ret3
      exact ⟨rfl, rfl⟩
end Go.Proofs.Yteihabdldiopeaa
