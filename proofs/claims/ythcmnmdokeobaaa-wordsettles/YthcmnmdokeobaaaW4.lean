/-
  Layer 5: WordSettles.
-/
import Derived.Test.YthcmnmdokeobaaaW3
set_option linter.unusedVariables false
set_option linter.unusedSimpArgs false
namespace Go.Proofs.Ythcmnmdokeobaaa
open Go.RowKit

/-- What the three states of one transaction say of an edge: preparing, committed, aborted. -/
theorem by_three {t a : Int} (h0 : 0 ≤ t) (h1 : t < 1099511627776) :
    unO (4611686018427387904 + t) = true ∧ unO (9223372036854775808 + t) = true ∧ unO 13835058055282163712 = true ∧
    byV (4611686018427387904 + t) a = (if t ≤ a then 1 else 0) ∧ byV (9223372036854775808 + t) a = (if t ≤ a then 2 else 0) ∧ byV 13835058055282163712 a = 0 := by
  have d1 : (4611686018427387904 + t) / 4611686018427387904 = 1 := by omega
  have d2 : (4611686018427387904 + t) % 4611686018427387904 = t := by omega
  have d3 : (9223372036854775808 + t) / 4611686018427387904 = 2 := by omega
  have d4 : (9223372036854775808 + t) % 4611686018427387904 = t := by omega
  have u1 : unO (4611686018427387904 + t) = true := by unfold unO; rw [d1, d2]; simp [hs, h0, h1]
  have u2 : unO (9223372036854775808 + t) = true := by unfold unO; rw [d3, d4]; simp [hs, h0, h1]
  have u3 : unO 13835058055282163712 = true := by decide
  have s1 : unS (4611686018427387904 + t) = 1 := by simp only [unS, u1, if_true]; exact d1
  have s2 : unT (4611686018427387904 + t) = t := by simp only [unT, u1, if_true]; exact d2
  have s3 : unS (9223372036854775808 + t) = 2 := by simp only [unS, u2, if_true]; exact d3
  have s4 : unT (9223372036854775808 + t) = t := by simp only [unT, u2, if_true]; exact d4
  have s5 : unS 13835058055282163712 = 3 := by decide
  refine ⟨u1, u2, u3, ?_, ?_, ?_⟩
  · simp only [byV, u1, s1, s2, if_true]
  · simp only [byV, u2, s3, s4, if_true, byT]
    by_cases h : t ≤ a
    · simp [h, show ¬ a < t by omega]
    · simp [h, show a < t by omega]
  · simp [byV, u3, s5]

/-- An edge under the three states: B (preparing), C (committed), A (aborted). -/
def Three (B C A : Int) : Prop := (B = 1 ∨ B = C) ∧ (C = 0 ∨ C = 2) ∧ (A = 0 ∨ A = 2)

theorem vd_three {B C A B' C' A' : Int} (h : Three B C A) (h' : Three B' C' A') : vd C C' ≠ 3 ∧ vd A A' ≠ 3 ∧ (vd B B' = 3 ∨ vd B B' = vd C C') := by
  obtain ⟨h1, h2, h3⟩ := h
  obtain ⟨g1, g2, g3⟩ := h'
  refine ⟨?_, ?_, ?_⟩
  · rcases h2 with rfl | rfl <;> rcases g2 with rfl | rfl <;> decide
  · rcases h3 with rfl | rfl <;> rcases g3 with rfl | rfl <;> decide
  · rcases h1 with rfl | rfl
    · left
      simp [vd]
    · rcases g1 with rfl | rfl
      · rcases h2 with rfl | rfl <;> simp [vd]
      · right
        rfl

theorem byT_two (x a : Int) : byT x a = 0 ∨ byT x a = 2 := by unfold byT; split <;> omega

/-- The edge of a word that names nobody, the transaction, or me. -/
theorem eg_three {me a x n t : Int} (h0 : 0 ≤ t) (h1 : t < 1099511627776) (hn : ptN x = 0 ∨ ptN x = n ∨ ptN x = me) (x0 : 0 ≤ x) :
    Three (egV me a x (4611686018427387904 + t)) (egV me a x (9223372036854775808 + t)) (egV me a x 13835058055282163712) := by
  obtain ⟨u1, u2, u3, b1, b2, b3⟩ := by_three (a := a) h0 h1
  unfold Three egV
  rw [b1, b2, b3]
  rcases kd_cases x with h | h | h | h
  · simp [h]
  · have := byT_two x a
    simp only [h]
    simp
    exact this
  · have := byT_two x a
    simp only [h]
    simp
    exact this
  · simp only [h]
    by_cases hm : ptN x = me
    · simp [hm]
    · by_cases ht : t ≤ a <;> simp [hm, ht]

theorem egO_three {me a x t : Int} (h0 : 0 ≤ t) (h1 : t < 1099511627776) :
    egO me a x (9223372036854775808 + t) = egO me a x (4611686018427387904 + t) ∧ egO me a x 13835058055282163712 = egO me a x (4611686018427387904 + t) := by
  obtain ⟨u1, u2, u3, b1, b2, b3⟩ := by_three (a := a) h0 h1
  unfold egO
  rw [u1, u2, u3]
  exact ⟨rfl, rfl⟩

/-- Sees under the three states. -/
theorem se_three {me a b e n t : Int} (h0 : 0 ≤ t) (h1 : t < 1099511627776) (b0 : 0 ≤ b) (e0 : 0 ≤ e)
    (he : ptN e = 0 ∨ ptN e = n ∨ ptN e = me) :
    seE me a b e (9223372036854775808 + t) (9223372036854775808 + t) = seE me a b e (4611686018427387904 + t) (4611686018427387904 + t) ∧
    seE me a b e 13835058055282163712 13835058055282163712 = seE me a b e (4611686018427387904 + t) (4611686018427387904 + t) ∧
    ((ptN b = 0 ∨ ptN b = n ∨ ptN b = me) →
      seV me a b e (9223372036854775808 + t) (9223372036854775808 + t) ≠ 3 ∧ seV me a b e 13835058055282163712 13835058055282163712 ≠ 3 ∧
      (seV me a b e (4611686018427387904 + t) (4611686018427387904 + t) = 3 ∨ seV me a b e (4611686018427387904 + t) (4611686018427387904 + t) = seV me a b e (9223372036854775808 + t) (9223372036854775808 + t))) := by
  have ob := egO_three (me := me) (a := a) (x := b) h0 h1
  have oe := egO_three (me := me) (a := a) (x := e) h0 h1
  have o1 : seO me a b e (9223372036854775808 + t) (9223372036854775808 + t) = seO me a b e (4611686018427387904 + t) (4611686018427387904 + t) := by unfold seO; rw [ob.1, oe.1]
  have o2 : seO me a b e 13835058055282163712 13835058055282163712 = seO me a b e (4611686018427387904 + t) (4611686018427387904 + t) := by unfold seO; rw [ob.2, oe.2]
  refine ⟨by unfold seE; rw [o1], by unfold seE; rw [o2], fun hb => ?_⟩
  have tb := eg_three (a := a) h0 h1 hb b0
  have te := eg_three (a := a) h0 h1 he e0
  unfold seV
  rw [o1, o2]
  by_cases hO : seO me a b e (4611686018427387904 + t) (4611686018427387904 + t) = true
  · rw [if_pos hO, if_pos hO, if_pos hO]
    exact vd_three tb te
  · rw [if_neg hO, if_neg hO, if_neg hO]
    decide

theorem seE_two (me a b e sb se : Int) : seE me a b e sb se = 0 ∨ seE me a b e sb se = 50 := by unfold seE; split <;> omega

set_option maxRecDepth 100000 in
set_option maxHeartbeats 800000 in
/-- WordSettles where it says nothing. -/
theorem settles_none (me a n t x : Int) (ends : Bool) (w : World) (h : ¬ (1 ≤ n ∧ n < 1048576) ∨ isT t ≠ true ∨ me = n) :
    Calls Try.prog 7 #[.int .i64 me, .int .i64 a, .int .i64 n, .int .i64 t, .int .u64 x, .bool ends] w fun e w' => e = .returned (.bool true) ∧ Below w.heap.size w w' := by
  have cs := shown_any w
  have co := owner_any n w
  have cp := state_any 1 t w
  have cc := state_any 2 t w
  have ca := state_any 3 0 w
  rw [show stV 3 0 = 13835058055282163712 by decide, show stE 3 0 = 0 by decide] at ca
  by_cases hn : 1 ≤ n ∧ n < 1048576
  case neg =>
    rw [show owE n = 50 by simp [owE, hn]] at co
    clear h
    go_enter Try.func7, Try.ntmps7
    go_wp2_with fail
    refine cs.mono ?_
    rintro e w1 ⟨rfl, rfl⟩
    go_wp2_with fail
    refine co.mono ?_
    rintro e w1 ⟨rfl, rfl⟩
    go_wp2_with fail
    refine cp.mono ?_
    rintro e w1 ⟨rfl, rfl⟩
    go_wp2_with fail
    refine cc.mono ?_
    rintro e w1 ⟨rfl, rfl⟩
    go_wp2_with fail
    refine ca.mono ?_
    rintro e w1 ⟨rfl, rfl⟩
    go_wp2
    go_ret
    exact ⟨rfl, Below.refl _ _⟩
  rw [show owE n = 0 by simp [owE, hn]] at co
  by_cases hT : isT t = true
  case neg =>
    have hs1 : hs 1 t = false := by
      rw [show hs 1 t = isT t by simp [hs, isT]]
      exact Bool.eq_false_iff.mpr hT
    rw [show stE 1 t = 50 by simp [stE, hs1]] at cp
    clear h hn hT hs1
    go_enter Try.func7, Try.ntmps7
    go_wp2_with fail
    refine cs.mono ?_
    rintro e w1 ⟨rfl, rfl⟩
    go_wp2_with fail
    refine co.mono ?_
    rintro e w1 ⟨rfl, rfl⟩
    go_wp2_with fail
    refine cp.mono ?_
    rintro e w1 ⟨rfl, rfl⟩
    go_wp2_with fail
    refine cc.mono ?_
    rintro e w1 ⟨rfl, rfl⟩
    go_wp2_with fail
    refine ca.mono ?_
    rintro e w1 ⟨rfl, rfl⟩
    go_wp2
    go_ret
    exact ⟨rfl, Below.refl _ _⟩
  obtain rfl : me = n := by
    rcases h with h | h | h
    · exact absurd hn h
    · exact absurd hT h
    · exact h
  have hs1 : hs 1 t = true := by
    rw [show hs 1 t = isT t by simp [hs, isT]]
    exact hT
  have hs2 : hs 2 t = true := by
    rw [show hs 2 t = isT t by simp [hs, isT]]
    exact hT
  rw [show stE 1 t = 0 by simp [stE, hs1]] at cp
  rw [show stE 2 t = 0 by simp [stE, hs2]] at cc
  clear h hn hT hs1 hs2
  go_enter Try.func7, Try.ntmps7
  go_wp2_with fail
  refine cs.mono ?_
  rintro e w1 ⟨rfl, rfl⟩
  go_wp2_with fail
  refine co.mono ?_
  rintro e w1 ⟨rfl, rfl⟩
  go_wp2_with fail
  refine cp.mono ?_
  rintro e w1 ⟨rfl, rfl⟩
  go_wp2_with fail
  refine cc.mono ?_
  rintro e w1 ⟨rfl, rfl⟩
  go_wp2_with fail
  refine ca.mono ?_
  rintro e w1 ⟨rfl, rfl⟩
  go_wp2
  go_ret
  exact ⟨rfl, Below.refl _ _⟩

set_option maxRecDepth 100000 in
set_option maxHeartbeats 1600000 in
/-- WordSettles, where the transaction begins the version. -/
theorem settles_begin (me a n t x : Int) (w : World) (n0 : 1 ≤ n) (n1 : n < 1048576) (t0 : 0 ≤ t) (t1 : t < 1099511627776) (hm : ¬ me = n) (x0 : 0 ≤ x) (x9 : x ≤ 18446744073709551615) :
    Calls Try.prog 7 #[.int .i64 me, .int .i64 a, .int .i64 n, .int .i64 t, .int .u64 x, .bool false] w fun e w' => e = .returned (.bool true) ∧ Below w.heap.size w w' := by
  have cs := shown_any w
  have co := owner_any n w
  have cp := state_any 1 t w
  have cc := state_any 2 t w
  have ca := state_any 3 0 w
  rw [show stV 3 0 = 13835058055282163712 by decide, show stE 3 0 = 0 by decide] at ca
  rw [show owE n = 0 by simp [owE, n0, n1], show owV n = 9223372036854775808 + n by simp [owV, n0, n1]] at co
  have hs1 : hs 1 t = true := by simp [hs, t0, t1]
  have hs2 : hs 2 t = true := by simp [hs, t0, t1]
  rw [show stE 1 t = 0 by simp [stE, hs1], show stV 1 t = 4611686018427387904 + t by simp [stV, hs1]] at cp
  rw [show stE 2 t = 0 by simp [stE, hs2], show stV 2 t = 9223372036854775808 + t by simp [stV, hs2]] at cc
  clear hs1 hs2
  have c1 := sees_any me a (9223372036854775808 + n) (1099511627776) (4611686018427387904 + t) (4611686018427387904 + t) w (by omega) (by omega) (by omega) (by omega) (by omega) (by omega)
  have c2 := sees_any me a (9223372036854775808 + n) (1099511627776) (9223372036854775808 + t) (9223372036854775808 + t) w (by omega) (by omega) (by omega) (by omega) (by omega) (by omega)
  have c3 := sees_any me a (9223372036854775808 + n) (1099511627776) 13835058055282163712 13835058055282163712 w (by omega) (by omega) (by omega) (by omega) (by omega) (by omega)
  obtain ⟨e1, e2, hv⟩ := se_three (me := me) (a := a) (b := 9223372036854775808 + n) (e := 1099511627776) (n := n) t0 t1 (by omega) (by omega) (Or.inl (by decide))
  have cq := parts_any (9223372036854775808 + n) w (by omega)
  rw [e1] at c2
  rw [e2] at c3
  clear e1 e2
  have hE := seE_two me a (9223372036854775808 + n) (1099511627776) (4611686018427387904 + t) (4611686018427387904 + t)
  generalize seE me a (9223372036854775808 + n) (1099511627776) (4611686018427387904 + t) (4611686018427387904 + t) = E at *
  generalize seV me a (9223372036854775808 + n) (1099511627776) (4611686018427387904 + t) (4611686018427387904 + t) = V at *
  generalize seV me a (9223372036854775808 + n) (1099511627776) (9223372036854775808 + t) (9223372036854775808 + t) = U at *
  generalize seV me a (9223372036854775808 + n) (1099511627776) 13835058055282163712 13835058055282163712 = A at *
  rcases hE with rfl | rfl
  case inr =>
    clear hv
    go_enter Try.func7, Try.ntmps7
    go_wp2_with fail
    refine cs.mono ?_
    rintro e w1 ⟨rfl, rfl⟩
    go_wp2_with fail
    refine co.mono ?_
    rintro e w1 ⟨rfl, rfl⟩
    go_wp2_with fail
    refine cp.mono ?_
    rintro e w1 ⟨rfl, rfl⟩
    go_wp2_with fail
    refine cc.mono ?_
    rintro e w1 ⟨rfl, rfl⟩
    go_wp2_with fail
    refine ca.mono ?_
    rintro e w1 ⟨rfl, rfl⟩
    go_wp2_with fail
    refine c1.mono ?_
    rintro e w1 ⟨rfl, rfl⟩
    go_wp2_with fail
    refine c2.mono ?_
    rintro e w1 ⟨rfl, rfl⟩
    go_wp2_with fail
    refine c3.mono ?_
    rintro e w1 ⟨rfl, rfl⟩
    go_wp2
    go_ret
    exact ⟨rfl, Below.refl _ _⟩
  rw [ptN_own n0 n1] at hv cq
  obtain ⟨v1, v2, v3⟩ := hv (Or.inr (Or.inl rfl))
  clear hv
  have v1b : (U != 3) = true := by simp [v1]
  have v2b : (A != 3) = true := by simp [v2]
  have nz : ¬ n = 0 := by omega
  rcases v3 with rfl | rfl
  · go_enter Try.func7, Try.ntmps7
    go_wp2_with fail
    refine cs.mono ?_
    rintro e w1 ⟨rfl, rfl⟩
    go_wp2_with fail
    refine co.mono ?_
    rintro e w1 ⟨rfl, rfl⟩
    go_wp2_with fail
    refine cp.mono ?_
    rintro e w1 ⟨rfl, rfl⟩
    go_wp2_with fail
    refine cc.mono ?_
    rintro e w1 ⟨rfl, rfl⟩
    go_wp2_with fail
    refine ca.mono ?_
    rintro e w1 ⟨rfl, rfl⟩
    go_wp2_with fail
    refine c1.mono ?_
    rintro e w1 ⟨rfl, rfl⟩
    go_wp2_with fail
    refine c2.mono ?_
    rintro e w1 ⟨rfl, rfl⟩
    go_wp2_with fail
    refine c3.mono ?_
    rintro e w1 ⟨rfl, rfl⟩
    go_wp2_with fail
    refine cq.mono ?_
    rintro e w1 ⟨rfl, rfl⟩
    go_wp2
    go_ret
    exact ⟨by simp [v1, v2], Below.refl _ _⟩
  · by_cases v4 : V = 3
    · exact absurd v4 v1
    · go_enter Try.func7, Try.ntmps7
      go_wp2_with fail
      refine cs.mono ?_
      rintro e w1 ⟨rfl, rfl⟩
      go_wp2_with fail
      refine co.mono ?_
      rintro e w1 ⟨rfl, rfl⟩
      go_wp2_with fail
      refine cp.mono ?_
      rintro e w1 ⟨rfl, rfl⟩
      go_wp2_with fail
      refine cc.mono ?_
      rintro e w1 ⟨rfl, rfl⟩
      go_wp2_with fail
      refine ca.mono ?_
      rintro e w1 ⟨rfl, rfl⟩
      go_wp2_with fail
      refine c1.mono ?_
      rintro e w1 ⟨rfl, rfl⟩
      go_wp2_with fail
      refine c2.mono ?_
      rintro e w1 ⟨rfl, rfl⟩
      go_wp2_with fail
      refine c3.mono ?_
      rintro e w1 ⟨rfl, rfl⟩
      go_wp2_with fail
      refine cq.mono ?_
      rintro e w1 ⟨rfl, rfl⟩
      go_wp2
      go_ret
      exact ⟨by simp [v1, v2], Below.refl _ _⟩

set_option maxRecDepth 100000 in
set_option maxHeartbeats 1600000 in
/-- WordSettles, where the transaction ends the version. -/
theorem settles_end (me a n t x : Int) (w : World) (n0 : 1 ≤ n) (n1 : n < 1048576) (t0 : 0 ≤ t) (t1 : t < 1099511627776) (hm : ¬ me = n) (x0 : 0 ≤ x) (x9 : x ≤ 18446744073709551615) :
    Calls Try.prog 7 #[.int .i64 me, .int .i64 a, .int .i64 n, .int .i64 t, .int .u64 x, .bool true] w fun e w' => e = .returned (.bool true) ∧ Below w.heap.size w w' := by
  have cs := shown_any w
  have co := owner_any n w
  have cp := state_any 1 t w
  have cc := state_any 2 t w
  have ca := state_any 3 0 w
  rw [show stV 3 0 = 13835058055282163712 by decide, show stE 3 0 = 0 by decide] at ca
  rw [show owE n = 0 by simp [owE, n0, n1], show owV n = 9223372036854775808 + n by simp [owV, n0, n1]] at co
  have hs1 : hs 1 t = true := by simp [hs, t0, t1]
  have hs2 : hs 2 t = true := by simp [hs, t0, t1]
  rw [show stE 1 t = 0 by simp [stE, hs1], show stV 1 t = 4611686018427387904 + t by simp [stV, hs1]] at cp
  rw [show stE 2 t = 0 by simp [stE, hs2], show stV 2 t = 9223372036854775808 + t by simp [stV, hs2]] at cc
  clear hs1 hs2
  have c1 := sees_any me a (x) (9223372036854775808 + n) (4611686018427387904 + t) (4611686018427387904 + t) w (by omega) (by omega) (by omega) (by omega) (by omega) (by omega)
  have c2 := sees_any me a (x) (9223372036854775808 + n) (9223372036854775808 + t) (9223372036854775808 + t) w (by omega) (by omega) (by omega) (by omega) (by omega) (by omega)
  have c3 := sees_any me a (x) (9223372036854775808 + n) 13835058055282163712 13835058055282163712 w (by omega) (by omega) (by omega) (by omega) (by omega) (by omega)
  obtain ⟨e1, e2, hv⟩ := se_three (me := me) (a := a) (b := x) (e := 9223372036854775808 + n) (n := n) t0 t1 (by omega) (by omega) (Or.inr (Or.inl (ptN_own n0 n1)))
  have cq := parts_any (x) w (by omega)
  rw [e1] at c2
  rw [e2] at c3
  clear e1 e2
  have hE := seE_two me a (x) (9223372036854775808 + n) (4611686018427387904 + t) (4611686018427387904 + t)
  generalize seE me a (x) (9223372036854775808 + n) (4611686018427387904 + t) (4611686018427387904 + t) = E at *
  generalize seV me a (x) (9223372036854775808 + n) (4611686018427387904 + t) (4611686018427387904 + t) = V at *
  generalize seV me a (x) (9223372036854775808 + n) (9223372036854775808 + t) (9223372036854775808 + t) = U at *
  generalize seV me a (x) (9223372036854775808 + n) 13835058055282163712 13835058055282163712 = A at *
  rcases hE with rfl | rfl
  case inr =>
    clear hv
    go_enter Try.func7, Try.ntmps7
    go_wp2_with fail
    refine cs.mono ?_
    rintro e w1 ⟨rfl, rfl⟩
    go_wp2_with fail
    refine co.mono ?_
    rintro e w1 ⟨rfl, rfl⟩
    go_wp2_with fail
    refine cp.mono ?_
    rintro e w1 ⟨rfl, rfl⟩
    go_wp2_with fail
    refine cc.mono ?_
    rintro e w1 ⟨rfl, rfl⟩
    go_wp2_with fail
    refine ca.mono ?_
    rintro e w1 ⟨rfl, rfl⟩
    go_wp2_with fail
    refine c1.mono ?_
    rintro e w1 ⟨rfl, rfl⟩
    go_wp2_with fail
    refine c2.mono ?_
    rintro e w1 ⟨rfl, rfl⟩
    go_wp2_with fail
    refine c3.mono ?_
    rintro e w1 ⟨rfl, rfl⟩
    go_wp2
    go_ret
    exact ⟨rfl, Below.refl _ _⟩
  generalize ptN x = m at *
  by_cases m0 : m = 0
  · subst m0
    obtain ⟨v1, v2, v3⟩ := hv (Or.inl rfl)
    clear hv
    have v1b : (U != 3) = true := by simp [v1]
    have v2b : (A != 3) = true := by simp [v2]
    rcases v3 with rfl | rfl
    · go_enter Try.func7, Try.ntmps7
      go_wp2_with fail
      refine cs.mono ?_
      rintro e w1 ⟨rfl, rfl⟩
      go_wp2_with fail
      refine co.mono ?_
      rintro e w1 ⟨rfl, rfl⟩
      go_wp2_with fail
      refine cp.mono ?_
      rintro e w1 ⟨rfl, rfl⟩
      go_wp2_with fail
      refine cc.mono ?_
      rintro e w1 ⟨rfl, rfl⟩
      go_wp2_with fail
      refine ca.mono ?_
      rintro e w1 ⟨rfl, rfl⟩
      go_wp2_with fail
      refine c1.mono ?_
      rintro e w1 ⟨rfl, rfl⟩
      go_wp2_with fail
      refine c2.mono ?_
      rintro e w1 ⟨rfl, rfl⟩
      go_wp2_with fail
      refine c3.mono ?_
      rintro e w1 ⟨rfl, rfl⟩
      go_wp2_with fail
      refine cq.mono ?_
      rintro e w1 ⟨rfl, rfl⟩
      go_wp2
      go_ret
      exact ⟨by simp [v1, v2], Below.refl _ _⟩
    · by_cases v4 : V = 3
      · exact absurd v4 v1
      · go_enter Try.func7, Try.ntmps7
        go_wp2_with fail
        refine cs.mono ?_
        rintro e w1 ⟨rfl, rfl⟩
        go_wp2_with fail
        refine co.mono ?_
        rintro e w1 ⟨rfl, rfl⟩
        go_wp2_with fail
        refine cp.mono ?_
        rintro e w1 ⟨rfl, rfl⟩
        go_wp2_with fail
        refine cc.mono ?_
        rintro e w1 ⟨rfl, rfl⟩
        go_wp2_with fail
        refine ca.mono ?_
        rintro e w1 ⟨rfl, rfl⟩
        go_wp2_with fail
        refine c1.mono ?_
        rintro e w1 ⟨rfl, rfl⟩
        go_wp2_with fail
        refine c2.mono ?_
        rintro e w1 ⟨rfl, rfl⟩
        go_wp2_with fail
        refine c3.mono ?_
        rintro e w1 ⟨rfl, rfl⟩
        go_wp2_with fail
        refine cq.mono ?_
        rintro e w1 ⟨rfl, rfl⟩
        go_wp2
        go_ret
        exact ⟨by simp [v1, v2], Below.refl _ _⟩
  by_cases m1 : m = n
  · subst m1
    obtain ⟨v1, v2, v3⟩ := hv (Or.inr (Or.inl rfl))
    clear hv
    have v1b : (U != 3) = true := by simp [v1]
    have v2b : (A != 3) = true := by simp [v2]
    rcases v3 with rfl | rfl
    · go_enter Try.func7, Try.ntmps7
      go_wp2_with fail
      refine cs.mono ?_
      rintro e w1 ⟨rfl, rfl⟩
      go_wp2_with fail
      refine co.mono ?_
      rintro e w1 ⟨rfl, rfl⟩
      go_wp2_with fail
      refine cp.mono ?_
      rintro e w1 ⟨rfl, rfl⟩
      go_wp2_with fail
      refine cc.mono ?_
      rintro e w1 ⟨rfl, rfl⟩
      go_wp2_with fail
      refine ca.mono ?_
      rintro e w1 ⟨rfl, rfl⟩
      go_wp2_with fail
      refine c1.mono ?_
      rintro e w1 ⟨rfl, rfl⟩
      go_wp2_with fail
      refine c2.mono ?_
      rintro e w1 ⟨rfl, rfl⟩
      go_wp2_with fail
      refine c3.mono ?_
      rintro e w1 ⟨rfl, rfl⟩
      go_wp2_with fail
      refine cq.mono ?_
      rintro e w1 ⟨rfl, rfl⟩
      go_wp2
      go_ret
      exact ⟨by simp [v1, v2], Below.refl _ _⟩
    · by_cases v4 : V = 3
      · exact absurd v4 v1
      · go_enter Try.func7, Try.ntmps7
        go_wp2_with fail
        refine cs.mono ?_
        rintro e w1 ⟨rfl, rfl⟩
        go_wp2_with fail
        refine co.mono ?_
        rintro e w1 ⟨rfl, rfl⟩
        go_wp2_with fail
        refine cp.mono ?_
        rintro e w1 ⟨rfl, rfl⟩
        go_wp2_with fail
        refine cc.mono ?_
        rintro e w1 ⟨rfl, rfl⟩
        go_wp2_with fail
        refine ca.mono ?_
        rintro e w1 ⟨rfl, rfl⟩
        go_wp2_with fail
        refine c1.mono ?_
        rintro e w1 ⟨rfl, rfl⟩
        go_wp2_with fail
        refine c2.mono ?_
        rintro e w1 ⟨rfl, rfl⟩
        go_wp2_with fail
        refine c3.mono ?_
        rintro e w1 ⟨rfl, rfl⟩
        go_wp2_with fail
        refine cq.mono ?_
        rintro e w1 ⟨rfl, rfl⟩
        go_wp2
        go_ret
        exact ⟨by simp [v1, v2], Below.refl _ _⟩
  by_cases m2 : m = me
  · subst m2
    obtain ⟨v1, v2, v3⟩ := hv (Or.inr (Or.inr rfl))
    clear hv
    have v1b : (U != 3) = true := by simp [v1]
    have v2b : (A != 3) = true := by simp [v2]
    rcases v3 with rfl | rfl
    · go_enter Try.func7, Try.ntmps7
      go_wp2_with fail
      refine cs.mono ?_
      rintro e w1 ⟨rfl, rfl⟩
      go_wp2_with fail
      refine co.mono ?_
      rintro e w1 ⟨rfl, rfl⟩
      go_wp2_with fail
      refine cp.mono ?_
      rintro e w1 ⟨rfl, rfl⟩
      go_wp2_with fail
      refine cc.mono ?_
      rintro e w1 ⟨rfl, rfl⟩
      go_wp2_with fail
      refine ca.mono ?_
      rintro e w1 ⟨rfl, rfl⟩
      go_wp2_with fail
      refine c1.mono ?_
      rintro e w1 ⟨rfl, rfl⟩
      go_wp2_with fail
      refine c2.mono ?_
      rintro e w1 ⟨rfl, rfl⟩
      go_wp2_with fail
      refine c3.mono ?_
      rintro e w1 ⟨rfl, rfl⟩
      go_wp2_with fail
      refine cq.mono ?_
      rintro e w1 ⟨rfl, rfl⟩
      go_wp2
      go_ret
      exact ⟨by simp [v1, v2], Below.refl _ _⟩
    · by_cases v4 : V = 3
      · exact absurd v4 v1
      · go_enter Try.func7, Try.ntmps7
        go_wp2_with fail
        refine cs.mono ?_
        rintro e w1 ⟨rfl, rfl⟩
        go_wp2_with fail
        refine co.mono ?_
        rintro e w1 ⟨rfl, rfl⟩
        go_wp2_with fail
        refine cp.mono ?_
        rintro e w1 ⟨rfl, rfl⟩
        go_wp2_with fail
        refine cc.mono ?_
        rintro e w1 ⟨rfl, rfl⟩
        go_wp2_with fail
        refine ca.mono ?_
        rintro e w1 ⟨rfl, rfl⟩
        go_wp2_with fail
        refine c1.mono ?_
        rintro e w1 ⟨rfl, rfl⟩
        go_wp2_with fail
        refine c2.mono ?_
        rintro e w1 ⟨rfl, rfl⟩
        go_wp2_with fail
        refine c3.mono ?_
        rintro e w1 ⟨rfl, rfl⟩
        go_wp2_with fail
        refine cq.mono ?_
        rintro e w1 ⟨rfl, rfl⟩
        go_wp2
        go_ret
        exact ⟨by simp [v1, v2], Below.refl _ _⟩
  · clear hv
    have m0b : (m != 0) = true := by simp [m0]
    have m1b : (m != n) = true := by simp [m1]
    have m2b : (m != me) = true := by simp [m2]
    go_enter Try.func7, Try.ntmps7
    go_wp2_with fail
    refine cs.mono ?_
    rintro e w1 ⟨rfl, rfl⟩
    go_wp2_with fail
    refine co.mono ?_
    rintro e w1 ⟨rfl, rfl⟩
    go_wp2_with fail
    refine cp.mono ?_
    rintro e w1 ⟨rfl, rfl⟩
    go_wp2_with fail
    refine cc.mono ?_
    rintro e w1 ⟨rfl, rfl⟩
    go_wp2_with fail
    refine ca.mono ?_
    rintro e w1 ⟨rfl, rfl⟩
    go_wp2_with fail
    refine c1.mono ?_
    rintro e w1 ⟨rfl, rfl⟩
    go_wp2_with fail
    refine c2.mono ?_
    rintro e w1 ⟨rfl, rfl⟩
    go_wp2_with fail
    refine c3.mono ?_
    rintro e w1 ⟨rfl, rfl⟩
    go_wp2_with fail
    refine cq.mono ?_
    rintro e w1 ⟨rfl, rfl⟩
    go_wp2
    go_ret
    exact ⟨rfl, Below.refl _ _⟩

/-- WordSettles' walk. -/
theorem settles_walk (me a n t x : Int) (ends : Bool) (w : World) (x0 : 0 ≤ x) (x9 : x ≤ 18446744073709551615) :
    Calls Try.prog 7 #[.int .i64 me, .int .i64 a, .int .i64 n, .int .i64 t, .int .u64 x, .bool ends] w fun e w' => e = .returned (.bool true) ∧ Below w.heap.size w w' := by
  by_cases hn : 1 ≤ n ∧ n < 1048576
  case neg => exact settles_none me a n t x ends w (Or.inl hn)
  by_cases hT : isT t = true
  case neg => exact settles_none me a n t x ends w (Or.inr (Or.inl hT))
  by_cases hm : me = n
  · exact settles_none me a n t x ends w (Or.inr (Or.inr hm))
  obtain ⟨t0, t1⟩ := isT_num hT
  cases ends
  · exact settles_begin me a n t x w hn.1 hn.2 t0 t1 hm x0 x9
  · exact settles_end me a n t x w hn.1 hn.2 t0 t1 hm x0 x9
end Go.Proofs.Ythcmnmdokeobaaa
