/-
  Layer 5: the laws that speak of the program alone: WordOwn, WordSpan, WordBack, WordSettles.
-/
import Derived.Test.YthcmnmdokeobaaaW2
import Derived.Below
set_option linter.unusedVariables false
set_option linter.unusedSimpArgs false
namespace Go.Proofs.Ythcmnmdokeobaaa
open Go.RowKit

theorem kd_own {n : Int} (h1 : 1 ≤ n) (h2 : n < 1048576) : kd (9223372036854775808 + n) = 3 := by
  unfold kd
  rw [if_neg (by omega), if_neg (by omega), if_pos (by omega)]
theorem ptN_own {n : Int} (h1 : 1 ≤ n) (h2 : n < 1048576) : ptN (9223372036854775808 + n) = n := by
  simp [ptN, kd_own h1 h2]
  omega
theorem kd_time {n : Int} (h : n < 1099511627776) : kd n = 1 := by simp [kd, h]
theorem kd_never : kd 1099511627776 = 2 := by decide
theorem isT_num {t : Int} (h : isT t = true) : 0 ≤ t ∧ t < 1099511627776 := of_decide_eq_true h
theorem isT_of {t : Int} (h : 0 ≤ t) (h1 : t < 1099511627776) : isT t = true := decide_eq_true ⟨h, h1⟩
theorem isR_of {t : Int} (h : 0 ≤ t) (h1 : t < 1048576) : isR t = true := decide_eq_true ⟨h, h1⟩
theorem owV_range (n : Int) : 0 ≤ owV n ∧ owV n ≤ 18446744073709551615 := by
  unfold owV
  split <;> omega
theorem eg_never {me a s : Int} (h : a < 1099511627776) : egV me a 1099511627776 s = 0 ∧ egO me a 1099511627776 s = true := by
  constructor
  · simp [egV, kd_never, byT]
    omega
  · simp [egO, kd_never]
theorem eg_time {me a s t : Int} (h : t < 1099511627776) : egV me a t s = byT t a ∧ egO me a t s = true := by
  constructor
  · simp [egV, kd_time h]
  · simp [egO, kd_time h]
theorem eg_me {me a s : Int} (h1 : 1 ≤ me) (h2 : me < 1048576) : egV me a (9223372036854775808 + me) s = 2 ∧ egO me a (9223372036854775808 + me) s = true := by
  constructor
  · simp [egV, kd_own h1 h2, ptN_own h1 h2]
  · simp [egO, kd_own h1 h2, ptN_own h1 h2]
theorem eg_other {me a s n : Int} (h1 : 1 ≤ n) (h2 : n < 1048576) (h : n ≠ me) : egV me a (9223372036854775808 + n) s = byV s a ∧ egO me a (9223372036854775808 + n) s = unO s := by
  constructor
  · simp [egV, kd_own h1 h2, ptN_own h1 h2, h]
  · simp [egO, kd_own h1 h2, ptN_own h1 h2, h]
theorem se_ok {me a b e sb se x y : Int} (hR : isR me = true) (hT : isT a = true) (hk : kd b ≠ 2) (h1 : egV me a b sb = x ∧ egO me a b sb = true) (h2 : egV me a e se = y ∧ egO me a e se = true) :
    seV me a b e sb se = vd x y ∧ seE me a b e sb se = 0 := by
  have hO : seO me a b e sb se = true := by simp [seO, hR, hT, hk, h1.2, h2.2]
  exact ⟨by simp [seV, hO, h1.1, h2.1], by simp [seE, hO]⟩
theorem se_no {me a b e sb se : Int} (h : seO me a b e sb se = false) : seV me a b e sb se = 0 ∧ seE me a b e sb se = 50 := ⟨by simp [seV, h], by simp [seE, h]⟩

set_option maxHeartbeats 800000 in
/-- WordOwn's walk. -/
theorem own_walk (me ot a : Int) (w : World) : Calls Try.prog 8 #[.int .i64 me, .int .i64 ot, .int .i64 a] w fun e w' => e = .returned (.bool true) ∧ Below w.heap.size w w' := by
  have cs := shown_any w
  have co := owner_any me w
  have ca := state_any 0 0 w
  rw [show stV 0 0 = 0 by decide, show stE 0 0 = 0 by decide] at ca
  have c1 := sees_any me a (owV me) 1099511627776 0 0 w (owV_range _).1 (by decide) (by decide) (by decide) (by decide) (by decide)
  have c2 := sees_any me a (owV me) (owV me) 0 0 w (owV_range _).1 (owV_range _).1 (by decide) (by decide) (by decide) (by decide)
  have c3 := sees_any ot a (owV me) 1099511627776 0 0 w (owV_range _).1 (by decide) (by decide) (by decide) (by decide) (by decide)
  by_cases hm : 1 ≤ me ∧ me < 1048576
  case neg =>
    rw [show owE me = 50 by simp [owE, hm]] at co
    go_enter Try.func8, Try.ntmps8
    go_wp2_with fail
    refine cs.mono ?_
    rintro e w1 ⟨rfl, rfl⟩
    go_wp2_with fail
    refine co.mono ?_
    rintro e w1 ⟨rfl, rfl⟩
    go_wp2_with fail
    refine ca.mono ?_
    rintro e w1 ⟨rfl, rfl⟩
    go_wp2_with fail
    refine c1.mono ?_
    rintro e w1 ⟨rfl, rfl⟩
    go_wp2_with fail
    refine c2.mono ?_
    rintro e w1 ⟨rfl, rfl⟩
    go_wp2_with fail
    refine c3.mono ?_
    rintro e w1 ⟨rfl, rfl⟩
    go_wp2
    go_ret
    exact ⟨rfl, Below.refl _ _⟩
  obtain ⟨m1, m2⟩ := hm
  rw [show owE me = 0 by simp [owE, m1, m2]] at co
  by_cases a0 : 0 ≤ a
  case neg =>
    go_enter Try.func8, Try.ntmps8
    go_wp2_with fail
    refine cs.mono ?_
    rintro e w1 ⟨rfl, rfl⟩
    go_wp2_with fail
    refine co.mono ?_
    rintro e w1 ⟨rfl, rfl⟩
    go_wp2_with fail
    refine ca.mono ?_
    rintro e w1 ⟨rfl, rfl⟩
    go_wp2_with fail
    refine c1.mono ?_
    rintro e w1 ⟨rfl, rfl⟩
    go_wp2_with fail
    refine c2.mono ?_
    rintro e w1 ⟨rfl, rfl⟩
    go_wp2_with fail
    refine c3.mono ?_
    rintro e w1 ⟨rfl, rfl⟩
    go_wp2
    go_ret
    exact ⟨rfl, Below.refl _ _⟩
  by_cases a1 : a < 1099511627776
  case neg =>
    go_enter Try.func8, Try.ntmps8
    go_wp2_with fail
    refine cs.mono ?_
    rintro e w1 ⟨rfl, rfl⟩
    go_wp2_with fail
    refine co.mono ?_
    rintro e w1 ⟨rfl, rfl⟩
    go_wp2_with fail
    refine ca.mono ?_
    rintro e w1 ⟨rfl, rfl⟩
    go_wp2_with fail
    refine c1.mono ?_
    rintro e w1 ⟨rfl, rfl⟩
    go_wp2_with fail
    refine c2.mono ?_
    rintro e w1 ⟨rfl, rfl⟩
    go_wp2_with fail
    refine c3.mono ?_
    rintro e w1 ⟨rfl, rfl⟩
    go_wp2
    go_ret
    exact ⟨rfl, Below.refl _ _⟩
  have hV : owV me = 9223372036854775808 + me := by simp [owV, m1, m2]
  have hT := isT_of a0 a1
  have hR := isR_of (by omega : 0 ≤ me) m2
  rw [hV] at co c1 c2 c3
  have k2 : kd (9223372036854775808 + me) ≠ 2 := by rw [kd_own m1 m2]; decide
  have e1 := se_ok (sb := 0) (se := 0) hR hT k2 (eg_me m1 m2) (eg_never a1)
  have e2 := se_ok (sb := 0) (se := 0) hR hT k2 (eg_me m1 m2) (eg_me m1 m2)
  rw [e1.1, e1.2, show vd 2 0 = 1 by decide] at c1
  rw [e2.1, e2.2, show vd 2 2 = 2 by decide] at c2
  clear hV
  by_cases o0 : 0 ≤ ot
  case neg =>
    have e3 := se_no (me := ot) (a := a) (b := 9223372036854775808 + me) (e := 1099511627776) (sb := 0) (se := 0) (by simp [seO, isR, o0])
    rw [e3.1, e3.2] at c3
    clear e1 e2 e3
    go_enter Try.func8, Try.ntmps8
    go_wp2_with fail
    refine cs.mono ?_
    rintro e w1 ⟨rfl, rfl⟩
    go_wp2_with fail
    refine co.mono ?_
    rintro e w1 ⟨rfl, rfl⟩
    go_wp2_with fail
    refine ca.mono ?_
    rintro e w1 ⟨rfl, rfl⟩
    go_wp2_with fail
    refine c1.mono ?_
    rintro e w1 ⟨rfl, rfl⟩
    go_wp2_with fail
    refine c2.mono ?_
    rintro e w1 ⟨rfl, rfl⟩
    go_wp2_with fail
    refine c3.mono ?_
    rintro e w1 ⟨rfl, rfl⟩
    go_wp2
    go_ret
    exact ⟨rfl, Below.refl _ _⟩
  by_cases o1 : ot < 1048576
  case neg =>
    have e3 := se_no (me := ot) (a := a) (b := 9223372036854775808 + me) (e := 1099511627776) (sb := 0) (se := 0) (by simp [seO, isR, o1])
    rw [e3.1, e3.2] at c3
    clear e1 e2 e3
    go_enter Try.func8, Try.ntmps8
    go_wp2_with fail
    refine cs.mono ?_
    rintro e w1 ⟨rfl, rfl⟩
    go_wp2_with fail
    refine co.mono ?_
    rintro e w1 ⟨rfl, rfl⟩
    go_wp2_with fail
    refine ca.mono ?_
    rintro e w1 ⟨rfl, rfl⟩
    go_wp2_with fail
    refine c1.mono ?_
    rintro e w1 ⟨rfl, rfl⟩
    go_wp2_with fail
    refine c2.mono ?_
    rintro e w1 ⟨rfl, rfl⟩
    go_wp2_with fail
    refine c3.mono ?_
    rintro e w1 ⟨rfl, rfl⟩
    go_wp2
    go_ret
    exact ⟨rfl, Below.refl _ _⟩
  by_cases hom : ot = me
  · subst hom
    rw [e1.1, e1.2, show vd 2 0 = 1 by decide] at c3
    clear e1 e2
    go_enter Try.func8, Try.ntmps8
    go_wp2_with fail
    refine cs.mono ?_
    rintro e w1 ⟨rfl, rfl⟩
    go_wp2_with fail
    refine co.mono ?_
    rintro e w1 ⟨rfl, rfl⟩
    go_wp2_with fail
    refine ca.mono ?_
    rintro e w1 ⟨rfl, rfl⟩
    go_wp2_with fail
    refine c1.mono ?_
    rintro e w1 ⟨rfl, rfl⟩
    go_wp2_with fail
    refine c2.mono ?_
    rintro e w1 ⟨rfl, rfl⟩
    go_wp2_with fail
    refine c3.mono ?_
    rintro e w1 ⟨rfl, rfl⟩
    go_wp2
    go_ret
    exact ⟨rfl, Below.refl _ _⟩
  · have e3 := se_ok (me := ot) (sb := 0) (se := 0) (x := 0) (isR_of o0 o1) hT k2 ⟨(eg_other m1 m2 (Ne.symm hom)).1.trans (by simp [byV, unO, unS, hs]), (eg_other m1 m2 (Ne.symm hom)).2.trans (by decide)⟩ (eg_never a1)
    rw [e3.1, e3.2, show vd 0 0 = 2 by decide] at c3
    clear e1 e2 e3
    go_enter Try.func8, Try.ntmps8
    go_wp2_with fail
    refine cs.mono ?_
    rintro e w1 ⟨rfl, rfl⟩
    go_wp2_with fail
    refine co.mono ?_
    rintro e w1 ⟨rfl, rfl⟩
    go_wp2_with fail
    refine ca.mono ?_
    rintro e w1 ⟨rfl, rfl⟩
    go_wp2_with fail
    refine c1.mono ?_
    rintro e w1 ⟨rfl, rfl⟩
    go_wp2_with fail
    refine c2.mono ?_
    rintro e w1 ⟨rfl, rfl⟩
    go_wp2_with fail
    refine c3.mono ?_
    rintro e w1 ⟨rfl, rfl⟩
    go_wp2
    go_ret
    exact ⟨rfl, Below.refl _ _⟩

set_option maxHeartbeats 800000 in
/-- WordSpan's walk. -/
theorem span_walk (me b e a : Int) (w : World) : Calls Try.prog 6 #[.int .i64 me, .int .i64 b, .int .i64 e, .int .i64 a] w fun e w' => e = .returned (.bool true) ∧ Below w.heap.size w w' := by
  have cs := shown_any w
  have cb := time_any b w
  have ce := time_any e w
  have hr : ∀ t, 0 ≤ tmV t := by
    intro t
    unfold tmV
    split
    · rename_i h
      exact (isT_num h).1
    · decide
  have c1 := sees_any me a (tmV b) (tmV e) 0 0 w (hr _) (hr _) (by decide) (by decide) (by decide) (by decide)
  have c2 := sees_any me a (tmV b) 1099511627776 0 0 w (hr _) (by decide) (by decide) (by decide) (by decide) (by decide)
  clear hr
  by_cases hb : isT b = true
  case neg =>
    rw [show tmE b = 50 by simp [tmE, hb]] at cb
    clear hb
    go_enter Try.func6, Try.ntmps6
    go_wp2_with fail
    refine cs.mono ?_
    rintro e w1 ⟨rfl, rfl⟩
    go_wp2_with fail
    refine cb.mono ?_
    rintro e w1 ⟨rfl, rfl⟩
    go_wp2_with fail
    refine ce.mono ?_
    rintro e w1 ⟨rfl, rfl⟩
    go_wp2_with fail
    refine c1.mono ?_
    rintro e w1 ⟨rfl, rfl⟩
    go_wp2_with fail
    refine c2.mono ?_
    rintro e w1 ⟨rfl, rfl⟩
    go_wp2
    go_ret
    exact ⟨rfl, Below.refl _ _⟩
  by_cases he : isT e = true
  case neg =>
    rw [show tmE b = 0 by simp [tmE, hb]] at cb
    rw [show tmE e = 50 by simp [tmE, he]] at ce
    clear hb he
    go_enter Try.func6, Try.ntmps6
    go_wp2_with fail
    refine cs.mono ?_
    rintro e w1 ⟨rfl, rfl⟩
    go_wp2_with fail
    refine cb.mono ?_
    rintro e w1 ⟨rfl, rfl⟩
    go_wp2_with fail
    refine ce.mono ?_
    rintro e w1 ⟨rfl, rfl⟩
    go_wp2_with fail
    refine c1.mono ?_
    rintro e w1 ⟨rfl, rfl⟩
    go_wp2_with fail
    refine c2.mono ?_
    rintro e w1 ⟨rfl, rfl⟩
    go_wp2
    go_ret
    exact ⟨rfl, Below.refl _ _⟩
  rw [show tmE b = 0 by simp [tmE, hb]] at cb
  rw [show tmE e = 0 by simp [tmE, he]] at ce
  rw [show tmV b = b by simp [tmV, hb]] at cb c1 c2
  rw [show tmV e = e by simp [tmV, he]] at ce c1
  obtain ⟨b0, b1⟩ := isT_num hb
  obtain ⟨e0, e1⟩ := isT_num he
  clear hb he
  by_cases hR : isR me = true
  case neg =>
    have n1 := se_no (me := me) (a := a) (b := b) (e := e) (sb := 0) (se := 0) (by simp [seO, hR])
    have n2 := se_no (me := me) (a := a) (b := b) (e := 1099511627776) (sb := 0) (se := 0) (by simp [seO, hR])
    rw [n1.1, n1.2] at c1
    rw [n2.1, n2.2] at c2
    clear hR n1 n2
    go_enter Try.func6, Try.ntmps6
    go_wp2_with fail
    refine cs.mono ?_
    rintro e w1 ⟨rfl, rfl⟩
    go_wp2_with fail
    refine cb.mono ?_
    rintro e w1 ⟨rfl, rfl⟩
    go_wp2_with fail
    refine ce.mono ?_
    rintro e w1 ⟨rfl, rfl⟩
    go_wp2_with fail
    refine c1.mono ?_
    rintro e w1 ⟨rfl, rfl⟩
    go_wp2_with fail
    refine c2.mono ?_
    rintro e w1 ⟨rfl, rfl⟩
    go_wp2
    go_ret
    exact ⟨rfl, Below.refl _ _⟩
  by_cases hT : isT a = true
  case neg =>
    have n1 := se_no (me := me) (a := a) (b := b) (e := e) (sb := 0) (se := 0) (by simp [seO, hT])
    have n2 := se_no (me := me) (a := a) (b := b) (e := 1099511627776) (sb := 0) (se := 0) (by simp [seO, hT])
    rw [n1.1, n1.2] at c1
    rw [n2.1, n2.2] at c2
    clear hT n1 n2
    go_enter Try.func6, Try.ntmps6
    go_wp2_with fail
    refine cs.mono ?_
    rintro e w1 ⟨rfl, rfl⟩
    go_wp2_with fail
    refine cb.mono ?_
    rintro e w1 ⟨rfl, rfl⟩
    go_wp2_with fail
    refine ce.mono ?_
    rintro e w1 ⟨rfl, rfl⟩
    go_wp2_with fail
    refine c1.mono ?_
    rintro e w1 ⟨rfl, rfl⟩
    go_wp2_with fail
    refine c2.mono ?_
    rintro e w1 ⟨rfl, rfl⟩
    go_wp2
    go_ret
    exact ⟨rfl, Below.refl _ _⟩
  have k2 : kd b ≠ 2 := by rw [kd_time b1]; decide
  have a1 := (isT_num hT).2
  have n1 := se_ok (sb := 0) (se := 0) hR hT k2 (eg_time b1) (eg_time e1)
  have n2 := se_ok (sb := 0) (se := 0) hR hT k2 (eg_time b1) (eg_never a1)
  rw [n1.1, n1.2] at c1
  rw [n2.1, n2.2] at c2
  clear n1 n2 k2 hT hR
  by_cases g1 : b ≤ a
  · by_cases g2 : a < e
    · rw [show byT b a = 2 by simp [byT]; omega, show byT e a = 0 by simp [byT]; omega, show vd 2 0 = 1 by decide] at c1
      rw [show byT b a = 2 by simp [byT]; omega, show vd 2 0 = 1 by decide] at c2
      go_enter Try.func6, Try.ntmps6
      go_wp2_with fail
      refine cs.mono ?_
      rintro e w1 ⟨rfl, rfl⟩
      go_wp2_with fail
      refine cb.mono ?_
      rintro e w1 ⟨rfl, rfl⟩
      go_wp2_with fail
      refine ce.mono ?_
      rintro e w1 ⟨rfl, rfl⟩
      go_wp2_with fail
      refine c1.mono ?_
      rintro e w1 ⟨rfl, rfl⟩
      go_wp2_with fail
      refine c2.mono ?_
      rintro e w1 ⟨rfl, rfl⟩
      go_wp2
      go_ret
      exact ⟨rfl, Below.refl _ _⟩
    · rw [show byT b a = 2 by simp [byT]; omega, show byT e a = 2 by simp [byT]; omega, show vd 2 2 = 2 by decide] at c1
      rw [show byT b a = 2 by simp [byT]; omega, show vd 2 0 = 1 by decide] at c2
      go_enter Try.func6, Try.ntmps6
      go_wp2_with fail
      refine cs.mono ?_
      rintro e w1 ⟨rfl, rfl⟩
      go_wp2_with fail
      refine cb.mono ?_
      rintro e w1 ⟨rfl, rfl⟩
      go_wp2_with fail
      refine ce.mono ?_
      rintro e w1 ⟨rfl, rfl⟩
      go_wp2_with fail
      refine c1.mono ?_
      rintro e w1 ⟨rfl, rfl⟩
      go_wp2_with fail
      refine c2.mono ?_
      rintro e w1 ⟨rfl, rfl⟩
      go_wp2
      go_ret
      exact ⟨by simp [g2], Below.refl _ _⟩
  · have hv : vd 0 (byT e a) = 2 := by simp [vd]
    rw [show byT b a = 0 by simp [byT]; omega, hv] at c1
    rw [show byT b a = 0 by simp [byT]; omega, show vd 0 0 = 2 by decide] at c2
    go_enter Try.func6, Try.ntmps6
    go_wp2_with fail
    refine cs.mono ?_
    rintro e w1 ⟨rfl, rfl⟩
    go_wp2_with fail
    refine cb.mono ?_
    rintro e w1 ⟨rfl, rfl⟩
    go_wp2_with fail
    refine ce.mono ?_
    rintro e w1 ⟨rfl, rfl⟩
    go_wp2_with fail
    refine c1.mono ?_
    rintro e w1 ⟨rfl, rfl⟩
    go_wp2_with fail
    refine c2.mono ?_
    rintro e w1 ⟨rfl, rfl⟩
    go_wp2
    go_ret
    exact ⟨rfl, Below.refl _ _⟩

set_option maxHeartbeats 1600000 in
/-- WordBack's walk. -/
theorem back_walk (t n s x : Int) (w : World) (x0 : 0 ≤ x) (x9 : x ≤ 18446744073709551615) : Calls Try.prog 5 #[.int .i64 t, .int .i64 n, .int .i64 s, .int .u64 x] w fun e w' => e = .returned (.bool true) ∧ Below w.heap.size w w' := by
  have cs := shown_any w
  have ct := time_any t w
  have co := owner_any n w
  have cst := state_any s t w
  have cx := unstate_any x w x0 x9
  have cy := state_any (unS x) (unT x) w
  have HX : unO x = true → stV (unS x) (unT x) = x ∧ stE (unS x) (unT x) = 0 := by
    intro h
    have h1 : unS x = x / 4611686018427387904 := by simp [unS, h]
    have h2 : unT x = x % 4611686018427387904 := by simp [unT, h]
    have h3 : hs (unS x) (unT x) = true := by rw [h1, h2]; exact h
    refine ⟨?_, by simp [stE, h3]⟩
    simp only [stV, h3, if_true]
    omega
  have HT : isT t = true → Calls Try.prog 16 #[.int .u64 t] w fun e w' => e = .returned (.tuple #[.int .i64 t, .int .i64 0, .bool true]) ∧ w' = w := by
    intro h
    obtain ⟨h0, h1⟩ := isT_num h
    have c := parts_any t w h0
    rw [show ptT t = t by simp [ptT, kd_time h1], show ptN t = 0 by simp [ptN, kd_time h1], show ptO t = true by simp [ptO, kd_time h1]] at c
    exact c
  have HO : 1 ≤ n → n < 1048576 → Calls Try.prog 16 #[.int .u64 (9223372036854775808 + n)] w fun e w' => e = .returned (.tuple #[.int .i64 0, .int .i64 n, .bool true]) ∧ w' = w := by
    intro h0 h1
    have c := parts_any (9223372036854775808 + n) w (by omega)
    rw [show ptT (9223372036854775808 + n) = 0 by simp [ptT, kd_own h0 h1], ptN_own h0 h1, show ptO (9223372036854775808 + n) = true by simp [ptO, kd_own h0 h1]] at c
    exact c
  have HS : hs s t = true → Calls Try.prog 18 #[.int .u64 (s * 4611686018427387904 + t)] w fun e w' => e = .returned (.tuple #[.int .i64 s, .int .i64 t, .bool true]) ∧ w' = w := by
    intro h
    obtain ⟨h1, h2, h3, h4⟩ := hs_num h
    have c := unstate_any (s * 4611686018427387904 + t) w (by omega) (by omega)
    have d1 : (s * 4611686018427387904 + t) / 4611686018427387904 = s := by omega
    have d2 : (s * 4611686018427387904 + t) % 4611686018427387904 = t := by omega
    have hu : unO (s * 4611686018427387904 + t) = true := by unfold unO; rw [d1, d2]; exact h
    rw [show unS (s * 4611686018427387904 + t) = s by simp only [unS, hu, if_true]; exact d1, show unT (s * 4611686018427387904 + t) = t by simp only [unT, hu, if_true]; exact d2, hu] at c
    exact c
  by_cases hT : isT t = true
  · have c1 := HT hT
    obtain ⟨t0, t1⟩ := isT_num hT
    rw [show tmV t = t by simp [tmV, hT], show tmE t = 0 by simp [tmE, hT]] at ct
    clear HT hT
    by_cases hn : 1 ≤ n ∧ n < 1048576
    · obtain ⟨n0, n1⟩ := hn
      have c2 := HO n0 n1
      rw [show owV n = 9223372036854775808 + n by simp [owV, n0, n1], show owE n = 0 by simp [owE, n0, n1]] at co
      have hne : ¬ t = 9223372036854775808 + n := by omega
      clear HO
      by_cases hS : hs s t = true
      · have c3 := HS hS
        rw [show stV s t = s * 4611686018427387904 + t by simp [stV, hS], show stE s t = 0 by simp [stE, hS]] at cst
        clear HS hS
        by_cases hx : unO x = true
        · obtain ⟨q1, q2⟩ := HX hx
          rw [q1, q2] at cy
          rw [hx] at cx
          clear HX q1 q2 hx
          go_enter Try.func5, Try.ntmps5
          go_wp2_with fail
          refine cs.mono ?_
          rintro e w1 ⟨rfl, rfl⟩
          go_wp2_with fail
          refine ct.mono ?_
          rintro e w1 ⟨rfl, rfl⟩
          go_wp2_with fail
          refine c1.mono ?_
          rintro e w1 ⟨rfl, rfl⟩
          go_wp2_with fail
          refine co.mono ?_
          rintro e w1 ⟨rfl, rfl⟩
          go_wp2_with fail
          refine c2.mono ?_
          rintro e w1 ⟨rfl, rfl⟩
          go_wp2_with fail
          refine cst.mono ?_
          rintro e w1 ⟨rfl, rfl⟩
          go_wp2_with fail
          refine c3.mono ?_
          rintro e w1 ⟨rfl, rfl⟩
          go_wp2_with fail
          refine cx.mono ?_
          rintro e w1 ⟨rfl, rfl⟩
          go_wp2_with fail
          refine cy.mono ?_
          rintro e w1 ⟨rfl, rfl⟩
          go_wp2
          go_ret
          exact ⟨rfl, Below.refl _ _⟩
        · rw [Bool.eq_false_iff.mpr hx] at cx
          clear HX hx
          go_enter Try.func5, Try.ntmps5
          go_wp2_with fail
          refine cs.mono ?_
          rintro e w1 ⟨rfl, rfl⟩
          go_wp2_with fail
          refine ct.mono ?_
          rintro e w1 ⟨rfl, rfl⟩
          go_wp2_with fail
          refine c1.mono ?_
          rintro e w1 ⟨rfl, rfl⟩
          go_wp2_with fail
          refine co.mono ?_
          rintro e w1 ⟨rfl, rfl⟩
          go_wp2_with fail
          refine c2.mono ?_
          rintro e w1 ⟨rfl, rfl⟩
          go_wp2_with fail
          refine cst.mono ?_
          rintro e w1 ⟨rfl, rfl⟩
          go_wp2_with fail
          refine c3.mono ?_
          rintro e w1 ⟨rfl, rfl⟩
          go_wp2_with fail
          refine cx.mono ?_
          rintro e w1 ⟨rfl, rfl⟩
          go_wp2_with fail
          refine cy.mono ?_
          rintro e w1 ⟨rfl, rfl⟩
          go_wp2
          go_ret
          exact ⟨rfl, Below.refl _ _⟩
      · rw [show stE s t = 50 by simp [stE, hS]] at cst
        clear HS hS
        by_cases hx : unO x = true
        · obtain ⟨q1, q2⟩ := HX hx
          rw [q1, q2] at cy
          rw [hx] at cx
          clear HX q1 q2 hx
          go_enter Try.func5, Try.ntmps5
          go_wp2_with fail
          refine cs.mono ?_
          rintro e w1 ⟨rfl, rfl⟩
          go_wp2_with fail
          refine ct.mono ?_
          rintro e w1 ⟨rfl, rfl⟩
          go_wp2_with fail
          refine c1.mono ?_
          rintro e w1 ⟨rfl, rfl⟩
          go_wp2_with fail
          refine co.mono ?_
          rintro e w1 ⟨rfl, rfl⟩
          go_wp2_with fail
          refine c2.mono ?_
          rintro e w1 ⟨rfl, rfl⟩
          go_wp2_with fail
          refine cst.mono ?_
          rintro e w1 ⟨rfl, rfl⟩
          go_wp2_with fail
          refine cx.mono ?_
          rintro e w1 ⟨rfl, rfl⟩
          go_wp2_with fail
          refine cy.mono ?_
          rintro e w1 ⟨rfl, rfl⟩
          go_wp2
          go_ret
          exact ⟨rfl, Below.refl _ _⟩
        · rw [Bool.eq_false_iff.mpr hx] at cx
          clear HX hx
          go_enter Try.func5, Try.ntmps5
          go_wp2_with fail
          refine cs.mono ?_
          rintro e w1 ⟨rfl, rfl⟩
          go_wp2_with fail
          refine ct.mono ?_
          rintro e w1 ⟨rfl, rfl⟩
          go_wp2_with fail
          refine c1.mono ?_
          rintro e w1 ⟨rfl, rfl⟩
          go_wp2_with fail
          refine co.mono ?_
          rintro e w1 ⟨rfl, rfl⟩
          go_wp2_with fail
          refine c2.mono ?_
          rintro e w1 ⟨rfl, rfl⟩
          go_wp2_with fail
          refine cst.mono ?_
          rintro e w1 ⟨rfl, rfl⟩
          go_wp2_with fail
          refine cx.mono ?_
          rintro e w1 ⟨rfl, rfl⟩
          go_wp2_with fail
          refine cy.mono ?_
          rintro e w1 ⟨rfl, rfl⟩
          go_wp2
          go_ret
          exact ⟨rfl, Below.refl _ _⟩
    · rw [show owE n = 50 by simp [owE, hn]] at co
      clear HO
      by_cases hS : hs s t = true
      · have c3 := HS hS
        rw [show stV s t = s * 4611686018427387904 + t by simp [stV, hS], show stE s t = 0 by simp [stE, hS]] at cst
        clear HS hS
        by_cases hx : unO x = true
        · obtain ⟨q1, q2⟩ := HX hx
          rw [q1, q2] at cy
          rw [hx] at cx
          clear HX q1 q2 hx
          go_enter Try.func5, Try.ntmps5
          go_wp2_with fail
          refine cs.mono ?_
          rintro e w1 ⟨rfl, rfl⟩
          go_wp2_with fail
          refine ct.mono ?_
          rintro e w1 ⟨rfl, rfl⟩
          go_wp2_with fail
          refine c1.mono ?_
          rintro e w1 ⟨rfl, rfl⟩
          go_wp2_with fail
          refine co.mono ?_
          rintro e w1 ⟨rfl, rfl⟩
          go_wp2_with fail
          refine cst.mono ?_
          rintro e w1 ⟨rfl, rfl⟩
          go_wp2_with fail
          refine c3.mono ?_
          rintro e w1 ⟨rfl, rfl⟩
          go_wp2_with fail
          refine cx.mono ?_
          rintro e w1 ⟨rfl, rfl⟩
          go_wp2_with fail
          refine cy.mono ?_
          rintro e w1 ⟨rfl, rfl⟩
          go_wp2
          go_ret
          exact ⟨rfl, Below.refl _ _⟩
        · rw [Bool.eq_false_iff.mpr hx] at cx
          clear HX hx
          go_enter Try.func5, Try.ntmps5
          go_wp2_with fail
          refine cs.mono ?_
          rintro e w1 ⟨rfl, rfl⟩
          go_wp2_with fail
          refine ct.mono ?_
          rintro e w1 ⟨rfl, rfl⟩
          go_wp2_with fail
          refine c1.mono ?_
          rintro e w1 ⟨rfl, rfl⟩
          go_wp2_with fail
          refine co.mono ?_
          rintro e w1 ⟨rfl, rfl⟩
          go_wp2_with fail
          refine cst.mono ?_
          rintro e w1 ⟨rfl, rfl⟩
          go_wp2_with fail
          refine c3.mono ?_
          rintro e w1 ⟨rfl, rfl⟩
          go_wp2_with fail
          refine cx.mono ?_
          rintro e w1 ⟨rfl, rfl⟩
          go_wp2_with fail
          refine cy.mono ?_
          rintro e w1 ⟨rfl, rfl⟩
          go_wp2
          go_ret
          exact ⟨rfl, Below.refl _ _⟩
      · rw [show stE s t = 50 by simp [stE, hS]] at cst
        clear HS hS
        by_cases hx : unO x = true
        · obtain ⟨q1, q2⟩ := HX hx
          rw [q1, q2] at cy
          rw [hx] at cx
          clear HX q1 q2 hx
          go_enter Try.func5, Try.ntmps5
          go_wp2_with fail
          refine cs.mono ?_
          rintro e w1 ⟨rfl, rfl⟩
          go_wp2_with fail
          refine ct.mono ?_
          rintro e w1 ⟨rfl, rfl⟩
          go_wp2_with fail
          refine c1.mono ?_
          rintro e w1 ⟨rfl, rfl⟩
          go_wp2_with fail
          refine co.mono ?_
          rintro e w1 ⟨rfl, rfl⟩
          go_wp2_with fail
          refine cst.mono ?_
          rintro e w1 ⟨rfl, rfl⟩
          go_wp2_with fail
          refine cx.mono ?_
          rintro e w1 ⟨rfl, rfl⟩
          go_wp2_with fail
          refine cy.mono ?_
          rintro e w1 ⟨rfl, rfl⟩
          go_wp2
          go_ret
          exact ⟨rfl, Below.refl _ _⟩
        · rw [Bool.eq_false_iff.mpr hx] at cx
          clear HX hx
          go_enter Try.func5, Try.ntmps5
          go_wp2_with fail
          refine cs.mono ?_
          rintro e w1 ⟨rfl, rfl⟩
          go_wp2_with fail
          refine ct.mono ?_
          rintro e w1 ⟨rfl, rfl⟩
          go_wp2_with fail
          refine c1.mono ?_
          rintro e w1 ⟨rfl, rfl⟩
          go_wp2_with fail
          refine co.mono ?_
          rintro e w1 ⟨rfl, rfl⟩
          go_wp2_with fail
          refine cst.mono ?_
          rintro e w1 ⟨rfl, rfl⟩
          go_wp2_with fail
          refine cx.mono ?_
          rintro e w1 ⟨rfl, rfl⟩
          go_wp2_with fail
          refine cy.mono ?_
          rintro e w1 ⟨rfl, rfl⟩
          go_wp2
          go_ret
          exact ⟨rfl, Below.refl _ _⟩
  · rw [show tmV t = 0 by simp [tmV, hT], show tmE t = 50 by simp [tmE, hT]] at ct
    clear HT hT
    by_cases hn : 1 ≤ n ∧ n < 1048576
    · obtain ⟨n0, n1⟩ := hn
      have c2 := HO n0 n1
      rw [show owV n = 9223372036854775808 + n by simp [owV, n0, n1], show owE n = 0 by simp [owE, n0, n1]] at co
      have hne : ¬ (0 : Int) = 9223372036854775808 + n := by omega
      clear HO
      by_cases hS : hs s t = true
      · have c3 := HS hS
        rw [show stV s t = s * 4611686018427387904 + t by simp [stV, hS], show stE s t = 0 by simp [stE, hS]] at cst
        clear HS hS
        by_cases hx : unO x = true
        · obtain ⟨q1, q2⟩ := HX hx
          rw [q1, q2] at cy
          rw [hx] at cx
          clear HX q1 q2 hx
          go_enter Try.func5, Try.ntmps5
          go_wp2_with fail
          refine cs.mono ?_
          rintro e w1 ⟨rfl, rfl⟩
          go_wp2_with fail
          refine ct.mono ?_
          rintro e w1 ⟨rfl, rfl⟩
          go_wp2_with fail
          refine co.mono ?_
          rintro e w1 ⟨rfl, rfl⟩
          go_wp2_with fail
          refine c2.mono ?_
          rintro e w1 ⟨rfl, rfl⟩
          go_wp2_with fail
          refine cst.mono ?_
          rintro e w1 ⟨rfl, rfl⟩
          go_wp2_with fail
          refine c3.mono ?_
          rintro e w1 ⟨rfl, rfl⟩
          go_wp2_with fail
          refine cx.mono ?_
          rintro e w1 ⟨rfl, rfl⟩
          go_wp2_with fail
          refine cy.mono ?_
          rintro e w1 ⟨rfl, rfl⟩
          go_wp2
          go_ret
          exact ⟨rfl, Below.refl _ _⟩
        · rw [Bool.eq_false_iff.mpr hx] at cx
          clear HX hx
          go_enter Try.func5, Try.ntmps5
          go_wp2_with fail
          refine cs.mono ?_
          rintro e w1 ⟨rfl, rfl⟩
          go_wp2_with fail
          refine ct.mono ?_
          rintro e w1 ⟨rfl, rfl⟩
          go_wp2_with fail
          refine co.mono ?_
          rintro e w1 ⟨rfl, rfl⟩
          go_wp2_with fail
          refine c2.mono ?_
          rintro e w1 ⟨rfl, rfl⟩
          go_wp2_with fail
          refine cst.mono ?_
          rintro e w1 ⟨rfl, rfl⟩
          go_wp2_with fail
          refine c3.mono ?_
          rintro e w1 ⟨rfl, rfl⟩
          go_wp2_with fail
          refine cx.mono ?_
          rintro e w1 ⟨rfl, rfl⟩
          go_wp2_with fail
          refine cy.mono ?_
          rintro e w1 ⟨rfl, rfl⟩
          go_wp2
          go_ret
          exact ⟨rfl, Below.refl _ _⟩
      · rw [show stE s t = 50 by simp [stE, hS]] at cst
        clear HS hS
        by_cases hx : unO x = true
        · obtain ⟨q1, q2⟩ := HX hx
          rw [q1, q2] at cy
          rw [hx] at cx
          clear HX q1 q2 hx
          go_enter Try.func5, Try.ntmps5
          go_wp2_with fail
          refine cs.mono ?_
          rintro e w1 ⟨rfl, rfl⟩
          go_wp2_with fail
          refine ct.mono ?_
          rintro e w1 ⟨rfl, rfl⟩
          go_wp2_with fail
          refine co.mono ?_
          rintro e w1 ⟨rfl, rfl⟩
          go_wp2_with fail
          refine c2.mono ?_
          rintro e w1 ⟨rfl, rfl⟩
          go_wp2_with fail
          refine cst.mono ?_
          rintro e w1 ⟨rfl, rfl⟩
          go_wp2_with fail
          refine cx.mono ?_
          rintro e w1 ⟨rfl, rfl⟩
          go_wp2_with fail
          refine cy.mono ?_
          rintro e w1 ⟨rfl, rfl⟩
          go_wp2
          go_ret
          exact ⟨rfl, Below.refl _ _⟩
        · rw [Bool.eq_false_iff.mpr hx] at cx
          clear HX hx
          go_enter Try.func5, Try.ntmps5
          go_wp2_with fail
          refine cs.mono ?_
          rintro e w1 ⟨rfl, rfl⟩
          go_wp2_with fail
          refine ct.mono ?_
          rintro e w1 ⟨rfl, rfl⟩
          go_wp2_with fail
          refine co.mono ?_
          rintro e w1 ⟨rfl, rfl⟩
          go_wp2_with fail
          refine c2.mono ?_
          rintro e w1 ⟨rfl, rfl⟩
          go_wp2_with fail
          refine cst.mono ?_
          rintro e w1 ⟨rfl, rfl⟩
          go_wp2_with fail
          refine cx.mono ?_
          rintro e w1 ⟨rfl, rfl⟩
          go_wp2_with fail
          refine cy.mono ?_
          rintro e w1 ⟨rfl, rfl⟩
          go_wp2
          go_ret
          exact ⟨rfl, Below.refl _ _⟩
    · rw [show owE n = 50 by simp [owE, hn]] at co
      clear HO
      by_cases hS : hs s t = true
      · have c3 := HS hS
        rw [show stV s t = s * 4611686018427387904 + t by simp [stV, hS], show stE s t = 0 by simp [stE, hS]] at cst
        clear HS hS
        by_cases hx : unO x = true
        · obtain ⟨q1, q2⟩ := HX hx
          rw [q1, q2] at cy
          rw [hx] at cx
          clear HX q1 q2 hx
          go_enter Try.func5, Try.ntmps5
          go_wp2_with fail
          refine cs.mono ?_
          rintro e w1 ⟨rfl, rfl⟩
          go_wp2_with fail
          refine ct.mono ?_
          rintro e w1 ⟨rfl, rfl⟩
          go_wp2_with fail
          refine co.mono ?_
          rintro e w1 ⟨rfl, rfl⟩
          go_wp2_with fail
          refine cst.mono ?_
          rintro e w1 ⟨rfl, rfl⟩
          go_wp2_with fail
          refine c3.mono ?_
          rintro e w1 ⟨rfl, rfl⟩
          go_wp2_with fail
          refine cx.mono ?_
          rintro e w1 ⟨rfl, rfl⟩
          go_wp2_with fail
          refine cy.mono ?_
          rintro e w1 ⟨rfl, rfl⟩
          go_wp2
          go_ret
          exact ⟨rfl, Below.refl _ _⟩
        · rw [Bool.eq_false_iff.mpr hx] at cx
          clear HX hx
          go_enter Try.func5, Try.ntmps5
          go_wp2_with fail
          refine cs.mono ?_
          rintro e w1 ⟨rfl, rfl⟩
          go_wp2_with fail
          refine ct.mono ?_
          rintro e w1 ⟨rfl, rfl⟩
          go_wp2_with fail
          refine co.mono ?_
          rintro e w1 ⟨rfl, rfl⟩
          go_wp2_with fail
          refine cst.mono ?_
          rintro e w1 ⟨rfl, rfl⟩
          go_wp2_with fail
          refine c3.mono ?_
          rintro e w1 ⟨rfl, rfl⟩
          go_wp2_with fail
          refine cx.mono ?_
          rintro e w1 ⟨rfl, rfl⟩
          go_wp2_with fail
          refine cy.mono ?_
          rintro e w1 ⟨rfl, rfl⟩
          go_wp2
          go_ret
          exact ⟨rfl, Below.refl _ _⟩
      · rw [show stE s t = 50 by simp [stE, hS]] at cst
        clear HS hS
        by_cases hx : unO x = true
        · obtain ⟨q1, q2⟩ := HX hx
          rw [q1, q2] at cy
          rw [hx] at cx
          clear HX q1 q2 hx
          go_enter Try.func5, Try.ntmps5
          go_wp2_with fail
          refine cs.mono ?_
          rintro e w1 ⟨rfl, rfl⟩
          go_wp2_with fail
          refine ct.mono ?_
          rintro e w1 ⟨rfl, rfl⟩
          go_wp2_with fail
          refine co.mono ?_
          rintro e w1 ⟨rfl, rfl⟩
          go_wp2_with fail
          refine cst.mono ?_
          rintro e w1 ⟨rfl, rfl⟩
          go_wp2_with fail
          refine cx.mono ?_
          rintro e w1 ⟨rfl, rfl⟩
          go_wp2_with fail
          refine cy.mono ?_
          rintro e w1 ⟨rfl, rfl⟩
          go_wp2
          go_ret
          exact ⟨rfl, Below.refl _ _⟩
        · rw [Bool.eq_false_iff.mpr hx] at cx
          clear HX hx
          go_enter Try.func5, Try.ntmps5
          go_wp2_with fail
          refine cs.mono ?_
          rintro e w1 ⟨rfl, rfl⟩
          go_wp2_with fail
          refine ct.mono ?_
          rintro e w1 ⟨rfl, rfl⟩
          go_wp2_with fail
          refine co.mono ?_
          rintro e w1 ⟨rfl, rfl⟩
          go_wp2_with fail
          refine cst.mono ?_
          rintro e w1 ⟨rfl, rfl⟩
          go_wp2_with fail
          refine cx.mono ?_
          rintro e w1 ⟨rfl, rfl⟩
          go_wp2_with fail
          refine cy.mono ?_
          rintro e w1 ⟨rfl, rfl⟩
          go_wp2
          go_ret
          exact ⟨rfl, Below.refl _ _⟩
end Go.Proofs.Ythcmnmdokeobaaa
