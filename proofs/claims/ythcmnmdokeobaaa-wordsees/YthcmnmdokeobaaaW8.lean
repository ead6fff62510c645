/-
  Layer 5: the document's Sees, and WordSees.
-/
import Derived.Test.YthcmnmdokeobaaaW6
import Derived.Test.YthcmnmdokeobaaaW6b
import Derived.Test.YthcmnmdokeobaaaW6c
import Derived.Test.YthcmnmdokeobaaaW6d
import Derived.Test.YthcmnmdokeobaaaW6e
set_option linter.unusedVariables false
set_option linter.unusedSimpArgs false
namespace Go.Proofs.Ythcmnmdokeobaaa
open Go.RowKit

theorem vd_end {ce Ev : Int} {p : Prop} (he : (ce = 1 ∧ Ev = 2) ∨ (ce = 2 ∧ Ev = 0) ∨ (ce = 3 ∧ Ev = 1 ∧ p)) : (ce = 1 ∧ vd 2 Ev = 2) ∨ (ce = 2 ∧ vd 2 Ev = 1) ∨ (ce = 3 ∧ vd 2 Ev = 3) := by
  rcases he with ⟨h, rfl⟩ | ⟨h, rfl⟩ | ⟨h, rfl, _⟩
  · exact Or.inl ⟨h, by decide⟩
  · exact Or.inr (Or.inl ⟨h, by decide⟩)
  · exact Or.inr (Or.inr ⟨h, by decide⟩)
theorem vd_both {cb ce Bv Ev : Int} {q p : Prop} (hb : (cb = 1 ∧ Bv = 2) ∨ (cb = 2 ∧ Bv = 0) ∨ (cb = 3 ∧ Bv = 1 ∧ q)) (he : (ce = 1 ∧ Ev = 2) ∨ (ce = 2 ∧ Ev = 0) ∨ (ce = 3 ∧ Ev = 1 ∧ p)) :
    (cb = 2 ∧ vd Bv Ev = 2) ∨ (cb = 3 ∧ vd Bv Ev = 3) ∨ (cb = 1 ∧ ((ce = 1 ∧ vd Bv Ev = 2) ∨ (ce = 2 ∧ vd Bv Ev = 1) ∨ (ce = 3 ∧ vd Bv Ev = 3))) := by
  rcases hb with ⟨h, rfl⟩ | ⟨h, rfl⟩ | ⟨h, rfl, _⟩
  · exact Or.inr (Or.inr ⟨h, vd_end he⟩)
  · exact Or.inl ⟨h, by simp [vd]⟩
  · exact Or.inr (Or.inl ⟨h, by simp [vd]⟩)
theorem vd_begin {cb Bv : Int} {q : Prop} (hb : (cb = 1 ∧ Bv = 2) ∨ (cb = 2 ∧ Bv = 0) ∨ (cb = 3 ∧ Bv = 1 ∧ q)) : (cb = 2 ∧ vd Bv 2 = 2) ∨ (cb = 3 ∧ vd Bv 2 = 3) ∨ (cb = 1 ∧ vd Bv 2 = 2) := by
  rcases hb with ⟨h, rfl⟩ | ⟨h, rfl⟩ | ⟨h, rfl, _⟩
  · exact Or.inr (Or.inr ⟨h, by decide⟩)
  · exact Or.inl ⟨h, by decide⟩
  · exact Or.inr (Or.inl ⟨h, by decide⟩)

theorem rsees_any (me a b e sb se : Int) (w : World) (b0 : 0 ≤ b) (b9 : b ≤ 18446744073709551615) (e0 : 0 ≤ e) (e9 : e ≤ 18446744073709551615) (p0 : 0 ≤ sb) (p9 : sb ≤ 18446744073709551615) (q0 : 0 ≤ se) (q9 : se ≤ 18446744073709551615) :
    Calls Try.prog 21 #[.int .i64 me, .int .i64 a, .int .u64 b, .int .u64 e, .int .u64 sb, .int .u64 se] w fun r w' => r = .returned (.tuple #[.int .i64 (seV me a b e sb se), .int .i64 (seE me a b e sb se)]) ∧ w' = w := by
  have no : seO me a b e sb se = false → (Calls Try.prog 21 #[.int .i64 me, .int .i64 a, .int .u64 b, .int .u64 e, .int .u64 sb, .int .u64 se] w fun r w' => r = .returned (.tuple #[.int .i64 0, .int .i64 50]) ∧ w' = w) → (Calls Try.prog 21 #[.int .i64 me, .int .i64 a, .int .u64 b, .int .u64 e, .int .u64 sb, .int .u64 se] w fun r w' => r = .returned (.tuple #[.int .i64 (seV me a b e sb se), .int .i64 (seE me a b e sb se)]) ∧ w' = w) := by
    intro h c
    rw [(se_no h).1, (se_no h).2]
    exact c
  have ok : seO me a b e sb se = true → (Calls Try.prog 21 #[.int .i64 me, .int .i64 a, .int .u64 b, .int .u64 e, .int .u64 sb, .int .u64 se] w fun r w' => r = .returned (.tuple #[.int .i64 (vd (egV me a b sb) (egV me a e se)), .int .i64 0]) ∧ w' = w) → (Calls Try.prog 21 #[.int .i64 me, .int .i64 a, .int .u64 b, .int .u64 e, .int .u64 sb, .int .u64 se] w fun r w' => r = .returned (.tuple #[.int .i64 (seV me a b e sb se), .int .i64 (seE me a b e sb se)]) ∧ w' = w) := by
    intro h c
    rw [show seV me a b e sb se = vd (egV me a b sb) (egV me a e se) by simp [seV, h], show seE me a b e sb se = 0 by simp [seE, h]]
    exact c
  by_cases h : 0 ≤ me ∧ me < 1048576 ∧ 0 ≤ a ∧ a < 1099511627776 ∧ (kd b = 1 ∨ kd b = 3) ∧ kd e ≠ 0
  case neg =>
    refine no ?_ (rsees_no1 me a b e sb se w b0 b9 e0 e9 p0 p9 q0 q9 h)
    rw [Bool.eq_false_iff]
    intro hO
    apply h
    simp only [seO, isR, isT, Bool.and_eq_true, decide_eq_true_eq] at hO
    obtain ⟨⟨⟨⟨⟨r0, r1⟩, t0, t1⟩, k2⟩, ob⟩, oe⟩ := hO
    refine ⟨r0, r1, t0, t1, ?_, ?_⟩
    · rcases kd_cases b with k | k | k | k
      · simp [egO, k] at ob
      · exact Or.inl k
      · exact absurd k k2
      · exact Or.inr k
    · intro k
      simp [egO, k] at oe
  obtain ⟨h1, h2, h3, h4, hb, he⟩ := h
  have hR := isR_of h1 h2
  have hT := isT_of h3 h4
  have O : kd b ≠ 2 → egO me a b sb = true → egO me a e se = true → seO me a b e sb se = true := fun x y z => by simp [seO, hR, hT, x, y, z]
  have N : egO me a e se = false → seO me a b e sb se = false := fun z => by simp [seO, z]
  rcases hb with kb | kb
  · have kb2 : kd b ≠ 2 := by omega
    have og : egO me a b sb = true := by simp [egO, kb]
    have vb := eg_cm (me := me) (a := a) (x := b) (s := sb) (by omega) (by simp [kb]) h4
    rcases kd_cases e with ke | ke | ke | ke
    · exact absurd ke he
    · exact ok (O kb2 og (by simp [egO, ke])) (rsees_tt me a b e sb se w b0 b9 e0 e9 p0 p9 q0 q9 h1 h2 h3 h4 kb ke _ (vd_both vb (eg_cm he (by simp [ke]) h4)))
    · exact ok (O kb2 og (by simp [egO, ke])) (rsees_tn me a b e sb se w b0 b9 e0 e9 p0 p9 q0 q9 h1 h2 h3 h4 kb ke _ (vd_both vb (eg_cm he (by simp [ke]) h4)))
    · by_cases ne : ptN e = me
      · rw [show egV me a e se = 2 by simp [egV, ke, ne]] at ok
        exact ok (O kb2 og (by simp [egO, ke, ne])) (rsees_tm me a b e sb se w b0 b9 e0 e9 p0 p9 q0 q9 h1 h2 h3 h4 kb ke ne _ (vd_begin vb))
      · by_cases oe : unO se = true
        · exact ok (O kb2 og (by simp [egO, ke, ne, oe])) (rsees_to me a b e sb se w b0 b9 e0 e9 p0 p9 q0 q9 h1 h2 h3 h4 kb ke ne oe _ (vd_both vb (eg_cm he (by simp [ke, ne]) h4)))
        · exact no (N (by simp [egO, ke, ne, oe])) (rsees_tx me a b e sb se w b0 b9 e0 e9 p0 p9 q0 q9 h1 h2 h3 h4 kb ke ne (Bool.eq_false_iff.mpr oe))
  · have kb2 : kd b ≠ 2 := by omega
    by_cases nb : ptN b = me
    · have og : egO me a b sb = true := by simp [egO, kb, nb]
      have eb : egV me a b sb = 2 := by simp [egV, kb, nb]
      rcases kd_cases e with ke | ke | ke | ke
      · exact absurd ke he
      · rw [eb] at ok
        exact ok (O kb2 og (by simp [egO, ke])) (rsees_mt me a b e sb se w b0 b9 e0 e9 p0 p9 q0 q9 h1 h2 h3 h4 kb nb ke _ (vd_end (eg_cm he (by simp [ke]) h4)))
      · rw [eb] at ok
        exact ok (O kb2 og (by simp [egO, ke])) (rsees_mn me a b e sb se w b0 b9 e0 e9 p0 p9 q0 q9 h1 h2 h3 h4 kb nb ke _ (vd_end (eg_cm he (by simp [ke]) h4)))
      · by_cases ne : ptN e = me
        · rw [eb] at ok
          rw [show egV me a e se = 2 by simp [egV, ke, ne]] at ok
          rw [show vd 2 2 = 2 by decide] at ok
          exact ok (O kb2 og (by simp [egO, ke, ne])) (rsees_mm me a b e sb se w b0 b9 e0 e9 p0 p9 q0 q9 h1 h2 h3 h4 kb nb ke ne)
        · by_cases oe : unO se = true
          · rw [eb] at ok
            exact ok (O kb2 og (by simp [egO, ke, ne, oe])) (rsees_mo me a b e sb se w b0 b9 e0 e9 p0 p9 q0 q9 h1 h2 h3 h4 kb nb ke ne oe _ (vd_end (eg_cm he (by simp [ke, ne]) h4)))
          · exact no (N (by simp [egO, ke, ne, oe])) (rsees_mx me a b e sb se w b0 b9 e0 e9 p0 p9 q0 q9 h1 h2 h3 h4 kb nb ke ne (Bool.eq_false_iff.mpr oe))
    · by_cases ob : unO sb = true
      · have og : egO me a b sb = true := by simp [egO, kb, nb, ob]
        have vb := eg_cm (me := me) (a := a) (x := b) (s := sb) (by omega) (by simp [nb]) h4
        rcases kd_cases e with ke | ke | ke | ke
        · exact absurd ke he
        · exact ok (O kb2 og (by simp [egO, ke])) (rsees_ot me a b e sb se w b0 b9 e0 e9 p0 p9 q0 q9 h1 h2 h3 h4 kb nb ob ke _ (vd_both vb (eg_cm he (by simp [ke]) h4)))
        · exact ok (O kb2 og (by simp [egO, ke])) (rsees_on me a b e sb se w b0 b9 e0 e9 p0 p9 q0 q9 h1 h2 h3 h4 kb nb ob ke _ (vd_both vb (eg_cm he (by simp [ke]) h4)))
        · by_cases ne : ptN e = me
          · rw [show egV me a e se = 2 by simp [egV, ke, ne]] at ok
            exact ok (O kb2 og (by simp [egO, ke, ne])) (rsees_om me a b e sb se w b0 b9 e0 e9 p0 p9 q0 q9 h1 h2 h3 h4 kb nb ob ke ne _ (vd_begin vb))
          · by_cases oe : unO se = true
            · exact ok (O kb2 og (by simp [egO, ke, ne, oe])) (rsees_oo me a b e sb se w b0 b9 e0 e9 p0 p9 q0 q9 h1 h2 h3 h4 kb nb ob ke ne oe _ (vd_both vb (eg_cm he (by simp [ke, ne]) h4)))
            · exact no (N (by simp [egO, ke, ne, oe])) (rsees_ox me a b e sb se w b0 b9 e0 e9 p0 p9 q0 q9 h1 h2 h3 h4 kb nb ob ke ne (Bool.eq_false_iff.mpr oe))
      · exact no (by simp [seO, egO, kb, nb, ob]) (rsees_no2 me a b e sb se w b0 b9 e0 e9 p0 p9 q0 q9 h1 h2 h3 h4 kb nb (Bool.eq_false_iff.mpr ob) he)

set_option maxRecDepth 100000 in
set_option maxHeartbeats 1600000 in
/-- WordSees' walk. -/
theorem wsees_walk (me a b e sb se : Int) (w : World) (b0 : 0 ≤ b) (b9 : b ≤ 18446744073709551615) (e0 : 0 ≤ e) (e9 : e ≤ 18446744073709551615) (p0 : 0 ≤ sb) (p9 : sb ≤ 18446744073709551615) (q0 : 0 ≤ se) (q9 : se ≤ 18446744073709551615) :
    Calls Try.prog 4 #[.int .i64 me, .int .i64 a, .int .u64 b, .int .u64 e, .int .u64 sb, .int .u64 se] w fun e w' => e = .returned (.bool true) ∧ Below w.heap.size w w' := by
  have cs := shown_any w
  have c1 := sees_any me a b e sb se w b0 e0 p0 p9 q0 q9
  have c2 := rsees_any me a b e sb se w b0 b9 e0 e9 p0 p9 q0 q9
  generalize seV me a b e sb se = V at *
  generalize seE me a b e sb se = E at *
  go_enter Try.func4, Try.ntmps4
  go_wp2_with fail
  refine cs.mono ?_
  rintro e w1 ⟨rfl, rfl⟩
  go_wp2_with fail
  refine c1.mono ?_
  rintro e w1 ⟨rfl, rfl⟩
  go_wp2_with fail
  refine c2.mono ?_
  rintro e w1 ⟨rfl, rfl⟩
  go_wp2
  go_ret
  exact ⟨rfl, Below.refl _ _⟩
end Go.Proofs.Ythcmnmdokeobaaa
