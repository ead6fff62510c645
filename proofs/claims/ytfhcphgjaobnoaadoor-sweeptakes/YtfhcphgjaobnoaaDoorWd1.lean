/-
  Layer 5: what words say (the plain numbers), and what the small functions of package word do.
-/
import Derived.Test.YtfhcphgjaobnoaaDoorRows
import Derived.Handy
set_option linter.unusedVariables false
set_option linter.unusedSimpArgs false
namespace Go.Proofs.YtfhcphgjaobnoaaDoor
open Go.RowKit

/-- The kind of a word: a time, Never, an owner, or none. -/
def kd (w : Int) : Int := if w < 1099511627776 then 1 else if w = 1099511627776 then 2 else if 9223372036854775808 < w ∧ w < 9223372036855824384 then 3 else 0
def isT (t : Int) : Bool := decide (0 ≤ t ∧ t < 1099511627776)
def isR (n : Int) : Bool := decide (0 ≤ n ∧ n < 1048576)
/-- Which states there are, with which times. -/
def hs (s t : Int) : Bool := decide ((s = 0 ∨ s = 3) ∧ t = 0 ∨ (s = 1 ∨ s = 2) ∧ 0 ≤ t ∧ t < 1099511627776)
def tmV (t : Int) : Int := if isT t = true then t else 0
def tmE (t : Int) : Int := if isT t = true then 0 else 50
def owV (n : Int) : Int := if 1 ≤ n ∧ n < 1048576 then 9223372036854775808 + n else 0
def owE (n : Int) : Int := if 1 ≤ n ∧ n < 1048576 then 0 else 50
def ptT (w : Int) : Int := if kd w = 1 ∨ kd w = 2 then w else 0
def ptN (w : Int) : Int := if kd w = 3 then w - 9223372036854775808 else 0
def ptO (w : Int) : Bool := decide (kd w ≠ 0)
def stV (s t : Int) : Int := if hs s t = true then s * 4611686018427387904 + t else 0
def stE (s t : Int) : Int := if hs s t = true then 0 else 50
def unO (w : Int) : Bool := hs (w / 4611686018427387904) (w % 4611686018427387904)
def unS (w : Int) : Int := if unO w = true then w / 4611686018427387904 else 0
def unT (w : Int) : Int := if unO w = true then w % 4611686018427387904 else 0
def byT (t a : Int) : Int := if t > a then 0 else 2
def byV (w a : Int) : Int := if unO w = true then (if unS w = 1 then (if unT w ≤ a then 1 else 0) else if unS w = 2 then byT (unT w) a else 0) else 0
def egV (me a w s : Int) : Int := if kd w = 0 then 0 else if kd w = 3 then (if ptN w = me then 2 else byV s a) else byT w a
def egO (me a w s : Int) : Bool := if kd w = 0 then false else if kd w = 3 then (if ptN w = me then true else unO s) else true
def vd (b e : Int) : Int := if b = 0 then 2 else if b = 1 then 3 else if e = 0 then 1 else if e = 1 then 3 else 2
def seO (me a b e sb se : Int) : Bool := isR me && isT a && decide (kd b ≠ 2) && egO me a b sb && egO me a e se
def seV (me a b e sb se : Int) : Int := if seO me a b e sb se = true then vd (egV me a b sb) (egV me a e se) else 0
def seE (me a b e sb se : Int) : Int := if seO me a b e sb se = true then 0 else 50

theorem wret_bool {a b : Bool} (h : a = b) : Ending.returned (.bool a) = .returned (.bool b) := by rw [h]

theorem kd_cases (w : Int) : kd w = 0 ∨ kd w = 1 ∨ kd w = 2 ∨ kd w = 3 := by
  unfold kd
  split
  · omega
  · split
    · omega
    · split <;> omega

theorem isTime_any (t : Int) (w : World) : Calls Tryd.prog 74 #[.int .i64 t] w fun e w' => e = .returned (.bool (isT t)) ∧ w' = w := by
  unfold isT
  by_cases h0 : 0 ≤ t
  · by_cases h1 : t < 1099511627776
    · go_enter Tryd.func74, Tryd.ntmps74
      go_wp2
      go_ret
      exact ⟨by simp [h0, h1], rfl⟩
    · go_enter Tryd.func74, Tryd.ntmps74
      go_wp2
      go_ret
      exact ⟨by simp [h0, h1], rfl⟩
  · go_enter Tryd.func74, Tryd.ntmps74
    go_wp2
    go_ret
    exact ⟨by simp; omega, rfl⟩

theorem isReader_any (t : Int) (w : World) : Calls Tryd.prog 73 #[.int .i64 t] w fun e w' => e = .returned (.bool (isR t)) ∧ w' = w := by
  unfold isR
  by_cases h0 : 0 ≤ t
  · by_cases h1 : t < 1048576
    · go_enter Tryd.func73, Tryd.ntmps73
      go_wp2
      go_ret
      exact ⟨by simp [h0, h1], rfl⟩
    · go_enter Tryd.func73, Tryd.ntmps73
      go_wp2
      go_ret
      exact ⟨by simp [h0, h1], rfl⟩
  · go_enter Tryd.func73, Tryd.ntmps73
    go_wp2
    go_ret
    exact ⟨by simp; omega, rfl⟩

theorem kindOf_any (n : Int) (w : World) : Calls Tryd.prog 75 #[.int .u64 n] w fun e w' => e = .returned (.int .i64 (kd n)) ∧ w' = w := by
  by_cases h1 : n < 1099511627776
  · have hk : kd n = 1 := by simp [kd, h1]
    rw [hk]
    go_enter Tryd.func75, Tryd.ntmps75
    go_wp2
    go_ret
    exact ⟨rfl, rfl⟩
  by_cases h2 : n = 1099511627776
  · subst h2
    go_enter Tryd.func75, Tryd.ntmps75
    go_wp2
    go_ret
    exact ⟨rfl, rfl⟩
  by_cases h3 : 9223372036854775808 < n
  · by_cases h4 : n < 9223372036855824384
    · have hk : kd n = 3 := by simp [kd, h1, h2, h3, h4]
      rw [hk]
      go_enter Tryd.func75, Tryd.ntmps75
      go_wp2
      go_ret
      exact ⟨rfl, rfl⟩
    · have hk : kd n = 0 := by simp [kd, h1, h2, h3, h4]
      rw [hk]
      go_enter Tryd.func75, Tryd.ntmps75
      go_wp2
      go_ret
      exact ⟨rfl, rfl⟩
  · have hk : kd n = 0 := by simp [kd, h1, h2, h3]
    rw [hk]
    go_enter Tryd.func75, Tryd.ntmps75
    go_wp2
    go_ret
    exact ⟨rfl, rfl⟩

theorem byTime_any (t a : Int) (w : World) : Calls Tryd.prog 93 #[.int .i64 t, .int .i64 a] w fun e w' => e = .returned (.int .i64 (byT t a)) ∧ w' = w := by
  by_cases h1 : t > a
  · have hk : byT t a = 0 := by simp [byT, h1]
    rw [hk]
    go_enter Tryd.func93, Tryd.ntmps93
    go_wp2
    go_ret
    exact ⟨rfl, rfl⟩
  · have hk : byT t a = 2 := by simp [byT, h1]
    rw [hk]
    go_enter Tryd.func93, Tryd.ntmps93
    go_wp2
    go_ret
    exact ⟨rfl, rfl⟩

theorem verdict_any (b e : Int) (w : World) : Calls Tryd.prog 77 #[.int .i64 b, .int .i64 e] w fun r w' => r = .returned (.int .i64 (vd b e)) ∧ w' = w := by
  by_cases h1 : b = 0
  · have hk : vd b e = 2 := by simp [vd, h1]
    rw [hk]
    go_enter Tryd.func77, Tryd.ntmps77
    go_wp2
    go_ret
    exact ⟨rfl, rfl⟩
  by_cases h2 : b = 1
  · have hk : vd b e = 3 := by simp [vd, h1, h2]
    rw [hk]
    go_enter Tryd.func77, Tryd.ntmps77
    go_wp2
    go_ret
    exact ⟨rfl, rfl⟩
  by_cases h3 : e = 0
  · have hk : vd b e = 1 := by simp [vd, h1, h2, h3]
    rw [hk]
    go_enter Tryd.func77, Tryd.ntmps77
    go_wp2
    go_ret
    exact ⟨rfl, rfl⟩
  by_cases h4 : e = 1
  · have hk : vd b e = 3 := by simp [vd, h1, h2, h3, h4]
    rw [hk]
    go_enter Tryd.func77, Tryd.ntmps77
    go_wp2
    go_ret
    exact ⟨rfl, rfl⟩
  · have hk : vd b e = 2 := by simp [vd, h1, h2, h3, h4]
    rw [hk]
    go_enter Tryd.func77, Tryd.ntmps77
    go_wp2
    go_ret
    exact ⟨rfl, rfl⟩

theorem hasState_any (s t : Int) (w : World) : Calls Tryd.prog 103 #[.int .i64 s, .int .i64 t] w fun r w' => r = .returned (.bool (hs s t)) ∧ w' = w := by
  by_cases h0 : s = 0
  · have hk : hs s t = decide (t = 0) := by simp [hs, h0]
    rw [hk]
    go_enter Tryd.func103, Tryd.ntmps103
    go_wp2
    go_ret
    exact ⟨wret_bool (by rw [Bool.eq_iff_iff]; simp), rfl⟩
  by_cases h3 : s = 3
  · have hk : hs s t = decide (t = 0) := by simp [hs, h3]
    rw [hk]
    go_enter Tryd.func103, Tryd.ntmps103
    go_wp2
    go_ret
    exact ⟨wret_bool (by rw [Bool.eq_iff_iff]; simp), rfl⟩
  by_cases h1 : s = 1
  · have hk : hs s t = isT t := by simp [hs, isT, h1]
    rw [hk]
    go_enter Tryd.func103, Tryd.ntmps103
    go_wp2_with fail
    refine (isTime_any t _).mono ?_
    rintro e w1 ⟨rfl, rfl⟩
    go_wp2
    go_ret
    exact ⟨rfl, rfl⟩
  by_cases h2 : s = 2
  · have hk : hs s t = isT t := by simp [hs, isT, h2]
    rw [hk]
    go_enter Tryd.func103, Tryd.ntmps103
    go_wp2_with fail
    refine (isTime_any t _).mono ?_
    rintro e w1 ⟨rfl, rfl⟩
    go_wp2
    go_ret
    exact ⟨rfl, rfl⟩
  · have hk : hs s t = false := by simp [hs, h0, h1, h2, h3]
    rw [hk]
    go_enter Tryd.func103, Tryd.ntmps103
    go_wp2
    go_ret
    exact ⟨rfl, rfl⟩
end Go.Proofs.YtfhcphgjaobnoaaDoor
