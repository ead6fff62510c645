/-
  Rounds stay as they are; in turns each comes in each window: without memory. Numbers held against one another.
-/
import Derived.Test.YtnpmldlnckbppaaDoorT4
import Derived.Test.YtnpmldlnckbppaaDoorS7
set_option linter.unusedVariables false
set_option linter.unusedSimpArgs false
namespace Go.Proofs.YtnpmldlnckbppaaDoor
open Go.RowKit

theorem turnsF_snoc (n window : Nat) (xs : List Int) (x : Int) : turnsF n window (xs ++ [x]) [] = if x < 0 ∨ (n : Int) ≤ x then turnsF n window xs [] else lateF n (window - n) n (turnsF n window xs []) ++ [x.toNat] := by
  unfold turnsF
  rw [List.foldl_append]
  rfl

/-! ### Rounds -/
def rr (n c : Nat) : List Nat := (List.range c).map (· % n)
theorem rr_snoc (n c : Nat) : rr n (c + 1) = rr n c ++ [c % n] := by simp [rr, List.range_succ]
theorem mod_next (n c : Nat) (hn : 0 < n) : (c + 1) % n = if c % n + 1 = n then 0 else c % n + 1 := by
  have h := Nat.div_add_mod c n
  have hr := Nat.mod_lt c hn
  split
  · rename_i e
    have : c + 1 = n * (c / n + 1) := by rw [Nat.mul_add]; omega
    rw [this, Nat.mul_mod_right]
  · rename_i e
    have : c + 1 = n * (c / n) + (c % n + 1) := by omega
    rw [this, Nat.mul_add_mod, Nat.mod_eq_of_lt (by omega)]
/-- How far each worker's turn is. -/
def Round (n r : Nat) (W : List Nat) : Prop := ∀ k, k < n → W.getD k 0 + (if r ≤ k then k - r else k + n - r) ≤ n - 1
theorem round_rr (n c : Nat) (hn : 0 < n) : Round n (c % n) (Wl n (rr n c)) := by
  induction c with
  | zero =>
    intro k hk
    rw [Nat.zero_mod, if_pos (Nat.zero_le _)]
    have : (Wl n (rr n 0)).getD k 0 = 0 := by simp [rr, Wl, List.getD, List.getElem?_replicate, hk]
    omega
  | succ c ih =>
    intro k hk
    have h1 := ih k hk
    have hr := Nat.mod_lt c hn
    rw [rr_snoc, Wl_snoc_at n _ _ k hk, mod_next n c hn]
    generalize c % n = r at *
    by_cases e : k = r
    · rw [if_pos e]
      by_cases e2 : r + 1 = n
      · rw [if_pos e2, if_pos (Nat.zero_le _)]
        omega
      · rw [if_neg e2, if_neg (by omega)]
        omega
    · rw [if_neg e]
      by_cases e2 : r + 1 = n
      · rw [if_pos e2, if_pos (Nat.zero_le _)]
        rw [if_neg (by omega)] at h1
        omega
      · rw [if_neg e2]
        by_cases e3 : r ≤ k
        · rw [if_pos e3] at h1
          rw [if_pos (by omega)]
          omega
        · rw [if_neg e3] at h1
          rw [if_neg (by omega)]
          omega
theorem kept_rr (n window c : Nat) (hn : 0 < n) (hw : 2 * n ≤ window) : turnsF n window (ints (rr n c)) [] = rr n c := by
  induction c with
  | zero => rfl
  | succ c ih =>
    have hr := Nat.mod_lt c hn
    have e : ints (rr n (c + 1)) = ints (rr n c) ++ [((c % n : Nat) : Int)] := by simp [rr_snoc, ints]
    rw [e, turnsF_snoc, ih, if_neg (by omega), Int.toNat_natCast, rr_snoc]
    have hl : ¬ isLate n (window - n) (rr n c) := by
      unfold isLate
      obtain ⟨t1, -, -⟩ := top_spec (Wl n (rr n c)) (by rw [Wl_len]; exact hn)
      rw [Wl_len] at t1
      have := round_rr n c hn _ t1
      omega
    rw [lateF_stop hl]

/-! ### Fair -/
/-- Every one comes in each window. -/
inductive Fair (n window : Nat) : List Nat → Prop
  | nil : Fair n window []
  | snoc (l : List Nat) (q : Nat) (h : Fair n window l) (hq : q < n) (hw : ∀ k, k < n → k ≠ q → (Wl n l).getD k 0 + 1 < window) : Fair n window (l ++ [q])
/-- What holds between picks: nobody has waited longer than E. -/
def Calm (n E : Nat) (l : List Nat) : Prop := ∀ k, k < n → (Wl n l).getD k 0 ≤ E
/-- Two of them are among those who are not counted. -/
theorem countP_lt2 {n : Nat} {p : Nat → Bool} {q r : Nat} (hq : q < n) (hr : r < n) (hne : q ≠ r) (h1 : p q = false) (h2 : p r = false) : (List.range n).countP p + 2 ≤ n := by
  have := countP_set (p := p) (p' := fun k => if k = q then true else p k) hq h1 (by simp) (fun k _ hk => by simp [hk])
  have h3 := countP_lt_of (p := fun k => if k = q then true else p k) hr (by simp [Ne.symm hne, h2])
  omega
theorem late_fair {n window E : Nat} (hn : 0 < n) (hE : E + n = window) (hE2 : n ≤ E) : ∀ (f s : Nat) (l : List Nat), Sofar n l s → (∀ k, k < n → (Wl n l).getD k 0 ≤ E + s) → f + s = n → Fair n window l → Fair n window (lateF n E f l) ∧ (∀ k, k < n → (Wl n (lateF n E f l)).getD k 0 < E) := by
  intro f
  induction f with
  | zero =>
    intro s l hs hW hf hF
    refine ⟨hF, fun k hk => ?_⟩
    show (Wl n l).getD k 0 < E
    rcases Nat.lt_or_ge ((Wl n l).getD k 0) E with h | h
    · exact h
    · have hp : (fun k => decide ((Wl n l).getD k 0 < s)) k = false := decide_eq_false (by omega)
      have := countP_lt_of (p := fun k => decide ((Wl n l).getD k 0 < s)) hk hp
      unfold Sofar at hs
      omega
  | succ f ih =>
    intro s l hs hW hf hF
    obtain ⟨t1, t2, t3⟩ := top_spec (Wl n l) (by rw [Wl_len]; exact hn)
    rw [Wl_len] at t1 t2
    by_cases hl : isLate n E l
    · obtain ⟨hs1, hs2⟩ := hs.next hn hE2 hl
      rw [lateF_step hl]
      have hlE : E ≤ (Wl n l).getD (top (Wl n l)) 0 := hl
      refine ih (s + 1) _ hs2 (fun k hk => ?_) (by omega) (Fair.snoc l _ hF t1 (fun k hk hne => ?_))
      · rw [Wl_snoc_at n l _ k hk]
        have := hW k hk
        split <;> omega
      · have h1 := hW k hk
        rcases Nat.lt_or_ge ((Wl n l).getD k 0) s with h | h
        · omega
        · have hp1 : (fun k => decide ((Wl n l).getD k 0 < s)) (top (Wl n l)) = false := decide_eq_false (by omega)
          have hp2 : (fun k => decide ((Wl n l).getD k 0 < s)) k = false := decide_eq_false (by omega)
          have := countP_lt2 (p := fun k => decide ((Wl n l).getD k 0 < s)) t1 hk (Ne.symm hne) hp1 hp2
          unfold Sofar at hs
          omega
    · rw [lateF_stop hl]
      refine ⟨hF, fun k hk => ?_⟩
      have := t2 k hk
      unfold isLate at hl
      omega
theorem turns_fair {n window : Nat} (hn : 0 < n) (hw : 2 * n ≤ window) (xs : List Int) : Fair n window (turnsF n window xs []) ∧ Calm n (window - n) (turnsF n window xs []) := by
  induction xs using snoc_ind with
  | h0 =>
    refine ⟨.nil, fun k hk => ?_⟩
    have : (Wl n (turnsF n window [] [])).getD k 0 = 0 := by simp [turnsF, Wl, List.getD, List.getElem?_replicate, hk]
    omega
  | h1 xs x ih =>
    rw [turnsF_snoc]
    split
    · exact ih
    · rename_i hx
      obtain ⟨h1, h2⟩ := ih
      obtain ⟨h3, h4⟩ := late_fair (window := window) (E := window - n) hn (by omega) (by omega) n 0 _ (Sofar.zero n _) (fun k hk => by have := h2 k hk; omega) (by omega) h1
      refine ⟨.snoc _ _ h3 (by omega) (fun k hk hne => by have := h4 k hk; omega), fun k hk => ?_⟩
      rw [Wl_snoc_at n _ _ k hk]
      have := h4 k hk
      split <;> omega


set_option maxRecDepth 100000 in
set_option maxHeartbeats 2000000 in
theorem ints_any (w : World) (ao bo : Option Addr) (al ac bl bc : Nat) (xs ys : List Int) (hx : Ints .i64 w ao al ac xs) (hy : Ints .i64 w bo bl bc ys) :
    Calls Tryd.prog 16 #[.slice ao al ac, .slice bo bl bc] w fun e w' => e = .returned (.bool (decide (xs = ys))) ∧ ∃ q, w' = w.drewN q := by
  have hx1 := hx.1
  have hy1 := hy.1
  have hxc := hx.2.1
  have hxm := hx.2.2.1
  unfold maxLen at hxm
  by_cases hl : al = bl
  · subst hl
    have HX := hide2 hx
    have HY := hide2 hy
    clear hx hy
    go_enter Tryd.func16, Tryd.ntmps16
    go_wp2
    go_loopw [5] (fun i wr => ∃ k : Nat, k ≤ al ∧ i = .int .i64 k ∧ xs.take k = ys.take k ∧ ∃ q, wr = w.drewN q) (fun i _ => al - (intOf i).toNat)
    case atStart => exact ⟨0, by omega, rfl, rfl, 0, rfl⟩
    case round =>
      obtain ⟨k, hk, rfl, he, q, hwr⟩ := hrel
      have HWR := hide2 hwr
      by_cases hkl : k < al
      · obtain ⟨b1, o1, rfl, hb1, hc1⟩ := (show Ints .i64 wr ao al ac xs by rw [hwr]; exact HX.out.drewN q).num (by omega)
        obtain ⟨b2, o2, rfl, hb2, hc2⟩ := (show Ints .i64 wr bo al bc ys by rw [hwr]; exact HY.out.drewN q).num (by omega)
        have q1 := hc1 k hkl
        have q2 := hc2 k hkl
        have ex : xs[k]? = some (xs.getD k 0) := by simp [List.getD, List.getElem?_eq_getElem (show k < xs.length by omega)]
        have ey : ys[k]? = some (ys.getD k 0) := by simp [List.getD, List.getElem?_eq_getElem (show k < ys.length by omega)]
        have ET := hide2 (take_succ_eq ex ey he)
        have hne : xs.getD k 0 ≠ ys.getD k 0 → ¬ xs = ys := fun h e => h (by rw [e])
        have HNE := hide2 hne
        generalize xs.getD k 0 = x at *
        generalize ys.getD k 0 = y at *
        have hkl2 : (k : Int) < (al : Int) := by omega
        clear hc1 hc2 ex ey he hne hwr
        by_cases hxy : x = y
        · have t1 : (x != y) = false := by simp [hxy]
          subst hxy
          go_wp2
          go_quiet (fail)
          go_wp2
          go_roundw
          case rel => exact ⟨k + 1, by omega, by go_num, ET.out.2 (by trivial), _, by rw [HWR.out]; exact drewN_twice _ _ _⟩
          case measure => simp [intOf]; omega
        · have t1 : (x != y) = true := by simp [hxy]
          go_wp2
          go_quiet (fail)
          go_wp2
          go_ret
          exact ⟨ret_bool (by simp [HNE.out hxy]), _, by rw [HWR.out]; exact drewN_twice _ _ _⟩
      · obtain rfl : al = k := by omega
        have e : xs = ys := by
          rw [← hx1, List.take_length, hx1, ← hy1, List.take_length] at he
          exact he
        go_wp2
        go_ret
        exact ⟨ret_bool (by simp [e]), q, rfl⟩
  · have t1 : ((al : Int) != (bl : Int)) = true := by simp; omega
    have t2 : (al != bl) = true := by simp; omega
    clear hx hy
    go_enter Tryd.func16, Tryd.ntmps16
    go_wp2
    go_ret
    have : ¬ xs = ys := fun e => hl (by rw [← hx1, ← hy1, e])
    exact ⟨ret_bool (by simp [this]), 0, rfl⟩

theorem row_ints64 {w : World} {B len : Nat} {v : Value} {xs : List Int} (h : w.ownsRow B 3 1 v len (xs.map (Value.int .i64))) (hl : xs.length = len) : ∃ ao cap, v = .slice ao len cap ∧ Ints .i64 w ao len cap xs := by
  subst hl
  rcases h.2 with ⟨rfl, h0⟩ | ⟨g, cap, cur, rfl, hg, hh, r1, r2, r3, r4⟩
  · refine ⟨none, 0, by rw [h0], rfl, by omega, Nat.zero_le _, fun hp => absurd hp (by omega)⟩
  · refine ⟨_, cap, rfl, rfl, r1, r2, fun hp => ⟨g, 0, rfl, (Array.getElem?_eq_some_iff.1 hh).1, fun i x hi j u hu => ?_⟩⟩
    have hil : i < xs.length := (List.getElem?_eq_some_iff.1 hi).1
    have hown : w.ownsRow B 3 1 (.slice (some ⟨g, 0, none⟩) xs.length cap) xs.length (xs.map (Value.int .i64)) := h
    have := hown.cellAt i (by omega)
    rcases j with _ | j
    · cases hu
      rw [show 0 + i * 1 + 0 = i by omega, this]
      simp [hi]
    · cases hu
end Go.Proofs.YtnpmldlnckbppaaDoor
