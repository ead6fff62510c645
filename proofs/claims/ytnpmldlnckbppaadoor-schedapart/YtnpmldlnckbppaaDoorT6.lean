/-
  SchedKept's walk.
-/
import Derived.Test.YtnpmldlnckbppaaDoorT5
import Derived.Test.YtnpmldlnckbppaaDoorS8
set_option linter.unusedVariables false
set_option linter.unusedSimpArgs false
namespace Go.Proofs.YtnpmldlnckbppaaDoor
open Go.RowKit

theorem rr_at (n i k : Nat) (hk : k < n) : rr n (i * n + (k + 1)) = rr n (i * n + k) ++ [k] := by
  rw [← Nat.add_assoc, rr_snoc, Nat.mul_comm, Nat.mul_add_mod, Nat.mod_eq_of_lt hk]
theorem rr_len (n c : Nat) : (rr n c).length = c := by simp [rr]
theorem ints_len (l : List Nat) : (ints l).length = l.length := by simp [ints]
theorem ints_snoc (l : List Nat) (k : Nat) : (ints (l ++ [k])).map (Value.int .i64) = (ints l).map (Value.int .i64) ++ [.int .i64 (k : Int)] := by simp [ints]

set_option maxRecDepth 100000 in
set_option maxHeartbeats 4000000 in
theorem kept_out (n window rounds : Int) (w : World) (hT : Tab w) (h : n < 1 ∨ 16 < n ∨ rounds < 0 ∨ 50 < rounds) :
    Calls Tryd.prog 8 #[.int .i64 n, .int .i64 window, .int .i64 rounds] w fun e w' => e = .returned (.bool true) ∧ Below w.heap.size w w' := by
  have HN := hide2 (shown_any w hT)
  by_cases h1 : n < 1
  · have t1 : decide (n < 1) = true := by simpa using h1
    clear h
    go_enter Tryd.func8, Tryd.ntmps8
    go_wp2_with fail
    refine HN.out.mono ?_
    rintro e w1 ⟨rfl, hB1⟩
    go_wp2
    go_ret
    exact ⟨rfl, hB1⟩
  · have t1 : decide (n < 1) = false := by simpa using h1
    by_cases h2 : 16 < n
    · have t2 : decide (16 < n) = true := by simpa using h2
      clear h
      go_enter Tryd.func8, Tryd.ntmps8
      go_wp2_with fail
      refine HN.out.mono ?_
      rintro e w1 ⟨rfl, hB1⟩
      go_wp2
      go_ret
      exact ⟨rfl, hB1⟩
    · have t2 : decide (16 < n) = false := by simpa using h2
      by_cases h3 : rounds < 0
      · have t3 : decide (rounds < 0) = true := by simpa using h3
        clear h
        go_enter Tryd.func8, Tryd.ntmps8
        go_wp2_with fail
        refine HN.out.mono ?_
        rintro e w1 ⟨rfl, hB1⟩
        go_wp2
        go_ret
        exact ⟨rfl, hB1⟩
      · have t3 : decide (rounds < 0) = false := by simpa using h3
        have h4 : 50 < rounds := by omega
        have t4 : decide (50 < rounds) = true := by simpa using h4
        clear h
        go_enter Tryd.func8, Tryd.ntmps8
        go_wp2_with fail
        refine HN.out.mono ?_
        rintro e w1 ⟨rfl, hB1⟩
        go_wp2
        go_ret
        exact ⟨rfl, hB1⟩

set_option maxRecDepth 100000 in
set_option maxHeartbeats 8000000 in
theorem kept_in (n R : Nat) (window : Int) (w : World) (hT : Tab w) (h1 : 1 ≤ n) (h2 : n ≤ 16) (h3 : R ≤ 50) (hwi : I64 window) :
    Calls Tryd.prog 8 #[.int .i64 (n : Int), .int .i64 window, .int .i64 (R : Int)] w fun e w' => e = .returned (.bool true) ∧ Below w.heap.size w w' := by
  obtain ⟨i0, hi0, z0, z1, z2⟩ := info_parts infoI2
  have HN := hide2 (shown_any w hT)
  have t1 : decide ((n : Int) < 1) = false := by simp; omega
  have t2 : decide (16 < (n : Int)) = false := by simp; omega
  have t3 : decide ((R : Int) < 0) = false := by simp
  have t4 : decide (50 < (R : Int)) = false := by simp; omega
  go_enter Tryd.func8, Tryd.ntmps8
  go_wp2_with fail
  refine HN.out.mono ?_
  rintro e w1 ⟨rfl, hB1⟩
  clear HN
  go_wp2
  go_loopw [8, 9] (fun v i wr => ∃ k : Nat, k ≤ R ∧ i = .int .i64 k ∧ wr.ownsRow w.heap.size 3 1 v (k * n) ((ints (rr n (k * n))).map (Value.int .i64)) ∧ Below w.heap.size w wr) (fun _ i _ => R - (intOf i).toNat)
  case atStart =>
    refine ⟨0, by omega, rfl, ?_, hB1⟩
    rw [Nat.zero_mul]
    exact ⟨rfl, .inl ⟨rfl, rfl⟩⟩
  case round =>
    clear hB1
    obtain ⟨k, hk, rfl, hrow, hB⟩ := hrel
    by_cases hkl : k < R
    · have hkl2 : (k : Int) < (R : Int) := by omega
      obtain ⟨wx, hwx⟩ : ∃ x, x = wr := ⟨_, rfl⟩
      subst hwx
      have hkn : k * n ≤ 50 * 16 := Nat.mul_le_mul (by omega) h2
      have HR := hide2 hrow
      have HB := hide2 hB
      clear hrow hB
      go_wp2
      go_loopw [8, 10] (fun v i wr => ∃ j : Nat, j ≤ n ∧ i = .int .i64 j ∧ wr.ownsRow w.heap.size 3 1 v (k * n + j) ((ints (rr n (k * n + j))).map (Value.int .i64)) ∧ Below w.heap.size w wr) (fun _ i _ => n - (intOf i).toNat)
      case atStart => exact ⟨0, by omega, rfl, HR.out, HB.out⟩
      case round =>
        clear HR HB
        obtain ⟨j, hj, rfl, hrow, hB⟩ := hrel
        by_cases hjn : j < n
        · have hj2 : (j : Int) < (n : Int) := by omega
          have E1 := hide2 (rr_at n k j hjn)
          have hsz := hB.size
          have HR := hide2 hrow
          have HB := hide2 hB
          have hform : ∃ ao cap, u8 = .slice ao (k * n + j) cap := by
            rcases Go.Joins.ownsRow_forms hrow with ⟨e, h0⟩ | ⟨g, cap, e⟩
            · exact ⟨none, 0, by rw [e, h0]⟩
            · exact ⟨_, cap, e⟩
          obtain ⟨ao, cap, rfl⟩ := hform
          clear hrow hB
          have HNEW := hide2 (cell_one_new wr (.int .i64 (j : Int)) 3)
          go_wp2_with (at_builtin; refine Hid.out ?_)
          refine hide2 ?_
          refine wpList_append_own_at _ rfl _ _ 23 rfl w.heap.size 3 i0 (.int .i64 0) 1 8 Tryd.underlying23 hi0 z0 z1 z2 rfl (by decide) (.slice ao (k * n + j) cap) _ _ rfl (HR.out.alloc _) ⟨wr.heap.size, 0, none⟩ 1 1 [.int .i64 (j : Int)] rfl rfl HNEW.out (by simp [Value.oneCell']) (by unfold maxLen; omega) (by omega) (by simp; omega) ?_
          intro v' w4 hown4 hgrow4 _ hb4
          obtain ⟨gt, capt, ev⟩ := row_succ hown4
          have hB4 : Below w.heap.size w w4 := (HB.out.alloc HB.out.size (.cells #[.int .i64 (j : Int)] 3)).trans ((Fr.grown (F := fun j => w.heap.size ≤ j) hgrow4 (fun j e => (HR.out.lt j e).1)).to (fun j hj => by omega) (by simp; omega))
          have hrow4 : w4.ownsRow w.heap.size 3 1 v' (k * n + (j + 1)) ((ints (rr n (k * n + (j + 1)))).map (Value.int .i64)) := by
            rw [E1.out, ints_snoc]
            exact hown4
          have HX := hide2 (And.intro hrow4 hB4)
          clear hrow4 hB4 hown4 hgrow4 hb4 HNEW HR HB
          subst ev
          go_frame
          go_wp2
          go_roundw
          case rel => exact ⟨j + 1, by omega, by go_num, HX.out⟩
          case measure => simp [intOf]; omega
        · obtain rfl : n = j := by omega
          have e : k * n + n = (k + 1) * n := by rw [Nat.add_mul, Nat.one_mul]
          rw [e] at hrow
          go_wp2
          go_roundw
          case rel => exact ⟨k + 1, by omega, by go_num, hrow, hB⟩
          case measure => simp [intOf]; omega
    · obtain rfl : R = k := by omega
      have hkn : R * n ≤ 50 * 16 := Nat.mul_le_mul (by omega) h2
      obtain ⟨ao, cap, rfl, hs⟩ := row_ints64 (xs := ints (rr n (R * n))) hrow (by rw [ints_len, rr_len])
      have hsz := hB.size
      have u1 : IntKind.i64.wrap (2 * (n : Int)) = 2 * (n : Int) := by rw [IntKind.wrap_i64]; omega
      have HB := hide2 hB
      have HS := hide2 hs
      clear hrow hB hs
      by_cases hbad : window < 2 * (n : Int) ∨ 1000 < window
      · have HW := hide2 (Turns_wrong wr n window ao (R * n) cap (decide_eq_false (by omega)))
        go_wp2_with fail
        refine HW.out.mono ?_
        rintro e w2 ⟨rfl, rfl⟩
        clear HW
        by_cases hb1 : window < 2 * (n : Int)
        · have t5 : decide (window < 2 * (n : Int)) = true := by simpa using hb1
          clear hbad
          go_wp2
          go_ret
          exact ⟨rfl, HB.out⟩
        · have t5 : decide (window < 2 * (n : Int)) = false := by simpa using hb1
          have hb2 : 1000 < window := by omega
          have t6 : decide (1000 < window) = true := by simpa using hb2
          clear hbad
          go_wp2
          go_ret
          exact ⟨rfl, HB.out⟩
      · obtain ⟨m, rfl⟩ : ∃ m : Nat, window = m := ⟨window.toNat, by omega⟩
        have hm : mayT n m ((R * n : Nat) : Int) = true := decide_eq_true (by omega)
        have HW := hide2 (Turns_right wr n m ao (R * n) cap _ HS.out hm)
        rw [kept_rr n m (R * n) (by omega) (by omega)] at HW
        have t5 : decide ((m : Int) < 2 * (n : Int)) = false := by simp; omega
        have t6 : decide (1000 < (m : Int)) = false := by simp; omega
        clear hbad
        go_wp2_with fail
        refine HW.out.mono ?_
        rintro e w2 ⟨lv, rfl, hrow2, hB2, -⟩
        clear HW
        obtain ⟨ao2, cap2, rfl, hs2⟩ := row_ints64 (xs := ints (rr n (R * n))) hrow2 (by rw [ints_len])
        have HI := hide2 (ints_any w2 ao2 ao _ _ _ _ _ _ hs2 (HS.out.keep hB2))
        rw [decide_eq_true rfl] at HI
        have hBB : Below w.heap.size w w2 := HB.out.trans (hB2.mono hsz)
        have HX := hide2 hBB
        clear hBB hrow2 hB2 hs2
        go_wp2_with fail
        refine HI.out.mono ?_
        rintro e w3 ⟨rfl, q, rfl⟩
        clear HI
        go_wp2
        go_ret
        exact ⟨rfl, HX.out.trans (below_drewN _ _ _)⟩

theorem kept_walk (n window rounds : Int) (w : World) (hT : Tab w) (hwi : I64 window) :
    Calls Tryd.prog 8 #[.int .i64 n, .int .i64 window, .int .i64 rounds] w fun e w' => e = .returned (.bool true) ∧ Below w.heap.size w w' := by
  by_cases h : n < 1 ∨ 16 < n ∨ rounds < 0 ∨ 50 < rounds
  · exact kept_out n window rounds w hT h
  · obtain ⟨m, rfl⟩ : ∃ m : Nat, n = m := ⟨n.toNat, by omega⟩
    obtain ⟨R, rfl⟩ : ∃ R : Nat, rounds = R := ⟨rounds.toNat, by omega⟩
    exact kept_in m R window w hT (by omega) (by omega) (by omega) hwi
end Go.Proofs.YtnpmldlnckbppaaDoor
