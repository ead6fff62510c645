/-
  The program's small functions: zeros, taskOf, picked, answersOf, numbers; a step of one who has nothing to do.
-/
import Derived.Test.YtnpmldlnckbppaaDoorS1
set_option linter.unusedVariables false
set_option linter.unusedSimpArgs false
namespace Go.Proofs.YtnpmldlnckbppaaDoor
open Go.RowKit

/-- So many cells are taken, the rest is free. -/
def firstT (n k : Nat) : List Bool := List.replicate k true ++ List.replicate (n - k) false
theorem firstT_len (n k : Nat) (h : k ≤ n) : (firstT n k).length = n := by simp [firstT]; omega
theorem firstT_at (n k : Nat) (h : k < n) : (firstT n k).getD k true = false := by
  have : 0 < n - k := by omega
  simp [firstT, List.getD, List.getElem?_append, List.getElem?_replicate, this]
theorem firstT_low (n k j : Nat) (h : j < k) : (firstT n k).getD j true = true := by
  simp [firstT, List.getD, List.getElem?_append, List.getElem?_replicate, h]
theorem firstT_set (n k : Nat) (h : k < n) : (firstT n k).set k true = firstT n (k + 1) := by
  apply List.ext_getElem?
  intro i
  simp only [firstT, List.getElem?_set, List.getElem?_append, List.getElem?_replicate, List.length_append, List.length_replicate]
  by_cases h1 : k = i
  · subst h1
    have a1 : k < k + (n - k) := by omega
    simp [a1]
  · by_cases h2 : i < k
    · have : i < k + 1 := by omega
      simp [h1, h2, this]
    · have h3 : ¬ i < k + 1 := by omega
      simp only [if_neg h1, if_neg h2, if_neg h3]
      by_cases h4 : i - k < n - k
      · have : i - (k + 1) < n - (k + 1) := by omega
        simp [h4, this]
      · have : ¬ i - (k + 1) < n - (k + 1) := by omega
        simp [h4, this]
theorem rep_set (n k : Nat) : (List.replicate n (0 : Int)).set k 0 = List.replicate n 0 := by
  apply List.ext_getElem?
  intro i
  simp only [List.getElem?_set, List.getElem?_replicate, List.length_replicate]
  by_cases h1 : k = i
  · subst h1
    split <;> simp_all
  · simp [h1]

set_option maxRecDepth 100000 in
set_option maxHeartbeats 2000000 in
/-- zeros: an arena all of whose cells are taken. -/
theorem zeros_any (n : Nat) (w : World) (hT : Tab w) (h1 : 1 ≤ n) (h2 : n ≤ 65536) :
    Calls Tryd.prog 19 #[.int .i64 (n : Int)] w fun e w' => e = .returned (.pointer (some ⟨w.heap.size + 1, 0, none⟩)) ∧ (∃ F, Aw w' (w.heap.size + 1) w.heap.size (List.replicate n true) (List.replicate n 0) 0 F) ∧ Below w.heap.size w w' := by
  have h0 := hT.1
  have HN := hide2 (New_any n w h1 h2)
  go_enter Tryd.func19, Tryd.ntmps19
  go_wp2_with fail
  refine HN.out.mono ?_
  rintro e w1 ⟨rfl, ⟨F, hA⟩, hB⟩
  clear HN
  have e0 : List.replicate n false = firstT n 0 := by simp [firstT]
  rw [e0] at hA
  generalize hd : w.heap.size + 1 = d at hA ⊢
  generalize hg : w.heap.size = g at hA ⊢
  have hB1 : Below g w w1 := by rw [← hg]; exact hB
  have hd0 : d ≠ 0 := by omega
  have hg0 : g ≠ 0 := by omega
  have hgd : g ≤ d := by omega
  have hgw : g ≤ w1.heap.size := by have := hB.size; omega
  have HD := hide2 hd
  have HG := hide2 hg
  clear hd hg hB
  go_wp2
  go_loopw [11] (fun i wr => ∃ k : Nat, k ≤ n ∧ i = .int .i64 k ∧ (∃ F, Aw wr d g (firstT n k) (List.replicate n 0) 0 F) ∧ Below g w wr) (fun i _ => n - (intOf i).toNat)
  case atStart => exact ⟨0, by omega, rfl, ⟨F, hA⟩, hB1⟩
  case round =>
    obtain ⟨k, hk, rfl, ⟨F2, hA2⟩, hB2⟩ := hrel
    by_cases hkn : k < n
    · have hT2 : Tab wr := hT.below hB2 (by omega)
      have HA := hide2 (Alloc_one hA2 hT2 k (firstT_at n k hkn) (fun j hj => firstT_low n k j hj) hd0 hg0)
      rw [firstT_set n k hkn, rep_set] at HA
      go_wp2_with fail
      refine HA.out.mono ?_
      rintro e w3 ⟨rfl, hA3, hF3⟩
      have hsz := hB2.size
      have hB3 : Below g w w3 := hB2.trans (hF3.own hgd (Nat.le_refl _) (by have := hA2.nb.lt; omega))
      clear HA
      go_wp2
      go_roundw
      case rel => exact ⟨k + 1, by omega, by go_num, ⟨_, hA3⟩, hB3⟩
      case measure => simp [intOf]; omega
    · obtain rfl : k = n := by omega
      have e1 : firstT k k = List.replicate k true := by simp [firstT]
      rw [e1] at hA2
      go_wp2
      go_ret
      have hd := HD.out
      have hg := HG.out
      subst hg
      subst hd
      exact ⟨rfl, ⟨F2, hA2⟩, hB2⟩

/-- A task: of a program with operations a pointer to it. -/
def taskV (len b : Nat) : Value := if len = 0 then .iface 73 (.agg #[]) else .iface 74 (.pointer (some ⟨b, 0, none⟩))

set_option maxRecDepth 100000 in
set_option maxHeartbeats 1000000 in
theorem taskOf_any (w : World) (d : Nat) (ao : Option Addr) (len cap : Nat) :
    Calls Tryd.prog 20 #[.pointer (some ⟨d, 0, none⟩), .slice ao len cap] w fun e w' => e = .returned (taskV len w.heap.size) ∧ w' = (if len = 0 then w else w.alloc (.cells #[.pointer (some ⟨d, 0, none⟩), .slice ao len cap, .slice none 0 0] 76)) := by
  by_cases h0 : len = 0
  · subst h0
    go_enter Tryd.func20, Tryd.ntmps20
    go_wp2
    go_ret
    exact ⟨rfl, rfl⟩
  · have t0 : ((len : Int) == 0) = false := by simpa using h0
    have t1 : (len == 0) = false := by simpa using h0
    simp only [taskV, if_neg h0]
    go_enter Tryd.func20, Tryd.ntmps20
    go_wp2
    go_ret
    exact ⟨rfl, rfl⟩

set_option maxRecDepth 100000 in
set_option maxHeartbeats 1000000 in
theorem picked_out (w : World) (ao : Option Addr) (len cap : Nat) (p : Int) (h : p < 0 ∨ (len : Int) ≤ p) :
    Calls Tryd.prog 21 #[.slice ao len cap, .int .i64 p] w fun e w' => e = .returned (.iface 73 (.agg #[])) ∧ w' = w := by
  by_cases h1 : p < 0
  · have t1 : decide (p < 0) = true := by simpa using h1
    clear h
    go_enter Tryd.func21, Tryd.ntmps21
    go_wp2
    go_ret
    exact ⟨rfl, rfl⟩
  · have h2 : (len : Int) ≤ p := by omega
    have t1 : decide (p < 0) = false := by simpa using h1
    have t2 : decide ((len : Int) ≤ p) = true := by simpa using h2
    clear h
    go_enter Tryd.func21, Tryd.ntmps21
    go_wp2
    go_ret
    exact ⟨rfl, rfl⟩

set_option maxRecDepth 100000 in
set_option maxHeartbeats 1000000 in
theorem picked_in (w : World) (b len cap p : Nat) (v : Value) (h : p < len) (hv : w.cell? ⟨b, p, none⟩ = some v) :
    Calls Tryd.prog 21 #[.slice (some ⟨b, 0, none⟩) len cap, .int .i64 (p : Int)] w fun e w' => e = .returned v ∧ w' = w := by
  have t2 : decide ((len : Int) ≤ (p : Int)) = false := by simp; omega
  have t3 : decide (len ≤ p) = false := by simp; omega
  have h2 : (p : Int) < (len : Int) := by omega
  go_enter Tryd.func21, Tryd.ntmps21
  go_wp2
  go_ret
  exact ⟨rfl, rfl⟩

set_option maxRecDepth 100000 in
set_option maxHeartbeats 1000000 in
theorem idle_any (w : World) :
    Calls Tryd.prog 70 #[.agg #[]] w fun e w' => e = .returned (.bool false) ∧ Below w.heap.size w w' := by
  go_enter Tryd.func70, Tryd.ntmps70
  go_wp2
  go_ret
  exact ⟨rfl, (Below.refl _ w).alloc (Nat.le_refl _) _⟩

theorem assert_idle : ∀ w : World, (Instr.typeAssert (.iface 73 (.agg #[])) 50 74 true).run Tryd.prog w = .ok (.tuple #[.pointer none, .bool false]) w := fun _ => by kernel_rfl
theorem assert_prog : ∀ (v : Value) (w : World), (Instr.typeAssert (.iface 74 v) 50 74 true).run Tryd.prog w = .ok (.tuple #[v, .bool true]) w := fun _ _ => by kernel_rfl

set_option maxRecDepth 100000 in
set_option maxHeartbeats 1000000 in
theorem answersOf_idle (w : World) :
    Calls Tryd.prog 22 #[.iface 73 (.agg #[])] w fun e w' => e = .returned (.slice none 0 0) ∧ w' = w := by
  have ha := assert_idle
  have hb := assert_prog
  go_enter Tryd.func22, Tryd.ntmps22
  go_wp2
  go_ret
  exact ⟨rfl, rfl⟩

set_option maxRecDepth 100000 in
set_option maxHeartbeats 1000000 in
theorem answersOf_prog (w : World) (b : Nat) (v : Value) (hv : w.cell? ⟨b, 2, none⟩ = some v) :
    Calls Tryd.prog 22 #[.iface 74 (.pointer (some ⟨b, 0, none⟩))] w fun e w' => e = .returned v ∧ w' = w := by
  have ha := assert_idle
  have hb := assert_prog
  go_enter Tryd.func22, Tryd.ntmps22
  go_wp2
  go_ret
  exact ⟨rfl, rfl⟩

set_option maxRecDepth 100000 in
set_option maxHeartbeats 2000000 in
/-- numbers: what the cells have. -/
theorem numbers_any (w : World) (d g n : Nat) (N : List Int) (m : Int) (F : List Nat) (hA : Aw w d g (List.replicate n true) N m F) (hm : 0 ≤ m ∧ m < 2305843009213693952) :
    Calls Tryd.prog 23 #[.pointer (some ⟨d, 0, none⟩), .int .i64 (n : Int)] w fun e w' => (∃ b, w.heap.size ≤ b ∧ e = .returned (.slice (some ⟨b, 0, none⟩) n n) ∧ Nb w' b N) ∧ Fr (fun j => j = d ∨ j = g) w w' := by
  have hn1 := hA.one
  have hlen : n = N.length := by have := hA.len; simpa using this
  rw [← hlen] at hn1
  have HLEN := hide2 hlen
  obtain ⟨i0, hi, hz0, hz1, hz2⟩ := info_parts infoU
  have hmk : ∀ u : World, (Instr.makeSlice 26 (.int .i64 (n : Int)) (.int .i64 (n : Int))).run Tryd.prog u = .ok (.slice (some ⟨u.heap.size, 0, none⟩) n n) (u.alloc (.cells (madeCells #[.int .u64 0] n) 32)) := by
    intro u
    have := run_make (P := Tryd.prog) u 26 32 i0 (.int .u64 0) Tryd.underlying26 hi hz0 .i64 .i64 n n (by omega) (by omega) (by rw [hz2]; omega) (by omega)
    rw [this, hz1]
    simp only [Nat.mul_one, Int.toNat_natCast, Value.cells]
  have hNb0 : Nb (w.alloc (.cells (madeCells #[.int .u64 0] n) 32)) w.heap.size (List.replicate n 0) := by
    unfold Nb
    rw [heap_alloc_new, made_rep]
  have hA0 : Aw (w.alloc (.cells (madeCells #[.int .u64 0] n) 32)) d g (List.replicate n true) N m F := hA.same (blk_alloc _ _ _ hA.ab.lt) (blk_alloc _ _ _ hA.nb.lt)
  have hF0 : Fr (fun j => j = d ∨ j = g) w (w.alloc (.cells (madeCells #[.int .u64 0] n) 32)) := (Fr.refl _ w).alloc _
  have hdl := hA.ab.lt
  have hgl := hA.nb.lt
  generalize madeCells #[.int .u64 0] n = Y at *
  clear hA hlen
  go_enter Tryd.func23, Tryd.ntmps23
  go_wp2
  go_loopw [11] (fun i wr => ∃ k : Nat, k ≤ n ∧ i = .int .i64 k ∧ (∃ m F, Aw wr d g (List.replicate n true) N m F ∧ 0 ≤ m ∧ m < 2305843009213693952 + (k : Int)) ∧ Nb wr w.heap.size (N.take k ++ List.replicate (n - k) 0) ∧ Fr (fun j => j = d ∨ j = g) w wr) (fun i _ => n - (intOf i).toNat)
  case atStart => exact ⟨0, by omega, rfl, ⟨m, F, hA0, hm.1, by omega⟩, by simpa using hNb0, hF0⟩
  case round =>
    obtain ⟨k, hk, rfl, ⟨m2, F2, hA2, hm0, hm1⟩, hNb, hF⟩ := hrel
    by_cases hkn : k < n
    · have HL := hide2 (Load_any hA2 k ⟨hm0, by omega⟩)
      have htk : tk (List.replicate n true) (k : Int) = true := by simp [tk, List.getElem?_replicate, hkn]
      have hlen := HLEN.out
      have hlk : (N.take k ++ List.replicate (n - k) 0).length = n := by simp; omega
      have hkN : k < N.length := by omega
      clear hlen
      have hkn2 : (k : Int) < (n : Int) := by omega
      go_wp2_with fail
      refine HL.out.mono ?_
      rintro e w3 ⟨v, x, rfl, hD⟩
      obtain ⟨rfl, rfl, hA3⟩ := hD.yes htk
      have hbl := hNb.lt
      have hNb3 : Nb w3 w.heap.size (N.take k ++ List.replicate (n - k) 0) := hNb.same (hD.fr.block _ hbl (by omega))
      have hA4 : Aw w3 d g (List.replicate n true) N (m2 + 1) F2 := by
        have e1 : N.set (Int.toNat (k : Int)) (act 1 0 0 (N.getD (Int.toNat (k : Int)) 0)).2 = N := by
          show N.set k (N.getD k 0) = N
          exact set_self N k hkN
        rw [e1] at hA3
        exact hA3
      have q0 := hNb3.cell k (by omega)
      have f0 := hNb3.free k
      have hF3 := hF.trans hD.fr (fun j hj => .inl hj)
      have hNb4 := hNb3.set k (N.getD k 0)
      have e2 : (N.take k ++ List.replicate (n - k) 0).set k (N.getD k 0) = N.take (k + 1) ++ List.replicate (n - (k + 1)) 0 := by
        have hk2 : k < N.length := hkN
        have : n - k = (n - (k + 1)) + 1 := by omega
        rw [this, List.replicate_succ, List.set_append, if_neg (by simp; omega)]
        have e3 : k - (N.take k).length = 0 := by simp; omega
        have e4 : N.getD k 0 = N[k] := by simp [List.getD, List.getElem?_eq_getElem hk2]
        rw [e3, e4, List.set_cons_zero, show N.take (k + 1) = N.take k ++ [N[k]] from (List.take_append_getElem hk2).symm, List.append_assoc]
        rfl
      rw [e2] at hNb4
      have hA5 : Aw (w3.setCell ⟨w.heap.size, k, none⟩ (.int .u64 (N.getD k 0))) d g (List.replicate n true) N (m2 + 1) F2 := hA4.same (Below.heap_setCell _ _ _ _ (by simp; omega)) (Below.heap_setCell _ _ _ _ (by simp; omega))
      have hF5 := hF3.setCell (p := ⟨w.heap.size, k, none⟩) (.inr (Nat.le_refl _)) (.int .u64 (N.getD k 0))
      have HN4 := hide2 hNb4
      have HA5 := hide2 hA5
      have HF5 := hide2 hF5
      have ev : (act 1 0 0 (N.getD (Int.toNat (k : Int)) 0)).1 = N.getD k 0 := rfl
      rw [ev]
      clear HL hD hNb hNb3 hA2 hA3 hA4 hF hF3 hNb4 hA5 hF5 e2 ev
      generalize N.getD k 0 = xk at *
      go_wp2
      go_roundw
      case rel => exact ⟨k + 1, by omega, by go_num, ⟨_, _, HA5.out, by omega, by omega⟩, HN4.out, HF5.out⟩
      case measure => simp [intOf]; omega
    · obtain rfl : k = n := by omega
      have e1 : N.take k ++ List.replicate (k - k) 0 = N := by rw [HLEN.out]; simp
      rw [e1] at hNb
      go_wp2
      go_ret
      exact ⟨⟨_, Nat.le_refl _, rfl, hNb⟩, hF⟩
end Go.Proofs.YtnpmldlnckbppaaDoor
