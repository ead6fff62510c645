/-
  CellsBack's walk.
-/
import Derived.Test.YtiflchilmogdoaaDoorC9
import Derived.Test.YtiflchilmogdoaaDoorCOpen
set_option linter.unusedVariables false
set_option linter.unusedSimpArgs false
namespace Go.Proofs.YtiflchilmogdoaaDoor
open Go.RowKit

/-- Where not all are taken there is a least one that is free. -/
theorem least_free : ∀ (T : List Bool), T.count true < T.length → ∃ c, T.getD c true = false ∧ ∀ j, j < c → T.getD j true = true
  | [], h => by simp at h
  | false :: T, _ => ⟨0, rfl, fun j hj => by omega⟩
  | true :: T, h => by
    have h1 : T.count true < T.length := by simpa using h
    obtain ⟨c, hc, hm⟩ := least_free T h1
    refine ⟨c + 1, by simpa using hc, fun j hj => ?_⟩
    cases j with
    | zero => rfl
    | succ j => simpa using hm j (by omega)

/-- A cell that is taken is no longer free. -/
theorem tk_set (T : List Bool) (c : Nat) (h : c < T.length) : tk (T.set c true) (c : Int) = true := by
  unfold tk
  have e : (T.set c true).getD c false = true := by rw [getD_set, if_pos ⟨rfl, h⟩]
  simp only [Int.toNat_natCast, e]
  simp
theorem getD_lt {T : List Bool} {c : Nat} (h : T.getD c true = false) : c < T.length := by
  rcases Nat.lt_or_ge c T.length with h1 | h1
  · exact h1
  · simp [List.getD, List.getElem?_eq_none h1] at h

/-- Free, whatever is asked. -/
theorem Free_any {w : World} {d g : Nat} {T : List Bool} {N : List Int} {m : Int} {F : List Nat} (h : Aw w d g T N m F) (c : Int) :
    Calls Tryd.prog 22 #[.pointer (some ⟨d, 0, none⟩), .int .i64 c] w fun e w' => ∃ x, e = .returned (.int .i64 x) ∧ Fr (fun j => j = d ∨ j = g) w w' ∧
      ((tk T c = true ∧ x = 0 ∧ ∃ F', Aw w' d g (T.set c.toNat false) N m F') ∨ (tk T c = false ∧ x = 30 ∧ Aw w' d g T N m F)) := by
  cases ht : tk T c with
  | true =>
    obtain ⟨h0, h1⟩ := tk_lt ht
    obtain ⟨n, rfl⟩ : ∃ n : Nat, c = n := ⟨c.toNat, by omega⟩
    refine (Free_in h n ht).mono ?_
    rintro e w' ⟨rfl, hA, hF⟩
    exact ⟨0, rfl, hF, .inl ⟨rfl, rfl, _, hA⟩⟩
  | false =>
    refine (Free_out h c ht).mono ?_
    rintro e w' ⟨rfl, q, rfl⟩
    exact ⟨30, rfl, (Fr.refl _ w).drewN q, .inr ⟨rfl, rfl, h.same rfl rfl⟩⟩

theorem tk_count {T : List Bool} {c : Int} (h : tk T c = true) : (T.set c.toNat false).count true + 1 = T.count true := by
  obtain ⟨h0, h1⟩ := tk_lt h
  refine count_off h1 ?_
  unfold tk at h
  rw [Bool.and_eq_true] at h
  have := h.2
  simpa [List.getD, List.getElem?_eq_getElem h1] using this

set_option maxRecDepth 100000 in
set_option maxHeartbeats 4000000 in
theorem back_walk (size : Int) (ao : Option Addr) (len cap : Nat) (l : List Int) (v : Int) (w : World) (hT : Tab w) (hv : U64 v) (hok : ∀ x ∈ l, I64 x) (hs : Ints .i64 w ao len cap l) (hlen : len ≤ 140737488351232) :
    Calls Tryd.prog 8 #[.int .i64 size, .slice ao len cap, .int .u64 v] w fun e w' => e = .returned (.bool true) ∧ Below w.heap.size w w' := by
  have h0 := hT.1
  have HN := hide2 (shown_any w hT)
  by_cases hsz : 1 ≤ size ∧ size ≤ 300
  rotate_left
  · by_cases h1 : size < 1
    · have t1 : decide (size < 1) = true := by simpa using h1
      go_enter Tryd.func8, Tryd.ntmps8
      go_wp2_with fail
      refine HN.out.mono ?_
      rintro e w1 ⟨rfl, hB1⟩
      clear HN hsz
      go_wp2
      go_ret
      exact ⟨rfl, hB1⟩
    · have t1 : decide (size < 1) = false := by simpa using h1
      have t2 : decide (300 < size) = true := by simp; omega
      go_enter Tryd.func8, Tryd.ntmps8
      go_wp2_with fail
      refine HN.out.mono ?_
      rintro e w1 ⟨rfl, hB1⟩
      clear HN hsz
      go_wp2
      go_ret
      exact ⟨rfl, hB1⟩
  obtain ⟨n, rfl⟩ : ∃ n : Nat, size = n := ⟨size.toNat, by omega⟩
  have hn1 : 1 ≤ n := by omega
  have hn2 : n ≤ 300 := by omega
  have t1 : decide ((n : Int) < 1) = false := by simp; omega
  have t2 : decide (300 < (n : Int)) = false := by simp; omega
  clear hsz
  go_enter Tryd.func8, Tryd.ntmps8
  go_wp2_with fail
  refine HN.out.mono ?_
  rintro e w1 ⟨rfl, hB1⟩
  have hT1 := hT.below hB1 h0
  have hs1 := hB1.size
  have HN2 := hide2 (New_any n w1 hn1 (by omega))
  clear HN
  go_wp2_with fail
  refine HN2.out.mono ?_
  rintro e w2 ⟨rfl, ⟨F, hA⟩, hB2⟩
  have hBB : Below w.heap.size w w2 := hB1.trans (hB2.mono hs1)
  generalize hd : w1.heap.size + 1 = d at hA
  generalize hg : w1.heap.size = g at hA hd hs1
  have hdw : w.heap.size ≤ d := by omega
  have hgw : w.heap.size ≤ g := by omega
  have hA0 : ∃ T N m F, Aw w2 d g T N m F ∧ T.length = n ∧ (∀ j, j < n → T.getD j true = decide (j < 0)) ∧ 0 ≤ m ∧ m ≤ 0 := by
    refine ⟨_, _, _, _, hA, by simp, fun j hj => ?_, by decide, by decide⟩
    simp [List.getD, List.getElem?_replicate, hj]
  clear HN2 hA hB2 hB1 hT1
  go_wp2
  go_loopw [10] (fun i wr => ∃ k : Nat, k ≤ n ∧ i = .int .i64 k ∧ (∃ T N m F, Aw wr d g T N m F ∧ T.length = n ∧ (∀ j, j < n → T.getD j true = decide (j < k)) ∧ 0 ≤ m ∧ m ≤ (k : Int)) ∧ Below w.heap.size w wr) (fun i _ => n - (intOf i).toNat)
  case atStart => exact ⟨0, by omega, rfl, by simpa using hA0, hBB⟩
  case round =>
    obtain ⟨k, hk, rfl, ⟨T, N, m, F, hA, hTl, hTk, hm0, hm1⟩, hB⟩ := hrel
    by_cases hkn : k < n
    · have hTb := hT.below hB h0
      have HA := hide2 (Alloc_one hA hTb k (by rw [hTk k hkn]; simp) (fun j hj => by rw [hTk j (by omega)]; simpa using hj) (by omega) (by omega))
      go_wp2_with fail
      refine HA.out.mono ?_
      rintro e w3 ⟨rfl, hA3, hF3⟩
      have hB3 : Below w.heap.size w w3 := hB.trans (hF3.own hdw hgw hB.size)
      have HS := hide2 (Store_any hA3 (k : Int) v hv ⟨hm0, by omega⟩)
      clear HA
      go_wp2_with fail
      refine HS.out.mono ?_
      rintro e w4 ⟨v4, x4, rfl, hD4⟩
      obtain ⟨-, rfl, hA4⟩ := hD4.yes (tk_set T k (by omega))
      have hB4 : Below w.heap.size w w4 := hB3.trans (hD4.fr.own hdw hgw hB3.size)
      have hA5 : ∃ T N m F, Aw w4 d g T N m F ∧ T.length = n ∧ (∀ j, j < n → T.getD j true = decide (j < k + 1)) ∧ 0 ≤ m ∧ m ≤ (k : Int) + 1 := by
        refine ⟨_, _, _, _, hA4, by simpa using hTl, fun j hj => ?_, by omega, by omega⟩
        rw [getD_set]
        by_cases hjk : j = k
        · subst hjk; rw [if_pos ⟨rfl, by omega⟩]; simp
        · rw [if_neg (fun e => hjk e.1), hTk j hj]
          have : (j < k) ↔ (j < k + 1) := by omega
          simp [this]
      clear HS hD4 hA4 hA3 hA hF3 hB3 hTk
      go_wp2
      go_roundw
      case rel => exact ⟨k + 1, by omega, by go_num, by simpa using hA5, hB4⟩
      case measure => simp [intOf]; omega
    · obtain rfl : k = n := by omega
      have hcnt : T.count true = k := by
        rw [← hTl]
        exact count_all.2 (fun c => by
          rcases Nat.lt_or_ge c T.length with h1 | h1
          · rw [hTk c (by omega)]; simp; omega
          · simp [List.getD, List.getElem?_eq_none h1])
      have hA1 : ∃ T N m F, Aw wr d g T N m F ∧ T.length = k ∧ T.count true + 0 = k ∧ 0 ≤ m ∧ m ≤ (k : Int) := ⟨_, _, _, _, hA, hTl, hcnt, hm0, hm1⟩
      clear hA hTk hcnt hTl hm0 hm1
      go_wp2
      go_loopw [14, 15] (fun free i wr => ∃ (a f : Nat), a ≤ len ∧ i = .int .i64 a ∧ free = .int .i64 f ∧ (∃ T N m F, Aw wr d g T N m F ∧ T.length = k ∧ T.count true + f = k ∧ 0 ≤ m ∧ m ≤ (k : Int)) ∧ Below w.heap.size w wr) (fun _ i _ => len - (intOf i).toNat)
      case atStart => exact ⟨0, 0, by omega, rfl, rfl, hA1, hB⟩
      case round =>
        obtain ⟨a, f, ha, rfl, rfl, ⟨T, N, m, F, hA, hTl, hcnt, hm0, hm1⟩, hB⟩ := hrel
        by_cases hal : a < len
        · obtain ⟨b, off, rfl, hbl, hcell⟩ := (hs.keep hB).num (by omega)
          have q0 := hcell a hal
          have HF := hide2 (Free_any hA (l.getD a 0))
          clear hcell
          generalize l.getD a 0 = x at *
          go_wp2_with fail
          refine HF.out.mono ?_
          rintro e w3 ⟨y, rfl, hF3, hcase⟩
          have hB3 : Below w.heap.size w w3 := hB.trans (hF3.own hdw hgw hB.size)
          rcases hcase with ⟨ht, rfl, F', hA3⟩ | ⟨ht, rfl, hA3⟩
          · have hc3 := tk_count ht
            have hA4 : ∃ T N m F, Aw w3 d g T N m F ∧ T.length = k ∧ T.count true + (f + 1) = k ∧ 0 ≤ m ∧ m ≤ (k : Int) := ⟨_, _, _, _, hA3, by simpa using hTl, by omega, hm0, hm1⟩
            have hfk : f < k := by omega
            clear HF hA3 hA hc3 q0 hcnt hTl hF3 ht
            go_wp2
            go_roundw
            case rel => exact ⟨a + 1, f + 1, by omega, by go_num, by go_num, hA4, hB3⟩
            case measure => simp [intOf]; omega
          · have hA4 : ∃ T N m F, Aw w3 d g T N m F ∧ T.length = k ∧ T.count true + f = k ∧ 0 ≤ m ∧ m ≤ (k : Int) := ⟨_, _, _, _, hA3, hTl, hcnt, hm0, hm1⟩
            clear HF hA3 hA q0 hcnt hTl hF3 ht
            go_wp2
            go_roundw
            case rel => exact ⟨a + 1, f, by omega, by go_num, rfl, hA4, hB3⟩
            case measure => simp [intOf]; omega
        · obtain rfl : a = len := by omega
          have hfk : f ≤ k := by omega
          have hA1 : ∃ T N m F, Aw wr d g T N m F ∧ T.length = k ∧ T.count true + f = k + 0 ∧ (∀ j : Nat, (j : Int) ≤ -1 → T.getD j true = true) ∧ 0 ≤ m ∧ m ≤ (k : Int) + 0 := ⟨_, _, _, _, hA, hTl, hcnt, fun j hj => by omega, hm0, by omega⟩
          clear hA hcnt hTl hm0 hm1
          go_wp2
          go_loopw [17, 18] (fun last i wr => ∃ (a : Nat) (z : Int), a ≤ f ∧ i = .int .i64 a ∧ last = .int .i64 z ∧ -1 ≤ z ∧ (∃ T N m F, Aw wr d g T N m F ∧ T.length = k ∧ T.count true + f = k + a ∧ (∀ j : Nat, (j : Int) ≤ z → T.getD j true = true) ∧ 0 ≤ m ∧ m ≤ (k : Int) + a) ∧ Below w.heap.size w wr) (fun _ i _ => f - (intOf i).toNat)
          case atStart => exact ⟨0, -1, by omega, rfl, rfl, by omega, by simpa using hA1, hB⟩
          case round =>
            obtain ⟨a, z, ha, rfl, rfl, hz, ⟨T, N, m, F, hA, hTl, hcnt, hlast, hm0, hm1⟩, hB⟩ := hrel
            by_cases hal : a < f
            · obtain ⟨c, hc, hmin⟩ := least_free T (by omega)
              have hcl := getD_lt hc
              have hzc : z < (c : Int) := by
                rcases Int.lt_or_le z c with h | h
                · exact h
                · have := hlast c h
                  rw [hc] at this
                  cases this
              have hTb := hT.below hB h0
              have HA := hide2 (Alloc_one hA hTb c hc hmin (by omega) (by omega))
              have hc3 := count_on hcl hc
              have tz : decide ((c : Int) ≤ z) = false := by simpa using hzc
              go_wp2_with fail
              refine HA.out.mono ?_
              rintro e w3 ⟨rfl, hA3, hF3⟩
              have hB3 : Below w.heap.size w w3 := hB.trans (hF3.own hdw hgw hB.size)
              have HL := hide2 (Load_any hA3 (c : Int) ⟨hm0, by omega⟩)
              clear HA
              go_wp2_with fail
              refine HL.out.mono ?_
              rintro e w4 ⟨v4, x4, rfl, hD4⟩
              obtain ⟨hv4, rfl, hA4⟩ := hD4.yes (tk_set T c hcl)
              have hvv : v4 = 0 := by
                rw [hv4]
                show (N.set c 0).getD c 0 = 0
                rw [getD_set, if_pos ⟨rfl, by have := hA.len; omega⟩]
              subst hvv
              have hB4 : Below w.heap.size w w4 := hB3.trans (hD4.fr.own hdw hgw hB3.size)
              have hA5 : ∃ T N m F, Aw w4 d g T N m F ∧ T.length = k ∧ T.count true + f = k + (a + 1) ∧ (∀ j : Nat, (j : Int) ≤ (c : Int) → T.getD j true = true) ∧ 0 ≤ m ∧ m ≤ (k : Int) + ((a + 1 : Nat) : Int) := by
                refine ⟨_, _, _, _, hA4, by simpa using hTl, by omega, fun j hj => ?_, by omega, by omega⟩
                rw [getD_set]
                by_cases hjc : j = c
                · rw [if_pos ⟨hjc, hcl⟩]
                · rw [if_neg (fun e => hjc e.1)]
                  exact hmin j (by omega)
              clear HL hD4 hA4 hA3 hA hF3 hB3 hv4 hc3 hmin hlast hcnt
              go_wp2
              go_roundw
              case rel => exact ⟨a + 1, c, by omega, by go_num, rfl, by omega, hA5, hB4⟩
              case measure => simp [intOf]; omega
            · obtain rfl : a = f := by omega
              have hfull : T.count true = T.length := by omega
              have HA := hide2 (Alloc_full hA hfull)
              go_wp2_with fail
              refine HA.out.mono ?_
              rintro e w3 ⟨rfl, q, rfl⟩
              have hA2 : Aw (wr.drewN q) d g T N m F := hA.same rfl rfl
              have hB3 : Below w.heap.size w (wr.drewN q) := hB.trans (below_drewN _ _ _)
              have hu := Used_any hA2
              rw [hfull, hTl] at hu
              have HU := hide2 hu
              clear hu HA hA hA2 hlast hcnt
              go_wp2_with fail
              refine HU.out.mono ?_
              rintro e w4 ⟨rfl, rfl⟩
              clear HU
              go_wp2
              go_ret
              exact ⟨rfl, hB3⟩
end Go.Proofs.YtiflchilmogdoaaDoor
