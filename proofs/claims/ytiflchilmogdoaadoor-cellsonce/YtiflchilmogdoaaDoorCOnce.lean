/-
  CellsOnce's walk.
-/
import Derived.Test.YtiflchilmogdoaaDoorC9
import Derived.Test.YtiflchilmogdoaaDoorCOpen
set_option linter.unusedVariables false
set_option linter.unusedSimpArgs false
namespace Go.Proofs.YtiflchilmogdoaaDoor
open Go.RowKit

/-- Where the first one stands that is not 'had', if it is ahead of place k: else -1. -/
def wonAt (had : Int) (l : List Int) : Nat → Int
  | 0 => -1
  | k + 1 => if wonAt had l k < 0 ∧ l.getD k 0 ≠ had then k else wonAt had l k
/-- What the cell has then. -/
def hasAt (had : Int) (l : List Int) (k : Nat) : Int := if wonAt had l k < 0 then had else l.getD (wonAt had l k).toNat 0

theorem wonAt_lt (had : Int) (l : List Int) : ∀ k : Nat, -1 ≤ wonAt had l k ∧ wonAt had l k < k ∧ (0 ≤ wonAt had l k → l.getD (wonAt had l k).toNat 0 ≠ had)
  | 0 => by
    have e : wonAt had l 0 = -1 := rfl
    rw [e]
    exact ⟨by decide, by decide, fun h => absurd h (by decide)⟩
  | k + 1 => by
    obtain ⟨h1, h2, h3⟩ := wonAt_lt had l k
    unfold wonAt
    split
    · rename_i h
      exact ⟨by omega, by omega, fun _ => by simpa using h.2⟩
    · exact ⟨h1, by omega, h3⟩

theorem wonAt_succ (had : Int) (l : List Int) (k : Nat) : wonAt had l (k + 1) = if wonAt had l k < 0 ∧ l.getD k 0 ≠ had then (k : Int) else wonAt had l k := rfl
theorem once_step (had : Int) (l : List Int) (k : Nat) : hasAt had l (k + 1) = (act 3 had (l.getD k 0) (hasAt had l k)).2 ∧ (((act 3 had (l.getD k 0) (hasAt had l k)).1 == 1) = decide (wonAt had l k < 0)) := by
  obtain ⟨h1, h2, h3⟩ := wonAt_lt had l k
  unfold act
  rw [if_neg (by decide), if_neg (by decide), if_pos rfl]
  by_cases hw : wonAt had l k < 0
  · have e1 : hasAt had l k = had := by unfold hasAt; rw [if_pos hw]
    rw [e1, if_pos rfl]
    refine ⟨?_, by simp [hw]⟩
    by_cases hl : l.getD k 0 = had
    · have e2 : wonAt had l (k + 1) = wonAt had l k := by rw [wonAt_succ]; exact if_neg (fun e => e.2 hl)
      unfold hasAt
      rw [e2, if_pos hw, hl]
    · have e2 : wonAt had l (k + 1) = k := by rw [wonAt_succ]; exact if_pos ⟨hw, hl⟩
      unfold hasAt
      rw [e2, if_neg (by omega), Int.toNat_natCast]
  · have e1 : hasAt had l k = l.getD (wonAt had l k).toNat 0 := by unfold hasAt; rw [if_neg hw]
    have e2 : hasAt had l k ≠ had := by rw [e1]; exact h3 (by omega)
    rw [if_neg e2]
    refine ⟨?_, by simp [hw]⟩
    have e3 : wonAt had l (k + 1) = wonAt had l k := by rw [wonAt_succ]; exact if_neg (fun e => hw e.1)
    unfold hasAt
    rw [e3]

set_option maxRecDepth 100000 in
set_option maxHeartbeats 2000000 in
theorem once_walk (had : Int) (ao : Option Addr) (len cap : Nat) (l : List Int) (w : World) (hT : Tab w) (hv : U64 had) (hok : ∀ x ∈ l, U64 x) (hs : Ints .u64 w ao len cap l) (hlen : len ≤ 140737488351232) :
    Calls Tryd.prog 5 #[.int .u64 had, .slice ao len cap] w fun e w' => e = .returned (.bool true) ∧ Below w.heap.size w w' := by
  have h0 := hT.1
  have HN := hide2 (shown_any w hT)
  go_enter Tryd.func5, Tryd.ntmps5
  go_wp2_with fail
  refine HN.out.mono ?_
  rintro e w1 ⟨rfl, hB1⟩
  have hT1 := hT.below hB1 h0
  have hs1 := hB1.size
  have HN2 := hide2 (New_any 1 w1 (by decide) (by decide))
  clear HN
  go_wp2_with fail
  refine HN2.out.mono ?_
  rintro e w2 ⟨rfl, ⟨F, hA⟩, hB2⟩
  have hT2 := hT1.below hB2 hT1.1
  have hs2 := hB2.size
  have hBB : Below w.heap.size w w2 := hB1.trans (hB2.mono hs1)
  generalize hd : w1.heap.size + 1 = d at hA
  generalize hg : w1.heap.size = g at hA hd hs1
  have HA := hide2 (Alloc_one hA hT2 0 (by decide) (fun j hj => by omega) (by omega) (by omega))
  clear HN2
  go_wp2_with fail
  refine HA.out.mono ?_
  rintro e w3 ⟨rfl, hA3, hF3⟩
  have hB3 : Below w.heap.size w w3 := hBB.trans (hF3.own (by omega) (by omega) hBB.size)
  have HS := hide2 (Store_any hA3 0 had hv (by decide))
  clear HA
  go_wp2_with fail
  refine HS.out.mono ?_
  rintro e w5 ⟨v5, x5, rfl, hD5⟩
  obtain ⟨-, rfl, hA5⟩ := hD5.yes (by decide)
  have hB5 : Below w.heap.size w w5 := hB3.trans (hD5.fr.own (by omega) (by omega) hB3.size)
  have hdw : w.heap.size ≤ d := by omega
  have hgw : w.heap.size ≤ g := by omega
  have hA6 : ∃ m F, Aw w5 d g [true] [hasAt had l 0] m F ∧ 0 ≤ m ∧ m ≤ 1 := ⟨_, _, hA5, by decide, by decide⟩
  clear HS hD5 hA5 hA3 hA hF3 hB3 hBB hB2 hB1 hT2 hT1 hs2
  go_wp2
  go_loopw [10, 11] (fun won i wr => ∃ k : Nat, k ≤ len ∧ i = .int .i64 k ∧ won = .int .i64 (wonAt had l k) ∧ (∃ m F, Aw wr d g [true] [hasAt had l k] m F ∧ 0 ≤ m ∧ m ≤ (k : Int) + 1) ∧ Below w.heap.size w wr) (fun _ i _ => len - (intOf i).toNat)
  case atStart => exact ⟨0, by omega, rfl, rfl, by simpa using hA6, hB5⟩
  case round =>
    obtain ⟨k, hk, rfl, rfl, ⟨m, F, hA, hm0, hm1⟩, hB⟩ := hrel
    obtain ⟨g1, g2, g3⟩ := wonAt_lt had l k
    by_cases hkl : k < len
    · obtain ⟨b, off, rfl, hbl, hcell⟩ := (hs.keep hB).num (by omega)
      have q0 := hcell k hkl
      have hx : U64 (l.getD k 0) := by
        have hkl2 : k < l.length := by rw [hs.1]; exact hkl
        have e : l.getD k 0 = l[k] := by simp [List.getD, List.getElem?_eq_getElem hkl2]
        rw [e]
        exact hok _ (List.getElem_mem hkl2)
      have HC := hide2 (CAS_any hA 0 had (l.getD k 0) hv hx ⟨hm0, by omega⟩)
      obtain ⟨n1, n2⟩ := once_step had l k
      have N1 := hide2 n1
      have N2 := hide2 n2
      have nw : wonAt had l (k + 1) = if wonAt had l k < 0 ∧ l.getD k 0 ≠ had then (k : Int) else wonAt had l k := rfl
      have NW := hide2 nw
      clear hcell n1 n2 nw g3
      generalize hxx : l.getD k 0 = x at *
      generalize hww : wonAt had l k = won at *
      generalize hyy : hasAt had l k = y at *
      generalize hw2 : wonAt had l (k + 1) = won' at *
      generalize hy2 : hasAt had l (k + 1) = y' at *
      have HX := hide2 hxx
      have HW := hide2 hww
      have HY := hide2 hyy
      have HW2 := hide2 hw2
      have HY2 := hide2 hy2
      clear hxx hww hyy hw2 hy2
      go_wp2_with fail
      refine HC.out.mono ?_
      rintro e w' ⟨v', x', rfl, hD⟩
      obtain ⟨hv', rfl, hA2⟩ := hD.yes (by decide)
      have hB' : Below w.heap.size w w' := hB.trans (hD.fr.own hdw hgw hB.size)
      have hb : (v' == 1) = decide (won < 0) := by
        rw [hv']
        exact N2.out
      have hA3 : ∃ m F, Aw w' d g [true] [y'] m F ∧ 0 ≤ m ∧ m ≤ (k : Int) + 1 + 1 := by
        refine ⟨m + 1, F, ?_, by omega, by omega⟩
        have e : y' = (act 3 had x ([y].getD (0 : Int).toNat 0)).2 := N1.out
        rw [e]
        exact hA2
      clear HC hD hA2 hv' N1 N2 hA
      have q1 : w'.cell? ⟨b, off + k, none⟩ = some (.int .u64 x) := by
        have := ((hs.keep hB').num (by omega))
        obtain ⟨b2, off2, e2, _, h2⟩ := this
        cases e2
        rw [h2 k hkl, HX.out]
      by_cases hwon : won < 0
      · rw [decide_eq_true hwon] at hb
        have ht0 : decide (won < 0) = true := by simpa using hwon
        by_cases hxh : x = had
        · have e1 : won' = won := by rw [NW.out, if_neg (fun e => e.2 hxh)]
          have ht1 : (x == had) = true := by simpa using hxh
          have ht2 : (x != had) = false := by simpa using hxh
          have E1 := hide2 e1
          clear e1
          go_wp2
          go_roundw
          case rel => exact ⟨k + 1, by omega, by go_num, by rw [HW2.out, E1.out], by simpa [HY2.out] using hA3, hB'⟩
          case measure => simp [intOf]; omega
        · have e1 : won' = k := by rw [NW.out, if_pos ⟨hwon, hxh⟩]
          have ht1 : (x == had) = false := by simpa using hxh
          have ht2 : (x != had) = true := by simpa using hxh
          have E1 := hide2 e1
          clear e1
          go_wp2
          go_roundw
          case rel => exact ⟨k + 1, by omega, by go_num, by rw [HW2.out, E1.out], by simpa [HY2.out] using hA3, hB'⟩
          case measure => simp [intOf]; omega
      · rw [decide_eq_false hwon] at hb
        have ht0 : decide (won < 0) = false := by simpa using hwon
        have e1 : won' = won := by rw [NW.out, if_neg (fun e => hwon e.1)]
        have E1 := hide2 e1
        clear e1
        go_wp2
        go_roundw
        case rel => exact ⟨k + 1, by omega, by go_num, by rw [HW2.out, E1.out], by simpa [HY2.out] using hA3, hB'⟩
        case measure => simp [intOf]; omega
    · obtain rfl : k = len := by omega
      have HL := hide2 (Load_any hA 0 ⟨hm0, by omega⟩)
      have hh : hasAt had l k = if wonAt had l k < 0 then had else l.getD (wonAt had l k).toNat 0 := rfl
      have HH := hide2 hh
      clear hh
      by_cases hwon : wonAt had l k < 0
      · have e1 : hasAt had l k = had := by rw [HH.out, if_pos hwon]
        have ht0 : decide (0 ≤ wonAt had l k) = false := by simpa using hwon
        generalize wonAt had l k = won at *
        go_wp2_with fail
        refine HL.out.mono ?_
        rintro e w' ⟨v', x', rfl, hD⟩
        obtain ⟨hv', rfl, hA2⟩ := hD.yes (by decide)
        have hvv : v' = had := hv'.trans e1
        subst hvv
        have hB' : Below w.heap.size w w' := hB.trans (hD.fr.own hdw hgw hB.size)
        clear HL hD hv' hA hs hA2 e1
        go_wp2
        go_ret
        exact ⟨rfl, hB'⟩
      · obtain ⟨n, hn⟩ : ∃ n : Nat, wonAt had l k = n := ⟨(wonAt had l k).toNat, by omega⟩
        have hnk : n < k := by omega
        have e1 : hasAt had l k = l.getD n 0 := by rw [HH.out, if_neg hwon, hn]; rfl
        rw [hn]
        go_wp2_with fail
        refine HL.out.mono ?_
        rintro e w' ⟨v', x', rfl, hD⟩
        obtain ⟨hv', rfl, hA2⟩ := hD.yes (by decide)
        have hvv : v' = l.getD n 0 := hv'.trans e1
        have hB' : Below w.heap.size w w' := hB.trans (hD.fr.own hdw hgw hB.size)
        obtain ⟨b, off, rfl, hbl, hcell⟩ := (hs.keep hB').num (by omega)
        have q0 := hcell n hnk
        rw [← hvv] at q0
        clear HL hD hv' hA hs hA2 e1 hcell hvv hn HH hwon g3
        go_wp2
        go_ret
        exact ⟨rfl, hB'⟩
end Go.Proofs.YtiflchilmogdoaaDoor
