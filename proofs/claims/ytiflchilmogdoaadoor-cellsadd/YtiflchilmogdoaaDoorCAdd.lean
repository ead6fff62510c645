/-
  CellsAdd's walk.
-/
import Derived.Test.YtiflchilmogdoaaDoorC9
import Derived.Test.YtiflchilmogdoaaDoorCOpen
set_option linter.unusedVariables false
set_option linter.unusedSimpArgs false
namespace Go.Proofs.YtiflchilmogdoaaDoor
open Go.RowKit

/-- What the first k come to, modulo 2^64. -/
def sumTo (l : List Int) (k : Nat) : Int := (l.take k).sum % 18446744073709551616
/-- What the last k come to, modulo 2^64. -/
def sumBack (l : List Int) (k : Nat) : Int := (l.drop (l.length - k)).sum % 18446744073709551616

theorem sumTo_succ (l : List Int) (k : Nat) (hk : k < l.length) : sumTo l (k + 1) = (sumTo l k + l.getD k 0) % 18446744073709551616 := by
  unfold sumTo
  have e : l.getD k 0 = l[k] := by simp [List.getD, List.getElem?_eq_getElem hk]
  rw [← List.take_append_getElem hk, List.sum_append, e]
  simp
theorem sumBack_succ (l : List Int) (k : Nat) (hk : k < l.length) : sumBack l (k + 1) = (sumBack l k + l.getD (l.length - 1 - k) 0) % 18446744073709551616 := by
  unfold sumBack
  have h1 : l.length - (k + 1) < l.length := by omega
  rw [List.drop_eq_getElem_cons h1, show l.length - (k + 1) + 1 = l.length - k by omega, List.sum_cons, show l.length - 1 - k = l.length - (k + 1) by omega]
  have e : l.getD (l.length - (k + 1)) 0 = l[l.length - (k + 1)] := by simp [List.getD, List.getElem?_eq_getElem h1]
  rw [e]
  omega
theorem sum_all (l : List Int) : sumBack l l.length = sumTo l l.length := by
  simp [sumBack, sumTo]

set_option maxRecDepth 100000 in
set_option maxHeartbeats 2000000 in
theorem add_walk (ao : Option Addr) (len cap : Nat) (l : List Int) (w : World) (hT : Tab w) (hok : ∀ x ∈ l, U64 x) (hs : Ints .u64 w ao len cap l) (hlen : len ≤ 140737488351232) :
    Calls Tryd.prog 4 #[.slice ao len cap] w fun e w' => e = .returned (.bool true) ∧ Below w.heap.size w w' := by
  have h0 := hT.1
  have HN := hide2 (shown_any w hT)
  go_enter Tryd.func4, Tryd.ntmps4
  go_wp2_with fail
  refine HN.out.mono ?_
  rintro e w1 ⟨rfl, hB1⟩
  have hT1 := hT.below hB1 h0
  have hs1 := hB1.size
  have HN2 := hide2 (New_any 2 w1 (by decide) (by decide))
  clear HN
  go_wp2_with fail
  refine HN2.out.mono ?_
  rintro e w2 ⟨rfl, ⟨F, hA⟩, hB2⟩
  have hT2 := hT1.below hB2 hT1.1
  have hs2 := hB2.size
  have hBB : Below w.heap.size w w2 := hB1.trans (hB2.mono hs1)
  generalize hd : w1.heap.size + 1 = d at hA
  generalize hg : w1.heap.size = g at hA hd hs1
  have HA := hide2 (Alloc_one hA hT2 0 (by decide) (fun j hj => by omega) (by omega) (by omega))
  clear HN2
  go_wp2_with fail
  refine HA.out.mono ?_
  rintro e w3 ⟨rfl, hA3, hF3⟩
  have hB3 : Below w.heap.size w w3 := hBB.trans (hF3.own (by omega) (by omega) hBB.size)
  have hT3 := hT.below hB3 h0
  have HA4 := hide2 (Alloc_one hA3 hT3 1 (by decide) (fun j hj => by obtain rfl : j = 0 := (by omega); decide) (by omega) (by omega))
  clear HA
  go_wp2_with fail
  refine HA4.out.mono ?_
  rintro e w4 ⟨rfl, hA4, hF4⟩
  have hB5 : Below w.heap.size w w4 := hB3.trans (hF4.own (by omega) (by omega) hB3.size)
  have hdw : w.heap.size ≤ d := by omega
  have hgw : w.heap.size ≤ g := by omega
  have hz1 : sumTo l 0 = 0 := rfl
  have hz2 : sumBack l 0 = 0 := by simp [sumBack]
  have hA6 : ∃ m F, Aw w4 d g [true, true] [sumTo l 0, sumBack l 0] m F ∧ 0 ≤ m ∧ m ≤ 0 := by
    rw [hz1, hz2]
    exact ⟨_, _, hA4, by decide, by decide⟩
  clear HA4 hA4 hA3 hA hF4 hF3 hB3 hBB hB2 hB1 hT3 hT2 hT1 hs2
  have hll : l.length = len := hs.1
  go_wp2
  go_loopw [10, 11] (fun sum i wr => ∃ k : Nat, k ≤ len ∧ i = .int .i64 k ∧ sum = .int .u64 (sumTo l k) ∧ (∃ m F, Aw wr d g [true, true] [sumTo l k, sumBack l k] m F ∧ 0 ≤ m ∧ m ≤ 2 * (k : Int)) ∧ Below w.heap.size w wr) (fun _ i _ => len - (intOf i).toNat)
  case atStart => exact ⟨0, by omega, rfl, by rw [hz1], by simpa using hA6, hB5⟩
  case round =>
    obtain ⟨k, hk, rfl, rfl, ⟨m, F, hA, hm0, hm1⟩, hB⟩ := hrel
    by_cases hkl : k < len
    · obtain ⟨b, off, rfl, hbl, hcell⟩ := (hs.keep hB).num (by omega)
      have hget : ∀ i, i < len → U64 (l.getD i 0) := fun i hi => by
        have hkl2 : i < l.length := by omega
        have e : l.getD i 0 = l[i] := by simp [List.getD, List.getElem?_eq_getElem hkl2]
        rw [e]
        exact hok _ (List.getElem_mem hkl2)
      obtain ⟨r, hr⟩ : ∃ r : Nat, r = len - 1 - k := ⟨_, rfl⟩
      have hrl : r < len := by omega
      have q0 := hcell k hkl
      have x0 := hget k hkl
      have x1 := hget r hrl
      have HR := hide2 hr
      have e1 := sumTo_succ l k (by omega)
      have e2 := sumBack_succ l k (by omega)
      rw [hll, ← hr] at e2
      have hri : (len : Int) - 1 - (k : Int) = (r : Int) := by omega
      have hcr : ∀ w', Below w.heap.size w w' → w'.cell? ⟨b, off + r, none⟩ = some (.int .u64 (l.getD r 0)) := fun w' hB' => by
        obtain ⟨b2, off2, e2, _, h2⟩ := (hs.keep hB').num (by omega)
        cases e2
        exact h2 r hrl
      have hc1 : ∀ w', Below w.heap.size w w' → w'.cell? ⟨b, off + k, none⟩ = some (.int .u64 (l.getD k 0)) := fun w' hB' => by
        obtain ⟨b2, off2, e2, _, h2⟩ := (hs.keep hB').num (by omega)
        cases e2
        exact h2 k hkl
      have HCR := hide2 hcr
      have E1 := hide2 e1
      have E2 := hide2 e2
      have HA1 := hide2 (Add_any hA 0 (l.getD k 0) x0 ⟨hm0, by omega⟩)
      have hsum : IntKind.u64.wrap (sumTo l k + l.getD k 0) = sumTo l (k + 1) := by rw [IntKind.wrap_u64, e1]
      clear hcell hr e1 e2 hcr hc1 hget
      generalize hxk : l.getD k 0 = xk at *
      generalize hxr : l.getD r 0 = xr at *
      generalize hs0 : sumTo l k = s0 at *
      generalize hs1' : sumTo l (k + 1) = s1 at *
      generalize hb0 : sumBack l k = b0 at *
      generalize hb1 : sumBack l (k + 1) = b1 at *
      have HX := hide2 hxk
      have HX2 := hide2 hxr
      have HS0 := hide2 hs0
      have HS1 := hide2 hs1'
      have HB0 := hide2 hb0
      have HB1 := hide2 hb1
      clear hxk hxr hs0 hs1' hb0 hb1
      go_wp2_with fail
      refine HA1.out.mono ?_
      rintro e w' ⟨v', x', rfl, hD⟩
      obtain ⟨hv', rfl, hA2⟩ := hD.yes (by decide)
      have hvv : v' = s1 := by rw [hv', E1.out]; rfl
      have hB' : Below w.heap.size w w' := hB.trans (hD.fr.own hdw hgw hB.size)
      have hA2' : Aw w' d g [true, true] [s1, b0] (m + 1) F := by rw [E1.out]; exact hA2
      have q1 := HCR.out w' hB'
      have HA3 := hide2 (Add_any hA2' 1 xr x1 ⟨by omega, by omega⟩)
      subst hvv
      clear HA1 hD hA2 hv' q0 hA hsum
      go_wp2_with fail
      refine HA3.out.mono ?_
      rintro e w6 ⟨v6, x6, rfl, hD6⟩
      obtain ⟨hv6, rfl, hA7⟩ := hD6.yes (by decide)
      have hB7 : Below w.heap.size w w6 := hB'.trans (hD6.fr.own hdw hgw hB'.size)
      have hA8 : ∃ m F, Aw w6 d g [true, true] [v', b1] m F ∧ 0 ≤ m ∧ m ≤ 2 * ((k : Int) + 1) := by
        refine ⟨m + 1 + 1, F, ?_, by omega, by omega⟩
        rw [E2.out]
        exact hA7
      clear HA3 hD6 hA7 hv6 hA2'
      go_wp2
      go_roundw
      case rel => exact ⟨k + 1, by omega, by go_num, by rw [HS1.out], by simpa [HS1.out, HB1.out] using hA8, hB7⟩
      case measure => simp [intOf]; omega
    · obtain rfl : k = len := by omega
      have HL := hide2 (Load_any hA 0 ⟨hm0, by omega⟩)
      have hee : sumBack l k = sumTo l k := by rw [← hll]; exact sum_all l
      rw [hee] at hA
      go_wp2_with fail
      refine HL.out.mono ?_
      rintro e w5 ⟨v5, x5, rfl, hD5⟩
      obtain ⟨hv5, rfl, hA5⟩ := hD5.yes (by decide)
      have hB5' : Below w.heap.size w w5 := hB.trans (hD5.fr.own hdw hgw hB.size)
      have hvv : v5 = sumTo l k := hv5
      have HL2 := hide2 (Load_any hA5 1 ⟨by omega, by omega⟩)
      clear HL hD5 hA5 hA hv5
      go_wp2_with fail
      refine HL2.out.mono ?_
      rintro e w6 ⟨v6, x6, rfl, hD6⟩
      obtain ⟨hv6, rfl, hA6'⟩ := hD6.yes (by decide)
      have hB6' : Below w.heap.size w w6 := hB5'.trans (hD6.fr.own hdw hgw hB5'.size)
      have hvv6 : v6 = sumTo l k := by rw [hv6]; exact hee
      clear HL2 hD6 hA6' hv6 hee
      generalize sumTo l k = s0 at *
      subst hvv hvv6
      go_wp2
      go_ret
      exact ⟨rfl, hB6'⟩
end Go.Proofs.YtiflchilmogdoaaDoor
