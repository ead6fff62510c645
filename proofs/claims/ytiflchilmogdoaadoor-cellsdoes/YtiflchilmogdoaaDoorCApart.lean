/-
  CellsApart's walk.
-/
import Derived.Test.YtiflchilmogdoaaDoorC9
import Derived.Test.YtiflchilmogdoaaDoorCOpen
set_option linter.unusedVariables false
set_option linter.unusedSimpArgs false
namespace Go.Proofs.YtiflchilmogdoaaDoor
open Go.RowKit

/-- Do, whatever is asked: what it leaves of cells that it is not about. -/
theorem Do_any {w : World} {d g : Nat} {T : List Bool} {N : List Int} {m : Int} {F : List Nat} (h : Aw w d g T N m F) (o : OpR) (ho : o.ok) (hm : 0 ≤ m ∧ m < 4611686018427387904) :
    Calls Tryd.prog 21 #[.pointer (some ⟨d, 0, none⟩), opV o.k o.c o.a o.b] w fun e w' => ∃ v x, e = .returned (.tuple #[.int .u64 v, .int .i64 x]) ∧ Fr (fun j => j = d ∨ j = g) w w' ∧
      ((1 ≤ o.k ∧ o.k ≤ 4 ∧ Did o.k.toNat w w' d g T N m F o.c o.a o.b v x) ∨ ((o.k < 1 ∨ 4 < o.k) ∧ v = 0 ∧ x = 2 ∧ Aw w' d g T N m F)) := by
  obtain ⟨h1, h2, h3, h4⟩ := ho
  by_cases hk : 1 ≤ o.k ∧ o.k ≤ 4
  · have hcase : o.k = 1 ∨ o.k = 2 ∨ o.k = 3 ∨ o.k = 4 := by omega
    obtain ⟨k, c, a, b⟩ := o
    simp only at *
    rcases hcase with rfl | rfl | rfl | rfl
    · refine (Do_kind load_deed eg_load (.inl ⟨rfl, rfl⟩) h c a b h3 h4 hm).mono ?_
      rintro e w' ⟨v, x, rfl, hD⟩
      exact ⟨v, x, rfl, hD.fr, .inl ⟨by omega, by omega, hD⟩⟩
    · refine (Do_kind store_deed eg_store (.inr (.inl ⟨rfl, rfl⟩)) h c a b h3 h4 hm).mono ?_
      rintro e w' ⟨v, x, rfl, hD⟩
      exact ⟨v, x, rfl, hD.fr, .inl ⟨by omega, by omega, hD⟩⟩
    · refine (Do_kind cas_deed eg_cas (.inr (.inr (.inl ⟨rfl, rfl⟩))) h c a b h3 h4 hm).mono ?_
      rintro e w' ⟨v, x, rfl, hD⟩
      exact ⟨v, x, rfl, hD.fr, .inl ⟨by omega, by omega, hD⟩⟩
    · refine (Do_kind add_deed eg_add (.inr (.inr (.inr ⟨rfl, rfl⟩))) h c a b h3 h4 hm).mono ?_
      rintro e w' ⟨v, x, rfl, hD⟩
      exact ⟨v, x, rfl, hD.fr, .inl ⟨by omega, by omega, hD⟩⟩
  · have hk2 : o.k < 1 ∨ 4 < o.k := by omega
    refine (Do_bad h o.k o.c o.a o.b hk2).mono ?_
    rintro e w' ⟨rfl, hA, hF⟩
    exact ⟨0, 2, rfl, hF, .inr ⟨hk2, rfl, rfl, hA⟩⟩

set_option maxRecDepth 100000 in
set_option maxHeartbeats 2000000 in
theorem apart_walk (v : Int) (ao : Option Addr) (len cap : Nat) (os : List OpR) (w : World) (hT : Tab w) (hv : U64 v) (hok : ∀ o ∈ os, o.ok) (hs : Seq 4 OpR.cells w ao len cap os) (hlen : len ≤ 140737488351232) :
    Calls Tryd.prog 6 #[.int .u64 v, .slice ao len cap] w fun e w' => e = .returned (.bool true) ∧ Below w.heap.size w w' := by
  have h0 := hT.1
  have HN := hide2 (shown_any w hT)
  go_enter Tryd.func6, Tryd.ntmps6
  go_wp2_with fail
  refine HN.out.mono ?_
  rintro e w1 ⟨rfl, hB1⟩
  have hT1 := hT.below hB1 h0
  have hs1 := hB1.size
  have HN2 := hide2 (New_any 3 w1 (by decide) (by decide))
  clear HN
  go_wp2_with fail
  refine HN2.out.mono ?_
  rintro e w2 ⟨rfl, ⟨F, hA⟩, hB2⟩
  have hT2 := hT1.below hB2 hT1.1
  have hs2 := hB2.size
  have hBB : Below w.heap.size w w2 := hB1.trans (hB2.mono hs1)
  generalize hd : w1.heap.size + 1 = d at hA
  generalize hg : w1.heap.size = g at hA hd hs1
  have HA := hide2 (Alloc_one hA hT2 0 (by decide) (fun j hj => by omega) (by omega) (by omega))
  clear HN2
  go_wp2_with fail
  refine HA.out.mono ?_
  rintro e w3 ⟨rfl, hA3, hF3⟩
  have hB3 : Below w.heap.size w w3 := hBB.trans (hF3.own (by omega) (by omega) hBB.size)
  have hT3 := hT.below hB3 h0
  have HA4 := hide2 (Alloc_one hA3 hT3 1 (by decide) (fun j hj => by obtain rfl : j = 0 := (by omega); decide) (by omega) (by omega))
  clear HA
  go_wp2_with fail
  refine HA4.out.mono ?_
  rintro e w4 ⟨rfl, hA4, hF4⟩
  have hB4 : Below w.heap.size w w4 := hB3.trans (hF4.own (by omega) (by omega) hB3.size)
  have HS := hide2 (Store_any hA4 0 v hv (by decide))
  clear HA4
  go_wp2_with fail
  refine HS.out.mono ?_
  rintro e w5 ⟨v5, x5, rfl, hD5⟩
  obtain ⟨-, rfl, hA5⟩ := hD5.yes (by decide)
  have hB5 : Below w.heap.size w w5 := hB4.trans (hD5.fr.own (by omega) (by omega) hB4.size)
  have hdw : w.heap.size ≤ d := by omega
  have hgw : w.heap.size ≤ g := by omega
  have hA6 : ∃ N m F, Aw w5 d g [true, true, false] N m F ∧ N.getD 0 0 = v ∧ 0 ≤ m ∧ m ≤ 1 := ⟨_, _, _, hA5, rfl, by decide, by decide⟩
  clear HS hD5 hA5 hA4 hA3 hA hF4 hF3 hB4 hB3 hBB hB2 hB1 hT3 hT2 hT1 hs2
  go_wp2
  go_loopw [12] (fun i wr => ∃ k : Nat, k ≤ len ∧ i = .int .i64 k ∧ (∃ N m F, Aw wr d g [true, true, false] N m F ∧ N.getD 0 0 = v ∧ 0 ≤ m ∧ m ≤ (k : Int) + 1) ∧ Below w.heap.size w wr) (fun i _ => len - (intOf i).toNat)
  case atStart => exact ⟨0, by omega, rfl, by simpa using hA6, hB5⟩
  case round =>
    obtain ⟨k, hk, rfl, ⟨N, m, F, hA, hN, hm0, hm1⟩, hB⟩ := hrel
    by_cases hkl : k < len
    · obtain ⟨b, off, rfl, hbl, hcell⟩ := (hs.keep hB).2.2.2 (by omega)
      obtain ⟨o, ho⟩ := some_at hs.1 hkl
      have hoo := hok o (List.mem_of_getElem? ho)
      have q0 : wr.cell? ⟨b, off + k * 4, none⟩ = some (.int .i64 o.k) := hcell k o ho 0 _ rfl
      have q1 := hcell k o ho 1 _ rfl
      have q2 := hcell k o ho 2 _ rfl
      have q3 := hcell k o ho 3 _ rfl
      have hBa : Below w.heap.size w (wr.alloc (opC o.k 1 o.a o.b)) := hB.alloc hB.size _
      have hAa : Aw (wr.alloc (opC o.k 1 o.a o.b)) d g [true, true, false] N m F := hA.same (blk_alloc _ _ _ hA.ab.lt) (blk_alloc _ _ _ hA.nb.lt)
      have HD := hide2 (Do_any hAa ⟨o.k, 1, o.a, o.b⟩ ⟨hoo.1, (by decide : I64 1), hoo.2.2⟩ ⟨hm0, by omega⟩)
      clear hcell
      go_wp2_with fail
      refine HD.out.mono ?_
      rintro e w' ⟨v', x', rfl, hF', hcase⟩
      have hB' : Below w.heap.size w w' := hBa.trans (hF'.own hdw hgw hBa.size)
      have hA' : ∃ N m F, Aw w' d g [true, true, false] N m F ∧ N.getD 0 0 = v ∧ 0 ≤ m ∧ m ≤ (k : Int) + 1 + 1 := by
        rcases hcase with ⟨_, _, hD⟩ | ⟨_, _, _, hA2⟩
        · obtain ⟨_, _, hA2⟩ := hD.yes (by decide)
          refine ⟨_, _, _, hA2, ?_, by omega, by omega⟩
          rw [getD_set, if_neg (fun e => by cases e.1)]
          exact hN
        · exact ⟨_, _, _, hA2, hN, hm0, by omega⟩
      clear HD hcase hF' hAa hBa hA q0 q1 q2 q3
      go_wp2
      go_roundw
      case rel => exact ⟨k + 1, by omega, by go_num, by simpa using hA', hB'⟩
      case measure => simp [intOf]; omega
    · obtain rfl : k = len := by omega
      have HL := hide2 (Load_any hA 0 ⟨hm0, by omega⟩)
      go_wp2_with fail
      refine HL.out.mono ?_
      rintro e w' ⟨v', x', rfl, hD⟩
      obtain ⟨hv', rfl, hA2⟩ := hD.yes (by decide)
      have hvv : v' = v := hv'.trans hN
      subst hvv
      have hB' : Below w.heap.size w w' := hB.trans (hD.fr.own hdw hgw hB.size)
      have HU := hide2 (Used_any hA2)
      clear HL hD hv' hA hs
      go_wp2_with fail
      refine HU.out.mono ?_
      rintro e w2 ⟨rfl, rfl⟩
      clear HU
      go_wp2
      go_ret
      exact ⟨rfl, hB'⟩
end Go.Proofs.YtiflchilmogdoaaDoor
