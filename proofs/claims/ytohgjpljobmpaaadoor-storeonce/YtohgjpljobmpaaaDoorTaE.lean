/-
  StoreOnce: of several that take an end just the first does.
-/
import Derived.Test.YtohgjpljobmpaaaDoorTaD
import Derived.Test.YtohgjpljobmpaaaDoorWd5
import Derived.Test.YtohgjpljobmpaaaDoorCOpen
set_option linter.unusedVariables false
set_option linter.unusedSimpArgs false
namespace Go.Proofs.YtohgjpljobmpaaaDoor
open Go.RowKit Go.Maps

theorem owV_pt {n : Int} (h : owE n = 0) : ptO (owV n) = true ∧ owV n ≠ 0 ∧ owV n ≠ 1099511627776 ∧ 0 ≤ owV n ∧ owV n ≤ 18446744073709551615 := by
  have hb : 1 ≤ n ∧ n < 1048576 := by
    unfold owE at h
    split at h
    · assumption
    · omega
  unfold owV
  rw [if_pos hb]
  refine ⟨?_, by omega, by omega, by omega, by omega⟩
  unfold ptO kd
  rw [if_neg (by omega), if_neg (by omega), if_pos (by omega)]
  decide
theorem owE_cases (n : Int) : owE n = 0 ∨ owE n = 50 := by
  unfold owE
  split
  · exact .inl rfl
  · exact .inr rfl

section
variable {w : World}
set_option maxRecDepth 100000 in
set_option maxHeartbeats 8000000 in
theorem storeOnce_walk (ao : Option Addr) (len cap : Nat) (xs : List Int) (hT : Tab w) (hs : Ints .i64 w ao len cap xs) (hz : len ≤ 140737488351232) :
    Calls Tryd.prog 4 #[.slice ao len cap] w fun e w' => e = .returned (.bool true) ∧ Below w.heap.size w w' := by
  have HS := hide2 (sshown_any hT)
  have HSQ := hide2 hs
  have HT := hide2 hT
  clear hT hs
  go_enter Tryd.func4, Tryd.ntmps4
  go_wp2_with fail
  refine HS.out.mono ?_
  rintro e w0 ⟨rfl, hb0⟩
  have HT0 := hide2 (HT.out.fr (Fr.below (F := fun _ => False) hb0) id)
  have HB0 := hide2 hb0
  have HM := hide2 (New_any 10 w0 (by decide) (by decide))
  have hs0 := hb0.size
  clear HS hb0
  go_wp2_with fail
  refine HM.out.mono ?_
  rintro e w1 ⟨rfl, ⟨F, hA⟩, hb1⟩
  have HN := hide2 (lv_new (g := 0) (z := 10) HT0.out hb1 hA)
  clear HM hA hb1
  go_wp2_with fail
  refine HN.out.mono ?_
  rintro e w2 ⟨rfl, K2, L2⟩
  obtain ⟨sb, hsb⟩ : ∃ x, x = w1.heap.size := ⟨_, rfl⟩
  obtain ⟨d, hd⟩ : ∃ x, x = w0.heap.size + 1 := ⟨_, rfl⟩
  rw [← hsb, ← hd] at L2
  rw [← hsb, ← hd]
  have HVR := hide2 (ver_zero (tt := ⟨#[]⟩) (bg := 1) L2.rp (by decide) (by decide) (by decide) (by decide) (by decide) (by decide))
  have HL2 := hide2 L2
  clear HN hsb hd L2
  go_wp2_with fail
  refine HVR.out.mono ?_
  rintro e w3 ⟨rfl, a3⟩
  obtain ⟨K3, L3, -, -⟩ := HL2.out.step a3
  have e1 : ((Stt.zero.la 1 + 1 : Nat) : Int) = 1 := rfl
  rw [e1]
  have HL3 := hide2 L3
  clear HVR HL2 a3 L3 e1
  go_wp2
  go_loopw [10, 11] (fun v i wr => ∃ (n : Nat) (won : Int) (K : Nat → Prop) (A : Stt), n ≤ len ∧ i = .int .i64 (n : Nat) ∧ v = .int .u64 won ∧ Hid (A.lv 1 1 = true) ∧ Hid ((won = 0 ∧ A.va 3 1 = 1099511627776) ∨ (won ≠ 0 ∧ won ≠ 1099511627776 ∧ A.va 3 1 = won)) ∧ Hid (Lv w0 wr K sb d 10 (4 + n) A 3)) (fun _ i _ => len - (intOf i).toNat)
  case atStart => exact ⟨0, 0, K3, _, Nat.zero_le _, rfl, rfl, hide2 rfl, hide2 (.inl ⟨rfl, rfl⟩), HL3⟩
  case round =>
    obtain ⟨n, won, K, A, hn, rfl, rfl, HV, HW, L⟩ := hrel
    by_cases hlt : n < len
    · have d1 : decide ((n : Int) < (len : Int)) = true := by simp; omega
      have d2 : (n : Int) < (len : Int) := by omega
      obtain ⟨b, off, eao, hbl, hcell⟩ := HSQ.out.2.2.2 (by omega)
      obtain ⟨x, hx⟩ : ∃ x, xs[n]? = some x := some_at HSQ.out.1 hlt
      have hc : wr.cell? ⟨b, off + n, none⟩ = some (.int .i64 x) := by
        have h1 := hcell n x hx 0 _ rfl
        have hb : b < w0.heap.size := by omega
        have h2 := L.out.bl.cell (p := ⟨b, off + n, none⟩) hb
        have h3 := HB0.out.cell (p := ⟨b, off + n, none⟩) hbl
        rw [h2, h3]
        simpa using h1
      subst eao
      have HOW := hide2 (rowner_any x wr)
      rcases owE_cases x with hE | hE
      · obtain ⟨hp, hw0, hwN, hw1, hw2⟩ := owV_pt hE
        obtain ⟨ow, how⟩ : ∃ y, y = owV x := ⟨_, rfl⟩
        rw [hE, ← how] at HOW
        rw [← how] at hp hw0 hwN hw1 hw2
        have htk := takeEnd_any (n := 1) (old := 1099511627776) (now := ow) L.out.rp HV.out (by decide) ⟨hw1, hw2⟩ hp (by omega)
        rcases HW.out with ⟨rfl, hva⟩ | ⟨hw3, hw4, hva⟩
        · rw [hva] at htk
          have HTK := hide2 htk
          have HVA := hide2 hva
          have dw : decide (ow = 0) = false := by simp [hw0]
          clear htk hva how hcell hx hE
          go_wp2_with fail
          refine HOW.out.mono ?_
          rintro e w4 ⟨rfl, q4⟩
          subst q4
          clear HOW
          go_wp2_with fail
          refine HTK.out.mono ?_
          rintro e w5 ⟨rfl, a5⟩
          obtain ⟨K5, L5, -, -⟩ := L.out.step a5
          have hsw : A.swap 3 1 1099511627776 ow = A.put 3 1 ow := by unfold Stt.swap; rw [if_pos HVA.out]
          rw [hsw] at L5
          have HL5 := hide2 L5
          clear HTK a5 L5 hsw
          go_wp2
          go_roundw
          case rel => exact ⟨n + 1, ow, K5, A.put 3 1 ow, by omega, by go_num, rfl, hide2 HV.out, hide2 (.inr ⟨hw0, hwN, show up2 A.va 3 1 ow 3 1 = ow from up2_same _ _ _ _⟩), hide2 (HL5.out.up (by omega))⟩
          case measure => simp [intOf]; omega
        · rw [hva, decide_eq_false hw4] at htk
          have HTK := hide2 htk
          have HVA := hide2 hva
          clear htk hva how hcell hx hE
          go_wp2_with fail
          refine HOW.out.mono ?_
          rintro e w4 ⟨rfl, q4⟩
          subst q4
          clear HOW
          go_wp2_with fail
          refine HTK.out.mono ?_
          rintro e w5 ⟨rfl, a5⟩
          obtain ⟨K5, L5, -, -⟩ := L.out.step a5
          have hsw : A.swap 3 1 1099511627776 ow = A := by unfold Stt.swap; rw [HVA.out, if_neg hw4]
          rw [hsw] at L5
          have HL5 := hide2 L5
          clear HTK a5 L5 hsw
          go_wp2
          go_roundw
          case rel => exact ⟨n + 1, won, K5, A, by omega, by go_num, rfl, HV, hide2 (.inr ⟨hw3, hw4, HVA.out⟩), hide2 (HL5.out.up (by omega))⟩
          case measure => simp [intOf]; omega
      · rw [hE] at HOW
        clear hcell hx hE
        go_wp2_with fail
        refine HOW.out.mono ?_
        rintro e w4 ⟨rfl, q4⟩
        subst q4
        clear HOW
        go_wp2
        go_roundw
        case rel => exact ⟨n + 1, won, K, A, by omega, by go_num, rfl, HV, HW, hide2 (L.out.up (by omega))⟩
        case measure => simp [intOf]; omega
    · have d1 : decide ((n : Int) < (len : Int)) = false := by simp; omega
      have d2 : ¬ (n : Int) < (len : Int) := by omega
      have hen := end_any (n := 1) L.out.rp HV.out (by omega)
      have FIN : Hid (∀ w', Below w0.heap.size w0 w' → Below w.heap.size w w') := hide2 (fun w' hb => HB0.out.trans ⟨hb.os, hb.tape, hb.output, hb.size, fun j hj => hb.block j (by omega)⟩)
      rcases HW.out with ⟨rfl, hva⟩ | ⟨hw3, hw4, hva⟩
      · rw [hva] at hen
        have HEN := hide2 hen
        clear hen hva
        go_wp2_with fail
        refine HEN.out.mono ?_
        rintro e w4 ⟨rfl, a4⟩
        obtain ⟨K4, L4, -, -⟩ := L.out.step a4
        have HL4 := hide2 L4
        clear HEN a4 L4
        go_wp2
        go_ret
        exact ⟨rfl, FIN.out _ HL4.out.bl⟩
      · rw [hva] at hen
        have HEN := hide2 hen
        have dw1 : decide (won = 0) = false := by simp [hw3]
        have dw2 : (won == 0) = false := by simp [hw3]
        have dw3 : (won != 0) = true := by simp [hw3]
        clear hen hva
        go_wp2_with fail
        refine HEN.out.mono ?_
        rintro e w4 ⟨rfl, a4⟩
        obtain ⟨K4, L4, -, -⟩ := L.out.step a4
        have HL4 := hide2 L4
        clear HEN a4 L4
        go_wp2
        go_ret
        exact ⟨by simp [hw3], FIN.out _ HL4.out.bl⟩
end
end Go.Proofs.YtohgjpljobmpaaaDoor
