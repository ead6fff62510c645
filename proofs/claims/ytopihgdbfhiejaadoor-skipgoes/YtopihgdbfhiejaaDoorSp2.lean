/-
  The law's allMet.
-/
import Derived.Test.YtopihgdbfhiejaaDoorSn3
import Derived.BigQuiet
set_option linter.unusedVariables false
set_option linter.unusedSimpArgs false
namespace Go.Proofs.YtopihgdbfhiejaaDoor
open Go.RowKit Go.Maps Go.Sort

/-- A row of texts. -/
abbrev sk (k : ByteArray) : List Value := [.string k]
section
variable {w : World}
set_option maxRecDepth 100000 in
set_option maxHeartbeats 4000000 in
theorem allMet_any {ao bo : Option Addr} {n cap m bc : Nat} {ins : List AskR} {met : List ByteArray} (hi : Seq 5 AskR.cells w ao n cap ins) (hm : Seq 1 sk w bo m bc met) (hall : ∀ x ∈ ins, x.key ∈ met) :
    Calls Tryd.prog 29 #[.slice ao n cap, .slice bo m bc] w fun e w' => e = .returned (.bool true) ∧ ∃ q, w' = w.drewN q := by
  have hc1 := hi.2.1
  have hx1 := hi.2.2.1
  have hc2 := hm.2.1
  have hx2 := hm.2.2.1
  unfold maxLen at hx1 hx2
  have HI := hide2 hi
  have HM := hide2 hm
  have HALL := hide2 hall
  clear hi hm hall
  go_enter Tryd.func29, Tryd.ntmps29
  go_wp2
  go_loopw [5] (fun i wr => ∃ k q : Nat, k ≤ n ∧ i = .int .i64 k ∧ wr = w.drewN q) (fun i _ => n - (intOf i).toNat)
  case atStart => exact ⟨0, 0, by omega, rfl, rfl⟩
  case round =>
    obtain ⟨k, q, hk, rfl, hwr⟩ := hrel
    by_cases hkn : k < n
    · have hki : (k : Int) < (n : Int) := by omega
      obtain ⟨b, off, eo, hbl, hcell⟩ := HI.out.2.2.2 (by omega)
      obtain ⟨x, hx⟩ := some_at HI.out.1 hkn
      have HC : Hid (∀ q, (w.drewN q).cell? ⟨b, off + k * 5 + 2, none⟩ = some (.string x.key)) := hide2 (fun q => hcell k x hx 2 _ rfl)
      have HX : Hid (x.key ∈ met) := hide2 (HALL.out x (List.mem_of_getElem? hx))
      have HWR := hide2 hwr
      subst eo
      clear hcell hx hwr hbl
      go_wp2
      obtain ⟨wQ, hwQ⟩ : ∃ y, y = wr := ⟨_, rfl⟩
      subst hwQ
      go_loopw [6, 7] (fun c i wr => ∃ (t : Bool) (j q : Nat), j ≤ m ∧ c = .bool t ∧ i = .int .i64 j ∧ Hid (t = true ↔ x.key ∈ met.take j) ∧ Hid (wr = w.drewN q)) (fun _ i _ => m - (intOf i).toNat)
      case atStart => exact ⟨false, 0, q, by omega, rfl, rfl, hide2 (by simp), HWR⟩
      case round =>
        clear HWR
        obtain ⟨t, j, q2, hj, rfl, rfl, HT, HW⟩ := hrel
        have hw := HW.out
        by_cases hjm : j < m
        · have hji : (j : Int) < (m : Int) := by omega
          obtain ⟨b2, off2, eo2, hbl2, hcell2⟩ := HM.out.2.2.2 (by omega)
          obtain ⟨y, hy⟩ := some_at HM.out.1 hjm
          have c2 : wr.cell? ⟨b2, off2 + j, none⟩ = some (.string y) := by
            rw [hw]
            have := hcell2 j y hy 0 _ rfl
            simpa using this
          have c1 : wr.cell? ⟨b, off + k * 5 + 2, none⟩ = some (.string x.key) := by rw [hw]; exact HC.out q2
          have HN : Hid (∀ t2 : Bool, (t2 = true ↔ (t = true ∨ y = x.key)) → (t2 = true ↔ x.key ∈ met.take (j + 1))) := hide2 (fun t2 h2 => by
            rw [List.take_add_one, hy, List.mem_append, h2, HT.out]
            simp
            constructor
            · rintro (c | c)
              · exact .inl c
              · exact .inr c.symm
            · rintro (c | c)
              · exact .inl c
              · exact .inr c.symm)
          subst eo2
          clear hcell2 hy hw hbl2
          have HW2 : Hid (∀ nq, wr.drewN nq = w.drewN (q2 + nq)) := hide2 (fun nq => by rw [HW.out]; exact drewN_add _ _ _)
          cases t with
          | true =>
            go_wp2_with fail
            go_quiet (fail)
            go_wp2
            go_roundw
            case rel => exact ⟨true, j + 1, _, by omega, rfl, by go_num, hide2 (HN.out true (by simp)), hide2 (HW2.out _)⟩
            case measure => simp [intOf]; omega
          | false =>
            by_cases e9 : y = x.key
            · have K1 := same_yes e9
              have HE := hide2 e9
              clear e9
              go_wp2_with fail
              go_quiet (fail)
              go_wp2
              go_roundw
              case rel => exact ⟨true, j + 1, _, by omega, rfl, by go_num, hide2 (HN.out true (by simp [HE.out])), hide2 (HW2.out _)⟩
              case measure => simp [intOf]; omega
            · have K1 := same_no e9
              have HE := hide2 e9
              clear e9
              go_wp2_with fail
              go_quiet (fail)
              go_wp2
              go_roundw
              case rel => exact ⟨false, j + 1, _, by omega, rfl, by go_num, hide2 (HN.out false (by simp [HE.out])), hide2 (HW2.out _)⟩
              case measure => simp [intOf]; omega
        · have hji : ¬ (j : Int) < (m : Int) := by omega
          have ht : t = true := HT.out.2 (by
            rw [List.take_of_length_le (by rw [HM.out.1]; omega)]
            exact HX.out)
          subst ht
          clear hw
          go_wp2
          go_roundw
          case rel => exact ⟨k + 1, q2, by omega, by go_num, HW.out⟩
          case measure => simp [intOf]; omega
    · have hki : ¬ (k : Int) < (n : Int) := by omega
      have HWR := hide2 hwr
      clear hwr
      go_wp2
      go_ret
      exact ⟨rfl, q, HWR.out⟩
end
end Go.Proofs.YtopihgdbfhiejaaDoor
