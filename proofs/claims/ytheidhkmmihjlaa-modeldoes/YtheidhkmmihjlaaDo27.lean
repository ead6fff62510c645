/-
  Which commits are right, as the document says.
-/
import Derived.Test.YtheidhkmmihjlaaDo26
import Derived.WalkSmall
set_option linter.unusedVariables false
set_option linter.unusedSimpArgs false
namespace Go.Proofs.Ytheidhkmmihjlaa
open Go.RowKit

/-- The key ahead of a place. -/
def prevK (ws : List Wr) : Nat → ByteArray
  | 0 => ⟨#[]⟩
  | k + 1 => match ws[k]? with | some x => x.key | none => ⟨#[]⟩

section
variable {w : World} {ao : Option Addr} {len cap : Nat} {ws : List Wr}
set_option maxRecDepth 100000
set_option maxHeartbeats 4000000

theorem refRightCommit_any (t : Int) (h : Seq 3 Wr.cells w ao len cap ws) :
    Calls Try.prog 32 #[.agg #[.int .i64 t, .slice ao len cap]] w fun e w' => e = .returned (.bool (rightC ⟨t, ws⟩)) ∧ Below w.heap.size w w' := by
  have hx := h.1
  have hm : (len : Int) ≤ 9223372036854775807 := by have := h.2.1; have := h.2.2.1; unfold maxLen at this; omega
  have hb : Below w.heap.size w (w.alloc (.cells #[.int .i64 t, .slice ao len cap] 36)) := (Below.refl _ _).alloc (Nat.le_refl _) _
  have hbx : (w.alloc (.cells #[.int .i64 t, .slice ao len cap] 36)).cell? ⟨w.heap.size, 1, none⟩ = some (.slice ao len cap) := by
    rw [Go.Joins.cell_of_block (heap_alloc_new w _)]; rfl
  have hR0 : rightC ⟨t, ws⟩ = (isT t && decide (len ≤ 64) && upW ⟨#[]⟩ ws) := by unfold rightC; simp only [hx]
  generalize hR : rightC ⟨t, ws⟩ = R
  rw [hR] at hR0
  have HR := ehide3 hR0
  have HS := ehide3 h
  obtain ⟨c0, hc0⟩ : ∃ c, c = (isT t && decide (len ≤ 64)) := ⟨_, rfl⟩
  have hstart : ∃ (k : Nat) (b : Bool), k ≤ len ∧ Value.int .i64 0 = .int .i64 k ∧ Value.bool c0 = .bool b ∧ (b = false → R = false) ∧ (b = true → R = upW (prevK ws k) (ws.drop k)) := by
    refine ⟨0, c0, by omega, rfl, rfl, fun e => ?_, fun e => ?_⟩
    · rw [hR0, ← hc0, e]; rfl
    · rw [hR0, ← hc0, e]; rfl
  have HST := ehide3 hstart
  have HC := ehide3 hc0
  clear h hR hR0 hstart hc0
  have htime : ∀ u : World, Calls Try.prog 44 #[.int .i64 t] u fun e w' => e = .returned (.bool (isT t)) ∧ w' = u := fun u => timed_any u t
  cases ht : isT t with
  | false =>
    rw [ht] at htime
    have hRf : R = false := by rw [HR.out, ht]; rfl
    have HRf := ehide3 hRf
    clear hRf HST HC HR
    go_enter Try.func32, Try.ntmps32
    go_wp2_with (first
      | (go_at_call 44; refine (htime _).mono ?_; rintro e w' ⟨rfl, rfl⟩)
      | fail)
    go_loopw [3, 4] (fun o i wr => o = .bool false ∧ i = .int .i64 0 ∧ wr = (w.alloc (.cells #[.int .i64 t, .slice ao len cap] 36))) (fun _ i _ => 0)
    case atStart => exact ⟨rfl, rfl, rfl⟩
    case round =>
      obtain ⟨rfl, rfl, rfl⟩ := hrel
      by_cases h0 : (0 : Int) < (len : Int)
      all_goals go_wp2
      all_goals go_ret
      all_goals exact ⟨ret_boolB (by rw [HRf.out]), hb⟩
  | true =>
    rw [ht] at htime
    have ht2 := HC.out
    rw [ht] at ht2
    simp only [Bool.true_and] at ht2
    have HC2 := ehide3 ht2
    clear HC ht2
    go_enter Try.func32, Try.ntmps32
    go_wp2_with (first
      | (go_at_call 44; refine (htime _).mono ?_; rintro e w' ⟨rfl, rfl⟩)
      | fail)
    go_loopw [3, 4] (fun o i wr => ∃ (k : Nat) (b : Bool), k ≤ len ∧ i = .int .i64 k ∧ o = .bool b ∧ (b = false → R = false) ∧ (b = true → R = upW (prevK ws k) (ws.drop k)) ∧ Below (w.heap.size + 1) (w.alloc (.cells #[.int .i64 t, .slice ao len cap] 36)) wr) (fun _ i _ => len - (intOf i).toNat)
    case atStart =>
      obtain ⟨k, b, q1, q2, q3, q4, q5⟩ := HST.out
      rw [HC2.out] at q3
      exact ⟨k, b, q1, q2, by rw [← q3]; first | rfl | (simp; omega), q4, q5, Below.refl _ _⟩
    case round =>
      obtain ⟨k, bb, hk, rfl, rfl, hf, hT, hB⟩ := hrel
      have hsz := hB.size
      rw [show (w.alloc (.cells #[.int .i64 t, .slice ao len cap] 36)).heap.size = w.heap.size + 1 from by simp] at hsz
      have b1 : wr.cell? ⟨w.heap.size, 1, none⟩ = some (.slice ao len cap) := (hB.cell (p := ⟨w.heap.size, 1, none⟩) (by simp)).trans hbx
      have hBw : Below w.heap.size w wr := hb.trans (hB.mono (by omega))
      have HF := ehide3 hf
      have HT := ehide3 hT
      clear hf hT
      by_cases hkl : k < len
      case neg =>
        have hki : ¬ (k : Int) < (len : Int) := by omega
        have hd : ws.drop k = [] := List.drop_eq_nil_of_le (by omega)
        have hres : R = bb := by
          cases bb with
          | false => exact HF.out rfl
          | true => rw [HT.out rfl, hd]; rfl
        have HRES := ehide3 hres
        clear hres
        go_wp2
        go_ret
        exact ⟨ret_boolB HRES.out.symm, hBw⟩
      cases bb with
      | false =>
        have hki : (k : Int) < (len : Int) := by omega
        go_wp2
        go_ret
        exact ⟨ret_boolB (by first | exact (HF.out rfl).symm | exact (HF.out trivial).symm), hBw⟩
      | true =>
        obtain ⟨x, hxk⟩ : ∃ x, ws[k]? = some x := ⟨ws[k], List.getElem?_eq_getElem (by omega)⟩
        obtain ⟨b, off, rfl, hbl, hcell⟩ := HS.out.three (by omega)
        obtain ⟨q0, q1, q2⟩ := hcell k x _ _ _ hxk rfl
        have hd := drop_at hxk
        have r0 := (hBw.cell (p := ⟨b, off + k * 3, none⟩) hbl).trans q0
        have r1 := (hBw.cell (p := ⟨b, off + k * 3 + 1, none⟩) hbl).trans q1
        have r2 := (hBw.cell (p := ⟨b, off + k * 3 + 2, none⟩) hbl).trans q2
        have hki : (k : Int) < (len : Int) := by omega
        have hpn : prevK ws (k + 1) = x.key := by simp only [prevK, hxk]
        have hpp : 0 < k → w.cell? ⟨b, off + (k - 1) * 3, none⟩ = some (.string (prevK ws k)) := fun h0 => by
          obtain ⟨y, hy⟩ : ∃ y, ws[k - 1]? = some y := ⟨ws[k - 1], List.getElem?_eq_getElem (by omega)⟩
          obtain ⟨j, rfl⟩ : ∃ j, k = j + 1 := ⟨k - 1, by omega⟩
          simp only [Nat.add_sub_cancel] at hy ⊢
          have := (hcell j y _ _ _ hy rfl).1
          rw [this]
          simp only [prevK, hy]
        obtain ⟨kk, vv, gg⟩ := x
        simp only [] at r0 r1 r2 hpn
        have HE : R = (okW ⟨kk, vv, gg⟩ && slt (prevK ws k) kk && upW kk (ws.drop (k + 1))) := by rw [HT.out rfl, hd]; rfl
        have HE3 := ehide3 HE
        have HPN := ehide3 hpn
        have HPP := ehide3 hpp
        have hB1 : Below (w.heap.size + 1) (w.alloc (.cells #[.int .i64 t, .slice (some ⟨b, off, none⟩) len cap] 36)) (wr.alloc (.cells #[.string kk, .string vv, .bool gg] 61)) := hB.alloc (by omega) _
        clear HE hcell q0 q1 q2 hd hxk HT HF hpn hpp HST HR
        obtain ⟨n0, n1, n2⟩ := cell_new3 (w := wr) (a := .string kk) (b := .string vv) (c := .bool gg) (t := 61)
        have hKey : ∀ u : World, Calls Try.prog 23 #[.string kk] u fun e w' => e = .returned (.bool (isK kk)) ∧ w' = u := fun u => refKey_any u kk
        have hVal : ∀ u : World, Calls Try.prog 24 #[.string vv] u fun e w' => e = .returned (.bool (isV vv)) ∧ w' = u := fun u => refVal_any u vv
        have hemp := isEmpty_eq vv
        -- what the round finds
        obtain ⟨ok, hok⟩ : ∃ ok, ok = (okW ⟨kk, vv, gg⟩ && (decide (k = 0) || slt (prevK ws k) kk)) := ⟨_, rfl⟩
        have hrel2 : (ok = false → R = false) ∧ (ok = true → R = upW kk (ws.drop (k + 1))) := by
          have e1 : (okW ⟨kk, vv, gg⟩ && (decide (k = 0) || slt (prevK ws k) kk)) = (okW ⟨kk, vv, gg⟩ && slt (prevK ws k) kk) := by
            by_cases h0 : k = 0
            · subst h0
              simp only [prevK, slt_empty]
              cases e : okW ⟨kk, vv, gg⟩ with
              | false => rfl
              | true =>
                simp only [okW, isK, Bool.and_eq_true] at e
                simp [of_decide_eq_true e.1.1.1]
            · simp [h0]
          rw [e1] at hok
          have e2 := HE3.out
          rw [← hok] at e2
          refine ⟨fun e => by rw [e2, e]; rfl, fun e => by rw [e2, e]; rfl⟩
        have HREL := ehide3 hrel2
        have HOK := ehide3 hok
        clear hok hrel2 HE3
        have goal : ∀ ok', ok' = ok → ∀ nq : Nat, ∃ (k' : Nat) (b' : Bool), k' ≤ len ∧ Value.int .i64 ((k : Int) + 1) = .int .i64 k' ∧ Value.bool ok' = .bool b' ∧ (b' = false → R = false) ∧ (b' = true → R = upW (prevK ws k') (ws.drop k')) ∧ Below (w.heap.size + 1) (w.alloc (.cells #[.int .i64 t, .slice (some ⟨b, off, none⟩) len cap] 36)) ((wr.alloc (.cells #[.string kk, .string vv, .bool gg] 61)).drewN nq) := by
          rintro ok' rfl nq
          exact ⟨k + 1, ok', by omega, by go_num, rfl, HREL.out.1, fun e => by rw [HPN.out]; exact HREL.out.2 e, below_drewN hB1 nq⟩
        cases hk1 : isK kk with
        | false =>
          rw [hk1] at hKey
          have hfin := goal false (by rw [HOK.out]; simp [okW, hk1])
          have HG := ehide3 hfin
          clear hfin goal
          go_wp2_with fail
          go_quiet (first
            | (go_at_call 23; exact Calls.quiet_of_same (hKey _)))
          go_wp2
          go_roundw
          case rel => exact HG.out _
          case measure => simp [intOf]; omega
        | true =>
        cases hv1 : isV vv with
        | false =>
          rw [hk1] at hKey
          rw [hv1] at hVal
          have hfin := goal false (by rw [HOK.out]; simp [okW, hk1, hv1])
          have HG := ehide3 hfin
          clear hfin goal
          go_wp2_with fail
          go_quiet (first
            | (go_at_call 23; exact Calls.quiet_of_same (hKey _))
            | (go_at_call 24; exact Calls.quiet_of_same (hVal _)))
          go_wp2
          go_roundw
          case rel => exact HG.out _
          case measure => simp [intOf]; omega
        | true =>
        rw [hk1] at hKey
        rw [hv1] at hVal
        by_cases hg : gg = true ∧ ¬ vv.size = 0
        · obtain ⟨rfl, hz⟩ := hg
          rw [decide_eq_false hz] at hemp
          have hfin := goal false (by rw [HOK.out]; simp [okW, hz])
          have HG := ehide3 hfin
          clear hfin goal
          go_wp2_with fail
          go_quiet (first
            | (go_at_call 23; exact Calls.quiet_of_same (hKey _))
            | (go_at_call 24; exact Calls.quiet_of_same (hVal _)))
          go_wp2
          go_roundw
          case rel => exact HG.out _
          case measure => simp [intOf]; omega
        have hgo : okW ⟨kk, vv, gg⟩ = true := by
          simp only [okW, hk1, hv1, Bool.true_and]
          cases gg with
          | false => rfl
          | true =>
            have : vv.size = 0 := by
              rcases Nat.decEq vv.size 0 with h | h
              · exact absurd ⟨rfl, h⟩ hg
              · exact h
            simp [this]
        have hgz : gg = false ∨ (gg = true ∧ vv.size = 0) := by
          cases gg with
          | false => exact .inl rfl
          | true =>
            refine .inr ⟨rfl, ?_⟩
            rcases Nat.decEq vv.size 0 with h | h
            · exact absurd ⟨rfl, h⟩ hg
            · exact h
        clear hg
        by_cases h0 : k = 0
        · have hfin := goal true (by rw [HOK.out, hgo]; simp [h0])
          have hk0 : ((k : Int) == 0) = true := by simp; omega
          have hk0' : decide ((k : Int) = 0) = true := by simp; omega
          have H0 := ehide3 h0
          clear h0
          have HG := ehide3 hfin
          clear hfin goal
          rcases hgz with rfl | ⟨rfl, hz⟩
          · go_wp2_with fail
            go_quiet (first
              | (go_at_call 23; exact Calls.quiet_of_same (hKey _))
              | (go_at_call 24; exact Calls.quiet_of_same (hVal _)))
            go_wp2
            go_roundw
            case rel => exact HG.out _
            case measure => simp [intOf]; omega
          · rw [decide_eq_true hz] at hemp
            go_wp2_with fail
            go_quiet (first
              | (go_at_call 23; exact Calls.quiet_of_same (hKey _))
              | (go_at_call 24; exact Calls.quiet_of_same (hVal _)))
            go_wp2
            go_roundw
            case rel => exact HG.out _
            case measure => simp [intOf]; omega
        · obtain ⟨j, hj⟩ : ∃ j : Nat, (k : Int) - 1 = (j : Int) := ⟨k - 1, by omega⟩
          have hj2 : k - 1 = j := by omega
          have hpc := (hBw.cell (p := ⟨b, off + (k - 1) * 3, none⟩) hbl).trans (HPP.out (by omega))
          rw [hj2] at hpc
          have hpc2 : (wr.alloc (.cells #[.string kk, .string vv, .bool gg] 61)).cell? ⟨b, off + j * 3, none⟩ = some (.string (prevK ws k)) := by
            rw [← hpc]
            exact ((Below.refl wr.heap.size wr).alloc (Nat.le_refl _) _).cell (p := ⟨b, off + j * 3, none⟩) (Nat.lt_of_lt_of_le hbl hBw.size)
          have hjl : (j : Int) < (len : Int) := by omega
          have hwr : IntKind.i64.wrap ((k : Int) - 1) = (j : Int) := by
            rw [hj]
            exact IntWalk.i64_in _ (by omega)
          have hk0 : ((k : Int) == 0) = false := by simp; omega
          have hk0' : decide ((k : Int) = 0) = false := by simp; omega
          have hk0'' : ¬ (k : Int) = 0 := by omega
          have b2 : (wr.alloc (.cells #[.string kk, .string vv, .bool gg] 61)).cell? ⟨w.heap.size, 1, none⟩ = some (.slice (some ⟨b, off, none⟩) len cap) := by
            rw [← b1]
            exact ((Below.refl wr.heap.size wr).alloc (Nat.le_refl _) _).cell (p := ⟨w.heap.size, 1, none⟩) (by simp only []; omega)
          have hj63 : (j : Int) ≤ 9223372036854775807 := by omega
          have hkk1 : (1 : Int) ≤ (k : Int) := by omega
          generalize prevK ws k = pk at *
          cases hs : slt pk kk
          all_goals have hs2 := hs
          all_goals unfold slt at hs2
          · have hfin := goal false (by rw [HOK.out, hs]; simp [h0])
            have HG := ehide3 hfin
            clear hfin goal
            rcases hgz with rfl | ⟨rfl, hz⟩
            · go_wp2_with fail
              go_quiet (first
                | (go_at_call 23; exact Calls.quiet_of_same (hKey _))
                | (go_at_call 24; exact Calls.quiet_of_same (hVal _)))
              go_wp2
              go_roundw
              case rel => exact HG.out _
              case measure => simp [intOf]; omega
            · rw [decide_eq_true hz] at hemp
              go_wp2_with fail
              go_quiet (first
                | (go_at_call 23; exact Calls.quiet_of_same (hKey _))
                | (go_at_call 24; exact Calls.quiet_of_same (hVal _)))
              go_wp2
              go_roundw
              case rel => exact HG.out _
              case measure => simp [intOf]; omega
          · have hfin := goal true (by rw [HOK.out, hgo, hs]; simp)
            have HG := ehide3 hfin
            clear hfin goal
            rcases hgz with rfl | ⟨rfl, hz⟩
            · go_wp2_with fail
              go_quiet (first
                | (go_at_call 23; exact Calls.quiet_of_same (hKey _))
                | (go_at_call 24; exact Calls.quiet_of_same (hVal _)))
              go_wp2
              go_roundw
              case rel => exact HG.out _
              case measure => simp [intOf]; omega
            · rw [decide_eq_true hz] at hemp
              go_wp2_with fail
              go_quiet (first
                | (go_at_call 23; exact Calls.quiet_of_same (hKey _))
                | (go_at_call 24; exact Calls.quiet_of_same (hVal _)))
              go_wp2
              go_roundw
              case rel => exact HG.out _
              case measure => simp [intOf]; omega
end
end Go.Proofs.Ytheidhkmmihjlaa
