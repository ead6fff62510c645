/-
  The walk of the law FramePokes.
-/
import Derived.Test.YtaibldodlbaknaaP2
set_option linter.unusedVariables false
set_option linter.unusedSimpArgs false
namespace Go.Proofs.Ytaibldodlbaknaa
open Go.RowKit

set_option maxHeartbeats 8000000 in
theorem pokes_walk (ao : Option Addr) (len cap : Nat) (ps : List (List Int)) (F : Int) (at_ by_ : Int) (w : World) (h : Pl w ao len cap ps) (h0 : 0 ≤ F) (h1 : F ≤ 18446744073709551615) (hat0 : -9223372036854775808 ≤ at_) (hat1 : at_ ≤ 9223372036854775807) (hby : 0 ≤ by_ ∧ by_ ≤ 255) :
    Calls Try.prog 7 #[.int .u64 F, .slice ao len cap, .int .i64 at_, .int .u8 by_] w fun e w' => e = .returned (.bool true) ∧ Below w.heap.size w w' := by
  obtain ⟨N, hN⟩ : ∃ N : Nat, F = (N : Int) ∧ N < 18446744073709551616 := ⟨F.toNat, by omega, by omega⟩
  obtain ⟨rfl, hN⟩ := hN
  have hpl := h.1
  have hlen : (len : Int) ≤ 9223372036854775807 := by have := h.2.1; have := h.2.2.1; unfold maxLen at this; omega
  obtain ⟨m, hm⟩ : ∃ m, m = min len 12 := ⟨_, rfl⟩
  have hml : m ≤ len := by omega
  have hm12 : m ≤ 12 := by omega
  have hmx : Hid (∀ i, i < m ↔ i < len ∧ i < 12) := by unfold Hid; omega
  have hmH := hF hm
  clear hm
  go_enter Try.func7, Try.ntmps7
  go_wp2_with fail
  refine (shown_any w).mono ?_
  rintro e w1 ⟨rfl, hb1⟩
  have hP1 := h.below hb1
  have hpc : Hid (∀ i, i < len → ∃ b off a2 c2, ao = some ⟨b, off, none⟩ ∧ w1.cell? ⟨b, off + i, none⟩ = some (.slice a2 (ps.getD i []).length c2) ∧ ((ps.getD i []).length : Int) ≤ 9223372036854775807) := fun i hi => by
    obtain ⟨b, off, e, _, hc⟩ := hP1.2.2.2 (by omega)
    obtain ⟨a2, l2, c2, hc2, hs2⟩ := hc i hi
    have h3 := hs2.2.1
    have h4 := hs2.2.2.1
    obtain rfl := hs2.1
    exact ⟨b, off, a2, c2, e, hc2, by unfold maxLen at h4; omega⟩
  replace hP1 := hF hP1
  replace h := hF h
  go_wp2
  go_loopw [10, 11] (fun s i wr => ∃ k : Nat, k ≤ m ∧ s = .int .i64 ((su ps k : Nat) : Int) ∧ i = .int .i64 (k : Int) ∧ wr = w1) (fun _ i _ => 64 - (intOf i).toNat)
  case atStart => exact ⟨0, by omega, rfl, rfl, rfl⟩
  case round =>
    obtain ⟨k, hk, rfl, rfl, hw⟩ := hrel
    replace hw := hw.symm
    subst hw
    have hsu := su_le ps k
    by_cases hlt : k < m
    · obtain ⟨hk1, hk2⟩ := (hmx.out k).1 hlt
      have hk1i : (k : Int) < (len : Int) := by omega
      have hk2i : (k : Int) < 12 := by omega
      have hkd1 : decide ((k : Int) < (len : Int)) = true := by simp; omega
      have hkd2 : decide ((k : Int) < 12) = true := by simp; omega
      have hkd3 : decide (k < len) = true := by simp; omega
      have hkd4 : decide (k < 12) = true := by simp; omega
      obtain ⟨b, off, a2, c2, rfl, hc2, hlb⟩ := hpc.out k hk1
      have hsn : Hid (su ps (k + 1) = su ps k + min (ps.getD k []).length 100000) := rfl
      generalize (ps.getD k []).length = L at *
      generalize su ps k = S at *
      by_cases hL : 100000 < L
      · have hLi : (100000 : Int) < (L : Int) := by omega
        rw [Nat.min_eq_right (by omega)] at hsn
        go_wp2
        go_roundw
        case rel => exact ⟨k + 1, by omega, by rw [hsn.out]; go_num, by go_num, by simp⟩
        case measure => simp [intOf]; omega
      · have hLi : ¬ (100000 : Int) < (L : Int) := by omega
        rw [Nat.min_eq_left (by omega)] at hsn
        go_wp2
        go_roundw
        case rel => exact ⟨k + 1, by omega, by rw [hsn.out]; go_num, by go_num, by simp⟩
        case measure => simp [intOf]; omega
    · have hkm : k = m := by omega
      subst hkm
      have hcase : (k < len ∧ ¬ k < 12) ∨ ¬ k < len := by
        by_cases hkl : k < len
        · exact .inl ⟨hkl, fun q => hlt ((hmx.out k).2 ⟨hkl, q⟩)⟩
        · exact .inr hkl
      have hsmall : Hid (su ps k ≤ 5000 → ∀ i, i < k → (ps.getD i []).length ≤ 65536) := fun hs i hi => by
        have := su_at ps k i hi
        omega
      generalize su ps k = S at *
      clear hpc hmx
      have hfacts : ∃ d1 d2 : Bool, decide ((k : Int) < (len : Int)) = d1 ∧ decide (k < len) = d1 ∧ decide ((k : Int) < 12) = d2 ∧ decide (k < 12) = d2 ∧ (d1 = false ∨ d2 = false) := by
        rcases hcase with ⟨hkl, hk12⟩ | hkl
        · exact ⟨true, false, by simp; omega, by simp; omega, by simp; omega, by simp; omega, .inr rfl⟩
        · by_cases hk12 : k < 12
          · exact ⟨false, true, by simp; omega, by simp; omega, by simp; omega, by simp; omega, .inl rfl⟩
          · exact ⟨false, false, by simp; omega, by simp; omega, by simp; omega, by simp; omega, .inl rfl⟩
      obtain ⟨d1, d2, hd1, hd2, hd3, hd4, hdd⟩ := hfacts
      have hk12 : k ≤ 12 := hm12
      clear hcase hlt hk hml hm12
      by_cases hS : 5000 < S
      · have hSi : (5000 : Int) < (S : Int) := by omega
        have hSd : decide ((5000 : Int) < (S : Int)) = true := by simp; omega
        have hSd2 : decide (5000 < S) = true := by simp; omega
        clear hsmall hsu
        cases d1 <;> cases d2 <;> first | (exfalso; simp at hdd; done) | skip
        all_goals
          go_wp2
          go_ret
          exact ⟨by first | rfl | (simp; done), hb1⟩
      have hSi : ¬ (5000 : Int) < (S : Int) := by omega
      have hSd : decide ((5000 : Int) < (S : Int)) = false := by simp; omega
      have hSd2 : decide (5000 < S) = false := by simp; omega
      by_cases hNb : 4611686018427387904 < N
      · have hNi : (4611686018427387904 : Int) < (N : Int) := by omega
        have hNd : decide ((4611686018427387904 : Int) < (N : Int)) = true := by simp; omega
        have hNd2 : decide (4611686018427387904 < N) = true := by simp; omega
        clear hsmall hsu
        cases d1 <;> cases d2 <;> first | (exfalso; simp at hdd; done) | skip
        all_goals
          go_wp2
          go_ret
          exact ⟨by first | rfl | (simp; done), hb1⟩
      have hNi : ¬ (4611686018427387904 : Int) < (N : Int) := by omega
      have hNd : decide ((4611686018427387904 : Int) < (N : Int)) = false := by simp; omega
      have hNd2 : decide (4611686018427387904 < N) = false := by simp; omega
      have hput := hF (lput_ok ao len cap ps N 12 k w1 hP1.out hN (by omega) hmH.out (hsmall.out (by omega)))
      have htkl : (ps.take k).length = k := by
        have := hmH.out
        simp; omega
      clear hsmall hsu
      replace htkl := hF htkl
      cases d1 <;> cases d2 <;> first | (exfalso; simp at hdd; done) | skip
      all_goals
        go_wp2_with fail
        refine hput.out.mono ?_
        rintro e w2 ⟨⟨av, lv, cv, ae, ce, rfl, hown, hen, hok, hlv⟩, hb2⟩
        have hb02 : Below w.heap.size w w2 := hb1.trans (hb2.mono hb1.size)
        have hP2 := hF (hP1.out.below hb2)
        clear hput hb2 hd1 hd2 hd3 hd4 hdd
        have hlb : lv ≤ 2000000 := by
          have h1 := eo_bound _ hok
          rw [htkl.out] at h1
          omega
        have hli : (lv : Int) ≤ 2000000 := by omega
        replace hlv := hF hlv
        replace hok := hF hok
        replace hown := hF hown
        replace hen := hF hen
        have hkl0 : Hid (lv = 0 ↔ k = 0) := by
          unfold Hid
          rw [hlv.out]
          constructor
          · intro e
            cases hk0 : ps.take k with
            | nil => have := htkl.out; rw [hk0] at this; exact this.symm
            | cons b bs =>
              rw [hk0, eo] at e
              have := nb_pos b.length
              omega
          · rintro rfl
            rfl
        by_cases hl0 : lv = 0
        · have hk0 : k = 0 := hkl0.out.1 hl0
          subst hl0
          subst hk0
          clear hen hown hok hP2 hkl0
          go_wp2
          go_ret
          exact ⟨by first | rfl | (simp; done), hb02⟩
        have hk0 : ¬ k = 0 := fun e => hl0 (hkl0.out.2 e)
        have hl0i : ((lv : Int) == 0) = false := by simp; omega
        have hk0i : ((k : Int) == 0) = false := by simp; omega
        have hl0n : (lv == 0) = false := by simpa using hl0
        have hk0n : (k == 0) = false := by simpa using hk0
        have hl0j : ¬ (lv : Int) = 0 := by omega
        by_cases hb0 : by_ = 0
        · subst hb0
          clear hen hown hok hP2 hkl0
          go_wp2
          go_ret
          exact ⟨by first | rfl | (simp; done), hb02⟩
        have hb0i : (by_ == 0) = false := by simpa using hb0
        obtain ⟨A, hA⟩ : ∃ A : Nat, (at_ < 0 ∧ -(at_ + 1) = (A : Int)) ∨ (0 ≤ at_ ∧ at_ = (A : Int)) := by
          by_cases hn : at_ < 0
          · exact ⟨(-(at_ + 1)).toNat, .inl ⟨hn, by omega⟩⟩
          · exact ⟨at_.toNat, .inr ⟨by omega, by omega⟩⟩
        obtain ⟨P, hP⟩ : ∃ P : Nat, P = A % lv := ⟨_, rfl⟩
        have hPl : P < lv := by rw [hP]; exact Nat.mod_lt _ (by omega)
        have hPm : (A : Int) % (lv : Int) = (P : Int) := by rw [hP]; omega
        have hAb : (A : Int) ≤ 9223372036854775807 := by omega
        clear hP
        have hpos0 : (0 : Int) ≤ (P : Int) := by omega
        rcases hA with ⟨hn, hA⟩ | ⟨hn, hA⟩
        · have hnd : decide (at_ < 0) = true := by simpa using hn
          go_wp2
          simp only [hPm]
          replace hPm := hF hPm
          replace hA := hF hA
          go_loopw [15] (fun i wr => ∃ j : Nat, j < k ∧ i = .int .i64 (j : Int) ∧ Hid (eo (ps.take j) ≤ P) ∧ wr = w2) (fun i _ => 64 - (intOf i).toNat)
          case atStart => exact ⟨0, by omega, rfl, Nat.zero_le _, rfl⟩
          case round =>
            obtain ⟨j, hj, rfl, hjP, hw⟩ := hrel
            replace hw := hw.symm
            subst hw
            obtain ⟨ge, hge, hce⟩ := hen.out.cell j hj
            have hgeH := hF hge
            by_cases hle : eo (ps.take (j + 1)) ≤ P
            · have hle' := hF hle
              have hj1 : j + 1 < k := by
                rcases Nat.lt_or_ge (j + 1) k with q | q
                · exact q
                · rw [show j + 1 = k from by omega, ← hlv.out] at hle
                  omega
              have hlei : ((eo (ps.take (j + 1)) : Nat) : Int) ≤ (P : Int) := by omega
              generalize eo (ps.take (j + 1)) = E at hce hlei hle
              subst hge
              go_wp2
              go_roundw
              case rel => exact ⟨j + 1, hj1, by go_num, hle', by simp⟩
              case measure => simp [intOf]; omega
            · have hlei : ¬ ((eo (ps.take (j + 1)) : Nat) : Int) ≤ (P : Int) := by omega
              have hlt2 : P < eo (ps.take (j + 1)) := by omega
              have hfl : (fras N (ps.take k)).length = lv := by rw [fras_len, hlv.out]
              have hfb := fras_byt N _ hok.out
              have hxb := hfb.getD P
              obtain ⟨z, hxo, hz0, hz1, hne⟩ := xor8 ((fras N (ps.take k)).getD P 0) by_ hxb.1 hxb.2 hby.1 hby.2 hb0
              obtain ⟨g, c, e1, hg1, hg2, hcg, hfg, hown3⟩ := hown.out.form P (by omega) z
              rw [hfl] at e1 hown3
              simp only [Value.slice.injEq, true_and] at e1
              obtain ⟨rfl, rfl⟩ := e1
              have hw3e : ∃ w3, w3 = w2.setCell ⟨g, P, none⟩ (.int .u8 z) := ⟨_, rfl⟩
              obtain ⟨w3, hw3⟩ := hw3e
              have hen3 : En w3 w1.heap.size (.slice ae k ce) ps k := by rw [hw3]; exact hen.out.other hown.out
              have hb3 : Below w.heap.size w w3 := by rw [hw3]; exact hb02.setCell (by have := hb1.size; simp; omega) _
              rw [← hw3] at hown3
              have hfb3 : Byt ((fras N (ps.take k)).set P z) := hfb.set _ ⟨hz0, hz1⟩
              have hsl3 : Sl w3 (some ⟨g, 0, none⟩) lv cv ((fras N (ps.take k)).set P z) := by
                obtain ⟨a9, l9, c9, e9, hs9, _⟩ := hown3.sl' hfb3
                simp only [Value.slice.injEq] at e9
                obtain ⟨rfl, rfl, rfl⟩ := e9
                exact hs9
              have ett : ∀ i, i ≤ k → (ps.take k).take i = ps.take i := fun i hi => by rw [List.take_take, Nat.min_eq_left hi]
              have hT := take_poked (bs := ps.take k) (first := N) (i := j) (at_ := P) (z := z) hok.out (by omega) (by rw [htkl.out]; exact hj) (by rw [htkl.out]; omega) (by rw [ett j (by omega)]; exact hjP.out) (by rw [ett (j + 1) (by omega)]; exact hlt2) ⟨hz0, hz1⟩ hne (some ⟨g, 0, none⟩) lv cv w3 hsl3
              have hA4 := fun (w4 : World) (hs : Sl w4 (some ⟨g, 0, none⟩) lv cv ((fras N (ps.take k)).set P z)) => all_poked (bs := ps.take k) (first := N) (i := j) (at_ := P) (z := z) hok.out (by omega) (by rw [htkl.out]; exact hj) (by rw [htkl.out]; omega) (by rw [ett j (by omega)]; exact hjP.out) (by rw [ett (j + 1) (by omega)]; exact hlt2) ⟨hz0, hz1⟩ hne (some ⟨g, 0, none⟩) lv cv w4 hs
              rw [ett j (by omega), htkl.out] at hA4
              rw [ett j (by omega)] at hT
              replace hA4 := hF hA4
              have hxo2 : bits BinOp.xor IntKind.u8 ((fras N (ps.take k)).getD P 0) by_ = z := hxo
              have hsl3H := hF hsl3
              have hPi : (P : Int) < (lv : Int) := by omega
              generalize (fras N (ps.take k)).getD P 0 = old at *
              generalize hE1 : eo (ps.take (j + 1)) = E1 at *
              replace hE1 := hF hE1
              replace hw3 := hF hw3
              clear hxo hown3 hsl3 ett hfl
              by_cases hj0 : j = 0
              · subst hj0
                replace hT : Hid (Calls Try.prog 15 #[.slice (some ⟨g, 0, none⟩) lv cv, .int .i64 0] w3 fun e w' => e = .returned (.tuple #[.int .u64 0, .slice none 0 0, .int .i64 0, .bool false]) ∧ Below w3.heap.size w3 w') := hT
                replace hA4 : Hid (∀ (w4 : World), Sl w4 (some ⟨g, 0, none⟩) lv cv ((fras N (ps.take k)).set P z) → Calls Try.prog 17 #[.slice (some ⟨g, 0, none⟩) lv cv, .int .u64 (N : Int)] w4 fun e w' => (e = .returned (.tuple #[.slice none 0 0, .int .i64 0, .int .i64 41]) ∨ (0 + 1 = k ∧ ∃ av cv, e = .returned (.tuple #[.slice av 0 cv, .int .i64 0, .int .i64 0]) ∧ Bs w' w4.heap.size (.slice av 0 cv) (ps.take 0))) ∧ Below w4.heap.size w4 w') := hA4
                subst hge
                go_wp2_with fail
                rw [← hw3.out]
                refine hT.out.mono ?_
                rintro e w4 ⟨rfl, hb4⟩
                have hb04 := hb3.trans (hb4.mono hb3.size)
                have hAll := hF (hA4.out w4 (hsl3H.out.below hb4))
                clear hA4 hT hcg hfg hce
                go_wp2_with fail
                refine hAll.out.mono ?_
                rintro e w5 ⟨hr, hb5⟩
                have hb05 := hb04.trans (hb5.mono hb04.size)
                clear hAll hb4 hb04
                rcases hr with rfl | ⟨hlast, a6, c6, rfl, hBs⟩
                · clear hb5
                  go_wp2
                  go_ret
                  exact ⟨by first | rfl | (simp; done), hb05⟩
                · have hP5 := h.out.below hb05
                  have hbeg := hF (begin_any _ ao len cap ps _ 0 _ w5 hP5 hBs rfl)
                  have hlasti : ((0 : Int) == (k : Int) - 1) = true := by simp; omega
                  have hlastj : (k : Int) - 1 = 0 := by omega
                  replace hlast := hF hlast
                  clear hBs hP5
                  go_wp2_with fail
                  refine hbeg.out.mono ?_
                  rintro e w6 ⟨rfl, q6, hw6⟩
                  have hb06 : Below w.heap.size w w6 := by rw [hw6]; exact below_drewN hb05 _
                  clear hbeg hw6 hb05 hb5
                  go_wp2
                  go_ret
                  exact ⟨by first | rfl | (simp; done), hb06⟩
              · obtain ⟨i0, rfl⟩ : ∃ i0, j = i0 + 1 := ⟨j - 1, by omega⟩
                obtain ⟨ge2, hge2, hce2⟩ := hen3.cell i0 (by omega)
                have hT' := hF hT
                have hjp : (0 : Int) < ((i0 + 1 : Nat) : Int) := by omega
                generalize hEj : eo (ps.take (i0 + 1)) = Ej at *
                replace hEj := hF hEj
                subst hge
                simp only [Option.some.injEq, Addr.mk.injEq, and_true] at hge2
                subst hge2
                have hce3 : (w2.setCell ⟨g, P, none⟩ (.int .u8 z)).cell? ⟨ge, i0, none⟩ = some (.int .i64 ((Ej : Nat) : Int)) := by rw [← hw3.out]; exact hce2
                clear hT hj0 hce2
                go_wp2_with fail
                rw [← hw3.out]
                refine hT'.out.mono ?_
                rintro e w4 ⟨rfl, hb4⟩
                have hb04 := hb3.trans (hb4.mono hb3.size)
                have hAll := hF (hA4.out w4 (hsl3H.out.below hb4))
                clear hA4 hT' hcg hfg hce hce3
                go_wp2_with fail
                refine hAll.out.mono ?_
                rintro e w5 ⟨hr, hb5⟩
                have hb05 := hb04.trans (hb5.mono hb04.size)
                clear hAll hb4 hb04
                rcases hr with rfl | ⟨hlast, a6, c6, rfl, hBs⟩
                · clear hb5
                  go_wp2
                  go_ret
                  exact ⟨by first | rfl | (simp; done), hb05⟩
                · have hP5 := h.out.below hb05
                  have hbeg := hF (begin_any _ ao len cap ps _ (i0 + 1) _ w5 hP5 hBs rfl)
                  have hlasti : (((i0 + 1 : Nat) : Int) == (k : Int) - 1) = true := by simp; omega
                  have hlastj : (k : Int) - 1 = (i0 : Int) + 1 := by omega
                  replace hlast := hF hlast
                  clear hBs hP5
                  go_wp2_with fail
                  refine hbeg.out.mono ?_
                  rintro e w6 ⟨rfl, q6, hw6⟩
                  have hb06 : Below w.heap.size w w6 := by rw [hw6]; exact below_drewN hb05 _
                  clear hbeg hw6 hb05 hb5
                  go_wp2
                  go_ret
                  exact ⟨by first | rfl | (simp; done), hb06⟩
        · have hnd : decide (at_ < 0) = false := by simp; omega
          subst hA
          have hA : True := trivial
          go_wp2
          simp only [hPm]
          replace hPm := hF hPm
          replace hA := hF hA
          go_loopw [15] (fun i wr => ∃ j : Nat, j < k ∧ i = .int .i64 (j : Int) ∧ Hid (eo (ps.take j) ≤ P) ∧ wr = w2) (fun i _ => 64 - (intOf i).toNat)
          case atStart => exact ⟨0, by omega, rfl, Nat.zero_le _, rfl⟩
          case round =>
            obtain ⟨j, hj, rfl, hjP, hw⟩ := hrel
            replace hw := hw.symm
            subst hw
            obtain ⟨ge, hge, hce⟩ := hen.out.cell j hj
            have hgeH := hF hge
            by_cases hle : eo (ps.take (j + 1)) ≤ P
            · have hle' := hF hle
              have hj1 : j + 1 < k := by
                rcases Nat.lt_or_ge (j + 1) k with q | q
                · exact q
                · rw [show j + 1 = k from by omega, ← hlv.out] at hle
                  omega
              have hlei : ((eo (ps.take (j + 1)) : Nat) : Int) ≤ (P : Int) := by omega
              generalize eo (ps.take (j + 1)) = E at hce hlei hle
              subst hge
              go_wp2
              go_roundw
              case rel => exact ⟨j + 1, hj1, by go_num, hle', by simp⟩
              case measure => simp [intOf]; omega
            · have hlei : ¬ ((eo (ps.take (j + 1)) : Nat) : Int) ≤ (P : Int) := by omega
              have hlt2 : P < eo (ps.take (j + 1)) := by omega
              have hfl : (fras N (ps.take k)).length = lv := by rw [fras_len, hlv.out]
              have hfb := fras_byt N _ hok.out
              have hxb := hfb.getD P
              obtain ⟨z, hxo, hz0, hz1, hne⟩ := xor8 ((fras N (ps.take k)).getD P 0) by_ hxb.1 hxb.2 hby.1 hby.2 hb0
              obtain ⟨g, c, e1, hg1, hg2, hcg, hfg, hown3⟩ := hown.out.form P (by omega) z
              rw [hfl] at e1 hown3
              simp only [Value.slice.injEq, true_and] at e1
              obtain ⟨rfl, rfl⟩ := e1
              have hw3e : ∃ w3, w3 = w2.setCell ⟨g, P, none⟩ (.int .u8 z) := ⟨_, rfl⟩
              obtain ⟨w3, hw3⟩ := hw3e
              have hen3 : En w3 w1.heap.size (.slice ae k ce) ps k := by rw [hw3]; exact hen.out.other hown.out
              have hb3 : Below w.heap.size w w3 := by rw [hw3]; exact hb02.setCell (by have := hb1.size; simp; omega) _
              rw [← hw3] at hown3
              have hfb3 : Byt ((fras N (ps.take k)).set P z) := hfb.set _ ⟨hz0, hz1⟩
              have hsl3 : Sl w3 (some ⟨g, 0, none⟩) lv cv ((fras N (ps.take k)).set P z) := by
                obtain ⟨a9, l9, c9, e9, hs9, _⟩ := hown3.sl' hfb3
                simp only [Value.slice.injEq] at e9
                obtain ⟨rfl, rfl, rfl⟩ := e9
                exact hs9
              have ett : ∀ i, i ≤ k → (ps.take k).take i = ps.take i := fun i hi => by rw [List.take_take, Nat.min_eq_left hi]
              have hT := take_poked (bs := ps.take k) (first := N) (i := j) (at_ := P) (z := z) hok.out (by omega) (by rw [htkl.out]; exact hj) (by rw [htkl.out]; omega) (by rw [ett j (by omega)]; exact hjP.out) (by rw [ett (j + 1) (by omega)]; exact hlt2) ⟨hz0, hz1⟩ hne (some ⟨g, 0, none⟩) lv cv w3 hsl3
              have hA4 := fun (w4 : World) (hs : Sl w4 (some ⟨g, 0, none⟩) lv cv ((fras N (ps.take k)).set P z)) => all_poked (bs := ps.take k) (first := N) (i := j) (at_ := P) (z := z) hok.out (by omega) (by rw [htkl.out]; exact hj) (by rw [htkl.out]; omega) (by rw [ett j (by omega)]; exact hjP.out) (by rw [ett (j + 1) (by omega)]; exact hlt2) ⟨hz0, hz1⟩ hne (some ⟨g, 0, none⟩) lv cv w4 hs
              rw [ett j (by omega), htkl.out] at hA4
              rw [ett j (by omega)] at hT
              replace hA4 := hF hA4
              have hxo2 : bits BinOp.xor IntKind.u8 ((fras N (ps.take k)).getD P 0) by_ = z := hxo
              have hsl3H := hF hsl3
              have hPi : (P : Int) < (lv : Int) := by omega
              generalize (fras N (ps.take k)).getD P 0 = old at *
              generalize hE1 : eo (ps.take (j + 1)) = E1 at *
              replace hE1 := hF hE1
              replace hw3 := hF hw3
              clear hxo hown3 hsl3 ett hfl
              by_cases hj0 : j = 0
              · subst hj0
                replace hT : Hid (Calls Try.prog 15 #[.slice (some ⟨g, 0, none⟩) lv cv, .int .i64 0] w3 fun e w' => e = .returned (.tuple #[.int .u64 0, .slice none 0 0, .int .i64 0, .bool false]) ∧ Below w3.heap.size w3 w') := hT
                replace hA4 : Hid (∀ (w4 : World), Sl w4 (some ⟨g, 0, none⟩) lv cv ((fras N (ps.take k)).set P z) → Calls Try.prog 17 #[.slice (some ⟨g, 0, none⟩) lv cv, .int .u64 (N : Int)] w4 fun e w' => (e = .returned (.tuple #[.slice none 0 0, .int .i64 0, .int .i64 41]) ∨ (0 + 1 = k ∧ ∃ av cv, e = .returned (.tuple #[.slice av 0 cv, .int .i64 0, .int .i64 0]) ∧ Bs w' w4.heap.size (.slice av 0 cv) (ps.take 0))) ∧ Below w4.heap.size w4 w') := hA4
                subst hge
                go_wp2_with fail
                rw [← hw3.out]
                refine hT.out.mono ?_
                rintro e w4 ⟨rfl, hb4⟩
                have hb04 := hb3.trans (hb4.mono hb3.size)
                have hAll := hF (hA4.out w4 (hsl3H.out.below hb4))
                clear hA4 hT hcg hfg hce
                go_wp2_with fail
                refine hAll.out.mono ?_
                rintro e w5 ⟨hr, hb5⟩
                have hb05 := hb04.trans (hb5.mono hb04.size)
                clear hAll hb4 hb04
                rcases hr with rfl | ⟨hlast, a6, c6, rfl, hBs⟩
                · clear hb5
                  go_wp2
                  go_ret
                  exact ⟨by first | rfl | (simp; done), hb05⟩
                · have hP5 := h.out.below hb05
                  have hbeg := hF (begin_any _ ao len cap ps _ 0 _ w5 hP5 hBs rfl)
                  have hlasti : ((0 : Int) == (k : Int) - 1) = true := by simp; omega
                  have hlastj : (k : Int) - 1 = 0 := by omega
                  replace hlast := hF hlast
                  clear hBs hP5
                  go_wp2_with fail
                  refine hbeg.out.mono ?_
                  rintro e w6 ⟨rfl, q6, hw6⟩
                  have hb06 : Below w.heap.size w w6 := by rw [hw6]; exact below_drewN hb05 _
                  clear hbeg hw6 hb05 hb5
                  go_wp2
                  go_ret
                  exact ⟨by first | rfl | (simp; done), hb06⟩
              · obtain ⟨i0, rfl⟩ : ∃ i0, j = i0 + 1 := ⟨j - 1, by omega⟩
                obtain ⟨ge2, hge2, hce2⟩ := hen3.cell i0 (by omega)
                have hT' := hF hT
                have hjp : (0 : Int) < ((i0 + 1 : Nat) : Int) := by omega
                generalize hEj : eo (ps.take (i0 + 1)) = Ej at *
                replace hEj := hF hEj
                subst hge
                simp only [Option.some.injEq, Addr.mk.injEq, and_true] at hge2
                subst hge2
                have hce3 : (w2.setCell ⟨g, P, none⟩ (.int .u8 z)).cell? ⟨ge, i0, none⟩ = some (.int .i64 ((Ej : Nat) : Int)) := by rw [← hw3.out]; exact hce2
                clear hT hj0 hce2
                go_wp2_with fail
                rw [← hw3.out]
                refine hT'.out.mono ?_
                rintro e w4 ⟨rfl, hb4⟩
                have hb04 := hb3.trans (hb4.mono hb3.size)
                have hAll := hF (hA4.out w4 (hsl3H.out.below hb4))
                clear hA4 hT' hcg hfg hce hce3
                go_wp2_with fail
                refine hAll.out.mono ?_
                rintro e w5 ⟨hr, hb5⟩
                have hb05 := hb04.trans (hb5.mono hb04.size)
                clear hAll hb4 hb04
                rcases hr with rfl | ⟨hlast, a6, c6, rfl, hBs⟩
                · clear hb5
                  go_wp2
                  go_ret
                  exact ⟨by first | rfl | (simp; done), hb05⟩
                · have hP5 := h.out.below hb05
                  have hbeg := hF (begin_any _ ao len cap ps _ (i0 + 1) _ w5 hP5 hBs rfl)
                  have hlasti : (((i0 + 1 : Nat) : Int) == (k : Int) - 1) = true := by simp; omega
                  have hlastj : (k : Int) - 1 = (i0 : Int) + 1 := by omega
                  replace hlast := hF hlast
                  clear hBs hP5
                  go_wp2_with fail
                  refine hbeg.out.mono ?_
                  rintro e w6 ⟨rfl, q6, hw6⟩
                  have hb06 : Below w.heap.size w w6 := by rw [hw6]; exact below_drewN hb05 _
                  clear hbeg hw6 hb05 hb5
                  go_wp2
                  go_ret
                  exact ⟨by first | rfl | (simp; done), hb06⟩
end Go.Proofs.Ytaibldodlbaknaa
