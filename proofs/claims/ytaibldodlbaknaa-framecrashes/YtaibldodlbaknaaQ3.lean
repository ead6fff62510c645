/-
  The walk of the law FrameCrashes.
-/
import Derived.Test.YtaibldodlbaknaaP2
import Derived.Test.YtaibldodlbaknaaQ2
import Derived.Deep.DeepCutAuto
set_option linter.unusedVariables false
set_option linter.unusedSimpArgs false
namespace Go.Proofs.Ytaibldodlbaknaa
open Go.RowKit

/-- All of frames whose end is cut off and turned. -/
theorem all_tornC {bs : List (List Int)} {first n m v : Nat} (ho : Okb bs) (hf : first < 18446744073709551616) (hmn : m ≤ n) (hn : n ≤ eo bs) (hv : v ≤ bs.length) (hbl : bs.length ≤ 20) (h1 : eo (bs.take v) ≤ m) (h2 : v < bs.length → m < eo (bs.take (v + 1))) {x : List Int} (hx : x = tn ((fras first bs).take n) m)
    (ao : Option Addr) (len cap : Nat) (w : World) (h : Sl w ao len cap x) :
    Calls Try.prog 17 #[.slice ao len cap, .int .u64 (first : Int)] w fun e w' =>
      (∃ av cv, e = .returned (.tuple #[.slice av v cv, .int .i64 ((eo (bs.take v) : Nat) : Int), .int .i64 0]) ∧ Bs w' w.heap.size (.slice av v cv) (bs.take v)) ∧ Below w.heap.size w w' := by
  have hbd := eo_bound bs ho
  have hlen : len ≤ eo bs := by
    have := h.1
    rw [hx, tn_len, List.length_take] at this
    omega
  refine (all_any ao len cap _ (first : Int) w h (by omega) (by omega) (by omega)).mono ?_
  rintro e w' ⟨⟨cs, a, f, q1, q2, q3⟩, hb⟩
  rw [Int.toNat_natCast] at q1
  obtain ⟨rfl, rfl, hnl⟩ := all_torn ho hf hmn hn hv h1 h2 hx q1 q2
  refine ⟨?_, hb⟩
  rcases q3 with ⟨hl, _⟩ | ⟨_, u, e1, hB⟩
  · exact absurd hl hnl
  · obtain ⟨av, cv, rfl⟩ := hB.len
    have hl : (bs.take v).length = v := by simp; omega
    rw [hl] at e1 hB
    exact ⟨av, cv, e1, hB⟩

theorem En.cong {w w' : World} {base k q : Nat} {v : Value} {ps : List (List Int)} (e : w' = w.drewN q) (h : En w base v ps k) : En w' base v ps k := by
  subst e
  exact h

theorem tu_bits (x : Int) (h0 : 0 ≤ x) (h1 : x ≤ 255) : bits BinOp.xor IntKind.u8 x 255 = tu x := by
  rw [u8_xor x 255 h0 (by omega) (by decide) (by decide), show (255 : Int).toNat = 255 from rfl, ← tu_xor x h0 h1]
  unfold tu
  omega

/-- The bytes up to a place are turned from another one on. -/
def tp (X : List Int) (m i : Nat) : List Int := tn (X.take i) m ++ X.drop i
theorem tp_len (X : List Int) (m i : Nat) : (tp X m i).length = X.length := by
  unfold tp
  rw [List.length_append, tn_len, ← List.length_append, List.take_append_drop]
theorem tp_start (X : List Int) (m : Nat) : tp X m m = X := by
  unfold tp
  rw [tn_all _ _ (by simp; omega), List.take_append_drop]
theorem tp_end (X : List Int) (m i : Nat) (h : X.length ≤ i) : tp X m i = tn X m := by
  unfold tp
  rw [List.take_of_length_le h, List.drop_eq_nil_of_le h, List.append_nil]
theorem tp_at (X : List Int) (m i : Nat) (hi : i < X.length) : (tp X m i).getD i 0 = X.getD i 0 := by
  unfold tp
  simp only [List.getD]
  rw [List.getElem?_append_right (by rw [tn_len]; simp; omega), tn_len, List.length_take, Nat.min_eq_left (by omega), Nat.sub_self, List.getElem?_drop, Nat.add_zero]
theorem tp_step (X : List Int) (m i : Nat) (hi : i < X.length) (hm : m ≤ i) : (tp X m i).set i (tu (X.getD i 0)) = tp X m (i + 1) := by
  unfold tp
  have hl : (tn (X.take i) m).length = i := by rw [tn_len]; simp; omega
  rw [List.set_append_right _ _ (by omega), hl, Nat.sub_self, List.drop_eq_getElem_cons hi, List.set_cons_zero, List.take_succ_eq_append_getElem hi, tn_append, List.append_assoc, List.length_take, Nat.min_eq_left (by omega)]
  congr 1
  have e : tn [X[i]] (m - i) = [tu X[i]] := by
    rw [show m - i = 0 from by omega]
    rfl
  rw [e]
  simp [List.getD, List.getElem?_eq_getElem hi]

set_option maxRecDepth 100000 in
set_option maxHeartbeats 8000000 in
theorem crashes_walk (ao : Option Addr) (len cap : Nat) (ps : List (List Int)) (F : Int) (cut trn : Int) (w : World) (h : Pl w ao len cap ps) (h0 : 0 ≤ F) (h1 : F ≤ 18446744073709551615) :
    Calls Try.prog 6 #[.int .u64 F, .slice ao len cap, .int .i64 cut, .int .i64 trn] w fun e w' => e = .returned (.bool true) ∧ Below w.heap.size w w' := by
  obtain ⟨i0, hi, hz0, hz1, hz2⟩ := info_parts Try.info5
  obtain ⟨N, hN⟩ : ∃ N : Nat, F = (N : Int) ∧ N < 18446744073709551616 := ⟨F.toNat, by omega, by omega⟩
  obtain ⟨rfl, hN⟩ := hN
  have hpl := h.1
  have hlen : (len : Int) ≤ 9223372036854775807 := by have := h.2.1; have := h.2.2.1; unfold maxLen at this; omega
  obtain ⟨m, hm⟩ : ∃ m, m = min len 12 := ⟨_, rfl⟩
  have hml : m ≤ len := by omega
  have hm12 : m ≤ 12 := by omega
  have hmx : Hid (∀ i, i < m ↔ i < len ∧ i < 12) := by unfold Hid; omega
  have hmH := hF hm
  clear hm
  go_enter Try.func6, Try.ntmps6
  go_wp2_with fail
  refine (shown_any w).mono ?_
  rintro e w1 ⟨rfl, hb1⟩
  have hP1 := h.below hb1
  have hpc : Hid (∀ i, i < len → ∃ b off a2 c2, ao = some ⟨b, off, none⟩ ∧ w1.cell? ⟨b, off + i, none⟩ = some (.slice a2 (ps.getD i []).length c2) ∧ ((ps.getD i []).length : Int) ≤ 9223372036854775807) := fun i hi => by
    obtain ⟨b, off, e, _, hc⟩ := hP1.2.2.2 (by omega)
    obtain ⟨a2, l2, c2, hc2, hs2⟩ := hc i hi
    have h3 := hs2.2.1
    have h4 := hs2.2.2.1
    obtain rfl := hs2.1
    exact ⟨b, off, a2, c2, e, hc2, by unfold maxLen at h4; omega⟩
  replace hP1 := hF hP1
  replace h := hF h
  go_wp2
  go_loopw [10, 11] (fun s i wr => ∃ k : Nat, k ≤ m ∧ s = .int .i64 ((su ps k : Nat) : Int) ∧ i = .int .i64 (k : Int) ∧ wr = w1) (fun _ i _ => 64 - (intOf i).toNat)
  case atStart => exact ⟨0, by omega, rfl, rfl, rfl⟩
  case round =>
    obtain ⟨k, hk, rfl, rfl, hw⟩ := hrel
    replace hw := hw.symm
    subst hw
    have hsu := su_le ps k
    by_cases hlt : k < m
    · obtain ⟨hk1, hk2⟩ := (hmx.out k).1 hlt
      have hk1i : (k : Int) < (len : Int) := by omega
      have hk2i : (k : Int) < 12 := by omega
      have hkd1 : decide ((k : Int) < (len : Int)) = true := by simp; omega
      have hkd2 : decide ((k : Int) < 12) = true := by simp; omega
      have hkd3 : decide (k < len) = true := by simp; omega
      have hkd4 : decide (k < 12) = true := by simp; omega
      obtain ⟨b, off, a2, c2, rfl, hc2, hlb⟩ := hpc.out k hk1
      have hsn : Hid (su ps (k + 1) = su ps k + min (ps.getD k []).length 100000) := rfl
      generalize (ps.getD k []).length = L at *
      generalize su ps k = S at *
      by_cases hL : 100000 < L
      · have hLi : (100000 : Int) < (L : Int) := by omega
        rw [Nat.min_eq_right (by omega)] at hsn
        go_wp2
        go_roundw
        case rel => exact ⟨k + 1, by omega, by rw [hsn.out]; go_num, by go_num, by simp⟩
        case measure => simp [intOf]; omega
      · have hLi : ¬ (100000 : Int) < (L : Int) := by omega
        rw [Nat.min_eq_left (by omega)] at hsn
        go_wp2
        go_roundw
        case rel => exact ⟨k + 1, by omega, by rw [hsn.out]; go_num, by go_num, by simp⟩
        case measure => simp [intOf]; omega
    · have hkm : k = m := by omega
      subst hkm
      have hcase : (k < len ∧ ¬ k < 12) ∨ ¬ k < len := by
        by_cases hkl : k < len
        · exact .inl ⟨hkl, fun q => hlt ((hmx.out k).2 ⟨hkl, q⟩)⟩
        · exact .inr hkl
      have hsmall : Hid (su ps k ≤ 5000 → ∀ i, i < k → (ps.getD i []).length ≤ 65536) := fun hs i hi => by
        have := su_at ps k i hi
        omega
      generalize su ps k = S at *
      clear hpc hmx
      have hfacts : ∃ d1 d2 : Bool, decide ((k : Int) < (len : Int)) = d1 ∧ decide (k < len) = d1 ∧ decide ((k : Int) < 12) = d2 ∧ decide (k < 12) = d2 ∧ (d1 = false ∨ d1 = true ∧ d2 = false) := by
        rcases hcase with ⟨hkl, hk12⟩ | hkl
        · exact ⟨true, false, by simp; omega, by simp; omega, by simp; omega, by simp; omega, .inr ⟨rfl, rfl⟩⟩
        · by_cases hk12 : k < 12
          · exact ⟨false, true, by simp; omega, by simp; omega, by simp; omega, by simp; omega, .inl rfl⟩
          · exact ⟨false, false, by simp; omega, by simp; omega, by simp; omega, by simp; omega, .inl rfl⟩
      obtain ⟨d1, d2, hd1, hd2, hd3, hd4, hdd⟩ := hfacts
      have hk12 : k ≤ 12 := hm12
      clear hcase hlt hk hml hm12
      by_cases hS : 5000 < S
      · have hSi : (5000 : Int) < (S : Int) := by omega
        have hSd : decide ((5000 : Int) < (S : Int)) = true := by simp; omega
        have hSd2 : decide (5000 < S) = true := by simp; omega
        clear hsmall hsu
        rcases hdd with rfl | ⟨rfl, rfl⟩
        all_goals
          go_wp2
          go_ret
          exact ⟨by first | rfl | (simp; done), hb1⟩
      have hSi : ¬ (5000 : Int) < (S : Int) := by omega
      have hSd : decide ((5000 : Int) < (S : Int)) = false := by simp; omega
      have hSd2 : decide (5000 < S) = false := by simp; omega
      have hput := hF (lput_ok ao len cap ps N 12 k w1 hP1.out hN (by omega) hmH.out (hsmall.out (by omega)))
      have htkl : (ps.take k).length = k := by
        have := hmH.out
        simp; omega
      clear hsmall hsu
      replace htkl := hF htkl
      rcases hdd with rfl | ⟨rfl, rfl⟩
      all_goals
        go_wp2_with fail
        refine hput.out.mono ?_
        rintro e w2 ⟨⟨av, lv, cv, ae, ce, rfl, hown, hen, hok, hlv⟩, hb2⟩
        have hb02 : Below w.heap.size w w2 := hb1.trans (hb2.mono hb1.size)
        clear hput hb2 hd1 hd2 hd3 hd4
        have hlb : lv ≤ 2000000 := by
          have h1 := eo_bound _ hok
          rw [htkl.out] at h1
          omega
        have hli : (lv : Int) ≤ 2000000 := by omega
        replace hlv := hF hlv
        replace hok := hF hok
        replace hown := hF hown
        replace hen := hF hen
        obtain ⟨nn, hnl, hcase⟩ : ∃ nn : Nat, nn ≤ lv ∧ (cut < 0 ∧ nn = lv ∨ (lv : Int) ≤ cut ∧ nn = lv ∨ 0 ≤ cut ∧ cut < (lv : Int) ∧ cut = (nn : Int)) := by
          by_cases c1 : cut < 0
          · exact ⟨lv, Nat.le_refl _, .inl ⟨c1, rfl⟩⟩
          · by_cases c2 : (lv : Int) ≤ cut
            · exact ⟨lv, Nat.le_refl _, .inr (.inl ⟨c2, rfl⟩)⟩
            · exact ⟨cut.toNat, by omega, .inr (.inr ⟨by omega, by omega, by omega⟩)⟩
        obtain ⟨tt, htn, htc⟩ : ∃ tt : Nat, tt ≤ nn ∧ (trn ≤ 0 ∧ tt = 0 ∨ 0 < trn ∧ (nn : Int) < trn ∧ tt = nn ∨ 0 < trn ∧ trn ≤ (nn : Int) ∧ trn = (tt : Int)) := by
          by_cases c1 : trn ≤ 0
          · exact ⟨0, Nat.zero_le _, .inl ⟨c1, rfl⟩⟩
          · by_cases c2 : (nn : Int) < trn
            · exact ⟨nn, Nat.le_refl _, .inr (.inl ⟨by omega, c2, rfl⟩)⟩
            · exact ⟨trn.toNat, by omega, .inr (.inr ⟨by omega, by omega, by omega⟩)⟩
        replace htc := hF htc
        replace hcase := hF hcase
        go_upto_region 13 with fail
        go_cut [69] (fun b wc => b = .bool (decide (0 ≤ cut ∧ cut < (lv : Int))) ∧ wc = w2)
        case first =>
          by_cases c1 : cut < 0
          · have cd : decide (0 ≤ cut) = false := by simp; omega
            have ci : ¬ 0 ≤ cut := by omega
            have cb : false = decide (0 ≤ cut ∧ cut < (lv : Int)) := by simp; omega
            replace cb := hF cb
            go_wp2
            go_meet
            exact ⟨congrArg Value.bool cb.out, rfl⟩
          · by_cases c2 : (lv : Int) ≤ cut
            · have cd : decide (0 ≤ cut) = true := by simp; omega
              have ci : 0 ≤ cut := by omega
              have cd2 : decide (cut < (lv : Int)) = false := by simp; omega
              have ci2 : ¬ cut < (lv : Int) := by omega
              have cb : false = decide (0 ≤ cut ∧ cut < (lv : Int)) := by simp; omega
              replace cb := hF cb
              go_wp2
              go_meet
              exact ⟨congrArg Value.bool cb.out, rfl⟩
            · have cd : decide (0 ≤ cut) = true := by simp; omega
              have cd2 : decide (cut < (lv : Int)) = true := by simp; omega
              have cb : true = decide (0 ≤ cut ∧ cut < (lv : Int)) := by
                have : 0 ≤ cut ∧ cut < (lv : Int) := ⟨by omega, by omega⟩
                simp [this]
              replace cb := hF cb
              go_wp2
              go_meet
              exact ⟨congrArg Value.bool cb.out, rfl⟩
        case rest =>
          obtain ⟨rfl, hwc⟩ := hcut
          replace hwc := hwc.symm
          subst hwc
          go_upto_if 69 with fail
          go_cut [15] (fun n wc => n = .int .i64 (nn : Int) ∧ wc = w2)
          case first =>
            by_cases hB : 0 ≤ cut ∧ cut < (lv : Int)
            · have hBd : decide (0 ≤ cut ∧ cut < (lv : Int)) = true := by simpa using hB
              have hcn : Hid (cut = (nn : Int)) := by
                unfold Hid
                rcases hcase.out with ⟨c1, c2⟩ | ⟨c1, c2⟩ | ⟨c1, c2, c3⟩ <;> omega
              rw [hBd]
              go_wp2
              go_meet
              exact ⟨by rw [hcn.out], rfl⟩
            · have hBd : decide (0 ≤ cut ∧ cut < (lv : Int)) = false := by simpa using hB
              have hcn : Hid (lv = nn) := by
                unfold Hid
                rcases hcase.out with ⟨c1, c2⟩ | ⟨c1, c2⟩ | ⟨c1, c2, c3⟩ <;> omega
              rw [hBd]
              go_wp2
              go_meet
              exact ⟨by rw [hcn.out], rfl⟩
          case rest =>
          obtain ⟨rfl, hwc⟩ := hcut
          replace hwc := hwc.symm
          subst hwc
          clear hcase
          go_upto_region 15 with fail
          go_cut [16] (fun t wd => t = .int .i64 (tt : Int) ∧ wd = w2)
          case first =>
            rcases htc.out with ⟨c1, c2⟩ | ⟨c1, c2, c3⟩ | ⟨c1, c2, c3⟩
            · replace c2 := hF c2
              by_cases c0 : trn = 0
              · subst c0
                have ci2 : ¬ (nn : Int) < 0 := by omega
                go_wp2
                go_meet
                exact ⟨by rw [c2.out]; rfl, rfl⟩
              · have ci : trn < 0 := by omega
                have ci1 : ¬ 0 < trn := by omega
                have ci2 : ¬ (nn : Int) < 0 := by omega
                go_wp2
                go_meet
                exact ⟨by rw [c2.out]; rfl, rfl⟩
            · replace c3 := hF c3
              have ci : ¬ trn < 0 := by omega
              go_wp2
              go_meet
              exact ⟨by rw [c3.out], rfl⟩
            · replace c3 := hF c3
              have ci : ¬ trn < 0 := by omega
              have ci2 : ¬ (nn : Int) < trn := by omega
              go_wp2
              go_meet
              exact ⟨by rw [c3.out], rfl⟩
          case rest =>
            obtain ⟨rfl, hwc⟩ := hcut
            replace hwc := hwc.symm
            subst hwc
            clear htc
            obtain ⟨X, hX⟩ : ∃ X, X = (fras N (ps.take k)).take nn := ⟨_, rfl⟩
            have hFb := fras_byt N _ hok.out
            have hFl : (fras N (ps.take k)).length = lv := by rw [fras_len, hlv.out]
            have hXl : X.length = nn := by rw [hX, List.length_take, hFl]; omega
            have hXb : Byt X := by rw [hX]; exact hFb.take _
            have hslb : Sl w2 av lv cv (fras N (ps.take k)) := by
              obtain ⟨a9, l9, c9, e9, hs9, _⟩ := hown.out.sl' hFb
              simp only [Value.slice.injEq] at e9
              obtain ⟨rfl, rfl, rfl⟩ := e9
              exact hs9
            obtain ⟨ap, hsp, hslp⟩ := hslb.upto (P := Try.prog) 22 Try.underlying22 Try.size5 nn (by omega)
            rw [← hX] at hslp
            have hb0 : Below w2.heap.size w2 (w2.alloc (.cells #[] 5)) := (Below.refl _ _).alloc (Nat.le_refl _) _
            have hown0 : Own (w2.alloc (.cells #[] 5)) w2.heap.size (.slice (some ⟨w2.heap.size, 0, none⟩) 0 0) [] :=
              Own.of_block (xs := []) (rest := []) (by rw [heap_alloc_new]; rfl) (Nat.le_refl _) rfl (Nat.zero_le _)
            have hslA := hslp.below hb0
            obtain ⟨mm, hmm⟩ : ∃ mm, mm = nn - tt := ⟨_, rfl⟩
            have hmn : mm ≤ nn := by omega
            have hmi : (nn : Int) - (tt : Int) = (mm : Int) := by omega
            replace hX := hF hX
            have hmmH := hF hmm
            clear hmm hslb hslp hFb hFl
            go_wp2_with (first | (at_builtin; refine wpList_append_sl rfl _ _ 22 rfl w2.heap.size i0 Try.underlying22 hi hz0 hz1 hz2 _ _ rfl hown0 ap nn cv _ rfl hslA (by simp; omega) (by simp) ?_) | fail)
            intro vx w3 hown3 hb3
            replace hown3 : Own w3 w2.heap.size vx X := hown3
            have hb23 : Below w2.heap.size w2 w3 := hb0.trans hb3
            obtain ⟨ax, lx, cx, rfl, hslx, _⟩ := hown3.sl' hXb
            obtain rfl : lx = nn := by have := hslx.1; omega
            clear hb0 hb3 hown0 hslA hsp hslx
            have hown3' : Own w3 w2.heap.size (.slice ax lx cx) (tp X mm mm) := by rw [tp_start]; exact hown3
            go_wp2
            go_loopw [18] (fun i wr => ∃ j : Nat, mm ≤ j ∧ j ≤ lx ∧ i = .int .i64 (j : Int) ∧ Own wr w2.heap.size (.slice ax lx cx) (tp X mm j) ∧ Below w2.heap.size w2 wr) (fun i _ => lx - (intOf i).toNat)
            case atStart => exact ⟨mm, Nat.le_refl _, hmn, rfl, hown3', hb23⟩
            case round =>
              obtain ⟨j, hj1, hj2, rfl, hownj, hbj⟩ := hrel
              by_cases hjl : j < lx
              · have hji : (j : Int) < (lx : Int) := by omega
                obtain ⟨g, c, e1, hg1, hg2, hcg, hfg, hown4⟩ := hownj.form j (by rw [tp_len]; omega) (tu (X.getD j 0))
                rw [tp_len, hXl] at e1 hown4
                simp only [Value.slice.injEq, true_and] at e1
                obtain ⟨rfl, rfl⟩ := e1
                rw [tp_at X mm j (by omega)] at hcg
                rw [tp_step X mm j (by omega) hj1] at hown4
                have hxb := hXb.getD j
                have hxo := tu_bits (X.getD j 0) hxb.1 hxb.2
                have hb4 : Below w2.heap.size w2 (wr.setCell ⟨g, j, none⟩ (.int .u8 (tu (X.getD j 0)))) := hbj.setCell (by simp; omega) _
                replace hown4 := hF hown4
                replace hb4 := hF hb4
                generalize tu (X.getD j 0) = z at *
                generalize X.getD j 0 = old at *
                clear hownj hbj
                go_wp2
                go_roundw
                case rel => exact ⟨j + 1, by omega, by omega, by go_num, hown4.out, hb4.out⟩
                case measure => simp [intOf]; omega
              · have hji : ¬ (j : Int) < (lx : Int) := by omega
                have hje : j = lx := by omega
                rw [hje, tp_end X mm lx (by omega)] at hownj
                have hbx : Byt (tn X mm) := tn_byt hXb _
                have hslx : Sl wr ax lx cx (tn X mm) := by
                  obtain ⟨a9, l9, c9, e9, hs9, _⟩ := hownj.sl' hbx
                  simp only [Value.slice.injEq] at e9
                  obtain ⟨rfl, rfl, rfl⟩ := e9
                  exact hs9
                have henj : En wr w1.heap.size (.slice ae k ce) ps k := hen.out.up hbj
                have hb0j : Below w.heap.size w wr := hb02.trans (hbj.mono hb02.size)
                replace hslx := hF hslx
                replace henj := hF henj
                replace hje := hF hje
                clear hownj hbj hown3 hown3' hb23
                go_wp2
                go_loopw [19, 20] (fun s i wq => ∃ v : Nat, v ≤ k ∧ s = .int .i64 (v : Int) ∧ i = .int .i64 (v : Int) ∧ Hid (eo (ps.take v) ≤ mm) ∧ wq = wr) (fun _ i _ => 64 - (intOf i).toNat)
                case atStart => exact ⟨0, by omega, rfl, rfl, Nat.zero_le _, rfl⟩
                case round =>
                  obtain ⟨v, hv, rfl, rfl, hvm, hwq⟩ := hrel
                  replace hwq := hwq.symm
                  subst hwq
                  by_cases hvk : v < k
                  · obtain ⟨ge, hge, hce⟩ := henj.out.cell v hvk
                    have d1 : decide ((v : Int) < (k : Int)) = true := by simp; omega
                    have d2' : decide (v < k) = true := by simp; omega
                    have di : (v : Int) < (k : Int) := by omega
                    by_cases hle : eo (ps.take (v + 1)) ≤ mm
                    · have hle' := hF hle
                      have hlei : ((eo (ps.take (v + 1)) : Nat) : Int) ≤ (mm : Int) := by omega
                      have d3 : decide (((eo (ps.take (v + 1)) : Nat) : Int) ≤ (mm : Int)) = true := by simp; omega
                      have d4 : decide (eo (ps.take (v + 1)) ≤ mm) = true := by simp; omega
                      generalize eo (ps.take (v + 1)) = E at hce hlei d3 d4 hle
                      subst hge
                      go_wp2
                      go_roundw
                      case rel => exact ⟨v + 1, by omega, by go_num, by go_num, hle', by simp⟩
                      case measure => simp [intOf]; omega
                    · have hlei : ¬ ((eo (ps.take (v + 1)) : Nat) : Int) ≤ (mm : Int) := by omega
                      have d3 : decide (((eo (ps.take (v + 1)) : Nat) : Int) ≤ (mm : Int)) = false := by simp; omega
                      have d4 : decide (eo (ps.take (v + 1)) ≤ mm) = false := by simp; omega
                      have hv2 : Hid (v < k → mm < eo (ps.take (v + 1))) := fun _ => by omega
                      subst hge
                      have ett : ∀ i, i ≤ k → (ps.take k).take i = ps.take i := fun i hi => by rw [List.take_take, Nat.min_eq_left hi]
                      have hAll := all_tornC (bs := ps.take k) (first := N) (n := lx) (m := mm) (v := v) hok.out hN hmn (by rw [← hlv.out]; exact hnl) (by rw [htkl.out]; exact hv) (by rw [htkl.out]; omega) (by rw [ett v hv]; exact hvm.out) (by rw [htkl.out]; intro q; rw [ett (v + 1) (by omega)]; exact hv2.out q) (x := tn X mm) (by rw [hX.out]) ax lx cx wr hslx.out
                      rw [ett v hv] at hAll
                      replace hAll := hF hAll
                      clear ett
                      go_wp2_with fail
                      refine hAll.out.mono ?_
                      rintro e w5 ⟨⟨a6, c6, rfl, hBs⟩, hb5⟩
                      have hb05 := hb0j.trans (hb5.mono hb0j.size)
                      have hbeg := hF (begin_any _ ao len cap ps _ v _ w5 (h.out.below hb05) hBs rfl)
                      have hen5 := henj.out.up hb5
                      clear hAll hBs hb5
                      go_wp2_with fail
                      refine hbeg.out.mono ?_
                      rintro e w6 ⟨rfl, q6, hw6⟩
                      have hb06 : Below w.heap.size w w6 := by rw [hw6]; exact below_drewN hb05 _
                      have hen6 := hF (En.cong hw6 hen5)
                      clear hbeg hw6 hb05 hen5
                      by_cases hv0 : v = 0
                      · subst hv0
                        have hz0e : eo (ps.take 0) = 0 := rfl
                        rw [hz0e]
                        clear hz0e
                        go_wp2
                        go_ret
                        exact ⟨by first | rfl | (simp; done), hb06⟩
                      · obtain ⟨i1, rfl⟩ : ∃ i1, v = i1 + 1 := ⟨v - 1, by omega⟩
                        obtain ⟨ge2, hge2, hce2⟩ := hen6.out.cell i1 (by omega)
                        try (simp only [Option.some.injEq, Addr.mk.injEq, and_true] at hge2)
                        have hjp : (0 : Int) < ((i1 + 1 : Nat) : Int) := by omega
                        generalize eo (ps.take (i1 + 1)) = Ej at *
                        subst hge2
                        clear hv0
                        go_wp2
                        go_ret
                        exact ⟨by first | rfl | (simp; done), hb06⟩
                  · have d1 : decide ((v : Int) < (k : Int)) = false := by simp; omega
                    have d2' : decide (v < k) = false := by simp; omega
                    have di : ¬ (v : Int) < (k : Int) := by omega
                    have hv2 : Hid (v < k → mm < eo (ps.take (v + 1))) := fun q => absurd q hvk
                    have ett : ∀ i, i ≤ k → (ps.take k).take i = ps.take i := fun i hi => by rw [List.take_take, Nat.min_eq_left hi]
                    have hAll := all_tornC (bs := ps.take k) (first := N) (n := lx) (m := mm) (v := v) hok.out hN hmn (by rw [← hlv.out]; exact hnl) (by rw [htkl.out]; exact hv) (by rw [htkl.out]; omega) (by rw [ett v hv]; exact hvm.out) (by rw [htkl.out]; intro q; rw [ett (v + 1) (by omega)]; exact hv2.out q) (x := tn X mm) (by rw [hX.out]) ax lx cx wr hslx.out
                    rw [ett v hv] at hAll
                    replace hAll := hF hAll
                    clear ett
                    go_wp2_with fail
                    refine hAll.out.mono ?_
                    rintro e w5 ⟨⟨a6, c6, rfl, hBs⟩, hb5⟩
                    have hb05 := hb0j.trans (hb5.mono hb0j.size)
                    have hbeg := hF (begin_any _ ao len cap ps _ v _ w5 (h.out.below hb05) hBs rfl)
                    have hen5 := henj.out.up hb5
                    clear hAll hBs hb5
                    go_wp2_with fail
                    refine hbeg.out.mono ?_
                    rintro e w6 ⟨rfl, q6, hw6⟩
                    have hb06 : Below w.heap.size w w6 := by rw [hw6]; exact below_drewN hb05 _
                    have hen6 := hF (En.cong hw6 hen5)
                    clear hbeg hw6 hb05 hen5
                    by_cases hv0 : v = 0
                    · subst hv0
                      have hz0e : eo (ps.take 0) = 0 := rfl
                      rw [hz0e]
                      clear hz0e
                      go_wp2
                      go_ret
                      exact ⟨by first | rfl | (simp; done), hb06⟩
                    · obtain ⟨i1, rfl⟩ : ∃ i1, v = i1 + 1 := ⟨v - 1, by omega⟩
                      obtain ⟨ge2, hge2, hce2⟩ := hen6.out.cell i1 (by omega)
                      have hjp : (0 : Int) < ((i1 + 1 : Nat) : Int) := by omega
                      generalize eo (ps.take (i1 + 1)) = Ej at *
                      subst hge2
                      clear hv0
                      go_wp2
                      go_ret
                      exact ⟨by first | rfl | (simp; done), hb06⟩
end Go.Proofs.Ytaibldodlbaknaa
