/-
  XmW: ModelLays, walked. (Printed by gen_xmw.py.)
-/
import Derived.Test.YtheidhkmmihjlaaXmU
set_option linter.unusedVariables false
set_option linter.unusedSimpArgs false
namespace Go.Proofs.Ytheidhkmmihjlaa
open Go.RowKit Go.Shelf Go.Maps
open ML (Ro RS Srt nless)
attribute [local go_sem] Oper.semAt_some
theorem teq_iff (a b : ByteArray) : (a.toList == b.toList) = decide (a = b) := by
  rw [ByteArray.toList_eq, ByteArray.toList_eq]
  by_cases e : a = b
  · rw [e]; simp
  · rw [decide_eq_false e]
    cases q : (a.data.toList == b.data.toList) with
    | false => rfl
    | true => exact absurd (ByteArray.ext (Array.toList_inj.1 (by simpa using q))) e
section
set_option maxHeartbeats 16000000
set_option maxRecDepth 100000
variable {W : World} {o0 o1 : Option Addr} {l0 c0 l1 c1 : Nat} {L : List Ro} {l : List Wr}
theorem lays_walk (h0 : RS W o0 l0 c0 L) (hn : o0 = none → c0 = 0) (hl : l0 + 64 ≤ big) (h1 : WS W o1 l1 c1 l) :
    Calls Try.prog 6 #[.slice o0 l0 c0, .slice o1 l1 c1] W fun e w' => e = .returned (.bool true) ∧ Below W.heap.size W w' := by
  obtain rfl := h0.1
  obtain rfl := h1.1
  have HR : Hid (∀ u, Below W.heap.size W u → RS u o0 L.length c0 L) := xhide (fun u hb => h0.below hb (fun b off e hlt => hlt))
  have HWS : Hid (∀ u, Below W.heap.size W u → WS u o1 l.length c1 l) := xhide (fun u hb => ws_below h1 hb)
  have HSH := xhide (shown18 W)
  have HLB : Hid (L.length + 64 ≤ big) := xhide hl
  have hmxl : (l.length : Int) ≤ 9223372036854775807 := by have := h1.2.1; have := h1.2.2.1; unfold maxLen at this; omega
  clear h0 h1
  go_enter Try.func6, Try.ntmps6
  go_wp2_with fail
  refine HSH.out.mono ?_
  rintro e w1 ⟨rfl, hb1⟩
  have HRN := xhide (rnew_any (HR.out w1 hb1) hn (by omega))
  have HB1 := xhide hb1
  clear hb1 HSH
  go_wp2_with fail
  refine HRN.out.mono ?_
  rintro e w2 ⟨hb2, hre⟩
  have hB2 := HB1.out.trans (hb2.mono HB1.out.size)
  have HBG := xhide (begun_any (HR.out w2 hB2) hl)
  have HB2 := xhide hB2
  clear hb2 hB2 HRN HB1
  cases hok : okTo L L.length with
  | false =>
    obtain rfl : e = .returned (.tuple #[.pointer none, .int .i64 180]) := by
      rcases hre with ⟨_, rfl⟩ | ⟨q, _⟩
      · rfl
      · rw [hok] at q; cases q
    clear hre
    go_wp2_with fail
    refine HBG.out.mono ?_
    rintro e w3 ⟨hb3, ⟨_, rfl⟩ | ⟨q, _⟩⟩
    · have hB3 := HB2.out.trans (hb3.mono HB2.out.size)
      have HNW := xhide (new_any (HR.out w3 hB3) (by unfold big at hl; omega))
      have HB3 := xhide hB3
      clear hb3 hB3 HBG HB2
      go_wp2_with fail
      refine HNW.out.mono ?_
      rintro e w4 ⟨hb4, ⟨_, rfl⟩ | ⟨q, _⟩⟩
      · have FIN := xhide (HB3.out.trans (hb4.mono HB3.out.size))
        clear hb4 HB3 HNW
        go_wp2
        go_ret
        exact ⟨rfl, FIN.out⟩
      · rw [hok] at q; cases q
    · rw [hok] at q; cases q
  | true =>
    obtain rfl : e = .returned (.tuple #[ptr w1.heap.size, .int .i64 0]) := by
      rcases hre with ⟨q, _⟩ | ⟨_, _, rfl, _⟩
      · rw [hok] at q; cases q
      · rfl
    clear hre
    go_wp2_with fail
    refine HBG.out.mono ?_
    rintro e w3 ⟨hb3, ⟨q, _⟩ | ⟨_, X, rfl, hm3⟩⟩
    · rw [hok] at q; cases q
    have hB3 := HB2.out.trans (hb3.mono HB2.out.size)
    have HNW := xhide (new_any (HR.out w3 hB3) (by unfold big at hl; omega))
    have HM3 := xhide hm3
    have HB3 := xhide hB3
    have hw2 := HB2.out.size
    generalize hB : w2.heap.size = B at *
    clear hm3 hb3 hB3 HBG HB2
    go_wp2_with fail
    refine HNW.out.mono ?_
    rintro e w4 ⟨hb4, ⟨q, _⟩ | ⟨_, Y, bY, rfl, hPY, hY3, hbY3⟩⟩
    · rw [hok] at q; cases q
    have hm4 := mo_addK (K' := [Y, bY]) HM3.out hb4 (fun g hg => by
      simp at hg
      rcases hg with rfl | rfl
      · exact ⟨hY3, hPY.lt⟩
      · exact ⟨hbY3, hPY.ltb⟩)
    have hB4 := HB3.out.trans (hb4.mono HB3.out.size)
    have hBY1 : B ≤ Y := Nat.le_trans HM3.out.base hY3
    have hBY2 : B ≤ bY := Nat.le_trans HM3.out.base hbY3
    have htr := isT_iff.1 hPY.ok.tm
    simp only [] at htr
    have HTM := xhide (mo_time hm4)
    have HTY := xhide hPY.ok.tm
    simp only [] at HTM
    have HQ0 : Hid (Q5 W B X Y bY w4.heap.size L (maxT L) (w4.alloc (cmObj (maxT L + 1) none 0 0)) [] [] none 0) := xhide (by
      have hbx := ML.below1 w4 (cmObj (maxT L + 1) none 0 0)
      have h1 := hPY.lt
      have h2 := hPY.ltb
      exact ⟨hm4.add _, heap_alloc_new _ _, ⟨rfl, Nat.le_refl _, Nat.zero_le _, fun q => absurd q (Nat.lt_irrefl 0)⟩, fun _ => rfl, fun _ => rfl, hPY.below hbx, nofun, hB4.trans (hbx.mono hB4.size), hw2, hm4.base, by omega, by omega⟩)
    have HB4 := xhide hB4
    generalize hC : w4.heap.size = C at HQ0
    clear hm4 hB4 hb4 hPY hY3 hbY3 HNW HB3 HM3
    go_wp2_with fail
    refine HTM.out.mono ?_
    rintro e wt ⟨rfl, rfl⟩
    by_cases htm : 1099511627775 ≤ maxT L
    · go_wp2
      go_ret
      exact ⟨rfl, HB4.out⟩
    by_cases h64 : (64 : Int) < (l.length : Int)
    · go_wp2
      go_ret
      exact ⟨rfl, HB4.out⟩
    go_wp2_with fail
    refine HTM.out.mono ?_
    rintro e wt ⟨rfl, rfl⟩
    clear HTM
    go_wp2_with fail
    clear hC
    have HT1 : Hid (isT (maxT L + 1) = true) := xhide (isT_iff.2 ⟨by omega, by omega⟩)
    clear htr
    go_loopw [12] (fun i wr => ∃ (k : Nat) (ps : List Wr) (ao : Option Addr) (cap : Nat), k ≤ l.length ∧ i = .int .i64 ((k : Int) - 1) ∧ Hid (Q5 W B X Y bY C L (maxT L) wr ps ps ao cap ∧ ps.length + k ≤ l.length)) (fun i _ => (intOf i + 1).toNat)
    case atStart => exact ⟨l.length, [], none, 0, Nat.le_refl _, by go_num, xhide ⟨HQ0.out, by simp⟩⟩
    case round =>
      obtain ⟨w0, hw0⟩ : ∃ w0, w0 = wr := ⟨_, rfl⟩
      subst hw0
      obtain ⟨k, ps, ao, cap, hk, rfl, HQ⟩ := hrel
      clear HQ0
      by_cases hk0 : k = 0
      · subst hk0
        as_aux_lemma =>
          have hq := HQ.out.1
          have dk : ¬ (0 : Int) ≤ ((0 : Nat) : Int) - 1 := by omega
          have h64n : ps.length ≤ 64 := by have := HQ.out.2; omega
          have hws := hq.mo.ok.wsrt ps rfl
          have HNb : Hid ((doneW (maxT L + 1) L ps).length ≤ big) := xhide (by
            have h1 := doneW_len (t := maxT L + 1) ps L
            have h3 := HLB.out
            omega)
          have hL15 : L.length + 64 ≤ 1000000000000000 := by have h3 := HLB.out; unfold big at h3; omega
          have hd := mo_do2 hq.mo HLB.out ⟨7, 0, z0, z0, z0, 0, 0⟩
          rw [stp_commit (S := ⟨L, maxT L, some ps⟩) rfl HT1.out] at hd
          simp only [Option.getD_some] at hd
          have HD := xhide hd
          have HQ1 := xhide hq
          have HWS1 := xhide hws
          clear hq hws hd HQ
          go_wp2_with fail
          refine HD.out.mono ?_
          rintro e wu ⟨og, ng, cg, rfl, _, hm, hb, hkk⟩
          have hq := HQ1.out
          have hcu := (hkk C (by simp)).trans hq.cb
          have hwu := ws_keep hq.ws (fun j hj => hkk j (by simp [hj])) hb.size
          have hyu : Pm wu Y bY none ⟨L, maxT L, none⟩ := hq.y.keep (hkk Y (by simp)) (hkk bY (by simp)) nofun
          have hbx := ML.below1 wu (.cells (rpA 0 .empty false (.slice og ng cg) (maxT L + 1)) 41)
          have hlowu := hq.low.trans (hb.mono hq.base)
          have HA := xhide (apply_right (hyu.below hbx) hL15 HT1.out (by omega) (ws_below hwu hbx) (fun j hj => ⟨(hq.dy j hj).1, (hq.dy j hj).2.1⟩) HWS1.out.1 HWS1.out.2.2 h64n)
          have hra : (wu.alloc (.cells (rpA 0 .empty false (.slice og ng cg) (maxT L + 1)) 41)).heap[wu.heap.size]? = some (.cells (rpA 0 .empty false (.slice og ng cg) (maxT L + 1)) 41 (0, 0)) := heap_alloc_new _ _
          have g0 : wu.cell? ⟨C, 0, none⟩ = some (.int .i64 (maxT L + 1)) := by rw [Go.Joins.cell_of_block hcu]; rfl
          have g1 : wu.cell? ⟨C, 1, none⟩ = some (.slice ao ps.length cap) := by rw [Go.Joins.cell_of_block hcu]; rfl
          have hCu : C < wu.heap.size := (Array.getElem?_eq_some_iff.1 hcu).1
          have hYu := hyu.lt
          have hbYu := hyu.ltb
          have HMU := xhide (hm.below hbx)
          have HRA := xhide hra
          have HCA := xhide ((hbx.block C hCu).trans hcu)
          have HLU := xhide (hlowu.trans (hbx.mono hlowu.size))
          have hcY := hq.cY
          have hWB := hq.base
          have hsz := hbx.size
          have hlw1 := hlowu.size
          clear hq hcu hwu hyu hbx hlowu hra hm hb hkk HD HQ1
          go_wp2_with fail
          refine HA.out.mono ?_
          rintro e wv ⟨rfl, hPy, hCv⟩
          have hRl := (Array.getElem?_eq_some_iff.1 HRA.out).1
          have hCl := (Array.getElem?_eq_some_iff.1 HCA.out).1
          have hrv := (hCv.2 wu.heap.size hRl (by omega)).trans HRA.out
          have hcv := (hCv.2 C hCl (by omega)).trans HCA.out
          have r0 : wv.cell? ⟨wu.heap.size, 0, none⟩ = some (.int .i64 0) := by rw [Go.Joins.cell_of_block hrv]; rfl
          have r4 : wv.cell? ⟨wu.heap.size, 4, none⟩ = some (.int .i64 (maxT L + 1)) := by rw [Go.Joins.cell_of_block hrv]; rfl
          have e0 : wv.cell? ⟨C, 0, none⟩ = some (.int .i64 (maxT L + 1)) := by rw [Go.Joins.cell_of_block hcv]; rfl
          have hRv : wu.heap.size < wv.heap.size := (Array.getElem?_eq_some_iff.1 hrv).1
          have hCvl : C < wv.heap.size := (Array.getElem?_eq_some_iff.1 hcv).1
          have hmv := mo_chg HMU.out hCv (fun j hj => by rcases hj with e | e <;> (rw [e]; simp))
          have hxv : Mo 0 [] wv Y ⟨doneW (maxT L + 1) L ps, maxT L + 1, none⟩ := ⟨bY, none, hPy, Nat.zero_le _, Nat.zero_le _, nofun, Nat.zero_le _, nofun⟩
          have HLV := xhide (HLU.out.trans (hCv.low (B := W.heap.size) (by omega) (fun j hj => by omega)))
          have HMV := xhide hmv
          have HXV := xhide hxv
          clear hrv hcv hmv hxv hPy hCv HA HMU HRA HCA HLU
          generalize doneW (maxT L + 1) L ps = N at *
          generalize maxT L + 1 = tt at *
          go_wp2_with fail
          refine (mo_rows HMV.out HNb.out).mono ?_
          rintro e wx ⟨a1, k1, rfl, rs1, _, hm1, hb1⟩
          simp only [] at rs1
          have HX1 := xhide (HXV.out.below hb1)
          have HM1 := xhide hm1
          have HL1 := xhide (HLV.out.trans (hb1.mono HLV.out.size))
          have HR1 := xhide rs1
          clear hm1 hb1 rs1 HXV HMV HLV
          go_wp2_with fail
          refine (mo_rows HX1.out HNb.out).mono ?_
          rintro e wy ⟨a2, k2, rfl, rs2, _, hm2, hb2⟩
          simp only [] at rs2
          have HSR := xhide (ML.sameRows_any (l := N) (HR1.out.below hb2 (fun b off e hlt => hlt)) rs2)
          have HM2 := xhide (HM1.out.below hb2)
          have HX2 := xhide hm2
          have HL2 := xhide (HL1.out.trans (hb2.mono HL1.out.size))
          clear hm2 hb2 rs2 HX1 HM1 HL1 HR1
          go_wp2_with fail
          refine HSR.out.mono ?_
          rintro e wz ⟨rfl, q6, rfl⟩
          have HM3 := xhide (HM2.out.below (w' := wy.drewN q6) ⟨rfl, rfl, rfl, Nat.le_refl _, fun _ _ => rfl⟩)
          have HX3 := xhide (HX2.out.below (w' := wy.drewN q6) ⟨rfl, rfl, rfl, Nat.le_refl _, fun _ _ => rfl⟩)
          have HL3 := xhide (xdrew HL2.out q6)
          clear HSR HM2 HX2 HL2
          go_wp2_with fail
          refine (mo_time HX3.out).mono ?_
          rintro e wt1 ⟨rfl, rfl⟩
          go_wp2_with fail
          refine (mo_time HM3.out).mono ?_
          rintro e wt2 ⟨rfl, rfl⟩
          go_wp2
          go_ret
          exact ⟨rfl, HL3.out⟩
      · obtain ⟨j, rfl⟩ : ∃ j, k = j + 1 := ⟨k - 1, by omega⟩
        have hi : (((j + 1 : Nat) : Int) - 1) = (j : Int) := by omega
        rw [hi]
        obtain ⟨hq, hpl⟩ := HQ.out
        obtain ⟨x, hx⟩ := some_at (l := l) (i := j) rfl (by omega)
        obtain ⟨g, off, rfl, hgl, hc⟩ := (HWS.out _ hq.low).2.2.2 (by omega)
        have k0 := hc j x hx 0 _ rfl
        have k1 := hc j x hx 1 _ rfl
        have k2 := hc j x hx 2 _ rfl
        rw [Nat.add_zero] at k0
        have d0 : (0 : Int) ≤ (j : Int) := by omega
        have d1 : (j : Int) < (l.length : Int) := by omega
        have hq6 := hq.box x
        obtain ⟨cc, vv, fd, hsg⟩ : ∃ (cc : Int) (vv : ByteArray) (fd : Bool), Hid (stp ⟨L, maxT L, some ps⟩ ⟨2, 0, x.key, z0, z0, 0, 0⟩ = (⟨L, maxT L, some ps⟩, { code := cc, val := vv, found := fd }) ∧ (isK x.key = true → fd = (look ⟨L, maxT L, some ps⟩ x.key).isSome)) := by
          cases hK : isK x.key with
          | true => exact ⟨_, _, _, xhide ⟨by rw [stp_get rfl, if_pos hK], fun _ => rfl⟩⟩
          | false => exact ⟨154, .empty, false, xhide ⟨by rw [stp_get rfl, if_neg (by rw [hK]; simp)], nofun⟩⟩
        have hd := mo_do2 hq6.mo HLB.out ⟨2, 0, x.key, z0, z0, 0, 0⟩
        rw [hsg.out.1] at hd
        have HD := xhide hd
        have HQ6 := xhide hq6
        have HPL := xhide hpl
        have hpll : ps.length ≤ 64 := by omega
        clear hq hc hq6 hd hpl hgl
        go_wp2_with fail
        refine HD.out.mono ?_
        rintro e wu ⟨og, ng, cg, rfl, _, hm, hb, hkk⟩
        have hqu := HQ6.out.step (hm.sub fun j hj => List.mem_append_right _ hj) hb hkk
        have a0 : wu.cell? ⟨w0.heap.size, 0, none⟩ = some (.string x.key) := by rw [Go.Joins.cell_of_block hqu.d]; rfl
        have a1 : wu.cell? ⟨w0.heap.size, 1, none⟩ = some (.string x.val) := by rw [Go.Joins.cell_of_block hqu.d]; rfl
        have hDu : w0.heap.size < wu.heap.size := (Array.getElem?_eq_some_iff.1 hqu.d).1
        have hCu : C < wu.heap.size := (Array.getElem?_eq_some_iff.1 hqu.q.cb).1
        have HQU := xhide hqu
        obtain ⟨wa, hwa⟩ : ∃ wa, wa = wu.alloc (.cells (rpA cc vv fd (.slice og ng cg) 0) 41) := ⟨_, rfl⟩
        have hba : Below wu.heap.size wu wa := by rw [hwa]; exact ML.below1 _ _
        have hqa := hqu.below hba
        have hra : wa.heap[wu.heap.size]? = some (.cells (rpA cc vv fd (.slice og ng cg) 0) 41 (0, 0)) := by rw [hwa]; exact heap_alloc_new _ _
        have hRD : w0.heap.size < wu.heap.size := hDu
        have HQA := xhide hqa
        have HRA := xhide hra
        have hDa : w0.heap.size < wa.heap.size := (Array.getElem?_eq_some_iff.1 hqa.d).1
        have hRa : wu.heap.size < wa.heap.size := (Array.getElem?_eq_some_iff.1 hra).1
        have v0 : wa.cell? ⟨w0.heap.size, 0, none⟩ = some (.string x.key) := by rw [Go.Joins.cell_of_block hqa.d]; rfl
        have v1 : wa.cell? ⟨w0.heap.size, 1, none⟩ = some (.string x.val) := by rw [Go.Joins.cell_of_block hqa.d]; rfl
        clear hm hb hkk HD HQ6 hqu hba HQ k0 k1 k2 hqa hra
        go_wp2_with fail
        refine (refKey_any _ _).mono ?_
        rintro e wv ⟨rfl, rfl⟩
        go_wp2_with fail
        refine (refVal_any _ _).mono ?_
        rintro e wv ⟨rfl, rfl⟩
        go_wp2_with fail
        go_loopw [18, 17] (fun i tw wr => ∃ m : Nat, m ≤ ps.length ∧ i = .int .i64 (m : Nat) ∧ tw = .bool (has (ps.take m) x.key) ∧ Hid (Below wa.heap.size wa wr)) (fun i _ _ => ps.length - (intOf i).toNat)
        case atStart => exact ⟨0, by omega, rfl, rfl, xhide (by rw [hwa]; exact Below.refl _ _)⟩
        case round =>
          obtain ⟨m, hm, rfl, rfl, HBL⟩ := hrel
          have hq := HQA.out.below HBL.out
          have b3 : wr.cell? ⟨C, 1, none⟩ = some (.slice ao ps.length cap) := by rw [Go.Joins.cell_of_block hq.q.cb]; rfl
          have hC' : C < wr.heap.size := (Array.getElem?_eq_some_iff.1 hq.q.cb).1
          by_cases hlt : m < ps.length
          · obtain ⟨z, hz⟩ := some_at (l := ps) rfl hlt
            obtain ⟨g2, off2, rfl, hgl2, hc2⟩ := hq.q.ws.2.2.2 (by omega)
            have e0 := hc2 m z hz 0 _ rfl
            rw [Nat.add_zero] at e0
            have b0 : wr.cell? ⟨w0.heap.size, 0, none⟩ = some (.string x.key) := by rw [Go.Joins.cell_of_block hq.d]; rfl
            have hD' : w0.heap.size < wr.heap.size := (Array.getElem?_eq_some_iff.1 hq.d).1
            have d2 : (m : Int) < (ps.length : Int) := by omega
            have HHS := xhide (has_snoc (k := x.key) hz)
            have te := teq_iff z.key x.key
            clear hc2 hq
            cases h1 : has (ps.take m) x.key with
            | true =>
              have HH2 : Hid (has (ps.take (m + 1)) x.key = true) := xhide (by rw [HHS.out, h1]; rfl)
              go_wp2_with fail
              go_quiet (fail)
              go_wp2_with fail
              go_roundw
              case rel => exact ⟨m + 1, by omega, by go_num, by rw [HH2.out], xhide (by first | exact xdrew HBL.out _ | exact xdrew (xdrew HBL.out _) _)⟩
              case measure => simp [intOf]; omega
            | false =>
              have HH2 : Hid (has (ps.take (m + 1)) x.key = decide (z.key = x.key)) := xhide (by rw [HHS.out, h1]; simp)
              cases h2 : decide (z.key = x.key) with
              | true =>
                rw [h2] at te HH2
                go_wp2_with fail
                go_quiet (fail)
                go_wp2_with fail
                go_roundw
                case rel => exact ⟨m + 1, by omega, by go_num, by rw [HH2.out], xhide (by first | exact xdrew HBL.out _ | exact xdrew (xdrew HBL.out _) _)⟩
                case measure => simp [intOf]; omega
              | false =>
                rw [h2] at te HH2
                go_wp2_with fail
                go_quiet (fail)
                go_wp2_with fail
                go_roundw
                case rel => exact ⟨m + 1, by omega, by go_num, by rw [HH2.out], xhide (by first | exact xdrew HBL.out _ | exact xdrew (xdrew HBL.out _) _)⟩
                case measure => simp [intOf]; omega
          · obtain rfl : m = ps.length := by omega
            rw [List.take_length]
            have d2 : ¬ (ps.length : Int) < (ps.length : Int) := by omega
            have hra' := (HBL.out.block _ hRa).trans HRA.out
            have r2 : wr.cell? ⟨wu.heap.size, 2, none⟩ = some (.bool fd) := by rw [Go.Joins.cell_of_block hra']; rfl
            have hR' : wu.heap.size < wr.heap.size := (Array.getElem?_eq_some_iff.1 hra').1
            have b0 : wr.cell? ⟨w0.heap.size, 0, none⟩ = some (.string x.key) := by rw [Go.Joins.cell_of_block hq.d]; rfl
            have b1 : wr.cell? ⟨w0.heap.size, 1, none⟩ = some (.string x.val) := by rw [Go.Joins.cell_of_block hq.d]; rfl
            have b2 : wr.cell? ⟨w0.heap.size, 2, none⟩ = some (.bool x.gone) := by rw [Go.Joins.cell_of_block hq.d]; rfl
            have f1 : wr.frozen? ⟨w0.heap.size, 1, none⟩ = false := Go.Joins.unfrozen_of_block hq.d 1
            have hD' : w0.heap.size < wr.heap.size := (Array.getElem?_eq_some_iff.1 hq.d).1
            have HQR := xhide hq
            have NQ : Hid (Q5 W B X Y bY C L (maxT L) wr ps ps ao cap ∧ ps.length + j ≤ l.length) := xhide ⟨hq.q, by have := HPL.out; omega⟩
            clear hq hra' v0 v1
            cases eK : isK x.key with
            | false =>
              go_wp2_with fail
              go_roundw
              case rel => exact ⟨j, ps, ao, cap, by omega, by go_num, NQ⟩
              case measure => first | (simp [intOf]; done) | (simp [intOf]; omega)
            | true =>
              cases eV : isV x.val with
              | false =>
                go_wp2_with fail
                go_roundw
                case rel => exact ⟨j, ps, ao, cap, by omega, by go_num, NQ⟩
                case measure => first | (simp [intOf]; done) | (simp [intOf]; omega)
              | true =>
                cases eH : has ps x.key with
                | true =>
                  go_wp2_with fail
                  go_roundw
                  case rel => exact ⟨j, ps, ao, cap, by omega, by go_num, NQ⟩
                  case measure => first | (simp [intOf]; done) | (simp [intOf]; omega)
                | false =>
                  have hfd := hsg.out.2 eK
                  cases eG : x.gone with
                  | true =>
                    rw [eG] at b2
                    cases eF : fd with
                    | false =>
                      rw [eF] at r2
                      go_wp2_with fail
                      go_roundw
                      case rel => exact ⟨j, ps, ao, cap, by omega, by go_num, NQ⟩
                      case measure => first | (simp [intOf]; done) | (simp [intOf]; omega)
                    | true =>
                      rw [eF] at r2
                      as_aux_lemma =>
                        have hst : stp ⟨L, maxT L, some ps⟩ ⟨6, 0, x.key, z0, x.val, 0, 0⟩ = (⟨L, maxT L, some (putW ps ⟨x.key, ⟨#[]⟩, true⟩)⟩, {}) := by
                          have h1 := stp_lay (S := ⟨L, maxT L, some ps⟩) (x := x) rfl (by have := HPL.out; omega) eK eV (fun q => by first | (rw [eG] at q; cases q; done) | rw [← hfd, eF])
                          rw [← hfd, eF, eG] at h1
                          exact h1
                        have hqe := HQR.out.empty
                        have hq7 := hqe.below (ML.below1 _ (.cells #[.int .i64 6, .int .i64 0, .string x.key, .string ⟨#[]⟩, .string x.val, .int .i64 0, .int .i64 0] 33))
                        have hcd := mo_code hq7.mo HLB.out ⟨6, 0, x.key, z0, x.val, 0, 0⟩
                        rw [hst] at hcd
                        have HCD := xhide hcd
                        have HQ7 := xhide hq7
                        have hNH := has_false.1 eH
                        have HNH := xhide hNH
                        clear hst hcd hq7 hNH HQR hqe
                        go_wp2_with fail
                        refine HCD.out.mono ?_
                        rintro e wc ⟨rfl, hm8, hb8, hk8⟩
                        have hq8 := (HQ7.out.step hm8 hb8 hk8).same (y := ⟨x.key, ⟨#[]⟩, true⟩) (by simp only [wrO, eG])
                        have HQ8 := xhide hq8
                        clear hm8 hb8 hk8 hq8 HCD HQ7 r2 hR' b0 b1 b2 f1 hD' b3 hC'
                        generalize hps : putW ps ⟨x.key, ⟨#[]⟩, true⟩ = qs at *
                        have HPS := xhide hps
                        clear hps
                        go_wp2_with fail
                        go_loopw [22] (fun n wr => ∃ m : Nat, m ≤ ps.length ∧ n = .int .i64 (m : Nat) ∧ Hid (∀ z ∈ ps.take m, nless z.key x.key = true) ∧ Hid (Below wc.heap.size wc wr)) (fun n _ => ps.length - (intOf n).toNat)
                        case atStart => exact ⟨0, by omega, rfl, xhide (by simp), xhide (Below.refl _ _)⟩
                        case round =>
                          obtain ⟨m, hm, rfl, HLS, HBL2⟩ := hrel
                          have hq := HQ8.out.below HBL2.out
                          have b3 : wr.cell? ⟨C, 1, none⟩ = some (.slice ao ps.length cap) := by rw [Go.Joins.cell_of_block hq.q.cb]; rfl
                          have hC' : C < wr.heap.size := (Array.getElem?_eq_some_iff.1 hq.q.cb).1
                          have b0 : wr.cell? ⟨w0.heap.size, 0, none⟩ = some (.string x.key) := by rw [Go.Joins.cell_of_block hq.d]; rfl
                          have b1 : wr.cell? ⟨w0.heap.size, 1, none⟩ = some (.string ⟨#[]⟩) := by rw [Go.Joins.cell_of_block hq.d]; rfl
                          have b2 : wr.cell? ⟨w0.heap.size, 2, none⟩ = some (.bool true) := by rw [Go.Joins.cell_of_block hq.d]; rfl
                          have hD' : w0.heap.size < wr.heap.size := (Array.getElem?_eq_some_iff.1 hq.d).1
                          by_cases hlt : m < ps.length
                          · obtain ⟨z, hz⟩ := some_at (l := ps) rfl hlt
                            have d2 : (m : Int) < (ps.length : Int) := by omega
                            have d3 : decide ((m : Int) < (ps.length : Int)) = true := by simpa using hlt
                            have d4 : decide (m < ps.length) = true := by simpa using hlt
                            cases hnl : nless z.key x.key with
                            | true =>
                              have NX : Hid (∀ y ∈ ps.take (m + 1), nless y.key x.key = true) := xhide (fun y hy => by
                                rw [ML.take_snoc hz] at hy
                                rcases List.mem_append.1 hy with q | q
                                · exact HLS.out y q
                                · simp at q; rw [q]; exact hnl)
                              obtain ⟨g2, off2, rfl, hgl2, hc2⟩ := hq.q.ws.2.2.2 (by omega)
                              have e0 := hc2 m z hz 0 _ rfl
                              rw [Nat.add_zero] at e0
                              unfold nless at hnl
                              clear hc2 hq hz
                              go_wp2_with fail
                              go_quiet (fail)
                              go_wp2_with fail
                              go_roundw
                              case rel => exact ⟨m + 1, by omega, by go_num, NX, xhide (by first | exact xdrew HBL2.out _ | exact xdrew (xdrew HBL2.out _) _)⟩
                              case measure => first | (simp [intOf]; done) | (simp [intOf]; omega)
                            | false =>
                              have HPUT : Hid (qs = ps.take m ++ ⟨x.key, ⟨#[]⟩, true⟩ :: ps.drop m) := xhide (by
                                rw [← HPS.out]
                                exact putW_at hm HLS.out (fun y hy => by rw [hz] at hy; cases hy; exact hnl) HNH.out)
                              obtain ⟨g2, off2, rfl, hgl2, hc2⟩ := hq.q.ws.2.2.2 (by omega)
                              have e0 := hc2 m z hz 0 _ rfl
                              rw [Nat.add_zero] at e0
                              have hcm : ¬ cap = m := by have := hq.q.ws.2.1; omega
                              unfold nless at hnl
                              clear hc2 hz
                              go_wp2_with fail
                              go_quiet (fail)
                              have hqd := HQ8.out.below (xdrew HBL2.out nq)
                              generalize wr.drewN nq = u0 at *
                              have hDlt : w0.heap.size < u0.heap.size := (Array.getElem?_eq_some_iff.1 hqd.d).1
                              have hClt : C < u0.heap.size := (Array.getElem?_eq_some_iff.1 hqd.q.cb).1
                              have n3 : u0.cell? ⟨C, 1, none⟩ = some (.slice (some ⟨g2, off2, none⟩) ps.length cap) := by rw [Go.Joins.cell_of_block hqd.q.cb]; rfl
                              have hcap := hqd.q.ws.2.1
                              obtain ⟨v1, u1, hr1, ho1, hlow1, hsz1, hot1⟩ := wapp (w := u0) (B := u0.heap.size) (v := .slice none 0 0) (l := []) ⟨rfl, .inl ⟨rfl, rfl⟩⟩ (Nat.le_refl _) (WS.sv (ws_take hqd.q.ws (m := m) hm) hqd.q.nil) (by rw [List.length_take]; first | (simp; done) | (simp; omega))
                              rw [List.nil_append] at ho1
                              have hb1 : Below u0.heap.size u0 u1 := hlow1 u0 _ (Nat.le_refl _) (Below.refl _ _)
                              have hd1 := (hb1.block _ hDlt).trans hqd.d
                              have x0 : u1.cell? ⟨w0.heap.size, 0, none⟩ = some (.string x.key) := by rw [Go.Joins.cell_of_block hd1]; rfl
                              have x1 : u1.cell? ⟨w0.heap.size, 1, none⟩ = some (.string ⟨#[]⟩) := by rw [Go.Joins.cell_of_block hd1]; rfl
                              have x2 : u1.cell? ⟨w0.heap.size, 2, none⟩ = some (.bool true) := by rw [Go.Joins.cell_of_block hd1]; rfl
                              have hD1 : w0.heap.size < u1.heap.size := (Array.getElem?_eq_some_iff.1 hd1).1
                              have hbl := ML.below1 u1 (wrO ⟨x.key, ⟨#[]⟩, true⟩)
                              have hs2 : Svw (u1.alloc (wrO ⟨x.key, ⟨#[]⟩, true⟩)) (.slice (some ⟨u1.heap.size, 0, none⟩) 1 1) [⟨x.key, ⟨#[]⟩, true⟩] := .inr ⟨_, 1, rfl, fun j u hu => by
                                have hj := (List.getElem?_eq_some_iff.1 hu).1
                                simp [wrc] at hj
                                rw [addr_plus, Nat.zero_add, Go.Joins.cell_of_block (heap_alloc_new _ _)]
                                rcases (show j = 0 ∨ j = 1 ∨ j = 2 by omega) with rfl | rfl | rfl <;> (simp [wrc] at hu; subst hu; rfl)⟩
                              obtain ⟨v2, u2, hr2, ho2, hlow2, hsz2, hot2⟩ := wapp (ho1.keep hbl) (by have := hb1.size; have := hbl.size; omega) hs2 (by rw [List.length_take]; first | (simp; done) | (simp; omega))
                              have hb2 : Below u0.heap.size u0 u2 := hlow2 u0 _ (Nat.le_refl _) (hb1.trans (hbl.mono hb1.size))
                              have hc2 := (hb2.block C hClt).trans hqd.q.cb
                              have y3 : u2.cell? ⟨C, 1, none⟩ = some (.slice (some ⟨g2, off2, none⟩) ps.length cap) := by rw [Go.Joins.cell_of_block hc2]; rfl
                              have hC2 : C < u2.heap.size := (Array.getElem?_eq_some_iff.1 hc2).1
                              have hs3 := svw_from hqd.q.ws hqd.q.nil (m := m) hm
                              rw [if_neg hcm] at hs3
                              simp only [Option.map_some, addr_plus] at hs3
                              obtain ⟨v3, u3, hr3, ho3, hlow3, hsz3, hot3⟩ := wapp ho2 (by have := hb2.size; omega) (hs3.keep hb2) (by rw [List.length_append, List.length_take, List.length_drop]; first | (simp; done) | (simp; omega))
                              have hb3 : Below u0.heap.size u0 u3 := hlow3 u0 _ (Nat.le_refl _) hb2
                              have hc3 := (hb3.block C hClt).trans hqd.q.cb
                              have s3 : u3.cell? ⟨C, 1, none⟩ = some (.slice (some ⟨g2, off2, none⟩) ps.length cap) := by rw [Go.Joins.cell_of_block hc3]; rfl
                              have t3 : u3.frozen? ⟨C, 1, none⟩ = false := Go.Joins.unfrozen_of_block hc3 1
                              have hC3 : C < u3.heap.size := (Array.getElem?_eq_some_iff.1 hc3).1
                              have ho3' : Wo u3 u0.heap.size v3 qs := by
                                have e : qs = (ps.take (m) ++ [⟨x.key, ⟨#[]⟩, true⟩]) ++ ps.drop (m) := by rw [HPUT.out]; simp
                                rw [e]; exact ho3
                              have hqn : 0 < qs.length := by rw [HPUT.out, List.length_append, List.length_cons]; omega
                              have hql : qs.length ≤ ps.length + 1 := by rw [← HPS.out]; exact put_len _ _
                              obtain ⟨ao', cap', rfl, hq'⟩ := hqd.put hb3 ho3' hqn
                              have FIN : Hid (Q5 W B X Y bY C L (maxT L) (u3.setCell ⟨C, 1, none⟩ (.slice ao' qs.length cap')) qs qs ao' cap' ∧ qs.length + j ≤ l.length) := xhide ⟨hq', by have := HPL.out; omega⟩
                              obtain ⟨a1, k1, e1, _⟩ := ho1.seq
                              subst e1
                              obtain ⟨a2, k2, e2, _⟩ := ho2.seq
                              subst e2
                              have HR1 := xhide hr1
                              have HR2 := xhide hr2
                              have HR3 := xhide hr3
                              have dm : (((m : Nat) : Int)) ≤ ((cap : Nat) : Int) := by first | omega | simp
                              have dm2 : (((m : Nat) : Int)) ≤ (ps.length : Int) := by first | omega | simp
                              clear hr1 hr2 hr3 ho1 ho2 ho3 ho3' hlow1 hlow2 hlow3 hot1 hot2 hot3 hb1 hb2 hb3 hd1 hc2 hc3 hs2 hbl hq' hqd HQ8 HBL2 HPS hql hqn

                              go_wp2_with (at_builtin; refine Hid.out ?_)
                              refine xhide ?_
                              refine Lib.wpList_append_run _ rfl _ _ _ _ rfl _ _ rfl rfl _ _ HR1.out ?_
                              go_frame
                              go_wp2_with (at_builtin; refine Hid.out ?_)
                              refine xhide ?_
                              refine Lib.wpList_append_run _ rfl _ _ _ _ rfl _ _ rfl rfl _ _ HR2.out ?_
                              go_frame
                              go_wp2_with (at_builtin; refine Hid.out ?_)
                              refine xhide ?_
                              refine Lib.wpList_append_run _ rfl _ _ _ _ rfl _ _ rfl rfl _ _ HR3.out ?_
                              go_frame
                              go_wp2_with fail
                              go_roundw
                              case rel => exact ⟨j, qs, _, _, by omega, by go_num, FIN⟩
                              case measure => first | (simp [intOf]; done) | (simp [intOf]; omega)
                          · obtain rfl : m = ps.length := by omega
                            have d3 : decide ((ps.length : Int) < (ps.length : Int)) = false := by simp
                            have HPUT : Hid (qs = ps.take ps.length ++ ⟨x.key, ⟨#[]⟩, true⟩ :: ps.drop ps.length) := xhide (by
                              rw [← HPS.out]
                              exact putW_at (Nat.le_refl _) HLS.out (fun y hy => by have := (List.getElem?_eq_some_iff.1 hy).1; omega) HNH.out)
                            go_wp2_with fail
                            go_quiet (fail)
                            by_cases hpe : ps = []
                            · subst hpe
                              obtain rfl := hq.q.emp rfl
                              obtain rfl := hq.q.nil rfl
                              have hqd := HQ8.out.below (xdrew HBL2.out nq)
                              generalize wr.drewN nq = u0 at *
                              have hDlt : w0.heap.size < u0.heap.size := (Array.getElem?_eq_some_iff.1 hqd.d).1
                              have hClt : C < u0.heap.size := (Array.getElem?_eq_some_iff.1 hqd.q.cb).1
                              have n3 : u0.cell? ⟨C, 1, none⟩ = some (.slice none ([] : List Wr).length 0) := by rw [Go.Joins.cell_of_block hqd.q.cb]; rfl
                              have hcap := hqd.q.ws.2.1
                              obtain ⟨v1, u1, hr1, ho1, hlow1, hsz1, hot1⟩ := wapp (w := u0) (B := u0.heap.size) (v := .slice none 0 0) (l := []) ⟨rfl, .inl ⟨rfl, rfl⟩⟩ (Nat.le_refl _) (WS.sv (ws_take hqd.q.ws (m := 0) (Nat.le_refl _)) hqd.q.nil) (by rw [List.length_take]; first | (simp; done) | (simp; omega))
                              rw [List.nil_append] at ho1
                              have hb1 : Below u0.heap.size u0 u1 := hlow1 u0 _ (Nat.le_refl _) (Below.refl _ _)
                              have hd1 := (hb1.block _ hDlt).trans hqd.d
                              have x0 : u1.cell? ⟨w0.heap.size, 0, none⟩ = some (.string x.key) := by rw [Go.Joins.cell_of_block hd1]; rfl
                              have x1 : u1.cell? ⟨w0.heap.size, 1, none⟩ = some (.string ⟨#[]⟩) := by rw [Go.Joins.cell_of_block hd1]; rfl
                              have x2 : u1.cell? ⟨w0.heap.size, 2, none⟩ = some (.bool true) := by rw [Go.Joins.cell_of_block hd1]; rfl
                              have hD1 : w0.heap.size < u1.heap.size := (Array.getElem?_eq_some_iff.1 hd1).1
                              have hbl := ML.below1 u1 (wrO ⟨x.key, ⟨#[]⟩, true⟩)
                              have hs2 : Svw (u1.alloc (wrO ⟨x.key, ⟨#[]⟩, true⟩)) (.slice (some ⟨u1.heap.size, 0, none⟩) 1 1) [⟨x.key, ⟨#[]⟩, true⟩] := .inr ⟨_, 1, rfl, fun j u hu => by
                                have hj := (List.getElem?_eq_some_iff.1 hu).1
                                simp [wrc] at hj
                                rw [addr_plus, Nat.zero_add, Go.Joins.cell_of_block (heap_alloc_new _ _)]
                                rcases (show j = 0 ∨ j = 1 ∨ j = 2 by omega) with rfl | rfl | rfl <;> (simp [wrc] at hu; subst hu; rfl)⟩
                              obtain ⟨v2, u2, hr2, ho2, hlow2, hsz2, hot2⟩ := wapp (ho1.keep hbl) (by have := hb1.size; have := hbl.size; omega) hs2 (by rw [List.length_take]; first | (simp; done) | (simp; omega))
                              have hb2 : Below u0.heap.size u0 u2 := hlow2 u0 _ (Nat.le_refl _) (hb1.trans (hbl.mono hb1.size))
                              have hc2 := (hb2.block C hClt).trans hqd.q.cb
                              have y3 : u2.cell? ⟨C, 1, none⟩ = some (.slice none ([] : List Wr).length 0) := by rw [Go.Joins.cell_of_block hc2]; rfl
                              have hC2 : C < u2.heap.size := (Array.getElem?_eq_some_iff.1 hc2).1
                              have hs3 := svw_from hqd.q.ws hqd.q.nil (m := 0) (Nat.le_refl _)
                              rw [if_pos rfl] at hs3
                              obtain ⟨v3, u3, hr3, ho3, hlow3, hsz3, hot3⟩ := wapp ho2 (by have := hb2.size; omega) (hs3.keep hb2) (by rw [List.length_append, List.length_take, List.length_drop]; first | (simp; done) | (simp; omega))
                              have hb3 : Below u0.heap.size u0 u3 := hlow3 u0 _ (Nat.le_refl _) hb2
                              have hc3 := (hb3.block C hClt).trans hqd.q.cb
                              have s3 : u3.cell? ⟨C, 1, none⟩ = some (.slice none ([] : List Wr).length 0) := by rw [Go.Joins.cell_of_block hc3]; rfl
                              have t3 : u3.frozen? ⟨C, 1, none⟩ = false := Go.Joins.unfrozen_of_block hc3 1
                              have hC3 : C < u3.heap.size := (Array.getElem?_eq_some_iff.1 hc3).1
                              have ho3' : Wo u3 u0.heap.size v3 qs := by
                                have e : qs = (([] : List Wr).take (0) ++ [⟨x.key, ⟨#[]⟩, true⟩]) ++ ([] : List Wr).drop (0) := by rw [HPUT.out]; simp
                                rw [e]; exact ho3
                              have hqn : 0 < qs.length := by rw [HPUT.out, List.length_append, List.length_cons]; omega
                              have hql : qs.length ≤ ([] : List Wr).length + 1 := by rw [← HPS.out]; exact put_len _ _
                              obtain ⟨ao', cap', rfl, hq'⟩ := hqd.put hb3 ho3' hqn
                              have FIN : Hid (Q5 W B X Y bY C L (maxT L) (u3.setCell ⟨C, 1, none⟩ (.slice ao' qs.length cap')) qs qs ao' cap' ∧ qs.length + j ≤ l.length) := xhide ⟨hq', by have := HPL.out; omega⟩
                              obtain ⟨a1, k1, e1, _⟩ := ho1.seq
                              subst e1
                              obtain ⟨a2, k2, e2, _⟩ := ho2.seq
                              subst e2
                              have HR1 := xhide hr1
                              have HR2 := xhide hr2
                              have HR3 := xhide hr3
                              have dm : (((0 : Nat) : Int)) ≤ ((0 : Nat) : Int) := by first | omega | simp
                              have dm2 : (((0 : Nat) : Int)) ≤ (([] : List Wr).length : Int) := by first | omega | simp
                              clear hr1 hr2 hr3 ho1 ho2 ho3 ho3' hlow1 hlow2 hlow3 hot1 hot2 hot3 hb1 hb2 hb3 hd1 hc2 hc3 hs2 hbl hq' hqd HQ8 HBL2 HPS hql hqn

                              go_wp2_with (at_builtin; refine Hid.out ?_)
                              refine xhide ?_
                              refine Lib.wpList_append_run _ rfl _ _ _ _ rfl _ _ rfl rfl _ _ HR1.out ?_
                              go_frame
                              go_wp2_with (at_builtin; refine Hid.out ?_)
                              refine xhide ?_
                              refine Lib.wpList_append_run _ rfl _ _ _ _ rfl _ _ rfl rfl _ _ HR2.out ?_
                              go_frame
                              go_wp2_with (at_builtin; refine Hid.out ?_)
                              refine xhide ?_
                              refine Lib.wpList_append_run _ rfl _ _ _ _ rfl _ _ rfl rfl _ _ HR3.out ?_
                              go_frame
                              go_wp2_with fail
                              go_roundw
                              case rel => exact ⟨j, qs, _, _, by omega, by go_num, FIN⟩
                              case measure => first | (simp [intOf]; done) | (simp [intOf]; omega)
                            · have hpl0 : 0 < ps.length := List.length_pos_iff.2 hpe
                              obtain ⟨g2, off2, rfl, hgl2, hc2⟩ := hq.q.ws.2.2.2 hpl0
                              clear hc2
                              by_cases hcm : cap = ps.length
                              · subst hcm
                                have hqd := HQ8.out.below (xdrew HBL2.out nq)
                                generalize wr.drewN nq = u0 at *
                                have hDlt : w0.heap.size < u0.heap.size := (Array.getElem?_eq_some_iff.1 hqd.d).1
                                have hClt : C < u0.heap.size := (Array.getElem?_eq_some_iff.1 hqd.q.cb).1
                                have n3 : u0.cell? ⟨C, 1, none⟩ = some (.slice (some ⟨g2, off2, none⟩) ps.length ps.length) := by rw [Go.Joins.cell_of_block hqd.q.cb]; rfl
                                have hcap := hqd.q.ws.2.1
                                obtain ⟨v1, u1, hr1, ho1, hlow1, hsz1, hot1⟩ := wapp (w := u0) (B := u0.heap.size) (v := .slice none 0 0) (l := []) ⟨rfl, .inl ⟨rfl, rfl⟩⟩ (Nat.le_refl _) (WS.sv (ws_take hqd.q.ws (m := ps.length) (Nat.le_refl _)) hqd.q.nil) (by rw [List.length_take]; first | (simp; done) | (simp; omega))
                                rw [List.nil_append] at ho1
                                have hb1 : Below u0.heap.size u0 u1 := hlow1 u0 _ (Nat.le_refl _) (Below.refl _ _)
                                have hd1 := (hb1.block _ hDlt).trans hqd.d
                                have x0 : u1.cell? ⟨w0.heap.size, 0, none⟩ = some (.string x.key) := by rw [Go.Joins.cell_of_block hd1]; rfl
                                have x1 : u1.cell? ⟨w0.heap.size, 1, none⟩ = some (.string ⟨#[]⟩) := by rw [Go.Joins.cell_of_block hd1]; rfl
                                have x2 : u1.cell? ⟨w0.heap.size, 2, none⟩ = some (.bool true) := by rw [Go.Joins.cell_of_block hd1]; rfl
                                have hD1 : w0.heap.size < u1.heap.size := (Array.getElem?_eq_some_iff.1 hd1).1
                                have hbl := ML.below1 u1 (wrO ⟨x.key, ⟨#[]⟩, true⟩)
                                have hs2 : Svw (u1.alloc (wrO ⟨x.key, ⟨#[]⟩, true⟩)) (.slice (some ⟨u1.heap.size, 0, none⟩) 1 1) [⟨x.key, ⟨#[]⟩, true⟩] := .inr ⟨_, 1, rfl, fun j u hu => by
                                  have hj := (List.getElem?_eq_some_iff.1 hu).1
                                  simp [wrc] at hj
                                  rw [addr_plus, Nat.zero_add, Go.Joins.cell_of_block (heap_alloc_new _ _)]
                                  rcases (show j = 0 ∨ j = 1 ∨ j = 2 by omega) with rfl | rfl | rfl <;> (simp [wrc] at hu; subst hu; rfl)⟩
                                obtain ⟨v2, u2, hr2, ho2, hlow2, hsz2, hot2⟩ := wapp (ho1.keep hbl) (by have := hb1.size; have := hbl.size; omega) hs2 (by rw [List.length_take]; first | (simp; done) | (simp; omega))
                                have hb2 : Below u0.heap.size u0 u2 := hlow2 u0 _ (Nat.le_refl _) (hb1.trans (hbl.mono hb1.size))
                                have hc2 := (hb2.block C hClt).trans hqd.q.cb
                                have y3 : u2.cell? ⟨C, 1, none⟩ = some (.slice (some ⟨g2, off2, none⟩) ps.length ps.length) := by rw [Go.Joins.cell_of_block hc2]; rfl
                                have hC2 : C < u2.heap.size := (Array.getElem?_eq_some_iff.1 hc2).1
                                have hs3 := svw_from hqd.q.ws hqd.q.nil (m := ps.length) (Nat.le_refl _)
                                rw [if_pos rfl, Nat.sub_self] at hs3
                                obtain ⟨v3, u3, hr3, ho3, hlow3, hsz3, hot3⟩ := wapp ho2 (by have := hb2.size; omega) (hs3.keep hb2) (by rw [List.length_append, List.length_take, List.length_drop]; first | (simp; done) | (simp; omega))
                                have hb3 : Below u0.heap.size u0 u3 := hlow3 u0 _ (Nat.le_refl _) hb2
                                have hc3 := (hb3.block C hClt).trans hqd.q.cb
                                have s3 : u3.cell? ⟨C, 1, none⟩ = some (.slice (some ⟨g2, off2, none⟩) ps.length ps.length) := by rw [Go.Joins.cell_of_block hc3]; rfl
                                have t3 : u3.frozen? ⟨C, 1, none⟩ = false := Go.Joins.unfrozen_of_block hc3 1
                                have hC3 : C < u3.heap.size := (Array.getElem?_eq_some_iff.1 hc3).1
                                have ho3' : Wo u3 u0.heap.size v3 qs := by
                                  have e : qs = (ps.take (ps.length) ++ [⟨x.key, ⟨#[]⟩, true⟩]) ++ ps.drop (ps.length) := by rw [HPUT.out]; simp
                                  rw [e]; exact ho3
                                have hqn : 0 < qs.length := by rw [HPUT.out, List.length_append, List.length_cons]; omega
                                have hql : qs.length ≤ ps.length + 1 := by rw [← HPS.out]; exact put_len _ _
                                obtain ⟨ao', cap', rfl, hq'⟩ := hqd.put hb3 ho3' hqn
                                have FIN : Hid (Q5 W B X Y bY C L (maxT L) (u3.setCell ⟨C, 1, none⟩ (.slice ao' qs.length cap')) qs qs ao' cap' ∧ qs.length + j ≤ l.length) := xhide ⟨hq', by have := HPL.out; omega⟩
                                obtain ⟨a1, k1, e1, _⟩ := ho1.seq
                                subst e1
                                obtain ⟨a2, k2, e2, _⟩ := ho2.seq
                                subst e2
                                have HR1 := xhide hr1
                                have HR2 := xhide hr2
                                have HR3 := xhide hr3
                                have dm : (((ps.length : Nat) : Int)) ≤ ((ps.length : Nat) : Int) := by first | omega | simp
                                have dm2 : (((ps.length : Nat) : Int)) ≤ (ps.length : Int) := by first | omega | simp
                                clear hr1 hr2 hr3 ho1 ho2 ho3 ho3' hlow1 hlow2 hlow3 hot1 hot2 hot3 hb1 hb2 hb3 hd1 hc2 hc3 hs2 hbl hq' hqd HQ8 HBL2 HPS hql hqn

                                go_wp2_with (at_builtin; refine Hid.out ?_)
                                refine xhide ?_
                                refine Lib.wpList_append_run _ rfl _ _ _ _ rfl _ _ rfl rfl _ _ HR1.out ?_
                                go_frame
                                go_wp2_with (at_builtin; refine Hid.out ?_)
                                refine xhide ?_
                                refine Lib.wpList_append_run _ rfl _ _ _ _ rfl _ _ rfl rfl _ _ HR2.out ?_
                                go_frame
                                go_wp2_with (at_builtin; refine Hid.out ?_)
                                refine xhide ?_
                                refine Lib.wpList_append_run _ rfl _ _ _ _ rfl _ _ rfl rfl _ _ HR3.out ?_
                                go_frame
                                go_wp2_with fail
                                go_roundw
                                case rel => exact ⟨j, qs, _, _, by omega, by go_num, FIN⟩
                                case measure => first | (simp [intOf]; done) | (simp [intOf]; omega)
                              · skip
                                have hqd := HQ8.out.below (xdrew HBL2.out nq)
                                generalize wr.drewN nq = u0 at *
                                have hDlt : w0.heap.size < u0.heap.size := (Array.getElem?_eq_some_iff.1 hqd.d).1
                                have hClt : C < u0.heap.size := (Array.getElem?_eq_some_iff.1 hqd.q.cb).1
                                have n3 : u0.cell? ⟨C, 1, none⟩ = some (.slice (some ⟨g2, off2, none⟩) ps.length cap) := by rw [Go.Joins.cell_of_block hqd.q.cb]; rfl
                                have hcap := hqd.q.ws.2.1
                                obtain ⟨v1, u1, hr1, ho1, hlow1, hsz1, hot1⟩ := wapp (w := u0) (B := u0.heap.size) (v := .slice none 0 0) (l := []) ⟨rfl, .inl ⟨rfl, rfl⟩⟩ (Nat.le_refl _) (WS.sv (ws_take hqd.q.ws (m := ps.length) (Nat.le_refl _)) hqd.q.nil) (by rw [List.length_take]; first | (simp; done) | (simp; omega))
                                rw [List.nil_append] at ho1
                                have hb1 : Below u0.heap.size u0 u1 := hlow1 u0 _ (Nat.le_refl _) (Below.refl _ _)
                                have hd1 := (hb1.block _ hDlt).trans hqd.d
                                have x0 : u1.cell? ⟨w0.heap.size, 0, none⟩ = some (.string x.key) := by rw [Go.Joins.cell_of_block hd1]; rfl
                                have x1 : u1.cell? ⟨w0.heap.size, 1, none⟩ = some (.string ⟨#[]⟩) := by rw [Go.Joins.cell_of_block hd1]; rfl
                                have x2 : u1.cell? ⟨w0.heap.size, 2, none⟩ = some (.bool true) := by rw [Go.Joins.cell_of_block hd1]; rfl
                                have hD1 : w0.heap.size < u1.heap.size := (Array.getElem?_eq_some_iff.1 hd1).1
                                have hbl := ML.below1 u1 (wrO ⟨x.key, ⟨#[]⟩, true⟩)
                                have hs2 : Svw (u1.alloc (wrO ⟨x.key, ⟨#[]⟩, true⟩)) (.slice (some ⟨u1.heap.size, 0, none⟩) 1 1) [⟨x.key, ⟨#[]⟩, true⟩] := .inr ⟨_, 1, rfl, fun j u hu => by
                                  have hj := (List.getElem?_eq_some_iff.1 hu).1
                                  simp [wrc] at hj
                                  rw [addr_plus, Nat.zero_add, Go.Joins.cell_of_block (heap_alloc_new _ _)]
                                  rcases (show j = 0 ∨ j = 1 ∨ j = 2 by omega) with rfl | rfl | rfl <;> (simp [wrc] at hu; subst hu; rfl)⟩
                                obtain ⟨v2, u2, hr2, ho2, hlow2, hsz2, hot2⟩ := wapp (ho1.keep hbl) (by have := hb1.size; have := hbl.size; omega) hs2 (by rw [List.length_take]; first | (simp; done) | (simp; omega))
                                have hb2 : Below u0.heap.size u0 u2 := hlow2 u0 _ (Nat.le_refl _) (hb1.trans (hbl.mono hb1.size))
                                have hc2 := (hb2.block C hClt).trans hqd.q.cb
                                have y3 : u2.cell? ⟨C, 1, none⟩ = some (.slice (some ⟨g2, off2, none⟩) ps.length cap) := by rw [Go.Joins.cell_of_block hc2]; rfl
                                have hC2 : C < u2.heap.size := (Array.getElem?_eq_some_iff.1 hc2).1
                                have hs3 := svw_from hqd.q.ws hqd.q.nil (m := ps.length) (Nat.le_refl _)
                                rw [if_neg hcm, Nat.sub_self] at hs3
                                simp only [Option.map_some, addr_plus] at hs3
                                obtain ⟨v3, u3, hr3, ho3, hlow3, hsz3, hot3⟩ := wapp ho2 (by have := hb2.size; omega) (hs3.keep hb2) (by rw [List.length_append, List.length_take, List.length_drop]; first | (simp; done) | (simp; omega))
                                have hb3 : Below u0.heap.size u0 u3 := hlow3 u0 _ (Nat.le_refl _) hb2
                                have hc3 := (hb3.block C hClt).trans hqd.q.cb
                                have s3 : u3.cell? ⟨C, 1, none⟩ = some (.slice (some ⟨g2, off2, none⟩) ps.length cap) := by rw [Go.Joins.cell_of_block hc3]; rfl
                                have t3 : u3.frozen? ⟨C, 1, none⟩ = false := Go.Joins.unfrozen_of_block hc3 1
                                have hC3 : C < u3.heap.size := (Array.getElem?_eq_some_iff.1 hc3).1
                                have ho3' : Wo u3 u0.heap.size v3 qs := by
                                  have e : qs = (ps.take (ps.length) ++ [⟨x.key, ⟨#[]⟩, true⟩]) ++ ps.drop (ps.length) := by rw [HPUT.out]; simp
                                  rw [e]; exact ho3
                                have hqn : 0 < qs.length := by rw [HPUT.out, List.length_append, List.length_cons]; omega
                                have hql : qs.length ≤ ps.length + 1 := by rw [← HPS.out]; exact put_len _ _
                                obtain ⟨ao', cap', rfl, hq'⟩ := hqd.put hb3 ho3' hqn
                                have FIN : Hid (Q5 W B X Y bY C L (maxT L) (u3.setCell ⟨C, 1, none⟩ (.slice ao' qs.length cap')) qs qs ao' cap' ∧ qs.length + j ≤ l.length) := xhide ⟨hq', by have := HPL.out; omega⟩
                                obtain ⟨a1, k1, e1, _⟩ := ho1.seq
                                subst e1
                                obtain ⟨a2, k2, e2, _⟩ := ho2.seq
                                subst e2
                                have HR1 := xhide hr1
                                have HR2 := xhide hr2
                                have HR3 := xhide hr3
                                have dm : (((ps.length : Nat) : Int)) ≤ ((cap : Nat) : Int) := by first | omega | simp
                                have dm2 : (((ps.length : Nat) : Int)) ≤ (ps.length : Int) := by first | omega | simp
                                clear hr1 hr2 hr3 ho1 ho2 ho3 ho3' hlow1 hlow2 hlow3 hot1 hot2 hot3 hb1 hb2 hb3 hd1 hc2 hc3 hs2 hbl hq' hqd HQ8 HBL2 HPS hql hqn

                                go_wp2_with (at_builtin; refine Hid.out ?_)
                                refine xhide ?_
                                refine Lib.wpList_append_run _ rfl _ _ _ _ rfl _ _ rfl rfl _ _ HR1.out ?_
                                go_frame
                                go_wp2_with (at_builtin; refine Hid.out ?_)
                                refine xhide ?_
                                refine Lib.wpList_append_run _ rfl _ _ _ _ rfl _ _ rfl rfl _ _ HR2.out ?_
                                go_frame
                                go_wp2_with (at_builtin; refine Hid.out ?_)
                                refine xhide ?_
                                refine Lib.wpList_append_run _ rfl _ _ _ _ rfl _ _ rfl rfl _ _ HR3.out ?_
                                go_frame
                                go_wp2_with fail
                                go_roundw
                                case rel => exact ⟨j, qs, _, _, by omega, by go_num, FIN⟩
                                case measure => first | (simp [intOf]; done) | (simp [intOf]; omega)
                  | false =>
                    rw [eG] at b2
                    cases eF : fd with
                    | true =>
                      rw [eF] at r2
                      as_aux_lemma =>
                        have hst : stp ⟨L, maxT L, some ps⟩ ⟨5, 0, x.key, z0, x.val, 0, 0⟩ = (⟨L, maxT L, some (putW ps ⟨x.key, x.val, false⟩)⟩, {}) := by
                          have h1 := stp_lay (S := ⟨L, maxT L, some ps⟩) (x := x) rfl (by have := HPL.out; omega) eK eV (fun q => by first | (rw [eG] at q; cases q; done) | rw [← hfd, eF])
                          rw [← hfd, eF, eG] at h1
                          exact h1
                        have hq7 := HQR.out.below (ML.below1 wr (.cells #[.int .i64 5, .int .i64 0, .string x.key, .string ⟨#[]⟩, .string x.val, .int .i64 0, .int .i64 0] 33))
                        have hcd := mo_code hq7.mo HLB.out ⟨5, 0, x.key, z0, x.val, 0, 0⟩
                        rw [hst] at hcd
                        have HCD := xhide hcd
                        have HQ7 := xhide hq7
                        have hNH := has_false.1 eH
                        have HNH := xhide hNH
                        clear hst hcd hq7 hNH HQR 
                        go_wp2_with fail
                        refine HCD.out.mono ?_
                        rintro e wc ⟨rfl, hm8, hb8, hk8⟩
                        have hq8 := (HQ7.out.step hm8 hb8 hk8).same (y := ⟨x.key, x.val, false⟩) (by simp only [wrO, eG])
                        have HQ8 := xhide hq8
                        clear hm8 hb8 hk8 hq8 HCD HQ7 r2 hR' b0 b1 b2 f1 hD' b3 hC'
                        generalize hps : putW ps ⟨x.key, x.val, false⟩ = qs at *
                        have HPS := xhide hps
                        clear hps
                        go_wp2_with fail
                        go_loopw [22] (fun n wr => ∃ m : Nat, m ≤ ps.length ∧ n = .int .i64 (m : Nat) ∧ Hid (∀ z ∈ ps.take m, nless z.key x.key = true) ∧ Hid (Below wc.heap.size wc wr)) (fun n _ => ps.length - (intOf n).toNat)
                        case atStart => exact ⟨0, by omega, rfl, xhide (by simp), xhide (Below.refl _ _)⟩
                        case round =>
                          obtain ⟨m, hm, rfl, HLS, HBL2⟩ := hrel
                          have hq := HQ8.out.below HBL2.out
                          have b3 : wr.cell? ⟨C, 1, none⟩ = some (.slice ao ps.length cap) := by rw [Go.Joins.cell_of_block hq.q.cb]; rfl
                          have hC' : C < wr.heap.size := (Array.getElem?_eq_some_iff.1 hq.q.cb).1
                          have b0 : wr.cell? ⟨w0.heap.size, 0, none⟩ = some (.string x.key) := by rw [Go.Joins.cell_of_block hq.d]; rfl
                          have b1 : wr.cell? ⟨w0.heap.size, 1, none⟩ = some (.string x.val) := by rw [Go.Joins.cell_of_block hq.d]; rfl
                          have b2 : wr.cell? ⟨w0.heap.size, 2, none⟩ = some (.bool false) := by rw [Go.Joins.cell_of_block hq.d]; rfl
                          have hD' : w0.heap.size < wr.heap.size := (Array.getElem?_eq_some_iff.1 hq.d).1
                          by_cases hlt : m < ps.length
                          · obtain ⟨z, hz⟩ := some_at (l := ps) rfl hlt
                            have d2 : (m : Int) < (ps.length : Int) := by omega
                            have d3 : decide ((m : Int) < (ps.length : Int)) = true := by simpa using hlt
                            have d4 : decide (m < ps.length) = true := by simpa using hlt
                            cases hnl : nless z.key x.key with
                            | true =>
                              have NX : Hid (∀ y ∈ ps.take (m + 1), nless y.key x.key = true) := xhide (fun y hy => by
                                rw [ML.take_snoc hz] at hy
                                rcases List.mem_append.1 hy with q | q
                                · exact HLS.out y q
                                · simp at q; rw [q]; exact hnl)
                              obtain ⟨g2, off2, rfl, hgl2, hc2⟩ := hq.q.ws.2.2.2 (by omega)
                              have e0 := hc2 m z hz 0 _ rfl
                              rw [Nat.add_zero] at e0
                              unfold nless at hnl
                              clear hc2 hq hz
                              go_wp2_with fail
                              go_quiet (fail)
                              go_wp2_with fail
                              go_roundw
                              case rel => exact ⟨m + 1, by omega, by go_num, NX, xhide (by first | exact xdrew HBL2.out _ | exact xdrew (xdrew HBL2.out _) _)⟩
                              case measure => first | (simp [intOf]; done) | (simp [intOf]; omega)
                            | false =>
                              have HPUT : Hid (qs = ps.take m ++ ⟨x.key, x.val, false⟩ :: ps.drop m) := xhide (by
                                rw [← HPS.out]
                                exact putW_at hm HLS.out (fun y hy => by rw [hz] at hy; cases hy; exact hnl) HNH.out)
                              obtain ⟨g2, off2, rfl, hgl2, hc2⟩ := hq.q.ws.2.2.2 (by omega)
                              have e0 := hc2 m z hz 0 _ rfl
                              rw [Nat.add_zero] at e0
                              have hcm : ¬ cap = m := by have := hq.q.ws.2.1; omega
                              unfold nless at hnl
                              clear hc2 hz
                              go_wp2_with fail
                              go_quiet (fail)
                              have hqd := HQ8.out.below (xdrew HBL2.out nq)
                              generalize wr.drewN nq = u0 at *
                              have hDlt : w0.heap.size < u0.heap.size := (Array.getElem?_eq_some_iff.1 hqd.d).1
                              have hClt : C < u0.heap.size := (Array.getElem?_eq_some_iff.1 hqd.q.cb).1
                              have n3 : u0.cell? ⟨C, 1, none⟩ = some (.slice (some ⟨g2, off2, none⟩) ps.length cap) := by rw [Go.Joins.cell_of_block hqd.q.cb]; rfl
                              have hcap := hqd.q.ws.2.1
                              obtain ⟨v1, u1, hr1, ho1, hlow1, hsz1, hot1⟩ := wapp (w := u0) (B := u0.heap.size) (v := .slice none 0 0) (l := []) ⟨rfl, .inl ⟨rfl, rfl⟩⟩ (Nat.le_refl _) (WS.sv (ws_take hqd.q.ws (m := m) hm) hqd.q.nil) (by rw [List.length_take]; first | (simp; done) | (simp; omega))
                              rw [List.nil_append] at ho1
                              have hb1 : Below u0.heap.size u0 u1 := hlow1 u0 _ (Nat.le_refl _) (Below.refl _ _)
                              have hd1 := (hb1.block _ hDlt).trans hqd.d
                              have x0 : u1.cell? ⟨w0.heap.size, 0, none⟩ = some (.string x.key) := by rw [Go.Joins.cell_of_block hd1]; rfl
                              have x1 : u1.cell? ⟨w0.heap.size, 1, none⟩ = some (.string x.val) := by rw [Go.Joins.cell_of_block hd1]; rfl
                              have x2 : u1.cell? ⟨w0.heap.size, 2, none⟩ = some (.bool false) := by rw [Go.Joins.cell_of_block hd1]; rfl
                              have hD1 : w0.heap.size < u1.heap.size := (Array.getElem?_eq_some_iff.1 hd1).1
                              have hbl := ML.below1 u1 (wrO ⟨x.key, x.val, false⟩)
                              have hs2 : Svw (u1.alloc (wrO ⟨x.key, x.val, false⟩)) (.slice (some ⟨u1.heap.size, 0, none⟩) 1 1) [⟨x.key, x.val, false⟩] := .inr ⟨_, 1, rfl, fun j u hu => by
                                have hj := (List.getElem?_eq_some_iff.1 hu).1
                                simp [wrc] at hj
                                rw [addr_plus, Nat.zero_add, Go.Joins.cell_of_block (heap_alloc_new _ _)]
                                rcases (show j = 0 ∨ j = 1 ∨ j = 2 by omega) with rfl | rfl | rfl <;> (simp [wrc] at hu; subst hu; rfl)⟩
                              obtain ⟨v2, u2, hr2, ho2, hlow2, hsz2, hot2⟩ := wapp (ho1.keep hbl) (by have := hb1.size; have := hbl.size; omega) hs2 (by rw [List.length_take]; first | (simp; done) | (simp; omega))
                              have hb2 : Below u0.heap.size u0 u2 := hlow2 u0 _ (Nat.le_refl _) (hb1.trans (hbl.mono hb1.size))
                              have hc2 := (hb2.block C hClt).trans hqd.q.cb
                              have y3 : u2.cell? ⟨C, 1, none⟩ = some (.slice (some ⟨g2, off2, none⟩) ps.length cap) := by rw [Go.Joins.cell_of_block hc2]; rfl
                              have hC2 : C < u2.heap.size := (Array.getElem?_eq_some_iff.1 hc2).1
                              have hs3 := svw_from hqd.q.ws hqd.q.nil (m := m) hm
                              rw [if_neg hcm] at hs3
                              simp only [Option.map_some, addr_plus] at hs3
                              obtain ⟨v3, u3, hr3, ho3, hlow3, hsz3, hot3⟩ := wapp ho2 (by have := hb2.size; omega) (hs3.keep hb2) (by rw [List.length_append, List.length_take, List.length_drop]; first | (simp; done) | (simp; omega))
                              have hb3 : Below u0.heap.size u0 u3 := hlow3 u0 _ (Nat.le_refl _) hb2
                              have hc3 := (hb3.block C hClt).trans hqd.q.cb
                              have s3 : u3.cell? ⟨C, 1, none⟩ = some (.slice (some ⟨g2, off2, none⟩) ps.length cap) := by rw [Go.Joins.cell_of_block hc3]; rfl
                              have t3 : u3.frozen? ⟨C, 1, none⟩ = false := Go.Joins.unfrozen_of_block hc3 1
                              have hC3 : C < u3.heap.size := (Array.getElem?_eq_some_iff.1 hc3).1
                              have ho3' : Wo u3 u0.heap.size v3 qs := by
                                have e : qs = (ps.take (m) ++ [⟨x.key, x.val, false⟩]) ++ ps.drop (m) := by rw [HPUT.out]; simp
                                rw [e]; exact ho3
                              have hqn : 0 < qs.length := by rw [HPUT.out, List.length_append, List.length_cons]; omega
                              have hql : qs.length ≤ ps.length + 1 := by rw [← HPS.out]; exact put_len _ _
                              obtain ⟨ao', cap', rfl, hq'⟩ := hqd.put hb3 ho3' hqn
                              have FIN : Hid (Q5 W B X Y bY C L (maxT L) (u3.setCell ⟨C, 1, none⟩ (.slice ao' qs.length cap')) qs qs ao' cap' ∧ qs.length + j ≤ l.length) := xhide ⟨hq', by have := HPL.out; omega⟩
                              obtain ⟨a1, k1, e1, _⟩ := ho1.seq
                              subst e1
                              obtain ⟨a2, k2, e2, _⟩ := ho2.seq
                              subst e2
                              have HR1 := xhide hr1
                              have HR2 := xhide hr2
                              have HR3 := xhide hr3
                              have dm : (((m : Nat) : Int)) ≤ ((cap : Nat) : Int) := by first | omega | simp
                              have dm2 : (((m : Nat) : Int)) ≤ (ps.length : Int) := by first | omega | simp
                              clear hr1 hr2 hr3 ho1 ho2 ho3 ho3' hlow1 hlow2 hlow3 hot1 hot2 hot3 hb1 hb2 hb3 hd1 hc2 hc3 hs2 hbl hq' hqd HQ8 HBL2 HPS hql hqn

                              go_wp2_with (at_builtin; refine Hid.out ?_)
                              refine xhide ?_
                              refine Lib.wpList_append_run _ rfl _ _ _ _ rfl _ _ rfl rfl _ _ HR1.out ?_
                              go_frame
                              go_wp2_with (at_builtin; refine Hid.out ?_)
                              refine xhide ?_
                              refine Lib.wpList_append_run _ rfl _ _ _ _ rfl _ _ rfl rfl _ _ HR2.out ?_
                              go_frame
                              go_wp2_with (at_builtin; refine Hid.out ?_)
                              refine xhide ?_
                              refine Lib.wpList_append_run _ rfl _ _ _ _ rfl _ _ rfl rfl _ _ HR3.out ?_
                              go_frame
                              go_wp2_with fail
                              go_roundw
                              case rel => exact ⟨j, qs, _, _, by omega, by go_num, FIN⟩
                              case measure => first | (simp [intOf]; done) | (simp [intOf]; omega)
                          · obtain rfl : m = ps.length := by omega
                            have d3 : decide ((ps.length : Int) < (ps.length : Int)) = false := by simp
                            have HPUT : Hid (qs = ps.take ps.length ++ ⟨x.key, x.val, false⟩ :: ps.drop ps.length) := xhide (by
                              rw [← HPS.out]
                              exact putW_at (Nat.le_refl _) HLS.out (fun y hy => by have := (List.getElem?_eq_some_iff.1 hy).1; omega) HNH.out)
                            go_wp2_with fail
                            go_quiet (fail)
                            by_cases hpe : ps = []
                            · subst hpe
                              obtain rfl := hq.q.emp rfl
                              obtain rfl := hq.q.nil rfl
                              have hqd := HQ8.out.below (xdrew HBL2.out nq)
                              generalize wr.drewN nq = u0 at *
                              have hDlt : w0.heap.size < u0.heap.size := (Array.getElem?_eq_some_iff.1 hqd.d).1
                              have hClt : C < u0.heap.size := (Array.getElem?_eq_some_iff.1 hqd.q.cb).1
                              have n3 : u0.cell? ⟨C, 1, none⟩ = some (.slice none ([] : List Wr).length 0) := by rw [Go.Joins.cell_of_block hqd.q.cb]; rfl
                              have hcap := hqd.q.ws.2.1
                              obtain ⟨v1, u1, hr1, ho1, hlow1, hsz1, hot1⟩ := wapp (w := u0) (B := u0.heap.size) (v := .slice none 0 0) (l := []) ⟨rfl, .inl ⟨rfl, rfl⟩⟩ (Nat.le_refl _) (WS.sv (ws_take hqd.q.ws (m := 0) (Nat.le_refl _)) hqd.q.nil) (by rw [List.length_take]; first | (simp; done) | (simp; omega))
                              rw [List.nil_append] at ho1
                              have hb1 : Below u0.heap.size u0 u1 := hlow1 u0 _ (Nat.le_refl _) (Below.refl _ _)
                              have hd1 := (hb1.block _ hDlt).trans hqd.d
                              have x0 : u1.cell? ⟨w0.heap.size, 0, none⟩ = some (.string x.key) := by rw [Go.Joins.cell_of_block hd1]; rfl
                              have x1 : u1.cell? ⟨w0.heap.size, 1, none⟩ = some (.string x.val) := by rw [Go.Joins.cell_of_block hd1]; rfl
                              have x2 : u1.cell? ⟨w0.heap.size, 2, none⟩ = some (.bool false) := by rw [Go.Joins.cell_of_block hd1]; rfl
                              have hD1 : w0.heap.size < u1.heap.size := (Array.getElem?_eq_some_iff.1 hd1).1
                              have hbl := ML.below1 u1 (wrO ⟨x.key, x.val, false⟩)
                              have hs2 : Svw (u1.alloc (wrO ⟨x.key, x.val, false⟩)) (.slice (some ⟨u1.heap.size, 0, none⟩) 1 1) [⟨x.key, x.val, false⟩] := .inr ⟨_, 1, rfl, fun j u hu => by
                                have hj := (List.getElem?_eq_some_iff.1 hu).1
                                simp [wrc] at hj
                                rw [addr_plus, Nat.zero_add, Go.Joins.cell_of_block (heap_alloc_new _ _)]
                                rcases (show j = 0 ∨ j = 1 ∨ j = 2 by omega) with rfl | rfl | rfl <;> (simp [wrc] at hu; subst hu; rfl)⟩
                              obtain ⟨v2, u2, hr2, ho2, hlow2, hsz2, hot2⟩ := wapp (ho1.keep hbl) (by have := hb1.size; have := hbl.size; omega) hs2 (by rw [List.length_take]; first | (simp; done) | (simp; omega))
                              have hb2 : Below u0.heap.size u0 u2 := hlow2 u0 _ (Nat.le_refl _) (hb1.trans (hbl.mono hb1.size))
                              have hc2 := (hb2.block C hClt).trans hqd.q.cb
                              have y3 : u2.cell? ⟨C, 1, none⟩ = some (.slice none ([] : List Wr).length 0) := by rw [Go.Joins.cell_of_block hc2]; rfl
                              have hC2 : C < u2.heap.size := (Array.getElem?_eq_some_iff.1 hc2).1
                              have hs3 := svw_from hqd.q.ws hqd.q.nil (m := 0) (Nat.le_refl _)
                              rw [if_pos rfl] at hs3
                              obtain ⟨v3, u3, hr3, ho3, hlow3, hsz3, hot3⟩ := wapp ho2 (by have := hb2.size; omega) (hs3.keep hb2) (by rw [List.length_append, List.length_take, List.length_drop]; first | (simp; done) | (simp; omega))
                              have hb3 : Below u0.heap.size u0 u3 := hlow3 u0 _ (Nat.le_refl _) hb2
                              have hc3 := (hb3.block C hClt).trans hqd.q.cb
                              have s3 : u3.cell? ⟨C, 1, none⟩ = some (.slice none ([] : List Wr).length 0) := by rw [Go.Joins.cell_of_block hc3]; rfl
                              have t3 : u3.frozen? ⟨C, 1, none⟩ = false := Go.Joins.unfrozen_of_block hc3 1
                              have hC3 : C < u3.heap.size := (Array.getElem?_eq_some_iff.1 hc3).1
                              have ho3' : Wo u3 u0.heap.size v3 qs := by
                                have e : qs = (([] : List Wr).take (0) ++ [⟨x.key, x.val, false⟩]) ++ ([] : List Wr).drop (0) := by rw [HPUT.out]; simp
                                rw [e]; exact ho3
                              have hqn : 0 < qs.length := by rw [HPUT.out, List.length_append, List.length_cons]; omega
                              have hql : qs.length ≤ ([] : List Wr).length + 1 := by rw [← HPS.out]; exact put_len _ _
                              obtain ⟨ao', cap', rfl, hq'⟩ := hqd.put hb3 ho3' hqn
                              have FIN : Hid (Q5 W B X Y bY C L (maxT L) (u3.setCell ⟨C, 1, none⟩ (.slice ao' qs.length cap')) qs qs ao' cap' ∧ qs.length + j ≤ l.length) := xhide ⟨hq', by have := HPL.out; omega⟩
                              obtain ⟨a1, k1, e1, _⟩ := ho1.seq
                              subst e1
                              obtain ⟨a2, k2, e2, _⟩ := ho2.seq
                              subst e2
                              have HR1 := xhide hr1
                              have HR2 := xhide hr2
                              have HR3 := xhide hr3
                              have dm : (((0 : Nat) : Int)) ≤ ((0 : Nat) : Int) := by first | omega | simp
                              have dm2 : (((0 : Nat) : Int)) ≤ (([] : List Wr).length : Int) := by first | omega | simp
                              clear hr1 hr2 hr3 ho1 ho2 ho3 ho3' hlow1 hlow2 hlow3 hot1 hot2 hot3 hb1 hb2 hb3 hd1 hc2 hc3 hs2 hbl hq' hqd HQ8 HBL2 HPS hql hqn

                              go_wp2_with (at_builtin; refine Hid.out ?_)
                              refine xhide ?_
                              refine Lib.wpList_append_run _ rfl _ _ _ _ rfl _ _ rfl rfl _ _ HR1.out ?_
                              go_frame
                              go_wp2_with (at_builtin; refine Hid.out ?_)
                              refine xhide ?_
                              refine Lib.wpList_append_run _ rfl _ _ _ _ rfl _ _ rfl rfl _ _ HR2.out ?_
                              go_frame
                              go_wp2_with (at_builtin; refine Hid.out ?_)
                              refine xhide ?_
                              refine Lib.wpList_append_run _ rfl _ _ _ _ rfl _ _ rfl rfl _ _ HR3.out ?_
                              go_frame
                              go_wp2_with fail
                              go_roundw
                              case rel => exact ⟨j, qs, _, _, by omega, by go_num, FIN⟩
                              case measure => first | (simp [intOf]; done) | (simp [intOf]; omega)
                            · have hpl0 : 0 < ps.length := List.length_pos_iff.2 hpe
                              obtain ⟨g2, off2, rfl, hgl2, hc2⟩ := hq.q.ws.2.2.2 hpl0
                              clear hc2
                              by_cases hcm : cap = ps.length
                              · subst hcm
                                have hqd := HQ8.out.below (xdrew HBL2.out nq)
                                generalize wr.drewN nq = u0 at *
                                have hDlt : w0.heap.size < u0.heap.size := (Array.getElem?_eq_some_iff.1 hqd.d).1
                                have hClt : C < u0.heap.size := (Array.getElem?_eq_some_iff.1 hqd.q.cb).1
                                have n3 : u0.cell? ⟨C, 1, none⟩ = some (.slice (some ⟨g2, off2, none⟩) ps.length ps.length) := by rw [Go.Joins.cell_of_block hqd.q.cb]; rfl
                                have hcap := hqd.q.ws.2.1
                                obtain ⟨v1, u1, hr1, ho1, hlow1, hsz1, hot1⟩ := wapp (w := u0) (B := u0.heap.size) (v := .slice none 0 0) (l := []) ⟨rfl, .inl ⟨rfl, rfl⟩⟩ (Nat.le_refl _) (WS.sv (ws_take hqd.q.ws (m := ps.length) (Nat.le_refl _)) hqd.q.nil) (by rw [List.length_take]; first | (simp; done) | (simp; omega))
                                rw [List.nil_append] at ho1
                                have hb1 : Below u0.heap.size u0 u1 := hlow1 u0 _ (Nat.le_refl _) (Below.refl _ _)
                                have hd1 := (hb1.block _ hDlt).trans hqd.d
                                have x0 : u1.cell? ⟨w0.heap.size, 0, none⟩ = some (.string x.key) := by rw [Go.Joins.cell_of_block hd1]; rfl
                                have x1 : u1.cell? ⟨w0.heap.size, 1, none⟩ = some (.string x.val) := by rw [Go.Joins.cell_of_block hd1]; rfl
                                have x2 : u1.cell? ⟨w0.heap.size, 2, none⟩ = some (.bool false) := by rw [Go.Joins.cell_of_block hd1]; rfl
                                have hD1 : w0.heap.size < u1.heap.size := (Array.getElem?_eq_some_iff.1 hd1).1
                                have hbl := ML.below1 u1 (wrO ⟨x.key, x.val, false⟩)
                                have hs2 : Svw (u1.alloc (wrO ⟨x.key, x.val, false⟩)) (.slice (some ⟨u1.heap.size, 0, none⟩) 1 1) [⟨x.key, x.val, false⟩] := .inr ⟨_, 1, rfl, fun j u hu => by
                                  have hj := (List.getElem?_eq_some_iff.1 hu).1
                                  simp [wrc] at hj
                                  rw [addr_plus, Nat.zero_add, Go.Joins.cell_of_block (heap_alloc_new _ _)]
                                  rcases (show j = 0 ∨ j = 1 ∨ j = 2 by omega) with rfl | rfl | rfl <;> (simp [wrc] at hu; subst hu; rfl)⟩
                                obtain ⟨v2, u2, hr2, ho2, hlow2, hsz2, hot2⟩ := wapp (ho1.keep hbl) (by have := hb1.size; have := hbl.size; omega) hs2 (by rw [List.length_take]; first | (simp; done) | (simp; omega))
                                have hb2 : Below u0.heap.size u0 u2 := hlow2 u0 _ (Nat.le_refl _) (hb1.trans (hbl.mono hb1.size))
                                have hc2 := (hb2.block C hClt).trans hqd.q.cb
                                have y3 : u2.cell? ⟨C, 1, none⟩ = some (.slice (some ⟨g2, off2, none⟩) ps.length ps.length) := by rw [Go.Joins.cell_of_block hc2]; rfl
                                have hC2 : C < u2.heap.size := (Array.getElem?_eq_some_iff.1 hc2).1
                                have hs3 := svw_from hqd.q.ws hqd.q.nil (m := ps.length) (Nat.le_refl _)
                                rw [if_pos rfl, Nat.sub_self] at hs3
                                obtain ⟨v3, u3, hr3, ho3, hlow3, hsz3, hot3⟩ := wapp ho2 (by have := hb2.size; omega) (hs3.keep hb2) (by rw [List.length_append, List.length_take, List.length_drop]; first | (simp; done) | (simp; omega))
                                have hb3 : Below u0.heap.size u0 u3 := hlow3 u0 _ (Nat.le_refl _) hb2
                                have hc3 := (hb3.block C hClt).trans hqd.q.cb
                                have s3 : u3.cell? ⟨C, 1, none⟩ = some (.slice (some ⟨g2, off2, none⟩) ps.length ps.length) := by rw [Go.Joins.cell_of_block hc3]; rfl
                                have t3 : u3.frozen? ⟨C, 1, none⟩ = false := Go.Joins.unfrozen_of_block hc3 1
                                have hC3 : C < u3.heap.size := (Array.getElem?_eq_some_iff.1 hc3).1
                                have ho3' : Wo u3 u0.heap.size v3 qs := by
                                  have e : qs = (ps.take (ps.length) ++ [⟨x.key, x.val, false⟩]) ++ ps.drop (ps.length) := by rw [HPUT.out]; simp
                                  rw [e]; exact ho3
                                have hqn : 0 < qs.length := by rw [HPUT.out, List.length_append, List.length_cons]; omega
                                have hql : qs.length ≤ ps.length + 1 := by rw [← HPS.out]; exact put_len _ _
                                obtain ⟨ao', cap', rfl, hq'⟩ := hqd.put hb3 ho3' hqn
                                have FIN : Hid (Q5 W B X Y bY C L (maxT L) (u3.setCell ⟨C, 1, none⟩ (.slice ao' qs.length cap')) qs qs ao' cap' ∧ qs.length + j ≤ l.length) := xhide ⟨hq', by have := HPL.out; omega⟩
                                obtain ⟨a1, k1, e1, _⟩ := ho1.seq
                                subst e1
                                obtain ⟨a2, k2, e2, _⟩ := ho2.seq
                                subst e2
                                have HR1 := xhide hr1
                                have HR2 := xhide hr2
                                have HR3 := xhide hr3
                                have dm : (((ps.length : Nat) : Int)) ≤ ((ps.length : Nat) : Int) := by first | omega | simp
                                have dm2 : (((ps.length : Nat) : Int)) ≤ (ps.length : Int) := by first | omega | simp
                                clear hr1 hr2 hr3 ho1 ho2 ho3 ho3' hlow1 hlow2 hlow3 hot1 hot2 hot3 hb1 hb2 hb3 hd1 hc2 hc3 hs2 hbl hq' hqd HQ8 HBL2 HPS hql hqn

                                go_wp2_with (at_builtin; refine Hid.out ?_)
                                refine xhide ?_
                                refine Lib.wpList_append_run _ rfl _ _ _ _ rfl _ _ rfl rfl _ _ HR1.out ?_
                                go_frame
                                go_wp2_with (at_builtin; refine Hid.out ?_)
                                refine xhide ?_
                                refine Lib.wpList_append_run _ rfl _ _ _ _ rfl _ _ rfl rfl _ _ HR2.out ?_
                                go_frame
                                go_wp2_with (at_builtin; refine Hid.out ?_)
                                refine xhide ?_
                                refine Lib.wpList_append_run _ rfl _ _ _ _ rfl _ _ rfl rfl _ _ HR3.out ?_
                                go_frame
                                go_wp2_with fail
                                go_roundw
                                case rel => exact ⟨j, qs, _, _, by omega, by go_num, FIN⟩
                                case measure => first | (simp [intOf]; done) | (simp [intOf]; omega)
                              · skip
                                have hqd := HQ8.out.below (xdrew HBL2.out nq)
                                generalize wr.drewN nq = u0 at *
                                have hDlt : w0.heap.size < u0.heap.size := (Array.getElem?_eq_some_iff.1 hqd.d).1
                                have hClt : C < u0.heap.size := (Array.getElem?_eq_some_iff.1 hqd.q.cb).1
                                have n3 : u0.cell? ⟨C, 1, none⟩ = some (.slice (some ⟨g2, off2, none⟩) ps.length cap) := by rw [Go.Joins.cell_of_block hqd.q.cb]; rfl
                                have hcap := hqd.q.ws.2.1
                                obtain ⟨v1, u1, hr1, ho1, hlow1, hsz1, hot1⟩ := wapp (w := u0) (B := u0.heap.size) (v := .slice none 0 0) (l := []) ⟨rfl, .inl ⟨rfl, rfl⟩⟩ (Nat.le_refl _) (WS.sv (ws_take hqd.q.ws (m := ps.length) (Nat.le_refl _)) hqd.q.nil) (by rw [List.length_take]; first | (simp; done) | (simp; omega))
                                rw [List.nil_append] at ho1
                                have hb1 : Below u0.heap.size u0 u1 := hlow1 u0 _ (Nat.le_refl _) (Below.refl _ _)
                                have hd1 := (hb1.block _ hDlt).trans hqd.d
                                have x0 : u1.cell? ⟨w0.heap.size, 0, none⟩ = some (.string x.key) := by rw [Go.Joins.cell_of_block hd1]; rfl
                                have x1 : u1.cell? ⟨w0.heap.size, 1, none⟩ = some (.string x.val) := by rw [Go.Joins.cell_of_block hd1]; rfl
                                have x2 : u1.cell? ⟨w0.heap.size, 2, none⟩ = some (.bool false) := by rw [Go.Joins.cell_of_block hd1]; rfl
                                have hD1 : w0.heap.size < u1.heap.size := (Array.getElem?_eq_some_iff.1 hd1).1
                                have hbl := ML.below1 u1 (wrO ⟨x.key, x.val, false⟩)
                                have hs2 : Svw (u1.alloc (wrO ⟨x.key, x.val, false⟩)) (.slice (some ⟨u1.heap.size, 0, none⟩) 1 1) [⟨x.key, x.val, false⟩] := .inr ⟨_, 1, rfl, fun j u hu => by
                                  have hj := (List.getElem?_eq_some_iff.1 hu).1
                                  simp [wrc] at hj
                                  rw [addr_plus, Nat.zero_add, Go.Joins.cell_of_block (heap_alloc_new _ _)]
                                  rcases (show j = 0 ∨ j = 1 ∨ j = 2 by omega) with rfl | rfl | rfl <;> (simp [wrc] at hu; subst hu; rfl)⟩
                                obtain ⟨v2, u2, hr2, ho2, hlow2, hsz2, hot2⟩ := wapp (ho1.keep hbl) (by have := hb1.size; have := hbl.size; omega) hs2 (by rw [List.length_take]; first | (simp; done) | (simp; omega))
                                have hb2 : Below u0.heap.size u0 u2 := hlow2 u0 _ (Nat.le_refl _) (hb1.trans (hbl.mono hb1.size))
                                have hc2 := (hb2.block C hClt).trans hqd.q.cb
                                have y3 : u2.cell? ⟨C, 1, none⟩ = some (.slice (some ⟨g2, off2, none⟩) ps.length cap) := by rw [Go.Joins.cell_of_block hc2]; rfl
                                have hC2 : C < u2.heap.size := (Array.getElem?_eq_some_iff.1 hc2).1
                                have hs3 := svw_from hqd.q.ws hqd.q.nil (m := ps.length) (Nat.le_refl _)
                                rw [if_neg hcm, Nat.sub_self] at hs3
                                simp only [Option.map_some, addr_plus] at hs3
                                obtain ⟨v3, u3, hr3, ho3, hlow3, hsz3, hot3⟩ := wapp ho2 (by have := hb2.size; omega) (hs3.keep hb2) (by rw [List.length_append, List.length_take, List.length_drop]; first | (simp; done) | (simp; omega))
                                have hb3 : Below u0.heap.size u0 u3 := hlow3 u0 _ (Nat.le_refl _) hb2
                                have hc3 := (hb3.block C hClt).trans hqd.q.cb
                                have s3 : u3.cell? ⟨C, 1, none⟩ = some (.slice (some ⟨g2, off2, none⟩) ps.length cap) := by rw [Go.Joins.cell_of_block hc3]; rfl
                                have t3 : u3.frozen? ⟨C, 1, none⟩ = false := Go.Joins.unfrozen_of_block hc3 1
                                have hC3 : C < u3.heap.size := (Array.getElem?_eq_some_iff.1 hc3).1
                                have ho3' : Wo u3 u0.heap.size v3 qs := by
                                  have e : qs = (ps.take (ps.length) ++ [⟨x.key, x.val, false⟩]) ++ ps.drop (ps.length) := by rw [HPUT.out]; simp
                                  rw [e]; exact ho3
                                have hqn : 0 < qs.length := by rw [HPUT.out, List.length_append, List.length_cons]; omega
                                have hql : qs.length ≤ ps.length + 1 := by rw [← HPS.out]; exact put_len _ _
                                obtain ⟨ao', cap', rfl, hq'⟩ := hqd.put hb3 ho3' hqn
                                have FIN : Hid (Q5 W B X Y bY C L (maxT L) (u3.setCell ⟨C, 1, none⟩ (.slice ao' qs.length cap')) qs qs ao' cap' ∧ qs.length + j ≤ l.length) := xhide ⟨hq', by have := HPL.out; omega⟩
                                obtain ⟨a1, k1, e1, _⟩ := ho1.seq
                                subst e1
                                obtain ⟨a2, k2, e2, _⟩ := ho2.seq
                                subst e2
                                have HR1 := xhide hr1
                                have HR2 := xhide hr2
                                have HR3 := xhide hr3
                                have dm : (((ps.length : Nat) : Int)) ≤ ((cap : Nat) : Int) := by first | omega | simp
                                have dm2 : (((ps.length : Nat) : Int)) ≤ (ps.length : Int) := by first | omega | simp
                                clear hr1 hr2 hr3 ho1 ho2 ho3 ho3' hlow1 hlow2 hlow3 hot1 hot2 hot3 hb1 hb2 hb3 hd1 hc2 hc3 hs2 hbl hq' hqd HQ8 HBL2 HPS hql hqn

                                go_wp2_with (at_builtin; refine Hid.out ?_)
                                refine xhide ?_
                                refine Lib.wpList_append_run _ rfl _ _ _ _ rfl _ _ rfl rfl _ _ HR1.out ?_
                                go_frame
                                go_wp2_with (at_builtin; refine Hid.out ?_)
                                refine xhide ?_
                                refine Lib.wpList_append_run _ rfl _ _ _ _ rfl _ _ rfl rfl _ _ HR2.out ?_
                                go_frame
                                go_wp2_with (at_builtin; refine Hid.out ?_)
                                refine xhide ?_
                                refine Lib.wpList_append_run _ rfl _ _ _ _ rfl _ _ rfl rfl _ _ HR3.out ?_
                                go_frame
                                go_wp2_with fail
                                go_roundw
                                case rel => exact ⟨j, qs, _, _, by omega, by go_num, FIN⟩
                                case measure => first | (simp [intOf]; done) | (simp [intOf]; omega)
                    | false =>
                      rw [eF] at r2
                      as_aux_lemma =>
                        have hst : stp ⟨L, maxT L, some ps⟩ ⟨4, 0, x.key, z0, x.val, 0, 0⟩ = (⟨L, maxT L, some (putW ps ⟨x.key, x.val, false⟩)⟩, {}) := by
                          have h1 := stp_lay (S := ⟨L, maxT L, some ps⟩) (x := x) rfl (by have := HPL.out; omega) eK eV (fun q => by first | (rw [eG] at q; cases q; done) | rw [← hfd, eF])
                          rw [← hfd, eF, eG] at h1
                          exact h1
                        have hq7 := HQR.out.below (ML.below1 wr (.cells #[.int .i64 4, .int .i64 0, .string x.key, .string ⟨#[]⟩, .string x.val, .int .i64 0, .int .i64 0] 33))
                        have hcd := mo_code hq7.mo HLB.out ⟨4, 0, x.key, z0, x.val, 0, 0⟩
                        rw [hst] at hcd
                        have HCD := xhide hcd
                        have HQ7 := xhide hq7
                        have hNH := has_false.1 eH
                        have HNH := xhide hNH
                        clear hst hcd hq7 hNH HQR 
                        go_wp2_with fail
                        refine HCD.out.mono ?_
                        rintro e wc ⟨rfl, hm8, hb8, hk8⟩
                        have hq8 := (HQ7.out.step hm8 hb8 hk8).same (y := ⟨x.key, x.val, false⟩) (by simp only [wrO, eG])
                        have HQ8 := xhide hq8
                        clear hm8 hb8 hk8 hq8 HCD HQ7 r2 hR' b0 b1 b2 f1 hD' b3 hC'
                        generalize hps : putW ps ⟨x.key, x.val, false⟩ = qs at *
                        have HPS := xhide hps
                        clear hps
                        go_wp2_with fail
                        go_loopw [22] (fun n wr => ∃ m : Nat, m ≤ ps.length ∧ n = .int .i64 (m : Nat) ∧ Hid (∀ z ∈ ps.take m, nless z.key x.key = true) ∧ Hid (Below wc.heap.size wc wr)) (fun n _ => ps.length - (intOf n).toNat)
                        case atStart => exact ⟨0, by omega, rfl, xhide (by simp), xhide (Below.refl _ _)⟩
                        case round =>
                          obtain ⟨m, hm, rfl, HLS, HBL2⟩ := hrel
                          have hq := HQ8.out.below HBL2.out
                          have b3 : wr.cell? ⟨C, 1, none⟩ = some (.slice ao ps.length cap) := by rw [Go.Joins.cell_of_block hq.q.cb]; rfl
                          have hC' : C < wr.heap.size := (Array.getElem?_eq_some_iff.1 hq.q.cb).1
                          have b0 : wr.cell? ⟨w0.heap.size, 0, none⟩ = some (.string x.key) := by rw [Go.Joins.cell_of_block hq.d]; rfl
                          have b1 : wr.cell? ⟨w0.heap.size, 1, none⟩ = some (.string x.val) := by rw [Go.Joins.cell_of_block hq.d]; rfl
                          have b2 : wr.cell? ⟨w0.heap.size, 2, none⟩ = some (.bool false) := by rw [Go.Joins.cell_of_block hq.d]; rfl
                          have hD' : w0.heap.size < wr.heap.size := (Array.getElem?_eq_some_iff.1 hq.d).1
                          by_cases hlt : m < ps.length
                          · obtain ⟨z, hz⟩ := some_at (l := ps) rfl hlt
                            have d2 : (m : Int) < (ps.length : Int) := by omega
                            have d3 : decide ((m : Int) < (ps.length : Int)) = true := by simpa using hlt
                            have d4 : decide (m < ps.length) = true := by simpa using hlt
                            cases hnl : nless z.key x.key with
                            | true =>
                              have NX : Hid (∀ y ∈ ps.take (m + 1), nless y.key x.key = true) := xhide (fun y hy => by
                                rw [ML.take_snoc hz] at hy
                                rcases List.mem_append.1 hy with q | q
                                · exact HLS.out y q
                                · simp at q; rw [q]; exact hnl)
                              obtain ⟨g2, off2, rfl, hgl2, hc2⟩ := hq.q.ws.2.2.2 (by omega)
                              have e0 := hc2 m z hz 0 _ rfl
                              rw [Nat.add_zero] at e0
                              unfold nless at hnl
                              clear hc2 hq hz
                              go_wp2_with fail
                              go_quiet (fail)
                              go_wp2_with fail
                              go_roundw
                              case rel => exact ⟨m + 1, by omega, by go_num, NX, xhide (by first | exact xdrew HBL2.out _ | exact xdrew (xdrew HBL2.out _) _)⟩
                              case measure => first | (simp [intOf]; done) | (simp [intOf]; omega)
                            | false =>
                              have HPUT : Hid (qs = ps.take m ++ ⟨x.key, x.val, false⟩ :: ps.drop m) := xhide (by
                                rw [← HPS.out]
                                exact putW_at hm HLS.out (fun y hy => by rw [hz] at hy; cases hy; exact hnl) HNH.out)
                              obtain ⟨g2, off2, rfl, hgl2, hc2⟩ := hq.q.ws.2.2.2 (by omega)
                              have e0 := hc2 m z hz 0 _ rfl
                              rw [Nat.add_zero] at e0
                              have hcm : ¬ cap = m := by have := hq.q.ws.2.1; omega
                              unfold nless at hnl
                              clear hc2 hz
                              go_wp2_with fail
                              go_quiet (fail)
                              have hqd := HQ8.out.below (xdrew HBL2.out nq)
                              generalize wr.drewN nq = u0 at *
                              have hDlt : w0.heap.size < u0.heap.size := (Array.getElem?_eq_some_iff.1 hqd.d).1
                              have hClt : C < u0.heap.size := (Array.getElem?_eq_some_iff.1 hqd.q.cb).1
                              have n3 : u0.cell? ⟨C, 1, none⟩ = some (.slice (some ⟨g2, off2, none⟩) ps.length cap) := by rw [Go.Joins.cell_of_block hqd.q.cb]; rfl
                              have hcap := hqd.q.ws.2.1
                              obtain ⟨v1, u1, hr1, ho1, hlow1, hsz1, hot1⟩ := wapp (w := u0) (B := u0.heap.size) (v := .slice none 0 0) (l := []) ⟨rfl, .inl ⟨rfl, rfl⟩⟩ (Nat.le_refl _) (WS.sv (ws_take hqd.q.ws (m := m) hm) hqd.q.nil) (by rw [List.length_take]; first | (simp; done) | (simp; omega))
                              rw [List.nil_append] at ho1
                              have hb1 : Below u0.heap.size u0 u1 := hlow1 u0 _ (Nat.le_refl _) (Below.refl _ _)
                              have hd1 := (hb1.block _ hDlt).trans hqd.d
                              have x0 : u1.cell? ⟨w0.heap.size, 0, none⟩ = some (.string x.key) := by rw [Go.Joins.cell_of_block hd1]; rfl
                              have x1 : u1.cell? ⟨w0.heap.size, 1, none⟩ = some (.string x.val) := by rw [Go.Joins.cell_of_block hd1]; rfl
                              have x2 : u1.cell? ⟨w0.heap.size, 2, none⟩ = some (.bool false) := by rw [Go.Joins.cell_of_block hd1]; rfl
                              have hD1 : w0.heap.size < u1.heap.size := (Array.getElem?_eq_some_iff.1 hd1).1
                              have hbl := ML.below1 u1 (wrO ⟨x.key, x.val, false⟩)
                              have hs2 : Svw (u1.alloc (wrO ⟨x.key, x.val, false⟩)) (.slice (some ⟨u1.heap.size, 0, none⟩) 1 1) [⟨x.key, x.val, false⟩] := .inr ⟨_, 1, rfl, fun j u hu => by
                                have hj := (List.getElem?_eq_some_iff.1 hu).1
                                simp [wrc] at hj
                                rw [addr_plus, Nat.zero_add, Go.Joins.cell_of_block (heap_alloc_new _ _)]
                                rcases (show j = 0 ∨ j = 1 ∨ j = 2 by omega) with rfl | rfl | rfl <;> (simp [wrc] at hu; subst hu; rfl)⟩
                              obtain ⟨v2, u2, hr2, ho2, hlow2, hsz2, hot2⟩ := wapp (ho1.keep hbl) (by have := hb1.size; have := hbl.size; omega) hs2 (by rw [List.length_take]; first | (simp; done) | (simp; omega))
                              have hb2 : Below u0.heap.size u0 u2 := hlow2 u0 _ (Nat.le_refl _) (hb1.trans (hbl.mono hb1.size))
                              have hc2 := (hb2.block C hClt).trans hqd.q.cb
                              have y3 : u2.cell? ⟨C, 1, none⟩ = some (.slice (some ⟨g2, off2, none⟩) ps.length cap) := by rw [Go.Joins.cell_of_block hc2]; rfl
                              have hC2 : C < u2.heap.size := (Array.getElem?_eq_some_iff.1 hc2).1
                              have hs3 := svw_from hqd.q.ws hqd.q.nil (m := m) hm
                              rw [if_neg hcm] at hs3
                              simp only [Option.map_some, addr_plus] at hs3
                              obtain ⟨v3, u3, hr3, ho3, hlow3, hsz3, hot3⟩ := wapp ho2 (by have := hb2.size; omega) (hs3.keep hb2) (by rw [List.length_append, List.length_take, List.length_drop]; first | (simp; done) | (simp; omega))
                              have hb3 : Below u0.heap.size u0 u3 := hlow3 u0 _ (Nat.le_refl _) hb2
                              have hc3 := (hb3.block C hClt).trans hqd.q.cb
                              have s3 : u3.cell? ⟨C, 1, none⟩ = some (.slice (some ⟨g2, off2, none⟩) ps.length cap) := by rw [Go.Joins.cell_of_block hc3]; rfl
                              have t3 : u3.frozen? ⟨C, 1, none⟩ = false := Go.Joins.unfrozen_of_block hc3 1
                              have hC3 : C < u3.heap.size := (Array.getElem?_eq_some_iff.1 hc3).1
                              have ho3' : Wo u3 u0.heap.size v3 qs := by
                                have e : qs = (ps.take (m) ++ [⟨x.key, x.val, false⟩]) ++ ps.drop (m) := by rw [HPUT.out]; simp
                                rw [e]; exact ho3
                              have hqn : 0 < qs.length := by rw [HPUT.out, List.length_append, List.length_cons]; omega
                              have hql : qs.length ≤ ps.length + 1 := by rw [← HPS.out]; exact put_len _ _
                              obtain ⟨ao', cap', rfl, hq'⟩ := hqd.put hb3 ho3' hqn
                              have FIN : Hid (Q5 W B X Y bY C L (maxT L) (u3.setCell ⟨C, 1, none⟩ (.slice ao' qs.length cap')) qs qs ao' cap' ∧ qs.length + j ≤ l.length) := xhide ⟨hq', by have := HPL.out; omega⟩
                              obtain ⟨a1, k1, e1, _⟩ := ho1.seq
                              subst e1
                              obtain ⟨a2, k2, e2, _⟩ := ho2.seq
                              subst e2
                              have HR1 := xhide hr1
                              have HR2 := xhide hr2
                              have HR3 := xhide hr3
                              have dm : (((m : Nat) : Int)) ≤ ((cap : Nat) : Int) := by first | omega | simp
                              have dm2 : (((m : Nat) : Int)) ≤ (ps.length : Int) := by first | omega | simp
                              clear hr1 hr2 hr3 ho1 ho2 ho3 ho3' hlow1 hlow2 hlow3 hot1 hot2 hot3 hb1 hb2 hb3 hd1 hc2 hc3 hs2 hbl hq' hqd HQ8 HBL2 HPS hql hqn

                              go_wp2_with (at_builtin; refine Hid.out ?_)
                              refine xhide ?_
                              refine Lib.wpList_append_run _ rfl _ _ _ _ rfl _ _ rfl rfl _ _ HR1.out ?_
                              go_frame
                              go_wp2_with (at_builtin; refine Hid.out ?_)
                              refine xhide ?_
                              refine Lib.wpList_append_run _ rfl _ _ _ _ rfl _ _ rfl rfl _ _ HR2.out ?_
                              go_frame
                              go_wp2_with (at_builtin; refine Hid.out ?_)
                              refine xhide ?_
                              refine Lib.wpList_append_run _ rfl _ _ _ _ rfl _ _ rfl rfl _ _ HR3.out ?_
                              go_frame
                              go_wp2_with fail
                              go_roundw
                              case rel => exact ⟨j, qs, _, _, by omega, by go_num, FIN⟩
                              case measure => first | (simp [intOf]; done) | (simp [intOf]; omega)
                          · obtain rfl : m = ps.length := by omega
                            have d3 : decide ((ps.length : Int) < (ps.length : Int)) = false := by simp
                            have HPUT : Hid (qs = ps.take ps.length ++ ⟨x.key, x.val, false⟩ :: ps.drop ps.length) := xhide (by
                              rw [← HPS.out]
                              exact putW_at (Nat.le_refl _) HLS.out (fun y hy => by have := (List.getElem?_eq_some_iff.1 hy).1; omega) HNH.out)
                            go_wp2_with fail
                            go_quiet (fail)
                            by_cases hpe : ps = []
                            · subst hpe
                              obtain rfl := hq.q.emp rfl
                              obtain rfl := hq.q.nil rfl
                              have hqd := HQ8.out.below (xdrew HBL2.out nq)
                              generalize wr.drewN nq = u0 at *
                              have hDlt : w0.heap.size < u0.heap.size := (Array.getElem?_eq_some_iff.1 hqd.d).1
                              have hClt : C < u0.heap.size := (Array.getElem?_eq_some_iff.1 hqd.q.cb).1
                              have n3 : u0.cell? ⟨C, 1, none⟩ = some (.slice none ([] : List Wr).length 0) := by rw [Go.Joins.cell_of_block hqd.q.cb]; rfl
                              have hcap := hqd.q.ws.2.1
                              obtain ⟨v1, u1, hr1, ho1, hlow1, hsz1, hot1⟩ := wapp (w := u0) (B := u0.heap.size) (v := .slice none 0 0) (l := []) ⟨rfl, .inl ⟨rfl, rfl⟩⟩ (Nat.le_refl _) (WS.sv (ws_take hqd.q.ws (m := 0) (Nat.le_refl _)) hqd.q.nil) (by rw [List.length_take]; first | (simp; done) | (simp; omega))
                              rw [List.nil_append] at ho1
                              have hb1 : Below u0.heap.size u0 u1 := hlow1 u0 _ (Nat.le_refl _) (Below.refl _ _)
                              have hd1 := (hb1.block _ hDlt).trans hqd.d
                              have x0 : u1.cell? ⟨w0.heap.size, 0, none⟩ = some (.string x.key) := by rw [Go.Joins.cell_of_block hd1]; rfl
                              have x1 : u1.cell? ⟨w0.heap.size, 1, none⟩ = some (.string x.val) := by rw [Go.Joins.cell_of_block hd1]; rfl
                              have x2 : u1.cell? ⟨w0.heap.size, 2, none⟩ = some (.bool false) := by rw [Go.Joins.cell_of_block hd1]; rfl
                              have hD1 : w0.heap.size < u1.heap.size := (Array.getElem?_eq_some_iff.1 hd1).1
                              have hbl := ML.below1 u1 (wrO ⟨x.key, x.val, false⟩)
                              have hs2 : Svw (u1.alloc (wrO ⟨x.key, x.val, false⟩)) (.slice (some ⟨u1.heap.size, 0, none⟩) 1 1) [⟨x.key, x.val, false⟩] := .inr ⟨_, 1, rfl, fun j u hu => by
                                have hj := (List.getElem?_eq_some_iff.1 hu).1
                                simp [wrc] at hj
                                rw [addr_plus, Nat.zero_add, Go.Joins.cell_of_block (heap_alloc_new _ _)]
                                rcases (show j = 0 ∨ j = 1 ∨ j = 2 by omega) with rfl | rfl | rfl <;> (simp [wrc] at hu; subst hu; rfl)⟩
                              obtain ⟨v2, u2, hr2, ho2, hlow2, hsz2, hot2⟩ := wapp (ho1.keep hbl) (by have := hb1.size; have := hbl.size; omega) hs2 (by rw [List.length_take]; first | (simp; done) | (simp; omega))
                              have hb2 : Below u0.heap.size u0 u2 := hlow2 u0 _ (Nat.le_refl _) (hb1.trans (hbl.mono hb1.size))
                              have hc2 := (hb2.block C hClt).trans hqd.q.cb
                              have y3 : u2.cell? ⟨C, 1, none⟩ = some (.slice none ([] : List Wr).length 0) := by rw [Go.Joins.cell_of_block hc2]; rfl
                              have hC2 : C < u2.heap.size := (Array.getElem?_eq_some_iff.1 hc2).1
                              have hs3 := svw_from hqd.q.ws hqd.q.nil (m := 0) (Nat.le_refl _)
                              rw [if_pos rfl] at hs3
                              obtain ⟨v3, u3, hr3, ho3, hlow3, hsz3, hot3⟩ := wapp ho2 (by have := hb2.size; omega) (hs3.keep hb2) (by rw [List.length_append, List.length_take, List.length_drop]; first | (simp; done) | (simp; omega))
                              have hb3 : Below u0.heap.size u0 u3 := hlow3 u0 _ (Nat.le_refl _) hb2
                              have hc3 := (hb3.block C hClt).trans hqd.q.cb
                              have s3 : u3.cell? ⟨C, 1, none⟩ = some (.slice none ([] : List Wr).length 0) := by rw [Go.Joins.cell_of_block hc3]; rfl
                              have t3 : u3.frozen? ⟨C, 1, none⟩ = false := Go.Joins.unfrozen_of_block hc3 1
                              have hC3 : C < u3.heap.size := (Array.getElem?_eq_some_iff.1 hc3).1
                              have ho3' : Wo u3 u0.heap.size v3 qs := by
                                have e : qs = (([] : List Wr).take (0) ++ [⟨x.key, x.val, false⟩]) ++ ([] : List Wr).drop (0) := by rw [HPUT.out]; simp
                                rw [e]; exact ho3
                              have hqn : 0 < qs.length := by rw [HPUT.out, List.length_append, List.length_cons]; omega
                              have hql : qs.length ≤ ([] : List Wr).length + 1 := by rw [← HPS.out]; exact put_len _ _
                              obtain ⟨ao', cap', rfl, hq'⟩ := hqd.put hb3 ho3' hqn
                              have FIN : Hid (Q5 W B X Y bY C L (maxT L) (u3.setCell ⟨C, 1, none⟩ (.slice ao' qs.length cap')) qs qs ao' cap' ∧ qs.length + j ≤ l.length) := xhide ⟨hq', by have := HPL.out; omega⟩
                              obtain ⟨a1, k1, e1, _⟩ := ho1.seq
                              subst e1
                              obtain ⟨a2, k2, e2, _⟩ := ho2.seq
                              subst e2
                              have HR1 := xhide hr1
                              have HR2 := xhide hr2
                              have HR3 := xhide hr3
                              have dm : (((0 : Nat) : Int)) ≤ ((0 : Nat) : Int) := by first | omega | simp
                              have dm2 : (((0 : Nat) : Int)) ≤ (([] : List Wr).length : Int) := by first | omega | simp
                              clear hr1 hr2 hr3 ho1 ho2 ho3 ho3' hlow1 hlow2 hlow3 hot1 hot2 hot3 hb1 hb2 hb3 hd1 hc2 hc3 hs2 hbl hq' hqd HQ8 HBL2 HPS hql hqn

                              go_wp2_with (at_builtin; refine Hid.out ?_)
                              refine xhide ?_
                              refine Lib.wpList_append_run _ rfl _ _ _ _ rfl _ _ rfl rfl _ _ HR1.out ?_
                              go_frame
                              go_wp2_with (at_builtin; refine Hid.out ?_)
                              refine xhide ?_
                              refine Lib.wpList_append_run _ rfl _ _ _ _ rfl _ _ rfl rfl _ _ HR2.out ?_
                              go_frame
                              go_wp2_with (at_builtin; refine Hid.out ?_)
                              refine xhide ?_
                              refine Lib.wpList_append_run _ rfl _ _ _ _ rfl _ _ rfl rfl _ _ HR3.out ?_
                              go_frame
                              go_wp2_with fail
                              go_roundw
                              case rel => exact ⟨j, qs, _, _, by omega, by go_num, FIN⟩
                              case measure => first | (simp [intOf]; done) | (simp [intOf]; omega)
                            · have hpl0 : 0 < ps.length := List.length_pos_iff.2 hpe
                              obtain ⟨g2, off2, rfl, hgl2, hc2⟩ := hq.q.ws.2.2.2 hpl0
                              clear hc2
                              by_cases hcm : cap = ps.length
                              · subst hcm
                                have hqd := HQ8.out.below (xdrew HBL2.out nq)
                                generalize wr.drewN nq = u0 at *
                                have hDlt : w0.heap.size < u0.heap.size := (Array.getElem?_eq_some_iff.1 hqd.d).1
                                have hClt : C < u0.heap.size := (Array.getElem?_eq_some_iff.1 hqd.q.cb).1
                                have n3 : u0.cell? ⟨C, 1, none⟩ = some (.slice (some ⟨g2, off2, none⟩) ps.length ps.length) := by rw [Go.Joins.cell_of_block hqd.q.cb]; rfl
                                have hcap := hqd.q.ws.2.1
                                obtain ⟨v1, u1, hr1, ho1, hlow1, hsz1, hot1⟩ := wapp (w := u0) (B := u0.heap.size) (v := .slice none 0 0) (l := []) ⟨rfl, .inl ⟨rfl, rfl⟩⟩ (Nat.le_refl _) (WS.sv (ws_take hqd.q.ws (m := ps.length) (Nat.le_refl _)) hqd.q.nil) (by rw [List.length_take]; first | (simp; done) | (simp; omega))
                                rw [List.nil_append] at ho1
                                have hb1 : Below u0.heap.size u0 u1 := hlow1 u0 _ (Nat.le_refl _) (Below.refl _ _)
                                have hd1 := (hb1.block _ hDlt).trans hqd.d
                                have x0 : u1.cell? ⟨w0.heap.size, 0, none⟩ = some (.string x.key) := by rw [Go.Joins.cell_of_block hd1]; rfl
                                have x1 : u1.cell? ⟨w0.heap.size, 1, none⟩ = some (.string x.val) := by rw [Go.Joins.cell_of_block hd1]; rfl
                                have x2 : u1.cell? ⟨w0.heap.size, 2, none⟩ = some (.bool false) := by rw [Go.Joins.cell_of_block hd1]; rfl
                                have hD1 : w0.heap.size < u1.heap.size := (Array.getElem?_eq_some_iff.1 hd1).1
                                have hbl := ML.below1 u1 (wrO ⟨x.key, x.val, false⟩)
                                have hs2 : Svw (u1.alloc (wrO ⟨x.key, x.val, false⟩)) (.slice (some ⟨u1.heap.size, 0, none⟩) 1 1) [⟨x.key, x.val, false⟩] := .inr ⟨_, 1, rfl, fun j u hu => by
                                  have hj := (List.getElem?_eq_some_iff.1 hu).1
                                  simp [wrc] at hj
                                  rw [addr_plus, Nat.zero_add, Go.Joins.cell_of_block (heap_alloc_new _ _)]
                                  rcases (show j = 0 ∨ j = 1 ∨ j = 2 by omega) with rfl | rfl | rfl <;> (simp [wrc] at hu; subst hu; rfl)⟩
                                obtain ⟨v2, u2, hr2, ho2, hlow2, hsz2, hot2⟩ := wapp (ho1.keep hbl) (by have := hb1.size; have := hbl.size; omega) hs2 (by rw [List.length_take]; first | (simp; done) | (simp; omega))
                                have hb2 : Below u0.heap.size u0 u2 := hlow2 u0 _ (Nat.le_refl _) (hb1.trans (hbl.mono hb1.size))
                                have hc2 := (hb2.block C hClt).trans hqd.q.cb
                                have y3 : u2.cell? ⟨C, 1, none⟩ = some (.slice (some ⟨g2, off2, none⟩) ps.length ps.length) := by rw [Go.Joins.cell_of_block hc2]; rfl
                                have hC2 : C < u2.heap.size := (Array.getElem?_eq_some_iff.1 hc2).1
                                have hs3 := svw_from hqd.q.ws hqd.q.nil (m := ps.length) (Nat.le_refl _)
                                rw [if_pos rfl, Nat.sub_self] at hs3
                                obtain ⟨v3, u3, hr3, ho3, hlow3, hsz3, hot3⟩ := wapp ho2 (by have := hb2.size; omega) (hs3.keep hb2) (by rw [List.length_append, List.length_take, List.length_drop]; first | (simp; done) | (simp; omega))
                                have hb3 : Below u0.heap.size u0 u3 := hlow3 u0 _ (Nat.le_refl _) hb2
                                have hc3 := (hb3.block C hClt).trans hqd.q.cb
                                have s3 : u3.cell? ⟨C, 1, none⟩ = some (.slice (some ⟨g2, off2, none⟩) ps.length ps.length) := by rw [Go.Joins.cell_of_block hc3]; rfl
                                have t3 : u3.frozen? ⟨C, 1, none⟩ = false := Go.Joins.unfrozen_of_block hc3 1
                                have hC3 : C < u3.heap.size := (Array.getElem?_eq_some_iff.1 hc3).1
                                have ho3' : Wo u3 u0.heap.size v3 qs := by
                                  have e : qs = (ps.take (ps.length) ++ [⟨x.key, x.val, false⟩]) ++ ps.drop (ps.length) := by rw [HPUT.out]; simp
                                  rw [e]; exact ho3
                                have hqn : 0 < qs.length := by rw [HPUT.out, List.length_append, List.length_cons]; omega
                                have hql : qs.length ≤ ps.length + 1 := by rw [← HPS.out]; exact put_len _ _
                                obtain ⟨ao', cap', rfl, hq'⟩ := hqd.put hb3 ho3' hqn
                                have FIN : Hid (Q5 W B X Y bY C L (maxT L) (u3.setCell ⟨C, 1, none⟩ (.slice ao' qs.length cap')) qs qs ao' cap' ∧ qs.length + j ≤ l.length) := xhide ⟨hq', by have := HPL.out; omega⟩
                                obtain ⟨a1, k1, e1, _⟩ := ho1.seq
                                subst e1
                                obtain ⟨a2, k2, e2, _⟩ := ho2.seq
                                subst e2
                                have HR1 := xhide hr1
                                have HR2 := xhide hr2
                                have HR3 := xhide hr3
                                have dm : (((ps.length : Nat) : Int)) ≤ ((ps.length : Nat) : Int) := by first | omega | simp
                                have dm2 : (((ps.length : Nat) : Int)) ≤ (ps.length : Int) := by first | omega | simp
                                clear hr1 hr2 hr3 ho1 ho2 ho3 ho3' hlow1 hlow2 hlow3 hot1 hot2 hot3 hb1 hb2 hb3 hd1 hc2 hc3 hs2 hbl hq' hqd HQ8 HBL2 HPS hql hqn

                                go_wp2_with (at_builtin; refine Hid.out ?_)
                                refine xhide ?_
                                refine Lib.wpList_append_run _ rfl _ _ _ _ rfl _ _ rfl rfl _ _ HR1.out ?_
                                go_frame
                                go_wp2_with (at_builtin; refine Hid.out ?_)
                                refine xhide ?_
                                refine Lib.wpList_append_run _ rfl _ _ _ _ rfl _ _ rfl rfl _ _ HR2.out ?_
                                go_frame
                                go_wp2_with (at_builtin; refine Hid.out ?_)
                                refine xhide ?_
                                refine Lib.wpList_append_run _ rfl _ _ _ _ rfl _ _ rfl rfl _ _ HR3.out ?_
                                go_frame
                                go_wp2_with fail
                                go_roundw
                                case rel => exact ⟨j, qs, _, _, by omega, by go_num, FIN⟩
                                case measure => first | (simp [intOf]; done) | (simp [intOf]; omega)
                              · skip
                                have hqd := HQ8.out.below (xdrew HBL2.out nq)
                                generalize wr.drewN nq = u0 at *
                                have hDlt : w0.heap.size < u0.heap.size := (Array.getElem?_eq_some_iff.1 hqd.d).1
                                have hClt : C < u0.heap.size := (Array.getElem?_eq_some_iff.1 hqd.q.cb).1
                                have n3 : u0.cell? ⟨C, 1, none⟩ = some (.slice (some ⟨g2, off2, none⟩) ps.length cap) := by rw [Go.Joins.cell_of_block hqd.q.cb]; rfl
                                have hcap := hqd.q.ws.2.1
                                obtain ⟨v1, u1, hr1, ho1, hlow1, hsz1, hot1⟩ := wapp (w := u0) (B := u0.heap.size) (v := .slice none 0 0) (l := []) ⟨rfl, .inl ⟨rfl, rfl⟩⟩ (Nat.le_refl _) (WS.sv (ws_take hqd.q.ws (m := ps.length) (Nat.le_refl _)) hqd.q.nil) (by rw [List.length_take]; first | (simp; done) | (simp; omega))
                                rw [List.nil_append] at ho1
                                have hb1 : Below u0.heap.size u0 u1 := hlow1 u0 _ (Nat.le_refl _) (Below.refl _ _)
                                have hd1 := (hb1.block _ hDlt).trans hqd.d
                                have x0 : u1.cell? ⟨w0.heap.size, 0, none⟩ = some (.string x.key) := by rw [Go.Joins.cell_of_block hd1]; rfl
                                have x1 : u1.cell? ⟨w0.heap.size, 1, none⟩ = some (.string x.val) := by rw [Go.Joins.cell_of_block hd1]; rfl
                                have x2 : u1.cell? ⟨w0.heap.size, 2, none⟩ = some (.bool false) := by rw [Go.Joins.cell_of_block hd1]; rfl
                                have hD1 : w0.heap.size < u1.heap.size := (Array.getElem?_eq_some_iff.1 hd1).1
                                have hbl := ML.below1 u1 (wrO ⟨x.key, x.val, false⟩)
                                have hs2 : Svw (u1.alloc (wrO ⟨x.key, x.val, false⟩)) (.slice (some ⟨u1.heap.size, 0, none⟩) 1 1) [⟨x.key, x.val, false⟩] := .inr ⟨_, 1, rfl, fun j u hu => by
                                  have hj := (List.getElem?_eq_some_iff.1 hu).1
                                  simp [wrc] at hj
                                  rw [addr_plus, Nat.zero_add, Go.Joins.cell_of_block (heap_alloc_new _ _)]
                                  rcases (show j = 0 ∨ j = 1 ∨ j = 2 by omega) with rfl | rfl | rfl <;> (simp [wrc] at hu; subst hu; rfl)⟩
                                obtain ⟨v2, u2, hr2, ho2, hlow2, hsz2, hot2⟩ := wapp (ho1.keep hbl) (by have := hb1.size; have := hbl.size; omega) hs2 (by rw [List.length_take]; first | (simp; done) | (simp; omega))
                                have hb2 : Below u0.heap.size u0 u2 := hlow2 u0 _ (Nat.le_refl _) (hb1.trans (hbl.mono hb1.size))
                                have hc2 := (hb2.block C hClt).trans hqd.q.cb
                                have y3 : u2.cell? ⟨C, 1, none⟩ = some (.slice (some ⟨g2, off2, none⟩) ps.length cap) := by rw [Go.Joins.cell_of_block hc2]; rfl
                                have hC2 : C < u2.heap.size := (Array.getElem?_eq_some_iff.1 hc2).1
                                have hs3 := svw_from hqd.q.ws hqd.q.nil (m := ps.length) (Nat.le_refl _)
                                rw [if_neg hcm, Nat.sub_self] at hs3
                                simp only [Option.map_some, addr_plus] at hs3
                                obtain ⟨v3, u3, hr3, ho3, hlow3, hsz3, hot3⟩ := wapp ho2 (by have := hb2.size; omega) (hs3.keep hb2) (by rw [List.length_append, List.length_take, List.length_drop]; first | (simp; done) | (simp; omega))
                                have hb3 : Below u0.heap.size u0 u3 := hlow3 u0 _ (Nat.le_refl _) hb2
                                have hc3 := (hb3.block C hClt).trans hqd.q.cb
                                have s3 : u3.cell? ⟨C, 1, none⟩ = some (.slice (some ⟨g2, off2, none⟩) ps.length cap) := by rw [Go.Joins.cell_of_block hc3]; rfl
                                have t3 : u3.frozen? ⟨C, 1, none⟩ = false := Go.Joins.unfrozen_of_block hc3 1
                                have hC3 : C < u3.heap.size := (Array.getElem?_eq_some_iff.1 hc3).1
                                have ho3' : Wo u3 u0.heap.size v3 qs := by
                                  have e : qs = (ps.take (ps.length) ++ [⟨x.key, x.val, false⟩]) ++ ps.drop (ps.length) := by rw [HPUT.out]; simp
                                  rw [e]; exact ho3
                                have hqn : 0 < qs.length := by rw [HPUT.out, List.length_append, List.length_cons]; omega
                                have hql : qs.length ≤ ps.length + 1 := by rw [← HPS.out]; exact put_len _ _
                                obtain ⟨ao', cap', rfl, hq'⟩ := hqd.put hb3 ho3' hqn
                                have FIN : Hid (Q5 W B X Y bY C L (maxT L) (u3.setCell ⟨C, 1, none⟩ (.slice ao' qs.length cap')) qs qs ao' cap' ∧ qs.length + j ≤ l.length) := xhide ⟨hq', by have := HPL.out; omega⟩
                                obtain ⟨a1, k1, e1, _⟩ := ho1.seq
                                subst e1
                                obtain ⟨a2, k2, e2, _⟩ := ho2.seq
                                subst e2
                                have HR1 := xhide hr1
                                have HR2 := xhide hr2
                                have HR3 := xhide hr3
                                have dm : (((ps.length : Nat) : Int)) ≤ ((cap : Nat) : Int) := by first | omega | simp
                                have dm2 : (((ps.length : Nat) : Int)) ≤ (ps.length : Int) := by first | omega | simp
                                clear hr1 hr2 hr3 ho1 ho2 ho3 ho3' hlow1 hlow2 hlow3 hot1 hot2 hot3 hb1 hb2 hb3 hd1 hc2 hc3 hs2 hbl hq' hqd HQ8 HBL2 HPS hql hqn

                                go_wp2_with (at_builtin; refine Hid.out ?_)
                                refine xhide ?_
                                refine Lib.wpList_append_run _ rfl _ _ _ _ rfl _ _ rfl rfl _ _ HR1.out ?_
                                go_frame
                                go_wp2_with (at_builtin; refine Hid.out ?_)
                                refine xhide ?_
                                refine Lib.wpList_append_run _ rfl _ _ _ _ rfl _ _ rfl rfl _ _ HR2.out ?_
                                go_frame
                                go_wp2_with (at_builtin; refine Hid.out ?_)
                                refine xhide ?_
                                refine Lib.wpList_append_run _ rfl _ _ _ _ rfl _ _ rfl rfl _ _ HR3.out ?_
                                go_frame
                                go_wp2_with fail
                                go_roundw
                                case rel => exact ⟨j, qs, _, _, by omega, by go_num, FIN⟩
                                case measure => first | (simp [intOf]; done) | (simp [intOf]; omega)
end
end Go.Proofs.Ytheidhkmmihjlaa
