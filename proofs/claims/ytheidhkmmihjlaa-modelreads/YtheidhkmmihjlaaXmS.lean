/-
  XmS: ModelReads, walked. (Printed by gen_xms.py.)
-/
import Derived.Test.YtheidhkmmihjlaaXmR
set_option linter.unusedVariables false
set_option linter.unusedSimpArgs false
namespace Go.Proofs.Ytheidhkmmihjlaa
open Go.RowKit Go.Shelf Go.Maps
open ML (Ro RS Srt nless)
attribute [local go_sem] Oper.semAt_some
section
set_option maxHeartbeats 16000000
set_option maxRecDepth 100000
variable {W : World} {o0 o1 : Option Addr} {l0 c0 l1 c1 : Nat} {L : List Ro} {l : List Cl}
theorem reads_walk (fr hi : ByteArray) (h0 : RS W o0 l0 c0 L) (hn : o0 = none → c0 = 0) (hl : l0 + 64 ≤ big) (h1 : CS W o1 l1 c1 l) :
    Calls Try.prog 5 #[.slice o0 l0 c0, .slice o1 l1 c1, .string fr, .string hi] W fun e w' => e = .returned (.bool true) ∧ Below W.heap.size W w' := by
  obtain rfl := h0.1
  obtain rfl := h1.1
  have hmxl : (l.length : Int) ≤ 9223372036854775807 := by have := h1.2.1; have := h1.2.2.1; unfold maxLen at this; omega
  have HR : Hid (∀ u, Below W.heap.size W u → RS u o0 L.length c0 L) := xhide (fun u hb => h0.below hb (fun b off e hlt => hlt))
  have HCS := xhide h1
  have HSH := xhide (shown18 W)
  clear h0 h1
  go_enter Try.func5, Try.ntmps5
  go_wp2_with fail
  refine HSH.out.mono ?_
  rintro e w1 ⟨rfl, hb1⟩
  have HRN := xhide (rnew_any (HR.out w1 hb1) hn (by omega))
  have HB1 := xhide hb1
  clear hb1 HSH
  go_wp2_with fail
  refine HRN.out.mono ?_
  rintro e w2 ⟨hb2, hre⟩
  have hB2 := HB1.out.trans (hb2.mono HB1.out.size)
  have HBG := xhide (begun_any (HR.out w2 hB2) hl)
  have HB2 := xhide hB2
  clear hb2 hB2 HRN HB1
  cases hok : okTo L L.length with
  | false =>
    obtain rfl : e = .returned (.tuple #[.pointer none, .int .i64 180]) := by
      rcases hre with ⟨_, rfl⟩ | ⟨q, _⟩
      · rfl
      · rw [hok] at q; cases q
    clear hre
    go_wp2_with fail
    refine HBG.out.mono ?_
    rintro e w3 ⟨hb3, ⟨_, rfl⟩ | ⟨q, _⟩⟩
    · have FIN := xhide (HB2.out.trans (hb3.mono HB2.out.size))
      clear hb3 HBG HB2
      go_wp2
      go_ret
      exact ⟨rfl, FIN.out⟩
    · rw [hok] at q; cases q
  | true =>
    obtain rfl : e = .returned (.tuple #[ptr w1.heap.size, .int .i64 0]) := by
      rcases hre with ⟨q, _⟩ | ⟨_, _, rfl, _⟩
      · rw [hok] at q; cases q
      · rfl
    clear hre
    go_wp2_with fail
    refine HBG.out.mono ?_
    rintro e w3 ⟨hb3, ⟨q, _⟩ | ⟨_, X, rfl, hm3⟩⟩
    · rw [hok] at q; cases q
    have hB3 := HB2.out.trans (hb3.mono HB2.out.size)
    have HPL := xhide (plays_any (l := l) hm3 rfl (by show L.length + 64 ≤ big; omega) HCS.out (W := W) hB3 HB2.out.size)
    have HTM := xhide (mo_time hm3)
    have HB3 := xhide hB3
    have hw2 := HB2.out.size
    generalize hB : w2.heap.size = B at *
    clear hm3 hb3 hB3 HBG HB2
    go_wp2_with fail
    refine HTM.out.mono ?_
    rintro e wt ⟨rfl, rfl⟩
    clear HTM
    by_cases htm : 1099511627775 ≤ maxT L
    · go_wp2
      go_ret
      exact ⟨rfl, HB3.out⟩
    go_wp2_with fail
    refine HPL.out.mono ?_
    rintro e w4 ⟨S', rfl, hm4, hb4, hL4, ht4⟩
    have HB4 := xhide (HB3.out.trans (hb4.mono hw2))
    have hLb : S'.L.length + 64 ≤ big := by rw [hL4]; show L.length + 64 ≤ big; omega
    have HT4 : Hid (isT (S'.t + 1) = true) := xhide (isT_iff.2 (by
      have := (isT_iff.1 hm4.ok.tm).1
      rw [ht4] at this ⊢
      exact ⟨by first | omega | (simp only [] at this ⊢; omega), by first | omega | (simp only [] at this ⊢; omega)⟩))
    have HLb := xhide hLb
    have HM4 := xhide hm4
    have HOK := xhide hm4.ok
    clear hm4 hb4 hL4 ht4 HPL HB3 hLb htm
    cases hst : S'.ws.isSome with
    | false =>
      go_wp2
      go_ret
      exact ⟨rfl, HB4.out⟩
    | true =>
      have hd5 := mo_do2 HM4.out HLb.out ⟨3, 0, z0, z0, z0, 0, 0⟩
      rw [stp_all hst] at hd5
      have HD5 := xhide hd5
      have HST := xhide hst
      clear hd5 hst
      go_wp2_with fail
      refine HD5.out.mono ?_
      rintro e w5 ⟨oa, na, ca, rfl, ra5, hm5, hb5, _⟩
      obtain ⟨al, hal⟩ : ∃ al, al = now S' := ⟨_, rfl⟩
      obtain ⟨rfl, ra5b⟩ : na = al.length ∧ RS w5 oa al.length ca al := by
        try simp only [] at ra5
        rw [← hal] at ra5
        exact ⟨ra5.1.symm ▸ rfl, ra5.1.symm ▸ ra5⟩
      have HAL := xhide hal
      have hB5 := HB4.out.trans (hb5.mono hw2)
      have HB5 := xhide hB5
      have HM5 := xhide hm5
      have HRA := xhide ra5b
      have hmxa : (al.length : Int) ≤ 9223372036854775807 := by have := ra5b.2.1; have := ra5b.2.2.1; unfold maxLen at this; omega
      obtain ⟨A, hA⟩ : ∃ A, A = w5.heap.size := ⟨_, rfl⟩
      have hbx := ML.below1 w5 (.cells (rpA 0 .empty false (.slice oa al.length ca) 0) 41)
      have HBX := xhide hbx
      have HM6 := xhide (hm5.add (.cells (rpA 0 .empty false (.slice oa al.length ca) 0) 41))
      have HA6 : Hid ((w5.alloc (.cells (rpA 0 .empty false (.slice oa al.length ca) 0) 41)).heap[w5.heap.size]? = some (.cells (rpA 0 .empty false (.slice oa al.length ca) 0) 41 (0, 0))) := xhide (heap_alloc_new _ _)
      obtain ⟨cd, p, HCD⟩ : ∃ (cd : Int) (p : Ro → Bool), Hid (stp S' ⟨3, 0, fr, hi, z0, 0, 0⟩ = (S', { code := cd, rows := al.filter p }) ∧ ((cd = 0 ∧ fr.size ≤ 16 ∧ hi.size ≤ 16 ∧ p = ins fr hi) ∨ (cd = 154 ∧ 16 < fr.size ∧ p = fun _ => false) ∨ (cd = 154 ∧ fr.size ≤ 16 ∧ 16 < hi.size ∧ p = fun _ => false))) := by
        by_cases q1 : fr.size ≤ 16
        · by_cases q2 : hi.size ≤ 16
          · refine ⟨0, ins fr hi, xhide ⟨?_, .inl ⟨rfl, q1, q2, rfl⟩⟩⟩
            rw [stp_scan HST.out, if_neg (by simp [badS]; omega), hal]
            rfl
          · refine ⟨154, fun _ => false, xhide ⟨?_, .inr (.inr ⟨rfl, q1, by omega, rfl⟩)⟩⟩
            rw [stp_scan HST.out, if_pos (by simp [badS]; omega)]
            simp
        · refine ⟨154, fun _ => false, xhide ⟨?_, .inr (.inl ⟨rfl, by omega, rfl⟩)⟩⟩
          rw [stp_scan HST.out, if_pos (by simp [badS]; omega)]
          simp
      have hd7 := mo_do2 HM6.out HLb.out ⟨3, 0, fr, hi, z0, 0, 0⟩
      rw [HCD.out.1] at hd7
      have HD7 := xhide hd7
      clear hd7 hbx hB5 hm5 hb5 ra5 ra5b hal HM5 HM4 HB4 HD5
      go_wp2_with fail
      refine HD7.out.mono ?_
      rintro e w7 ⟨os, ns, cs, rfl, rs7, hm7, hb7, hk7⟩
      obtain ⟨rfl, rs7⟩ : ns = (al.filter p).length ∧ RS w7 os (al.filter p).length cs (al.filter p) := by
        try simp only [] at rs7
        exact ⟨rs7.1.symm ▸ rfl, rs7.1.symm ▸ rs7⟩
      have hmxs : ((al.filter p).length : Int) ≤ 9223372036854775807 := by have := rs7.2.1; have := rs7.2.2.1; unfold maxLen at this; omega
      have hA7 : w7.heap[w5.heap.size]? = some (.cells (rpA 0 .empty false (.slice oa al.length ca) 0) 41 (0, 0)) := (hk7 _ (by simp)).trans HA6.out
      have hw7 : w5.heap.size < w7.heap.size := (Array.getElem?_eq_some_iff.1 hA7).1
      have HQ : Hid (Q4 W B X w5.heap.size w7.heap.size oa os al.length ca (al.filter p).length cs cd al (al.filter p) (w7.alloc (.cells (rpA cd .empty false (.slice os (al.filter p).length cs) 0) 41)) S') := xhide (by
        have hbp := ML.below1 w7 (.cells (rpA cd .empty false (.slice os (al.filter p).length cs) 0) 41)
        have hra6 := HRA.out.below HBX.out (fun b off e hlt => hlt)
        have hra7 := rs_keep hra6 (fun j hj => hk7 j (by simp [hj])) hb7.size
        refine ⟨(hm7.add (.cells (rpA cd .empty false (.slice os (al.filter p).length cs) 0) 41)).sub fun j hj => ?_, (hbp.block _ hw7).trans hA7, heap_alloc_new _ _, hra7.below hbp (fun b off e hlt => hlt), rs7.below hbp (fun b off e hlt => hlt), ?_, hw2⟩
        · simp only [List.mem_cons, List.mem_append, List.not_mem_nil, or_false] at hj ⊢
          rcases hj with h | h | h | h <;> simp [h]
        · have t1 := (HB5.out.trans (HBX.out.mono HB5.out.size)).trans (hb7.mono hw2)
          exact t1.trans (hbp.mono t1.size))
      have y0 : w7.cell? ⟨w5.heap.size, 0, none⟩ = some (.int .i64 0) := by rw [Go.Joins.cell_of_block hA7]; rfl
      have HTE : Hid (hi.toList.isEmpty = decide (hi.size = 0)) := xhide (by
        rw [ByteArray.toList_eq]
        show hi.data.toList.isEmpty = decide (hi.data.size = 0)
        rw [← Array.length_toList]
        cases hi.data.toList <;> simp)
      generalize w5.heap.size = A at *
      clear hm7 hb7 hk7 rs7 HB5 HBX HRA HM6 HA6 HD7 hA7
      obtain ⟨_, hcase⟩ := HCD.out
      clear HCD
      replace hcase : (cd = 0 ∧ fr.size ≤ 16 ∧ hi.size ≤ 16 ∧ Hid (p = ins fr hi)) ∨ (cd = 154 ∧ 16 < fr.size ∧ Hid (p = fun _ => false)) ∨ (cd = 154 ∧ fr.size ≤ 16 ∧ 16 < hi.size ∧ Hid (p = fun _ => false)) := hcase
      rcases hcase with ⟨rfl, q1, q2, hp⟩ | ⟨rfl, q1, hp⟩ | ⟨rfl, q1, q2, hp⟩
      · as_aux_lemma =>
          have s1 : (fr.size : Int) ≤ 16 := by omega
          have s2 : (hi.size : Int) ≤ 16 := by omega
          go_wp2_with fail
          go_loopw [17, 16] (fun i n wr => ∃ k : Nat, k ≤ al.length ∧ i = .int .i64 (k : Nat) ∧ n = .int .i64 (((al.take k).filter p).length : Nat) ∧ Hid (Q4 W B X A w7.heap.size oa os al.length ca (al.filter p).length cs 0 al (al.filter p) wr S')) (fun i _ _ => al.length - (intOf i).toNat)
          case atStart => exact ⟨0, by omega, rfl, rfl, HQ⟩
          case round =>
            obtain ⟨k, hk, rfl, rfl, HQ1⟩ := hrel
            clear HQ
            by_cases hlt : k < al.length
            · have hnk : ((al.take k).filter p).length ≤ k := Nat.le_trans (List.length_filter_le _ _) (List.length_take_le _ _)
              obtain ⟨x, hx⟩ := some_at rfl hlt
              have hq := HQ1.out
              obtain ⟨g, off, rfl, hgl, hc⟩ := ML.RS.at hq.ra (by omega)
              obtain ⟨c0, c1, c2⟩ := hc k x hx
              have ca3 : wr.cell? ⟨A, 3, none⟩ = some (.slice (some ⟨g, off, none⟩) al.length ca) := by rw [Go.Joins.cell_of_block hq.a]; rfl
              have hAl : A < wr.heap.size := (Array.getElem?_eq_some_iff.1 hq.a).1
              have d1 : (k : Int) < (al.length : Int) := by omega
              have hmem : x ∈ now S' := by rw [← HAL.out]; exact List.mem_of_getElem? hx
              have hq9 := hq.below (ML.below1 wr (.cells #[.string x.k, .string x.v, .int .i64 x.t] 45))
              have hm9 := hq.mo.add (.cells #[.string x.k, .string x.v, .int .i64 x.t] 45)
              have hd := mo_do2 hm9 HLb.out ⟨2, 0, x.k, z0, z0, 0, 0⟩
              rw [stp_get HST.out, if_pos (now_key HOK.out hmem), ((now_mem HOK.out).1 hmem).2] at hd
              simp only [Option.getD_some, Option.isSome_some] at hd
              have HD := xhide hd
              have HQ9 := xhide hq9
              have HBX : Hid ((wr.alloc (.cells #[.string x.k, .string x.v, .int .i64 x.t] 45)).heap[wr.heap.size]? = some (.cells #[.string x.k, .string x.v, .int .i64 x.t] 45 (0, 0))) := xhide (heap_alloc_new _ _)
              clear hq hc hmem hq9 hm9 hd
              go_wp2_with fail
              refine HD.out.mono ?_
              rintro e wu ⟨og, ng, cg, rfl, _, hm, hb, hk10⟩
              have hqu := HQ9.out.step (hm.sub fun j hj => by simp only [List.mem_cons, List.mem_append] at hj ⊢; rcases hj with h | h | h | h <;> simp [h]) hb (fun j hj => hk10 j (List.mem_cons_of_mem _ hj))
              have hbu := (hk10 _ List.mem_cons_self).trans HBX.out
              have NQ : Hid (∀ u, Below (wu.alloc (.cells (rpA 0 x.v true (.slice og ng cg) 0) 41)).heap.size (wu.alloc (.cells (rpA 0 x.v true (.slice og ng cg) 0) 41)) u → Q4 W B X A w7.heap.size (some ⟨g, off, none⟩) os al.length ca (al.filter p).length cs 0 al (al.filter p) u S') := xhide (fun u hu => (hqu.below (ML.below1 _ _)).below hu)
              have b0 : wu.cell? ⟨wr.heap.size, 0, none⟩ = some (.string x.k) := by rw [Go.Joins.cell_of_block hbu]; rfl
              have b1 : wu.cell? ⟨wr.heap.size, 1, none⟩ = some (.string x.v) := by rw [Go.Joins.cell_of_block hbu]; rfl
              have b2 : wu.cell? ⟨wr.heap.size, 2, none⟩ = some (.int .i64 x.t) := by rw [Go.Joins.cell_of_block hbu]; rfl
              have a3 : wu.cell? ⟨A, 3, none⟩ = some (.slice (some ⟨g, off, none⟩) al.length ca) := by rw [Go.Joins.cell_of_block hqu.a]; rfl
              have p0 : wu.cell? ⟨w7.heap.size, 0, none⟩ = some (.int .i64 0) := by rw [Go.Joins.cell_of_block hqu.p]; rfl
              have p3 : wu.cell? ⟨w7.heap.size, 3, none⟩ = some (.slice os (al.filter p).length cs) := by rw [Go.Joins.cell_of_block hqu.p]; rfl
              have hAu : A < wu.heap.size := (Array.getElem?_eq_some_iff.1 hqu.a).1
              have hPu : w7.heap.size < wu.heap.size := (Array.getElem?_eq_some_iff.1 hqu.p).1
              have hRu : wr.heap.size < wu.heap.size := (Array.getElem?_eq_some_iff.1 hbu).1
              have HQU := xhide hqu
              clear c0 c1 c2 ca3 hm hb hk10 hbu HD HQ9 HBX hAl
              by_cases hk0 : k = 0
              · as_aux_lemma =>
                clear hqu
                have d2 : decide (0 < k) = false := by simpa using hk0
                clear hk0
                cases t0 : nless x.k fr with
                | true =>
                  have HT0 := xhide t0
                  unfold nless at t0
                  have HPX : Hid (p x = false) := xhide (by rw [hp.out]; unfold ins; rw [HT0.out]; rfl)
                  have HN1 : Hid (((al.take (k + 1)).filter p).length = ((al.take k).filter p).length) := xhide (by rw [take_filter hx, HPX.out]; simp)
                  go_wp2_with fail
                  go_quiet (fail)
                  go_wp2_with fail
                  go_roundw
                  case rel => exact ⟨k + 1, by omega, by go_num, by rw [HN1.out], xhide (NQ.out _ (by first | exact xdrew (Below.refl _ _) _ | exact xdrew (xdrew (Below.refl _ _) _) _))⟩
                  case measure => simp [intOf]; omega
                | false =>
                  have HT0 := xhide t0
                  unfold nless at t0
                  cases te : hi.toList.isEmpty with
                  | true =>
                    have HTE1 := xhide te
                    have HPX : Hid (p x = true) := xhide (by rw [hp.out]; unfold ins; rw [HT0.out]; rw [← HTE.out, HTE1.out]; rfl)
                    have HN1 : Hid (((al.take (k + 1)).filter p).length = ((al.take k).filter p).length + 1) := xhide (by rw [take_filter hx, HPX.out]; simp)
                    have hfa := filter_at hx HPX.out
                    have hdn := (List.getElem?_eq_some_iff.1 hfa).1
                    have dn : (((al.take k).filter p).length : Int) < ((al.filter p).length : Int) := by omega
                    have dn1 : decide (((al.filter p).length : Int) ≤ (((al.take k).filter p).length : Int)) = false := by simp; omega
                    have dn2 : decide ((al.filter p).length ≤ ((al.take k).filter p).length) = false := by simp; omega
                    obtain ⟨g2, off2, rfl, hgl2, hc2⟩ := ML.RS.at HQU.out.rs (by omega)
                    obtain ⟨e0, e1, e2⟩ := hc2 _ x hfa
                    have hneq := fun u => ML.neqRo x u
                    clear hc2 hfa
                    go_wp2_with fail
                    go_quiet (fail)
                    go_wp2_with fail
                    go_quiet (fail)
                    go_wp2_with fail
                    go_roundw
                    case rel => exact ⟨k + 1, by omega, by go_num, by rw [HN1.out]; go_num, xhide (NQ.out _ (by first | exact xdrew (xdrew (Below.refl _ _) _) _ | exact xdrew (Below.refl _ _) _))⟩
                    case measure => simp [intOf]; omega
                  | false =>
                    have HTE1 := xhide te
                    cases t2 : nless x.k hi with
                    | true =>
                      have HT2 := xhide t2
                      unfold nless at t2
                      have HPX : Hid (p x = true) := xhide (by rw [hp.out]; unfold ins; rw [HT0.out]; rw [← HTE.out, HTE1.out, HT2.out]; rfl)
                      have HN1 : Hid (((al.take (k + 1)).filter p).length = ((al.take k).filter p).length + 1) := xhide (by rw [take_filter hx, HPX.out]; simp)
                      have hfa := filter_at hx HPX.out
                      have hdn := (List.getElem?_eq_some_iff.1 hfa).1
                      have dn : (((al.take k).filter p).length : Int) < ((al.filter p).length : Int) := by omega
                      have dn1 : decide (((al.filter p).length : Int) ≤ (((al.take k).filter p).length : Int)) = false := by simp; omega
                      have dn2 : decide ((al.filter p).length ≤ ((al.take k).filter p).length) = false := by simp; omega
                      obtain ⟨g2, off2, rfl, hgl2, hc2⟩ := ML.RS.at HQU.out.rs (by omega)
                      obtain ⟨e0, e1, e2⟩ := hc2 _ x hfa
                      have hneq := fun u => ML.neqRo x u
                      clear hc2 hfa
                      go_wp2_with fail
                      go_quiet (fail)
                      go_wp2_with fail
                      go_quiet (fail)
                      go_wp2_with fail
                      go_roundw
                      case rel => exact ⟨k + 1, by omega, by go_num, by rw [HN1.out]; go_num, xhide (NQ.out _ (by first | exact xdrew (xdrew (Below.refl _ _) _) _ | exact xdrew (Below.refl _ _) _))⟩
                      case measure => simp [intOf]; omega
                    | false =>
                      have HT2 := xhide t2
                      unfold nless at t2
                      have HPX : Hid (p x = false) := xhide (by rw [hp.out]; unfold ins; rw [HT0.out]; rw [← HTE.out, HTE1.out, HT2.out]; rfl)
                      have HN1 : Hid (((al.take (k + 1)).filter p).length = ((al.take k).filter p).length) := xhide (by rw [take_filter hx, HPX.out]; simp)
                      go_wp2_with fail
                      go_quiet (fail)
                      go_wp2_with fail
                      go_roundw
                      case rel => exact ⟨k + 1, by omega, by go_num, by rw [HN1.out], xhide (NQ.out _ (by first | exact xdrew (Below.refl _ _) _ | exact xdrew (xdrew (Below.refl _ _) _) _))⟩
                      case measure => simp [intOf]; omega
              · as_aux_lemma =>
                have d2 : (0 : Int) < (k : Int) := by omega
                have d4 : decide (0 < k) = true := by simp; omega
                obtain ⟨y, hy⟩ := some_at (l := al) (i := k - 1) rfl (by omega)
                have y0 : wu.cell? ⟨g, off + (k - 1) * 3, none⟩ = some (.string y.k) := by
                  obtain ⟨g', off', e, _, hc⟩ := ML.RS.at hqu.ra (by omega)
                  cases e
                  exact (hc (k - 1) y hy).1
                have hgu : g < wu.heap.size := by
                  obtain ⟨g', off', e, hg, _⟩ := ML.RS.at hqu.ra (by omega)
                  cases e
                  exact hg
                have hsub : ((k : Int) - 1) = ((k - 1 : Nat) : Int) := by omega
                have d3 : ((k - 1 : Nat) : Int) < (al.length : Int) := by omega
                have hnl : nless y.k x.k = true := srt_next (by rw [HAL.out]; exact now_srt HOK.out) (by omega) hx hy
                unfold nless at hnl
                clear hqu
                cases t0 : nless x.k fr with
                | true =>
                  have HT0 := xhide t0
                  unfold nless at t0
                  have HPX : Hid (p x = false) := xhide (by rw [hp.out]; unfold ins; rw [HT0.out]; rfl)
                  have HN1 : Hid (((al.take (k + 1)).filter p).length = ((al.take k).filter p).length) := xhide (by rw [take_filter hx, HPX.out]; simp)
                  go_wp2_with fail
                  go_quiet (fail)
                  go_wp2_with fail
                  go_roundw
                  case rel => exact ⟨k + 1, by omega, by go_num, by rw [HN1.out], xhide (NQ.out _ (by first | exact xdrew (Below.refl _ _) _ | exact xdrew (xdrew (Below.refl _ _) _) _))⟩
                  case measure => simp [intOf]; omega
                | false =>
                  have HT0 := xhide t0
                  unfold nless at t0
                  cases te : hi.toList.isEmpty with
                  | true =>
                    have HTE1 := xhide te
                    have HPX : Hid (p x = true) := xhide (by rw [hp.out]; unfold ins; rw [HT0.out]; rw [← HTE.out, HTE1.out]; rfl)
                    have HN1 : Hid (((al.take (k + 1)).filter p).length = ((al.take k).filter p).length + 1) := xhide (by rw [take_filter hx, HPX.out]; simp)
                    have hfa := filter_at hx HPX.out
                    have hdn := (List.getElem?_eq_some_iff.1 hfa).1
                    have dn : (((al.take k).filter p).length : Int) < ((al.filter p).length : Int) := by omega
                    have dn1 : decide (((al.filter p).length : Int) ≤ (((al.take k).filter p).length : Int)) = false := by simp; omega
                    have dn2 : decide ((al.filter p).length ≤ ((al.take k).filter p).length) = false := by simp; omega
                    obtain ⟨g2, off2, rfl, hgl2, hc2⟩ := ML.RS.at HQU.out.rs (by omega)
                    obtain ⟨e0, e1, e2⟩ := hc2 _ x hfa
                    have hneq := fun u => ML.neqRo x u
                    clear hc2 hfa
                    go_wp2_with fail
                    go_quiet (fail)
                    go_wp2_with fail
                    go_quiet (fail)
                    go_wp2_with fail
                    go_roundw
                    case rel => exact ⟨k + 1, by omega, by go_num, by rw [HN1.out]; go_num, xhide (NQ.out _ (by first | exact xdrew (xdrew (Below.refl _ _) _) _ | exact xdrew (Below.refl _ _) _))⟩
                    case measure => simp [intOf]; omega
                  | false =>
                    have HTE1 := xhide te
                    cases t2 : nless x.k hi with
                    | true =>
                      have HT2 := xhide t2
                      unfold nless at t2
                      have HPX : Hid (p x = true) := xhide (by rw [hp.out]; unfold ins; rw [HT0.out]; rw [← HTE.out, HTE1.out, HT2.out]; rfl)
                      have HN1 : Hid (((al.take (k + 1)).filter p).length = ((al.take k).filter p).length + 1) := xhide (by rw [take_filter hx, HPX.out]; simp)
                      have hfa := filter_at hx HPX.out
                      have hdn := (List.getElem?_eq_some_iff.1 hfa).1
                      have dn : (((al.take k).filter p).length : Int) < ((al.filter p).length : Int) := by omega
                      have dn1 : decide (((al.filter p).length : Int) ≤ (((al.take k).filter p).length : Int)) = false := by simp; omega
                      have dn2 : decide ((al.filter p).length ≤ ((al.take k).filter p).length) = false := by simp; omega
                      obtain ⟨g2, off2, rfl, hgl2, hc2⟩ := ML.RS.at HQU.out.rs (by omega)
                      obtain ⟨e0, e1, e2⟩ := hc2 _ x hfa
                      have hneq := fun u => ML.neqRo x u
                      clear hc2 hfa
                      go_wp2_with fail
                      go_quiet (fail)
                      go_wp2_with fail
                      go_quiet (fail)
                      go_wp2_with fail
                      go_roundw
                      case rel => exact ⟨k + 1, by omega, by go_num, by rw [HN1.out]; go_num, xhide (NQ.out _ (by first | exact xdrew (xdrew (Below.refl _ _) _) _ | exact xdrew (Below.refl _ _) _))⟩
                      case measure => simp [intOf]; omega
                    | false =>
                      have HT2 := xhide t2
                      unfold nless at t2
                      have HPX : Hid (p x = false) := xhide (by rw [hp.out]; unfold ins; rw [HT0.out]; rw [← HTE.out, HTE1.out, HT2.out]; rfl)
                      have HN1 : Hid (((al.take (k + 1)).filter p).length = ((al.take k).filter p).length) := xhide (by rw [take_filter hx, HPX.out]; simp)
                      go_wp2_with fail
                      go_quiet (fail)
                      go_wp2_with fail
                      go_roundw
                      case rel => exact ⟨k + 1, by omega, by go_num, by rw [HN1.out], xhide (NQ.out _ (by first | exact xdrew (Below.refl _ _) _ | exact xdrew (xdrew (Below.refl _ _) _) _))⟩
                      case measure => simp [intOf]; omega
            · have hz := HQ1
              clear hz
              as_aux_lemma =>
                obtain rfl : k = al.length := by omega
                rw [List.take_length]
                have hq := HQ1.out
                have p3 : wr.cell? ⟨w7.heap.size, 3, none⟩ = some (.slice os (al.filter p).length cs) := by rw [Go.Joins.cell_of_block hq.p]; rfl
                have a3 : wr.cell? ⟨A, 3, none⟩ = some (.slice oa al.length ca) := by rw [Go.Joins.cell_of_block hq.a]; rfl
                have hAu : A < wr.heap.size := (Array.getElem?_eq_some_iff.1 hq.a).1
                have hPu : w7.heap.size < wr.heap.size := (Array.getElem?_eq_some_iff.1 hq.p).1
                have d1 : ¬ (al.length : Int) < (al.length : Int) := by omega
                clear hq
                go_wp2_with fail
                go_loopw [21] (fun i wr => ∃ j : Nat, j ≤ l.length ∧ i = .int .i64 (j : Nat) ∧ Hid (Q4 W B X A w7.heap.size oa os al.length ca (al.filter p).length cs 0 al (al.filter p) wr S')) (fun i _ => l.length - (intOf i).toNat)
                case atStart => exact ⟨0, by omega, rfl, HQ1⟩
                case round =>
                  obtain ⟨j, hj, rfl, HQ2⟩ := hrel
                  clear HQ1 p3 a3 hAu hPu d1
                  by_cases hlt2 : j < l.length
                  · obtain ⟨x, hx⟩ := some_at rfl hlt2
                    obtain ⟨g, off, rfl, hgl, hc⟩ := HCS.out.2.2.2 (by omega)
                    have hq := HQ2.out
                    have k2 := (hq.low.cell (p := ⟨g, off + j * 7 + 2, none⟩) hgl).trans (hc j x hx 2 _ rfl)
                    have hgr : g < wr.heap.size := Nat.lt_of_lt_of_le hgl hq.low.size
                    have d1 : (j : Int) < (l.length : Int) := by omega
                    have hd := mo_do2 hq.mo HLb.out ⟨2, 0, x.key, z0, z0, 0, 0⟩
                    rw [stp_get HST.out] at hd
                    have HFN : Hid ((look S' x.key).isSome = true ↔ 0 ≤ fnd x.key al 0) := xhide (by rw [fnd_iff (by omega), now_found HOK.out, HAL.out])
                    have HK2 := xhide (hc j x hx 2 _ rfl)
                    cases hK : isK x.key with
                    | true =>
                      rw [if_pos hK] at hd
                      have HD := xhide hd
                      clear hq hd hc
                      cases hf : (look S' x.key).isSome with
                      | true =>
                        have d4 : 0 ≤ fnd x.key al 0 := HFN.out.1 hf
                        rw [hf] at HD
                        as_aux_lemma =>
                          simp only [] at HD
                          generalize (look S' x.key).getD .empty = vv at *
                          go_wp2_with fail
                          refine HD.out.mono ?_
                          rintro e wu ⟨og, ng, cg, rfl, _, hm, hb, hk⟩
                          have hqu := HQ2.out.step (hm.sub fun j hj => List.mem_append_right _ hj) hb hk
                          have k2u := (hqu.low.cell (p := ⟨g, off + j * 7 + 2, none⟩) hgl).trans HK2.out
                          have hgu : g < wu.heap.size := Nat.lt_of_lt_of_le hgl hqu.low.size
                          have a3 : wu.cell? ⟨A, 3, none⟩ = some (.slice oa al.length ca) := by rw [Go.Joins.cell_of_block hqu.a]; rfl
                          have hAu : A < wu.heap.size := (Array.getElem?_eq_some_iff.1 hqu.a).1
                          have NQ : Hid (∀ o u, Below (wu.alloc o).heap.size (wu.alloc o) u → Q4 W B X A w7.heap.size oa os al.length ca (al.filter p).length cs 0 al (al.filter p) u S') := xhide (fun o u hu => (hqu.below (ML.below1 _ _)).below hu)
                          have HFD : Hid (∀ o u, Below (wu.alloc o).heap.size (wu.alloc o) u → Calls Try.prog 22 #[.slice oa al.length ca, .string x.key] u fun e w' => e = .returned (.int .i64 (fnd x.key al 0)) ∧ w' = u) := xhide (fun o u hu => find_fnd (((hqu.ra).below (ML.below1 wu o) (fun b off e hlt => hlt)).below hu (fun b off e hlt => hlt)) _)
                          generalize hfn : fnd x.key al 0 = fn at *
                          clear hm hb hk hqu HD k2 hgr hfn
                          go_wp2_with fail
                          go_quiet ((go_at_call 22; exact Calls.quiet_of_same (HFD.out _ _ (xdrew (Below.refl _ _) _))))
                          go_wp2_with fail
                          refine (refKey_any _ _).mono ?_
                          rintro e wv ⟨rfl, rfl⟩
                          rw [hK]
                          go_wp2_with fail
                          go_roundw
                          case rel => exact ⟨j + 1, by omega, by go_num, xhide (NQ.out _ _ (by first | exact xdrew (Below.refl _ _) _ | exact xdrew (xdrew (Below.refl _ _) _) _))⟩
                          case measure => simp [intOf]; omega
                      | false =>
                        have d4 : ¬ 0 ≤ fnd x.key al 0 := fun q => by have := HFN.out.2 q; rw [hf] at this; cases this
                        rw [hf] at HD
                        as_aux_lemma =>
                          simp only [] at HD
                          generalize (look S' x.key).getD .empty = vv at *
                          go_wp2_with fail
                          refine HD.out.mono ?_
                          rintro e wu ⟨og, ng, cg, rfl, _, hm, hb, hk⟩
                          have hqu := HQ2.out.step (hm.sub fun j hj => List.mem_append_right _ hj) hb hk
                          have k2u := (hqu.low.cell (p := ⟨g, off + j * 7 + 2, none⟩) hgl).trans HK2.out
                          have hgu : g < wu.heap.size := Nat.lt_of_lt_of_le hgl hqu.low.size
                          have a3 : wu.cell? ⟨A, 3, none⟩ = some (.slice oa al.length ca) := by rw [Go.Joins.cell_of_block hqu.a]; rfl
                          have hAu : A < wu.heap.size := (Array.getElem?_eq_some_iff.1 hqu.a).1
                          have NQ : Hid (∀ o u, Below (wu.alloc o).heap.size (wu.alloc o) u → Q4 W B X A w7.heap.size oa os al.length ca (al.filter p).length cs 0 al (al.filter p) u S') := xhide (fun o u hu => (hqu.below (ML.below1 _ _)).below hu)
                          have HFD : Hid (∀ o u, Below (wu.alloc o).heap.size (wu.alloc o) u → Calls Try.prog 22 #[.slice oa al.length ca, .string x.key] u fun e w' => e = .returned (.int .i64 (fnd x.key al 0)) ∧ w' = u) := xhide (fun o u hu => find_fnd (((hqu.ra).below (ML.below1 wu o) (fun b off e hlt => hlt)).below hu (fun b off e hlt => hlt)) _)
                          generalize hfn : fnd x.key al 0 = fn at *
                          clear hm hb hk hqu HD k2 hgr hfn
                          go_wp2_with fail
                          go_quiet ((go_at_call 22; exact Calls.quiet_of_same (HFD.out _ _ (xdrew (Below.refl _ _) _))))
                          go_wp2_with fail
                          refine (refKey_any _ _).mono ?_
                          rintro e wv ⟨rfl, rfl⟩
                          rw [hK]
                          go_wp2_with fail
                          go_roundw
                          case rel => exact ⟨j + 1, by omega, by go_num, xhide (NQ.out _ _ (by first | exact xdrew (Below.refl _ _) _ | exact xdrew (xdrew (Below.refl _ _) _) _))⟩
                          case measure => simp [intOf]; omega
                    | false =>
                      rw [if_neg (by rw [hK]; simp)] at hd
                      have HD := xhide hd
                      clear hq hd hc
                      as_aux_lemma =>
                        simp only [] at HD
                        generalize (look S' x.key).getD .empty = vv at *
                        go_wp2_with fail
                        refine HD.out.mono ?_
                        rintro e wu ⟨og, ng, cg, rfl, _, hm, hb, hk⟩
                        have hqu := HQ2.out.step (hm.sub fun j hj => List.mem_append_right _ hj) hb hk
                        have k2u := (hqu.low.cell (p := ⟨g, off + j * 7 + 2, none⟩) hgl).trans HK2.out
                        have hgu : g < wu.heap.size := Nat.lt_of_lt_of_le hgl hqu.low.size
                        have a3 : wu.cell? ⟨A, 3, none⟩ = some (.slice oa al.length ca) := by rw [Go.Joins.cell_of_block hqu.a]; rfl
                        have hAu : A < wu.heap.size := (Array.getElem?_eq_some_iff.1 hqu.a).1
                        have NQ : Hid (∀ o u, Below (wu.alloc o).heap.size (wu.alloc o) u → Q4 W B X A w7.heap.size oa os al.length ca (al.filter p).length cs 0 al (al.filter p) u S') := xhide (fun o u hu => (hqu.below (ML.below1 _ _)).below hu)
                        have HFD : Hid (∀ o u, Below (wu.alloc o).heap.size (wu.alloc o) u → Calls Try.prog 22 #[.slice oa al.length ca, .string x.key] u fun e w' => e = .returned (.int .i64 (fnd x.key al 0)) ∧ w' = u) := xhide (fun o u hu => find_fnd (((hqu.ra).below (ML.below1 wu o) (fun b off e hlt => hlt)).below hu (fun b off e hlt => hlt)) _)
                        generalize hfn : fnd x.key al 0 = fn at *
                        clear hm hb hk hqu HD k2 hgr hfn
                        go_wp2_with fail
                        go_quiet ((go_at_call 22; exact Calls.quiet_of_same (HFD.out _ _ (xdrew (Below.refl _ _) _))))
                        go_wp2_with fail
                        refine (refKey_any _ _).mono ?_
                        rintro e wv ⟨rfl, rfl⟩
                        rw [hK]
                        go_wp2_with fail
                        go_roundw
                        case rel => exact ⟨j + 1, by omega, by go_num, xhide (NQ.out _ _ (by first | exact xdrew (Below.refl _ _) _ | exact xdrew (xdrew (Below.refl _ _) _) _))⟩
                        case measure => simp [intOf]; omega
                  · obtain rfl : j = l.length := by omega
                    as_aux_lemma =>
                      have hq := HQ2.out
                      have d1 : ¬ (l.length : Int) < (l.length : Int) := by omega
                      have hd := mo_do2 hq.mo HLb.out ⟨7, 0, z0, z0, z0, 0, 0⟩
                      rw [stp_commit HST.out HT4.out] at hd
                      obtain ⟨N, hN⟩ : ∃ N, N = doneW (S'.t + 1) S'.L (S'.ws.getD []) := ⟨_, rfl⟩
                      have HN : Hid (N.map zt = al) := xhide (by rw [hN, HAL.out]; unfold now; exact doneW_zt _ _ _)
                      have hNl : N.length = al.length := by have := congrArg List.length HN.out; rwa [List.length_map] at this
                      have HNb : Hid (N.length ≤ big) := xhide (by
                        have h1 := doneW_len (t := S'.t + 1) (S'.ws.getD []) S'.L
                        have h2 : (S'.ws.getD []).length ≤ 64 := by
                          cases hw : S'.ws with
                          | none => simp
                          | some ws => exact (HOK.out.wsrt ws hw).2.1
                        have h3 := HLb.out
                        rw [hN]; omega)
                      rw [← hN] at hd
                      simp only [] at hd
                      have HD := xhide hd
                      clear hq hd hN
                      generalize S'.t + 1 = tt at *
                      go_wp2_with fail
                      refine HD.out.mono ?_
                      rintro e wu ⟨og, ng, cg, rfl, _, hm, hb, hk⟩
                      have hqu := HQ2.out.step (hm.sub fun j hj => List.mem_append_right _ hj) hb hk
                      have hqR := hqu.below (ML.below1 wu (.cells (rpA 0 .empty false (.slice og ng cg) tt) 41))
                      have HRW := xhide (mo_rows hqR.mo HNb.out)
                      have HQR := xhide hqR
                      have HRB : Hid ((wu.alloc (.cells (rpA 0 .empty false (.slice og ng cg) tt) 41)).heap[wu.heap.size]? = some (.cells (rpA 0 .empty false (.slice og ng cg) tt) 41 (0, 0))) := xhide (heap_alloc_new _ _)
                      clear hm hb hk hqu hqR HD HQ2
                      go_wp2_with fail
                      refine HRW.out.mono ?_
                      rintro e wv ⟨ar, cr, rfl, rsN, _, _, hbv⟩
                      try simp only [] at rsN
                      have hqv := HQR.out.below hbv
                      have hRl := (Array.getElem?_eq_some_iff.1 HRB.out).1
                      have hRv := (hbv.block _ hRl).trans HRB.out
                      have r0 : wv.cell? ⟨wu.heap.size, 0, none⟩ = some (.int .i64 0) := by rw [Go.Joins.cell_of_block hRv]; rfl
                      have r4 : wv.cell? ⟨wu.heap.size, 4, none⟩ = some (.int .i64 tt) := by rw [Go.Joins.cell_of_block hRv]; rfl
                      have a3 : wv.cell? ⟨A, 3, none⟩ = some (.slice oa al.length ca) := by rw [Go.Joins.cell_of_block hqv.a]; rfl
                      have HTT : Hid (∀ u, Below wv.heap.size wv u → Calls Try.prog 18 #[ptr X] u fun e w' => e = .returned (.int .i64 tt) ∧ w' = u) := xhide (fun u hu => mo_time (hqv.mo.below hu))
                      have HRN : Hid (∀ u, Below wv.heap.size wv u → RS u ar N.length cr N) := xhide (fun u hu => rsN.below hu (fun b off e hlt => hlt))
                      have HRA : Hid (∀ u, Below wv.heap.size wv u → RS u oa al.length ca al) := xhide (fun u hu => hqv.ra.below hu (fun b off e hlt => hlt))
                      have HA3 : Hid (∀ u, Below wv.heap.size wv u → u.cell? ⟨A, 3, none⟩ = some (.slice oa al.length ca)) := xhide (fun u hu => (hu.cell (p := ⟨A, 3, none⟩) (Array.getElem?_eq_some_iff.1 hqv.a).1).trans a3)
                      have HLW := xhide hqv.low
                      have hlw := hqv.low.size
                      rw [hNl] at HRN
                      have dN : ((N.length : Nat) : Int) = (al.length : Int) := by omega
                      clear hqv hRl hRv rsN hbv HRW HQR HRB
                      rw [hNl]
                      clear dN
                      go_wp2_with fail
                      go_quiet ((go_at_call 18; exact Calls.quiet_of_same (HTT.out _ (xdrew (Below.refl _ _) _))))
                      go_wp2_with fail
                      go_loopw [27] (fun i wr => ∃ m : Nat, m ≤ al.length ∧ i = .int .i64 (m : Nat) ∧ Hid (Below wv.heap.size wv wr)) (fun i _ => al.length - (intOf i).toNat)
                      case atStart => exact ⟨0, by omega, rfl, xhide (by first | exact xdrew (Below.refl _ _) _ | exact Below.refl _ _)⟩
                      case round =>
                        obtain ⟨m, hm, rfl, HBL⟩ := hrel
                        by_cases hlt3 : m < al.length
                        · obtain ⟨x, hx⟩ := some_at (l := al) rfl hlt3
                          obtain ⟨y, hy⟩ := some_at (l := N) (i := m) rfl (by omega)
                          have hxy : zt y = x := by
                            have h1 := HN.out
                            rw [← h1, List.getElem?_map, hy] at hx
                            exact Option.some.inj hx
                          obtain ⟨g, off, rfl, hgl, hc⟩ := ML.RS.at (HRA.out _ HBL.out) (by omega)
                          obtain ⟨g2, off2, rfl, hgl2, hc2⟩ := ML.RS.at (HRN.out _ HBL.out) (by omega)
                          obtain ⟨z0', z1', z2'⟩ := hc m x hx
                          obtain ⟨u0, u1, u2⟩ := hc2 m y hy
                          rw [show y.k = x.k from (by rw [← hxy]; rfl)] at u0
                          rw [show y.v = x.v from (by rw [← hxy]; rfl)] at u1
                          have a4 := HA3.out _ HBL.out
                          have d1 : (m : Int) < (al.length : Int) := by omega
                          have tk1 : (x.k.toList == x.k.toList) = true := by simp
                          have tv1 : (x.v.toList == x.v.toList) = true := by simp
                          clear hc hc2 hx hy hxy
                          go_wp2_with fail
                          go_quiet (fail)
                          go_wp2_with fail
                          go_roundw
                          case rel => exact ⟨m + 1, by omega, by go_num, xhide (by first | exact xdrew HBL.out _ | exact xdrew (xdrew HBL.out _) _)⟩
                          case measure => simp [intOf]; omega
                        · obtain rfl : m = al.length := by omega
                          have d1 : ¬ (al.length : Int) < (al.length : Int) := by omega
                          go_wp2
                          go_ret
                          exact ⟨rfl, HLW.out.trans (HBL.out.mono hlw)⟩
      · as_aux_lemma =>
          have s1 : ¬ (fr.size : Int) ≤ 16 := by omega
          go_wp2_with fail
          go_loopw [17, 16] (fun i n wr => ∃ k : Nat, k ≤ al.length ∧ i = .int .i64 (k : Nat) ∧ n = .int .i64 (((al.take k).filter p).length : Nat) ∧ Hid (Q4 W B X A w7.heap.size oa os al.length ca (al.filter p).length cs 154 al (al.filter p) wr S')) (fun i _ _ => al.length - (intOf i).toNat)
          case atStart => exact ⟨0, by omega, rfl, rfl, HQ⟩
          case round =>
            obtain ⟨k, hk, rfl, rfl, HQ1⟩ := hrel
            clear HQ
            by_cases hlt : k < al.length
            · have hnk : ((al.take k).filter p).length ≤ k := Nat.le_trans (List.length_filter_le _ _) (List.length_take_le _ _)
              obtain ⟨x, hx⟩ := some_at rfl hlt
              have hq := HQ1.out
              obtain ⟨g, off, rfl, hgl, hc⟩ := ML.RS.at hq.ra (by omega)
              obtain ⟨c0, c1, c2⟩ := hc k x hx
              have ca3 : wr.cell? ⟨A, 3, none⟩ = some (.slice (some ⟨g, off, none⟩) al.length ca) := by rw [Go.Joins.cell_of_block hq.a]; rfl
              have hAl : A < wr.heap.size := (Array.getElem?_eq_some_iff.1 hq.a).1
              have d1 : (k : Int) < (al.length : Int) := by omega
              have hmem : x ∈ now S' := by rw [← HAL.out]; exact List.mem_of_getElem? hx
              have hq9 := hq.below (ML.below1 wr (.cells #[.string x.k, .string x.v, .int .i64 x.t] 45))
              have hm9 := hq.mo.add (.cells #[.string x.k, .string x.v, .int .i64 x.t] 45)
              have hd := mo_do2 hm9 HLb.out ⟨2, 0, x.k, z0, z0, 0, 0⟩
              rw [stp_get HST.out, if_pos (now_key HOK.out hmem), ((now_mem HOK.out).1 hmem).2] at hd
              simp only [Option.getD_some, Option.isSome_some] at hd
              have HD := xhide hd
              have HQ9 := xhide hq9
              have HBX : Hid ((wr.alloc (.cells #[.string x.k, .string x.v, .int .i64 x.t] 45)).heap[wr.heap.size]? = some (.cells #[.string x.k, .string x.v, .int .i64 x.t] 45 (0, 0))) := xhide (heap_alloc_new _ _)
              clear hq hc hmem hq9 hm9 hd
              go_wp2_with fail
              refine HD.out.mono ?_
              rintro e wu ⟨og, ng, cg, rfl, _, hm, hb, hk10⟩
              have hqu := HQ9.out.step (hm.sub fun j hj => by simp only [List.mem_cons, List.mem_append] at hj ⊢; rcases hj with h | h | h | h <;> simp [h]) hb (fun j hj => hk10 j (List.mem_cons_of_mem _ hj))
              have hbu := (hk10 _ List.mem_cons_self).trans HBX.out
              have NQ : Hid (∀ u, Below (wu.alloc (.cells (rpA 0 x.v true (.slice og ng cg) 0) 41)).heap.size (wu.alloc (.cells (rpA 0 x.v true (.slice og ng cg) 0) 41)) u → Q4 W B X A w7.heap.size (some ⟨g, off, none⟩) os al.length ca (al.filter p).length cs 154 al (al.filter p) u S') := xhide (fun u hu => (hqu.below (ML.below1 _ _)).below hu)
              have b0 : wu.cell? ⟨wr.heap.size, 0, none⟩ = some (.string x.k) := by rw [Go.Joins.cell_of_block hbu]; rfl
              have b1 : wu.cell? ⟨wr.heap.size, 1, none⟩ = some (.string x.v) := by rw [Go.Joins.cell_of_block hbu]; rfl
              have b2 : wu.cell? ⟨wr.heap.size, 2, none⟩ = some (.int .i64 x.t) := by rw [Go.Joins.cell_of_block hbu]; rfl
              have a3 : wu.cell? ⟨A, 3, none⟩ = some (.slice (some ⟨g, off, none⟩) al.length ca) := by rw [Go.Joins.cell_of_block hqu.a]; rfl
              have p0 : wu.cell? ⟨w7.heap.size, 0, none⟩ = some (.int .i64 154) := by rw [Go.Joins.cell_of_block hqu.p]; rfl
              have p3 : wu.cell? ⟨w7.heap.size, 3, none⟩ = some (.slice os (al.filter p).length cs) := by rw [Go.Joins.cell_of_block hqu.p]; rfl
              have hAu : A < wu.heap.size := (Array.getElem?_eq_some_iff.1 hqu.a).1
              have hPu : w7.heap.size < wu.heap.size := (Array.getElem?_eq_some_iff.1 hqu.p).1
              have hRu : wr.heap.size < wu.heap.size := (Array.getElem?_eq_some_iff.1 hbu).1
              have HQU := xhide hqu
              clear c0 c1 c2 ca3 hm hb hk10 hbu HD HQ9 HBX hAl
              by_cases hk0 : k = 0
              · as_aux_lemma =>
                clear hqu
                have d2 : decide (0 < k) = false := by simpa using hk0
                clear hk0
                cases t0 : nless x.k fr with
                | true =>
                  have HT0 := xhide t0
                  unfold nless at t0
                  have HPX : Hid (p x = false) := xhide (by rw [hp.out])
                  have HN1 : Hid (((al.take (k + 1)).filter p).length = ((al.take k).filter p).length) := xhide (by rw [take_filter hx, HPX.out]; simp)
                  go_wp2_with fail
                  go_quiet (fail)
                  go_wp2_with fail
                  go_roundw
                  case rel => exact ⟨k + 1, by omega, by go_num, by rw [HN1.out], xhide (NQ.out _ (by first | exact xdrew (Below.refl _ _) _ | exact xdrew (xdrew (Below.refl _ _) _) _))⟩
                  case measure => simp [intOf]; omega
                | false =>
                  have HT0 := xhide t0
                  unfold nless at t0
                  cases te : hi.toList.isEmpty with
                  | true =>
                    have HTE1 := xhide te
                    have HPX : Hid (p x = false) := xhide (by rw [hp.out])
                    have HN1 : Hid (((al.take (k + 1)).filter p).length = ((al.take k).filter p).length) := xhide (by rw [take_filter hx, HPX.out]; simp)
                    go_wp2_with fail
                    go_quiet (fail)
                    go_wp2_with fail
                    go_roundw
                    case rel => exact ⟨k + 1, by omega, by go_num, by rw [HN1.out], xhide (NQ.out _ (by first | exact xdrew (Below.refl _ _) _ | exact xdrew (xdrew (Below.refl _ _) _) _))⟩
                    case measure => simp [intOf]; omega
                  | false =>
                    have HTE1 := xhide te
                    cases t2 : nless x.k hi with
                    | true =>
                      have HT2 := xhide t2
                      unfold nless at t2
                      have HPX : Hid (p x = false) := xhide (by rw [hp.out])
                      have HN1 : Hid (((al.take (k + 1)).filter p).length = ((al.take k).filter p).length) := xhide (by rw [take_filter hx, HPX.out]; simp)
                      go_wp2_with fail
                      go_quiet (fail)
                      go_wp2_with fail
                      go_roundw
                      case rel => exact ⟨k + 1, by omega, by go_num, by rw [HN1.out], xhide (NQ.out _ (by first | exact xdrew (Below.refl _ _) _ | exact xdrew (xdrew (Below.refl _ _) _) _))⟩
                      case measure => simp [intOf]; omega
                    | false =>
                      have HT2 := xhide t2
                      unfold nless at t2
                      have HPX : Hid (p x = false) := xhide (by rw [hp.out])
                      have HN1 : Hid (((al.take (k + 1)).filter p).length = ((al.take k).filter p).length) := xhide (by rw [take_filter hx, HPX.out]; simp)
                      go_wp2_with fail
                      go_quiet (fail)
                      go_wp2_with fail
                      go_roundw
                      case rel => exact ⟨k + 1, by omega, by go_num, by rw [HN1.out], xhide (NQ.out _ (by first | exact xdrew (Below.refl _ _) _ | exact xdrew (xdrew (Below.refl _ _) _) _))⟩
                      case measure => simp [intOf]; omega
              · as_aux_lemma =>
                have d2 : (0 : Int) < (k : Int) := by omega
                have d4 : decide (0 < k) = true := by simp; omega
                obtain ⟨y, hy⟩ := some_at (l := al) (i := k - 1) rfl (by omega)
                have y0 : wu.cell? ⟨g, off + (k - 1) * 3, none⟩ = some (.string y.k) := by
                  obtain ⟨g', off', e, _, hc⟩ := ML.RS.at hqu.ra (by omega)
                  cases e
                  exact (hc (k - 1) y hy).1
                have hgu : g < wu.heap.size := by
                  obtain ⟨g', off', e, hg, _⟩ := ML.RS.at hqu.ra (by omega)
                  cases e
                  exact hg
                have hsub : ((k : Int) - 1) = ((k - 1 : Nat) : Int) := by omega
                have d3 : ((k - 1 : Nat) : Int) < (al.length : Int) := by omega
                have hnl : nless y.k x.k = true := srt_next (by rw [HAL.out]; exact now_srt HOK.out) (by omega) hx hy
                unfold nless at hnl
                clear hqu
                cases t0 : nless x.k fr with
                | true =>
                  have HT0 := xhide t0
                  unfold nless at t0
                  have HPX : Hid (p x = false) := xhide (by rw [hp.out])
                  have HN1 : Hid (((al.take (k + 1)).filter p).length = ((al.take k).filter p).length) := xhide (by rw [take_filter hx, HPX.out]; simp)
                  go_wp2_with fail
                  go_quiet (fail)
                  go_wp2_with fail
                  go_roundw
                  case rel => exact ⟨k + 1, by omega, by go_num, by rw [HN1.out], xhide (NQ.out _ (by first | exact xdrew (Below.refl _ _) _ | exact xdrew (xdrew (Below.refl _ _) _) _))⟩
                  case measure => simp [intOf]; omega
                | false =>
                  have HT0 := xhide t0
                  unfold nless at t0
                  cases te : hi.toList.isEmpty with
                  | true =>
                    have HTE1 := xhide te
                    have HPX : Hid (p x = false) := xhide (by rw [hp.out])
                    have HN1 : Hid (((al.take (k + 1)).filter p).length = ((al.take k).filter p).length) := xhide (by rw [take_filter hx, HPX.out]; simp)
                    go_wp2_with fail
                    go_quiet (fail)
                    go_wp2_with fail
                    go_roundw
                    case rel => exact ⟨k + 1, by omega, by go_num, by rw [HN1.out], xhide (NQ.out _ (by first | exact xdrew (Below.refl _ _) _ | exact xdrew (xdrew (Below.refl _ _) _) _))⟩
                    case measure => simp [intOf]; omega
                  | false =>
                    have HTE1 := xhide te
                    cases t2 : nless x.k hi with
                    | true =>
                      have HT2 := xhide t2
                      unfold nless at t2
                      have HPX : Hid (p x = false) := xhide (by rw [hp.out])
                      have HN1 : Hid (((al.take (k + 1)).filter p).length = ((al.take k).filter p).length) := xhide (by rw [take_filter hx, HPX.out]; simp)
                      go_wp2_with fail
                      go_quiet (fail)
                      go_wp2_with fail
                      go_roundw
                      case rel => exact ⟨k + 1, by omega, by go_num, by rw [HN1.out], xhide (NQ.out _ (by first | exact xdrew (Below.refl _ _) _ | exact xdrew (xdrew (Below.refl _ _) _) _))⟩
                      case measure => simp [intOf]; omega
                    | false =>
                      have HT2 := xhide t2
                      unfold nless at t2
                      have HPX : Hid (p x = false) := xhide (by rw [hp.out])
                      have HN1 : Hid (((al.take (k + 1)).filter p).length = ((al.take k).filter p).length) := xhide (by rw [take_filter hx, HPX.out]; simp)
                      go_wp2_with fail
                      go_quiet (fail)
                      go_wp2_with fail
                      go_roundw
                      case rel => exact ⟨k + 1, by omega, by go_num, by rw [HN1.out], xhide (NQ.out _ (by first | exact xdrew (Below.refl _ _) _ | exact xdrew (xdrew (Below.refl _ _) _) _))⟩
                      case measure => simp [intOf]; omega
            · have hz := HQ1
              clear hz
              as_aux_lemma =>
                obtain rfl : k = al.length := by omega
                rw [List.take_length]
                have hq := HQ1.out
                have p3 : wr.cell? ⟨w7.heap.size, 3, none⟩ = some (.slice os (al.filter p).length cs) := by rw [Go.Joins.cell_of_block hq.p]; rfl
                have a3 : wr.cell? ⟨A, 3, none⟩ = some (.slice oa al.length ca) := by rw [Go.Joins.cell_of_block hq.a]; rfl
                have hAu : A < wr.heap.size := (Array.getElem?_eq_some_iff.1 hq.a).1
                have hPu : w7.heap.size < wr.heap.size := (Array.getElem?_eq_some_iff.1 hq.p).1
                have d1 : ¬ (al.length : Int) < (al.length : Int) := by omega
                clear hq
                go_wp2_with fail
                go_loopw [21] (fun i wr => ∃ j : Nat, j ≤ l.length ∧ i = .int .i64 (j : Nat) ∧ Hid (Q4 W B X A w7.heap.size oa os al.length ca (al.filter p).length cs 154 al (al.filter p) wr S')) (fun i _ => l.length - (intOf i).toNat)
                case atStart => exact ⟨0, by omega, rfl, HQ1⟩
                case round =>
                  obtain ⟨j, hj, rfl, HQ2⟩ := hrel
                  clear HQ1 p3 a3 hAu hPu d1
                  by_cases hlt2 : j < l.length
                  · obtain ⟨x, hx⟩ := some_at rfl hlt2
                    obtain ⟨g, off, rfl, hgl, hc⟩ := HCS.out.2.2.2 (by omega)
                    have hq := HQ2.out
                    have k2 := (hq.low.cell (p := ⟨g, off + j * 7 + 2, none⟩) hgl).trans (hc j x hx 2 _ rfl)
                    have hgr : g < wr.heap.size := Nat.lt_of_lt_of_le hgl hq.low.size
                    have d1 : (j : Int) < (l.length : Int) := by omega
                    have hd := mo_do2 hq.mo HLb.out ⟨2, 0, x.key, z0, z0, 0, 0⟩
                    rw [stp_get HST.out] at hd
                    have HFN : Hid ((look S' x.key).isSome = true ↔ 0 ≤ fnd x.key al 0) := xhide (by rw [fnd_iff (by omega), now_found HOK.out, HAL.out])
                    have HK2 := xhide (hc j x hx 2 _ rfl)
                    cases hK : isK x.key with
                    | true =>
                      rw [if_pos hK] at hd
                      have HD := xhide hd
                      clear hq hd hc
                      cases hf : (look S' x.key).isSome with
                      | true =>
                        have d4 : 0 ≤ fnd x.key al 0 := HFN.out.1 hf
                        rw [hf] at HD
                        as_aux_lemma =>
                          simp only [] at HD
                          generalize (look S' x.key).getD .empty = vv at *
                          go_wp2_with fail
                          refine HD.out.mono ?_
                          rintro e wu ⟨og, ng, cg, rfl, _, hm, hb, hk⟩
                          have hqu := HQ2.out.step (hm.sub fun j hj => List.mem_append_right _ hj) hb hk
                          have k2u := (hqu.low.cell (p := ⟨g, off + j * 7 + 2, none⟩) hgl).trans HK2.out
                          have hgu : g < wu.heap.size := Nat.lt_of_lt_of_le hgl hqu.low.size
                          have a3 : wu.cell? ⟨A, 3, none⟩ = some (.slice oa al.length ca) := by rw [Go.Joins.cell_of_block hqu.a]; rfl
                          have hAu : A < wu.heap.size := (Array.getElem?_eq_some_iff.1 hqu.a).1
                          have NQ : Hid (∀ o u, Below (wu.alloc o).heap.size (wu.alloc o) u → Q4 W B X A w7.heap.size oa os al.length ca (al.filter p).length cs 154 al (al.filter p) u S') := xhide (fun o u hu => (hqu.below (ML.below1 _ _)).below hu)
                          have HFD : Hid (∀ o u, Below (wu.alloc o).heap.size (wu.alloc o) u → Calls Try.prog 22 #[.slice oa al.length ca, .string x.key] u fun e w' => e = .returned (.int .i64 (fnd x.key al 0)) ∧ w' = u) := xhide (fun o u hu => find_fnd (((hqu.ra).below (ML.below1 wu o) (fun b off e hlt => hlt)).below hu (fun b off e hlt => hlt)) _)
                          generalize hfn : fnd x.key al 0 = fn at *
                          clear hm hb hk hqu HD k2 hgr hfn
                          go_wp2_with fail
                          go_quiet ((go_at_call 22; exact Calls.quiet_of_same (HFD.out _ _ (xdrew (Below.refl _ _) _))))
                          go_wp2_with fail
                          refine (refKey_any _ _).mono ?_
                          rintro e wv ⟨rfl, rfl⟩
                          rw [hK]
                          go_wp2_with fail
                          go_roundw
                          case rel => exact ⟨j + 1, by omega, by go_num, xhide (NQ.out _ _ (by first | exact xdrew (Below.refl _ _) _ | exact xdrew (xdrew (Below.refl _ _) _) _))⟩
                          case measure => simp [intOf]; omega
                      | false =>
                        have d4 : ¬ 0 ≤ fnd x.key al 0 := fun q => by have := HFN.out.2 q; rw [hf] at this; cases this
                        rw [hf] at HD
                        as_aux_lemma =>
                          simp only [] at HD
                          generalize (look S' x.key).getD .empty = vv at *
                          go_wp2_with fail
                          refine HD.out.mono ?_
                          rintro e wu ⟨og, ng, cg, rfl, _, hm, hb, hk⟩
                          have hqu := HQ2.out.step (hm.sub fun j hj => List.mem_append_right _ hj) hb hk
                          have k2u := (hqu.low.cell (p := ⟨g, off + j * 7 + 2, none⟩) hgl).trans HK2.out
                          have hgu : g < wu.heap.size := Nat.lt_of_lt_of_le hgl hqu.low.size
                          have a3 : wu.cell? ⟨A, 3, none⟩ = some (.slice oa al.length ca) := by rw [Go.Joins.cell_of_block hqu.a]; rfl
                          have hAu : A < wu.heap.size := (Array.getElem?_eq_some_iff.1 hqu.a).1
                          have NQ : Hid (∀ o u, Below (wu.alloc o).heap.size (wu.alloc o) u → Q4 W B X A w7.heap.size oa os al.length ca (al.filter p).length cs 154 al (al.filter p) u S') := xhide (fun o u hu => (hqu.below (ML.below1 _ _)).below hu)
                          have HFD : Hid (∀ o u, Below (wu.alloc o).heap.size (wu.alloc o) u → Calls Try.prog 22 #[.slice oa al.length ca, .string x.key] u fun e w' => e = .returned (.int .i64 (fnd x.key al 0)) ∧ w' = u) := xhide (fun o u hu => find_fnd (((hqu.ra).below (ML.below1 wu o) (fun b off e hlt => hlt)).below hu (fun b off e hlt => hlt)) _)
                          generalize hfn : fnd x.key al 0 = fn at *
                          clear hm hb hk hqu HD k2 hgr hfn
                          go_wp2_with fail
                          go_quiet ((go_at_call 22; exact Calls.quiet_of_same (HFD.out _ _ (xdrew (Below.refl _ _) _))))
                          go_wp2_with fail
                          refine (refKey_any _ _).mono ?_
                          rintro e wv ⟨rfl, rfl⟩
                          rw [hK]
                          go_wp2_with fail
                          go_roundw
                          case rel => exact ⟨j + 1, by omega, by go_num, xhide (NQ.out _ _ (by first | exact xdrew (Below.refl _ _) _ | exact xdrew (xdrew (Below.refl _ _) _) _))⟩
                          case measure => simp [intOf]; omega
                    | false =>
                      rw [if_neg (by rw [hK]; simp)] at hd
                      have HD := xhide hd
                      clear hq hd hc
                      as_aux_lemma =>
                        simp only [] at HD
                        generalize (look S' x.key).getD .empty = vv at *
                        go_wp2_with fail
                        refine HD.out.mono ?_
                        rintro e wu ⟨og, ng, cg, rfl, _, hm, hb, hk⟩
                        have hqu := HQ2.out.step (hm.sub fun j hj => List.mem_append_right _ hj) hb hk
                        have k2u := (hqu.low.cell (p := ⟨g, off + j * 7 + 2, none⟩) hgl).trans HK2.out
                        have hgu : g < wu.heap.size := Nat.lt_of_lt_of_le hgl hqu.low.size
                        have a3 : wu.cell? ⟨A, 3, none⟩ = some (.slice oa al.length ca) := by rw [Go.Joins.cell_of_block hqu.a]; rfl
                        have hAu : A < wu.heap.size := (Array.getElem?_eq_some_iff.1 hqu.a).1
                        have NQ : Hid (∀ o u, Below (wu.alloc o).heap.size (wu.alloc o) u → Q4 W B X A w7.heap.size oa os al.length ca (al.filter p).length cs 154 al (al.filter p) u S') := xhide (fun o u hu => (hqu.below (ML.below1 _ _)).below hu)
                        have HFD : Hid (∀ o u, Below (wu.alloc o).heap.size (wu.alloc o) u → Calls Try.prog 22 #[.slice oa al.length ca, .string x.key] u fun e w' => e = .returned (.int .i64 (fnd x.key al 0)) ∧ w' = u) := xhide (fun o u hu => find_fnd (((hqu.ra).below (ML.below1 wu o) (fun b off e hlt => hlt)).below hu (fun b off e hlt => hlt)) _)
                        generalize hfn : fnd x.key al 0 = fn at *
                        clear hm hb hk hqu HD k2 hgr hfn
                        go_wp2_with fail
                        go_quiet ((go_at_call 22; exact Calls.quiet_of_same (HFD.out _ _ (xdrew (Below.refl _ _) _))))
                        go_wp2_with fail
                        refine (refKey_any _ _).mono ?_
                        rintro e wv ⟨rfl, rfl⟩
                        rw [hK]
                        go_wp2_with fail
                        go_roundw
                        case rel => exact ⟨j + 1, by omega, by go_num, xhide (NQ.out _ _ (by first | exact xdrew (Below.refl _ _) _ | exact xdrew (xdrew (Below.refl _ _) _) _))⟩
                        case measure => simp [intOf]; omega
                  · obtain rfl : j = l.length := by omega
                    as_aux_lemma =>
                      have hq := HQ2.out
                      have d1 : ¬ (l.length : Int) < (l.length : Int) := by omega
                      have hd := mo_do2 hq.mo HLb.out ⟨7, 0, z0, z0, z0, 0, 0⟩
                      rw [stp_commit HST.out HT4.out] at hd
                      obtain ⟨N, hN⟩ : ∃ N, N = doneW (S'.t + 1) S'.L (S'.ws.getD []) := ⟨_, rfl⟩
                      have HN : Hid (N.map zt = al) := xhide (by rw [hN, HAL.out]; unfold now; exact doneW_zt _ _ _)
                      have hNl : N.length = al.length := by have := congrArg List.length HN.out; rwa [List.length_map] at this
                      have HNb : Hid (N.length ≤ big) := xhide (by
                        have h1 := doneW_len (t := S'.t + 1) (S'.ws.getD []) S'.L
                        have h2 : (S'.ws.getD []).length ≤ 64 := by
                          cases hw : S'.ws with
                          | none => simp
                          | some ws => exact (HOK.out.wsrt ws hw).2.1
                        have h3 := HLb.out
                        rw [hN]; omega)
                      rw [← hN] at hd
                      simp only [] at hd
                      have HD := xhide hd
                      clear hq hd hN
                      generalize S'.t + 1 = tt at *
                      go_wp2_with fail
                      refine HD.out.mono ?_
                      rintro e wu ⟨og, ng, cg, rfl, _, hm, hb, hk⟩
                      have hqu := HQ2.out.step (hm.sub fun j hj => List.mem_append_right _ hj) hb hk
                      have hqR := hqu.below (ML.below1 wu (.cells (rpA 0 .empty false (.slice og ng cg) tt) 41))
                      have HRW := xhide (mo_rows hqR.mo HNb.out)
                      have HQR := xhide hqR
                      have HRB : Hid ((wu.alloc (.cells (rpA 0 .empty false (.slice og ng cg) tt) 41)).heap[wu.heap.size]? = some (.cells (rpA 0 .empty false (.slice og ng cg) tt) 41 (0, 0))) := xhide (heap_alloc_new _ _)
                      clear hm hb hk hqu hqR HD HQ2
                      go_wp2_with fail
                      refine HRW.out.mono ?_
                      rintro e wv ⟨ar, cr, rfl, rsN, _, _, hbv⟩
                      try simp only [] at rsN
                      have hqv := HQR.out.below hbv
                      have hRl := (Array.getElem?_eq_some_iff.1 HRB.out).1
                      have hRv := (hbv.block _ hRl).trans HRB.out
                      have r0 : wv.cell? ⟨wu.heap.size, 0, none⟩ = some (.int .i64 0) := by rw [Go.Joins.cell_of_block hRv]; rfl
                      have r4 : wv.cell? ⟨wu.heap.size, 4, none⟩ = some (.int .i64 tt) := by rw [Go.Joins.cell_of_block hRv]; rfl
                      have a3 : wv.cell? ⟨A, 3, none⟩ = some (.slice oa al.length ca) := by rw [Go.Joins.cell_of_block hqv.a]; rfl
                      have HTT : Hid (∀ u, Below wv.heap.size wv u → Calls Try.prog 18 #[ptr X] u fun e w' => e = .returned (.int .i64 tt) ∧ w' = u) := xhide (fun u hu => mo_time (hqv.mo.below hu))
                      have HRN : Hid (∀ u, Below wv.heap.size wv u → RS u ar N.length cr N) := xhide (fun u hu => rsN.below hu (fun b off e hlt => hlt))
                      have HRA : Hid (∀ u, Below wv.heap.size wv u → RS u oa al.length ca al) := xhide (fun u hu => hqv.ra.below hu (fun b off e hlt => hlt))
                      have HA3 : Hid (∀ u, Below wv.heap.size wv u → u.cell? ⟨A, 3, none⟩ = some (.slice oa al.length ca)) := xhide (fun u hu => (hu.cell (p := ⟨A, 3, none⟩) (Array.getElem?_eq_some_iff.1 hqv.a).1).trans a3)
                      have HLW := xhide hqv.low
                      have hlw := hqv.low.size
                      rw [hNl] at HRN
                      have dN : ((N.length : Nat) : Int) = (al.length : Int) := by omega
                      clear hqv hRl hRv rsN hbv HRW HQR HRB
                      rw [hNl]
                      clear dN
                      go_wp2_with fail
                      go_quiet ((go_at_call 18; exact Calls.quiet_of_same (HTT.out _ (xdrew (Below.refl _ _) _))))
                      go_wp2_with fail
                      go_loopw [27] (fun i wr => ∃ m : Nat, m ≤ al.length ∧ i = .int .i64 (m : Nat) ∧ Hid (Below wv.heap.size wv wr)) (fun i _ => al.length - (intOf i).toNat)
                      case atStart => exact ⟨0, by omega, rfl, xhide (by first | exact xdrew (Below.refl _ _) _ | exact Below.refl _ _)⟩
                      case round =>
                        obtain ⟨m, hm, rfl, HBL⟩ := hrel
                        by_cases hlt3 : m < al.length
                        · obtain ⟨x, hx⟩ := some_at (l := al) rfl hlt3
                          obtain ⟨y, hy⟩ := some_at (l := N) (i := m) rfl (by omega)
                          have hxy : zt y = x := by
                            have h1 := HN.out
                            rw [← h1, List.getElem?_map, hy] at hx
                            exact Option.some.inj hx
                          obtain ⟨g, off, rfl, hgl, hc⟩ := ML.RS.at (HRA.out _ HBL.out) (by omega)
                          obtain ⟨g2, off2, rfl, hgl2, hc2⟩ := ML.RS.at (HRN.out _ HBL.out) (by omega)
                          obtain ⟨z0', z1', z2'⟩ := hc m x hx
                          obtain ⟨u0, u1, u2⟩ := hc2 m y hy
                          rw [show y.k = x.k from (by rw [← hxy]; rfl)] at u0
                          rw [show y.v = x.v from (by rw [← hxy]; rfl)] at u1
                          have a4 := HA3.out _ HBL.out
                          have d1 : (m : Int) < (al.length : Int) := by omega
                          have tk1 : (x.k.toList == x.k.toList) = true := by simp
                          have tv1 : (x.v.toList == x.v.toList) = true := by simp
                          clear hc hc2 hx hy hxy
                          go_wp2_with fail
                          go_quiet (fail)
                          go_wp2_with fail
                          go_roundw
                          case rel => exact ⟨m + 1, by omega, by go_num, xhide (by first | exact xdrew HBL.out _ | exact xdrew (xdrew HBL.out _) _)⟩
                          case measure => simp [intOf]; omega
                        · obtain rfl : m = al.length := by omega
                          have d1 : ¬ (al.length : Int) < (al.length : Int) := by omega
                          go_wp2
                          go_ret
                          exact ⟨rfl, HLW.out.trans (HBL.out.mono hlw)⟩
      · as_aux_lemma =>
          have s1 : (fr.size : Int) ≤ 16 := by omega
          have s2 : ¬ (hi.size : Int) ≤ 16 := by omega
          go_wp2_with fail
          go_loopw [17, 16] (fun i n wr => ∃ k : Nat, k ≤ al.length ∧ i = .int .i64 (k : Nat) ∧ n = .int .i64 (((al.take k).filter p).length : Nat) ∧ Hid (Q4 W B X A w7.heap.size oa os al.length ca (al.filter p).length cs 154 al (al.filter p) wr S')) (fun i _ _ => al.length - (intOf i).toNat)
          case atStart => exact ⟨0, by omega, rfl, rfl, HQ⟩
          case round =>
            obtain ⟨k, hk, rfl, rfl, HQ1⟩ := hrel
            clear HQ
            by_cases hlt : k < al.length
            · have hnk : ((al.take k).filter p).length ≤ k := Nat.le_trans (List.length_filter_le _ _) (List.length_take_le _ _)
              obtain ⟨x, hx⟩ := some_at rfl hlt
              have hq := HQ1.out
              obtain ⟨g, off, rfl, hgl, hc⟩ := ML.RS.at hq.ra (by omega)
              obtain ⟨c0, c1, c2⟩ := hc k x hx
              have ca3 : wr.cell? ⟨A, 3, none⟩ = some (.slice (some ⟨g, off, none⟩) al.length ca) := by rw [Go.Joins.cell_of_block hq.a]; rfl
              have hAl : A < wr.heap.size := (Array.getElem?_eq_some_iff.1 hq.a).1
              have d1 : (k : Int) < (al.length : Int) := by omega
              have hmem : x ∈ now S' := by rw [← HAL.out]; exact List.mem_of_getElem? hx
              have hq9 := hq.below (ML.below1 wr (.cells #[.string x.k, .string x.v, .int .i64 x.t] 45))
              have hm9 := hq.mo.add (.cells #[.string x.k, .string x.v, .int .i64 x.t] 45)
              have hd := mo_do2 hm9 HLb.out ⟨2, 0, x.k, z0, z0, 0, 0⟩
              rw [stp_get HST.out, if_pos (now_key HOK.out hmem), ((now_mem HOK.out).1 hmem).2] at hd
              simp only [Option.getD_some, Option.isSome_some] at hd
              have HD := xhide hd
              have HQ9 := xhide hq9
              have HBX : Hid ((wr.alloc (.cells #[.string x.k, .string x.v, .int .i64 x.t] 45)).heap[wr.heap.size]? = some (.cells #[.string x.k, .string x.v, .int .i64 x.t] 45 (0, 0))) := xhide (heap_alloc_new _ _)
              clear hq hc hmem hq9 hm9 hd
              go_wp2_with fail
              refine HD.out.mono ?_
              rintro e wu ⟨og, ng, cg, rfl, _, hm, hb, hk10⟩
              have hqu := HQ9.out.step (hm.sub fun j hj => by simp only [List.mem_cons, List.mem_append] at hj ⊢; rcases hj with h | h | h | h <;> simp [h]) hb (fun j hj => hk10 j (List.mem_cons_of_mem _ hj))
              have hbu := (hk10 _ List.mem_cons_self).trans HBX.out
              have NQ : Hid (∀ u, Below (wu.alloc (.cells (rpA 0 x.v true (.slice og ng cg) 0) 41)).heap.size (wu.alloc (.cells (rpA 0 x.v true (.slice og ng cg) 0) 41)) u → Q4 W B X A w7.heap.size (some ⟨g, off, none⟩) os al.length ca (al.filter p).length cs 154 al (al.filter p) u S') := xhide (fun u hu => (hqu.below (ML.below1 _ _)).below hu)
              have b0 : wu.cell? ⟨wr.heap.size, 0, none⟩ = some (.string x.k) := by rw [Go.Joins.cell_of_block hbu]; rfl
              have b1 : wu.cell? ⟨wr.heap.size, 1, none⟩ = some (.string x.v) := by rw [Go.Joins.cell_of_block hbu]; rfl
              have b2 : wu.cell? ⟨wr.heap.size, 2, none⟩ = some (.int .i64 x.t) := by rw [Go.Joins.cell_of_block hbu]; rfl
              have a3 : wu.cell? ⟨A, 3, none⟩ = some (.slice (some ⟨g, off, none⟩) al.length ca) := by rw [Go.Joins.cell_of_block hqu.a]; rfl
              have p0 : wu.cell? ⟨w7.heap.size, 0, none⟩ = some (.int .i64 154) := by rw [Go.Joins.cell_of_block hqu.p]; rfl
              have p3 : wu.cell? ⟨w7.heap.size, 3, none⟩ = some (.slice os (al.filter p).length cs) := by rw [Go.Joins.cell_of_block hqu.p]; rfl
              have hAu : A < wu.heap.size := (Array.getElem?_eq_some_iff.1 hqu.a).1
              have hPu : w7.heap.size < wu.heap.size := (Array.getElem?_eq_some_iff.1 hqu.p).1
              have hRu : wr.heap.size < wu.heap.size := (Array.getElem?_eq_some_iff.1 hbu).1
              have HQU := xhide hqu
              clear c0 c1 c2 ca3 hm hb hk10 hbu HD HQ9 HBX hAl
              by_cases hk0 : k = 0
              · as_aux_lemma =>
                clear hqu
                have d2 : decide (0 < k) = false := by simpa using hk0
                clear hk0
                cases t0 : nless x.k fr with
                | true =>
                  have HT0 := xhide t0
                  unfold nless at t0
                  have HPX : Hid (p x = false) := xhide (by rw [hp.out])
                  have HN1 : Hid (((al.take (k + 1)).filter p).length = ((al.take k).filter p).length) := xhide (by rw [take_filter hx, HPX.out]; simp)
                  go_wp2_with fail
                  go_quiet (fail)
                  go_wp2_with fail
                  go_roundw
                  case rel => exact ⟨k + 1, by omega, by go_num, by rw [HN1.out], xhide (NQ.out _ (by first | exact xdrew (Below.refl _ _) _ | exact xdrew (xdrew (Below.refl _ _) _) _))⟩
                  case measure => simp [intOf]; omega
                | false =>
                  have HT0 := xhide t0
                  unfold nless at t0
                  cases te : hi.toList.isEmpty with
                  | true =>
                    have HTE1 := xhide te
                    have HPX : Hid (p x = false) := xhide (by rw [hp.out])
                    have HN1 : Hid (((al.take (k + 1)).filter p).length = ((al.take k).filter p).length) := xhide (by rw [take_filter hx, HPX.out]; simp)
                    go_wp2_with fail
                    go_quiet (fail)
                    go_wp2_with fail
                    go_roundw
                    case rel => exact ⟨k + 1, by omega, by go_num, by rw [HN1.out], xhide (NQ.out _ (by first | exact xdrew (Below.refl _ _) _ | exact xdrew (xdrew (Below.refl _ _) _) _))⟩
                    case measure => simp [intOf]; omega
                  | false =>
                    have HTE1 := xhide te
                    cases t2 : nless x.k hi with
                    | true =>
                      have HT2 := xhide t2
                      unfold nless at t2
                      have HPX : Hid (p x = false) := xhide (by rw [hp.out])
                      have HN1 : Hid (((al.take (k + 1)).filter p).length = ((al.take k).filter p).length) := xhide (by rw [take_filter hx, HPX.out]; simp)
                      go_wp2_with fail
                      go_quiet (fail)
                      go_wp2_with fail
                      go_roundw
                      case rel => exact ⟨k + 1, by omega, by go_num, by rw [HN1.out], xhide (NQ.out _ (by first | exact xdrew (Below.refl _ _) _ | exact xdrew (xdrew (Below.refl _ _) _) _))⟩
                      case measure => simp [intOf]; omega
                    | false =>
                      have HT2 := xhide t2
                      unfold nless at t2
                      have HPX : Hid (p x = false) := xhide (by rw [hp.out])
                      have HN1 : Hid (((al.take (k + 1)).filter p).length = ((al.take k).filter p).length) := xhide (by rw [take_filter hx, HPX.out]; simp)
                      go_wp2_with fail
                      go_quiet (fail)
                      go_wp2_with fail
                      go_roundw
                      case rel => exact ⟨k + 1, by omega, by go_num, by rw [HN1.out], xhide (NQ.out _ (by first | exact xdrew (Below.refl _ _) _ | exact xdrew (xdrew (Below.refl _ _) _) _))⟩
                      case measure => simp [intOf]; omega
              · as_aux_lemma =>
                have d2 : (0 : Int) < (k : Int) := by omega
                have d4 : decide (0 < k) = true := by simp; omega
                obtain ⟨y, hy⟩ := some_at (l := al) (i := k - 1) rfl (by omega)
                have y0 : wu.cell? ⟨g, off + (k - 1) * 3, none⟩ = some (.string y.k) := by
                  obtain ⟨g', off', e, _, hc⟩ := ML.RS.at hqu.ra (by omega)
                  cases e
                  exact (hc (k - 1) y hy).1
                have hgu : g < wu.heap.size := by
                  obtain ⟨g', off', e, hg, _⟩ := ML.RS.at hqu.ra (by omega)
                  cases e
                  exact hg
                have hsub : ((k : Int) - 1) = ((k - 1 : Nat) : Int) := by omega
                have d3 : ((k - 1 : Nat) : Int) < (al.length : Int) := by omega
                have hnl : nless y.k x.k = true := srt_next (by rw [HAL.out]; exact now_srt HOK.out) (by omega) hx hy
                unfold nless at hnl
                clear hqu
                cases t0 : nless x.k fr with
                | true =>
                  have HT0 := xhide t0
                  unfold nless at t0
                  have HPX : Hid (p x = false) := xhide (by rw [hp.out])
                  have HN1 : Hid (((al.take (k + 1)).filter p).length = ((al.take k).filter p).length) := xhide (by rw [take_filter hx, HPX.out]; simp)
                  go_wp2_with fail
                  go_quiet (fail)
                  go_wp2_with fail
                  go_roundw
                  case rel => exact ⟨k + 1, by omega, by go_num, by rw [HN1.out], xhide (NQ.out _ (by first | exact xdrew (Below.refl _ _) _ | exact xdrew (xdrew (Below.refl _ _) _) _))⟩
                  case measure => simp [intOf]; omega
                | false =>
                  have HT0 := xhide t0
                  unfold nless at t0
                  cases te : hi.toList.isEmpty with
                  | true =>
                    have HTE1 := xhide te
                    have HPX : Hid (p x = false) := xhide (by rw [hp.out])
                    have HN1 : Hid (((al.take (k + 1)).filter p).length = ((al.take k).filter p).length) := xhide (by rw [take_filter hx, HPX.out]; simp)
                    go_wp2_with fail
                    go_quiet (fail)
                    go_wp2_with fail
                    go_roundw
                    case rel => exact ⟨k + 1, by omega, by go_num, by rw [HN1.out], xhide (NQ.out _ (by first | exact xdrew (Below.refl _ _) _ | exact xdrew (xdrew (Below.refl _ _) _) _))⟩
                    case measure => simp [intOf]; omega
                  | false =>
                    have HTE1 := xhide te
                    cases t2 : nless x.k hi with
                    | true =>
                      have HT2 := xhide t2
                      unfold nless at t2
                      have HPX : Hid (p x = false) := xhide (by rw [hp.out])
                      have HN1 : Hid (((al.take (k + 1)).filter p).length = ((al.take k).filter p).length) := xhide (by rw [take_filter hx, HPX.out]; simp)
                      go_wp2_with fail
                      go_quiet (fail)
                      go_wp2_with fail
                      go_roundw
                      case rel => exact ⟨k + 1, by omega, by go_num, by rw [HN1.out], xhide (NQ.out _ (by first | exact xdrew (Below.refl _ _) _ | exact xdrew (xdrew (Below.refl _ _) _) _))⟩
                      case measure => simp [intOf]; omega
                    | false =>
                      have HT2 := xhide t2
                      unfold nless at t2
                      have HPX : Hid (p x = false) := xhide (by rw [hp.out])
                      have HN1 : Hid (((al.take (k + 1)).filter p).length = ((al.take k).filter p).length) := xhide (by rw [take_filter hx, HPX.out]; simp)
                      go_wp2_with fail
                      go_quiet (fail)
                      go_wp2_with fail
                      go_roundw
                      case rel => exact ⟨k + 1, by omega, by go_num, by rw [HN1.out], xhide (NQ.out _ (by first | exact xdrew (Below.refl _ _) _ | exact xdrew (xdrew (Below.refl _ _) _) _))⟩
                      case measure => simp [intOf]; omega
            · have hz := HQ1
              clear hz
              as_aux_lemma =>
                obtain rfl : k = al.length := by omega
                rw [List.take_length]
                have hq := HQ1.out
                have p3 : wr.cell? ⟨w7.heap.size, 3, none⟩ = some (.slice os (al.filter p).length cs) := by rw [Go.Joins.cell_of_block hq.p]; rfl
                have a3 : wr.cell? ⟨A, 3, none⟩ = some (.slice oa al.length ca) := by rw [Go.Joins.cell_of_block hq.a]; rfl
                have hAu : A < wr.heap.size := (Array.getElem?_eq_some_iff.1 hq.a).1
                have hPu : w7.heap.size < wr.heap.size := (Array.getElem?_eq_some_iff.1 hq.p).1
                have d1 : ¬ (al.length : Int) < (al.length : Int) := by omega
                clear hq
                go_wp2_with fail
                go_loopw [21] (fun i wr => ∃ j : Nat, j ≤ l.length ∧ i = .int .i64 (j : Nat) ∧ Hid (Q4 W B X A w7.heap.size oa os al.length ca (al.filter p).length cs 154 al (al.filter p) wr S')) (fun i _ => l.length - (intOf i).toNat)
                case atStart => exact ⟨0, by omega, rfl, HQ1⟩
                case round =>
                  obtain ⟨j, hj, rfl, HQ2⟩ := hrel
                  clear HQ1 p3 a3 hAu hPu d1
                  by_cases hlt2 : j < l.length
                  · obtain ⟨x, hx⟩ := some_at rfl hlt2
                    obtain ⟨g, off, rfl, hgl, hc⟩ := HCS.out.2.2.2 (by omega)
                    have hq := HQ2.out
                    have k2 := (hq.low.cell (p := ⟨g, off + j * 7 + 2, none⟩) hgl).trans (hc j x hx 2 _ rfl)
                    have hgr : g < wr.heap.size := Nat.lt_of_lt_of_le hgl hq.low.size
                    have d1 : (j : Int) < (l.length : Int) := by omega
                    have hd := mo_do2 hq.mo HLb.out ⟨2, 0, x.key, z0, z0, 0, 0⟩
                    rw [stp_get HST.out] at hd
                    have HFN : Hid ((look S' x.key).isSome = true ↔ 0 ≤ fnd x.key al 0) := xhide (by rw [fnd_iff (by omega), now_found HOK.out, HAL.out])
                    have HK2 := xhide (hc j x hx 2 _ rfl)
                    cases hK : isK x.key with
                    | true =>
                      rw [if_pos hK] at hd
                      have HD := xhide hd
                      clear hq hd hc
                      cases hf : (look S' x.key).isSome with
                      | true =>
                        have d4 : 0 ≤ fnd x.key al 0 := HFN.out.1 hf
                        rw [hf] at HD
                        as_aux_lemma =>
                          simp only [] at HD
                          generalize (look S' x.key).getD .empty = vv at *
                          go_wp2_with fail
                          refine HD.out.mono ?_
                          rintro e wu ⟨og, ng, cg, rfl, _, hm, hb, hk⟩
                          have hqu := HQ2.out.step (hm.sub fun j hj => List.mem_append_right _ hj) hb hk
                          have k2u := (hqu.low.cell (p := ⟨g, off + j * 7 + 2, none⟩) hgl).trans HK2.out
                          have hgu : g < wu.heap.size := Nat.lt_of_lt_of_le hgl hqu.low.size
                          have a3 : wu.cell? ⟨A, 3, none⟩ = some (.slice oa al.length ca) := by rw [Go.Joins.cell_of_block hqu.a]; rfl
                          have hAu : A < wu.heap.size := (Array.getElem?_eq_some_iff.1 hqu.a).1
                          have NQ : Hid (∀ o u, Below (wu.alloc o).heap.size (wu.alloc o) u → Q4 W B X A w7.heap.size oa os al.length ca (al.filter p).length cs 154 al (al.filter p) u S') := xhide (fun o u hu => (hqu.below (ML.below1 _ _)).below hu)
                          have HFD : Hid (∀ o u, Below (wu.alloc o).heap.size (wu.alloc o) u → Calls Try.prog 22 #[.slice oa al.length ca, .string x.key] u fun e w' => e = .returned (.int .i64 (fnd x.key al 0)) ∧ w' = u) := xhide (fun o u hu => find_fnd (((hqu.ra).below (ML.below1 wu o) (fun b off e hlt => hlt)).below hu (fun b off e hlt => hlt)) _)
                          generalize hfn : fnd x.key al 0 = fn at *
                          clear hm hb hk hqu HD k2 hgr hfn
                          go_wp2_with fail
                          go_quiet ((go_at_call 22; exact Calls.quiet_of_same (HFD.out _ _ (xdrew (Below.refl _ _) _))))
                          go_wp2_with fail
                          refine (refKey_any _ _).mono ?_
                          rintro e wv ⟨rfl, rfl⟩
                          rw [hK]
                          go_wp2_with fail
                          go_roundw
                          case rel => exact ⟨j + 1, by omega, by go_num, xhide (NQ.out _ _ (by first | exact xdrew (Below.refl _ _) _ | exact xdrew (xdrew (Below.refl _ _) _) _))⟩
                          case measure => simp [intOf]; omega
                      | false =>
                        have d4 : ¬ 0 ≤ fnd x.key al 0 := fun q => by have := HFN.out.2 q; rw [hf] at this; cases this
                        rw [hf] at HD
                        as_aux_lemma =>
                          simp only [] at HD
                          generalize (look S' x.key).getD .empty = vv at *
                          go_wp2_with fail
                          refine HD.out.mono ?_
                          rintro e wu ⟨og, ng, cg, rfl, _, hm, hb, hk⟩
                          have hqu := HQ2.out.step (hm.sub fun j hj => List.mem_append_right _ hj) hb hk
                          have k2u := (hqu.low.cell (p := ⟨g, off + j * 7 + 2, none⟩) hgl).trans HK2.out
                          have hgu : g < wu.heap.size := Nat.lt_of_lt_of_le hgl hqu.low.size
                          have a3 : wu.cell? ⟨A, 3, none⟩ = some (.slice oa al.length ca) := by rw [Go.Joins.cell_of_block hqu.a]; rfl
                          have hAu : A < wu.heap.size := (Array.getElem?_eq_some_iff.1 hqu.a).1
                          have NQ : Hid (∀ o u, Below (wu.alloc o).heap.size (wu.alloc o) u → Q4 W B X A w7.heap.size oa os al.length ca (al.filter p).length cs 154 al (al.filter p) u S') := xhide (fun o u hu => (hqu.below (ML.below1 _ _)).below hu)
                          have HFD : Hid (∀ o u, Below (wu.alloc o).heap.size (wu.alloc o) u → Calls Try.prog 22 #[.slice oa al.length ca, .string x.key] u fun e w' => e = .returned (.int .i64 (fnd x.key al 0)) ∧ w' = u) := xhide (fun o u hu => find_fnd (((hqu.ra).below (ML.below1 wu o) (fun b off e hlt => hlt)).below hu (fun b off e hlt => hlt)) _)
                          generalize hfn : fnd x.key al 0 = fn at *
                          clear hm hb hk hqu HD k2 hgr hfn
                          go_wp2_with fail
                          go_quiet ((go_at_call 22; exact Calls.quiet_of_same (HFD.out _ _ (xdrew (Below.refl _ _) _))))
                          go_wp2_with fail
                          refine (refKey_any _ _).mono ?_
                          rintro e wv ⟨rfl, rfl⟩
                          rw [hK]
                          go_wp2_with fail
                          go_roundw
                          case rel => exact ⟨j + 1, by omega, by go_num, xhide (NQ.out _ _ (by first | exact xdrew (Below.refl _ _) _ | exact xdrew (xdrew (Below.refl _ _) _) _))⟩
                          case measure => simp [intOf]; omega
                    | false =>
                      rw [if_neg (by rw [hK]; simp)] at hd
                      have HD := xhide hd
                      clear hq hd hc
                      as_aux_lemma =>
                        simp only [] at HD
                        generalize (look S' x.key).getD .empty = vv at *
                        go_wp2_with fail
                        refine HD.out.mono ?_
                        rintro e wu ⟨og, ng, cg, rfl, _, hm, hb, hk⟩
                        have hqu := HQ2.out.step (hm.sub fun j hj => List.mem_append_right _ hj) hb hk
                        have k2u := (hqu.low.cell (p := ⟨g, off + j * 7 + 2, none⟩) hgl).trans HK2.out
                        have hgu : g < wu.heap.size := Nat.lt_of_lt_of_le hgl hqu.low.size
                        have a3 : wu.cell? ⟨A, 3, none⟩ = some (.slice oa al.length ca) := by rw [Go.Joins.cell_of_block hqu.a]; rfl
                        have hAu : A < wu.heap.size := (Array.getElem?_eq_some_iff.1 hqu.a).1
                        have NQ : Hid (∀ o u, Below (wu.alloc o).heap.size (wu.alloc o) u → Q4 W B X A w7.heap.size oa os al.length ca (al.filter p).length cs 154 al (al.filter p) u S') := xhide (fun o u hu => (hqu.below (ML.below1 _ _)).below hu)
                        have HFD : Hid (∀ o u, Below (wu.alloc o).heap.size (wu.alloc o) u → Calls Try.prog 22 #[.slice oa al.length ca, .string x.key] u fun e w' => e = .returned (.int .i64 (fnd x.key al 0)) ∧ w' = u) := xhide (fun o u hu => find_fnd (((hqu.ra).below (ML.below1 wu o) (fun b off e hlt => hlt)).below hu (fun b off e hlt => hlt)) _)
                        generalize hfn : fnd x.key al 0 = fn at *
                        clear hm hb hk hqu HD k2 hgr hfn
                        go_wp2_with fail
                        go_quiet ((go_at_call 22; exact Calls.quiet_of_same (HFD.out _ _ (xdrew (Below.refl _ _) _))))
                        go_wp2_with fail
                        refine (refKey_any _ _).mono ?_
                        rintro e wv ⟨rfl, rfl⟩
                        rw [hK]
                        go_wp2_with fail
                        go_roundw
                        case rel => exact ⟨j + 1, by omega, by go_num, xhide (NQ.out _ _ (by first | exact xdrew (Below.refl _ _) _ | exact xdrew (xdrew (Below.refl _ _) _) _))⟩
                        case measure => simp [intOf]; omega
                  · obtain rfl : j = l.length := by omega
                    as_aux_lemma =>
                      have hq := HQ2.out
                      have d1 : ¬ (l.length : Int) < (l.length : Int) := by omega
                      have hd := mo_do2 hq.mo HLb.out ⟨7, 0, z0, z0, z0, 0, 0⟩
                      rw [stp_commit HST.out HT4.out] at hd
                      obtain ⟨N, hN⟩ : ∃ N, N = doneW (S'.t + 1) S'.L (S'.ws.getD []) := ⟨_, rfl⟩
                      have HN : Hid (N.map zt = al) := xhide (by rw [hN, HAL.out]; unfold now; exact doneW_zt _ _ _)
                      have hNl : N.length = al.length := by have := congrArg List.length HN.out; rwa [List.length_map] at this
                      have HNb : Hid (N.length ≤ big) := xhide (by
                        have h1 := doneW_len (t := S'.t + 1) (S'.ws.getD []) S'.L
                        have h2 : (S'.ws.getD []).length ≤ 64 := by
                          cases hw : S'.ws with
                          | none => simp
                          | some ws => exact (HOK.out.wsrt ws hw).2.1
                        have h3 := HLb.out
                        rw [hN]; omega)
                      rw [← hN] at hd
                      simp only [] at hd
                      have HD := xhide hd
                      clear hq hd hN
                      generalize S'.t + 1 = tt at *
                      go_wp2_with fail
                      refine HD.out.mono ?_
                      rintro e wu ⟨og, ng, cg, rfl, _, hm, hb, hk⟩
                      have hqu := HQ2.out.step (hm.sub fun j hj => List.mem_append_right _ hj) hb hk
                      have hqR := hqu.below (ML.below1 wu (.cells (rpA 0 .empty false (.slice og ng cg) tt) 41))
                      have HRW := xhide (mo_rows hqR.mo HNb.out)
                      have HQR := xhide hqR
                      have HRB : Hid ((wu.alloc (.cells (rpA 0 .empty false (.slice og ng cg) tt) 41)).heap[wu.heap.size]? = some (.cells (rpA 0 .empty false (.slice og ng cg) tt) 41 (0, 0))) := xhide (heap_alloc_new _ _)
                      clear hm hb hk hqu hqR HD HQ2
                      go_wp2_with fail
                      refine HRW.out.mono ?_
                      rintro e wv ⟨ar, cr, rfl, rsN, _, _, hbv⟩
                      try simp only [] at rsN
                      have hqv := HQR.out.below hbv
                      have hRl := (Array.getElem?_eq_some_iff.1 HRB.out).1
                      have hRv := (hbv.block _ hRl).trans HRB.out
                      have r0 : wv.cell? ⟨wu.heap.size, 0, none⟩ = some (.int .i64 0) := by rw [Go.Joins.cell_of_block hRv]; rfl
                      have r4 : wv.cell? ⟨wu.heap.size, 4, none⟩ = some (.int .i64 tt) := by rw [Go.Joins.cell_of_block hRv]; rfl
                      have a3 : wv.cell? ⟨A, 3, none⟩ = some (.slice oa al.length ca) := by rw [Go.Joins.cell_of_block hqv.a]; rfl
                      have HTT : Hid (∀ u, Below wv.heap.size wv u → Calls Try.prog 18 #[ptr X] u fun e w' => e = .returned (.int .i64 tt) ∧ w' = u) := xhide (fun u hu => mo_time (hqv.mo.below hu))
                      have HRN : Hid (∀ u, Below wv.heap.size wv u → RS u ar N.length cr N) := xhide (fun u hu => rsN.below hu (fun b off e hlt => hlt))
                      have HRA : Hid (∀ u, Below wv.heap.size wv u → RS u oa al.length ca al) := xhide (fun u hu => hqv.ra.below hu (fun b off e hlt => hlt))
                      have HA3 : Hid (∀ u, Below wv.heap.size wv u → u.cell? ⟨A, 3, none⟩ = some (.slice oa al.length ca)) := xhide (fun u hu => (hu.cell (p := ⟨A, 3, none⟩) (Array.getElem?_eq_some_iff.1 hqv.a).1).trans a3)
                      have HLW := xhide hqv.low
                      have hlw := hqv.low.size
                      rw [hNl] at HRN
                      have dN : ((N.length : Nat) : Int) = (al.length : Int) := by omega
                      clear hqv hRl hRv rsN hbv HRW HQR HRB
                      rw [hNl]
                      clear dN
                      go_wp2_with fail
                      go_quiet ((go_at_call 18; exact Calls.quiet_of_same (HTT.out _ (xdrew (Below.refl _ _) _))))
                      go_wp2_with fail
                      go_loopw [27] (fun i wr => ∃ m : Nat, m ≤ al.length ∧ i = .int .i64 (m : Nat) ∧ Hid (Below wv.heap.size wv wr)) (fun i _ => al.length - (intOf i).toNat)
                      case atStart => exact ⟨0, by omega, rfl, xhide (by first | exact xdrew (Below.refl _ _) _ | exact Below.refl _ _)⟩
                      case round =>
                        obtain ⟨m, hm, rfl, HBL⟩ := hrel
                        by_cases hlt3 : m < al.length
                        · obtain ⟨x, hx⟩ := some_at (l := al) rfl hlt3
                          obtain ⟨y, hy⟩ := some_at (l := N) (i := m) rfl (by omega)
                          have hxy : zt y = x := by
                            have h1 := HN.out
                            rw [← h1, List.getElem?_map, hy] at hx
                            exact Option.some.inj hx
                          obtain ⟨g, off, rfl, hgl, hc⟩ := ML.RS.at (HRA.out _ HBL.out) (by omega)
                          obtain ⟨g2, off2, rfl, hgl2, hc2⟩ := ML.RS.at (HRN.out _ HBL.out) (by omega)
                          obtain ⟨z0', z1', z2'⟩ := hc m x hx
                          obtain ⟨u0, u1, u2⟩ := hc2 m y hy
                          rw [show y.k = x.k from (by rw [← hxy]; rfl)] at u0
                          rw [show y.v = x.v from (by rw [← hxy]; rfl)] at u1
                          have a4 := HA3.out _ HBL.out
                          have d1 : (m : Int) < (al.length : Int) := by omega
                          have tk1 : (x.k.toList == x.k.toList) = true := by simp
                          have tv1 : (x.v.toList == x.v.toList) = true := by simp
                          clear hc hc2 hx hy hxy
                          go_wp2_with fail
                          go_quiet (fail)
                          go_wp2_with fail
                          go_roundw
                          case rel => exact ⟨m + 1, by omega, by go_num, xhide (by first | exact xdrew HBL.out _ | exact xdrew (xdrew HBL.out _) _)⟩
                          case measure => simp [intOf]; omega
                        · obtain rfl : m = al.length := by omega
                          have d1 : ¬ (al.length : Int) < (al.length : Int) := by omega
                          go_wp2
                          go_ret
                          exact ⟨rfl, HLW.out.trans (HBL.out.mono hlw)⟩
end
end Go.Proofs.Ytheidhkmmihjlaa
