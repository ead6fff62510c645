/-
  Rl8: Replay: rows behind commits; the program's.
-/
import Derived.Test.YthfcjfhaoabdeaaGreatDoorRz17
import Derived.Test.YthfcjfhaoabdeaaGreatDoorRz15
import Derived.Test.YthfcjfhaoabdeaaGreatDoorRz23
import Derived.Test.YthfcjfhaoabdeaaGreatDoorRz25
import Derived.Test.YthfcjfhaoabdeaaGreatDoorRz20
import Derived.Deep.RegionWith
set_option linter.unusedVariables false
set_option linter.unusedSimpArgs false
namespace Go.Proofs.YthfcjfhaoabdeaaGreatDoor
open Go.RowKit Go.Shelf Go.Maps
open ML (Ro RS Srt Mg strLit setL delL setL_same setL_other strKeyed turned_below)
attribute [local go_sem] Oper.semAt_some

/-- What Replay answers. -/
def RpO (w w' : World) (o : Option (List Ro × Int)) (e : Ending) : Prop := match o with
  | none => e = .returned (.tuple #[.slice none 0 0, .int .i64 0, .int .i64 165])
  | some p => ∃ v, e = .returned (.tuple #[v, .int .i64 p.2, .int .i64 0]) ∧ ML.Wr w' w.heap.size v p.1
/-- Commits that came in. -/
structure Ins (w : World) (bo : Option Addr) (lb cb : Nat) (cs : List Kc) : Prop where
  ks : KS w bo lb cb cs
  ws : ∀ c ∈ cs, WS w c.ao c.len c.cap c.ws
  ok : ∀ c ∈ cs, ∀ x ∈ c.ws, x.ok
  few : lb ≤ 1000000
  cnt : cnt cs ≤ 2000000
theorem Ins.keep {w w' : World} {bo : Option Addr} {lb cb : Nat} {cs : List Kc} (h : Ins w bo lb cb cs) (hb : Below w.heap.size w w') : Ins w' bo lb cb cs :=
  ⟨h.ks.keep hb, fun c hc => (h.ws c hc).keep hb, h.ok, h.few, h.cnt⟩

/-- Rows put into a map. -/
theorem Dw.row {B : Nat} {w0 wr W1 : World} {mb q k : Nat} {L : List Ro} {x : Ro} (h : Dw B w0 wr mb q (L.take k)) (hS : Srt L) (hx : L[k]? = some x) (hxo : x.ok) (hq : q ≤ 100000000) (hB : B ≤ mb) (hBw : B ≤ w0.heap.size) (hm0 : w0.heap.size ≤ wr.heap.size) (hb1 : Below wr.heap.size wr W1) :
    ∃ w4, (Instr.mapUpdate 57 (.map (some mb)) (.string x.k) x.val).run Tryz.prog W1 = .ok () w4 ∧ Dw B w0 w4 mb (q + 1) (L.take (k + 1)) := by
  obtain ⟨f1, hM1, hF1, hB1, hO1⟩ := h
  have hM2 := hM1.same (hb1.block _ hM1.lt)
  obtain ⟨w4, hrun, hM4, ht4⟩ := hM2.store (f' := setL f1 (strLit x.k) x.val) strKeyed Tryz.underlying57 (by unfold maxLen; omega) hxo.key x.val setL_same (fun m hm => setL_other hm)
  refine ⟨w4, hrun, _, hM4, ?_, turned_below ht4 (hB1.trans (hb1.mono (by omega))) hB, fun j hj hn => (turned_block ht4 hn).trans ((hb1.block j (by omega)).trans (hO1 j hj hn))⟩
  rw [ML.take_snoc hx]
  refine Fm.snoc hF1 fun r hr e => ?_
  have hkl := (List.getElem?_eq_some_iff.1 hx).1
  obtain ⟨i, hi, hri⟩ := List.getElem_of_mem hr
  rw [List.length_take] at hi
  have h1 := List.pairwise_iff_getElem.1 hS i k (by omega) hkl (by omega)
  rw [List.getElem_take] at hri
  rw [hri, (List.getElem?_eq_some_iff.1 hx).2, e, ML.nl_irr] at h1
  cases h1
/-- A commit done on a map. -/
theorem Dw.step {B : Nat} {w0 wr W1 W2 : World} {mb q n : Nat} {L M : List Ro} (h : Dw B w0 wr mb q L) (hb1 : Below wr.heap.size wr W1) (h2 : Dw B W1 W2 mb (q + n) M) (hBw : B ≤ wr.heap.size) (hm0 : w0.heap.size ≤ wr.heap.size) : Dw B w0 W2 mb (q + n) M := by
  obtain ⟨f1, hM1, hF1, hB1, hO1⟩ := h
  obtain ⟨f2, hM2, hF2, hB2, hO2⟩ := h2
  have hs := hb1.size
  exact ⟨f2, hM2, hF2, (hB1.trans (hb1.mono hBw)).trans hB2, fun j hj hn => (hO2 j (by omega) hn).trans ((hb1.block j (by omega)).trans (hO1 j hj hn))⟩
end Go.Proofs.YthfcjfhaoabdeaaGreatDoor

/-
  Rm4: The document's Replay.
-/
set_option linter.unusedVariables false
set_option linter.unusedSimpArgs false
namespace Go.Proofs.YthfcjfhaoabdeaaGreatDoor
open Go.RowKit
open ML (Ro RS Rr Srt nless below1 take_snoc rapp rr_nil)
attribute [local go_sem] Oper.semAt_some

/-- What the document's Replay answers. -/
def RrO (w w' : World) (o : Option (List Ro × Int)) (e : Ending) : Prop := match o with
  | none => e = .returned (.tuple #[.slice none 0 0, .int .i64 0, .int .i64 165])
  | some p => ∃ v, e = .returned (.tuple #[v, .int .i64 p.2, .int .i64 0]) ∧ Rr w' w.heap.size v p.1
theorem rplD_rows {L : List Ro} {frm : Int} {cs : List Kc} (h : okTo L L.length = false) : rplD L frm cs = none := by unfold rplD; rw [h]; rfl
theorem rplD_coms {L : List Ro} {frm : Int} {cs : List Kc} (h : allC cs = false) : rplD L frm cs = none := by unfold rplD; rw [h, Bool.and_false]; rfl
theorem rplD_late {L : List Ro} {frm : Int} {cs : List Kc} (h1 : okTo L L.length = true) (h2 : allC cs = true) : rplD L frm cs = (laterG frm [] cs).map fun S => (doneC L S, lastT frm S) := by unfold rplD; rw [h1, h2]; rfl
section
set_option maxHeartbeats 16000000
set_option maxRecDepth 100000
variable {w : World} {ao bo : Option Addr} {len cap lb cb : Nat} {L : List Ro} {cs : List Kc}
theorem rreplay_any (hL : RS w ao len cap L) (hn : ao = none → cap = 0) (hl : len ≤ 1000000) (hI : Ins w bo lb cb cs) (frm : Int) :
    Calls Tryz.prog 6 #[.slice ao len cap, .int .i64 frm, .slice bo lb cb] w fun e w' => RrO w w' (rplD L frm cs) e ∧ Below w.heap.size w w' := by
  obtain rfl := hL.1
  have hll : cs.length = lb := hI.ks.1
  have hlb := hI.few
  have HL := ehide3 hL
  have HI := ehide3 hI
  have HP := ehide3 (fun r w => refRightRow_any (w := w) r)
  have HSV := ehide3 (ML.RS.sv hL hn)
  clear hL hI hn
  go_enter Tryz.func6, Tryz.ntmps6
  go_wp2_with fail
  go_loopw [9] (fun i wr => ∃ k : Nat, k ≤ L.length ∧ i = .int .i64 (k : Nat) ∧ Hid (okTo L k = true) ∧ Hid (Below w.heap.size w wr)) (fun i _ => L.length - (intOf i).toNat)
  case atStart => exact ⟨0, by omega, rfl, ehide3 rfl, ehide3 (Below.refl _ _)⟩
  case round =>
    obtain ⟨k, hk, rfl, HO, HB⟩ := hrel
    have hsz := HB.out.size
    by_cases hlt : k < L.length
    · obtain ⟨x, hx⟩ := some_at rfl hlt
      obtain ⟨g, off, rfl, hgl, hc⟩ := ML.RS.at HL.out (by omega)
      have c0 := (HB.out.cell (p := ⟨g, off + k * 3, none⟩) hgl).trans (hc k x hx).1
      have c1 := (HB.out.cell (p := ⟨g, off + k * 3 + 1, none⟩) hgl).trans (hc k x hx).2.1
      have c2 := (HB.out.cell (p := ⟨g, off + k * 3 + 2, none⟩) hgl).trans (hc k x hx).2.2
      have d1 : (k : Int) < (L.length : Int) := by omega
      have HK := ehide3 (okAt_some hx)
      have HCC := ehide3 hc
      have HX := ehide3 hx
      clear hc hx
      go_wp2_with fail
      refine (HP.out (roW x) _).mono ?_
      rintro e w3 ⟨rfl, hw3⟩
      have HBw := ehide3 (HB.out.trans (hw3.mono hsz))
      clear hw3 c0 c1 c2
      cases hr : rightR (roW x) with
      | false =>
        rw [hr] at HK
        have HN := ehide3 (rplD_rows (frm := frm) (cs := cs) (okTo_bad hlt (by rw [HK.out]; rfl)))
        go_wp2_with fail
        go_quiet (fail)
        go_wp2
        go_ret3
        refine ⟨?_, below_drewN HBw.out _⟩
        rw [HN.out]
        rfl
      | true =>
        rw [hr] at HK
        by_cases hk0 : k = 0
        · have HN := ehide3 (show okTo L (k + 1) = true by rw [okTo_succ, HO.out, HK.out]; simp [hk0])
          have d4 : decide (0 < k) = false := by simp [hk0]
          clear hk0
          go_wp2_with fail
          go_quiet (fail)
          go_wp2_with fail
          go_roundw
          case rel => exact ⟨k + 1, by omega, by go_num, HN, ehide3 (below_drewN HBw.out _)⟩
          case measure => simp [intOf]; omega
        · obtain ⟨y, hy⟩ := some_at (l := L) (i := k - 1) rfl (by omega)
          have y0 := (HBw.out.cell (p := ⟨g, off + (k - 1) * 3, none⟩) hgl).trans (HCC.out (k - 1) y hy).1
          have x0 := (HBw.out.cell (p := ⟨g, off + k * 3, none⟩) hgl).trans (HCC.out k x HX.out).1
          have d2 : 0 < k := by omega
          have d4 : decide (0 < k) = true := by simpa using d2
          have hsub : ((k : Int) - 1) = ((k - 1 : Nat) : Int) := by omega
          have d3 : ((k - 1 : Nat) : Int) < (L.length : Int) := by omega
          rw [hy] at HK
          simp only [hk0, decide_false, Bool.false_or, Bool.true_and, prevOk] at HK
          have hfl := nl_flip x.k y.k
          cases hn : nless y.k x.k with
          | false =>
            rw [hn] at HK hfl
            have t1 : Op.bytesLess y.k.toList x.k.toList = false := hn
            have HN := ehide3 (rplD_rows (frm := frm) (cs := cs) (okTo_bad hlt HK.out))
            go_wp2_with fail
            go_quiet (fail)
            go_wp2
            go_ret3
            refine ⟨?_, below_drewN HBw.out _⟩
            rw [HN.out]
            rfl
          | true =>
            rw [hn] at HK hfl
            have t1 : Op.bytesLess y.k.toList x.k.toList = true := hn
            have HN := ehide3 (show okTo L (k + 1) = true by rw [okTo_succ, HO.out, HK.out]; rfl)
            go_wp2_with fail
            go_quiet (fail)
            go_wp2_with fail
            go_roundw
            case rel => exact ⟨k + 1, by omega, by go_num, HN, ehide3 (below_drewN HBw.out _)⟩
            case measure => simp [intOf]; omega
    · have e1 : k = L.length := by omega
      subst e1
      have d1 : ¬ (L.length : Int) < (L.length : Int) := by omega
      clear hk hlt
      go_wp2_with fail
      go_loopw [11] (fun i wr => ∃ k : Nat, k ≤ lb ∧ i = .int .i64 (k : Nat) ∧ Hid (allC (cs.take k) = true) ∧ Hid (Below w.heap.size w wr)) (fun i _ => lb - (intOf i).toNat)
      case atStart => exact ⟨0, by omega, rfl, ehide3 rfl, HB⟩
      case round =>
        clear HB hsz d1
        obtain ⟨k, hk, rfl, HO2, HB⟩ := hrel
        have hsz := HB.out.size
        by_cases hlt : k < lb
        · obtain ⟨x, hx⟩ := some_at hll hlt
          obtain ⟨g, off, rfl, hgl, hc⟩ := KS.at HI.out.ks (by omega)
          have c0 := (HB.out.cell (p := ⟨g, off + k * 2, none⟩) hgl).trans (hc k x hx).1
          have c1 := (HB.out.cell (p := ⟨g, off + k * 2 + 1, none⟩) hgl).trans (hc k x hx).2
          have d1 : (k : Int) < (lb : Int) := by omega
          have HPC := ehide3 (refRightCommit_any (w := wr) x.t ((HI.out.ws x (List.mem_of_getElem? hx)).keep HB.out))
          have HX := ehide3 hx
          clear hc hx
          go_wp2_with fail
          refine HPC.out.mono ?_
          rintro e w3 ⟨rfl, hw3⟩
          have HBw := ehide3 (HB.out.trans (hw3.mono hsz))
          clear hw3 c0 c1 HPC
          cases hr : rightC ⟨x.t, x.ws⟩ with
          | false =>
            have HN := ehide3 (rplD_coms (L := L) (frm := frm) (allC_bad HX.out hr))
            go_wp2
            go_ret3
            refine ⟨?_, HBw.out⟩
            rw [HN.out]
            rfl
          | true =>
            have HN := ehide3 (show allC (cs.take (k + 1)) = true by rw [allC_take HX.out, HO2.out, hr]; rfl)
            go_wp2_with fail
            go_roundw
            case rel => exact ⟨k + 1, by omega, by go_num, HN, HBw⟩
            case measure => simp [intOf]; omega
        · have e1 : k = lb := by omega
          subst e1
          have d1 : ¬ (k : Int) < (k : Int) := by omega
          have HAL : Hid (allC cs = true) := ehide3 (by have := HO2.out; rwa [← hll, List.take_length] at this)
          have HLA := ehide3 (rlater_any (w := wr) (HI.out.ks.keep HB.out) hlb frm)
          have HRL := ehide3 (rplD_late (frm := frm) HO.out HAL.out)
          clear HO HO2 HAL hk hlt
          go_wp2_with fail
          refine HLA.out.mono ?_
          rintro e w4 ⟨hlo, hb4⟩
          have HB4 := ehide3 (HB.out.trans (hb4.mono hsz))
          clear HLA hb4
          cases hlg : laterG frm [] cs with
          | none =>
            rw [hlg] at hlo HRL
            obtain rfl : e = _ := hlo
            go_wp2
            go_ret3
            refine ⟨?_, HB4.out⟩
            rw [HRL.out]
            rfl
          | some S =>
            rw [hlg] at hlo HRL
            obtain ⟨v4, rfl, hk4⟩ := hlo
            obtain ⟨sa, scap, ev, _, _, sks, _⟩ := hk4.sv
            subst ev
            have HSK := ehide3 sks
            have hpm : S.Perm (due frm cs) := by have := (laterG_some List.Pairwise.nil hlg).2; rwa [List.nil_append] at this
            have hSl : S.length ≤ 1000000 := by
              have h1 := hpm.length_eq
              have h2 : (due frm cs).length ≤ cs.length := List.length_filter_le _ _
              omega
            have hSc : cnt S ≤ 2000000 := by
              have h1 := cnt_perm hpm
              have h2 : cnt (due frm cs) ≤ cnt cs := cnt_sub List.filter_sublist
              have := HI.out.cnt
              omega
            have HMEM : Hid (∀ x ∈ S, x ∈ cs) := ehide3 (fun x hx => (List.mem_filter.1 (hpm.mem_iff.1 hx)).1)
            obtain ⟨v5, w5, hrun5, hown5, hB5, hs5, _⟩ := rapp (w := w4) (B := w4.heap.size) (rr_nil _ _) (Nat.le_refl _) (HSV.out.keep HB4.out) (by simp; omega)
            have HRUN5 := ehide3 hrun5
            have HR5 : Hid (Rr w5 w4.heap.size v5 (doneC L (S.take 0))) := ehide3 (by rw [List.nil_append] at hown5; exact hown5)
            have HB5 : Hid (Below w4.heap.size w4 w5) := ehide3 (hB5 _ _ (Nat.le_refl _) (Below.refl _ _))
            have hw4s := HB4.out.size
            clear hk4 sks hpm hlg hrun5 hown5 hB5 hs5
            go_wp2_with (at_builtin; refine Hid.out ?_)
            refine ehide3 ?_
            refine Lib.wpList_append_run _ rfl _ _ _ _ rfl _ _ rfl rfl v5 w5 HRUN5.out ?_
            go_frame
            clear HRUN5
            go_wp2_with fail
            go_loopw [15, 16, 17] (fun v fr i wr => ∃ k : Nat, k ≤ S.length ∧ i = .int .i64 (k : Nat) ∧ fr = .int .i64 (lastT frm (S.take k)) ∧ Hid (Rr wr w4.heap.size v (doneC L (S.take k))) ∧ Hid (Below w4.heap.size w4 wr)) (fun _ _ i _ => S.length - (intOf i).toNat)
            case atStart => exact ⟨0, by omega, rfl, rfl, HR5, HB5⟩
            case round =>
              clear HR5 HB5 HB hsz d1
              obtain ⟨j, hj, rfl, rfl, HR, HB⟩ := hrel
              have hsz := HB.out.size
              by_cases hlt : j < S.length
              · obtain ⟨x, hx⟩ := some_at rfl hlt
                have hxm := HMEM.out x (List.mem_of_getElem? hx)
                obtain ⟨g, off, rfl, hgl, hc⟩ := KS.at HSK.out (by omega)
                have HC : Hid (∀ u, Below w4.heap.size w4 u → u.cell? ⟨g, off + j * 2, none⟩ = some (.int .i64 x.t) ∧ u.cell? ⟨g, off + j * 2 + 1, none⟩ = some (.slice x.ao x.len x.cap)) := ehide3 (fun u hu => ⟨(hu.cell (p := ⟨g, off + j * 2, none⟩) hgl).trans (hc j x hx).1, (hu.cell (p := ⟨g, off + j * 2 + 1, none⟩) hgl).trans (hc j x hx).2⟩)
                have HWS : Hid (∀ u, Below w4.heap.size w4 u → WS u x.ao x.len x.cap x.ws) := ehide3 (fun u hu => (HI.out.ws x hxm).keep (HB4.out.trans (hu.mono hw4s)))
                have hxl : x.ws.length = x.len := (HI.out.ws x hxm).1
                have hxmx : (x.len : Int) ≤ 9223372036854775807 := by have := (HI.out.ws x hxm).2.1; have := (HI.out.ws x hxm).2.2.1; unfold maxLen at this; omega
                have d1 : (j : Int) < (S.length : Int) := by omega
                have HLT := ehide3 (lastT_take (frm := frm) hx)
                have HDT := ehide3 (doneC_take (L := L) hx)
                have hMl : (doneC L (S.take j)).length + x.ws.length ≤ 10000000 := by
                  have h1 := doneC_len (S.take j) L
                  have h2 : cnt (S.take (j + 1)) = cnt (S.take j) + x.ws.length := by rw [ML.take_snoc hx, cnt_append]; simp [cnt]
                  have h3 := cnt_take S (j + 1)
                  omega
                clear hc hx hxm
                go_wp2_with fail
                go_loopw [15, 18] (fun v i wr => ∃ n : Nat, n ≤ x.len ∧ i = .int .i64 (n : Nat) ∧ Hid (Rr wr w4.heap.size v (doneW x.t (doneC L (S.take j)) (x.ws.take n))) ∧ Hid (Below w4.heap.size w4 wr)) (fun _ i _ => x.len - (intOf i).toNat)
                case atStart => exact ⟨0, by omega, rfl, HR, HB⟩
                case round =>
                  clear HR HB hsz
                  obtain ⟨n, hn, rfl, HR, HB⟩ := hrel
                  have hsz := HB.out.size
                  obtain ⟨c0, c1⟩ := HC.out wr HB.out
                  by_cases hln : n < x.len
                  · obtain ⟨y, hy⟩ := some_at hxl hln
                    obtain ⟨g2, off2, e2, hgl2, hc2⟩ := WS.at (HWS.out wr HB.out) (by omega)
                    rw [e2] at c1
                    have f0 := (hc2 n y hy).1
                    have f1 := (hc2 n y hy).2.1
                    have f2 := (hc2 n y hy).2.2
                    have d2 : (n : Int) < (x.len : Int) := by omega
                    have hlw : (doneW x.t (doneC L (S.take j)) (x.ws.take n)).length ≤ 10000000 := by
                      have h1 := doneW_len (t := x.t) (x.ws.take n) (doneC L (S.take j))
                      rw [List.length_take] at h1
                      omega
                    have HDO : Hid (∀ u, (∃ q, u = wr.drewN q) → Calls Tryz.prog 28 #[_, .agg #[.string y.key, .string y.val, .bool y.gone], .int .i64 x.t] u fun e w' => ∃ v', e = .returned v' ∧ Hid (Rr w' w4.heap.size v' (doneW x.t (doneC L (S.take j)) (x.ws.take (n + 1)))) ∧ Hid (Below w4.heap.size w4 w')) := ehide3 (fun u hu => by
                      obtain ⟨q, rfl⟩ := hu
                      refine (rdone_any (w := wr.drewN q) (B := w4.heap.size) HR.out hsz hlw y x.t).mono ?_
                      rintro e w' ⟨v', rfl, hr, hb⟩
                      exact ⟨v', rfl, ehide3 (by rw [doneW_take hy]; exact hr), ehide3 ((below_drewN HB.out q).trans (hb.mono hsz))⟩)
                    clear hc2 hy HR
                    go_wp2_with fail
                    go_region_with (go_at_call 28; refine (HDO.out _ (by first | exact ⟨_, rfl⟩ | exact ⟨0, rfl⟩)).mono ?_; rintro e w7 ⟨v7, rfl, HR7, HB7⟩)
                    all_goals
                      go_wp2_with fail
                      go_roundw
                      case rel => exact ⟨n + 1, by omega, by go_num, HR7, HB7⟩
                      case measure => simp [intOf]; omega
                  · have e1 : n = x.len := by omega
                    subst e1
                    have d2 : ¬ (x.len : Int) < (x.len : Int) := by omega
                    have HR9 : Hid (Rr wr w4.heap.size _ (doneC L (S.take (j + 1)))) := ehide3 (by have := HR.out; rw [← hxl, List.take_length] at this; rw [HDT.out]; exact this)
                    clear HR HDT
                    go_wp2_with fail
                    go_roundw
                    case rel => exact ⟨j + 1, by omega, by go_num, by rw [HLT.out], HR9, HB⟩
                    case measure => simp [intOf]; omega
              · have e1 : j = S.length := by omega
                subst e1
                have d1 : ¬ (S.length : Int) < (S.length : Int) := by omega
                rw [List.take_length] at HR
                rw [List.take_length]
                have HB9 := ehide3 (HB4.out.trans (HB.out.mono hw4s))
                have HR9 : Hid (Rr wr w.heap.size _ (doneC L S)) := ehide3 (Go.Joins.ownsRow_le HR.out hw4s)
                clear HR
                go_wp2
                go_ret3
                refine ⟨?_, HB9.out⟩
                rw [HRL.out]
                exact ⟨_, rfl, HR9.out⟩
end
end Go.Proofs.YthfcjfhaoabdeaaGreatDoor

/-
  Rl9: Replay, whole; the program's.
-/
set_option linter.unusedVariables false
set_option linter.unusedSimpArgs false
namespace Go.Proofs.YthfcjfhaoabdeaaGreatDoor
open Go.RowKit Go.Shelf Go.Maps
open ML (Ro RS Srt Mg strLit setL delL setL_same setL_other strKeyed turned_below)
attribute [local go_sem] Oper.semAt_some

theorem rplD_not {L : List Ro} {frm : Int} {cs ys : List Kc} (hp : ys.Perm (due frm cs)) (hs : ys.Pairwise fun a b => a.t ≤ b.t) (h : (okTo L L.length && allC cs && tmTo ys ys.length) = false) : rplD L frm cs = none := by
  unfold rplD
  rw [later_tm hp hs]
  cases h1 : okTo L L.length <;> cases h2 : allC cs <;> cases h3 : tmTo ys ys.length <;> simp_all
theorem rplD_yes {L : List Ro} {frm : Int} {cs ys : List Kc} (hp : ys.Perm (due frm cs)) (hs : ys.Pairwise fun a b => a.t ≤ b.t) (h : (okTo L L.length && allC cs && tmTo ys ys.length) = true) : rplD L frm cs = some (doneC L ys, lastT frm ys) ∧ Srt L := by
  simp only [Bool.and_eq_true] at h
  refine ⟨?_, okTo_srt h.1.1⟩
  unfold rplD
  rw [later_tm hp hs, h.1.1, h.1.2, h.2]
  rfl
section
set_option maxHeartbeats 16000000
set_option maxRecDepth 100000
variable {w : World} {ao bo : Option Addr} {len cap lb cb : Nat} {L : List Ro} {cs : List Kc}
theorem replay_any (hL : RS w ao len cap L) (oL : ∀ r ∈ L, r.ok) (hl : len ≤ 1000000) (hI : Ins w bo lb cb cs) (frm : Int) (hE : Ee w) :
    Calls Tryz.prog 5 #[.slice ao len cap, .int .i64 frm, .slice bo lb cb] w fun e w' => RpO w w' (rplD L frm cs) e ∧ Below w.heap.size w w' := by
  obtain rfl := hL.1
  have hpos : 0 < w.heap.size := by
    rcases Nat.eq_zero_or_pos w.heap.size with h0 | h
    · unfold Ee at hE; simp [World.cell?, h0] at hE
    · exact h
  obtain ⟨W0, hW0⟩ : ∃ W0, W0 = (w.alloc (.cells #[.slice ao L.length cap] 22)).alloc (.cells #[.slice bo lb cb] 23) := ⟨_, rfl⟩
  have hb0 : Below w.heap.size w W0 := by rw [hW0]; exact (ML.below1 w _).alloc (by simp) _
  have hs0 : W0.heap.size = w.heap.size + 2 := by rw [hW0]; simp
  have x0 : W0.cell? ⟨w.heap.size, 0, none⟩ = some (.slice ao L.length cap) := by
    rw [hW0, World.cell?_alloc_lt _ _ ⟨w.heap.size, 0, none⟩ (by simp), Go.Joins.cell_of_block (heap_alloc_new _ _)]; rfl
  have x1 : W0.cell? ⟨w.heap.size + 1, 0, none⟩ = some (.slice bo lb cb) := by
    rw [hW0, World.cell?_alloc_at _ _ _ _ (by simp)]; rfl
  have HDU := ehide3 (dueAbove_any (hI.keep hb0).ks hI.few frm)
  have HL := ehide3 hL
  have HOL := ehide3 oL
  have HI := ehide3 hI
  have HE := ehide3 hE
  have HB0 := ehide3 hb0
  have z0 := x0
  have z1 := x1
  rw [hW0] at HDU z0 z1
  clear hL oL hI hE
  go_enter Tryz.func5, Tryz.ntmps5
  go_wp2_with fail
  refine HDU.out.mono ?_
  rintro e w1 ⟨v1, ys, rfl, hp, hs, hk, hb1⟩
  rw [← hW0] at hb1
  rw [← hW0] at hk
  obtain ⟨dao, dcap, rfl, dks, _⟩ := hk
  have HP := ehide3 hp
  have HS := ehide3 hs
  have hs1 := hb1.size
  have hBw1 : Below w.heap.size w w1 := hb0.trans (hb1.mono (by omega))
  obtain ⟨W2, hW2⟩ : ∃ W2, W2 = w1.alloc (.cells #[.slice dao ys.length dcap] 23) := ⟨_, rfl⟩
  have hb2 : Below w1.heap.size w1 W2 := by rw [hW2]; exact ML.below1 _ _
  have hs2 : W2.heap.size = w1.heap.size + 1 := by rw [hW2]; simp
  have hBw2 : Below w.heap.size w W2 := hBw1.trans (hb2.mono (by omega))
  have u0 : W2.cell? ⟨w.heap.size, 0, none⟩ = some (.slice ao L.length cap) := (hb2.cell (p := ⟨w.heap.size, 0, none⟩) (by show w.heap.size < _; omega)).trans ((hb1.cell (p := ⟨w.heap.size, 0, none⟩) (by show w.heap.size < _; omega)).trans x0)
  have u1 : W2.cell? ⟨w.heap.size + 1, 0, none⟩ = some (.slice bo lb cb) := (hb2.cell (p := ⟨w.heap.size + 1, 0, none⟩) (by show w.heap.size + 1 < _; omega)).trans ((hb1.cell (p := ⟨w.heap.size + 1, 0, none⟩) (by show w.heap.size + 1 < _; omega)).trans x1)
  have u2 : W2.cell? ⟨w1.heap.size, 0, none⟩ = some (.slice dao ys.length dcap) := by rw [hW2, Go.Joins.cell_of_block (heap_alloc_new _ _)]; rfl
  have HDK := ehide3 dks
  have HFI : Hid (∀ T, Calls Tryz.prog 12 #[.slice (some ⟨w1.heap.size + 1, 0, none⟩) 3 3] (W2.alloc (.cells #[.func (.func 13) #[] #[.pointer (some ⟨w.heap.size, 0, none⟩)], .func (.func 15) #[] #[.pointer (some ⟨w.heap.size + 1, 0, none⟩)], .func (.func 17) #[] #[.pointer (some ⟨w1.heap.size, 0, none⟩)]] T)) fun e w' => e = .returned (fv (okTo L L.length && allC cs && tmTo ys ys.length)) ∧ Below W2.heap.size W2 w') := ehide3 (fun T => by
    have hb3 : Below W2.heap.size W2 (W2.alloc (.cells #[.func (.func 13) #[] #[.pointer (some ⟨w.heap.size, 0, none⟩)], .func (.func 15) #[] #[.pointer (some ⟨w.heap.size + 1, 0, none⟩)], .func (.func 17) #[] #[.pointer (some ⟨w1.heap.size, 0, none⟩)]] T)) := ML.below1 _ _
    have stable : ∀ u, Below (W2.heap.size + 1) (W2.alloc (.cells #[.func (.func 13) #[] #[.pointer (some ⟨w.heap.size, 0, none⟩)], .func (.func 15) #[] #[.pointer (some ⟨w.heap.size + 1, 0, none⟩)], .func (.func 17) #[] #[.pointer (some ⟨w1.heap.size, 0, none⟩)]] T)) u → Below W2.heap.size W2 u := fun u hu => hb3.trans (hu.mono (by omega))
    have es : (W2.alloc (.cells #[.func (.func 13) #[] #[.pointer (some ⟨w.heap.size, 0, none⟩)], .func (.func 15) #[] #[.pointer (some ⟨w.heap.size + 1, 0, none⟩)], .func (.func 17) #[] #[.pointer (some ⟨w1.heap.size, 0, none⟩)]] T)).heap.size = W2.heap.size + 1 := by simp
    refine (firstOf3_any (g := w1.heap.size + 1) (p1 := w.heap.size) (p2 := w.heap.size + 1) (p3 := w1.heap.size) (b1 := okTo L L.length) (b2 := allC cs) (b3 := tmTo ys ys.length) (by rw [es]; omega) ?_ ?_ ?_ ?_ ?_ ?_).mono ?_
    · rw [← hs2, Go.Joins.cell_of_block (heap_alloc_new _ _)]; rfl
    · rw [← hs2, Go.Joins.cell_of_block (heap_alloc_new _ _)]; rfl
    · rw [← hs2, Go.Joins.cell_of_block (heap_alloc_new _ _)]; rfl
    · intro u hu
      rw [es] at hu
      have hu2 := stable u hu
      have hbu := hBw2.trans (hu2.mono (by omega))
      exact rep1_any ((hu2.cell (p := ⟨w.heap.size, 0, none⟩) (by show w.heap.size < _; omega)).trans u0) (HL.out.keep hbu)
    · intro u hu
      rw [es] at hu
      have hu2 := stable u hu
      have hbu := hBw2.trans (hu2.mono (by omega))
      exact rep2_any ((hu2.cell (p := ⟨w.heap.size + 1, 0, none⟩) (by show w.heap.size + 1 < _; omega)).trans u1) (HI.out.ks.keep hbu) (fun c hc => (HI.out.ws c hc).keep hbu)
    · intro u hu
      rw [es] at hu
      have hu2 := stable u hu
      exact rep3_any ((hu2.cell (p := ⟨w1.heap.size, 0, none⟩) (by show w1.heap.size < _; omega)).trans u2) (HDK.out.keep (hb2.trans (hu2.mono (by omega))))
    · rintro e w' ⟨rfl, hw'⟩
      rw [es] at hw'
      exact ⟨rfl, stable _ hw'⟩)
  have HBw2 := ehide3 hBw2
  have HB2 := ehide3 hb2
  rw [hW2] at HFI
  clear hp hs hb1 hb2 hBw1 hBw2 dks HDU z0 z1 x0 x1 hb0
  subst hW0
  have HU0 := ehide3 u0
  have HU1 := ehide3 u1
  have HU2 := ehide3 u2
  clear u0 u1
  rw [hW2] at u2
  have HW2 := ehide3 hW2
  clear hW2
  go_wp2_with fail
  refine (HFI.out _).mono ?_
  rintro e w4 ⟨rfl, hb4⟩
  rw [← HW2.out] at hb4
  have hs4 := hb4.size
  have HB4 := ehide3 hb4
  have hBw4 := HBw2.out.trans (hb4.mono (by omega))
  have HBw4 := ehide3 hBw4
  have hE4 : Ee w4 := (hBw4.cell (p := ⟨0, 0, none⟩) hpos).trans HE.out
  have HNF := ehide3 (numberOf_flt 165 w4 hE4)
  have HNN := ehide3 (numberOf_nil w4)
  clear HFI hb4 hBw4 hE4 u2
  cases hall : (okTo L L.length && allC cs && tmTo ys ys.length) with
  | false =>
    have HN := ehide3 (rplD_not HP.out HS.out hall)
    clear hall HNN
    rw [fv_bad]
    go_wp2_with fail
    refine HNF.out.mono ?_
    rintro e w5 ⟨rfl, hb5⟩
    have HB5 := ehide3 (HBw4.out.trans (hb5.mono (by omega)))
    clear HNF hb5
    go_wp2
    go_ret3
    refine ⟨?_, HB5.out⟩
    rw [HN.out]
    rfl
  | true =>
    have HN := ehide3 (rplD_yes HP.out HS.out hall)
    clear hall HNF
    rw [fv_nil]
    go_wp2_with fail
    refine HNN.out.mono ?_
    rintro e w5 ⟨rfl, hb5⟩
    have hs5 := hb5.size
    have HB5 := ehide3 (HB4.out.trans (hb5.mono (by omega)))
    have HBw5 := ehide3 (HBw4.out.trans (hb5.mono (by omega)))
    have hmm : (Instr.makeMap 57 none).run Tryz.prog w5 = .ok (.map (some w5.heap.size)) (w5.alloc (.map #[] 0)) := rfl
    have v0 : (w5.alloc (.map #[] 0)).cell? ⟨w.heap.size, 0, none⟩ = some (.slice ao L.length cap) := by
      rw [World.cell?_alloc_lt _ _ ⟨w.heap.size, 0, none⟩ (by show w.heap.size < _; omega)]
      exact (HB5.out.cell (p := ⟨w.heap.size, 0, none⟩) (by show w.heap.size < _; omega)).trans HU0.out
    have v2 : w5.cell? ⟨w1.heap.size, 0, none⟩ = some (.slice dao ys.length dcap) := (HB5.out.cell (p := ⟨w1.heap.size, 0, none⟩) (by show w1.heap.size < _; omega)).trans HU2.out
    have HV2 := ehide3 v2
    clear HNN hb5 v2
    go_wp2_with fail
    go_loopw [33] (fun i wr => ∃ k : Nat, k ≤ L.length ∧ i = .int .i64 (k : Nat) ∧ Hid (Dw w5.heap.size w5 wr w5.heap.size k (L.take k))) (fun i _ => L.length - (intOf i).toNat)
    case atStart => exact ⟨0, by omega, rfl, ehide3 ⟨fun _ => none, Mg.made, Fm.nil, ML.below1 _ _, fun j hj _ => Below.heap_alloc _ _ _ hj⟩⟩
    case round =>
      clear hmm v0
      obtain ⟨k, hk, rfl, HD⟩ := hrel
      have hszr : w5.heap.size ≤ wr.heap.size := by obtain ⟨_, _, _, h, _⟩ := HD.out; exact h.size
      have HBr : Hid (Below w.heap.size w wr) := ehide3 (by obtain ⟨_, _, _, h, _⟩ := HD.out; exact HBw5.out.trans (h.mono (by omega)))
      by_cases hlt : k < L.length
      · obtain ⟨x, hx⟩ := some_at rfl hlt
        have hxo := HOL.out x (List.mem_of_getElem? hx)
        obtain ⟨g, off, rfl, hgl, hc⟩ := ML.RS.at HL.out (by omega)
        have c0 := (HBr.out.cell (p := ⟨g, off + k * 3, none⟩) hgl).trans (hc k x hx).1
        have c1 := (HBr.out.cell (p := ⟨g, off + k * 3 + 1, none⟩) hgl).trans (hc k x hx).2.1
        have c2 := (HBr.out.cell (p := ⟨g, off + k * 3 + 2, none⟩) hgl).trans (hc k x hx).2.2
        have d1 : (k : Int) < (L.length : Int) := by omega
        obtain ⟨w6, hrun, hD6⟩ := Dw.row (W1 := wr.alloc (.cells #[.string x.k, .string x.v, .int .i64 x.t] 33)) HD.out HN.out.2 hx hxo (by omega) (Nat.le_refl _) (Nat.le_refl _) hszr (ML.below1 _ _)
        have NX := ehide3 hD6
        clear hc hx hxo hD6 HD
        go_wp2
        go_roundw
        case rel => exact ⟨k + 1, by omega, by go_num, NX⟩
        case measure => simp [intOf]; omega
      · have e1 : k = L.length := by omega
        subst e1
        have d1 : ¬ (L.length : Int) < (L.length : Int) := by omega
        have t2 : wr.cell? ⟨w1.heap.size, 0, none⟩ = some (.slice dao ys.length dcap) := by
          obtain ⟨_, _, _, h, _⟩ := HD.out
          exact (h.cell (p := ⟨w1.heap.size, 0, none⟩) (by show w1.heap.size < _; omega)).trans HV2.out
        have HDS : Hid (Dw w5.heap.size w5 wr w5.heap.size (L.length + cnt (ys.take 0)) (doneC L (ys.take 0))) := ehide3 (by have := HD.out; rw [List.take_length] at this; exact this)
        clear HD
        go_wp2_with fail
        go_loopw [1, 44] (fun fr i wr => ∃ k : Nat, k ≤ ys.length ∧ i = .int .i64 (k : Nat) ∧ fr = .int .i64 (lastT frm (ys.take k)) ∧ Hid (Dw w5.heap.size w5 wr w5.heap.size (L.length + cnt (ys.take k)) (doneC L (ys.take k)))) (fun _ i _ => ys.length - (intOf i).toNat)
        case atStart => exact ⟨0, by omega, rfl, rfl, HDS⟩
        case round =>
          clear HDS HBr hszr
          obtain ⟨k, hk, rfl, rfl, HD⟩ := hrel
          have hszr : w5.heap.size ≤ wr.heap.size := by obtain ⟨_, _, _, h, _⟩ := HD.out; exact h.size
          have hmlt : w5.heap.size < wr.heap.size := by obtain ⟨_, h, _⟩ := HD.out; exact h.lt
          have hcn : cnt ys ≤ 2000000 := by
            have h1 := cnt_perm HP.out
            have h2 : cnt (due frm cs) ≤ cnt cs := cnt_sub List.filter_sublist
            have := HI.out.cnt
            omega
          have hcl : ys.length ≤ 1000000 := by
            have h1 := HP.out.length_eq
            have h2 : (due frm cs).length ≤ cs.length := List.length_filter_le _ _
            have h3 := HI.out.ks.1
            have := HI.out.few
            omega
          by_cases hlt : k < ys.length
          · obtain ⟨x, hx⟩ := some_at rfl hlt
            have hxm : x ∈ cs := (List.mem_filter.1 (HP.out.mem_iff.1 (List.mem_of_getElem? hx))).1
            have hB5r : Below w5.heap.size w5 wr := by obtain ⟨_, _, _, h, _⟩ := HD.out; exact h
            have hks : KS w5 dao ys.length dcap ys := HDK.out.keep (HB2.out.trans (HB5.out.mono (by omega)))
            obtain ⟨g, off, rfl, hgl, hc⟩ := KS.at hks (by omega)
            have c0 := (hB5r.cell (p := ⟨g, off + k * 2, none⟩) hgl).trans (hc k x hx).1
            have c1 := (hB5r.cell (p := ⟨g, off + k * 2 + 1, none⟩) hgl).trans (hc k x hx).2
            have d1 : (k : Int) < (ys.length : Int) := by omega
            obtain ⟨W1, hW1⟩ : ∃ W1, W1 = wr.alloc (.cells #[.int .i64 x.t, .slice x.ao x.len x.cap] 27) := ⟨_, rfl⟩
            have hb1 : Below wr.heap.size wr W1 := by rw [hW1]; exact ML.below1 _ _
            have hs1' : W1.heap.size = wr.heap.size + 1 := by rw [hW1]; simp
            have hbx : W1.heap[wr.heap.size]? = some (.cells #[.int .i64 x.t, .slice x.ao x.len x.cap] 27 (0, 0)) := by rw [hW1]; exact heap_alloc_new _ _
            have hBw1 : Below w.heap.size w W1 := HBw5.out.trans ((hB5r.trans (hb1.mono hszr)).mono (by omega))
            have hcx : cnt (ys.take (k + 1)) = cnt (ys.take k) + x.ws.length := by rw [ML.take_snoc hx, cnt_append]; simp [cnt]
            have hxl : x.ws.length = x.len := (HI.out.ws x hxm).1
            have hct := cnt_take ys (k + 1)
            have HDO : Hid (Calls Tryz.prog 20 #[.map (some w5.heap.size), .agg #[.int .i64 x.t, .slice x.ao x.len x.cap]] W1 fun e w' => e = .returned (.tuple #[]) ∧ Dw w5.heap.size W1 w' w5.heap.size (L.length + cnt (ys.take k) + x.len) (doneW x.t (doneC L (ys.take k)) x.ws)) := ehide3 (by
              obtain ⟨f1, hM1, hF1, _, _⟩ := HD.out
              exact do_any (hM1.same (hb1.block _ hM1.lt)) hF1 (doneC_srt HN.out.2) x.t (fun u hu => (HI.out.ws x hxm).keep (hBw1.trans (hu.mono (by omega)))) (HI.out.ok x hxm) (by omega) (Nat.le_refl _) (by omega))
            have NX : Hid (∀ w', Dw w5.heap.size W1 w' w5.heap.size (L.length + cnt (ys.take k) + x.len) (doneW x.t (doneC L (ys.take k)) x.ws) → Dw w5.heap.size w5 w' w5.heap.size (L.length + cnt (ys.take (k + 1))) (doneC L (ys.take (k + 1))) ∧ w'.cell? ⟨wr.heap.size, 0, none⟩ = some (.int .i64 x.t)) := ehide3 (fun w' h => by
              refine ⟨?_, ?_⟩
              · rw [doneC_take hx, hcx, hxl, ← Nat.add_assoc]
                exact Dw.step HD.out hb1 h hszr hszr
              · obtain ⟨_, _, _, _, hO⟩ := h
                have := hO wr.heap.size (by omega) (by omega)
                rw [Go.Joins.cell_of_block (this.trans hbx)]
                rfl)
            have HLT := ehide3 (lastT_take (frm := frm) hx)
            rw [hW1] at HDO
            clear hc hx hxm hB5r hks hb1 hbx hBw1 hcx hxl hct HD hs1'
            go_wp2_with fail
            refine HDO.out.mono ?_
            rintro e w7 ⟨rfl, hD7⟩
            rw [← hW1] at hD7
            obtain ⟨hD8, hc8⟩ := NX.out w7 hD7
            have HD8 := ehide3 hD8
            clear hD7 hD8 NX HDO hW1 c0 c1
            go_wp2
            go_roundw
            case rel => exact ⟨k + 1, by omega, by go_num, by rw [HLT.out], HD8⟩
            case measure => simp [intOf]; omega
          · have e1 : k = ys.length := by omega
            subst e1
            have d1 : ¬ (ys.length : Int) < (ys.length : Int) := by omega
            have HDE : Hid (Dw w5.heap.size w5 wr w5.heap.size (L.length + cnt ys) (doneC L ys)) := ehide3 (by have := HD.out; rwa [List.take_length] at this)
            rw [List.take_length]
            have HV := ehide3 (ML.values_any (some w5.heap.size) wr)
            obtain ⟨W1, hW1⟩ : ∃ W1, W1 = wr.alloc (.cells #[.map (some w5.heap.size)] 57) := ⟨_, rfl⟩
            have hb1 : Below wr.heap.size wr W1 := by rw [hW1]; exact ML.below1 _ _
            have hls : (doneC L ys).length ≤ 10000000 := by have := doneC_len ys L; omega
            have HSO : Hid (Calls Tryz.prog 21 #[.func (.func 42) #[] #[.pointer (some ⟨wr.heap.size, 0, none⟩)], .func (.func 23) #[] #[]] W1 fun e w' => ∃ v, e = .returned v ∧ ML.Wr w' w.heap.size v (doneC L ys) ∧ Below w.heap.size w w') := ehide3 (by
              obtain ⟨f1, hM1, hF1, hB1, _⟩ := HDE.out
              have hSd := doneC_srt (cs := ys) HN.out.2
              refine (ML.sortedFunc_any wr.heap.size w5.heap.size (L.length + cnt ys) (Fm.fst hSd hF1) W1 (by rw [hW1]; simp) (by rw [hW1, Go.Joins.cell_of_block (heap_alloc_new _ _)]; rfl) (hM1.same (hb1.block _ hM1.lt)) (by omega) (fun xs hx => Nat.le_trans (ML.allR_len hx) hls)).mono ?_
              rintro e w8 ⟨v, zs, rfl, hz1, hz2, hz3, hb8⟩
              obtain rfl := srt_one hSd hz1 hz2
              have hsW := hb1.size
              refine ⟨v, rfl, ?_, HBw5.out.trans (((hB1.trans (hb1.mono hszr)).trans (hb8.mono (by omega))).mono (by omega))⟩
              obtain ⟨ao6, c6, e6, r6, t6⟩ := hz3
              exact ⟨ao6, c6, e6, r6, fun q => by
                obtain ⟨g6, e7, hg6, ht6⟩ := t6 q
                exact ⟨g6, e7, by omega, ht6⟩⟩)
            clear HD HDE hb1 hls
            go_wp2_with fail
            refine HV.out.mono ?_
            rintro e w6 ⟨rfl, rfl⟩
            rw [hW1] at HSO
            clear hW1 HV
            go_wp2_with fail
            refine HSO.out.mono ?_
            rintro e w8 ⟨v8, rfl, hw8, hb8⟩
            have HW8 := ehide3 hw8
            have HB8 := ehide3 hb8
            obtain ⟨ao8, c8, e8, _, _⟩ := hw8
            subst e8
            clear hb8 HSO
            go_wp2
            go_ret3
            refine ⟨?_, HB8.out⟩
            rw [HN.out.1]
            exact ⟨_, rfl, HW8.out⟩
end
end Go.Proofs.YthfcjfhaoabdeaaGreatDoor
