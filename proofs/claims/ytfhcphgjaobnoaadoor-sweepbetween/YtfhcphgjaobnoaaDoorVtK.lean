/-
  VsK: SweepBetween: whatever is pushed in between, nothing is taken away that is seen at the mark or later. (Printed by gen_vsj.py.)
-/
import Derived.Test.YtfhcphgjaobnoaaDoorVtH
set_option linter.unusedVariables false
set_option linter.unusedSimpArgs false
namespace Go.Proofs.YtfhcphgjaobnoaaDoor

section
open Go.RowKit Go.Maps

section
variable {w : World}
set_option maxRecDepth 100000 in
set_option maxHeartbeats 16000000 in
theorem sweepBetween_walk {ao po : Option Addr} {len cap pl pc : Nat} {gs : List GpR} {ps : List Int} (mark : Int) (hT : Tab w) (hs : Seq 1 GpR.cells w ao len cap gs) (hgs : ∀ g ∈ gs, Seq 1 ih w g.o g.l g.c g.xs) (hps : Seq 1 ih w po pl pc ps) :
    Calls Tryd.prog 6 #[.slice ao len cap, .int .i64 mark, .slice po pl pc] w fun e w' => e = .returned (.bool true) ∧ Below w.heap.size w w' := by
  have HPS := hide2 hps
  have hpcap := hps.2.1
  have hpmax := hps.2.2.1
  unfold maxLen at hpmax
  clear hps
  have HT := hide2 hT
  have hz0 := hT.1
  have HSH := hide2 (vshown_any hT)
  obtain ⟨i0, hi0, z0, z1, z2⟩ := info_parts infoH
  obtain ⟨ic, hic, y0, y1, y2⟩ := info_parts infoCh
  have hcap := hs.2.1
  have hmax := hs.2.2.1
  unfold maxLen at hmax
  have HS := hide2 hs
  have HG := hide2 hgs
  clear hT hs hgs
  go_enter Tryd.func6, Tryd.ntmps6
  go_wp2_with fail
  refine HSH.out.mono ?_
  rintro e w0 ⟨rfl, hb0⟩
  have HB0 := hide2 hb0
  have hsz0 := hb0.size
  have hw0 : 0 < w0.heap.size := by omega
  clear HSH hb0
  go_wp2
  go_loopw [9, 8] (fun a v wr => ∃ (i : Nat) (cs : List ChR), i ≤ len ∧ i ≤ 6 ∧ a = .int .i64 i ∧ cs.length = i ∧ Hid (wr.ownsRow w0.heap.size 48 2 v i (flatC cs)) ∧ Hid (∀ c ∈ cs, Cmd wr w0.heap.size c) ∧ Hid (Below w0.heap.size w0 wr)) (fun a _ _ => 6 - (intOf a).toNat)
  case atStart => exact ⟨0, [], by omega, by omega, rfl, rfl, hide2 ⟨rfl, .inl ⟨rfl, rfl⟩⟩, hide2 (by intro c hc; cases hc), hide2 (Below.refl _ _)⟩
  case round =>
    obtain ⟨i, cs, hi1, hi2, rfl, hci, OR, CM, BL⟩ := hrel
    have hszr := BL.out.size
    by_cases hend : i < len ∧ i < 6
    · have hil : (i : Int) < (len : Int) := by omega
      have hi20 : (i : Int) < 6 := by omega
      have hbw : Below w.heap.size w wr := HB0.out.trans ⟨BL.out.os, BL.out.tape, BL.out.output, BL.out.size, fun j hj => BL.out.block j (by omega)⟩
      obtain ⟨b, off, g, eao, hbl, hgc, hc0⟩ := seq_g (HS.out.keep hbw) hend.1
      subst eao
      obtain ⟨va, vcp, ev⟩ : ∃ a c, _ = Value.slice a i c := by
        obtain ⟨a, c, e, _⟩ := crow_seq OR.out hci
        exact ⟨a, c, e⟩
      subst ev
      have HOR := hide2 (ordered_any ((HG.out g (List.mem_of_getElem? hgc)).keep hbw))
      have HCI := hide2 hci
      clear hgc hbw hci
      go_wp2_with fail
      refine HOR.out.mono ?_
      rintro e x1 ⟨c0, c1, rfl, bs, es, r0, r1, oe, hb1⟩
      have hs1 := hb1.size
      obtain ⟨a0, p0, ec0⟩ := r0.form
      obtain ⟨a1, p1, ec1⟩ := r1.form
      subst ec0 ec1
      obtain ⟨cn, hcn⟩ : ∃ cn : ChR, cn = ⟨a0, bs.length, p0, a1, es.length, p1, bs, es⟩ := ⟨_, rfl⟩
      have hce : cn.cells = [.slice a0 bs.length p0, .slice a1 es.length p1] := by rw [hcn]; rfl
      have hlb := oe.lb
      have hcm : Cmd x1 w0.heap.size cn := by
        rw [hcn]
        exact ⟨ur_down r0 hszr, ur_down r1 hszr, by show OrdE bs es bs.length; rw [hlb]; exact oe, by show bs.length ≤ 30; rw [hlb]; omega⟩
      have HO3 : Hid (x1.ownsRow w0.heap.size 48 2 (.slice va i vcp) i (flatC cs)) := hide2 (hrow_fr OR.out (Fr.below (F := fun _ => False) hb1) (fun _ _ => id))
      have HCM1 : Hid (∀ c ∈ cs, Cmd x1 w0.heap.size c) := hide2 (fun c hc => (CM.out c hc).fr (Fr.below (F := fun _ => False) hb1) (fun _ _ _ _ => id))
      have HNEW := hide2 (cells_new x1 #[.slice a0 bs.length p0, .slice a1 es.length p1] 48)
      have HCN := hide2 hcm
      have HCE := hide2 hce
      have HB1 : Hid (Below w0.heap.size w0 x1) := hide2 (BL.out.trans ⟨hb1.os, hb1.tape, hb1.output, hb1.size, fun j hj => hb1.block j (by omega)⟩)
      clear HOR r0 r1 oe hb1 hcm hce hcn hlb OR CM BL hc0 hbl
      go_wp2_with (at_builtin; refine Hid.out ?_)
      refine hide2 ?_
      refine wpList_append_own_at _ rfl _ _ 28 rfl w0.heap.size 48 ic (.agg #[.slice none 0 0, .slice none 0 0]) 2 48 Tryd.underlying28 hic y0 y1 y2 rfl (by decide) (.slice va i vcp) _ _ rfl (World.ownsRow.alloc HO3.out _) ⟨x1.heap.size, 0, none⟩ 1 1 [.slice a0 bs.length p0, .slice a1 es.length p1] rfl rfl HNEW.out (by intro u hu; simp at hu; rcases hu with rfl | rfl <;> rfl) (by unfold maxLen; omega) (by omega) (by simp; omega) ?_
      intro v' x4 hown4 hgrow4 hat4 hb4
      obtain ⟨gt, capt, ev⟩ := hrow_succ hown4
      have hFg : Fr (fun j => (Value.slice va i vcp).ownBlock = some j) x1 x4 := ((Fr.refl (fun j => (Value.slice va i vcp).ownBlock = some j) x1).alloc (.cells #[.slice a0 bs.length p0, .slice a1 es.length p1] 48)).trans (Fr.grown hgrow4 (fun j e => e)) (fun j e => .inl e)
      have hkind : ∀ j cs2 fz, x1.heap[j]? = some (.cells cs2 54 fz) → ¬ (Value.slice va i vcp).ownBlock = some j := fun j cs2 fz hq e => by
        obtain ⟨c3, f3, q3⟩ := Go.Lib.ownsRow_kind HO3.out j e
        rw [hq] at q3
        simp at q3
      have H5 : Hid (x4.ownsRow w0.heap.size 48 2 v' (i + 1) (flatC (cs ++ [cn]))) := hide2 (by rw [flatC_snoc, HCE.out]; exact hown4)
      have H6 : Hid (∀ c ∈ cs ++ [cn], Cmd x4 w0.heap.size c) := hide2 (fun c hc => by
        rcases List.mem_append.1 hc with q | q
        · exact (HCM1.out c q).fr hFg hkind
        · simp at q; rw [q]; exact HCN.out.fr hFg hkind)
      have H7 : Hid (Below w0.heap.size w0 x4) := hide2 (HB1.out.trans (hFg.to (fun j hj e => by have := (World.ownsRow.lt HO3.out j e).1; omega) HB1.out.size))
      clear hown4 hgrow4 hat4 hb4 hFg hkind HO3 HNEW HCM1 HCN HB1
      subst ev
      go_frame
      go_wp2
      go_roundw
      case rel => exact ⟨i + 1, cs ++ [cn], by omega, by omega, by go_num, by rw [List.length_append, HCI.out]; rfl, H5, H6, H7⟩
      case measure => simp [intOf]; omega
    · obtain ⟨va, vcp, ev, hsq⟩ := crow_seq OR.out hci
      subst ev
      have HSQ := hide2 hsq
      have HCI := hide2 hci
      have hTr : Tab wr := (HT.out.fr (Fr.below (F := fun _ => False) HB0.out) id).fr (Fr.below (F := fun _ => False) BL.out) id
      have HLD := hide2 (laid_any hTr hsq (fun c hc => (CM.out c hc).ok))
      have hmin : min i 20 = i := by omega
      rw [hmin] at HLD
      clear hsq OR hTr hmin hci
      by_cases hcut : i < len
      · have hil : (i : Int) < (len : Int) := by omega
        have hi20 : ¬ (i : Int) < 6 := by omega
        go_wp2_with fail
        refine HLD.out.mono ?_
        rintro e w2 ⟨sb, d, rb, nvv, rfl, K, J, M, A, u, st, L, W, S⟩
        obtain ⟨na, ncp, ev⟩ := S.h.form
        rw [List.length_range'] at ev
        subst ev
        have HORD := hide2 (S.ord CM.out (by have := HCI.out; omega))
        have KS := hide2 (S.kst BL.out)
        have HN := hide2 S.n
        have bM := S.bM
        have bu := S.bu
        have bl := S.bl
        have FIN : Hid (∀ w', Below w0.heap.size w0 w' → Below w.heap.size w w') := hide2 (fun w' hb => HB0.out.trans ⟨hb.os, hb.tape, hb.output, hb.size, fun j hj => hb.block j (by omega)⟩)
        clear HLD S CM BL HSQ HS HG
        by_cases hmk : (0 ≤ mark ∧ mark ≤ 150) ∧ 0 < i
        · have hm1 : ¬ mark < 0 := by omega
          have hm2 : ¬ mark > 150 := by omega
          have hm3 : mark + 100 ≤ 1000 := by omega
          have hine : ¬ ((i : Int) = 0) := by omega
          have hine2 : ((i : Int) == 0) = false := by simp; omega
          have hine3 : ¬ i = 0 := by omega
          have hine4 : (i == 0) = false := by simp; omega
          have hine5 : decide ((i : Int) = 0) = false := by simp; omega
          obtain ⟨T, hTe⟩ : ∃ T : Nat, mark + (T : Int) = 190 := ⟨(190 - mark).toNat, by omega⟩
          have hT19 : 40 ≤ T ∧ T ≤ 190 := by omega
          go_wp2
          go_loopw [16, 15] (fun a v wr => ∃ (p : Nat) (K : Nat → Prop) (M : Nat), p ≤ i ∧ a = .int .i64 p ∧ M ≤ 10000 + 3002 * (T * p) ∧ Hid (Kst w0 wr K sb d M A u (.slice na i ncp) i) ∧ Hid (Wsr w0 wr K (.slice na i ncp) v ((List.range (T * p)).map (vals A L mark T)))) (fun a _ _ => i - (intOf a).toNat)
          case atStart => exact ⟨0, K, M, by omega, rfl, by omega, KS, hide2 ⟨⟨rfl, .inl ⟨rfl, rfl⟩⟩, (fun j e => by cases e), (fun j e => by cases e)⟩⟩
          case round =>
            obtain ⟨p, K5, M5, hp, rfl, hM5, KS5, WS5⟩ := hrel
            by_cases hpi : p < i
            · have hpl : (p : Int) < (i : Int) := by omega
              go_wp2
              go_loopw [17, 15] (fun a v wr => ∃ (q : Nat) (K : Nat → Prop) (M : Nat), q ≤ T ∧ a = .int .i64 (mark + (q : Int)) ∧ M ≤ 10000 + 3002 * (T * p + q) ∧ Hid (Kst w0 wr K sb d M A u (.slice na i ncp) i) ∧ Hid (Wsr w0 wr K (.slice na i ncp) v ((List.range (T * p + q)).map (vals A L mark T)))) (fun a _ _ => T - (intOf a - mark).toNat)
              case atStart => exact ⟨0, K5, M5, by omega, by go_num, by omega, KS5, WS5⟩
              case round =>
                clear KS5 WS5
                obtain ⟨q, K6, M6, hq, rfl, hM6, KS6, WS6⟩ := hrel
                obtain ⟨va6, vcp6, ev⟩ := WS6.out.h.form
                rw [List.length_map, List.length_range] at ev
                subst ev
                by_cases hqT : q < T
                · have hqt : mark + (q : Int) < 190 := by omega
                  obtain ⟨g0, cap0, ev, c0⟩ := KS6.out.n.at (i := p) (by rw [List.length_range']; exact hpi)
                  rw [range_getD hpi] at c0
                  rw [List.length_range'] at ev
                  injection ev with e1 e2 e3
                  subst e1 e3
                  have hg0 : g0 < wr.heap.size := (World.ownsRow.lt KS6.out.n g0 rfl).2
                  have hTm : T * p + q < 100000 := by have := Nat.mul_le_mul (show T ≤ 190 by omega) (show p ≤ 6 by omega); omega
                  have HSE := hide2 (ksees KS6.out HN.out hpi (HORD.out (p + 1) (by omega) (by omega)).1.1 (by have := (HORD.out (p + 1) (by omega) (by omega)).2; omega) (at_ := mark + (q : Int)) ⟨by omega, by omega⟩ (by omega) (by omega))
                  go_wp2_with fail
                  refine HSE.out.mono ?_
                  rintro e x1 ⟨rfl, a1⟩
                  obtain ⟨K7, KS7, k7, f7⟩ := KS6.out.aft a1
                  have WS7 := WS6.out.aft k7 f7
                  have hs7 := f7.size
                  have HVA : Hid (vals A L mark T (T * p + q) = fs (mark + (q : Int)) ((L (p + 1)).map (vp A))) := hide2 (vals_at A L mark hqT)
                  obtain ⟨y, hy⟩ : ∃ y, y = fs (mark + (q : Int)) ((L (p + 1)).map (vp A)) := ⟨_, rfl⟩
                  rw [← hy] at HVA
                  rw [← hy]
                  have HO3 : Hid (x1.ownsRow w0.heap.size 3 1 (.slice va6 (T * p + q) vcp6) (T * p + q) (((List.range (T * p + q)).map (vals A L mark T)).map nv)) := hide2 (by have z := WS7.h; unfold Hr at z; rw [List.length_map, List.length_range] at z; exact z)
                  have HNEW := hide2 (hcell_new x1 (.int .i64 (y : Int)) 3)
                  have HKS7 := hide2 KS7
                  have HWS7 := hide2 WS7
                  have HSZ : Hid (w0.heap.size ≤ x1.heap.size) := hide2 KS7.bl.size
                  clear HSE a1 k7 f7 KS6 WS6 KS7 WS7 hy c0 hg0
                  go_wp2_with (at_builtin; refine Hid.out ?_)
                  refine hide2 ?_
                  refine wpList_append_own_at _ rfl _ _ 29 rfl w0.heap.size 3 i0 (.int .i64 0) 1 8 Tryd.underlying29 hi0 z0 z1 z2 rfl (by decide) (.slice va6 (T * p + q) vcp6) _ _ rfl (World.ownsRow.alloc HO3.out _) ⟨x1.heap.size, 0, none⟩ 1 1 [.int .i64 (y : Int)] rfl rfl HNEW.out (by simp [Value.oneCell']) (by unfold maxLen; omega) (by omega) (by have := HSZ.out; simp; omega) ?_
                  intro v' x4 hown4 hgrow4 hat4 hb4
                  obtain ⟨gt, capt, ev⟩ := hrow_succ hown4
                  have hFg : Fr (fun j => (Value.slice va6 (T * p + q) vcp6).ownBlock = some j) x1 x4 := ((Fr.refl (fun j => (Value.slice va6 (T * p + q) vcp6).ownBlock = some j) x1).alloc (.cells #[.int .i64 (y : Int)] 3)).trans (Fr.grown hgrow4 (fun j e => e)) (fun j e => .inl e)
                  have hr8 : Hr x4 w0.heap.size v' ((List.range (T * p + q)).map (vals A L mark T) ++ [y]) := by
                    unfold Hr
                    rw [List.length_append, List.length_map, List.length_range, List.length_singleton, List.map_append]
                    exact hown4
                  have HW8 : Hid (Wsr w0 x4 K7 (.slice (some ⟨g0, 0, none⟩) i ncp) v' ((List.range (T * p + (q + 1))).map (vals A L mark T))) := hide2 (by
                    rw [show T * p + (q + 1) = (T * p + q) + 1 by omega, range_map_snoc, HVA.out]
                    refine HWS7.out.snoc hFg hr8 (fun j e => ?_) HKS7.out.p.kl (fun j e => (World.ownsRow.lt HKS7.out.n j e).2)
                    rcases hb4 with z | z
                    · exact .inl (by rw [← z]; exact e)
                    · right
                      rw [z] at e
                      simp at e
                      omega)
                  have HK8 : Hid (Kst w0 x4 K7 sb d (M6 + 3002) A u (.slice (some ⟨g0, 0, none⟩) i ncp) i) := hide2 (HKS7.out.keep hFg (fun j hj e => HWS7.out.a j e hj) (fun j e q => HWS7.out.b j q e) (fun j e => (World.ownsRow.lt HWS7.out.h j e).1) hw0)
                  clear hown4 hgrow4 hat4 hb4 hFg hr8 HNEW HO3 HKS7 HWS7 HVA
                  subst ev
                  go_frame
                  go_wp2
                  go_roundw
                  case rel => exact ⟨q + 1, K7, M6 + 3002, by omega, by go_num, by omega, HK8, HW8⟩
                  case measure => simp [intOf]; omega
                · have hqt : ¬ mark + (q : Int) < 190 := by omega
                  have eT : T * p + q = T * (p + 1) := by rw [Nat.mul_add]; omega
                  have HW8 : Hid (Wsr w0 wr K6 (.slice na i ncp) (.slice va6 (T * p + q) vcp6) ((List.range (T * (p + 1))).map (vals A L mark T))) := hide2 (by have z := WS6.out; rw [← eT]; exact z)
                  have hM8 : M6 ≤ 10000 + 3002 * (T * (p + 1)) := by rw [← eT]; exact hM6
                  clear WS6 eT
                  go_wp2
                  go_roundw
                  case rel => exact ⟨p + 1, K6, M6, by omega, by go_num, hM8, KS6, HW8⟩
                  case measure => simp [intOf]; omega
            · obtain rfl : p = i := by omega
              obtain ⟨wa, wcp, ev⟩ := WS5.out.h.form
              rw [List.length_map, List.length_range] at ev
              subst ev
              obtain ⟨a9, c9, ev, hsq⟩ := KS5.out.n.seq
              rw [List.length_range'] at ev hsq
              injection ev with e1 e2 e3
              subst e1 e3
              have hszr := KS5.out.bl.size
              have HBG := hide2 (begin_any hsq (by omega) mark (some ⟨sb, 0, none⟩))
              have hpi2 : ¬ (p : Int) < (p : Int) := by omega
              have hTP : T * p ≤ 190 * 6 := Nat.mul_le_mul (by omega) (by omega)
              clear hsq
              go_wp2_with fail
              refine HBG.out.mono ?_
              rintro e x1 ⟨ob, Q, rfl, hO, hb1⟩
              have hs1 := hb1.size
              obtain ⟨B, hB⟩ : ∃ B, B = wr.heap.size := ⟨_, rfl⟩
              rw [← hB] at hO
              have hBw : w0.heap.size ≤ B := by omega
              have HQB : Hid (∀ j, Q j → B ≤ j) := hide2 (fun j hj => (hO.ql j hj).1)
              have HQN : Hid (∀ j, (Value.slice na p ncp).ownBlock = some j → ¬ Q j) := hide2 (fun j e q => by
                have := (hO.ql j q).1
                have := (World.ownsRow.lt KS5.out.n j e).2
                omega)
              have HQW : Hid (∀ j, (Value.slice wa (T * p) wcp).ownBlock = some j → ¬ Q j) := hide2 (fun j e q => by
                have := (hO.ql j q).1
                have := (World.ownsRow.lt WS5.out.h j e).2
                omega)
              have HAP : Hid (∀ j, Q j → ¬ K5 j) := hide2 (fun j hj q => by
                have := (hO.ql j hj).1
                have := KS5.out.p.kl j q
                omega)
              have HKS1 := hide2 (KS5.out.below hb1 hw0)
              have HWS1 := hide2 (WS5.out.below hb1)
              have HO1 := hide2 hO
              have HB1 : Hid (Bst A p L W mark (fun n t => fs t ((L n).map (vp A))) 30) := hide2 ⟨HN.out, fun n h1 h2 => (HORD.out n h1 h2).1.rd mark, fun n h1 h2 => (HORD.out n h1 h2).1.1, fun n h1 h2 => (HORD.out n h1 h2).2, fun n h1 h2 t t1 t2 => rfl⟩
              have hp0 : 0 < p := by omega
              clear HBG hO hb1 KS5 WS5 hB hs1 hszr
              go_wp2
              go_loopw [20, 19] (fun a c wr => ∃ (k c9 : Nat) (K : Nat → Prop) (M : Nat) (A1 : Stt) (u1 : Nat) (L1 : Nat → List Nat) (W1 : Nat → List (Int × Int)) (G1 : Nat), k < p ∧ a = .int .i64 k ∧ c = .int .i64 c9 ∧ c9 ≤ k ∧ M ≤ 5000000 + 100000 * k ∧ u1 ≤ 92 * p + 3 * k ∧ G1 ≤ 2000 * k ∧ A1.la 1 ≤ 30 * p + k ∧ Hid (Kst w0 wr K sb d M A1 u1 (.slice na p ncp) p) ∧ Hid (Wsr w0 wr K (.slice na p ncp) (.slice wa (T * p) wcp) ((List.range (T * p)).map (vals A L mark T))) ∧ Hid (Bst A1 p L1 W1 mark (fun n t => fs t ((L n).map (vp A))) (30 + k)) ∧ Hid (Opm wr B Q ob (some ⟨sb, 0, none⟩) (((List.range' 1 p).map (fun c : Nat => (c : Int))).drop k) mark G1 false) ∧ Hid (∀ j, Q j → ¬ K j)) (fun a _ _ => p - (intOf a).toNat)
              case atStart => exact ⟨0, 0, K5, M5, A, u, L, W, 0, hp0, rfl, rfl, by omega, by omega, by omega, by omega, by omega, HKS1, HWS1, HB1, HO1, HAP⟩
              case round =>
                clear HKS1 HWS1 HB1 HO1 HAP hM5
                obtain ⟨k, c9, K1, M1, A1, u1, L1, W1, G1, hk, rfl, rfl, hc9, hM1, hu1, hG1, hla1, KS1, WS1, BS1, O1, AP1⟩ := hrel
                have hdr : ((List.range' 1 p).map (fun c : Nat => (c : Int))).drop k = ((k + 1 : Nat) : Int) :: ((List.range' 1 p).map (fun c : Nat => (c : Int))).drop (k + 1) := by
                  rw [List.drop_eq_getElem_cons (by simp; omega)]
                  congr 1
                  simp
                  omega
                have hO := O1.out
                rw [hdr] at hO
                have hok := KS1.out.p.ok
                have hfr := BS1.out.n.fr (k + 1) (by omega) (by omega)
                have hln := BS1.out.ln (k + 1) (by omega) (by omega)
                have hch : ChN A1 ((k + 1 : Nat) : Int) (L1 (k + 1)) := .inl ⟨by rw [lvI_cast]; exact hfr.lv, by rw [Int.toNat_natCast]; exact hfr.ch⟩
                have hst := ostep_cons KS1.out.p hO (by omega) AP1.out ⟨by omega, by omega⟩ hch (by omega) (by omega) (by omega)
                rw [Int.toNat_natCast] at hst
                have HST := hide2 hst
                have hgl : goneN mark A1 (L1 (k + 1)) ≤ (L1 (k + 1)).length := by unfold goneN; omega
                have HOK := hide2 hok
                have hkl : (k : Int) < 100000 := by omega
                clear hst hO hdr hfr hch hok O1
                by_cases hlast : k + 1 = p
                · have hem : (((List.range' 1 p).map (fun c : Nat => (c : Int))).drop (k + 1)) = [] := by rw [hlast]; simp
                  rw [hem] at HST
                  clear hem
                  go_wp2_with fail
                  refine HST.out.mono ?_
                  rintro e x2 ⟨rfl, g1, hO2, K2, r1, r2, r3, r4⟩
                  have HKS2 := hide2 (KS1.out.ostep hBw HQB.out HQN.out r1 r2 r3)
                  have HWS2 := hide2 (WS1.out.ostep HQW.out r2 r3)
                  have HB9 := hide2 (BS1.out.swp HOK.out (by omega) (n := k + 1) (by omega) (by omega))
                  have HGN := hide2 (gone_late hO2)
                  obtain ⟨A2, hA2⟩ : ∃ x, x = swpA mark A1 (k + 1) (L1 (k + 1)) := ⟨_, rfl⟩
                  obtain ⟨L2, hL2⟩ : ∃ x, x = up1 L1 (k + 1) ((L1 (k + 1)).take (kp mark (W1 (k + 1)))) := ⟨_, rfl⟩
                  obtain ⟨W2, hW2⟩ : ∃ x, x = up1 W1 (k + 1) ((W1 (k + 1)).take (kp mark (W1 (k + 1)))) := ⟨_, rfl⟩
                  obtain ⟨u2, hu2⟩ : ∃ x, x = u1 - 3 * goneN mark A1 (L1 (k + 1)) := ⟨_, rfl⟩
                  obtain ⟨M9, hM9⟩ : ∃ x, x = M1 + 10 + 5 * (L1 (k + 1)).length := ⟨_, rfl⟩
                  rw [← hA2, ← hu2, ← hM9] at HKS2
                  rw [← hA2, ← hL2, ← hW2] at HB9
                  have hM9b : M9 ≤ 9000000 := by omega
                  have hc200 : (c9 : Int) ≤ 200 := by omega
                  clear HST hO2 r1 r2 r3 r4 g1 hA2 hL2 hW2 hu2 hM9 KS1 WS1 BS1 AP1
                  go_wp2_with fail
                  refine HGN.out.mono ?_
                  rintro e x3 ⟨rfl, q3⟩
                  subst q3
                  clear HGN
                  go_wp2
                  go_loopw [32, 31] (fun a c wr => ∃ (p2 : Nat) (K : Nat → Prop) (M : Nat), p2 ≤ p ∧ a = .int .i64 p2 ∧ c = .int .i64 ((T * p2 : Nat) : Int) ∧ M ≤ 9000000 + 3002 * (T * p2) ∧ Hid (Kst w0 wr K sb d M A2 u2 (.slice na p ncp) p) ∧ Hid (Wsr w0 wr K (.slice na p ncp) (.slice wa (T * p) wcp) ((List.range (T * p)).map (vals A L mark T)))) (fun a _ _ => p - (intOf a).toNat)
                  case atStart => exact ⟨0, K2, M9, by omega, rfl, by go_num, by omega, HKS2, HWS2⟩
                  case round =>
                    clear HKS2 HWS2
                    obtain ⟨p2, K5, M5, hp2, rfl, rfl, hM5, KS5, WS5⟩ := hrel
                    by_cases hpi3 : p2 < p
                    · have hpl3 : (p2 : Int) < (p : Int) := by omega
                      have hTP2 : T * (p2 + 1) ≤ T * p := Nat.mul_le_mul_left _ hpi3
                      rw [Nat.mul_add] at hTP2
                      go_wp2
                      go_loopw [33, 31] (fun a c wr => ∃ (q : Nat) (K : Nat → Prop) (M : Nat), q ≤ T ∧ a = .int .i64 (mark + (q : Int)) ∧ c = .int .i64 ((T * p2 + q : Nat) : Int) ∧ M ≤ 9000000 + 3002 * (T * p2 + q) ∧ Hid (Kst w0 wr K sb d M A2 u2 (.slice na p ncp) p) ∧ Hid (Wsr w0 wr K (.slice na p ncp) (.slice wa (T * p) wcp) ((List.range (T * p)).map (vals A L mark T)))) (fun a _ _ => T - (intOf a - mark).toNat)
                      case atStart => exact ⟨0, K5, M5, by omega, by go_num, by go_num, by omega, KS5, WS5⟩
                      case round =>
                        clear KS5 WS5
                        obtain ⟨q, K6, M6, hq, rfl, rfl, hM6, KS6, WS6⟩ := hrel
                        by_cases hqT : q < T
                        · have hqt : mark + (q : Int) < 190 := by omega
                          obtain ⟨g0, cap0, ev, c0⟩ := KS6.out.n.at (i := p2) (by rw [List.length_range']; exact hpi3)
                          rw [range_getD hpi3] at c0
                          rw [List.length_range'] at ev
                          injection ev with e1 e2 e3
                          subst e1 e3
                          have hg0 : g0 < wr.heap.size := (World.ownsRow.lt KS6.out.n g0 rfl).2
                          have hTm : T * p2 + q < T * p := by omega
                          have hse := ksees KS6.out HB9.out.n hpi3 (HB9.out.wo (p2 + 1) (by omega) (by omega)) (by have := HB9.out.ln (p2 + 1) (by omega) (by omega); omega) (at_ := mark + (q : Int)) ⟨by omega, by omega⟩ (by omega) (by omega)
                          have hvv : fs (mark + (q : Int)) ((L2 (p2 + 1)).map (vp A2)) = vals A L mark T (T * p2 + q) := by
                            rw [vals_at A L mark hqT]
                            exact HB9.out.se (p2 + 1) (by omega) (by omega) (mark + (q : Int)) (by omega) (by omega)
                          rw [hvv] at hse
                          obtain ⟨y, hy⟩ : ∃ y, y = vals A L mark T (T * p2 + q) := ⟨_, rfl⟩
                          rw [← hy] at hse
                          have HY := hide2 hy
                          have HSE := hide2 hse
                          clear hse hvv hy
                          go_wp2_with fail
                          refine HSE.out.mono ?_
                          rintro e x1 ⟨rfl, a1⟩
                          obtain ⟨K7, KS7, k7, f7⟩ := KS6.out.aft a1
                          have WS7 := WS6.out.aft k7 f7
                          obtain ⟨g1, cap1, ev, c1⟩ := WS7.h.at (i := T * p2 + q) (by rw [List.length_map, List.length_range]; exact hTm)
                          rw [range_map_getD _ hTm, ← HY.out] at c1
                          rw [List.length_map, List.length_range] at ev
                          injection ev with e1 e2 e3
                          subst e1 e3
                          have hg1 : g1 < x1.heap.size := (World.ownsRow.lt WS7.h g1 rfl).2
                          have hTi : ((T * p2 + q : Nat) : Int) < ((T * p : Nat) : Int) := by omega
                          have HKS7 := hide2 KS7
                          have HWS7 := hide2 WS7
                          clear HSE a1 k7 f7 KS6 WS6 KS7 WS7 c0 hg0 HY
                          go_wp2
                          go_roundw
                          case rel => exact ⟨q + 1, K7, M6 + 3002, by omega, by go_num, by go_num, by omega, HKS7, HWS7⟩
                          case measure => simp [intOf]; omega
                        · have hqt : ¬ mark + (q : Int) < 190 := by omega
                          have eT : T * p2 + q = T * (p2 + 1) := by rw [Nat.mul_add]; omega
                          have hM8 : M6 ≤ 9000000 + 3002 * (T * (p2 + 1)) := by rw [← eT]; exact hM6
                          have HET := hide2 eT
                          clear hM5 eT
                          go_wp2
                          go_roundw
                          case rel => exact ⟨p2 + 1, K6, M6, by omega, by go_num, by rw [HET.out], hM8, KS6, WS6⟩
                          case measure => simp [intOf]; omega
                    · obtain rfl : p2 = p := by omega
                      have hpl3 : ¬ (p2 : Int) < (p2 : Int) := by omega
                      go_wp2
                      go_ret
                      exact ⟨by rfl, FIN.out _ KS5.out.bl⟩
                · have hem : (((List.range' 1 p).map (fun c : Nat => (c : Int))).drop (k + 1)).isEmpty = false := by
                    cases hq : ((List.range' 1 p).map (fun c : Nat => (c : Int))).drop (k + 1) with
                    | nil => have := congrArg List.length hq; simp at this; omega
                    | cons a b => rfl
                  rw [hem] at HST
                  clear hem
                  go_wp2_with fail
                  refine HST.out.mono ?_
                  rintro e x2 ⟨rfl, g1, hO2, K2, r1, r2, r3, r4⟩
                  have HKS2 := hide2 (KS1.out.ostep hBw HQB.out HQN.out r1 r2 r3)
                  have HWS2 := hide2 (WS1.out.ostep HQW.out r2 r3)
                  have HBS2 := hide2 (BS1.out.swp HOK.out (by omega) (n := k + 1) (by omega) (by omega))
                  have HBS2' : Hid (Bst (swpA mark A1 (k + 1) (L1 (k + 1))) p (up1 L1 (k + 1) ((L1 (k + 1)).take (kp mark (W1 (k + 1))))) (up1 W1 (k + 1) ((W1 (k + 1)).take (kp mark (W1 (k + 1))))) mark (fun n t => fs t ((L n).map (vp A))) (30 + (k + 1))) := hide2 ⟨HBS2.out.n, HBS2.out.rd, HBS2.out.wo, fun n h1 h2 => by have := HBS2.out.ln n h1 h2; omega, HBS2.out.se⟩
                  have HO2 := hide2 hO2
                  have HAP2 := hide2 r4
                  clear HST hO2 r1 r2 r3 r4 KS1 WS1 BS1 AP1
                  by_cases hkp : k < pl
                  · have hkp2 : (k : Int) < (pl : Int) := by omega
                    have hk200 : (k : Int) < 200 := by omega
                    obtain ⟨pb, poff, epo, hpbl, hpc⟩ := (HPS.out.keep (HB0.out.trans ⟨HKS2.out.bl.os, HKS2.out.bl.tape, HKS2.out.bl.output, HKS2.out.bl.size, fun j hj => HKS2.out.bl.block j (by omega)⟩)).2.2.2 (by omega)
                    subst epo
                    obtain ⟨x, hx⟩ := some_at HPS.out.1 hkp
                    have q0 : x2.cell? ⟨pb, poff + k, none⟩ = some (.int .i64 x) := by have := hpc k x hx 0 _ rfl; simpa using this
                    clear hpc hx
                    by_cases hx0 : 0 ≤ x
                    · have hx0' : x ≥ 0 := hx0
                      by_cases hxp : x < (p : Int)
                      · obtain ⟨xn, hxn⟩ : ∃ xn : Nat, x = (xn : Int) := ⟨x.toNat, by omega⟩
                        subst hxn
                        have hxnp : xn < p := by omega
                        obtain ⟨g0, cap0, ev, c0⟩ := HKS2.out.n.at (i := xn) (by rw [List.length_range']; exact hxnp)
                        rw [range_getD hxnp] at c0
                        rw [List.length_range'] at ev
                        injection ev with e1 e2 e3
                        subst e1 e3
                        have hg0 : g0 < x2.heap.size := (World.ownsRow.lt HKS2.out.n g0 rfl).2
                        have hfr2 := HBS2.out.n.fr (xn + 1) (by omega) (by omega)
                        have hla2 : (swpA mark A1 (k + 1) (L1 (k + 1))).la 1 ≤ 30 * p + k := by rw [swpA_la]; exact hla1
                        obtain ⟨A2, hA2⟩ : ∃ x, x = swpA mark A1 (k + 1) (L1 (k + 1)) := ⟨_, rfl⟩
                        rw [← hA2] at HKS2 HBS2 HBS2' hfr2 hla2
                        have HKS2OK := hide2 HKS2.out.p.ok
                        have HHD := hide2 (head_any HKS2.out.p hfr2.lv (by omega))
                        have HFR := hide2 hfr2
                        clear hA2 hfr2
                        go_wp2_with fail
                        refine HHD.out.mono ?_
                        rintro e x3 ⟨rfl, a3⟩
                        obtain ⟨K3, KS3, k3, f3⟩ := HKS2.out.aft a3
                        have HWS3 := hide2 (HWS2.out.aft k3 f3)
                        obtain ⟨O3, AP3⟩ := opm_aft HO2.out HAP2.out k3 f3
                        obtain ⟨hv, hhv⟩ : ∃ x, x = A2.va 0 (xn + 1) := ⟨_, rfl⟩
                        have HVR := hide2 (ver_any (t := ⟨#[110, 101, 119]⟩) (b := 200 + (k : Int)) KS3.p HFR.out (by decide) ⟨by omega, by omega⟩ (mbg_time ⟨by omega, by omega⟩) (by omega) (by omega) (by omega))
                        rw [← hhv] at HVR
                        rw [← hhv]
                        have HHV := hide2 hhv
                        have HKS3 := hide2 KS3
                        have HO3 := hide2 O3
                        have HAP3 := hide2 AP3
                        clear HHD a3 k3 f3 KS3 O3 AP3 HKS2 HWS2 HO2 HAP2 hhv c0 hg0 q0 hpbl
                        go_wp2_with fail
                        refine HVR.out.mono ?_
                        rintro e x4 ⟨rfl, a4⟩
                        obtain ⟨K4, KS4, k4, f4⟩ := HKS3.out.aft a4
                        have HWS4 := hide2 (HWS3.out.aft k4 f4)
                        obtain ⟨O4, AP4⟩ := opm_aft HO3.out HAP3.out k4 f4
                        have hps : Calls Tryd.prog 27 #[.pointer (some ⟨sb, 0, none⟩), .int .i64 ((xn + 1 : Nat) : Int), .int .i64 hv, .int .i64 ((A2.la 1 + 1 : Nat) : Int)] x4 fun e w' => e = .returned (.tuple #[.bool true, .int .i64 0]) ∧ Aft x4 w' K4 sb d 4000 (M1 + 10 + 5 * (L1 (k + 1)).length + 1 + 4 + 1) (A2.lead (xn + 1) ⟨#[110, 101, 119]⟩ (200 + (k : Int)) 1099511627776 hv) (u1 - 3 * goneN mark A1 (L1 (k + 1)) + 3) := by
                          have hfq := HFR.out
                          rw [← HHV.out] at hfq
                          rw [← lead_never]
                          exact push_any KS4.p hfq (by omega)
                        have HPU := hide2 hps
                        have HKS4 := hide2 KS4
                        have HO4 := hide2 O4
                        have HAP4 := hide2 AP4
                        clear HVR a4 k4 f4 KS4 O4 AP4 HKS3 HWS3 HO3 HAP3 hps
                        go_wp2_with fail
                        refine HPU.out.mono ?_
                        rintro e x5 ⟨rfl, a5⟩
                        obtain ⟨K5, KS5, k5, f5⟩ := HKS4.out.aft a5
                        have HWS5 := hide2 (HWS4.out.aft k5 f5)
                        obtain ⟨O5, AP5⟩ := opm_aft HO4.out HAP4.out k5 f5
                        have hbs := HBS2.out.push HKS2OK.out (by omega) (n := xn + 1) (by omega) (by omega) (t := ⟨#[110, 101, 119]⟩) (x := 200 + (k : Int)) ⟨by omega, by omega⟩
                        rw [← HHV.out] at hbs
                        have HBS5 : Hid (Bst (A2.lead (xn + 1) ⟨#[110, 101, 119]⟩ (200 + (k : Int)) 1099511627776 hv) p _ _ mark (fun n t => fs t ((L n).map (vp A))) (30 + (k + 1))) := hide2 ⟨hbs.n, hbs.rd, hbs.wo, fun n h1 h2 => by have := hbs.ln n h1 h2; omega, hbs.se⟩
                        have hla5 : (A2.lead (xn + 1) ⟨#[110, 101, 119]⟩ (200 + (k : Int)) 1099511627776 hv).la 1 ≤ 30 * p + (k + 1) := by
                          show up1 A2.la 1 (A2.la 1 + 1) 1 ≤ _
                          rw [up1_same]; omega
                        have HKS5 := hide2 KS5
                        have HO5 := hide2 O5
                        have HAP5 := hide2 AP5
                        clear HPU a5 k5 f5 KS5 O5 AP5 HKS4 HWS4 HO4 HAP4 hbs HBS2 HBS2'
                        go_wp2
                        go_roundw
                        case rel => exact ⟨k + 1, c9 + 1, K5, _, _, _, _, _, _, by omega, by go_num, by go_num, by omega, by omega, by omega, by omega, hla5, HKS5, HWS5, HBS5, HO5, HAP5⟩
                        case measure => simp [intOf]; omega
                      · have hd1 : decide (x < (p : Int)) = false := by simp; omega
                        have hd2 : decide (0 ≤ x) = true := by simp; omega
                        clear hx0' HORD HN FIN HQB HQN HQW HPS
                        go_wp2
                        go_roundw
                        case rel => exact ⟨k + 1, c9, K2, _, _, _, _, _, _, by omega, by go_num, rfl, by omega, by omega, by omega, by omega, by rw [swpA_la]; omega, HKS2, HWS2, HBS2', HO2, HAP2⟩
                        case measure => simp [intOf]; omega
                    · have hd1 : decide (0 ≤ x) = false := by simp; omega
                      have hx9 : x < 0 := by omega
                      clear HORD HN FIN HQB HQN HQW HPS
                      go_wp2
                      go_roundw
                      case rel => exact ⟨k + 1, c9, K2, _, _, _, _, _, _, by omega, by go_num, rfl, by omega, by omega, by omega, by omega, by rw [swpA_la]; omega, HKS2, HWS2, HBS2', HO2, HAP2⟩
                      case measure => simp [intOf]; omega
                  · have hkp2 : ¬ (k : Int) < (pl : Int) := by omega
                    go_wp2
                    go_roundw
                    case rel => exact ⟨k + 1, c9, K2, _, _, _, _, _, _, by omega, by go_num, rfl, by omega, by omega, by omega, by omega, by rw [swpA_la]; omega, HKS2, HWS2, HBS2', HO2, HAP2⟩
                    case measure => simp [intOf]; omega

        · by_cases hm1 : mark < 0
          · go_wp2
            go_ret
            exact ⟨rfl, FIN.out _ KS.out.bl⟩
          · by_cases hm2 : mark > 150
            · go_wp2
              go_ret
              exact ⟨rfl, FIN.out _ KS.out.bl⟩
            · have hi00 : i = 0 := by omega
              subst hi00
              go_wp2
              go_ret
              exact ⟨rfl, FIN.out _ KS.out.bl⟩

      · have hil : ¬ (i : Int) < (len : Int) := by omega
        go_wp2_with fail
        refine HLD.out.mono ?_
        rintro e w2 ⟨sb, d, rb, nvv, rfl, K, J, M, A, u, st, L, W, S⟩
        obtain ⟨na, ncp, ev⟩ := S.h.form
        rw [List.length_range'] at ev
        subst ev
        have HORD := hide2 (S.ord CM.out (by have := HCI.out; omega))
        have KS := hide2 (S.kst BL.out)
        have HN := hide2 S.n
        have bM := S.bM
        have bu := S.bu
        have bl := S.bl
        have FIN : Hid (∀ w', Below w0.heap.size w0 w' → Below w.heap.size w w') := hide2 (fun w' hb => HB0.out.trans ⟨hb.os, hb.tape, hb.output, hb.size, fun j hj => hb.block j (by omega)⟩)
        clear HLD S CM BL HSQ HS HG
        by_cases hmk : (0 ≤ mark ∧ mark ≤ 150) ∧ 0 < i
        · have hm1 : ¬ mark < 0 := by omega
          have hm2 : ¬ mark > 150 := by omega
          have hm3 : mark + 100 ≤ 1000 := by omega
          have hine : ¬ ((i : Int) = 0) := by omega
          have hine2 : ((i : Int) == 0) = false := by simp; omega
          have hine3 : ¬ i = 0 := by omega
          have hine4 : (i == 0) = false := by simp; omega
          have hine5 : decide ((i : Int) = 0) = false := by simp; omega
          obtain ⟨T, hTe⟩ : ∃ T : Nat, mark + (T : Int) = 190 := ⟨(190 - mark).toNat, by omega⟩
          have hT19 : 40 ≤ T ∧ T ≤ 190 := by omega
          go_wp2
          go_loopw [16, 15] (fun a v wr => ∃ (p : Nat) (K : Nat → Prop) (M : Nat), p ≤ i ∧ a = .int .i64 p ∧ M ≤ 10000 + 3002 * (T * p) ∧ Hid (Kst w0 wr K sb d M A u (.slice na i ncp) i) ∧ Hid (Wsr w0 wr K (.slice na i ncp) v ((List.range (T * p)).map (vals A L mark T)))) (fun a _ _ => i - (intOf a).toNat)
          case atStart => exact ⟨0, K, M, by omega, rfl, by omega, KS, hide2 ⟨⟨rfl, .inl ⟨rfl, rfl⟩⟩, (fun j e => by cases e), (fun j e => by cases e)⟩⟩
          case round =>
            obtain ⟨p, K5, M5, hp, rfl, hM5, KS5, WS5⟩ := hrel
            by_cases hpi : p < i
            · have hpl : (p : Int) < (i : Int) := by omega
              go_wp2
              go_loopw [17, 15] (fun a v wr => ∃ (q : Nat) (K : Nat → Prop) (M : Nat), q ≤ T ∧ a = .int .i64 (mark + (q : Int)) ∧ M ≤ 10000 + 3002 * (T * p + q) ∧ Hid (Kst w0 wr K sb d M A u (.slice na i ncp) i) ∧ Hid (Wsr w0 wr K (.slice na i ncp) v ((List.range (T * p + q)).map (vals A L mark T)))) (fun a _ _ => T - (intOf a - mark).toNat)
              case atStart => exact ⟨0, K5, M5, by omega, by go_num, by omega, KS5, WS5⟩
              case round =>
                clear KS5 WS5
                obtain ⟨q, K6, M6, hq, rfl, hM6, KS6, WS6⟩ := hrel
                obtain ⟨va6, vcp6, ev⟩ := WS6.out.h.form
                rw [List.length_map, List.length_range] at ev
                subst ev
                by_cases hqT : q < T
                · have hqt : mark + (q : Int) < 190 := by omega
                  obtain ⟨g0, cap0, ev, c0⟩ := KS6.out.n.at (i := p) (by rw [List.length_range']; exact hpi)
                  rw [range_getD hpi] at c0
                  rw [List.length_range'] at ev
                  injection ev with e1 e2 e3
                  subst e1 e3
                  have hg0 : g0 < wr.heap.size := (World.ownsRow.lt KS6.out.n g0 rfl).2
                  have hTm : T * p + q < 100000 := by have := Nat.mul_le_mul (show T ≤ 190 by omega) (show p ≤ 6 by omega); omega
                  have HSE := hide2 (ksees KS6.out HN.out hpi (HORD.out (p + 1) (by omega) (by omega)).1.1 (by have := (HORD.out (p + 1) (by omega) (by omega)).2; omega) (at_ := mark + (q : Int)) ⟨by omega, by omega⟩ (by omega) (by omega))
                  go_wp2_with fail
                  refine HSE.out.mono ?_
                  rintro e x1 ⟨rfl, a1⟩
                  obtain ⟨K7, KS7, k7, f7⟩ := KS6.out.aft a1
                  have WS7 := WS6.out.aft k7 f7
                  have hs7 := f7.size
                  have HVA : Hid (vals A L mark T (T * p + q) = fs (mark + (q : Int)) ((L (p + 1)).map (vp A))) := hide2 (vals_at A L mark hqT)
                  obtain ⟨y, hy⟩ : ∃ y, y = fs (mark + (q : Int)) ((L (p + 1)).map (vp A)) := ⟨_, rfl⟩
                  rw [← hy] at HVA
                  rw [← hy]
                  have HO3 : Hid (x1.ownsRow w0.heap.size 3 1 (.slice va6 (T * p + q) vcp6) (T * p + q) (((List.range (T * p + q)).map (vals A L mark T)).map nv)) := hide2 (by have z := WS7.h; unfold Hr at z; rw [List.length_map, List.length_range] at z; exact z)
                  have HNEW := hide2 (hcell_new x1 (.int .i64 (y : Int)) 3)
                  have HKS7 := hide2 KS7
                  have HWS7 := hide2 WS7
                  have HSZ : Hid (w0.heap.size ≤ x1.heap.size) := hide2 KS7.bl.size
                  clear HSE a1 k7 f7 KS6 WS6 KS7 WS7 hy c0 hg0
                  go_wp2_with (at_builtin; refine Hid.out ?_)
                  refine hide2 ?_
                  refine wpList_append_own_at _ rfl _ _ 29 rfl w0.heap.size 3 i0 (.int .i64 0) 1 8 Tryd.underlying29 hi0 z0 z1 z2 rfl (by decide) (.slice va6 (T * p + q) vcp6) _ _ rfl (World.ownsRow.alloc HO3.out _) ⟨x1.heap.size, 0, none⟩ 1 1 [.int .i64 (y : Int)] rfl rfl HNEW.out (by simp [Value.oneCell']) (by unfold maxLen; omega) (by omega) (by have := HSZ.out; simp; omega) ?_
                  intro v' x4 hown4 hgrow4 hat4 hb4
                  obtain ⟨gt, capt, ev⟩ := hrow_succ hown4
                  have hFg : Fr (fun j => (Value.slice va6 (T * p + q) vcp6).ownBlock = some j) x1 x4 := ((Fr.refl (fun j => (Value.slice va6 (T * p + q) vcp6).ownBlock = some j) x1).alloc (.cells #[.int .i64 (y : Int)] 3)).trans (Fr.grown hgrow4 (fun j e => e)) (fun j e => .inl e)
                  have hr8 : Hr x4 w0.heap.size v' ((List.range (T * p + q)).map (vals A L mark T) ++ [y]) := by
                    unfold Hr
                    rw [List.length_append, List.length_map, List.length_range, List.length_singleton, List.map_append]
                    exact hown4
                  have HW8 : Hid (Wsr w0 x4 K7 (.slice (some ⟨g0, 0, none⟩) i ncp) v' ((List.range (T * p + (q + 1))).map (vals A L mark T))) := hide2 (by
                    rw [show T * p + (q + 1) = (T * p + q) + 1 by omega, range_map_snoc, HVA.out]
                    refine HWS7.out.snoc hFg hr8 (fun j e => ?_) HKS7.out.p.kl (fun j e => (World.ownsRow.lt HKS7.out.n j e).2)
                    rcases hb4 with z | z
                    · exact .inl (by rw [← z]; exact e)
                    · right
                      rw [z] at e
                      simp at e
                      omega)
                  have HK8 : Hid (Kst w0 x4 K7 sb d (M6 + 3002) A u (.slice (some ⟨g0, 0, none⟩) i ncp) i) := hide2 (HKS7.out.keep hFg (fun j hj e => HWS7.out.a j e hj) (fun j e q => HWS7.out.b j q e) (fun j e => (World.ownsRow.lt HWS7.out.h j e).1) hw0)
                  clear hown4 hgrow4 hat4 hb4 hFg hr8 HNEW HO3 HKS7 HWS7 HVA
                  subst ev
                  go_frame
                  go_wp2
                  go_roundw
                  case rel => exact ⟨q + 1, K7, M6 + 3002, by omega, by go_num, by omega, HK8, HW8⟩
                  case measure => simp [intOf]; omega
                · have hqt : ¬ mark + (q : Int) < 190 := by omega
                  have eT : T * p + q = T * (p + 1) := by rw [Nat.mul_add]; omega
                  have HW8 : Hid (Wsr w0 wr K6 (.slice na i ncp) (.slice va6 (T * p + q) vcp6) ((List.range (T * (p + 1))).map (vals A L mark T))) := hide2 (by have z := WS6.out; rw [← eT]; exact z)
                  have hM8 : M6 ≤ 10000 + 3002 * (T * (p + 1)) := by rw [← eT]; exact hM6
                  clear WS6 eT
                  go_wp2
                  go_roundw
                  case rel => exact ⟨p + 1, K6, M6, by omega, by go_num, hM8, KS6, HW8⟩
                  case measure => simp [intOf]; omega
            · obtain rfl : p = i := by omega
              obtain ⟨wa, wcp, ev⟩ := WS5.out.h.form
              rw [List.length_map, List.length_range] at ev
              subst ev
              obtain ⟨a9, c9, ev, hsq⟩ := KS5.out.n.seq
              rw [List.length_range'] at ev hsq
              injection ev with e1 e2 e3
              subst e1 e3
              have hszr := KS5.out.bl.size
              have HBG := hide2 (begin_any hsq (by omega) mark (some ⟨sb, 0, none⟩))
              have hpi2 : ¬ (p : Int) < (p : Int) := by omega
              have hTP : T * p ≤ 190 * 6 := Nat.mul_le_mul (by omega) (by omega)
              clear hsq
              go_wp2_with fail
              refine HBG.out.mono ?_
              rintro e x1 ⟨ob, Q, rfl, hO, hb1⟩
              have hs1 := hb1.size
              obtain ⟨B, hB⟩ : ∃ B, B = wr.heap.size := ⟨_, rfl⟩
              rw [← hB] at hO
              have hBw : w0.heap.size ≤ B := by omega
              have HQB : Hid (∀ j, Q j → B ≤ j) := hide2 (fun j hj => (hO.ql j hj).1)
              have HQN : Hid (∀ j, (Value.slice na p ncp).ownBlock = some j → ¬ Q j) := hide2 (fun j e q => by
                have := (hO.ql j q).1
                have := (World.ownsRow.lt KS5.out.n j e).2
                omega)
              have HQW : Hid (∀ j, (Value.slice wa (T * p) wcp).ownBlock = some j → ¬ Q j) := hide2 (fun j e q => by
                have := (hO.ql j q).1
                have := (World.ownsRow.lt WS5.out.h j e).2
                omega)
              have HAP : Hid (∀ j, Q j → ¬ K5 j) := hide2 (fun j hj q => by
                have := (hO.ql j hj).1
                have := KS5.out.p.kl j q
                omega)
              have HKS1 := hide2 (KS5.out.below hb1 hw0)
              have HWS1 := hide2 (WS5.out.below hb1)
              have HO1 := hide2 hO
              have HB1 : Hid (Bst A p L W mark (fun n t => fs t ((L n).map (vp A))) 30) := hide2 ⟨HN.out, fun n h1 h2 => (HORD.out n h1 h2).1.rd mark, fun n h1 h2 => (HORD.out n h1 h2).1.1, fun n h1 h2 => (HORD.out n h1 h2).2, fun n h1 h2 t t1 t2 => rfl⟩
              have hp0 : 0 < p := by omega
              clear HBG hO hb1 KS5 WS5 hB hs1 hszr
              go_wp2
              go_loopw [20, 19] (fun a c wr => ∃ (k c9 : Nat) (K : Nat → Prop) (M : Nat) (A1 : Stt) (u1 : Nat) (L1 : Nat → List Nat) (W1 : Nat → List (Int × Int)) (G1 : Nat), k < p ∧ a = .int .i64 k ∧ c = .int .i64 c9 ∧ c9 ≤ k ∧ M ≤ 5000000 + 100000 * k ∧ u1 ≤ 92 * p + 3 * k ∧ G1 ≤ 2000 * k ∧ A1.la 1 ≤ 30 * p + k ∧ Hid (Kst w0 wr K sb d M A1 u1 (.slice na p ncp) p) ∧ Hid (Wsr w0 wr K (.slice na p ncp) (.slice wa (T * p) wcp) ((List.range (T * p)).map (vals A L mark T))) ∧ Hid (Bst A1 p L1 W1 mark (fun n t => fs t ((L n).map (vp A))) (30 + k)) ∧ Hid (Opm wr B Q ob (some ⟨sb, 0, none⟩) (((List.range' 1 p).map (fun c : Nat => (c : Int))).drop k) mark G1 false) ∧ Hid (∀ j, Q j → ¬ K j)) (fun a _ _ => p - (intOf a).toNat)
              case atStart => exact ⟨0, 0, K5, M5, A, u, L, W, 0, hp0, rfl, rfl, by omega, by omega, by omega, by omega, by omega, HKS1, HWS1, HB1, HO1, HAP⟩
              case round =>
                clear HKS1 HWS1 HB1 HO1 HAP hM5
                obtain ⟨k, c9, K1, M1, A1, u1, L1, W1, G1, hk, rfl, rfl, hc9, hM1, hu1, hG1, hla1, KS1, WS1, BS1, O1, AP1⟩ := hrel
                have hdr : ((List.range' 1 p).map (fun c : Nat => (c : Int))).drop k = ((k + 1 : Nat) : Int) :: ((List.range' 1 p).map (fun c : Nat => (c : Int))).drop (k + 1) := by
                  rw [List.drop_eq_getElem_cons (by simp; omega)]
                  congr 1
                  simp
                  omega
                have hO := O1.out
                rw [hdr] at hO
                have hok := KS1.out.p.ok
                have hfr := BS1.out.n.fr (k + 1) (by omega) (by omega)
                have hln := BS1.out.ln (k + 1) (by omega) (by omega)
                have hch : ChN A1 ((k + 1 : Nat) : Int) (L1 (k + 1)) := .inl ⟨by rw [lvI_cast]; exact hfr.lv, by rw [Int.toNat_natCast]; exact hfr.ch⟩
                have hst := ostep_cons KS1.out.p hO (by omega) AP1.out ⟨by omega, by omega⟩ hch (by omega) (by omega) (by omega)
                rw [Int.toNat_natCast] at hst
                have HST := hide2 hst
                have hgl : goneN mark A1 (L1 (k + 1)) ≤ (L1 (k + 1)).length := by unfold goneN; omega
                have HOK := hide2 hok
                have hkl : (k : Int) < 100000 := by omega
                clear hst hO hdr hfr hch hok O1
                by_cases hlast : k + 1 = p
                · have hem : (((List.range' 1 p).map (fun c : Nat => (c : Int))).drop (k + 1)) = [] := by rw [hlast]; simp
                  rw [hem] at HST
                  clear hem
                  go_wp2_with fail
                  refine HST.out.mono ?_
                  rintro e x2 ⟨rfl, g1, hO2, K2, r1, r2, r3, r4⟩
                  have HKS2 := hide2 (KS1.out.ostep hBw HQB.out HQN.out r1 r2 r3)
                  have HWS2 := hide2 (WS1.out.ostep HQW.out r2 r3)
                  have HB9 := hide2 (BS1.out.swp HOK.out (by omega) (n := k + 1) (by omega) (by omega))
                  have HGN := hide2 (gone_late hO2)
                  obtain ⟨A2, hA2⟩ : ∃ x, x = swpA mark A1 (k + 1) (L1 (k + 1)) := ⟨_, rfl⟩
                  obtain ⟨L2, hL2⟩ : ∃ x, x = up1 L1 (k + 1) ((L1 (k + 1)).take (kp mark (W1 (k + 1)))) := ⟨_, rfl⟩
                  obtain ⟨W2, hW2⟩ : ∃ x, x = up1 W1 (k + 1) ((W1 (k + 1)).take (kp mark (W1 (k + 1)))) := ⟨_, rfl⟩
                  obtain ⟨u2, hu2⟩ : ∃ x, x = u1 - 3 * goneN mark A1 (L1 (k + 1)) := ⟨_, rfl⟩
                  obtain ⟨M9, hM9⟩ : ∃ x, x = M1 + 10 + 5 * (L1 (k + 1)).length := ⟨_, rfl⟩
                  rw [← hA2, ← hu2, ← hM9] at HKS2
                  rw [← hA2, ← hL2, ← hW2] at HB9
                  have hM9b : M9 ≤ 9000000 := by omega
                  have hc200 : (c9 : Int) ≤ 200 := by omega
                  clear HST hO2 r1 r2 r3 r4 g1 hA2 hL2 hW2 hu2 hM9 KS1 WS1 BS1 AP1
                  go_wp2_with fail
                  refine HGN.out.mono ?_
                  rintro e x3 ⟨rfl, q3⟩
                  subst q3
                  clear HGN
                  go_wp2
                  go_loopw [32, 31] (fun a c wr => ∃ (p2 : Nat) (K : Nat → Prop) (M : Nat), p2 ≤ p ∧ a = .int .i64 p2 ∧ c = .int .i64 ((T * p2 : Nat) : Int) ∧ M ≤ 9000000 + 3002 * (T * p2) ∧ Hid (Kst w0 wr K sb d M A2 u2 (.slice na p ncp) p) ∧ Hid (Wsr w0 wr K (.slice na p ncp) (.slice wa (T * p) wcp) ((List.range (T * p)).map (vals A L mark T)))) (fun a _ _ => p - (intOf a).toNat)
                  case atStart => exact ⟨0, K2, M9, by omega, rfl, by go_num, by omega, HKS2, HWS2⟩
                  case round =>
                    clear HKS2 HWS2
                    obtain ⟨p2, K5, M5, hp2, rfl, rfl, hM5, KS5, WS5⟩ := hrel
                    by_cases hpi3 : p2 < p
                    · have hpl3 : (p2 : Int) < (p : Int) := by omega
                      have hTP2 : T * (p2 + 1) ≤ T * p := Nat.mul_le_mul_left _ hpi3
                      rw [Nat.mul_add] at hTP2
                      go_wp2
                      go_loopw [33, 31] (fun a c wr => ∃ (q : Nat) (K : Nat → Prop) (M : Nat), q ≤ T ∧ a = .int .i64 (mark + (q : Int)) ∧ c = .int .i64 ((T * p2 + q : Nat) : Int) ∧ M ≤ 9000000 + 3002 * (T * p2 + q) ∧ Hid (Kst w0 wr K sb d M A2 u2 (.slice na p ncp) p) ∧ Hid (Wsr w0 wr K (.slice na p ncp) (.slice wa (T * p) wcp) ((List.range (T * p)).map (vals A L mark T)))) (fun a _ _ => T - (intOf a - mark).toNat)
                      case atStart => exact ⟨0, K5, M5, by omega, by go_num, by go_num, by omega, KS5, WS5⟩
                      case round =>
                        clear KS5 WS5
                        obtain ⟨q, K6, M6, hq, rfl, rfl, hM6, KS6, WS6⟩ := hrel
                        by_cases hqT : q < T
                        · have hqt : mark + (q : Int) < 190 := by omega
                          obtain ⟨g0, cap0, ev, c0⟩ := KS6.out.n.at (i := p2) (by rw [List.length_range']; exact hpi3)
                          rw [range_getD hpi3] at c0
                          rw [List.length_range'] at ev
                          injection ev with e1 e2 e3
                          subst e1 e3
                          have hg0 : g0 < wr.heap.size := (World.ownsRow.lt KS6.out.n g0 rfl).2
                          have hTm : T * p2 + q < T * p := by omega
                          have hse := ksees KS6.out HB9.out.n hpi3 (HB9.out.wo (p2 + 1) (by omega) (by omega)) (by have := HB9.out.ln (p2 + 1) (by omega) (by omega); omega) (at_ := mark + (q : Int)) ⟨by omega, by omega⟩ (by omega) (by omega)
                          have hvv : fs (mark + (q : Int)) ((L2 (p2 + 1)).map (vp A2)) = vals A L mark T (T * p2 + q) := by
                            rw [vals_at A L mark hqT]
                            exact HB9.out.se (p2 + 1) (by omega) (by omega) (mark + (q : Int)) (by omega) (by omega)
                          rw [hvv] at hse
                          obtain ⟨y, hy⟩ : ∃ y, y = vals A L mark T (T * p2 + q) := ⟨_, rfl⟩
                          rw [← hy] at hse
                          have HY := hide2 hy
                          have HSE := hide2 hse
                          clear hse hvv hy
                          go_wp2_with fail
                          refine HSE.out.mono ?_
                          rintro e x1 ⟨rfl, a1⟩
                          obtain ⟨K7, KS7, k7, f7⟩ := KS6.out.aft a1
                          have WS7 := WS6.out.aft k7 f7
                          obtain ⟨g1, cap1, ev, c1⟩ := WS7.h.at (i := T * p2 + q) (by rw [List.length_map, List.length_range]; exact hTm)
                          rw [range_map_getD _ hTm, ← HY.out] at c1
                          rw [List.length_map, List.length_range] at ev
                          injection ev with e1 e2 e3
                          subst e1 e3
                          have hg1 : g1 < x1.heap.size := (World.ownsRow.lt WS7.h g1 rfl).2
                          have hTi : ((T * p2 + q : Nat) : Int) < ((T * p : Nat) : Int) := by omega
                          have HKS7 := hide2 KS7
                          have HWS7 := hide2 WS7
                          clear HSE a1 k7 f7 KS6 WS6 KS7 WS7 c0 hg0 HY
                          go_wp2
                          go_roundw
                          case rel => exact ⟨q + 1, K7, M6 + 3002, by omega, by go_num, by go_num, by omega, HKS7, HWS7⟩
                          case measure => simp [intOf]; omega
                        · have hqt : ¬ mark + (q : Int) < 190 := by omega
                          have eT : T * p2 + q = T * (p2 + 1) := by rw [Nat.mul_add]; omega
                          have hM8 : M6 ≤ 9000000 + 3002 * (T * (p2 + 1)) := by rw [← eT]; exact hM6
                          have HET := hide2 eT
                          clear hM5 eT
                          go_wp2
                          go_roundw
                          case rel => exact ⟨p2 + 1, K6, M6, by omega, by go_num, by rw [HET.out], hM8, KS6, WS6⟩
                          case measure => simp [intOf]; omega
                    · obtain rfl : p2 = p := by omega
                      have hpl3 : ¬ (p2 : Int) < (p2 : Int) := by omega
                      go_wp2
                      go_ret
                      exact ⟨by rfl, FIN.out _ KS5.out.bl⟩
                · have hem : (((List.range' 1 p).map (fun c : Nat => (c : Int))).drop (k + 1)).isEmpty = false := by
                    cases hq : ((List.range' 1 p).map (fun c : Nat => (c : Int))).drop (k + 1) with
                    | nil => have := congrArg List.length hq; simp at this; omega
                    | cons a b => rfl
                  rw [hem] at HST
                  clear hem
                  go_wp2_with fail
                  refine HST.out.mono ?_
                  rintro e x2 ⟨rfl, g1, hO2, K2, r1, r2, r3, r4⟩
                  have HKS2 := hide2 (KS1.out.ostep hBw HQB.out HQN.out r1 r2 r3)
                  have HWS2 := hide2 (WS1.out.ostep HQW.out r2 r3)
                  have HBS2 := hide2 (BS1.out.swp HOK.out (by omega) (n := k + 1) (by omega) (by omega))
                  have HBS2' : Hid (Bst (swpA mark A1 (k + 1) (L1 (k + 1))) p (up1 L1 (k + 1) ((L1 (k + 1)).take (kp mark (W1 (k + 1))))) (up1 W1 (k + 1) ((W1 (k + 1)).take (kp mark (W1 (k + 1))))) mark (fun n t => fs t ((L n).map (vp A))) (30 + (k + 1))) := hide2 ⟨HBS2.out.n, HBS2.out.rd, HBS2.out.wo, fun n h1 h2 => by have := HBS2.out.ln n h1 h2; omega, HBS2.out.se⟩
                  have HO2 := hide2 hO2
                  have HAP2 := hide2 r4
                  clear HST hO2 r1 r2 r3 r4 KS1 WS1 BS1 AP1
                  by_cases hkp : k < pl
                  · have hkp2 : (k : Int) < (pl : Int) := by omega
                    have hk200 : (k : Int) < 200 := by omega
                    obtain ⟨pb, poff, epo, hpbl, hpc⟩ := (HPS.out.keep (HB0.out.trans ⟨HKS2.out.bl.os, HKS2.out.bl.tape, HKS2.out.bl.output, HKS2.out.bl.size, fun j hj => HKS2.out.bl.block j (by omega)⟩)).2.2.2 (by omega)
                    subst epo
                    obtain ⟨x, hx⟩ := some_at HPS.out.1 hkp
                    have q0 : x2.cell? ⟨pb, poff + k, none⟩ = some (.int .i64 x) := by have := hpc k x hx 0 _ rfl; simpa using this
                    clear hpc hx
                    by_cases hx0 : 0 ≤ x
                    · have hx0' : x ≥ 0 := hx0
                      by_cases hxp : x < (p : Int)
                      · obtain ⟨xn, hxn⟩ : ∃ xn : Nat, x = (xn : Int) := ⟨x.toNat, by omega⟩
                        subst hxn
                        have hxnp : xn < p := by omega
                        obtain ⟨g0, cap0, ev, c0⟩ := HKS2.out.n.at (i := xn) (by rw [List.length_range']; exact hxnp)
                        rw [range_getD hxnp] at c0
                        rw [List.length_range'] at ev
                        injection ev with e1 e2 e3
                        subst e1 e3
                        have hg0 : g0 < x2.heap.size := (World.ownsRow.lt HKS2.out.n g0 rfl).2
                        have hfr2 := HBS2.out.n.fr (xn + 1) (by omega) (by omega)
                        have hla2 : (swpA mark A1 (k + 1) (L1 (k + 1))).la 1 ≤ 30 * p + k := by rw [swpA_la]; exact hla1
                        obtain ⟨A2, hA2⟩ : ∃ x, x = swpA mark A1 (k + 1) (L1 (k + 1)) := ⟨_, rfl⟩
                        rw [← hA2] at HKS2 HBS2 HBS2' hfr2 hla2
                        have HKS2OK := hide2 HKS2.out.p.ok
                        have HHD := hide2 (head_any HKS2.out.p hfr2.lv (by omega))
                        have HFR := hide2 hfr2
                        clear hA2 hfr2
                        go_wp2_with fail
                        refine HHD.out.mono ?_
                        rintro e x3 ⟨rfl, a3⟩
                        obtain ⟨K3, KS3, k3, f3⟩ := HKS2.out.aft a3
                        have HWS3 := hide2 (HWS2.out.aft k3 f3)
                        obtain ⟨O3, AP3⟩ := opm_aft HO2.out HAP2.out k3 f3
                        obtain ⟨hv, hhv⟩ : ∃ x, x = A2.va 0 (xn + 1) := ⟨_, rfl⟩
                        have HVR := hide2 (ver_any (t := ⟨#[110, 101, 119]⟩) (b := 200 + (k : Int)) KS3.p HFR.out (by decide) ⟨by omega, by omega⟩ (mbg_time ⟨by omega, by omega⟩) (by omega) (by omega) (by omega))
                        rw [← hhv] at HVR
                        rw [← hhv]
                        have HHV := hide2 hhv
                        have HKS3 := hide2 KS3
                        have HO3 := hide2 O3
                        have HAP3 := hide2 AP3
                        clear HHD a3 k3 f3 KS3 O3 AP3 HKS2 HWS2 HO2 HAP2 hhv c0 hg0 q0 hpbl
                        go_wp2_with fail
                        refine HVR.out.mono ?_
                        rintro e x4 ⟨rfl, a4⟩
                        obtain ⟨K4, KS4, k4, f4⟩ := HKS3.out.aft a4
                        have HWS4 := hide2 (HWS3.out.aft k4 f4)
                        obtain ⟨O4, AP4⟩ := opm_aft HO3.out HAP3.out k4 f4
                        have hps : Calls Tryd.prog 27 #[.pointer (some ⟨sb, 0, none⟩), .int .i64 ((xn + 1 : Nat) : Int), .int .i64 hv, .int .i64 ((A2.la 1 + 1 : Nat) : Int)] x4 fun e w' => e = .returned (.tuple #[.bool true, .int .i64 0]) ∧ Aft x4 w' K4 sb d 4000 (M1 + 10 + 5 * (L1 (k + 1)).length + 1 + 4 + 1) (A2.lead (xn + 1) ⟨#[110, 101, 119]⟩ (200 + (k : Int)) 1099511627776 hv) (u1 - 3 * goneN mark A1 (L1 (k + 1)) + 3) := by
                          have hfq := HFR.out
                          rw [← HHV.out] at hfq
                          rw [← lead_never]
                          exact push_any KS4.p hfq (by omega)
                        have HPU := hide2 hps
                        have HKS4 := hide2 KS4
                        have HO4 := hide2 O4
                        have HAP4 := hide2 AP4
                        clear HVR a4 k4 f4 KS4 O4 AP4 HKS3 HWS3 HO3 HAP3 hps
                        go_wp2_with fail
                        refine HPU.out.mono ?_
                        rintro e x5 ⟨rfl, a5⟩
                        obtain ⟨K5, KS5, k5, f5⟩ := HKS4.out.aft a5
                        have HWS5 := hide2 (HWS4.out.aft k5 f5)
                        obtain ⟨O5, AP5⟩ := opm_aft HO4.out HAP4.out k5 f5
                        have hbs := HBS2.out.push HKS2OK.out (by omega) (n := xn + 1) (by omega) (by omega) (t := ⟨#[110, 101, 119]⟩) (x := 200 + (k : Int)) ⟨by omega, by omega⟩
                        rw [← HHV.out] at hbs
                        have HBS5 : Hid (Bst (A2.lead (xn + 1) ⟨#[110, 101, 119]⟩ (200 + (k : Int)) 1099511627776 hv) p _ _ mark (fun n t => fs t ((L n).map (vp A))) (30 + (k + 1))) := hide2 ⟨hbs.n, hbs.rd, hbs.wo, fun n h1 h2 => by have := hbs.ln n h1 h2; omega, hbs.se⟩
                        have hla5 : (A2.lead (xn + 1) ⟨#[110, 101, 119]⟩ (200 + (k : Int)) 1099511627776 hv).la 1 ≤ 30 * p + (k + 1) := by
                          show up1 A2.la 1 (A2.la 1 + 1) 1 ≤ _
                          rw [up1_same]; omega
                        have HKS5 := hide2 KS5
                        have HO5 := hide2 O5
                        have HAP5 := hide2 AP5
                        clear HPU a5 k5 f5 KS5 O5 AP5 HKS4 HWS4 HO4 HAP4 hbs HBS2 HBS2'
                        go_wp2
                        go_roundw
                        case rel => exact ⟨k + 1, c9 + 1, K5, _, _, _, _, _, _, by omega, by go_num, by go_num, by omega, by omega, by omega, by omega, hla5, HKS5, HWS5, HBS5, HO5, HAP5⟩
                        case measure => simp [intOf]; omega
                      · have hd1 : decide (x < (p : Int)) = false := by simp; omega
                        have hd2 : decide (0 ≤ x) = true := by simp; omega
                        clear hx0' HORD HN FIN HQB HQN HQW HPS
                        go_wp2
                        go_roundw
                        case rel => exact ⟨k + 1, c9, K2, _, _, _, _, _, _, by omega, by go_num, rfl, by omega, by omega, by omega, by omega, by rw [swpA_la]; omega, HKS2, HWS2, HBS2', HO2, HAP2⟩
                        case measure => simp [intOf]; omega
                    · have hd1 : decide (0 ≤ x) = false := by simp; omega
                      have hx9 : x < 0 := by omega
                      clear HORD HN FIN HQB HQN HQW HPS
                      go_wp2
                      go_roundw
                      case rel => exact ⟨k + 1, c9, K2, _, _, _, _, _, _, by omega, by go_num, rfl, by omega, by omega, by omega, by omega, by rw [swpA_la]; omega, HKS2, HWS2, HBS2', HO2, HAP2⟩
                      case measure => simp [intOf]; omega
                  · have hkp2 : ¬ (k : Int) < (pl : Int) := by omega
                    go_wp2
                    go_roundw
                    case rel => exact ⟨k + 1, c9, K2, _, _, _, _, _, _, by omega, by go_num, rfl, by omega, by omega, by omega, by omega, by rw [swpA_la]; omega, HKS2, HWS2, HBS2', HO2, HAP2⟩
                    case measure => simp [intOf]; omega

        · by_cases hm1 : mark < 0
          · go_wp2
            go_ret
            exact ⟨rfl, FIN.out _ KS.out.bl⟩
          · by_cases hm2 : mark > 150
            · go_wp2
              go_ret
              exact ⟨rfl, FIN.out _ KS.out.bl⟩
            · have hi00 : i = 0 := by omega
              subst hi00
              go_wp2
              go_ret
              exact ⟨rfl, FIN.out _ KS.out.bl⟩
end
end
end Go.Proofs.YtfhcphgjaobnoaaDoor
