/-
  VsJ: SweepKeeps: who reads at the mark or later sees the same ahead of a sweep and behind it. (Printed by gen_vsj.py.)
-/
import Derived.Test.YtfhcphgjaobnoaaDoorVtH
set_option linter.unusedVariables false
set_option linter.unusedSimpArgs false
namespace Go.Proofs.YtfhcphgjaobnoaaDoor

section
open Go.RowKit Go.Maps

section
variable {w : World}
set_option maxRecDepth 100000 in
set_option maxHeartbeats 16000000 in
theorem sweepKeeps_walk {ao : Option Addr} {len cap : Nat} {gs : List GpR} (mark : Int) (hT : Tab w) (hs : Seq 1 GpR.cells w ao len cap gs) (hgs : ∀ g ∈ gs, Seq 1 ih w g.o g.l g.c g.xs) :
    Calls Tryd.prog 5 #[.slice ao len cap, .int .i64 mark] w fun e w' => e = .returned (.bool true) ∧ Below w.heap.size w w' := by
  have HT := hide2 hT
  have hz0 := hT.1
  have HSH := hide2 (vshown_any hT)
  obtain ⟨i0, hi0, z0, z1, z2⟩ := info_parts infoH
  obtain ⟨ic, hic, y0, y1, y2⟩ := info_parts infoCh
  have hcap := hs.2.1
  have hmax := hs.2.2.1
  unfold maxLen at hmax
  have HS := hide2 hs
  have HG := hide2 hgs
  clear hT hs hgs
  go_enter Tryd.func5, Tryd.ntmps5
  go_wp2_with fail
  refine HSH.out.mono ?_
  rintro e w0 ⟨rfl, hb0⟩
  have HB0 := hide2 hb0
  have hsz0 := hb0.size
  have hw0 : 0 < w0.heap.size := by omega
  clear HSH hb0
  go_wp2
  go_loopw [7, 6] (fun a v wr => ∃ (i : Nat) (cs : List ChR), i ≤ len ∧ i ≤ 10 ∧ a = .int .i64 i ∧ cs.length = i ∧ Hid (wr.ownsRow w0.heap.size 48 2 v i (flatC cs)) ∧ Hid (∀ c ∈ cs, Cmd wr w0.heap.size c) ∧ Hid (Below w0.heap.size w0 wr)) (fun a _ _ => 10 - (intOf a).toNat)
  case atStart => exact ⟨0, [], by omega, by omega, rfl, rfl, hide2 ⟨rfl, .inl ⟨rfl, rfl⟩⟩, hide2 (by intro c hc; cases hc), hide2 (Below.refl _ _)⟩
  case round =>
    obtain ⟨i, cs, hi1, hi2, rfl, hci, OR, CM, BL⟩ := hrel
    have hszr := BL.out.size
    by_cases hend : i < len ∧ i < 10
    · have hil : (i : Int) < (len : Int) := by omega
      have hi20 : (i : Int) < 10 := by omega
      have hbw : Below w.heap.size w wr := HB0.out.trans ⟨BL.out.os, BL.out.tape, BL.out.output, BL.out.size, fun j hj => BL.out.block j (by omega)⟩
      obtain ⟨b, off, g, eao, hbl, hgc, hc0⟩ := seq_g (HS.out.keep hbw) hend.1
      subst eao
      obtain ⟨va, vcp, ev⟩ : ∃ a c, _ = Value.slice a i c := by
        obtain ⟨a, c, e, _⟩ := crow_seq OR.out hci
        exact ⟨a, c, e⟩
      subst ev
      have HOR := hide2 (ordered_any ((HG.out g (List.mem_of_getElem? hgc)).keep hbw))
      have HCI := hide2 hci
      clear hgc hbw hci
      go_wp2_with fail
      refine HOR.out.mono ?_
      rintro e x1 ⟨c0, c1, rfl, bs, es, r0, r1, oe, hb1⟩
      have hs1 := hb1.size
      obtain ⟨a0, p0, ec0⟩ := r0.form
      obtain ⟨a1, p1, ec1⟩ := r1.form
      subst ec0 ec1
      obtain ⟨cn, hcn⟩ : ∃ cn : ChR, cn = ⟨a0, bs.length, p0, a1, es.length, p1, bs, es⟩ := ⟨_, rfl⟩
      have hce : cn.cells = [.slice a0 bs.length p0, .slice a1 es.length p1] := by rw [hcn]; rfl
      have hlb := oe.lb
      have hcm : Cmd x1 w0.heap.size cn := by
        rw [hcn]
        exact ⟨ur_down r0 hszr, ur_down r1 hszr, by show OrdE bs es bs.length; rw [hlb]; exact oe, by show bs.length ≤ 30; rw [hlb]; omega⟩
      have HO3 : Hid (x1.ownsRow w0.heap.size 48 2 (.slice va i vcp) i (flatC cs)) := hide2 (hrow_fr OR.out (Fr.below (F := fun _ => False) hb1) (fun _ _ => id))
      have HCM1 : Hid (∀ c ∈ cs, Cmd x1 w0.heap.size c) := hide2 (fun c hc => (CM.out c hc).fr (Fr.below (F := fun _ => False) hb1) (fun _ _ _ _ => id))
      have HNEW := hide2 (cells_new x1 #[.slice a0 bs.length p0, .slice a1 es.length p1] 48)
      have HCN := hide2 hcm
      have HCE := hide2 hce
      have HB1 : Hid (Below w0.heap.size w0 x1) := hide2 (BL.out.trans ⟨hb1.os, hb1.tape, hb1.output, hb1.size, fun j hj => hb1.block j (by omega)⟩)
      clear HOR r0 r1 oe hb1 hcm hce hcn hlb OR CM BL hc0 hbl
      go_wp2_with (at_builtin; refine Hid.out ?_)
      refine hide2 ?_
      refine wpList_append_own_at _ rfl _ _ 28 rfl w0.heap.size 48 ic (.agg #[.slice none 0 0, .slice none 0 0]) 2 48 Tryd.underlying28 hic y0 y1 y2 rfl (by decide) (.slice va i vcp) _ _ rfl (World.ownsRow.alloc HO3.out _) ⟨x1.heap.size, 0, none⟩ 1 1 [.slice a0 bs.length p0, .slice a1 es.length p1] rfl rfl HNEW.out (by intro u hu; simp at hu; rcases hu with rfl | rfl <;> rfl) (by unfold maxLen; omega) (by omega) (by simp; omega) ?_
      intro v' x4 hown4 hgrow4 hat4 hb4
      obtain ⟨gt, capt, ev⟩ := hrow_succ hown4
      have hFg : Fr (fun j => (Value.slice va i vcp).ownBlock = some j) x1 x4 := ((Fr.refl (fun j => (Value.slice va i vcp).ownBlock = some j) x1).alloc (.cells #[.slice a0 bs.length p0, .slice a1 es.length p1] 48)).trans (Fr.grown hgrow4 (fun j e => e)) (fun j e => .inl e)
      have hkind : ∀ j cs2 fz, x1.heap[j]? = some (.cells cs2 54 fz) → ¬ (Value.slice va i vcp).ownBlock = some j := fun j cs2 fz hq e => by
        obtain ⟨c3, f3, q3⟩ := Go.Lib.ownsRow_kind HO3.out j e
        rw [hq] at q3
        simp at q3
      have H5 : Hid (x4.ownsRow w0.heap.size 48 2 v' (i + 1) (flatC (cs ++ [cn]))) := hide2 (by rw [flatC_snoc, HCE.out]; exact hown4)
      have H6 : Hid (∀ c ∈ cs ++ [cn], Cmd x4 w0.heap.size c) := hide2 (fun c hc => by
        rcases List.mem_append.1 hc with q | q
        · exact (HCM1.out c q).fr hFg hkind
        · simp at q; rw [q]; exact HCN.out.fr hFg hkind)
      have H7 : Hid (Below w0.heap.size w0 x4) := hide2 (HB1.out.trans (hFg.to (fun j hj e => by have := (World.ownsRow.lt HO3.out j e).1; omega) HB1.out.size))
      clear hown4 hgrow4 hat4 hb4 hFg hkind HO3 HNEW HCM1 HCN HB1
      subst ev
      go_frame
      go_wp2
      go_roundw
      case rel => exact ⟨i + 1, cs ++ [cn], by omega, by omega, by go_num, by rw [List.length_append, HCI.out]; rfl, H5, H6, H7⟩
      case measure => simp [intOf]; omega
    · obtain ⟨va, vcp, ev, hsq⟩ := crow_seq OR.out hci
      subst ev
      have HSQ := hide2 hsq
      have HCI := hide2 hci
      have hTr : Tab wr := (HT.out.fr (Fr.below (F := fun _ => False) HB0.out) id).fr (Fr.below (F := fun _ => False) BL.out) id
      have HLD := hide2 (laid_any hTr hsq (fun c hc => (CM.out c hc).ok))
      have hmin : min i 20 = i := by omega
      rw [hmin] at HLD
      clear hsq OR hTr hmin hci
      by_cases hcut : i < len
      · have hil : (i : Int) < (len : Int) := by omega
        have hi20 : ¬ (i : Int) < 10 := by omega
        go_wp2_with fail
        refine HLD.out.mono ?_
        rintro e w2 ⟨sb, d, rb, nvv, rfl, K, J, M, A, u, st, L, W, S⟩
        obtain ⟨na, ncp, ev⟩ := S.h.form
        rw [List.length_range'] at ev
        subst ev
        have HORD := hide2 (S.ord CM.out (by have := HCI.out; omega))
        have KS := hide2 (S.kst BL.out)
        have HN := hide2 S.n
        have bM := S.bM
        have bu := S.bu
        have bl := S.bl
        have FIN : Hid (∀ w', Below w0.heap.size w0 w' → Below w.heap.size w w') := hide2 (fun w' hb => HB0.out.trans ⟨hb.os, hb.tape, hb.output, hb.size, fun j hj => hb.block j (by omega)⟩)
        clear HLD S CM BL HSQ HS HG
        by_cases hmk : 0 ≤ mark ∧ mark ≤ 200
        · have hm1 : ¬ mark < 0 := by omega
          have hm2 : ¬ mark > 200 := by omega
          have hm3 : mark + 100 ≤ 1000 := by omega
          go_wp2
          go_loopw [14, 13] (fun a v wr => ∃ (p : Nat) (K : Nat → Prop) (M : Nat), p ≤ i ∧ a = .int .i64 p ∧ M ≤ 10000 + 3002 * (100 * p) ∧ Hid (Kst w0 wr K sb d M A u (.slice na i ncp) i) ∧ Hid (Wsr w0 wr K (.slice na i ncp) v ((List.range (100 * p)).map (vals A L mark 100)))) (fun a _ _ => i - (intOf a).toNat)
          case atStart => exact ⟨0, K, M, by omega, rfl, by omega, KS, hide2 ⟨⟨rfl, .inl ⟨rfl, rfl⟩⟩, (fun j e => by cases e), (fun j e => by cases e)⟩⟩
          case round =>
            obtain ⟨p, K5, M5, hp, rfl, hM5, KS5, WS5⟩ := hrel
            by_cases hpi : p < i
            · have hpl : (p : Int) < (i : Int) := by omega
              go_wp2
              go_loopw [15, 13] (fun a v wr => ∃ (q : Nat) (K : Nat → Prop) (M : Nat), q ≤ 100 ∧ a = .int .i64 (mark + (q : Int)) ∧ M ≤ 10000 + 3002 * (100 * p + q) ∧ Hid (Kst w0 wr K sb d M A u (.slice na i ncp) i) ∧ Hid (Wsr w0 wr K (.slice na i ncp) v ((List.range (100 * p + q)).map (vals A L mark 100)))) (fun a _ _ => 100 - (intOf a - mark).toNat)
              case atStart => exact ⟨0, K5, M5, by omega, by go_num, by omega, KS5, WS5⟩
              case round =>
                clear KS5 WS5
                obtain ⟨q, K6, M6, hq, rfl, hM6, KS6, WS6⟩ := hrel
                obtain ⟨va6, vcp6, ev⟩ := WS6.out.h.form
                rw [List.length_map, List.length_range] at ev
                subst ev
                by_cases hqT : q < 100
                · have hqt : mark + (q : Int) < mark + 100 := by omega
                  obtain ⟨g0, cap0, ev, c0⟩ := KS6.out.n.at (i := p) (by rw [List.length_range']; exact hpi)
                  rw [range_getD hpi] at c0
                  rw [List.length_range'] at ev
                  injection ev with e1 e2 e3
                  subst e1 e3
                  have hg0 : g0 < wr.heap.size := (World.ownsRow.lt KS6.out.n g0 rfl).2
                  have hTm : 100 * p + q < 100000 := by omega
                  have HSE := hide2 (ksees KS6.out HN.out hpi (HORD.out (p + 1) (by omega) (by omega)).1.1 (by have := (HORD.out (p + 1) (by omega) (by omega)).2; omega) (at_ := mark + (q : Int)) ⟨by omega, by omega⟩ (by omega) (by omega))
                  go_wp2_with fail
                  refine HSE.out.mono ?_
                  rintro e x1 ⟨rfl, a1⟩
                  obtain ⟨K7, KS7, k7, f7⟩ := KS6.out.aft a1
                  have WS7 := WS6.out.aft k7 f7
                  have hs7 := f7.size
                  have HVA : Hid (vals A L mark 100 (100 * p + q) = fs (mark + (q : Int)) ((L (p + 1)).map (vp A))) := hide2 (vals_at A L mark hqT)
                  obtain ⟨y, hy⟩ : ∃ y, y = fs (mark + (q : Int)) ((L (p + 1)).map (vp A)) := ⟨_, rfl⟩
                  rw [← hy] at HVA
                  rw [← hy]
                  have HO3 : Hid (x1.ownsRow w0.heap.size 3 1 (.slice va6 (100 * p + q) vcp6) (100 * p + q) (((List.range (100 * p + q)).map (vals A L mark 100)).map nv)) := hide2 (by have z := WS7.h; unfold Hr at z; rw [List.length_map, List.length_range] at z; exact z)
                  have HNEW := hide2 (hcell_new x1 (.int .i64 (y : Int)) 3)
                  have HKS7 := hide2 KS7
                  have HWS7 := hide2 WS7
                  have HSZ : Hid (w0.heap.size ≤ x1.heap.size) := hide2 KS7.bl.size
                  clear HSE a1 k7 f7 KS6 WS6 KS7 WS7 hy c0 hg0
                  go_wp2_with (at_builtin; refine Hid.out ?_)
                  refine hide2 ?_
                  refine wpList_append_own_at _ rfl _ _ 29 rfl w0.heap.size 3 i0 (.int .i64 0) 1 8 Tryd.underlying29 hi0 z0 z1 z2 rfl (by decide) (.slice va6 (100 * p + q) vcp6) _ _ rfl (World.ownsRow.alloc HO3.out _) ⟨x1.heap.size, 0, none⟩ 1 1 [.int .i64 (y : Int)] rfl rfl HNEW.out (by simp [Value.oneCell']) (by unfold maxLen; omega) (by omega) (by have := HSZ.out; simp; omega) ?_
                  intro v' x4 hown4 hgrow4 hat4 hb4
                  obtain ⟨gt, capt, ev⟩ := hrow_succ hown4
                  have hFg : Fr (fun j => (Value.slice va6 (100 * p + q) vcp6).ownBlock = some j) x1 x4 := ((Fr.refl (fun j => (Value.slice va6 (100 * p + q) vcp6).ownBlock = some j) x1).alloc (.cells #[.int .i64 (y : Int)] 3)).trans (Fr.grown hgrow4 (fun j e => e)) (fun j e => .inl e)
                  have hr8 : Hr x4 w0.heap.size v' ((List.range (100 * p + q)).map (vals A L mark 100) ++ [y]) := by
                    unfold Hr
                    rw [List.length_append, List.length_map, List.length_range, List.length_singleton, List.map_append]
                    exact hown4
                  have HW8 : Hid (Wsr w0 x4 K7 (.slice (some ⟨g0, 0, none⟩) i ncp) v' ((List.range (100 * p + (q + 1))).map (vals A L mark 100))) := hide2 (by
                    rw [show 100 * p + (q + 1) = (100 * p + q) + 1 by omega, range_map_snoc, HVA.out]
                    refine HWS7.out.snoc hFg hr8 (fun j e => ?_) HKS7.out.p.kl (fun j e => (World.ownsRow.lt HKS7.out.n j e).2)
                    rcases hb4 with z | z
                    · exact .inl (by rw [← z]; exact e)
                    · right
                      rw [z] at e
                      simp at e
                      omega)
                  have HK8 : Hid (Kst w0 x4 K7 sb d (M6 + 3002) A u (.slice (some ⟨g0, 0, none⟩) i ncp) i) := hide2 (HKS7.out.keep hFg (fun j hj e => HWS7.out.a j e hj) (fun j e q => HWS7.out.b j q e) (fun j e => (World.ownsRow.lt HWS7.out.h j e).1) hw0)
                  clear hown4 hgrow4 hat4 hb4 hFg hr8 HNEW HO3 HKS7 HWS7 HVA
                  subst ev
                  go_frame
                  go_wp2
                  go_roundw
                  case rel => exact ⟨q + 1, K7, M6 + 3002, by omega, by go_num, by omega, HK8, HW8⟩
                  case measure => simp [intOf]; omega
                · have hqt : ¬ mark + (q : Int) < mark + 100 := by omega
                  have eT : 100 * p + q = 100 * (p + 1) := by rw [Nat.mul_add]; omega
                  have HW8 : Hid (Wsr w0 wr K6 (.slice na i ncp) (.slice va6 (100 * p + q) vcp6) ((List.range (100 * (p + 1))).map (vals A L mark 100))) := hide2 (by have z := WS6.out; rw [← eT]; exact z)
                  have hM8 : M6 ≤ 10000 + 3002 * (100 * (p + 1)) := by rw [← eT]; exact hM6
                  clear WS6 eT
                  go_wp2
                  go_roundw
                  case rel => exact ⟨p + 1, K6, M6, by omega, by go_num, hM8, KS6, HW8⟩
                  case measure => simp [intOf]; omega
            · obtain rfl : p = i := by omega
              obtain ⟨wa, wcp, ev⟩ := WS5.out.h.form
              rw [List.length_map, List.length_range] at ev
              subst ev
              obtain ⟨a9, c9, ev, hsq⟩ := KS5.out.n.seq
              rw [List.length_range'] at ev hsq
              injection ev with e1 e2 e3
              subst e1 e3
              have hszr := KS5.out.bl.size
              have hxs : ∀ x ∈ (List.range' 1 p).map (fun c : Nat => (c : Int)), i64ok x := fun x hx => by
                obtain ⟨y, hy, rfl⟩ := List.mem_map.1 hx
                have := List.mem_range'_1.1 hy
                exact ⟨by omega, by omega⟩
              have hxl : ((List.range' 1 p).map (fun c : Nat => (c : Int))).length = p := by simp
              have HXS := hide2 hxs
              have HXL := hide2 hxl
              have HBG := hide2 (begin_any hsq (by omega) mark (some ⟨sb, 0, none⟩))
              have hpi2 : ¬ (p : Int) < (p : Int) := by omega
              clear hsq hxs hxl
              go_wp2_with fail
              refine HBG.out.mono ?_
              rintro e x1 ⟨ob, Q, rfl, hO, hb1⟩
              have hs1 := hb1.size
              have HDN := hide2 (done_all (KS5.out.below hb1 hw0).p hO (by omega) (fun j hj q => by have := (hO.ql j hj).1; have := KS5.out.p.kl j q; omega) HXS.out (by omega) (by rw [HXL.out]; omega) (by omega) (by omega) (most := 100000) (by rw [HXL.out]; omega) (by decide))
              have HO := hide2 hO
              have HB1 := hide2 hb1
              clear HBG hO hb1
              go_wp2_with fail
              refine HDN.out.mono ?_
              rintro e x2 ⟨n1, rfl, hn1, hn19, hD⟩
              obtain ⟨A1, G1, K1, s1, la1, hG1, KS1, -, hW1⟩ := KS5.out.done hw0 HB1.out HO.out hD
              have WS1 := hW1 _ _ WS5.out
              rw [HXL.out] at KS1
              have HKS1 := hide2 KS1
              have HWS1 := hide2 WS1
              have HS1 := hide2 s1
              have hla1 : A1.la 1 ≤ 5000 := by rw [la1]; omega
              obtain ⟨a9, c9, ev, hsq⟩ := KS1.n.seq
              rw [List.length_range'] at ev hsq
              injection ev with e1 e2 e3
              subst e1 e3
              have hszr2 := KS1.bl.size
              have HBG := hide2 (begin_any hsq (by omega) mark (some ⟨sb, 0, none⟩))
              clear HDN hD s1 KS1 WS1 hW1 hsq HO HB1 la1 hs1 hszr
              go_wp2_with fail
              refine HBG.out.mono ?_
              rintro e x3 ⟨ob2, Q2, rfl, hO, hb1⟩
              have hs1 := hb1.size
              have HDN := hide2 (done_all (HKS1.out.below hb1 hw0).p hO (by omega) (fun j hj q => by have := (hO.ql j hj).1; have := HKS1.out.p.kl j q; omega) HXS.out (by omega) (by rw [HXL.out]; omega) (by omega) (by omega) (most := 100000) (by rw [HXL.out]; omega) (by decide))
              have HO := hide2 hO
              have HB1 := hide2 hb1
              clear HBG hO hb1
              go_wp2_with fail
              refine HDN.out.mono ?_
              rintro e x4 ⟨n2, rfl, hn2, hn29, hD⟩
              obtain ⟨A2, G2, K2, s2, la2, hG2, KS2, hO2, hW2⟩ := HKS1.out.done hw0 HB1.out HO.out hD
              have WS2 := hW2 _ _ HWS1.out
              rw [HXL.out] at KS2
              obtain ⟨eA, eG, ok1, N1⟩ := keeps_both KS5.out.p.ok HN.out HS1.out s2
              subst eA
              subst eG
              have HN1 := hide2 N1
              have HKS2 := hide2 KS2
              have HWS2 := hide2 WS2
              have HGN := hide2 (gone_late hO2)
              clear HDN hD s2 KS2 WS2 hW2 hO2 N1 ok1 HS1 HKS1 HWS1 HO HB1 KS5 WS5 HXS HXL
              go_wp2_with fail
              refine HGN.out.mono ?_
              rintro e x5 ⟨rfl, q5⟩
              subst q5
              clear HGN
              obtain ⟨M9, hM9⟩ : ∃ x, x = M5 + 30000 * p + 30000 * p := ⟨_, rfl⟩
              rw [← hM9] at HKS2
              have hM9b : M9 ≤ 5000000 := by omega
              obtain ⟨u9, hu9⟩ : ∃ x, x = u - 3 * G1 - 3 * 0 := ⟨_, rfl⟩
              rw [← hu9] at HKS2
              clear hM9 hu9 hM5
              have hn1' : (0 : Int) < (n1 : Int) := by omega
              have hn2' : (0 : Int) < (n2 : Int) := by omega
              go_wp2
              go_loopw [23, 22] (fun a c wr => ∃ (p2 : Nat) (K : Nat → Prop) (M : Nat), p2 ≤ p ∧ a = .int .i64 p2 ∧ c = .int .i64 ((100 * p2 : Nat) : Int) ∧ M ≤ 5000000 + 3002 * (100 * p2) ∧ Hid (Kst w0 wr K sb d M A2 u9 (.slice na p ncp) p) ∧ Hid (Wsr w0 wr K (.slice na p ncp) (.slice wa (100 * p) wcp) ((List.range (100 * p)).map (vals A L mark 100)))) (fun a _ _ => p - (intOf a).toNat)
              case atStart => exact ⟨0, K2, M9, by omega, rfl, rfl, by omega, HKS2, HWS2⟩
              case round =>
                clear HKS2 HWS2
                obtain ⟨p2, K5, M5, hp2, rfl, rfl, hM5, KS5, WS5⟩ := hrel
                by_cases hpi3 : p2 < p
                · have hpl3 : (p2 : Int) < (p : Int) := by omega
                  go_wp2
                  go_loopw [24, 22] (fun a c wr => ∃ (q : Nat) (K : Nat → Prop) (M : Nat), q ≤ 100 ∧ a = .int .i64 (mark + (q : Int)) ∧ c = .int .i64 ((100 * p2 + q : Nat) : Int) ∧ M ≤ 5000000 + 3002 * (100 * p2 + q) ∧ Hid (Kst w0 wr K sb d M A2 u9 (.slice na p ncp) p) ∧ Hid (Wsr w0 wr K (.slice na p ncp) (.slice wa (100 * p) wcp) ((List.range (100 * p)).map (vals A L mark 100)))) (fun a _ _ => 100 - (intOf a - mark).toNat)
                  case atStart => exact ⟨0, K5, M5, by omega, by go_num, by go_num, by omega, KS5, WS5⟩
                  case round =>
                    clear KS5 WS5
                    obtain ⟨q, K6, M6, hq, rfl, rfl, hM6, KS6, WS6⟩ := hrel
                    by_cases hqT : q < 100
                    · have hqt : mark + (q : Int) < mark + 100 := by omega
                      obtain ⟨g0, cap0, ev, c0⟩ := KS6.out.n.at (i := p2) (by rw [List.length_range']; exact hpi3)
                      rw [range_getD hpi3] at c0
                      rw [List.length_range'] at ev
                      injection ev with e1 e2 e3
                      subst e1 e3
                      have hg0 : g0 < wr.heap.size := (World.ownsRow.lt KS6.out.n g0 rfl).2
                      have hTm : 100 * p2 + q < 100 * p := by omega
                      have hwk : Wok (tkS mark W W 1 p (p2 + 1)) := by rw [tkS_in (by omega) (by omega)]; exact Wok.take (HORD.out (p2 + 1) (by omega) (by omega)).1.1 _
                      have hlk : (tkS mark W L 1 p (p2 + 1)).length ≤ 1000 := by rw [tkS_in (by omega) (by omega), List.length_take]; have := (HORD.out (p2 + 1) (by omega) (by omega)).2; omega
                      have hse := ksees KS6.out HN1.out hpi3 hwk hlk (at_ := mark + (q : Int)) ⟨by omega, by omega⟩ (by omega) (by omega)
                      have hvv : fs (mark + (q : Int)) ((tkS mark W L 1 p (p2 + 1)).map (vp A2)) = vals A L mark 100 (100 * p2 + q) := by
                        rw [vals_at A L mark hqT]
                        exact Nds.seen mark (mark + (q : Int)) (by omega) (by omega) HN.out HN1.out (by omega) (by omega) ((HORD.out (p2 + 1) (by omega) (by omega)).1.rd mark)
                      rw [hvv] at hse
                      obtain ⟨y, hy⟩ : ∃ y, y = vals A L mark 100 (100 * p2 + q) := ⟨_, rfl⟩
                      rw [← hy] at hse
                      have HY := hide2 hy
                      have HSE := hide2 hse
                      clear hse hvv hwk hlk hy
                      go_wp2_with fail
                      refine HSE.out.mono ?_
                      rintro e x1 ⟨rfl, a1⟩
                      obtain ⟨K7, KS7, k7, f7⟩ := KS6.out.aft a1
                      have WS7 := WS6.out.aft k7 f7
                      obtain ⟨g1, cap1, ev, c1⟩ := WS7.h.at (i := 100 * p2 + q) (by rw [List.length_map, List.length_range]; exact hTm)
                      rw [range_map_getD _ hTm, ← HY.out] at c1
                      rw [List.length_map, List.length_range] at ev
                      injection ev with e1 e2 e3
                      subst e1 e3
                      have hg1 : g1 < x1.heap.size := (World.ownsRow.lt WS7.h g1 rfl).2
                      have hTi : ((100 * p2 + q : Nat) : Int) < ((100 * p : Nat) : Int) := by omega
                      have HKS7 := hide2 KS7
                      have HWS7 := hide2 WS7
                      clear HSE a1 k7 f7 KS6 WS6 KS7 WS7 c0 hg0 HY
                      go_wp2
                      go_roundw
                      case rel => exact ⟨q + 1, K7, M6 + 3002, by omega, by go_num, by go_num, by omega, HKS7, HWS7⟩
                      case measure => simp [intOf]; omega
                    · have hqt : ¬ mark + (q : Int) < mark + 100 := by omega
                      have eT : 100 * p2 + q = 100 * (p2 + 1) := by omega
                      clear hM5
                      go_wp2
                      go_roundw
                      case rel => exact ⟨p2 + 1, K6, M6, by omega, by go_num, by rw [eT], by omega, KS6, WS6⟩
                      case measure => simp [intOf]; omega
                · obtain rfl : p2 = p := by omega
                  have hpl3 : ¬ (p2 : Int) < (p2 : Int) := by omega
                  go_wp2
                  go_ret
                  exact ⟨by rfl, FIN.out _ KS5.out.bl⟩

        · by_cases hm1 : mark < 0
          · go_wp2
            go_ret
            exact ⟨rfl, FIN.out _ KS.out.bl⟩
          · have hm2 : mark > 200 := by omega
            go_wp2
            go_ret
            exact ⟨rfl, FIN.out _ KS.out.bl⟩

      · have hil : ¬ (i : Int) < (len : Int) := by omega
        go_wp2_with fail
        refine HLD.out.mono ?_
        rintro e w2 ⟨sb, d, rb, nvv, rfl, K, J, M, A, u, st, L, W, S⟩
        obtain ⟨na, ncp, ev⟩ := S.h.form
        rw [List.length_range'] at ev
        subst ev
        have HORD := hide2 (S.ord CM.out (by have := HCI.out; omega))
        have KS := hide2 (S.kst BL.out)
        have HN := hide2 S.n
        have bM := S.bM
        have bu := S.bu
        have bl := S.bl
        have FIN : Hid (∀ w', Below w0.heap.size w0 w' → Below w.heap.size w w') := hide2 (fun w' hb => HB0.out.trans ⟨hb.os, hb.tape, hb.output, hb.size, fun j hj => hb.block j (by omega)⟩)
        clear HLD S CM BL HSQ HS HG
        by_cases hmk : 0 ≤ mark ∧ mark ≤ 200
        · have hm1 : ¬ mark < 0 := by omega
          have hm2 : ¬ mark > 200 := by omega
          have hm3 : mark + 100 ≤ 1000 := by omega
          go_wp2
          go_loopw [14, 13] (fun a v wr => ∃ (p : Nat) (K : Nat → Prop) (M : Nat), p ≤ i ∧ a = .int .i64 p ∧ M ≤ 10000 + 3002 * (100 * p) ∧ Hid (Kst w0 wr K sb d M A u (.slice na i ncp) i) ∧ Hid (Wsr w0 wr K (.slice na i ncp) v ((List.range (100 * p)).map (vals A L mark 100)))) (fun a _ _ => i - (intOf a).toNat)
          case atStart => exact ⟨0, K, M, by omega, rfl, by omega, KS, hide2 ⟨⟨rfl, .inl ⟨rfl, rfl⟩⟩, (fun j e => by cases e), (fun j e => by cases e)⟩⟩
          case round =>
            obtain ⟨p, K5, M5, hp, rfl, hM5, KS5, WS5⟩ := hrel
            by_cases hpi : p < i
            · have hpl : (p : Int) < (i : Int) := by omega
              go_wp2
              go_loopw [15, 13] (fun a v wr => ∃ (q : Nat) (K : Nat → Prop) (M : Nat), q ≤ 100 ∧ a = .int .i64 (mark + (q : Int)) ∧ M ≤ 10000 + 3002 * (100 * p + q) ∧ Hid (Kst w0 wr K sb d M A u (.slice na i ncp) i) ∧ Hid (Wsr w0 wr K (.slice na i ncp) v ((List.range (100 * p + q)).map (vals A L mark 100)))) (fun a _ _ => 100 - (intOf a - mark).toNat)
              case atStart => exact ⟨0, K5, M5, by omega, by go_num, by omega, KS5, WS5⟩
              case round =>
                clear KS5 WS5
                obtain ⟨q, K6, M6, hq, rfl, hM6, KS6, WS6⟩ := hrel
                obtain ⟨va6, vcp6, ev⟩ := WS6.out.h.form
                rw [List.length_map, List.length_range] at ev
                subst ev
                by_cases hqT : q < 100
                · have hqt : mark + (q : Int) < mark + 100 := by omega
                  obtain ⟨g0, cap0, ev, c0⟩ := KS6.out.n.at (i := p) (by rw [List.length_range']; exact hpi)
                  rw [range_getD hpi] at c0
                  rw [List.length_range'] at ev
                  injection ev with e1 e2 e3
                  subst e1 e3
                  have hg0 : g0 < wr.heap.size := (World.ownsRow.lt KS6.out.n g0 rfl).2
                  have hTm : 100 * p + q < 100000 := by omega
                  have HSE := hide2 (ksees KS6.out HN.out hpi (HORD.out (p + 1) (by omega) (by omega)).1.1 (by have := (HORD.out (p + 1) (by omega) (by omega)).2; omega) (at_ := mark + (q : Int)) ⟨by omega, by omega⟩ (by omega) (by omega))
                  go_wp2_with fail
                  refine HSE.out.mono ?_
                  rintro e x1 ⟨rfl, a1⟩
                  obtain ⟨K7, KS7, k7, f7⟩ := KS6.out.aft a1
                  have WS7 := WS6.out.aft k7 f7
                  have hs7 := f7.size
                  have HVA : Hid (vals A L mark 100 (100 * p + q) = fs (mark + (q : Int)) ((L (p + 1)).map (vp A))) := hide2 (vals_at A L mark hqT)
                  obtain ⟨y, hy⟩ : ∃ y, y = fs (mark + (q : Int)) ((L (p + 1)).map (vp A)) := ⟨_, rfl⟩
                  rw [← hy] at HVA
                  rw [← hy]
                  have HO3 : Hid (x1.ownsRow w0.heap.size 3 1 (.slice va6 (100 * p + q) vcp6) (100 * p + q) (((List.range (100 * p + q)).map (vals A L mark 100)).map nv)) := hide2 (by have z := WS7.h; unfold Hr at z; rw [List.length_map, List.length_range] at z; exact z)
                  have HNEW := hide2 (hcell_new x1 (.int .i64 (y : Int)) 3)
                  have HKS7 := hide2 KS7
                  have HWS7 := hide2 WS7
                  have HSZ : Hid (w0.heap.size ≤ x1.heap.size) := hide2 KS7.bl.size
                  clear HSE a1 k7 f7 KS6 WS6 KS7 WS7 hy c0 hg0
                  go_wp2_with (at_builtin; refine Hid.out ?_)
                  refine hide2 ?_
                  refine wpList_append_own_at _ rfl _ _ 29 rfl w0.heap.size 3 i0 (.int .i64 0) 1 8 Tryd.underlying29 hi0 z0 z1 z2 rfl (by decide) (.slice va6 (100 * p + q) vcp6) _ _ rfl (World.ownsRow.alloc HO3.out _) ⟨x1.heap.size, 0, none⟩ 1 1 [.int .i64 (y : Int)] rfl rfl HNEW.out (by simp [Value.oneCell']) (by unfold maxLen; omega) (by omega) (by have := HSZ.out; simp; omega) ?_
                  intro v' x4 hown4 hgrow4 hat4 hb4
                  obtain ⟨gt, capt, ev⟩ := hrow_succ hown4
                  have hFg : Fr (fun j => (Value.slice va6 (100 * p + q) vcp6).ownBlock = some j) x1 x4 := ((Fr.refl (fun j => (Value.slice va6 (100 * p + q) vcp6).ownBlock = some j) x1).alloc (.cells #[.int .i64 (y : Int)] 3)).trans (Fr.grown hgrow4 (fun j e => e)) (fun j e => .inl e)
                  have hr8 : Hr x4 w0.heap.size v' ((List.range (100 * p + q)).map (vals A L mark 100) ++ [y]) := by
                    unfold Hr
                    rw [List.length_append, List.length_map, List.length_range, List.length_singleton, List.map_append]
                    exact hown4
                  have HW8 : Hid (Wsr w0 x4 K7 (.slice (some ⟨g0, 0, none⟩) i ncp) v' ((List.range (100 * p + (q + 1))).map (vals A L mark 100))) := hide2 (by
                    rw [show 100 * p + (q + 1) = (100 * p + q) + 1 by omega, range_map_snoc, HVA.out]
                    refine HWS7.out.snoc hFg hr8 (fun j e => ?_) HKS7.out.p.kl (fun j e => (World.ownsRow.lt HKS7.out.n j e).2)
                    rcases hb4 with z | z
                    · exact .inl (by rw [← z]; exact e)
                    · right
                      rw [z] at e
                      simp at e
                      omega)
                  have HK8 : Hid (Kst w0 x4 K7 sb d (M6 + 3002) A u (.slice (some ⟨g0, 0, none⟩) i ncp) i) := hide2 (HKS7.out.keep hFg (fun j hj e => HWS7.out.a j e hj) (fun j e q => HWS7.out.b j q e) (fun j e => (World.ownsRow.lt HWS7.out.h j e).1) hw0)
                  clear hown4 hgrow4 hat4 hb4 hFg hr8 HNEW HO3 HKS7 HWS7 HVA
                  subst ev
                  go_frame
                  go_wp2
                  go_roundw
                  case rel => exact ⟨q + 1, K7, M6 + 3002, by omega, by go_num, by omega, HK8, HW8⟩
                  case measure => simp [intOf]; omega
                · have hqt : ¬ mark + (q : Int) < mark + 100 := by omega
                  have eT : 100 * p + q = 100 * (p + 1) := by rw [Nat.mul_add]; omega
                  have HW8 : Hid (Wsr w0 wr K6 (.slice na i ncp) (.slice va6 (100 * p + q) vcp6) ((List.range (100 * (p + 1))).map (vals A L mark 100))) := hide2 (by have z := WS6.out; rw [← eT]; exact z)
                  have hM8 : M6 ≤ 10000 + 3002 * (100 * (p + 1)) := by rw [← eT]; exact hM6
                  clear WS6 eT
                  go_wp2
                  go_roundw
                  case rel => exact ⟨p + 1, K6, M6, by omega, by go_num, hM8, KS6, HW8⟩
                  case measure => simp [intOf]; omega
            · obtain rfl : p = i := by omega
              obtain ⟨wa, wcp, ev⟩ := WS5.out.h.form
              rw [List.length_map, List.length_range] at ev
              subst ev
              obtain ⟨a9, c9, ev, hsq⟩ := KS5.out.n.seq
              rw [List.length_range'] at ev hsq
              injection ev with e1 e2 e3
              subst e1 e3
              have hszr := KS5.out.bl.size
              have hxs : ∀ x ∈ (List.range' 1 p).map (fun c : Nat => (c : Int)), i64ok x := fun x hx => by
                obtain ⟨y, hy, rfl⟩ := List.mem_map.1 hx
                have := List.mem_range'_1.1 hy
                exact ⟨by omega, by omega⟩
              have hxl : ((List.range' 1 p).map (fun c : Nat => (c : Int))).length = p := by simp
              have HXS := hide2 hxs
              have HXL := hide2 hxl
              have HBG := hide2 (begin_any hsq (by omega) mark (some ⟨sb, 0, none⟩))
              have hpi2 : ¬ (p : Int) < (p : Int) := by omega
              clear hsq hxs hxl
              go_wp2_with fail
              refine HBG.out.mono ?_
              rintro e x1 ⟨ob, Q, rfl, hO, hb1⟩
              have hs1 := hb1.size
              have HDN := hide2 (done_all (KS5.out.below hb1 hw0).p hO (by omega) (fun j hj q => by have := (hO.ql j hj).1; have := KS5.out.p.kl j q; omega) HXS.out (by omega) (by rw [HXL.out]; omega) (by omega) (by omega) (most := 100000) (by rw [HXL.out]; omega) (by decide))
              have HO := hide2 hO
              have HB1 := hide2 hb1
              clear HBG hO hb1
              go_wp2_with fail
              refine HDN.out.mono ?_
              rintro e x2 ⟨n1, rfl, hn1, hn19, hD⟩
              obtain ⟨A1, G1, K1, s1, la1, hG1, KS1, -, hW1⟩ := KS5.out.done hw0 HB1.out HO.out hD
              have WS1 := hW1 _ _ WS5.out
              rw [HXL.out] at KS1
              have HKS1 := hide2 KS1
              have HWS1 := hide2 WS1
              have HS1 := hide2 s1
              have hla1 : A1.la 1 ≤ 5000 := by rw [la1]; omega
              obtain ⟨a9, c9, ev, hsq⟩ := KS1.n.seq
              rw [List.length_range'] at ev hsq
              injection ev with e1 e2 e3
              subst e1 e3
              have hszr2 := KS1.bl.size
              have HBG := hide2 (begin_any hsq (by omega) mark (some ⟨sb, 0, none⟩))
              clear HDN hD s1 KS1 WS1 hW1 hsq HO HB1 la1 hs1 hszr
              go_wp2_with fail
              refine HBG.out.mono ?_
              rintro e x3 ⟨ob2, Q2, rfl, hO, hb1⟩
              have hs1 := hb1.size
              have HDN := hide2 (done_all (HKS1.out.below hb1 hw0).p hO (by omega) (fun j hj q => by have := (hO.ql j hj).1; have := HKS1.out.p.kl j q; omega) HXS.out (by omega) (by rw [HXL.out]; omega) (by omega) (by omega) (most := 100000) (by rw [HXL.out]; omega) (by decide))
              have HO := hide2 hO
              have HB1 := hide2 hb1
              clear HBG hO hb1
              go_wp2_with fail
              refine HDN.out.mono ?_
              rintro e x4 ⟨n2, rfl, hn2, hn29, hD⟩
              obtain ⟨A2, G2, K2, s2, la2, hG2, KS2, hO2, hW2⟩ := HKS1.out.done hw0 HB1.out HO.out hD
              have WS2 := hW2 _ _ HWS1.out
              rw [HXL.out] at KS2
              obtain ⟨eA, eG, ok1, N1⟩ := keeps_both KS5.out.p.ok HN.out HS1.out s2
              subst eA
              subst eG
              have HN1 := hide2 N1
              have HKS2 := hide2 KS2
              have HWS2 := hide2 WS2
              have HGN := hide2 (gone_late hO2)
              clear HDN hD s2 KS2 WS2 hW2 hO2 N1 ok1 HS1 HKS1 HWS1 HO HB1 KS5 WS5 HXS HXL
              go_wp2_with fail
              refine HGN.out.mono ?_
              rintro e x5 ⟨rfl, q5⟩
              subst q5
              clear HGN
              obtain ⟨M9, hM9⟩ : ∃ x, x = M5 + 30000 * p + 30000 * p := ⟨_, rfl⟩
              rw [← hM9] at HKS2
              have hM9b : M9 ≤ 5000000 := by omega
              obtain ⟨u9, hu9⟩ : ∃ x, x = u - 3 * G1 - 3 * 0 := ⟨_, rfl⟩
              rw [← hu9] at HKS2
              clear hM9 hu9 hM5
              have hn1' : (0 : Int) < (n1 : Int) := by omega
              have hn2' : (0 : Int) < (n2 : Int) := by omega
              go_wp2
              go_loopw [23, 22] (fun a c wr => ∃ (p2 : Nat) (K : Nat → Prop) (M : Nat), p2 ≤ p ∧ a = .int .i64 p2 ∧ c = .int .i64 ((100 * p2 : Nat) : Int) ∧ M ≤ 5000000 + 3002 * (100 * p2) ∧ Hid (Kst w0 wr K sb d M A2 u9 (.slice na p ncp) p) ∧ Hid (Wsr w0 wr K (.slice na p ncp) (.slice wa (100 * p) wcp) ((List.range (100 * p)).map (vals A L mark 100)))) (fun a _ _ => p - (intOf a).toNat)
              case atStart => exact ⟨0, K2, M9, by omega, rfl, rfl, by omega, HKS2, HWS2⟩
              case round =>
                clear HKS2 HWS2
                obtain ⟨p2, K5, M5, hp2, rfl, rfl, hM5, KS5, WS5⟩ := hrel
                by_cases hpi3 : p2 < p
                · have hpl3 : (p2 : Int) < (p : Int) := by omega
                  go_wp2
                  go_loopw [24, 22] (fun a c wr => ∃ (q : Nat) (K : Nat → Prop) (M : Nat), q ≤ 100 ∧ a = .int .i64 (mark + (q : Int)) ∧ c = .int .i64 ((100 * p2 + q : Nat) : Int) ∧ M ≤ 5000000 + 3002 * (100 * p2 + q) ∧ Hid (Kst w0 wr K sb d M A2 u9 (.slice na p ncp) p) ∧ Hid (Wsr w0 wr K (.slice na p ncp) (.slice wa (100 * p) wcp) ((List.range (100 * p)).map (vals A L mark 100)))) (fun a _ _ => 100 - (intOf a - mark).toNat)
                  case atStart => exact ⟨0, K5, M5, by omega, by go_num, by go_num, by omega, KS5, WS5⟩
                  case round =>
                    clear KS5 WS5
                    obtain ⟨q, K6, M6, hq, rfl, rfl, hM6, KS6, WS6⟩ := hrel
                    by_cases hqT : q < 100
                    · have hqt : mark + (q : Int) < mark + 100 := by omega
                      obtain ⟨g0, cap0, ev, c0⟩ := KS6.out.n.at (i := p2) (by rw [List.length_range']; exact hpi3)
                      rw [range_getD hpi3] at c0
                      rw [List.length_range'] at ev
                      injection ev with e1 e2 e3
                      subst e1 e3
                      have hg0 : g0 < wr.heap.size := (World.ownsRow.lt KS6.out.n g0 rfl).2
                      have hTm : 100 * p2 + q < 100 * p := by omega
                      have hwk : Wok (tkS mark W W 1 p (p2 + 1)) := by rw [tkS_in (by omega) (by omega)]; exact Wok.take (HORD.out (p2 + 1) (by omega) (by omega)).1.1 _
                      have hlk : (tkS mark W L 1 p (p2 + 1)).length ≤ 1000 := by rw [tkS_in (by omega) (by omega), List.length_take]; have := (HORD.out (p2 + 1) (by omega) (by omega)).2; omega
                      have hse := ksees KS6.out HN1.out hpi3 hwk hlk (at_ := mark + (q : Int)) ⟨by omega, by omega⟩ (by omega) (by omega)
                      have hvv : fs (mark + (q : Int)) ((tkS mark W L 1 p (p2 + 1)).map (vp A2)) = vals A L mark 100 (100 * p2 + q) := by
                        rw [vals_at A L mark hqT]
                        exact Nds.seen mark (mark + (q : Int)) (by omega) (by omega) HN.out HN1.out (by omega) (by omega) ((HORD.out (p2 + 1) (by omega) (by omega)).1.rd mark)
                      rw [hvv] at hse
                      obtain ⟨y, hy⟩ : ∃ y, y = vals A L mark 100 (100 * p2 + q) := ⟨_, rfl⟩
                      rw [← hy] at hse
                      have HY := hide2 hy
                      have HSE := hide2 hse
                      clear hse hvv hwk hlk hy
                      go_wp2_with fail
                      refine HSE.out.mono ?_
                      rintro e x1 ⟨rfl, a1⟩
                      obtain ⟨K7, KS7, k7, f7⟩ := KS6.out.aft a1
                      have WS7 := WS6.out.aft k7 f7
                      obtain ⟨g1, cap1, ev, c1⟩ := WS7.h.at (i := 100 * p2 + q) (by rw [List.length_map, List.length_range]; exact hTm)
                      rw [range_map_getD _ hTm, ← HY.out] at c1
                      rw [List.length_map, List.length_range] at ev
                      injection ev with e1 e2 e3
                      subst e1 e3
                      have hg1 : g1 < x1.heap.size := (World.ownsRow.lt WS7.h g1 rfl).2
                      have hTi : ((100 * p2 + q : Nat) : Int) < ((100 * p : Nat) : Int) := by omega
                      have HKS7 := hide2 KS7
                      have HWS7 := hide2 WS7
                      clear HSE a1 k7 f7 KS6 WS6 KS7 WS7 c0 hg0 HY
                      go_wp2
                      go_roundw
                      case rel => exact ⟨q + 1, K7, M6 + 3002, by omega, by go_num, by go_num, by omega, HKS7, HWS7⟩
                      case measure => simp [intOf]; omega
                    · have hqt : ¬ mark + (q : Int) < mark + 100 := by omega
                      have eT : 100 * p2 + q = 100 * (p2 + 1) := by omega
                      clear hM5
                      go_wp2
                      go_roundw
                      case rel => exact ⟨p2 + 1, K6, M6, by omega, by go_num, by rw [eT], by omega, KS6, WS6⟩
                      case measure => simp [intOf]; omega
                · obtain rfl : p2 = p := by omega
                  have hpl3 : ¬ (p2 : Int) < (p2 : Int) := by omega
                  go_wp2
                  go_ret
                  exact ⟨by rfl, FIN.out _ KS5.out.bl⟩

        · by_cases hm1 : mark < 0
          · go_wp2
            go_ret
            exact ⟨rfl, FIN.out _ KS.out.bl⟩
          · have hm2 : mark > 200 := by omega
            go_wp2
            go_ret
            exact ⟨rfl, FIN.out _ KS.out.bl⟩
end
end
end Go.Proofs.YtfhcphgjaobnoaaDoor
