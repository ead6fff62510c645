/-
  SweepTakes: the walk. (Printed by gen_vsr.py.)
-/
import Derived.Test.YtfhcphgjaobnoaaDoorVsQ
set_option linter.unusedVariables false
set_option linter.unusedSimpArgs false
namespace Go.Proofs.YtfhcphgjaobnoaaDoor
open Go.RowKit Go.Maps

section
variable {w : World}
set_option maxRecDepth 100000 in
set_option maxHeartbeats 16000000 in
theorem sweepTakes_walk {ao po : Option Addr} {len cap pl pc : Nat} {cs : List ChR} {ps : List Int} (mark : Int) (hT : Tab w) (hs : Seq 2 ChR.cells w ao len cap cs) (hcs : ∀ c ∈ cs, c.ok w) (hps : Seq 1 ih w po pl pc ps) (hpi : ∀ x ∈ ps, I64 x) :
    Calls Tryd.prog 4 #[.slice ao len cap, .slice po pl pc, .int .i64 mark] w fun e w' => e = .returned (.bool true) ∧ Below w.heap.size w w' := by
  obtain ⟨i0, hi0, z0, z1, z2⟩ := info_parts infoH
  have HPS := hide2 hps
  have HPI : Hid (∀ x ∈ ps, i64ok x) := hide2 hpi
  have HS := hide2 hs
  have HCS := hide2 hcs
  have HT := hide2 hT
  have hz0 := hT.1
  have HSH := hide2 (vshown_any hT)
  have hpcap := hps.2.1
  have hpmax := hps.2.2.1
  unfold maxLen at hpmax
  clear hT hs hcs hps hpi
  go_enter Tryd.func4, Tryd.ntmps4
  by_cases hpl : pl ≤ 20
  · go_wp2_with fail
    refine HSH.out.mono ?_
    rintro e w0 ⟨rfl, hb0⟩
    have HB0 := hide2 hb0
    have hsz0 := hb0.size
    have hw0 : 0 < w0.heap.size := by omega
    have HLD := hide2 (laid_any (HT.out.fr (Fr.below (F := fun _ => False) hb0) id) (HS.out.keep hb0) (fun c hc => (HCS.out c hc).keep hb0))
    have HP0 := hide2 (HPS.out.keep hb0)
    obtain ⟨m, hm⟩ : ∃ m, m = min len 20 := ⟨_, rfl⟩
    rw [← hm] at HLD
    have hm20 : m ≤ 20 := by omega
    clear HSH hb0 hm HS HCS HT
    go_wp2_with fail
    refine HLD.out.mono ?_
    rintro e w2 ⟨sb, d, rb, nvv, rfl, K, J, M, A, u, st, L, W, S⟩
    obtain ⟨na, ncp, ev⟩ := S.h.form
    rw [List.length_range'] at ev
    subst ev
    have bM := S.bM
    have bu := S.bu
    have bs := S.bs
    have bl := S.bl
    have hszl := S.l.bl.size
    obtain ⟨wm, hmk, r1, r2⟩ := run_make_own (P := Tryd.prog) (w := w2) w0.heap.size 29 3 i0 (.int .i64 0) 1 Tryd.underlying29 hi0 z0 z1 .i64 .i64 (m + 20) (by rw [z2]; omega) (by unfold maxLen; omega) (by omega)
    have hbm : Below w2.heap.size w2 wm := ⟨r2.os, r2.tape, r2.output, r2.size, fun j hj => r2.block j hj (by intro e; cases e)⟩
    have hnm : Hr wm w0.heap.size (.slice na m ncp) (List.range' 1 m) := S.h.fr (Fr.below (F := fun _ => False) hbm) (fun _ _ => id)
    obtain ⟨av, w3, hap, hIr, hgr, hbk⟩ := nodes_append r1 hnm (by rw [List.length_range']; omega) (by have := hbm.size; omega)
    have hszm := hbm.size
    have hown : (Value.slice (some ⟨w2.heap.size, 0, none⟩) 0 (m + 20)).ownBlock = some w2.heap.size := rfl
    have hmk2 : (Instr.makeSlice 29 (.int .i64 0) (.int .i64 ((m : Int) + 20))).run Tryd.prog w2 = .ok (.slice (some ⟨w2.heap.size, 0, none⟩) 0 (m + 20)) wm := hmk
    have hF3 : Fr (fun j => j = w2.heap.size) wm w3 := Fr.grown hgr (fun j e => by rw [hown] at e; injection e with e; exact e.symm)
    have hap2 : ∀ j, av.ownBlock = some j → w2.heap.size ≤ j := fun j e => by
      rcases hbk with z | z
      · rw [z, hown] at e; injection e with e; omega
      · rw [z] at e; injection e with e; omega
    have T0 : Tst w0 w3 K J sb d rb M A u st (.slice na m ncp) m av ((List.range' 1 m).map fun c : Nat => (c : Int)) := by
      have l3 := (S.l.below hbm).keep hF3 (fun j hj e => by have := S.l.kl hj; omega) (fun j e => by omega) hw0
      refine ⟨l3, hnm.fr hF3 (fun j e q => by have := (World.ownsRow.lt S.h j e).2; omega), S.a, hIr, fun j e q => ?_, fun j e q => ?_⟩
      · have := hap2 j e; have := S.l.kl q; omega
      · have := hap2 j e; have := (World.ownsRow.lt S.h j q).2; omega
    have HT0 := hide2 T0
    obtain ⟨xa, xc, eav, -⟩ := hIr.seq
    have HN0 := hide2 S.n
    clear HLD S hmk r1 r2 hbm hnm hIr hgr hbk hF3 hap2 T0 hown hszm
    go_wp2_with (at_builtin; refine Hid.out ?_)
    refine hide2 ?_
    refine wpList_append_eq rfl _ _ _ rfl _ _ av w3 rfl rfl hap ?_
    clear hap hmk2
    rw [List.length_map, List.length_range'] at eav
    subst eav
    go_frame
    go_wp2
    go_loopw [14, 13] (fun a v wr => ∃ i : Nat, i ≤ pl ∧ a = .int .i64 i ∧ Hid (Tst w0 wr K J sb d rb M A u st (.slice na m ncp) m v (((List.range' 1 m).map fun c : Nat => (c : Int)) ++ ps.take i))) (fun a _ _ => pl - (intOf a).toNat)
    case atStart => exact ⟨0, by omega, rfl, by simpa using HT0⟩
    case round =>
      clear HT0
      obtain ⟨i, hi, rfl, TS⟩ := hrel
      have hpt : (ps.take i).length = i := by rw [List.length_take, HPS.out.1]; omega
      have hxl : (((List.range' 1 m).map fun c : Nat => (c : Int)) ++ ps.take i).length = m + i := by rw [List.length_append, List.length_map, List.length_range', hpt]
      obtain ⟨va, vcp, ev, -⟩ := TS.out.a.seq
      rw [hxl] at ev
      subst ev
      have HXL := hide2 hxl
      have hszr := TS.out.l.bl.size
      clear hpt hxl
      by_cases hend : i < pl
      · have hil : (i : Int) < (pl : Int) := by omega
        have hi20 : (i : Int) < 20 := by omega
        obtain ⟨b, off, epo, hbl, hcell⟩ := (HP0.out.keep TS.out.l.bl).2.2.2 (by omega)
        obtain ⟨x, hx⟩ := some_at HPS.out.1 (i := i) (by omega)
        subst epo
        have q0 : wr.cell? ⟨b, off + i, none⟩ = some (.int .i64 x) := by have := hcell i x hx 0 _ rfl; simpa using this
        have HTK := hide2 (take_snoc hx)
        have HO3 : Hid (wr.ownsRow w0.heap.size 3 1 (.slice va (m + i) vcp) (m + i) ((((List.range' 1 m).map fun c : Nat => (c : Int)) ++ ps.take i).map iv)) := hide2 (by have z := TS.out.a; unfold Ir at z; rw [HXL.out] at z; exact z)
        have HNEW := hide2 (hcell_new wr (.int .i64 x) 3)
        clear hcell hx
        go_wp2_with (at_builtin; refine Hid.out ?_)
        refine hide2 ?_
        refine wpList_append_own_at _ rfl _ _ 29 rfl w0.heap.size 3 i0 (.int .i64 0) 1 8 Tryd.underlying29 hi0 z0 z1 z2 rfl (by decide) (.slice va (m + i) vcp) _ _ rfl (World.ownsRow.alloc HO3.out _) ⟨wr.heap.size, 0, none⟩ 1 1 [.int .i64 x] rfl rfl HNEW.out (by simp [Value.oneCell']) (by unfold maxLen; omega) (by omega) (by simp; omega) ?_
        intro v' x4 hown4 hgrow4 hat4 hb4
        obtain ⟨gt, capt, ev⟩ := hrow_succ hown4
        have hFg : Fr (fun j => (Value.slice va (m + i) vcp).ownBlock = some j) wr x4 := ((Fr.refl (fun j => (Value.slice va (m + i) vcp).ownBlock = some j) wr).alloc (.cells #[.int .i64 x] 3)).trans (Fr.grown hgrow4 (fun j e => e)) (fun j e => .inl e)
        have hr8 : Ir x4 w0.heap.size v' (((List.range' 1 m).map fun c : Nat => (c : Int)) ++ ps.take (i + 1)) := by
          unfold Ir
          rw [HTK.out, ← List.append_assoc, List.length_append, HXL.out, List.length_singleton, List.map_append]
          exact hown4
        have HT8 := hide2 (TS.out.row hw0 hFg hr8 (fun j e => by
          rcases hb4 with z | z
          · exact .inl (by rw [← z]; exact e)
          · right
            rw [z] at e
            simp at e
            omega))
        clear hown4 hgrow4 hat4 hb4 hFg hr8 HNEW HO3 TS
        subst ev
        go_frame
        go_wp2
        go_roundw
        case rel => exact ⟨i + 1, by omega, by go_num, HT8⟩
        case measure => simp [intOf]; omega
      · obtain rfl : pl = i := by omega
        have hil : ¬ (pl : Int) < (pl : Int) := by omega
        obtain ⟨X, hX⟩ : ∃ X, X = ((List.range' 1 m).map fun c : Nat => (c : Int)) ++ ps.take pl := ⟨_, rfl⟩
        rw [← hX] at TS HXL
        have HXI : Hid (∀ x ∈ X, i64ok x) := hide2 (fun x hx => by
          rw [hX] at hx
          rcases List.mem_append.1 hx with q | q
          · obtain ⟨y, hy, rfl⟩ := List.mem_map.1 q
            have := List.mem_range'_1.1 hy
            exact ⟨by omega, by omega⟩
          · exact HPI.out x (List.mem_of_mem_take q))
        have HX := hide2 hX
        obtain ⟨n, hn⟩ : ∃ n, n = m + pl := ⟨_, rfl⟩
        have hn40 : n ≤ 40 := by omega
        rw [← hn] at HXL TS
        rw [← hn]
        have HNE := hide2 hn
        clear hX hn
        go_wp2
        go_loopw [16, 15] (fun a c wr => ∃ k vs : Nat, k ≤ n ∧ a = .int .i64 k ∧ c = .int .i64 (vs : Int) ∧ vs ≤ 6000 * k ∧ Hid (Tst w0 wr K J sb d rb M A u st (.slice na m ncp) m (.slice va n vcp) X)) (fun a _ _ => n - (intOf a).toNat)
        case atStart => exact ⟨0, 0, by omega, rfl, rfl, by omega, TS⟩
        case round =>
          clear TS
          obtain ⟨k, vs, hk, rfl, rfl, hvs, TS⟩ := hrel
          by_cases hkn : k < n
          · have hkn2 : (k : Int) < (n : Int) := by omega
            obtain ⟨ao9, cp9, ev9, hsq⟩ := TS.out.a.seq
            rw [HXL.out] at ev9 hsq
            injection ev9 with e1 e2 e3
            subst e1 e3
            obtain ⟨b, off, epo, hbl, hcell⟩ := hsq.1.2.2.2 (by omega)
            obtain ⟨x, hx⟩ := some_at hsq.1.1 (i := k) hkn
            subst epo
            have q0 : wr.cell? ⟨b, off + k, none⟩ = some (.int .i64 x) := by have := hcell k x hx 0 _ rfl; simpa using this
            obtain ⟨l, hc, hll⟩ := chN_ex TS.out.l.p.ok x
            have HCR := hide2 (rchainN TS.out.l.r hc (by omega))
            have hll9 : l.length ≤ 5001 := by omega
            clear hcell hx hc hsq
            go_wp2_with fail
            refine HCR.out.mono ?_
            rintro e x4 ⟨v2, rfl, hv2, hb5⟩
            obtain ⟨la2, lc2, ev⟩ := hv2.form
            subst ev
            have HT8 := hide2 (TS.out.below hb5)
            clear HCR hv2 hb5 TS
            go_wp2
            go_roundw
            case rel => exact ⟨k + 1, vs + l.length, by omega, by go_num, by go_num, by omega, HT8⟩
            case measure => simp [intOf]; omega
          · obtain rfl : k = n := by omega
            have hkn2 : ¬ (k : Int) < (k : Int) := by omega
            have HUS := hide2 (Rp.used TS.out.l.p)
            obtain ⟨ao9, cp9, ev9, hsq⟩ := TS.out.a.seq
            rw [HXL.out] at ev9 hsq
            injection ev9 with e1 e2 e3
            subst e1 e3
            have HBG := hide2 (begin_any hsq.1 (by omega) mark (some ⟨sb, 0, none⟩))
            have hszt := TS.out.l.bl.size
            clear hsq
            go_wp2_with fail
            refine HUS.out.mono ?_
            rintro e x1 ⟨rfl, q1⟩
            subst q1
            clear HUS
            go_wp2_with fail
            refine HBG.out.mono ?_
            rintro e x2 ⟨ob, Q, rfl, hO, hb2⟩
            have HGE := hide2 (gone_early hO)
            obtain ⟨B, hB⟩ : ∃ B, B = x1.heap.size := ⟨_, rfl⟩
            rw [← hB] at hO
            have hBw : w0.heap.size ≤ B := by omega
            have HQL : Hid (∀ j, Q j → B ≤ j) := hide2 (fun j hj => (hO.ql j hj).1)
            have HQN : Hid (∀ j, (Value.slice na m ncp).ownBlock = some j → ¬ Q j) := hide2 (fun j e q => by have := (hO.ql j q).1; have := (World.ownsRow.lt TS.out.n j e).2; omega)
            have HQA : Hid (∀ j, (Value.slice va k vcp).ownBlock = some j → ¬ Q j) := hide2 (fun j e q => by have := (hO.ql j q).1; have := (World.ownsRow.lt TS.out.a j e).2; omega)
            have HQJ : Hid (∀ j, J j → ¬ Q j) := hide2 (fun j e q => by have := (hO.ql j q).1; have := TS.out.l.kl (.inr e); omega)
            have HQK : Hid (∀ j, Q j → ¬ K j) := hide2 (fun j q e => by have := (hO.ql j q).1; have := TS.out.l.kl (.inl e); omega)
            have HTQ := hide2 (TS.out.below hb2).q
            have HO := hide2 hO
            clear HBG hO hb2 TS hB
            go_wp2_with fail
            refine HGE.out.mono ?_
            rintro e x3 ⟨rfl, q3⟩
            subst q3
            clear HGE
            go_wp2
            go_loopw [21] (fun a wr => ∃ (j : Nat) (ys : List Int), j ≤ k ∧ a = .int .i64 j ∧ ys.length = k ∧ Hid (Tq w0 wr K J sb d rb M A u A u st (.slice na m ncp) m (.slice va k vcp) ys) ∧ Hid (Opm wr B Q ob (some ⟨sb, 0, none⟩) X mark 0 false)) (fun a _ => k - (intOf a).toNat)
            case atStart => exact ⟨0, X, by omega, rfl, HXL.out, HTQ, HO⟩
            case round =>
              clear HTQ HO
              obtain ⟨j, ys, hj, rfl, hyl, TQ, O⟩ := hrel
              by_cases hjk : j < k
              · have hjk2 : (j : Int) < (k : Int) := by omega
                obtain ⟨g, hg⟩ : ∃ g, va = some ⟨g, 0, none⟩ := by
                  rcases TQ.out.a.2 with ⟨z, z2⟩ | ⟨g, c2, cur, z, _⟩
                  · omega
                  · injection z with z; exact ⟨g, z⟩
                subst hg
                have hgl := (World.ownsRow.lt TQ.out.a g rfl).2
                have hTy : Tq w0 wr K J sb d rb M A u A u st (.slice na m ncp) m (.slice (some ⟨g, 0, none⟩) ys.length vcp) ys := by rw [hyl]; exact TQ.out
                obtain ⟨t1, t2⟩ := hTy.set (x := -7) (k := j) hw0 (by omega)
                rw [hyl] at t1
                have c0 : wr.cell? ⟨g, j, none⟩ = some (.int .i64 (ys.getD j 0)) := by
                  have z := World.ownsRow.cellAt hTy.a j (by omega)
                  rw [z, List.getElem?_map, List.getElem?_eq_getElem (by omega : j < ys.length)]
                  simp [iv, List.getD, List.getElem?_eq_getElem (by omega : j < ys.length)]
                have fz : wr.frozen? ⟨g, j, none⟩ = false := World.ownsRow.frozenAt hTy.a j
                have HT9 := hide2 t1
                have HO9 := hide2 (O.out.keep t2 (fun i hi e => HQA.out g rfl (e ▸ hi)))
                have HYL : Hid ((ys.set j (-7)).length = k) := hide2 (by rw [List.length_set]; exact hyl)
                clear t1 t2 hTy TQ O hyl
                go_wp2
                go_roundw
                case rel => exact ⟨j + 1, ys.set j (-7), by omega, by go_num, HYL.out, HT9, HO9⟩
                case measure => simp [intOf]; omega
              · obtain rfl : j = k := by omega
                have hjk2 : ¬ (j : Int) < (j : Int) := by omega
                have HYL := hide2 hyl
                have HDN : Hid (∀ most : Int, (j : Int) + 1 ≤ most → most ≤ 1000000000000 → Calls Tryd.prog 19 #[.pointer (some ⟨ob, 0, none⟩), .int .i64 most] wr fun e w' => ∃ c : Nat, e = .returned (.int .i64 (c : Int)) ∧ 0 < c ∧ c ≤ 1000 ∧ DoneR wr w' K Q sb d 4000 M B ob mark A u X) := hide2 (fun most h1 h2 => done_all TQ.out.p O.out (by omega) HQK.out HXI.out (by omega) (by rw [HXL.out]; omega) (by omega) (by omega) (by rw [HXL.out]; exact h1) h2)
                clear hyl O
                go_wp2_with fail
                refine (HDN.out _ (by omega) (by omega)).mono ?_
                rintro e x4 ⟨c1, rfl, hc1, hc19, hD⟩
                obtain ⟨A', G, K', s1, s2, s3, s4, s5⟩ := TQ.out.done hBw HQN.out HQA.out HQJ.out HQL.out hD
                rw [HXL.out] at s5
                have HS1 := hide2 s1
                have HTQ := hide2 s5
                have HGL := hide2 (gone_late s4)
                have HSD := hide2 (ostep_done s4)
                have hla5 : A.la 1 ≤ 5000 := by omega
                clear HDN hD s1 s4 s5 TQ
                go_wp2_with fail
                refine HGL.out.mono ?_
                rintro e x5 ⟨rfl, q5⟩
                subst q5
                clear HGL
                go_wp2_with fail
                refine HSD.out.mono ?_
                rintro e x6 ⟨rfl, q6⟩
                subst q6
                clear HSD
                go_wp2
                go_loopw [26] (fun a wr => ∃ (i2 : Nat) (zs : List Int), i2 ≤ pl ∧ a = .int .i64 i2 ∧ zs.length = j ∧ Hid (∀ t, t < i2 → zs[m + t]? = X[m + t]?) ∧ Hid (Tq w0 wr K' J sb d rb (M + 30000 * j) A' (u - 3 * G) A u st (.slice na m ncp) m (.slice va j vcp) zs)) (fun a _ => pl - (intOf a).toNat)
                case atStart => exact ⟨0, ys, by omega, rfl, HYL.out, hide2 (fun t h => by omega), HTQ⟩
                case round =>
                  clear HTQ
                  obtain ⟨i2, zs, hi2, rfl, hzl, EQ, TQ⟩ := hrel
                  have hne := HNE.out
                  have HZL := hide2 hzl
                  by_cases hend : i2 < pl
                  · have hil : (i2 : Int) < (pl : Int) := by omega
                    have hi20 : (i2 : Int) < 20 := by omega
                    obtain ⟨g, hg⟩ : ∃ g, va = some ⟨g, 0, none⟩ := by
                      rcases TQ.out.a.2 with ⟨z, z2⟩ | ⟨g, c2, cur, z, _⟩
                      · omega
                      · injection z with z; exact ⟨g, z⟩
                    subst hg
                    have hgl := (World.ownsRow.lt TQ.out.a g rfl).2
                    obtain ⟨b, off, epo, hbl, hcell⟩ := (HP0.out.keep TQ.out.bl).2.2.2 (by omega)
                    obtain ⟨x, hx⟩ := some_at HPS.out.1 (i := i2) (by omega)
                    subst epo
                    have q0 : wr.cell? ⟨b, off + i2, none⟩ = some (.int .i64 x) := by have := hcell i2 x hx 0 _ rfl; simpa using this
                    have hTy : Tq w0 wr K' J sb d rb (M + 30000 * j) A' (u - 3 * G) A u st (.slice na m ncp) m (.slice (some ⟨g, 0, none⟩) zs.length vcp) zs := by rw [hzl]; exact TQ.out
                    obtain ⟨t1, t2⟩ := hTy.set (x := x) (k := m + i2) hw0 (by omega)
                    rw [hzl] at t1
                    have hXx : X[m + i2]? = some x := by
                      rw [HX.out, List.getElem?_append_right (by simp), List.length_map, List.length_range', show m + i2 - m = i2 by omega, List.getElem?_take, if_pos hend]
                      exact hx
                    have c0 : wr.cell? ⟨g, m + i2, none⟩ = some (.int .i64 (zs.getD (m + i2) 0)) := by
                      have z := World.ownsRow.cellAt hTy.a (m + i2) (by omega)
                      rw [z, List.getElem?_map, List.getElem?_eq_getElem (by omega : m + i2 < zs.length)]
                      simp [iv, List.getD, List.getElem?_eq_getElem (by omega : m + i2 < zs.length)]
                    have fz : wr.frozen? ⟨g, m + i2, none⟩ = false := World.ownsRow.frozenAt hTy.a (m + i2)
                    have hmi : (m : Int) + (i2 : Int) < (j : Int) := by omega
                    have HT9 := hide2 t1
                    have HYL2 : Hid ((zs.set (m + i2) x).length = j) := hide2 (by rw [List.length_set]; exact hzl)
                    have HEQ : Hid (∀ t, t < i2 + 1 → (zs.set (m + i2) x)[m + t]? = X[m + t]?) := hide2 (fun t ht => by
                      rw [List.getElem?_set]
                      by_cases e : t = i2
                      · rw [e, if_pos rfl, if_pos (by rw [hzl]; omega), hXx]
                      · rw [if_neg (by omega)]; exact EQ.out t (by omega))
                    clear t1 t2 hTy TQ EQ hzl hcell hx hXx hne
                    go_wp2
                    go_roundw
                    case rel => exact ⟨i2 + 1, zs.set (m + i2) x, by omega, by go_num, HYL2.out, HEQ, HT9⟩
                    case measure => simp [intOf]; omega
                  · obtain rfl : pl = i2 := by omega
                    have hil : ¬ (pl : Int) < (pl : Int) := by omega
                    clear hzl hne
                    go_wp2
                    go_loopw [27] (fun a wr => ∃ (i3 : Nat) (zs : List Int), i3 ≤ m ∧ a = .int .i64 i3 ∧ zs.length = j ∧ Hid (∀ t, t < pl → zs[m + t]? = X[m + t]?) ∧ Hid (∀ t, t < i3 → zs[t]? = X[t]?) ∧ Hid (Tq w0 wr K' J sb d rb (M + 30000 * j) A' (u - 3 * G) A u st (.slice na m ncp) m (.slice va j vcp) zs)) (fun a _ => m - (intOf a).toNat)
                    case atStart => exact ⟨0, zs, by omega, rfl, HZL.out, EQ, hide2 (fun t h => by omega), TQ⟩
                    case round =>
                      clear EQ TQ HZL
                      obtain ⟨i3, zs, hi3, rfl, hzl, EQ, EQ2, TQ⟩ := hrel
                      have hne := HNE.out
                      have HZL := hide2 hzl
                      by_cases hend3 : i3 < m
                      · have hend4 : (i3 : Int) < (m : Int) := by omega
                        obtain ⟨g, hg⟩ : ∃ g, va = some ⟨g, 0, none⟩ := by
                          rcases TQ.out.a.2 with ⟨z, z2⟩ | ⟨g, c2, cur, z, _⟩
                          · omega
                          · injection z with z; exact ⟨g, z⟩
                        subst hg
                        have hgl := (World.ownsRow.lt TQ.out.a g rfl).2
                        obtain ⟨g0, cap0, evn, q0⟩ := TQ.out.n.at (i := i3) (by rw [List.length_range']; exact hend3)
                        rw [range_getD hend3] at q0
                        rw [List.length_range'] at evn
                        injection evn with e1 e2 e3
                        subst e1 e3
                        have hg0 := (World.ownsRow.lt TQ.out.n g0 rfl).2
                        have hTy : Tq w0 wr K' J sb d rb (M + 30000 * j) A' (u - 3 * G) A u st (.slice (some ⟨g0, 0, none⟩) m ncp) m (.slice (some ⟨g, 0, none⟩) zs.length vcp) zs := by rw [hzl]; exact TQ.out
                        obtain ⟨t1, t2⟩ := hTy.set (x := ((i3 + 1 : Nat) : Int)) (k := i3) hw0 (by omega)
                        rw [hzl] at t1
                        have hXx : X[i3]? = some ((i3 + 1 : Nat) : Int) := by
                          rw [HX.out, List.getElem?_append_left (by simp; omega), List.getElem?_map, List.getElem?_range' hend3]
                          simp; omega
                        have c0 : wr.cell? ⟨g, i3, none⟩ = some (.int .i64 (zs.getD i3 0)) := by
                          have z := World.ownsRow.cellAt hTy.a i3 (by omega)
                          rw [z, List.getElem?_map, List.getElem?_eq_getElem (by omega : i3 < zs.length)]
                          simp [iv, List.getD, List.getElem?_eq_getElem (by omega : i3 < zs.length)]
                        have fz : wr.frozen? ⟨g, i3, none⟩ = false := World.ownsRow.frozenAt hTy.a i3
                        have hmi : (i3 : Int) < (j : Int) := by omega
                        have HT9 := hide2 t1
                        have HYL2 : Hid ((zs.set i3 ((i3 + 1 : Nat) : Int)).length = j) := hide2 (by rw [List.length_set]; exact hzl)
                        have HEQ : Hid (∀ t, t < pl → (zs.set i3 ((i3 + 1 : Nat) : Int))[m + t]? = X[m + t]?) := hide2 (fun t ht => by
                          rw [List.getElem?_set, if_neg (by omega)]; exact EQ.out t ht)
                        have HEQ2 : Hid (∀ t, t < i3 + 1 → (zs.set i3 ((i3 + 1 : Nat) : Int))[t]? = X[t]?) := hide2 (fun t ht => by
                          rw [List.getElem?_set]
                          by_cases e : t = i3
                          · rw [e, if_pos rfl, if_pos (by rw [hzl]; omega), hXx]
                          · rw [if_neg (by omega)]; exact EQ2.out t (by omega))
                        clear t1 t2 hTy TQ EQ EQ2 hzl hXx hne
                        go_wp2
                        go_roundw
                        case rel => exact ⟨i3 + 1, zs.set i3 ((i3 + 1 : Nat) : Int), by omega, by go_num, HYL2.out, HEQ, HEQ2, HT9⟩
                        case measure => simp [intOf]; omega
                      · obtain rfl : i3 = m := by omega
                        have hend4 : ¬ (i3 : Int) < (i3 : Int) := by omega
                        have hzX : zs = X := by
                          apply List.ext_getElem?
                          intro t
                          by_cases z1 : t < i3
                          · exact EQ2.out t z1
                          · by_cases z2 : t < j
                            · have := EQ.out (t - i3) (by omega)
                              rw [show i3 + (t - i3) = t by omega] at this
                              exact this
                            · rw [List.getElem?_eq_none (by omega), List.getElem?_eq_none (by rw [HXL.out]; omega)]
                        have hTX := TQ.out
                        rw [hzX] at hTX
                        obtain ⟨ao9, cp9, ev9, hsq⟩ := hTX.a.seq
                        rw [HXL.out] at ev9 hsq
                        injection ev9 with e1 e2 e3
                        subst e1 e3
                        have hJa : ∀ b off, va = some ⟨b, off, none⟩ → ¬ J b := fun b off e => fun q => hTX.aa b (hsq.2 b off e).1 (.inr q)
                        have hu9 : u ≤ 4000 := by omega
                        have HRS := hide2 (rsweep_any (mark := mark) hTX.r hsq.1 hJa (by omega) hla5 ⟨by omega, by omega⟩ (by have := hTX.bl.size; omega))
                        have HTX := hide2 hTX
                        clear EQ EQ2 TQ hzX hsq hJa hTX hzl hne HZL
                        go_wp2_with fail
                        refine HRS.out.mono ?_
                        rintro e x7 ⟨G2, rfl, A2, s6, hR7⟩
                        obtain ⟨eA, eG⟩ := HS1.out.det s6
                        subst eA
                        subst eG
                        obtain ⟨J7, l7, n7, a7⟩ := HTX.out.both rfl s2 hR7
                        have HSM := hide2 (vsame_any (M2 := 0) l7 n7 a7 (by omega) (by rw [s3]; exact hla5) (by omega) hw0)
                        have hc1' : (0 : Int) < (c1 : Int) := by omega
                        clear HRS s6 hR7 l7 n7 a7 HTX HS1
                        go_wp2_with fail
                        refine HSM.out.mono ?_
                        rintro e x8 ⟨rfl, K8, J8, l8⟩
                        have HUS := hide2 (Rp.used l8.p)
                        have HBA : Hid (Below w.heap.size w x8) := hide2 (HB0.out.trans ⟨l8.bl.os, l8.bl.tape, l8.bl.output, l8.bl.size, fun j hj => l8.bl.block j (by omega)⟩)
                        have hG9 : ((u - 3 * G : Nat) : Int) = (u : Int) - 3 * (G : Int) := by omega
                        rw [hG9] at HUS
                        have hGb : G ≤ 4000 := by omega
                        clear HSM l8 hG9
                        go_wp2_with fail
                        refine HUS.out.mono ?_
                        rintro e x9 ⟨rfl, q9⟩
                        subst q9
                        clear HUS
                        go_wp2
                        go_ret
                        exact ⟨by simp, HBA.out⟩
  · obtain ⟨cc, hcc1, hcc2⟩ : ∃ cc : Nat, cc ≤ 20 ∧ 20 ≤ cc := ⟨20, Nat.le_refl _, Nat.le_refl _⟩
    go_wp2_with fail
    refine HSH.out.mono ?_
    rintro e w0 ⟨rfl, hb0⟩
    have HB0 := hide2 hb0
    have hsz0 := hb0.size
    have hw0 : 0 < w0.heap.size := by omega
    have HLD := hide2 (laid_any (HT.out.fr (Fr.below (F := fun _ => False) hb0) id) (HS.out.keep hb0) (fun c hc => (HCS.out c hc).keep hb0))
    have HP0 := hide2 (HPS.out.keep hb0)
    obtain ⟨m, hm⟩ : ∃ m, m = min len 20 := ⟨_, rfl⟩
    rw [← hm] at HLD
    have hm20 : m ≤ 20 := by omega
    clear HSH hb0 hm HS HCS HT
    go_wp2_with fail
    refine HLD.out.mono ?_
    rintro e w2 ⟨sb, d, rb, nvv, rfl, K, J, M, A, u, st, L, W, S⟩
    obtain ⟨na, ncp, ev⟩ := S.h.form
    rw [List.length_range'] at ev
    subst ev
    have bM := S.bM
    have bu := S.bu
    have bs := S.bs
    have bl := S.bl
    have hszl := S.l.bl.size
    obtain ⟨wm, hmk, r1, r2⟩ := run_make_own (P := Tryd.prog) (w := w2) w0.heap.size 29 3 i0 (.int .i64 0) 1 Tryd.underlying29 hi0 z0 z1 .i64 .i64 (m + 20) (by rw [z2]; omega) (by unfold maxLen; omega) (by omega)
    have hbm : Below w2.heap.size w2 wm := ⟨r2.os, r2.tape, r2.output, r2.size, fun j hj => r2.block j hj (by intro e; cases e)⟩
    have hnm : Hr wm w0.heap.size (.slice na m ncp) (List.range' 1 m) := S.h.fr (Fr.below (F := fun _ => False) hbm) (fun _ _ => id)
    obtain ⟨av, w3, hap, hIr, hgr, hbk⟩ := nodes_append r1 hnm (by rw [List.length_range']; omega) (by have := hbm.size; omega)
    have hszm := hbm.size
    have hown : (Value.slice (some ⟨w2.heap.size, 0, none⟩) 0 (m + 20)).ownBlock = some w2.heap.size := rfl
    have hmk2 : (Instr.makeSlice 29 (.int .i64 0) (.int .i64 ((m : Int) + 20))).run Tryd.prog w2 = .ok (.slice (some ⟨w2.heap.size, 0, none⟩) 0 (m + 20)) wm := hmk
    have hF3 : Fr (fun j => j = w2.heap.size) wm w3 := Fr.grown hgr (fun j e => by rw [hown] at e; injection e with e; exact e.symm)
    have hap2 : ∀ j, av.ownBlock = some j → w2.heap.size ≤ j := fun j e => by
      rcases hbk with z | z
      · rw [z, hown] at e; injection e with e; omega
      · rw [z] at e; injection e with e; omega
    have T0 : Tst w0 w3 K J sb d rb M A u st (.slice na m ncp) m av ((List.range' 1 m).map fun c : Nat => (c : Int)) := by
      have l3 := (S.l.below hbm).keep hF3 (fun j hj e => by have := S.l.kl hj; omega) (fun j e => by omega) hw0
      refine ⟨l3, hnm.fr hF3 (fun j e q => by have := (World.ownsRow.lt S.h j e).2; omega), S.a, hIr, fun j e q => ?_, fun j e q => ?_⟩
      · have := hap2 j e; have := S.l.kl q; omega
      · have := hap2 j e; have := (World.ownsRow.lt S.h j q).2; omega
    have HT0 := hide2 T0
    obtain ⟨xa, xc, eav, -⟩ := hIr.seq
    have HN0 := hide2 S.n
    clear HLD S hmk r1 r2 hbm hnm hIr hgr hbk hF3 hap2 T0 hown hszm
    go_wp2_with (at_builtin; refine Hid.out ?_)
    refine hide2 ?_
    refine wpList_append_eq rfl _ _ _ rfl _ _ av w3 rfl rfl hap ?_
    clear hap hmk2
    rw [List.length_map, List.length_range'] at eav
    subst eav
    go_frame
    go_wp2
    go_loopw [14, 13] (fun a v wr => ∃ i : Nat, i ≤ cc ∧ a = .int .i64 i ∧ Hid (Tst w0 wr K J sb d rb M A u st (.slice na m ncp) m v (((List.range' 1 m).map fun c : Nat => (c : Int)) ++ ps.take i))) (fun a _ _ => cc - (intOf a).toNat)
    case atStart => exact ⟨0, by omega, rfl, by simpa using HT0⟩
    case round =>
      clear HT0
      obtain ⟨i, hi, rfl, TS⟩ := hrel
      have hpt : (ps.take i).length = i := by rw [List.length_take, HPS.out.1]; omega
      have hxl : (((List.range' 1 m).map fun c : Nat => (c : Int)) ++ ps.take i).length = m + i := by rw [List.length_append, List.length_map, List.length_range', hpt]
      obtain ⟨va, vcp, ev, -⟩ := TS.out.a.seq
      rw [hxl] at ev
      subst ev
      have HXL := hide2 hxl
      have hszr := TS.out.l.bl.size
      clear hpt hxl
      by_cases hend : i < cc
      · have hil : (i : Int) < (pl : Int) := by omega
        have hi20 : (i : Int) < 20 := by omega
        obtain ⟨b, off, epo, hbl, hcell⟩ := (HP0.out.keep TS.out.l.bl).2.2.2 (by omega)
        obtain ⟨x, hx⟩ := some_at HPS.out.1 (i := i) (by omega)
        subst epo
        have q0 : wr.cell? ⟨b, off + i, none⟩ = some (.int .i64 x) := by have := hcell i x hx 0 _ rfl; simpa using this
        have HTK := hide2 (take_snoc hx)
        have HO3 : Hid (wr.ownsRow w0.heap.size 3 1 (.slice va (m + i) vcp) (m + i) ((((List.range' 1 m).map fun c : Nat => (c : Int)) ++ ps.take i).map iv)) := hide2 (by have z := TS.out.a; unfold Ir at z; rw [HXL.out] at z; exact z)
        have HNEW := hide2 (hcell_new wr (.int .i64 x) 3)
        clear hcell hx
        go_wp2_with (at_builtin; refine Hid.out ?_)
        refine hide2 ?_
        refine wpList_append_own_at _ rfl _ _ 29 rfl w0.heap.size 3 i0 (.int .i64 0) 1 8 Tryd.underlying29 hi0 z0 z1 z2 rfl (by decide) (.slice va (m + i) vcp) _ _ rfl (World.ownsRow.alloc HO3.out _) ⟨wr.heap.size, 0, none⟩ 1 1 [.int .i64 x] rfl rfl HNEW.out (by simp [Value.oneCell']) (by unfold maxLen; omega) (by omega) (by simp; omega) ?_
        intro v' x4 hown4 hgrow4 hat4 hb4
        obtain ⟨gt, capt, ev⟩ := hrow_succ hown4
        have hFg : Fr (fun j => (Value.slice va (m + i) vcp).ownBlock = some j) wr x4 := ((Fr.refl (fun j => (Value.slice va (m + i) vcp).ownBlock = some j) wr).alloc (.cells #[.int .i64 x] 3)).trans (Fr.grown hgrow4 (fun j e => e)) (fun j e => .inl e)
        have hr8 : Ir x4 w0.heap.size v' (((List.range' 1 m).map fun c : Nat => (c : Int)) ++ ps.take (i + 1)) := by
          unfold Ir
          rw [HTK.out, ← List.append_assoc, List.length_append, HXL.out, List.length_singleton, List.map_append]
          exact hown4
        have HT8 := hide2 (TS.out.row hw0 hFg hr8 (fun j e => by
          rcases hb4 with z | z
          · exact .inl (by rw [← z]; exact e)
          · right
            rw [z] at e
            simp at e
            omega))
        clear hown4 hgrow4 hat4 hb4 hFg hr8 HNEW HO3 TS
        subst ev
        go_frame
        go_wp2
        go_roundw
        case rel => exact ⟨i + 1, by omega, by go_num, HT8⟩
        case measure => simp [intOf]; omega
      · obtain rfl : cc = i := by omega
        have hil : (cc : Int) < (pl : Int) := by omega
        have hi20 : ¬ (cc : Int) < 20 := by omega
        obtain ⟨X, hX⟩ : ∃ X, X = ((List.range' 1 m).map fun c : Nat => (c : Int)) ++ ps.take cc := ⟨_, rfl⟩
        rw [← hX] at TS HXL
        have HXI : Hid (∀ x ∈ X, i64ok x) := hide2 (fun x hx => by
          rw [hX] at hx
          rcases List.mem_append.1 hx with q | q
          · obtain ⟨y, hy, rfl⟩ := List.mem_map.1 q
            have := List.mem_range'_1.1 hy
            exact ⟨by omega, by omega⟩
          · exact HPI.out x (List.mem_of_mem_take q))
        have HX := hide2 hX
        obtain ⟨n, hn⟩ : ∃ n, n = m + cc := ⟨_, rfl⟩
        have hn40 : n ≤ 40 := by omega
        rw [← hn] at HXL TS
        rw [← hn]
        have HNE := hide2 hn
        clear hX hn
        go_wp2
        go_loopw [16, 15] (fun a c wr => ∃ k vs : Nat, k ≤ n ∧ a = .int .i64 k ∧ c = .int .i64 (vs : Int) ∧ vs ≤ 6000 * k ∧ Hid (Tst w0 wr K J sb d rb M A u st (.slice na m ncp) m (.slice va n vcp) X)) (fun a _ _ => n - (intOf a).toNat)
        case atStart => exact ⟨0, 0, by omega, rfl, rfl, by omega, TS⟩
        case round =>
          clear TS
          obtain ⟨k, vs, hk, rfl, rfl, hvs, TS⟩ := hrel
          by_cases hkn : k < n
          · have hkn2 : (k : Int) < (n : Int) := by omega
            obtain ⟨ao9, cp9, ev9, hsq⟩ := TS.out.a.seq
            rw [HXL.out] at ev9 hsq
            injection ev9 with e1 e2 e3
            subst e1 e3
            obtain ⟨b, off, epo, hbl, hcell⟩ := hsq.1.2.2.2 (by omega)
            obtain ⟨x, hx⟩ := some_at hsq.1.1 (i := k) hkn
            subst epo
            have q0 : wr.cell? ⟨b, off + k, none⟩ = some (.int .i64 x) := by have := hcell k x hx 0 _ rfl; simpa using this
            obtain ⟨l, hc, hll⟩ := chN_ex TS.out.l.p.ok x
            have HCR := hide2 (rchainN TS.out.l.r hc (by omega))
            have hll9 : l.length ≤ 5001 := by omega
            clear hcell hx hc hsq
            go_wp2_with fail
            refine HCR.out.mono ?_
            rintro e x4 ⟨v2, rfl, hv2, hb5⟩
            obtain ⟨la2, lc2, ev⟩ := hv2.form
            subst ev
            have HT8 := hide2 (TS.out.below hb5)
            clear HCR hv2 hb5 TS
            go_wp2
            go_roundw
            case rel => exact ⟨k + 1, vs + l.length, by omega, by go_num, by go_num, by omega, HT8⟩
            case measure => simp [intOf]; omega
          · obtain rfl : k = n := by omega
            have hkn2 : ¬ (k : Int) < (k : Int) := by omega
            have HUS := hide2 (Rp.used TS.out.l.p)
            obtain ⟨ao9, cp9, ev9, hsq⟩ := TS.out.a.seq
            rw [HXL.out] at ev9 hsq
            injection ev9 with e1 e2 e3
            subst e1 e3
            have HBG := hide2 (begin_any hsq.1 (by omega) mark (some ⟨sb, 0, none⟩))
            have hszt := TS.out.l.bl.size
            clear hsq
            go_wp2_with fail
            refine HUS.out.mono ?_
            rintro e x1 ⟨rfl, q1⟩
            subst q1
            clear HUS
            go_wp2_with fail
            refine HBG.out.mono ?_
            rintro e x2 ⟨ob, Q, rfl, hO, hb2⟩
            have HGE := hide2 (gone_early hO)
            obtain ⟨B, hB⟩ : ∃ B, B = x1.heap.size := ⟨_, rfl⟩
            rw [← hB] at hO
            have hBw : w0.heap.size ≤ B := by omega
            have HQL : Hid (∀ j, Q j → B ≤ j) := hide2 (fun j hj => (hO.ql j hj).1)
            have HQN : Hid (∀ j, (Value.slice na m ncp).ownBlock = some j → ¬ Q j) := hide2 (fun j e q => by have := (hO.ql j q).1; have := (World.ownsRow.lt TS.out.n j e).2; omega)
            have HQA : Hid (∀ j, (Value.slice va k vcp).ownBlock = some j → ¬ Q j) := hide2 (fun j e q => by have := (hO.ql j q).1; have := (World.ownsRow.lt TS.out.a j e).2; omega)
            have HQJ : Hid (∀ j, J j → ¬ Q j) := hide2 (fun j e q => by have := (hO.ql j q).1; have := TS.out.l.kl (.inr e); omega)
            have HQK : Hid (∀ j, Q j → ¬ K j) := hide2 (fun j q e => by have := (hO.ql j q).1; have := TS.out.l.kl (.inl e); omega)
            have HTQ := hide2 (TS.out.below hb2).q
            have HO := hide2 hO
            clear HBG hO hb2 TS hB
            go_wp2_with fail
            refine HGE.out.mono ?_
            rintro e x3 ⟨rfl, q3⟩
            subst q3
            clear HGE
            go_wp2
            go_loopw [21] (fun a wr => ∃ (j : Nat) (ys : List Int), j ≤ k ∧ a = .int .i64 j ∧ ys.length = k ∧ Hid (Tq w0 wr K J sb d rb M A u A u st (.slice na m ncp) m (.slice va k vcp) ys) ∧ Hid (Opm wr B Q ob (some ⟨sb, 0, none⟩) X mark 0 false)) (fun a _ => k - (intOf a).toNat)
            case atStart => exact ⟨0, X, by omega, rfl, HXL.out, HTQ, HO⟩
            case round =>
              clear HTQ HO
              obtain ⟨j, ys, hj, rfl, hyl, TQ, O⟩ := hrel
              by_cases hjk : j < k
              · have hjk2 : (j : Int) < (k : Int) := by omega
                obtain ⟨g, hg⟩ : ∃ g, va = some ⟨g, 0, none⟩ := by
                  rcases TQ.out.a.2 with ⟨z, z2⟩ | ⟨g, c2, cur, z, _⟩
                  · omega
                  · injection z with z; exact ⟨g, z⟩
                subst hg
                have hgl := (World.ownsRow.lt TQ.out.a g rfl).2
                have hTy : Tq w0 wr K J sb d rb M A u A u st (.slice na m ncp) m (.slice (some ⟨g, 0, none⟩) ys.length vcp) ys := by rw [hyl]; exact TQ.out
                obtain ⟨t1, t2⟩ := hTy.set (x := -7) (k := j) hw0 (by omega)
                rw [hyl] at t1
                have c0 : wr.cell? ⟨g, j, none⟩ = some (.int .i64 (ys.getD j 0)) := by
                  have z := World.ownsRow.cellAt hTy.a j (by omega)
                  rw [z, List.getElem?_map, List.getElem?_eq_getElem (by omega : j < ys.length)]
                  simp [iv, List.getD, List.getElem?_eq_getElem (by omega : j < ys.length)]
                have fz : wr.frozen? ⟨g, j, none⟩ = false := World.ownsRow.frozenAt hTy.a j
                have HT9 := hide2 t1
                have HO9 := hide2 (O.out.keep t2 (fun i hi e => HQA.out g rfl (e ▸ hi)))
                have HYL : Hid ((ys.set j (-7)).length = k) := hide2 (by rw [List.length_set]; exact hyl)
                clear t1 t2 hTy TQ O hyl
                go_wp2
                go_roundw
                case rel => exact ⟨j + 1, ys.set j (-7), by omega, by go_num, HYL.out, HT9, HO9⟩
                case measure => simp [intOf]; omega
              · obtain rfl : j = k := by omega
                have hjk2 : ¬ (j : Int) < (j : Int) := by omega
                have HYL := hide2 hyl
                have HDN : Hid (∀ most : Int, (j : Int) + 1 ≤ most → most ≤ 1000000000000 → Calls Tryd.prog 19 #[.pointer (some ⟨ob, 0, none⟩), .int .i64 most] wr fun e w' => ∃ c : Nat, e = .returned (.int .i64 (c : Int)) ∧ 0 < c ∧ c ≤ 1000 ∧ DoneR wr w' K Q sb d 4000 M B ob mark A u X) := hide2 (fun most h1 h2 => done_all TQ.out.p O.out (by omega) HQK.out HXI.out (by omega) (by rw [HXL.out]; omega) (by omega) (by omega) (by rw [HXL.out]; exact h1) h2)
                clear hyl O
                go_wp2_with fail
                refine (HDN.out _ (by omega) (by omega)).mono ?_
                rintro e x4 ⟨c1, rfl, hc1, hc19, hD⟩
                obtain ⟨A', G, K', s1, s2, s3, s4, s5⟩ := TQ.out.done hBw HQN.out HQA.out HQJ.out HQL.out hD
                rw [HXL.out] at s5
                have HS1 := hide2 s1
                have HTQ := hide2 s5
                have HGL := hide2 (gone_late s4)
                have HSD := hide2 (ostep_done s4)
                have hla5 : A.la 1 ≤ 5000 := by omega
                clear HDN hD s1 s4 s5 TQ
                go_wp2_with fail
                refine HGL.out.mono ?_
                rintro e x5 ⟨rfl, q5⟩
                subst q5
                clear HGL
                go_wp2_with fail
                refine HSD.out.mono ?_
                rintro e x6 ⟨rfl, q6⟩
                subst q6
                clear HSD
                go_wp2
                go_loopw [26] (fun a wr => ∃ (i2 : Nat) (zs : List Int), i2 ≤ cc ∧ a = .int .i64 i2 ∧ zs.length = j ∧ Hid (∀ t, t < i2 → zs[m + t]? = X[m + t]?) ∧ Hid (Tq w0 wr K' J sb d rb (M + 30000 * j) A' (u - 3 * G) A u st (.slice na m ncp) m (.slice va j vcp) zs)) (fun a _ => cc - (intOf a).toNat)
                case atStart => exact ⟨0, ys, by omega, rfl, HYL.out, hide2 (fun t h => by omega), HTQ⟩
                case round =>
                  clear HTQ
                  obtain ⟨i2, zs, hi2, rfl, hzl, EQ, TQ⟩ := hrel
                  have hne := HNE.out
                  have HZL := hide2 hzl
                  by_cases hend : i2 < cc
                  · have hil : (i2 : Int) < (pl : Int) := by omega
                    have hi20 : (i2 : Int) < 20 := by omega
                    obtain ⟨g, hg⟩ : ∃ g, va = some ⟨g, 0, none⟩ := by
                      rcases TQ.out.a.2 with ⟨z, z2⟩ | ⟨g, c2, cur, z, _⟩
                      · omega
                      · injection z with z; exact ⟨g, z⟩
                    subst hg
                    have hgl := (World.ownsRow.lt TQ.out.a g rfl).2
                    obtain ⟨b, off, epo, hbl, hcell⟩ := (HP0.out.keep TQ.out.bl).2.2.2 (by omega)
                    obtain ⟨x, hx⟩ := some_at HPS.out.1 (i := i2) (by omega)
                    subst epo
                    have q0 : wr.cell? ⟨b, off + i2, none⟩ = some (.int .i64 x) := by have := hcell i2 x hx 0 _ rfl; simpa using this
                    have hTy : Tq w0 wr K' J sb d rb (M + 30000 * j) A' (u - 3 * G) A u st (.slice na m ncp) m (.slice (some ⟨g, 0, none⟩) zs.length vcp) zs := by rw [hzl]; exact TQ.out
                    obtain ⟨t1, t2⟩ := hTy.set (x := x) (k := m + i2) hw0 (by omega)
                    rw [hzl] at t1
                    have hXx : X[m + i2]? = some x := by
                      rw [HX.out, List.getElem?_append_right (by simp), List.length_map, List.length_range', show m + i2 - m = i2 by omega, List.getElem?_take, if_pos hend]
                      exact hx
                    have c0 : wr.cell? ⟨g, m + i2, none⟩ = some (.int .i64 (zs.getD (m + i2) 0)) := by
                      have z := World.ownsRow.cellAt hTy.a (m + i2) (by omega)
                      rw [z, List.getElem?_map, List.getElem?_eq_getElem (by omega : m + i2 < zs.length)]
                      simp [iv, List.getD, List.getElem?_eq_getElem (by omega : m + i2 < zs.length)]
                    have fz : wr.frozen? ⟨g, m + i2, none⟩ = false := World.ownsRow.frozenAt hTy.a (m + i2)
                    have hmi : (m : Int) + (i2 : Int) < (j : Int) := by omega
                    have HT9 := hide2 t1
                    have HYL2 : Hid ((zs.set (m + i2) x).length = j) := hide2 (by rw [List.length_set]; exact hzl)
                    have HEQ : Hid (∀ t, t < i2 + 1 → (zs.set (m + i2) x)[m + t]? = X[m + t]?) := hide2 (fun t ht => by
                      rw [List.getElem?_set]
                      by_cases e : t = i2
                      · rw [e, if_pos rfl, if_pos (by rw [hzl]; omega), hXx]
                      · rw [if_neg (by omega)]; exact EQ.out t (by omega))
                    clear t1 t2 hTy TQ EQ hzl hcell hx hXx hne
                    go_wp2
                    go_roundw
                    case rel => exact ⟨i2 + 1, zs.set (m + i2) x, by omega, by go_num, HYL2.out, HEQ, HT9⟩
                    case measure => simp [intOf]; omega
                  · obtain rfl : cc = i2 := by omega
                    have hil : (cc : Int) < (pl : Int) := by omega
                    have hi20 : ¬ (cc : Int) < 20 := by omega
                    clear hzl hne
                    go_wp2
                    go_loopw [27] (fun a wr => ∃ (i3 : Nat) (zs : List Int), i3 ≤ m ∧ a = .int .i64 i3 ∧ zs.length = j ∧ Hid (∀ t, t < cc → zs[m + t]? = X[m + t]?) ∧ Hid (∀ t, t < i3 → zs[t]? = X[t]?) ∧ Hid (Tq w0 wr K' J sb d rb (M + 30000 * j) A' (u - 3 * G) A u st (.slice na m ncp) m (.slice va j vcp) zs)) (fun a _ => m - (intOf a).toNat)
                    case atStart => exact ⟨0, zs, by omega, rfl, HZL.out, EQ, hide2 (fun t h => by omega), TQ⟩
                    case round =>
                      clear EQ TQ HZL
                      obtain ⟨i3, zs, hi3, rfl, hzl, EQ, EQ2, TQ⟩ := hrel
                      have hne := HNE.out
                      have HZL := hide2 hzl
                      by_cases hend3 : i3 < m
                      · have hend4 : (i3 : Int) < (m : Int) := by omega
                        obtain ⟨g, hg⟩ : ∃ g, va = some ⟨g, 0, none⟩ := by
                          rcases TQ.out.a.2 with ⟨z, z2⟩ | ⟨g, c2, cur, z, _⟩
                          · omega
                          · injection z with z; exact ⟨g, z⟩
                        subst hg
                        have hgl := (World.ownsRow.lt TQ.out.a g rfl).2
                        obtain ⟨g0, cap0, evn, q0⟩ := TQ.out.n.at (i := i3) (by rw [List.length_range']; exact hend3)
                        rw [range_getD hend3] at q0
                        rw [List.length_range'] at evn
                        injection evn with e1 e2 e3
                        subst e1 e3
                        have hg0 := (World.ownsRow.lt TQ.out.n g0 rfl).2
                        have hTy : Tq w0 wr K' J sb d rb (M + 30000 * j) A' (u - 3 * G) A u st (.slice (some ⟨g0, 0, none⟩) m ncp) m (.slice (some ⟨g, 0, none⟩) zs.length vcp) zs := by rw [hzl]; exact TQ.out
                        obtain ⟨t1, t2⟩ := hTy.set (x := ((i3 + 1 : Nat) : Int)) (k := i3) hw0 (by omega)
                        rw [hzl] at t1
                        have hXx : X[i3]? = some ((i3 + 1 : Nat) : Int) := by
                          rw [HX.out, List.getElem?_append_left (by simp; omega), List.getElem?_map, List.getElem?_range' hend3]
                          simp; omega
                        have c0 : wr.cell? ⟨g, i3, none⟩ = some (.int .i64 (zs.getD i3 0)) := by
                          have z := World.ownsRow.cellAt hTy.a i3 (by omega)
                          rw [z, List.getElem?_map, List.getElem?_eq_getElem (by omega : i3 < zs.length)]
                          simp [iv, List.getD, List.getElem?_eq_getElem (by omega : i3 < zs.length)]
                        have fz : wr.frozen? ⟨g, i3, none⟩ = false := World.ownsRow.frozenAt hTy.a i3
                        have hmi : (i3 : Int) < (j : Int) := by omega
                        have HT9 := hide2 t1
                        have HYL2 : Hid ((zs.set i3 ((i3 + 1 : Nat) : Int)).length = j) := hide2 (by rw [List.length_set]; exact hzl)
                        have HEQ : Hid (∀ t, t < cc → (zs.set i3 ((i3 + 1 : Nat) : Int))[m + t]? = X[m + t]?) := hide2 (fun t ht => by
                          rw [List.getElem?_set, if_neg (by omega)]; exact EQ.out t ht)
                        have HEQ2 : Hid (∀ t, t < i3 + 1 → (zs.set i3 ((i3 + 1 : Nat) : Int))[t]? = X[t]?) := hide2 (fun t ht => by
                          rw [List.getElem?_set]
                          by_cases e : t = i3
                          · rw [e, if_pos rfl, if_pos (by rw [hzl]; omega), hXx]
                          · rw [if_neg (by omega)]; exact EQ2.out t (by omega))
                        clear t1 t2 hTy TQ EQ EQ2 hzl hXx hne
                        go_wp2
                        go_roundw
                        case rel => exact ⟨i3 + 1, zs.set i3 ((i3 + 1 : Nat) : Int), by omega, by go_num, HYL2.out, HEQ, HEQ2, HT9⟩
                        case measure => simp [intOf]; omega
                      · obtain rfl : i3 = m := by omega
                        have hend4 : ¬ (i3 : Int) < (i3 : Int) := by omega
                        have hzX : zs = X := by
                          apply List.ext_getElem?
                          intro t
                          by_cases z1 : t < i3
                          · exact EQ2.out t z1
                          · by_cases z2 : t < j
                            · have := EQ.out (t - i3) (by omega)
                              rw [show i3 + (t - i3) = t by omega] at this
                              exact this
                            · rw [List.getElem?_eq_none (by omega), List.getElem?_eq_none (by rw [HXL.out]; omega)]
                        have hTX := TQ.out
                        rw [hzX] at hTX
                        obtain ⟨ao9, cp9, ev9, hsq⟩ := hTX.a.seq
                        rw [HXL.out] at ev9 hsq
                        injection ev9 with e1 e2 e3
                        subst e1 e3
                        have hJa : ∀ b off, va = some ⟨b, off, none⟩ → ¬ J b := fun b off e => fun q => hTX.aa b (hsq.2 b off e).1 (.inr q)
                        have hu9 : u ≤ 4000 := by omega
                        have HRS := hide2 (rsweep_any (mark := mark) hTX.r hsq.1 hJa (by omega) hla5 ⟨by omega, by omega⟩ (by have := hTX.bl.size; omega))
                        have HTX := hide2 hTX
                        clear EQ EQ2 TQ hzX hsq hJa hTX hzl hne HZL
                        go_wp2_with fail
                        refine HRS.out.mono ?_
                        rintro e x7 ⟨G2, rfl, A2, s6, hR7⟩
                        obtain ⟨eA, eG⟩ := HS1.out.det s6
                        subst eA
                        subst eG
                        obtain ⟨J7, l7, n7, a7⟩ := HTX.out.both rfl s2 hR7
                        have HSM := hide2 (vsame_any (M2 := 0) l7 n7 a7 (by omega) (by rw [s3]; exact hla5) (by omega) hw0)
                        have hc1' : (0 : Int) < (c1 : Int) := by omega
                        clear HRS s6 hR7 l7 n7 a7 HTX HS1
                        go_wp2_with fail
                        refine HSM.out.mono ?_
                        rintro e x8 ⟨rfl, K8, J8, l8⟩
                        have HUS := hide2 (Rp.used l8.p)
                        have HBA : Hid (Below w.heap.size w x8) := hide2 (HB0.out.trans ⟨l8.bl.os, l8.bl.tape, l8.bl.output, l8.bl.size, fun j hj => l8.bl.block j (by omega)⟩)
                        have hG9 : ((u - 3 * G : Nat) : Int) = (u : Int) - 3 * (G : Int) := by omega
                        rw [hG9] at HUS
                        have hGb : G ≤ 4000 := by omega
                        clear HSM l8 hG9
                        go_wp2_with fail
                        refine HUS.out.mono ?_
                        rintro e x9 ⟨rfl, q9⟩
                        subst q9
                        clear HUS
                        go_wp2
                        go_ret
                        exact ⟨by simp, HBA.out⟩
end
end Go.Proofs.YtfhcphgjaobnoaaDoor
