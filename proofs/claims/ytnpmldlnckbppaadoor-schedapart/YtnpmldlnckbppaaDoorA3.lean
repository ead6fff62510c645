/-
  moved: its walk.
-/
import Derived.Test.YtnpmldlnckbppaaDoorA2
set_option linter.unusedVariables false
set_option linter.unusedSimpArgs false
namespace Go.Proofs.YtnpmldlnckbppaaDoor
open Go.RowKit

theorem cell_four_new (w : World) (o : OpR) : ∀ j u, o.cells[j]? = some u → (w.alloc (.cells #[.int .i64 o.k, .int .i64 o.c, .int .u64 o.a, .int .u64 o.b] 42)).cell? ((⟨w.heap.size, 0, none⟩ : Addr).add j) = some u := by
  intro j u hj
  rw [addr_add, Nat.zero_add, Go.Joins.cell_of_block (heap_alloc_new w _)]
  rcases j with _ | _ | _ | _ | j
  all_goals first | (cases hj; rfl) | cases hj
theorem mvP_take (Ps : List PrR) (i k : Nat) (p : PrR) (o : OpR) (hp : Ps[i]? = some p) (ho : p.ops[k]? = some o) (hk : k < 200) : (mvP Ps i).take (k + 1) = (mvP Ps i).take k ++ [mv i o] := by
  have e : (Ps.map PrR.ops).getD i [] = p.ops := by simp [List.getD, hp]
  have e2 : (mvP Ps i)[k]? = some (mv i o) := by
    unfold mvP
    rw [e, List.getElem?_map, List.getElem?_take, if_pos hk, ho]
    rfl
  rw [List.take_add_one, e2]
  rfl
theorem mvP_lenP (Ps : List PrR) (i : Nat) (p : PrR) (hp : Ps[i]? = some p) : (mvP Ps i).length = min 200 p.ops.length := by
  have e : (Ps.map PrR.ops).getD i [] = p.ops := by simp [List.getD, hp]
  unfold mvP
  rw [e]
  simp
theorem mvQ_snoc (Ps : List PrR) (k : Nat) : mvQ Ps (k + 1) = mvQ Ps k ++ [mvP Ps k] := by simp [mvQ, List.range_succ]

set_option maxRecDepth 100000 in
set_option maxHeartbeats 16000000 in
theorem moved_any (w : World) (pao : Option Addr) (plen pcap : Nat) (Ps : List PrR) (hPs : Progs w pao plen pcap Ps) :
    Calls Tryd.prog 17 #[.slice pao plen pcap] w fun e w' => ∃ v vs, e = .returned v ∧ Lm w' w.heap.size v vs (mvQ Ps (min plen 8)) ∧ Below w.heap.size w w' := by
  obtain ⟨io, hio, zo0, zo1, zo2⟩ := info_parts infoO
  obtain ⟨is_, his, zs0, zs1, zs2⟩ := info_parts infoS
  obtain ⟨M, hM⟩ : ∃ M, M = min plen 8 := ⟨_, rfl⟩
  have HM := hide2 hM
  have hM8 : M ≤ 8 := by omega
  have hMm : M ≤ plen := by omega
  have hMo : M < plen → 8 ≤ M := by omega
  have HP := hide2 hPs
  have HPL := hide2 hPs.out.1
  have hpm := hPs.out.2.1
  have hpm2 := hPs.out.2.2.1
  unfold maxLen at hpm2
  clear hPs hM
  go_enter Tryd.func17, Tryd.ntmps17
  go_wp2
  go_loopw [3, 4] (fun v i wr => ∃ k : Nat, k ≤ M ∧ i = .int .i64 k ∧ (∃ vs, Lm wr w.heap.size v vs (mvQ Ps k)) ∧ Below w.heap.size w wr) (fun _ i _ => M - (intOf i).toNat)
  case atStart => exact ⟨0, by omega, rfl, ⟨fun _ => nilS, ⟨rfl, .inl ⟨rfl, rfl⟩⟩, fun j hj => by simp [mvQ] at hj⟩, Below.refl _ _⟩
  case round =>
    obtain ⟨k, hk, rfl, ⟨vs, hL⟩, hB⟩ := hrel
    have hvf : ∃ ao cap, u3 = .slice ao k cap := by
      have h9 := hL.row
      rw [mvQ_len] at h9
      rcases Go.Joins.ownsRow_forms h9 with ⟨e, h0⟩ | ⟨g2, c2, e⟩
      · exact ⟨none, 0, by rw [e, h0]⟩
      · exact ⟨_, _, e⟩
    obtain ⟨ao, cap, rfl⟩ := hvf
    by_cases hkM : k < M
    · have hkl : k < plen := by omega
      obtain ⟨p, hp⟩ := some_at HPL.out hkl
      obtain ⟨b, off, rfl, hbl, q0⟩ := (HP.out.keep hB).at hp
      have hpmem : p ∈ Ps := List.mem_of_getElem? hp
      obtain ⟨hs, hoo⟩ := (HP.out.keep hB).ins p hpmem
      have hpl := hs.1
      have t1 : decide ((k : Int) < (plen : Int)) = true := by simp; omega
      have t2 : decide (k < plen) = true := by simp; omega
      have t3 : decide ((k : Int) < 8) = true := by simp; omega
      have hk2 : (k : Int) < (plen : Int) := by omega
      obtain ⟨T, hT⟩ : ∃ T, T = min 200 p.len := ⟨_, rfl⟩
      have hT2 : T ≤ 200 := by omega
      have hTp : T ≤ p.len := by omega
      have hTo : T < p.len → 200 ≤ T := by omega
      have HTL : Hid ((mvP Ps k).length = T) := hide2 (by rw [mvP_lenP Ps k p hp, hpl, hT])
      have HPP := hide2 (And.intro hp (And.intro hpl hoo))
      have hwsz := hB.size
      have HQ : Hid (∀ u : World, Below wr.heap.size wr u → u.cell? ⟨b, off + k, none⟩ = some (.slice p.ao p.len p.cap) ∧ Seq 4 OpR.cells u p.ao p.len p.cap p.ops) := hide2 (fun u hu => ⟨(hu.cell (p := ⟨b, off + k, none⟩) hbl).trans q0, hs.keep hu⟩)
      have HL := hide2 hL
      have HB := hide2 hB
      have hpc := hs.2.1
      have hpc2 := hs.2.2.1
      unfold maxLen at hpc2
      clear hL hB hs hpl hoo q0 hT
      obtain ⟨wx, hwx⟩ : ∃ x, x = wr := ⟨_, rfl⟩
      subst hwx
      have HB0 : Hid (wx.heap.size ≤ wx.heap.size) := hide2 (Nat.le_refl _)
      go_wp2
      go_loopw [5, 6] (fun v i wr => ∃ j : Nat, j ≤ T ∧ i = .int .i64 j ∧ wr.ownsRow wx.heap.size 42 4 v j (((mvP Ps k).take j).flatMap OpR.cells) ∧ Below wx.heap.size wx wr) (fun _ i _ => T - (intOf i).toNat)
      case atStart => exact ⟨0, by omega, rfl, ⟨rfl, .inl ⟨rfl, rfl⟩⟩, Below.refl _ _⟩
      case round =>
        obtain ⟨j, hj, rfl, hrow, hBj⟩ := hrel
        obtain ⟨q0, hs⟩ := HQ.out wr hBj
        have hszj := hBj.size
        have hbw : b < wr.heap.size := by omega
        have hvf : ∃ ao3 cap3, u5 = .slice ao3 j cap3 := by
          rcases Go.Joins.ownsRow_forms hrow with ⟨e, h0⟩ | ⟨g2, c2, e⟩
          · exact ⟨none, 0, by rw [e, h0]⟩
          · exact ⟨_, _, e⟩
        obtain ⟨ao3, cap3, rfl⟩ := hvf
        by_cases hjT : j < T
        · obtain ⟨hp, hpl, hoo⟩ := HPP.out
          have hjl : j < p.len := by omega
          obtain ⟨o, ho⟩ := some_at hpl hjl
          obtain ⟨b2, off2, epo, hbl2, hcell⟩ := hs.2.2.2 (by omega)
          have r0 : wr.cell? ⟨b2, off2 + j * 4, none⟩ = some (.int .i64 o.k) := hcell j o ho 0 _ rfl
          have r1 := hcell j o ho 1 _ rfl
          have r2 := hcell j o ho 2 _ rfl
          have r3 := hcell j o ho 3 _ rfl
          rw [epo] at q0
          have hok := hoo o (List.mem_of_getElem? ho)
          obtain ⟨a1, a2, a3, a4, a5, a6⟩ := nrm_spec 4 o.k (by decide) (by decide) hok.1
          obtain ⟨d1, d2, d3, d4, d5, d6⟩ := nrm_spec 4 o.c (by decide) (by decide) hok.2.1
          have EM := hide2 (mvP_take Ps k j p o hp ho (by omega))
          have hmv : mv k o = ⟨(nrm 4 o.k : Int) + 1, 4 * (k : Int) + (nrm 4 o.c : Int), o.a, o.b⟩ := rfl
          have HMV := hide2 hmv
          have t5 : decide ((j : Int) < (p.len : Int)) = true := by simp; omega
          have t6 : decide (j < p.len) = true := by simp; omega
          have t7 : decide ((j : Int) < 200) = true := by simp; omega
          have hj2 : (j : Int) < (p.len : Int) := by omega
          have HR := hide2 hrow
          have HBj := hide2 hBj
          have hmo : mv k o = mv k o := rfl
          clear hcell hs hrow hBj hok hoo hp hpl ho hmv hmo
          generalize mv k o = m at *
          obtain ⟨ok, oc, oa, ob⟩ := o
          simp only at r0 r1 r2 r3 a1 a2 a3 a4 a5 a6 d1 d2 d3 d4 d5 d6 HMV
          generalize nrm 4 ok = nk at *
          generalize nrm 4 oc = nc at *
          have u1 : IntKind.i64.wrap ((nk : Int) + 1) = (nk : Int) + 1 := by rw [IntKind.wrap_i64]; omega
          have u2 : IntKind.i64.wrap (4 * (k : Int)) = 4 * (k : Int) := by rw [IntKind.wrap_i64]; omega
          have u3' : IntKind.i64.wrap (4 * (k : Int) + (nc : Int)) = 4 * (k : Int) + (nc : Int) := by rw [IntKind.wrap_i64]; omega
          go_wp2_with (at_builtin; refine Hid.out ?_)
          refine hide2 ?_
          have HNEW := hide2 (cell_four_new (wr.alloc (.cells #[.int .i64 ((nk : Int) + 1), .int .i64 (4 * (k : Int) + (nc : Int)), .int .u64 oa, .int .u64 ob] 42)) ⟨(nk : Int) + 1, 4 * (k : Int) + (nc : Int), oa, ob⟩)
          refine wpList_append_own_at _ rfl _ _ 39 rfl wx.heap.size 42 io _ 4 32 Tryd.underlying39 hio zo0 zo1 zo2 rfl (by decide) (.slice ao3 j cap3) _ _ rfl ((HR.out.alloc _).alloc _) ⟨(wr.alloc (.cells #[.int .i64 ((nk : Int) + 1), .int .i64 (4 * (k : Int) + (nc : Int)), .int .u64 oa, .int .u64 ob] 42)).heap.size, 0, none⟩ 1 1 (OpR.cells ⟨(nk : Int) + 1, 4 * (k : Int) + (nc : Int), oa, ob⟩) (by simp [Act.eval]) rfl HNEW.out (by simp [OpR.cells, Value.oneCell']) (by unfold maxLen; omega) (by omega) (by simp; omega) ?_
          intro v4 w4 hown4 hgrow4 _ hb4
          obtain ⟨gt, capt, ev⟩ := row_succ hown4
          have hB4 : Below wx.heap.size wx w4 := ((HBj.out.alloc HBj.out.size (.cells #[.int .i64 ((nk : Int) + 1), .int .i64 (4 * (k : Int) + (nc : Int)), .int .u64 oa, .int .u64 ob] 42)).alloc (by simp; omega) (.cells #[.int .i64 ((nk : Int) + 1), .int .i64 (4 * (k : Int) + (nc : Int)), .int .u64 oa, .int .u64 ob] 42)).trans ((Fr.grown (F := fun j => wx.heap.size ≤ j) hgrow4 (fun j e => (HR.out.lt j e).1)).to (fun j hj => by omega) (by simp; omega))
          have hrow4 : w4.ownsRow wx.heap.size 42 4 v4 (j + 1) (((mvP Ps k).take (j + 1)).flatMap OpR.cells) := by
            rw [EM.out, List.flatMap_append, List.flatMap_singleton, HMV.out]
            exact hown4
          have HX := hide2 (And.intro hrow4 hB4)
          clear hrow4 hB4 hown4 hgrow4 hb4 HNEW HR HBj
          subst ev
          go_frame
          go_wp2
          go_roundw
          case rel => exact ⟨j + 1, by omega, by go_num, HX.out⟩
          case measure => simp [intOf]; omega
        · obtain rfl : T = j := by omega
          have ht : (mvP Ps k).take T = mvP Ps k := by rw [← HTL.out]; exact List.take_length
          rw [ht] at hrow
          have HR := hide2 hrow
          have HBj := hide2 hBj
          have hguard : (decide ((T : Int) < (p.len : Int)) = true ∧ decide ((T : Int) < 200) = false ∧ decide (T < p.len) = true ∧ decide (T < 200) = false) ∨ (decide ((T : Int) < (p.len : Int)) = false ∧ decide (T < p.len) = false) := by
            by_cases h1 : T < p.len
            · refine .inl ⟨by simp; omega, by simp; omega, by simp; omega, by simp; omega⟩
            · refine .inr ⟨by simp; omega, by simp; omega⟩
          have HG := hide2 hguard
          clear hrow hBj hs hguard
          obtain ⟨wy, hwy⟩ : ∃ x, x = wr := ⟨_, rfl⟩
          subst hwy
          go_upto_region 7 with fail
          go_cut [28] (fun b wc => b = .bool false ∧ wc = wy)
          case first =>
            rcases HG.out with ⟨t1, t2, t3, t4⟩ | ⟨t1, t3⟩
            · go_wp2
              go_meet
              exact ⟨rfl, rfl⟩
            · go_wp2
              go_meet
              exact ⟨rfl, rfl⟩
          case rest =>
          obtain ⟨rfl, hwc⟩ := hcut
          replace hwc := hwc.symm
          subst hwc
          have HNEW := hide2 (cell_one_new wy (.slice ao3 T cap3) 39)
          have HLr := hide2 (HL.out.below HBj.out)
          have HLrow : Hid (wy.ownsRow w.heap.size 39 1 (.slice ao k cap) k ((List.range k).map vs)) := hide2 (by
            have := HLr.out.row
            rw [mvQ_len] at this
            exact this)
          go_wp2_with (at_builtin; refine Hid.out ?_)
          refine hide2 ?_
          refine wpList_append_own_at _ rfl _ _ 22 rfl w.heap.size 39 is_ nilS 1 24 Tryd.underlying22 his zs0 zs1 zs2 rfl (by decide) (.slice ao k cap) _ _ rfl (HLrow.out.alloc _) ⟨wy.heap.size, 0, none⟩ 1 1 [.slice ao3 T cap3] (by simp [Act.eval]) rfl HNEW.out (by simp [Value.oneCell']) (by unfold maxLen; omega) (by omega) (by simp; omega) ?_
          intro v4 w4 hown4 hgrow4 _ hb4
          obtain ⟨gt, capt, ev⟩ := row_succ hown4
          have hF4 : Fr (fun j => (Value.slice ao k cap).ownBlock = some j) wy w4 := ((Fr.refl (fun j => (Value.slice ao k cap).ownBlock = some j) wy).alloc (.cells #[.slice ao3 T cap3] 39)).trans (G := fun j => (Value.slice ao k cap).ownBlock = some j) (Fr.grown hgrow4 (fun j e => e)) (fun j hj => .inl hj)
          have hkind : ∀ (B n : Nat) (u : Value) (xs : List Value), wy.ownsRow B 42 4 u n xs → w4.ownsRow B 42 4 u n xs := fun B n u xs hu => row_fr hu hF4 (fun l hl e => by
            obtain ⟨c, fz, hh⟩ := Go.Lib.ownsRow_kind hu l hl
            obtain ⟨c2, fz2, hh2⟩ := Go.Lib.ownsRow_kind HLrow.out l e
            rw [hh] at hh2
            simp at hh2)
          have hB4 : Below w.heap.size w w4 := (HB.out.trans (HBj.out.mono hwsz)).trans (hF4.to (fun j hj e => by have := (HLrow.out.lt j e).1; omega) (by omega))
          have hL4 : Lm w4 w.heap.size v4 (fun i => if i = k then .slice ao3 T cap3 else vs i) (mvQ Ps (k + 1)) := by
            refine ⟨?_, fun i hi => ?_⟩
            · rw [mvQ_len, List.range_succ, List.map_append]
              have e : (List.range k).map (fun i => if i = k then Value.slice ao3 T cap3 else vs i) = (List.range k).map vs := by
                apply List.map_congr_left
                intro i hi
                have hik : i < k := by simpa using hi
                exact if_neg (by omega)
              rw [e]
              simpa using hown4
            · rw [mvQ_len] at hi
              rw [mvQ_at Ps (k + 1) i hi]
              by_cases hik : i = k
              · subst hik
                simp only [reduceIte]
                rw [HTL.out]
                exact row_low (hkind _ _ _ _ HR.out) hwsz
              · simp only [if_neg hik]
                have := HLr.out.ins i (by rw [mvQ_len]; omega)
                rw [mvQ_at Ps k i (by omega)] at this
                exact hkind _ _ _ _ this
          have HX := hide2 (And.intro (show ∃ vs, Lm w4 w.heap.size v4 vs (mvQ Ps (k + 1)) from ⟨_, hL4⟩) hB4)
          clear hL4 hB4 hown4 hgrow4 hb4 hF4 hkind HNEW HR HBj HLr HLrow
          subst ev
          go_frame
          go_wp2
          go_roundw
          case rel => exact ⟨k + 1, by omega, by go_num, HX.out⟩
          case measure => simp [intOf]; omega
    · obtain rfl : M = k := by omega
      have hguard : (decide ((M : Int) < (plen : Int)) = true ∧ decide ((M : Int) < 8) = false ∧ decide (M < plen) = true ∧ decide (M < 8) = false) ∨ (decide ((M : Int) < (plen : Int)) = false ∧ decide (M < plen) = false) := by
        by_cases h1 : M < plen
        · refine .inl ⟨by simp; omega, by simp; omega, by simp; omega, by simp; omega⟩
        · refine .inr ⟨by simp; omega, by simp; omega⟩
      have HX : Hid (Lm wr w.heap.size (.slice ao M cap) vs (mvQ Ps (min plen 8)) ∧ Below w.heap.size w wr) := hide2 (by rw [← HM.out]; exact ⟨hL, hB⟩)
      clear hL hB
      rcases hguard with ⟨t1, t2, t3, t4⟩ | ⟨t1, t3⟩
      · go_wp2
        go_ret
        exact ⟨_, vs, rfl, HX.out⟩
      · go_wp2
        go_ret
        exact ⟨_, vs, rfl, HX.out⟩
end Go.Proofs.YtnpmldlnckbppaaDoor
