/-
  SchedApart's walk.
-/
import Derived.Test.YtnpmldlnckbppaaDoorA3
set_option linter.unusedVariables false
set_option linter.unusedSimpArgs false
namespace Go.Proofs.YtnpmldlnckbppaaDoor
open Go.RowKit

/-- One program behind the other. -/
def ordL (Q : List (List OpR)) (m : Nat) : List Int := (List.range m).flatMap fun i : Nat => List.replicate (Q.getD i []).length (i : Int)
def ordK (Q : List (List OpR)) (i k : Nat) : List Int := ordL Q i ++ List.replicate k (i : Int)
theorem ordK_zero (Q : List (List OpR)) (i : Nat) : ordK Q i 0 = ordL Q i := by simp [ordK]
theorem ordK_snoc (Q : List (List OpR)) (i k : Nat) : ordK Q i (k + 1) = ordK Q i k ++ [(i : Int)] := by simp [ordK, List.replicate_succ']
theorem ordL_succ (Q : List (List OpR)) (i : Nat) : ordL Q (i + 1) = ordL Q i ++ List.replicate (Q.getD i []).length (i : Int) := by
  unfold ordL
  rw [List.range_succ, List.flatMap_append]
  simp
theorem ordK_full (Q : List (List OpR)) (i : Nat) : ordK Q i (Q.getD i []).length = ordL Q (i + 1) := by rw [ordL_succ]; rfl
theorem ordL_count (Q : List (List OpR)) (m i : Nat) (h : i < m) : (Q.getD i []).length ≤ (ordL Q m).count (i : Int) := by
  induction m with
  | zero => omega
  | succ m ih =>
    rw [ordL_succ, List.count_append]
    by_cases e : i = m
    · subst e
      rw [List.count_replicate_self]
      omega
    · have := ih (by omega)
      omega
theorem ordL_len (Q : List (List OpR)) (m : Nat) (h : m ≤ Q.length) : (ordL Q m).length = ((Q.take m).map List.length).sum := by
  induction m with
  | zero => rfl
  | succ m ih =>
    have hm : m < Q.length := by omega
    have e : Q.getD m [] = Q[m] := by simp [List.getD, List.getElem?_eq_getElem hm]
    rw [ordL_succ, List.length_append, ih (by omega), List.length_replicate, e, ← List.take_append_getElem hm, List.map_append, List.sum_append]
    simp
theorem ordL_all (Q : List (List OpR)) : (ordL Q Q.length).length = (Q.map List.length).sum := by rw [ordL_len Q Q.length (Nat.le_refl _), List.take_length]
theorem ordL_le (Q : List (List OpR)) (m : Nat) (hn : ∀ j, (Q.getD j []).length ≤ 200) : (ordL Q m).length ≤ m * 200 := by
  induction m with
  | zero => simp [ordL]
  | succ m ih =>
    rw [ordL_succ, List.length_append, List.length_replicate]
    have := hn m
    omega

theorem mv_ok (i : Nat) (hi : i < 8) (o : OpR) (ho : o.ok) : (mv i o).ok ∧ bad 32 (mv i o) = false ∧ (mv i o).c.toNat / 4 = i ∧ (mv i o).c.toNat < 32 := by
  obtain ⟨h1, h2, h3, h4⟩ := ho
  have a := (nrm_spec 4 o.k (by decide) (by decide) h1).1
  have b := (nrm_spec 4 o.c (by decide) (by decide) h2).1
  refine ⟨⟨⟨?_, ?_⟩, ⟨?_, ?_⟩, h3, h4⟩, ?_, ?_, ?_⟩
  · show -9223372036854775808 ≤ (nrm 4 o.k : Int) + 1; omega
  · show (nrm 4 o.k : Int) + 1 ≤ 9223372036854775807; omega
  · show -9223372036854775808 ≤ 4 * (i : Int) + (nrm 4 o.c : Int); omega
  · show 4 * (i : Int) + (nrm 4 o.c : Int) ≤ 9223372036854775807; omega
  · unfold bad
    simp only [Bool.or_eq_false_iff, decide_eq_false_iff_not]
    show ¬ ((nrm 4 o.k : Int) + 1 < 1) ∧ ¬ (4 < (nrm 4 o.k : Int) + 1) ∧ ¬ (4 * (i : Int) + (nrm 4 o.c : Int) < 0) ∧ ¬ (((32 : Nat) : Int) ≤ 4 * (i : Int) + (nrm 4 o.c : Int))
    omega
  · show (4 * (i : Int) + (nrm 4 o.c : Int)).toNat / 4 = i; omega
  · show (4 * (i : Int) + (nrm 4 o.c : Int)).toNat < 32; omega
theorem mvQ_mem {w : World} {pao : Option Addr} {plen pcap : Nat} {Ps : List PrR} (hPs : Progs w pao plen pcap Ps) (M : Nat) (hM : M ≤ 8) (j : Nat) (o : OpR) (h : o ∈ (mvQ Ps M).getD j []) : j < M ∧ o.ok ∧ bad 32 o = false ∧ o.c.toNat / 4 = j ∧ o.c.toNat < 32 := by
  rcases Nat.lt_or_ge j M with hj | hj
  · rw [mvQ_at Ps M j hj] at h
    unfold mvP at h
    obtain ⟨o', ho', rfl⟩ := List.mem_map.1 h
    have h1 := List.mem_of_mem_take ho'
    have hok : o'.ok := by
      simp only [List.getD, List.getElem?_map] at h1
      cases e : Ps[j]? with
      | none => rw [e] at h1; simp at h1
      | some p =>
        rw [e] at h1
        exact (hPs.ins p (List.mem_of_getElem? e)).2 o' (by simpa using h1)
    exact ⟨hj, mv_ok j (by omega) o' hok⟩
  · rw [mvQ_out Ps M j hj] at h
    cases h
theorem mvQ_le (Ps : List PrR) (M j : Nat) : ((mvQ Ps M).getD j []).length ≤ 200 := by
  rcases Nat.lt_or_ge j M with hj | hj
  · rw [mvQ_at Ps M j hj]; exact mvP_len Ps j
  · rw [mvQ_out Ps M j hj]; simp
theorem right_moved {w : World} {pao : Option Addr} {plen pcap : Nat} {Ps : List PrR} (hPs : Progs w pao plen pcap Ps) (vs : Nat → Value) (M : Nat) (hM : M ≤ 8) : right ((32 : Nat) : Int) (progV vs (mvQ Ps M)) = true := by
  unfold right
  rw [progV_len, mvQ_len]
  simp only [Bool.and_eq_true, decide_eq_true_eq, List.all_eq_true]
  have e2 : ∀ v os, (prV v os).ops = os := fun v os => by unfold prV; split <;> rfl
  refine ⟨by omega, by omega, by omega, fun p hp => ?_⟩
  obtain ⟨j, -, rfl⟩ := List.mem_map.1 hp
  rw [e2]
  refine ⟨by have := mvQ_le Ps M j; omega, fun o ho => ?_⟩
  have := (mvQ_mem hPs M hM j o ho).2.2.1
  rw [Int.toNat_natCast, this]
  rfl

set_option maxRecDepth 100000 in
set_option maxHeartbeats 16000000 in
theorem apart_walk (pao : Option Addr) (plen pcap : Nat) (Ps : List PrR) (xao : Option Addr) (xlen xcap : Nat) (xs : List Int) (w : World) (hT : Tab w) (hPs : Progs w pao plen pcap Ps) (hxs : Ints .i64 w xao xlen xcap xs) (hnil : xao = none → xcap = 0) :
    Calls Tryd.prog 6 #[.slice pao plen pcap, .slice xao xlen xcap] w fun e w' => e = .returned (.bool true) ∧ Below w.heap.size w w' := by
  have h0 := hT.1
  obtain ⟨i0, hi0, z0, z1, z2⟩ := info_parts infoI2
  have HN := hide2 (shown_any w hT)
  have HP := hide2 hPs
  have HXS := hide2 hxs
  obtain ⟨M, hM⟩ : ∃ M, M = min plen 8 := ⟨_, rfl⟩
  have hM8 : M ≤ 8 := by omega
  have HQL := hide2 (mvQ_len Ps M)
  have HQ2 : Hid (∀ j, ((mvQ Ps M).getD j []).length ≤ 200) := hide2 (fun j => mvQ_le Ps M j)
  have HQO : Hid (∀ j o, o ∈ (mvQ Ps M).getD j [] → o.ok) := hide2 (fun j o ho => (mvQ_mem hPs M hM8 j o ho).2.1)
  have HQM : Hid (Moved 32 (mvQ Ps M)) := hide2 (fun j o ho => (mvQ_mem hPs M hM8 j o ho).2.2.2)
  have HQR : Hid (∀ vs, right ((32 : Nat) : Int) (progV vs (mvQ Ps M)) = true) := hide2 (fun vs => right_moved hPs vs M hM8)
  have HMV : Hid (∀ u : World, Below w.heap.size w u → Calls Tryd.prog 17 #[.slice pao plen pcap] u fun e w' => ∃ v vs, e = .returned v ∧ Lm w' u.heap.size v vs (mvQ Ps M) ∧ Below u.heap.size u w') := hide2 (fun u hu => by rw [hM]; exact moved_any u pao plen pcap Ps (hPs.keep hu))
  clear hPs hxs hM
  generalize mvQ Ps M = Q at *
  go_enter Tryd.func6, Tryd.ntmps6
  go_wp2_with fail
  refine HN.out.mono ?_
  rintro e w1 ⟨rfl, hB1⟩
  clear HN
  have hs1 := hB1.size
  have HV := hide2 (HMV.out w1 hB1)
  clear HMV
  go_wp2_with fail
  refine HV.out.mono ?_
  rintro e w2 ⟨v6, vs, rfl, hL2, hB2⟩
  clear HV
  have hBB2 : Below w.heap.size w w2 := hB1.trans (hB2.mono hs1)
  have hvf : ∃ ao cap, v6 = .slice ao M cap := by
    have h9 := hL2.row
    rw [HQL.out] at h9
    rcases Go.Joins.ownsRow_forms h9 with ⟨e, h0⟩ | ⟨g2, c2, e⟩
    · exact ⟨none, 0, by rw [e, h0]⟩
    · exact ⟨_, _, e⟩
  obtain ⟨ao, cap, rfl⟩ := hvf
  have hPX : ∃ (pao : Option Addr) (P pcap : Nat) (ys : List Int), Ints .i64 w pao P pcap ys ∧ P ≤ 5000 ∧ (pao = none → pcap = 0) ∧ ((pao = xao ∧ P = xlen ∧ pcap = xcap ∧ decide (5000 < (xlen : Int)) = false ∧ decide (5000 < xlen) = false) ∨ (decide (5000 < (xlen : Int)) = true ∧ decide (5000 < xlen) = true ∧ ∀ u : World, (Instr.slice 23 (.slice xao xlen xcap) none (some (.int .i64 5000)) none).run Tryd.prog u = .ok (.slice pao P pcap) u)) := by
    by_cases h5 : xlen ≤ 5000
    · exact ⟨xao, xlen, xcap, xs, HXS.out, h5, hnil, .inl ⟨rfl, rfl, rfl, by simp; omega, by simp; omega⟩⟩
    · obtain ⟨b, off, e, hbl, hc⟩ := HXS.out.2.2.2 (by omega)
      have h7 := HXS.out.2.1
      have h8 := HXS.out.2.2.1
      refine ⟨some ⟨b, off, none⟩, 5000, xcap, xs.take 5000, ⟨by rw [List.length_take, HXS.out.1]; omega, by omega, h8, fun _ => ⟨b, off, rfl, hbl, fun i x hi => hc i x (by
        rw [List.getElem?_take] at hi
        split at hi
        · exact hi
        · cases hi)⟩⟩, Nat.le_refl _, (fun h => by cases h), .inr ⟨by simp; omega, by simp; omega, fun u => ?_⟩⟩
      have := ints_h u xao xlen xcap 5000 (by omega)
      have hne : ¬ xcap = 0 := by omega
      rw [show ((5000 : Nat) : Int) = 5000 from rfl] at this
      rw [this, e]
      simp [sliced, hne, addr_add]
  obtain ⟨xao', P, xcap', ys, hpx, hP, hpn, hcase⟩ := hPX
  obtain ⟨Z, hZ, hmz⟩ := mk_zero P (by omega)
  obtain ⟨v', w', hap, hrow', hB', ao', cap', ev'⟩ := copy_all (u := w2) (base := w.heap.size) hZ hBB2.size (by omega) (hpx.keep hBB2) hpn
  have HYL := hide2 hpx.1
  have HAP := hide2 hap
  have HRA := hide2 hrow'
  have HLq := hide2 (show Lm w' w.heap.size (.slice ao M cap) vs Q from ⟨row_low ((hL2.below hB').row) hs1, fun j hj => row_low ((hL2.below hB').ins j hj) hs1⟩)
  have HBq := hide2 (hBB2.trans (hB'.mono hBB2.size))
  have HC2 := hide2 hcase
  clear hap hrow' hL2 hpx hpn HXS hnil hcase hB' hB2 hB1 hBB2
  subst ev'
  go_upto_if 24 with fail
  go_cut [1] (fun v wc => v = .slice xao' P xcap' ∧ wc = w2)
  case first =>
    rcases HC2.out with ⟨rfl, rfl, rfl, t7, t8⟩ | ⟨t7, t8, hsl⟩
    · simp only [t7, t8]
      go_wp2
      go_meet
      exact ⟨rfl, rfl⟩
    · simp only [t7, t8]
      go_wp2
      go_meet
      exact ⟨rfl, rfl⟩
  case rest =>
  obtain ⟨rfl, hwc⟩ := hcut
  replace hwc := hwc.symm
  subst hwc
  go_wp2_with (at_builtin; refine Hid.out ?_)
  refine hide2 ?_
  refine wpList_append_eq rfl _ _ 23 rfl (.slice (some ⟨w2.heap.size, 0, none⟩) 0 P) (.slice xao' P xcap') _ _ rfl rfl HAP.out ?_
  clear HAP hmz HC2
  go_frame
  go_wp2
  go_loopw [7, 8, 9] (fun a o i wr => ∃ k : Nat, k ≤ M ∧ i = .int .i64 k ∧ wr.ownsRow w.heap.size 3 1 a (P + (ordL Q k).length) ((ys ++ ordL Q k).map (Value.int .i64)) ∧ wr.ownsRow w.heap.size 3 1 o (ordL Q k).length ((ordL Q k).map (Value.int .i64)) ∧ (∀ j, a.ownBlock = some j → o.ownBlock ≠ some j) ∧ Lm wr w.heap.size (.slice ao M cap) vs Q ∧ Below w.heap.size w wr) (fun _ _ i _ => M - (intOf i).toNat)
  case atStart =>
    refine ⟨0, by omega, rfl, ?_, ⟨rfl, .inl ⟨rfl, rfl⟩⟩, (fun j hj e => by cases e), HLq.out, HBq.out⟩
    have e : ordL Q 0 = [] := rfl
    rw [e, List.append_nil]
    exact HRA.out
  case round =>
    clear HLq HBq HRA
    obtain ⟨k, hk, rfl, hra, hro, hap, hL, hB⟩ := hrel
    have hLk := ordL_le Q k HQ2.out
    by_cases hkM : k < M
    · have hkM2 : (k : Int) < (M : Int) := by omega
      have hkQ : k < Q.length := by rw [HQL.out]; exact hkM
      obtain ⟨aoi, capi, evs, -⟩ := row4_seq (hL.ins k hkQ)
      have hqk := HQ2.out k
      have HEV : Hid (∀ u : World, Lm u w.heap.size (.slice ao M cap) vs Q → ∃ g, ao = some ⟨g, 0, none⟩ ∧ u.cell? ⟨g, k, none⟩ = some (.slice aoi (Q.getD k []).length capi)) := hide2 (fun u hu => by
        have hr := hu.row
        rw [HQL.out] at hr
        obtain ⟨g, cap9, e9⟩ := Go.Joins.ownsRow_form hr (by omega)
        simp only [Value.slice.injEq] at e9
        obtain ⟨rfl, -, rfl⟩ := e9
        refine ⟨g, rfl, ?_⟩
        have := hr.cellAt k (by omega)
        rw [this]
        simp [List.getElem?_range, hkM, evs])
      obtain ⟨nk, hnk⟩ : ∃ nk, nk = (Q.getD k []).length := ⟨_, rfl⟩
      rw [← hnk] at HEV hqk
      have HNK := hide2 hnk
      have H0 := hide2 (And.intro hra (And.intro hro (And.intro hap (And.intro hL hB))))
      clear hra hro hap hL hB evs hnk
      go_wp2
      go_loopw [7, 8, 10] (fun a o i wr => ∃ j : Nat, j ≤ nk ∧ i = .int .i64 j ∧ wr.ownsRow w.heap.size 3 1 a (P + (ordK Q k j).length) ((ys ++ ordK Q k j).map (Value.int .i64)) ∧ wr.ownsRow w.heap.size 3 1 o (ordK Q k j).length ((ordK Q k j).map (Value.int .i64)) ∧ (∀ j, a.ownBlock = some j → o.ownBlock ≠ some j) ∧ Lm wr w.heap.size (.slice ao M cap) vs Q ∧ Below w.heap.size w wr) (fun _ _ i _ => nk - (intOf i).toNat)
      case atStart => exact ⟨0, by omega, rfl, by rw [ordK_zero]; exact H0.out⟩
      case round =>
        clear H0
        obtain ⟨j, hj, rfl, hra, hro, hap, hL, hB⟩ := hrel
        obtain ⟨g6, rfl, c6⟩ := HEV.out wr hL
        have hg6 : g6 < wr.heap.size := (hL.row.lt g6 rfl).2
        have hwsz := hB.size
        have hok : (ordK Q k j).length ≤ k * 200 + j := by simp [ordK]; omega
        have E1 := hide2 (ordK_snoc Q k j)
        obtain ⟨aoa, capa, rfl⟩ : ∃ aoa capa, u7 = .slice aoa (P + (ordK Q k j).length) capa := by
          rcases Go.Joins.ownsRow_forms hra with ⟨e, h0⟩ | ⟨g2, c2, e⟩
          · exact ⟨none, 0, by rw [e, h0]⟩
          · exact ⟨_, _, e⟩
        obtain ⟨aoo, capo, rfl⟩ : ∃ aoo capo, u8 = .slice aoo (ordK Q k j).length capo := by
          rcases Go.Joins.ownsRow_forms hro with ⟨e, h0⟩ | ⟨g2, c2, e⟩
          · exact ⟨none, 0, by rw [e, h0]⟩
          · exact ⟨_, _, e⟩
        by_cases hjn : j < nk
        · have hj2 : (j : Int) < (nk : Int) := by omega
          have HRA := hide2 hra
          have HRO := hide2 hro
          have HL := hide2 hL
          have HB := hide2 hB
          have HAP := hide2 hap
          generalize ordK Q k j = z at *
          clear hra hro hL hB hap
          have HNEW := hide2 (cell_one_new wr (.int .i64 (k : Int)) 3)
          go_wp2_with (at_builtin; refine Hid.out ?_)
          refine hide2 ?_
          refine wpList_append_own_at _ rfl _ _ 23 rfl w.heap.size 3 i0 (.int .i64 0) 1 8 Tryd.underlying23 hi0 z0 z1 z2 rfl (by decide) (.slice aoa (P + z.length) capa) _ _ rfl (HRA.out.alloc _) ⟨wr.heap.size, 0, none⟩ 1 1 [.int .i64 (k : Int)] rfl rfl HNEW.out (by simp [Value.oneCell']) (by unfold maxLen; omega) (by omega) (by simp; omega) ?_
          intro v4 w4 hown4 hgrow4 _ hb4
          obtain ⟨gt, capt, ev⟩ := row_succ hown4
          have hF4 : Fr (fun l => (Value.slice aoa (P + z.length) capa).ownBlock = some l) wr w4 := ((Fr.refl (fun l => (Value.slice aoa (P + z.length) capa).ownBlock = some l) wr).alloc (.cells #[.int .i64 (k : Int)] 3)).trans (G := fun l => (Value.slice aoa (P + z.length) capa).ownBlock = some l) (Fr.grown hgrow4 (fun l e => e)) (fun l hl => .inl hl)
          have hro4 : w4.ownsRow w.heap.size 3 1 (.slice aoo z.length capo) z.length (z.map (Value.int .i64)) := row_fr HRO.out hF4 (fun l hl e => HAP.out l e hl)
          have hL4 : Lm w4 w.heap.size (.slice (some ⟨g6, 0, none⟩) M cap) vs Q := HL.out.fr hF4 (fun l hl e => by
            obtain ⟨c, fz, hh⟩ := Go.Lib.ownsRow_kind HRA.out l e
            obtain ⟨c2, fz2, hh2⟩ := Go.Lib.ownsRow_kind HL.out.row l hl
            rw [hh] at hh2
            simp at hh2) (fun i l hi hl e => by
            obtain ⟨c, fz, hh⟩ := Go.Lib.ownsRow_kind HRA.out l e
            obtain ⟨c2, fz2, hh2⟩ := Go.Lib.ownsRow_kind (HL.out.ins i hi) l hl
            rw [hh] at hh2
            simp at hh2)
          have hB4 : Below w.heap.size w w4 := HB.out.trans (hF4.to (fun l hl e => by have := (HRA.out.lt l e).1; omega) hwsz)
          have hs4 := hF4.size
          have hap4 : ∀ l, v4.ownBlock = some l → (Value.slice aoo z.length capo).ownBlock ≠ some l := fun l hl e => by
            rcases hb4 with h | h
            · exact HAP.out l (by rw [← h]; exact hl) e
            · rw [h] at hl
              have e1 := Option.some.inj hl
              have e2 := (HRO.out.lt l e).2
              simp at e1
              omega
          have HRA4 := hide2 hown4
          have HRO4 := hide2 hro4
          have HL4 := hide2 hL4
          have HB4 := hide2 hB4
          have HAP4 := hide2 hap4
          have hwsz4 := hB4.size
          have HNEW4 := hide2 (cell_one_new w4 (.int .i64 (k : Int)) 3)
          clear hro4 hL4 hB4 hown4 hgrow4 hb4 hF4 hap4 HNEW HRA HRO HL HB HAP
          subst ev
          go_frame
          go_wp2_with (at_builtin; refine Hid.out ?_)
          refine hide2 ?_
          refine wpList_append_own_at _ rfl _ _ 23 rfl w.heap.size 3 i0 (.int .i64 0) 1 8 Tryd.underlying23 hi0 z0 z1 z2 rfl (by decide) (.slice aoo z.length capo) _ _ rfl (HRO4.out.alloc _) ⟨w4.heap.size, 0, none⟩ 1 1 [.int .i64 (k : Int)] rfl rfl HNEW4.out (by simp [Value.oneCell']) (by unfold maxLen; omega) (by omega) (by simp; omega) ?_
          intro v5 w5 hown5 hgrow5 _ hb5
          obtain ⟨gs, caps, ev5⟩ := row_succ hown5
          have hF5 : Fr (fun l => (Value.slice aoo z.length capo).ownBlock = some l) w4 w5 := ((Fr.refl (fun l => (Value.slice aoo z.length capo).ownBlock = some l) w4).alloc (.cells #[.int .i64 (k : Int)] 3)).trans (G := fun l => (Value.slice aoo z.length capo).ownBlock = some l) (Fr.grown hgrow5 (fun l e => e)) (fun l hl => .inl hl)
          have hra5 := row_fr HRA4.out hF5 (fun l hl e => HAP4.out l hl e)
          have hL5 : Lm w5 w.heap.size (.slice (some ⟨g6, 0, none⟩) M cap) vs Q := HL4.out.fr hF5 (fun l hl e => by
            obtain ⟨c, fz, hh⟩ := Go.Lib.ownsRow_kind HRO4.out l e
            obtain ⟨c2, fz2, hh2⟩ := Go.Lib.ownsRow_kind HL4.out.row l hl
            rw [hh] at hh2
            simp at hh2) (fun i l hi hl e => by
            obtain ⟨c, fz, hh⟩ := Go.Lib.ownsRow_kind HRO4.out l e
            obtain ⟨c2, fz2, hh2⟩ := Go.Lib.ownsRow_kind (HL4.out.ins i hi) l hl
            rw [hh] at hh2
            simp at hh2)
          have hB5 : Below w.heap.size w w5 := HB4.out.trans (hF5.to (fun l hl e => by have := (HRO4.out.lt l e).1; omega) hwsz4)
          have hap5 : ∀ l, (Value.slice (some ⟨gt, 0, none⟩) (P + z.length + 1) capt).ownBlock = some l → v5.ownBlock ≠ some l := fun l hl e => by
            rcases hb5 with h | h
            · exact HAP4.out l hl (by rw [← h]; exact e)
            · rw [h] at e
              have e1 := Option.some.inj e
              have e2 := (HRA4.out.lt l hl).2
              simp at e1
              omega
          have HX : Hid (w5.ownsRow w.heap.size 3 1 (.slice (some ⟨gt, 0, none⟩) (P + z.length + 1) capt) (P + (ordK Q k (j + 1)).length) ((ys ++ ordK Q k (j + 1)).map (Value.int .i64)) ∧ w5.ownsRow w.heap.size 3 1 v5 (ordK Q k (j + 1)).length ((ordK Q k (j + 1)).map (Value.int .i64)) ∧ (∀ l, (Value.slice (some ⟨gt, 0, none⟩) (P + z.length + 1) capt).ownBlock = some l → v5.ownBlock ≠ some l) ∧ Lm w5 w.heap.size (.slice (some ⟨g6, 0, none⟩) M cap) vs Q ∧ Below w.heap.size w w5) := hide2 (by
            refine ⟨?_, ?_, hap5, hL5, hB5⟩
            · rw [E1.out, List.length_append, List.length_singleton, ← List.append_assoc, List.map_append]
              exact hra5
            · rw [E1.out, List.length_append, List.length_singleton, List.map_append]
              exact hown5)
          clear hra5 hL5 hB5 hap5 hown5 hgrow5 hb5 hF5 HNEW4 HRA4 HRO4 HL4 HB4 HAP4
          subst ev5
          go_frame
          go_wp2
          go_roundw
          case rel => exact ⟨j + 1, by omega, by go_num, HX.out⟩
          case measure => simp [intOf]; omega
        · obtain rfl : nk = j := by omega
          have e1 : ordK Q k nk = ordL Q (k + 1) := by rw [HNK.out]; exact ordK_full Q k
          rw [e1] at hra hro
          have HX := hide2 (And.intro hra (And.intro hro (And.intro hap (And.intro hL hB))))
          clear hra hro hap hL hB
          rw [e1] at *
          go_wp2
          go_roundw
          case rel => exact ⟨k + 1, by omega, by go_num, HX.out⟩
          case measure => simp [intOf]; omega
    · obtain rfl : M = k := by omega
      have hlenQ := HQL.out
      have hwsz := hB.size
      obtain ⟨ao5, cap5, e5, hPr⟩ := hL.progs HQO.out
      rw [hlenQ] at e5 hPr
      simp only [Value.slice.injEq] at e5
      obtain ⟨rfl, -, rfl⟩ := e5
      obtain ⟨aa, ca, rfl, hAll⟩ := row_ints64 (xs := ys ++ ordL Q M) hra (by rw [List.length_append, HYL.out])
      obtain ⟨ab, cb, rfl, hOrd⟩ := row_ints64 (xs := ordL Q M) hro rfl
      have hRun1 := Run_right wr 32 ao M cap (progV vs Q) aa _ ca _ hPr hAll (hT.below hB h0) (HQR.out vs) (by omega)
      have hRun2 : ∀ u : World, Below wr.heap.size wr u → Calls Tryd.prog 10 #[.int .i64 ((32 : Nat) : Int), .slice ao M cap, .slice ab (ordL Q M).length cb] u fun e w' => ∃ r h us, e = .returned (.tuple #[.slice (some ⟨r, 0, none⟩) M M, .slice (some ⟨h, 0, none⟩) 32 32, .int .i64 ((runs (ops (progV vs Q)) (ordL Q M) (St.start 32 (progV vs Q).length)).n : Int), .int .i64 0]) ∧
          Outs w' u.heap.size r (runs (ops (progV vs Q)) (ordL Q M) (St.start 32 (progV vs Q).length)).A us ∧ Nb w' h (runs (ops (progV vs Q)) (ordL Q M) (St.start 32 (progV vs Q).length)).N ∧ u.heap.size ≤ h ∧ u.heap.size ≤ r ∧ (∀ i, (us.getD i nilS).ownBlock ≠ some h) ∧ Below u.heap.size u w' := fun u hu => Run_right u 32 ao M cap (progV vs Q) ab _ cb _ (hPr.keep hu) (hOrd.keep hu) (hT.below (hB.trans (hu.mono hwsz)) h0) (HQR.out vs) (by omega)
      rw [progV_ops, progV_len] at hRun1 hRun2
      have hx1 : ∀ i, i < Q.length → (Q.getD i []).length ≤ (ys ++ ordL Q M).count (i : Int) := fun i hi => by
        rw [List.count_append]
        have := ordL_count Q M i (by omega)
        omega
      have hx2 : ∀ i, i < Q.length → (Q.getD i []).length ≤ (ordL Q M).count (i : Int) := fun i hi => ordL_count Q M i (by omega)
      obtain ⟨eA, eN⟩ := apart_same HQM.out (ys ++ ordL Q M) (ordL Q M) hx1 hx2
      have en1 := (runs_all Q 32 (ys ++ ordL Q M) hx1).2
      have en2 := (runs_all Q 32 (ordL Q M) hx2).2
      have eln : (ordL Q M).length = (Q.map List.length).sum := by
        have := ordL_all Q
        rw [hlenQ] at this
        exact this
      rw [en1, ← eln, eA, eN] at hRun1
      rw [en2, ← eln] at hRun2
      have hAl : (runs Q (ordL Q M) (St.start 32 Q.length)).A.length = M := by rw [(runs_alen _ _ _).1]; simp [St.start, hlenQ]
      have hNl : (runs Q (ordL Q M) (St.start 32 Q.length)).N.length = 32 := by rw [(runs_alen _ _ _).2]; simp [St.start]
      generalize runs Q (ordL Q M) (St.start 32 Q.length) = s at *
      obtain ⟨N, A, cn⟩ := s
      simp only at hRun1 hRun2 hAl hNl
      have HR1 := hide2 hRun1
      have HR2 := hide2 hRun2
      have HAL := hide2 hAl
      have HNL := hide2 hNl
      have HB := hide2 hB
      clear hRun1 hRun2 hAl hNl hB hL hPr hra hro hap hAll hOrd hx1 hx2 eA eN en1 en2 eln hlenQ
      generalize hoL : (ordL Q M).length = oL at *
      clear hoL
      go_wp2_with fail
      refine HR1.out.mono ?_
      rintro e w3 ⟨r1, h1, us1, rfl, hO1, hN1, -, -, -, hB3⟩
      clear HR1
      have hs3 := hB3.size
      have HR := hide2 (HR2.out w3 hB3)
      have HO1 := hide2 hO1
      have HN1 := hide2 hN1
      have HBB3 := hide2 (HB.out.trans (hB3.mono hwsz))
      clear hO1 hN1 hB3 HR2
      go_wp2_with fail
      refine HR.out.mono ?_
      rintro e w4 ⟨r2, h2, us2, rfl, hO2, hN2, -, -, -, hB4⟩
      clear HR
      have hBB4 : Below w.heap.size w w4 := HBB3.out.trans (hB4.mono (by omega))
      have hL1 : Lists w4 (some ⟨r1, 0, none⟩) M M (outR us1 A) := by
        have := (outs_below HO1.out hB4).lists (by rw [HAL.out]; omega)
        rw [HAL.out] at this
        exact this
      have hL2 : Lists w4 (some ⟨r2, 0, none⟩) M M (outR us2 A) := by
        have := hO2.lists (by rw [HAL.out]; omega)
        rw [HAL.out] at this
        exact this
      have HL := hide2 (lists_any w4 _ _ _ _ _ _ _ _ hL1 hL2)
      rw [outR_xs, outR_xs, decide_eq_true rfl] at HL
      have hI1 : Ints .u64 w4 (some ⟨h1, 0, none⟩) 32 32 N := by
        have := Nb.ints ((hB4.block h1 HN1.out.lt).trans HN1.out : Nb w4 h1 N) (by rw [HNL.out]; omega)
        rw [HNL.out] at this
        exact this
      have hI2 : Ints .u64 w4 (some ⟨h2, 0, none⟩) 32 32 N := by
        have := Nb.ints hN2 (by rw [HNL.out]; omega)
        rw [HNL.out] at this
        exact this
      have HW : Hid (∀ q, Calls Tryd.prog 13 #[.slice (some ⟨h1, 0, none⟩) 32 32, .slice (some ⟨h2, 0, none⟩) 32 32] (w4.drewN q) fun e w' => e = .returned (.bool true) ∧ ∃ q', w' = (w4.drewN q).drewN q') := hide2 (fun q => by
        have := words_any (w4.drewN q) _ _ _ _ _ _ N N (hI1.drewN q) (hI2.drewN q)
        rw [decide_eq_true rfl] at this
        exact this)
      have HB4 := hide2 hBB4
      clear hL1 hL2 hI1 hI2 hO2 hN2 hB4 hBB4 HO1 HN1
      go_wp2_with fail
      refine HL.out.mono ?_
      rintro e w5 ⟨rfl, q, rfl⟩
      clear HL
      have HW2 := hide2 (HW.out q)
      clear HW
      go_wp2_with fail
      refine HW2.out.mono ?_
      rintro e w6 ⟨rfl, q2, rfl⟩
      clear HW2
      have t1 : ((oL : Int) == (oL : Int)) = true := by simp
      go_wp2
      go_ret
      exact ⟨rfl, HB4.out.trans (below_drewN _ _ _)⟩
end Go.Proofs.YtnpmldlnckbppaaDoor
