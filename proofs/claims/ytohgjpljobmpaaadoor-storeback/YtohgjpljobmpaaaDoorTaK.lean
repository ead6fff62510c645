/-
  StoreBack: what is taken away gives its cells back.
-/
import Derived.Test.YtohgjpljobmpaaaDoorTaJ
import Derived.Test.YtohgjpljobmpaaaDoorCOpen
set_option linter.unusedVariables false
set_option linter.unusedSimpArgs false
namespace Go.Proofs.YtohgjpljobmpaaaDoor
open Go.RowKit Go.Maps

theorem tmod20 (x : Int) : -19 ≤ x.tmod 20 ∧ x.tmod 20 ≤ 19 := by
  have h1 := Int.tmod_lt_of_pos x (show (0 : Int) < 20 by decide)
  have h2 := Int.lt_tmod_of_pos x (show (0 : Int) < 20 by decide)
  omega
theorem tmod20b {r : Int} (h : 0 ≤ r) : ∃ k : Nat, k < 20 ∧ r.tmod 20 = (k : Int) := by
  rw [Int.tmod_eq_emod_of_nonneg h]
  exact ⟨(r % 20).toNat, by omega, by omega⟩

section
variable {w : World}
set_option maxRecDepth 100000 in
set_option maxHeartbeats 16000000 in
theorem storeBack_walk (ao : Option Addr) (len cap : Nat) (xs : List Int) (tx : Int) (hT : Tab w) (hs : Ints .i64 w ao len cap xs) (hb : I64 tx) :
    Calls Tryd.prog 6 #[.slice ao len cap, .int .i64 tx] w fun e w' => e = .returned (.bool true) ∧ Below w.heap.size w w' := by
  have HS := hide2 (sshown_any hT)
  have hcap := hs.2.1
  have hmax := hs.2.2.1
  unfold maxLen at hmax
  have HSQ := hide2 hs
  have HT := hide2 hT
  clear hT hs
  go_enter Tryd.func6, Tryd.ntmps6
  go_wp2_with fail
  refine HS.out.mono ?_
  rintro e w0 ⟨rfl, hb0⟩
  have HT0 := hide2 (HT.out.fr (Fr.below (F := fun _ => False) hb0) id)
  have HB0 := hide2 hb0
  have HM := hide2 (New_any 3000 w0 (by decide) (by decide))
  have hs0 := hb0.size
  clear HS hb0
  go_wp2_with fail
  refine HM.out.mono ?_
  rintro e w1 ⟨rfl, ⟨F, hA⟩, hb1⟩
  have HN := hide2 (lv_new (g := 0) (z := 3000) HT0.out hb1 hA)
  clear HM hA hb1
  go_wp2_with fail
  refine HN.out.mono ?_
  rintro e w2 ⟨rfl, K2, L2⟩
  obtain ⟨sb, hsb⟩ : ∃ x, x = w1.heap.size := ⟨_, rfl⟩
  obtain ⟨d, hd⟩ : ∃ x, x = w0.heap.size + 1 := ⟨_, rfl⟩
  rw [← hsb, ← hd] at L2
  rw [← hsb, ← hd]
  have FIN : Hid (∀ w', Below w0.heap.size w0 w' → Below w.heap.size w w') := hide2 (fun w' hb => HB0.out.trans ⟨hb.os, hb.tape, hb.output, hb.size, fun j hj => hb.block j (by omega)⟩)
  have HL2 := hide2 L2
  clear HN hsb hd L2
  by_cases ht : tx < 0 ∨ 100 < tx
  · by_cases ht0 : tx < 0
    · have d1 : decide (tx < 0) = true := by simp [ht0]
      clear ht
      go_wp2
      go_ret
      exact ⟨rfl, FIN.out _ HL2.out.bl⟩
    · have ht1 : 100 < tx := by omega
      have d1 : decide (tx < 0) = false := by simp; omega
      have d2 : decide (100 < tx) = true := by simp [ht1]
      clear ht
      go_wp2
      go_ret
      exact ⟨rfl, FIN.out _ HL2.out.bl⟩
  · obtain ⟨q, rfl⟩ : ∃ q : Nat, tx = (q : Int) := ⟨tx.toNat, by omega⟩
    have hq : q ≤ 100 := by omega
    have d1 : decide ((q : Int) < 0) = false := by simp
    have d2 : ¬ (q : Int) < 0 := by omega
    have d3 : decide ((100 : Int) < (q : Int)) = false := by simp; omega
    have d4 : ¬ (100 : Int) < (q : Int) := by omega
    clear ht
    go_wp2
    go_loopw [10, 11] (fun nd i wr => ∃ (n : Nat) (K : Nat → Prop) (A : Stt), n ≤ len ∧ n ≤ 20 ∧ i = .int .i64 (n : Nat) ∧ nd = .int .i64 (n : Nat) ∧ Hid (A.la 0 = n ∧ A.la 1 ≤ 20 * n ∧ A.la 2 = 0) ∧ Hid (Lv w0 wr K sb d 3000 (200 * n) A (2 * n))) (fun _ i _ => 20 - (intOf i).toNat)
    case atStart => exact ⟨0, K2, Stt.zero, Nat.zero_le _, Nat.zero_le _, rfl, rfl, hide2 ⟨rfl, Nat.le_refl _, rfl⟩, HL2⟩
    case round =>
      clear HL2
      obtain ⟨n, K, A, hn1, hn2, rfl, rfl, HA, L⟩ := hrel
      by_cases hlt : n < len ∧ n < 20
      · obtain ⟨g1, g2⟩ := hlt
        have c1 : decide ((n : Int) < (len : Int)) = true := by simp; omega
        have c2 : decide ((n : Int) < 20) = true := by simp; omega
        have c3 : (n : Int) < (len : Int) := by omega
        have c4 : (n : Int) < 20 := by omega
        have hnd := node_any L.out.rp (by have := HA.out; omega) (by omega) (by omega)
        rw [HA.out.1] at hnd
        have HND := hide2 hnd
        obtain ⟨b, off, eao, hbl, hcell⟩ := HSQ.out.2.2.2 (by omega)
        obtain ⟨x, hx⟩ : ∃ x, xs[n]? = some x := some_at HSQ.out.1 g1
        have hc0 : w0.cell? ⟨b, off + n, none⟩ = some (.int .i64 x) := by
          have h1 := hcell n x hx 0 _ rfl
          have h3 := HB0.out.cell (p := ⟨b, off + n, none⟩) hbl
          rw [h3]
          simpa using h1
        subst eao
        clear hnd hcell hx
        go_wp2_with fail
        refine HND.out.mono ?_
        rintro e w3 ⟨rfl, a3⟩
        obtain ⟨K3, L3, -, -⟩ := L.out.step a3
        have hbl0 : b < w0.heap.size := by omega
        have hc3 : w3.cell? ⟨b, off + n, none⟩ = some (.int .i64 x) := (L3.bl.cell (p := ⟨b, off + n, none⟩) hbl0).trans hc0
        have hr := tmod20 x
        obtain ⟨r, er⟩ : ∃ r, r = x.tmod 20 := ⟨_, rfl⟩
        rw [← er] at hr
        have er2 : x.tmod 20 = r := er.symm
        obtain ⟨kk, hk20, hkk⟩ := tmod20b (show 0 ≤ r + 20 by omega)
        have HF3 : Hid (Frt A.node (n + 1) 0 []) := hide2 ⟨by
            right
            cases q : A.node.lv 1 (0 : Int).toNat with
            | false => rfl
            | true => have := L3.rp.ok.n1 1 _ q; simp at this, by
            show up2 (up2 A.va 0 (A.la 0 + 1) 0) 1 (A.la 0 + 1) 0 0 (n + 1) = 0
            rw [HA.out.1, up2_other _ _ (fun q => by omega), up2_same], by
            show up2 A.lv 0 (A.la 0 + 1) true 0 (n + 1) = true
            rw [HA.out.1, up2_same], .inl rfl⟩
        have HA3 : Hid (A.node.la 0 = n + 1 ∧ A.node.la 1 ≤ 20 * n ∧ A.node.la 2 = 0) := hide2 (by
          have := HA.out
          refine ⟨?_, ?_, ?_⟩
          · show up1 A.la 0 (A.la 0 + 1) 0 = n + 1
            rw [up1_same]; omega
          · show up1 A.la 0 (A.la 0 + 1) 1 ≤ 20 * n
            rw [up1_other _ _ (by decide)]; omega
          · show up1 A.la 0 (A.la 0 + 1) 2 = 0
            rw [up1_other _ _ (by decide)]; omega)
        have HL3 := hide2 L3
        clear HND a3 L3 er
        go_wp2
        go_loopw [14, 16] (fun la v wr => ∃ (j : Nat) (K : Nat → Prop) (A : Stt) (x : Int) (l : List Nat), j ≤ kk ∧ v = .int .i64 (j : Nat) ∧ la = .int .i64 x ∧ l.length = j ∧ Hid (A.la 0 = n + 1 ∧ A.la 1 ≤ 20 * n + j ∧ A.la 2 = 0) ∧ Hid (Frt A (n + 1) x l) ∧ Hid (Lv w0 wr K sb d 3000 (200 * n + 3 + 5 * j) A (2 * n + 2 + 3 * j))) (fun _ v _ => kk - (intOf v).toNat)
        case atStart => exact ⟨0, K3, A.node, 0, [], Nat.zero_le _, rfl, rfl, rfl, hide2 ⟨HA3.out.1, by have := HA3.out; omega, HA3.out.2.2⟩, HF3, HL3⟩
        case round =>
          clear HF3 HA3 HL3 HA L hc3
          obtain ⟨j, K, A, x2, l, hj, rfl, rfl, hlj, HA, HFR, L⟩ := hrel
          by_cases hjk : j < kk
          · have c5 : decide ((j : Int) < (kk : Int)) = true := by simp; omega
            have c6 : (j : Int) < (kk : Int) := by omega
            have hcv : IntKind.u64.wrap (j : Int) = j := by rw [IntKind.wrap_u64]; omega
            have HVR := hide2 (ver_any (t := ⟨#[118]⟩) (b := (j : Int)) L.out.rp HFR.out (by decide) (by omega) (mbg_small (by omega)) (by have := HA.out; omega) (by omega) (by omega))
            go_wp2_with fail
            refine HVR.out.mono ?_
            rintro e w4 ⟨rfl, a4⟩
            obtain ⟨K4, L4, -, -⟩ := L.out.step a4
            have HPU := hide2 (push_any L4.rp HFR.out (by omega))
            have HL4 := hide2 L4
            clear HVR a4 L4
            go_wp2_with fail
            refine HPU.out.mono ?_
            rintro e w5 ⟨rfl, a5⟩
            obtain ⟨K5, L5, -, -⟩ := HL4.out.step a5
            have HFR5 := hide2 (HFR.out.front (t := ⟨#[118]⟩) (b := (j : Int)) L.out.rp.ok)
            have HA5 : Hid ((A.front (n + 1) ⟨#[118]⟩ (j : Int) x2).la 0 = n + 1 ∧ (A.front (n + 1) ⟨#[118]⟩ (j : Int) x2).la 1 ≤ 20 * n + (j + 1) ∧ (A.front (n + 1) ⟨#[118]⟩ (j : Int) x2).la 2 = 0) := hide2 (by
              have := HA.out
              rw [front_la, up1_other _ _ (by decide), up1_same, up1_other _ _ (by decide)]
              omega)
            have HL5 := hide2 L5
            have hl5 : ((A.la 1 + 1) :: l).length = j + 1 := by simp [hlj]
            have HLL := hide2 hl5
            clear HPU a5 L5 HL4 hl5
            go_wp2
            go_roundw
            case rel => exact ⟨j + 1, K5, A.front (n + 1) ⟨#[118]⟩ (j : Int) x2, _, (A.la 1 + 1) :: l, by omega, by go_num, rfl, HLL.out, HA5, HFR5, hide2 (by have q := HL5.out; rw [show 200 * n + 3 + 5 * j + 4 + 1 = 200 * n + 3 + 5 * (j + 1) by omega, show 2 * n + 2 + 3 * j + 3 = 2 * n + 2 + 3 * (j + 1) by omega] at q; exact q)⟩
            case measure => simp [intOf]; omega
          · have c5 : decide ((j : Int) < (kk : Int)) = false := by simp; omega
            have c6 : ¬ (j : Int) < (kk : Int) := by omega
            have hjk2 : j = kk := by omega
            subst hjk2
            by_cases hj0 : j = 0
            · subst hj0
              go_wp2
              go_roundw
              case rel => exact ⟨n + 1, K, A, by omega, by omega, by go_num, by go_num, hide2 ⟨HA.out.1, by have := HA.out; omega, HA.out.2.2⟩, hide2 (by have q := L.out.up (show 200 * n + 3 + 5 * 0 ≤ 200 * (n + 1) by omega); rw [show 2 * n + 2 + 3 * 0 = 2 * (n + 1) by omega] at q; exact q)⟩
              case measure => simp [intOf]; omega
            · have c7 : decide ((0 : Int) < (j : Int)) = true := by simp; omega
              have c8 : (0 : Int) < (j : Int) := by omega
              match l, hlj, HFR with
              | [], hlj, _ => exact absurd hlj (by simp; omega)
              | y :: l2, hlj, HFR =>
                obtain ⟨hxy, hy, hch⟩ := HFR.out.ch
                subst hxy
                have hok := L.out.rp.ok
                have hnod := HFR.out.ch.nodup hok
                have hl2 : l2.length + 1 = j := by simpa using hlj
                have HCU := hide2 (cut_in L.out.rp hy hch (by omega) (by omega))
                have HY : Hid ((offs (A.put 4 y 0) l2).lv 1 y = true ∧ (offs (A.put 4 y 0) l2).lv 0 (n + 1) = true ∧ (offs (A.put 4 y 0) l2).va 0 (n + 1) = (y : Int) ∧ (offs (A.put 4 y 0) l2).la = A.la) := hide2 (by
                  refine ⟨?_, ?_, ?_, ?_⟩
                  · rw [offs_lv, if_neg (fun q => (List.nodup_cons.1 hnod).1 q.2)]; exact hy
                  · rw [offs_lv, if_neg (fun q => by omega)]; exact HFR.out.lv
                  · rw [offs_va]
                    show up2 A.va 4 y 0 0 (n + 1) = _
                    rw [up2_other _ _ (fun q => by omega)]
                    exact HFR.out.hd
                  · rw [offs_la]; rfl)
                clear hch hnod hlj hy hok
                go_wp2_with fail
                refine HCU.out.mono ?_
                rintro e w4 ⟨rfl, hu4, a4⟩
                obtain ⟨K4, L4, -, -⟩ := L.out.step a4
                have HDR := hide2 (drop_in L4.rp HY.out.2.1 HY.out.2.2.1 HY.out.1 (by omega))
                have HL4 := hide2 L4
                have cl : ((l2.length : Nat) : Int) = (j : Int) - 1 := by omega
                rw [cl]
                clear HCU a4 L4
                go_wp2_with fail
                refine HDR.out.mono ?_
                rintro e w5 ⟨rfl, hu5, a5⟩
                obtain ⟨K5, L5, -, -⟩ := HL4.out.step a5
                have HL5 := hide2 L5
                clear HDR a5 L5 cl
                go_wp2
                go_roundw
                case rel => exact ⟨n + 1, K5, ((offs (A.put 4 y 0) l2).off 1 y).put 0 (n + 1) ((offs (A.put 4 y 0) l2).va 4 y), by omega, by omega, by go_num, by go_num, hide2 (by
                    have := HA.out
                    have e1 := HY.out.2.2.2
                    show (offs (A.put 4 y 0) l2).la 0 = _ ∧ (offs (A.put 4 y 0) l2).la 1 ≤ _ ∧ (offs (A.put 4 y 0) l2).la 2 = _
                    rw [e1]
                    omega), hide2 (by have q := HL5.out.up (show 200 * n + 3 + 5 * j + 2 + l2.length + 3 ≤ 200 * (n + 1) by omega); rw [show 2 * n + 2 + 3 * j - 3 * l2.length - 3 = 2 * (n + 1) by omega] at q; exact q)⟩
                case measure => simp [intOf]; omega
      · have d9 : decide ((n : Int) < (len : Int)) = true → decide ((n : Int) < 20) = false := fun q => by simp at q ⊢; omega
        have HE : Hid (¬ (n < len ∧ n < 20)) := hide2 hlt
        by_cases hl1 : n < len
        · have c1 : decide ((n : Int) < (len : Int)) = true := by simp; omega
          have c2 : decide ((n : Int) < 20) = false := by simp; omega
          have c3 : (n : Int) < (len : Int) := by omega
          have c4 : ¬ (n : Int) < 20 := by omega
          clear hlt d9
          go_wp2
          go_loopw [24] (fun i wr => ∃ (j : Nat) (K : Nat → Prop) (A : Stt), j ≤ q ∧ i = .int .i64 (j : Nat) ∧ Hid (A.la 2 = j) ∧ Hid (Lv w0 wr K sb d 3000 (200 * n + 10 * j) A (2 * n))) (fun i _ => q - (intOf i).toNat)
          case atStart => exact ⟨0, K, A, Nat.zero_le _, rfl, hide2 HA.out.2.2, L⟩
          case round =>
            clear L HA
            obtain ⟨j, K, A, hj, rfl, HA, L⟩ := hrel
            by_cases hjq : j < q
            · have c5 : decide ((j : Int) < (q : Int)) = true := by simp; omega
              have c6 : (j : Int) < (q : Int) := by omega
              have htn := txn_any L.out.rp (by have := HA.out; omega) (by omega) (by omega)
              rw [HA.out] at htn
              have HTN := hide2 htn
              clear htn
              go_wp2_with fail
              refine HTN.out.mono ?_
              rintro e w4 ⟨rfl, a4⟩
              obtain ⟨K4, L4, -, -⟩ := L.out.step a4
              have HFG := hide2 (forget_in (n := j + 1) L4.rp (by
                show up2 A.lv 2 (A.la 2 + 1) true 2 (j + 1) = true
                rw [HA.out, up2_same]))
              have HL4 := hide2 L4
              have e1 : ((j + 1 : Nat) : Int) = (j : Int) + 1 := by omega
              rw [e1] at HFG
              rw [e1]
              clear HTN a4 L4 e1
              go_wp2_with fail
              refine HFG.out.mono ?_
              rintro e w5 ⟨rfl, hu5, a5⟩
              obtain ⟨K5, L5, -, -⟩ := HL4.out.step a5
              have HL5 := hide2 L5
              clear HFG a5 L5
              go_wp2
              go_roundw
              case rel => exact ⟨j + 1, K5, A.txn.off 2 (j + 1), by omega, by go_num, hide2 (by show up1 A.la 2 (A.la 2 + 1) 2 = j + 1; rw [up1_same, HA.out]), hide2 (by have q := HL5.out.up (show 200 * n + 10 * j + (1 + 1) ≤ 200 * n + 10 * (j + 1) by omega); rw [show 2 * n + 1 - 1 = 2 * n by omega] at q; exact q)⟩
              case measure => simp [intOf]; omega
            · have c5 : decide ((j : Int) < (q : Int)) = false := by simp; omega
              have c6 : ¬ (j : Int) < (q : Int) := by omega
              have HUS := hide2 L.out.rp.used
              go_wp2_with fail
              refine HUS.out.mono ?_
              rintro e w6 ⟨rfl, q6⟩
              subst q6
              go_wp2
              go_ret
              exact ⟨by simp, FIN.out _ L.out.bl⟩
        · have c1 : decide ((n : Int) < (len : Int)) = false := by simp; omega
          have c3 : ¬ (n : Int) < (len : Int) := by omega
          clear hlt d9
          go_wp2
          go_loopw [24] (fun i wr => ∃ (j : Nat) (K : Nat → Prop) (A : Stt), j ≤ q ∧ i = .int .i64 (j : Nat) ∧ Hid (A.la 2 = j) ∧ Hid (Lv w0 wr K sb d 3000 (200 * n + 10 * j) A (2 * n))) (fun i _ => q - (intOf i).toNat)
          case atStart => exact ⟨0, K, A, Nat.zero_le _, rfl, hide2 HA.out.2.2, L⟩
          case round =>
            clear L HA
            obtain ⟨j, K, A, hj, rfl, HA, L⟩ := hrel
            by_cases hjq : j < q
            · have c5 : decide ((j : Int) < (q : Int)) = true := by simp; omega
              have c6 : (j : Int) < (q : Int) := by omega
              have htn := txn_any L.out.rp (by have := HA.out; omega) (by omega) (by omega)
              rw [HA.out] at htn
              have HTN := hide2 htn
              clear htn
              go_wp2_with fail
              refine HTN.out.mono ?_
              rintro e w4 ⟨rfl, a4⟩
              obtain ⟨K4, L4, -, -⟩ := L.out.step a4
              have HFG := hide2 (forget_in (n := j + 1) L4.rp (by
                show up2 A.lv 2 (A.la 2 + 1) true 2 (j + 1) = true
                rw [HA.out, up2_same]))
              have HL4 := hide2 L4
              have e1 : ((j + 1 : Nat) : Int) = (j : Int) + 1 := by omega
              rw [e1] at HFG
              rw [e1]
              clear HTN a4 L4 e1
              go_wp2_with fail
              refine HFG.out.mono ?_
              rintro e w5 ⟨rfl, hu5, a5⟩
              obtain ⟨K5, L5, -, -⟩ := HL4.out.step a5
              have HL5 := hide2 L5
              clear HFG a5 L5
              go_wp2
              go_roundw
              case rel => exact ⟨j + 1, K5, A.txn.off 2 (j + 1), by omega, by go_num, hide2 (by show up1 A.la 2 (A.la 2 + 1) 2 = j + 1; rw [up1_same, HA.out]), hide2 (by have q := HL5.out.up (show 200 * n + 10 * j + (1 + 1) ≤ 200 * n + 10 * (j + 1) by omega); rw [show 2 * n + 1 - 1 = 2 * n by omega] at q; exact q)⟩
              case measure => simp [intOf]; omega
            · have c5 : decide ((j : Int) < (q : Int)) = false := by simp; omega
              have c6 : ¬ (j : Int) < (q : Int) := by omega
              have HUS := hide2 L.out.rp.used
              go_wp2_with fail
              refine HUS.out.mono ?_
              rintro e w6 ⟨rfl, q6⟩
              subst q6
              go_wp2
              go_ret
              exact ⟨by simp, FIN.out _ L.out.bl⟩
end
end Go.Proofs.YtohgjpljobmpaaaDoor
