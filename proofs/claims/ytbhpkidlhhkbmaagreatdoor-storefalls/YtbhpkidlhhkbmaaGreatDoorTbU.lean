/-
  StoreFalls. (Printed by gen_tbu.py.)
-/
import Derived.Test.YtbhpkidlhhkbmaaGreatDoorTbT
import Derived.Deep.DeepCutAuto
import Derived.BigQuiet
set_option linter.unusedVariables false
set_option linter.unusedSimpArgs false
namespace Go.Proofs.YtbhpkidlhhkbmaaGreatDoor
open Go.RowKit Go.Maps

section
variable {w : World}
theorem begin_rp {K : Nat → Prop} {sb d z M u : Nat} {A : Stt} (h : Rp w K sb d z M A u) {n : Nat} (hn : A.lv 1 n = true) (hM : M < 3000000000000000000) :
    Calls Tryz.prog 17 #[.pointer (some ⟨sb, 0, none⟩), .int .i64 (n : Int)] w fun e w' => e = .returned (.tuple #[.int .u64 (A.va 2 n), .int .i64 0]) ∧ Aft w w' K sb d z (M + 1) A u := by
  obtain ⟨m, hm, hr⟩ := h.re
  refine (beginE hr hn (by omega)).mono fun e w' q => ⟨q.1, ?_⟩
  obtain ⟨K', h1, h2, h3⟩ := q.2
  exact ⟨K', h1.rp (by omega), h2, h3⟩
set_option maxRecDepth 100000 in
set_option maxHeartbeats 16000000 in
theorem storeFalls_walk (ao : Option Addr) (len cap : Nat) (xs : List Stp) (hT : Tab w) (hs : Seq 7 Stp.cl w ao len cap xs) (hok : ∀ x ∈ xs, x.ok) :
    Calls Tryz.prog 4 #[.slice ao len cap] w fun e w' => e = .returned (.bool true) ∧ Below w.heap.size w w' := by
  have HS := hide2 (sshown_any hT)
  have hcap := hs.2.1
  have hmax := hs.2.2.1
  unfold maxLen at hmax
  have HT := hide2 hT
  have HOK := hide2 hok
  clear hT hok
  go_enter Tryz.func4, Tryz.ntmps4
  go_wp2_with fail
  refine HS.out.mono ?_
  rintro e w0 ⟨rfl, hb0⟩
  have HSQ := hide2 (hs.keep hb0)
  have HT0 := hide2 (HT.out.fr (Fr.below (F := fun _ => False) hb0) id)
  have HB0 := hide2 hb0
  have HM := hide2 (New_any 2000 w0 (by decide) (by decide))
  have hs0 := hb0.size
  clear HS hb0 hs
  go_wp2_with fail
  refine HM.out.mono ?_
  rintro e w1 ⟨rfl, ⟨F, hA⟩, hb1⟩
  have HN := hide2 (lv_new (g := 0) (z := 2000) HT0.out hb1 hA)
  clear HM hA hb1
  go_wp2_with fail
  refine HN.out.mono ?_
  rintro e w2 ⟨rfl, K2, L2⟩
  obtain ⟨sb, hsb⟩ : ∃ x, x = w1.heap.size := ⟨_, rfl⟩
  obtain ⟨d, hd⟩ : ∃ x, x = w0.heap.size + 1 := ⟨_, rfl⟩
  rw [← hsb, ← hd] at L2
  rw [← hsb, ← hd]
  have FIN : Hid (∀ w', Below w0.heap.size w0 w' → Below w.heap.size w w') := hide2 (fun w' hb => HB0.out.trans ⟨hb.os, hb.tape, hb.output, hb.size, fun j hj => hb.block j (by omega)⟩)
  obtain ⟨m3, hB3⟩ := bq_new (f := 2000) L2 (by omega) (by rfl)
  obtain ⟨rb, hrb⟩ : ∃ x, x = w2.heap.size := ⟨_, rfl⟩
  obtain ⟨w3, hw3⟩ : ∃ x, x = w2.alloc (.cells #[.slice none 0 0, .slice none 0 0, .slice none 0 0, .int .i64 2000, .int .i64 0] 36) := ⟨_, rfl⟩
  rw [← hw3] at hB3
  have HB3 := hide2 hB3
  clear HN hsb hd L2 hB3
  go_wp2
  rw [← hw3]
  rw [← hrb] at HB3 ⊢
  clear hw3 hrb
  go_loopw [9] (fun a wr => ∃ (n : Nat), a = .int .i64 (n : Int) ∧ n ≤ len ∧ n ≤ 300 ∧ Hid (∃ K J A u m st, Bq w0 wr K J sb d 2000 rb A u m st (3 * n))) (fun a _ => 300 - (intOf a).toNat)
  case atStart => exact ⟨0, rfl, by omega, by omega, hide2 ⟨_, _, _, _, _, _, HB3.out⟩⟩
  case round =>
    clear HB3
    obtain ⟨n, rfl, hn1, hn2, L⟩ := hrel
    obtain ⟨K, J, A, u, m, st, B⟩ := L.out
    by_cases hlt : n < len ∧ n < 300
    · obtain ⟨g1, g2⟩ := hlt
      have d1 : decide ((n : Int) < (len : Int)) = true := by simp; omega
      have d2 : decide ((n : Int) < 300) = true := by simp; omega
      have d3 : (n : Int) < (len : Int) := by omega
      obtain ⟨b, off, rfl, hbl, hcell⟩ := HSQ.out.2.2.2 (by omega)
      obtain ⟨x, hx⟩ := some_at HSQ.out.1 g1
      have hxok := HOK.out x (List.mem_of_getElem? hx)
      have HXO := hide2 hxok
      have HCL : Hid (∀ wq, Below w0.heap.size w0 wq → ∀ p : Addr, p.block < w0.heap.size → wq.cell? p = w0.cell? p) := hide2 (fun wq hb p hp => hb.cell (p := p) hp)
      have hcb := HCL.out wr B.bl
      have q0 : wr.cell? ⟨b, off + n * 7, none⟩ = some (.int .i64 x.kd) := (hcb _ hbl).trans (by have := hcell n x hx 0 _ rfl; simpa using this)
      have q1 : wr.cell? ⟨b, off + n * 7 + 1, none⟩ = some (.int .i64 x.a) := (hcb _ hbl).trans (by have := hcell n x hx 1 _ rfl; simpa using this)
      have q2 : wr.cell? ⟨b, off + n * 7 + 2, none⟩ = some (.int .i64 x.b) := (hcb _ hbl).trans (by have := hcell n x hx 2 _ rfl; simpa using this)
      have q3 : wr.cell? ⟨b, off + n * 7 + 3, none⟩ = some (.int .i64 x.c) := (hcb _ hbl).trans (by have := hcell n x hx 3 _ rfl; simpa using this)
      have q4 : wr.cell? ⟨b, off + n * 7 + 4, none⟩ = some (.int .u64 x.v) := (hcb _ hbl).trans (by have := hcell n x hx 4 _ rfl; simpa using this)
      have q5 : wr.cell? ⟨b, off + n * 7 + 5, none⟩ = some (.int .u64 x.x) := (hcb _ hbl).trans (by have := hcell n x hx 5 _ rfl; simpa using this)
      have q6 : wr.cell? ⟨b, off + n * 7 + 6, none⟩ = some (.string x.t) := (hcb _ hbl).trans (by have := hcell n x hx 6 _ rfl; simpa using this)
      have HMK := hide2 (makes_any B.bo (by omega) hxok)
      have HB := hide2 B
      clear hcb hxok B L
      go_wp2_with fail
      refine HMK.out.mono ?_
      rintro e w4 ⟨rfl, hR⟩
      obtain ⟨K4, J4, A4, u4, m4, st4, B4, _⟩ := HB.out.step hR
      clear q0 q1 q2 q3 q4 q5 q6
      have hcb := HCL.out w4 B4.bl
      have q0 : w4.cell? ⟨b, off + n * 7, none⟩ = some (.int .i64 x.kd) := (hcb _ hbl).trans (by have := hcell n x hx 0 _ rfl; simpa using this)
      have q1 : w4.cell? ⟨b, off + n * 7 + 1, none⟩ = some (.int .i64 x.a) := (hcb _ hbl).trans (by have := hcell n x hx 1 _ rfl; simpa using this)
      have q2 : w4.cell? ⟨b, off + n * 7 + 2, none⟩ = some (.int .i64 x.b) := (hcb _ hbl).trans (by have := hcell n x hx 2 _ rfl; simpa using this)
      have q3 : w4.cell? ⟨b, off + n * 7 + 3, none⟩ = some (.int .i64 x.c) := (hcb _ hbl).trans (by have := hcell n x hx 3 _ rfl; simpa using this)
      have q4 : w4.cell? ⟨b, off + n * 7 + 4, none⟩ = some (.int .u64 x.v) := (hcb _ hbl).trans (by have := hcell n x hx 4 _ rfl; simpa using this)
      have q5 : w4.cell? ⟨b, off + n * 7 + 5, none⟩ = some (.int .u64 x.x) := (hcb _ hbl).trans (by have := hcell n x hx 5 _ rfl; simpa using this)
      have q6 : w4.cell? ⟨b, off + n * 7 + 6, none⟩ = some (.string x.t) := (hcb _ hbl).trans (by have := hcell n x hx 6 _ rfl; simpa using this)
      have HSW := hide2 (swaps_any B4.bo (by omega) HXO.out)
      have HB4 := hide2 B4
      clear hcb hR HMK HB B4
      go_wp2_with fail
      refine HSW.out.mono ?_
      rintro e w5 ⟨rfl, hR⟩
      obtain ⟨K5, J5, A5, u5, m5, st5, B5, _⟩ := HB4.out.step hR
      clear q0 q1 q2 q3 q4 q5 q6
      have hcb := HCL.out w5 B5.bl
      have q0 : w5.cell? ⟨b, off + n * 7, none⟩ = some (.int .i64 x.kd) := (hcb _ hbl).trans (by have := hcell n x hx 0 _ rfl; simpa using this)
      have q1 : w5.cell? ⟨b, off + n * 7 + 1, none⟩ = some (.int .i64 x.a) := (hcb _ hbl).trans (by have := hcell n x hx 1 _ rfl; simpa using this)
      have q2 : w5.cell? ⟨b, off + n * 7 + 2, none⟩ = some (.int .i64 x.b) := (hcb _ hbl).trans (by have := hcell n x hx 2 _ rfl; simpa using this)
      have q3 : w5.cell? ⟨b, off + n * 7 + 3, none⟩ = some (.int .i64 x.c) := (hcb _ hbl).trans (by have := hcell n x hx 3 _ rfl; simpa using this)
      have q4 : w5.cell? ⟨b, off + n * 7 + 4, none⟩ = some (.int .u64 x.v) := (hcb _ hbl).trans (by have := hcell n x hx 4 _ rfl; simpa using this)
      have q5 : w5.cell? ⟨b, off + n * 7 + 5, none⟩ = some (.int .u64 x.x) := (hcb _ hbl).trans (by have := hcell n x hx 5 _ rfl; simpa using this)
      have q6 : w5.cell? ⟨b, off + n * 7 + 6, none⟩ = some (.string x.t) := (hcb _ hbl).trans (by have := hcell n x hx 6 _ rfl; simpa using this)
      have HLD := hide2 (loads_any B5.bo (by omega) HXO.out)
      have HB5 := hide2 B5
      clear hcb hR HSW HB4 B5
      go_wp2_with fail
      refine HLD.out.mono ?_
      rintro e w6 ⟨rfl, hR⟩
      have HB6 : Hid (∃ K J A u m st, Bq w0 w6 K J sb d 2000 rb A u m st (3 * (n + 1))) := hide2 (by
        obtain ⟨K6, J6, A6, u6, m6, st6, B6, _⟩ := HB5.out.step hR
        exact ⟨K6, J6, A6, u6, m6, st6, B6⟩)
      clear hR HLD HB5 q0 q1 q2 q3 q4 q5 q6 hcell
      go_wp2
      go_roundw
      case rel => exact ⟨n + 1, by go_num, by omega, by omega, HB6⟩
      case measure => simp [intOf]; omega
    · have h0 := B.bo.la 0
      have h1 := B.bo.la 1
      have hm0 := B.bo.p.m0
      have hmi := B.bo.mi
      obtain ⟨vn, vv, vt, hRg⟩ := B.bo.r
      obtain ⟨vo, vc, ev⟩ := hRg.rn.form
      have cN := hRg.cells.1
      subst ev
      have hjb : J rb := hRg.jj rb (.inl rfl)
      have hnk : ¬ K rb := fun e => B.bo.ap rb e hjb
      have hrl := hRg.lt
      have L0 : Hid (Lv w0 wr K sb d 2000 m.toNat A u) := hide2 ⟨B.bo.p.rp (by omega), fun j e => B.kb j (.inl e), B.bl⟩
      have HCN := hide2 cN
      have HNK := hide2 hnk
      have hOKA := B.bo.p.ok
      have HOKA := hide2 hOKA
      have hM9 : m.toNat ≤ 10000010 := by omega
      clear cN hRg hjb hnk hmi hm0 L B hOKA
      obtain ⟨M0, hM0⟩ : ∃ x, x = m.toNat := ⟨_, rfl⟩
      rw [← hM0] at L0 hM9
      clear hM0
      go_upto_region 8 with fail
      go_cut [40] (fun b wc => b = .bool false ∧ wc = wr)
      case first =>
        by_cases hl1 : n < len
        · have d1 : decide ((n : Int) < (len : Int)) = true := by simp; omega
          have d2 : decide ((n : Int) < 300) = false := by simp; omega
          have d3 : ¬ n < 300 := fun q => hlt ⟨hl1, q⟩
          have d4 : ¬ (n : Int) < 300 := by omega
          go_wp2
          go_meet
          exact ⟨rfl, rfl⟩
        · have d1 : decide ((n : Int) < (len : Int)) = false := by simp; omega
          have d3 : ¬ (n : Int) < (len : Int) := by omega
          go_wp2
          go_meet
          exact ⟨rfl, rfl⟩
      case rest =>
        obtain ⟨rfl, hwc⟩ := hcut
        replace hwc := hwc.symm
        subst hwc
        clear hlt
        go_wp2
        go_loopw [10] (fun a wq => ∃ (k : Nat) (K1 : Nat → Prop), a = .int .i64 (k : Int) ∧ 1 ≤ k ∧ k ≤ A.la 0 + 1 ∧ Hid (Lv w0 wq K1 sb d 2000 (M0 + k * 10000) A u) ∧ Hid (wq.cell? ⟨rb, 0, none⟩ = some (.slice vo (A.la 0) vc)) ∧ Hid (¬ K1 rb) ∧ rb < wq.heap.size) (fun a _ => A.la 0 + 2 - (intOf a).toNat)
        case atStart => exact ⟨1, K, rfl, by omega, by omega, hide2 (L0.out.up (by omega)), HCN, HNK, hrl⟩
        case round =>
          clear L0 HCN HNK hrl
          obtain ⟨k, K1, rfl, hk1, hk2, L, HCN, HNK, hrl⟩ := hrel
          have cN := HCN.out
          by_cases hlt : k ≤ A.la 0
          · have c1 : decide ((k : Int) ≤ (A.la 0 : Int)) = true := by simp; omega
            have c2 : (k : Int) ≤ (A.la 0 : Int) := by omega
            have hkl : A.lv 0 k = true := HOKA.out.nd k hk1 hlt
            have hhd := HOKA.out.hd k hkl
            obtain ⟨l, hl, hll⟩ := ch_ex HOKA.out (A.la 1 + 1) (A.va 0 k) (by omega)
            have HCH := hide2 (chain_any L.out.rp hkl hl (by omega) (by omega))
            have HLI := hide2 hl.live
            have HFA := hide2 (hl.falls HOKA.out)
            clear hl hkl hhd
            obtain ⟨Bz, hBz⟩ : ∃ x, x = wr.heap.size := ⟨_, rfl⟩
            go_wp2_with fail
            refine HCH.out.mono ?_
            rintro e w7 ⟨v, rfl, hv, K7, hr7, hk7, hF7, hno7⟩
            rw [← hBz] at hv
            obtain ⟨vg, vq, evv⟩ := hv.form
            have L7 : Hid (Lv w0 w7 K7 sb d 2000 (M0 + k * 10000 + 2 + l.length) A u) := hide2 (by
              obtain ⟨K8, L8, _, _⟩ := L.out.step ⟨K7, hr7, hk7, hF7⟩
              refine ⟨hr7, fun j e => ?_, L8.bl⟩
              rcases Nat.lt_or_ge j wr.heap.size with q | q
              · exact L.out.kb j ((hk7 j q).1 e)
              · have := L.out.bl.size
                omega)
            have cN7 : w7.cell? ⟨rb, 0, none⟩ = some (.slice vo (A.la 0) vc) := (hF7.cell (p := ⟨rb, 0, none⟩) hrl HNK.out).trans cN
            have HCN7 := hide2 cN7
            have HNK7 : Hid (¬ K7 rb) := hide2 (fun e => HNK.out ((hk7 rb hrl).1 e))
            have hrl7 : rb < w7.heap.size := by have := hF7.size; omega
            have HV7 := hide2 hv
            have HNO7 := hide2 hno7
            clear hBz HCH hv hr7 hk7 hF7 hno7 cN cN7 L HCN HNK
            subst evv
            go_wp2
            go_loopw [12] (fun a wz => ∃ (i : Nat) (K8 : Nat → Prop), a = .int .i64 (i : Int) ∧ i ≤ l.length ∧ Hid (Lv w0 wz K8 sb d 2000 (M0 + k * 10000 + 2 + l.length + i) A u) ∧ Hid (wz.cell? ⟨rb, 0, none⟩ = some (.slice vo (A.la 0) vc)) ∧ Hid (¬ K8 rb) ∧ rb < wz.heap.size ∧ Hid (Hr wz Bz (.slice vg l.length vq) l) ∧ Hid (∀ j, (Value.slice vg l.length vq).ownBlock = some j → ¬ K8 j)) (fun a _ => l.length + 1 - (intOf a).toNat)
            case atStart => exact ⟨0, K7, rfl, by omega, L7, HCN7, HNK7, hrl7, HV7, HNO7⟩
            case round =>
              clear L7 HCN7 HNK7 hrl7 HV7 HNO7
              obtain ⟨i, K8, rfl, hi, L, HCN, HNK, hrl8, HV, HNO⟩ := hrel
              by_cases hil : i < l.length
              · have e1 : decide ((i : Int) < (l.length : Int)) = true := by simp; omega
                have e2 : (i : Int) < (l.length : Int) := by omega
                have e3 : ¬ ((i : Int) < 0) := by omega
                obtain ⟨g9, cp9, ev9, hc9⟩ := HV.out.at hil
                simp only [Value.slice.injEq, true_and] at ev9
                obtain ⟨rfl, rfl⟩ := ev9
                obtain ⟨y, hy⟩ : ∃ y, y = l.getD i 0 := ⟨_, rfl⟩
                have hym : y ∈ l := by rw [hy, List.getD_eq_getElem?_getD, List.getElem?_eq_getElem hil]; exact List.getElem_mem hil
                rw [← hy] at hc9
                have HY := hide2 hy
                clear hy
                have HBG := hide2 (begin_rp L.out.rp (HLI.out y hym) (by omega))
                obtain ⟨x9, hx9⟩ : ∃ x, x = A.va 2 y := ⟨_, rfl⟩
                rw [← hx9] at HBG
                clear hx9 hym
                go_wp2_with fail
                refine HBG.out.mono ?_
                rintro e w8 ⟨rfl, K9, hr9, hk9, hF9⟩
                have hv9 : Hr w8 Bz (.slice (some ⟨g9, 0, none⟩) l.length vq) l := hrow_fr HV.out hF9 (fun j e => HNO.out j e)
                have L9 : Hid (Lv w0 w8 K9 sb d 2000 (M0 + k * 10000 + 2 + l.length + (i + 1)) A u) := hide2 (by
                  obtain ⟨K8', L8, _, _⟩ := L.out.step ⟨K9, hr9, hk9, hF9⟩
                  refine ⟨hr9, fun j e => ?_, L8.bl⟩
                  rcases Nat.lt_or_ge j wr.heap.size with q | q
                  · exact L.out.kb j ((hk9 j q).1 e)
                  · have := L.out.bl.size
                    omega)
                have HCN9 : Hid (w8.cell? ⟨rb, 0, none⟩ = some (.slice vo (A.la 0) vc)) := hide2 ((hF9.cell (p := ⟨rb, 0, none⟩) hrl8 HNK.out).trans HCN.out)
                have HNK9 : Hid (¬ K9 rb) := hide2 (fun e => HNK.out ((hk9 rb hrl8).1 e))
                have hrl9 : rb < w8.heap.size := by have := hF9.size; omega
                have HNO9 : Hid (∀ j, (Value.slice (some ⟨g9, 0, none⟩) l.length vq).ownBlock = some j → ¬ K9 j) := hide2 (fun j e q => HNO.out j e ((hk9 j (World.ownsRow.lt HV.out j e).2).1 q))
                obtain ⟨g8, cp8, ev8, hc8⟩ := hv9.at hil
                simp only [Value.slice.injEq, Option.some.injEq, Addr.mk.injEq, true_and, and_true] at ev8
                obtain ⟨rfl, rfl⟩ := ev8
                rw [← HY.out] at hc8
                have HV9 : Hid (∀ q, Hr (w8.drewN q) Bz (.slice (some ⟨g9, 0, none⟩) l.length vq) l) := hide2 (fun q => hrow_fr hv9 (Fr.below (F := fun _ => False) (below_drewN _ _ _)) (fun _ _ e => e))
                have HLQ : Hid (∀ q, Lv w0 (w8.drewN q) K9 sb d 2000 (M0 + k * 10000 + 2 + l.length + (i + 1)) A u) := hide2 (fun q => L9.out.below (below_drewN _ _ _))
                have HCQ : Hid (∀ q, (w8.drewN q).cell? ⟨rb, 0, none⟩ = some (.slice vo (A.la 0) vc)) := hide2 (fun q => HCN9.out)
                clear L9 HCN9 HBG hr9 hk9 hF9 hc9 HV L HCN HNK HNO
                rcases i with _ | i
                · have e5 : decide ((0 : Int) < ((0 : Nat) : Int)) = false := by decide
                  clear hv9
                  go_wp2_with fail
                  go_quiet (fail)
                  go_wp2
                  go_roundw
                  case rel => exact ⟨1, K9, by go_num, by omega, hide2 (HLQ.out _), hide2 (HCQ.out _), HNK9, hrl9, hide2 (HV9.out _), HNO9⟩
                  case measure => simp [intOf]
                · obtain ⟨g7, cp7, ev7, hc7⟩ := hv9.at (i := i) (by omega)
                  simp only [Value.slice.injEq, Option.some.injEq, Addr.mk.injEq, true_and, and_true] at ev7
                  obtain ⟨rfl, rfl⟩ := ev7
                  obtain ⟨y2, hy2⟩ : ∃ y, y = l.getD i 0 := ⟨_, rfl⟩
                  rw [← hy2] at hc7
                  have HY2 := hide2 hy2
                  clear hy2
                  have hfall : y < y2 := by
                    have h9 := List.pairwise_iff_getElem.1 HFA.out i (i + 1) (by omega) hil (by omega)
                    rw [HY.out, HY2.out, List.getD_eq_getElem?_getD, List.getD_eq_getElem?_getD, List.getElem?_eq_getElem hil, List.getElem?_eq_getElem (show i < l.length by omega)]
                    exact h9
                  have e5 : decide ((0 : Int) < ((i + 1 : Nat) : Int)) = true := decide_eq_true (by omega)
                  have e6 : decide ((y2 : Int) ≤ (y : Int)) = false := by simp; omega
                  have e7 : (i : Int) < (l.length : Int) := by omega
                  have e8 : ¬ ((i : Int) < 0) := by omega
                  have e9 : ((i + 1 : Nat) : Int) - 1 = (i : Int) := by omega
                  have e10 : IntKind.i64.wrap (i : Int) = i := by rw [IntKind.wrap_i64]; omega
                  have e11 : ((i + 1 : Nat) : Int) = (i : Int) + 1 := by omega
                  have e12 : decide ((0 : Int) < (i : Int) + 1) = true := decide_eq_true (by omega)
                  clear hv9
                  go_wp2_with fail
                  go_quiet (fail)
                  go_wp2
                  go_roundw
                  case rel => exact ⟨i + 1 + 1, K9, by go_num, by omega, hide2 (HLQ.out _), hide2 (HCQ.out _), HNK9, hrl9, hide2 (HV9.out _), HNO9⟩
                  case measure => simp [intOf]; omega
              · have e0 : i = l.length := by omega
                subst e0
                have e1 : decide ((l.length : Int) < (l.length : Int)) = false := by simp
                have HL9 : Hid (Lv w0 wr K8 sb d 2000 (M0 + (k + 1) * 10000) A u) := hide2 (L.out.up (by omega))
                clear L HV HNO
                go_wp2
                go_roundw
                case rel => exact ⟨k + 1, K8, by go_num, by omega, by omega, HL9, HCN, HNK, hrl8⟩
                case measure => simp [intOf]; omega
          · have c1 : decide ((k : Int) ≤ (A.la 0 : Int)) = false := by simp; omega
            have c2 : ¬ (k : Int) ≤ (A.la 0 : Int) := by omega
            go_wp2
            go_ret
            exact ⟨rfl, FIN.out _ L.out.bl⟩
end
end Go.Proofs.YtbhpkidlhhkbmaaGreatDoor
