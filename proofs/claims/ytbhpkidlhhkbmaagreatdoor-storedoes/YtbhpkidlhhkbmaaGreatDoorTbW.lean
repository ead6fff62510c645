/-
  StoreDoes. (Printed by gen_tbv.py.)
-/
import Derived.Test.YtbhpkidlhhkbmaaGreatDoorTbV
import Derived.BigQuiet
import Derived.Deep.DeepCutAuto
set_option linter.unusedVariables false
set_option linter.unusedSimpArgs false
namespace Go.Proofs.YtbhpkidlhhkbmaaGreatDoor
open Go.RowKit Go.Maps

section
variable {w : World}
set_option maxRecDepth 100000 in
set_option maxHeartbeats 4000000 in
theorem storeDoes_bad (size : Int) (ao : Option Addr) (len cap : Nat) (hT : Tab w) (hbad : size < 1 ∨ 65536 < size) :
    Calls Tryz.prog 3 #[.int .i64 size, .slice ao len cap] w fun e w' => e = .returned (.bool true) ∧ Below w.heap.size w w' := by
  have HS := hide2 (sshown_any hT)
  clear hT
  go_enter Tryz.func3, Tryz.ntmps3
  go_wp2_with fail
  refine HS.out.mono ?_
  rintro e w0 ⟨rfl, hb0⟩
  have HB0 := hide2 hb0
  have HNB := hide2 (New_bad size w0 hbad)
  clear HS hb0 hbad
  go_wp2_with fail
  refine HNB.out.mono ?_
  rintro e w1 ⟨rfl, rfl⟩
  clear HNB
  go_wp2
  go_ret
  exact ⟨rfl, HB0.out⟩
set_option maxRecDepth 100000 in
set_option maxHeartbeats 16000000 in
theorem storeDoes_ok (zz : Nat) (hz1 : 1 ≤ zz) (hz2 : zz ≤ 65536) (ao : Option Addr) (len cap : Nat) (xs : List Stp) (hT : Tab w) (hs : Seq 7 Stp.cl w ao len cap xs) (hok : ∀ x ∈ xs, x.ok) :
    Calls Tryz.prog 3 #[.int .i64 (zz : Int), .slice ao len cap] w fun e w' => e = .returned (.bool true) ∧ Below w.heap.size w w' := by
  have HS := hide2 (sshown_any hT)
  have hcap := hs.2.1
  have hmax := hs.2.2.1
  unfold maxLen at hmax
  have HT := hide2 hT
  have HOK := hide2 hok
  clear hT hok
  go_enter Tryz.func3, Tryz.ntmps3
  go_wp2_with fail
  refine HS.out.mono ?_
  rintro e w0 ⟨rfl, hb0⟩
  have HSQ := hide2 (hs.keep hb0)
  have HT0 := hide2 (HT.out.fr (Fr.below (F := fun _ => False) hb0) id)
  have HB0 := hide2 hb0
  have HM := hide2 (New_any zz w0 hz1 hz2)
  have hs0 := hb0.size
  clear HS hb0 hs
  go_wp2_with fail
  refine HM.out.mono ?_
  rintro e w1 ⟨rfl, ⟨F, hA⟩, hb1⟩
  have HN := hide2 (lv_new (g := 0) (z := zz) HT0.out hb1 hA)
  clear HM hA hb1
  go_wp2_with fail
  refine HN.out.mono ?_
  rintro e w2 ⟨rfl, K2, L2⟩
  obtain ⟨sb, hsb⟩ : ∃ x, x = w1.heap.size := ⟨_, rfl⟩
  obtain ⟨d, hd⟩ : ∃ x, x = w0.heap.size + 1 := ⟨_, rfl⟩
  rw [← hsb, ← hd] at L2
  rw [← hsb, ← hd]
  have FIN : Hid (∀ w', Below w0.heap.size w0 w' → Below w.heap.size w w') := hide2 (fun w' hb => HB0.out.trans ⟨hb.os, hb.tape, hb.output, hb.size, fun j hj => hb.block j (by omega)⟩)
  obtain ⟨m3, hB3⟩ := bq_new (f := (zz : Int)) L2 (by omega) (by rfl)
  obtain ⟨rb, hrb⟩ : ∃ x, x = w2.heap.size := ⟨_, rfl⟩
  obtain ⟨w3, hw3⟩ : ∃ x, x = w2.alloc (.cells #[.slice none 0 0, .slice none 0 0, .slice none 0 0, .int .i64 (zz : Int), .int .i64 0] 36) := ⟨_, rfl⟩
  rw [← hw3] at hB3
  have HB3 := hide2 hB3
  clear HN hsb hd L2 hB3
  go_wp2
  rw [← hw3]
  rw [← hrb] at HB3 ⊢
  clear hw3 hrb
  go_loopw [11] (fun a wr => ∃ (n : Nat), a = .int .i64 (n : Int) ∧ n ≤ len ∧ n ≤ 2000 ∧ Hid (∃ K J A u m st, Bq w0 wr K J sb d zz rb A u m st (3 * n))) (fun a _ => 2000 - (intOf a).toNat)
  case atStart => exact ⟨0, rfl, by omega, by omega, hide2 ⟨_, _, _, _, _, _, HB3.out⟩⟩
  case round =>
    clear HB3
    obtain ⟨n, rfl, hn1, hn2, L⟩ := hrel
    by_cases hlt : n < len ∧ n < 2000
    · obtain ⟨g1, g2⟩ := hlt
      have d1 : decide ((n : Int) < (len : Int)) = true := by simp; omega
      have d2 : decide ((n : Int) < 2000) = true := by simp; omega
      have d3 : (n : Int) < (len : Int) := by omega
      obtain ⟨b, off, rfl, hbl, hcell⟩ := HSQ.out.2.2.2 (by omega)
      obtain ⟨x, hx⟩ := some_at HSQ.out.1 g1
      have hxok := HOK.out x (List.mem_of_getElem? hx)
      have HXO := hide2 hxok
      obtain ⟨K, J, A, u, m, st, B⟩ := L.out
      have hcb : ∀ p : Addr, p.block < w0.heap.size → wr.cell? p = w0.cell? p := fun p hp => B.bl.cell (p := p) hp
      have q0 : wr.cell? ⟨b, off + n * 7, none⟩ = some (.int .i64 x.kd) := (hcb _ hbl).trans (by have := hcell n x hx 0 _ rfl; simpa using this)
      have q1 : wr.cell? ⟨b, off + n * 7 + 1, none⟩ = some (.int .i64 x.a) := (hcb _ hbl).trans (by have := hcell n x hx 1 _ rfl; simpa using this)
      have q2 : wr.cell? ⟨b, off + n * 7 + 2, none⟩ = some (.int .i64 x.b) := (hcb _ hbl).trans (by have := hcell n x hx 2 _ rfl; simpa using this)
      have q3 : wr.cell? ⟨b, off + n * 7 + 3, none⟩ = some (.int .i64 x.c) := (hcb _ hbl).trans (by have := hcell n x hx 3 _ rfl; simpa using this)
      have q4 : wr.cell? ⟨b, off + n * 7 + 4, none⟩ = some (.int .u64 x.v) := (hcb _ hbl).trans (by have := hcell n x hx 4 _ rfl; simpa using this)
      have q5 : wr.cell? ⟨b, off + n * 7 + 5, none⟩ = some (.int .u64 x.x) := (hcb _ hbl).trans (by have := hcell n x hx 5 _ rfl; simpa using this)
      have q6 : wr.cell? ⟨b, off + n * 7 + 6, none⟩ = some (.string x.t) := (hcb _ hbl).trans (by have := hcell n x hx 6 _ rfl; simpa using this)
      have HBX := hide2 (B.boxed x)
      have HST := hide2 HBX.out.q.bo.p.steps
      have e0 : (wr.alloc (.cells #[.int .i64 0, .int .i64 0, .int .i64 0, .int .i64 0, .int .u64 0, .int .u64 0, .string ⟨#[]⟩] 39)).heap[wr.heap.size]? = some (.cells #[.int .i64 0, .int .i64 0, .int .i64 0, .int .i64 0, .int .u64 0, .int .u64 0, .string ⟨#[]⟩] 39 (0, 0)) := heap_alloc_new wr _
      have c0 : (wr.alloc (.cells #[.int .i64 0, .int .i64 0, .int .i64 0, .int .i64 0, .int .u64 0, .int .u64 0, .string ⟨#[]⟩] 39)).cell? ⟨wr.heap.size, 0, none⟩ = some (.int .i64 0) := by rw [Go.Joins.cell_of_block e0]; rfl
      have c1 : (wr.alloc (.cells #[.int .i64 0, .int .i64 0, .int .i64 0, .int .i64 0, .int .u64 0, .int .u64 0, .string ⟨#[]⟩] 39)).cell? ⟨wr.heap.size, 1, none⟩ = some (.int .i64 0) := by rw [Go.Joins.cell_of_block e0]; rfl
      have c2 : (wr.alloc (.cells #[.int .i64 0, .int .i64 0, .int .i64 0, .int .i64 0, .int .u64 0, .int .u64 0, .string ⟨#[]⟩] 39)).cell? ⟨wr.heap.size, 2, none⟩ = some (.int .i64 0) := by rw [Go.Joins.cell_of_block e0]; rfl
      have c3 : (wr.alloc (.cells #[.int .i64 0, .int .i64 0, .int .i64 0, .int .i64 0, .int .u64 0, .int .u64 0, .string ⟨#[]⟩] 39)).cell? ⟨wr.heap.size, 3, none⟩ = some (.int .i64 0) := by rw [Go.Joins.cell_of_block e0]; rfl
      have c4 : (wr.alloc (.cells #[.int .i64 0, .int .i64 0, .int .i64 0, .int .i64 0, .int .u64 0, .int .u64 0, .string ⟨#[]⟩] 39)).cell? ⟨wr.heap.size, 4, none⟩ = some (.int .u64 0) := by rw [Go.Joins.cell_of_block e0]; rfl
      have c5 : (wr.alloc (.cells #[.int .i64 0, .int .i64 0, .int .i64 0, .int .i64 0, .int .u64 0, .int .u64 0, .string ⟨#[]⟩] 39)).cell? ⟨wr.heap.size, 5, none⟩ = some (.int .u64 0) := by rw [Go.Joins.cell_of_block e0]; rfl
      have c6 : (wr.alloc (.cells #[.int .i64 0, .int .i64 0, .int .i64 0, .int .i64 0, .int .u64 0, .int .u64 0, .string ⟨#[]⟩] 39)).cell? ⟨wr.heap.size, 6, none⟩ = some (.string ⟨#[]⟩) := by rw [Go.Joins.cell_of_block e0]; rfl
      have f0 := Go.Joins.unfrozen_of_block e0 0
      have f1 := Go.Joins.unfrozen_of_block e0 1
      have f2 := Go.Joins.unfrozen_of_block e0 2
      have f3 := Go.Joins.unfrozen_of_block e0 3
      have f4 := Go.Joins.unfrozen_of_block e0 4
      have f5 := Go.Joins.unfrozen_of_block e0 5
      have f6 := Go.Joins.unfrozen_of_block e0 6
      have HE0 := hide2 e0
      clear e0 hcb B L hxok
      go_wp2_with fail
      clear c0 c1 c2 c3 c4 c5 c6 f0 f1 f2 f3 f4 f5 f6 q0 q1 q2 q3 q4 q5 q6 hcell HE0
      refine HST.out.mono ?_
      rintro e w3 ⟨rfl, hw3⟩
      have HB3 : Hid (Bx w0 w3 K J sb d zz rb A u m st (3 * n) wr.heap.size x) := hide2 (by rw [hw3]; exact HBX.out)
      clear hw3 HST HBX
      obtain ⟨s3, s4⟩ := HB3.out.q.bo.stc
      obtain ⟨c0, c1, c2, c3, c4, c5, c6⟩ := HB3.out.cells
      have HMK := hide2 (makes_any HB3.out.q.bo (by omega) HXO.out)
      clear s3
      go_wp2_with fail
      refine HMK.out.mono ?_
      rintro e w4 ⟨rfl, hR⟩
      obtain ⟨K4, J4, A4, u4, m4, st4, B4, t4⟩ := HB3.out.step hR
      clear c0 c1 c2 c3 c4 c5 c6 s4 HMK hR
      obtain ⟨c0, c1, c2, c3, c4, c5, c6⟩ := B4.cells
      have HSW := hide2 (swaps_any B4.q.bo (by omega) HXO.out)
      have HB4 := hide2 B4
      have HT4 := hide2 t4
      clear B4 t4
      go_wp2_with fail
      refine HSW.out.mono ?_
      rintro e w5 ⟨rfl, hR⟩
      obtain ⟨K5, J5, A5, u5, m5, st5, B5, t5⟩ := HB4.out.step hR
      clear c0 c1 c2 c3 c4 c5 c6 HSW hR
      obtain ⟨c0, c1, c2, c3, c4, c5, c6⟩ := B5.cells
      have HLD := hide2 (loads_any B5.q.bo (by omega) HXO.out)
      have HB5 := hide2 B5
      have HT5 := hide2 t5
      clear B5 t5
      go_wp2_with fail
      refine HLD.out.mono ?_
      rintro e w6 ⟨rfl, hR⟩
      obtain ⟨K6, J6, A6, u6, m6, st6, B6, t6⟩ := HB5.out.step hR
      clear c0 c1 c2 c3 c4 c5 c6 HLD hR
      obtain ⟨c0, c1, c2, c3, c4, c5, c6⟩ := B6.cells
      have HTQ := hide2 (touches_any x.kd w6)
      have HTT : Hid (Tch x.kd → m6 - m = st6 - st) := hide2 (fun q => by have a1 := HT4.out q; have a2 := HT5.out q; have a3 := t6 q; omega)
      have hm0 := HB3.out.q.bo.p.m0
      have hm6 := B6.q.bo.p.m0
      have hmi := HB3.out.q.bo.mi
      have hmi6 := B6.q.bo.mi
      have hsi := HB3.out.q.bo.si
      have hsi6 := B6.q.bo.si
      have hul := B6.q.bo.p.ul
      have HB6 := hide2 B6
      clear B6 t6 HB3 HB4 HB5 HT4 HT5
      go_wp2_with fail
      refine HTQ.out.mono ?_
      rintro e w7 ⟨tb, rfl, htb, rfl⟩
      have HTB := hide2 htb
      clear htb HTQ c0 c1 c2 c3 c4 c5 c6
      obtain ⟨s3, s4⟩ := HB6.out.q.bo.stc
      have hus : ∀ k, Calls Tryz.prog 13 #[.pointer (some ⟨d, 0, none⟩)] (w7.drewN k) fun e w' => e = .returned (.int .i64 (u6 : Nat)) ∧ w' = w7.drewN k := fun k => (HB6.out.q.bo.p.below (below_drewN _ _ _)).usedE
      have hss : ∀ k, Calls Tryz.prog 8 #[.pointer (some ⟨d, 0, none⟩)] (w7.drewN k) fun e w' => e = .returned (.int .i64 m6) ∧ w' = w7.drewN k := fun k => (HB6.out.q.bo.p.below (below_drewN _ _ _)).steps
      have a1 : IntKind.i64.wrap ((zz : Int) - ((zz : Int) - (u6 : Int))) = (u6 : Int) := by rw [IntKind.wrap_i64]; omega
      have a2 : IntKind.i64.wrap (m6 - m) = m6 - m := by rw [IntKind.wrap_i64]; omega
      have a3 : IntKind.i64.wrap (st6 - st) = st6 - st := by rw [IntKind.wrap_i64]; omega
      have a4 : ((u6 : Int) != (u6 : Int)) = false := by simp
      have a5 : decide ((u6 : Int) = (u6 : Int)) = true := by simp
      have a6 : (!true) = false := rfl
      have HBN : Hid (∀ q, Bq w0 (w7.drewN q) K6 J6 sb d zz rb A6 u6 m6 st6 (3 * (n + 1))) := hide2 (fun q => by
        have h9 : Below w7.heap.size w7 (w7.drewN q) := below_drewN _ _ _
        exact ⟨HB6.out.q.bo.below h9, HB6.out.q.kb, HB6.out.q.bl.trans ⟨h9.os, h9.tape, h9.output, h9.size, fun j hj => h9.block j (by have := HB6.out.q.bl.size; omega)⟩⟩)
      clear HB6 hmi hmi6 hsi hsi6 hul hm0 hm6
      cases tb with
      | true =>
        have a7 : m6 - m = st6 - st := HTT.out (HTB.out rfl)
        have a8 : decide (m6 - m = st6 - st) = true := decide_eq_true a7
        have a9 : (m6 - m != st6 - st) = false := by simp [a7]
        clear a7
        go_wp2_with fail
        go_quiet ((first | (go_at_call 13; exact Calls.quiet_of_same (hus _)) | (go_at_call 8; exact Calls.quiet_of_same (hss _))))
        go_wp2
        go_roundw
        case rel => exact ⟨n + 1, by go_num, by omega, by omega, hide2 ⟨_, _, _, _, _, _, HBN.out _⟩⟩
        case measure => simp [intOf]; omega
      | false =>
        go_wp2_with fail
        go_quiet ((first | (go_at_call 13; exact Calls.quiet_of_same (hus _)) | (go_at_call 8; exact Calls.quiet_of_same (hss _))))
        go_wp2
        go_roundw
        case rel => exact ⟨n + 1, by go_num, by omega, by omega, hide2 ⟨_, _, _, _, _, _, HBN.out _⟩⟩
        case measure => simp [intOf]; omega
    · obtain ⟨K, J, A, u, m, st, B⟩ := L.out
      have HBP := hide2 B.bp
      clear B L
      go_upto_region 10 with fail
      go_cut [52] (fun b wc => b = .bool false ∧ wc = wr)
      case first =>
        by_cases hl1 : n < len
        · have d1 : decide ((n : Int) < (len : Int)) = true := by simp; omega
          have d2 : decide ((n : Int) < 2000) = false := by simp; omega
          have d3 : ¬ n < 2000 := fun q => hlt ⟨hl1, q⟩
          have d4 : ¬ (n : Int) < 2000 := by omega
          go_wp2
          go_meet
          exact ⟨rfl, rfl⟩
        · have d1 : decide ((n : Int) < (len : Int)) = false := by simp; omega
          have d3 : ¬ (n : Int) < (len : Int) := by omega
          go_wp2
          go_meet
          exact ⟨rfl, rfl⟩
      case rest =>
        obtain ⟨rfl, hwc⟩ := hcut
        replace hwc := hwc.symm
        subst hwc
        clear hlt
        have hla := HBP.out.la 0
        go_wp2
        go_loopw [19] (fun a wq => ∃ (k : Nat) (K1 : Nat → Prop) (m1 : Int), a = .int .i64 (k : Int) ∧ k ≤ A.la 0 + 2 ∧ Hid (Bp w0 wq K1 J sb d zz rb A u m1 st k)) (fun a _ => A.la 0 + 3 - (intOf a).toNat)
        case atStart => exact ⟨0, K, m, rfl, by omega, HBP⟩
        case round =>
          clear HBP
          obtain ⟨k, K1, m1, rfl, hk2, L⟩ := hrel
          obtain ⟨vo, vc, cN⟩ := L.out.form
          have f1 : IntKind.i64.wrap ((A.la 0 : Int) + 1) = (A.la 0 : Int) + 1 := by rw [IntKind.wrap_i64]; omega
          by_cases hlk : k ≤ A.la 0 + 1
          · have g1 : decide ((k : Int) ≤ (A.la 0 : Int) + 1) = true := by simp; omega
            have g2 : (k : Int) ≤ (A.la 0 : Int) + 1 := by omega
            obtain ⟨l, hll, hp, hr⟩ := tw_Chain2 L.out (by omega) (n := (k : Int)) ⟨by omega, by omega⟩
            have HP := hide2 hp
            have HRR := hide2 hr
            clear hp hr
            go_wp2_with fail
            refine HP.out.mono ?_
            rintro e w7 ⟨v1, rfl, hv1, m', hm', K', hR, hk, hF, hno⟩
            have HMC := hide2 (HRR.out w7 (L.out.mid hF))
            have HV1 := hide2 hv1
            have HNX : Hid (∀ w2, Fr (fun _ => False) w7 w2 → Bp w0 w2 K' J sb d zz rb A u m' st (k + 1)) := hide2 (fun w2 hG => L.out.next hm' hR hk hF hG)
            clear HP hv1 hR hk hF hno HRR cN hm'
            go_wp2_with fail
            refine HMC.out.mono ?_
            rintro e w8 ⟨v2, rfl, hv2, hF2⟩
            obtain ⟨ao1, cp1, rfl, q1⟩ := (show Hr w8 wr.heap.size v1 l from hrow_fr HV1.out hF2 (fun _ _ e => e)).seq
            obtain ⟨ao2, cp2, rfl, q2⟩ := hv2.seq
            have HI := hide2 (ints_same q1 q2)
            have HF2 := hide2 hF2
            clear HMC HV1 hv2 hF2 q1 q2
            go_wp2_with fail
            refine HI.out.mono ?_
            rintro e w9 ⟨rfl, q, rfl⟩
            have HB9 : Hid (Bp w0 (w8.drewN q) K' J sb d zz rb A u m' st (k + 1)) := hide2 (HNX.out _ (HF2.out.drewN q))
            clear HI HNX HF2 L
            go_wp2
            go_roundw
            case rel => exact ⟨k + 1, K', m', by go_num, by omega, HB9⟩
            case measure => simp [intOf]; omega
          · have g1 : decide ((k : Int) ≤ (A.la 0 : Int) + 1) = false := by simp; omega
            have g2 : ¬ (k : Int) ≤ (A.la 0 : Int) + 1 := by omega
            go_wp2
            go_ret
            exact ⟨rfl, FIN.out _ L.out.bl⟩
theorem storeDoes_walk (size : Int) (ao : Option Addr) (len cap : Nat) (xs : List Stp) (hT : Tab w) (hs : Seq 7 Stp.cl w ao len cap xs) (hok : ∀ x ∈ xs, x.ok) :
    Calls Tryz.prog 3 #[.int .i64 size, .slice ao len cap] w fun e w' => e = .returned (.bool true) ∧ Below w.heap.size w w' := by
  by_cases hz : 1 ≤ size ∧ size ≤ 65536
  · obtain ⟨n, rfl⟩ : ∃ n : Nat, size = n := ⟨size.toNat, by omega⟩
    exact storeDoes_ok n (by omega) (by omega) ao len cap xs hT hs hok
  · exact storeDoes_bad size ao len cap hT (by omega)
end
end Go.Proofs.YtbhpkidlhhkbmaaGreatDoor
