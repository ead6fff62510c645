/-
  StoreApart: what is done to one chain leaves the other as it is. (Printed by gen_tan.py.)
-/
import Derived.Test.YtohgjpljobmpaaaDoorTaM
set_option linter.unusedVariables false
set_option linter.unusedSimpArgs false
namespace Go.Proofs.YtohgjpljobmpaaaDoor
open Go.RowKit Go.Maps

def sN2 : Stt := Stt.zero.node.node
section
variable {w : World}
theorem two_start : Two sN2 0 0 [] [] := by
  have c : Ch sN2 0 [] := .inr (by decide)
  exact ⟨⟨c, by decide, by decide, .inl rfl⟩, ⟨c, by decide, by decide, .inl rfl⟩, rfl, fun m hm => (nomatch hm), fun m hm => (nomatch hm)⟩

set_option maxRecDepth 100000 in
set_option maxHeartbeats 16000000 in
theorem storeApart_walk (ao : Option Addr) (len cap : Nat) (xs : List ByteArray) (ct : Int) (hT : Tab w) (hs : Seq 1 sv w ao len cap xs) (hb : I64 ct) :
    Calls Tryd.prog 3 #[.slice ao len cap, .int .i64 ct] w fun e w' => e = .returned (.bool true) ∧ Below w.heap.size w w' := by
  have HS := hide2 (sshown_any hT)
  have hcap := hs.2.1
  have hmax := hs.2.2.1
  unfold maxLen at hmax
  have HSQ := hide2 hs
  have HT := hide2 hT
  clear hT hs
  go_enter Tryd.func3, Tryd.ntmps3
  go_wp2_with fail
  refine HS.out.mono ?_
  rintro e w0 ⟨rfl, hb0⟩
  have HT0 := hide2 (HT.out.fr (Fr.below (F := fun _ => False) hb0) id)
  have HB0 := hide2 hb0
  have HM := hide2 (New_any 1000 w0 (by decide) (by decide))
  have hs0 := hb0.size
  clear HS hb0
  go_wp2_with fail
  refine HM.out.mono ?_
  rintro e w1 ⟨rfl, ⟨F, hA⟩, hb1⟩
  have HN := hide2 (lv_new (g := 0) (z := 1000) HT0.out hb1 hA)
  clear HM hA hb1
  go_wp2_with fail
  refine HN.out.mono ?_
  rintro e w2 ⟨rfl, K2, L2⟩
  obtain ⟨sb, hsb⟩ : ∃ x, x = w1.heap.size := ⟨_, rfl⟩
  obtain ⟨d, hd⟩ : ∃ x, x = w0.heap.size + 1 := ⟨_, rfl⟩
  rw [← hsb, ← hd] at L2
  rw [← hsb, ← hd]
  have FIN : Hid (∀ w', Below w0.heap.size w0 w' → Below w.heap.size w w') := hide2 (fun w' hb => HB0.out.trans ⟨hb.os, hb.tape, hb.output, hb.size, fun j hj => hb.block j (by omega)⟩)
  have HND := hide2 (node_any L2.rp (by decide) (by decide) (by decide))
  have HL2 := hide2 L2
  clear HN hsb hd L2
  go_wp2_with fail
  refine HND.out.mono ?_
  rintro e w3 ⟨rfl, a3⟩
  obtain ⟨K3, L3, -, -⟩ := HL2.out.step a3
  have e1 : ((Stt.zero.la 0 + 1 : Nat) : Int) = 1 := rfl
  rw [e1]
  have HND2 := hide2 (node_any L3.rp (by decide) (by decide) (by decide))
  have HL3 := hide2 L3
  clear HND HL2 a3 L3 e1
  go_wp2_with fail
  refine HND2.out.mono ?_
  rintro e w4 ⟨rfl, a4⟩
  obtain ⟨K4, L4, -, -⟩ := HL3.out.step a4
  have e1 : ((Stt.zero.node.la 0 + 1 : Nat) : Int) = 2 := rfl
  rw [e1]
  have HL4 : Hid (Lv w0 w4 K4 sb d 1000 6 sN2 4) := hide2 L4
  clear HND2 HL3 a4 L4 e1
  go_wp2
  go_loopw [14, 15, 16] (fun p1 p2 i wr => ∃ (n : Nat) (x1 x2 : Int) (l1 l2 : List Nat) (K : Nat → Prop) (A : Stt), n ≤ len ∧ n ≤ 100 ∧ i = .int .i64 (n : Nat) ∧ p1 = .int .i64 x1 ∧ p2 = .int .i64 x2 ∧ l1.length ≤ n ∧ Hid (A.la 1 ≤ 2 * n) ∧ Hid (Two A x1 x2 l1 l2) ∧ Hid (Lv w0 wr K sb d 1000 (6 + 10 * n) A (4 + 6 * l1.length))) (fun _ _ i _ => 100 - (intOf i).toNat)
  case atStart => exact ⟨0, 0, 0, [], [], K4, sN2, Nat.zero_le _, Nat.zero_le _, rfl, rfl, rfl, Nat.le_refl _, hide2 (by decide), hide2 two_start, HL4⟩
  case round =>
    clear HL4
    obtain ⟨n, x1, x2, l1, l2, K, A, hn1, hn2, rfl, rfl, rfl, hln, HA, TW, L⟩ := hrel
    by_cases hlt : n < len ∧ n < 100
    · obtain ⟨g1, g2⟩ := hlt
      have c1 : decide ((n : Int) < (len : Int)) = true := by simp; omega
      have c2 : decide ((n : Int) < 100) = true := by simp; omega
      have c3 : (n : Int) < (len : Int) := by omega
      have c4 : (n : Int) < 100 := by omega
      have hcv : IntKind.u64.wrap (n : Int) = n := by rw [IntKind.wrap_u64]; omega
      obtain ⟨b, off, eao, hbl, hcell⟩ := HSQ.out.2.2.2 (by omega)
      obtain ⟨t, hx⟩ : ∃ x, xs[n]? = some x := some_at HSQ.out.1 g1
      have hbl0 : b < w0.heap.size := by omega
      have hc0 : w0.cell? ⟨b, off + n, none⟩ = some (.string t) := by
        have h1 := hcell n t hx 0 _ rfl
        have h3 := HB0.out.cell (p := ⟨b, off + n, none⟩) hbl
        rw [h3]
        simpa using h1
      have hc : wr.cell? ⟨b, off + n, none⟩ = some (.string t) := (L.out.bl.cell (p := ⟨b, off + n, none⟩) hbl0).trans hc0
      subst eao
      have HC0 := hide2 hc0
      clear hcell hx hc0
      by_cases ht : t.size ≤ 64
      · have hla := HA.out
        have hok := L.out.rp.ok
        have hle1 := TW.out.f1.le hok
        have HVR := hide2 (ver_any (t := t) (b := (n : Int)) L.out.rp TW.out.f1 ht (by omega) (mbg_small (by omega)) (by omega) (by omega) (by omega))
        have HOK := hide2 hok
        clear hok
        go_wp2_with fail
        refine HVR.out.mono ?_
        rintro e w5 ⟨rfl, a5⟩
        obtain ⟨K5, L5, -, -⟩ := L.out.step a5
        have hc5 : w5.cell? ⟨b, off + n, none⟩ = some (.string t) := (L5.bl.cell (p := ⟨b, off + n, none⟩) hbl0).trans HC0.out
        have hvr2 := ver_any (t := t) (b := (n : Int)) L5.rp (TW.out.f2.ver HOK.out) ht (by omega) (mbg_small (by omega)) (by rw [ver_la1]; omega) (by omega) (by omega)
        rw [ver_la1] at hvr2
        have HVR2 := hide2 hvr2
        have HL5 := hide2 L5
        clear HVR a5 L5 hvr2 hc
        go_wp2_with fail
        refine HVR2.out.mono ?_
        rintro e w6 ⟨rfl, a6⟩
        obtain ⟨K6, L6, -, -⟩ := HL5.out.step a6
        have hB2 : Hid (((A.ver t (n : Int) x1).ver t (n : Int) x2).va 0 1 = x1 ∧ ((A.ver t (n : Int) x1).ver t (n : Int) x2).lv 0 1 = true ∧ ((A.ver t (n : Int) x1).ver t (n : Int) x2).va 0 2 = x2 ∧ ((A.ver t (n : Int) x1).ver t (n : Int) x2).lv 0 2 = true ∧ ((A.ver t (n : Int) x1).ver t (n : Int) x2).lv 1 (A.la 1 + 1) = true ∧ ((A.ver t (n : Int) x1).ver t (n : Int) x2).lv 1 (A.la 1 + 1 + 1) = true) := hide2 (by
          refine ⟨ver_va0.trans (ver_va0.trans TW.out.f1.hd), ?_, ver_va0.trans (ver_va0.trans TW.out.f2.hd), ?_, ?_, ?_⟩
          · rw [ver_lv (by decide), ver_lv (by decide)]; exact TW.out.f1.lv
          · rw [ver_lv (by decide), ver_lv (by decide)]; exact TW.out.f2.lv
          · rw [ver_lv1, ver_la1, if_neg (by omega), ver_lv1, if_pos rfl]
          · rw [ver_lv1, ver_la1, if_pos rfl])
        have hl2x : ∀ y, A.lv 1 y = true → ((A.ver t (n : Int) x1).ver t (n : Int) x2).lv 1 y = true := fun y hy => by
          rw [ver_lv1]
          split
          · rfl
          · rw [ver_lv1]
            split
            · rfl
            · exact hy
        have HPU := hide2 (push_put L6.rp hB2.out.2.1 hB2.out.1 (TW.out.f1.xn.imp id (fun ⟨y, e, hy, _⟩ => ⟨y, e, hl2x y hy⟩)) hB2.out.2.2.2.2.1 (by omega))
        have HL6 := hide2 L6
        have HLX := hide2 hl2x
        clear HVR2 a6 L6 HL5 hl2x hc5
        go_wp2_with fail
        refine HPU.out.mono ?_
        rintro e w7 ⟨rfl, a7⟩
        obtain ⟨K7, L7, -, -⟩ := HL6.out.step a7
        have HPU2 := hide2 (push_put (n := 2) (x := x2) (now := A.la 1 + 1 + 1) L7.rp hB2.out.2.2.2.1 (by rw [put0_va0, if_neg (by decide)]; exact hB2.out.2.2.1) (TW.out.f2.xn.imp id (fun ⟨y, e, hy, _⟩ => ⟨y, e, HLX.out y hy⟩)) hB2.out.2.2.2.2.2 (by omega))
        have HL7 := hide2 L7
        clear HPU a7 L7 HL6
        go_wp2_with fail
        refine HPU2.out.mono ?_
        rintro e w8 ⟨rfl, a8⟩
        obtain ⟨K8, L8, -, -⟩ := HL7.out.step a8
        have HL8 : Hid (Lv w0 w8 K8 sb d 1000 (6 + 10 * n + 4 + 4 + 1 + 1) (twoA A t (n : Int) x1 x2) (4 + 6 * l1.length + 3 + 3)) := hide2 L8
        have TW8 := hide2 (TW.out.next (t := t) (b := (n : Int)) HOK.out (Stt.ver_ok HOK.out ht (by omega) hle1 (by omega)))
        have HA8 : Hid ((twoA A t (n : Int) x1 x2).la 1 ≤ 2 * (n + 1)) := hide2 (by
          show ((A.ver t (n : Int) x1).ver t (n : Int) x2).la 1 ≤ _
          rw [ver_la1, ver_la1]; omega)
        have HLN : Hid (((A.la 1 + 1) :: l1).length = l1.length + 1) := hide2 (by simp)
        clear HPU2 a8 L8 HL7 hB2 HLX
        go_wp2
        go_roundw
        case rel => exact ⟨n + 1, _, _, (A.la 1 + 1) :: l1, (A.la 1 + 1 + 1) :: l2, K8, twoA A t (n : Int) x1 x2, by omega, by omega, by go_num, rfl, rfl, by rw [HLN.out]; omega, HA8, TW8, hide2 (by have q := HL8.out; rw [HLN.out, show 6 + 10 * (n + 1) = 6 + 10 * n + 4 + 4 + 1 + 1 by omega, show 4 + 6 * (l1.length + 1) = 4 + 6 * l1.length + 3 + 3 by omega]; exact q)⟩
        case measure => simp [intOf]; omega
      · have HVR := hide2 (ver_long (t := t) (b := (n : Int)) (x := x1) L.out.rp (by omega))
        have HVR2 := hide2 (ver_long (t := t) (b := (n : Int)) (x := x2) L.out.rp (by omega))
        clear ht
        go_wp2_with fail
        refine HVR.out.mono ?_
        rintro e w5 ⟨rfl, q5⟩
        subst q5
        clear HVR
        go_wp2_with fail
        refine HVR2.out.mono ?_
        rintro e w6 ⟨rfl, q6⟩
        subst q6
        clear HVR2
        go_wp2
        go_roundw
        case rel => exact ⟨n + 1, x1, x2, l1, l2, K, A, by omega, by omega, by go_num, rfl, rfl, by omega, hide2 (by have := HA.out; omega), TW, hide2 (L.out.up (by omega))⟩
        case measure => simp [intOf]; omega
    · have hl100 : l1.length ≤ 100 := by omega
      have h2len := TW.out.len
      have HCH := hide2 (chain_any L.out.rp TW.out.f2.lv (l := l2) (by rw [TW.out.f2.hd]; exact TW.out.f2.ch) (by omega) (by omega))
      by_cases hl1 : n < len
      · have c1 : decide ((n : Int) < (len : Int)) = true := by simp; omega
        have c2 : decide ((n : Int) < 100) = false := by simp; omega
        have c3 : (n : Int) < (len : Int) := by omega
        have c4 : ¬ (n : Int) < 100 := by omega
        clear hlt h2len
        go_wp2_with fail
        refine HCH.out.mono ?_
        rintro e w5 ⟨v1, rfl, r5⟩
        obtain ⟨K5, L5, hk5, hF5, R5⟩ := L.out.chain r5
        have h2l := TW.out.len
        have HCH2 := hide2 (chain_any L5.rp TW.out.f1.lv (l := l1) (by rw [TW.out.f1.hd]; exact TW.out.f1.ch) (by omega) (by omega))
        have HL5 := hide2 L5
        have HR5 := hide2 R5
        clear HCH r5 L5 hk5 hF5 R5 h2l
        go_wp2_with fail
        refine HCH2.out.mono ?_
        rintro e w6 ⟨v2, rfl, r6⟩
        obtain ⟨K6, L6, hk6, hF6, R6⟩ := HL5.out.chain r6
        have h2len := TW.out.len
        have HL6 : Hid (Lv w0 w6 K6 sb d 1000 2000 A (4 + 6 * l1.length)) := hide2 (L6.up (by omega))
        have HR6 := hide2 (HR5.out.step hF6 hk6)
        obtain ⟨b2, cp2, ev2, hsq2⟩ := R6.form
        subst ev2
        have HQ2 := hide2 hsq2
        clear HCH2 r6 L6 hk6 hF6 R6 HL5 HR5 hsq2 h2len
        by_cases hct : 0 ≤ ct ∧ ct < (l1.length : Int)
        · obtain ⟨cn, rfl⟩ : ∃ c : Nat, ct = (c : Int) := ⟨ct.toNat, by omega⟩
          have hcl : cn < l1.length := by omega
          have e1 : decide ((0 : Int) ≤ (cn : Int)) = true := by simp
          have e2 : (0 : Int) ≤ (cn : Int) := by omega
          have e3 : decide ((cn : Int) < (l1.length : Int)) = true := by simp; omega
          have e4 : (cn : Int) < (l1.length : Int) := by omega
          obtain ⟨y, hy⟩ : ∃ y, l1[cn]? = some y := ⟨_, List.getElem?_eq_getElem hcl⟩
          obtain ⟨bb, off2, ebo, hbb, hcc⟩ := HQ2.out.2.2.2 (by omega)
          have hcy : w6.cell? ⟨bb, off2 + cn, none⟩ = some (.int .i64 (y : Int)) := by
            have := hcc cn (y : Int) (by rw [List.getElem?_map, hy]; rfl) 0 _ rfl
            simpa using this
          subst ebo
          have hyl := TW.out.f1.ch.live y (List.mem_of_getElem? hy)
          have hdl : (l1.drop (cn + 1)).length = l1.length - (cn + 1) := List.length_drop ..
          have HCU := hide2 (cut_in HL6.out.rp hyl (TW.out.f1.ch.drop cn y hy) (by rw [hdl]; omega) (by omega))
          have HDP := hide2 (TW.out.cut HL6.out.rp.ok hy)
          have htl : (l1.take (cn + 1)).length = cn + 1 := by rw [List.length_take]; omega
          have HTL := hide2 htl
          have HDL := hide2 hdl
          clear hcc hy hyl hdl htl hct
          go_wp2_with fail
          refine HCU.out.mono ?_
          rintro e w7 ⟨rfl, hu7, a7⟩
          obtain ⟨K7, L7, hk7, hF7⟩ := HL6.out.step a7
          have HL7 : Hid (Lv w0 w7 K7 sb d 1000 3000 (offs (A.put 4 y 0) (l1.drop (cn + 1))) (4 + 6 * l1.length - 3 * (l1.drop (cn + 1)).length)) := hide2 (L7.up (by rw [HDL.out]; omega))
          have HR7 := hide2 (HR6.out.step hF7 hk7)
          have cl : (((l1.drop (cn + 1)).length : Nat) : Int) = (l1.length : Int) - 1 - (cn : Int) := by rw [HDL.out]; omega
          rw [cl]
          clear HCU a7 L7 hk7 hF7 HL6 HR6 cl hu7 hcy
          go_wp2
          go_loopw [29] (fun i wr => ∃ (j : Nat) (ls : List Nat) (K : Nat → Prop) (A : Stt) (u : Nat), i = .int .i64 (j : Nat) ∧ ls.length + j = cn + 1 ∧ Hid (Dp A ls x2 l2) ∧ Hid (Lv w0 wr K sb d 1000 (3000 + 3 * j) A u) ∧ Hid (Rw wr K v1 l2)) (fun i _ => cn + 1 - (intOf i).toNat)
          case atStart => exact ⟨0, l1.take (cn + 1), K7, _, _, rfl, by rw [HTL.out], HDP, HL7, HR7⟩
          case round =>
            clear HDP HL7 HR7 L HA
            obtain ⟨j, ls, K, A, u, rfl, hlj, DP, L, RW⟩ := hrel
            match ls, DP with
            | y2 :: ls2, DP =>
              obtain ⟨g5, g6, g7⟩ := DP.out.drop L.out.rp.ok
              have hj : j ≤ cn := by simp at hlj; omega
              have k1 : decide ((j : Int) ≤ (cn : Int)) = true := by simp; omega
              have k2 : (j : Int) ≤ (cn : Int) := by omega
              have hl2 : ls2.length + (j + 1) = cn + 1 := by simp at hlj; omega
              have HDR := hide2 (drop_in L.out.rp DP.out.n1 g5 g6 (by omega))
              have HG7 := hide2 g7
              have HL2 := hide2 hl2
              clear g5 g6 g7 hlj hl2
              go_wp2_with fail
              refine HDR.out.mono ?_
              rintro e w8 ⟨rfl, hu8, a8⟩
              obtain ⟨K8, L8, hk8, hF8⟩ := L.out.step a8
              have HL8 := hide2 L8
              have HR8 := hide2 (RW.out.step hF8 hk8)
              clear HDR a8 L8 hk8 hF8
              go_wp2
              go_roundw
              case rel => exact ⟨j + 1, ls2, K8, _, _, by go_num, HL2.out, HG7, hide2 (HL8.out.up (by omega)), HR8⟩
              case measure => simp [intOf]; omega
            | [], DP =>
              have hj : j = cn + 1 := by simpa using hlj
              have k1 : decide ((j : Int) ≤ (cn : Int)) = false := by simp; omega
              have k2 : ¬ (j : Int) ≤ (cn : Int) := by omega
              have HCH3 := hide2 (chain_any L.out.rp DP.out.n1 DP.out.c1 (Nat.zero_le _) (by omega))
              clear hlj
              go_wp2_with fail
              refine HCH3.out.mono ?_
              rintro e w8 ⟨v3, rfl, r8⟩
              obtain ⟨K8, L8, hk8, hF8, R8⟩ := L.out.chain r8
              obtain ⟨b3, cp3, ev3, hsq3⟩ := R8.form
              subst ev3
              have HL8 : Hid (Lv w0 w8 K8 sb d 1000 5000 A u) := hide2 (L8.up (show 3000 + 3 * j + 2 + 0 ≤ 5000 by omega))
              have HR8 := hide2 (RW.out.step hF8 hk8)
              clear HCH3 r8 L8 hk8 hF8 R8 hsq3 RW L
              have HCH4 := hide2 (chain_any HL8.out.rp DP.out.n2 (l := l2) (by rw [DP.out.hd]; exact DP.out.c2) (by have := TW.out.len; omega) (by omega))
              go_wp2_with fail
              refine HCH4.out.mono ?_
              rintro e w9 ⟨v4, rfl, r9⟩
              obtain ⟨K9, L9, hk9, hF9, R9⟩ := HL8.out.chain r9
              have hll := TW.out.len
              have HL9 := hide2 (L9.up (show _ ≤ 9000 by omega))
              obtain ⟨b1, cp1, ev1, -⟩ := HR8.out.form
              subst ev1
              obtain ⟨b4, cp4, ev4, -⟩ := R9.form
              subst ev4
              have HR9 := hide2 (HR8.out.step hF9 hk9)
              have HQ9 := hide2 R9
              have hl2c : l2.length ≤ 100 := by omega
              clear HCH4 r9 L9 hk9 hF9 R9 hll
              go_wp2
              go_loopw [32] (fun i wr => ∃ (j : Nat) (K : Nat → Prop) (u : Nat), j ≤ l2.length ∧ i = .int .i64 (j : Nat) ∧ Hid (Lv w0 wr K sb d 1000 (9000 + j) A u) ∧ Hid (Rw wr K (.slice b1 l2.length cp1) l2) ∧ Hid (Rw wr K (.slice b4 l2.length cp4) l2)) (fun i _ => l2.length - (intOf i).toNat)
              case atStart => exact ⟨0, K9, _, Nat.zero_le _, rfl, HL9, HR9, HQ9⟩
              case round =>
                clear HL9 HR9 HQ9
                obtain ⟨j, K, u9, hj, rfl, L, RW1, RW4⟩ := hrel
                obtain ⟨ao4, cq4, e4v, hsq4⟩ := RW4.out.form
                simp only [Value.slice.injEq, true_and] at e4v
                obtain ⟨rfl, rfl⟩ := e4v
                obtain ⟨ao1, cq1, e1v, hsq1⟩ := RW1.out.form
                simp only [Value.slice.injEq, true_and] at e1v
                obtain ⟨rfl, rfl⟩ := e1v
                by_cases hj2 : j < l2.length
                · have k1 : decide ((j : Int) < (l2.length : Int)) = true := by simp; omega
                  have k2 : (j : Int) < (l2.length : Int) := by omega
                  obtain ⟨y2, hy2⟩ : ∃ y, l2[j]? = some y := ⟨_, List.getElem?_eq_getElem hj2⟩
                  obtain ⟨bb4, of4, ebo4, hbb4, hcc4⟩ := hsq4.2.2.2 (by omega)
                  have hcy4 : wr.cell? ⟨bb4, of4 + j, none⟩ = some (.int .i64 (y2 : Int)) := by
                    have := hcc4 j (y2 : Int) (by rw [List.getElem?_map, hy2]; rfl) 0 _ rfl
                    simpa using this
                  subst ebo4
                  have hym := List.mem_of_getElem? hy2
                  have hen := end_any (n := y2) L.out.rp (DP.out.c2.live y2 hym) (by omega)
                  rw [DP.out.en y2 hym] at hen
                  have HEN := hide2 hen
                  clear hen hym hy2 hcc4 hsq4 hsq1
                  go_wp2_with fail
                  refine HEN.out.mono ?_
                  rintro e wz ⟨rfl, az⟩
                  obtain ⟨Kz, Lz, hkz, hFz⟩ := L.out.step az
                  have HLz := hide2 Lz
                  have HR1 := hide2 (RW1.out.step hFz hkz)
                  have HR4 := hide2 (RW4.out.step hFz hkz)
                  clear HEN az Lz hkz hFz
                  go_wp2
                  go_roundw
                  case rel => exact ⟨j + 1, Kz, u9, by omega, by go_num, hide2 (HLz.out.up (by omega)), HR1, HR4⟩
                  case measure => simp [intOf]; omega
                · have k1 : decide ((j : Int) < (l2.length : Int)) = false := by simp; omega
                  have k2 : ¬ (j : Int) < (l2.length : Int) := by omega
                  have HIN := hide2 (ints_same hsq1 hsq4)
                  clear hsq1 hsq4
                  go_wp2_with fail
                  refine HIN.out.mono ?_
                  rintro e wz ⟨rfl, qz, hwz⟩
                  have HWZ := hide2 hwz
                  clear hwz HIN
                  go_wp2
                  go_ret
                  exact ⟨rfl, by rw [HWZ.out]; exact (FIN.out _ L.out.bl).trans (below_drewN _ _ _)⟩
        · have HDP := hide2 TW.out.dp
          have HCH4 := hide2 (chain_any HL6.out.rp HDP.out.n2 (l := l2) (by rw [HDP.out.hd]; exact HDP.out.c2) (by have := TW.out.len; omega) (by omega))
          by_cases hc0 : 0 ≤ ct
          · have e1 : decide ((0 : Int) ≤ ct) = true := by simp [hc0]
            have e3 : decide (ct < (l1.length : Int)) = false := by simp; omega
            have e4 : ¬ ct < (l1.length : Int) := by omega
            clear hct
            go_wp2_with fail
            refine HCH4.out.mono ?_
            rintro e w9 ⟨v4, rfl, r9⟩
            obtain ⟨K9, L9, hk9, hF9, R9⟩ := HL6.out.chain r9
            have hll := TW.out.len
            have HL9 := hide2 (L9.up (show _ ≤ 9000 by omega))
            obtain ⟨b1, cp1, ev1, -⟩ := HR6.out.form
            subst ev1
            obtain ⟨b4, cp4, ev4, -⟩ := R9.form
            subst ev4
            have HR9 := hide2 (HR6.out.step hF9 hk9)
            have HQ9 := hide2 R9
            have hl2c : l2.length ≤ 100 := by omega
            clear HCH4 r9 L9 hk9 hF9 R9 hll
            go_wp2
            go_loopw [32] (fun i wr => ∃ (j : Nat) (K : Nat → Prop) (u : Nat), j ≤ l2.length ∧ i = .int .i64 (j : Nat) ∧ Hid (Lv w0 wr K sb d 1000 (9000 + j) A u) ∧ Hid (Rw wr K (.slice b1 l2.length cp1) l2) ∧ Hid (Rw wr K (.slice b4 l2.length cp4) l2)) (fun i _ => l2.length - (intOf i).toNat)
            case atStart => exact ⟨0, K9, _, Nat.zero_le _, rfl, HL9, HR9, HQ9⟩
            case round =>
              clear HL9 HR9 HQ9
              obtain ⟨j, K, u9, hj, rfl, L, RW1, RW4⟩ := hrel
              obtain ⟨ao4, cq4, e4v, hsq4⟩ := RW4.out.form
              simp only [Value.slice.injEq, true_and] at e4v
              obtain ⟨rfl, rfl⟩ := e4v
              obtain ⟨ao1, cq1, e1v, hsq1⟩ := RW1.out.form
              simp only [Value.slice.injEq, true_and] at e1v
              obtain ⟨rfl, rfl⟩ := e1v
              by_cases hj2 : j < l2.length
              · have k1 : decide ((j : Int) < (l2.length : Int)) = true := by simp; omega
                have k2 : (j : Int) < (l2.length : Int) := by omega
                obtain ⟨y2, hy2⟩ : ∃ y, l2[j]? = some y := ⟨_, List.getElem?_eq_getElem hj2⟩
                obtain ⟨bb4, of4, ebo4, hbb4, hcc4⟩ := hsq4.2.2.2 (by omega)
                have hcy4 : wr.cell? ⟨bb4, of4 + j, none⟩ = some (.int .i64 (y2 : Int)) := by
                  have := hcc4 j (y2 : Int) (by rw [List.getElem?_map, hy2]; rfl) 0 _ rfl
                  simpa using this
                subst ebo4
                have hym := List.mem_of_getElem? hy2
                have hen := end_any (n := y2) L.out.rp (HDP.out.c2.live y2 hym) (by omega)
                rw [HDP.out.en y2 hym] at hen
                have HEN := hide2 hen
                clear hen hym hy2 hcc4 hsq4 hsq1
                go_wp2_with fail
                refine HEN.out.mono ?_
                rintro e wz ⟨rfl, az⟩
                obtain ⟨Kz, Lz, hkz, hFz⟩ := L.out.step az
                have HLz := hide2 Lz
                have HR1 := hide2 (RW1.out.step hFz hkz)
                have HR4 := hide2 (RW4.out.step hFz hkz)
                clear HEN az Lz hkz hFz
                go_wp2
                go_roundw
                case rel => exact ⟨j + 1, Kz, u9, by omega, by go_num, hide2 (HLz.out.up (by omega)), HR1, HR4⟩
                case measure => simp [intOf]; omega
              · have k1 : decide ((j : Int) < (l2.length : Int)) = false := by simp; omega
                have k2 : ¬ (j : Int) < (l2.length : Int) := by omega
                have HIN := hide2 (ints_same hsq1 hsq4)
                clear hsq1 hsq4
                go_wp2_with fail
                refine HIN.out.mono ?_
                rintro e wz ⟨rfl, qz, hwz⟩
                have HWZ := hide2 hwz
                clear hwz HIN
                go_wp2
                go_ret
                exact ⟨rfl, by rw [HWZ.out]; exact (FIN.out _ L.out.bl).trans (below_drewN _ _ _)⟩
          · have e1 : decide ((0 : Int) ≤ ct) = false := by simp; omega
            clear hct
            go_wp2_with fail
            refine HCH4.out.mono ?_
            rintro e w9 ⟨v4, rfl, r9⟩
            obtain ⟨K9, L9, hk9, hF9, R9⟩ := HL6.out.chain r9
            have hll := TW.out.len
            have HL9 := hide2 (L9.up (show _ ≤ 9000 by omega))
            obtain ⟨b1, cp1, ev1, -⟩ := HR6.out.form
            subst ev1
            obtain ⟨b4, cp4, ev4, -⟩ := R9.form
            subst ev4
            have HR9 := hide2 (HR6.out.step hF9 hk9)
            have HQ9 := hide2 R9
            have hl2c : l2.length ≤ 100 := by omega
            clear HCH4 r9 L9 hk9 hF9 R9 hll
            go_wp2
            go_loopw [32] (fun i wr => ∃ (j : Nat) (K : Nat → Prop) (u : Nat), j ≤ l2.length ∧ i = .int .i64 (j : Nat) ∧ Hid (Lv w0 wr K sb d 1000 (9000 + j) A u) ∧ Hid (Rw wr K (.slice b1 l2.length cp1) l2) ∧ Hid (Rw wr K (.slice b4 l2.length cp4) l2)) (fun i _ => l2.length - (intOf i).toNat)
            case atStart => exact ⟨0, K9, _, Nat.zero_le _, rfl, HL9, HR9, HQ9⟩
            case round =>
              clear HL9 HR9 HQ9
              obtain ⟨j, K, u9, hj, rfl, L, RW1, RW4⟩ := hrel
              obtain ⟨ao4, cq4, e4v, hsq4⟩ := RW4.out.form
              simp only [Value.slice.injEq, true_and] at e4v
              obtain ⟨rfl, rfl⟩ := e4v
              obtain ⟨ao1, cq1, e1v, hsq1⟩ := RW1.out.form
              simp only [Value.slice.injEq, true_and] at e1v
              obtain ⟨rfl, rfl⟩ := e1v
              by_cases hj2 : j < l2.length
              · have k1 : decide ((j : Int) < (l2.length : Int)) = true := by simp; omega
                have k2 : (j : Int) < (l2.length : Int) := by omega
                obtain ⟨y2, hy2⟩ : ∃ y, l2[j]? = some y := ⟨_, List.getElem?_eq_getElem hj2⟩
                obtain ⟨bb4, of4, ebo4, hbb4, hcc4⟩ := hsq4.2.2.2 (by omega)
                have hcy4 : wr.cell? ⟨bb4, of4 + j, none⟩ = some (.int .i64 (y2 : Int)) := by
                  have := hcc4 j (y2 : Int) (by rw [List.getElem?_map, hy2]; rfl) 0 _ rfl
                  simpa using this
                subst ebo4
                have hym := List.mem_of_getElem? hy2
                have hen := end_any (n := y2) L.out.rp (HDP.out.c2.live y2 hym) (by omega)
                rw [HDP.out.en y2 hym] at hen
                have HEN := hide2 hen
                clear hen hym hy2 hcc4 hsq4 hsq1
                go_wp2_with fail
                refine HEN.out.mono ?_
                rintro e wz ⟨rfl, az⟩
                obtain ⟨Kz, Lz, hkz, hFz⟩ := L.out.step az
                have HLz := hide2 Lz
                have HR1 := hide2 (RW1.out.step hFz hkz)
                have HR4 := hide2 (RW4.out.step hFz hkz)
                clear HEN az Lz hkz hFz
                go_wp2
                go_roundw
                case rel => exact ⟨j + 1, Kz, u9, by omega, by go_num, hide2 (HLz.out.up (by omega)), HR1, HR4⟩
                case measure => simp [intOf]; omega
              · have k1 : decide ((j : Int) < (l2.length : Int)) = false := by simp; omega
                have k2 : ¬ (j : Int) < (l2.length : Int) := by omega
                have HIN := hide2 (ints_same hsq1 hsq4)
                clear hsq1 hsq4
                go_wp2_with fail
                refine HIN.out.mono ?_
                rintro e wz ⟨rfl, qz, hwz⟩
                have HWZ := hide2 hwz
                clear hwz HIN
                go_wp2
                go_ret
                exact ⟨rfl, by rw [HWZ.out]; exact (FIN.out _ L.out.bl).trans (below_drewN _ _ _)⟩
      · have c1 : decide ((n : Int) < (len : Int)) = false := by simp; omega
        have c3 : ¬ (n : Int) < (len : Int) := by omega
        clear hlt h2len
        go_wp2_with fail
        refine HCH.out.mono ?_
        rintro e w5 ⟨v1, rfl, r5⟩
        obtain ⟨K5, L5, hk5, hF5, R5⟩ := L.out.chain r5
        have h2l := TW.out.len
        have HCH2 := hide2 (chain_any L5.rp TW.out.f1.lv (l := l1) (by rw [TW.out.f1.hd]; exact TW.out.f1.ch) (by omega) (by omega))
        have HL5 := hide2 L5
        have HR5 := hide2 R5
        clear HCH r5 L5 hk5 hF5 R5 h2l
        go_wp2_with fail
        refine HCH2.out.mono ?_
        rintro e w6 ⟨v2, rfl, r6⟩
        obtain ⟨K6, L6, hk6, hF6, R6⟩ := HL5.out.chain r6
        have h2len := TW.out.len
        have HL6 : Hid (Lv w0 w6 K6 sb d 1000 2000 A (4 + 6 * l1.length)) := hide2 (L6.up (by omega))
        have HR6 := hide2 (HR5.out.step hF6 hk6)
        obtain ⟨b2, cp2, ev2, hsq2⟩ := R6.form
        subst ev2
        have HQ2 := hide2 hsq2
        clear HCH2 r6 L6 hk6 hF6 R6 HL5 HR5 hsq2 h2len
        by_cases hct : 0 ≤ ct ∧ ct < (l1.length : Int)
        · obtain ⟨cn, rfl⟩ : ∃ c : Nat, ct = (c : Int) := ⟨ct.toNat, by omega⟩
          have hcl : cn < l1.length := by omega
          have e1 : decide ((0 : Int) ≤ (cn : Int)) = true := by simp
          have e2 : (0 : Int) ≤ (cn : Int) := by omega
          have e3 : decide ((cn : Int) < (l1.length : Int)) = true := by simp; omega
          have e4 : (cn : Int) < (l1.length : Int) := by omega
          obtain ⟨y, hy⟩ : ∃ y, l1[cn]? = some y := ⟨_, List.getElem?_eq_getElem hcl⟩
          obtain ⟨bb, off2, ebo, hbb, hcc⟩ := HQ2.out.2.2.2 (by omega)
          have hcy : w6.cell? ⟨bb, off2 + cn, none⟩ = some (.int .i64 (y : Int)) := by
            have := hcc cn (y : Int) (by rw [List.getElem?_map, hy]; rfl) 0 _ rfl
            simpa using this
          subst ebo
          have hyl := TW.out.f1.ch.live y (List.mem_of_getElem? hy)
          have hdl : (l1.drop (cn + 1)).length = l1.length - (cn + 1) := List.length_drop ..
          have HCU := hide2 (cut_in HL6.out.rp hyl (TW.out.f1.ch.drop cn y hy) (by rw [hdl]; omega) (by omega))
          have HDP := hide2 (TW.out.cut HL6.out.rp.ok hy)
          have htl : (l1.take (cn + 1)).length = cn + 1 := by rw [List.length_take]; omega
          have HTL := hide2 htl
          have HDL := hide2 hdl
          clear hcc hy hyl hdl htl hct
          go_wp2_with fail
          refine HCU.out.mono ?_
          rintro e w7 ⟨rfl, hu7, a7⟩
          obtain ⟨K7, L7, hk7, hF7⟩ := HL6.out.step a7
          have HL7 : Hid (Lv w0 w7 K7 sb d 1000 3000 (offs (A.put 4 y 0) (l1.drop (cn + 1))) (4 + 6 * l1.length - 3 * (l1.drop (cn + 1)).length)) := hide2 (L7.up (by rw [HDL.out]; omega))
          have HR7 := hide2 (HR6.out.step hF7 hk7)
          have cl : (((l1.drop (cn + 1)).length : Nat) : Int) = (l1.length : Int) - 1 - (cn : Int) := by rw [HDL.out]; omega
          rw [cl]
          clear HCU a7 L7 hk7 hF7 HL6 HR6 cl hu7 hcy
          go_wp2
          go_loopw [29] (fun i wr => ∃ (j : Nat) (ls : List Nat) (K : Nat → Prop) (A : Stt) (u : Nat), i = .int .i64 (j : Nat) ∧ ls.length + j = cn + 1 ∧ Hid (Dp A ls x2 l2) ∧ Hid (Lv w0 wr K sb d 1000 (3000 + 3 * j) A u) ∧ Hid (Rw wr K v1 l2)) (fun i _ => cn + 1 - (intOf i).toNat)
          case atStart => exact ⟨0, l1.take (cn + 1), K7, _, _, rfl, by rw [HTL.out], HDP, HL7, HR7⟩
          case round =>
            clear HDP HL7 HR7 L HA
            obtain ⟨j, ls, K, A, u, rfl, hlj, DP, L, RW⟩ := hrel
            match ls, DP with
            | y2 :: ls2, DP =>
              obtain ⟨g5, g6, g7⟩ := DP.out.drop L.out.rp.ok
              have hj : j ≤ cn := by simp at hlj; omega
              have k1 : decide ((j : Int) ≤ (cn : Int)) = true := by simp; omega
              have k2 : (j : Int) ≤ (cn : Int) := by omega
              have hl2 : ls2.length + (j + 1) = cn + 1 := by simp at hlj; omega
              have HDR := hide2 (drop_in L.out.rp DP.out.n1 g5 g6 (by omega))
              have HG7 := hide2 g7
              have HL2 := hide2 hl2
              clear g5 g6 g7 hlj hl2
              go_wp2_with fail
              refine HDR.out.mono ?_
              rintro e w8 ⟨rfl, hu8, a8⟩
              obtain ⟨K8, L8, hk8, hF8⟩ := L.out.step a8
              have HL8 := hide2 L8
              have HR8 := hide2 (RW.out.step hF8 hk8)
              clear HDR a8 L8 hk8 hF8
              go_wp2
              go_roundw
              case rel => exact ⟨j + 1, ls2, K8, _, _, by go_num, HL2.out, HG7, hide2 (HL8.out.up (by omega)), HR8⟩
              case measure => simp [intOf]; omega
            | [], DP =>
              have hj : j = cn + 1 := by simpa using hlj
              have k1 : decide ((j : Int) ≤ (cn : Int)) = false := by simp; omega
              have k2 : ¬ (j : Int) ≤ (cn : Int) := by omega
              have HCH3 := hide2 (chain_any L.out.rp DP.out.n1 DP.out.c1 (Nat.zero_le _) (by omega))
              clear hlj
              go_wp2_with fail
              refine HCH3.out.mono ?_
              rintro e w8 ⟨v3, rfl, r8⟩
              obtain ⟨K8, L8, hk8, hF8, R8⟩ := L.out.chain r8
              obtain ⟨b3, cp3, ev3, hsq3⟩ := R8.form
              subst ev3
              have HL8 : Hid (Lv w0 w8 K8 sb d 1000 5000 A u) := hide2 (L8.up (show 3000 + 3 * j + 2 + 0 ≤ 5000 by omega))
              have HR8 := hide2 (RW.out.step hF8 hk8)
              clear HCH3 r8 L8 hk8 hF8 R8 hsq3 RW L
              have HCH4 := hide2 (chain_any HL8.out.rp DP.out.n2 (l := l2) (by rw [DP.out.hd]; exact DP.out.c2) (by have := TW.out.len; omega) (by omega))
              go_wp2_with fail
              refine HCH4.out.mono ?_
              rintro e w9 ⟨v4, rfl, r9⟩
              obtain ⟨K9, L9, hk9, hF9, R9⟩ := HL8.out.chain r9
              have hll := TW.out.len
              have HL9 := hide2 (L9.up (show _ ≤ 9000 by omega))
              obtain ⟨b1, cp1, ev1, -⟩ := HR8.out.form
              subst ev1
              obtain ⟨b4, cp4, ev4, -⟩ := R9.form
              subst ev4
              have HR9 := hide2 (HR8.out.step hF9 hk9)
              have HQ9 := hide2 R9
              have hl2c : l2.length ≤ 100 := by omega
              clear HCH4 r9 L9 hk9 hF9 R9 hll
              go_wp2
              go_loopw [32] (fun i wr => ∃ (j : Nat) (K : Nat → Prop) (u : Nat), j ≤ l2.length ∧ i = .int .i64 (j : Nat) ∧ Hid (Lv w0 wr K sb d 1000 (9000 + j) A u) ∧ Hid (Rw wr K (.slice b1 l2.length cp1) l2) ∧ Hid (Rw wr K (.slice b4 l2.length cp4) l2)) (fun i _ => l2.length - (intOf i).toNat)
              case atStart => exact ⟨0, K9, _, Nat.zero_le _, rfl, HL9, HR9, HQ9⟩
              case round =>
                clear HL9 HR9 HQ9
                obtain ⟨j, K, u9, hj, rfl, L, RW1, RW4⟩ := hrel
                obtain ⟨ao4, cq4, e4v, hsq4⟩ := RW4.out.form
                simp only [Value.slice.injEq, true_and] at e4v
                obtain ⟨rfl, rfl⟩ := e4v
                obtain ⟨ao1, cq1, e1v, hsq1⟩ := RW1.out.form
                simp only [Value.slice.injEq, true_and] at e1v
                obtain ⟨rfl, rfl⟩ := e1v
                by_cases hj2 : j < l2.length
                · have k1 : decide ((j : Int) < (l2.length : Int)) = true := by simp; omega
                  have k2 : (j : Int) < (l2.length : Int) := by omega
                  obtain ⟨y2, hy2⟩ : ∃ y, l2[j]? = some y := ⟨_, List.getElem?_eq_getElem hj2⟩
                  obtain ⟨bb4, of4, ebo4, hbb4, hcc4⟩ := hsq4.2.2.2 (by omega)
                  have hcy4 : wr.cell? ⟨bb4, of4 + j, none⟩ = some (.int .i64 (y2 : Int)) := by
                    have := hcc4 j (y2 : Int) (by rw [List.getElem?_map, hy2]; rfl) 0 _ rfl
                    simpa using this
                  subst ebo4
                  have hym := List.mem_of_getElem? hy2
                  have hen := end_any (n := y2) L.out.rp (DP.out.c2.live y2 hym) (by omega)
                  rw [DP.out.en y2 hym] at hen
                  have HEN := hide2 hen
                  clear hen hym hy2 hcc4 hsq4 hsq1
                  go_wp2_with fail
                  refine HEN.out.mono ?_
                  rintro e wz ⟨rfl, az⟩
                  obtain ⟨Kz, Lz, hkz, hFz⟩ := L.out.step az
                  have HLz := hide2 Lz
                  have HR1 := hide2 (RW1.out.step hFz hkz)
                  have HR4 := hide2 (RW4.out.step hFz hkz)
                  clear HEN az Lz hkz hFz
                  go_wp2
                  go_roundw
                  case rel => exact ⟨j + 1, Kz, u9, by omega, by go_num, hide2 (HLz.out.up (by omega)), HR1, HR4⟩
                  case measure => simp [intOf]; omega
                · have k1 : decide ((j : Int) < (l2.length : Int)) = false := by simp; omega
                  have k2 : ¬ (j : Int) < (l2.length : Int) := by omega
                  have HIN := hide2 (ints_same hsq1 hsq4)
                  clear hsq1 hsq4
                  go_wp2_with fail
                  refine HIN.out.mono ?_
                  rintro e wz ⟨rfl, qz, hwz⟩
                  have HWZ := hide2 hwz
                  clear hwz HIN
                  go_wp2
                  go_ret
                  exact ⟨rfl, by rw [HWZ.out]; exact (FIN.out _ L.out.bl).trans (below_drewN _ _ _)⟩
        · have HDP := hide2 TW.out.dp
          have HCH4 := hide2 (chain_any HL6.out.rp HDP.out.n2 (l := l2) (by rw [HDP.out.hd]; exact HDP.out.c2) (by have := TW.out.len; omega) (by omega))
          by_cases hc0 : 0 ≤ ct
          · have e1 : decide ((0 : Int) ≤ ct) = true := by simp [hc0]
            have e3 : decide (ct < (l1.length : Int)) = false := by simp; omega
            have e4 : ¬ ct < (l1.length : Int) := by omega
            clear hct
            go_wp2_with fail
            refine HCH4.out.mono ?_
            rintro e w9 ⟨v4, rfl, r9⟩
            obtain ⟨K9, L9, hk9, hF9, R9⟩ := HL6.out.chain r9
            have hll := TW.out.len
            have HL9 := hide2 (L9.up (show _ ≤ 9000 by omega))
            obtain ⟨b1, cp1, ev1, -⟩ := HR6.out.form
            subst ev1
            obtain ⟨b4, cp4, ev4, -⟩ := R9.form
            subst ev4
            have HR9 := hide2 (HR6.out.step hF9 hk9)
            have HQ9 := hide2 R9
            have hl2c : l2.length ≤ 100 := by omega
            clear HCH4 r9 L9 hk9 hF9 R9 hll
            go_wp2
            go_loopw [32] (fun i wr => ∃ (j : Nat) (K : Nat → Prop) (u : Nat), j ≤ l2.length ∧ i = .int .i64 (j : Nat) ∧ Hid (Lv w0 wr K sb d 1000 (9000 + j) A u) ∧ Hid (Rw wr K (.slice b1 l2.length cp1) l2) ∧ Hid (Rw wr K (.slice b4 l2.length cp4) l2)) (fun i _ => l2.length - (intOf i).toNat)
            case atStart => exact ⟨0, K9, _, Nat.zero_le _, rfl, HL9, HR9, HQ9⟩
            case round =>
              clear HL9 HR9 HQ9
              obtain ⟨j, K, u9, hj, rfl, L, RW1, RW4⟩ := hrel
              obtain ⟨ao4, cq4, e4v, hsq4⟩ := RW4.out.form
              simp only [Value.slice.injEq, true_and] at e4v
              obtain ⟨rfl, rfl⟩ := e4v
              obtain ⟨ao1, cq1, e1v, hsq1⟩ := RW1.out.form
              simp only [Value.slice.injEq, true_and] at e1v
              obtain ⟨rfl, rfl⟩ := e1v
              by_cases hj2 : j < l2.length
              · have k1 : decide ((j : Int) < (l2.length : Int)) = true := by simp; omega
                have k2 : (j : Int) < (l2.length : Int) := by omega
                obtain ⟨y2, hy2⟩ : ∃ y, l2[j]? = some y := ⟨_, List.getElem?_eq_getElem hj2⟩
                obtain ⟨bb4, of4, ebo4, hbb4, hcc4⟩ := hsq4.2.2.2 (by omega)
                have hcy4 : wr.cell? ⟨bb4, of4 + j, none⟩ = some (.int .i64 (y2 : Int)) := by
                  have := hcc4 j (y2 : Int) (by rw [List.getElem?_map, hy2]; rfl) 0 _ rfl
                  simpa using this
                subst ebo4
                have hym := List.mem_of_getElem? hy2
                have hen := end_any (n := y2) L.out.rp (HDP.out.c2.live y2 hym) (by omega)
                rw [HDP.out.en y2 hym] at hen
                have HEN := hide2 hen
                clear hen hym hy2 hcc4 hsq4 hsq1
                go_wp2_with fail
                refine HEN.out.mono ?_
                rintro e wz ⟨rfl, az⟩
                obtain ⟨Kz, Lz, hkz, hFz⟩ := L.out.step az
                have HLz := hide2 Lz
                have HR1 := hide2 (RW1.out.step hFz hkz)
                have HR4 := hide2 (RW4.out.step hFz hkz)
                clear HEN az Lz hkz hFz
                go_wp2
                go_roundw
                case rel => exact ⟨j + 1, Kz, u9, by omega, by go_num, hide2 (HLz.out.up (by omega)), HR1, HR4⟩
                case measure => simp [intOf]; omega
              · have k1 : decide ((j : Int) < (l2.length : Int)) = false := by simp; omega
                have k2 : ¬ (j : Int) < (l2.length : Int) := by omega
                have HIN := hide2 (ints_same hsq1 hsq4)
                clear hsq1 hsq4
                go_wp2_with fail
                refine HIN.out.mono ?_
                rintro e wz ⟨rfl, qz, hwz⟩
                have HWZ := hide2 hwz
                clear hwz HIN
                go_wp2
                go_ret
                exact ⟨rfl, by rw [HWZ.out]; exact (FIN.out _ L.out.bl).trans (below_drewN _ _ _)⟩
          · have e1 : decide ((0 : Int) ≤ ct) = false := by simp; omega
            clear hct
            go_wp2_with fail
            refine HCH4.out.mono ?_
            rintro e w9 ⟨v4, rfl, r9⟩
            obtain ⟨K9, L9, hk9, hF9, R9⟩ := HL6.out.chain r9
            have hll := TW.out.len
            have HL9 := hide2 (L9.up (show _ ≤ 9000 by omega))
            obtain ⟨b1, cp1, ev1, -⟩ := HR6.out.form
            subst ev1
            obtain ⟨b4, cp4, ev4, -⟩ := R9.form
            subst ev4
            have HR9 := hide2 (HR6.out.step hF9 hk9)
            have HQ9 := hide2 R9
            have hl2c : l2.length ≤ 100 := by omega
            clear HCH4 r9 L9 hk9 hF9 R9 hll
            go_wp2
            go_loopw [32] (fun i wr => ∃ (j : Nat) (K : Nat → Prop) (u : Nat), j ≤ l2.length ∧ i = .int .i64 (j : Nat) ∧ Hid (Lv w0 wr K sb d 1000 (9000 + j) A u) ∧ Hid (Rw wr K (.slice b1 l2.length cp1) l2) ∧ Hid (Rw wr K (.slice b4 l2.length cp4) l2)) (fun i _ => l2.length - (intOf i).toNat)
            case atStart => exact ⟨0, K9, _, Nat.zero_le _, rfl, HL9, HR9, HQ9⟩
            case round =>
              clear HL9 HR9 HQ9
              obtain ⟨j, K, u9, hj, rfl, L, RW1, RW4⟩ := hrel
              obtain ⟨ao4, cq4, e4v, hsq4⟩ := RW4.out.form
              simp only [Value.slice.injEq, true_and] at e4v
              obtain ⟨rfl, rfl⟩ := e4v
              obtain ⟨ao1, cq1, e1v, hsq1⟩ := RW1.out.form
              simp only [Value.slice.injEq, true_and] at e1v
              obtain ⟨rfl, rfl⟩ := e1v
              by_cases hj2 : j < l2.length
              · have k1 : decide ((j : Int) < (l2.length : Int)) = true := by simp; omega
                have k2 : (j : Int) < (l2.length : Int) := by omega
                obtain ⟨y2, hy2⟩ : ∃ y, l2[j]? = some y := ⟨_, List.getElem?_eq_getElem hj2⟩
                obtain ⟨bb4, of4, ebo4, hbb4, hcc4⟩ := hsq4.2.2.2 (by omega)
                have hcy4 : wr.cell? ⟨bb4, of4 + j, none⟩ = some (.int .i64 (y2 : Int)) := by
                  have := hcc4 j (y2 : Int) (by rw [List.getElem?_map, hy2]; rfl) 0 _ rfl
                  simpa using this
                subst ebo4
                have hym := List.mem_of_getElem? hy2
                have hen := end_any (n := y2) L.out.rp (HDP.out.c2.live y2 hym) (by omega)
                rw [HDP.out.en y2 hym] at hen
                have HEN := hide2 hen
                clear hen hym hy2 hcc4 hsq4 hsq1
                go_wp2_with fail
                refine HEN.out.mono ?_
                rintro e wz ⟨rfl, az⟩
                obtain ⟨Kz, Lz, hkz, hFz⟩ := L.out.step az
                have HLz := hide2 Lz
                have HR1 := hide2 (RW1.out.step hFz hkz)
                have HR4 := hide2 (RW4.out.step hFz hkz)
                clear HEN az Lz hkz hFz
                go_wp2
                go_roundw
                case rel => exact ⟨j + 1, Kz, u9, by omega, by go_num, hide2 (HLz.out.up (by omega)), HR1, HR4⟩
                case measure => simp [intOf]; omega
              · have k1 : decide ((j : Int) < (l2.length : Int)) = false := by simp; omega
                have k2 : ¬ (j : Int) < (l2.length : Int) := by omega
                have HIN := hide2 (ints_same hsq1 hsq4)
                clear hsq1 hsq4
                go_wp2_with fail
                refine HIN.out.mono ?_
                rintro e wz ⟨rfl, qz, hwz⟩
                have HWZ := hide2 hwz
                clear hwz HIN
                go_wp2
                go_ret
                exact ⟨rfl, by rw [HWZ.out]; exact (FIN.out _ L.out.bl).trans (below_drewN _ _ _)⟩
end
end Go.Proofs.YtohgjpljobmpaaaDoor
