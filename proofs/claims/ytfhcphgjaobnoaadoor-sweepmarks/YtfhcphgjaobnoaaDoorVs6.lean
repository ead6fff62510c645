/-
  Layer 15: split; a node is swept.
-/
import Derived.Test.YtfhcphgjaobnoaaDoorVs5
set_option linter.unusedVariables false
set_option linter.unusedSimpArgs false
namespace Go.Proofs.YtfhcphgjaobnoaaDoor
open Go.RowKit Go.Maps

theorem zip_pr (A : Stt) : ∀ l : List Nat, (l.map (A.va 2)).zip (l.map (A.va 3)) = l.map (pr A)
  | [] => rfl
  | v :: l => by simp only [List.map_cons, List.zip_cons_cons, zip_pr A l]; rfl
section
variable {w w' : World} {B : Nat}
set_option maxRecDepth 100000 in
set_option maxHeartbeats 2000000 in
theorem split_some {g cap len k : Nat} {mark : Int} {bo eo : Option Addr} {cb ce : Nat} {bs es : List Int} (hb : Seq 1 uh w bo len cb bs) (he : Seq 1 uh w eo len ce es) (hb0 : ∀ x ∈ bs, U64 x) (he0 : ∀ x ∈ es, U64 x) (hk : kpz mark bs es = k) (hkl : k ≤ len) (hlc : len ≤ cap) (hcm : cap ≤ maxLen) :
    Calls Tryd.prog 90 #[.agg #[.slice (some ⟨g, 0, none⟩) len cap, .slice bo len cb, .slice eo len ce], .int .i64 mark] w fun e w' => ∃ lo lc, e = .returned (.tuple #[.slice (some ⟨g, 0, none⟩) k cap, .slice lo (len - k) lc]) ∧ (k < len → lo = some ⟨g, k, none⟩) ∧ Below w.heap.size w w' := by
  obtain ⟨wb, hwb⟩ : ∃ q, q = w.alloc (.cells #[.slice (some ⟨g, 0, none⟩) len cap, .slice bo len cb, .slice eo len ce] 136) := ⟨_, rfl⟩
  have hB : Below w.heap.size w wb := by rw [hwb]; exact (Below.refl _ w).alloc (Nat.le_refl _) _
  have bG : wb.heap[w.heap.size]? = some (.cells #[.slice (some ⟨g, 0, none⟩) len cap, .slice bo len cb, .slice eo len ce] 136 (0, 0)) := by rw [hwb]; exact heap_alloc_new w _
  have hsz : wb.heap.size = w.heap.size + 1 := by rw [hwb]; simp
  have HKP := hide2 (skeep_any (mark := mark) (hb.keep hB) (he.keep hB) hb0 he0)
  rw [hk] at HKP
  have HB := hide2 hB
  have HG := hide2 bG
  have c0 : wb.cell? ⟨w.heap.size, 0, none⟩ = some (.slice (some ⟨g, 0, none⟩) len cap) := by rw [Go.Joins.cell_of_block bG]; rfl
  have c1 : wb.cell? ⟨w.heap.size, 1, none⟩ = some (.slice bo len cb) := by rw [Go.Joins.cell_of_block bG]; rfl
  have c2 : wb.cell? ⟨w.heap.size, 2, none⟩ = some (.slice eo len ce) := by rw [Go.Joins.cell_of_block bG]; rfl
  rw [hwb] at c0 c1 c2
  unfold maxLen at hcm
  clear hb he hb0 he0 hB bG hk
  go_enter Tryd.func90, Tryd.ntmps90
  go_wp2_with fail
  rw [← hwb]
  refine HKP.out.mono ?_
  rintro e w1 ⟨rfl, hb1⟩
  have hs1 := hb1.size
  have bG1 := (hb1.block w.heap.size (by omega)).trans HG.out
  have y0 : w1.cell? ⟨w.heap.size, 0, none⟩ = some (.slice (some ⟨g, 0, none⟩) len cap) := by rw [Go.Joins.cell_of_block bG1]; rfl
  have hl1 : w.heap.size < w1.heap.size := by omega
  have HB1 : Hid (Below w.heap.size w w1) := hide2 (HB.out.trans ⟨hb1.os, hb1.tape, hb1.output, hb1.size, fun j hj => hb1.block j (by omega)⟩)
  have k1 : (k : Int) ≤ (len : Int) := by omega
  have k2 : (k : Int) ≤ (cap : Int) := by omega
  clear HKP hb1 bG1 HB HG c0 c1 c2 hwb
  by_cases hkc : k < cap
  · have k3 : (k : Int) < (cap : Int) := by omega
    go_wp2
    go_quiet (fail)
    go_wp2
    go_ret2
    exact ⟨_, _, rfl, fun _ => rfl, bdrew HB1.out _⟩
  · have k3 : k = cap := by omega
    have HZ : Hid (len - k = 0) := hide2 (by omega)
    have k4 : ¬ (k : Int) < (cap : Int) := by omega
    go_wp2
    go_quiet (fail)
    go_wp2
    go_ret2
    exact ⟨some ⟨g, 0, none⟩, 0, by rw [HZ.out]; first | rfl | (rw [k3]; rfl), fun q => by omega, bdrew HB1.out _⟩
set_option maxRecDepth 100000 in
set_option maxHeartbeats 2000000 in
theorem split_none {mark : Int} {bo eo : Option Addr} {cb ce : Nat} (hb : Seq 1 uh w bo 0 cb []) (he : Seq 1 uh w eo 0 ce []) :
    Calls Tryd.prog 90 #[.agg #[.slice none 0 0, .slice bo 0 cb, .slice eo 0 ce], .int .i64 mark] w fun e w' => e = .returned (.tuple #[.slice none 0 0, .slice none 0 0]) ∧ Below w.heap.size w w' := by
  obtain ⟨wb, hwb⟩ : ∃ q, q = w.alloc (.cells #[.slice none 0 0, .slice bo 0 cb, .slice eo 0 ce] 136) := ⟨_, rfl⟩
  have hB : Below w.heap.size w wb := by rw [hwb]; exact (Below.refl _ w).alloc (Nat.le_refl _) _
  have bG : wb.heap[w.heap.size]? = some (.cells #[.slice none 0 0, .slice bo 0 cb, .slice eo 0 ce] 136 (0, 0)) := by rw [hwb]; exact heap_alloc_new w _
  have hsz : wb.heap.size = w.heap.size + 1 := by rw [hwb]; simp
  have HKP := hide2 (skeep_any (mark := mark) (hb.keep hB) (he.keep hB) (by intro x hx; cases hx) (by intro x hx; cases hx))
  have hk : kpz mark [] [] = 0 := rfl
  rw [hk] at HKP
  have HB := hide2 hB
  have HG := hide2 bG
  have c0 : wb.cell? ⟨w.heap.size, 0, none⟩ = some (.slice none 0 0) := by rw [Go.Joins.cell_of_block bG]; rfl
  have c1 : wb.cell? ⟨w.heap.size, 1, none⟩ = some (.slice bo 0 cb) := by rw [Go.Joins.cell_of_block bG]; rfl
  have c2 : wb.cell? ⟨w.heap.size, 2, none⟩ = some (.slice eo 0 ce) := by rw [Go.Joins.cell_of_block bG]; rfl
  rw [hwb] at c0 c1 c2
  clear hB bG hk hb he
  go_enter Tryd.func90, Tryd.ntmps90
  go_wp2_with fail
  rw [← hwb]
  refine HKP.out.mono ?_
  rintro e w1 ⟨rfl, hb1⟩
  have hs1 := hb1.size
  have bG1 := (hb1.block w.heap.size (by omega)).trans HG.out
  have y0 : w1.cell? ⟨w.heap.size, 0, none⟩ = some (.slice none 0 0) := by rw [Go.Joins.cell_of_block bG1]; rfl
  have hl1 : w.heap.size < w1.heap.size := by omega
  have HB1 : Hid (Below w.heap.size w w1) := hide2 (HB.out.trans ⟨hb1.os, hb1.tape, hb1.output, hb1.size, fun j hj => hb1.block j (by omega)⟩)
  clear HKP hb1 bG1 HB HG c0 c1 c2 hwb
  go_wp2
  go_quiet (fail)
  go_wp2
  go_ret2
  exact ⟨rfl, bdrew HB1.out _⟩
end

section
variable {w w' : World} {K : Nat → Prop} {sb d z M u : Nat} {A : Stt}
/-- Both of what split tells of what look has told. -/
theorem split_any {v : Value} {l : List Nat} {mark : Int} (hL : LookR w w' K sb d z M A u l v) (hok : A.ok) (hlv : ∀ x ∈ l, A.lv 1 x = true) :
    Calls Tryd.prog 90 #[v, .int .i64 mark] w' fun e w2 => ∃ so sc lo lc, e = .returned (.tuple #[.slice so (kp mark (l.map (pr A))) sc, .slice lo (l.length - kp mark (l.map (pr A))) lc]) ∧
      (0 < kp mark (l.map (pr A)) → ∃ b off, so = some ⟨b, off, none⟩ ∧ b < w2.heap.size ∧ w2.cell? ⟨b, off + (kp mark (l.map (pr A)) - 1), none⟩ = some (.int .i64 (l.getD (kp mark (l.map (pr A)) - 1) 0 : Nat))) ∧
      (kp mark (l.map (pr A)) = 0 → 0 < l.length → ∃ b off, lo = some ⟨b, off, none⟩ ∧ b < w2.heap.size ∧ w2.cell? ⟨b, off, none⟩ = some (.int .i64 (l.getD 0 0 : Nat))) ∧ Aft w w2 K sb d z M A u := by
  obtain ⟨u0, u1, u2, rfl, h0, h1, h2, K', hR, hk, hF, hn⟩ := hL
  have hkp : kp mark (l.map (pr A)) ≤ l.length := by have := kp_le mark (l.map (pr A)); simpa using this
  obtain ⟨bo, cb, e1, s1⟩ := h1.seq
  obtain ⟨eo, ce, e2, s2⟩ := h2.seq
  rw [List.length_map] at e1 e2 s1 s2
  have w1 : ∀ x ∈ l.map (A.va 2), U64 x := fun x hx => by
    obtain ⟨y, hy, rfl⟩ := List.mem_map.1 hx
    exact hok.bd 2 y (by decide) (hlv y hy)
  have w2 : ∀ x ∈ l.map (A.va 3), U64 x := fun x hx => by
    obtain ⟨y, hy, rfl⟩ := List.mem_map.1 hx
    exact hok.bd 3 y (by decide) (hlv y hy)
  have hkz : kpz mark (l.map (A.va 2)) (l.map (A.va 3)) = kp mark (l.map (pr A)) := by unfold kpz; rw [zip_pr]
  subst e1 e2
  have aft : ∀ w2, Below w'.heap.size w' w2 → Aft w w2 K sb d z M A u := fun w2 hb => ⟨K', hR.below hb, hk, hF.trans (G := fun _ => False) (Fr.below hb) (fun j e => e.elim)⟩
  rcases h0.2 with ⟨rfl, hl0⟩ | ⟨g, cap, cur, rfl, hg, hh, hcap, hmax, hs, ht⟩
  · have hl : l = [] := List.length_eq_zero_iff.1 hl0
    subst hl
    refine (split_none s1 s2).mono ?_
    rintro e w2 ⟨rfl, hb⟩
    exact ⟨_, _, _, _, rfl, fun q => absurd q (by simp [kp]), fun _ q => absurd q (by simp), aft w2 hb⟩
  · refine (split_some (g := g) (cap := cap) s1 s2 w1 w2 hkz hkp hcap hmax).mono ?_
    rintro e w2 ⟨lo, lc, rfl, hlo, hb⟩
    have hgl := (Array.getElem?_eq_some_iff.1 hh).1
    have hs2 := hb.size
    refine ⟨_, _, _, _, rfl, fun q => ⟨g, 0, rfl, by omega, ?_⟩, fun q q2 => ?_, aft w2 hb⟩
    · obtain ⟨g', cap', e, hc⟩ := h0.at (i := kp mark (l.map (pr A)) - 1) (by omega)
      injection e with e _ _
      injection e with e
      injection e with e _ _
      subst e
      rw [Nat.zero_add]
      exact (hb.cell (p := ⟨g, kp mark (l.map (pr A)) - 1, none⟩) hgl).trans hc
    · obtain ⟨g', cap', e, hc⟩ := h0.at (i := 0) q2
      injection e with e _ _
      injection e with e
      injection e with e _ _
      subst e
      rw [q] at hlo
      exact ⟨g, 0, hlo q2, by omega, (hb.cell (p := ⟨g, 0, none⟩) hgl).trans hc⟩

set_option maxRecDepth 100000 in
set_option maxHeartbeats 4000000 in
theorem sweepNode_any (h : Rp w K sb d z M A u) {n : Int} (hn : i64ok n) {l : List Nat} (hc : ChN A n l) (mark : Int) (hll : l.length < 1000000) (hM : M < 3600000000000000000) :
    Calls Tryd.prog 70 #[.pointer (some ⟨sb, 0, none⟩), .int .i64 n, .int .i64 mark] w fun e w' => e = .returned (.int .i64 (goneN mark A l : Nat)) ∧ 3 * goneN mark A l ≤ u ∧ Aft w w' K sb d z (M + 10 + 5 * l.length) (swpA mark A n.toNat l) (u - 3 * goneN mark A l) := by
  have hok := h.ok
  have HLK := hide2 (look_any h hn hc hll (by omega))
  have hlv : ∀ x ∈ l, A.lv 1 x = true := by
    rcases hc with ⟨_, q⟩ | ⟨_, q⟩
    · exact q.live
    · rw [q]; intro x hx; cases hx
  have HSP : Hid (∀ v w', LookR w w' K sb d z (M + 2 + 3 * l.length) A u l v → _) := hide2 (fun v w' q => split_any (mark := mark) q hok hlv)
  have hkp : kp mark (l.map (pr A)) ≤ l.length := by have := kp_le mark (l.map (pr A)); simpa using this
  obtain ⟨k, hk⟩ : ∃ k, k = kp mark (l.map (pr A)) := ⟨_, rfl⟩
  have hgn : goneN mark A l = l.length - k := by unfold goneN; rw [hk]
  rw [hgn]
  rw [← hk] at HSP hkp
  have HOK := hide2 hok
  have HC := hide2 hc
  have HLV := hide2 hlv
  have HK := hide2 hk
  clear h hc hlv hok hgn
  go_enter Tryd.func70, Tryd.ntmps70
  go_wp2_with fail
  refine HLK.out.mono ?_
  rintro e w1 ⟨v, rfl, hL⟩
  have HS := hide2 (HSP.out v w1 hL)
  obtain ⟨u0, u1, u2, ev, -⟩ := hL
  subst ev
  clear HSP HLK hk
  go_wp2_with fail
  refine HS.out.mono ?_
  rintro e w2 ⟨so, sc, lo, lc, rfl, hst, hle, hA⟩
  have HA := hide2 hA
  have HST := hide2 hst
  have HLE := hide2 hle
  clear HS hst hle hA
  by_cases hkl : k = l.length
  · have hz : l.length - k = 0 := by omega
    have e1 : swpA mark A n.toNat l = A := by unfold swpA; rw [if_pos (by rw [← HK.out, hkl])]
    rw [hz]
    have HE := hide2 e1
    have HZ := hide2 hz
    clear e1
    go_wp2
    go_ret
    refine ⟨by rw [HZ.out]; rfl, by rw [HZ.out]; omega, ?_⟩
    rw [HE.out, HZ.out]
    obtain ⟨K', a, b, c⟩ := HA.out
    exact ⟨K', a.up (by omega), b, c⟩
  · have hz : 0 < l.length - k := by omega
    have hz2 : ¬ (l.length - k = 0) := by omega
    have hz3 : ¬ (((l.length - k : Nat) : Int) = 0) := by omega
    obtain ⟨hlvn, hch⟩ : lvI A 0 n = true ∧ Ch A (A.va 0 n.toNat) l := by
      rcases HC.out with q | ⟨_, q⟩
      · exact q
      · rw [q] at hz; simp at hz
    obtain ⟨K2, R2, hk2, hF2⟩ := HA.out
    have HK2 := hide2 hk2
    have HF2 := hide2 hF2
    have HCH := hide2 hch
    clear hk2 hF2 HA HC
    by_cases hk0 : 0 < k
    · obtain ⟨b, off, rfl, hbl, hcell⟩ := HST.out hk0
      have hi : k - 1 < l.length := by omega
      obtain ⟨y, hy⟩ : ∃ y, y = l.getD (k - 1) 0 := ⟨_, rfl⟩
      have hy2 : l[k - 1]? = some y := by rw [hy, List.getD_eq_getElem?_getD, List.getElem?_eq_getElem hi]; rfl
      have hch2 := hch.drop (k - 1) y hy2
      rw [show k - 1 + 1 = k by omega] at hch2
      have hcu := cut_in R2 (HLV.out y (List.mem_of_getElem? hy2)) hch2 (by simp; omega) (by omega)
      have hll2 : (l.drop k).length = l.length - k := by simp
      rw [hll2] at hcu
      rw [← hy] at hcell
      have HCU := hide2 hcu
      have HE : Hid (swpA mark A n.toNat l = offs (A.put 4 y 0) (l.drop k)) := hide2 (by
        unfold swpA
        rw [← HK.out, if_neg hkl, if_pos hk0, ← hy])
      have kc1 : (0 : Int) < (k : Int) := by omega
      have kc2 : (k : Int) - 1 = ((k - 1 : Nat) : Int) := by omega
      have kc3 : ((k - 1 : Nat) : Int) < (k : Int) := by omega
      clear hcu hch2 hy2 hy R2 HST HLE hch hlvn
      go_wp2_with fail
      refine HCU.out.mono ?_
      rintro e w3 ⟨rfl, h3, hA3⟩
      have HA3 := hide2 hA3
      clear HCU hA3
      go_wp2
      go_ret
      refine ⟨rfl, h3, ?_⟩
      rw [HE.out]
      obtain ⟨K3, a3, b3, c3⟩ := HA3.out
      have hs2 := HF2.out.size
      refine ⟨K3, a3.up (by omega), fun j hj => (b3 j (by omega)).trans (HK2.out j hj), HF2.out.trans c3 (fun j e => ?_)⟩
      rcases Nat.lt_or_ge j w.heap.size with q | q
      · exact .inl ((HK2.out j q).1 e)
      · exact .inr q
    · obtain rfl : k = 0 := by omega
      obtain ⟨b, off, rfl, hbl, hcell⟩ := HLE.out rfl (by omega)
      obtain ⟨y, l2, hl⟩ : ∃ y l2, l = y :: l2 := by
        cases l with
        | nil => simp at hz
        | cons y l2 => exact ⟨y, l2, rfl⟩
      have hl4 : l.length = l2.length + 1 := by rw [hl]; rfl
      have hl3 : l.length - 0 = l2.length + 1 := by omega
      have hch2 := HCH.out
      have hnd := Ch.nodup HOK.out HCH.out
      rw [hl] at hch2 hnd
      obtain ⟨hhd, hyl, hch3⟩ := hch2
      have HCU := hide2 (cut_in R2 hyl hch3 (by omega) (by omega))
      obtain ⟨hnn, hln⟩ := lvI_nat hlvn
      obtain ⟨q, hq⟩ : ∃ q : Nat, q = n.toNat := ⟨_, rfl⟩
      have HE : Hid (swpA mark A n.toNat l = ((offs (A.put 4 y 0) l2).off 1 y).put 0 n.toNat ((offs (A.put 4 y 0) l2).va 4 y)) := hide2 (by
        unfold swpA
        rw [← HK.out, if_neg hkl, if_neg (by omega), hl]
        rfl)
      rw [← hq] at hnn hln hhd HE
      have HNQ := hide2 hnn
      have d1 : (offs (A.put 4 y 0) l2).lv 0 q = true := by rw [offs_lv, if_neg (fun e => by omega)]; exact hln
      have d2 : (offs (A.put 4 y 0) l2).va 0 q = (y : Int) := by
        rw [offs_va]
        show up2 A.va 4 y 0 0 q = _
        rw [up2_other _ _ (fun e => by omega)]
        exact hhd
      have d3 : (offs (A.put 4 y 0) l2).lv 1 y = true := by
        rw [offs_lv, if_neg (fun e => (List.nodup_cons.1 hnd).1 e.2)]
        exact hyl
      have hg0 : l.getD 0 0 = y := by rw [hl]; rfl
      rw [hg0] at hcell
      rw [hl3]
      have HL4 := hide2 hl4
      have D1 := hide2 d1
      have D2 := hide2 d2
      have D3 := hide2 d3
      have HDQ : Hid (∀ {w3 : World} {K3 : Nat → Prop} {M3 u3 : Nat}, Rp w3 K3 sb d z M3 (offs (A.put 4 y 0) l2) u3 → M3 < 3800000000000000000 → Calls Tryd.prog 92 #[.pointer (some ⟨sb, 0, none⟩), .int .i64 n] w3 fun e w' => e = .returned (.int .i64 0) ∧ 3 ≤ u3 ∧ Aft w3 w' K3 sb d z (M3 + 3) (((offs (A.put 4 y 0) l2).off 1 y).put 0 q ((offs (A.put 4 y 0) l2).va 4 y)) (u3 - 3)) := hide2 (fun hr hm => by rw [HNQ.out]; exact drop_in hr D1.out D2.out D3.out hm)
      have HQ := hide2 hq
      have hM3 : M + 2 + 3 * l.length + 2 + l2.length < 3800000000000000000 := by omega
      have hl5 : l2.length < 1000000 := by omega
      have kc1 : ((l2.length + 1 : Nat) : Int) ≠ 0 := by omega
      have kc2 : ¬ (((l2.length + 1 : Nat) : Int) = 0) := by omega
      have kc3 : (0 : Int) < ((l2.length + 1 : Nat) : Int) := by omega
      clear hch3 hhd hyl hln hnd d1 d2 d3 R2 HST HLE hg0 HK HLV hl3 hl4 hz hz2 hz3 hkl hkp hll hq hl hnn hlvn hch
      go_wp2_with fail
      refine HCU.out.mono ?_
      rintro e w3 ⟨rfl, h3, K3, a3, b3, c3⟩
      have HDR := hide2 (HDQ.out a3 hM3)
      have HB3 := hide2 b3
      have HC3 := hide2 c3
      clear HCU a3 b3 c3 hM3
      go_wp2_with fail
      refine HDR.out.mono ?_
      rintro e w4 ⟨rfl, h4, K4, a4, b4, c4⟩
      have HA4 := hide2 a4
      have HB4 := hide2 b4
      have HC4 := hide2 c4
      clear HDR a4 b4 c4
      go_wp2
      go_ret
      have hs2 := HF2.out.size
      have hs3 := HC3.out.size
      have hl4 := HL4.out
      have e5 : u - 3 * (l.length - 0) = u - 3 * l2.length - 3 := by omega
      have e6 : l.length - 0 = l2.length + 1 := by omega
      refine ⟨by rw [e6]; go_num, by omega, ?_⟩
      rw [← HQ.out, HE.out, e5]
      refine ⟨K4, HA4.out.up (by omega), fun j hj => ((HB4.out j (by omega)).trans (HB3.out j (by omega))).trans (HK2.out j hj), (HF2.out.trans HC3.out (fun j e => ?_)).trans HC4.out (fun j e => ?_)⟩
      · rcases Nat.lt_or_ge j w.heap.size with q | q
        · exact .inl ((HK2.out j q).1 e)
        · exact .inr q
      · rcases Nat.lt_or_ge j w.heap.size with q | q
        · exact .inl ((HK2.out j q).1 ((HB3.out j (by omega)).1 e))
        · exact .inr q
end
end Go.Proofs.YtfhcphgjaobnoaaDoor
