/-
  HashHolds. (Printed by gen_hd7.py.)
-/
import Derived.Test.YtbpihkojmbfccaaDoorHd6
set_option linter.unusedVariables false
set_option linter.unusedSimpArgs false
namespace Go.Proofs.YtbpihkojmbfccaaDoor
open Go.RowKit Go.Maps Go.Sort

theorem seq_upto {α : Type} {k : Nat} {f : α → List Value} {P : Program} {w : World} {b off len cap : Nat} {xs : List α} (h : Seq k f w (some ⟨b, off, none⟩) len cap xs) (t e : TypeId) (ht : P.underlying t = some (.slice e)) (hs : ∀ u : World, (Go.sizeOf e).run P u = .ok k u) (m : Nat) (hm : m ≤ len) (h0 : 0 < m) :
    (∀ u : World, (Instr.slice t (.slice (some ⟨b, off, none⟩) len cap) none (some (.int .i64 (m : Int))) none).run P u = .ok (.slice (some ⟨b, off, none⟩) m cap) u) ∧ Seq k f w (some ⟨b, off, none⟩) m cap (xs.take m) := by
  have ht' : P.underlying t = some (.slice (P.elem t)) := by simp [Program.elem, ht]
  have he : P.elem t = e := by simp [Program.elem, ht]
  have hc := h.2.1
  refine ⟨fun u => ?_, ⟨by rw [List.length_take, h.1]; omega, by omega, h.2.2.1, fun _ => ?_⟩⟩
  · rw [run_slice_h u t _ len cap ht' .i64 m (by omega) (by omega), he, hs]
    simp only [Result.andThen, Int.toNat_natCast]
    unfold Go.sliced
    rw [if_neg (by omega)]
    simp [addr_add]
  · obtain ⟨b2, off2, eo, hb, hcell⟩ := h.2.2.2 (by omega)
    refine ⟨b2, off2, eo, hb, fun i x hi => hcell i x ?_⟩
    have := (List.getElem?_eq_some_iff.1 hi).1
    rw [List.length_take] at this
    rw [List.getElem?_take_of_lt (by omega)] at hi
    exact hi
theorem size_ask (u : World) : (Go.sizeOf 30).run Tryd.prog u = .ok 4 u := by kernel_rfl
theorem size_int (u : World) : (Go.sizeOf 3).run Tryd.prog u = .ok 1 u := by kernel_rfl

section
variable {w : World}

set_option maxRecDepth 100000 in
set_option maxHeartbeats 8000000 in
theorem holds_nn (b : Int) {ao po : Option Addr} {len cap P pcap : Nat} {xs : List AskR} {ps : List Int} (hT : Tab w) (hs : Seq 4 AskR.cells w ao len cap xs) (hok : ∀ x ∈ xs, x.ok) (hp : Seq 1 ih w po P pcap ps) (hA : len ≤ 60) (hB : P ≤ 10000) :
    Calls Tryd.prog 5 #[.int .i64 b, .slice ao len cap, .slice po P pcap] w fun e w' => e = .returned (.bool true) ∧ Below w.heap.size w w' := by
  have hcap := hs.2.1
  have hmax := hs.2.2.1
  have hpcap := hp.2.1
  have hpmax := hp.2.2.1
  unfold maxLen at hmax hpmax
  have dA : ¬ (60 : Int) < (len : Int) := by omega
  have HSQ := hide2 hs
  have HOK := hide2 hok
  have dB : ¬ (10000 : Int) < (P : Int) := by omega
  have HPQ := hide2 hp
  have HS := hide2 (hshown_any hT)
  have HT0 := hide2 hT
  have hw0 := hT.1
  clear hT hs hok hp
  by_cases hb : b < 1 ∨ 256 < b
  · go_enter Tryd.func5, Tryd.ntmps5
    go_wp2_with fail
    refine HS.out.mono ?_
    rintro e w1 ⟨rfl, hb1⟩
    have HM := hide2 (made_arena (HT0.out.below hb1 hw0) 400 b (by decide) (by decide) (by omega))
    clear HS
    have HB1 := hide2 hb1
    have hs1 := hb1.size
    go_wp2_with fail
    refine HM.out.mono ?_
    rintro e w2 ⟨d, g, T, N, m, F, rfl, -, -, hb2⟩
    clear HM
    have hbb : Below w.heap.size w w2 := HB1.out.trans ⟨hb2.os, hb2.tape, hb2.output, hb2.size, fun j hj => hb2.block j (by omega)⟩
    rcases Decidable.em (b < 1) with hlt | hlt
    · clear hb
      have d1 : decide (b < 1) = true := decide_eq_true hlt
      go_wp2
      go_ret
      exact ⟨rfl, hbb⟩
    · have d1 : decide (b < 1) = false := decide_eq_false hlt
      have d2 : decide (256 < b) = true := decide_eq_true (by omega)
      clear hb
      go_wp2
      go_ret
      exact ⟨rfl, hbb⟩
  · obtain ⟨nb0, rfl⟩ : ∃ n : Nat, b = (n : Int) := ⟨b.toNat, by omega⟩
    have hn : 1 ≤ nb0 ∧ nb0 ≤ 256 := by omega
    clear hb
    go_enter Tryd.func5, Tryd.ntmps5
    go_wp2_with fail
    refine HS.out.mono ?_
    rintro e w1 ⟨rfl, hb1⟩
    have HM := hide2 (made_ok (HT0.out.below hb1 hw0) 400 nb0 (by decide) (by decide) hn.1 hn.2 (by omega))
    clear HS
    have HB1 := hide2 hb1
    have hs1 := hb1.size
    go_wp2_with fail
    refine HM.out.mono ?_
    rintro e w2 ⟨d, tb, K, rfl, h2, hK, hb2⟩
    clear HM
    have hbb : Below w.heap.size w w2 := HB1.out.trans ⟨hb2.os, hb2.tape, hb2.output, hb2.size, fun j hj => hb2.block j (by omega)⟩
    have HTG := hide2 (together_any h2 (fun j hj => by have := hK j hj; omega) hbb hw0 HSQ.out HOK.out (by omega) HPQ.out (by omega))
    clear h2 hK hb2 hbb hb1
    go_wp2_with fail
    refine HTG.out.mono ?_
    rintro e w3 ⟨K3, s3, l3, v3, ab, nb, at4, now4, rfl, hhd, L⟩
    clear HTG
    have HHD := hide2 hhd
    clear hhd
    obtain ⟨g1, g2, g3, g4⟩ := L.done
    have HKY := hide2 L.tm.ht.keys
    have HLL := hide2 L
    have HG4 := hide2 g4
    clear L g1 g2 g3 g4
    go_wp2_with fail
    refine HKY.out.mono ?_
    rintro e w4 ⟨v4, ts, rfl, hrow, hp, hnd, hmem, hlen, hb4⟩
    have hH4 := HLL.out.tm.ht.mono hb4
    have hcl : s3.cells.length = nb0 + ts.length := by
      unfold Tb.cells
      rw [List.length_append, List.length_append, List.length_map, HG4.out, hlen, HHD.out]
      rfl
    have hus := hH4.used
    rw [hcl] at hus
    have HUS := hide2 hus
    have hal : s3.all.length ≤ 60 := by
      have h9 := HLL.out.facts (by rw [HSQ.out.1]; omega)
      have h8 := HSQ.out.1
      omega
    have hb4' : Below w.heap.size w w4 := HLL.out.tm.bl.trans ⟨hb4.os, hb4.tape, hb4.output, hb4.size, fun j hj => hb4.block j (by have := HLL.out.tm.bl.size; omega)⟩
    have hs4 := hb4.size
    have hw34 : w.heap.size ≤ w3.heap.size := HLL.out.tm.bl.size
    obtain ⟨to, tc, ev4, hts⟩ := str_seq hrow
    subst ev4
    have HTS := hide2 hts
    have HH4 := hide2 hH4
    have HMEM := hide2 hmem
    have HLEN := hide2 hlen
    have HKB := hide2 HLL.out.tm.kb
    have HB4 := hide2 hb4'
    have hr4b : ∀ j, (Value.slice to ts.length tc).ownBlock = some j → w3.heap.size ≤ j := fun j e => (World.ownsRow.lt hrow j e).1
    have hr4l : ∀ j, (Value.slice to ts.length tc).ownBlock = some j → j < w4.heap.size := fun j e => (World.ownsRow.lt hrow j e).2
    have HR4B := hide2 hr4b
    have HK3 := hide2 HLL.out.tm.ht.kl
    have HROW := hide2 hrow
    have htl : ts.length ≤ 60 := by omega
    clear HKY hrow hp hnd hmem hlen hb4 hH4 hus hts hb4' hcl HLL hr4b hr4l
    go_wp2_with fail
    refine HUS.out.mono ?_
    rintro e w5 ⟨rfl, q5⟩
    subst q5
    go_wp2
    go_loopw [14] (fun i wr => ∃ (m : Nat) (K : Nat → Prop), m ≤ ts.length ∧ i = .int .i64 m ∧ Hid (HT wr K tb d 400 (1000000 + m * 1000) s3) ∧ Hid (wr.ownsRow w3.heap.size 9 1 (.slice to ts.length tc) ts.length (ts.map encStr)) ∧ Hid (∀ j, K j → w.heap.size ≤ j) ∧ Hid (∀ j, (Value.slice to ts.length tc).ownBlock = some j → ¬ K j) ∧ Hid (Below w.heap.size w wr)) (fun i _ => ts.length - (intOf i).toNat)
    case atStart =>
      refine ⟨0, K3, by omega, rfl, hide2 (HH4.out.up ?_), HROW, HKB, hide2 (fun j e q => by have := HR4B.out j e; have := HK3.out j q; omega), HB4⟩
      have h8 := HSQ.out.1
      have : xs.length * (8 * xs.length + 20) ≤ 60 * 500 := Nat.mul_le_mul (by rw [h8]; omega) (by rw [h8]; omega)
      omega
    case round =>
      obtain ⟨m, K9, hm, rfl, H9, R9, KB9, KV9, B9⟩ := hrel
      by_cases hml : m < ts.length
      · have hmi : (m : Int) < (ts.length : Int) := by omega
        obtain ⟨to9, tc9, ev9, hts9⟩ := str_seq R9.out
        simp only [Value.slice.injEq, true_and] at ev9
        obtain ⟨rfl, rfl⟩ := ev9
        obtain ⟨b9, off9, eo9, hbl9, hcell9⟩ := hts9.2.2.2 (by omega)
        obtain ⟨y, hy⟩ := some_at hts9.1 hml
        have cy : wr.cell? ⟨b9, off9 + m, none⟩ = some (encStr y) := by have := hcell9 m y hy 0 _ rfl; simpa using this
        obtain ⟨e9, he9, hk9⟩ := (HMEM.out y).1 (List.mem_of_getElem? hy)
        obtain ⟨T9, N9, hV9, hN9⟩ := H9.out.inv
        have hhome := hV9.home he9
        have hgood : good e9.k = true := by
          obtain ⟨bb, hbb, h1⟩ := all_at he9
          have := (hV9.key bb (by rw [← hV9.len]; exact hbb) e9 h1).2
          unfold good
          simp; omega
        have hyk : (⟨y.toArray⟩ : ByteArray) = e9.k := by rw [← hk9]; unfold kx; cases e9.k; simp
        have cy2 : wr.cell? ⟨b9, off9 + m, none⟩ = some (.string e9.k) := by
          rw [cy]
          show some (Value.string ⟨y.toArray⟩) = _
          rw [hyk]
        clear cy
        have hsz9 := (good_size hgood).2
        have HLK := hide2 (H9.out.lookup e9.k (by unfold maxLen; omega))
        have hat9 : (s3.at (bkt s3.hd.length e9.k)).length ≤ ts.length := by rw [HLEN.out]; exact at_le _
        subst eo9
        have HE9 : Hid (e9 ∈ s3.at (bkt s3.hd.length e9.k)) := hide2 hhome
        have HT9 := hide2 hts9
        clear hcell9 hts9 hV9 hhome hyk hk9 hy
        go_wp2_with fail
        refine HLK.out.mono ?_
        rintro e w6 ⟨rfl, ho6, hb6⟩
        have H6 := H9.out.mono hb6
        have hKl := H9.out.kl
        have hnk : ¬ K9 wr.heap.size := fun e => by have := hKl _ e; omega
        have hal9 := opB_al (z := 400) (s := s3) hgood false 0
        have emost : ((8 + 4 * ts.length : Nat) : Int) = 8 + 4 * (ts.length : Int) := by omega
        have hdn := done_alone (most := 8 + 4 * ts.length) H6 HG4.out ho6 hnk hal9 (by rw [opB_st]; decide) (by omega) (by omega) (by omega)
        rw [emost] at hdn
        have HDN := hide2 hdn
        have hsb6 := hb6.size
        have hwr9 := B9.out.size
        have hvl9 : ∀ j, (Value.slice (some ⟨b9, off9, none⟩) ts.length tc).ownBlock = some j → j < wr.heap.size := fun j e => (World.ownsRow.lt R9.out j e).2
        have R6 := hide2 (hrow_fr R9.out (Fr.below (F := fun _ => False) hb6) (fun _ _ => id))
        have B6 : Hid (Below w.heap.size w w6) := hide2 (B9.out.trans ⟨hb6.os, hb6.tape, hb6.output, hb6.size, fun j hj => hb6.block j (by omega)⟩)
        have HVL := hide2 hvl9
        clear HLK ho6 hb6 H6 hal9 hdn emost hvl9
        go_wp2_with fail
        refine HDN.out.mono ?_
        rintro e w7 ⟨n7, s7, o7, K7, rfl, hn7, hst7, hfin, h7, ho7, hK7, hF7⟩
        have hres : o7.had = true ∧ o7.code = 0 ∧ s7 = s3 := by
          rcases hfin with ⟨_, _, _, _, q1, q2, q3⟩ | ⟨hno, _⟩
          · exact ⟨q1, q2, q3⟩
          · exact absurd rfl (hno e9 HE9.out)
        obtain ⟨hh7, hc7, hs7⟩ := hres
        rw [hs7] at h7
        have hrf : Calls Tryd.prog 12 #[.pointer (some ⟨wr.heap.size, 0, none⟩)] w7 fun y w' => y = .returned (.tuple #[.int .i64 o7.r, .bool true, .int .i64 0]) ∧ ∃ q, w' = w7.drewN q := by
          have := ref_any ho7 hst7
          rw [hh7, hc7] at this
          exact this
        have HRF := hide2 hrf
        have hni : ¬ (n7 : Int) < 0 := by omega
        have R7 := hide2 (hrow_fr R6.out hF7 (fun j e q => by
          rcases q with q | q
          · exact KV9.out j e q
          · have := HVL.out j e; omega))
        have B7 : Hid (Below w.heap.size w w7) := hide2 (B6.out.trans (hF7.to (fun j hj q => by
          rcases q with q | q
          · have := KB9.out j q; omega
          · omega) B6.out.size))
        have KB7 : Hid (∀ j, K7 j → w.heap.size ≤ j) := hide2 (fun j hj => by
          rcases Nat.lt_or_ge j w6.heap.size with q | q
          · exact KB9.out j ((hK7 j q).1 hj)
          · have := B6.out.size; omega)
        have KV7 : Hid (∀ j, (Value.slice (some ⟨b9, off9, none⟩) ts.length tc).ownBlock = some j → ¬ K7 j) := hide2 (fun j e q => by
          have h1 := HVL.out j e
          exact KV9.out j e ((hK7 j (by omega)).1 q))
        have H7 := hide2 h7
        clear HDN hfin h7 ho7 hK7 hF7 hrf hh7 hc7 hs7 hst7
        go_wp2_with fail
        refine HRF.out.mono ?_
        rintro e w8 ⟨rfl, q8, hw8⟩
        have hb8 : Below w7.heap.size w7 w8 := by rw [hw8]; exact below_drewN _ _ _
        have H8 := hide2 (H7.out.mono hb8)
        have R8 := hide2 (hrow_fr R7.out (Fr.below (F := fun _ => False) hb8) (fun _ _ => id))
        have B8 : Hid (Below w.heap.size w w8) := hide2 (B7.out.trans (by rw [hw8]; exact below_drewN _ _ _))
        clear HRF hw8 hb8
        go_wp2
        go_round
        case rel => exact ⟨m + 1, K7, by omega, by go_num, hide2 (H8.out.up (by omega)), R8, KB7, KV7, B8⟩
        case measure => simp [intOf]; omega
      · have hmi : ¬ (m : Int) < (ts.length : Int) := by omega
        go_wp2
        go_ret
        exact ⟨rfl, B9.out⟩

set_option maxRecDepth 100000 in
set_option maxHeartbeats 8000000 in
theorem holds_nc (b : Int) {ao po : Option Addr} {len cap P pcap : Nat} {xs : List AskR} {ps : List Int} (hT : Tab w) (hs : Seq 4 AskR.cells w ao len cap xs) (hok : ∀ x ∈ xs, x.ok) (hp : Seq 1 ih w po P pcap ps) (hA : len ≤ 60) (hB : 10000 < P) :
    Calls Tryd.prog 5 #[.int .i64 b, .slice ao len cap, .slice po P pcap] w fun e w' => e = .returned (.bool true) ∧ Below w.heap.size w w' := by
  have hcap := hs.2.1
  have hmax := hs.2.2.1
  have hpcap := hp.2.1
  have hpmax := hp.2.2.1
  unfold maxLen at hmax hpmax
  have dA : ¬ (60 : Int) < (len : Int) := by omega
  have HSQ := hide2 hs
  have HOK := hide2 hok
  obtain ⟨pb, poff, rfl, -, -⟩ := hp.2.2.2 (by omega)
  have dB : (10000 : Int) < (P : Int) := by omega
  obtain ⟨slB, sqB⟩ := seq_upto (P := Tryd.prog) hp 43 3 Tryd.underlying43 size_int 10000 (by omega) (by decide)
  have slB2 : ∀ u : World, (Instr.slice 43 (.slice (some ⟨pb, poff, none⟩) P pcap) none (some (.int .i64 10000)) none).run Tryd.prog u = .ok (.slice (some ⟨pb, poff, none⟩) 10000 pcap) u := slB
  have HPQ := hide2 sqB
  clear slB sqB
  have HS := hide2 (hshown_any hT)
  have HT0 := hide2 hT
  have hw0 := hT.1
  clear hT hs hok hp
  by_cases hb : b < 1 ∨ 256 < b
  · go_enter Tryd.func5, Tryd.ntmps5
    go_wp2_with fail
    refine HS.out.mono ?_
    rintro e w1 ⟨rfl, hb1⟩
    have HM := hide2 (made_arena (HT0.out.below hb1 hw0) 400 b (by decide) (by decide) (by omega))
    clear HS
    have HB1 := hide2 hb1
    have hs1 := hb1.size
    go_wp2_with fail
    refine HM.out.mono ?_
    rintro e w2 ⟨d, g, T, N, m, F, rfl, -, -, hb2⟩
    clear HM
    have hbb : Below w.heap.size w w2 := HB1.out.trans ⟨hb2.os, hb2.tape, hb2.output, hb2.size, fun j hj => hb2.block j (by omega)⟩
    rcases Decidable.em (b < 1) with hlt | hlt
    · clear hb
      have d1 : decide (b < 1) = true := decide_eq_true hlt
      go_wp2
      go_ret
      exact ⟨rfl, hbb⟩
    · have d1 : decide (b < 1) = false := decide_eq_false hlt
      have d2 : decide (256 < b) = true := decide_eq_true (by omega)
      clear hb
      go_wp2
      go_ret
      exact ⟨rfl, hbb⟩
  · obtain ⟨nb0, rfl⟩ : ∃ n : Nat, b = (n : Int) := ⟨b.toNat, by omega⟩
    have hn : 1 ≤ nb0 ∧ nb0 ≤ 256 := by omega
    clear hb
    go_enter Tryd.func5, Tryd.ntmps5
    go_wp2_with fail
    refine HS.out.mono ?_
    rintro e w1 ⟨rfl, hb1⟩
    have HM := hide2 (made_ok (HT0.out.below hb1 hw0) 400 nb0 (by decide) (by decide) hn.1 hn.2 (by omega))
    clear HS
    have HB1 := hide2 hb1
    have hs1 := hb1.size
    go_wp2_with fail
    refine HM.out.mono ?_
    rintro e w2 ⟨d, tb, K, rfl, h2, hK, hb2⟩
    clear HM
    have hbb : Below w.heap.size w w2 := HB1.out.trans ⟨hb2.os, hb2.tape, hb2.output, hb2.size, fun j hj => hb2.block j (by omega)⟩
    have HTG := hide2 (together_any h2 (fun j hj => by have := hK j hj; omega) hbb hw0 HSQ.out HOK.out (by omega) HPQ.out (by omega))
    clear h2 hK hb2 hbb hb1
    go_wp2_with fail
    refine HTG.out.mono ?_
    rintro e w3 ⟨K3, s3, l3, v3, ab, nb, at4, now4, rfl, hhd, L⟩
    clear HTG
    have HHD := hide2 hhd
    clear hhd
    obtain ⟨g1, g2, g3, g4⟩ := L.done
    have HKY := hide2 L.tm.ht.keys
    have HLL := hide2 L
    have HG4 := hide2 g4
    clear L g1 g2 g3 g4
    go_wp2_with fail
    refine HKY.out.mono ?_
    rintro e w4 ⟨v4, ts, rfl, hrow, hp, hnd, hmem, hlen, hb4⟩
    have hH4 := HLL.out.tm.ht.mono hb4
    have hcl : s3.cells.length = nb0 + ts.length := by
      unfold Tb.cells
      rw [List.length_append, List.length_append, List.length_map, HG4.out, hlen, HHD.out]
      rfl
    have hus := hH4.used
    rw [hcl] at hus
    have HUS := hide2 hus
    have hal : s3.all.length ≤ 60 := by
      have h9 := HLL.out.facts (by rw [HSQ.out.1]; omega)
      have h8 := HSQ.out.1
      omega
    have hb4' : Below w.heap.size w w4 := HLL.out.tm.bl.trans ⟨hb4.os, hb4.tape, hb4.output, hb4.size, fun j hj => hb4.block j (by have := HLL.out.tm.bl.size; omega)⟩
    have hs4 := hb4.size
    have hw34 : w.heap.size ≤ w3.heap.size := HLL.out.tm.bl.size
    obtain ⟨to, tc, ev4, hts⟩ := str_seq hrow
    subst ev4
    have HTS := hide2 hts
    have HH4 := hide2 hH4
    have HMEM := hide2 hmem
    have HLEN := hide2 hlen
    have HKB := hide2 HLL.out.tm.kb
    have HB4 := hide2 hb4'
    have hr4b : ∀ j, (Value.slice to ts.length tc).ownBlock = some j → w3.heap.size ≤ j := fun j e => (World.ownsRow.lt hrow j e).1
    have hr4l : ∀ j, (Value.slice to ts.length tc).ownBlock = some j → j < w4.heap.size := fun j e => (World.ownsRow.lt hrow j e).2
    have HR4B := hide2 hr4b
    have HK3 := hide2 HLL.out.tm.ht.kl
    have HROW := hide2 hrow
    have htl : ts.length ≤ 60 := by omega
    clear HKY hrow hp hnd hmem hlen hb4 hH4 hus hts hb4' hcl HLL hr4b hr4l
    go_wp2_with fail
    refine HUS.out.mono ?_
    rintro e w5 ⟨rfl, q5⟩
    subst q5
    go_wp2
    go_loopw [14] (fun i wr => ∃ (m : Nat) (K : Nat → Prop), m ≤ ts.length ∧ i = .int .i64 m ∧ Hid (HT wr K tb d 400 (1000000 + m * 1000) s3) ∧ Hid (wr.ownsRow w3.heap.size 9 1 (.slice to ts.length tc) ts.length (ts.map encStr)) ∧ Hid (∀ j, K j → w.heap.size ≤ j) ∧ Hid (∀ j, (Value.slice to ts.length tc).ownBlock = some j → ¬ K j) ∧ Hid (Below w.heap.size w wr)) (fun i _ => ts.length - (intOf i).toNat)
    case atStart =>
      refine ⟨0, K3, by omega, rfl, hide2 (HH4.out.up ?_), HROW, HKB, hide2 (fun j e q => by have := HR4B.out j e; have := HK3.out j q; omega), HB4⟩
      have h8 := HSQ.out.1
      have : xs.length * (8 * xs.length + 20) ≤ 60 * 500 := Nat.mul_le_mul (by rw [h8]; omega) (by rw [h8]; omega)
      omega
    case round =>
      obtain ⟨m, K9, hm, rfl, H9, R9, KB9, KV9, B9⟩ := hrel
      by_cases hml : m < ts.length
      · have hmi : (m : Int) < (ts.length : Int) := by omega
        obtain ⟨to9, tc9, ev9, hts9⟩ := str_seq R9.out
        simp only [Value.slice.injEq, true_and] at ev9
        obtain ⟨rfl, rfl⟩ := ev9
        obtain ⟨b9, off9, eo9, hbl9, hcell9⟩ := hts9.2.2.2 (by omega)
        obtain ⟨y, hy⟩ := some_at hts9.1 hml
        have cy : wr.cell? ⟨b9, off9 + m, none⟩ = some (encStr y) := by have := hcell9 m y hy 0 _ rfl; simpa using this
        obtain ⟨e9, he9, hk9⟩ := (HMEM.out y).1 (List.mem_of_getElem? hy)
        obtain ⟨T9, N9, hV9, hN9⟩ := H9.out.inv
        have hhome := hV9.home he9
        have hgood : good e9.k = true := by
          obtain ⟨bb, hbb, h1⟩ := all_at he9
          have := (hV9.key bb (by rw [← hV9.len]; exact hbb) e9 h1).2
          unfold good
          simp; omega
        have hyk : (⟨y.toArray⟩ : ByteArray) = e9.k := by rw [← hk9]; unfold kx; cases e9.k; simp
        have cy2 : wr.cell? ⟨b9, off9 + m, none⟩ = some (.string e9.k) := by
          rw [cy]
          show some (Value.string ⟨y.toArray⟩) = _
          rw [hyk]
        clear cy
        have hsz9 := (good_size hgood).2
        have HLK := hide2 (H9.out.lookup e9.k (by unfold maxLen; omega))
        have hat9 : (s3.at (bkt s3.hd.length e9.k)).length ≤ ts.length := by rw [HLEN.out]; exact at_le _
        subst eo9
        have HE9 : Hid (e9 ∈ s3.at (bkt s3.hd.length e9.k)) := hide2 hhome
        have HT9 := hide2 hts9
        clear hcell9 hts9 hV9 hhome hyk hk9 hy
        go_wp2_with fail
        refine HLK.out.mono ?_
        rintro e w6 ⟨rfl, ho6, hb6⟩
        have H6 := H9.out.mono hb6
        have hKl := H9.out.kl
        have hnk : ¬ K9 wr.heap.size := fun e => by have := hKl _ e; omega
        have hal9 := opB_al (z := 400) (s := s3) hgood false 0
        have emost : ((8 + 4 * ts.length : Nat) : Int) = 8 + 4 * (ts.length : Int) := by omega
        have hdn := done_alone (most := 8 + 4 * ts.length) H6 HG4.out ho6 hnk hal9 (by rw [opB_st]; decide) (by omega) (by omega) (by omega)
        rw [emost] at hdn
        have HDN := hide2 hdn
        have hsb6 := hb6.size
        have hwr9 := B9.out.size
        have hvl9 : ∀ j, (Value.slice (some ⟨b9, off9, none⟩) ts.length tc).ownBlock = some j → j < wr.heap.size := fun j e => (World.ownsRow.lt R9.out j e).2
        have R6 := hide2 (hrow_fr R9.out (Fr.below (F := fun _ => False) hb6) (fun _ _ => id))
        have B6 : Hid (Below w.heap.size w w6) := hide2 (B9.out.trans ⟨hb6.os, hb6.tape, hb6.output, hb6.size, fun j hj => hb6.block j (by omega)⟩)
        have HVL := hide2 hvl9
        clear HLK ho6 hb6 H6 hal9 hdn emost hvl9
        go_wp2_with fail
        refine HDN.out.mono ?_
        rintro e w7 ⟨n7, s7, o7, K7, rfl, hn7, hst7, hfin, h7, ho7, hK7, hF7⟩
        have hres : o7.had = true ∧ o7.code = 0 ∧ s7 = s3 := by
          rcases hfin with ⟨_, _, _, _, q1, q2, q3⟩ | ⟨hno, _⟩
          · exact ⟨q1, q2, q3⟩
          · exact absurd rfl (hno e9 HE9.out)
        obtain ⟨hh7, hc7, hs7⟩ := hres
        rw [hs7] at h7
        have hrf : Calls Tryd.prog 12 #[.pointer (some ⟨wr.heap.size, 0, none⟩)] w7 fun y w' => y = .returned (.tuple #[.int .i64 o7.r, .bool true, .int .i64 0]) ∧ ∃ q, w' = w7.drewN q := by
          have := ref_any ho7 hst7
          rw [hh7, hc7] at this
          exact this
        have HRF := hide2 hrf
        have hni : ¬ (n7 : Int) < 0 := by omega
        have R7 := hide2 (hrow_fr R6.out hF7 (fun j e q => by
          rcases q with q | q
          · exact KV9.out j e q
          · have := HVL.out j e; omega))
        have B7 : Hid (Below w.heap.size w w7) := hide2 (B6.out.trans (hF7.to (fun j hj q => by
          rcases q with q | q
          · have := KB9.out j q; omega
          · omega) B6.out.size))
        have KB7 : Hid (∀ j, K7 j → w.heap.size ≤ j) := hide2 (fun j hj => by
          rcases Nat.lt_or_ge j w6.heap.size with q | q
          · exact KB9.out j ((hK7 j q).1 hj)
          · have := B6.out.size; omega)
        have KV7 : Hid (∀ j, (Value.slice (some ⟨b9, off9, none⟩) ts.length tc).ownBlock = some j → ¬ K7 j) := hide2 (fun j e q => by
          have h1 := HVL.out j e
          exact KV9.out j e ((hK7 j (by omega)).1 q))
        have H7 := hide2 h7
        clear HDN hfin h7 ho7 hK7 hF7 hrf hh7 hc7 hs7 hst7
        go_wp2_with fail
        refine HRF.out.mono ?_
        rintro e w8 ⟨rfl, q8, hw8⟩
        have hb8 : Below w7.heap.size w7 w8 := by rw [hw8]; exact below_drewN _ _ _
        have H8 := hide2 (H7.out.mono hb8)
        have R8 := hide2 (hrow_fr R7.out (Fr.below (F := fun _ => False) hb8) (fun _ _ => id))
        have B8 : Hid (Below w.heap.size w w8) := hide2 (B7.out.trans (by rw [hw8]; exact below_drewN _ _ _))
        clear HRF hw8 hb8
        go_wp2
        go_round
        case rel => exact ⟨m + 1, K7, by omega, by go_num, hide2 (H8.out.up (by omega)), R8, KB7, KV7, B8⟩
        case measure => simp [intOf]; omega
      · have hmi : ¬ (m : Int) < (ts.length : Int) := by omega
        go_wp2
        go_ret
        exact ⟨rfl, B9.out⟩

set_option maxRecDepth 100000 in
set_option maxHeartbeats 8000000 in
theorem holds_cn (b : Int) {ao po : Option Addr} {len cap P pcap : Nat} {xs : List AskR} {ps : List Int} (hT : Tab w) (hs : Seq 4 AskR.cells w ao len cap xs) (hok : ∀ x ∈ xs, x.ok) (hp : Seq 1 ih w po P pcap ps) (hA : 60 < len) (hB : P ≤ 10000) :
    Calls Tryd.prog 5 #[.int .i64 b, .slice ao len cap, .slice po P pcap] w fun e w' => e = .returned (.bool true) ∧ Below w.heap.size w w' := by
  have hcap := hs.2.1
  have hmax := hs.2.2.1
  have hpcap := hp.2.1
  have hpmax := hp.2.2.1
  unfold maxLen at hmax hpmax
  obtain ⟨xb, xoff, rfl, -, -⟩ := hs.2.2.2 (by omega)
  have dA : (60 : Int) < (len : Int) := by omega
  obtain ⟨slA, sqA⟩ := seq_upto (P := Tryd.prog) hs 22 30 Tryd.underlying22 size_ask 60 (by omega) (by decide)
  have slA2 : ∀ u : World, (Instr.slice 22 (.slice (some ⟨xb, xoff, none⟩) len cap) none (some (.int .i64 60)) none).run Tryd.prog u = .ok (.slice (some ⟨xb, xoff, none⟩) 60 cap) u := slA
  have HSQ := hide2 sqA
  have HOK : Hid (∀ x ∈ xs.take 60, x.ok) := hide2 (fun x hx => hok x (List.mem_of_mem_take hx))
  clear slA sqA
  have dB : ¬ (10000 : Int) < (P : Int) := by omega
  have HPQ := hide2 hp
  have HS := hide2 (hshown_any hT)
  have HT0 := hide2 hT
  have hw0 := hT.1
  clear hT hs hok hp
  by_cases hb : b < 1 ∨ 256 < b
  · go_enter Tryd.func5, Tryd.ntmps5
    go_wp2_with fail
    refine HS.out.mono ?_
    rintro e w1 ⟨rfl, hb1⟩
    have HM := hide2 (made_arena (HT0.out.below hb1 hw0) 400 b (by decide) (by decide) (by omega))
    clear HS
    have HB1 := hide2 hb1
    have hs1 := hb1.size
    go_wp2_with fail
    refine HM.out.mono ?_
    rintro e w2 ⟨d, g, T, N, m, F, rfl, -, -, hb2⟩
    clear HM
    have hbb : Below w.heap.size w w2 := HB1.out.trans ⟨hb2.os, hb2.tape, hb2.output, hb2.size, fun j hj => hb2.block j (by omega)⟩
    rcases Decidable.em (b < 1) with hlt | hlt
    · clear hb
      have d1 : decide (b < 1) = true := decide_eq_true hlt
      go_wp2
      go_ret
      exact ⟨rfl, hbb⟩
    · have d1 : decide (b < 1) = false := decide_eq_false hlt
      have d2 : decide (256 < b) = true := decide_eq_true (by omega)
      clear hb
      go_wp2
      go_ret
      exact ⟨rfl, hbb⟩
  · obtain ⟨nb0, rfl⟩ : ∃ n : Nat, b = (n : Int) := ⟨b.toNat, by omega⟩
    have hn : 1 ≤ nb0 ∧ nb0 ≤ 256 := by omega
    clear hb
    go_enter Tryd.func5, Tryd.ntmps5
    go_wp2_with fail
    refine HS.out.mono ?_
    rintro e w1 ⟨rfl, hb1⟩
    have HM := hide2 (made_ok (HT0.out.below hb1 hw0) 400 nb0 (by decide) (by decide) hn.1 hn.2 (by omega))
    clear HS
    have HB1 := hide2 hb1
    have hs1 := hb1.size
    go_wp2_with fail
    refine HM.out.mono ?_
    rintro e w2 ⟨d, tb, K, rfl, h2, hK, hb2⟩
    clear HM
    have hbb : Below w.heap.size w w2 := HB1.out.trans ⟨hb2.os, hb2.tape, hb2.output, hb2.size, fun j hj => hb2.block j (by omega)⟩
    have HTG := hide2 (together_any h2 (fun j hj => by have := hK j hj; omega) hbb hw0 HSQ.out HOK.out (by omega) HPQ.out (by omega))
    clear h2 hK hb2 hbb hb1
    go_wp2_with fail
    refine HTG.out.mono ?_
    rintro e w3 ⟨K3, s3, l3, v3, ab, nb, at4, now4, rfl, hhd, L⟩
    clear HTG
    have HHD := hide2 hhd
    clear hhd
    obtain ⟨g1, g2, g3, g4⟩ := L.done
    have HKY := hide2 L.tm.ht.keys
    have HLL := hide2 L
    have HG4 := hide2 g4
    clear L g1 g2 g3 g4
    go_wp2_with fail
    refine HKY.out.mono ?_
    rintro e w4 ⟨v4, ts, rfl, hrow, hp, hnd, hmem, hlen, hb4⟩
    have hH4 := HLL.out.tm.ht.mono hb4
    have hcl : s3.cells.length = nb0 + ts.length := by
      unfold Tb.cells
      rw [List.length_append, List.length_append, List.length_map, HG4.out, hlen, HHD.out]
      rfl
    have hus := hH4.used
    rw [hcl] at hus
    have HUS := hide2 hus
    have hal : s3.all.length ≤ 60 := by
      have h9 := HLL.out.facts (by rw [HSQ.out.1]; omega)
      have h8 := HSQ.out.1
      omega
    have hb4' : Below w.heap.size w w4 := HLL.out.tm.bl.trans ⟨hb4.os, hb4.tape, hb4.output, hb4.size, fun j hj => hb4.block j (by have := HLL.out.tm.bl.size; omega)⟩
    have hs4 := hb4.size
    have hw34 : w.heap.size ≤ w3.heap.size := HLL.out.tm.bl.size
    obtain ⟨to, tc, ev4, hts⟩ := str_seq hrow
    subst ev4
    have HTS := hide2 hts
    have HH4 := hide2 hH4
    have HMEM := hide2 hmem
    have HLEN := hide2 hlen
    have HKB := hide2 HLL.out.tm.kb
    have HB4 := hide2 hb4'
    have hr4b : ∀ j, (Value.slice to ts.length tc).ownBlock = some j → w3.heap.size ≤ j := fun j e => (World.ownsRow.lt hrow j e).1
    have hr4l : ∀ j, (Value.slice to ts.length tc).ownBlock = some j → j < w4.heap.size := fun j e => (World.ownsRow.lt hrow j e).2
    have HR4B := hide2 hr4b
    have HK3 := hide2 HLL.out.tm.ht.kl
    have HROW := hide2 hrow
    have htl : ts.length ≤ 60 := by omega
    clear HKY hrow hp hnd hmem hlen hb4 hH4 hus hts hb4' hcl HLL hr4b hr4l
    go_wp2_with fail
    refine HUS.out.mono ?_
    rintro e w5 ⟨rfl, q5⟩
    subst q5
    go_wp2
    go_loopw [14] (fun i wr => ∃ (m : Nat) (K : Nat → Prop), m ≤ ts.length ∧ i = .int .i64 m ∧ Hid (HT wr K tb d 400 (1000000 + m * 1000) s3) ∧ Hid (wr.ownsRow w3.heap.size 9 1 (.slice to ts.length tc) ts.length (ts.map encStr)) ∧ Hid (∀ j, K j → w.heap.size ≤ j) ∧ Hid (∀ j, (Value.slice to ts.length tc).ownBlock = some j → ¬ K j) ∧ Hid (Below w.heap.size w wr)) (fun i _ => ts.length - (intOf i).toNat)
    case atStart =>
      refine ⟨0, K3, by omega, rfl, hide2 (HH4.out.up ?_), HROW, HKB, hide2 (fun j e q => by have := HR4B.out j e; have := HK3.out j q; omega), HB4⟩
      have h8 := HSQ.out.1
      have : (xs.take 60).length * (8 * (xs.take 60).length + 20) ≤ 60 * 500 := Nat.mul_le_mul (by rw [h8]; omega) (by rw [h8]; omega)
      omega
    case round =>
      obtain ⟨m, K9, hm, rfl, H9, R9, KB9, KV9, B9⟩ := hrel
      by_cases hml : m < ts.length
      · have hmi : (m : Int) < (ts.length : Int) := by omega
        obtain ⟨to9, tc9, ev9, hts9⟩ := str_seq R9.out
        simp only [Value.slice.injEq, true_and] at ev9
        obtain ⟨rfl, rfl⟩ := ev9
        obtain ⟨b9, off9, eo9, hbl9, hcell9⟩ := hts9.2.2.2 (by omega)
        obtain ⟨y, hy⟩ := some_at hts9.1 hml
        have cy : wr.cell? ⟨b9, off9 + m, none⟩ = some (encStr y) := by have := hcell9 m y hy 0 _ rfl; simpa using this
        obtain ⟨e9, he9, hk9⟩ := (HMEM.out y).1 (List.mem_of_getElem? hy)
        obtain ⟨T9, N9, hV9, hN9⟩ := H9.out.inv
        have hhome := hV9.home he9
        have hgood : good e9.k = true := by
          obtain ⟨bb, hbb, h1⟩ := all_at he9
          have := (hV9.key bb (by rw [← hV9.len]; exact hbb) e9 h1).2
          unfold good
          simp; omega
        have hyk : (⟨y.toArray⟩ : ByteArray) = e9.k := by rw [← hk9]; unfold kx; cases e9.k; simp
        have cy2 : wr.cell? ⟨b9, off9 + m, none⟩ = some (.string e9.k) := by
          rw [cy]
          show some (Value.string ⟨y.toArray⟩) = _
          rw [hyk]
        clear cy
        have hsz9 := (good_size hgood).2
        have HLK := hide2 (H9.out.lookup e9.k (by unfold maxLen; omega))
        have hat9 : (s3.at (bkt s3.hd.length e9.k)).length ≤ ts.length := by rw [HLEN.out]; exact at_le _
        subst eo9
        have HE9 : Hid (e9 ∈ s3.at (bkt s3.hd.length e9.k)) := hide2 hhome
        have HT9 := hide2 hts9
        clear hcell9 hts9 hV9 hhome hyk hk9 hy
        go_wp2_with fail
        refine HLK.out.mono ?_
        rintro e w6 ⟨rfl, ho6, hb6⟩
        have H6 := H9.out.mono hb6
        have hKl := H9.out.kl
        have hnk : ¬ K9 wr.heap.size := fun e => by have := hKl _ e; omega
        have hal9 := opB_al (z := 400) (s := s3) hgood false 0
        have emost : ((8 + 4 * ts.length : Nat) : Int) = 8 + 4 * (ts.length : Int) := by omega
        have hdn := done_alone (most := 8 + 4 * ts.length) H6 HG4.out ho6 hnk hal9 (by rw [opB_st]; decide) (by omega) (by omega) (by omega)
        rw [emost] at hdn
        have HDN := hide2 hdn
        have hsb6 := hb6.size
        have hwr9 := B9.out.size
        have hvl9 : ∀ j, (Value.slice (some ⟨b9, off9, none⟩) ts.length tc).ownBlock = some j → j < wr.heap.size := fun j e => (World.ownsRow.lt R9.out j e).2
        have R6 := hide2 (hrow_fr R9.out (Fr.below (F := fun _ => False) hb6) (fun _ _ => id))
        have B6 : Hid (Below w.heap.size w w6) := hide2 (B9.out.trans ⟨hb6.os, hb6.tape, hb6.output, hb6.size, fun j hj => hb6.block j (by omega)⟩)
        have HVL := hide2 hvl9
        clear HLK ho6 hb6 H6 hal9 hdn emost hvl9
        go_wp2_with fail
        refine HDN.out.mono ?_
        rintro e w7 ⟨n7, s7, o7, K7, rfl, hn7, hst7, hfin, h7, ho7, hK7, hF7⟩
        have hres : o7.had = true ∧ o7.code = 0 ∧ s7 = s3 := by
          rcases hfin with ⟨_, _, _, _, q1, q2, q3⟩ | ⟨hno, _⟩
          · exact ⟨q1, q2, q3⟩
          · exact absurd rfl (hno e9 HE9.out)
        obtain ⟨hh7, hc7, hs7⟩ := hres
        rw [hs7] at h7
        have hrf : Calls Tryd.prog 12 #[.pointer (some ⟨wr.heap.size, 0, none⟩)] w7 fun y w' => y = .returned (.tuple #[.int .i64 o7.r, .bool true, .int .i64 0]) ∧ ∃ q, w' = w7.drewN q := by
          have := ref_any ho7 hst7
          rw [hh7, hc7] at this
          exact this
        have HRF := hide2 hrf
        have hni : ¬ (n7 : Int) < 0 := by omega
        have R7 := hide2 (hrow_fr R6.out hF7 (fun j e q => by
          rcases q with q | q
          · exact KV9.out j e q
          · have := HVL.out j e; omega))
        have B7 : Hid (Below w.heap.size w w7) := hide2 (B6.out.trans (hF7.to (fun j hj q => by
          rcases q with q | q
          · have := KB9.out j q; omega
          · omega) B6.out.size))
        have KB7 : Hid (∀ j, K7 j → w.heap.size ≤ j) := hide2 (fun j hj => by
          rcases Nat.lt_or_ge j w6.heap.size with q | q
          · exact KB9.out j ((hK7 j q).1 hj)
          · have := B6.out.size; omega)
        have KV7 : Hid (∀ j, (Value.slice (some ⟨b9, off9, none⟩) ts.length tc).ownBlock = some j → ¬ K7 j) := hide2 (fun j e q => by
          have h1 := HVL.out j e
          exact KV9.out j e ((hK7 j (by omega)).1 q))
        have H7 := hide2 h7
        clear HDN hfin h7 ho7 hK7 hF7 hrf hh7 hc7 hs7 hst7
        go_wp2_with fail
        refine HRF.out.mono ?_
        rintro e w8 ⟨rfl, q8, hw8⟩
        have hb8 : Below w7.heap.size w7 w8 := by rw [hw8]; exact below_drewN _ _ _
        have H8 := hide2 (H7.out.mono hb8)
        have R8 := hide2 (hrow_fr R7.out (Fr.below (F := fun _ => False) hb8) (fun _ _ => id))
        have B8 : Hid (Below w.heap.size w w8) := hide2 (B7.out.trans (by rw [hw8]; exact below_drewN _ _ _))
        clear HRF hw8 hb8
        go_wp2
        go_round
        case rel => exact ⟨m + 1, K7, by omega, by go_num, hide2 (H8.out.up (by omega)), R8, KB7, KV7, B8⟩
        case measure => simp [intOf]; omega
      · have hmi : ¬ (m : Int) < (ts.length : Int) := by omega
        go_wp2
        go_ret
        exact ⟨rfl, B9.out⟩

set_option maxRecDepth 100000 in
set_option maxHeartbeats 8000000 in
theorem holds_cc (b : Int) {ao po : Option Addr} {len cap P pcap : Nat} {xs : List AskR} {ps : List Int} (hT : Tab w) (hs : Seq 4 AskR.cells w ao len cap xs) (hok : ∀ x ∈ xs, x.ok) (hp : Seq 1 ih w po P pcap ps) (hA : 60 < len) (hB : 10000 < P) :
    Calls Tryd.prog 5 #[.int .i64 b, .slice ao len cap, .slice po P pcap] w fun e w' => e = .returned (.bool true) ∧ Below w.heap.size w w' := by
  have hcap := hs.2.1
  have hmax := hs.2.2.1
  have hpcap := hp.2.1
  have hpmax := hp.2.2.1
  unfold maxLen at hmax hpmax
  obtain ⟨xb, xoff, rfl, -, -⟩ := hs.2.2.2 (by omega)
  have dA : (60 : Int) < (len : Int) := by omega
  obtain ⟨slA, sqA⟩ := seq_upto (P := Tryd.prog) hs 22 30 Tryd.underlying22 size_ask 60 (by omega) (by decide)
  have slA2 : ∀ u : World, (Instr.slice 22 (.slice (some ⟨xb, xoff, none⟩) len cap) none (some (.int .i64 60)) none).run Tryd.prog u = .ok (.slice (some ⟨xb, xoff, none⟩) 60 cap) u := slA
  have HSQ := hide2 sqA
  have HOK : Hid (∀ x ∈ xs.take 60, x.ok) := hide2 (fun x hx => hok x (List.mem_of_mem_take hx))
  clear slA sqA
  obtain ⟨pb, poff, rfl, -, -⟩ := hp.2.2.2 (by omega)
  have dB : (10000 : Int) < (P : Int) := by omega
  obtain ⟨slB, sqB⟩ := seq_upto (P := Tryd.prog) hp 43 3 Tryd.underlying43 size_int 10000 (by omega) (by decide)
  have slB2 : ∀ u : World, (Instr.slice 43 (.slice (some ⟨pb, poff, none⟩) P pcap) none (some (.int .i64 10000)) none).run Tryd.prog u = .ok (.slice (some ⟨pb, poff, none⟩) 10000 pcap) u := slB
  have HPQ := hide2 sqB
  clear slB sqB
  have HS := hide2 (hshown_any hT)
  have HT0 := hide2 hT
  have hw0 := hT.1
  clear hT hs hok hp
  by_cases hb : b < 1 ∨ 256 < b
  · go_enter Tryd.func5, Tryd.ntmps5
    go_wp2_with fail
    refine HS.out.mono ?_
    rintro e w1 ⟨rfl, hb1⟩
    have HM := hide2 (made_arena (HT0.out.below hb1 hw0) 400 b (by decide) (by decide) (by omega))
    clear HS
    have HB1 := hide2 hb1
    have hs1 := hb1.size
    go_wp2_with fail
    refine HM.out.mono ?_
    rintro e w2 ⟨d, g, T, N, m, F, rfl, -, -, hb2⟩
    clear HM
    have hbb : Below w.heap.size w w2 := HB1.out.trans ⟨hb2.os, hb2.tape, hb2.output, hb2.size, fun j hj => hb2.block j (by omega)⟩
    rcases Decidable.em (b < 1) with hlt | hlt
    · clear hb
      have d1 : decide (b < 1) = true := decide_eq_true hlt
      go_wp2
      go_ret
      exact ⟨rfl, hbb⟩
    · have d1 : decide (b < 1) = false := decide_eq_false hlt
      have d2 : decide (256 < b) = true := decide_eq_true (by omega)
      clear hb
      go_wp2
      go_ret
      exact ⟨rfl, hbb⟩
  · obtain ⟨nb0, rfl⟩ : ∃ n : Nat, b = (n : Int) := ⟨b.toNat, by omega⟩
    have hn : 1 ≤ nb0 ∧ nb0 ≤ 256 := by omega
    clear hb
    go_enter Tryd.func5, Tryd.ntmps5
    go_wp2_with fail
    refine HS.out.mono ?_
    rintro e w1 ⟨rfl, hb1⟩
    have HM := hide2 (made_ok (HT0.out.below hb1 hw0) 400 nb0 (by decide) (by decide) hn.1 hn.2 (by omega))
    clear HS
    have HB1 := hide2 hb1
    have hs1 := hb1.size
    go_wp2_with fail
    refine HM.out.mono ?_
    rintro e w2 ⟨d, tb, K, rfl, h2, hK, hb2⟩
    clear HM
    have hbb : Below w.heap.size w w2 := HB1.out.trans ⟨hb2.os, hb2.tape, hb2.output, hb2.size, fun j hj => hb2.block j (by omega)⟩
    have HTG := hide2 (together_any h2 (fun j hj => by have := hK j hj; omega) hbb hw0 HSQ.out HOK.out (by omega) HPQ.out (by omega))
    clear h2 hK hb2 hbb hb1
    go_wp2_with fail
    refine HTG.out.mono ?_
    rintro e w3 ⟨K3, s3, l3, v3, ab, nb, at4, now4, rfl, hhd, L⟩
    clear HTG
    have HHD := hide2 hhd
    clear hhd
    obtain ⟨g1, g2, g3, g4⟩ := L.done
    have HKY := hide2 L.tm.ht.keys
    have HLL := hide2 L
    have HG4 := hide2 g4
    clear L g1 g2 g3 g4
    go_wp2_with fail
    refine HKY.out.mono ?_
    rintro e w4 ⟨v4, ts, rfl, hrow, hp, hnd, hmem, hlen, hb4⟩
    have hH4 := HLL.out.tm.ht.mono hb4
    have hcl : s3.cells.length = nb0 + ts.length := by
      unfold Tb.cells
      rw [List.length_append, List.length_append, List.length_map, HG4.out, hlen, HHD.out]
      rfl
    have hus := hH4.used
    rw [hcl] at hus
    have HUS := hide2 hus
    have hal : s3.all.length ≤ 60 := by
      have h9 := HLL.out.facts (by rw [HSQ.out.1]; omega)
      have h8 := HSQ.out.1
      omega
    have hb4' : Below w.heap.size w w4 := HLL.out.tm.bl.trans ⟨hb4.os, hb4.tape, hb4.output, hb4.size, fun j hj => hb4.block j (by have := HLL.out.tm.bl.size; omega)⟩
    have hs4 := hb4.size
    have hw34 : w.heap.size ≤ w3.heap.size := HLL.out.tm.bl.size
    obtain ⟨to, tc, ev4, hts⟩ := str_seq hrow
    subst ev4
    have HTS := hide2 hts
    have HH4 := hide2 hH4
    have HMEM := hide2 hmem
    have HLEN := hide2 hlen
    have HKB := hide2 HLL.out.tm.kb
    have HB4 := hide2 hb4'
    have hr4b : ∀ j, (Value.slice to ts.length tc).ownBlock = some j → w3.heap.size ≤ j := fun j e => (World.ownsRow.lt hrow j e).1
    have hr4l : ∀ j, (Value.slice to ts.length tc).ownBlock = some j → j < w4.heap.size := fun j e => (World.ownsRow.lt hrow j e).2
    have HR4B := hide2 hr4b
    have HK3 := hide2 HLL.out.tm.ht.kl
    have HROW := hide2 hrow
    have htl : ts.length ≤ 60 := by omega
    clear HKY hrow hp hnd hmem hlen hb4 hH4 hus hts hb4' hcl HLL hr4b hr4l
    go_wp2_with fail
    refine HUS.out.mono ?_
    rintro e w5 ⟨rfl, q5⟩
    subst q5
    go_wp2
    go_loopw [14] (fun i wr => ∃ (m : Nat) (K : Nat → Prop), m ≤ ts.length ∧ i = .int .i64 m ∧ Hid (HT wr K tb d 400 (1000000 + m * 1000) s3) ∧ Hid (wr.ownsRow w3.heap.size 9 1 (.slice to ts.length tc) ts.length (ts.map encStr)) ∧ Hid (∀ j, K j → w.heap.size ≤ j) ∧ Hid (∀ j, (Value.slice to ts.length tc).ownBlock = some j → ¬ K j) ∧ Hid (Below w.heap.size w wr)) (fun i _ => ts.length - (intOf i).toNat)
    case atStart =>
      refine ⟨0, K3, by omega, rfl, hide2 (HH4.out.up ?_), HROW, HKB, hide2 (fun j e q => by have := HR4B.out j e; have := HK3.out j q; omega), HB4⟩
      have h8 := HSQ.out.1
      have : (xs.take 60).length * (8 * (xs.take 60).length + 20) ≤ 60 * 500 := Nat.mul_le_mul (by rw [h8]; omega) (by rw [h8]; omega)
      omega
    case round =>
      obtain ⟨m, K9, hm, rfl, H9, R9, KB9, KV9, B9⟩ := hrel
      by_cases hml : m < ts.length
      · have hmi : (m : Int) < (ts.length : Int) := by omega
        obtain ⟨to9, tc9, ev9, hts9⟩ := str_seq R9.out
        simp only [Value.slice.injEq, true_and] at ev9
        obtain ⟨rfl, rfl⟩ := ev9
        obtain ⟨b9, off9, eo9, hbl9, hcell9⟩ := hts9.2.2.2 (by omega)
        obtain ⟨y, hy⟩ := some_at hts9.1 hml
        have cy : wr.cell? ⟨b9, off9 + m, none⟩ = some (encStr y) := by have := hcell9 m y hy 0 _ rfl; simpa using this
        obtain ⟨e9, he9, hk9⟩ := (HMEM.out y).1 (List.mem_of_getElem? hy)
        obtain ⟨T9, N9, hV9, hN9⟩ := H9.out.inv
        have hhome := hV9.home he9
        have hgood : good e9.k = true := by
          obtain ⟨bb, hbb, h1⟩ := all_at he9
          have := (hV9.key bb (by rw [← hV9.len]; exact hbb) e9 h1).2
          unfold good
          simp; omega
        have hyk : (⟨y.toArray⟩ : ByteArray) = e9.k := by rw [← hk9]; unfold kx; cases e9.k; simp
        have cy2 : wr.cell? ⟨b9, off9 + m, none⟩ = some (.string e9.k) := by
          rw [cy]
          show some (Value.string ⟨y.toArray⟩) = _
          rw [hyk]
        clear cy
        have hsz9 := (good_size hgood).2
        have HLK := hide2 (H9.out.lookup e9.k (by unfold maxLen; omega))
        have hat9 : (s3.at (bkt s3.hd.length e9.k)).length ≤ ts.length := by rw [HLEN.out]; exact at_le _
        subst eo9
        have HE9 : Hid (e9 ∈ s3.at (bkt s3.hd.length e9.k)) := hide2 hhome
        have HT9 := hide2 hts9
        clear hcell9 hts9 hV9 hhome hyk hk9 hy
        go_wp2_with fail
        refine HLK.out.mono ?_
        rintro e w6 ⟨rfl, ho6, hb6⟩
        have H6 := H9.out.mono hb6
        have hKl := H9.out.kl
        have hnk : ¬ K9 wr.heap.size := fun e => by have := hKl _ e; omega
        have hal9 := opB_al (z := 400) (s := s3) hgood false 0
        have emost : ((8 + 4 * ts.length : Nat) : Int) = 8 + 4 * (ts.length : Int) := by omega
        have hdn := done_alone (most := 8 + 4 * ts.length) H6 HG4.out ho6 hnk hal9 (by rw [opB_st]; decide) (by omega) (by omega) (by omega)
        rw [emost] at hdn
        have HDN := hide2 hdn
        have hsb6 := hb6.size
        have hwr9 := B9.out.size
        have hvl9 : ∀ j, (Value.slice (some ⟨b9, off9, none⟩) ts.length tc).ownBlock = some j → j < wr.heap.size := fun j e => (World.ownsRow.lt R9.out j e).2
        have R6 := hide2 (hrow_fr R9.out (Fr.below (F := fun _ => False) hb6) (fun _ _ => id))
        have B6 : Hid (Below w.heap.size w w6) := hide2 (B9.out.trans ⟨hb6.os, hb6.tape, hb6.output, hb6.size, fun j hj => hb6.block j (by omega)⟩)
        have HVL := hide2 hvl9
        clear HLK ho6 hb6 H6 hal9 hdn emost hvl9
        go_wp2_with fail
        refine HDN.out.mono ?_
        rintro e w7 ⟨n7, s7, o7, K7, rfl, hn7, hst7, hfin, h7, ho7, hK7, hF7⟩
        have hres : o7.had = true ∧ o7.code = 0 ∧ s7 = s3 := by
          rcases hfin with ⟨_, _, _, _, q1, q2, q3⟩ | ⟨hno, _⟩
          · exact ⟨q1, q2, q3⟩
          · exact absurd rfl (hno e9 HE9.out)
        obtain ⟨hh7, hc7, hs7⟩ := hres
        rw [hs7] at h7
        have hrf : Calls Tryd.prog 12 #[.pointer (some ⟨wr.heap.size, 0, none⟩)] w7 fun y w' => y = .returned (.tuple #[.int .i64 o7.r, .bool true, .int .i64 0]) ∧ ∃ q, w' = w7.drewN q := by
          have := ref_any ho7 hst7
          rw [hh7, hc7] at this
          exact this
        have HRF := hide2 hrf
        have hni : ¬ (n7 : Int) < 0 := by omega
        have R7 := hide2 (hrow_fr R6.out hF7 (fun j e q => by
          rcases q with q | q
          · exact KV9.out j e q
          · have := HVL.out j e; omega))
        have B7 : Hid (Below w.heap.size w w7) := hide2 (B6.out.trans (hF7.to (fun j hj q => by
          rcases q with q | q
          · have := KB9.out j q; omega
          · omega) B6.out.size))
        have KB7 : Hid (∀ j, K7 j → w.heap.size ≤ j) := hide2 (fun j hj => by
          rcases Nat.lt_or_ge j w6.heap.size with q | q
          · exact KB9.out j ((hK7 j q).1 hj)
          · have := B6.out.size; omega)
        have KV7 : Hid (∀ j, (Value.slice (some ⟨b9, off9, none⟩) ts.length tc).ownBlock = some j → ¬ K7 j) := hide2 (fun j e q => by
          have h1 := HVL.out j e
          exact KV9.out j e ((hK7 j (by omega)).1 q))
        have H7 := hide2 h7
        clear HDN hfin h7 ho7 hK7 hF7 hrf hh7 hc7 hs7 hst7
        go_wp2_with fail
        refine HRF.out.mono ?_
        rintro e w8 ⟨rfl, q8, hw8⟩
        have hb8 : Below w7.heap.size w7 w8 := by rw [hw8]; exact below_drewN _ _ _
        have H8 := hide2 (H7.out.mono hb8)
        have R8 := hide2 (hrow_fr R7.out (Fr.below (F := fun _ => False) hb8) (fun _ _ => id))
        have B8 : Hid (Below w.heap.size w w8) := hide2 (B7.out.trans (by rw [hw8]; exact below_drewN _ _ _))
        clear HRF hw8 hb8
        go_wp2
        go_round
        case rel => exact ⟨m + 1, K7, by omega, by go_num, hide2 (H8.out.up (by omega)), R8, KB7, KV7, B8⟩
        case measure => simp [intOf]; omega
      · have hmi : ¬ (m : Int) < (ts.length : Int) := by omega
        go_wp2
        go_ret
        exact ⟨rfl, B9.out⟩

theorem hashHolds_walk (b : Int) (ao : Option Addr) (len cap : Nat) (xs : List AskR) (po : Option Addr) (P pcap : Nat) (ps : List Int) (hT : Tab w) (hs : Seq 4 AskR.cells w ao len cap xs) (hok : ∀ x ∈ xs, x.ok) (hp : Seq 1 ih w po P pcap ps) :
    Calls Tryd.prog 5 #[.int .i64 b, .slice ao len cap, .slice po P pcap] w fun e w' => e = .returned (.bool true) ∧ Below w.heap.size w w' := by
  rcases Nat.lt_or_ge 60 len with hA | hA <;> rcases Nat.lt_or_ge 10000 P with hB | hB
  · exact holds_cc b hT hs hok hp hA hB
  · exact holds_cn b hT hs hok hp hA hB
  · exact holds_nc b hT hs hok hp hA hB
  · exact holds_nn b hT hs hok hp hA hB
end
end Go.Proofs.YtbpihkojmbfccaaDoor
