/-
  SkipHolds. (Printed by gen_sn1.py.)
-/
import Derived.Test.YtopihgdbfhiejaaDoorSn1
set_option linter.unusedVariables false
set_option linter.unusedSimpArgs false
namespace Go.Proofs.YtopihgdbfhiejaaDoor
open Go.RowKit Go.Maps Go.Sort

section
variable {w : World}
set_option maxRecDepth 100000 in
set_option maxHeartbeats 16000000 in
theorem skipHolds_walk (ao : Option Addr) (len cap : Nat) (xs : List AskR) (po : Option Addr) (plen pcap : Nat) (ps : List Int) (hT : Tab w) (hs : Seq 5 AskR.cells w ao len cap xs) (hok : ∀ x ∈ xs, x.ok) (hp : Seq 1 ih w po plen pcap ps) (hpk : ∀ p ∈ ps, I64 p) :
    Calls Tryd.prog 5 #[.slice ao len cap, .slice po plen pcap] w fun e w' => e = .returned (.bool true) ∧ Below w.heap.size w w' := by
  have hcap := hs.2.1
  have hmax := hs.2.2.1
  have hpcap := hp.2.1
  have hpmax := hp.2.2.1
  unfold maxLen at hmax hpmax
  have HS := hide2 (shown_any hT)
  have HT0 := hide2 hT
  have hw0 := hT.1
  obtain ⟨m1, hm1⟩ : ∃ m, m = min len 40 := ⟨_, rfl⟩
  obtain ⟨m2, hm2⟩ : ∃ m, m = min plen 10000 := ⟨_, rfl⟩
  have e1 : min (len : Int) 40 = (m1 : Int) := by omega
  have e2 : min (plen : Int) 10000 = (m2 : Int) := by omega
  obtain ⟨ao1, hsl1, hsq1⟩ := seq_cut (P := Tryd.prog) hs 22 33 Tryd.underlying22 size_ask m1 (by omega)
  obtain ⟨po1, hsl2, hsq2⟩ := seq_cut (P := Tryd.prog) hp 47 3 Tryd.underlying47 size_int m2 (by omega)
  have HSQ1 := hide2 hsq1
  have HSQ2 := hide2 hsq2
  have HOK : Hid (∀ x ∈ xs.take m1, x.ok) := hide2 (fun x hx => hok x (List.mem_of_mem_take hx))
  have HPK0 : Hid (∀ p ∈ ps.take m2, I64 p) := hide2 (fun x hx => hpk x (List.mem_of_mem_take hx))
  have hm1b : m1 ≤ 40 := by omega
  have hm2b : m2 ≤ 10000 := by omega
  clear hT hs hok hp hpk hm1 hm2 hsq1 hsq2
  go_enter Tryd.func5, Tryd.ntmps5
  go_wp2_with fail
  refine HS.out.mono ?_
  rintro e w0 ⟨rfl, hb0⟩
  have HM := hide2 (made_any (HT0.out.below hb0 hw0))
  have HB0 := hide2 hb0
  have hs0' := hb0.size
  clear HS hb0
  go_wp2_with fail
  refine HM.out.mono ?_
  rintro e w1 ⟨lb, K, rfl, h1, hK, hb1⟩
  obtain ⟨d, hd⟩ : ∃ d, d = w0.heap.size + 1 := ⟨_, rfl⟩
  rw [← hd] at h1 ⊢
  have hbb : Below w.heap.size w w1.drew := HB0.out.trans ⟨hb1.os, hb1.tape, hb1.output, hb1.size, fun j hj => hb1.block j (by omega)⟩
  have HTG := hide2 (together_any (w := w) (w0 := w1.drew) (h1.below ⟨rfl, rfl, rfl, Nat.le_refl _, fun _ _ => rfl⟩) (fun j hj => by have := hK j hj; omega) hbb hw0 HSQ1.out HOK.out hm1b HSQ2.out HPK0.out hm2b)
  clear HM h1 hK hb1 hbb hd
  go_wp2_with fail
  refine wp_region_noPanic ?_
  refine wp_region_held_drew (S := (fun _ : World => True)) (by kernel_rfl) (trivial) (fun hHeld => ?_)
  refine wpAnyH_take (i := 0) (oi := { dst := some 36, op := _, type := _, pos := _, after := _, guard := _ }) (v := ?_) rfl (by kernel_rfl) (by kernel_rfl) (by kernel_rfl) (fun _ _ _ h => h) (Or.inl ⟨by rfl, ?_⟩) (by assumption) ?_
  rotate_left 1
  · intro u hSw; obtain s1 := hSw; go_simp; try with_reducible rfl
  try simp only [Act.put, List.setIfInBounds_toArray, List.set_cons_zero, List.set_cons_succ]
  refine wpAnyH_take (i := 1) (oi := { dst := some 37, op := _, type := _, pos := _, after := _, guard := _ }) (v := ?_) rfl (by kernel_rfl) (by kernel_rfl) (by kernel_rfl) (fun _ _ _ h => h) (Or.inl ⟨by rfl, ?_⟩) (by assumption) ?_
  rotate_left 1
  · intro u hSw; obtain s1 := hSw; go_simp; try with_reducible rfl
  try simp only [Act.put, List.setIfInBounds_toArray, List.set_cons_zero, List.set_cons_succ]
  refine wpAnyH_take (i := 2) (oi := { dst := some 38, op := _, type := _, pos := _, after := _, guard := _ }) (v := ?_) rfl (by kernel_rfl) (by kernel_rfl) (by kernel_rfl) (fun _ _ _ h => h) (Or.inl ⟨by rfl, ?_⟩) (by assumption) ?_
  rotate_left 1
  · intro u hSw; obtain s1 := hSw; go_simp; try with_reducible rfl
  try simp only [Act.put, List.setIfInBounds_toArray, List.set_cons_zero, List.set_cons_succ]
  refine wpAnyH_take (i := 3) (oi := { dst := some 39, op := _, type := _, pos := _, after := _, guard := _ }) (v := ?_) rfl (by kernel_rfl) (by kernel_rfl) (by kernel_rfl) (fun _ _ _ h => h) (Or.inl ⟨by rfl, ?_⟩) (by assumption) ?_
  rotate_left 1
  · intro u hSw; obtain s1 := hSw; go_simp; try with_reducible rfl
  try simp only [Act.put, List.setIfInBounds_toArray, List.set_cons_zero, List.set_cons_succ]
  refine wpAnyH_take (i := 4) (oi := { dst := some 40, op := _, type := _, pos := _, after := _, guard := _ }) (v := ?_) rfl (by kernel_rfl) (by kernel_rfl) (by kernel_rfl) (fun _ _ _ h => h) (Or.inl ⟨by rfl, ?_⟩) (by assumption) ?_
  rotate_left 1
  · intro u hSw; obtain s1 := hSw; go_simp; try with_reducible rfl
  try simp only [Act.put, List.setIfInBounds_toArray, List.set_cons_zero, List.set_cons_succ]
  refine wpAnyH_take (i := 5) (oi := { dst := some 41, op := _, type := _, pos := _, after := _, guard := _ }) (v := ?_) rfl (by kernel_rfl) (by kernel_rfl) (by kernel_rfl) (fun _ _ _ h => h) (Or.inl ⟨by rfl, ?_⟩) (by assumption) ?_
  rotate_left 1
  · intro u hSw; obtain s1 := hSw; go_simp; try with_reducible rfl
  try simp only [Act.put, List.setIfInBounds_toArray, List.set_cons_zero, List.set_cons_succ]
  refine wpAnyH_take (i := 6) (oi := { dst := some 42, op := _, type := _, pos := _, after := _, guard := _ }) (v := ?_) rfl (by kernel_rfl) (by kernel_rfl) (by kernel_rfl) (fun _ _ _ h => h) (Or.inl ⟨by rfl, ?_⟩) (by assumption) ?_
  rotate_left 1
  · intro u hSw; obtain s1 := hSw; go_simp; try with_reducible rfl
  try simp only [Act.put, List.setIfInBounds_toArray, List.set_cons_zero, List.set_cons_succ]
  refine wpAnyH_take (i := 7) (oi := { dst := some 43, op := _, type := _, pos := _, after := _, guard := _ }) (v := ?_) rfl (by kernel_rfl) (by kernel_rfl) (by kernel_rfl) (fun _ _ _ h => h) (Or.inl ⟨by rfl, ?_⟩) (by assumption) ?_
  rotate_left 1
  · intro u hSw; obtain s1 := hSw; go_simp; try with_reducible rfl
  try simp only [Act.put, List.setIfInBounds_toArray, List.set_cons_zero, List.set_cons_succ]
  refine wpAnyH_take (i := 8) (oi := { dst := some 44, op := _, type := _, pos := _, after := _, guard := _ }) (v := ?_) rfl (by kernel_rfl) (by kernel_rfl) (by kernel_rfl) (fun _ _ _ h => h) (Or.inl ⟨by rfl, ?_⟩) (by assumption) ?_
  rotate_left 1
  · intro u hSw; obtain s1 := hSw; go_simp; try with_reducible rfl
  try simp only [Act.put, List.setIfInBounds_toArray, List.set_cons_zero, List.set_cons_succ]
  refine wpAnyH_take (i := 9) (oi := { dst := some 45, op := _, type := _, pos := _, after := _, guard := _ }) (v := ?_) rfl (by kernel_rfl) (by kernel_rfl) (by kernel_rfl) (fun _ _ _ h => h) (Or.inl ⟨by rfl, ?_⟩) (by assumption) ?_
  rotate_left 1
  · intro u hSw; obtain s1 := hSw; go_simp; try with_reducible rfl
  try simp only [Act.put, List.setIfInBounds_toArray, List.set_cons_zero, List.set_cons_succ]
  refine wpAnyH_take (i := 10) (oi := { dst := some 46, op := _, type := _, pos := _, after := _, guard := _ }) (v := ?_) rfl (by kernel_rfl) (by kernel_rfl) (by kernel_rfl) (fun _ _ _ h => h) (Or.inl ⟨by rfl, ?_⟩) (by assumption) ?_
  rotate_left 1
  · intro u hSw; obtain s1 := hSw; go_simp; try with_reducible rfl
  try simp only [Act.put, List.setIfInBounds_toArray, List.set_cons_zero, List.set_cons_succ]
  refine wpAnyH_ready (rs := [11]) (by kernel_rfl) (by simp) ?_
  refine AllReadyH.cons (o := { dst := some 47, op := _, type := _, pos := _, after := _, guard := _ }) rfl (fun Kq hK => ?_) AllReadyH.nil
  obtain s1 := hHeld
  go_simp
  refine HTG.out.mono ?_
  rintro e w2 ⟨v2, rfl, hTG⟩
  have HTR := hide2 hTG
  clear hTG HTG
  go_wp2_with fail
  refine hK.out _ _ (trivial) (fun hHeld => ?_)
  clear hK Kq
  try simp only [Act.put, List.setIfInBounds_toArray, List.set_cons_zero, List.set_cons_succ]
  refine wpAnyH_take (i := 12) (oi := { dst := some 35, op := _, type := _, pos := _, after := _, guard := _ }) (v := ?_) rfl (by kernel_rfl) (by kernel_rfl) (by kernel_rfl) (fun _ _ _ h => h) (Or.inl ⟨by rfl, ?_⟩) (by assumption) ?_
  rotate_left 1
  · intro u hSw; obtain s1 := hSw; go_simp; try with_reducible rfl
  try simp only [Act.put, List.setIfInBounds_toArray, List.set_cons_zero, List.set_cons_succ]
  refine wpAnyH_take (i := 13) (oi := { dst := some 48, op := _, type := _, pos := _, after := _, guard := _ }) (v := ?_) rfl (by kernel_rfl) (by kernel_rfl) (by kernel_rfl) (fun _ _ _ h => h) (Or.inl ⟨by rfl, ?_⟩) (by assumption) ?_
  rotate_left 1
  · intro u hSw; obtain s1 := hSw; go_simp; try with_reducible rfl
  try simp only [Act.put, List.setIfInBounds_toArray, List.set_cons_zero, List.set_cons_succ]
  refine wpAnyH_take (i := 14) (oi := { dst := some 49, op := _, type := _, pos := _, after := _, guard := _ }) (v := ?_) rfl (by kernel_rfl) (by kernel_rfl) (by kernel_rfl) (fun _ _ _ h => h) (Or.inl ⟨by rfl, ?_⟩) (by assumption) ?_
  rotate_left 1
  · intro u hSw; obtain s1 := hSw; go_simp; try with_reducible rfl
  try simp only [Act.put, List.setIfInBounds_toArray, List.set_cons_zero, List.set_cons_succ]
  refine wpAnyH_take (i := 15) (oi := { dst := some 8, op := _, type := _, pos := _, after := _, guard := _ }) (v := ?_) rfl (by kernel_rfl) (by kernel_rfl) (by kernel_rfl) (fun _ _ _ h => h) (Or.inl ⟨by rfl, ?_⟩) (by assumption) ?_
  rotate_left 1
  · intro u hSw; obtain s1 := hSw; go_simp; try with_reducible rfl
  try simp only [Act.put, List.setIfInBounds_toArray, List.set_cons_zero, List.set_cons_succ]
  refine wpAnyH_take (i := 16) (oi := { dst := some 9, op := _, type := _, pos := _, after := _, guard := _ }) (v := ?_) rfl (by kernel_rfl) (by kernel_rfl) (by kernel_rfl) (fun _ _ _ h => h) (Or.inl ⟨by rfl, ?_⟩) (by assumption) ?_
  rotate_left 1
  · intro u hSw; obtain s1 := hSw; go_simp; try with_reducible rfl
  try simp only [Act.put, List.setIfInBounds_toArray, List.set_cons_zero, List.set_cons_succ]
  refine wpAnyH_done (by kernel_rfl) ?_ _
  refine NoPanic.normal ?_
  obtain ⟨K2, s, l, ab, nb, at4, now4, t, L, hll, htb, hnow⟩ := HTR.out
  obtain ⟨hall, hsp⟩ := L.over hnow
  have hvf : ∃ vo vc, v2 = .slice vo l.length vc := by
    rcases L.tm.row.2 with ⟨e, e0⟩ | ⟨g9, c9, cur9, e, -⟩
    · exact ⟨none, 0, by rw [e, e0]⟩
    · exact ⟨_, c9, e⟩
  obtain ⟨vo, vc, ev⟩ := hvf
  subst ev
  have hl40 : l.length ≤ 40 := by rw [hll, List.length_take]; omega
  have HH0 := hide2 (L.hs htb)
  have HTI := hide2 L.ti
  have HOKS := hide2 L.tm.ht.ok
  have HALL := hide2 hall
  have HSP := hide2 hsp
  have HOX : Hid (∀ u ∈ l, u.x.ok) := hide2 (fun u hu => HOK.out _ (L.ox u hu))
  clear HTR L hll hnow hall hsp
  go_wp2
  go_loopw [10, 11, 12] (fun a v i wr => ∃ m : Nat, m ≤ l.length ∧ i = .int .i64 m ∧ a = .int .i64 ((usd (l.take m) : Nat) : Int) ∧ Hid (Hs w wr lb d 10000000 K2 s l (.slice vo l.length vc) v (insL (l.take m)))) (fun _ _ i _ => l.length - (intOf i).toNat)
  case atStart => exact ⟨0, by omega, rfl, rfl, HH0⟩
  case round =>
    clear HH0
    obtain ⟨m, hm, rfl, rfl, H⟩ := hrel
    obtain ⟨ivo, ivc, ev11, _⟩ := H.out.ar.seq
    subst ev11
    by_cases hml : m < l.length
    · have hmi : (m : Int) < (l.length : Int) := by omega
      obtain ⟨u, hu⟩ : ∃ u, l[m]? = some u := ⟨_, List.getElem?_eq_getElem hml⟩
      have hum := List.mem_of_getElem? hu
      obtain ⟨st5, f16, iff5⟩ := (HTI.out.one u hum).fin5 HOKS.out (HALL.out u hum)
      obtain ⟨g, cap9, ev9⟩ : ∃ g cap9, Value.slice vo l.length vc = .slice (some ⟨g, 0, none⟩) l.length cap9 := by
        rcases H.out.row.2 with ⟨e, e0⟩ | ⟨g9, c9, cur9, e, -⟩
        · omega
        · exact ⟨g9, c9, e⟩
      simp only [Value.slice.injEq, true_and] at ev9
      obtain ⟨rfl, rfl⟩ := ev9
      have HC : Hid (∀ (wz : World) (hz : Hs w wz lb d 10000000 K2 s l (.slice (some ⟨g, 0, none⟩) l.length vc) (.slice ivo (insL (l.take m)).length ivc) (insL (l.take m))) (i : Nat) (hi : i < 8), wz.cell? ⟨g, m * 8 + i, none⟩ = u.cells[i]?) := hide2 (fun wz hz i hi => hz.cellAt hu i hi)
      have cp : wr.cell? ⟨g, m * 8 + 5, none⟩ = some (.pointer (some ⟨u.b, 0, none⟩)) := HC.out wr H.out 5 (by decide)
      obtain ⟨hd, ehd⟩ : ∃ b, b = u.o.had := ⟨_, rfl⟩
      obtain ⟨cd, ecd⟩ : ∃ b, b = u.o.code := ⟨_, rfl⟩
      obtain ⟨p, hpp⟩ : ∃ b, b = pk u.x.kind 3 := ⟨_, rfl⟩
      have hrf := ref_done (H.out.ops u hum) st5 f16
      have hxok := HOX.out u hum
      rw [← ehd, ← ecd] at hrf
      rw [← ehd, ← ecd, okd_pk, ← hpp] at iff5
      have HRF := hide2 hrf
      have HIF := hide2 iff5
      have HPP := hide2 hpp
      have HUU := hide2 hu
      have HXO := hide2 hxok
      clear hrf iff5 ehd ecd hpp st5 f16 hum hxok hu
      go_wp2_with fail
      refine HRF.out.mono ?_
      rintro e w3 ⟨rfl, hb3⟩
      have H3 := hide2 (H.out.below hb3)
      have HPK := hide2 (pick_any u.x.kind HXO.out.2.1 3 (by decide) (by decide) w3)
      rw [← HPP.out] at HPK
      have y1 : w3.cell? ⟨g, m * 8 + 1, none⟩ = some (.int .i64 u.x.kind) := HC.out w3 H3.out 1 (by decide)
      clear HRF hb3 H cp
      go_wp2_with fail
      refine HPK.out.mono ?_
      rintro e w4 ⟨rfl, hw4⟩
      replace hw4 := hw4.symm
      subst hw4
      clear HPK y1
      have NO : u.o.tw = 0 → Hid (∃ m' : Nat, m' = m + 1 ∧ usd (l.take m) = usd (l.take m') ∧ Hs w w3 lb d 10000000 K2 s l (.slice (some ⟨g, 0, none⟩) l.length vc) (.slice ivo (insL (l.take m)).length ivc) (insL (l.take m'))) := fun q => hide2 ⟨m + 1, rfl, (usd_no HUU.out q).symm, by rw [insL_no HUU.out q]; exact H3.out⟩
      by_cases p0 : p = 0
      · have P0 : decide ((p : Int) = 0) = true := by simp [p0]
        have P1 : (p : Int) = 0 := by omega
        cases hd with
        | true =>
          have NN := NO (by
            rcases Nat.eq_zero_or_pos u.o.tw with q | q
            · exact q
            · exact absurd (HIF.out.2 (by omega)).2.1 (by decide))
          clear NO H3 HIF HC
          obtain ⟨m', e', eu, NN⟩ := NN.out
          have HN := hide2 NN
          have EU := hide2 eu
          clear NN eu
          go_wp2
          go_roundw
          case rel => exact ⟨m', by omega, by rw [e']; go_num, by rw [EU.out], HN⟩
          case measure => simp [intOf]; omega
        | false =>
          by_cases c0 : cd = 0
          · have hw : u.o.tw ≠ 0 := HIF.out.1 ⟨p0, rfl, c0⟩
            have C0 : decide (cd = 0) = true := decide_eq_true c0
            clear NO
            obtain ⟨i0, hi0, z0, z1, z2⟩ := info_parts infoAsk
            have hln : (insL (l.take m)).length ≤ 40 := by have := insL_le (l.take m); rw [List.length_take] at this; omega
            have hus := usd_le (l.take m)
            rw [List.length_take] at hus
            have EI := hide2 (insL_yes HUU.out hw)
            have EU := hide2 (usd_yes HUU.out hw)
            have y0 : w3.cell? ⟨g, m * 8, none⟩ = some (.int .i64 u.x.w) := HC.out w3 H3.out 0 (by decide)
            have y1 : w3.cell? ⟨g, m * 8 + 1, none⟩ = some (.int .i64 u.x.kind) := HC.out w3 H3.out 1 (by decide)
            have y2 : w3.cell? ⟨g, m * 8 + 2, none⟩ = some (.string u.x.key) := HC.out w3 H3.out 2 (by decide)
            have y3 : w3.cell? ⟨g, m * 8 + 3, none⟩ = some (.int .i64 u.x.ref) := HC.out w3 H3.out 3 (by decide)
            have y4 : w3.cell? ⟨g, m * 8 + 4, none⟩ = some (.int .i64 u.x.h) := HC.out w3 H3.out 4 (by decide)
            have HNEW := hide2 (ask_new w3 u.x)
            have hg := hgt_bd u.x.h
            clear HIF p0
            go_wp2_with (at_builtin; refine Hid.out ?_)
            refine hide2 ?_
            refine wpList_append_own_at _ rfl _ _ 22 rfl w.heap.size 33 i0 (.agg #[.int .i64 0, .int .i64 0, .string .empty, .int .i64 0, .int .i64 0]) 5 48 Tryd.underlying22 hi0 z0 z1 z2 rfl (by decide) (.slice ivo (insL (l.take m)).length ivc) _ _ rfl (World.ownsRow.alloc H3.out.ar _) ⟨w3.heap.size, 0, none⟩ 1 1 [.int .i64 u.x.w, .int .i64 u.x.kind, .string u.x.key, .int .i64 u.x.ref, .int .i64 u.x.h] rfl rfl HNEW.out (by intro v hv; simp at hv; rcases hv with rfl | rfl | rfl | rfl | rfl <;> rfl) (by unfold maxLen; omega) (by omega) (by simp; have := H3.out.bl.size; omega) ?_
            intro v' w10 hown10 hgrow10 hat10 hb10
            obtain ⟨gt, capt, ev⟩ := hrow_succ hown10
            have hF10 : Fr (fun j => (Value.slice ivo (insL (l.take m)).length ivc).ownBlock = some j) w3 w10 := ((Fr.refl (fun j => (Value.slice ivo (insL (l.take m)).length ivc).ownBlock = some j) w3).alloc _).trans (Fr.grown hgrow10 (fun j e => e)) (fun j e => .inl e)
            have hr10 : Ar w10 w.heap.size v' (insL (l.take m) ++ [u.x]) := by
              unfold Ar
              have ec : u.x.cells = [.int .i64 u.x.w, .int .i64 u.x.kind, .string u.x.key, .int .i64 u.x.ref, .int .i64 u.x.h] := rfl
              rw [List.length_append, List.length_singleton, List.flatMap_append, List.flatMap_singleton, ec]
              exact hown10
            have H10 := H3.out.rowed hF10 hr10 (fun j e => by
              rcases hb10 with q8 | q8
              · exact .inl (by rw [← q8]; exact e)
              · right
                rw [q8] at e
                simp at e
                omega)
            have HC2 : ∀ i, i < 8 → w10.cell? ⟨g, m * 8 + i, none⟩ = u.cells[i]? := fun i hi => H10.cellAt HUU.out i hi
            clear y0 y1 y2 y3 y4
            have y0 : w10.cell? ⟨g, m * 8, none⟩ = some (.int .i64 u.x.w) := HC2 0 (by decide)
            have y1 : w10.cell? ⟨g, m * 8 + 1, none⟩ = some (.int .i64 u.x.kind) := HC2 1 (by decide)
            have y2 : w10.cell? ⟨g, m * 8 + 2, none⟩ = some (.string u.x.key) := HC2 2 (by decide)
            have y3 : w10.cell? ⟨g, m * 8 + 3, none⟩ = some (.int .i64 u.x.ref) := HC2 3 (by decide)
            have y4 : w10.cell? ⟨g, m * 8 + 4, none⟩ = some (.int .i64 u.x.h) := HC2 4 (by decide)
            have hht := height_any u.x w10
            unfold AskR.val at hht
            have HHT := hide2 hht
            have HH10 := hide2 H10
            obtain ⟨U, hU⟩ : ∃ U, U = usd (l.take m) := ⟨_, rfl⟩
            rw [← hU] at hus EU
            have HU := hide2 hU
            clear hown10 hgrow10 hat10 hb10 hF10 hr10 H10 HNEW H3 HC HC2 hht
            subst ev
            go_wp2_with fail
            refine HHT.out.mono ?_
            rintro e w11 ⟨rfl, hb11⟩
            have HH11 := hide2 (HH10.out.below hb11)
            clear HHT HH10 hb11 y0 y1 y2 y3 y4
            go_wp2
            go_roundw
            case rel => exact ⟨m + 1, by omega, by go_num, by rw [EU.out, ← HU.out]; go_num, hide2 (by rw [EI.out]; exact HH11.out)⟩
            case measure => simp [intOf]; omega
          · have C0 : decide (cd = 0) = false := decide_eq_false c0
            have NN := NO (by
              rcases Nat.eq_zero_or_pos u.o.tw with q | q
              · exact q
              · exact absurd (HIF.out.2 (by omega)).2.2 c0)
            clear NO H3 HIF HC
            obtain ⟨m', e', eu, NN⟩ := NN.out
            have HN := hide2 NN
            have EU := hide2 eu
            clear NN eu
            go_wp2
            go_roundw
            case rel => exact ⟨m', by omega, by rw [e']; go_num, by rw [EU.out], HN⟩
            case measure => simp [intOf]; omega
      · have P0 : decide ((p : Int) = 0) = false := by simp; omega
        have P1 : ¬ (p : Int) = 0 := by omega
        have NN := NO (by
          rcases Nat.eq_zero_or_pos u.o.tw with q | q
          · exact q
          · exact absurd (HIF.out.2 (by omega)).1 p0)
        clear NO H3 HIF HC
        obtain ⟨m', e', eu, NN⟩ := NN.out
        have HN := hide2 NN
        have EU := hide2 eu
        clear NN eu
        go_wp2
        go_roundw
        case rel => exact ⟨m', by omega, by rw [e']; go_num, by rw [EU.out], HN⟩
        case measure => simp [intOf]; omega
    · have hml2 : ¬ (m : Int) < (l.length : Int) := by omega
      have HTK : Hid (l.take m = l) := hide2 (List.take_of_length_le (by omega))
      have hcl : s.cells.length = usd (l.take m) := by
        rw [HTK.out, cells_len, HTI.out.hs, HSP.out]
        simp [usd]
      have hus := H.out.ht.used
      rw [hcl] at hus
      have hil : (insL (l.take m)).length = s.tw.length - 1 := by
        rw [HTK.out]
        unfold insL
        rw [List.length_map]
        have := HTI.out.ct
        omega
      have hln : (insL (l.take m)).length ≤ 40 := by have := insL_le (l.take m); rw [List.length_take] at this; omega
      have HUS := hide2 hus
      have HKY := hide2 H.out.ht.keys
      have HIL := hide2 hil
      -- whose a key is
      have HOW : Hid (∀ x ∈ insL (l.take m), good x.key = true ∧ ∃ i, 1 ≤ i ∧ i < s.tw.length ∧ (s.at i).k = x.key ∧ (s.at i).r = x.ref) := hide2 (fun x hx => by
        rw [HTK.out] at hx
        unfold insL at hx
        obtain ⟨u, hu, rfl⟩ := List.mem_map.1 hx
        obtain ⟨hu1, hu2⟩ := List.mem_filter.1 hu
        have hw : u.o.tw ≠ 0 := by simpa using hu2
        have ho := (HTI.out.one u hu1).owns hw
        refine ⟨?_, u.o.tw, ho.lt.1, ho.lt.2, ho.k, ho.r⟩
        have := HOKS.out.gd u.o.tw ho.lt.1 ho.lt.2
        rw [ho.k] at this
        exact this)
      clear hus hcl hil
      go_wp2_with fail
      refine HUS.out.mono ?_
      rintro e w5 ⟨rfl, hw5⟩
      replace hw5 := hw5.symm
      subst hw5
      clear HUS
      go_wp2_with fail
      refine HKY.out.mono ?_
      rintro e w6 ⟨v6, ts, rfl, hrow, hpw, hpm, hb6⟩
      obtain ⟨tao, tc, ev6, hts⟩ := str_seq hrow
      subst ev6
      have H6 := H.out.below hb6
      obtain ⟨a9, c9, ev9, hsq9⟩ := H6.ar.seq
      simp only [Value.slice.injEq, true_and] at ev9
      obtain ⟨rfl, rfl⟩ := ev9
      have HSO := hide2 (sorted_any hts hsq9 (by rw [hpm.length_eq, kys_len, HIL.out]) (fun y hy => by
        obtain ⟨i, h1, hi, rfl⟩ := kys_mem (hpm.mem_iff.1 hy)
        obtain ⟨u, hu, hw⟩ := HTI.out.own i h1 hi
        have ho := (HTI.out.one u hu).owns (by omega)
        refine ⟨u.x, ?_, ?_⟩
        · rw [HTK.out]
          unfold insL
          exact List.mem_map.2 ⟨u, List.mem_filter.2 ⟨hu, by simp; omega⟩, rfl⟩
        · rw [← ho.k, hw]; rfl) hpw (hpm.nodup_iff.2 (kys_nodup HOKS.out)))
      have HH6 := hide2 H6
      clear HKY hrow hpw hpm hb6 hts H6 hsq9 H
      go_wp2_with fail
      refine HSO.out.mono ?_
      rintro e w7 ⟨rfl, q7, hw7⟩
      have HH7 : Hid (Hs w w7 lb d 10000000 K2 s l (.slice vo l.length vc) (.slice ivo (insL (l.take m)).length ivc) (insL (l.take m))) := hide2 (by rw [hw7]; exact HH6.out.below (below_drewN _ _ _))
      clear HSO hw7 HH6
      go_wp2
      go_loopw [17] (fun i wr => ∃ (n M : Nat) (K : Nat → Prop) (s' : Sl), n ≤ (insL (l.take m)).length ∧ i = .int .i64 n ∧ M ≤ 10000000 + n * 1000 ∧ Hid (ks s' = ks s ∧ s'.sp = []) ∧ Hid (Hs w wr lb d M K s' l (.slice vo l.length vc) (.slice ivo (insL (l.take m)).length ivc) (insL (l.take m)))) (fun i _ => (insL (l.take m)).length - (intOf i).toNat)
      case atStart => exact ⟨0, 10000000, K2, s, by omega, rfl, by omega, hide2 ⟨rfl, HSP.out⟩, HH7⟩
      case round =>
        clear HH7
        obtain ⟨n, M, K3, s', hn, rfl, hM, KS, L⟩ := hrel
        by_cases hnl : n < (insL (l.take m)).length
        · have hni : (n : Int) < ((insL (l.take m)).length : Int) := by omega
          obtain ⟨x, hx⟩ : ∃ x, (insL (l.take m))[n]? = some x := ⟨_, List.getElem?_eq_getElem hnl⟩
          obtain ⟨hgood, i, hi1, hi2, hik, hir⟩ := HOW.out x (List.mem_of_getElem? hx)
          have HC : Hid (∃ b off, ivo = some ⟨b, off, none⟩ ∧ ∀ wz M K s', Hs w wz lb d M K s' l (.slice vo l.length vc) (.slice ivo (insL (l.take m)).length ivc) (insL (l.take m)) → wz.cell? ⟨b, off + n * 5 + 2, none⟩ = some (.string x.key) ∧ wz.cell? ⟨b, off + n * 5 + 3, none⟩ = some (.int .i64 x.ref)) := hide2 (by
            obtain ⟨a9, c9, ev9, hsq9⟩ := L.out.ar.seq
            simp only [Value.slice.injEq, true_and] at ev9
            obtain ⟨rfl, rfl⟩ := ev9
            obtain ⟨b, off, eo, _, _⟩ := hsq9.2.2.2 (by omega)
            refine ⟨b, off, eo, fun wz M K s' hz => ?_⟩
            obtain ⟨a8, c8, ev8, hsq8⟩ := hz.ar.seq
            simp only [Value.slice.injEq, true_and] at ev8
            obtain ⟨rfl, rfl⟩ := ev8
            obtain ⟨b8, off8, eo8, _, hcell8⟩ := hsq8.2.2.2 (by omega)
            rw [eo] at eo8
            simp at eo8
            obtain ⟨rfl, rfl⟩ := eo8
            exact ⟨hcell8 n x hx 2 _ rfl, hcell8 n x hx 3 _ rfl⟩)
          obtain ⟨b, off, eo, hcc⟩ := HC.out
          subst eo
          obtain ⟨k2, k3⟩ := hcc wr M K3 s' L.out
          have HCC := hide2 hcc
          have hlen' : s'.tw.length = (insL (l.take m)).length + 1 := by
            rw [ks_len KS.out.1, HIL.out]
            have := HOKS.out.n1
            omega
          have HLEN := hide2 hlen'
          have HG := hide2 hgood
          have HIK : Hid (i < s'.tw.length ∧ (s'.at i).k = x.key ∧ (s'.at i).r = x.ref) := hide2 (by
            have := ks_at KS.out.1 i
            exact ⟨by rw [ks_len KS.out.1]; exact hi2, by rw [this.1]; exact hik, by rw [this.2.1]; exact hir⟩)
          have HLK := hide2 (L.out.ht.lookup x.key hgood)
          clear hcc hx hlen' hgood hik hir hi2 HC
          go_wp2_with fail
          refine HLK.out.mono ?_
          rintro e w8 ⟨rfl, ho8, hb8⟩
          have L8 := L.out.below hb8
          have hKl := L.out.ht.kl
          have hbs := L.out.bl.size
          have hb0' := L.out.b0
          have emost : ((32 + 2 * (insL (l.take m)).length : Nat) : Int) = 32 + 2 * ((insL (l.take m)).length : Int) := by omega
          have hdn := done_new (most := 32 + 2 * (insL (l.take m)).length) L8.ht KS.out.2 ho8 (fun e => by have := hKl _ e; omega) (by omega) (fun q _ => absurd rfl q) (fun q => absurd q (by decide)) (fun q => absurd q (by decide)) (by rw [HLEN.out]; simp; omega) (by omega) (by omega)
          rw [emost] at hdn
          have HDN := hide2 hdn
          have HB8 := hide2 hb8
          have hsz8 := hb8.size
          clear HLK ho8 hb8 L8 hdn emost hKl k2 k3
          go_wp2_with fail
          refine HDN.out.mono ?_
          rintro e w9 ⟨n9, s9, o9, K9, cv9, rfl, hn9, hfin, hl9, ho9, hnk9, hK9, hF9⟩
          have hres : o9.st = 5 ∧ o9.code = 0 ∧ s9.sp = [] ∧ o9.fk = x.key ∧ o9.nm = x.ref ∧ o9.had = true ∧ ks s9 = ks s' := by
            obtain ⟨f1, f2, f3, f4⟩ := hfin
            rcases f4 with ⟨jx, j1, j2, j3, j4, j5, j6, j7⟩ | ⟨_, _, _, _, _, j7⟩ | ⟨j0, _⟩
            · rcases j7 with j7 | j7
              · have ej := L.out.ht.ok.one jx i j2 HIK.out.1 (j7.trans HIK.out.2.1.symm)
                subst ej
                exact ⟨f1, f2, f3, by rw [j3, j7], by rw [j4, HIK.out.2.2], j5, j6⟩
              · exact absurd j7.1 (by decide)
            · exact absurd HIK.out.2.1 (j7 i hi1 HIK.out.1).2
            · exact absurd j0 (by decide)
          obtain ⟨r1, r2, r3, r4, r5, r6, r7⟩ := hres
          have hrf := ref_done ho9 r1 (by rw [r4]; exact (good_size HG.out).2)
          rw [r4, r5, r6, r2] at hrf
          have HRF := hide2 hrf
          have HL9 := hide2 (L.out.went (ob := wr.heap.size) hl9 (Nat.le_refl _) HB8.out hK9 hF9)
          have HK9 : Hid (ks s9 = ks s ∧ s9.sp = []) := hide2 ⟨r7.trans KS.out.1, r3⟩
          have hni9 : ¬ (n9 : Int) < 0 := by omega
          clear HDN hfin hl9 ho9 hnk9 hK9 hF9 r1 r2 r3 r4 r5 r6 r7 hrf HIK L HB8 KS
          go_wp2_with fail
          refine HRF.out.mono ?_
          rintro e w10 ⟨rfl, hb10⟩
          have HL10 := hide2 (HL9.out.below hb10)
          obtain ⟨k2, k3⟩ := HCC.out _ _ _ _ HL10.out
          clear HRF hb10 HL9 HCC
          go_wp2
          go_roundw
          case rel => exact ⟨n + 1, _, K9, s9, by omega, by go_num, by omega, HK9, HL10⟩
          case measure => simp [intOf]; omega
        · have hni : ¬ (n : Int) < ((insL (l.take m)).length : Int) := by omega
          go_wp2
          go_ret
          exact ⟨rfl, L.out.bl⟩
end
end Go.Proofs.YtopihgdbfhiejaaDoor
