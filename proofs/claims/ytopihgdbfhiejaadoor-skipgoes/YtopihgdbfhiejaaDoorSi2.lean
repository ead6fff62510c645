/-
  The law's shown.
-/
import Derived.Test.YtopihgdbfhiejaaDoorSi1
set_option linter.unusedVariables false
set_option linter.unusedSimpArgs false
namespace Go.Proofs.YtopihgdbfhiejaaDoor
open Go.RowKit Go.Maps

abbrev bB : ByteArray := ⟨#[98]⟩
theorem good_b : good bB = true := by decide
theorem ks_s0 : ks s0 = [(.empty, 0, 8)] := rfl
theorem ks_get {s : Sl} {l : List (ByteArray × Int × Nat)} (h : ks s = l) {i : Nat} {x : ByteArray × Int × Nat} (hx : l[i]? = some x) : i < s.tw.length ∧ (s.at i).k = x.1 ∧ (s.at i).r = x.2.1 ∧ (s.at i).h = x.2.2 := by
  have hi : i < s.tw.length := by
    have h1 := (List.getElem?_eq_some_iff.1 hx).1
    rw [← h] at h1
    simpa [ks] using h1
  rw [← h] at hx
  unfold ks at hx
  rw [List.getElem?_map, at_some hi] at hx
  simp only [Option.map_some, Option.some.injEq] at hx
  rw [← hx]
  exact ⟨hi, rfl, rfl, rfl⟩
theorem ks_tw {s : Sl} {l : List (ByteArray × Int × Nat)} (h : ks s = l) : s.tw.length = l.length := by rw [← h]; simp [ks]
section
variable {s s' : Sl} {o : Opm}
theorem shown_one (h : Fin s0 bB 2 7 3 s' o) : o.fk = bB ∧ o.nm = 7 ∧ o.had = false ∧ ks s' = [(.empty, 0, 8), (bB, 7, 3)] := by
  obtain ⟨-, -, -, h⟩ := h
  rcases h with ⟨j, h1, h2, _⟩ | ⟨q, _⟩ | ⟨_, h1, h2, h3, h4, _⟩
  · rw [show s0.tw.length = 1 from rfl] at h2; omega
  · exact absurd rfl q
  · exact ⟨h1, h2, h3, by rw [h4, ks_s0]; rfl⟩
theorem shown_two (e : ks s = [(.empty, 0, 8), (bB, 7, 3)]) (h : Fin s bB 2 8 1 s' o) : o.fk = bB ∧ o.nm = 7 ∧ o.had = true ∧ ks s' = [(.empty, 0, 8), (bB, 7, 3)] := by
  obtain ⟨-, -, -, h⟩ := h
  obtain ⟨g1, g2, g3, g4⟩ := ks_get e (i := 1) rfl
  have hl : s.tw.length = 2 := ks_tw e
  rcases h with ⟨j, h1, h2, h3, h4, h5, h6, _⟩ | ⟨q, _⟩ | ⟨_, h1, h2, h3, h4, h5⟩
  · have hj : j = 1 := by omega
    subst hj
    exact ⟨h3.trans g2, h4.trans g3, h5, h6.trans e⟩
  · exact absurd rfl q
  · exact absurd g2 (h5 1 (by decide) g1)
theorem shown_thr (e : ks s = [(.empty, 0, 8), (bB, 7, 3)]) (h : Fin s .empty 1 0 0 s' o) : o.fk = bB ∧ o.nm = 7 ∧ o.had = true ∧ ks s' = [(.empty, 0, 8), (bB, 7, 3)] := by
  obtain ⟨-, -, -, h⟩ := h
  obtain ⟨g1, g2, g3, g4⟩ := ks_get e (i := 1) rfl
  have hl : s.tw.length = 2 := ks_tw e
  rcases h with ⟨j, h1, h2, h3, h4, h5, h6, _⟩ | ⟨_, h1, h2, h3, h4, h5⟩ | ⟨q, _⟩
  · have hj : j = 1 := by omega
    subst hj
    exact ⟨h3.trans g2, h4.trans g3, h5, h6.trans e⟩
  · exact absurd ((h5 1 (by decide) g1).1 rfl) Blw.empty
  · exact absurd q (by decide)
theorem shown_cells (e : ks s = [(.empty, 0, 8), (bB, 7, 3)]) (h : s.sp = []) : s.cells.length = 11 := by rw [cells_len, e, h]; rfl
end
theorem hgt3 : hgt 3 = 3 := by decide
theorem hgt1 : hgt 1 = 1 := by decide
section
variable {w : World}
set_option maxRecDepth 100000 in
set_option maxHeartbeats 8000000 in
theorem shown_any (hT : Tab w) : Calls Tryd.prog 8 #[] w fun e w' => e = .returned (.bool true) ∧ Below w.heap.size w w' := by
  have HN := hide2 (New_any 20 w (by decide) (by decide))
  have HT0 := hide2 hT
  have hw0 := hT.1
  clear hT
  go_enter Tryd.func8, Tryd.ntmps8
  go_wp2_with fail
  refine HN.out.mono ?_
  rintro e w1 ⟨rfl, ⟨F, hA⟩, hb⟩
  rw [← up_zero] at hA
  have HB := hide2 hb
  have HH := hide2 (new_any hA (HT0.out.below hb hw0) (by omega) (by omega) (by decide))
  clear HN hA hb
  go_wp2_with fail
  refine HH.out.mono ?_
  rintro e w2 ⟨lb, K, gt, F', rfl, h1, h2, h3⟩
  have hs := HB.out.size
  have hb2 : Below w.heap.size w w2 := HB.out.trans (h3.to (fun k hk e => by omega) hs)
  have hK : ∀ j, K j → w.heap.size ≤ j := fun j hj => by have := h2 j hj; omega
  have hl : LT w2 K lb (w.heap.size + 1) 20 0 s0 := ⟨_, _, _, _, _, _, _, _, h1, s0_ok, s0_cw 20 (by decide), rfl, by decide, by decide⟩
  have HI := hide2 (hl.insert bB good_b 7 3)
  have HK := hide2 hK
  have HL := hide2 hl
  have HB2 := hide2 hb2
  clear HH h1 h2 h3 HB hb2 hK hl
  go_wp2_with fail
  refine HI.out.mono ?_
  rintro e w3 ⟨rfl, ho, hb3⟩
  have hl3 := HL.out.below hb3
  have hlt1 := ho.lt
  have HO1 := hide2 ho
  have HB3 := hide2 hb3
  have HI2 := hide2 (hl3.insert bB good_b 8 1)
  have HL3 := hide2 hl3
  clear HI ho hb3 hl3
  go_wp2_with fail
  refine HI2.out.mono ?_
  rintro e w4 ⟨rfl, ho, hb4⟩
  have hl4 := HL3.out.below hb4
  have hlt2 := ho.lt
  have HO2 := hide2 ho
  have HB4 := hide2 hb4
  have HI3 := hide2 (hl4.next .empty (by decide))
  have HL4 := hide2 hl4
  clear HI2 ho hb4 hl4
  go_wp2_with fail
  refine HI3.out.mono ?_
  rintro e w5 ⟨rfl, ho, hb5⟩
  have hl5 := HL4.out.below hb5
  have hlt3 := ho.lt
  have o2 := HO2.out.same (hb5.block _ hlt2)
  have o1 := (HO1.out.same (HB4.out.block _ hlt1)).same (hb5.block _ (by omega))
  rw [hgt3] at o1
  rw [hgt1] at o2
  have s2 := HB2.out.size
  have s3 := HB3.out.size
  have s4 := HB4.out.size
  have s5 := hb5.size
  have n1 : ¬ K w2.heap.size := fun e => by have := HL.out.kl _ e; omega
  have n2 : ¬ K w3.heap.size := fun e => by have := HL3.out.kl _ e; omega
  have n3 : ¬ K w4.heap.size := fun e => by have := HL4.out.kl _ e; omega
  have b3 : Below w.heap.size w w3 := HB2.out.trans ⟨HB3.out.os, HB3.out.tape, HB3.out.output, HB3.out.size, fun j hj => HB3.out.block j (by omega)⟩
  have b4 : Below w.heap.size w w4 := b3.trans ⟨HB4.out.os, HB4.out.tape, HB4.out.output, HB4.out.size, fun j hj => HB4.out.block j (by omega)⟩
  have b5 : Below w.heap.size w w5 := b4.trans ⟨hb5.os, hb5.tape, hb5.output, hb5.size, fun j hj => hb5.block j (by omega)⟩
  have HD := hide2 (done_new (most := 40) hl5 rfl o1 n1 (by omega) (by decide) (fun _ => ⟨good_b, by decide, by decide⟩) (fun _ => by rw [s0_cells]; decide) (by decide) (by decide) (by decide))
  have HP2 := hide2 o2
  have HP3 := hide2 ho
  have HB5 := hide2 b5
  clear HI3 ho hb5 hl5 o1 o2 b3 b4 b5 HO1 HO2 HB2 HB3 HB4 HL HL3 HL4
  go_wp2_with fail
  refine HD.out.mono ?_
  rintro e w6 ⟨c1, s1, q1, K1, cv1, rfl, hc1, hf1, hl6, p1, m1, hk1, hF1⟩
  obtain ⟨f1, f2, f3, f4⟩ := shown_one hf1
  have o2 := HP2.out.fr hF1 (by rintro (e | e); exact n2 e; omega)
  have o3 := HP3.out.fr hF1 (by rintro (e | e); exact n3 e; omega)
  have n12 : ¬ K1 w3.heap.size := fun e => n2 ((hk1 _ (by omega)).1 e)
  have n13 : ¬ K1 w4.heap.size := fun e => n3 ((hk1 _ (by omega)).1 e)
  have hKK1 : ∀ j, K1 j → w.heap.size ≤ j := fun j hj => by
    rcases Nat.lt_or_ge j w5.heap.size with q | q
    · exact HK.out j ((hk1 j q).1 hj)
    · omega
  have s6 := hF1.size
  have b6 : Below w.heap.size w w6 := HB5.out.trans (hF1.to (fun j hj e => by
    rcases e with e | e
    · have := HK.out j e; omega
    · omega) (by omega))
  have hc1i : (0 : Int) < (c1 : Int) := by omega
  have HD2 := hide2 (done_new (most := 40) hl6 hf1.2.2.1 o2 n12 (by omega) (by decide) (fun _ => ⟨good_b, by decide, by decide⟩) (fun _ => by rw [shown_cells f4 hf1.2.2.1]; decide) (by rw [ks_tw f4]; decide) (by decide) (by decide))
  have HQ1 := hide2 p1
  have HQ3 := hide2 o3
  have HF1 := hide2 hf1
  have HB6 := hide2 b6
  have HKK1 := hide2 hKK1
  have HS1 := hide2 f4
  have HG1 := hide2 (show q1.fk = bB ∧ q1.nm = 7 ∧ q1.had = false ∧ q1.code = 0 from ⟨f1, f2, f3, hf1.2.1⟩)
  have HOK1 := hide2 hl6.ok
  clear HD hf1 hl6 p1 hk1 hF1 f1 f2 f3 f4 o2 o3 hKK1 b6 HP2 HP3
  go_wp2_with fail
  refine HD2.out.mono ?_
  rintro e w7 ⟨c2, s2', q2, K2, cv2, rfl, hc2, hf2, hl7, p2, m2, hk2, hF2⟩
  obtain ⟨f1, f2, f3, f4⟩ := shown_two HS1.out hf2
  have o1 := HQ1.out.fr hF2 (by rintro (e | e); exact m1 e; omega)
  have o3 := HQ3.out.fr hF2 (by rintro (e | e); exact n13 e; omega)
  have n22 : ¬ K2 w2.heap.size := fun e => m1 ((hk2 _ (by omega)).1 e)
  have n23 : ¬ K2 w4.heap.size := fun e => n13 ((hk2 _ (by omega)).1 e)
  have hKK2 : ∀ j, K2 j → w.heap.size ≤ j := fun j hj => by
    rcases Nat.lt_or_ge j w6.heap.size with q | q
    · exact HKK1.out j ((hk2 j q).1 hj)
    · omega
  have s7 := hF2.size
  have b7 : Below w.heap.size w w7 := HB6.out.trans (hF2.to (fun j hj e => by
    rcases e with e | e
    · have := HKK1.out j e; omega
    · omega) (by omega))
  have hc2i : (0 : Int) < (c2 : Int) := by omega
  have HD3 := hide2 (done_new (most := 40) hl7 hf2.2.2.1 o3 n23 (by omega) (by decide) (fun e => absurd e (by decide)) (fun e => absurd e (by decide)) (by rw [ks_tw f4]; decide) (by decide) (by decide))
  have HR1 := hide2 o1
  have HR2 := hide2 p2
  have HF2 := hide2 hf2
  have HB7 := hide2 b7
  have HKK2 := hide2 hKK2
  have HS2 := hide2 f4
  have HG2 := hide2 (show q2.fk = bB ∧ q2.nm = 7 ∧ q2.had = true ∧ q2.code = 0 from ⟨f1, f2, f3, hf2.2.1⟩)
  clear HD2 hf2 hl7 p2 hk2 hF2 f1 f2 f3 f4 o1 o3 hKK2 b7 HQ1 HQ3
  go_wp2_with fail
  refine HD3.out.mono ?_
  rintro e w8 ⟨c3, s3', q3, K3, cv3, rfl, hc3, hf3, hl8, p3, m3, hk3, hF3⟩
  obtain ⟨f1, f2, f3, f4⟩ := shown_thr HS2.out hf3
  have o1 := HR1.out.fr hF3 (by rintro (e | e); exact n22 e; omega)
  have o2 := HR2.out.fr hF3 (by rintro (e | e); exact m2 e; omega)
  have s8 := hF3.size
  have b8 : Below w.heap.size w w8 := HB7.out.trans (hF3.to (fun j hj e => by
    rcases e with e | e
    · have := HKK2.out j e; omega
    · omega) (by omega))
  have hc3i : (0 : Int) < (c3 : Int) := by omega
  obtain ⟨a1, a2, a3, a4⟩ := HG1.out
  have r1 := ref_done o1 HF1.out.1 (by rw [a1]; decide)
  rw [a1, a2, a3, a4] at r1
  have HX1 := hide2 r1
  have HT1 := hide2 o1
  have HT2 := hide2 o2
  have HT3 := hide2 p3
  have HF3 := hide2 hf3
  have HB8 := hide2 b8
  have HL8 := hide2 hl8
  have HS3 := hide2 (shown_cells f4 hf3.2.2.1)
  have HG3 := hide2 (show q3.fk = bB ∧ q3.nm = 7 ∧ q3.had = true ∧ q3.code = 0 from ⟨f1, f2, f3, hf3.2.1⟩)
  clear HD3 hf3 hl8 p3 hk3 hF3 f1 f2 f3 f4 o1 o2 b8 HR1 HR2 r1 a1 a2 a3 a4
  go_wp2_with fail
  refine HX1.out.mono ?_
  rintro e w9 ⟨rfl, hb9⟩
  obtain ⟨a1, a2, a3, a4⟩ := HG2.out
  have o2 := HT2.out.same (hb9.block _ HT2.out.lt)
  have o3 := HT3.out.same (hb9.block _ HT3.out.lt)
  have r1 := ref_done o2 HF2.out.1 (by rw [a1]; decide)
  rw [a1, a2, a3, a4] at r1
  have HX2 := hide2 r1
  have HU3 := hide2 o3
  have HL9 := hide2 (HL8.out.below hb9)
  have s9 := hb9.size
  have HB9 := hide2 (show Below w.heap.size w w9 from HB8.out.trans ⟨hb9.os, hb9.tape, hb9.output, hb9.size, fun j hj => hb9.block j (by omega)⟩)
  clear HX1 o2 o3 r1 a1 a2 a3 a4 hb9
  go_wp2_with fail
  refine HX2.out.mono ?_
  rintro e w10 ⟨rfl, hb10⟩
  obtain ⟨a1, a2, a3, a4⟩ := HG3.out
  have o3 := HU3.out.same (hb10.block _ HU3.out.lt)
  have r1 := ref_done o3 HF3.out.1 (by rw [a1]; decide)
  rw [a1, a2, a3, a4] at r1
  have HX3 := hide2 r1
  have HL10 := hide2 (HL9.out.below hb10)
  have s10 := hb10.size
  have HB10 := hide2 (show Below w.heap.size w w10 from HB9.out.trans ⟨hb10.os, hb10.tape, hb10.output, hb10.size, fun j hj => hb10.block j (by omega)⟩)
  clear HX2 o3 r1 a1 a2 a3 a4 hb10
  go_wp2_with fail
  refine HX3.out.mono ?_
  rintro e w11 ⟨rfl, hb11⟩
  have hu := (HL10.out.below hb11).used
  rw [HS3.out] at hu
  have HU := hide2 hu
  have HB11 := hide2 (show Below w.heap.size w w11 from HB10.out.trans ⟨hb11.os, hb11.tape, hb11.output, hb11.size, fun j hj => hb11.block j (by omega)⟩)
  clear HX3 hu hb11
  go_wp2_with fail
  refine HU.out.mono ?_
  rintro e w12 ⟨rfl, q12⟩
  subst q12
  go_wp2
  go_ret
  exact ⟨rfl, HB11.out⟩
end
end Go.Proofs.YtopihgdbfhiejaaDoor
