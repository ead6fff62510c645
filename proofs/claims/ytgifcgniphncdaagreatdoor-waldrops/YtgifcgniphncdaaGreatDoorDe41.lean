/-
  Drop. (Printed by gen_w40.py.)
-/
import Derived.Test.YtgifcgniphncdaaGreatDoorDe40
import Derived.Test.YtgifcgniphncdaaGreatDoorDe30
import Derived.Test.YtgifcgniphncdaaGreatDoorDe29
import Derived.Test.YtgifcgniphncdaaGreatDoorDe39
set_option linter.unusedVariables false
set_option linter.unusedSimpArgs false
namespace Go.Proofs.YtgifcgniphncdaaGreatDoor
open Go.RowKit Go.Maps

theorem segs_len8 {P : PD} (hP : P.inv) : (segs P).length ≤ 64 := by
  unfold segs
  refine Nat.le_trans (List.length_filterMap_le _ _) ?_
  unfold Land.dnames
  rw [List.length_map]
  exact hP.now.len
theorem IRow.at0 {w : World} {base : Nat} {v : Value} {x : Int} {r : List Int} (h : IRow w base v (x :: r)) : ∃ g cap, v = .slice (some ⟨g, 0, none⟩) (r.length + 1) cap ∧ base ≤ g ∧ g < w.heap.size ∧ r.length + 1 ≤ cap ∧ cap ≤ maxLen ∧ ∀ (j : Nat) (y : Int), (x :: r)[j]? = some y → w.cell? ⟨g, j, none⟩ = some (.int .i64 y) := by
  rcases h.2 with ⟨rfl, h0⟩ | ⟨g, cap, cur, rfl, hg, hh, hn, hm, hs, ht⟩
  · simp at h0
  · refine ⟨g, cap, rfl, hg, (Array.getElem?_eq_some_iff.1 hh).1, by simpa using hn, hm, fun j y hj => ?_⟩
    have hjl := (List.getElem?_eq_some_iff.1 hj).1
    have := World.ownsRow.cellAt (w := w) (e := 3) (size := 1) h j (by omega)
    rw [this, List.getElem?_map, hj]
    rfl

theorem del_n8 (S : Dsk) (s : ByteArray) : S.P.n ≤ (S.del s).2.P.n := by
  unfold Dsk.del Dsk.go lef
  simp only
  split
  · exact Int.le_refl _
  · unfold PD.del
    split
    · show S.P.n ≤ S.P.n + 1
      omega
    · exact Int.le_refl _
theorem segs_iff8 {P : PD} (hP : P.inv) {n : Int} (hn : n ∈ segs P) : 1 ≤ n := by
  obtain ⟨s, hs, e⟩ := List.mem_filterMap.1 hn
  unfold segOf at e
  split at e
  · cases e
  · split at e
    · rename_i hh
      simp only [Option.some.injEq] at e
      omega
    · cases e
section
variable {w : World} {B : Nat} {A : Nat → Prop} {l d : Nat} {S : Dsk} {L : Lg} {N : Nat}
set_option maxRecDepth 100000 in
set_option maxHeartbeats 4000000 in
theorem drop_over (h : PM w B A l d S L N) (below : Int) (ho : L.over ≠ 0) :
    Calls Tryz.prog 31 #[.pointer (some ⟨l, 0, none⟩), .int .i64 below] w fun e w' => e = .returned (.tuple #[.bool false, .int .i64 L.over]) ∧ w' = w := by
  have HRf := hid8 (pmRefuses_any h)
  clear h
  generalize L.over = x at *
  have hxb : (x == 0) = false := by simpa using ho
  have hxn : (x != 0) = true := by simpa using ho
  go_enter Tryz.func31, Tryz.ntmps31
  go_wp2_with fail
  refine HRf.out.mono ?_
  rintro e w1 ⟨rfl, rfl⟩
  clear HRf
  go_wp2
  go_ret2
  exact ⟨rfl, rfl⟩
set_option maxRecDepth 100000 in
set_option maxHeartbeats 4000000 in
theorem drop_arg (h : PM w B A l d S L N) (below : Int) (ho : L.over = 0) (hb : below < 1 ∨ L.seg < below) :
    Calls Tryz.prog 31 #[.pointer (some ⟨l, 0, none⟩), .int .i64 below] w fun e w' => e = .returned (.tuple #[.bool false, .int .i64 2]) ∧ w' = w := by
  have HRf := hid8 (pmRefuses_any h)
  rw [ho] at HRf
  obtain ⟨⟨D, v, d1, d2, d3, d4⟩, hr⟩ := h
  obtain ⟨s1, s2, s3⟩ := d2.three
  have hll := d2.lt
  clear d1 d2 d3 d4 hr
  by_cases h1 : below < 1
  · have h1d : decide (below < 1) = true := by simpa using h1
    go_enter Tryz.func31, Tryz.ntmps31
    go_wp2_with fail
    refine HRf.out.mono ?_
    rintro e w1 ⟨rfl, rfl⟩
    clear HRf
    go_wp2
    go_ret2
    exact ⟨rfl, rfl⟩
  · have h2 : L.seg < below := by omega
    have h1d : decide (below < 1) = false := by simpa using h1
    have h2d : decide (L.seg < below) = true := by simpa using h2
    go_enter Tryz.func31, Tryz.ntmps31
    go_wp2_with fail
    refine HRf.out.mono ?_
    rintro e w1 ⟨rfl, rfl⟩
    clear HRf
    go_wp2
    go_ret2
    exact ⟨rfl, rfl⟩
set_option maxRecDepth 100000 in
set_option maxHeartbeats 8000000 in
theorem drop_none (h : PM w B A l d S L N) (below : Int) (ho : L.over = 0) (hb1 : 1 ≤ below) (hb2 : below ≤ L.seg) (hs : srt (segs S.P) = [] ∨ ∃ x r, srt (segs S.P) = x :: r ∧ below ≤ x) :
    Calls Tryz.prog 31 #[.pointer (some ⟨l, 0, none⟩), .int .i64 below] w fun e w' => e = .returned (.tuple #[.bool true, .int .i64 0]) ∧ Below w.heap.size w w' := by
  have HRf := hid8 (pmRefuses_any h)
  rw [ho] at HRf
  have hBw := h.bw
  have HH := hid8 h
  obtain ⟨⟨D, v, d1, d2, d3, d4⟩, hal, hAl, hBw', hg, ok⟩ := h
  obtain ⟨s1, s2, s3⟩ := d2.three
  have hll := d2.lt
  have HSG := hid8 (segmentsOn_any d1 hg hBw)
  have hsl := segs_len8 d1.inv
  have HD := hid8 d1
  have HL := hid8 d2
  have HW := hid8 d3
  have HDA := hid8 d4
  have HG := hid8 hg
  have HAL := hid8 hAl
  have HOK := hid8 ok
  have h1d : decide (below < 1) = false := by simp; omega
  have h2d : decide (L.seg < below) = false := by simp; omega
  have h1n : ¬ below < 1 := by omega
  have h2n : ¬ L.seg < below := by omega
  clear d1 d2 d3 d4 hAl hg ok hBw'
  go_enter Tryz.func31, Tryz.ntmps31
  go_wp2_with fail
  refine HRf.out.mono ?_
  rintro e w1 ⟨rfl, rfl⟩
  clear HRf
  go_wp2_with fail
  refine HSG.out.mono ?_
  rintro e w2 ⟨vs, rfl, hrow, hb2'⟩
  have hz2 := hb2'.size
  have HSO := hid8 (sort8_any hrow (by omega))
  have HB2 := hid8 hb2'
  clear HSG hrow hb2'
  go_wp2_with fail
  refine HSO.out.mono ?_
  rintro e w3 ⟨rfl, hrow, hgr⟩
  have hz3 := hgr.size
  have HB3 : Hid (Below w1.heap.size w1 w3) := hid8 (HB2.out.trans ⟨hgr.os, hgr.tape, hgr.output, hgr.size, fun k hk => hgr.block k (by omega) (fun e => by
    have := (World.ownsRow.lt hrow k e.symm).1
    omega)⟩)
  clear HSO hgr HB2
  rcases hs with hs | ⟨x, r, hs, hx⟩
  · rw [hs] at hrow
    have hv : vs = .slice none 0 0 ∨ ∃ g cap, vs = .slice (some ⟨g, 0, none⟩) 0 cap := by
      rcases hrow.2 with ⟨rfl, h0⟩ | ⟨g, cap, cur, rfl, -⟩
      · exact .inl rfl
      · exact .inr ⟨g, cap, rfl⟩
    clear hrow
    rcases hv with rfl | ⟨g, cap, rfl⟩
    · go_wp2
      go_ret2
      exact ⟨rfl, HB3.out⟩
    · go_wp2
      go_ret2
      exact ⟨rfl, HB3.out⟩
  · rw [hs] at hrow
    obtain ⟨g, cap, rfl, hg1, hg2, hc1, hc2, hc⟩ := hrow.at0
    have c0 := hc 0 x rfl
    have hxd : decide (below ≤ x) = true := by simpa using hx
    clear hrow hc
    go_wp2
    go_ret2
    exact ⟨rfl, HB3.out⟩
set_option maxRecDepth 100000 in
set_option maxHeartbeats 8000000 in
theorem drop_some (h : PM w B A l d S L N) (below : Int) (ho : L.over = 0) (hb1 : 1 ≤ below) (hb2 : below ≤ L.seg) {x : Int} {r : List Int} (hs : srt (segs S.P) = x :: r) (hx : x < below) (hx1 : 1 ≤ x) :
    Calls Tryz.prog 31 #[.pointer (some ⟨l, 0, none⟩), .int .i64 below] w fun e w' => e = .returned (.tuple #[.bool (decide ((S.del (nm8 x)).1 = 0) && (decide (r.length = 0) || decide (below ≤ r.getD 0 0))), .int .i64 (S.del (nm8 x)).1]) ∧ PM w' B (Land.more A w w') l d (S.del (nm8 x)).2 { L with over := (S.del (nm8 x)).1 } N ∧ Fr A w w' := by
  have HRf := hid8 (pmRefuses_any h)
  rw [ho] at HRf
  have hBw := h.bw
  have HH := hid8 h
  obtain ⟨⟨D, v, d1, d2, d3, d4⟩, hal, hAl, hBw', hg, ok⟩ := h
  obtain ⟨s1, s2, s3⟩ := d2.three
  have hll := d2.lt
  have HSG := hid8 (segmentsOn_any d1 hg hBw)
  have hsl := segs_len8 d1.inv
  have HD := hid8 d1
  have HL := hid8 d2
  have HW := hid8 d3
  have HDA := hid8 d4
  have HG := hid8 hg
  have HAL := hid8 hAl
  have HOK := hid8 ok
  have h1d : decide (below < 1) = false := by simp; omega
  have h2d : decide (L.seg < below) = false := by simp; omega
  have h1n : ¬ below < 1 := by omega
  have h2n : ¬ L.seg < below := by omega
  clear d1 d2 d3 d4 hAl hg ok hBw'
  generalize hR : S.del (nm8 x) = R
  have HR := hid8 hR
  clear hR
  obtain ⟨er, S1⟩ := R
  go_enter Tryz.func31, Tryz.ntmps31
  go_wp2_with fail
  refine HRf.out.mono ?_
  rintro e w1 ⟨rfl, rfl⟩
  clear HRf
  go_wp2_with fail
  refine HSG.out.mono ?_
  rintro e w2 ⟨vs, rfl, hrow, hb2'⟩
  have hz2 := hb2'.size
  have HSO := hid8 (sort8_any hrow (by omega))
  have HB2 := hid8 hb2'
  clear HSG hrow hb2'
  go_wp2_with fail
  refine HSO.out.mono ?_
  rintro e w3 ⟨rfl, hrow, hgr⟩
  have hz3 := hgr.size
  have HB3 : Hid (Below w1.heap.size w1 w3) := hid8 (HB2.out.trans ⟨hgr.os, hgr.tape, hgr.output, hgr.size, fun k hk => hgr.block k (by omega) (fun e => by
    have := (World.ownsRow.lt hrow k e.symm).1
    omega)⟩)
  clear HSO hgr HB2
  rw [hs] at hrow
  obtain ⟨g, cap, rfl, hg1, hg2, hc1, hc2, hc⟩ := hrow.at0
  have c0 := hc 0 x rfl
  have hxd : decide (below ≤ x) = false := by simpa using hx
  have hsz1 := HOK.out.s1
  have HNM := hid8 (nm8_max x (by omega) (by omega))
  have hgl : g ≠ l := by omega
  have bd := below_drew w3
  have HL3 := hid8 ((HL.out.below HB3.out).below bd)
  have HD3 := hid8 ((HD.out.below HB3.out).below bd)
  have HG3 := hid8 (HG.out.on ((HB3.out.mono hBw).trans (bd.mono (by omega))))
  obtain ⟨s1, s2, s3⟩ := (HL.out.below HB3.out).three
  have c1 : ∀ y r', r = y :: r' → w3.cell? ⟨g, 1, none⟩ = some (.int .i64 y) := fun y r' e => hc 1 y (by rw [e]; rfl)
  have hnD : Hid (¬ D l ∧ ¬ D g) := hid8 ⟨fun e => (HDA.out l e).2 rfl, fun e => by have := (HAL.out g (HDA.out g e).1).2; omega⟩
  have hll3 := HL3.out.lt
  clear hrow hc bd
  go_upto_region 10 with fail
  refine wp_region_noPanic ?_
  refine wp_region_held_drew (S := (fun u : World => u.cell? ⟨l, 0, none⟩ = some (.pointer (some ⟨d, 0, none⟩)) ∧ u.cell? ⟨g, 0, none⟩ = some (.int .i64 x))) (by kernel_rfl) (⟨s1, c0⟩) (fun hHeld => ?_)
  refine wpAnyH_take (i := 0) (oi := { dst := some 43, op := _, type := _, pos := _, after := _, guard := _ }) (v := ?_) rfl (by kernel_rfl) (by kernel_rfl) (by kernel_rfl) (fun _ _ _ h => h) (Or.inl ⟨by rfl, ?_⟩) (by assumption) ?_
  rotate_left 1
  · intro u hSw; obtain ⟨s1, s2⟩ := hSw; go_simp; try with_reducible rfl
  try simp only [Act.put, List.setIfInBounds_toArray, List.set_cons_zero, List.set_cons_succ]
  refine wpAnyH_take (i := 1) (oi := { dst := some 44, op := _, type := _, pos := _, after := _, guard := _ }) (v := ?_) rfl (by kernel_rfl) (by kernel_rfl) (by kernel_rfl) (fun _ _ _ h => h) (Or.inl ⟨by rfl, ?_⟩) (by assumption) ?_
  rotate_left 1
  · intro u hSw; obtain ⟨s1, s2⟩ := hSw; go_simp; try with_reducible rfl
  try simp only [Act.put, List.setIfInBounds_toArray, List.set_cons_zero, List.set_cons_succ]
  refine wpAnyH_take (i := 2) (oi := { dst := some 45, op := _, type := _, pos := _, after := _, guard := _ }) (v := ?_) rfl (by kernel_rfl) (by kernel_rfl) (by kernel_rfl) (fun _ _ _ h => h) (Or.inl ⟨by rfl, ?_⟩) (by assumption) ?_
  rotate_left 1
  · intro u hSw; obtain ⟨s1, s2⟩ := hSw; go_simp; try with_reducible rfl
  try simp only [Act.put, List.setIfInBounds_toArray, List.set_cons_zero, List.set_cons_succ]
  refine wpAnyH_take (i := 3) (oi := { dst := some 46, op := _, type := _, pos := _, after := _, guard := _ }) (v := ?_) rfl (by kernel_rfl) (by kernel_rfl) (by kernel_rfl) (fun _ _ _ h => h) (Or.inl ⟨by rfl, ?_⟩) (by assumption) ?_
  rotate_left 1
  · intro u hSw; obtain ⟨s1, s2⟩ := hSw; go_simp; try with_reducible rfl
  try simp only [Act.put, List.setIfInBounds_toArray, List.set_cons_zero, List.set_cons_succ]
  refine wpAnyH_take (i := 4) (oi := { dst := some 47, op := _, type := _, pos := _, after := _, guard := _ }) (v := ?_) rfl (by kernel_rfl) (by kernel_rfl) (by kernel_rfl) (fun _ _ _ h => h) (Or.inl ⟨by rfl, ?_⟩) (by assumption) ?_
  rotate_left 1
  · intro u hSw; obtain ⟨s1, s2⟩ := hSw; go_simp; try with_reducible rfl
  try simp only [Act.put, List.setIfInBounds_toArray, List.set_cons_zero, List.set_cons_succ]
  refine wpAnyH_take (i := 5) (oi := { dst := some 48, op := _, type := _, pos := _, after := _, guard := _ }) (v := ?_) rfl (by kernel_rfl) (by kernel_rfl) (by kernel_rfl) (fun _ _ _ h => h) (Or.inl ⟨by rfl, ?_⟩) (by assumption) ?_
  rotate_left 1
  · intro u hSw; obtain ⟨s1, s2⟩ := hSw; go_simp; try with_reducible rfl
  try simp only [Act.put, List.setIfInBounds_toArray, List.set_cons_zero, List.set_cons_succ]
  refine wpAnyH_take (i := 6) (oi := { dst := some 49, op := _, type := _, pos := _, after := _, guard := _ }) (v := ?_) rfl (by kernel_rfl) (by kernel_rfl) (by kernel_rfl) (fun _ _ _ h => h) (Or.inl ⟨by rfl, ?_⟩) (by assumption) ?_
  rotate_left 1
  · intro u hSw; obtain ⟨s1, s2⟩ := hSw; go_simp; try with_reducible rfl
  try simp only [Act.put, List.setIfInBounds_toArray, List.set_cons_zero, List.set_cons_succ]
  refine wpAnyH_take (i := 7) (oi := { dst := some 50, op := _, type := _, pos := _, after := _, guard := _ }) (v := ?_) rfl (by kernel_rfl) (by kernel_rfl) (by kernel_rfl) (fun _ _ _ h => h) (Or.inl ⟨by rfl, ?_⟩) (by assumption) ?_
  rotate_left 1
  · intro u hSw; obtain ⟨s1, s2⟩ := hSw; go_simp; try with_reducible rfl
  try simp only [Act.put, List.setIfInBounds_toArray, List.set_cons_zero, List.set_cons_succ]
  refine wpAnyH_take (i := 8) (oi := { dst := some 51, op := _, type := _, pos := _, after := _, guard := _ }) (v := ?_) rfl (by kernel_rfl) (by kernel_rfl) (by kernel_rfl) (fun _ _ _ h => h) (Or.inl ⟨by rfl, ?_⟩) (by assumption) ?_
  rotate_left 1
  · intro u hSw; obtain ⟨s1, s2⟩ := hSw; go_simp; try with_reducible rfl
  try simp only [Act.put, List.setIfInBounds_toArray, List.set_cons_zero, List.set_cons_succ]
  refine wpAnyH_ready (rs := [9]) (by kernel_rfl) (by simp) ?_
  refine AllReadyH.cons (o := { dst := some 52, op := _, type := _, pos := _, after := _, guard := _ }) rfl (fun K hK => ?_) AllReadyH.nil
  go_simp
  refine (name_any HG3.out x (by omega) (by omega)).mono ?_
  rintro e w4 ⟨rfl, hb4⟩
  have hz4 : w3.heap.size ≤ w4.heap.size := hb4.size
  have HB4 := hid8 hb4
  clear hb4
  go_wp2_with fail
  refine hK.out _ _ (⟨(HL3.out.below HB4.out).three.1, (HB4.out.cell (p := ⟨g, 0, none⟩) hg2).trans c0⟩) (fun hHeld => ?_)
  clear hK K
  try simp only [Act.put, List.setIfInBounds_toArray, List.set_cons_zero, List.set_cons_succ]
  refine wpAnyH_ready (rs := [10]) (by kernel_rfl) (by simp) ?_
  refine AllReadyH.cons (o := { dst := some 53, op := _, type := _, pos := _, after := _, guard := _ }) rfl (fun K hK => ?_) AllReadyH.nil
  go_simp
  have HDE := hid8 (dv_delete (HD3.out.below HB4.out) (nm8 x) HNM.out)
  rw [HR.out] at HDE
  refine HDE.out.mono ?_
  rintro e w5 ⟨rfl, hd5, hf5⟩
  have HD5 := hid8 hd5
  have HF5 := hid8 hf5
  have HL5 := hid8 ((HL3.out.below HB4.out).fr hf5 hnD.out.1)
  have hz5 : w4.heap.size ≤ w5.heap.size := hf5.size
  clear hd5 hf5 HDE
  go_wp2_with fail
  refine hK.out _ _ (⟨HL5.out.three.1, (HF5.out.cell (p := ⟨g, 0, none⟩) (by show g < _; omega) hnD.out.2).trans ((HB4.out.cell (p := ⟨g, 0, none⟩) hg2).trans c0)⟩) (fun hHeld => ?_)
  clear hK K
  try simp only [Act.put, List.setIfInBounds_toArray, List.set_cons_zero, List.set_cons_succ]
  refine wpAnyH_ready (rs := [11]) (by kernel_rfl) (by simp) ?_
  refine AllReadyH.cons (o := { dst := some 54, op := _, type := _, pos := _, after := _, guard := _ }) rfl (fun K hK => ?_) AllReadyH.nil
  go_simp
  refine (walNote_any HL5.out er).mono ?_
  rintro e w6 ⟨rfl, hl6, hf6⟩
  have HL6 := hid8 hl6
  have HF6 := hid8 hf6
  have hz6 : w5.heap.size ≤ w6.heap.size := hf6.size
  clear hl6 hf6
  go_wp2_with fail
  refine hK.out _ _ (⟨HL6.out.three.1, (HF6.out.cell (p := ⟨g, 0, none⟩) (by show g < _; omega) hgl).trans ((HF5.out.cell (p := ⟨g, 0, none⟩) (by show g < _; omega) hnD.out.2).trans ((HB4.out.cell (p := ⟨g, 0, none⟩) hg2).trans c0))⟩) (fun hHeld => ?_)
  clear hK K
  try simp only [Act.put, List.setIfInBounds_toArray, List.set_cons_zero, List.set_cons_succ]
  refine wpAnyH_take (i := 12) (oi := { dst := some 8, op := _, type := _, pos := _, after := _, guard := _ }) (v := ?_) rfl (by kernel_rfl) (by kernel_rfl) (by kernel_rfl) (fun _ _ _ h => h) (Or.inl ⟨by rfl, ?_⟩) (by assumption) ?_
  rotate_left 1
  · intro u hSw; obtain ⟨s1, s2⟩ := hSw; go_simp; try with_reducible rfl
  try simp only [Act.put, List.setIfInBounds_toArray, List.set_cons_zero, List.set_cons_succ]
  refine wpAnyH_done (by kernel_rfl) ?_ _
  refine NoPanic.normal ?_
  have HFF : Hid (Fr (fun j => D j ∨ j = l) w1 w6) := hid8 ((((Fr.below HB3.out : Fr (fun j => D j ∨ j = l) w1 w3).trans ((Fr.refl _ w3).drewN 1) (fun j e => .inl e)).trans (Fr.below HB4.out) (fun j e => .inl e)).trans (HF5.out.mono fun j _ e => Or.inl e) (fun j e => .inl e) |>.trans (HF6.out.mono fun j _ e => Or.inr e) (fun j e => .inl e))
  have HPM : Hid (PM w6 B (Land.more A w1 w6) l d S1 { L with over := er } N) := hid8 (by
    have hdl := HD5.out
    refine PM.put HAL.out hBw hal HG.out HDA.out (D := D) ?_ HL6.out (HW.out.over (fun j hj => (HAL.out j hj).2) HFF.out) (HFF.out.mono fun j _ e => e.elim (fun e => (HDA.out j e).1) (fun e => by rw [e]; exact hal)) ?_
    · refine (hdl.keep HF6.out (fun j hj e => ?_)).mono (fun j hj => ?_) (more_lt HD.out.lt (by omega))
      · rcases hj with hj | hj
        · rw [e] at hj; exact hnD.out.1 hj
        · have := hj.1; omega
      · rcases hj with hj | hj
        · exact .inl hj
        · exact .inr ⟨by have := hj.1; omega, by have := hj.2; omega⟩
    · have hdn : S.P.n ≤ S1.P.n := by
        have := del_n8 S (nm8 x)
        rw [HR.out] at this
        exact this
      exact ⟨HOK.out.s0, HOK.out.s1, fun _ => by have := HOK.out.s2 ho; show L.seg ≤ _; omega, HOK.out.q, HOK.out.st, HOK.out.n, HOK.out.big, HOK.out.okb⟩)
  have HFA : Hid (Fr A w1 w6) := hid8 (HFF.out.mono fun j _ e => e.elim (fun e => (HDA.out j e).1) (fun e => by rw [e]; exact hal))
  have HC1 : Hid (∀ y r', r = y :: r' → w6.cell? ⟨g, 1, none⟩ = some (.int .i64 y)) := hid8 (fun y r' e => (HF6.out.cell (p := ⟨g, 1, none⟩) (by show g < _; omega) hgl).trans ((HF5.out.cell (p := ⟨g, 1, none⟩) (by show g < _; omega) hnD.out.2).trans ((HB4.out.cell (p := ⟨g, 1, none⟩) hg2).trans (c1 y r' e))))
  clear HD5 HF5 HL5 HL6 HF6 HFF HD3 HL3 HG3 HB4 c1 s1 s2 s3 c0
  by_cases her : er = 0
  · subst her
    cases r with
    | nil =>
      go_wp2
      go_ret2
      exact ⟨by simp, HPM.out, HFA.out⟩
    | cons y r' =>
      have c1 := HC1.out y r' rfl
      have hlen : ¬ ((r'.length : Int) + 1 + 1 = 1) := by omega
      clear HC1
      by_cases hy : below ≤ y
      · have hyd : decide (below ≤ y) = true := by simpa using hy
        go_wp2
        go_ret2
        exact ⟨by simp [hy, hlen], HPM.out, HFA.out⟩
      · have hyd : decide (below ≤ y) = false := by simpa using hy
        go_wp2
        go_ret2
        exact ⟨by simp [hy, hlen], HPM.out, HFA.out⟩
  · have hxb : (er == 0) = false := by simpa using her
    have hxn : (er != 0) = true := by simpa using her
    go_wp2
    go_ret2
    exact ⟨by simp [her], HPM.out, HFA.out⟩
theorem walDrop_any (h : PM w B A l d S L N) (below : Int) :
    Calls Tryz.prog 31 #[.pointer (some ⟨l, 0, none⟩), .int .i64 below] w fun e w' => e = .returned (.tuple #[.bool (L.drop S below).1.1, .int .i64 (L.drop S below).1.2]) ∧ PM w' B (Land.more A w w') l d (L.drop S below).2.2 (L.drop S below).2.1 N ∧ Fr A w w' := by
  have hP : S.P.inv := by
    obtain ⟨⟨D, v, d1, d2, d3, d4⟩, hr⟩ := h
    exact d1.inv
  have h1 : ∀ n ∈ segs S.P, 1 ≤ n := fun n hn => segs_iff8 hP hn
  unfold Lg.drop
  by_cases ho : L.over = 0
  · rw [if_neg (by rw [ho]; simp)]
    by_cases hb : below < 1 ∨ L.seg < below
    · rw [if_pos hb]
      refine (drop_arg h below ho hb).mono ?_
      rintro e w' ⟨rfl, rfl⟩
      exact ⟨rfl, h.stay, Fr.refl _ _⟩
    · rw [if_neg hb]
      have els : least S.P below = lst (segs S.P) below := rfl
      rw [els]
      rcases hs : srt (segs S.P) with _ | ⟨x, r⟩
      · rw [if_pos (lst_none (.inl hs))]
        refine (drop_none h below ho (by omega) (by omega) (.inl hs)).mono ?_
        rintro e w' ⟨rfl, hb'⟩
        refine ⟨rfl, (h.below hb').mono (fun j hj => .inl hj) (fun j hj => ?_), Fr.below hb'⟩
        rcases hj with hj | hj
        · exact ⟨(h.lo j hj).1, Nat.lt_of_lt_of_le (h.lo j hj).2 hb'.size⟩
        · exact ⟨by have := h.bw; have := hj.1; omega, hj.2⟩
      · by_cases hx : x < below
        · have hx1 := h1 x (srt_min hs).1
          rw [lst_some h1 hs hx, if_neg (by omega), lst_count hs hx]
          exact drop_some h below ho (by omega) (by omega) hs hx hx1
        · rw [if_pos (lst_none (.inr ⟨x, r, hs, by omega⟩))]
          refine (drop_none h below ho (by omega) (by omega) (.inr ⟨x, r, hs, by omega⟩)).mono ?_
          rintro e w' ⟨rfl, hb'⟩
          refine ⟨rfl, (h.below hb').mono (fun j hj => .inl hj) (fun j hj => ?_), Fr.below hb'⟩
          rcases hj with hj | hj
          · exact ⟨(h.lo j hj).1, Nat.lt_of_lt_of_le (h.lo j hj).2 hb'.size⟩
          · exact ⟨by have := h.bw; have := hj.1; omega, hj.2⟩
  · rw [if_pos ho]
    refine (drop_over h below ho).mono ?_
    rintro e w' ⟨rfl, rfl⟩
    exact ⟨rfl, h.stay, Fr.refl _ _⟩
end
end Go.Proofs.YtgifcgniphncdaaGreatDoor

/-
  What is told from some segment on; segments that are dropped. No program in sight.
-/
set_option linter.unusedVariables false
set_option linter.unusedSimpArgs false
namespace Go.Proofs.YtgifcgniphncdaaGreatDoor
open Go.RowKit Go.Maps

theorem left_none {L : Lg} (h3 : L.step ≤ 3) (h : leftF L = 0) : L.step = 0 ∧ L.wait = [] := by
  unfold leftF at h
  constructor
  · split at h
    · assumption
    · omega
  · refine List.eq_nil_of_length_eq_zero ?_
    split at h <;> split at h <;> omega
section
variable {m T M Z : Nat} {K : Int} {L : Lg} {S : Dsk} {pu : List Cm}
/-- At rest: what lies on the disk, and what is read of it. -/
theorem Up9.rest (h : Up9 m L S pu T M K Z) (h0 : leftF L = 0) (hM : M < 18446744073709551616) : ∃ Cs R, Wl S.P 1 Cs ∧ Cs.length ≤ T ∧ m + 1 ≤ Cs.length ∧ L.seg = Cs.length ∧ Chain (1 + m) ⟨false, 0, []⟩ (Cs.drop m) R ∧ R.cs = pu ∧ R.next ≤ M ∧ S.P.log = [] ∧ (∀ x ∈ Cs, x.2 = x.1.length) ∧ S.up ∧ L.over = 0 ∧ S.P.n ≤ K := by
  obtain ⟨C0, R, q, B, ks, wc, j, g2⟩ := h
  obtain ⟨s0, w0⟩ := left_none g2.st h0
  have z1 := g2.z s0
  have hwl := g2.wl
  have hsq := g2.seq
  have hbd := g2.bd
  have hm := g2.ml
  have hwc : wc = [] := by
    have := g2.wt
    rw [w0] at this
    exact List.map_eq_nil_iff.1 this.symm
  rw [z1, live_all] at hwl
  have hsr : SegR (fras q (fstB (1 + C0.length) :: B)) (1 + C0.length) R (some ⟨true, (q + (B.length + 1)) % 18446744073709551616, R.cs ++ ks⟩) := segR_clean (by omega) (by omega) g2.hq g2.ok g2.cm
  rw [Nat.mod_eq_of_lt (by omega)] at hsr
  refine ⟨_, ⟨true, q + (B.length + 1), R.cs ++ ks⟩, hwl, by simpa using g2.t, by simp; omega, by rw [g2.seg, List.length_append, List.length_singleton]; push_cast; omega, ?_, by rw [g2.all, hwc]; simp, by simp only; omega, g2.log, fun x hx => ?_, g2.up, g2.over, g2.n⟩
  · rw [List.drop_append_of_le_length hm]
    refine chain_snoc g2.ch ?_
    rw [show (1 : Int) + m + ((C0.drop m).length : Int) = 1 + C0.length by rw [List.length_drop]; omega]
    exact hsr
  · rcases List.mem_append.1 hx with hx | hx
    · exact g2.syn x hx
    · simp only [List.mem_singleton] at hx
      rw [hx]
/-- Seen from the segment that is written. -/
theorem Up9.conv (h : Up9 m L S pu T M K Z) (h0 : leftF L = 0) : ∃ (k : Nat) (ks : List Cm), L.seg = 1 + k ∧ ks.length ≤ pu.length ∧ Up9 k L S ks T M K Z := by
  obtain ⟨C0, R, q, B, ks, wc, j, g2⟩ := h
  obtain ⟨s0, w0⟩ := left_none g2.st h0
  have hwc : wc = [] := by
    have := g2.wt
    rw [w0] at this
    exact List.map_eq_nil_iff.1 this.symm
  refine ⟨C0.length, ks, g2.seg, by rw [g2.all]; simp; omega, C0, ⟨false, 0, []⟩, q, B, ks, wc, j, { g2 with ml := Nat.le_refl _, ch := ?_, hq := (fun e => by cases e), all := ?_ }⟩
  · rw [List.drop_length]
    exact rfl
  · rw [hwc]; simp
end
/-- What Open answers of a disk that is read, from the segment behind k others on. -/
theorem open_from {S S' : Dsk} {f : Int} {Cs : List (List Int × Nat)} {k : Nat} {R : Rdr} {er : Int} {x : Option (Lg × List Cm)} (hu : S.up) (h : Wl S.P f Cs) (hk : k ≤ Cs.length) (hf : f + k ≤ 1073741824) (hc : Chain (f + k) ⟨false, 0, []⟩ (Cs.drop k) R) (hn : S.P.n + 3 ≤ 65536) (h64 : Cs.length < 64) (ho : OpenR S (f + k) er x S') :
    er = 0 ∧ x = some (Lg.new (f + Cs.length) R.next, R.cs) ∧ S' = (beg S (f + Cs.length) R.next).2 := by
  have hr := chain_rds h k ⟨false, 0, []⟩ R hk hc
  have hf1 := h.f1
  have hb := beg_up hu h R.next hn h64 (by omega)
  have hg := h.nogap (f + k) (by omega)
  cases ho with
  | arg h1 => omega
  | off _ _ h1 => rw [hu.2] at h1; cases h1
  | gap _ _ _ h1 => rw [hg] at h1; cases h1
  | bad _ _ _ _ h1 => cases rds_det hr h1
  | err _ _ _ _ h1 h2 =>
    have := rds_det hr h1
    simp only [Option.some.injEq, Prod.mk.injEq] at this
    obtain ⟨rfl, rfl⟩ := this
    exact absurd hb.1 h2
  | ok _ _ _ _ h1 h2 =>
    have := rds_det hr h1
    simp only [Option.some.injEq, Prod.mk.injEq] at this
    obtain ⟨rfl, rfl⟩ := this
    exact ⟨rfl, rfl, rfl⟩
/-- The first segment is deleted. -/
theorem Wl.del {P : PD} {f : Int} {x : List Int × Nat} {Cs : List (List Int × Nat)} (h : Wl P f (x :: Cs)) (hn : P.n < 65536) :
    (P.del (nm8 f)).1 = 0 ∧ Wl (P.del (nm8 f)).2 (f + 1) Cs ∧ (P.del (nm8 f)).2.n = P.n + 1 := by
  have hinv := inv_del h.inv (nm8 f)
  obtain ⟨ρ, hρ, hj⟩ := h.ex
  have h0 := (hρ 0 x rfl).1
  rw [show f + ((0 : Nat) : Int) = f by simp] at h0
  have hnm : isName (nm8 f) = true := by have := h.nm 0 (Nat.zero_le _); simpa using this
  have hc : pcode (isName (nm8 f)) (plook (kl (nm8 f)) P.now) P.n = 0 := by
    unfold pcode
    rw [hnm, h0]
    simp
    omega
  have e : P.del (nm8 f) = (0, { P with log := P.log ++ [.del (nm8 f)], n := P.n + 1 }) := by unfold PD.del; rw [if_pos hc]
  rw [e] at hinv ⊢
  have hnow : PD.now { P with log := P.log ++ [.del (nm8 f)], n := P.n + 1 } = pdel (kl (nm8 f)) P.now := by
    show pruns (P.log ++ [_]) P.old = _
    rw [pruns_snoc]
    rfl
  have htx := h.inv.now.txt
  have hf1 := h.f1
  have hfm := h.fm
  rw [List.length_cons] at hfm
  have hne : ∀ i : Nat, nm8 f ≠ nm8 (f + 1 + i) := fun i e => by
    have := nm8_inj (by omega) e (by omega)
    omega
  refine ⟨rfl, ⟨hinv, by omega, by push_cast at hfm; omega, ⟨fun i => ρ (i + 1), fun i y hi => ?_, fun a b ha hb e => ?_⟩, fun s i hs => ?_, ?_⟩, rfl⟩
  · obtain ⟨g1, g2⟩ := hρ (i + 1) y (by simpa using hi)
    rw [show f + ((i + 1 : Nat) : Int) = f + 1 + i by push_cast; omega] at g1
    rw [hnow, look_del_ne (hne i) _ htx]
    exact ⟨g1, g2⟩
  · have := hj (a + 1) (b + 1) (by simp; omega) (by simp; omega) e
    omega
  · rw [hnow] at hs
    by_cases hsn : nm8 f = s
    · rw [← hsn, look_del_same _ htx] at hs
      cases hs
    · rw [look_del_ne hsn _ htx] at hs
      obtain ⟨k, hk, e2⟩ := h.only s i hs
      cases k with
      | zero => exact absurd (by rw [e2]; simp) hsn
      | succ k => exact ⟨k, by simpa using hk, by rw [e2]; congr 1; push_cast; omega⟩
  · rw [hnow]
    have hcn := h.cnt
    rw [List.length_cons] at hcn
    obtain ⟨p, hp, -, hk⟩ := look_mem h0
    obtain ⟨t, et⟩ := htx p hp
    have hkey : p.1 = kl (nm8 f) := by
      rw [et, same_kl] at hk
      simp only [decide_eq_true_eq] at hk
      rw [et, hk]
    have hlt : (pdel (kl (nm8 f)) P.now).length < P.now.length := by
      unfold pdel
      refine List.length_filter_lt_length_iff_exists.2 ⟨p, hp, ?_⟩
      rw [hkey, same_kl]
      simp
    omega
/-- How many of the first are gone; the others are as they were. -/
structure Dr (k m : Nat) (Cs : List (List Int × Nat)) (K : Int) (L : Lg) (S : Dsk) : Prop where
  up : S.up
  over : L.over = 0
  n : S.P.n ≤ K
  wl : Wl S.P (1 + k) (Cs.drop k)
  km : k ≤ m
  ml : m + 1 ≤ Cs.length
  seg : L.seg = Cs.length
section
variable {k m : Nat} {Cs : List (List Int × Nat)} {K : Int} {L : Lg} {S : Dsk}
theorem two_mem {l : List Int} {a b : Int} (hab : a ≠ b) (ha : a ∈ l) (hb : b ∈ l) : 2 ≤ l.length := by
  match l, ha, hb with
  | [c], ha, hb =>
    simp only [List.mem_singleton] at ha hb
    exact absurd (ha.trans hb.symm) hab
  | _ :: _ :: _, _, _ => simp
theorem Dr.drop (h : Dr k m Cs K L S) (hK : K < 65536) : ∃ (b : Bool) (k' : Nat), (L.drop S (1 + m)).1 = (b, 0) ∧ Dr k' m Cs (K + 1) (L.drop S (1 + m)).2.1 (L.drop S (1 + m)).2.2 ∧ (b = true → k' = m) ∧ (b = false → k' = k + 1) := by
  have hkm := h.km
  have hml := h.ml
  have hsg := h.seg
  have hn := h.n
  have hin := h.wl.inv
  have h1 : ∀ n ∈ segs S.P, 1 ≤ n := fun n hn => segs_iff8 hin hn
  have hmem : ∀ n, n ∈ segs S.P ↔ 1 + (k : Int) ≤ n ∧ n < 1 + (Cs.length : Int) := fun n => by
    rw [h.wl.segs, List.length_drop]
    omega
  unfold Lg.drop
  rw [if_neg (by rw [h.over]; simp), if_neg (by omega)]
  have els : least S.P (1 + m) = lst (segs S.P) (1 + m) := rfl
  rw [els]
  have hmin : ∃ r, srt (segs S.P) = (1 + (k : Int)) :: r := by
    rcases hs : srt (segs S.P) with _ | ⟨x, r⟩
    · have := (srt_perm (segs S.P)).mem_iff.2 ((hmem (1 + k)).2 ⟨Int.le_refl _, by omega⟩)
      rw [hs] at this
      cases this
    · obtain ⟨m1, m2⟩ := srt_min hs
      have a1 := (hmem x).1 m1
      have a2 := m2 (1 + k) ((hmem (1 + k)).2 ⟨Int.le_refl _, by omega⟩)
      exact ⟨r, by rw [show x = 1 + (k : Int) by omega]⟩
  obtain ⟨r, hs⟩ := hmin
  by_cases hk : k = m
  · rw [if_pos (lst_none (.inr ⟨_, r, hs, by omega⟩))]
    exact ⟨true, k, rfl, ⟨h.up, h.over, by show S.P.n ≤ K + 1; omega, h.wl, hkm, hml, hsg⟩, fun _ => hk, fun e => by cases e⟩
  · rw [lst_some h1 hs (by omega), if_neg (by omega)]
    have hkl : k < Cs.length := by omega
    have hwl := h.wl
    rw [List.drop_eq_getElem_cons hkl] at hwl
    obtain ⟨d1, d2, d3⟩ := hwl.del (by omega)
    have ego : S.del (nm8 (1 + k)) = ((S.P.del (nm8 (1 + k))).1, ⟨(S.P.del (nm8 (1 + k))).2, S.c, false⟩) := on_go (h.up.on _) _
    rw [ego]
    simp only [d1]
    refine ⟨_, k + 1, rfl, ⟨⟨h.up.1, rfl⟩, rfl, by show (S.P.del (nm8 (1 + k))).2.n ≤ K + 1; rw [d3]; omega, ?_, by omega, hml, hsg⟩, fun e => ?_, fun _ => rfl⟩
    · rw [show (1 : Int) + ((k + 1 : Nat) : Int) = 1 + (k : Int) + 1 by push_cast; omega]
      exact d2
    · simp only [decide_true, Bool.true_and, decide_eq_true_eq] at e
      by_cases hkk : k + 1 = m
      · exact hkk
      · have := two_mem (l := (segs S.P).filter fun n => decide (n < 1 + (m : Int))) (a := 1 + k) (b := 1 + k + 1) (by omega) (List.mem_filter.2 ⟨(hmem _).2 ⟨by omega, by omega⟩, by simp; omega⟩) (List.mem_filter.2 ⟨(hmem _).2 ⟨by omega, by omega⟩, by simp; omega⟩)
        omega
end
end Go.Proofs.YtgifcgniphncdaaGreatDoor

/-
  Around WalDrops: opening, flushing, what is told as the beginning of what is put.
-/
set_option linter.unusedVariables false
set_option linter.unusedSimpArgs false
namespace Go.Proofs.YtgifcgniphncdaaGreatDoor
open Go.RowKit Go.Maps

section
variable {w : World} {B : Nat} {D : Nat → Prop} {d : Nat} {S : Dsk}
theorem open9_new (hD : DV w D d ⟨PD.new, -1, false⟩) (hDB : ∀ j, D j → B ≤ j) (hB : B ≤ w.heap.size) (hg : Gl B w) :
    Calls Tryz.prog 17 #[.pointer (some ⟨d, 0, none⟩), .int .i64 1] w fun e w' => ∃ L S' l ao cap A, e = .returned (.tuple #[.pointer (some ⟨l, 0, none⟩), .slice ao 0 cap, .int .i64 0]) ∧ PM w' B A l d S' L 0 ∧ Fr D w w' ∧ Up9 0 L S' [] 1 1 3 96 := by
  refine (walOpen_any hD hDB hB hg 1).mono ?_
  rintro e w' ⟨er, x, S', hop, hf, hres⟩
  have hw : Wl PD.new 1 [] := wl_new 1 (by decide) (by decide)
  have hu : Dsk.up ⟨PD.new, -1, false⟩ := ⟨rfl, rfl⟩
  obtain ⟨e1, e2, e3⟩ := open_chain (R := ⟨false, 0, []⟩) hu hw (by decide) rfl (by show (0 : Int) + 3 ≤ 65536; decide) (by decide) hop
  obtain ⟨b1, b2, b3, b4, b5⟩ := beg_up (S := ⟨PD.new, -1, false⟩) hu hw 0 (by show (0 : Int) + 3 ≤ 65536; decide) (by decide) (by decide)
  subst e1 e2 e3
  rcases hres with ⟨h, -⟩ | ⟨L, cs, l, vc, A, C, hx, rfl, hpm, hcr, hA, hC⟩
  · cases h
  simp only [Option.some.injEq, Prod.mk.injEq] at hx
  obtain ⟨rfl, rfl⟩ := hx
  obtain ⟨av, cv, rfl⟩ := hcr.len
  refine ⟨_, _, l, av, cv, A, rfl, hpm, hf, [], ⟨false, 0, []⟩, 0, [], [], [], 1, ?_⟩
  have e : live 1 0 [] 1 = (fra 0 (fstB 1), (fra 0 (fstB 1)).length) := by
    have := live_all 1 0 []
    rw [fras_one] at this
    exact this
  refine ⟨b5, rfl, by rw [b3]; show (0 : Int) + 3 ≤ 3; decide, ?_, (fun x hx => by cases hx), b4, Nat.le_refl _, rfl, (fun e => by cases e), rfl, (fun b hb => by cases hb), rfl, rfl, (fun c hc => by cases hc), rfl, rfl, by show 1 + 0 ≤ 1; decide, Nat.zero_le _, by simp, (fun _ => rfl), Nat.le_refl _, ?_, Nat.le_refl _⟩
  · show Wl _ 1 [live (1 + ((0 : Nat) : Int)) 0 [] 1]
    rw [show (1 : Int) + ((0 : Nat) : Int) = 1 by decide, e]
    exact b2
  · show eo [fstB (1 + ((0 : Nat) : Int))] + 6752 * 0 + 0 ≤ 96
    simp only [eo]
    have := fstB_len (1 + ((0 : Nat) : Int))
    unfold nb
    omega
theorem openF_any {f : Int} {Cs : List (List Int × Nat)} {k : Nat} {R : Rdr} (hD : DV w D d S) (hDB : ∀ j, D j → B ≤ j) (hB : B ≤ w.heap.size) (hg : Gl B w) (hu : S.up) (h : Wl S.P f Cs) (hk : k ≤ Cs.length) (hf : f + k ≤ 1073741824) (hc : Chain (f + k) ⟨false, 0, []⟩ (Cs.drop k) R) (hn : S.P.n + 3 ≤ 65536) (h64 : Cs.length < 64) (hf2 : f + Cs.length + 1 ≤ 2147483647) :
    Calls Tryz.prog 17 #[.pointer (some ⟨d, 0, none⟩), .int .i64 (f + k)] w fun e w' => ∃ S' l vc C D', e = .returned (.tuple #[.pointer (some ⟨l, 0, none⟩), vc, .int .i64 0]) ∧ CRow w' C vc R.cs ∧ (∀ j, C j → w.heap.size ≤ j ∧ j < w'.heap.size) ∧ Fr D w w' ∧ DV w' D' d S' ∧ ∃ Cs', Wl S'.P f Cs' := by
  refine (walOpen_any hD hDB hB hg (f + k)).mono ?_
  rintro e w' ⟨er, x, S', hop, hfr, hres⟩
  obtain ⟨e1, e2, e3⟩ := open_from hu h hk hf hc hn h64 hop
  obtain ⟨b1, b2, b3, b4, b5⟩ := beg_up hu h R.next hn h64 hf2
  subst e1 e2 e3
  rcases hres with ⟨h, -⟩ | ⟨L', cs, l, vc, A, C, hx, rfl, hpm, hcr, hA, hC⟩
  · cases h
  simp only [Option.some.injEq, Prod.mk.injEq] at hx
  obtain ⟨rfl, rfl⟩ := hx
  obtain ⟨⟨D', v, d1, d2, d3, d4⟩, hr⟩ := hpm
  exact ⟨_, l, vc, C, D', rfl, hcr, fun j hj => ⟨(hC j hj).1, (hC j hj).2.1⟩, hfr, d1, _, b2⟩
end
set_option maxRecDepth 100000 in
set_option maxHeartbeats 2000000 in
theorem flush9_any {w : World} {B : Nat} {Y : Nat → Prop} {l d : Nat} {v : Value} {p : Py} (h : Pz w B Y l d v p) {m T M Z : Nat} {K : Int} (hu : Up9 m p.L p.S p.put T M K Z) (hK : K + 10 < 65536) (hZ : Z ≤ 262144) (hM : M + 10 < 18446744073709551616) :
    Calls Tryz.prog 25 #[.pointer (some ⟨l, 0, none⟩)] w fun e w' => e = .returned (.bool true) ∧ ∃ L' S', Pz w' B Y l d v ⟨L', S', p.put, p.many, p.turns, p.N⟩ ∧ Up9 m L' S' p.put T (M + 10) (K + 10) Z ∧ leftF L' = 0 ∧ L'.seg = p.L.seg ∧ Below B w w' := by
  have h7 := left_7 hu.st
  have HH := hid8 h
  have HU := hid8 hu
  clear h hu
  go_enter Tryz.func25, Tryz.ntmps25
  go_wp2
  go_loopw [3, 4, 5] (fun i _ _ wr => ∃ (k : Nat) (L' : Lg) (S' : Dsk), k ≤ 10 ∧ i = .int .i64 (k : Int) ∧ leftF L' + k ≤ 7 ∧ Pz wr B Y l d v ⟨L', S', p.put, p.many, p.turns, p.N⟩ ∧ Up9 m L' S' p.put T (M + k) (K + k) Z ∧ L'.seg = p.L.seg ∧ Below B w wr) (fun i _ _ _ => 10 - (intOf i).toNat)
  case atStart => exact ⟨0, p.L, p.S, by omega, rfl, by omega, HH.out, HU.out.mono (Nat.le_refl _) (Nat.le_refl _) (by simp) (Nat.le_refl _), rfl, Below.refl _ _⟩
  case round =>
    clear HH HU
    obtain ⟨k, L', S', hk, rfl, hlk, hp, hu, hsg, hb⟩ := hrel
    obtain ⟨wR, hwR⟩ : ∃ x, x = wr := ⟨_, rfl⟩
    subst hwR
    have hk3 : (k : Int) < 10 := by omega
    have HF2 := hid8 (hu.flush (by omega) hZ (by omega))
    have HF1 := hid8 HF2.out.1
    have HP := hid8 hp
    have HB := hid8 hb
    obtain ⟨A, hpm, hA⟩ := hp.it
    have HFl := hid8 (walFlush_any hpm)
    have HBL := hid8 (fun (w' : World) (F : Fr A wR w') => hpm.bel F)
    have HAA := hid8 hA
    clear hp hb hpm hA hu
    have ea := HF2.out.2.1
    have HSG : Hid (((L'.flush S').2.1).seg = p.L.seg) := hid8 (HF2.out.2.2.2.trans hsg)
    have hl2 := HF2.out.2.2.1
    simp only at HFl
    rw [ea] at HFl
    generalize hq : L'.flush S' = q at HFl HF1 HSG hl2
    obtain ⟨qa, L2, S2⟩ := q
    simp only at HFl HF1 HSG hl2
    clear HF2 hq ea
    by_cases hz : leftF L2 = 0
    · have hzd : decide (leftF L2 = 0) = true := by simpa using hz
      rw [hzd] at HFl
      go_wp2_with fail
      refine HFl.out.mono ?_
      rintro e w2 ⟨rfl, hp2, hf2⟩
      have HB2 := hid8 (HB.out.trans (HBL.out _ hf2))
      have HP2 := hid8 (HP.out.next HAA.out hp2 hf2 (many := p.many) (turns := p.turns))
      clear HFl hp2 hf2 HP HB HBL
      go_wp2
      go_ret
      exact ⟨rfl, L2, S2, HP2.out, HF1.out.mono (Nat.le_refl _) (by omega) (by omega) (Nat.le_refl _), hz, HSG.out, HB2.out⟩
    · have hzd : decide (leftF L2 = 0) = false := by simpa using hz
      rw [hzd] at HFl
      go_wp2_with fail
      refine HFl.out.mono ?_
      rintro e w2 ⟨rfl, hp2, hf2⟩
      have HB2 := hid8 (HB.out.trans (HBL.out _ hf2))
      have HP2 := hid8 (HP.out.next HAA.out hp2 hf2 (many := p.many) (turns := p.turns))
      clear HFl hp2 hf2 HP HB HBL
      go_wp2
      go_roundw
      case rel => exact ⟨k + 1, L2, S2, by omega, by go_num, by omega, HP2.out, HF1.out.mono (Nat.le_refl _) (by omega) (by push_cast; omega) (Nat.le_refl _), HSG.out, HB2.out⟩
      case measure => simp [intOf]; omega
/-- What was told is where putting goes on. -/
theorem pz_ahead {w : World} {B b : Nat} {A C : Nat → Prop} {l d : Nat} {S : Dsk} {L : Lg} {N : Nat} {vt : Value} {cs : List Cm} (hpm : PM w B A l d S L N) (hA : ∀ j, A j → j < b) (hBb : B ≤ b) (hcr : CRow w C vt cs) (hC : ∀ j, C j → b ≤ j ∧ j < w.heap.size) :
    Pz w B (fun j => j < B ∨ (C j ∧ vt.ownBlock ≠ some j)) l d vt ⟨L, S, cs, 0, 0, N⟩ := by
  obtain ⟨ps, h0, h1, h2, h3⟩ := hcr
  have hbw := hpm.bw
  refine ⟨⟨A, hpm, fun j hj => ⟨fun e => ?_, fun e => ?_⟩⟩, ⟨ps, h0, h1, fun p hp => ?_⟩, fun g e => ?_, fun j hj => ?_, fun j hj e => ?_⟩
  · have := hA j hj; have := (hC j (h2 j e)).1; omega
  · rcases e with e | e
    · have := (hpm.lo j hj).1; omega
    · have := hA j hj; have := (hC j e.1).1; omega
  · obtain ⟨q1, q2⟩ := h3 p hp
    obtain ⟨au, lu, cu, e⟩ := erow_form q1
    have hne := rows_ne q1 h1 (by decide)
    rw [e] at q1 q2 hne
    exact ⟨au, lu, cu, e, seq_of_row q1 (fun _ => rfl) (by decide), fun _ g o e2 => .inr ⟨q2 g (by rw [e2]; rfl), hne g (by rw [e2]; rfl)⟩⟩
  · have := (hC g (h2 g e)).1; omega
  · rcases hj with hj | hj
    · omega
    · exact (hC j hj.1).2
  · rcases hj with hj | hj
    · have := (hC j (h2 j e)).1; omega
    · exact hj.2 e
/-- The names on a disk of segments from f on are no others'. -/
theorem names_from {P : PD} {f : Int} {Cs : List (List Int × Nat)} (h : Wl P f Cs) {s : ByteArray} (hs : s ∈ Land.dnames P.now) {n : Int} (h1 : 1 ≤ n) (hn : n < f) : s ≠ nm8 n := by
  rintro rfl
  obtain ⟨i, hi⟩ := (name_look h.inv).1 hs
  obtain ⟨k, hk, e⟩ := h.only _ _ hi
  have := nm8_inj h1 e (by have := h.f1; omega)
  omega
end Go.Proofs.YtgifcgniphncdaaGreatDoor

/-
  WalDrops. (Printed by gen_w44.py.)
-/
set_option linter.unusedVariables false
set_option linter.unusedSimpArgs false
namespace Go.Proofs.YtgifcgniphncdaaGreatDoor
open Go.RowKit Go.Maps

theorem Wl.crashed {P : PD} {f : Int} {Cs : List (List Int × Nat)} (h : Wl P f Cs) (hl : P.log = []) (hs : ∀ x ∈ Cs, x.2 = x.1.length) (ke di te : Int) : Wl (Land.crashed P ke di te) f Cs := by
  have := h.crash h.inv rfl (cdir_nil hl di) (ke := ke) (te := te)
  rwa [left_map hs] at this

set_option maxRecDepth 100000 in
set_option maxHeartbeats 8000000 in
theorem walDrops_walk {B0 : Nat} (w : World) (hg : Gl B0 w) (hB0 : B0 ≤ w.heap.size) {sa : Option Addr} {sl sc : Nat} {os : List OpQ} (hs : Sq w w.heap.size sa sl sc os) {ma : Option Addr} {ml mc : Nat} {os2 : List OpQ} (hm : Sq w w.heap.size ma ml mc os2) :
    Calls Tryz.prog 7 #[.slice sa sl sc, .slice ma ml mc] w fun e w' => e = .returned (.bool true) ∧ Below w.heap.size w w' := by
  obtain ⟨B, hBe⟩ : ∃ B, B = w.heap.size := ⟨_, rfl⟩
  rw [← hBe] at hs hm
  have HG : Hid (Gl B w) := hid8 (hg.up (by omega))
  have HS := hid8 hs
  have HM := hid8 hm
  have HSH := hid8 (shown8_any w HG.out (Nat.le_of_eq hBe))
  clear hg hs hm
  go_enter Tryz.func7, Tryz.ntmps7
  go_wp2_with fail
  refine HSH.out.mono ?_
  rintro e w1 ⟨rfl, hb1⟩
  have HB1 : Hid (Below B w w1) := hid8 (hb1.mono (by omega))
  have hz1 := hb1.size
  clear HSH hb1
  go_wp2_with fail
  refine (dv_new w1).mono ?_
  rintro e w2 ⟨d, rfl, hD, hb2⟩
  have hz2 := hb2.size
  have HB2 := hid8 (HB1.out.trans (hb2.mono (by omega)))
  have HOP := hid8 (open9_new (B := B) hD (fun j hj => by have := hj.1; omega) (by omega) (HG.out.on HB2.out))
  clear hD hb2 HB1
  go_wp2_with fail
  refine HOP.out.mono ?_
  rintro e w3 ⟨L, S, l, av, cv, A, rfl, hpm, hf, hup⟩
  have hz3 := hf.size
  have HB3 := hid8 (HB2.out.trans (hf.to (n := B) (fun k hk e => by have := e.1; omega) (by omega)))
  have hpz : Pz w3 B (fun j => j < B) l d (.slice none 0 0) ⟨L, S, [], 0, 0, 0⟩ := ⟨⟨A, hpm, fun j hj => ⟨(fun e => by cases e), fun e => by have := (hpm.lo j hj).1; omega⟩⟩, PuR.nil _ _, (fun g e => by cases e), fun j hj => by omega, fun j hj e => by cases e⟩
  have HPL := hid8 (plays_any hpz (by omega) (fun j hj => hj) (HS.out.below HB3.out) (show 0 + 100 ≤ 1000000 by decide) rfl rfl (Nat.zero_le _))
  have HOK2 : Hid (Up9 0 ((⟨L, S, [], 0, 0, 0⟩ : Py).play (os.take 100)).L ((⟨L, S, [], 0, 0, 0⟩ : Py).play (os.take 100)).S ((⟨L, S, [], 0, 0, 0⟩ : Py).play (os.take 100)).put 21 401 603 121632) := hid8 (by
    have hl : (os.take 100).length ≤ 100 := by rw [List.length_take]; omega
    exact (Up9.play (os.take 100) (p := ⟨L, S, [], 0, 0, 0⟩) (T := 1) (M := 1) (K := 3) (Z := 96) hup (Nat.zero_le _) (Nat.zero_le _) (by decide) (by decide) (by omega) (by omega)).mono (by decide) (by omega) (by omega) (by decide))
  have HPB : Hid (((⟨L, S, [], 0, 0, 0⟩ : Py).play (os.take 100)).put.length ≤ 100 ∧ ((⟨L, S, [], 0, 0, 0⟩ : Py).play (os.take 100)).N ≤ 100) := hid8 (by
    have hl : (os.take 100).length ≤ 100 := by rw [List.length_take]; omega
    have h1 := (play_bounds (os.take 100) ⟨L, S, [], 0, 0, 0⟩).2.2.2
    have h2 := (play_bounds (os.take 100) ⟨L, S, [], 0, 0, 0⟩).1
    simp only [List.length_nil] at h1 h2
    omega)
  generalize (⟨L, S, [], 0, 0, 0⟩ : Py).play (os.take 100) = p1 at HPL HOK2 HPB
  clear HOP hpm hf hup HB2 hpz HS
  go_wp2_with fail
  refine HPL.out.mono ?_
  rintro e w4 ⟨v1, rfl, hpz1, hb4⟩
  have HB4 := hid8 (HB3.out.trans hb4)
  obtain ⟨A1, hpm1, hA1⟩ := hpz1.it
  have HRO := hid8 (walRotate_any hpm1)
  have HT := hid8 (HOK2.out.turn (by decide) (by decide) (by decide) (by decide))
  have HPZ1 := hid8 hpz1
  have HA1 := hid8 hA1
  have HBL := hid8 (fun (w' : World) (F : Fr A1 w4 w') => hpm1.bel F)
  rw [HT.out.2.1] at HRO
  have HSG1 : Hid (((p1.L.turn p1.S).2.1).seg = p1.L.seg + 1) := hid8 HT.out.2.2
  have HU1 := hid8 HT.out.1
  generalize hq : p1.L.turn p1.S = q at HRO HU1 HSG1
  obtain ⟨qa, L5, S5⟩ := q
  simp only at HRO HU1 HSG1
  clear HPL HB3 hb4 hpz1 hpm1 hA1 HOK2 HT hq
  generalize hnn : p1.L.seg + 1 = n at HRO HSG1
  clear hnn
  go_wp2_with fail
  refine HRO.out.mono ?_
  rintro e w5 ⟨rfl, hp5, hf5⟩
  have HB5 := hid8 (HB4.out.trans (HBL.out _ hf5))
  have HP5 := hid8 (HPZ1.out.next HA1.out hp5 hf5 (many := 0) (turns := 0))
  have HFLU := hid8 (flush9_any HP5.out HU1.out (by decide) (by decide) (by decide))
  clear HRO hp5 hf5 HBL HB4 HPZ1 HA1 HU1
  go_wp2_with fail
  refine HFLU.out.mono ?_
  rintro e w6 ⟨rfl, L6, S6, hp6, hu6, hl6, hsg6, hb6⟩
  have HB6 := hid8 (HB5.out.trans hb6)
  obtain ⟨k, ks, hsk, hkl, hu6k⟩ := hu6.conv hl6
  have hnk : n = 1 + (k : Int) := by
    have e1 : L6.seg = L5.seg := hsg6
    have e2 := HSG1.out
    omega
  subst hnk
  obtain ⟨Cs, R, hwl, hCT, hkC, hsC, hch, hRc, hRn, hlg, hsy, hup6, hov6, hn6⟩ := hu6k.rest hl6 (by decide)
  obtain ⟨A6, hpm6, hA6⟩ := hp6.it
  have hz6 := hpm6.bw
  have HCR := hid8 (pm_crash hpm6 0 0 0)
  have HPM6 := hid8 hpm6
  have HU6 := hid8 hu6k
  have hks : ks.length ≤ 100 := Nat.le_trans hkl HPB.out.1
  have HN6 : Hid (p1.N + 100 ≤ 1000000) := hid8 (by have := HPB.out.2; omega)
  clear HFLU hp6 hu6 hb6 HB5 HP5 hu6k hpm6 hA6 hkl HSG1 hsg6 hsk hup6 hov6 hn6 HPB
  go_wp2_with fail
  refine HCR.out.mono ?_
  rintro e w7 ⟨c1, rfl, hD7, hb7⟩
  have hz7 := hb7.size
  have HB7 := hid8 (HB6.out.trans (hb7.mono hz6))
  have HOP := hid8 (openF_any (B := B) (k := k) hD7 (fun j hj => by have := hj.1; omega) (by omega) (HG.out.on HB7.out) ⟨rfl, rfl⟩ (hwl.crashed hlg hsy 0 0 0) (by omega) (by omega) hch (by show (0 : Int) + 3 ≤ 65536; decide) (by omega) (by omega))
  have HPM7 := hid8 (HPM6.out.below hb7)
  clear HCR hD7 hb7 hwl hsy hlg hch
  go_wp2_with fail
  refine HOP.out.mono ?_
  rintro e w8 ⟨S8, l8, vt, C8, D8, rfl, hcr, hC, hf8, -, -⟩
  have hz8 := hf8.size
  have HB8 := hid8 (HB7.out.trans (hf8.to (n := B) (fun k hk e => by have := e.1; omega) (by omega)))
  rw [hRc] at hcr
  have hpm8 := HPM7.out.keep hf8 (fun j hj e => by have := (HPM6.out.lo j hj).2; have := e.1; omega) (fun j e => by have := e.1; omega)
  have hpz8 := pz_ahead hpm8 (b := w6.heap.size) (fun j hj => (HPM6.out.lo j hj).2) hz6 hcr (fun j hj => ⟨by have := (hC j hj).1; omega, (hC j hj).2⟩)
  have HPL := hid8 (plays_any hpz8 (by omega) (fun j hj => .inl hj) (HM.out.below HB8.out) HN6.out rfl rfl (by show ks.length ≤ 1000000; omega))
  have HOK2 : Hid (Up9 k ((⟨L6, S6, ks, 0, 0, p1.N⟩ : Py).play (os2.take 100)).L ((⟨L6, S6, ks, 0, 0, p1.N⟩ : Py).play (os2.take 100)).S ((⟨L6, S6, ks, 0, 0, p1.N⟩ : Py).play (os2.take 100)).put 42 815 1219 243168) := hid8 (by
    have hl : (os2.take 100).length ≤ 100 := by rw [List.length_take]; omega
    exact (Up9.play (os2.take 100) (p := ⟨L6, S6, ks, 0, 0, p1.N⟩) (T := 22) (M := 415) (K := 619) (Z := 121632) HU6.out (Nat.zero_le _) (Nat.zero_le _) (by decide) (by decide) (by omega) (by omega)).mono (by decide) (by omega) (by omega) (by decide))
  generalize (⟨L6, S6, ks, 0, 0, p1.N⟩ : Py).play (os2.take 100) = p2 at HPL HOK2
  obtain ⟨at8, ct8, rfl⟩ := hcr.len
  generalize hYe : (fun j => j < B ∨ (C8 j ∧ (Value.slice at8 ks.length ct8).ownBlock ≠ some j)) = Y at HPL
  clear HOP hcr hC hf8 HB7 hpm8 hpz8 HPM6 HPM7 HU6 hYe hRc hRn
  go_wp2_with fail
  refine HPL.out.mono ?_
  rintro e w9 ⟨v2, rfl, hpz9, hb9⟩
  have HB9 := hid8 (HB8.out.trans hb9)
  have HFLU := hid8 (flush9_any hpz9 HOK2.out (by decide) (by decide) (by decide))
  clear HPL HB8 hb9 hpz9 HOK2
  go_wp2_with fail
  refine HFLU.out.mono ?_
  rintro e w10 ⟨rfl, L10, S10, hp10, hu10, hl10, -, hb10⟩
  have HB10 := hid8 (HB9.out.trans hb10)
  obtain ⟨Cs2, R2, hwl, hCT2, hkC2, hsC2, hch, hRc, hRn, hlg, hsy, hup10, hov10, hn10⟩ := hu10.rest hl10 (by decide)
  have hdr : Dr 0 k Cs2 1229 L10 S10 := ⟨hup10, hov10, hn10, by rw [List.drop_zero]; simpa using hwl, Nat.zero_le _, hkC2, hsC2⟩
  have HDR := hid8 hdr
  have HP10 := hid8 hp10
  have HCH := hid8 hch
  have HSY := hid8 hsy
  have HRC := hid8 hRc
  clear HFLU hp10 hu10 hb10 HB9 hwl hch hsy hup10 hov10 hn10 hdr hl10 hRc hsC hCT hkC hlg hsC2
  go_wp2
  go_loopw [18, 19, 20] (fun i _ _ wr => ∃ (j : Nat) (L' : Lg) (S' : Dsk), j ≤ k ∧ i = .int .i64 (j : Int) ∧ Pz wr B Y l d v2 ⟨L', S', p2.put, p2.many, p2.turns, p2.N⟩ ∧ Dr j k Cs2 (1229 + j) L' S' ∧ Below B w wr) (fun i _ _ _ => 200 - (intOf i).toNat)
  case atStart => exact ⟨0, L10, S10, Nat.zero_le _, rfl, HP10.out, HDR.out, HB10.out⟩
  case round =>
    clear HP10 HDR HB10
    obtain ⟨j, L', S', hj, rfl, hp, hdr, hb⟩ := hrel
    obtain ⟨wR, hwR⟩ : ∃ x, x = wr := ⟨_, rfl⟩
    subst hwR
    have hj200 : (j : Int) < 200 := by omega
    obtain ⟨b, k', hans, hdr', hbt, hbf⟩ := hdr.drop (by omega)
    obtain ⟨A, hpm, hA⟩ := hp.it
    have HDO := hid8 (walDrop_any hpm (1 + (k : Int)))
    rw [hans] at HDO
    have HBL := hid8 (fun (w' : World) (F : Fr A wR w') => hpm.bel F)
    have HAA := hid8 hA
    have HP := hid8 hp
    have HB := hid8 hb
    have HDR' := hid8 hdr'
    generalize hq : L'.drop S' (1 + (k : Int)) = q at HDO HDR'
    obtain ⟨qa, L11, S11⟩ := q
    simp only at HDO HDR'
    clear hp hdr hb hdr' hpm hA hq hans
    cases b with
    | false =>
      have hk' := hbf rfl
      subst hk'
      have hjk : j + 1 ≤ k := HDR'.out.km
      go_wp2_with fail
      refine HDO.out.mono ?_
      rintro e w11 ⟨rfl, hp11, hf11⟩
      have HB11 := hid8 (HB.out.trans (HBL.out _ hf11))
      have HP11 := hid8 (HP.out.next HAA.out hp11 hf11 (many := p2.many) (turns := p2.turns))
      clear HDO hp11 hf11 HP HB HBL
      go_wp2
      go_roundw
      case rel => exact ⟨j + 1, L11, S11, hjk, by go_num, HP11.out, ⟨HDR'.out.up, HDR'.out.over, by have := HDR'.out.n; push_cast; omega, HDR'.out.wl, HDR'.out.km, HDR'.out.ml, HDR'.out.seg⟩, HB11.out⟩
      case measure => simp [intOf]; omega
    | true =>
      have hk' := hbt rfl
      subst hk'
      clear hbt hbf
      go_wp2_with fail
      refine HDO.out.mono ?_
      rintro e w11 ⟨rfl, hp11, hf11⟩
      have HB11 := hid8 (HB.out.trans (HBL.out _ hf11))
      have HP11 := hid8 (HP.out.next HAA.out hp11 hf11 (many := p2.many) (turns := p2.turns))
      clear HDO hp11 hf11 HP HB HBL HAA
      obtain ⟨ao2, cap2, rfl, hcs2⟩ := HP11.out.cs
      obtain ⟨A11, ⟨⟨D11, vv, d1, d2, d3, d4⟩, hal, hAl, hBw, hg11, ok⟩, hA11⟩ := HP11.out.it
      have HSD := hid8 (dv_syncDir d1)
      have hdl : ∀ j, D11 j → B ≤ j := fun j hj => (hAl j (d4 j hj).1).1
      have hCD : ∀ j, j < w11.heap.size → (fun j => j < w11.heap.size ∧ ¬ D11 j) j → True := fun _ _ _ => trivial
      have HPU := hid8 HP11.out.pu
      have HPV := hid8 (fun j (hj : D11 j) => hA11 j (d4 j hj).1)
      have HPLT := hid8 HP11.out.pu.lt
      have HZL := hid8 HP11.out.zl
      obtain ⟨y1, y2, y3, y4, y5, y6⟩ := dsk_syncDir (HDR'.out.up.on _) HDR'.out.wl (by have := HDR'.out.n; omega)
      generalize hsd : S11.syncDir = q at HSD y1 y2 y3 y4 y5 y6
      obtain ⟨qa2, S12⟩ := q
      simp only at HSD y1 y2 y3 y4 y5 y6
      have HW12 := hid8 y2
      have HL12 := hid8 y4
      have HCS2 := hid8 hcs2
      have hz11 := hBw
      clear d1 d2 d3 d4 hal hAl hg11 ok hA11 hcs2 HP11 hsd hCD y2 y4 hBw
      go_wp2_with fail
      refine HSD.out.mono ?_
      rintro e w12 ⟨rfl, hd12, hf12⟩
      have hz12 := hf12.size
      have HB12 := hid8 (HB11.out.trans (hf12.to (n := B) (fun k hk e => by have := hdl k e; omega) (by omega)))
      have hpu12 := HPU.out.keep hz12 (fun g e => hf12.block g (HPLT.out g e) (fun k => (HPV.out g k).1 e)) (fun j hj => hf12.block j (HZL.out j hj) (fun k => (HPV.out j k).2 hj))
      obtain ⟨ao3, cap3, hv3, hcs3⟩ := hpu12.cs8
      injection hv3 with hv4 hv5 hv6
      subst hv4 hv6
      have HCS12 : Hid (CS w12 (fun j => j < w12.heap.size) ao2 p2.put.length cap2 p2.put) := hid8 (hcs3.mono fun j hj => hj.elim (fun e => by have := HPLT.out j e; omega) (fun e => by have := HZL.out j e; omega))
      have HCR := hid8 (dv_crash hd12 0 0 0)
      clear HSD hd12 hf12 hpu12 hcs3 HPU HPV HPLT HZL HB11 HCS2
      go_wp2_with fail
      refine HCR.out.mono ?_
      rintro e w13 ⟨c2, rfl, hD13, hb13⟩
      have hz13 := hb13.size
      have HB13 := hid8 (HB12.out.trans (hb13.mono (by omega)))
      have HCS13 := hid8 (HCS12.out.below hb13)
      have hdl2 : (Cs2.drop k').length ≤ 42 := by rw [List.length_drop]; omega
      have HOP := hid8 (openF_any (B := B) (k := 0) (R := R2) hD13 (fun j hj => by have := hj.1; omega) (by omega) (HG.out.on HB13.out) ⟨rfl, rfl⟩ (HW12.out.crashed HL12.out (fun x hx => HSY.out x (List.mem_of_mem_drop hx)) 0 0 0) (Nat.zero_le _) (by omega) (by rw [List.drop_zero]; simpa using HCH.out) (by show (0 : Int) + 3 ≤ 65536; decide) (by omega) (by omega))
      rw [show (1 : Int) + (k' : Int) + ((0 : Nat) : Int) = 1 + (k' : Int) by simp, HRC.out] at HOP
      clear HCR hD13 hb13 HB12 HCS12 HW12 HL12 HSY HCH
      go_wp2_with fail
      refine HOP.out.mono ?_
      rintro e w14 ⟨S14, l14, vt14, C14, D14, rfl, hcr, hC, hf14, hd14, Cs14, hw14⟩
      have hz14 := hf14.size
      have HB14 := hid8 (HB13.out.trans (hf14.to (n := B) (fun k hk e => by have := e.1; omega) (by omega)))
      have HCS14 := hid8 (HCS13.out.keep hf14.size (fun j hj hz => hf14.block j hj (fun e => by have := e.1; omega)))
      obtain ⟨at3, ct3, rfl, hct⟩ := hcr.read8
      have HSC := hid8 (sameCommits_any hct HCS14.out)
      have HD14 := hid8 hd14
      have HW14 := hid8 hw14
      clear HOP hcr hC hf14 hd14 hw14 HB13 HCS13 hct HCS14
      go_wp2_with fail
      refine HSC.out.mono ?_
      rintro e w15 ⟨rfl, hb15⟩
      have hz15 := hb15.size
      have HB15 := hid8 (HB14.out.trans (hb15.mono (by omega)))
      have HNA := hid8 (dv_names (HD14.out.below hb15))
      clear HSC hb15 HB14
      go_wp2_with fail
      refine HNA.out.mono ?_
      rintro e w16 ⟨an, ln, cn, rfl, hst, hb16⟩
      have hz16 := hb16.size
      have HB16 := hid8 (HB15.out.trans (hb16.mono (by omega)))
      have HST := hid8 hst
      have hB16 : B ≤ w16.heap.size := by omega
      have hln : (ln : Int) ≤ 9223372036854775807 := by have := hst.2.1; have := hst.2.2.1; unfold maxLen at this; omega
      clear HNA hst hb16 HB15 HD14
      go_wp2
      go_loopw [27, 28] (fun i _ wr => ∃ j : Nat, j ≤ ln ∧ i = .int .i64 (j : Int) ∧ St wr an ln cn (Land.dnames S14.P.now) ∧ Below B w wr) (fun i _ _ => ln - (intOf i).toNat)
      case atStart => exact ⟨0, Nat.zero_le _, rfl, HST.out, HB16.out⟩
      case round =>
        clear HST HB16
        obtain ⟨i, hi, rfl, hst, hb⟩ := hrel
        obtain ⟨wS, hwS⟩ : ∃ x, x = wr := ⟨_, rfl⟩
        subst hwS
        by_cases hil : i < ln
        · have hil2 : (i : Int) < (ln : Int) := by omega
          have HST := hid8 hst
          have HB := hid8 hb
          clear hst hb
          go_wp2
          go_loopw [28] (fun mm wr => ∃ t : Nat, 1 ≤ t ∧ t ≤ k' + 1 ∧ mm = .int .i64 (t : Int) ∧ St wr an ln cn (Land.dnames S14.P.now) ∧ Below B w wr) (fun mm _ => k' + 1 - (intOf mm).toNat)
          case atStart => exact ⟨1, Nat.le_refl _, by omega, rfl, HST.out, HB.out⟩
          case round =>
            clear HST HB
            obtain ⟨t, ht1, ht2, rfl, hst, hb⟩ := hrel
            obtain ⟨wT, hwT⟩ : ∃ x, x = wr := ⟨_, rfl⟩
            subst hwT
            by_cases htk : t < k' + 1
            · have htk2 : (t : Int) < 1 + (k' : Int) := by omega
              obtain ⟨bb, off, rfl, hbl, hcc⟩ := hst.2.2.2.2 (by omega)
              have s1 := hcc i hil
              have hnl : (Land.dnames S14.P.now).length = ln := hst.1
              have hne : (Land.dnames S14.P.now).getD i ByteArray.empty ≠ nm8 t := by
                have hg : (Land.dnames S14.P.now)[i]? = some ((Land.dnames S14.P.now).getD i ByteArray.empty) := by
                  rw [List.getD_eq_getElem?_getD, List.getElem?_eq_getElem (by omega)]
                  rfl
                exact names_from HW14.out (List.mem_of_getElem? hg) (by omega) (by omega)
              generalize (Land.dnames S14.P.now).getD i ByteArray.empty = nmx at s1 hne
              have hnq := str_ne hne
              have HST := hid8 hst
              have HB := hid8 hb
              have hBT : B ≤ wT.heap.size := by have := hb.size; omega
              have HGT := hid8 ((HG.out.on hb).on ((below_drew wT).mono hBT))
              clear hst hb hcc
              go_upto_region 32 with fail
              refine wp_region_noPanic ?_
              refine wp_region_held_drew (S := (fun u : World => u.cell? ⟨bb, off + i, none⟩ = some (.string nmx))) (by kernel_rfl) (s1) (fun hHeld => ?_)
              refine wpAnyH_take (i := 0) (oi := { dst := some 119, op := _, type := _, pos := _, after := _, guard := _ }) (v := ?_) rfl (by kernel_rfl) (by kernel_rfl) (by kernel_rfl) (fun _ _ _ h => h) (Or.inl ⟨by rfl, ?_⟩) (by assumption) ?_
              rotate_left 1
              · intro u hSw; obtain s1 := hSw; go_simp; try with_reducible rfl
              try simp only [Act.put, List.setIfInBounds_toArray, List.set_cons_zero, List.set_cons_succ]
              refine wpAnyH_take (i := 1) (oi := { dst := some 120, op := _, type := _, pos := _, after := _, guard := _ }) (v := ?_) rfl (by kernel_rfl) (by kernel_rfl) (by kernel_rfl) (fun _ _ _ h => h) (Or.inl ⟨by rfl, ?_⟩) (by assumption) ?_
              rotate_left 1
              · intro u hSw; obtain s1 := hSw; go_simp; try with_reducible rfl
              try simp only [Act.put, List.setIfInBounds_toArray, List.set_cons_zero, List.set_cons_succ]
              refine wpAnyH_take (i := 2) (oi := { dst := some 121, op := _, type := _, pos := _, after := _, guard := _ }) (v := ?_) rfl (by kernel_rfl) (by kernel_rfl) (by kernel_rfl) (fun _ _ _ h => h) (Or.inl ⟨by rfl, ?_⟩) (by assumption) ?_
              rotate_left 1
              · intro u hSw; obtain s1 := hSw; go_simp; try with_reducible rfl
              try simp only [Act.put, List.setIfInBounds_toArray, List.set_cons_zero, List.set_cons_succ]
              refine wpAnyH_take (i := 3) (oi := { dst := some 122, op := _, type := _, pos := _, after := _, guard := _ }) (v := ?_) rfl (by kernel_rfl) (by kernel_rfl) (by kernel_rfl) (fun _ _ _ h => h) (Or.inl ⟨by rfl, ?_⟩) (by assumption) ?_
              rotate_left 1
              · intro u hSw; obtain s1 := hSw; go_simp; try with_reducible rfl
              try simp only [Act.put, List.setIfInBounds_toArray, List.set_cons_zero, List.set_cons_succ]
              refine wpAnyH_take (i := 4) (oi := { dst := some 123, op := _, type := _, pos := _, after := _, guard := _ }) (v := ?_) rfl (by kernel_rfl) (by kernel_rfl) (by kernel_rfl) (fun _ _ _ h => h) (Or.inl ⟨by rfl, ?_⟩) (by assumption) ?_
              rotate_left 1
              · intro u hSw; obtain s1 := hSw; go_simp; try with_reducible rfl
              try simp only [Act.put, List.setIfInBounds_toArray, List.set_cons_zero, List.set_cons_succ]
              refine wpAnyH_ready (rs := [5]) (by kernel_rfl) (by simp) ?_
              refine AllReadyH.cons (o := { dst := some 124, op := _, type := _, pos := _, after := _, guard := _ }) rfl (fun K hK => ?_) AllReadyH.nil
              go_simp
              refine (name_any HGT.out t (by omega) (by omega)).mono ?_
              rintro e wU ⟨rfl, hbU⟩
              have hzU : wT.heap.size ≤ wU.heap.size := hbU.size
              have hbU2 : Below wT.heap.size wT wU := (below_drew wT).trans hbU
              have HST2 := hid8 (HST.out.below hbU2)
              have HB2 := hid8 (HB.out.trans (hbU2.mono hBT))
              have HCU := hid8 ((hbU2.cell (p := ⟨bb, off + i, none⟩) hbl).trans s1)
              clear hbU hbU2
              go_wp2_with fail
              refine hK.out _ _ (HCU.out) (fun hHeld => ?_)
              clear hK K
              try simp only [Act.put, List.setIfInBounds_toArray, List.set_cons_zero, List.set_cons_succ]
              refine wpAnyH_take (i := 6) (oi := { dst := some 125, op := _, type := _, pos := _, after := _, guard := _ }) (v := ?_) rfl (by kernel_rfl) (by kernel_rfl) (by kernel_rfl) (fun _ _ _ h => h) (Or.inl ⟨by rfl, ?_⟩) (by assumption) ?_
              rotate_left 1
              · intro u hSw; obtain s1 := hSw; go_simp; try with_reducible rfl
              try simp only [Act.put, List.setIfInBounds_toArray, List.set_cons_zero, List.set_cons_succ]
              refine wpAnyH_done (by kernel_rfl) ?_ _
              refine NoPanic.normal ?_
              go_wp2
              go_roundw
              case rel => exact ⟨t + 1, by omega, by omega, by go_num, HST2.out, HB2.out⟩
              case measure => simp [intOf]; omega
            · have htk2 : ¬ (t : Int) < 1 + (k' : Int) := by omega
              have HST := hid8 hst
              have HB := hid8 hb
              clear hst hb
              go_wp2
              go_roundw
              case rel => exact ⟨i + 1, by omega, by go_num, HST.out, HB.out⟩
              case measure => simp [intOf]; omega
        · have hil2 : ¬ (i : Int) < (ln : Int) := by omega
          have HB := hid8 hb
          clear hst hb
          go_wp2
          go_ret
          exact ⟨by simp, by rw [← hBe]; exact HB.out⟩
end Go.Proofs.YtgifcgniphncdaaGreatDoor
