/-
  Xm8: CScan.
-/
import Derived.Test.YtheidhkmmihjlaaXm7
set_option linter.unusedVariables false
set_option linter.unusedSimpArgs false
namespace Go.Proofs.Ytheidhkmmihjlaa
open Go.RowKit Go.Shelf Go.Maps
open ML (Ro RS Rr rc Srt nless fstOf Fst strLit strLit_inj setL setL_same setL_other delL delL_same delL_other od nl_irr nl_tr nl_tot Mg Rdg RVs strKeyed str_key turned_below zeroRo)
attribute [local go_sem] Oper.semAt_some

/-- While CScan goes through a map. -/
structure Sc (w wr : World) (X b d : Nat) (S : Ms) (C : Cl) (v : Value) (acc : List Ro) : Prop where
  pm : Pm wr X b (some d) S
  cb : wr.heap[w.heap.size + 1]? = some C.obj
  mb : wr.heap[w.heap.size]? = some (.cells #[ptr X] 25 (0, 0))
  rp : wr.heap[w.heap.size + 2]? = some rpB
  ac : Acc wr (w.heap.size + 4) (w.heap.size + 3) v acc
  low : Below w.heap.size w wr
  big : w.heap.size + 4 ≤ wr.heap.size
theorem Sc.rnd {w wr w' : World} {X b d : Nat} {S : Ms} {C : Cl} {v v' : Value} {acc acc' : List Ro} (h : Sc w wr X b d S C v acc) (hr : Rnd wr w' (w.heap.size + 3) v) (ha : Acc w' (w.heap.size + 4) (w.heap.size + 3) v' acc') (hX : X < w.heap.size) (hb : b < w.heap.size) (hd : d < w.heap.size) :
    Sc w w' X b d S C v' acc' := by
  have hbg := h.big
  have e : ∀ j, j < w.heap.size + 3 → w'.heap[j]? = wr.heap[j]? := fun j hj => hr.2 j (by omega) (by omega) (fun q => by have := own_ge h.ac.2.1 q; omega)
  refine ⟨h.pm.keep (e X (by omega)) (e b (by omega)) (fun c0 q => by cases q; exact e d (by omega)), (e _ (by omega)).trans h.cb, (e _ (by omega)).trans h.mb, (e _ (by omega)).trans h.rp, ha, ?_, Nat.le_trans hbg hr.1.size⟩
  exact h.low.trans ⟨hr.1.os, hr.1.tape, hr.1.output, hr.1.size, fun j hj => e j (by omega)⟩
theorem Sc.below {w wr w' : World} {X b d : Nat} {S : Ms} {C : Cl} {v : Value} {acc : List Ro} (h : Sc w wr X b d S C v acc) (hb : Below wr.heap.size wr w') : Sc w w' X b d S C v acc :=
  ⟨h.pm.below hb, (hb.block _ (by have := h.big; omega)).trans h.cb, (hb.block _ (by have := h.big; omega)).trans h.mb, (hb.block _ (by have := h.big; omega)).trans h.rp, h.ac.keep hb, h.low.trans (hb.mono (by have := h.big; omega)), Nat.le_trans h.big hb.size⟩
/-- The map's iterator has moved. -/
theorem Sc.iter {w wr w' : World} {X b d r : Nat} {S : Ms} {C : Cl} {v : Value} {acc : List Ro} (h : Sc w wr X b d S C v acc) (hg : wr.grownBy w' (some r)) (hr : w.heap.size + 4 ≤ r) (hno : v.ownBlock ≠ some r) (hX : X < w.heap.size) (hb : b < w.heap.size) (hd : d < w.heap.size) : Sc w w' X b d S C v acc := by
  have hbg := h.big
  have e : ∀ j, j < wr.heap.size → j ≠ r → w'.heap[j]? = wr.heap[j]? := fun j hj hn => hg.block j hj (fun q => hn (by cases q; rfl))
  refine ⟨h.pm.keep (e X (by omega) (by omega)) (e b (by omega) (by omega)) (fun c0 q => by cases q; exact e d (by omega) (by omega)), (e _ (by omega) (by omega)).trans h.cb, (e _ (by omega) (by omega)).trans h.mb, (e _ (by omega) (by omega)).trans h.rp, ⟨(e _ (by omega) (by omega)).trans h.ac.1, ?_, h.ac.2.2⟩, ?_, Nat.le_trans hbg hg.size⟩
  · exact World.ownsRow.kept h.ac.2.1 hg (.inr hno)
  · exact h.low.trans ⟨hg.os, hg.tape, hg.output, hg.size, fun j hj => e j (by omega) (by omega)⟩
theorem ranges_iter {w : World} {b r n : Nat} {D : DataW Value} {left : Lit → Bool} {cnt : Nat} (h : w.ranges Try.prog 9 RVs b r n D left cnt) : ∃ o, w.heap[r]? = some o ∧ o.isCells = false := by
  obtain ⟨es, clock, since, seen, c0, hb, F, hs, hD, hr, rest⟩ := h
  exact ⟨_, hr, rfl⟩
theorem own_iter {w : World} {b r n B : Nat} {D : DataW Value} {left : Lit → Bool} {cnt : Nat} {v : Value} {l : List Ro} (h : w.ranges Try.prog 9 RVs b r n D left cnt) (ha : Rr w B v l) : v.ownBlock ≠ some r := by
  obtain ⟨o, h1, h2⟩ := ranges_iter h
  exact own_cells ha h1 h2
theorem wr_keep {w w' : World} {B B' : Nat} {v : Value} {l : List Ro} (h : ML.Wr w B v l) (hB : B' ≤ B) (hs : w.heap.size ≤ w'.heap.size) (e : ∀ j, B ≤ j → j < w.heap.size → w'.heap[j]? = w.heap[j]?) : ML.Wr w' B' v l := by
  obtain ⟨ao, cap, rfl, hr, hg⟩ := h
  refine ⟨ao, cap, rfl, ⟨hr.1, hr.2.1, hr.2.2.1, fun hl => ?_⟩, fun hl => ?_⟩
  · obtain ⟨g, off, rfl, hlt, hc⟩ := hr.2.2.2 hl
    obtain ⟨g', e1, hg1, _⟩ := hg hl
    cases e1
    exact ⟨g, 0, rfl, Nat.lt_of_lt_of_le hlt hs, fun i r hi u hu x => (World.cell?_of_block (e g hg1 hlt)).trans (hc i r hi u hu x)⟩
  · obtain ⟨g, off, e0, hlt, hc⟩ := hr.2.2.2 hl
    obtain ⟨g', rfl, hg1, ht⟩ := hg hl
    cases e0
    refine ⟨g, rfl, Nat.le_trans hB hg1, fun j hj => ?_⟩
    obtain ⟨t1, t2⟩ := ht j hj
    exact ⟨by rw [World.cell?_of_block (w := w) (e g hg1 hlt)]; exact t1, by rw [World.frozen?_of_block (w := w) (e g hg1 hlt)]; exact t2⟩
theorem scan_nil {w : World} {B : Nat} {v : Value} {l : List Ro} (h : ML.Wr w B v l) (hl : l ≠ []) {code : Int} : RpV w B (.agg #[.int .i64 0, .string .empty, .bool false, v, .int .i64 0, .int .i64 0]) { rows := l } := ⟨v, rfl, .inr ⟨hl, h⟩⟩
section
set_option maxHeartbeats 1000000
set_option maxRecDepth 100000
variable {w : World} {X b : Nat} {c : Option Nat} {S : Ms} {C : Cl}
theorem scan_any (h : Pm w X b c S) (ho : S.ws ≠ none) (hL : S.L.length + 64 ≤ big) : Calls Try.prog 52 #[ptr X, C.v] w fun e w' => Dn w w' X b c (S, { rows := scn S C.key C.high }) e := by
  obtain ⟨ws, hws⟩ := Option.ne_none_iff_exists'.1 ho
  have hwm := h.wm
  rw [hws] at hwm
  obtain ⟨d, g, rfl, hM, hF⟩ := hwm
  obtain ⟨hS, h64, hwk⟩ := h.ok.wsrt ws hws
  obtain ⟨W5, hW5⟩ : ∃ W5, W5 = (((w.alloc (.cells #[ptr X] 25)).alloc C.obj).alloc rpB).alloc (.cells #[.slice none 0 0] 22) := ⟨_, rfl⟩
  have hb5 : Below w.heap.size w W5 := by rw [hW5]; exact ((ML.below2 _ _ _).alloc (by simp; omega) _).alloc (by simp; omega) _
  have hz5 : W5.heap.size = w.heap.size + 4 := by rw [hW5]; simp
  have hlt := h.lt
  have h0b := h.ltb
  have h0d := hM.lt
  have hSC : Sc w W5 X b d S C (.slice none 0 0) [] := by
    refine ⟨h.below hb5, ?_, ?_, ?_, ⟨?_, ⟨rfl, .inl ⟨rfl, rfl⟩⟩, fun _ => rfl⟩, hb5, by omega⟩
    · rw [hW5]; exact (Below.heap_alloc _ _ _ (by simp)).trans ((Below.heap_alloc _ _ _ (by simp)).trans (ML.heap_alloc_at (by simp) _))
    · rw [hW5]; exact (Below.heap_alloc _ _ _ (by simp; omega)).trans ((Below.heap_alloc _ _ _ (by simp; omega)).trans ((Below.heap_alloc _ _ _ (by simp)).trans (ML.heap_alloc_at rfl _)))
    · rw [hW5]; exact (Below.heap_alloc _ _ _ (by simp)).trans (ML.heap_alloc_at (by simp) _)
    · rw [hW5]; exact ML.heap_alloc_at (by simp) _
  have hM5 := hM.same (hb5.block d hM.lt)
  obtain ⟨D, hown, hrd⟩ := hM5
  have hP5 := hSC.pm
  obtain ⟨c0, c1, c2⟩ := h.cells
  have hx1 : X < w.heap.size + 1 := by omega
  have hx2 : X < w.heap.size + 1 + 1 := by omega
  have hx3 : X < w.heap.size + 1 + 1 + 1 := by omega
  have H := xhide h
  have HSC := xhide hSC
  have HRD := xhide hrd
  have HF := xhide hF
  have HOWN := xhide hown
  have HZ5 := xhide hz5
  clear h hSC hM hF hP5 hb5 hrd hz5 hown
  go_enter Try.func52, Try.ntmps52
  go_wp2_with (first
    | (at_range; rw [← hW5]; clear hW5; refine wpList_range_own _ rfl _ 64 rfl 9 61 strKeyed Try.underlying64 _ d ws.length _ rfl HOWN.out ?_; intro w0 hrg0 hg0 hs0)
    | go_in)
  go_frame
  have hcs := HOWN.out.size_le
  have hb0 : Below W5.heap.size W5 w0 := (Below.refl _ _).grown hg0 (Nat.le_refl _) (fun k e => by cases e)
  have HS0 : Hid (Sc w w0 X b d S C (.slice none 0 0) []) := xhide (HSC.out.below hb0)
  clear hb0 hg0 hs0 c0 c1 c2 hx1 hx2 hx3
  go_loopw [7] (fun _ wr => ∃ (left : Lit → Bool) (cnt : Nat) (ps : List Wr) (v : Value), wr.ranges Try.prog 9 RVs d W5.heap.size ws.length D left cnt ∧ ps.length + cnt ≤ ws.length ∧ Hid (Collected D left (ps.map fun p => p.key.data.toList)) ∧ Hid (∀ p ∈ ps, p ∈ ws) ∧
      Hid (Sc w wr X b d S C v (ps.flatMap fun p => seeL S C.key C.high p.key)))
    (fun _ wr => wr.rangeLeft d W5.heap.size)
  case atStart => exact ⟨_, _, [], _, hrg0, by simpa using hcs, xhide (Collected.start D), xhide (by simp), HS0⟩
  case round =>
    obtain ⟨left, cnt, ps, v, hrg, hcn, HC, HP, HW⟩ := hrel
    clear HS0 hrg0
    go_wp2_with (first
      | (at_next; refine wpList_next_ranges _ rfl _ rfl 9 strKeyed RVs encStr (fun v : Value => v) (fun key kl hk => by obtain ⟨x, hx, _⟩ := Maps.keyOf_str Try.underlying9 hk; exact ⟨x, hx⟩) (fun v y hv => ⟨v, rfl⟩) d W5.heap.size ws.length _ _ _ rfl hrg ?_ ?_)
      | go_in)
    · intro hc0 hl0
      have HPM := xhide (all_come HRD.out HF.out (srtW_nd hS) HC.out hl0 HP.out)
      have HTL : Hid (ps.flatMap (fun p => seeL S C.key C.high p.key) = told S C.key C.high ps []) := xhide (by unfold told; simp)
      have hW := HW.out
      rw [HTL.out] at hW
      obtain ⟨q0, q1, q2⟩ := hW.pm.cells
      have m0 : wr.cell? ⟨w.heap.size, 0, none⟩ = some (ptr X) := by rw [Go.Joins.cell_of_block hW.mb]; rfl
      have hlr := hW.pm.lt
      obtain ⟨f, hMr, hFr⟩ := hW.pm.rm
      obtain ⟨D2, hown2, hrd2⟩ := hMr
      have HW2 := xhide hW
      have HRD2 := xhide hrd2
      have HF2 := xhide hFr
      have HOWN2 := xhide hown2
      clear hW hrd2 hFr hown2 HW HC HP HTL hrg
      go_wp2_with (first
        | (at_range; refine wpList_range_own _ rfl _ 63 rfl 9 45 strKeyed Try.underlying63 _ b S.L.length _ rfl HOWN2.out ?_; intro w0' hrg0' hg0' hs0')
        | go_in)
      go_frame
      have hcs2 := HOWN2.out.size_le
      have hb0 : Below wr.heap.size wr w0' := (Below.refl _ _).grown hg0' (Nat.le_refl _) (fun k e => by cases e)
      have HS0 : Hid (Sc w w0' X b d S C v (told S C.key C.high ps [])) := xhide (HW2.out.below hb0)
      have HZR : Hid (w.heap.size + 4 ≤ wr.heap.size) := xhide HW2.out.big
      have HLS : Hid (Srt S.L) := xhide H.out.ok.srt
      obtain ⟨r2, hr2⟩ : ∃ r2, r2 = wr.heap.size := ⟨_, rfl⟩
      rw [← hr2] at hrg0' HZR ⊢
      have hpl : ps.length ≤ 64 := by omega
      have hps64 := hpl
      clear hb0 hg0' hs0' q0 q1 q2 m0 HOWN2 HW2 hc0 hl0 hcn hlr hr2
      go_loopw [8] (fun _ wr => ∃ (left : Lit → Bool) (cnt : Nat) (qs : List Ro) (v : Value), wr.ranges Try.prog 9 RVs b r2 S.L.length D2 left cnt ∧ qs.length + cnt ≤ S.L.length ∧ Hid (Collected D2 left (qs.map fun p => p.k.data.toList)) ∧ Hid (∀ p ∈ qs, p ∈ S.L) ∧
          Hid (Sc w wr X b d S C v (told S C.key C.high ps qs)))
        (fun _ wr => wr.rangeLeft b r2)
      case atStart => exact ⟨_, _, [], _, hrg0', by simpa using hcs2, xhide (Collected.start D2), xhide (by simp), HS0⟩
      case round =>
        obtain ⟨left2, cntb, qs, v2, hrgb, hcnb, HC2, HP2, HW⟩ := hrel
        clear HS0 hrg0'
        go_wp2_with (first
          | (at_next; refine wpList_next_ranges _ rfl _ rfl 9 strKeyed RVs encStr (fun v : Value => v) (fun key kl hk => by obtain ⟨x, hx, _⟩ := Maps.keyOf_str Try.underlying9 hk; exact ⟨x, hx⟩) (fun v y hv => ⟨v, rfl⟩) b r2 S.L.length _ _ _ rfl hrgb ?_ ?_)
          | go_in)
        · intro hc0 hl0
          have HQM := xhide (all_come HRD2.out HF2.out (srt_nd HLS.out) HC2.out hl0 HP2.out)
          obtain ⟨aq, cq, ev, _⟩ := HW.out.ac.2.1.seq
          have hal : (told S C.key C.high ps qs).length ≤ ps.length + qs.length := told_len _ _ _ _ _
          have hws' : S.ws.getD [] = ws := by rw [hws]; rfl
          have hpw : ps.Perm (S.ws.getD []) := by rw [hws']; exact HPM.out
          have hnd := told_nd H.out.ok (lo := C.key) (hi := C.high) hpw HQM.out
          have hmm : ∀ x, x ∈ told S C.key C.high ps qs ↔ x ∈ scn S C.key C.high := fun x => told_mem H.out.ok hpw HQM.out
          have HSO := xhide (ML.sortF_any HW.out.ac.2.1 HW.out.big (by unfold big at hL; omega))
          have crb : wr.cell? ⟨w.heap.size + 3, 0, none⟩ = some v2 := by rw [Go.Joins.cell_of_block HW.out.ac.1]; rfl
          have HMM := xhide hmm
          have HND := xhide hnd
          clear hnd hmm hpw hal HQM HPM HC2 HP2
          subst ev
          go_wp2_with fail
          refine HSO.out.mono ?_
          rintro e w6 ⟨rfl, ys, hp, hs, hwr, hb6⟩
          have hys : ys = scn S C.key C.high := sorted_is hs (((hp.map _).nodup_iff).2 HND.out) (scn_srt H.out.ok) (fun x => hp.mem_iff.trans (HMM.out x))
          subst hys
          have hr6 : w6.heap[w.heap.size + 2]? = some rpB := (hb6.block _ (by omega)).trans HW.out.rp
          have crb6 := (hb6.cell (p := ⟨w.heap.size + 3, 0, none⟩) (by show w.heap.size + 3 < w.heap.size + 4; omega)).trans crb
          obtain ⟨⟨k0, k1, k2, k3, k4, k5⟩, g0, g1, g2, g3, g4, g5⟩ := rp_cells hr6
          have hlow : Below w.heap.size w w6 := HW.out.low.trans (hb6.mono (by omega))
          have hbig6 : w.heap.size + 4 ≤ w6.heap.size := Nat.le_trans HW.out.big hb6.size
          have hs61 : w.heap.size + 2 < w6.heap.size := by omega
          have hs62 : w.heap.size + 3 < w6.heap.size := by omega
          have hbb := rp_below hlow (g := w.heap.size + 2) (by omega) (.int .i64 0) (.string .empty) (.bool false) (.slice aq (told S C.key C.high ps qs).length cq) (.int .i64 0) (.int .i64 0)
          have hw7 : ML.Wr (rpSet w6 (w.heap.size + 2) (.int .i64 0) (.string .empty) (.bool false) (.slice aq (told S C.key C.high ps qs).length cq) (.int .i64 0) (.int .i64 0)) w.heap.size (.slice aq (told S C.key C.high ps qs).length cq) (scn S C.key C.high) :=
            wr_keep hwr (by omega) (by rw [rp_size]; exact Nat.le_refl _) (fun j hj _ => rp_else (by omega) _ _ _ _ _ _)
          have FIN : Hid (Dn w (rpSet w6 (w.heap.size + 2) (.int .i64 0) (.string .empty) (.bool false) (.slice aq (told S C.key C.high ps qs).length cq) (.int .i64 0) (.int .i64 0)) X b (some d) (S, { rows := scn S C.key C.high }) (.returned (.agg #[.int .i64 0, .string .empty, .bool false, .slice aq (told S C.key C.high ps qs).length cq, .int .i64 0, .int .i64 0]))) := xhide (by
            refine ⟨_, some d, rfl, ⟨_, rfl, ?_⟩, H.out.below hbb, Chg.below hbb, .inl rfl⟩
            by_cases hn : scn S C.key C.high = []
            · have hz := hp.length_eq
              rw [hn] at hz
              exact .inl ⟨HW.out.ac.2.2 (List.eq_nil_of_length_eq_zero hz.symm), hn⟩
            · exact .inr ⟨hn, hw7⟩)
          have HR6 := xhide hr6
          clear hr6 hlow hbb hw7 hwr hb6 hp hs HSO HW HMM HND
          go_wp2
          exact bodyPost_ret (v := .agg #[.int .i64 0, .string .empty, .bool false, .slice aq (told S C.key C.high ps qs).length cq, .int .i64 0, .int .i64 0]) (results_cell_row (p := 4) (ty := 41) rfl _ _ (w.heap.size + 2) 41 _ (0, 0) _ rfl (rp_set HR6.out _ _ _ _ _ _) Try.underlying41 rfl (by kernel_rfl)) rfl FIN.out
        · intro x cv kl yd yp w2 cnt2 hkey hlk hv hat hrg2 hlt2 hg2 hs2 hen
          obtain ⟨r, hr, rfl, rfl, rfl⟩ := entry_of (key := Ro.k) (val := Ro.val) HRD2.out HF2.out hkey hv hat
          have hC3 := xhide (step_come (key := Ro.k) HC2.out hlk hat)
          have hP3 : Hid (∀ p ∈ qs ++ [r], p ∈ S.L) := xhide (fun p hp => by
            rcases List.mem_append.1 hp with q | q
            · exact HP2.out p q
            · simp at q; rw [q]; exact hr)
          have hzr := HZR.out
          have hsc2 := HW.out.iter hg2 hzr (own_iter hrgb HW.out.ac.2.1) hlt h0b h0d
          have hkl : r.k.size ≤ maxLen := by have := (rightR_iff.1 (H.out.ok.rows r hr)).1.2; unfold maxLen; omega
          have hwm2 := hsc2.pm.wm
          rw [hws] at hwm2
          obtain ⟨d', g', ed, hMw, hFw⟩ := hwm2
          cases ed
          have hlkw := hMw.look strKeyed Try.underlying64 (zeroWr w2) (str_key hkl)
          rw [show (Lit.string r.k.data.toList) = strLit r.k from rfl, hFw.at hS] at hlkw
          obtain ⟨q0, q1, q2⟩ := hsc2.pm.cells
          have m0 : w2.cell? ⟨w.heap.size, 0, none⟩ = some (ptr X) := by rw [Go.Joins.cell_of_block hsc2.mb]; rfl
          have hal : (told S C.key C.high ps qs).length ≤ ps.length + qs.length := told_len _ _ _ _ _
          have hls : (told S C.key C.high ps qs).length + 1 ≤ big := by unfold big at *; omega
          obtain ⟨W3, hW3⟩ : ∃ W3, W3 = w2.alloc (Wr.obj (((wOf ws r.k).getD ⟨.empty, .empty, false⟩))) := ⟨_, rfl⟩
          have hb3 : Below w2.heap.size w2 W3 := by rw [hW3]; exact ML.below1 _ _
          have hsc3 := hsc2.below hb3
          have hrg3 : W3.ranges Try.prog 9 RVs b r2 S.L.length D2 (fun z => left2 z && !z.sameKey (.string r.k.data.toList)) cnt2 := by rw [hW3]; exact hrg2.alloc _
          have hno3 := own_iter hrg3 hsc3.ac.2.1
          have HSEE := xhide (see_any hsc3.pm ho hsc3.cb hsc3.mb hsc3.ac hsc3.big (by omega) hls r.k hkl)
          have CONT : Hid (∀ w5 : World, Rnd W3 w5 (w.heap.size + 3) v2 → (∃ v', Acc w5 (w.heap.size + 4) (w.heap.size + 3) v' (told S C.key C.high ps (qs ++ [r]))) →
              w5.ranges Try.prog 9 RVs b r2 S.L.length D2 (fun z => left2 z && !z.sameKey (.string r.k.data.toList)) cnt2 ∧ ∃ v', Hid (Sc w w5 X b d S C v' (told S C.key C.high ps (qs ++ [r])))) := xhide (by
            intro w5 hr5 ⟨v', ha5⟩
            have hsc5 := hsc3.rnd hr5 ha5 hlt h0b h0d
            exact ⟨ranges_same hrg3 (hr5.2 b (by have := hsc3.big; omega) (by omega) (fun q => by have := own_ge hsc3.ac.2.1 q; omega)) (hr5.2 _ hrg3.lt (by omega) hno3), v', xhide hsc5⟩)
          have HTS : Hid (told S C.key C.high ps (qs ++ [r]) = told S C.key C.high ps qs ++ seeR S C.key C.high r) := xhide (by unfold told; rw [List.flatMap_append]; simp)
          have HA3 := xhide hsc3.ac
          have hl2 := hsc2.pm.lt
          have hws' : S.ws.getD [] = ws := by rw [hws]; rfl
          clear hsc2 hsc3 hno3 HW HC2 HP2 hr hkey hv hat hrg2 hg2 hs2 hlk hkl hal hls hzr hMw hFw hb3 hrg3
          cases hq : wOf ws r.k with
          | some x =>
            have HSR : Hid (seeR S C.key C.high r = []) := xhide (by unfold seeR; rw [hws', hq]; rfl)
            rw [hq] at hlkw hW3
            simp only [Option.map_some, Option.getD_some, Option.isSome_some] at hlkw hW3
            obtain ⟨hrg5, v', HW5⟩ := CONT.out W3 (Rnd.below (Below.refl _ _)) ⟨v2, by rw [HTS.out, HSR.out, List.append_nil]; exact HA3.out⟩
            clear CONT HSEE HA3 HTS HSR
            subst hW3
            go_wp2
            go_roundw
            case rel => exact ⟨_, cnt2, qs ++ [r], v', hrg5, by simp; omega, hC3, hP3, HW5⟩
            case measure => rw [hrg5.left_eq, hrgb.left_eq]; exact hlt2
          | none =>
            have HSR : Hid (seeR S C.key C.high r = seeL S C.key C.high r.k) := xhide (by unfold seeR; rw [hws', hq]; rfl)
            rw [hq] at hlkw hW3
            simp only [Option.map_none, Option.getD_none, Option.isSome_none] at hlkw hW3
            clear HA3
            subst hW3
            go_wp2_with fail
            refine HSEE.out.mono ?_
            rintro e w5 ⟨rfl, hr5, ha5⟩
            obtain ⟨hrg5, v', HW5⟩ := CONT.out w5 hr5 (by rw [HTS.out, HSR.out]; exact ha5)
            clear hr5 ha5 CONT HSEE HTS HSR
            go_wp2
            go_roundw
            case rel => exact ⟨_, cnt2, qs ++ [r], v', hrg5, by simp; omega, hC3, hP3, HW5⟩
            case measure => rw [hrg5.left_eq, hrgb.left_eq]; exact hlt2
    · intro x cv kl yd yp w2 cnt2 hkey hlk hv hat hrg2 hlt2 hg2 hs2 hen
      obtain ⟨r, hr, rfl, rfl, rfl⟩ := entry_of (key := Wr.key) (val := Wr.w) HRD.out HF.out hkey hv hat
      have hC2 := xhide (step_come (key := Wr.key) HC.out hlk hat)
      have hP2 : Hid (∀ p ∈ ps ++ [r], p ∈ ws) := xhide (fun p hp => by
        rcases List.mem_append.1 hp with q | q
        · exact HP.out p q
        · simp at q; rw [q]; exact hr)
      have hz5 := HZ5.out
      have hsc2 := HW.out.iter hg2 (by omega) (own_iter hrg HW.out.ac.2.1) hlt h0b h0d
      have hno2 := own_iter hrg2 hsc2.ac.2.1
      have hkl : r.key.size ≤ maxLen := by have := (okW_iff.1 (hwk r hr)).1.2; unfold maxLen; omega
      have hal : (ps.flatMap fun p => seeL S C.key C.high p.key).length ≤ ps.length := flat_one _ (fun p => seeL_len _ _ _ _) ps
      have HSEE := xhide (see_any hsc2.pm ho hsc2.cb hsc2.mb hsc2.ac hsc2.big (by omega) (by unfold big at *; omega) r.key hkl)
      have CONT : Hid (∀ w5 : World, Rnd w2 w5 (w.heap.size + 3) v → (∃ v', Acc w5 (w.heap.size + 4) (w.heap.size + 3) v' ((ps.flatMap fun p => seeL S C.key C.high p.key) ++ seeL S C.key C.high r.key)) →
          w5.ranges Try.prog 9 RVs d W5.heap.size ws.length D (fun z => left z && !z.sameKey (.string r.key.data.toList)) cnt2 ∧ ∃ v', Hid (Sc w w5 X b d S C v' ((ps ++ [r]).flatMap fun p => seeL S C.key C.high p.key))) := xhide (by
        intro w5 hr5 ⟨v', ha5⟩
        have hsc5 := hsc2.rnd hr5 ha5 hlt h0b h0d
        refine ⟨ranges_same hrg2 (hr5.2 d (by have := hsc2.big; omega) (by omega) (fun q => by have := own_ge hsc2.ac.2.1 q; omega)) (hr5.2 _ hrg2.lt (by omega) hno2), v', xhide ?_⟩
        rw [List.flatMap_append]
        simpa using hsc5)
      clear hsc2 hno2 HW HC HP hr hkey hv hat hrg2 hg2 hs2 hlk hkl hal hz5
      go_wp2_with fail
      refine HSEE.out.mono ?_
      rintro e w5 ⟨rfl, hr5, ha5⟩
      obtain ⟨hrg5, v', HW5⟩ := CONT.out w5 hr5 ha5
      clear hr5 ha5 CONT HSEE
      go_wp2
      go_roundw
      case rel => exact ⟨_, cnt2, ps ++ [r], v', hrg5, by simp; omega, hC2, hP2, HW5⟩
      case measure => rw [hrg5.left_eq, hrg.left_eq]; exact hlt2
end
end Go.Proofs.Ytheidhkmmihjlaa
