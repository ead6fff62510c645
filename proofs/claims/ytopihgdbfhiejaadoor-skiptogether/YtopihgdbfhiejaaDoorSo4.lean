/-
  fits of a Next that has found a key. (Printed by gen_sn3.py.)
-/
import Derived.Test.YtopihgdbfhiejaaDoorSn3
import Derived.BigQuiet
import Derived.Deep.DeepCutAuto
set_option linter.unusedVariables false
set_option linter.unusedSimpArgs false
namespace Go.Proofs.YtopihgdbfhiejaaDoor
open Go.RowKit Go.Maps Go.Sort
section
variable {w w0 : World} {lb d : Nat} {K : Nat → Prop} {s : Sl} {l : List Un} {vo : Option Addr} {vc : Nat}
set_option maxRecDepth 100000 in
set_option maxHeartbeats 16000000 in
theorem fits_2t (E : Ev s l) (h : Hs w w0 lb d 10000000 K s l (.slice vo l.length vc) (.slice none 0 0) []) {i : Nat} {u : Un} (hu : l[i]? = some u) (hbad : bad u.x = false) (hp : pk u.x.kind 3 = 2) (hh : u.o.had = true) :
    Calls Tryd.prog 25 #[.slice vo l.length vc, .int .i64 (i : Int)] w0 fun e w' => e = .returned (.bool true) ∧ Below w0.heap.size w0 w' := by
  have hl40 := E.len
  have hil := (List.getElem?_eq_some_iff.1 hu).1
  have hii : (i : Int) < (l.length : Int) := by omega
  have hum := List.mem_of_getElem? hu
  obtain ⟨now, t, hti⟩ := E.ti
  have hui := hti.one u hum
  obtain ⟨st5, f16, iff5⟩ := hui.fin5 E.ok (E.all u hum)
  obtain ⟨a, ha⟩ : ∃ a, u.fin = some a := Option.isSome_iff_exists.1 (E.all u hum)
  obtain ⟨g, cap9, ev9⟩ : ∃ g cap9, Value.slice vo l.length vc = .slice (some ⟨g, 0, none⟩) l.length cap9 := by
    rcases h.row.2 with ⟨e, e0⟩ | ⟨g9, c9, cur9, e, -⟩
    · omega
    · exact ⟨g9, c9, e⟩
  simp only [Value.slice.injEq, true_and] at ev9
  obtain ⟨rfl, rfl⟩ := ev9
  have y0 : w0.cell? ⟨g, i * 8, none⟩ = some (.int .i64 u.x.w) := h.cellAt hu 0 (by decide)
  have y1 : w0.cell? ⟨g, i * 8 + 1, none⟩ = some (.int .i64 u.x.kind) := h.cellAt hu 1 (by decide)
  have y2 : w0.cell? ⟨g, i * 8 + 2, none⟩ = some (.string u.x.key) := h.cellAt hu 2 (by decide)
  have y3 : w0.cell? ⟨g, i * 8 + 3, none⟩ = some (.int .i64 u.x.ref) := h.cellAt hu 3 (by decide)
  have y4 : w0.cell? ⟨g, i * 8 + 4, none⟩ = some (.int .i64 u.x.h) := h.cellAt hu 4 (by decide)
  have HE := hide2 E
  have H0 := hide2 h
  have HUU := hide2 hu
  have HXO := hide2 (E.ox u hum)
  have HA := hide2 ha
  have HUI := hide2 hui
  have HIF := hide2 iff5
  have HTI := hide2 hti
  have hbA : Below w0.heap.size w0 (w0.alloc (.cells #[.int .i64 u.x.w, .int .i64 u.x.kind, .string u.x.key, .int .i64 u.x.ref, .int .i64 u.x.h] 33)) := (Below.refl _ _).alloc (Nat.le_refl _) _
  have HXA : Hid (Xw (w0.alloc (.cells #[.int .i64 u.x.w, .int .i64 u.x.kind, .string u.x.key, .int .i64 u.x.ref, .int .i64 u.x.h] 33)) w0.heap.size u) := hide2 (heap_alloc_new w0 _)
  have HHA := hide2 (h.below hbA)
  have hrf := ref_done ((h.below hbA).ops u hum) st5 f16
  have cp : (w0.alloc (.cells #[.int .i64 u.x.w, .int .i64 u.x.kind, .string u.x.key, .int .i64 u.x.ref, .int .i64 u.x.h] 33)).cell? ⟨g, i * 8 + 5, none⟩ = some (.pointer (some ⟨u.b, 0, none⟩)) := (h.below hbA).cellAt hu 5 (by decide)
  have HBA := hide2 hbA
  have e0 : (w0.alloc (.cells #[.int .i64 0, .int .i64 0, .string ⟨#[]⟩, .int .i64 0, .int .i64 0] 33)).heap[w0.heap.size]? = some (.cells #[.int .i64 0, .int .i64 0, .string ⟨#[]⟩, .int .i64 0, .int .i64 0] 33 (0, 0)) := heap_alloc_new w0 _
  have c0 : (w0.alloc (.cells #[.int .i64 0, .int .i64 0, .string ⟨#[]⟩, .int .i64 0, .int .i64 0] 33)).cell? ⟨w0.heap.size, 0, none⟩ = some (.int .i64 0) := by rw [Go.Joins.cell_of_block e0]; rfl
  have c1 : (w0.alloc (.cells #[.int .i64 0, .int .i64 0, .string ⟨#[]⟩, .int .i64 0, .int .i64 0] 33)).cell? ⟨w0.heap.size, 1, none⟩ = some (.int .i64 0) := by rw [Go.Joins.cell_of_block e0]; rfl
  have c2 : (w0.alloc (.cells #[.int .i64 0, .int .i64 0, .string ⟨#[]⟩, .int .i64 0, .int .i64 0] 33)).cell? ⟨w0.heap.size, 2, none⟩ = some (.string ⟨#[]⟩) := by rw [Go.Joins.cell_of_block e0]; rfl
  have c3 : (w0.alloc (.cells #[.int .i64 0, .int .i64 0, .string ⟨#[]⟩, .int .i64 0, .int .i64 0] 33)).cell? ⟨w0.heap.size, 3, none⟩ = some (.int .i64 0) := by rw [Go.Joins.cell_of_block e0]; rfl
  have c4 : (w0.alloc (.cells #[.int .i64 0, .int .i64 0, .string ⟨#[]⟩, .int .i64 0, .int .i64 0] 33)).cell? ⟨w0.heap.size, 4, none⟩ = some (.int .i64 0) := by rw [Go.Joins.cell_of_block e0]; rfl
  have f0 := Go.Joins.unfrozen_of_block e0 0
  have f1 := Go.Joins.unfrozen_of_block e0 1
  have f2 := Go.Joins.unfrozen_of_block e0 2
  have f3 := Go.Joins.unfrozen_of_block e0 3
  have f4 := Go.Joins.unfrozen_of_block e0 4
  have PK : Hid (pk u.x.kind 3 = 2) := hide2 hp
  have hk1 : okd u.x = 1 := by unfold okd; rw [if_neg (by omega)]; rw [if_neg (by omega)]
  have HK1 := hide2 hk1
  have HHD := hide2 hh
  have hfd := hui.fed (by rw [ha]; rfl) hbad
  have hc : u.o.code = 0 := hfd.code
  rw [hc] at hrf
  have HFD := hide2 hfd
  have HBAD := hide2 hbad
  obtain ⟨o, ho⟩ : ∃ o, o = u.o := ⟨_, rfl⟩
  rw [← ho] at hrf
  have HO := hide2 ho
  clear ho hc hfd
  rw [HO.out, hh, ← HO.out] at hrf
  clear hh hbad hp hk1
  have HRF := hide2 hrf
  clear e0 hbA E h hum hu ha hui iff5 hti st5 f16 hrf
  obtain ⟨xb, hxb⟩ : ∃ b, b = w0.heap.size := ⟨_, rfl⟩
  have HXB := hide2 hxb
  clear hxb
  go_enter Tryd.func25, Tryd.ntmps25
  go_wp2_with fail
  clear c0 c1 c2 c3 c4 f0 f1 f2 f3 f4 y0 y1 y2 y3 y4
  refine HRF.out.mono ?_
  rintro e w2 ⟨rfl, hb2⟩
  have H2 := hide2 (HHA.out.below hb2)
  have X2 := hide2 (HXA.out.below hb2)
  have B2 := hide2 (bel HBA.out hb2)
  obtain ⟨x1, x2⟩ := X2.out.cells
  have hpk := pick_any u.x.kind HXO.out.2.1 3 (by decide) (by decide) w2
  rw [PK.out] at hpk
  have HPK := hide2 hpk
  clear HRF hb2 HHA HXA HBA cp hpk
  go_wp2_with fail
  refine HPK.out.mono ?_
  rintro e w3 ⟨rfl, hw3⟩
  replace hw3 := hw3.symm
  subst hw3
  have hik := isKey_any u.x.key HXO.out.2.2.1 w2
  skip
  have HIK := hide2 hik
  clear HPK hik
  go_wp2_with fail
  refine HIK.out.mono ?_
  rintro e w3 ⟨rfl, hw3⟩
  replace hw3 := hw3.symm
  subst hw3
  clear HIK
  have HPT := hide2 (put_any HE.out H2.out u.x.key)
  clear x1 x2
  obtain ⟨x1, x2⟩ := X2.out.cells
  go_wp2_with fail
  refine HPT.out.mono ?_
  rintro e w3 ⟨r, rfl, hPt, hb3⟩
  have H3 := hide2 (H2.out.below hb3)
  have X3 := hide2 (X2.out.below hb3)
  have B3 := hide2 (bel B2.out hb3)
  have HPt := hide2 hPt
  clear HPT hb3 H2 X2 B2 x1 x2 hPt
  clear HPt
  have htw : u.o.tw = 0 := by
    rcases Nat.eq_zero_or_pos u.o.tw with q | q
    · exact q
    · exact absurd (HIF.out.2 (by omega)).1 (by rw [HK1.out]; decide)
  have hne : u.o.fk ≠ .empty ∧ ¬ Blw u.o.fk u.x.key := by
    rcases HFD.out.ans with q | q | q | q
    · exact absurd htw q.1
    · obtain ⟨_, _, q3, j, q4, q5, q6, q7⟩ := q
      refine ⟨?_, by rw [q3]; exact Blw.irrefl⟩
      rw [q3, ← q6]
      exact good_ne (HE.out.ok.gd j q4 q5)
    · obtain ⟨_, q2, _, ⟨j, q4, q5, q6, q7⟩, q8⟩ := q
      exact ⟨by rw [← q6]; exact good_ne (HE.out.ok.gd j q4 q5), fun c => Blw.irrefl (q8.trans c)⟩
    · exact absurd q.2.2.1 (by rw [HHD.out]; decide)
  have HNE := hide2 hne
  have HPT := hide2 (put_any HE.out H3.out u.o.fk)
  rw [← HO.out] at HPT
  clear hne htw
  go_wp2_with fail
  refine HPT.out.mono ?_
  rintro e w4 ⟨r2, rfl, hPt, hb4⟩
  obtain ⟨f, v, er, hv, hvw, hvk, hvr, hvb, v1, v2⟩ := HE.out.by HUU.out HA.out HBAD.out HNE.out.1 (by rw [← HO.out]; exact hPt)
  subst er
  have hfl := (List.getElem?_eq_some_iff.1 hv).1
  have hfi : (f : Int) < (l.length : Int) := by omega
  have hf0 : ¬ (f : Int) < 0 := by omega
  have H4 := H3.out.below hb4
  have X4 := X3.out.below hb4
  have B4 := bel B3.out hb4
  have z3 : w4.cell? ⟨g, f * 8 + 3, none⟩ = some (.int .i64 v.x.ref) := H4.cellAt hv 3 (by decide)
  have z6 : w4.cell? ⟨g, f * 8 + 6, none⟩ = some (.int .i64 (v.beg : Int)) := H4.cellAt hv 6 (by decide)
  have z7 : w4.cell? ⟨g, i * 8 + 7, none⟩ = some (.int .i64 (a : Int)) := by
    have := H4.cellAt HUU.out 7 (by decide)
    rw [this]
    show some (Value.int .i64 (finI u.fin)) = _
    rw [HA.out]; rfl
  obtain ⟨x1, x2⟩ := X4.cells
  have K2' : o.nm = v.x.ref := by rw [HO.out, hvr]
  have K3 : ¬ (a : Int) < (v.beg : Int) := by omega
  have K3n : ¬ a < v.beg := by omega
  have K6 : Op.bytesLess o.fk.toList u.x.key.toList = false := less_no (by rw [HO.out]; exact HNE.out.2)

  have NQ4 : Hid (∀ q, Hs w (w4.drewN q) lb d 10000000 K s l (.slice (some ⟨g, 0, none⟩) l.length vc) (.slice none 0 0) [] ∧ Xw (w4.drewN q) w0.heap.size u ∧ Below w0.heap.size w0 (w4.drewN q)) := hide2 (fun q => ⟨H4.below (below_drewN _ _ _), X4.below (below_drewN _ _ _), bel B4 (below_drewN _ _ _)⟩)
  clear hPt hb4 hv hvw hvk hvr v1 v2 HPT H4 HNE X4 B4 H3 X3 B3
  go_wp2_with fail
  go_quiet (fail)
  have NN4 := NQ4.out nq
  have H5 := hide2 NN4.1
  have X5 := hide2 NN4.2.1
  have B5 := hide2 NN4.2.2
  clear NN4 NQ4 z3 z6 z7 x1 x2 K6 K3 K3n hvb
  go_wp2
  go_loopw [14] (fun i wr => ∃ k : Nat, k ≤ l.length ∧ i = .int .i64 k ∧ Hid (Hs w wr lb d 10000000 K s l (.slice (some ⟨g, 0, none⟩) l.length vc) (.slice none 0 0) []) ∧ Hid (Xw wr w0.heap.size u) ∧ Hid (Below w0.heap.size w0 wr)) (fun i _ => l.length - (intOf i).toNat)
  case atStart => exact ⟨0, by omega, rfl, H5, X5, B5⟩
  case round =>
    clear H5 X5 B5
    obtain ⟨k, hk, rfl, H6, X6, B6⟩ := hrel
    by_cases hkl : k < l.length
    · have hki : (k : Int) < (l.length : Int) := by omega
      obtain ⟨v, hv⟩ : ∃ v, l[k]? = some v := ⟨_, List.getElem?_eq_getElem hkl⟩
      have hvm := List.mem_of_getElem? hv
      obtain ⟨st5, f16, iff5⟩ := (HTI.out.one v hvm).fin5 HE.out.ok (HE.out.all v hvm)
      obtain ⟨b, hb⟩ : ∃ b, v.fin = some b := Option.isSome_iff_exists.1 (HE.out.all v hvm)
      have cp : wr.cell? ⟨g, k * 8 + 5, none⟩ = some (.pointer (some ⟨v.b, 0, none⟩)) := H6.out.cellAt hv 5 (by decide)
      have HRF := hide2 (ref_done (H6.out.ops v hvm) st5 f16)
      have HV := hide2 hv
      have HB := hide2 hb
      have HXV := hide2 (HE.out.ox v hvm)
      clear hv hvm st5 f16 iff5 hb
      obtain ⟨p2, hp2⟩ : ∃ b, b = pk v.x.kind 3 := ⟨_, rfl⟩
      have PK2 := hide2 hp2.symm
      obtain ⟨cd, hcd⟩ : ∃ b, b = v.o.code := ⟨_, rfl⟩
      obtain ⟨hd2, hhd2⟩ : ∃ b, b = v.o.had := ⟨_, rfl⟩
      obtain ⟨fk, hfk⟩ : ∃ b, b = v.o.fk := ⟨_, rfl⟩
      rw [← hcd, ← hhd2, ← hfk] at HRF
      have HCD := hide2 hcd
      have HFK := hide2 hfk
      clear hp2 hcd hhd2 hfk
      go_wp2_with fail
      refine HRF.out.mono ?_
      rintro e w7 ⟨rfl, hb7⟩
      have H7 := H6.out.below hb7
      have X7 := X6.out.below hb7
      have B7 := bel B6.out hb7
      have NQ : Hid (∀ q, Hs w (w7.drewN q) lb d 10000000 K s l (.slice (some ⟨g, 0, none⟩) l.length vc) (.slice none 0 0) [] ∧ Xw (w7.drewN q) w0.heap.size u ∧ Below w0.heap.size w0 (w7.drewN q)) := hide2 (fun q => ⟨H7.below (below_drewN _ _ _), X7.below (below_drewN _ _ _), bel B7 (below_drewN _ _ _)⟩)
      have HPK2 : ∀ q, Calls Tryd.prog 12 #[.int .i64 v.x.kind, .int .i64 3] (w7.drewN q) fun e w' => e = .returned (.int .i64 ((p2 : Nat) : Int)) ∧ w' = w7.drewN q := fun q => by
        have := pick_any v.x.kind HXV.out.2.1 3 (by decide) (by decide) (w7.drewN q)
        rw [PK2.out] at this
        exact this
      have z1 : w7.cell? ⟨g, k * 8 + 1, none⟩ = some (.int .i64 v.x.kind) := H7.cellAt HV.out 1 (by decide)
      have z7 : w7.cell? ⟨g, k * 8 + 7, none⟩ = some (.int .i64 (b : Int)) := by
        have := H7.cellAt HV.out 7 (by decide)
        rw [this]
        show some (Value.int .i64 (finI v.fin)) = _
        rw [HB.out]; rfl
      have z6 : w7.cell? ⟨g, i * 8 + 6, none⟩ = some (.int .i64 (u.beg : Int)) := H7.cellAt HUU.out 6 (by decide)
      obtain ⟨x1, x2⟩ := X7.cells
      clear HRF hb7 H6 X6 B6 H7 X7 B7 cp
      by_cases a1 : u.beg ≤ b
      · have A1 : (u.beg : Int) ≤ (b : Int) := by omega
        go_wp2_with fail
        go_quiet ((go_at_call 12; exact Calls.quiet_of_same (HPK2 _)))
        have BQ := hide2 (NQ.out nq)
        go_wp2
        go_roundw
        case rel => exact ⟨k + 1, by omega, by go_num, hide2 BQ.out.1, hide2 BQ.out.2.1, hide2 BQ.out.2.2⟩
        case measure => simp [intOf]; omega
      · have A1 : ¬ (u.beg : Int) ≤ (b : Int) := by omega
        have A1' : (b : Int) < (u.beg : Int) := by omega
        by_cases a2 : cd = 0
        · have HC0 := hide2 a2
          subst a2
          by_cases a3 : fk = .empty
          · subst a3
            go_wp2_with fail
            go_quiet ((go_at_call 12; exact Calls.quiet_of_same (HPK2 _)))
            have BQ := hide2 (NQ.out nq)
            go_wp2
            go_roundw
            case rel => exact ⟨k + 1, by omega, by go_num, hide2 BQ.out.1, hide2 BQ.out.2.1, hide2 BQ.out.2.2⟩
            case measure => simp [intOf]; omega
          · have A3 : (fk.toList == (⟨#[]⟩ : ByteArray).toList) = false := same_no a3
            have A3' : (fk.toList == []) = false := by
              have e9 : (⟨#[]⟩ : ByteArray).toList = [] := by rw [ByteArray.toList_eq]
              rw [← e9]; exact A3
            have NM : Hid (Nm u.x u.o fk) := hide2 (by
              have := HTI.out.ord u (List.mem_of_getElem? HUU.out) v (List.mem_of_getElem? HV.out) a b HA.out HB.out (by have := HUI.out.bg; have := (HUI.out.ed a HA.out).1; omega) HBAD.out HCD.out.symm (by rw [← HFK.out]; exact a3)
              rw [← HFK.out] at this
              exact this)
            clear a3
            by_cases a4 : p2 = 0
            · have A4 : (p2 : Int) = 0 := by omega
              have A4' : decide ((p2 : Int) = 0) = true := decide_eq_true A4
              by_cases q9 : Blw fk u.x.key
              · have K1 := less_yes q9
                clear q9
                go_wp2_with fail
                go_quiet ((go_at_call 12; exact Calls.quiet_of_same (HPK2 _)))
                have BQ := hide2 (NQ.out nq)
                go_wp2
                go_roundw
                case rel => exact ⟨k + 1, by omega, by go_num, hide2 BQ.out.1, hide2 BQ.out.2.1, hide2 BQ.out.2.2⟩
                case measure => simp [intOf]; omega
              · have hq9 := NM.out.2 HK1.out q9
                have K1 := less_no q9
                have K2 := less_no hq9.2
                rw [← HO.out] at K2
                clear q9 hq9
                go_wp2_with fail
                go_quiet ((go_at_call 12; exact Calls.quiet_of_same (HPK2 _)))
                have BQ := hide2 (NQ.out nq)
                go_wp2
                go_roundw
                case rel => exact ⟨k + 1, by omega, by go_num, hide2 BQ.out.1, hide2 BQ.out.2.1, hide2 BQ.out.2.2⟩
                case measure => simp [intOf]; omega
            · have A4 : ¬ (p2 : Int) = 0 := by omega
              have A4' : decide ((p2 : Int) = 0) = false := decide_eq_false A4
              cases hd2 with
              | false =>
                clear NM
                go_wp2_with fail
                go_quiet ((go_at_call 12; exact Calls.quiet_of_same (HPK2 _)))
                have BQ := hide2 (NQ.out nq)
                go_wp2
                go_roundw
                case rel => exact ⟨k + 1, by omega, by go_num, hide2 BQ.out.1, hide2 BQ.out.2.1, hide2 BQ.out.2.2⟩
                case measure => simp [intOf]; omega
              | true =>
                by_cases q9 : Blw fk u.x.key
                · have K1 := less_yes q9
                  clear q9
                  go_wp2_with fail
                  go_quiet ((go_at_call 12; exact Calls.quiet_of_same (HPK2 _)))
                  have BQ := hide2 (NQ.out nq)
                  go_wp2
                  go_roundw
                  case rel => exact ⟨k + 1, by omega, by go_num, hide2 BQ.out.1, hide2 BQ.out.2.1, hide2 BQ.out.2.2⟩
                  case measure => simp [intOf]; omega
                · have hq9 := NM.out.2 HK1.out q9
                  have K1 := less_no q9
                  have K2 := less_no hq9.2
                  rw [← HO.out] at K2
                  clear q9 hq9
                  go_wp2_with fail
                  go_quiet ((go_at_call 12; exact Calls.quiet_of_same (HPK2 _)))
                  have BQ := hide2 (NQ.out nq)
                  go_wp2
                  go_roundw
                  case rel => exact ⟨k + 1, by omega, by go_num, hide2 BQ.out.1, hide2 BQ.out.2.1, hide2 BQ.out.2.2⟩
                  case measure => simp [intOf]; omega
        · have c100 : cd = 100 := by
            have hvm := List.mem_of_getElem? HV.out
            cases hbv : bad v.x with
            | true => rw [HCD.out, (HTI.out.one v hvm).nfed (by rw [HB.out]; rfl) hbv]
            | false => exact absurd (HCD.out.trans ((HTI.out.one v hvm).fed (by rw [HB.out]; rfl) hbv).code) a2
          subst c100
          clear a2
          go_wp2_with fail
          go_quiet ((go_at_call 12; exact Calls.quiet_of_same (HPK2 _)))
          have BQ := hide2 (NQ.out nq)
          go_wp2
          go_roundw
          case rel => exact ⟨k + 1, by omega, by go_num, hide2 BQ.out.1, hide2 BQ.out.2.1, hide2 BQ.out.2.2⟩
          case measure => simp [intOf]; omega
    · have hki : ¬ (k : Int) < (l.length : Int) := by omega
      go_wp2
      go_ret
      exact ⟨rfl, B6.out⟩
end
end Go.Proofs.YtopihgdbfhiejaaDoor
