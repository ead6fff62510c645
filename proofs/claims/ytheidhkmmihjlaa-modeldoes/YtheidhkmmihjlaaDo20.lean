/-
  XmE: Do, kind by kind.
-/
import Derived.Test.YtheidhkmmihjlaaDo19
set_option linter.unusedVariables false
set_option linter.unusedSimpArgs false
namespace Go.Proofs.Ytheidhkmmihjlaa
open Go.RowKit Go.Shelf Go.Maps
attribute [local go_sem] Oper.semAt_some
section
set_option maxHeartbeats 1000000
set_option maxRecDepth 100000
variable {w : World} {X b : Nat} {c : Option Nat} {S : Ms} {C : Cl}
theorem do_5 (h : Pm w X b c S) (hLen : S.L.length + 64 ≤ big) (mode draw nn : Int) (key high val : ByteArray) : Calls Try.prog 13 #[ptr X, Cl.v ⟨5, mode, key, high, val, draw, nn⟩] w fun e w' => Dn w w' X b c (stp S (⟨5, mode, key, high, val, draw, nn⟩ : Cl)) e := by
  obtain ⟨W2, hW2, hb2, hz, hr, hc⟩ := laid2 w (⟨5, mode, key, high, val, draw, nn⟩ : Cl)
  have hLen2 : S.L.length + 64 ≤ 1000000000000000 := by unfold big at hLen; omega
  have HN := xhide (none_any (h.below hb2))
  have HD := xhide (fun w => deeds_any w)
  have k0 : W2.cell? ⟨w.heap.size, 0, none⟩ = some (.int .i64 5) := by rw [Go.Joins.cell_of_block hc]; rfl
  have hst : stp S (⟨5, mode, key, high, val, draw, nn⟩ : Cl) = if fst0 (wrg S (⟨5, mode, key, high, val, draw, nn⟩ : Cl) 5) = 0 then ans S (⟨5, mode, key, high, val, draw, nn⟩ : Cl) 5 else (S, { code := fst0 (wrg S (⟨5, mode, key, high, val, draw, nn⟩ : Cl) 5) }) := by unfold stp; rfl
  have hlw : w.heap.size < W2.heap.size := by omega
  have hix : ∀ u : World, (Instr.index 77 (.agg tbl) (.int .i64 5)).run Try.prog u = .ok (.agg #[.func (.func 48) #[] #[], .func (.func 49) #[] #[], .func (.func 53) #[] #[], .func (.func 56) #[] #[], .func (.func 55) #[] #[]]) u := fun u => by kernel_rfl
  have H := xhide h
  have HB2 := xhide hb2
  have HR := xhide hr
  have HC := xhide hc
  have HZ := xhide hz
  have HST := xhide hst
  clear h hb2 hr hc hz hst
  go_enter Try.func13, Try.ntmps13
  go_wp2_with fail
  rw [← hW2]
  clear hW2
  refine HN.out.mono ?_
  rintro e w1 ⟨rfl, rfl⟩
  go_wp2_with fail
  obtain ⟨K1, HQ, HQ1⟩ : ∃ K1 : Act → World → Prop, Hid (∀ D w', Lp w w' X b c S (⟨5, mode, key, high, val, draw, nn⟩ : Cl) D (deedObj (.func (.func 48) #[] #[]) (.func (.func 49) #[] #[]) (.func (.func 53) #[] #[]) (.func (.func 56) #[] #[]) (.func (.func 55) #[] #[])) → K1 { tmps := #[ptr X, Cl.v ⟨5, mode, key, high, val, draw, nn⟩, undef, ptr w.heap.size, ptr (w.heap.size + 1), ptr D, undef, undef, undef, ptr X, .bool false, undef, ptr w.heap.size, .int .i64 5, .bool false, .bool false, ptr w.heap.size, .int .i64 5, .bool false, .bool false, undef, .agg tbl, ptr w.heap.size, .int .i64 5, .agg #[.func (.func 48) #[] #[], .func (.func 49) #[] #[], .func (.func 53) #[] #[], .func (.func 56) #[] #[], .func (.func 55) #[] #[]], undef, undef, undef, undef, undef, undef, undef, undef, undef, undef, undef, undef, undef, undef, undef, undef, undef, undef, undef, undef, undef], defers := [] } w') ∧ Hid (∀ a w', K1 a w' → ∃ D, a = { tmps := #[ptr X, Cl.v ⟨5, mode, key, high, val, draw, nn⟩, undef, ptr w.heap.size, ptr (w.heap.size + 1), ptr D, undef, undef, undef, ptr X, .bool false, undef, ptr w.heap.size, .int .i64 5, .bool false, .bool false, ptr w.heap.size, .int .i64 5, .bool false, .bool false, undef, .agg tbl, ptr w.heap.size, .int .i64 5, .agg #[.func (.func 48) #[] #[], .func (.func 49) #[] #[], .func (.func 53) #[] #[], .func (.func 56) #[] #[], .func (.func 55) #[] #[]], undef, undef, undef, undef, undef, undef, undef, undef, undef, undef, undef, undef, undef, undef, undef, undef, undef, undef, undef, undef, undef], defers := [] } ∧ Hid (Lp w w' X b c S (⟨5, mode, key, high, val, draw, nn⟩ : Cl) D (deedObj (.func (.func 48) #[] #[]) (.func (.func 49) #[] #[]) (.func (.func 53) #[] #[]) (.func (.func 56) #[] #[]) (.func (.func 55) #[] #[])))) :=
    ⟨fun a' w' => ∃ D, a' = { tmps := #[ptr X, Cl.v ⟨5, mode, key, high, val, draw, nn⟩, undef, ptr w.heap.size, ptr (w.heap.size + 1), ptr D, undef, undef, undef, ptr X, .bool false, undef, ptr w.heap.size, .int .i64 5, .bool false, .bool false, ptr w.heap.size, .int .i64 5, .bool false, .bool false, undef, .agg tbl, ptr w.heap.size, .int .i64 5, .agg #[.func (.func 48) #[] #[], .func (.func 49) #[] #[], .func (.func 53) #[] #[], .func (.func 56) #[] #[], .func (.func 55) #[] #[]], undef, undef, undef, undef, undef, undef, undef, undef, undef, undef, undef, undef, undef, undef, undef, undef, undef, undef, undef, undef, undef], defers := [] } ∧ Hid (Lp w w' X b c S (⟨5, mode, key, high, val, draw, nn⟩ : Cl) D (deedObj (.func (.func 48) #[] #[]) (.func (.func 49) #[] #[]) (.func (.func 53) #[] #[]) (.func (.func 56) #[] #[]) (.func (.func 55) #[] #[]))), xhide (fun D w' h => ⟨D, rfl, xhide h⟩), xhide (fun _ _ h => h)⟩
  refine wp_then K1 ?_ ?_
  · go_region_with (go_at_call 34; refine (HD.out _).mono ?_; rintro e w3 ⟨rfl, hb3⟩; obtain ⟨hlow3, he3, hs3⟩ := low_of hb3 HB2.out HZ.out (by first | exact Below.refl _ _ | exact (Below.refl _ _).drew | exact (ML.below1 _ _).drew | exact ((Below.refl _ _).drew.alloc (Nat.le_refl _) _)); have hc3 := (he3 _ hlw).trans HC.out; have k3 : w3.cell? ⟨w.heap.size, 0, none⟩ = some (.int .i64 5) := (by rw [Go.Joins.cell_of_block hc3]; rfl); have hlw3 : w.heap.size < w3.heap.size := (Array.getElem?_eq_some_iff.1 hc3).1; have hr3 := (he3 (w.heap.size + 1) (by have := HZ.out; omega)).trans HR.out; have hs4 : w.heap.size + 2 ≤ w3.heap.size := (by have := HZ.out; omega); first | (have hd3 : w3.heap[w1.heap.size]? = some (deedObj .nilFunc .nilFunc .nilFunc .nilFunc .nilFunc) := (hb3.block w1.heap.size (by simp)).trans (ML.heap_alloc_at (by simp) _); obtain ⟨⟨p0, p1, p2, p3, p4⟩, r0, r1, r2, r3, r4⟩ := deed_cells hd3; have hlD : w1.heap.size < w3.heap.size := (Array.getElem?_eq_some_iff.1 hd3).1) | skip)
    all_goals
      first
        | exact HQ.out _ _ (lp_old H.out hlow3 hc3 hr3 hd3 (by have := HZ.out; omega) _ _ _ _ _)
        | exact HQ.out _ _ (lp_new H.out hlow3 hc3 hr3 hs4 _)
        | exact HQ.out _ _ (lp_old H.out hlow3 hc3 hr3 hd3 (by have := HZ.out; omega) _ _ _ _ _).drew
        | exact HQ.out _ _ (lp_new H.out hlow3 hc3 hr3 hs4 _).drew
  intro a' w5 hq
  obtain ⟨D, rfl, HL⟩ := HQ1.out a' w5 hq
  clear hq HQ HQ1
  dsimp only []
  have hA := HL.out
  obtain ⟨y0, y1, y2, y3, y4⟩ : w5.cell? ⟨D, 0, none⟩ = some (.func (.func 48) #[] #[]) ∧ w5.cell? ⟨D, 1, none⟩ = some (.func (.func 49) #[] #[]) ∧ w5.cell? ⟨D, 2, none⟩ = some (.func (.func 53) #[] #[]) ∧ w5.cell? ⟨D, 3, none⟩ = some (.func (.func 56) #[] #[]) ∧ w5.cell? ⟨D, 4, none⟩ = some (.func (.func 55) #[] #[]) := by
    refine ⟨?_, ?_, ?_, ?_, ?_⟩ <;> (rw [Go.Joins.cell_of_block hA.dd]; rfl)
  have ix0 : ∀ u : World, (Instr.index 73 (.agg #[.func (.func 48) #[] #[], .func (.func 49) #[] #[], .func (.func 53) #[] #[], .func (.func 56) #[] #[]]) (.int .i64 0)).run Try.prog u = .ok (.func (.func 48) #[] #[]) u := fun u => by kernel_rfl
  have ix1 : ∀ u : World, (Instr.index 73 (.agg #[.func (.func 48) #[] #[], .func (.func 49) #[] #[], .func (.func 53) #[] #[], .func (.func 56) #[] #[]]) (.int .i64 1)).run Try.prog u = .ok (.func (.func 49) #[] #[]) u := fun u => by kernel_rfl
  have ix2 : ∀ u : World, (Instr.index 73 (.agg #[.func (.func 48) #[] #[], .func (.func 49) #[] #[], .func (.func 53) #[] #[], .func (.func 56) #[] #[]]) (.int .i64 2)).run Try.prog u = .ok (.func (.func 53) #[] #[]) u := fun u => by kernel_rfl
  have ix3 : ∀ u : World, (Instr.index 73 (.agg #[.func (.func 48) #[] #[], .func (.func 49) #[] #[], .func (.func 53) #[] #[], .func (.func 56) #[] #[]]) (.int .i64 3)).run Try.prog u = .ok (.func (.func 56) #[] #[]) u := fun u => by kernel_rfl
  have nq0 : ∀ u : World, (binOp .eql 55 (.func (.func 56) #[] #[]) .nilFunc).run Try.prog u = .ok (.bool false) u := fun u => by kernel_rfl
  have nq1 : ∀ u : World, (binOp .eql 55 (.func (.func 48) #[] #[]) .nilFunc).run Try.prog u = .ok (.bool false) u := fun u => by kernel_rfl
  have nq2 : ∀ u : World, (binOp .eql 55 (.func (.func 49) #[] #[]) .nilFunc).run Try.prog u = .ok (.bool false) u := fun u => by kernel_rfl
  have nq3 : ∀ u : World, (binOp .eql 55 (.func (.func 53) #[] #[]) .nilFunc).run Try.prog u = .ok (.bool false) u := fun u => by kernel_rfl
  have nqn : ∀ u : World, (binOp .eql 55 .nilFunc .nilFunc).run Try.prog u = .ok (.bool true) u := fun u => by kernel_rfl
  obtain ⟨p, hp⟩ : ∃ p, p = ans S (⟨5, mode, key, high, val, draw, nn⟩ : Cl) 5 := ⟨_, rfl⟩
  rw [← hp] at HST
  clear hA
  go_wp2_with fail
  go_loopw [27] (fun i wr => ∃ k : Nat, k ≤ 4 ∧ i = .int .i64 (k : Nat) ∧ Hid ((0 < k → (S.ws.isNone) = false) ∧ (1 < k → (!isK (⟨5, mode, key, high, val, draw, nn⟩ : Cl).key) = false) ∧ (2 < k → (!isV (⟨5, mode, key, high, val, draw, nn⟩ : Cl).val) = false) ∧ (3 < k → (!(look S (⟨5, mode, key, high, val, draw, nn⟩ : Cl).key).isSome) = false)) ∧ Hid (Lp w wr X b c S (⟨5, mode, key, high, val, draw, nn⟩ : Cl) D (deedObj (.func (.func 48) #[] #[]) (.func (.func 49) #[] #[]) (.func (.func 53) #[] #[]) (.func (.func 56) #[] #[]) (.func (.func 55) #[] #[])))) (fun i _ => 5 - (intOf i).toNat)
  case atStart => exact ⟨0, by omega, rfl, xhide (by simp), HL⟩
  case round =>
    obtain ⟨k, hk, rfl, HF, HL⟩ := hrel
    have hA := HL.out
    clear y0 y1 y2 y3 y4
    have y4 : wr.cell? ⟨D, 4, none⟩ = some (.func (.func 55) #[] #[]) := by rw [Go.Joins.cell_of_block hA.dd]; rfl
    have zc : ∀ i v, [.int .i64 5, .int .i64 mode, .string key, .string high, .string val, .int .i64 draw, .int .i64 nn][i]? = some v → wr.cell? ⟨w.heap.size, i, none⟩ = some v := by
      intro i v hv
      rw [Go.Joins.cell_of_block hA.cb]
      simpa using hv
    have z0 := zc 0 _ rfl
    have z1 := zc 1 _ rfl
    have z2 := zc 2 _ rfl
    have z3 := zc 3 _ rfl
    have z4 := zc 4 _ rfl
    have z5 := zc 5 _ rfl
    have z6 := zc 6 _ rfl
    obtain ⟨⟨q0, q1, q2, q3, q4, q5⟩, g0, g1, g2, g3, g4, g5⟩ := rp_cells hA.rp
    have hl1 : w.heap.size < wr.heap.size := (Array.getElem?_eq_some_iff.1 hA.cb).1
    have hl2 : w.heap.size + 1 < wr.heap.size := (Array.getElem?_eq_some_iff.1 hA.rp).1
    have hl3 : D < wr.heap.size := (Array.getElem?_eq_some_iff.1 hA.dd).1
    clear zc
    rcases k with _ | _ | _ | _ | k
    · have hL := HL.out
      have HCALL := xhide (isNotOpen_any hL.pm (⟨5, mode, key, high, val, draw, nn⟩ : Cl))
      clear hL hA
      cases hc : (S.ws.isNone) with
      | true =>
        have hfst : fst0 (wrg S (⟨5, mode, key, high, val, draw, nn⟩ : Cl) 5) = 152 := by unfold wrg fst0; simp [hc, fst0]
        have FIN : Hid (∀ wz, Below wr.heap.size wr wz → Dn w (rpSet wz (w.heap.size + 1) (.int .i64 152) (.string .empty) (.bool false) (.slice none 0 0) (.int .i64 0) (.int .i64 0)) X b c (stp S (⟨5, mode, key, high, val, draw, nn⟩ : Cl)) (.returned (rp0 152 .empty false 0)) ∧ wz.heap[w.heap.size + 1]? = some rpB) := xhide (fun wz hz => by
          rw [HST.out, hfst, if_neg (by decide)]
          exact ⟨do_code H.out (HL.out.below hz).low, (HL.out.below hz).rp⟩)
        go_wp2_with fail
        refine HCALL.out.mono ?_
        rintro e w6 ⟨he, hb6⟩
        rw [hc] at he
        simp only [if_true] at he
        subst he
        obtain ⟨hfin, hr6⟩ := FIN.out w6 hb6
        have HFIN := xhide hfin
        have HR6 := xhide hr6
        obtain ⟨⟨q0, q1, q2, q3, q4, q5⟩, g0, g1, g2, g3, g4, g5⟩ := rp_cells hr6
        have hl2 : w.heap.size + 1 < w6.heap.size := (Array.getElem?_eq_some_iff.1 hr6).1
        clear hfin hr6 FIN HCALL hb6
        go_wp2
        exact bodyPost_ret (v := rp0 152 .empty false 0) (results_cell_row (p := 4) (ty := 41) rfl _ _ (w.heap.size + 1) 41 _ (0, 0) _ rfl (rp_set HR6.out _ _ _ _ _ _) Try.underlying41 rfl (by kernel_rfl)) rfl HFIN.out
      | false =>
        go_wp2_with fail
        refine HCALL.out.mono ?_
        rintro e w6 ⟨he, hb6⟩
        rw [hc] at he
        simp only [if_false, Bool.false_eq_true] at he
        subst he
        have HL6 := xhide (HL.out.below hb6)
        clear HCALL hb6
        go_wp2
        go_roundw
        case rel => exact ⟨1, by omega, by go_num, xhide (by simp [hc]), HL6⟩
        case measure => simp [intOf]
    · have hL := HL.out
      have pv0 := HF.out.1 (by omega)
      have HCALL := xhide (noKey_any X (⟨5, mode, key, high, val, draw, nn⟩ : Cl) wr)
      clear hL hA
      cases hc : (!isK (⟨5, mode, key, high, val, draw, nn⟩ : Cl).key) with
      | true =>
        have hfst : fst0 (wrg S (⟨5, mode, key, high, val, draw, nn⟩ : Cl) 5) = 154 := by unfold wrg fst0; simp [pv0, hc, fst0]
        have FIN : Hid (∀ wz, Below wr.heap.size wr wz → Dn w (rpSet wz (w.heap.size + 1) (.int .i64 154) (.string .empty) (.bool false) (.slice none 0 0) (.int .i64 0) (.int .i64 0)) X b c (stp S (⟨5, mode, key, high, val, draw, nn⟩ : Cl)) (.returned (rp0 154 .empty false 0)) ∧ wz.heap[w.heap.size + 1]? = some rpB) := xhide (fun wz hz => by
          rw [HST.out, hfst, if_neg (by decide)]
          exact ⟨do_code H.out (HL.out.below hz).low, (HL.out.below hz).rp⟩)
        go_wp2_with fail
        refine HCALL.out.mono ?_
        rintro e w6 ⟨he, hb6⟩
        rw [hc] at he
        simp only [if_true] at he
        subst he
        obtain ⟨hfin, hr6⟩ := FIN.out w6 hb6
        have HFIN := xhide hfin
        have HR6 := xhide hr6
        obtain ⟨⟨q0, q1, q2, q3, q4, q5⟩, g0, g1, g2, g3, g4, g5⟩ := rp_cells hr6
        have hl2 : w.heap.size + 1 < w6.heap.size := (Array.getElem?_eq_some_iff.1 hr6).1
        clear hfin hr6 FIN HCALL hb6
        go_wp2
        exact bodyPost_ret (v := rp0 154 .empty false 0) (results_cell_row (p := 4) (ty := 41) rfl _ _ (w.heap.size + 1) 41 _ (0, 0) _ rfl (rp_set HR6.out _ _ _ _ _ _) Try.underlying41 rfl (by kernel_rfl)) rfl HFIN.out
      | false =>
        go_wp2_with fail
        refine HCALL.out.mono ?_
        rintro e w6 ⟨he, hb6⟩
        rw [hc] at he
        simp only [if_false, Bool.false_eq_true] at he
        subst he
        have HL6 := xhide (HL.out.below hb6)
        clear HCALL hb6
        go_wp2
        go_roundw
        case rel => exact ⟨2, by omega, by go_num, xhide (by simp [pv0, hc]), HL6⟩
        case measure => simp [intOf]
    · have hL := HL.out
      have pv0 := HF.out.1 (by omega)
      have pv1 := HF.out.2.1 (by omega)
      have HCALL := xhide (noValue_any X (⟨5, mode, key, high, val, draw, nn⟩ : Cl) wr)
      clear hL hA
      cases hc : (!isV (⟨5, mode, key, high, val, draw, nn⟩ : Cl).val) with
      | true =>
        have hfst : fst0 (wrg S (⟨5, mode, key, high, val, draw, nn⟩ : Cl) 5) = 155 := by unfold wrg fst0; simp [pv0, pv1, hc, fst0]
        have FIN : Hid (∀ wz, Below wr.heap.size wr wz → Dn w (rpSet wz (w.heap.size + 1) (.int .i64 155) (.string .empty) (.bool false) (.slice none 0 0) (.int .i64 0) (.int .i64 0)) X b c (stp S (⟨5, mode, key, high, val, draw, nn⟩ : Cl)) (.returned (rp0 155 .empty false 0)) ∧ wz.heap[w.heap.size + 1]? = some rpB) := xhide (fun wz hz => by
          rw [HST.out, hfst, if_neg (by decide)]
          exact ⟨do_code H.out (HL.out.below hz).low, (HL.out.below hz).rp⟩)
        go_wp2_with fail
        refine HCALL.out.mono ?_
        rintro e w6 ⟨he, hb6⟩
        rw [hc] at he
        simp only [if_true] at he
        subst he
        obtain ⟨hfin, hr6⟩ := FIN.out w6 hb6
        have HFIN := xhide hfin
        have HR6 := xhide hr6
        obtain ⟨⟨q0, q1, q2, q3, q4, q5⟩, g0, g1, g2, g3, g4, g5⟩ := rp_cells hr6
        have hl2 : w.heap.size + 1 < w6.heap.size := (Array.getElem?_eq_some_iff.1 hr6).1
        clear hfin hr6 FIN HCALL hb6
        go_wp2
        exact bodyPost_ret (v := rp0 155 .empty false 0) (results_cell_row (p := 4) (ty := 41) rfl _ _ (w.heap.size + 1) 41 _ (0, 0) _ rfl (rp_set HR6.out _ _ _ _ _ _) Try.underlying41 rfl (by kernel_rfl)) rfl HFIN.out
      | false =>
        go_wp2_with fail
        refine HCALL.out.mono ?_
        rintro e w6 ⟨he, hb6⟩
        rw [hc] at he
        simp only [if_false, Bool.false_eq_true] at he
        subst he
        have HL6 := xhide (HL.out.below hb6)
        clear HCALL hb6
        go_wp2
        go_roundw
        case rel => exact ⟨3, by omega, by go_num, xhide (by simp [pv0, pv1, hc]), HL6⟩
        case measure => simp [intOf]
    · have hL := HL.out
      have hopen : S.ws ≠ none := by
        have := HF.out.1 (by omega)
        intro e
        rw [e] at this
        cases this
      have hkey : ((⟨5, mode, key, high, val, draw, nn⟩ : Cl)).key.size ≤ maxLen := by
        have h1 := HF.out.2.1 (by omega)
        have h2 : isK ((⟨5, mode, key, high, val, draw, nn⟩ : Cl)).key = true := by simpa using h1
        have h3 := (isK_iff.1 h2).2
        unfold maxLen
        omega
      have pv0 := HF.out.1 (by omega)
      have pv1 := HF.out.2.1 (by omega)
      have pv2 := HF.out.2.2.1 (by omega)
      have HCALL := xhide (isMissing_any hL.pm hopen hkey)
      clear hL hA
      cases hc : (!(look S (⟨5, mode, key, high, val, draw, nn⟩ : Cl).key).isSome) with
      | true =>
        have hfst : fst0 (wrg S (⟨5, mode, key, high, val, draw, nn⟩ : Cl) 5) = 157 := by unfold wrg fst0; simp [pv0, pv1, pv2, hc, fst0]
        have FIN : Hid (∀ wz, Below wr.heap.size wr wz → Dn w (rpSet wz (w.heap.size + 1) (.int .i64 157) (.string .empty) (.bool false) (.slice none 0 0) (.int .i64 0) (.int .i64 0)) X b c (stp S (⟨5, mode, key, high, val, draw, nn⟩ : Cl)) (.returned (rp0 157 .empty false 0)) ∧ wz.heap[w.heap.size + 1]? = some rpB) := xhide (fun wz hz => by
          rw [HST.out, hfst, if_neg (by decide)]
          exact ⟨do_code H.out (HL.out.below hz).low, (HL.out.below hz).rp⟩)
        go_wp2_with fail
        refine HCALL.out.mono ?_
        rintro e w6 ⟨he, hb6⟩
        rw [hc] at he
        simp only [if_true] at he
        subst he
        obtain ⟨hfin, hr6⟩ := FIN.out w6 hb6
        have HFIN := xhide hfin
        have HR6 := xhide hr6
        obtain ⟨⟨q0, q1, q2, q3, q4, q5⟩, g0, g1, g2, g3, g4, g5⟩ := rp_cells hr6
        have hl2 : w.heap.size + 1 < w6.heap.size := (Array.getElem?_eq_some_iff.1 hr6).1
        clear hfin hr6 FIN HCALL hb6
        go_wp2
        exact bodyPost_ret (v := rp0 157 .empty false 0) (results_cell_row (p := 4) (ty := 41) rfl _ _ (w.heap.size + 1) 41 _ (0, 0) _ rfl (rp_set HR6.out _ _ _ _ _ _) Try.underlying41 rfl (by kernel_rfl)) rfl HFIN.out
      | false =>
        go_wp2_with fail
        refine HCALL.out.mono ?_
        rintro e w6 ⟨he, hb6⟩
        rw [hc] at he
        simp only [if_false, Bool.false_eq_true] at he
        subst he
        have HL6 := xhide (HL.out.below hb6)
        clear HCALL hb6
        go_wp2
        go_roundw
        case rel => exact ⟨4, by omega, by go_num, xhide (by simp [pv0, pv1, pv2, hc]), HL6⟩
        case measure => simp [intOf]
    · have hk0 : k = 0 := by omega
      subst hk0
      have hL := HL.out
      have hopen : S.ws ≠ none := by
        have := HF.out.1 (by omega)
        intro e
        rw [e] at this
        cases this
      have hiK : isK ((⟨5, mode, key, high, val, draw, nn⟩ : Cl)).key = true := by
        have h1 := HF.out.2.1 (by omega)
        simpa using h1
      have hkey : ((⟨5, mode, key, high, val, draw, nn⟩ : Cl)).key.size ≤ maxLen := by
        have h3 := (isK_iff.1 hiK).2
        unfold maxLen
        omega
      have hiV : isV ((⟨5, mode, key, high, val, draw, nn⟩ : Cl)).val = true := by
        have h1 := HF.out.2.2.1 (by omega)
        simpa using h1
      have hput : okW ⟨((⟨5, mode, key, high, val, draw, nn⟩ : Cl)).key, ((⟨5, mode, key, high, val, draw, nn⟩ : Cl)).val, false⟩ = true := okW_iff.2 ⟨isK_iff.1 hiK, isV_iff.1 hiV, fun q => nomatch q⟩
      have pv0 := HF.out.1 (by omega)
      have pv1 := HF.out.2.1 (by omega)
      have pv2 := HF.out.2.2.1 (by omega)
      have pv3 := HF.out.2.2.2 (by omega)
      have hfst : fst0 (wrg S (⟨5, mode, key, high, val, draw, nn⟩ : Cl) 5) = 0 := by unfold wrg fst0; simp [pv0, pv1, pv2, pv3, fst0]
      have hstp : stp S (⟨5, mode, key, high, val, draw, nn⟩ : Cl) = p := by rw [HST.out, hfst, if_pos rfl]
      have HCALL : Hid (Calls Try.prog 55 #[ptr X, Cl.v ⟨5, mode, key, high, val, draw, nn⟩] wr fun e w' => Dn wr w' X b c p e) := xhide (by rw [hp]; exact put_any hL.pm hopen hput)
      have FIN : Hid (∀ w6 e, Dn wr w6 X b c p e → ∃ v sv, e = .returned v ∧ v = .agg #[.int .i64 p.2.code, .string p.2.val, .bool p.2.found, sv, .int .i64 p.2.time, .int .i64 0] ∧ w6.heap[w.heap.size + 1]? = some rpB ∧ (∃ ao ln cp, sv = .slice ao ln cp) ∧
          Dn w (rpSet w6 (w.heap.size + 1) (.int .i64 p.2.code) (.string p.2.val) (.bool p.2.found) sv (.int .i64 p.2.time) (.int .i64 0)) X b c (stp S (⟨5, mode, key, high, val, draw, nn⟩ : Cl)) (.returned v)) := xhide (fun w6 e hd => by
        have hd' := hd
        obtain ⟨v, c', rfl, _⟩ := hd'
        obtain ⟨sv, e1, e2, e3, e4⟩ := do_tail H.out HL.out.low (by omega) HL.out.rp hd
        exact ⟨v, sv, rfl, e1, e2, e3, by rw [hstp]; exact e4⟩)
      clear hL hA hfst hp
      go_wp2_with fail
      refine HCALL.out.mono ?_
      rintro e w6 hd
      obtain ⟨v, sv, rfl, rfl, hr6, ⟨ao, ln, cp, rfl⟩, hfin⟩ := FIN.out w6 e hd
      have HFIN := xhide hfin
      have HR6 := xhide hr6
      obtain ⟨⟨q0, q1, q2, q3, q4, q5⟩, g0, g1, g2, g3, g4, g5⟩ := rp_cells hr6
      have hl2 : w.heap.size + 1 < w6.heap.size := (Array.getElem?_eq_some_iff.1 hr6).1
      clear hfin hr6 FIN HCALL hd
      go_wp2
      exact bodyPost_ret (results_cell_row (p := 4) (ty := 41) rfl _ _ (w.heap.size + 1) 41 _ (0, 0) _ rfl (rp_set HR6.out _ _ _ _ _ _) Try.underlying41 rfl (by kernel_rfl)) rfl HFIN.out
end
end Go.Proofs.Ytheidhkmmihjlaa

/-
  XmF: Do, kind by kind.
-/
set_option linter.unusedVariables false
set_option linter.unusedSimpArgs false
namespace Go.Proofs.Ytheidhkmmihjlaa
open Go.RowKit Go.Shelf Go.Maps
attribute [local go_sem] Oper.semAt_some
section
set_option maxHeartbeats 1000000
set_option maxRecDepth 100000
variable {w : World} {X b : Nat} {c : Option Nat} {S : Ms} {C : Cl}
theorem do_6 (h : Pm w X b c S) (hLen : S.L.length + 64 ≤ big) (mode draw nn : Int) (key high val : ByteArray) : Calls Try.prog 13 #[ptr X, Cl.v ⟨6, mode, key, high, val, draw, nn⟩] w fun e w' => Dn w w' X b c (stp S (⟨6, mode, key, high, val, draw, nn⟩ : Cl)) e := by
  obtain ⟨W2, hW2, hb2, hz, hr, hc⟩ := laid2 w (⟨6, mode, key, high, val, draw, nn⟩ : Cl)
  have hLen2 : S.L.length + 64 ≤ 1000000000000000 := by unfold big at hLen; omega
  have HN := xhide (none_any (h.below hb2))
  have HD := xhide (fun w => deeds_any w)
  have k0 : W2.cell? ⟨w.heap.size, 0, none⟩ = some (.int .i64 6) := by rw [Go.Joins.cell_of_block hc]; rfl
  have hst : stp S (⟨6, mode, key, high, val, draw, nn⟩ : Cl) = if fst0 (wrg S (⟨6, mode, key, high, val, draw, nn⟩ : Cl) 6) = 0 then ans S (⟨6, mode, key, high, val, draw, nn⟩ : Cl) 6 else (S, { code := fst0 (wrg S (⟨6, mode, key, high, val, draw, nn⟩ : Cl) 6) }) := by unfold stp; rfl
  have hlw : w.heap.size < W2.heap.size := by omega
  have hix : ∀ u : World, (Instr.index 77 (.agg tbl) (.int .i64 6)).run Try.prog u = .ok (.agg #[.func (.func 48) #[] #[], .func (.func 49) #[] #[], .func (.func 56) #[] #[], .nilFunc, .func (.func 57) #[] #[]]) u := fun u => by kernel_rfl
  have H := xhide h
  have HB2 := xhide hb2
  have HR := xhide hr
  have HC := xhide hc
  have HZ := xhide hz
  have HST := xhide hst
  clear h hb2 hr hc hz hst
  go_enter Try.func13, Try.ntmps13
  go_wp2_with fail
  rw [← hW2]
  clear hW2
  refine HN.out.mono ?_
  rintro e w1 ⟨rfl, rfl⟩
  go_wp2_with fail
  obtain ⟨K1, HQ, HQ1⟩ : ∃ K1 : Act → World → Prop, Hid (∀ D w', Lp w w' X b c S (⟨6, mode, key, high, val, draw, nn⟩ : Cl) D (deedObj (.func (.func 48) #[] #[]) (.func (.func 49) #[] #[]) (.func (.func 56) #[] #[]) .nilFunc (.func (.func 57) #[] #[])) → K1 { tmps := #[ptr X, Cl.v ⟨6, mode, key, high, val, draw, nn⟩, undef, ptr w.heap.size, ptr (w.heap.size + 1), ptr D, undef, undef, undef, ptr X, .bool false, undef, ptr w.heap.size, .int .i64 6, .bool false, .bool false, ptr w.heap.size, .int .i64 6, .bool false, .bool false, undef, .agg tbl, ptr w.heap.size, .int .i64 6, .agg #[.func (.func 48) #[] #[], .func (.func 49) #[] #[], .func (.func 56) #[] #[], .nilFunc, .func (.func 57) #[] #[]], undef, undef, undef, undef, undef, undef, undef, undef, undef, undef, undef, undef, undef, undef, undef, undef, undef, undef, undef, undef, undef], defers := [] } w') ∧ Hid (∀ a w', K1 a w' → ∃ D, a = { tmps := #[ptr X, Cl.v ⟨6, mode, key, high, val, draw, nn⟩, undef, ptr w.heap.size, ptr (w.heap.size + 1), ptr D, undef, undef, undef, ptr X, .bool false, undef, ptr w.heap.size, .int .i64 6, .bool false, .bool false, ptr w.heap.size, .int .i64 6, .bool false, .bool false, undef, .agg tbl, ptr w.heap.size, .int .i64 6, .agg #[.func (.func 48) #[] #[], .func (.func 49) #[] #[], .func (.func 56) #[] #[], .nilFunc, .func (.func 57) #[] #[]], undef, undef, undef, undef, undef, undef, undef, undef, undef, undef, undef, undef, undef, undef, undef, undef, undef, undef, undef, undef, undef], defers := [] } ∧ Hid (Lp w w' X b c S (⟨6, mode, key, high, val, draw, nn⟩ : Cl) D (deedObj (.func (.func 48) #[] #[]) (.func (.func 49) #[] #[]) (.func (.func 56) #[] #[]) .nilFunc (.func (.func 57) #[] #[])))) :=
    ⟨fun a' w' => ∃ D, a' = { tmps := #[ptr X, Cl.v ⟨6, mode, key, high, val, draw, nn⟩, undef, ptr w.heap.size, ptr (w.heap.size + 1), ptr D, undef, undef, undef, ptr X, .bool false, undef, ptr w.heap.size, .int .i64 6, .bool false, .bool false, ptr w.heap.size, .int .i64 6, .bool false, .bool false, undef, .agg tbl, ptr w.heap.size, .int .i64 6, .agg #[.func (.func 48) #[] #[], .func (.func 49) #[] #[], .func (.func 56) #[] #[], .nilFunc, .func (.func 57) #[] #[]], undef, undef, undef, undef, undef, undef, undef, undef, undef, undef, undef, undef, undef, undef, undef, undef, undef, undef, undef, undef, undef], defers := [] } ∧ Hid (Lp w w' X b c S (⟨6, mode, key, high, val, draw, nn⟩ : Cl) D (deedObj (.func (.func 48) #[] #[]) (.func (.func 49) #[] #[]) (.func (.func 56) #[] #[]) .nilFunc (.func (.func 57) #[] #[]))), xhide (fun D w' h => ⟨D, rfl, xhide h⟩), xhide (fun _ _ h => h)⟩
  refine wp_then K1 ?_ ?_
  · go_region_with (go_at_call 34; refine (HD.out _).mono ?_; rintro e w3 ⟨rfl, hb3⟩; obtain ⟨hlow3, he3, hs3⟩ := low_of hb3 HB2.out HZ.out (by first | exact Below.refl _ _ | exact (Below.refl _ _).drew | exact (ML.below1 _ _).drew | exact ((Below.refl _ _).drew.alloc (Nat.le_refl _) _)); have hc3 := (he3 _ hlw).trans HC.out; have k3 : w3.cell? ⟨w.heap.size, 0, none⟩ = some (.int .i64 6) := (by rw [Go.Joins.cell_of_block hc3]; rfl); have hlw3 : w.heap.size < w3.heap.size := (Array.getElem?_eq_some_iff.1 hc3).1; have hr3 := (he3 (w.heap.size + 1) (by have := HZ.out; omega)).trans HR.out; have hs4 : w.heap.size + 2 ≤ w3.heap.size := (by have := HZ.out; omega); first | (have hd3 : w3.heap[w1.heap.size]? = some (deedObj .nilFunc .nilFunc .nilFunc .nilFunc .nilFunc) := (hb3.block w1.heap.size (by simp)).trans (ML.heap_alloc_at (by simp) _); obtain ⟨⟨p0, p1, p2, p3, p4⟩, r0, r1, r2, r3, r4⟩ := deed_cells hd3; have hlD : w1.heap.size < w3.heap.size := (Array.getElem?_eq_some_iff.1 hd3).1) | skip)
    all_goals
      first
        | exact HQ.out _ _ (lp_old H.out hlow3 hc3 hr3 hd3 (by have := HZ.out; omega) _ _ _ _ _)
        | exact HQ.out _ _ (lp_new H.out hlow3 hc3 hr3 hs4 _)
        | exact HQ.out _ _ (lp_old H.out hlow3 hc3 hr3 hd3 (by have := HZ.out; omega) _ _ _ _ _).drew
        | exact HQ.out _ _ (lp_new H.out hlow3 hc3 hr3 hs4 _).drew
  intro a' w5 hq
  obtain ⟨D, rfl, HL⟩ := HQ1.out a' w5 hq
  clear hq HQ HQ1
  dsimp only []
  have hA := HL.out
  obtain ⟨y0, y1, y2, y3, y4⟩ : w5.cell? ⟨D, 0, none⟩ = some (.func (.func 48) #[] #[]) ∧ w5.cell? ⟨D, 1, none⟩ = some (.func (.func 49) #[] #[]) ∧ w5.cell? ⟨D, 2, none⟩ = some (.func (.func 56) #[] #[]) ∧ w5.cell? ⟨D, 3, none⟩ = some (.nilFunc) ∧ w5.cell? ⟨D, 4, none⟩ = some (.func (.func 57) #[] #[]) := by
    refine ⟨?_, ?_, ?_, ?_, ?_⟩ <;> (rw [Go.Joins.cell_of_block hA.dd]; rfl)
  have ix0 : ∀ u : World, (Instr.index 73 (.agg #[.func (.func 48) #[] #[], .func (.func 49) #[] #[], .func (.func 56) #[] #[], .nilFunc]) (.int .i64 0)).run Try.prog u = .ok (.func (.func 48) #[] #[]) u := fun u => by kernel_rfl
  have ix1 : ∀ u : World, (Instr.index 73 (.agg #[.func (.func 48) #[] #[], .func (.func 49) #[] #[], .func (.func 56) #[] #[], .nilFunc]) (.int .i64 1)).run Try.prog u = .ok (.func (.func 49) #[] #[]) u := fun u => by kernel_rfl
  have ix2 : ∀ u : World, (Instr.index 73 (.agg #[.func (.func 48) #[] #[], .func (.func 49) #[] #[], .func (.func 56) #[] #[], .nilFunc]) (.int .i64 2)).run Try.prog u = .ok (.func (.func 56) #[] #[]) u := fun u => by kernel_rfl
  have ix3 : ∀ u : World, (Instr.index 73 (.agg #[.func (.func 48) #[] #[], .func (.func 49) #[] #[], .func (.func 56) #[] #[], .nilFunc]) (.int .i64 3)).run Try.prog u = .ok (.nilFunc) u := fun u => by kernel_rfl
  have nq0 : ∀ u : World, (binOp .eql 55 (.func (.func 56) #[] #[]) .nilFunc).run Try.prog u = .ok (.bool false) u := fun u => by kernel_rfl
  have nq1 : ∀ u : World, (binOp .eql 55 (.func (.func 48) #[] #[]) .nilFunc).run Try.prog u = .ok (.bool false) u := fun u => by kernel_rfl
  have nq2 : ∀ u : World, (binOp .eql 55 (.func (.func 49) #[] #[]) .nilFunc).run Try.prog u = .ok (.bool false) u := fun u => by kernel_rfl
  have nqn : ∀ u : World, (binOp .eql 55 .nilFunc .nilFunc).run Try.prog u = .ok (.bool true) u := fun u => by kernel_rfl
  obtain ⟨p, hp⟩ : ∃ p, p = ans S (⟨6, mode, key, high, val, draw, nn⟩ : Cl) 6 := ⟨_, rfl⟩
  rw [← hp] at HST
  clear hA
  go_wp2_with fail
  go_loopw [27] (fun i wr => ∃ k : Nat, k ≤ 3 ∧ i = .int .i64 (k : Nat) ∧ Hid ((0 < k → (S.ws.isNone) = false) ∧ (1 < k → (!isK (⟨6, mode, key, high, val, draw, nn⟩ : Cl).key) = false) ∧ (2 < k → (!(look S (⟨6, mode, key, high, val, draw, nn⟩ : Cl).key).isSome) = false)) ∧ Hid (Lp w wr X b c S (⟨6, mode, key, high, val, draw, nn⟩ : Cl) D (deedObj (.func (.func 48) #[] #[]) (.func (.func 49) #[] #[]) (.func (.func 56) #[] #[]) .nilFunc (.func (.func 57) #[] #[])))) (fun i _ => 5 - (intOf i).toNat)
  case atStart => exact ⟨0, by omega, rfl, xhide (by simp), HL⟩
  case round =>
    obtain ⟨k, hk, rfl, HF, HL⟩ := hrel
    have hA := HL.out
    clear y0 y1 y2 y3 y4
    have y4 : wr.cell? ⟨D, 4, none⟩ = some (.func (.func 57) #[] #[]) := by rw [Go.Joins.cell_of_block hA.dd]; rfl
    have zc : ∀ i v, [.int .i64 6, .int .i64 mode, .string key, .string high, .string val, .int .i64 draw, .int .i64 nn][i]? = some v → wr.cell? ⟨w.heap.size, i, none⟩ = some v := by
      intro i v hv
      rw [Go.Joins.cell_of_block hA.cb]
      simpa using hv
    have z0 := zc 0 _ rfl
    have z1 := zc 1 _ rfl
    have z2 := zc 2 _ rfl
    have z3 := zc 3 _ rfl
    have z4 := zc 4 _ rfl
    have z5 := zc 5 _ rfl
    have z6 := zc 6 _ rfl
    obtain ⟨⟨q0, q1, q2, q3, q4, q5⟩, g0, g1, g2, g3, g4, g5⟩ := rp_cells hA.rp
    have hl1 : w.heap.size < wr.heap.size := (Array.getElem?_eq_some_iff.1 hA.cb).1
    have hl2 : w.heap.size + 1 < wr.heap.size := (Array.getElem?_eq_some_iff.1 hA.rp).1
    have hl3 : D < wr.heap.size := (Array.getElem?_eq_some_iff.1 hA.dd).1
    clear zc
    rcases k with _ | _ | _ | k
    · have hL := HL.out
      have HCALL := xhide (isNotOpen_any hL.pm (⟨6, mode, key, high, val, draw, nn⟩ : Cl))
      clear hL hA
      cases hc : (S.ws.isNone) with
      | true =>
        have hfst : fst0 (wrg S (⟨6, mode, key, high, val, draw, nn⟩ : Cl) 6) = 152 := by unfold wrg fst0; simp [hc, fst0]
        have FIN : Hid (∀ wz, Below wr.heap.size wr wz → Dn w (rpSet wz (w.heap.size + 1) (.int .i64 152) (.string .empty) (.bool false) (.slice none 0 0) (.int .i64 0) (.int .i64 0)) X b c (stp S (⟨6, mode, key, high, val, draw, nn⟩ : Cl)) (.returned (rp0 152 .empty false 0)) ∧ wz.heap[w.heap.size + 1]? = some rpB) := xhide (fun wz hz => by
          rw [HST.out, hfst, if_neg (by decide)]
          exact ⟨do_code H.out (HL.out.below hz).low, (HL.out.below hz).rp⟩)
        go_wp2_with fail
        refine HCALL.out.mono ?_
        rintro e w6 ⟨he, hb6⟩
        rw [hc] at he
        simp only [if_true] at he
        subst he
        obtain ⟨hfin, hr6⟩ := FIN.out w6 hb6
        have HFIN := xhide hfin
        have HR6 := xhide hr6
        obtain ⟨⟨q0, q1, q2, q3, q4, q5⟩, g0, g1, g2, g3, g4, g5⟩ := rp_cells hr6
        have hl2 : w.heap.size + 1 < w6.heap.size := (Array.getElem?_eq_some_iff.1 hr6).1
        clear hfin hr6 FIN HCALL hb6
        go_wp2
        exact bodyPost_ret (v := rp0 152 .empty false 0) (results_cell_row (p := 4) (ty := 41) rfl _ _ (w.heap.size + 1) 41 _ (0, 0) _ rfl (rp_set HR6.out _ _ _ _ _ _) Try.underlying41 rfl (by kernel_rfl)) rfl HFIN.out
      | false =>
        go_wp2_with fail
        refine HCALL.out.mono ?_
        rintro e w6 ⟨he, hb6⟩
        rw [hc] at he
        simp only [if_false, Bool.false_eq_true] at he
        subst he
        have HL6 := xhide (HL.out.below hb6)
        clear HCALL hb6
        go_wp2
        go_roundw
        case rel => exact ⟨1, by omega, by go_num, xhide (by simp [hc]), HL6⟩
        case measure => simp [intOf]
    · have hL := HL.out
      have pv0 := HF.out.1 (by omega)
      have HCALL := xhide (noKey_any X (⟨6, mode, key, high, val, draw, nn⟩ : Cl) wr)
      clear hL hA
      cases hc : (!isK (⟨6, mode, key, high, val, draw, nn⟩ : Cl).key) with
      | true =>
        have hfst : fst0 (wrg S (⟨6, mode, key, high, val, draw, nn⟩ : Cl) 6) = 154 := by unfold wrg fst0; simp [pv0, hc, fst0]
        have FIN : Hid (∀ wz, Below wr.heap.size wr wz → Dn w (rpSet wz (w.heap.size + 1) (.int .i64 154) (.string .empty) (.bool false) (.slice none 0 0) (.int .i64 0) (.int .i64 0)) X b c (stp S (⟨6, mode, key, high, val, draw, nn⟩ : Cl)) (.returned (rp0 154 .empty false 0)) ∧ wz.heap[w.heap.size + 1]? = some rpB) := xhide (fun wz hz => by
          rw [HST.out, hfst, if_neg (by decide)]
          exact ⟨do_code H.out (HL.out.below hz).low, (HL.out.below hz).rp⟩)
        go_wp2_with fail
        refine HCALL.out.mono ?_
        rintro e w6 ⟨he, hb6⟩
        rw [hc] at he
        simp only [if_true] at he
        subst he
        obtain ⟨hfin, hr6⟩ := FIN.out w6 hb6
        have HFIN := xhide hfin
        have HR6 := xhide hr6
        obtain ⟨⟨q0, q1, q2, q3, q4, q5⟩, g0, g1, g2, g3, g4, g5⟩ := rp_cells hr6
        have hl2 : w.heap.size + 1 < w6.heap.size := (Array.getElem?_eq_some_iff.1 hr6).1
        clear hfin hr6 FIN HCALL hb6
        go_wp2
        exact bodyPost_ret (v := rp0 154 .empty false 0) (results_cell_row (p := 4) (ty := 41) rfl _ _ (w.heap.size + 1) 41 _ (0, 0) _ rfl (rp_set HR6.out _ _ _ _ _ _) Try.underlying41 rfl (by kernel_rfl)) rfl HFIN.out
      | false =>
        go_wp2_with fail
        refine HCALL.out.mono ?_
        rintro e w6 ⟨he, hb6⟩
        rw [hc] at he
        simp only [if_false, Bool.false_eq_true] at he
        subst he
        have HL6 := xhide (HL.out.below hb6)
        clear HCALL hb6
        go_wp2
        go_roundw
        case rel => exact ⟨2, by omega, by go_num, xhide (by simp [pv0, hc]), HL6⟩
        case measure => simp [intOf]
    · have hL := HL.out
      have hopen : S.ws ≠ none := by
        have := HF.out.1 (by omega)
        intro e
        rw [e] at this
        cases this
      have hkey : ((⟨6, mode, key, high, val, draw, nn⟩ : Cl)).key.size ≤ maxLen := by
        have h1 := HF.out.2.1 (by omega)
        have h2 : isK ((⟨6, mode, key, high, val, draw, nn⟩ : Cl)).key = true := by simpa using h1
        have h3 := (isK_iff.1 h2).2
        unfold maxLen
        omega
      have pv0 := HF.out.1 (by omega)
      have pv1 := HF.out.2.1 (by omega)
      have HCALL := xhide (isMissing_any hL.pm hopen hkey)
      clear hL hA
      cases hc : (!(look S (⟨6, mode, key, high, val, draw, nn⟩ : Cl).key).isSome) with
      | true =>
        have hfst : fst0 (wrg S (⟨6, mode, key, high, val, draw, nn⟩ : Cl) 6) = 157 := by unfold wrg fst0; simp [pv0, pv1, hc, fst0]
        have FIN : Hid (∀ wz, Below wr.heap.size wr wz → Dn w (rpSet wz (w.heap.size + 1) (.int .i64 157) (.string .empty) (.bool false) (.slice none 0 0) (.int .i64 0) (.int .i64 0)) X b c (stp S (⟨6, mode, key, high, val, draw, nn⟩ : Cl)) (.returned (rp0 157 .empty false 0)) ∧ wz.heap[w.heap.size + 1]? = some rpB) := xhide (fun wz hz => by
          rw [HST.out, hfst, if_neg (by decide)]
          exact ⟨do_code H.out (HL.out.below hz).low, (HL.out.below hz).rp⟩)
        go_wp2_with fail
        refine HCALL.out.mono ?_
        rintro e w6 ⟨he, hb6⟩
        rw [hc] at he
        simp only [if_true] at he
        subst he
        obtain ⟨hfin, hr6⟩ := FIN.out w6 hb6
        have HFIN := xhide hfin
        have HR6 := xhide hr6
        obtain ⟨⟨q0, q1, q2, q3, q4, q5⟩, g0, g1, g2, g3, g4, g5⟩ := rp_cells hr6
        have hl2 : w.heap.size + 1 < w6.heap.size := (Array.getElem?_eq_some_iff.1 hr6).1
        clear hfin hr6 FIN HCALL hb6
        go_wp2
        exact bodyPost_ret (v := rp0 157 .empty false 0) (results_cell_row (p := 4) (ty := 41) rfl _ _ (w.heap.size + 1) 41 _ (0, 0) _ rfl (rp_set HR6.out _ _ _ _ _ _) Try.underlying41 rfl (by kernel_rfl)) rfl HFIN.out
      | false =>
        go_wp2_with fail
        refine HCALL.out.mono ?_
        rintro e w6 ⟨he, hb6⟩
        rw [hc] at he
        simp only [if_false, Bool.false_eq_true] at he
        subst he
        have HL6 := xhide (HL.out.below hb6)
        clear HCALL hb6
        go_wp2
        go_roundw
        case rel => exact ⟨3, by omega, by go_num, xhide (by simp [pv0, pv1, hc]), HL6⟩
        case measure => simp [intOf]
    · have hk0 : k = 0 := by omega
      subst hk0
      have hL := HL.out
      have hopen : S.ws ≠ none := by
        have := HF.out.1 (by omega)
        intro e
        rw [e] at this
        cases this
      have hiK : isK ((⟨6, mode, key, high, val, draw, nn⟩ : Cl)).key = true := by
        have h1 := HF.out.2.1 (by omega)
        simpa using h1
      have hkey : ((⟨6, mode, key, high, val, draw, nn⟩ : Cl)).key.size ≤ maxLen := by
        have h3 := (isK_iff.1 hiK).2
        unfold maxLen
        omega
      have htake : okW ⟨((⟨6, mode, key, high, val, draw, nn⟩ : Cl)).key, ⟨#[]⟩, true⟩ = true := okW_iff.2 ⟨isK_iff.1 hiK, Nat.zero_le _, fun _ => rfl⟩
      have pv0 := HF.out.1 (by omega)
      have pv1 := HF.out.2.1 (by omega)
      have pv2 := HF.out.2.2 (by omega)
      have hfst : fst0 (wrg S (⟨6, mode, key, high, val, draw, nn⟩ : Cl) 6) = 0 := by unfold wrg fst0; simp [pv0, pv1, pv2, fst0]
      have hstp : stp S (⟨6, mode, key, high, val, draw, nn⟩ : Cl) = p := by rw [HST.out, hfst, if_pos rfl]
      have HCALL : Hid (Calls Try.prog 57 #[ptr X, Cl.v ⟨6, mode, key, high, val, draw, nn⟩] wr fun e w' => Dn wr w' X b c p e) := xhide (by rw [hp]; exact take_any hL.pm hopen htake)
      have FIN : Hid (∀ w6 e, Dn wr w6 X b c p e → ∃ v sv, e = .returned v ∧ v = .agg #[.int .i64 p.2.code, .string p.2.val, .bool p.2.found, sv, .int .i64 p.2.time, .int .i64 0] ∧ w6.heap[w.heap.size + 1]? = some rpB ∧ (∃ ao ln cp, sv = .slice ao ln cp) ∧
          Dn w (rpSet w6 (w.heap.size + 1) (.int .i64 p.2.code) (.string p.2.val) (.bool p.2.found) sv (.int .i64 p.2.time) (.int .i64 0)) X b c (stp S (⟨6, mode, key, high, val, draw, nn⟩ : Cl)) (.returned v)) := xhide (fun w6 e hd => by
        have hd' := hd
        obtain ⟨v, c', rfl, _⟩ := hd'
        obtain ⟨sv, e1, e2, e3, e4⟩ := do_tail H.out HL.out.low (by omega) HL.out.rp hd
        exact ⟨v, sv, rfl, e1, e2, e3, by rw [hstp]; exact e4⟩)
      clear hL hA hfst hp
      go_wp2_with fail
      refine HCALL.out.mono ?_
      rintro e w6 hd
      obtain ⟨v, sv, rfl, rfl, hr6, ⟨ao, ln, cp, rfl⟩, hfin⟩ := FIN.out w6 e hd
      have HFIN := xhide hfin
      have HR6 := xhide hr6
      obtain ⟨⟨q0, q1, q2, q3, q4, q5⟩, g0, g1, g2, g3, g4, g5⟩ := rp_cells hr6
      have hl2 : w.heap.size + 1 < w6.heap.size := (Array.getElem?_eq_some_iff.1 hr6).1
      clear hfin hr6 FIN HCALL hd
      go_wp2
      exact bodyPost_ret (results_cell_row (p := 4) (ty := 41) rfl _ _ (w.heap.size + 1) 41 _ (0, 0) _ rfl (rp_set HR6.out _ _ _ _ _ _) Try.underlying41 rfl (by kernel_rfl)) rfl HFIN.out
theorem do_7 (h : Pm w X b c S) (hLen : S.L.length + 64 ≤ big) (mode draw nn : Int) (key high val : ByteArray) : Calls Try.prog 13 #[ptr X, Cl.v ⟨7, mode, key, high, val, draw, nn⟩] w fun e w' => Dn w w' X b c (stp S (⟨7, mode, key, high, val, draw, nn⟩ : Cl)) e := by
  obtain ⟨W2, hW2, hb2, hz, hr, hc⟩ := laid2 w (⟨7, mode, key, high, val, draw, nn⟩ : Cl)
  have hLen2 : S.L.length + 64 ≤ 1000000000000000 := by unfold big at hLen; omega
  have HN := xhide (none_any (h.below hb2))
  have HD := xhide (fun w => deeds_any w)
  have k0 : W2.cell? ⟨w.heap.size, 0, none⟩ = some (.int .i64 7) := by rw [Go.Joins.cell_of_block hc]; rfl
  have hst : stp S (⟨7, mode, key, high, val, draw, nn⟩ : Cl) = if fst0 (wrg S (⟨7, mode, key, high, val, draw, nn⟩ : Cl) 7) = 0 then ans S (⟨7, mode, key, high, val, draw, nn⟩ : Cl) 7 else (S, { code := fst0 (wrg S (⟨7, mode, key, high, val, draw, nn⟩ : Cl) 7) }) := by unfold stp; rfl
  have hlw : w.heap.size < W2.heap.size := by omega
  have hix : ∀ u : World, (Instr.index 77 (.agg tbl) (.int .i64 7)).run Try.prog u = .ok (.agg #[.func (.func 48) #[] #[], .nilFunc, .nilFunc, .nilFunc, .func (.func 58) #[] #[]]) u := fun u => by kernel_rfl
  have H := xhide h
  have HB2 := xhide hb2
  have HR := xhide hr
  have HC := xhide hc
  have HZ := xhide hz
  have HST := xhide hst
  clear h hb2 hr hc hz hst
  go_enter Try.func13, Try.ntmps13
  go_wp2_with fail
  rw [← hW2]
  clear hW2
  refine HN.out.mono ?_
  rintro e w1 ⟨rfl, rfl⟩
  go_wp2_with fail
  obtain ⟨K1, HQ, HQ1⟩ : ∃ K1 : Act → World → Prop, Hid (∀ D w', Lp w w' X b c S (⟨7, mode, key, high, val, draw, nn⟩ : Cl) D (deedObj (.func (.func 48) #[] #[]) .nilFunc .nilFunc .nilFunc (.func (.func 58) #[] #[])) → K1 { tmps := #[ptr X, Cl.v ⟨7, mode, key, high, val, draw, nn⟩, undef, ptr w.heap.size, ptr (w.heap.size + 1), ptr D, undef, undef, undef, ptr X, .bool false, undef, ptr w.heap.size, .int .i64 7, .bool false, .bool false, ptr w.heap.size, .int .i64 7, .bool false, .bool false, undef, .agg tbl, ptr w.heap.size, .int .i64 7, .agg #[.func (.func 48) #[] #[], .nilFunc, .nilFunc, .nilFunc, .func (.func 58) #[] #[]], undef, undef, undef, undef, undef, undef, undef, undef, undef, undef, undef, undef, undef, undef, undef, undef, undef, undef, undef, undef, undef], defers := [] } w') ∧ Hid (∀ a w', K1 a w' → ∃ D, a = { tmps := #[ptr X, Cl.v ⟨7, mode, key, high, val, draw, nn⟩, undef, ptr w.heap.size, ptr (w.heap.size + 1), ptr D, undef, undef, undef, ptr X, .bool false, undef, ptr w.heap.size, .int .i64 7, .bool false, .bool false, ptr w.heap.size, .int .i64 7, .bool false, .bool false, undef, .agg tbl, ptr w.heap.size, .int .i64 7, .agg #[.func (.func 48) #[] #[], .nilFunc, .nilFunc, .nilFunc, .func (.func 58) #[] #[]], undef, undef, undef, undef, undef, undef, undef, undef, undef, undef, undef, undef, undef, undef, undef, undef, undef, undef, undef, undef, undef], defers := [] } ∧ Hid (Lp w w' X b c S (⟨7, mode, key, high, val, draw, nn⟩ : Cl) D (deedObj (.func (.func 48) #[] #[]) .nilFunc .nilFunc .nilFunc (.func (.func 58) #[] #[])))) :=
    ⟨fun a' w' => ∃ D, a' = { tmps := #[ptr X, Cl.v ⟨7, mode, key, high, val, draw, nn⟩, undef, ptr w.heap.size, ptr (w.heap.size + 1), ptr D, undef, undef, undef, ptr X, .bool false, undef, ptr w.heap.size, .int .i64 7, .bool false, .bool false, ptr w.heap.size, .int .i64 7, .bool false, .bool false, undef, .agg tbl, ptr w.heap.size, .int .i64 7, .agg #[.func (.func 48) #[] #[], .nilFunc, .nilFunc, .nilFunc, .func (.func 58) #[] #[]], undef, undef, undef, undef, undef, undef, undef, undef, undef, undef, undef, undef, undef, undef, undef, undef, undef, undef, undef, undef, undef], defers := [] } ∧ Hid (Lp w w' X b c S (⟨7, mode, key, high, val, draw, nn⟩ : Cl) D (deedObj (.func (.func 48) #[] #[]) .nilFunc .nilFunc .nilFunc (.func (.func 58) #[] #[]))), xhide (fun D w' h => ⟨D, rfl, xhide h⟩), xhide (fun _ _ h => h)⟩
  refine wp_then K1 ?_ ?_
  · go_region_with (go_at_call 34; refine (HD.out _).mono ?_; rintro e w3 ⟨rfl, hb3⟩; obtain ⟨hlow3, he3, hs3⟩ := low_of hb3 HB2.out HZ.out (by first | exact Below.refl _ _ | exact (Below.refl _ _).drew | exact (ML.below1 _ _).drew | exact ((Below.refl _ _).drew.alloc (Nat.le_refl _) _)); have hc3 := (he3 _ hlw).trans HC.out; have k3 : w3.cell? ⟨w.heap.size, 0, none⟩ = some (.int .i64 7) := (by rw [Go.Joins.cell_of_block hc3]; rfl); have hlw3 : w.heap.size < w3.heap.size := (Array.getElem?_eq_some_iff.1 hc3).1; have hr3 := (he3 (w.heap.size + 1) (by have := HZ.out; omega)).trans HR.out; have hs4 : w.heap.size + 2 ≤ w3.heap.size := (by have := HZ.out; omega); first | (have hd3 : w3.heap[w1.heap.size]? = some (deedObj .nilFunc .nilFunc .nilFunc .nilFunc .nilFunc) := (hb3.block w1.heap.size (by simp)).trans (ML.heap_alloc_at (by simp) _); obtain ⟨⟨p0, p1, p2, p3, p4⟩, r0, r1, r2, r3, r4⟩ := deed_cells hd3; have hlD : w1.heap.size < w3.heap.size := (Array.getElem?_eq_some_iff.1 hd3).1) | skip)
    all_goals
      first
        | exact HQ.out _ _ (lp_old H.out hlow3 hc3 hr3 hd3 (by have := HZ.out; omega) _ _ _ _ _)
        | exact HQ.out _ _ (lp_new H.out hlow3 hc3 hr3 hs4 _)
        | exact HQ.out _ _ (lp_old H.out hlow3 hc3 hr3 hd3 (by have := HZ.out; omega) _ _ _ _ _).drew
        | exact HQ.out _ _ (lp_new H.out hlow3 hc3 hr3 hs4 _).drew
  intro a' w5 hq
  obtain ⟨D, rfl, HL⟩ := HQ1.out a' w5 hq
  clear hq HQ HQ1
  dsimp only []
  have hA := HL.out
  obtain ⟨y0, y1, y2, y3, y4⟩ : w5.cell? ⟨D, 0, none⟩ = some (.func (.func 48) #[] #[]) ∧ w5.cell? ⟨D, 1, none⟩ = some (.nilFunc) ∧ w5.cell? ⟨D, 2, none⟩ = some (.nilFunc) ∧ w5.cell? ⟨D, 3, none⟩ = some (.nilFunc) ∧ w5.cell? ⟨D, 4, none⟩ = some (.func (.func 58) #[] #[]) := by
    refine ⟨?_, ?_, ?_, ?_, ?_⟩ <;> (rw [Go.Joins.cell_of_block hA.dd]; rfl)
  have ix0 : ∀ u : World, (Instr.index 73 (.agg #[.func (.func 48) #[] #[], .nilFunc, .nilFunc, .nilFunc]) (.int .i64 0)).run Try.prog u = .ok (.func (.func 48) #[] #[]) u := fun u => by kernel_rfl
  have ix1 : ∀ u : World, (Instr.index 73 (.agg #[.func (.func 48) #[] #[], .nilFunc, .nilFunc, .nilFunc]) (.int .i64 1)).run Try.prog u = .ok (.nilFunc) u := fun u => by kernel_rfl
  have nq0 : ∀ u : World, (binOp .eql 55 (.func (.func 48) #[] #[]) .nilFunc).run Try.prog u = .ok (.bool false) u := fun u => by kernel_rfl
  have nqn : ∀ u : World, (binOp .eql 55 .nilFunc .nilFunc).run Try.prog u = .ok (.bool true) u := fun u => by kernel_rfl
  obtain ⟨p, hp⟩ : ∃ p, p = ans S (⟨7, mode, key, high, val, draw, nn⟩ : Cl) 7 := ⟨_, rfl⟩
  rw [← hp] at HST
  clear hA
  go_wp2_with fail
  go_loopw [27] (fun i wr => ∃ k : Nat, k ≤ 1 ∧ i = .int .i64 (k : Nat) ∧ Hid ((0 < k → (S.ws.isNone) = false)) ∧ Hid (Lp w wr X b c S (⟨7, mode, key, high, val, draw, nn⟩ : Cl) D (deedObj (.func (.func 48) #[] #[]) .nilFunc .nilFunc .nilFunc (.func (.func 58) #[] #[])))) (fun i _ => 5 - (intOf i).toNat)
  case atStart => exact ⟨0, by omega, rfl, xhide (by simp), HL⟩
  case round =>
    obtain ⟨k, hk, rfl, HF, HL⟩ := hrel
    have hA := HL.out
    clear y0 y1 y2 y3 y4
    have y4 : wr.cell? ⟨D, 4, none⟩ = some (.func (.func 58) #[] #[]) := by rw [Go.Joins.cell_of_block hA.dd]; rfl
    have zc : ∀ i v, [.int .i64 7, .int .i64 mode, .string key, .string high, .string val, .int .i64 draw, .int .i64 nn][i]? = some v → wr.cell? ⟨w.heap.size, i, none⟩ = some v := by
      intro i v hv
      rw [Go.Joins.cell_of_block hA.cb]
      simpa using hv
    have z0 := zc 0 _ rfl
    have z1 := zc 1 _ rfl
    have z2 := zc 2 _ rfl
    have z3 := zc 3 _ rfl
    have z4 := zc 4 _ rfl
    have z5 := zc 5 _ rfl
    have z6 := zc 6 _ rfl
    obtain ⟨⟨q0, q1, q2, q3, q4, q5⟩, g0, g1, g2, g3, g4, g5⟩ := rp_cells hA.rp
    have hl1 : w.heap.size < wr.heap.size := (Array.getElem?_eq_some_iff.1 hA.cb).1
    have hl2 : w.heap.size + 1 < wr.heap.size := (Array.getElem?_eq_some_iff.1 hA.rp).1
    have hl3 : D < wr.heap.size := (Array.getElem?_eq_some_iff.1 hA.dd).1
    clear zc
    rcases k with _ | k
    · have hL := HL.out
      have HCALL := xhide (isNotOpen_any hL.pm (⟨7, mode, key, high, val, draw, nn⟩ : Cl))
      clear hL hA
      cases hc : (S.ws.isNone) with
      | true =>
        have hfst : fst0 (wrg S (⟨7, mode, key, high, val, draw, nn⟩ : Cl) 7) = 152 := by unfold wrg fst0; simp [hc, fst0]
        have FIN : Hid (∀ wz, Below wr.heap.size wr wz → Dn w (rpSet wz (w.heap.size + 1) (.int .i64 152) (.string .empty) (.bool false) (.slice none 0 0) (.int .i64 0) (.int .i64 0)) X b c (stp S (⟨7, mode, key, high, val, draw, nn⟩ : Cl)) (.returned (rp0 152 .empty false 0)) ∧ wz.heap[w.heap.size + 1]? = some rpB) := xhide (fun wz hz => by
          rw [HST.out, hfst, if_neg (by decide)]
          exact ⟨do_code H.out (HL.out.below hz).low, (HL.out.below hz).rp⟩)
        go_wp2_with fail
        refine HCALL.out.mono ?_
        rintro e w6 ⟨he, hb6⟩
        rw [hc] at he
        simp only [if_true] at he
        subst he
        obtain ⟨hfin, hr6⟩ := FIN.out w6 hb6
        have HFIN := xhide hfin
        have HR6 := xhide hr6
        obtain ⟨⟨q0, q1, q2, q3, q4, q5⟩, g0, g1, g2, g3, g4, g5⟩ := rp_cells hr6
        have hl2 : w.heap.size + 1 < w6.heap.size := (Array.getElem?_eq_some_iff.1 hr6).1
        clear hfin hr6 FIN HCALL hb6
        go_wp2
        exact bodyPost_ret (v := rp0 152 .empty false 0) (results_cell_row (p := 4) (ty := 41) rfl _ _ (w.heap.size + 1) 41 _ (0, 0) _ rfl (rp_set HR6.out _ _ _ _ _ _) Try.underlying41 rfl (by kernel_rfl)) rfl HFIN.out
      | false =>
        go_wp2_with fail
        refine HCALL.out.mono ?_
        rintro e w6 ⟨he, hb6⟩
        rw [hc] at he
        simp only [if_false, Bool.false_eq_true] at he
        subst he
        have HL6 := xhide (HL.out.below hb6)
        clear HCALL hb6
        go_wp2
        go_roundw
        case rel => exact ⟨1, by omega, by go_num, xhide (by simp [hc]), HL6⟩
        case measure => simp [intOf]
    · have hk0 : k = 0 := by omega
      subst hk0
      have hL := HL.out
      have hopen : S.ws ≠ none := by
        have := HF.out (by omega)
        intro e
        rw [e] at this
        cases this
      have pv0 := HF.out (by omega)
      have hfst : fst0 (wrg S (⟨7, mode, key, high, val, draw, nn⟩ : Cl) 7) = 0 := by unfold wrg fst0; simp [pv0, fst0]
      have hstp : stp S (⟨7, mode, key, high, val, draw, nn⟩ : Cl) = p := by rw [HST.out, hfst, if_pos rfl]
      have HCALL : Hid (Calls Try.prog 58 #[ptr X, Cl.v ⟨7, mode, key, high, val, draw, nn⟩] wr fun e w' => Dn wr w' X b c p e) := xhide (by rw [hp]; exact commit_any hL.pm hopen hLen2 (⟨7, mode, key, high, val, draw, nn⟩ : Cl))
      have FIN : Hid (∀ w6 e, Dn wr w6 X b c p e → ∃ v sv, e = .returned v ∧ v = .agg #[.int .i64 p.2.code, .string p.2.val, .bool p.2.found, sv, .int .i64 p.2.time, .int .i64 0] ∧ w6.heap[w.heap.size + 1]? = some rpB ∧ (∃ ao ln cp, sv = .slice ao ln cp) ∧
          Dn w (rpSet w6 (w.heap.size + 1) (.int .i64 p.2.code) (.string p.2.val) (.bool p.2.found) sv (.int .i64 p.2.time) (.int .i64 0)) X b c (stp S (⟨7, mode, key, high, val, draw, nn⟩ : Cl)) (.returned v)) := xhide (fun w6 e hd => by
        have hd' := hd
        obtain ⟨v, c', rfl, _⟩ := hd'
        obtain ⟨sv, e1, e2, e3, e4⟩ := do_tail H.out HL.out.low (by omega) HL.out.rp hd
        exact ⟨v, sv, rfl, e1, e2, e3, by rw [hstp]; exact e4⟩)
      clear hL hA hfst hp
      go_wp2_with fail
      refine HCALL.out.mono ?_
      rintro e w6 hd
      obtain ⟨v, sv, rfl, rfl, hr6, ⟨ao, ln, cp, rfl⟩, hfin⟩ := FIN.out w6 e hd
      have HFIN := xhide hfin
      have HR6 := xhide hr6
      obtain ⟨⟨q0, q1, q2, q3, q4, q5⟩, g0, g1, g2, g3, g4, g5⟩ := rp_cells hr6
      have hl2 : w.heap.size + 1 < w6.heap.size := (Array.getElem?_eq_some_iff.1 hr6).1
      clear hfin hr6 FIN HCALL hd
      go_wp2
      exact bodyPost_ret (results_cell_row (p := 4) (ty := 41) rfl _ _ (w.heap.size + 1) 41 _ (0, 0) _ rfl (rp_set HR6.out _ _ _ _ _ _) Try.underlying41 rfl (by kernel_rfl)) rfl HFIN.out
end
end Go.Proofs.Ytheidhkmmihjlaa

/-
  XmG: Do, kind by kind.
-/
set_option linter.unusedVariables false
set_option linter.unusedSimpArgs false
namespace Go.Proofs.Ytheidhkmmihjlaa
open Go.RowKit Go.Shelf Go.Maps
attribute [local go_sem] Oper.semAt_some
section
set_option maxHeartbeats 1000000
set_option maxRecDepth 100000
variable {w : World} {X b : Nat} {c : Option Nat} {S : Ms} {C : Cl}
theorem do_8 (h : Pm w X b c S) (hLen : S.L.length + 64 ≤ big) (mode draw nn : Int) (key high val : ByteArray) : Calls Try.prog 13 #[ptr X, Cl.v ⟨8, mode, key, high, val, draw, nn⟩] w fun e w' => Dn w w' X b c (stp S (⟨8, mode, key, high, val, draw, nn⟩ : Cl)) e := by
  obtain ⟨W2, hW2, hb2, hz, hr, hc⟩ := laid2 w (⟨8, mode, key, high, val, draw, nn⟩ : Cl)
  have hLen2 : S.L.length + 64 ≤ 1000000000000000 := by unfold big at hLen; omega
  have HN := xhide (none_any (h.below hb2))
  have HD := xhide (fun w => deeds_any w)
  have k0 : W2.cell? ⟨w.heap.size, 0, none⟩ = some (.int .i64 8) := by rw [Go.Joins.cell_of_block hc]; rfl
  have hst : stp S (⟨8, mode, key, high, val, draw, nn⟩ : Cl) = if fst0 (wrg S (⟨8, mode, key, high, val, draw, nn⟩ : Cl) 8) = 0 then ans S (⟨8, mode, key, high, val, draw, nn⟩ : Cl) 8 else (S, { code := fst0 (wrg S (⟨8, mode, key, high, val, draw, nn⟩ : Cl) 8) }) := by unfold stp; rfl
  have hlw : w.heap.size < W2.heap.size := by omega
  have hix : ∀ u : World, (Instr.index 77 (.agg tbl) (.int .i64 8)).run Try.prog u = .ok (.agg #[.func (.func 48) #[] #[], .nilFunc, .nilFunc, .nilFunc, .func (.func 59) #[] #[]]) u := fun u => by kernel_rfl
  have H := xhide h
  have HB2 := xhide hb2
  have HR := xhide hr
  have HC := xhide hc
  have HZ := xhide hz
  have HST := xhide hst
  clear h hb2 hr hc hz hst
  go_enter Try.func13, Try.ntmps13
  go_wp2_with fail
  rw [← hW2]
  clear hW2
  refine HN.out.mono ?_
  rintro e w1 ⟨rfl, rfl⟩
  go_wp2_with fail
  obtain ⟨K1, HQ, HQ1⟩ : ∃ K1 : Act → World → Prop, Hid (∀ D w', Lp w w' X b c S (⟨8, mode, key, high, val, draw, nn⟩ : Cl) D (deedObj (.func (.func 48) #[] #[]) .nilFunc .nilFunc .nilFunc (.func (.func 59) #[] #[])) → K1 { tmps := #[ptr X, Cl.v ⟨8, mode, key, high, val, draw, nn⟩, undef, ptr w.heap.size, ptr (w.heap.size + 1), ptr D, undef, undef, undef, ptr X, .bool false, undef, ptr w.heap.size, .int .i64 8, .bool false, .bool false, ptr w.heap.size, .int .i64 8, .bool false, .bool false, undef, .agg tbl, ptr w.heap.size, .int .i64 8, .agg #[.func (.func 48) #[] #[], .nilFunc, .nilFunc, .nilFunc, .func (.func 59) #[] #[]], undef, undef, undef, undef, undef, undef, undef, undef, undef, undef, undef, undef, undef, undef, undef, undef, undef, undef, undef, undef, undef], defers := [] } w') ∧ Hid (∀ a w', K1 a w' → ∃ D, a = { tmps := #[ptr X, Cl.v ⟨8, mode, key, high, val, draw, nn⟩, undef, ptr w.heap.size, ptr (w.heap.size + 1), ptr D, undef, undef, undef, ptr X, .bool false, undef, ptr w.heap.size, .int .i64 8, .bool false, .bool false, ptr w.heap.size, .int .i64 8, .bool false, .bool false, undef, .agg tbl, ptr w.heap.size, .int .i64 8, .agg #[.func (.func 48) #[] #[], .nilFunc, .nilFunc, .nilFunc, .func (.func 59) #[] #[]], undef, undef, undef, undef, undef, undef, undef, undef, undef, undef, undef, undef, undef, undef, undef, undef, undef, undef, undef, undef, undef], defers := [] } ∧ Hid (Lp w w' X b c S (⟨8, mode, key, high, val, draw, nn⟩ : Cl) D (deedObj (.func (.func 48) #[] #[]) .nilFunc .nilFunc .nilFunc (.func (.func 59) #[] #[])))) :=
    ⟨fun a' w' => ∃ D, a' = { tmps := #[ptr X, Cl.v ⟨8, mode, key, high, val, draw, nn⟩, undef, ptr w.heap.size, ptr (w.heap.size + 1), ptr D, undef, undef, undef, ptr X, .bool false, undef, ptr w.heap.size, .int .i64 8, .bool false, .bool false, ptr w.heap.size, .int .i64 8, .bool false, .bool false, undef, .agg tbl, ptr w.heap.size, .int .i64 8, .agg #[.func (.func 48) #[] #[], .nilFunc, .nilFunc, .nilFunc, .func (.func 59) #[] #[]], undef, undef, undef, undef, undef, undef, undef, undef, undef, undef, undef, undef, undef, undef, undef, undef, undef, undef, undef, undef, undef], defers := [] } ∧ Hid (Lp w w' X b c S (⟨8, mode, key, high, val, draw, nn⟩ : Cl) D (deedObj (.func (.func 48) #[] #[]) .nilFunc .nilFunc .nilFunc (.func (.func 59) #[] #[]))), xhide (fun D w' h => ⟨D, rfl, xhide h⟩), xhide (fun _ _ h => h)⟩
  refine wp_then K1 ?_ ?_
  · go_region_with (go_at_call 34; refine (HD.out _).mono ?_; rintro e w3 ⟨rfl, hb3⟩; obtain ⟨hlow3, he3, hs3⟩ := low_of hb3 HB2.out HZ.out (by first | exact Below.refl _ _ | exact (Below.refl _ _).drew | exact (ML.below1 _ _).drew | exact ((Below.refl _ _).drew.alloc (Nat.le_refl _) _)); have hc3 := (he3 _ hlw).trans HC.out; have k3 : w3.cell? ⟨w.heap.size, 0, none⟩ = some (.int .i64 8) := (by rw [Go.Joins.cell_of_block hc3]; rfl); have hlw3 : w.heap.size < w3.heap.size := (Array.getElem?_eq_some_iff.1 hc3).1; have hr3 := (he3 (w.heap.size + 1) (by have := HZ.out; omega)).trans HR.out; have hs4 : w.heap.size + 2 ≤ w3.heap.size := (by have := HZ.out; omega); first | (have hd3 : w3.heap[w1.heap.size]? = some (deedObj .nilFunc .nilFunc .nilFunc .nilFunc .nilFunc) := (hb3.block w1.heap.size (by simp)).trans (ML.heap_alloc_at (by simp) _); obtain ⟨⟨p0, p1, p2, p3, p4⟩, r0, r1, r2, r3, r4⟩ := deed_cells hd3; have hlD : w1.heap.size < w3.heap.size := (Array.getElem?_eq_some_iff.1 hd3).1) | skip)
    all_goals
      first
        | exact HQ.out _ _ (lp_old H.out hlow3 hc3 hr3 hd3 (by have := HZ.out; omega) _ _ _ _ _)
        | exact HQ.out _ _ (lp_new H.out hlow3 hc3 hr3 hs4 _)
        | exact HQ.out _ _ (lp_old H.out hlow3 hc3 hr3 hd3 (by have := HZ.out; omega) _ _ _ _ _).drew
        | exact HQ.out _ _ (lp_new H.out hlow3 hc3 hr3 hs4 _).drew
  intro a' w5 hq
  obtain ⟨D, rfl, HL⟩ := HQ1.out a' w5 hq
  clear hq HQ HQ1
  dsimp only []
  have hA := HL.out
  obtain ⟨y0, y1, y2, y3, y4⟩ : w5.cell? ⟨D, 0, none⟩ = some (.func (.func 48) #[] #[]) ∧ w5.cell? ⟨D, 1, none⟩ = some (.nilFunc) ∧ w5.cell? ⟨D, 2, none⟩ = some (.nilFunc) ∧ w5.cell? ⟨D, 3, none⟩ = some (.nilFunc) ∧ w5.cell? ⟨D, 4, none⟩ = some (.func (.func 59) #[] #[]) := by
    refine ⟨?_, ?_, ?_, ?_, ?_⟩ <;> (rw [Go.Joins.cell_of_block hA.dd]; rfl)
  have ix0 : ∀ u : World, (Instr.index 73 (.agg #[.func (.func 48) #[] #[], .nilFunc, .nilFunc, .nilFunc]) (.int .i64 0)).run Try.prog u = .ok (.func (.func 48) #[] #[]) u := fun u => by kernel_rfl
  have ix1 : ∀ u : World, (Instr.index 73 (.agg #[.func (.func 48) #[] #[], .nilFunc, .nilFunc, .nilFunc]) (.int .i64 1)).run Try.prog u = .ok (.nilFunc) u := fun u => by kernel_rfl
  have nq0 : ∀ u : World, (binOp .eql 55 (.func (.func 48) #[] #[]) .nilFunc).run Try.prog u = .ok (.bool false) u := fun u => by kernel_rfl
  have nqn : ∀ u : World, (binOp .eql 55 .nilFunc .nilFunc).run Try.prog u = .ok (.bool true) u := fun u => by kernel_rfl
  obtain ⟨p, hp⟩ : ∃ p, p = ans S (⟨8, mode, key, high, val, draw, nn⟩ : Cl) 8 := ⟨_, rfl⟩
  rw [← hp] at HST
  clear hA
  go_wp2_with fail
  go_loopw [27] (fun i wr => ∃ k : Nat, k ≤ 1 ∧ i = .int .i64 (k : Nat) ∧ Hid ((0 < k → (S.ws.isNone) = false)) ∧ Hid (Lp w wr X b c S (⟨8, mode, key, high, val, draw, nn⟩ : Cl) D (deedObj (.func (.func 48) #[] #[]) .nilFunc .nilFunc .nilFunc (.func (.func 59) #[] #[])))) (fun i _ => 5 - (intOf i).toNat)
  case atStart => exact ⟨0, by omega, rfl, xhide (by simp), HL⟩
  case round =>
    obtain ⟨k, hk, rfl, HF, HL⟩ := hrel
    have hA := HL.out
    clear y0 y1 y2 y3 y4
    have y4 : wr.cell? ⟨D, 4, none⟩ = some (.func (.func 59) #[] #[]) := by rw [Go.Joins.cell_of_block hA.dd]; rfl
    have zc : ∀ i v, [.int .i64 8, .int .i64 mode, .string key, .string high, .string val, .int .i64 draw, .int .i64 nn][i]? = some v → wr.cell? ⟨w.heap.size, i, none⟩ = some v := by
      intro i v hv
      rw [Go.Joins.cell_of_block hA.cb]
      simpa using hv
    have z0 := zc 0 _ rfl
    have z1 := zc 1 _ rfl
    have z2 := zc 2 _ rfl
    have z3 := zc 3 _ rfl
    have z4 := zc 4 _ rfl
    have z5 := zc 5 _ rfl
    have z6 := zc 6 _ rfl
    obtain ⟨⟨q0, q1, q2, q3, q4, q5⟩, g0, g1, g2, g3, g4, g5⟩ := rp_cells hA.rp
    have hl1 : w.heap.size < wr.heap.size := (Array.getElem?_eq_some_iff.1 hA.cb).1
    have hl2 : w.heap.size + 1 < wr.heap.size := (Array.getElem?_eq_some_iff.1 hA.rp).1
    have hl3 : D < wr.heap.size := (Array.getElem?_eq_some_iff.1 hA.dd).1
    clear zc
    rcases k with _ | k
    · have hL := HL.out
      have HCALL := xhide (isNotOpen_any hL.pm (⟨8, mode, key, high, val, draw, nn⟩ : Cl))
      clear hL hA
      cases hc : (S.ws.isNone) with
      | true =>
        have hfst : fst0 (wrg S (⟨8, mode, key, high, val, draw, nn⟩ : Cl) 8) = 152 := by unfold wrg fst0; simp [hc, fst0]
        have FIN : Hid (∀ wz, Below wr.heap.size wr wz → Dn w (rpSet wz (w.heap.size + 1) (.int .i64 152) (.string .empty) (.bool false) (.slice none 0 0) (.int .i64 0) (.int .i64 0)) X b c (stp S (⟨8, mode, key, high, val, draw, nn⟩ : Cl)) (.returned (rp0 152 .empty false 0)) ∧ wz.heap[w.heap.size + 1]? = some rpB) := xhide (fun wz hz => by
          rw [HST.out, hfst, if_neg (by decide)]
          exact ⟨do_code H.out (HL.out.below hz).low, (HL.out.below hz).rp⟩)
        go_wp2_with fail
        refine HCALL.out.mono ?_
        rintro e w6 ⟨he, hb6⟩
        rw [hc] at he
        simp only [if_true] at he
        subst he
        obtain ⟨hfin, hr6⟩ := FIN.out w6 hb6
        have HFIN := xhide hfin
        have HR6 := xhide hr6
        obtain ⟨⟨q0, q1, q2, q3, q4, q5⟩, g0, g1, g2, g3, g4, g5⟩ := rp_cells hr6
        have hl2 : w.heap.size + 1 < w6.heap.size := (Array.getElem?_eq_some_iff.1 hr6).1
        clear hfin hr6 FIN HCALL hb6
        go_wp2
        exact bodyPost_ret (v := rp0 152 .empty false 0) (results_cell_row (p := 4) (ty := 41) rfl _ _ (w.heap.size + 1) 41 _ (0, 0) _ rfl (rp_set HR6.out _ _ _ _ _ _) Try.underlying41 rfl (by kernel_rfl)) rfl HFIN.out
      | false =>
        go_wp2_with fail
        refine HCALL.out.mono ?_
        rintro e w6 ⟨he, hb6⟩
        rw [hc] at he
        simp only [if_false, Bool.false_eq_true] at he
        subst he
        have HL6 := xhide (HL.out.below hb6)
        clear HCALL hb6
        go_wp2
        go_roundw
        case rel => exact ⟨1, by omega, by go_num, xhide (by simp [hc]), HL6⟩
        case measure => simp [intOf]
    · have hk0 : k = 0 := by omega
      subst hk0
      have hL := HL.out
      have pv0 := HF.out (by omega)
      have hfst : fst0 (wrg S (⟨8, mode, key, high, val, draw, nn⟩ : Cl) 8) = 0 := by unfold wrg fst0; simp [pv0, fst0]
      have hstp : stp S (⟨8, mode, key, high, val, draw, nn⟩ : Cl) = p := by rw [HST.out, hfst, if_pos rfl]
      have HCALL : Hid (Calls Try.prog 59 #[ptr X, Cl.v ⟨8, mode, key, high, val, draw, nn⟩] wr fun e w' => Dn wr w' X b c p e) := xhide (by rw [hp]; exact abort_any hL.pm (⟨8, mode, key, high, val, draw, nn⟩ : Cl))
      have FIN : Hid (∀ w6 e, Dn wr w6 X b c p e → ∃ v sv, e = .returned v ∧ v = .agg #[.int .i64 p.2.code, .string p.2.val, .bool p.2.found, sv, .int .i64 p.2.time, .int .i64 0] ∧ w6.heap[w.heap.size + 1]? = some rpB ∧ (∃ ao ln cp, sv = .slice ao ln cp) ∧
          Dn w (rpSet w6 (w.heap.size + 1) (.int .i64 p.2.code) (.string p.2.val) (.bool p.2.found) sv (.int .i64 p.2.time) (.int .i64 0)) X b c (stp S (⟨8, mode, key, high, val, draw, nn⟩ : Cl)) (.returned v)) := xhide (fun w6 e hd => by
        have hd' := hd
        obtain ⟨v, c', rfl, _⟩ := hd'
        obtain ⟨sv, e1, e2, e3, e4⟩ := do_tail H.out HL.out.low (by omega) HL.out.rp hd
        exact ⟨v, sv, rfl, e1, e2, e3, by rw [hstp]; exact e4⟩)
      clear hL hA hfst hp
      go_wp2_with fail
      refine HCALL.out.mono ?_
      rintro e w6 hd
      obtain ⟨v, sv, rfl, rfl, hr6, ⟨ao, ln, cp, rfl⟩, hfin⟩ := FIN.out w6 e hd
      have HFIN := xhide hfin
      have HR6 := xhide hr6
      obtain ⟨⟨q0, q1, q2, q3, q4, q5⟩, g0, g1, g2, g3, g4, g5⟩ := rp_cells hr6
      have hl2 : w.heap.size + 1 < w6.heap.size := (Array.getElem?_eq_some_iff.1 hr6).1
      clear hfin hr6 FIN HCALL hd
      go_wp2
      exact bodyPost_ret (results_cell_row (p := 4) (ty := 41) rfl _ _ (w.heap.size + 1) 41 _ (0, 0) _ rfl (rp_set HR6.out _ _ _ _ _ _) Try.underlying41 rfl (by kernel_rfl)) rfl HFIN.out
theorem do_9 (h : Pm w X b c S) (hLen : S.L.length + 64 ≤ big) (mode draw nn : Int) (key high val : ByteArray) : Calls Try.prog 13 #[ptr X, Cl.v ⟨9, mode, key, high, val, draw, nn⟩] w fun e w' => Dn w w' X b c (stp S (⟨9, mode, key, high, val, draw, nn⟩ : Cl)) e := by
  obtain ⟨W2, hW2, hb2, hz, hr, hc⟩ := laid2 w (⟨9, mode, key, high, val, draw, nn⟩ : Cl)
  have hLen2 : S.L.length + 64 ≤ 1000000000000000 := by unfold big at hLen; omega
  have HN := xhide (none_any (h.below hb2))
  have HD := xhide (fun w => deeds_any w)
  have k0 : W2.cell? ⟨w.heap.size, 0, none⟩ = some (.int .i64 9) := by rw [Go.Joins.cell_of_block hc]; rfl
  have hst : stp S (⟨9, mode, key, high, val, draw, nn⟩ : Cl) = if fst0 (wrg S (⟨9, mode, key, high, val, draw, nn⟩ : Cl) 9) = 0 then ans S (⟨9, mode, key, high, val, draw, nn⟩ : Cl) 9 else (S, { code := fst0 (wrg S (⟨9, mode, key, high, val, draw, nn⟩ : Cl) 9) }) := by unfold stp; rfl
  have hlw : w.heap.size < W2.heap.size := by omega
  have hix : ∀ u : World, (Instr.index 77 (.agg tbl) (.int .i64 9)).run Try.prog u = .ok (.agg #[.func (.func 45) #[] #[], .nilFunc, .nilFunc, .nilFunc, .func (.func 60) #[] #[]]) u := fun u => by kernel_rfl
  have H := xhide h
  have HB2 := xhide hb2
  have HR := xhide hr
  have HC := xhide hc
  have HZ := xhide hz
  have HST := xhide hst
  clear h hb2 hr hc hz hst
  go_enter Try.func13, Try.ntmps13
  go_wp2_with fail
  rw [← hW2]
  clear hW2
  refine HN.out.mono ?_
  rintro e w1 ⟨rfl, rfl⟩
  go_wp2_with fail
  obtain ⟨K1, HQ, HQ1⟩ : ∃ K1 : Act → World → Prop, Hid (∀ D w', Lp w w' X b c S (⟨9, mode, key, high, val, draw, nn⟩ : Cl) D (deedObj (.func (.func 45) #[] #[]) .nilFunc .nilFunc .nilFunc (.func (.func 60) #[] #[])) → K1 { tmps := #[ptr X, Cl.v ⟨9, mode, key, high, val, draw, nn⟩, undef, ptr w.heap.size, ptr (w.heap.size + 1), ptr D, undef, undef, undef, ptr X, .bool false, undef, ptr w.heap.size, .int .i64 9, .bool false, .bool false, ptr w.heap.size, .int .i64 9, .bool false, .bool false, undef, .agg tbl, ptr w.heap.size, .int .i64 9, .agg #[.func (.func 45) #[] #[], .nilFunc, .nilFunc, .nilFunc, .func (.func 60) #[] #[]], undef, undef, undef, undef, undef, undef, undef, undef, undef, undef, undef, undef, undef, undef, undef, undef, undef, undef, undef, undef, undef], defers := [] } w') ∧ Hid (∀ a w', K1 a w' → ∃ D, a = { tmps := #[ptr X, Cl.v ⟨9, mode, key, high, val, draw, nn⟩, undef, ptr w.heap.size, ptr (w.heap.size + 1), ptr D, undef, undef, undef, ptr X, .bool false, undef, ptr w.heap.size, .int .i64 9, .bool false, .bool false, ptr w.heap.size, .int .i64 9, .bool false, .bool false, undef, .agg tbl, ptr w.heap.size, .int .i64 9, .agg #[.func (.func 45) #[] #[], .nilFunc, .nilFunc, .nilFunc, .func (.func 60) #[] #[]], undef, undef, undef, undef, undef, undef, undef, undef, undef, undef, undef, undef, undef, undef, undef, undef, undef, undef, undef, undef, undef], defers := [] } ∧ Hid (Lp w w' X b c S (⟨9, mode, key, high, val, draw, nn⟩ : Cl) D (deedObj (.func (.func 45) #[] #[]) .nilFunc .nilFunc .nilFunc (.func (.func 60) #[] #[])))) :=
    ⟨fun a' w' => ∃ D, a' = { tmps := #[ptr X, Cl.v ⟨9, mode, key, high, val, draw, nn⟩, undef, ptr w.heap.size, ptr (w.heap.size + 1), ptr D, undef, undef, undef, ptr X, .bool false, undef, ptr w.heap.size, .int .i64 9, .bool false, .bool false, ptr w.heap.size, .int .i64 9, .bool false, .bool false, undef, .agg tbl, ptr w.heap.size, .int .i64 9, .agg #[.func (.func 45) #[] #[], .nilFunc, .nilFunc, .nilFunc, .func (.func 60) #[] #[]], undef, undef, undef, undef, undef, undef, undef, undef, undef, undef, undef, undef, undef, undef, undef, undef, undef, undef, undef, undef, undef], defers := [] } ∧ Hid (Lp w w' X b c S (⟨9, mode, key, high, val, draw, nn⟩ : Cl) D (deedObj (.func (.func 45) #[] #[]) .nilFunc .nilFunc .nilFunc (.func (.func 60) #[] #[]))), xhide (fun D w' h => ⟨D, rfl, xhide h⟩), xhide (fun _ _ h => h)⟩
  refine wp_then K1 ?_ ?_
  · go_region_with (go_at_call 34; refine (HD.out _).mono ?_; rintro e w3 ⟨rfl, hb3⟩; obtain ⟨hlow3, he3, hs3⟩ := low_of hb3 HB2.out HZ.out (by first | exact Below.refl _ _ | exact (Below.refl _ _).drew | exact (ML.below1 _ _).drew | exact ((Below.refl _ _).drew.alloc (Nat.le_refl _) _)); have hc3 := (he3 _ hlw).trans HC.out; have k3 : w3.cell? ⟨w.heap.size, 0, none⟩ = some (.int .i64 9) := (by rw [Go.Joins.cell_of_block hc3]; rfl); have hlw3 : w.heap.size < w3.heap.size := (Array.getElem?_eq_some_iff.1 hc3).1; have hr3 := (he3 (w.heap.size + 1) (by have := HZ.out; omega)).trans HR.out; have hs4 : w.heap.size + 2 ≤ w3.heap.size := (by have := HZ.out; omega); first | (have hd3 : w3.heap[w1.heap.size]? = some (deedObj .nilFunc .nilFunc .nilFunc .nilFunc .nilFunc) := (hb3.block w1.heap.size (by simp)).trans (ML.heap_alloc_at (by simp) _); obtain ⟨⟨p0, p1, p2, p3, p4⟩, r0, r1, r2, r3, r4⟩ := deed_cells hd3; have hlD : w1.heap.size < w3.heap.size := (Array.getElem?_eq_some_iff.1 hd3).1) | skip)
    all_goals
      first
        | exact HQ.out _ _ (lp_old H.out hlow3 hc3 hr3 hd3 (by have := HZ.out; omega) _ _ _ _ _)
        | exact HQ.out _ _ (lp_new H.out hlow3 hc3 hr3 hs4 _)
        | exact HQ.out _ _ (lp_old H.out hlow3 hc3 hr3 hd3 (by have := HZ.out; omega) _ _ _ _ _).drew
        | exact HQ.out _ _ (lp_new H.out hlow3 hc3 hr3 hs4 _).drew
  intro a' w5 hq
  obtain ⟨D, rfl, HL⟩ := HQ1.out a' w5 hq
  clear hq HQ HQ1
  dsimp only []
  have hA := HL.out
  obtain ⟨y0, y1, y2, y3, y4⟩ : w5.cell? ⟨D, 0, none⟩ = some (.func (.func 45) #[] #[]) ∧ w5.cell? ⟨D, 1, none⟩ = some (.nilFunc) ∧ w5.cell? ⟨D, 2, none⟩ = some (.nilFunc) ∧ w5.cell? ⟨D, 3, none⟩ = some (.nilFunc) ∧ w5.cell? ⟨D, 4, none⟩ = some (.func (.func 60) #[] #[]) := by
    refine ⟨?_, ?_, ?_, ?_, ?_⟩ <;> (rw [Go.Joins.cell_of_block hA.dd]; rfl)
  have ix0 : ∀ u : World, (Instr.index 73 (.agg #[.func (.func 45) #[] #[], .nilFunc, .nilFunc, .nilFunc]) (.int .i64 0)).run Try.prog u = .ok (.func (.func 45) #[] #[]) u := fun u => by kernel_rfl
  have ix1 : ∀ u : World, (Instr.index 73 (.agg #[.func (.func 45) #[] #[], .nilFunc, .nilFunc, .nilFunc]) (.int .i64 1)).run Try.prog u = .ok (.nilFunc) u := fun u => by kernel_rfl
  have nq0 : ∀ u : World, (binOp .eql 55 (.func (.func 45) #[] #[]) .nilFunc).run Try.prog u = .ok (.bool false) u := fun u => by kernel_rfl
  have nqn : ∀ u : World, (binOp .eql 55 .nilFunc .nilFunc).run Try.prog u = .ok (.bool true) u := fun u => by kernel_rfl
  obtain ⟨p, hp⟩ : ∃ p, p = ans S (⟨9, mode, key, high, val, draw, nn⟩ : Cl) 9 := ⟨_, rfl⟩
  rw [← hp] at HST
  clear hA
  go_wp2_with fail
  go_loopw [27] (fun i wr => ∃ k : Nat, k ≤ 1 ∧ i = .int .i64 (k : Nat) ∧ Hid ((0 < k → (S.ws.isSome) = false)) ∧ Hid (Lp w wr X b c S (⟨9, mode, key, high, val, draw, nn⟩ : Cl) D (deedObj (.func (.func 45) #[] #[]) .nilFunc .nilFunc .nilFunc (.func (.func 60) #[] #[])))) (fun i _ => 5 - (intOf i).toNat)
  case atStart => exact ⟨0, by omega, rfl, xhide (by simp), HL⟩
  case round =>
    obtain ⟨k, hk, rfl, HF, HL⟩ := hrel
    have hA := HL.out
    clear y0 y1 y2 y3 y4
    have y4 : wr.cell? ⟨D, 4, none⟩ = some (.func (.func 60) #[] #[]) := by rw [Go.Joins.cell_of_block hA.dd]; rfl
    have zc : ∀ i v, [.int .i64 9, .int .i64 mode, .string key, .string high, .string val, .int .i64 draw, .int .i64 nn][i]? = some v → wr.cell? ⟨w.heap.size, i, none⟩ = some v := by
      intro i v hv
      rw [Go.Joins.cell_of_block hA.cb]
      simpa using hv
    have z0 := zc 0 _ rfl
    have z1 := zc 1 _ rfl
    have z2 := zc 2 _ rfl
    have z3 := zc 3 _ rfl
    have z4 := zc 4 _ rfl
    have z5 := zc 5 _ rfl
    have z6 := zc 6 _ rfl
    obtain ⟨⟨q0, q1, q2, q3, q4, q5⟩, g0, g1, g2, g3, g4, g5⟩ := rp_cells hA.rp
    have hl1 : w.heap.size < wr.heap.size := (Array.getElem?_eq_some_iff.1 hA.cb).1
    have hl2 : w.heap.size + 1 < wr.heap.size := (Array.getElem?_eq_some_iff.1 hA.rp).1
    have hl3 : D < wr.heap.size := (Array.getElem?_eq_some_iff.1 hA.dd).1
    clear zc
    rcases k with _ | k
    · have hL := HL.out
      have HCALL := xhide (isOpen_any hL.pm (⟨9, mode, key, high, val, draw, nn⟩ : Cl))
      clear hL hA
      cases hc : (S.ws.isSome) with
      | true =>
        have hfst : fst0 (wrg S (⟨9, mode, key, high, val, draw, nn⟩ : Cl) 9) = 153 := by unfold wrg fst0; simp [hc, fst0]
        have FIN : Hid (∀ wz, Below wr.heap.size wr wz → Dn w (rpSet wz (w.heap.size + 1) (.int .i64 153) (.string .empty) (.bool false) (.slice none 0 0) (.int .i64 0) (.int .i64 0)) X b c (stp S (⟨9, mode, key, high, val, draw, nn⟩ : Cl)) (.returned (rp0 153 .empty false 0)) ∧ wz.heap[w.heap.size + 1]? = some rpB) := xhide (fun wz hz => by
          rw [HST.out, hfst, if_neg (by decide)]
          exact ⟨do_code H.out (HL.out.below hz).low, (HL.out.below hz).rp⟩)
        go_wp2_with fail
        refine HCALL.out.mono ?_
        rintro e w6 ⟨he, hb6⟩
        rw [hc] at he
        simp only [if_true] at he
        subst he
        obtain ⟨hfin, hr6⟩ := FIN.out w6 hb6
        have HFIN := xhide hfin
        have HR6 := xhide hr6
        obtain ⟨⟨q0, q1, q2, q3, q4, q5⟩, g0, g1, g2, g3, g4, g5⟩ := rp_cells hr6
        have hl2 : w.heap.size + 1 < w6.heap.size := (Array.getElem?_eq_some_iff.1 hr6).1
        clear hfin hr6 FIN HCALL hb6
        go_wp2
        exact bodyPost_ret (v := rp0 153 .empty false 0) (results_cell_row (p := 4) (ty := 41) rfl _ _ (w.heap.size + 1) 41 _ (0, 0) _ rfl (rp_set HR6.out _ _ _ _ _ _) Try.underlying41 rfl (by kernel_rfl)) rfl HFIN.out
      | false =>
        go_wp2_with fail
        refine HCALL.out.mono ?_
        rintro e w6 ⟨he, hb6⟩
        rw [hc] at he
        simp only [if_false, Bool.false_eq_true] at he
        subst he
        have HL6 := xhide (HL.out.below hb6)
        clear HCALL hb6
        go_wp2
        go_roundw
        case rel => exact ⟨1, by omega, by go_num, xhide (by simp [hc]), HL6⟩
        case measure => simp [intOf]
    · have hk0 : k = 0 := by omega
      subst hk0
      have hL := HL.out
      have pv0 := HF.out (by omega)
      have hfst : fst0 (wrg S (⟨9, mode, key, high, val, draw, nn⟩ : Cl) 9) = 0 := by unfold wrg fst0; simp [pv0, fst0]
      have hstp : stp S (⟨9, mode, key, high, val, draw, nn⟩ : Cl) = p := by rw [HST.out, hfst, if_pos rfl]
      have HCALL : Hid (Calls Try.prog 60 #[ptr X, Cl.v ⟨9, mode, key, high, val, draw, nn⟩] wr fun e w' => Dn wr w' X b c p e) := xhide (by rw [hp]; exact rest_any hL.pm (⟨9, mode, key, high, val, draw, nn⟩ : Cl))
      have FIN : Hid (∀ w6 e, Dn wr w6 X b c p e → ∃ v sv, e = .returned v ∧ v = .agg #[.int .i64 p.2.code, .string p.2.val, .bool p.2.found, sv, .int .i64 p.2.time, .int .i64 0] ∧ w6.heap[w.heap.size + 1]? = some rpB ∧ (∃ ao ln cp, sv = .slice ao ln cp) ∧
          Dn w (rpSet w6 (w.heap.size + 1) (.int .i64 p.2.code) (.string p.2.val) (.bool p.2.found) sv (.int .i64 p.2.time) (.int .i64 0)) X b c (stp S (⟨9, mode, key, high, val, draw, nn⟩ : Cl)) (.returned v)) := xhide (fun w6 e hd => by
        have hd' := hd
        obtain ⟨v, c', rfl, _⟩ := hd'
        obtain ⟨sv, e1, e2, e3, e4⟩ := do_tail H.out HL.out.low (by omega) HL.out.rp hd
        exact ⟨v, sv, rfl, e1, e2, e3, by rw [hstp]; exact e4⟩)
      clear hL hA hfst hp
      go_wp2_with fail
      refine HCALL.out.mono ?_
      rintro e w6 hd
      obtain ⟨v, sv, rfl, rfl, hr6, ⟨ao, ln, cp, rfl⟩, hfin⟩ := FIN.out w6 e hd
      have HFIN := xhide hfin
      have HR6 := xhide hr6
      obtain ⟨⟨q0, q1, q2, q3, q4, q5⟩, g0, g1, g2, g3, g4, g5⟩ := rp_cells hr6
      have hl2 : w.heap.size + 1 < w6.heap.size := (Array.getElem?_eq_some_iff.1 hr6).1
      clear hfin hr6 FIN HCALL hd
      go_wp2
      exact bodyPost_ret (results_cell_row (p := 4) (ty := 41) rfl _ _ (w.heap.size + 1) 41 _ (0, 0) _ rfl (rp_set HR6.out _ _ _ _ _ _) Try.underlying41 rfl (by kernel_rfl)) rfl HFIN.out
end
end Go.Proofs.Ytheidhkmmihjlaa
