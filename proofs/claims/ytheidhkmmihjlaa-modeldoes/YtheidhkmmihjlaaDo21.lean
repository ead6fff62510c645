/-
  XmH: Do, kind by kind.
-/
import Derived.Test.YtheidhkmmihjlaaDo19
import Derived.Test.YtheidhkmmihjlaaDo20
import Derived.Test.YtheidhkmmihjlaaDo17
import Derived.Test.YtheidhkmmihjlaaDo15
import Derived.Test.YtheidhkmmihjlaaDo18
import Derived.ProofKit
import Derived.OpenShut
import Derived.SizedLaws
set_option linter.unusedVariables false
set_option linter.unusedSimpArgs false
namespace Go.Proofs.Ytheidhkmmihjlaa
open Go.RowKit Go.Shelf Go.Maps
attribute [local go_sem] Oper.semAt_some
section
set_option maxHeartbeats 1000000
set_option maxRecDepth 100000
variable {w : World} {X b : Nat} {c : Option Nat} {S : Ms} {C : Cl}
theorem do_10 (h : Pm w X b c S) (hLen : S.L.length + 64 ≤ big) (mode draw nn : Int) (key high val : ByteArray) : Calls Try.prog 13 #[ptr X, Cl.v ⟨10, mode, key, high, val, draw, nn⟩] w fun e w' => Dn w w' X b c (stp S (⟨10, mode, key, high, val, draw, nn⟩ : Cl)) e := by
  obtain ⟨W2, hW2, hb2, hz, hr, hc⟩ := laid2 w (⟨10, mode, key, high, val, draw, nn⟩ : Cl)
  have hLen2 : S.L.length + 64 ≤ 1000000000000000 := by unfold big at hLen; omega
  have HN := xhide (none_any (h.below hb2))
  have HD := xhide (fun w => deeds_any w)
  have k0 : W2.cell? ⟨w.heap.size, 0, none⟩ = some (.int .i64 10) := by rw [Go.Joins.cell_of_block hc]; rfl
  have hst : stp S (⟨10, mode, key, high, val, draw, nn⟩ : Cl) = if fst0 (wrg S (⟨10, mode, key, high, val, draw, nn⟩ : Cl) 10) = 0 then ans S (⟨10, mode, key, high, val, draw, nn⟩ : Cl) 10 else (S, { code := fst0 (wrg S (⟨10, mode, key, high, val, draw, nn⟩ : Cl) 10) }) := by unfold stp; rfl
  have hlw : w.heap.size < W2.heap.size := by omega
  have hix : ∀ u : World, (Instr.index 77 (.agg tbl) (.int .i64 10)).run Try.prog u = .ok (.agg #[.func (.func 45) #[] #[], .nilFunc, .nilFunc, .nilFunc, .func (.func 60) #[] #[]]) u := fun u => by kernel_rfl
  have H := xhide h
  have HB2 := xhide hb2
  have HR := xhide hr
  have HC := xhide hc
  have HZ := xhide hz
  have HST := xhide hst
  clear h hb2 hr hc hz hst
  go_enter Try.func13, Try.ntmps13
  go_wp2_with fail
  rw [← hW2]
  clear hW2
  refine HN.out.mono ?_
  rintro e w1 ⟨rfl, rfl⟩
  go_wp2_with fail
  obtain ⟨K1, HQ, HQ1⟩ : ∃ K1 : Act → World → Prop, Hid (∀ D w', Lp w w' X b c S (⟨10, mode, key, high, val, draw, nn⟩ : Cl) D (deedObj (.func (.func 45) #[] #[]) .nilFunc .nilFunc .nilFunc (.func (.func 60) #[] #[])) → K1 { tmps := #[ptr X, Cl.v ⟨10, mode, key, high, val, draw, nn⟩, undef, ptr w.heap.size, ptr (w.heap.size + 1), ptr D, undef, undef, undef, ptr X, .bool false, undef, ptr w.heap.size, .int .i64 10, .bool false, .bool false, ptr w.heap.size, .int .i64 10, .bool false, .bool false, undef, .agg tbl, ptr w.heap.size, .int .i64 10, .agg #[.func (.func 45) #[] #[], .nilFunc, .nilFunc, .nilFunc, .func (.func 60) #[] #[]], undef, undef, undef, undef, undef, undef, undef, undef, undef, undef, undef, undef, undef, undef, undef, undef, undef, undef, undef, undef, undef], defers := [] } w') ∧ Hid (∀ a w', K1 a w' → ∃ D, a = { tmps := #[ptr X, Cl.v ⟨10, mode, key, high, val, draw, nn⟩, undef, ptr w.heap.size, ptr (w.heap.size + 1), ptr D, undef, undef, undef, ptr X, .bool false, undef, ptr w.heap.size, .int .i64 10, .bool false, .bool false, ptr w.heap.size, .int .i64 10, .bool false, .bool false, undef, .agg tbl, ptr w.heap.size, .int .i64 10, .agg #[.func (.func 45) #[] #[], .nilFunc, .nilFunc, .nilFunc, .func (.func 60) #[] #[]], undef, undef, undef, undef, undef, undef, undef, undef, undef, undef, undef, undef, undef, undef, undef, undef, undef, undef, undef, undef, undef], defers := [] } ∧ Hid (Lp w w' X b c S (⟨10, mode, key, high, val, draw, nn⟩ : Cl) D (deedObj (.func (.func 45) #[] #[]) .nilFunc .nilFunc .nilFunc (.func (.func 60) #[] #[])))) :=
    ⟨fun a' w' => ∃ D, a' = { tmps := #[ptr X, Cl.v ⟨10, mode, key, high, val, draw, nn⟩, undef, ptr w.heap.size, ptr (w.heap.size + 1), ptr D, undef, undef, undef, ptr X, .bool false, undef, ptr w.heap.size, .int .i64 10, .bool false, .bool false, ptr w.heap.size, .int .i64 10, .bool false, .bool false, undef, .agg tbl, ptr w.heap.size, .int .i64 10, .agg #[.func (.func 45) #[] #[], .nilFunc, .nilFunc, .nilFunc, .func (.func 60) #[] #[]], undef, undef, undef, undef, undef, undef, undef, undef, undef, undef, undef, undef, undef, undef, undef, undef, undef, undef, undef, undef, undef], defers := [] } ∧ Hid (Lp w w' X b c S (⟨10, mode, key, high, val, draw, nn⟩ : Cl) D (deedObj (.func (.func 45) #[] #[]) .nilFunc .nilFunc .nilFunc (.func (.func 60) #[] #[]))), xhide (fun D w' h => ⟨D, rfl, xhide h⟩), xhide (fun _ _ h => h)⟩
  refine wp_then K1 ?_ ?_
  · go_region_with (go_at_call 34; refine (HD.out _).mono ?_; rintro e w3 ⟨rfl, hb3⟩; obtain ⟨hlow3, he3, hs3⟩ := low_of hb3 HB2.out HZ.out (by first | exact Below.refl _ _ | exact (Below.refl _ _).drew | exact (ML.below1 _ _).drew | exact ((Below.refl _ _).drew.alloc (Nat.le_refl _) _)); have hc3 := (he3 _ hlw).trans HC.out; have k3 : w3.cell? ⟨w.heap.size, 0, none⟩ = some (.int .i64 10) := (by rw [Go.Joins.cell_of_block hc3]; rfl); have hlw3 : w.heap.size < w3.heap.size := (Array.getElem?_eq_some_iff.1 hc3).1; have hr3 := (he3 (w.heap.size + 1) (by have := HZ.out; omega)).trans HR.out; have hs4 : w.heap.size + 2 ≤ w3.heap.size := (by have := HZ.out; omega); first | (have hd3 : w3.heap[w1.heap.size]? = some (deedObj .nilFunc .nilFunc .nilFunc .nilFunc .nilFunc) := (hb3.block w1.heap.size (by simp)).trans (ML.heap_alloc_at (by simp) _); obtain ⟨⟨p0, p1, p2, p3, p4⟩, r0, r1, r2, r3, r4⟩ := deed_cells hd3; have hlD : w1.heap.size < w3.heap.size := (Array.getElem?_eq_some_iff.1 hd3).1) | skip)
    all_goals
      first
        | exact HQ.out _ _ (lp_old H.out hlow3 hc3 hr3 hd3 (by have := HZ.out; omega) _ _ _ _ _)
        | exact HQ.out _ _ (lp_new H.out hlow3 hc3 hr3 hs4 _)
        | exact HQ.out _ _ (lp_old H.out hlow3 hc3 hr3 hd3 (by have := HZ.out; omega) _ _ _ _ _).drew
        | exact HQ.out _ _ (lp_new H.out hlow3 hc3 hr3 hs4 _).drew
  intro a' w5 hq
  obtain ⟨D, rfl, HL⟩ := HQ1.out a' w5 hq
  clear hq HQ HQ1
  dsimp only []
  have hA := HL.out
  obtain ⟨y0, y1, y2, y3, y4⟩ : w5.cell? ⟨D, 0, none⟩ = some (.func (.func 45) #[] #[]) ∧ w5.cell? ⟨D, 1, none⟩ = some (.nilFunc) ∧ w5.cell? ⟨D, 2, none⟩ = some (.nilFunc) ∧ w5.cell? ⟨D, 3, none⟩ = some (.nilFunc) ∧ w5.cell? ⟨D, 4, none⟩ = some (.func (.func 60) #[] #[]) := by
    refine ⟨?_, ?_, ?_, ?_, ?_⟩ <;> (rw [Go.Joins.cell_of_block hA.dd]; rfl)
  have ix0 : ∀ u : World, (Instr.index 73 (.agg #[.func (.func 45) #[] #[], .nilFunc, .nilFunc, .nilFunc]) (.int .i64 0)).run Try.prog u = .ok (.func (.func 45) #[] #[]) u := fun u => by kernel_rfl
  have ix1 : ∀ u : World, (Instr.index 73 (.agg #[.func (.func 45) #[] #[], .nilFunc, .nilFunc, .nilFunc]) (.int .i64 1)).run Try.prog u = .ok (.nilFunc) u := fun u => by kernel_rfl
  have nq0 : ∀ u : World, (binOp .eql 55 (.func (.func 45) #[] #[]) .nilFunc).run Try.prog u = .ok (.bool false) u := fun u => by kernel_rfl
  have nqn : ∀ u : World, (binOp .eql 55 .nilFunc .nilFunc).run Try.prog u = .ok (.bool true) u := fun u => by kernel_rfl
  obtain ⟨p, hp⟩ : ∃ p, p = ans S (⟨10, mode, key, high, val, draw, nn⟩ : Cl) 10 := ⟨_, rfl⟩
  rw [← hp] at HST
  clear hA
  go_wp2_with fail
  go_loopw [27] (fun i wr => ∃ k : Nat, k ≤ 1 ∧ i = .int .i64 (k : Nat) ∧ Hid ((0 < k → (S.ws.isSome) = false)) ∧ Hid (Lp w wr X b c S (⟨10, mode, key, high, val, draw, nn⟩ : Cl) D (deedObj (.func (.func 45) #[] #[]) .nilFunc .nilFunc .nilFunc (.func (.func 60) #[] #[])))) (fun i _ => 5 - (intOf i).toNat)
  case atStart => exact ⟨0, by omega, rfl, xhide (by simp), HL⟩
  case round =>
    obtain ⟨k, hk, rfl, HF, HL⟩ := hrel
    have hA := HL.out
    clear y0 y1 y2 y3 y4
    have y4 : wr.cell? ⟨D, 4, none⟩ = some (.func (.func 60) #[] #[]) := by rw [Go.Joins.cell_of_block hA.dd]; rfl
    have zc : ∀ i v, [.int .i64 10, .int .i64 mode, .string key, .string high, .string val, .int .i64 draw, .int .i64 nn][i]? = some v → wr.cell? ⟨w.heap.size, i, none⟩ = some v := by
      intro i v hv
      rw [Go.Joins.cell_of_block hA.cb]
      simpa using hv
    have z0 := zc 0 _ rfl
    have z1 := zc 1 _ rfl
    have z2 := zc 2 _ rfl
    have z3 := zc 3 _ rfl
    have z4 := zc 4 _ rfl
    have z5 := zc 5 _ rfl
    have z6 := zc 6 _ rfl
    obtain ⟨⟨q0, q1, q2, q3, q4, q5⟩, g0, g1, g2, g3, g4, g5⟩ := rp_cells hA.rp
    have hl1 : w.heap.size < wr.heap.size := (Array.getElem?_eq_some_iff.1 hA.cb).1
    have hl2 : w.heap.size + 1 < wr.heap.size := (Array.getElem?_eq_some_iff.1 hA.rp).1
    have hl3 : D < wr.heap.size := (Array.getElem?_eq_some_iff.1 hA.dd).1
    clear zc
    rcases k with _ | k
    · have hL := HL.out
      have HCALL := xhide (isOpen_any hL.pm (⟨10, mode, key, high, val, draw, nn⟩ : Cl))
      clear hL hA
      cases hc : (S.ws.isSome) with
      | true =>
        have hfst : fst0 (wrg S (⟨10, mode, key, high, val, draw, nn⟩ : Cl) 10) = 153 := by unfold wrg fst0; simp [hc, fst0]
        have FIN : Hid (∀ wz, Below wr.heap.size wr wz → Dn w (rpSet wz (w.heap.size + 1) (.int .i64 153) (.string .empty) (.bool false) (.slice none 0 0) (.int .i64 0) (.int .i64 0)) X b c (stp S (⟨10, mode, key, high, val, draw, nn⟩ : Cl)) (.returned (rp0 153 .empty false 0)) ∧ wz.heap[w.heap.size + 1]? = some rpB) := xhide (fun wz hz => by
          rw [HST.out, hfst, if_neg (by decide)]
          exact ⟨do_code H.out (HL.out.below hz).low, (HL.out.below hz).rp⟩)
        go_wp2_with fail
        refine HCALL.out.mono ?_
        rintro e w6 ⟨he, hb6⟩
        rw [hc] at he
        simp only [if_true] at he
        subst he
        obtain ⟨hfin, hr6⟩ := FIN.out w6 hb6
        have HFIN := xhide hfin
        have HR6 := xhide hr6
        obtain ⟨⟨q0, q1, q2, q3, q4, q5⟩, g0, g1, g2, g3, g4, g5⟩ := rp_cells hr6
        have hl2 : w.heap.size + 1 < w6.heap.size := (Array.getElem?_eq_some_iff.1 hr6).1
        clear hfin hr6 FIN HCALL hb6
        go_wp2
        exact bodyPost_ret (v := rp0 153 .empty false 0) (results_cell_row (p := 4) (ty := 41) rfl _ _ (w.heap.size + 1) 41 _ (0, 0) _ rfl (rp_set HR6.out _ _ _ _ _ _) Try.underlying41 rfl (by kernel_rfl)) rfl HFIN.out
      | false =>
        go_wp2_with fail
        refine HCALL.out.mono ?_
        rintro e w6 ⟨he, hb6⟩
        rw [hc] at he
        simp only [if_false, Bool.false_eq_true] at he
        subst he
        have HL6 := xhide (HL.out.below hb6)
        clear HCALL hb6
        go_wp2
        go_roundw
        case rel => exact ⟨1, by omega, by go_num, xhide (by simp [hc]), HL6⟩
        case measure => simp [intOf]
    · have hk0 : k = 0 := by omega
      subst hk0
      have hL := HL.out
      have pv0 := HF.out (by omega)
      have hfst : fst0 (wrg S (⟨10, mode, key, high, val, draw, nn⟩ : Cl) 10) = 0 := by unfold wrg fst0; simp [pv0, fst0]
      have hstp : stp S (⟨10, mode, key, high, val, draw, nn⟩ : Cl) = p := by rw [HST.out, hfst, if_pos rfl]
      have HCALL : Hid (Calls Try.prog 60 #[ptr X, Cl.v ⟨10, mode, key, high, val, draw, nn⟩] wr fun e w' => Dn wr w' X b c p e) := xhide (by rw [hp]; exact rest_any hL.pm (⟨10, mode, key, high, val, draw, nn⟩ : Cl))
      have FIN : Hid (∀ w6 e, Dn wr w6 X b c p e → ∃ v sv, e = .returned v ∧ v = .agg #[.int .i64 p.2.code, .string p.2.val, .bool p.2.found, sv, .int .i64 p.2.time, .int .i64 0] ∧ w6.heap[w.heap.size + 1]? = some rpB ∧ (∃ ao ln cp, sv = .slice ao ln cp) ∧
          Dn w (rpSet w6 (w.heap.size + 1) (.int .i64 p.2.code) (.string p.2.val) (.bool p.2.found) sv (.int .i64 p.2.time) (.int .i64 0)) X b c (stp S (⟨10, mode, key, high, val, draw, nn⟩ : Cl)) (.returned v)) := xhide (fun w6 e hd => by
        have hd' := hd
        obtain ⟨v, c', rfl, _⟩ := hd'
        obtain ⟨sv, e1, e2, e3, e4⟩ := do_tail H.out HL.out.low (by omega) HL.out.rp hd
        exact ⟨v, sv, rfl, e1, e2, e3, by rw [hstp]; exact e4⟩)
      clear hL hA hfst hp
      go_wp2_with fail
      refine HCALL.out.mono ?_
      rintro e w6 hd
      obtain ⟨v, sv, rfl, rfl, hr6, ⟨ao, ln, cp, rfl⟩, hfin⟩ := FIN.out w6 e hd
      have HFIN := xhide hfin
      have HR6 := xhide hr6
      obtain ⟨⟨q0, q1, q2, q3, q4, q5⟩, g0, g1, g2, g3, g4, g5⟩ := rp_cells hr6
      have hl2 : w.heap.size + 1 < w6.heap.size := (Array.getElem?_eq_some_iff.1 hr6).1
      clear hfin hr6 FIN HCALL hd
      go_wp2
      exact bodyPost_ret (results_cell_row (p := 4) (ty := 41) rfl _ _ (w.heap.size + 1) 41 _ (0, 0) _ rfl (rp_set HR6.out _ _ _ _ _ _) Try.underlying41 rfl (by kernel_rfl)) rfl HFIN.out
theorem do_11 (h : Pm w X b c S) (hLen : S.L.length + 64 ≤ big) (mode draw nn : Int) (key high val : ByteArray) : Calls Try.prog 13 #[ptr X, Cl.v ⟨11, mode, key, high, val, draw, nn⟩] w fun e w' => Dn w w' X b c (stp S (⟨11, mode, key, high, val, draw, nn⟩ : Cl)) e := by
  obtain ⟨W2, hW2, hb2, hz, hr, hc⟩ := laid2 w (⟨11, mode, key, high, val, draw, nn⟩ : Cl)
  have hLen2 : S.L.length + 64 ≤ 1000000000000000 := by unfold big at hLen; omega
  have HN := xhide (none_any (h.below hb2))
  have HD := xhide (fun w => deeds_any w)
  have k0 : W2.cell? ⟨w.heap.size, 0, none⟩ = some (.int .i64 11) := by rw [Go.Joins.cell_of_block hc]; rfl
  have hst : stp S (⟨11, mode, key, high, val, draw, nn⟩ : Cl) = if fst0 (wrg S (⟨11, mode, key, high, val, draw, nn⟩ : Cl) 11) = 0 then ans S (⟨11, mode, key, high, val, draw, nn⟩ : Cl) 11 else (S, { code := fst0 (wrg S (⟨11, mode, key, high, val, draw, nn⟩ : Cl) 11) }) := by unfold stp; rfl
  have hlw : w.heap.size < W2.heap.size := by omega
  have hix : ∀ u : World, (Instr.index 77 (.agg tbl) (.int .i64 11)).run Try.prog u = .ok (.agg #[.func (.func 45) #[] #[], .nilFunc, .nilFunc, .nilFunc, .func (.func 60) #[] #[]]) u := fun u => by kernel_rfl
  have H := xhide h
  have HB2 := xhide hb2
  have HR := xhide hr
  have HC := xhide hc
  have HZ := xhide hz
  have HST := xhide hst
  clear h hb2 hr hc hz hst
  go_enter Try.func13, Try.ntmps13
  go_wp2_with fail
  rw [← hW2]
  clear hW2
  refine HN.out.mono ?_
  rintro e w1 ⟨rfl, rfl⟩
  go_wp2_with fail
  obtain ⟨K1, HQ, HQ1⟩ : ∃ K1 : Act → World → Prop, Hid (∀ D w', Lp w w' X b c S (⟨11, mode, key, high, val, draw, nn⟩ : Cl) D (deedObj (.func (.func 45) #[] #[]) .nilFunc .nilFunc .nilFunc (.func (.func 60) #[] #[])) → K1 { tmps := #[ptr X, Cl.v ⟨11, mode, key, high, val, draw, nn⟩, undef, ptr w.heap.size, ptr (w.heap.size + 1), ptr D, undef, undef, undef, ptr X, .bool false, undef, ptr w.heap.size, .int .i64 11, .bool false, .bool false, ptr w.heap.size, .int .i64 11, .bool false, .bool false, undef, .agg tbl, ptr w.heap.size, .int .i64 11, .agg #[.func (.func 45) #[] #[], .nilFunc, .nilFunc, .nilFunc, .func (.func 60) #[] #[]], undef, undef, undef, undef, undef, undef, undef, undef, undef, undef, undef, undef, undef, undef, undef, undef, undef, undef, undef, undef, undef], defers := [] } w') ∧ Hid (∀ a w', K1 a w' → ∃ D, a = { tmps := #[ptr X, Cl.v ⟨11, mode, key, high, val, draw, nn⟩, undef, ptr w.heap.size, ptr (w.heap.size + 1), ptr D, undef, undef, undef, ptr X, .bool false, undef, ptr w.heap.size, .int .i64 11, .bool false, .bool false, ptr w.heap.size, .int .i64 11, .bool false, .bool false, undef, .agg tbl, ptr w.heap.size, .int .i64 11, .agg #[.func (.func 45) #[] #[], .nilFunc, .nilFunc, .nilFunc, .func (.func 60) #[] #[]], undef, undef, undef, undef, undef, undef, undef, undef, undef, undef, undef, undef, undef, undef, undef, undef, undef, undef, undef, undef, undef], defers := [] } ∧ Hid (Lp w w' X b c S (⟨11, mode, key, high, val, draw, nn⟩ : Cl) D (deedObj (.func (.func 45) #[] #[]) .nilFunc .nilFunc .nilFunc (.func (.func 60) #[] #[])))) :=
    ⟨fun a' w' => ∃ D, a' = { tmps := #[ptr X, Cl.v ⟨11, mode, key, high, val, draw, nn⟩, undef, ptr w.heap.size, ptr (w.heap.size + 1), ptr D, undef, undef, undef, ptr X, .bool false, undef, ptr w.heap.size, .int .i64 11, .bool false, .bool false, ptr w.heap.size, .int .i64 11, .bool false, .bool false, undef, .agg tbl, ptr w.heap.size, .int .i64 11, .agg #[.func (.func 45) #[] #[], .nilFunc, .nilFunc, .nilFunc, .func (.func 60) #[] #[]], undef, undef, undef, undef, undef, undef, undef, undef, undef, undef, undef, undef, undef, undef, undef, undef, undef, undef, undef, undef, undef], defers := [] } ∧ Hid (Lp w w' X b c S (⟨11, mode, key, high, val, draw, nn⟩ : Cl) D (deedObj (.func (.func 45) #[] #[]) .nilFunc .nilFunc .nilFunc (.func (.func 60) #[] #[]))), xhide (fun D w' h => ⟨D, rfl, xhide h⟩), xhide (fun _ _ h => h)⟩
  refine wp_then K1 ?_ ?_
  · go_region_with (go_at_call 34; refine (HD.out _).mono ?_; rintro e w3 ⟨rfl, hb3⟩; obtain ⟨hlow3, he3, hs3⟩ := low_of hb3 HB2.out HZ.out (by first | exact Below.refl _ _ | exact (Below.refl _ _).drew | exact (ML.below1 _ _).drew | exact ((Below.refl _ _).drew.alloc (Nat.le_refl _) _)); have hc3 := (he3 _ hlw).trans HC.out; have k3 : w3.cell? ⟨w.heap.size, 0, none⟩ = some (.int .i64 11) := (by rw [Go.Joins.cell_of_block hc3]; rfl); have hlw3 : w.heap.size < w3.heap.size := (Array.getElem?_eq_some_iff.1 hc3).1; have hr3 := (he3 (w.heap.size + 1) (by have := HZ.out; omega)).trans HR.out; have hs4 : w.heap.size + 2 ≤ w3.heap.size := (by have := HZ.out; omega); first | (have hd3 : w3.heap[w1.heap.size]? = some (deedObj .nilFunc .nilFunc .nilFunc .nilFunc .nilFunc) := (hb3.block w1.heap.size (by simp)).trans (ML.heap_alloc_at (by simp) _); obtain ⟨⟨p0, p1, p2, p3, p4⟩, r0, r1, r2, r3, r4⟩ := deed_cells hd3; have hlD : w1.heap.size < w3.heap.size := (Array.getElem?_eq_some_iff.1 hd3).1) | skip)
    all_goals
      first
        | exact HQ.out _ _ (lp_old H.out hlow3 hc3 hr3 hd3 (by have := HZ.out; omega) _ _ _ _ _)
        | exact HQ.out _ _ (lp_new H.out hlow3 hc3 hr3 hs4 _)
        | exact HQ.out _ _ (lp_old H.out hlow3 hc3 hr3 hd3 (by have := HZ.out; omega) _ _ _ _ _).drew
        | exact HQ.out _ _ (lp_new H.out hlow3 hc3 hr3 hs4 _).drew
  intro a' w5 hq
  obtain ⟨D, rfl, HL⟩ := HQ1.out a' w5 hq
  clear hq HQ HQ1
  dsimp only []
  have hA := HL.out
  obtain ⟨y0, y1, y2, y3, y4⟩ : w5.cell? ⟨D, 0, none⟩ = some (.func (.func 45) #[] #[]) ∧ w5.cell? ⟨D, 1, none⟩ = some (.nilFunc) ∧ w5.cell? ⟨D, 2, none⟩ = some (.nilFunc) ∧ w5.cell? ⟨D, 3, none⟩ = some (.nilFunc) ∧ w5.cell? ⟨D, 4, none⟩ = some (.func (.func 60) #[] #[]) := by
    refine ⟨?_, ?_, ?_, ?_, ?_⟩ <;> (rw [Go.Joins.cell_of_block hA.dd]; rfl)
  have ix0 : ∀ u : World, (Instr.index 73 (.agg #[.func (.func 45) #[] #[], .nilFunc, .nilFunc, .nilFunc]) (.int .i64 0)).run Try.prog u = .ok (.func (.func 45) #[] #[]) u := fun u => by kernel_rfl
  have ix1 : ∀ u : World, (Instr.index 73 (.agg #[.func (.func 45) #[] #[], .nilFunc, .nilFunc, .nilFunc]) (.int .i64 1)).run Try.prog u = .ok (.nilFunc) u := fun u => by kernel_rfl
  have nq0 : ∀ u : World, (binOp .eql 55 (.func (.func 45) #[] #[]) .nilFunc).run Try.prog u = .ok (.bool false) u := fun u => by kernel_rfl
  have nqn : ∀ u : World, (binOp .eql 55 .nilFunc .nilFunc).run Try.prog u = .ok (.bool true) u := fun u => by kernel_rfl
  obtain ⟨p, hp⟩ : ∃ p, p = ans S (⟨11, mode, key, high, val, draw, nn⟩ : Cl) 11 := ⟨_, rfl⟩
  rw [← hp] at HST
  clear hA
  go_wp2_with fail
  go_loopw [27] (fun i wr => ∃ k : Nat, k ≤ 1 ∧ i = .int .i64 (k : Nat) ∧ Hid ((0 < k → (S.ws.isSome) = false)) ∧ Hid (Lp w wr X b c S (⟨11, mode, key, high, val, draw, nn⟩ : Cl) D (deedObj (.func (.func 45) #[] #[]) .nilFunc .nilFunc .nilFunc (.func (.func 60) #[] #[])))) (fun i _ => 5 - (intOf i).toNat)
  case atStart => exact ⟨0, by omega, rfl, xhide (by simp), HL⟩
  case round =>
    obtain ⟨k, hk, rfl, HF, HL⟩ := hrel
    have hA := HL.out
    clear y0 y1 y2 y3 y4
    have y4 : wr.cell? ⟨D, 4, none⟩ = some (.func (.func 60) #[] #[]) := by rw [Go.Joins.cell_of_block hA.dd]; rfl
    have zc : ∀ i v, [.int .i64 11, .int .i64 mode, .string key, .string high, .string val, .int .i64 draw, .int .i64 nn][i]? = some v → wr.cell? ⟨w.heap.size, i, none⟩ = some v := by
      intro i v hv
      rw [Go.Joins.cell_of_block hA.cb]
      simpa using hv
    have z0 := zc 0 _ rfl
    have z1 := zc 1 _ rfl
    have z2 := zc 2 _ rfl
    have z3 := zc 3 _ rfl
    have z4 := zc 4 _ rfl
    have z5 := zc 5 _ rfl
    have z6 := zc 6 _ rfl
    obtain ⟨⟨q0, q1, q2, q3, q4, q5⟩, g0, g1, g2, g3, g4, g5⟩ := rp_cells hA.rp
    have hl1 : w.heap.size < wr.heap.size := (Array.getElem?_eq_some_iff.1 hA.cb).1
    have hl2 : w.heap.size + 1 < wr.heap.size := (Array.getElem?_eq_some_iff.1 hA.rp).1
    have hl3 : D < wr.heap.size := (Array.getElem?_eq_some_iff.1 hA.dd).1
    clear zc
    rcases k with _ | k
    · have hL := HL.out
      have HCALL := xhide (isOpen_any hL.pm (⟨11, mode, key, high, val, draw, nn⟩ : Cl))
      clear hL hA
      cases hc : (S.ws.isSome) with
      | true =>
        have hfst : fst0 (wrg S (⟨11, mode, key, high, val, draw, nn⟩ : Cl) 11) = 153 := by unfold wrg fst0; simp [hc, fst0]
        have FIN : Hid (∀ wz, Below wr.heap.size wr wz → Dn w (rpSet wz (w.heap.size + 1) (.int .i64 153) (.string .empty) (.bool false) (.slice none 0 0) (.int .i64 0) (.int .i64 0)) X b c (stp S (⟨11, mode, key, high, val, draw, nn⟩ : Cl)) (.returned (rp0 153 .empty false 0)) ∧ wz.heap[w.heap.size + 1]? = some rpB) := xhide (fun wz hz => by
          rw [HST.out, hfst, if_neg (by decide)]
          exact ⟨do_code H.out (HL.out.below hz).low, (HL.out.below hz).rp⟩)
        go_wp2_with fail
        refine HCALL.out.mono ?_
        rintro e w6 ⟨he, hb6⟩
        rw [hc] at he
        simp only [if_true] at he
        subst he
        obtain ⟨hfin, hr6⟩ := FIN.out w6 hb6
        have HFIN := xhide hfin
        have HR6 := xhide hr6
        obtain ⟨⟨q0, q1, q2, q3, q4, q5⟩, g0, g1, g2, g3, g4, g5⟩ := rp_cells hr6
        have hl2 : w.heap.size + 1 < w6.heap.size := (Array.getElem?_eq_some_iff.1 hr6).1
        clear hfin hr6 FIN HCALL hb6
        go_wp2
        exact bodyPost_ret (v := rp0 153 .empty false 0) (results_cell_row (p := 4) (ty := 41) rfl _ _ (w.heap.size + 1) 41 _ (0, 0) _ rfl (rp_set HR6.out _ _ _ _ _ _) Try.underlying41 rfl (by kernel_rfl)) rfl HFIN.out
      | false =>
        go_wp2_with fail
        refine HCALL.out.mono ?_
        rintro e w6 ⟨he, hb6⟩
        rw [hc] at he
        simp only [if_false, Bool.false_eq_true] at he
        subst he
        have HL6 := xhide (HL.out.below hb6)
        clear HCALL hb6
        go_wp2
        go_roundw
        case rel => exact ⟨1, by omega, by go_num, xhide (by simp [hc]), HL6⟩
        case measure => simp [intOf]
    · have hk0 : k = 0 := by omega
      subst hk0
      have hL := HL.out
      have pv0 := HF.out (by omega)
      have hfst : fst0 (wrg S (⟨11, mode, key, high, val, draw, nn⟩ : Cl) 11) = 0 := by unfold wrg fst0; simp [pv0, fst0]
      have hstp : stp S (⟨11, mode, key, high, val, draw, nn⟩ : Cl) = p := by rw [HST.out, hfst, if_pos rfl]
      have HCALL : Hid (Calls Try.prog 60 #[ptr X, Cl.v ⟨11, mode, key, high, val, draw, nn⟩] wr fun e w' => Dn wr w' X b c p e) := xhide (by rw [hp]; exact rest_any hL.pm (⟨11, mode, key, high, val, draw, nn⟩ : Cl))
      have FIN : Hid (∀ w6 e, Dn wr w6 X b c p e → ∃ v sv, e = .returned v ∧ v = .agg #[.int .i64 p.2.code, .string p.2.val, .bool p.2.found, sv, .int .i64 p.2.time, .int .i64 0] ∧ w6.heap[w.heap.size + 1]? = some rpB ∧ (∃ ao ln cp, sv = .slice ao ln cp) ∧
          Dn w (rpSet w6 (w.heap.size + 1) (.int .i64 p.2.code) (.string p.2.val) (.bool p.2.found) sv (.int .i64 p.2.time) (.int .i64 0)) X b c (stp S (⟨11, mode, key, high, val, draw, nn⟩ : Cl)) (.returned v)) := xhide (fun w6 e hd => by
        have hd' := hd
        obtain ⟨v, c', rfl, _⟩ := hd'
        obtain ⟨sv, e1, e2, e3, e4⟩ := do_tail H.out HL.out.low (by omega) HL.out.rp hd
        exact ⟨v, sv, rfl, e1, e2, e3, by rw [hstp]; exact e4⟩)
      clear hL hA hfst hp
      go_wp2_with fail
      refine HCALL.out.mono ?_
      rintro e w6 hd
      obtain ⟨v, sv, rfl, rfl, hr6, ⟨ao, ln, cp, rfl⟩, hfin⟩ := FIN.out w6 e hd
      have HFIN := xhide hfin
      have HR6 := xhide hr6
      obtain ⟨⟨q0, q1, q2, q3, q4, q5⟩, g0, g1, g2, g3, g4, g5⟩ := rp_cells hr6
      have hl2 : w.heap.size + 1 < w6.heap.size := (Array.getElem?_eq_some_iff.1 hr6).1
      clear hfin hr6 FIN HCALL hd
      go_wp2
      exact bodyPost_ret (results_cell_row (p := 4) (ty := 41) rfl _ _ (w.heap.size + 1) 41 _ (0, 0) _ rfl (rp_set HR6.out _ _ _ _ _ _) Try.underlying41 rfl (by kernel_rfl)) rfl HFIN.out
end
end Go.Proofs.Ytheidhkmmihjlaa

/-
  XmJ: Do, whole; a model as the statements hold it.
-/
set_option linter.unusedVariables false
set_option linter.unusedSimpArgs false
namespace Go.Proofs.Ytheidhkmmihjlaa
open Go.RowKit Go.Shelf Go.Maps
open ML (Ro RS Srt nless)
attribute [local go_sem] Oper.semAt_some
section
set_option maxHeartbeats 1000000
set_option maxRecDepth 100000
variable {w : World} {X b : Nat} {c : Option Nat} {S : Ms} {C : Cl} {B : Nat}
theorem do_all (h : Pm w X b c S) (hLen : S.L.length + 64 ≤ big) (C : Cl) : Calls Try.prog 13 #[ptr X, C.v] w fun e w' => Dn w w' X b c (stp S C) e := by
  by_cases hk : C.kind < 1 ∨ 11 < C.kind
  · have e : stp S C = (S, { code := 151 }) := by unfold stp; rw [if_pos hk]
    rw [e]
    exact do_bad h hk
  · obtain ⟨kind, mode, key, high, val, draw, nn⟩ := C
    simp only [] at hk
    rcases (show kind = 1 ∨ kind = 2 ∨ kind = 3 ∨ kind = 4 ∨ kind = 5 ∨ kind = 6 ∨ kind = 7 ∨ kind = 8 ∨ kind = 9 ∨ kind = 10 ∨ kind = 11 by omega) with rfl | rfl | rfl | rfl | rfl | rfl | rfl | rfl | rfl | rfl | rfl
    · exact do_1 h hLen mode draw nn key high val
    · exact do_2 h hLen mode draw nn key high val
    · exact do_3 h hLen mode draw nn key high val
    · exact do_4 h hLen mode draw nn key high val
    · exact do_5 h hLen mode draw nn key high val
    · exact do_6 h hLen mode draw nn key high val
    · exact do_7 h hLen mode draw nn key high val
    · exact do_8 h hLen mode draw nn key high val
    · exact do_9 h hLen mode draw nn key high val
    · exact do_10 h hLen mode draw nn key high val
    · exact do_11 h hLen mode draw nn key high val
/-- A model all of whose blocks were made behind a place; blocks of others that are kept. -/
def Mo (B : Nat) (K : List Nat) (w : World) (X : Nat) (S : Ms) : Prop := ∃ b c, Pm w X b c S ∧ B ≤ X ∧ B ≤ b ∧ (∀ j, c = some j → B ≤ j) ∧ B ≤ w.heap.size ∧ ∀ j ∈ K, j < w.heap.size ∧ ¬ Ex X b c j
def Kp (K : List Nat) (w w' : World) : Prop := ∀ j ∈ K, w'.heap[j]? = w.heap[j]?
variable {K : List Nat}
theorem Kp.trans {w1 w2 : World} (h : Kp K w w1) (k : Kp K w1 w2) : Kp K w w2 := fun j hj => (k j hj).trans (h j hj)
theorem Mo.ok (h : Mo B K w X S) : S.ok := by obtain ⟨b, c, hP, _⟩ := h; exact hP.ok
theorem Mo.base (h : Mo B K w X S) : B ≤ w.heap.size := by obtain ⟨_, _, _, _, _, _, h4, _⟩ := h; exact h4
theorem Mo.below {w' : World} (h : Mo B K w X S) (hb : Below w.heap.size w w') : Mo B K w' X S := by
  obtain ⟨b, c, hP, h1, h2, h3, h4, h5⟩ := h
  exact ⟨b, c, hP.below hb, h1, h2, h3, Nat.le_trans h4 hb.size, fun j hj => ⟨Nat.lt_of_lt_of_le (h5 j hj).1 hb.size, (h5 j hj).2⟩⟩
theorem Mo.kp {w' : World} (h : Mo B K w X S) (hb : Below w.heap.size w w') : Kp K w w' := by
  obtain ⟨b, c, hP, h1, h2, h3, h4, h5⟩ := h
  exact fun j hj => hb.block j (h5 j hj).1
theorem Mo.add (h : Mo B K w X S) (o : Obj) : Mo B (w.heap.size :: K) (w.alloc o) X S := by
  have hb := ML.below1 w o
  obtain ⟨b, c, hP, h1, h2, h3, h4, h5⟩ := h
  refine ⟨b, c, hP.below hb, h1, h2, h3, Nat.le_trans h4 hb.size, fun j hj => ?_⟩
  rcases List.mem_cons.1 hj with rfl | hj
  · exact ⟨by simp, fun e => by have := hP.ex_lt e; omega⟩
  · exact ⟨Nat.lt_of_lt_of_le (h5 j hj).1 hb.size, (h5 j hj).2⟩
theorem Dn.mo {w w' : World} {p : Ms × Rp} {e : Ending} (hd : Dn w w' X b c p e) (hlX : X < w.heap.size) (hlb : b < w.heap.size) (hlc : ∀ j, c = some j → j < w.heap.size) (h1 : B ≤ X) (h2 : B ≤ b) (h3 : ∀ j, c = some j → B ≤ j) (h4 : B ≤ w.heap.size) (h5 : ∀ j ∈ K, j < w.heap.size ∧ ¬ Ex X b c j) :
    ∃ v, e = .returned v ∧ RpV w' w.heap.size v p.2 ∧ Mo B K w' X p.1 ∧ Below B w w' ∧ Kp K w w' ∧ (∀ g, w.heap.size ≤ g → g < w'.heap.size → p.2.rows ≠ [] → Mo B (g :: K) w' X p.1) := by
  obtain ⟨v, c', rfl, hv, hP, hC, hcc⟩ := hd
  have hM : Mo B K w' X p.1 ∧ Below B w w' ∧ Kp K w w' := by
   refine ⟨⟨b, c', hP, h1, h2, fun j hj => ?_, Nat.le_trans h4 hC.size, fun j hj => ⟨Nat.lt_of_lt_of_le (h5 j hj).1 hC.size, ?_⟩⟩, hC.low h4 fun j hj => ?_, fun j hj => hC.2 j (h5 j hj).1 (h5 j hj).2⟩
   · rcases hcc with e | e | ⟨k, e, hk, _⟩
     · exact h3 j (by rw [← e]; exact hj)
     · rw [e] at hj; cases hj
     · rw [e] at hj; cases hj; omega
   · have h6 := h5 j hj
     rintro (q | q | q)
     · exact h6.2 (.inl q)
     · exact h6.2 (.inr (.inl q))
     · rcases hcc with e | e | ⟨k, e, hk, _⟩
       · exact h6.2 (.inr (.inr (by rw [← e]; exact q)))
       · rw [e] at q; cases q
       · rw [e] at q; cases q; omega
   · rcases hj with e | e | e
     · omega
     · omega
     · exact h3 j e
  refine ⟨v, rfl, hv, hM.1, hM.2.1, hM.2.2, fun g hg1 hg2 hne => ?_⟩
  have hK := hM.1
  refine ⟨b, c', hP, h1, h2, ?_, hK.base, fun j hj => ?_⟩
  · intro j hj
    rcases hcc with e | e | ⟨k, e, hk, _⟩
    · exact h3 j (by rw [← e]; exact hj)
    · rw [e] at hj; cases hj
    · rw [e] at hj; cases hj; omega
  · rcases List.mem_cons.1 hj with rfl | hj
    · refine ⟨hg2, ?_⟩
      rintro (q | q | q)
      · omega
      · omega
      · rcases hcc with e | e | ⟨k, e, hk, hr⟩
        · have := hlc j (by rw [← e]; exact q); omega
        · rw [e] at q; cases q
        · exact hne hr
    · refine ⟨Nat.lt_of_lt_of_le (h5 j hj).1 hC.size, ?_⟩
      have h6 := h5 j hj
      rintro (q | q | q)
      · exact h6.2 (.inl q)
      · exact h6.2 (.inr (.inl q))
      · rcases hcc with e | e | ⟨k, e, hk, _⟩
        · exact h6.2 (.inr (.inr (by rw [← e]; exact q)))
        · rw [e] at q; cases q
        · have h7 := h6.1; rw [e] at q; cases q; omega
theorem mo_do (h : Mo B K w X S) (hLen : S.L.length + 64 ≤ big) (C : Cl) : Calls Try.prog 13 #[ptr X, C.v] w fun e w' => ∃ v, e = .returned v ∧ RpV w' w.heap.size v (stp S C).2 ∧ Mo B K w' X (stp S C).1 ∧ Below B w w' ∧ Kp K w w' ∧ (∀ g, w.heap.size ≤ g → g < w'.heap.size → (stp S C).2.rows ≠ [] → Mo B (g :: K) w' X (stp S C).1) := by
  obtain ⟨b, c, hP, h1, h2, h3, h4, h5⟩ := h
  exact (do_all hP hLen C).mono fun e w' hd => hd.mo hP.lt hP.ltb (fun j hj => hP.ltc hj) h1 h2 h3 h4 h5
theorem mo_rows (h : Mo B K w X S) (hL : S.L.length ≤ big) : Calls Try.prog 16 #[ptr X] w fun e w' => ∃ ao cp, e = .returned (.slice ao S.L.length cp) ∧ RS w' ao S.L.length cp S.L ∧ (0 < S.L.length → ∃ g, ao = some ⟨g, 0, none⟩ ∧ w.heap.size ≤ g ∧ w'.there g 0 (S.L.length * 3)) ∧ Mo B K w' X S ∧ Below w.heap.size w w' := by
  have h' := h
  obtain ⟨b, c, hP, h1, h2, h3, h4, h5⟩ := h
  refine (rows_any hP hL).mono ?_
  rintro e w' ⟨v, rfl, ⟨ao, cap, rfl, h6, h7⟩, hb⟩
  exact ⟨ao, cap, rfl, h6, h7, h'.below hb, hb⟩
theorem mo_time (h : Mo B K w X S) : Calls Try.prog 18 #[ptr X] w fun e w' => e = .returned (.int .i64 S.t) ∧ w' = w := by
  obtain ⟨b, c, hP, _⟩ := h
  exact time_any hP
theorem rpv_slice {v : Value} {r : Rp} (h : RpV w B v r) : ∃ ao ln cp, v = .agg #[.int .i64 r.code, .string r.val, .bool r.found, .slice ao ln cp, .int .i64 r.time, .int .i64 0] ∧ RS w ao ln cp r.rows ∧ (0 < ln → ∃ g, ao = some ⟨g, 0, none⟩ ∧ B ≤ g ∧ w.there g 0 (ln * 3)) := by
  obtain ⟨sv, rfl, ⟨rfl, h0⟩ | ⟨_, ao, cap, rfl, h1, h2⟩⟩ := h
  · exact ⟨none, 0, 0, rfl, ⟨by rw [h0]; rfl, Nat.le_refl _, Nat.zero_le _, fun q => absurd q (Nat.lt_irrefl 0)⟩, fun q => absurd q (Nat.lt_irrefl 0)⟩
  · exact ⟨ao, _, cap, rfl, h1, h2⟩
theorem mo_code (h : Mo B K w X S) (hLen : S.L.length + 64 ≤ big) (C : Cl) : Calls Try.prog 21 #[ptr X, C.v] w fun e w' => e = .returned (.int .i64 (stp S C).2.code) ∧ Mo B K w' X (stp S C).1 ∧ Below B w w' ∧ Kp K w w' := by
  have hb1 := ML.below1 w C.obj
  have h1 := h.below hb1
  have hD := xhide (mo_do h1 hLen C)
  have hBw := h.base
  have HB1 := xhide hb1
  have HK1 := xhide (h.kp hb1)
  generalize stp S C = p at *
  clear h h1 hb1
  go_enter Try.func21, Try.ntmps21
  go_wp2_with fail
  refine hD.out.mono ?_
  rintro e w1 ⟨v, rfl, hv, hM, hb, hk, _⟩
  obtain ⟨ao, ln, cp, rfl, _⟩ := rpv_slice hv
  have HM := xhide hM
  have HB := xhide hb
  have HK := xhide hk
  clear hv hM hb hD hk
  go_wp2
  go_ret
  have hb2 := ML.below1 w1 (.cells (rpA p.2.code p.2.val p.2.found (.slice ao ln cp) p.2.time) 41)
  exact ⟨rfl, HM.out.below hb2, ((HB1.out.mono hBw).trans HB.out).trans (hb2.mono HM.out.base), (HK1.out.trans HK.out).trans (HM.out.kp hb2)⟩
end
end Go.Proofs.Ytheidhkmmihjlaa

/-
  XmK: The document's example in memory.
-/
set_option linter.unusedVariables false
set_option linter.unusedSimpArgs false
namespace Go.Proofs.Ytheidhkmmihjlaa
open Go.RowKit Go.Shelf Go.Maps
open ML (Ro RS Srt nless)
attribute [local go_sem] Oper.semAt_some
section
set_option maxHeartbeats 1000000
set_option maxRecDepth 100000
variable {w : World} {X b : Nat} {c : Option Nat} {S : Ms} {C : Cl} {B : Nat}
theorem isRight_none (t : Int) (ht : isT t = true) (w : World) : Calls Try.prog 30 #[.agg #[.int .i64 t, .slice none 0 0]] w fun e w' => e = .returned (.bool true) ∧ Below w.heap.size w w' := by
  have HT := xhide (fun w => mTime_any t w)
  go_enter Try.func30, Try.ntmps30
  go_wp2_with fail
  refine (HT.out _).mono ?_
  rintro e w1 ⟨rfl, rfl⟩
  rw [ht]
  go_wp2_with fail
  go_loopw [19] (fun i wr => i = .int .i64 0 ∧ Hid (Below w.heap.size w wr)) (fun _ _ => 0)
  case atStart => exact ⟨rfl, xhide (ML.below1 _ _)⟩
  case round =>
    obtain ⟨rfl, HB⟩ := hrel
    go_wp2
    go_ret
    exact ⟨rfl, HB.out⟩
theorem apply_none (h : Pm w X b c S) (ho : S.ws = none) (t : Int) (ht : isT t = true) (hle : t ≤ S.t) : Calls Try.prog 11 #[ptr X, .agg #[.int .i64 t, .slice none 0 0]] w fun e w' => e = .returned (.int .i64 180) ∧ Below w.heap.size w w' := by
  obtain ⟨W1, hW1⟩ : ∃ W1, W1 = w.alloc (.cells #[.int .i64 t, .slice none 0 0] 36) := ⟨_, rfl⟩
  have hb1 : Below w.heap.size w W1 := by rw [hW1]; exact ML.below1 _ _
  have h1 := h.below hb1
  obtain ⟨c0, c1, c2⟩ := h1.cells
  have hcn : c = none := by have := h.wm; rw [ho] at this; exact this
  subst hcn
  have hc : W1.heap[w.heap.size]? = some (.cells #[.int .i64 t, .slice none 0 0] 36 (0, 0)) := by rw [hW1]; exact ML.heap_alloc_at rfl _
  have z0 : W1.cell? ⟨w.heap.size, 0, none⟩ = some (.int .i64 t) := by rw [Go.Joins.cell_of_block hc]; rfl
  have z1 : W1.cell? ⟨w.heap.size, 1, none⟩ = some (.slice none 0 0) := by rw [Go.Joins.cell_of_block hc]; rfl
  have hlw : w.heap.size < W1.heap.size := (Array.getElem?_eq_some_iff.1 hc).1
  have hlX := h1.lt
  have HN := xhide (none_any h1)
  have HR := xhide (fun w => isRight_none t ht w)
  have HB1 := xhide hb1
  have q1 := neWn
  have hX := xhide (show X < W1.heap.size from hlX)
  clear h h1 hb1 hc
  go_enter Try.func11, Try.ntmps11
  go_wp2_with fail
  rw [← hW1]
  clear hW1
  refine HN.out.mono ?_
  rintro e w1 ⟨rfl, rfl⟩
  go_wp2_with fail
  go_region_with (go_at_call 30; refine (HR.out _).mono ?_; rintro e w3 ⟨rfl, hb3⟩; have k0 := (hb3.cell (p := ⟨w.heap.size, 0, none⟩) (by simpa using hlw)).trans (by first | exact z0 | simpa using z0); have k1 := (hb3.cell (p := ⟨X, 1, none⟩) (by simpa using hlX)).trans (by first | exact c1 | simpa using c1))
  all_goals
    go_wp2
    go_ret
    have hb4 : Below w1.heap.size w1 w3 := ⟨hb3.os, hb3.tape, hb3.output, hb3.size, hb3.block⟩
    exact ⟨rfl, HB1.out.trans (hb4.mono HB1.out.size)⟩
theorem ok0 : okTo [(⟨bA, bX, 5⟩ : Ro)] 1 = true := by simp [okTo, okAt, rightR, roW, isK, isV, isT, List.range_succ, s_zA, show bX.size = 1 from rfl]
theorem eqRo (r : Ro) (u : World) : (binOp .eql 45 (.agg #[.string r.k, .string r.v, .int .i64 r.t]) (.agg #[.string r.k, .string r.v, .int .i64 r.t])).run Try.prog u = .ok (.bool true) u := by
  rw [run_eql_struct, run_equalIn_agg _ 9999 45 _ _ ML.htRo ML.hpRo]
  unfold Program.fieldsOf
  rw [Try.underlying45]
  simp only [Op.eqFields]
  simp [go_sem, Try.isAgg9, Try.isAgg2, Try.sizeOf9, Try.sizeOf2, Try.underlying9, Try.underlying2]
theorem rs_one (w : World) (r : Ro) : RS (w.alloc (.cells #[.string r.k, .string r.v, .int .i64 r.t] 45)) (some ⟨w.heap.size, 0, none⟩) 1 1 [r] := by
  refine ⟨rfl, Nat.le_refl _, by unfold maxLen; omega, fun _ => ⟨w.heap.size, 0, rfl, by simp, fun i x hi j u hu => ?_⟩⟩
  have hi0 : i = 0 := by have := (List.getElem?_eq_some_iff.1 hi).1; simpa using this
  subst hi0
  simp only [List.getElem?_cons_zero, Option.some.injEq] at hi
  subst hi
  rw [Go.Joins.cell_of_block (heap_alloc_new _ _)]
  simpa using hu
def RB (u : World) (g : Nat) (r : Ro) : Prop := u.cell? ⟨g, 0, none⟩ = some (.string r.k) ∧ u.cell? ⟨g, 1, none⟩ = some (.string r.v) ∧ u.cell? ⟨g, 2, none⟩ = some (.int .i64 r.t)
theorem RB.keep {u u' : World} {g : Nat} {r : Ro} (h : RB u g r) (e : u'.heap[g]? = u.heap[g]?) : RB u' g r :=
  ⟨(World.cell?_of_block e).trans h.1, (World.cell?_of_block e).trans h.2.1, (World.cell?_of_block e).trans h.2.2⟩
theorem big_T : (1 : Nat) + 64 ≤ big := by unfold big; omega
theorem shown18 (w : World) : Calls Try.prog 7 #[] w fun e w' => e = .returned (.bool true) ∧ Below w.heap.size w w' := by
  have HNEW := xhide (new_any (rs_one w ⟨bA, bX, 5⟩) (by omega))
  have hB1 := ML.below1 w (.cells #[.string bA, .string bX, .int .i64 5] 45)
  have HB1 := xhide hB1
  clear hB1
  go_enter Try.func7, Try.ntmps7
  go_wp2_with fail
  refine HNEW.out.mono ?_
  rintro e u0 ⟨hb0, ⟨hbad, _⟩ | ⟨_, X, b, rfl, hP, hX, hb⟩⟩
  · rw [show okTo [(⟨bA, bX, 5⟩ : Ro)] [(⟨bA, bX, 5⟩ : Ro)].length = true from ok0] at hbad; cases hbad
  have hm0 : Mo w.heap.size [] u0 X T0 := ⟨b, none, hP, by have := hX; simp at this; omega, by have := hb; simp at this; omega, nofun, by have h1 := hb0.size; simp at h1; omega, nofun⟩
  have hc0 : Below w.heap.size w u0 := HB1.out.trans (hb0.mono (by simp))
  have HM := xhide hm0
  have HC := xhide hc0
  clear hP hX hb hb0 hm0 hc0 HNEW HB1
  go_wp2_with fail
  refine (mo_code HM.out big_T ⟨2, 0, bA, z0, z0, 0, 0⟩).mono ?_
  rintro e u1 ⟨he, hm, hb, hk⟩
  rw [t1] at he hm
  simp only [] at he hm
  subst he
  have HC1 := xhide (HC.out.trans hb)
  clear HC
  replace HM := xhide hm
  clear hm hb hk
  go_wp2_with fail
  refine (mo_code HM.out big_T ⟨1, 1, z0, z0, z0, 0, 0⟩).mono ?_
  rintro e u2 ⟨he, hm, hb, hk⟩
  rw [t2] at he hm
  simp only [] at he hm
  subst he
  have HC2 := xhide (HC1.out.trans hb)
  clear HC1
  replace HM := xhide hm
  clear hm hb hk
  go_wp2_with fail
  refine (mo_do HM.out big_T ⟨2, 0, bA, z0, z0, 0, 0⟩).mono ?_
  rintro e u3 ⟨v3, rfl, hv, hm, hb, hk, hg⟩
  rw [t3] at hv hm hg
  obtain ⟨ao3, ln3, cp3, rfl, hrs3, hth3⟩ := rpv_slice hv
  simp only [] at hrs3 hm hg
  have hbA := ML.below1 u3 (.cells (rpA 0 bX true (.slice ao3 ln3 cp3) 0) 41)
  have HC3 := xhide ((HC2.out.trans hb).trans (hbA.mono hm.base))
  have RP3_3 := xhide (heap_alloc_new u3 (.cells (rpA 0 bX true (.slice ao3 ln3 cp3) 0) 41))
  clear HC2
  replace HM := xhide (hm.add (.cells (rpA 0 bX true (.slice ao3 ln3 cp3) 0) 41))
  clear hm hb hk hg hv hbA hrs3 hth3
  go_wp2_with fail
  refine (mo_code HM.out big_T ⟨4, 0, bA, z0, z0, 0, 0⟩).mono ?_
  rintro e u4 ⟨he, hm, hb, hk⟩
  rw [t4] at he hm
  simp only [] at he hm
  subst he
  have HC4 := xhide (HC3.out.trans hb)
  have RP3_4 := xhide ((hk _ (by simp)).trans RP3_3.out)
  clear HC3 RP3_3
  replace HM := xhide hm
  clear hm hb hk
  go_wp2_with fail
  refine (mo_code HM.out big_T ⟨4, 0, bB, z0, bY, 0, 0⟩).mono ?_
  rintro e u5 ⟨he, hm, hb, hk⟩
  rw [t5] at he hm
  simp only [] at he hm
  subst he
  have HC5 := xhide (HC4.out.trans hb)
  have RP3_5 := xhide ((hk _ (by simp)).trans RP3_4.out)
  clear HC4 RP3_4
  replace HM := xhide hm
  clear hm hb hk
  go_wp2_with fail
  refine (mo_code HM.out big_T ⟨6, 0, bA, z0, z0, 0, 0⟩).mono ?_
  rintro e u6 ⟨he, hm, hb, hk⟩
  rw [t6] at he hm
  simp only [] at he hm
  subst he
  have HC6 := xhide (HC5.out.trans hb)
  have RP3_6 := xhide ((hk _ (by simp)).trans RP3_5.out)
  clear HC5 RP3_5
  replace HM := xhide hm
  clear hm hb hk
  go_wp2_with fail
  refine (mo_do HM.out big_T ⟨3, 0, z0, z0, z0, 0, 0⟩).mono ?_
  rintro e u7 ⟨v7, rfl, hv, hm, hb, hk, hg⟩
  rw [t7] at hv hm hg
  obtain ⟨ao7, ln7, cp7, rfl, hrs7, hth7⟩ := rpv_slice hv
  simp only [] at hrs7 hm hg
  obtain rfl := hrs7.1
  obtain ⟨gg, off, rfl, hgl, hgc⟩ := ML.RS.at hrs7 (by simp)
  obtain ⟨gg', e1, hge, _⟩ := hth7 (by simp)
  cases e1
  replace hm := hg gg hge hgl (by simp)
  have hRB : RB u7 gg ⟨bB, bY, 0⟩ := by simpa [RB] using hgc 0 ⟨bB, bY, 0⟩ rfl
  have hbA := ML.below1 u7 (.cells (rpA 0 .empty false (.slice (some ⟨gg, 0, none⟩) [(⟨bB, bY, 0⟩ : Ro)].length cp7) 0) 41)
  have HC7 := xhide ((HC6.out.trans hb).trans (hbA.mono hm.base))
  have RP3_7 := xhide ((hbA.block _ ((show _ < u7.heap.size from by obtain ⟨_, _, _, _, _, _, _, h5⟩ := hm; exact (h5 _ (by simp)).1))).trans ((hk _ (by simp)).trans RP3_6.out))
  have RB_7 := xhide (hRB.keep (hbA.block gg hgl))
  have RP7_7 := xhide (heap_alloc_new u7 (.cells (rpA 0 .empty false (.slice (some ⟨gg, 0, none⟩) [(⟨bB, bY, 0⟩ : Ro)].length cp7) 0) 41))
  clear HC6 RP3_6
  replace HM := xhide (hm.add (.cells (rpA 0 .empty false (.slice (some ⟨gg, 0, none⟩) [(⟨bB, bY, 0⟩ : Ro)].length cp7) 0) 41))
  clear hm hb hk hg hv hbA hRB hgc hrs7 hth7
  go_wp2_with fail
  refine (mo_code HM.out big_T ⟨11, 0, z0, z0, z0, 0, 0⟩).mono ?_
  rintro e u8 ⟨he, hm, hb, hk⟩
  rw [t8] at he hm
  simp only [] at he hm
  subst he
  have RB_8 := xhide (RB_7.out.keep (hk gg (by simp)))
  have HC8 := xhide (HC7.out.trans hb)
  have RP3_8 := xhide ((hk _ (by simp)).trans RP3_7.out)
  have RP7_8 := xhide ((hk _ (by simp)).trans RP7_7.out)
  clear HC7 RP3_7 RP7_7 RB_7
  replace HM := xhide hm
  clear hm hb hk
  go_wp2_with fail
  refine (mo_do HM.out big_T ⟨7, 0, z0, z0, z0, 0, 0⟩).mono ?_
  rintro e u9 ⟨v9, rfl, hv, hm, hb, hk, hg⟩
  rw [t9] at hv hm hg
  obtain ⟨ao9, ln9, cp9, rfl, hrs9, hth9⟩ := rpv_slice hv
  simp only [] at hrs9 hm hg
  have hbA := ML.below1 u9 (.cells (rpA 0 .empty false (.slice ao9 ln9 cp9) 6) 41)
  have HC9 := xhide ((HC8.out.trans hb).trans (hbA.mono hm.base))
  have RP3_9 := xhide ((hbA.block _ ((show _ < u9.heap.size from by obtain ⟨_, _, _, _, _, _, _, h5⟩ := hm; exact (h5 _ (by simp)).1))).trans ((hk _ (by simp)).trans RP3_8.out))
  have RP7_9 := xhide ((hbA.block _ ((show _ < u9.heap.size from by obtain ⟨_, _, _, _, _, _, _, h5⟩ := hm; exact (h5 _ (by simp)).1))).trans ((hk _ (by simp)).trans RP7_8.out))
  have RB_9 := xhide ((RB_8.out.keep (hk gg (by simp))).keep (hbA.block gg ((show _ < u9.heap.size from by obtain ⟨_, _, _, _, _, _, _, h5⟩ := hm; exact (h5 _ (by simp)).1))))
  have RP9_9 := xhide (heap_alloc_new u9 (.cells (rpA 0 .empty false (.slice ao9 ln9 cp9) 6) 41))
  clear HC8 RP3_8 RP7_8 RB_8
  replace HM := xhide (hm.add (.cells (rpA 0 .empty false (.slice ao9 ln9 cp9) 6) 41))
  clear hm hb hk hg hv hbA hrs9 hth9
  go_wp2_with fail
  refine (mo_rows HM.out (by have := big_T; show (1 : Nat) ≤ big; omega)).mono ?_
  rintro e ua ⟨aoa, cpa, he, hrsa, _, hma, hba⟩
  rw [show T4.L.length = 1 from rfl] at he hrsa
  subst he
  obtain ⟨ga, offa, rfl, hgla, hgca⟩ := ML.RS.at hrsa (by omega)
  have la0 : ua.cell? ⟨ga, offa, none⟩ = some (.string bB) := by simpa using (hgca 0 ⟨bB, bY, 6⟩ rfl).1
  have la1 : ua.cell? ⟨ga, offa + 1, none⟩ = some (.string bY) := by simpa using (hgca 0 ⟨bB, bY, 6⟩ rfl).2.1
  have la2 : ua.cell? ⟨ga, offa + 2, none⟩ = some (.int .i64 6) := by simpa using (hgca 0 ⟨bB, bY, 6⟩ rfl).2.2
  replace la0 : ua.cell? ⟨ga, offa, none⟩ = some (.string ⟨#[98]⟩) := la0
  replace la1 : ua.cell? ⟨ga, offa + 1, none⟩ = some (.string ⟨#[121]⟩) := la1
  have rp3 := (hba.block _ (Array.getElem?_eq_some_iff.1 RP3_9.out).1).trans RP3_9.out
  have rp7 := (hba.block _ (Array.getElem?_eq_some_iff.1 RP7_9.out).1).trans RP7_9.out
  have rp9 := (hba.block _ (Array.getElem?_eq_some_iff.1 RP9_9.out).1).trans RP9_9.out
  have hggl : gg < (u9.alloc (.cells (rpA 0 .empty false (.slice ao9 ln9 cp9) 6) 41)).heap.size := by obtain ⟨_, _, _, _, _, _, _, h5⟩ := HM.out; exact (h5 gg (by simp)).1
  obtain ⟨rb0', rb1', rb2'⟩ := RB_9.out.keep (hba.block gg hggl)
  have rb0 : ua.cell? ⟨gg, 0, none⟩ = some (.string ⟨#[98]⟩) := rb0'
  have rb1 : ua.cell? ⟨gg, 1, none⟩ = some (.string ⟨#[121]⟩) := rb1'
  have rb2 : ua.cell? ⟨gg, 2, none⟩ = some (.int .i64 0) := rb2'
  have x31 : ua.cell? ⟨u3.heap.size, 1, none⟩ = some (.string ⟨#[120]⟩) := by rw [Go.Joins.cell_of_block rp3]; rfl
  have x32 : ua.cell? ⟨u3.heap.size, 2, none⟩ = some (.bool true) := by rw [Go.Joins.cell_of_block rp3]; rfl
  have x73 : ua.cell? ⟨u7.heap.size, 3, none⟩ = some (.slice (some ⟨gg, 0, none⟩) 1 cp7) := by rw [Go.Joins.cell_of_block rp7]; rfl
  have x94 : ua.cell? ⟨u9.heap.size, 4, none⟩ = some (.int .i64 6) := by rw [Go.Joins.cell_of_block rp9]; rfl
  have e1 := eqRo ⟨⟨#[98]⟩, ⟨#[121]⟩, 0⟩
  have e2 := eqRo ⟨⟨#[98]⟩, ⟨#[121]⟩, 6⟩
  simp only [] at e1 e2
  have HCA := xhide (HC9.out.trans (hba.mono HM.out.base))
  have HMA := xhide hma
  have HAP : Hid (Calls Try.prog 11 #[ptr X, .agg #[.int .i64 6, .slice none 0 0]] ua fun e w' => e = .returned (.int .i64 180) ∧ Below ua.heap.size ua w') := xhide (by
    obtain ⟨b', c', hP', _⟩ := HMA.out
    exact apply_none hP' rfl 6 (by simp [isT]) (by show (6 : Int) ≤ 6; omega))
  clear hrsa hma hba hgca rp3 rp7 rp9 hggl rb0' rb1' rb2' HC9 RP3_9 RP7_9 RP9_9 RB_9 HM
  go_wp2_with fail
  refine HAP.out.mono ?_
  rintro e ub ⟨rfl, hbb⟩
  have HCB := xhide (HCA.out.trans (hbb.mono HMA.out.base))
  clear hbb
  go_wp2
  go_ret
  exact ⟨rfl, HCB.out⟩
end
end Go.Proofs.Ytheidhkmmihjlaa

/-
  XmM: A transaction that is played and given up: ModelAborts.
-/
set_option linter.unusedVariables false
set_option linter.unusedSimpArgs false
namespace Go.Proofs.Ytheidhkmmihjlaa
open Go.RowKit Go.Shelf Go.Maps
open ML (Ro RS Srt nless)
attribute [local go_sem] Oper.semAt_some

theorem wrt_keep (S : Ms) (x : Wr) : (wrt S x).1.L = S.L ∧ (wrt S x).1.t = S.t ∧ ((wrt S x).2.code = 160 ∧ (wrt S x).1.ws = none ∨ (wrt S x).2.code ≠ 160 ∧ (wrt S x).1.ws.isSome = true) := by
  unfold wrt
  split
  · exact ⟨rfl, rfl, .inl ⟨rfl, rfl⟩⟩
  · exact ⟨rfl, rfl, .inr ⟨by simp, rfl⟩⟩
section
set_option maxHeartbeats 1000000
set_option maxRecDepth 100000
variable {w : World} {X b : Nat} {c : Option Nat} {S : Ms} {C : Cl} {B : Nat} {ao : Option Addr} {len cap : Nat} {L : List Ro} {l : List Cl}
end
end Go.Proofs.Ytheidhkmmihjlaa

/-
  XmP: What ModelReads asks, without memory.
-/
set_option linter.unusedVariables false
set_option linter.unusedSimpArgs false
namespace Go.Proofs.Ytheidhkmmihjlaa
open Go.RowKit
open ML (Ro RS Srt nless fstOf od nl_irr nl_tr nl_tot)

theorem take_filter {p : Ro → Bool} {l : List Ro} {i : Nat} {x : Ro} (h : l[i]? = some x) : ((l.take (i + 1)).filter p) = (l.take i).filter p ++ (if p x then [x] else []) := by
  rw [ML.take_snoc h, List.filter_append]
  cases hp : p x <;> simp [hp]
section
set_option maxHeartbeats 1000000
set_option maxRecDepth 100000
variable {w : World} {ao : Option Addr} {len cap : Nat} {L : List Ro}
end
end Go.Proofs.Ytheidhkmmihjlaa

/-
  XmQ: Replies that are kept while a model goes on.
-/
set_option linter.unusedVariables false
set_option linter.unusedSimpArgs false
namespace Go.Proofs.Ytheidhkmmihjlaa
open Go.RowKit
open ML (Ro RS Srt nless)

def Kr : Option Addr → List Nat
  | some a => [a.block]
  | none => []
section
variable {w w' : World} {X : Nat} {S : Ms} {B : Nat} {K : List Nat} {ao : Option Addr} {ln cp : Nat} {L : List Ro}
theorem rs_keep (h : RS w ao ln cp L) (hk : ∀ j ∈ Kr ao, w'.heap[j]? = w.heap[j]?) (hs : w.heap.size ≤ w'.heap.size) : RS w' ao ln cp L := by
  refine ⟨h.1, h.2.1, h.2.2.1, fun hl => ?_⟩
  obtain ⟨g, off, rfl, hlt, hc⟩ := h.2.2.2 hl
  exact ⟨g, off, rfl, Nat.lt_of_lt_of_le hlt hs, fun i r hi u hu x => (World.cell?_of_block (hk g (by simp [Kr]))).trans (hc i r hi u hu x)⟩
variable {W : World} {A P : Nat} {oa os : Option Addr} {na ca ns cs : Nat} {code : Int} {all some_ : List Ro}
end
end Go.Proofs.Ytheidhkmmihjlaa

/-
  XmR: What ModelReads asks besides: the law's own search, with its place; a model of which less is kept.
-/
set_option linter.unusedVariables false
set_option linter.unusedSimpArgs false
namespace Go.Proofs.Ytheidhkmmihjlaa
open Go.RowKit
open ML (Ro RS Srt nless fstOf od nl_irr nl_tr nl_tot)
attribute [local go_sem] Oper.semAt_some

theorem Mo.sub {B : Nat} {K K' : List Nat} {w : World} {X : Nat} {S : Ms} (h : Mo B K w X S) (hs : ∀ j ∈ K', j ∈ K) : Mo B K' w X S := by
  obtain ⟨b, c, hP, h1, h2, h3, h4, h5⟩ := h
  exact ⟨b, c, hP, h1, h2, h3, h4, fun j hj => h5 j (hs j hj)⟩
section
set_option maxHeartbeats 1000000
set_option maxRecDepth 100000
variable {w : World} {ao : Option Addr} {len cap : Nat} {L : List Ro}
end
end Go.Proofs.Ytheidhkmmihjlaa

/-
  XmT: Writes in memory: slices that are read, rows that a call has made, append; the program's Apply of a right commit.
-/
set_option linter.unusedVariables false
set_option linter.unusedSimpArgs false
namespace Go.Proofs.Ytheidhkmmihjlaa
open Go.RowKit
open ML (Ro RS Srt nless nl_irr nl_tr nl_tot od)
attribute [local go_sem] Oper.semAt_some
abbrev Wr.cl (x : Wr) : List Value := [.string x.key, .string x.val, .bool x.gone]
abbrev WS (w : World) (ao : Option Addr) (len cap : Nat) (l : List Wr) : Prop := Seq 3 Wr.cl w ao len cap l
def wrc (l : List Wr) : List Value := l.flatMap Wr.cl
theorem wrc_len (l : List Wr) : (wrc l).length = l.length * 3 := by
  induction l with
  | nil => rfl
  | cons p l ih => simp only [wrc, List.flatMap_cons, List.length_append, List.length_cons, List.length_nil] at *; omega
theorem wrc_append (l m : List Wr) : wrc (l ++ m) = wrc l ++ wrc m := by simp [wrc]
theorem wrc_at : ∀ (l : List Wr) (i : Nat) (r : Wr), l[i]? = some r → ∀ j u, r.cl[j]? = some u → (wrc l)[i * 3 + j]? = some u := by
  intro l
  induction l with
  | nil => intro i r h; cases h
  | cons q l ih =>
    intro i r h j u hu
    have hj : j < 3 := (List.getElem?_eq_some_iff.1 hu).1
    have e : wrc (q :: l) = q.cl ++ wrc l := rfl
    cases i with
    | zero =>
      cases h
      rw [e, List.getElem?_append_left (by simp; omega)]
      simpa using hu
    | succ i =>
      rw [e, List.getElem?_append_right (by simp; omega)]
      have := ih i r (by simpa using h) j u hu
      have e2 : (i + 1) * 3 + j - q.cl.length = i * 3 + j := by simp; omega
      rw [e2]
      exact this
theorem wrc_one (l : List Wr) : ∀ u ∈ wrc l, u.oneCell' = true := by
  intro u hu
  obtain ⟨p, _, hp⟩ := List.mem_flatMap.1 hu
  simp at hp
  rcases hp with rfl | rfl | rfl <;> rfl
/-- Rows that a call has made, from block B on. -/
abbrev Wo (w : World) (B : Nat) (v : Value) (l : List Wr) : Prop := w.ownsRow B 61 3 v l.length (wrc l)
theorem Wo.seq {w : World} {B : Nat} {v : Value} {l : List Wr} (h : Wo w B v l) : ∃ ao cap, v = .slice ao l.length cap ∧ WS w ao l.length cap l := by
  rcases h.2 with ⟨rfl, h0⟩ | ⟨g, cap, cur, rfl, hB, hh, hle, hm, hsz, htk⟩
  · exact ⟨none, 0, by rw [h0], rfl, by omega, Nat.zero_le _, fun q => by omega⟩
  · refine ⟨_, cap, rfl, rfl, hle, hm, fun q => ⟨g, 0, rfl, (Array.getElem?_eq_some_iff.1 hh).1, fun i r hi j u hu => ?_⟩⟩
    have hil := (List.getElem?_eq_some_iff.1 hi).1
    have hj : j < 3 := (List.getElem?_eq_some_iff.1 hu).1
    have h1 := World.ownsRow.cellAt h (i * 3 + j) (by omega)
    have e : (0 + i * 3 + j) = i * 3 + j := by omega
    rw [e, h1]
    exact wrc_at l i r hi j u hu
theorem infoWr : (Try.prog.info? 61).map (fun i => (i.zero, i.size, i.bytes)) = some (some (.agg #[.string .empty, .string .empty, .bool false]), 3, 40) := by kernel_rfl
/-- A slice of rows that may be appended. -/
def Svw (w : World) (x : Value) (m : List Wr) : Prop :=
  (x = .slice none 0 0 ∧ m = []) ∨ ∃ ad c, x = .slice (some ad) m.length c ∧ ∀ j u, (wrc m)[j]? = some u → w.cell? (ad.add j) = some u
/-- All its cells lie below. -/
theorem Svw.keep {w w' : World} {x : Value} {m : List Wr} (h : Svw w x m) (hb : Below w.heap.size w w') : Svw w' x m := by
  rcases h with q | ⟨ad, c, e, hc⟩
  · exact .inl q
  · refine .inr ⟨ad, c, e, fun j u hu => ?_⟩
    have h1 := hc j u hu
    exact (hb.cell (p := ad.add j) (World.block_lt_of_cell? w _ h1)).trans h1
section
variable {w : World} {B : Nat} {v : Value} {l m : List Wr} {x : Value}
theorem wapp (h : Wo w B v l) (hB : B ≤ w.heap.size) (hs : Svw w x m) (hl : l.length + m.length ≤ 1000000000) :
    ∃ v' w', (Builtin.append_ #[34, 34] 34 #[v, x]).run Try.prog w = .ok v' w' ∧ Wo w' B v' (l ++ m) ∧ (∀ a n, n ≤ B → Below n a w → Below n a w') ∧ w.heap.size ≤ w'.heap.size ∧ (∀ k, k < w.heap.size → v.ownBlock ≠ some k → w'.heap[k]? = w.heap[k]?) := by
  obtain ⟨i0, hi0, z0, z1, z2⟩ := info_parts infoWr
  rcases hs with ⟨rfl, rfl⟩ | ⟨ad, c, rfl, hc⟩
  · refine ⟨v, w, run_append_owned_none (P := Try.prog) (w := w) B 34 34 61 i0 3 Try.underlying34 hi0 v _ _ h, by rw [List.append_nil]; exact h, fun _ _ _ hb => hb, Nat.le_refl _, fun _ _ _ => rfl⟩
  · obtain ⟨v', w', hr, ho, hg, _, _⟩ := run_append_own_at (P := Try.prog) w B 34 34 61 i0 _ 3 40 Try.underlying34 hi0 z0 z1 z2 rfl (by decide) v _ _ h ad m.length c (wrc m) (wrc_len m) hc (wrc_one m) (by unfold maxLen; omega) (by omega) hB
    refine ⟨v', w', hr, ?_, fun a n hn hb => hb.grown hg (by omega) (fun k e => Nat.le_trans hn (World.ownsRow.lt h k e).1), hg.size, fun k hk hne => hg.block k hk (fun e => hne e.symm)⟩
    unfold Wo
    rw [List.length_append, wrc_append]
    exact ho
/-- The cells of a slice that is read. -/
theorem ws_cells {ao : Option Addr} {len cap : Nat} (h : WS w ao len cap l) (hl : 0 < len) : ∃ g off, ao = some ⟨g, off, none⟩ ∧ g < w.heap.size ∧ ∀ j u, (wrc l)[j]? = some u → w.cell? ⟨g, off + j, none⟩ = some u := by
  obtain ⟨g, off, e, hg, hc⟩ := h.2.2.2 hl
  refine ⟨g, off, e, hg, fun j u hu => ?_⟩
  have hj := (List.getElem?_eq_some_iff.1 hu).1
  rw [wrc_len] at hj
  obtain ⟨r, hr⟩ := some_at (l := l) (i := j / 3) (n := l.length) rfl (by omega)
  have hm : j % 3 < 3 := Nat.mod_lt _ (by decide)
  obtain ⟨y, hy⟩ : ∃ y, r.cl[j % 3]? = some y := ⟨r.cl[j % 3]'(by simp; omega), List.getElem?_eq_getElem (by simp; omega)⟩
  have e1 := wrc_at l (j / 3) r hr (j % 3) y hy
  have e2 : j / 3 * 3 + j % 3 = j := by omega
  rw [e2, hu] at e1
  have e3 := hc (j / 3) r hr (j % 3) y hy
  have e4 : off + j / 3 * 3 + j % 3 = off + j := by omega
  rw [e4] at e3
  rw [e3, Option.some.inj e1]
end
/-! ### A right commit -/
def pkW (ps : List Wr) (k : Nat) : ByteArray := if k = 0 then ⟨#[]⟩ else (ps[k - 1]?.map Wr.key).getD ⟨#[]⟩
theorem pkW_less {ps : List Wr} (hs : SrtW ps) (hk : ∀ x ∈ ps, okW x = true) {k : Nat} {x : Wr} (h : ps[k]? = some x) : nless (pkW ps k) x.key = true := by
  unfold pkW
  by_cases e : k = 0
  · rw [if_pos e]
    have h1 : nless ⟨#[]⟩ x.key = decide (1 ≤ x.key.size) := slt_empty x.key
    rw [h1]
    exact decide_eq_true (okW_iff.1 (hk x (List.mem_of_getElem? h))).1.1
  · rw [if_neg e]
    obtain ⟨h1, e1⟩ := List.getElem?_eq_some_iff.1 h
    have h2 : k - 1 < ps.length := by omega
    rw [List.getElem?_eq_getElem h2]
    have := List.pairwise_iff_getElem.1 hs (k - 1) k h2 h1 (by omega)
    rw [e1] at this
    exact this
theorem ws_keep {w w' : World} {ao : Option Addr} {ln cp : Nat} {L : List Wr} (h : WS w ao ln cp L) (hk : ∀ j ∈ Kr ao, w'.heap[j]? = w.heap[j]?) (hs : w.heap.size ≤ w'.heap.size) : WS w' ao ln cp L := by
  refine ⟨h.1, h.2.1, h.2.2.1, fun hl => ?_⟩
  obtain ⟨g, off, rfl, hlt, hc⟩ := h.2.2.2 hl
  exact ⟨g, off, rfl, Nat.lt_of_lt_of_le hlt hs, fun i r hi u hu x => (World.cell?_of_block (hk g (by simp [Kr]))).trans (hc i r hi u hu x)⟩
theorem ws_below {w w' : World} {ao : Option Addr} {ln cp : Nat} {L : List Wr} (h : WS w ao ln cp L) (hb : Below w.heap.size w w') : WS w' ao ln cp L := by
  refine ⟨h.1, h.2.1, h.2.2.1, fun hl => ?_⟩
  obtain ⟨g, off, rfl, hlt, hc⟩ := h.2.2.2 hl
  exact ⟨g, off, rfl, Nat.lt_of_lt_of_le hlt hb.size, fun i r hi u hu x => (World.cell?_of_block (hb.block g hlt)).trans (hc i r hi u hu x)⟩
theorem ws_chg {w w' : World} {s : Nat → Prop} {ao : Option Addr} {ln cp : Nat} {L : List Wr} (h : WS w ao ln cp L) (hc : Chg s w w') (hd : ∀ j ∈ Kr ao, ¬ s j) : WS w' ao ln cp L := by
  refine ⟨h.1, h.2.1, h.2.2.1, fun hl => ?_⟩
  obtain ⟨g, off, rfl, hlt, hc2⟩ := h.2.2.2 hl
  exact ⟨g, off, rfl, Nat.lt_of_lt_of_le hlt hc.size, fun i r hi u hu x => (World.cell?_of_block (hc.2 g hlt (hd g (by simp [Kr])))).trans (hc2 i r hi u hu x)⟩
theorem cell_chg (w : World) (D i : Nat) (v : Value) : Chg (fun j => j = D) w (w.setCell ⟨D, i, none⟩ v) :=
  ⟨⟨rfl, rfl, rfl, by simp [World.setCell], fun k hk => absurd hk (Nat.not_lt_zero _)⟩, fun j hj n => set_else fun e => n e⟩
theorem empty_of {s : ByteArray} (h : s.size = 0) : s = ⟨#[]⟩ := by
  have : s.data.size = 0 := h
  exact ByteArray.ext (Array.eq_empty_of_size_eq_zero this)
section
set_option maxHeartbeats 1000000
set_option maxRecDepth 100000
variable {w : World} {ao : Option Addr} {len cap : Nat} {ps : List Wr} {X b : Nat}
theorem isRight_ok {t : Int} (ht : isT t = true) (h : WS w ao len cap ps) (hs : SrtW ps) (hk : ∀ x ∈ ps, okW x = true) (h64 : ps.length ≤ 64) :
    Calls Try.prog 30 #[.agg #[.int .i64 t, .slice ao len cap]] w fun e w' => e = .returned (.bool true) ∧ Below w.heap.size w w' := by
  obtain rfl := h.1
  have d64 : ¬ (64 : Int) < (ps.length : Int) := by omega
  have HT := xhide (fun w => mTime_any t w)
  have HK := xhide (fun s w => mKey_any s w)
  have HV := xhide (fun s w => mVal_any s w)
  have HA : Hid (∀ u, Below w.heap.size w u → WS u ao ps.length cap ps) := xhide (fun u hb => ws_below h hb)
  have HS := xhide hs
  have HKW := xhide hk
  clear h hs hk
  go_enter Try.func30, Try.ntmps30
  go_wp2_with fail
  refine (HT.out _).mono ?_
  rintro e w1 ⟨rfl, rfl⟩
  rw [ht]
  go_wp2_with fail
  go_loopw [19, 3] (fun i a wr => ∃ k : Nat, k ≤ ps.length ∧ i = .int .i64 (k : Nat) ∧ a = .string (pkW ps k) ∧ Hid (Below w.heap.size w wr)) (fun i _ _ => ps.length - (intOf i).toNat)
  case atStart => exact ⟨0, by omega, rfl, rfl, xhide (ML.below1 _ _)⟩
  case round =>
    obtain ⟨k, hkl, rfl, rfl, HB⟩ := hrel
    by_cases hlt : k < ps.length
    · obtain ⟨x, hx⟩ := some_at rfl hlt
      obtain ⟨g, off, rfl, hgl, hc⟩ := (HA.out _ HB.out).2.2.2 (by omega)
      have c0 := hc k x hx 0 _ rfl
      have c1 := hc k x hx 1 _ rfl
      have c2 := hc k x hx 2 _ rfl
      rw [Nat.add_zero] at c0
      have d1 : (k : Int) < (ps.length : Int) := by omega
      have hokx := HKW.out x (List.mem_of_getElem? hx)
      have e4 := pkW_less HS.out HKW.out hx
      have hfl := nl_flip x.key (pkW ps k)
      rw [e4] at hfl
      have e1 : isK x.key = true := isK_iff.2 (okW_iff.1 hokx).1
      have e2 : isV x.val = true := isV_iff.2 (okW_iff.1 hokx).2.1
      have hpk : pkW ps (k + 1) = x.key := by unfold pkW; simp [hx]
      have NB : Hid (Below w.heap.size w (wr.alloc (.cells #[.string x.key, .string x.val, .bool x.gone] 61))) := xhide (HB.out.trans ((ML.below1 wr _).mono HB.out.size))
      have hgone := (okW_iff.1 hokx).2.2
      clear hc hokx
      obtain ⟨xk, xv, xg⟩ := x
      simp only [] at c0 c1 c2 e1 e2 e4 hfl hpk hgone
      cases xg with
      | true =>
        obtain rfl := empty_of (hgone rfl)
        go_wp2_with (first
          | (go_at_call 25; refine (HK.out _ _).mono ?_; rintro e w' ⟨rfl, rfl⟩; rw [e1])
          | (go_at_call 26; refine (HV.out _ _).mono ?_; rintro e w' ⟨rfl, rfl⟩; rw [e2])
          | fail)
        go_roundw
        case rel => exact ⟨k + 1, by omega, by go_num, by rw [hpk], NB⟩
        case measure => simp [intOf]; omega
      | false =>
        go_wp2_with (first
          | (go_at_call 25; refine (HK.out _ _).mono ?_; rintro e w' ⟨rfl, rfl⟩; rw [e1])
          | (go_at_call 26; refine (HV.out _ _).mono ?_; rintro e w' ⟨rfl, rfl⟩; rw [e2])
          | fail)
        go_roundw
        case rel => exact ⟨k + 1, by omega, by go_num, by rw [hpk], NB⟩
        case measure => simp [intOf]; omega
    · obtain rfl : k = ps.length := by omega
      have d1 : ¬ (ps.length : Int) < (ps.length : Int) := by omega
      go_wp2
      go_ret
      exact ⟨rfl, HB.out⟩
end
end Go.Proofs.Ytheidhkmmihjlaa

/-
  XmU: What ModelLays asks, without memory, and the state in which its loop stands.
-/
set_option linter.unusedVariables false
set_option linter.unusedSimpArgs false
namespace Go.Proofs.Ytheidhkmmihjlaa
open Go.RowKit
open ML (Ro RS Srt nless fstOf od nl_irr nl_tr nl_tot)
attribute [local go_sem] Oper.semAt_some

theorem putW_at {ps : List Wr} {n : Nat} {x : Wr} (hn : n ≤ ps.length) (h1 : ∀ z ∈ ps.take n, nless z.key x.key = true) (h2 : ∀ z, ps[n]? = some z → nless z.key x.key = false) (h3 : ∀ z ∈ ps, z.key ≠ x.key) : putW ps x = ps.take n ++ x :: ps.drop n := by
  unfold putW
  rw [Ck.put_at hn h1 (fun z hz q => by rw [h2 z hz] at q; cases q)]
  congr 2
  cases hz : ps[n]? with
  | none =>
    have : ps.length ≤ n := by
      by_cases q : n < ps.length
      · rw [List.getElem?_eq_getElem q] at hz; cases hz
      · omega
    rw [List.drop_eq_nil_of_le this]
  | some z =>
    simp only []
    rw [if_neg (h3 z (List.mem_of_getElem? hz))]
/-- Is a key among writes. -/
def has (ps : List Wr) (k : ByteArray) : Bool := ps.any fun z => decide (z.key = k)
theorem mo_addK {B : Nat} {K K' : List Nat} {w w' : World} {X : Nat} {S : Ms} (h : Mo B K w X S) (hb : Below w.heap.size w w') (hk : ∀ g ∈ K', w.heap.size ≤ g ∧ g < w'.heap.size) : Mo B (K' ++ K) w' X S := by
  have h' := h.below hb
  obtain ⟨b, c, hP, q1, q2, q3, q4, q5⟩ := h
  refine ⟨b, c, hP.below hb, q1, q2, q3, h'.base, fun j hj => ?_⟩
  rcases List.mem_append.1 hj with hj | hj
  · exact ⟨(hk j hj).2, fun e => by have := hP.ex_lt e; have := (hk j hj).1; omega⟩
  · exact ⟨Nat.lt_of_lt_of_le (q5 j hj).1 hb.size, (q5 j hj).2⟩
theorem mo_chg {B : Nat} {K : List Nat} {w w' : World} {X : Nat} {S : Ms} {s : Nat → Prop} (h : Mo B K w X S) (hc : Chg s w w') (hk : ∀ j, s j → j ∈ K) : Mo B K w' X S := by
  obtain ⟨b, c, hP, q1, q2, q3, q4, q5⟩ := h
  exact ⟨b, c, hP.chg hc (fun j e q => (q5 j (hk j q)).2 e), q1, q2, q3, Nat.le_trans q4 hc.size, fun j hj => ⟨Nat.lt_of_lt_of_le (q5 j hj).1 hc.size, (q5 j hj).2⟩⟩
abbrev wrO (x : Wr) : Obj := .cells #[.string x.key, .string x.val, .bool x.gone] 61 (0, 0)
section
variable {W w w' : World} {B X Y bY C : Nat} {L : List Ro} {t : Int} {qs qs' ps : List Wr} {ao : Option Addr} {cap : Nat}
variable {D : Nat} {x : Wr}
theorem wrc_drop : ∀ (l : List Wr) (m : Nat), wrc (l.drop m) = (wrc l).drop (m * 3)
  | [], m => by simp [wrc]
  | a :: l, 0 => by simp
  | a :: l, m + 1 => by
    rw [List.drop_succ_cons, wrc_drop l m]
    have e : wrc (a :: l) = a.cl ++ wrc l := rfl
    rw [e, show (m + 1) * 3 = 3 + m * 3 by omega, ← List.drop_drop]
    rfl
theorem svw_from (h : WS w ao ps.length cap ps) (hn : ao = none → cap = 0) {m : Nat} (hm : m ≤ ps.length) : Svw w (.slice (if cap = m then ao else ao.map (·.add (m * 3))) (ps.length - m) (cap - m)) (ps.drop m) := by
  have hlc := h.2.1
  cases ao with
  | none =>
    have h0 := hn rfl
    have h1 : ps.length = 0 := by omega
    have h2 : m = 0 := by omega
    subst h2
    rw [if_pos h0, h0, h1]
    exact .inl ⟨rfl, by rw [List.drop_zero]; exact List.eq_nil_of_length_eq_zero h1⟩
  | some ad =>
    by_cases hml : m < ps.length
    · rw [if_neg (by omega)]
      refine .inr ⟨ad.add (m * 3), cap - m, by rw [List.length_drop]; rfl, fun j u hu => ?_⟩
      rw [wrc_drop, List.getElem?_drop] at hu
      obtain ⟨g, off, e, hg, hc⟩ := ws_cells h (by omega)
      cases e
      rw [addr_plus, addr_plus, Nat.add_assoc]
      exact hc _ u hu
    · have h2 : ps.drop m = [] := List.drop_eq_nil_of_le (by omega)
      have h3 : ps.length - m = 0 := by omega
      rw [h2, h3]
      by_cases hcm : cap = m
      · rw [if_pos hcm]; exact .inr ⟨ad, _, rfl, fun j u hu => by simp [wrc] at hu⟩
      · rw [if_neg hcm]; exact .inr ⟨_, _, rfl, fun j u hu => by simp [wrc] at hu⟩
end
end Go.Proofs.Ytheidhkmmihjlaa

/-
  XnI: Whether a commit is right, of any commit; a commit's writes that are right rise.
-/
set_option linter.unusedVariables false
set_option linter.unusedSimpArgs false
namespace Go.Proofs.Ytheidhkmmihjlaa
open Go.RowKit
open ML (Ro RS Srt nless nl_irr nl_tr nl_tot od)
attribute [local go_sem] Oper.semAt_some
theorem upW_srt : ∀ {l : List Wr} {a : ByteArray}, upW a l = true → SrtW l ∧ ∀ x ∈ l, nless a x.key = true
  | [], _, _ => ⟨List.Pairwise.nil, nofun⟩
  | x :: l, a, h => by
    have h' : (okW x && nless a x.key && upW x.key l) = true := h
    rw [Bool.and_eq_true, Bool.and_eq_true] at h'
    obtain ⟨h1, h2⟩ := upW_srt h'.2
    refine ⟨List.pairwise_cons.2 ⟨h2, h1⟩, fun y hy => ?_⟩
    rcases List.mem_cons.1 hy with e | e
    · rw [e]; exact h'.1.2
    · exact nl_tr h'.1.2 (h2 y e)
theorem rightC_iff {t : Int} {ps : List Wr} (h : rightC ⟨t, ps⟩ = true) : isT t = true ∧ ps.length ≤ 64 ∧ SrtW ps ∧ ∀ x ∈ ps, okW x = true := by
  unfold rightC at h
  rw [Bool.and_eq_true, Bool.and_eq_true] at h
  exact ⟨h.1.1, by simpa using h.1.2, (upW_srt h.2).1, upW_mem _ _ h.2⟩
theorem upW_at {ps : List Wr} {k : Nat} {x : Wr} (h : ps[k]? = some x) : upW (pkW ps k) (ps.drop k) = (okW x && nless (pkW ps k) x.key && upW (pkW ps (k + 1)) (ps.drop (k + 1))) := by
  obtain ⟨h1, h2⟩ := List.getElem?_eq_some_iff.1 h
  have e : pkW ps (k + 1) = x.key := by unfold pkW; simp [h]
  rw [List.drop_eq_getElem_cons h1, h2, e]
  rfl
section
set_option maxHeartbeats 8000000
set_option maxRecDepth 100000
variable {w : World} {ao : Option Addr} {len cap : Nat} {ps : List Wr}
theorem isRight_any (t : Int) (h : WS w ao len cap ps) :
    Calls Try.prog 30 #[.agg #[.int .i64 t, .slice ao len cap]] w fun e w' => e = .returned (.bool (rightC ⟨t, ps⟩)) ∧ Below w.heap.size w w' := by
  obtain rfl := h.1
  have hmx : (ps.length : Int) ≤ 9223372036854775807 := by have := h.2.1; have := h.2.2.1; unfold maxLen at this; omega
  have HT := xhide (fun w => mTime_any t w)
  have HK := xhide (fun s w => mKey_any s w)
  have HV := xhide (fun s w => mVal_any s w)
  have HA : Hid (∀ u, Below w.heap.size w u → WS u ao ps.length cap ps) := xhide (fun u hb => ws_below h hb)
  have HB0 : Hid (Below w.heap.size w (w.alloc (.cells #[.int .i64 t, .slice ao ps.length cap] 36))) := xhide (ML.below1 _ _)
  have hrc : rightC ⟨t, ps⟩ = (isT t && decide (ps.length ≤ 64) && upW (pkW ps 0) (ps.drop 0)) := rfl
  generalize hR : rightC ⟨t, ps⟩ = R at *
  have HRC := xhide hrc
  clear h hrc hR
  go_enter Try.func30, Try.ntmps30
  go_wp2_with fail
  refine (HT.out _).mono ?_
  rintro e w1 ⟨rfl, rfl⟩
  cases ht : isT t with
  | false =>
    have HF : Hid (R = false) := xhide (by rw [HRC.out, ht]; rfl)
    go_wp2
    go_ret
    exact ⟨by rw [HF.out]; rfl, HB0.out⟩
  | true =>
    by_cases h64 : ps.length ≤ 64
    · have d64 : ¬ (64 : Int) < (ps.length : Int) := by omega
      have HR0 : Hid (R = upW (pkW ps 0) (ps.drop 0)) := xhide (by rw [HRC.out, ht, decide_eq_true h64]; rfl)
      clear HRC
      go_wp2_with fail
      go_loopw [19, 3] (fun i a wr => ∃ k : Nat, k ≤ ps.length ∧ i = .int .i64 (k : Nat) ∧ a = .string (pkW ps k) ∧ Hid (R = upW (pkW ps k) (ps.drop k)) ∧ Hid (Below w.heap.size w wr)) (fun i _ _ => ps.length - (intOf i).toNat)
      case atStart => exact ⟨0, by omega, rfl, rfl, HR0, HB0⟩
      case round =>
        obtain ⟨k, hkl, rfl, rfl, HR, HB⟩ := hrel
        clear HR0 HB0
        by_cases hlt : k < ps.length
        · obtain ⟨x, hx⟩ := some_at rfl hlt
          obtain ⟨g, off, rfl, hgl, hc⟩ := (HA.out _ HB.out).2.2.2 (by omega)
          have c0 := hc k x hx 0 _ rfl
          have c1 := hc k x hx 1 _ rfl
          have c2 := hc k x hx 2 _ rfl
          rw [Nat.add_zero] at c0
          have d1 : (k : Int) < (ps.length : Int) := by omega
          have hup := upW_at hx
          have hfl := nl_flip x.key (pkW ps k)
          have hpk : pkW ps (k + 1) = x.key := by unfold pkW; simp [hx]
          have NB : Hid (Below w.heap.size w (wr.alloc (.cells #[.string x.key, .string x.val, .bool x.gone] 61))) := xhide (HB.out.trans ((ML.below1 wr _).mono HB.out.size))
          have te : x.val.toList.isEmpty = decide (x.val.size = 0) := by
            rw [ByteArray.toList_eq]
            show x.val.data.toList.isEmpty = decide (x.val.data.size = 0)
            rw [← Array.length_toList]
            cases x.val.data.toList <;> simp
          have hok : okW x = (isK x.key && isV x.val && (!x.gone || decide (x.val.size = 0))) := by
            cases q : okW x with
            | true =>
              obtain ⟨q1, q2, q3⟩ := okW_iff.1 q
              rw [isK_iff.2 q1, isV_iff.2 q2]
              cases e : x.gone with
              | false => rfl
              | true => rw [decide_eq_true (q3 e)]; rfl
            | false =>
              cases q2 : (isK x.key && isV x.val && (!x.gone || decide (x.val.size = 0))) with
              | false => rfl
              | true =>
                rw [Bool.and_eq_true, Bool.and_eq_true] at q2
                have : okW x = true := okW_iff.2 ⟨isK_iff.1 q2.1.1, isV_iff.1 q2.1.2, fun e => by have := q2.2; rw [e] at this; simpa using this⟩
                rw [q] at this; cases this
          rw [hok] at hup
          clear hok hc
          obtain ⟨xk, xv, xg⟩ := x
          simp only [] at c0 c1 c2 hup hfl hpk te NB
          have HUP := xhide hup
          have HPK := xhide hpk
          clear hup hpk hx
          cases e1 : isK xk with
          | false =>
            have HF : Hid (R = false) := xhide (by rw [HR.out, HUP.out, e1]; rfl)
            go_wp2_with (first
              | (go_at_call 25; refine (HK.out _ _).mono ?_; rintro e w' ⟨rfl, rfl⟩; rw [e1])
              | fail)
            go_ret
            exact ⟨by rw [HF.out]; rfl, NB.out⟩
          | true =>
          cases e2 : isV xv with
          | false =>
            have HF : Hid (R = false) := xhide (by rw [HR.out, HUP.out, e1, e2]; rfl)
            go_wp2_with (first
              | (go_at_call 25; refine (HK.out _ _).mono ?_; rintro e w' ⟨rfl, rfl⟩; rw [e1])
              | (go_at_call 26; refine (HV.out _ _).mono ?_; rintro e w' ⟨rfl, rfl⟩; rw [e2])
              | fail)
            go_ret
            exact ⟨by rw [HF.out]; rfl, NB.out⟩
          | true =>
          by_cases hg : xg = true ∧ ¬ xv.size = 0
          · obtain ⟨rfl, hv⟩ := hg
            rw [decide_eq_false hv] at te
            have HF : Hid (R = false) := xhide (by rw [HR.out, HUP.out, e1, e2, decide_eq_false hv]; rfl)
            clear hv
            go_wp2_with (first
              | (go_at_call 25; refine (HK.out _ _).mono ?_; rintro e w' ⟨rfl, rfl⟩; rw [e1])
              | (go_at_call 26; refine (HV.out _ _).mono ?_; rintro e w' ⟨rfl, rfl⟩; rw [e2])
              | fail)
            go_ret
            exact ⟨by rw [HF.out]; rfl, NB.out⟩
          · have hgg : (!xg || decide (xv.size = 0)) = true := by
              cases xg with
              | false => rfl
              | true =>
                have : xv.size = 0 := by
                  by_cases q : xv.size = 0
                  · exact q
                  · exact absurd ⟨rfl, q⟩ hg
                rw [decide_eq_true this]; rfl
            have htx : xg = true → xv.toList.isEmpty = true := fun e => by rw [te]; rw [e] at hgg; simpa using hgg
            cases e4 : nless (pkW ps k) xk with
            | false =>
              rw [e4] at hfl
              have HF : Hid (R = false) := xhide (by rw [HR.out, HUP.out, e4]; simp)
              clear hg hgg te
              cases xg with
              | true =>
                have te := htx rfl
                clear htx
                go_wp2_with (first
                  | (go_at_call 25; refine (HK.out _ _).mono ?_; rintro e w' ⟨rfl, rfl⟩; rw [e1])
                  | (go_at_call 26; refine (HV.out _ _).mono ?_; rintro e w' ⟨rfl, rfl⟩; rw [e2])
                  | fail)
                go_ret
                exact ⟨by rw [HF.out]; rfl, NB.out⟩
              | false =>
                clear htx
                go_wp2_with (first
                  | (go_at_call 25; refine (HK.out _ _).mono ?_; rintro e w' ⟨rfl, rfl⟩; rw [e1])
                  | (go_at_call 26; refine (HV.out _ _).mono ?_; rintro e w' ⟨rfl, rfl⟩; rw [e2])
                  | fail)
                go_ret
                exact ⟨by rw [HF.out]; rfl, NB.out⟩
            | true =>
              rw [e4] at hfl
              have HX : Hid (R = upW (pkW ps (k + 1)) (ps.drop (k + 1))) := xhide (by rw [HR.out, HUP.out, e1, e2, hgg, e4]; rfl)
              clear hg hgg te
              cases xg with
              | true =>
                have te := htx rfl
                clear htx
                go_wp2_with (first
                  | (go_at_call 25; refine (HK.out _ _).mono ?_; rintro e w' ⟨rfl, rfl⟩; rw [e1])
                  | (go_at_call 26; refine (HV.out _ _).mono ?_; rintro e w' ⟨rfl, rfl⟩; rw [e2])
                  | fail)
                go_roundw
                case rel => exact ⟨k + 1, by omega, by go_num, by rw [HPK.out], HX, NB⟩
                case measure => simp [intOf]; omega
              | false =>
                clear htx
                go_wp2_with (first
                  | (go_at_call 25; refine (HK.out _ _).mono ?_; rintro e w' ⟨rfl, rfl⟩; rw [e1])
                  | (go_at_call 26; refine (HV.out _ _).mono ?_; rintro e w' ⟨rfl, rfl⟩; rw [e2])
                  | fail)
                go_roundw
                case rel => exact ⟨k + 1, by omega, by go_num, by rw [HPK.out], HX, NB⟩
                case measure => simp [intOf]; omega
        · obtain rfl : k = ps.length := by omega
          have d1 : ¬ (ps.length : Int) < (ps.length : Int) := by omega
          have HF : Hid (R = true) := xhide (by rw [HR.out, List.drop_length]; rfl)
          go_wp2
          go_ret
          exact ⟨by rw [HF.out]; rfl, HB.out⟩
    · have d64 : (64 : Int) < (ps.length : Int) := by omega
      have HF : Hid (R = false) := xhide (by rw [HRC.out, decide_eq_false h64]; simp)
      go_wp2
      go_ret
      exact ⟨by rw [HF.out]; rfl, HB0.out⟩
end
end Go.Proofs.Ytheidhkmmihjlaa

/-
  XnH: The program's Apply of a right commit, whose writes are read while it goes, wherever they lie.
-/
set_option linter.unusedVariables false
set_option linter.unusedSimpArgs false
namespace Go.Proofs.Ytheidhkmmihjlaa
open Go.RowKit
open ML (Ro RS Srt nless nl_irr nl_tr nl_tot od)
attribute [local go_sem] Oper.semAt_some
section
set_option maxHeartbeats 1000000
set_option maxRecDepth 100000
variable {w : World} {ao : Option Addr} {len cap : Nat} {ps : List Wr} {X b : Nat}
/-- A commit's block. -/
theorem apply_right0 {L : List Ro} {t t' : Int} (h : Pm w X b none ⟨L, t, none⟩) (hL : L.length + 64 ≤ 1000000000000000) (ht : isT t' = true) (hlt : t < t') (hw : WS w ao len cap ps) (hwu : ∀ u, Chg (fun j => j = X ∨ j = b) w u → WS u ao len cap ps) (hs : SrtW ps) (hk : ∀ x ∈ ps, okW x = true) (h64 : ps.length ≤ 64) :
    Calls Try.prog 11 #[ptr X, .agg #[.int .i64 t', .slice ao len cap]] w fun e w' => e = .returned (.int .i64 0) ∧ Pm w' X b none ⟨doneW t' L ps, t', none⟩ ∧ Chg (fun j => j = X ∨ j = b) w w' := by
  obtain rfl := hw.1
  obtain ⟨W1, hW1⟩ : ∃ W1, W1 = w.alloc (.cells #[.int .i64 t', .slice ao ps.length cap] 36) := ⟨_, rfl⟩
  have hb1 : Below w.heap.size w W1 := by rw [hW1]; exact ML.below1 _ _
  have h1 := h.below hb1
  have hX0 := h.lt
  have hn1 : w.heap.size ≠ X := by omega
  have hn2 : X ≠ w.heap.size := by omega
  obtain ⟨c0, c1, c2⟩ := h1.cells
  have hc : W1.heap[w.heap.size]? = some (.cells #[.int .i64 t', .slice ao ps.length cap] 36 (0, 0)) := by rw [hW1]; exact ML.heap_alloc_at rfl _
  have z0 : W1.cell? ⟨w.heap.size, 0, none⟩ = some (.int .i64 t') := by rw [Go.Joins.cell_of_block hc]; rfl
  have z1 : W1.cell? ⟨w.heap.size, 1, none⟩ = some (.slice ao ps.length cap) := by rw [Go.Joins.cell_of_block hc]; rfl
  have hlw : w.heap.size < W1.heap.size := (Array.getElem?_eq_some_iff.1 hc).1
  have hlX := h1.lt
  have HN := xhide (none_any h1)
  have HR : Hid (∀ u, Below W1.heap.size W1 u → Calls Try.prog 30 #[.agg #[.int .i64 t', .slice ao ps.length cap]] u fun e w' => e = .returned (.bool true) ∧ Below u.heap.size u w') := xhide (fun u hu => isRight_ok ht (ws_below (ws_below hw hb1) hu) hs hk h64)
  have H1 := xhide h1
  have HB1 := xhide hb1
  have HBK := xhide hc
  have HWS : Hid (∀ u, Chg (fun j => j = X ∨ j = b) w u → WS u ao ps.length cap ps) := xhide hwu
  have HOK := xhide hk
  have d0 : ¬ t' ≤ t := by omega
  have q1 := neWn
  have hX := xhide (show X < W1.heap.size from hlX)
  clear h h1 hb1 hc hw hwu hk
  go_enter Try.func11, Try.ntmps11
  go_wp2_with fail
  rw [← hW1]
  clear hW1
  refine HN.out.mono ?_
  rintro e w1 ⟨rfl, rfl⟩
  go_wp2_with fail
  have HR2 : Hid (∀ u, Below w1.heap.size w1 u → Calls Try.prog 30 #[.agg #[.int .i64 t', .slice ao ps.length cap]] u fun e w' => e = .returned (.bool true) ∧ Below w1.heap.size w1 w') := xhide (fun u hu => (HR.out u hu).mono fun e w' hh => ⟨hh.1, hu.trans (hh.2.mono hu.size)⟩)
  clear HR
  go_region_with (go_at_call 30; refine (HR2.out _ (by exact ⟨rfl, rfl, rfl, Nat.le_refl _, fun _ _ => rfl⟩)).mono ?_; rintro e w3 ⟨rfl, hb4⟩; have hP3 := H1.out.below hb4; obtain ⟨k0, k1, k2⟩ := hP3.cells; have y1 := hP3.free 1; have hl3 := hP3.lt; have hbk3 := (hb4.block _ hlw).trans HBK.out; have m0 : w3.cell? ⟨w.heap.size, 0, none⟩ = some (.int .i64 t') := (by rw [Go.Joins.cell_of_block hbk3]; rfl); have m1 : w3.cell? ⟨w.heap.size, 1, none⟩ = some (.slice ao ps.length cap) := (by rw [Go.Joins.cell_of_block hbk3]; rfl); have hlw3 : w.heap.size < w3.heap.size := (Array.getElem?_eq_some_iff.1 hbk3).1)
  all_goals
    have hs5 : (w3.setCell ⟨X, 1, none⟩ (.int .i64 t')).heap.size = w3.heap.size := by simp [World.setCell]
    have hP5 : Pm (w3.setCell ⟨X, 1, none⟩ (.int .i64 t')) X b none ⟨L, t', none⟩ := by
      obtain ⟨f, hMr, hFr⟩ := hP3.rm
      exact ⟨(Go.Joins.block_setCell hP3.blk _).trans rfl, ⟨hP3.ok.srt, hP3.ok.rows, ht, fun ws q => by cases q⟩, ⟨f, hMr.same (set_else hP3.nb.symm), hFr⟩, rfl, hP3.nb, nofun, nofun⟩
    have hC5 : Chg (fun j => j = X ∨ j = b) w (w3.setCell ⟨X, 1, none⟩ (.int .i64 t')) := (Chg.below (HB1.out.trans (hb4.mono HB1.out.size))).trans (cell_chg w3 X 1 (.int .i64 t')) (fun j _ q => .inl q)
    have HP5 : Hid (∀ u, Below (w3.setCell ⟨X, 1, none⟩ (.int .i64 t')).heap.size (w3.setCell ⟨X, 1, none⟩ (.int .i64 t')) u → Pm u X b none ⟨doneW t' L (ps.take 0), t', none⟩ ∧ Chg (fun j => j = X ∨ j = b) w u) := xhide (fun u hu => ⟨hP5.below hu, hC5.trans (Chg.below (s := fun j => j = X ∨ j = b) hu) (fun j _ q => q)⟩)
    clear hP5 hC5 hP3 hb4 hbk3
    go_wp2_with fail
    go_loopw [36] (fun i wr => ∃ k : Nat, k ≤ ps.length ∧ i = .int .i64 (k : Nat) ∧ Hid (Pm wr X b none ⟨doneW t' L (ps.take k), t', none⟩ ∧ Chg (fun j => j = X ∨ j = b) w wr)) (fun i _ => ps.length - (intOf i).toNat)
    case atStart => exact ⟨0, by omega, rfl, xhide (HP5.out _ ⟨rfl, rfl, rfl, Nat.le_refl _, fun _ _ => rfl⟩)⟩
    case round =>
      obtain ⟨k, hkl, rfl, HS⟩ := hrel
      clear HP5
      by_cases hlt2 : k < ps.length
      · obtain ⟨x, hx⟩ := some_at rfl hlt2
        obtain ⟨hP, hC⟩ := HS.out
        obtain ⟨g, off, rfl, hgl, hc⟩ := (HWS.out _ hC).2.2.2 (by omega)
        have c0 := hc k x hx 0 _ rfl
        have c1 := hc k x hx 1 _ rfl
        have c2 := hc k x hx 2 _ rfl
        rw [Nat.add_zero] at c0
        have d1 : (k : Int) < (ps.length : Int) := by omega
        have hbx := ML.below1 wr (.cells #[.string x.key, .string x.val, .bool x.gone] 61)
        have hll : (doneW t' L (ps.take k)).length ≤ 1000000000000000 := by
          have h1 := doneW_len (t := t') (ps.take k) L
          have h2 : (ps.take k).length ≤ k := List.length_take_le _ _
          omega
        have HL := xhide (lay_any (hP.below hbx) hll x (HOK.out x (List.mem_of_getElem? hx)))
        have HTK := xhide (doneW_take (t := t') (L := L) hx)
        have HCB := xhide (hC.trans (Chg.below (s := fun j => j = X ∨ j = b) hbx) (fun j _ q => q))
        clear hc hP hC hbx HS
        go_wp2_with fail
        refine HL.out.mono ?_
        rintro e w6 ⟨rfl, hP6, hC6⟩
        have NX : Hid (Pm w6 X b none ⟨doneW t' L (ps.take (k + 1)), t', none⟩ ∧ Chg (fun j => j = X ∨ j = b) w w6) := xhide ⟨by rw [HTK.out]; exact hP6, HCB.out.trans hC6 (fun j _ q => .inr q)⟩
        clear hP6 hC6 HL HTK HCB
        go_wp2_with fail
        go_roundw
        case rel => exact ⟨k + 1, by omega, by go_num, NX⟩
        case measure => simp [intOf]; omega
      · obtain rfl : k = ps.length := by omega
        have d1 : ¬ (ps.length : Int) < (ps.length : Int) := by omega
        rw [List.take_length] at HS
        go_wp2
        go_ret
        exact ⟨rfl, HS.out.1, HS.out.2⟩
end
end Go.Proofs.Ytheidhkmmihjlaa

/-
  XmO: Rows and calls that came in, opened, with what the form's own bounds say of their number.
-/
set_option linter.unusedVariables false
set_option linter.unusedSimpArgs false
namespace Go.Proofs.Ytheidhkmmihjlaa
open Go.RowKit Go.ChangeShapes Go.WideShapes Go.ChangeAt

theorem oSt : Try.prog.cellsOf 9 = 1 := by kernel_rfl
theorem oI64 : Try.prog.cellsOf 2 = 1 := by kernel_rfl
theorem oInt : Try.prog.cellsOf 3 = 1 := by kernel_rfl
theorem oRow : Try.prog.cellsOf 45 = 3 := by kernel_rfl
theorem oCall : Try.prog.cellsOf 33 = 7 := by kernel_rfl
section
variable {H : Type} {enc : TypeId × Value → H} {W : World} {a : Option Addr} {len cap : Nat} {d : DataW H} {p : List MemPlace}
set_option maxRecDepth 100000 in
theorem orow_of {n : Nat} {cs : List Value} {y : DataW H × List MemPlace} (hl : cs.length = 3) (ht : DataW.trod enc Try.prog W 0 (fun _ => true) true n 45 cs = some y) : ∃ o : ML.Ro, True ∧ cs = o.cl := by
  obtain ⟨xs, m, _, hy, _, hxl, hfs⟩ := DataW.trod_struct Try.underlying45 ht
  have hx3 : xs.length = 3 := hxl
  match cs, hl, xs, hx3 with
  | [c0, c1, c2], _, [y0, y1, y2], _ =>
    have h0 := (field_at hfs 0 9 0 _ oSt rfl)
    have h1 := (field_at hfs 1 9 1 _ oSt rfl)
    have h2 := (field_at hfs 2 2 2 _ oI64 rfl)
    simp only [List.drop, List.take] at h0 h1 h2
    obtain ⟨k0, q0, r0, _⟩ := DataW.trod_string Try.underlying9 h0
    obtain ⟨k1, q1, r1, _⟩ := DataW.trod_string Try.underlying9 h1
    obtain ⟨k2, q2, r2, s2⟩ := DataW.trod_int Try.underlying2 h2
    simp only [List.cons.injEq, and_true] at q0 q1 q2
    subst q0 q1 q2
    exact ⟨⟨k0, k1, k2⟩, trivial, rfl⟩
set_option maxRecDepth 100000 in
theorem ocall_of {n : Nat} {cs : List Value} {y : DataW H × List MemPlace} (hl : cs.length = 7) (ht : DataW.trod enc Try.prog W 0 (fun _ => true) true n 33 cs = some y) : ∃ o : Cl, True ∧ cs = o.cells := by
  obtain ⟨xs, m, _, hy, _, hxl, hfs⟩ := DataW.trod_struct Try.underlying33 ht
  have hx3 : xs.length = 7 := hxl
  match cs, hl, xs, hx3 with
  | [c0, c1, c2, c3, c4, c5, c6], _, [y0, y1, y2, y3, y4, y5, y6], _ =>
    have h0 := (field_at hfs 0 3 0 _ oInt rfl)
    have h1 := (field_at hfs 1 3 1 _ oInt rfl)
    have h2 := (field_at hfs 2 9 2 _ oSt rfl)
    have h3 := (field_at hfs 3 9 3 _ oSt rfl)
    have h4 := (field_at hfs 4 9 4 _ oSt rfl)
    have h5 := (field_at hfs 5 3 5 _ oInt rfl)
    have h6 := (field_at hfs 6 3 6 _ oInt rfl)
    simp only [List.drop, List.take] at h0 h1 h2 h3 h4 h5 h6
    obtain ⟨k0, q0, r0, _⟩ := DataW.trod_int Try.underlying3 h0
    obtain ⟨k1, q1, r1, _⟩ := DataW.trod_int Try.underlying3 h1
    obtain ⟨k2, q2, r2, _⟩ := DataW.trod_string Try.underlying9 h2
    obtain ⟨k3, q3, r3, _⟩ := DataW.trod_string Try.underlying9 h3
    obtain ⟨k4, q4, r4, _⟩ := DataW.trod_string Try.underlying9 h4
    obtain ⟨k5, q5, r5, _⟩ := DataW.trod_int Try.underlying3 h5
    obtain ⟨k6, q6, r6, _⟩ := DataW.trod_int Try.underlying3 h6
    simp only [List.cons.injEq, and_true] at q0 q1 q2 q3 q4 q5 q6
    subst q0 q1 q2 q3 q4 q5 q6
    exact ⟨⟨k0, k1, k2, k3, k4, k5, k6⟩, trivial, rfl⟩
theorem open_rowsW (h : DataW.Trod enc Try.prog W 0 (fun _ => true) true 22 (.slice a len cap) d p) : ∃ xs : List ML.Ro, ML.RS W a len cap xs ∧ (a = none → cap = 0) ∧ Long d len := by
  obtain ⟨xs, _, h2, h3⟩ := open_seq ML.Ro.cl (fun _ => True) Try.underlying22 oRow (by decide) (fun _ _ => rfl) (fun m cs y hl hy => orow_of hl hy) h
  refine ⟨xs, h2, fun e => ?_, h3⟩
  obtain ⟨fuel, hf⟩ := h
  rcases DataW.trod_slice Try.underlying22 hf with ⟨hcs, _⟩ | ⟨x, l, c, _, _, _, _, hcs, _⟩
  · simp [Value.cells] at hcs
    exact hcs.2.2
  · simp [Value.cells] at hcs
    rw [e] at hcs; cases hcs.1
end
end Go.Proofs.Ytheidhkmmihjlaa

/-
  XmV: Writes that came in, opened.
-/
set_option linter.unusedVariables false
set_option linter.unusedSimpArgs false
namespace Go.Proofs.Ytheidhkmmihjlaa
open Go.RowKit Go.ChangeShapes Go.WideShapes Go.ChangeAt
theorem oBool : Try.prog.cellsOf 4 = 1 := by kernel_rfl
theorem oWrt : Try.prog.cellsOf 61 = 3 := by kernel_rfl
section
variable {H : Type} {enc : TypeId × Value → H} {W : World} {a : Option Addr} {len cap : Nat} {d : DataW H} {p : List MemPlace}
set_option maxRecDepth 100000 in
theorem owrite_of {n : Nat} {cs : List Value} {y : DataW H × List MemPlace} (hl : cs.length = 3) (ht : DataW.trod enc Try.prog W 0 (fun _ => true) true n 61 cs = some y) : ∃ o : Wr, True ∧ cs = o.cl := by
  obtain ⟨xs, m, _, hy, _, hxl, hfs⟩ := DataW.trod_struct Try.underlying61 ht
  have hx3 : xs.length = 3 := hxl
  match cs, hl, xs, hx3 with
  | [c0, c1, c2], _, [y0, y1, y2], _ =>
    have h0 := (field_at hfs 0 9 0 _ oSt rfl)
    have h1 := (field_at hfs 1 9 1 _ oSt rfl)
    have h2 := (field_at hfs 2 4 2 _ oBool rfl)
    simp only [List.drop, List.take] at h0 h1 h2
    obtain ⟨k0, q0, r0, _⟩ := DataW.trod_string Try.underlying9 h0
    obtain ⟨k1, q1, r1, _⟩ := DataW.trod_string Try.underlying9 h1
    obtain ⟨k2, q2, r2⟩ := DataW.trod_bool Try.underlying4 h2
    simp only [List.cons.injEq, and_true] at q0 q1 q2
    subst q0 q1 q2
    exact ⟨⟨k0, k1, k2⟩, trivial, rfl⟩
theorem open_writesW (h : DataW.Trod enc Try.prog W 0 (fun _ => true) true 34 (.slice a len cap) d p) : ∃ xs : List Wr, WS W a len cap xs := by
  obtain ⟨xs, _, h2, _⟩ := open_seq Wr.cl (fun _ => True) Try.underlying34 oWrt (by decide) (fun _ _ => rfl) (fun m cs y hl hy => owrite_of hl hy) h
  exact ⟨xs, h2⟩
end
end Go.Proofs.Ytheidhkmmihjlaa
