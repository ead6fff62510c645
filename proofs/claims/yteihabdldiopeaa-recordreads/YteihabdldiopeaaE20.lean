/-
  How the document reads commits.
-/
import Derived.Test.YteihabdldiopeaaE19
set_option linter.unusedVariables false
set_option linter.unusedSimpArgs false
namespace Go.Proofs.Yteihabdldiopeaa
open Go.RowKit Go.Maps

section
variable {w : World} {ao : Option Addr} {len cap : Nat} {xs : List Int}
set_option maxRecDepth 100000
set_option maxHeartbeats 2000000

theorem RCommit_any (h : Sl w ao len cap xs) :
    Calls Try.prog 25 #[.slice ao len cap] w fun e w' => ∃ v, e = .returned (.tuple #[.agg #[.int .i64 (oC xs).time, v], .int .i64 (vC xs).1, .int .i64 (vC xs).2]) ∧ WRow w' w.heap.size v (oC xs).ws ∧ Below w.heap.size w w' := by
  obtain ⟨i0, hi, hz0, hz1, hz2⟩ := info_parts infoW
  have hx := h.1
  have hA : Below w.heap.size w (w.alloc (.cells #[.int .i64 0, .slice none 0 0] 26)) := (Below.refl _ _).alloc (Nat.le_refl _) _
  have k0 := heap_alloc_new w (.cells #[.int .i64 0, .slice none 0 0] 26)
  have hz : (w.alloc (.cells #[.int .i64 0, .slice none 0 0] 26)).heap.size = w.heap.size + 1 := by simp
  have HB := begin_any 67 (h.below hA)
  rw [hz] at HB
  obtain ⟨S, eS⟩ : ∃ S, S = sC xs 67 := ⟨_, rfl⟩
  obtain ⟨R1, e1⟩ : ∃ R, R = rnum xs 1099511627775 S := ⟨_, rfl⟩
  obtain ⟨R2, e2⟩ : ∃ R, R = rnum xs 64 R1.2 := ⟨_, rfl⟩
  obtain ⟨bd0, bd1⟩ := rnum_bd h.2.2.2.1 64 (by omega) R1.2
  rw [← e2] at bd0 bd1
  obtain ⟨N, eN⟩ : ∃ N : Nat, R2.1 = (N : Int) := ⟨R2.1.toNat, by omega⟩
  have hN64 : N ≤ 64 := by omega
  have hPP : pC xs = (⟨R1.1, (rlist (rwr xs) N R2.2).1⟩, (rlist (rwr xs) N R2.2).2) := by
    have eN2 : R2.1.toNat = N := by omega
    rw [← eN2, e2, e1, eS]; rfl
  obtain ⟨vd, evd⟩ : ∃ vd, vd = vC xs := ⟨_, rfl⟩
  have hvd : vd = verd (rlist (rwr xs) N R2.2).2 len (rightC ⟨R1.1, (rlist (rwr xs) N R2.2).1⟩) := by rw [evd]; unfold vC; rw [hPP, hx]
  obtain ⟨ox, eox⟩ : ∃ ox, ox = oC xs := ⟨_, rfl⟩
  have hox : ox = if vd.2 = 0 then ⟨R1.1, (rlist (rwr xs) N R2.2).1⟩ else ⟨0, []⟩ := by rw [eox, evd]; unfold oC; rw [hPP]
  rw [← evd, ← eox]
  rw [← eS] at HB
  have HVD := hide3 hvd
  have HOX := hide3 hox
  have HB2 := hide3 HB
  have E1 := hide3 e1
  have E2 := hide3 e2
  have EN := hide3 eN
  have HSL := hide3 h
  clear HB eS evd eox hvd hox hPP h e1 e2 eN bd0 bd1
  go_enter Try.func25, Try.ntmps25
  go_wp2_with fail
  refine HB2.out.mono ?_
  rintro e w1 ⟨rfl, h1, hb1⟩
  have hB1 : Below w.heap.size w w1 := hA.trans (hb1.mono (by omega))
  have z1 := (hb1.block w.heap.size (by omega)).trans k0
  have hl1 := h1.lt
  have HC1 := rnumber_any 1099511627775 h1 (by omega) (by omega)
  rw [← E1.out] at HC1
  have HD1 := hide3 HC1
  clear HC1 HB2 k0 hA hb1
  go_wp2_with fail
  refine HD1.out.mono ?_
  rintro e u1 ⟨rfl, g1, t1⟩
  have hlu := g1.lt
  have K1 : Kp w (u1.alloc (.cells #[.int .i64 R1.1, .slice none 0 0] 26)) (w.heap.size + 1) u1.heap.size ao len cap xs R1.2 #[.int .i64 R1.1, (.slice none 0 0)] #[.int .i64 0, .slice none 0 0] 26 28 (u1.heap.size + 1) (.slice none 0 0) 0 [] := {
    rr := g1.keep ((Below.refl _ _).alloc (Nat.le_refl _) _)
    cb := heap_alloc_new u1 _
    zb := (blk_alloc' u1 (.cells #[.int .i64 R1.1, .slice none 0 0] 26) w.heap.size (by omega)).trans (res3 z1 t1 (by omega))
    ro := World.ownsRow_nil _ _ _ _
    bl := (below_of_grown hB1 t1 (by omega)).alloc (below_of_grown hB1 t1 (by omega)).size _
    n1 := by omega
    n2 := by omega
    n3 := by omega
    n4 := by simp
    sl := HSL.out }
  have HC2 := rnumber_any 64 K1.rr (by omega) (by omega)
  rw [← E2.out, EN.out] at HC2
  have HD2 := hide3 HC2
  clear HC2 HD1 hB1 z1 t1 g1 h1
  go_wp2_with fail
  refine HD2.out.mono ?_
  rintro e u2 ⟨rfl, g2, t2⟩
  have K2 := K1.read t2 g2
  clear HD2 K1 g2 t2
  go_wp2_with fail
  go_loopw [8] (fun i wr => ∃ (k : Nat) (va : Value), k ≤ N ∧ i = .int .i64 k ∧ Kp w wr (w.heap.size + 1) u1.heap.size ao len cap xs (rlist (rwr xs) k R2.2).2 #[.int .i64 R1.1, va] #[.int .i64 0, .slice none 0 0] 26 28 (u1.heap.size + 1) va (rlist (rwr xs) k R2.2).1.length ((rlist (rwr xs) k R2.2).1.flatMap Wr.cells)) (fun i _ => N - (intOf i).toNat)
  case atStart => exact ⟨0, _, by omega, rfl, K2⟩
  case round =>
    obtain ⟨k, va, hk, rfl, K⟩ := hrel
    have hsn := rlist_snoc (rwr xs) k R2.2
    have hll := rlist_len (rwr xs) k R2.2
    have hstop : ∀ p, (rlist (rwr xs) k R2.2).2 = .bad p → (rlist (rwr xs) N R2.2).2 = .bad p := fun p hp => rlist_stop _ (rwr_bad xs) hk hp
    obtain ⟨L, eL⟩ : ∃ L, L = rlist (rwr xs) k R2.2 := ⟨_, rfl⟩
    rw [← eL] at K hsn hll hstop
    have HLN := hide3 (show k = N → L = rlist (rwr xs) N R2.2 from fun e => by rw [eL, e])
    have HSN := hide3 hsn
    have HST := hide3 hstop
    have hlr := K.rr.lt
    clear eL hsn hstop K2
    obtain ⟨av, lv, cv, rfl⟩ := row_form K.ro
    obtain ⟨Ls, Lr⟩ := L
    simp only [] at K hll HSN HST HLN
    by_cases hkN : k < N
    case neg =>
      obtain rfl : k = N := by omega
      have hki : ¬ (k : Int) < (k : Int) := by omega
      have hLN := HLN.out rfl
      have hve : verd Lr len (rightC ⟨R1.1, Ls⟩) = vd := by rw [HVD.out, ← hLN]
      have hxo : vd.2 = 0 → ox = ⟨R1.1, Ls⟩ := fun hv => by rw [HOX.out, if_pos hv, ← hLN]
      clear HLN HSN HST hLN
      have HRt := hide3 (refRightCommit_any R1.1 (row_seq K.ro (fun _ => rfl)))
      have y0 : wr.cell? ⟨u1.heap.size, 0, none⟩ = some (.int .i64 R1.1) := by rw [Go.Joins.cell_of_block K.cb]; rfl
      have y1 : wr.cell? ⟨u1.heap.size, 1, none⟩ = some (.slice av lv cv) := by rw [Go.Joins.cell_of_block K.cb]; rfl
      go_wp2_with fail
      refine HRt.out.mono ?_
      rintro e w5 ⟨rfl, hb5⟩
      have K5 := K.below hb5
      have HE := rend_any (rightC ⟨R1.1, Ls⟩) K5.rr
      rw [hve] at HE
      have HE2 := hide3 HE
      clear HE HRt y0 y1
      go_wp2_with fail
      refine HE2.out.mono ?_
      rintro e w6 ⟨rfl, t6⟩
      obtain ⟨p1, p2, p3, p4⟩ := K5.past t6
      clear HE2 K5 t6 K hb5
      have y0 : w6.cell? ⟨u1.heap.size, 0, none⟩ = some (.int .i64 R1.1) := by rw [Go.Joins.cell_of_block p1]; rfl
      have m0 : w6.cell? ⟨w.heap.size, 0, none⟩ = some (.int .i64 0) := by rw [Go.Joins.cell_of_block p2]; rfl
      have mf0 := Go.Joins.unfrozen_of_block p2 0
      have y1 : w6.cell? ⟨u1.heap.size, 1, none⟩ = some (.slice av lv cv) := by rw [Go.Joins.cell_of_block p1]; rfl
      have m1 : w6.cell? ⟨w.heap.size, 1, none⟩ = some (.slice none 0 0) := by rw [Go.Joins.cell_of_block p2]; rfl
      have mf1 := Go.Joins.unfrozen_of_block p2 1
      by_cases hv : vd.2 = 0
      case neg =>
        have eo : ox = ⟨0, []⟩ := HOX.out.trans (if_neg hv)
        subst eo
        have hv1 : (vd.2 == 0) = false := by simpa using hv
        have hv2 : (vd.2 != 0) = true := by simpa using hv
        have zW : ((w6.setCell ⟨w.heap.size, 0, none⟩ (.int .i64 0)).setCell ⟨w.heap.size, 1, none⟩ (.slice none 0 0)).heap[w.heap.size]? = some (.cells #[.int .i64 0, .slice none 0 0] 26 (0, 0)) := blk_set2 p2 _ _
        have BW : Below w.heap.size w ((w6.setCell ⟨w.heap.size, 0, none⟩ (.int .i64 0)).setCell ⟨w.heap.size, 1, none⟩ (.slice none 0 0)) := ((p4.setCell (p := ⟨w.heap.size, 0, none⟩) (by simp) _).setCell (p := ⟨w.heap.size, 1, none⟩) (by simp) _)
        have HO : WRow ((w6.setCell ⟨w.heap.size, 0, none⟩ (.int .i64 0)).setCell ⟨w.heap.size, 1, none⟩ (.slice none 0 0)) w.heap.size (.slice none 0 0) [] := World.ownsRow_nil _ _ _ _
        go_wp2
        generalize ((w6.setCell ⟨w.heap.size, 0, none⟩ (.int .i64 0)).setCell ⟨w.heap.size, 1, none⟩ (.slice none 0 0)) = W at zW BW HO ⊢
        have yy0 : W.cell? ⟨w.heap.size, 0, none⟩ = some (.int .i64 0) := (by rw [Go.Joins.cell_of_block zW]; rfl)
        have yy1 : W.cell? ⟨w.heap.size, 1, none⟩ = some (.slice none 0 0) := (by rw [Go.Joins.cell_of_block zW]; rfl)
        refine bodyPost_ret (v := .tuple #[.agg #[.int .i64 0, .slice none 0 0], .int .i64 vd.1, .int .i64 vd.2]) (by simp [results, Try.results25, go_sem, yy0, yy1]) rfl ⟨_, rfl, HO, BW⟩
      have eo : ox = ⟨R1.1, Ls⟩ := hxo hv
      subst eo
      have hv1 : vd.1 = 0 := verd_ok HVD.out hv
      have zW : ((w6.setCell ⟨w.heap.size, 0, none⟩ (.int .i64 R1.1)).setCell ⟨w.heap.size, 1, none⟩ (.slice av lv cv)).heap[w.heap.size]? = some (.cells #[.int .i64 R1.1, .slice av lv cv] 26 (0, 0)) := blk_set2 p2 _ _
      have BW : Below w.heap.size w ((w6.setCell ⟨w.heap.size, 0, none⟩ (.int .i64 R1.1)).setCell ⟨w.heap.size, 1, none⟩ (.slice av lv cv)) := ((p4.setCell (p := ⟨w.heap.size, 0, none⟩) (by simp) _).setCell (p := ⟨w.heap.size, 1, none⟩) (by simp) _)
      have HO : WRow ((w6.setCell ⟨w.heap.size, 0, none⟩ (.int .i64 R1.1)).setCell ⟨w.heap.size, 1, none⟩ (.slice av lv cv)) w.heap.size (.slice av lv cv) Ls := row_low (World.ownsRow.kept p3 (set2 _ _ _ _) (.inr (fun e => by have := (World.ownsRow.lt p3 _ e).1; omega))) (base' := w.heap.size) (by omega)
      go_wp2
      generalize ((w6.setCell ⟨w.heap.size, 0, none⟩ (.int .i64 R1.1)).setCell ⟨w.heap.size, 1, none⟩ (.slice av lv cv)) = W at zW BW HO ⊢
      have yy0 : W.cell? ⟨w.heap.size, 0, none⟩ = some (.int .i64 R1.1) := (by rw [Go.Joins.cell_of_block zW]; rfl)
      have yy1 : W.cell? ⟨w.heap.size, 1, none⟩ = some (.slice av lv cv) := (by rw [Go.Joins.cell_of_block zW]; rfl)
      refine bodyPost_ret (v := .tuple #[.agg #[.int .i64 R1.1, .slice av lv cv], .int .i64 0, .int .i64 0]) (by simp [results, Try.results25, go_sem, yy0, yy1]) rfl ⟨_, by first | rfl | rw [hv, hv1], HO, BW⟩

    have hki : (k : Int) < (N : Int) := by omega
    cases Lr with
    | bad p =>
      obtain ⟨ax, c0, c1, c2, f1, f2⟩ := K.rr.cells'
      have hp2 : ¬ (p : Int) < 0 := by omega
      have hbp := HST.out p rfl
      have hve : verd (.bad p) len (rightC ⟨R1.1, Ls⟩) = vd := by rw [HVD.out, hbp]; rfl
      have hxo : vd.2 = 0 → ox = ⟨R1.1, Ls⟩ := fun hv => by
        rw [← hve] at hv
        exact absurd hv (by show ¬ (61 : Int) = 0; decide)
      clear HLN HSN HST hbp
      have HRt := hide3 (refRightCommit_any R1.1 (row_seq K.ro (fun _ => rfl)))
      have y0 : wr.cell? ⟨u1.heap.size, 0, none⟩ = some (.int .i64 R1.1) := by rw [Go.Joins.cell_of_block K.cb]; rfl
      have y1 : wr.cell? ⟨u1.heap.size, 1, none⟩ = some (.slice av lv cv) := by rw [Go.Joins.cell_of_block K.cb]; rfl
      go_wp2_with fail
      refine HRt.out.mono ?_
      rintro e w5 ⟨rfl, hb5⟩
      have K5 := K.below hb5
      have HE := rend_any (rightC ⟨R1.1, Ls⟩) K5.rr
      rw [hve] at HE
      have HE2 := hide3 HE
      clear HE HRt y0 y1
      go_wp2_with fail
      refine HE2.out.mono ?_
      rintro e w6 ⟨rfl, t6⟩
      obtain ⟨p1, p2, p3, p4⟩ := K5.past t6
      clear HE2 K5 t6 K hb5
      have y0 : w6.cell? ⟨u1.heap.size, 0, none⟩ = some (.int .i64 R1.1) := by rw [Go.Joins.cell_of_block p1]; rfl
      have m0 : w6.cell? ⟨w.heap.size, 0, none⟩ = some (.int .i64 0) := by rw [Go.Joins.cell_of_block p2]; rfl
      have mf0 := Go.Joins.unfrozen_of_block p2 0
      have y1 : w6.cell? ⟨u1.heap.size, 1, none⟩ = some (.slice av lv cv) := by rw [Go.Joins.cell_of_block p1]; rfl
      have m1 : w6.cell? ⟨w.heap.size, 1, none⟩ = some (.slice none 0 0) := by rw [Go.Joins.cell_of_block p2]; rfl
      have mf1 := Go.Joins.unfrozen_of_block p2 1
      by_cases hv : vd.2 = 0
      case neg =>
        have eo : ox = ⟨0, []⟩ := HOX.out.trans (if_neg hv)
        subst eo
        have hv1 : (vd.2 == 0) = false := by simpa using hv
        have hv2 : (vd.2 != 0) = true := by simpa using hv
        have zW : ((w6.setCell ⟨w.heap.size, 0, none⟩ (.int .i64 0)).setCell ⟨w.heap.size, 1, none⟩ (.slice none 0 0)).heap[w.heap.size]? = some (.cells #[.int .i64 0, .slice none 0 0] 26 (0, 0)) := blk_set2 p2 _ _
        have BW : Below w.heap.size w ((w6.setCell ⟨w.heap.size, 0, none⟩ (.int .i64 0)).setCell ⟨w.heap.size, 1, none⟩ (.slice none 0 0)) := ((p4.setCell (p := ⟨w.heap.size, 0, none⟩) (by simp) _).setCell (p := ⟨w.heap.size, 1, none⟩) (by simp) _)
        have HO : WRow ((w6.setCell ⟨w.heap.size, 0, none⟩ (.int .i64 0)).setCell ⟨w.heap.size, 1, none⟩ (.slice none 0 0)) w.heap.size (.slice none 0 0) [] := World.ownsRow_nil _ _ _ _
        go_wp2
        generalize ((w6.setCell ⟨w.heap.size, 0, none⟩ (.int .i64 0)).setCell ⟨w.heap.size, 1, none⟩ (.slice none 0 0)) = W at zW BW HO ⊢
        have yy0 : W.cell? ⟨w.heap.size, 0, none⟩ = some (.int .i64 0) := (by rw [Go.Joins.cell_of_block zW]; rfl)
        have yy1 : W.cell? ⟨w.heap.size, 1, none⟩ = some (.slice none 0 0) := (by rw [Go.Joins.cell_of_block zW]; rfl)
        refine bodyPost_ret (v := .tuple #[.agg #[.int .i64 0, .slice none 0 0], .int .i64 vd.1, .int .i64 vd.2]) (by simp [results, Try.results25, go_sem, yy0, yy1]) rfl ⟨_, rfl, HO, BW⟩
      have eo : ox = ⟨R1.1, Ls⟩ := hxo hv
      subst eo
      have hv1 : vd.1 = 0 := verd_ok HVD.out hv
      have zW : ((w6.setCell ⟨w.heap.size, 0, none⟩ (.int .i64 R1.1)).setCell ⟨w.heap.size, 1, none⟩ (.slice av lv cv)).heap[w.heap.size]? = some (.cells #[.int .i64 R1.1, .slice av lv cv] 26 (0, 0)) := blk_set2 p2 _ _
      have BW : Below w.heap.size w ((w6.setCell ⟨w.heap.size, 0, none⟩ (.int .i64 R1.1)).setCell ⟨w.heap.size, 1, none⟩ (.slice av lv cv)) := ((p4.setCell (p := ⟨w.heap.size, 0, none⟩) (by simp) _).setCell (p := ⟨w.heap.size, 1, none⟩) (by simp) _)
      have HO : WRow ((w6.setCell ⟨w.heap.size, 0, none⟩ (.int .i64 R1.1)).setCell ⟨w.heap.size, 1, none⟩ (.slice av lv cv)) w.heap.size (.slice av lv cv) Ls := row_low (World.ownsRow.kept p3 (set2 _ _ _ _) (.inr (fun e => by have := (World.ownsRow.lt p3 _ e).1; omega))) (base' := w.heap.size) (by omega)
      go_wp2
      generalize ((w6.setCell ⟨w.heap.size, 0, none⟩ (.int .i64 R1.1)).setCell ⟨w.heap.size, 1, none⟩ (.slice av lv cv)) = W at zW BW HO ⊢
      have yy0 : W.cell? ⟨w.heap.size, 0, none⟩ = some (.int .i64 R1.1) := (by rw [Go.Joins.cell_of_block zW]; rfl)
      have yy1 : W.cell? ⟨w.heap.size, 1, none⟩ = some (.slice av lv cv) := (by rw [Go.Joins.cell_of_block zW]; rfl)
      refine bodyPost_ret (v := .tuple #[.agg #[.int .i64 R1.1, .slice av lv cv], .int .i64 0, .int .i64 0]) (by simp [results, Try.results25, go_sem, yy0, yy1]) rfl ⟨_, by first | rfl | rw [hv, hv1], HO, BW⟩

    | «at» m =>
      obtain ⟨c0, c1, c2, f1, f2, hle⟩ := K.rr.cells
      have HFl := flag_any K.rr
      obtain ⟨Q1, eQ1⟩ : ∃ Q, Q = rmark xs 0 1 (.at m) := ⟨_, rfl⟩
      rw [← eQ1] at HFl
      have EQ1 := hide3 eQ1
      clear HLN HST eQ1
      by_cases hg : Q1.1 = 1
      · skip
        have hQg : decide (Q1.1 = 1) = true := decide_eq_true hg
        rw [hQg] at HFl
        have HF2 := hide3 HFl
        clear HFl
        go_wp2_with fail
        refine HF2.out.mono ?_
        rintro e v1 ⟨rfl, g1, t1⟩
        have hw1 := t1.size
        have J1 := (K.read t1 g1).alloc (.cells #[.string ⟨#[]⟩, .string ⟨#[]⟩, .bool true] 28)
        have hvn : (Value.slice av lv cv).ownBlock ≠ some v1.heap.size := fun e => by
          have := (World.ownsRow.lt (K.read t1 g1).ro _ e).2
          omega
        have y1 := heap_alloc_new v1 (.cells #[.string ⟨#[]⟩, .string ⟨#[]⟩, .bool true] 28)
        have hbs := J1.n4
        have hbs1 : u1.heap.size + 1 ≤ v1.heap.size := (K.read t1 g1).n4
        have HT := rtext_any 16 J1.rr (by omega) (by omega)
        obtain ⟨Q2, eQ2⟩ : ∃ Q, Q = rtxt xs 16 Q1.2 := ⟨_, rfl⟩
        rw [← eQ2] at HT
        have EQ2 := hide3 eQ2
        have HT2 := hide3 HT
        clear HT HF2 g1 t1 eQ2 K
        go_wp2_with fail
        refine HT2.out.mono ?_
        rintro e v2 ⟨rfl, g2, t2⟩
        have J2 := J1.read t2 g2
        have y2 := res3 y1 t2 (by omega)
        have c0 : v2.cell? ⟨v1.heap.size, 0, none⟩ = some (.string ⟨#[]⟩) := by rw [Go.Joins.cell_of_block y2]; rfl
        have c0f := Go.Joins.unfrozen_of_block y2 0
        have J3 := J2.set (y := v1.heap.size) (by omega) hvn 0 (.string Q2.1)
        have y3 : (v2.setCell ⟨v1.heap.size, 0, none⟩ (.string Q2.1)).heap[v1.heap.size]? = some (.cells #[.string Q2.1, .string ⟨#[]⟩, .bool true] 28 (0, 0)) := (Go.Joins.block_setCell y2 _).trans rfl
        clear HT2 J1 J2 y1 y2 g2 t2 hbs
        obtain ⟨W3, eW3⟩ : ∃ W, W = v2.setCell ⟨v1.heap.size, 0, none⟩ (.string Q2.1) := ⟨_, rfl⟩
        rw [← eW3] at J3 y3
        have hval := hide3 (show rwr xs (.at m) = (⟨Q2.1, ⟨#[]⟩, true⟩, Q2.2) from by unfold rwr; rw [← EQ1.out, if_pos hg, ← EQ2.out])
        have EW3 := hide3 eW3
        clear eW3
        have a0 : (v2.setCell ⟨v1.heap.size, 0, none⟩ (.string Q2.1)).cell? ⟨v1.heap.size, 0, none⟩ = some (.string Q2.1) := by rw [← EW3.out, Go.Joins.cell_of_block y3]; rfl
        have a1 : (v2.setCell ⟨v1.heap.size, 0, none⟩ (.string Q2.1)).cell? ⟨v1.heap.size, 1, none⟩ = some (.string ⟨#[]⟩) := by rw [← EW3.out, Go.Joins.cell_of_block y3]; rfl
        have a2 : (v2.setCell ⟨v1.heap.size, 0, none⟩ (.string Q2.1)).cell? ⟨v1.heap.size, 2, none⟩ = some (.bool true) := by rw [← EW3.out, Go.Joins.cell_of_block y3]; rfl
        have b1 : (v2.setCell ⟨v1.heap.size, 0, none⟩ (.string Q2.1)).cell? ⟨u1.heap.size, 1, none⟩ = some (.slice av lv cv) := by rw [← EW3.out, Go.Joins.cell_of_block J3.cb]; rfl
        have ro3 : (v2.setCell ⟨v1.heap.size, 0, none⟩ (.string Q2.1)).ownsRow (u1.heap.size + 1) 28 3 (.slice av lv cv) Ls.length (Ls.flatMap Wr.cells) := by rw [← EW3.out]; exact J3.ro
        have hszE : (v2.setCell ⟨v1.heap.size, 0, none⟩ (.string Q2.1)).heap.size = v2.heap.size := by simp
        have hsz3 : u1.heap.size + 1 ≤ v2.heap.size := by rw [← hszE, ← EW3.out]; exact J3.n4
        have hnew := cell_three_new (v2.setCell ⟨v1.heap.size, 0, none⟩ (.string Q2.1)) (.string Q2.1) (.string ⟨#[]⟩) (.bool true) 28
        rw [hszE] at hnew
        have HNEW := hide3 hnew
        clear hnew hszE
        go_wp2_with (first
          | (at_builtin; refine Hid.out ?_)
          | fail)
        refine hide3 ?_
        refine wpList_append_own_at _ rfl _ _ 24 rfl (u1.heap.size + 1) 28 i0 (.agg #[.string .empty, .string .empty, .bool false]) 3 40 Try.underlying24 hi hz0 hz1 hz2 rfl (by decide) (.slice av lv cv) _ _ rfl (World.ownsRow.alloc ro3 (.cells #[.string Q2.1, .string ⟨#[]⟩, .bool true] 28)) ⟨v2.heap.size, 0, none⟩ 1 1 [.string Q2.1, .string ⟨#[]⟩, .bool true] rfl rfl HNEW.out (by intro u hu; simp at hu; rcases hu with rfl | rfl | rfl <;> rfl) (by unfold maxLen; omega) (by omega) (by simp; omega) ?_
        intro v' w4 hown' hgrow _ hat
        rw [← EW3.out] at hgrow
        have J4 := (J3.alloc (.cells #[.string Q2.1, .string ⟨#[]⟩, .bool true] 28)).app hgrow hown'
        have d1 : w4.cell? ⟨u1.heap.size, 1, none⟩ = some (.slice av lv cv) := by rw [Go.Joins.cell_of_block J4.cb]; rfl
        have d1f := Go.Joins.unfrozen_of_block J4.cb 1
        have J5 := J4.setc 1 v'
        have HJ := hide3 J5
        obtain ⟨a', l', c', rfl⟩ := row_form hown'
        clear hown' hgrow ro3 J3 y3 J4 J5 b1 a0 a1 a2 hat
        go_frame
        go_wp2
        go_roundw
        case rel => exact ⟨k + 1, _, by omega, by go_num, by rw [HSN.out, hval.out, List.length_append, List.flatMap_append]; exact HJ.out⟩
        case measure => simp [intOf]; omega

      · skip
        have hQg : decide (Q1.1 = 1) = false := decide_eq_false hg
        rw [hQg] at HFl
        have HF2 := hide3 HFl
        clear HFl
        go_wp2_with fail
        refine HF2.out.mono ?_
        rintro e v1 ⟨rfl, g1, t1⟩
        have hw1 := t1.size
        have J1 := (K.read t1 g1).alloc (.cells #[.string ⟨#[]⟩, .string ⟨#[]⟩, .bool false] 28)
        have hvn : (Value.slice av lv cv).ownBlock ≠ some v1.heap.size := fun e => by
          have := (World.ownsRow.lt (K.read t1 g1).ro _ e).2
          omega
        have y1 := heap_alloc_new v1 (.cells #[.string ⟨#[]⟩, .string ⟨#[]⟩, .bool false] 28)
        have hbs := J1.n4
        have hbs1 : u1.heap.size + 1 ≤ v1.heap.size := (K.read t1 g1).n4
        have HT := rtext_any 16 J1.rr (by omega) (by omega)
        obtain ⟨Q2, eQ2⟩ : ∃ Q, Q = rtxt xs 16 Q1.2 := ⟨_, rfl⟩
        rw [← eQ2] at HT
        have EQ2 := hide3 eQ2
        have HT2 := hide3 HT
        clear HT HF2 g1 t1 eQ2 K
        go_wp2_with fail
        refine HT2.out.mono ?_
        rintro e v2 ⟨rfl, g2, t2⟩
        have J2 := J1.read t2 g2
        have y2 := res3 y1 t2 (by omega)
        have c0 : v2.cell? ⟨v1.heap.size, 0, none⟩ = some (.string ⟨#[]⟩) := by rw [Go.Joins.cell_of_block y2]; rfl
        have c0f := Go.Joins.unfrozen_of_block y2 0
        have J3 := J2.set (y := v1.heap.size) (by omega) hvn 0 (.string Q2.1)
        have y3 : (v2.setCell ⟨v1.heap.size, 0, none⟩ (.string Q2.1)).heap[v1.heap.size]? = some (.cells #[.string Q2.1, .string ⟨#[]⟩, .bool false] 28 (0, 0)) := (Go.Joins.block_setCell y2 _).trans rfl
        clear HT2 J1 J2 y1 y2 g2 t2 hbs
        have c2 : (v2.setCell ⟨v1.heap.size, 0, none⟩ (.string Q2.1)).cell? ⟨v1.heap.size, 2, none⟩ = some (.bool false) := by rw [Go.Joins.cell_of_block y3]; rfl
        have HT3 := rtext_any 64 J3.rr (by omega) (by omega)
        obtain ⟨Q3, eQ3⟩ : ∃ Q, Q = rtxt xs 64 Q2.2 := ⟨_, rfl⟩
        rw [← eQ3] at HT3
        have EQ3 := hide3 eQ3
        have HT4 := hide3 HT3
        clear HT3 eQ3
        go_wp2_with fail
        refine HT4.out.mono ?_
        rintro e v3 ⟨rfl, g3, t3⟩
        have J4 := J3.read t3 g3
        have y4 := res3 y3 t3 (by omega)
        have c1 : v3.cell? ⟨v1.heap.size, 1, none⟩ = some (.string ⟨#[]⟩) := by rw [Go.Joins.cell_of_block y4]; rfl
        have c1f := Go.Joins.unfrozen_of_block y4 1
        have J5 := J4.set (y := v1.heap.size) (by omega) hvn 1 (.string Q3.1)
        have y5 : (v3.setCell ⟨v1.heap.size, 1, none⟩ (.string Q3.1)).heap[v1.heap.size]? = some (.cells #[.string Q2.1, .string Q3.1, .bool false] 28 (0, 0)) := (Go.Joins.block_setCell y4 _).trans rfl
        clear HT4 J3 J4 y3 y4 g3 t3 c0 c0f c2
        obtain ⟨W3, eW3⟩ : ∃ W, W = v3.setCell ⟨v1.heap.size, 1, none⟩ (.string Q3.1) := ⟨_, rfl⟩
        have J3 := J5
        have y3 := y5
        clear J5 y5
        rw [← eW3] at J3 y3
        have hval := hide3 (show rwr xs (.at m) = (⟨Q2.1, Q3.1, false⟩, Q3.2) from by unfold rwr; rw [← EQ1.out, if_neg hg, ← EQ2.out, ← EQ3.out])
        have EW3 := hide3 eW3
        clear eW3
        have a0 : (v3.setCell ⟨v1.heap.size, 1, none⟩ (.string Q3.1)).cell? ⟨v1.heap.size, 0, none⟩ = some (.string Q2.1) := by rw [← EW3.out, Go.Joins.cell_of_block y3]; rfl
        have a1 : (v3.setCell ⟨v1.heap.size, 1, none⟩ (.string Q3.1)).cell? ⟨v1.heap.size, 1, none⟩ = some (.string Q3.1) := by rw [← EW3.out, Go.Joins.cell_of_block y3]; rfl
        have a2 : (v3.setCell ⟨v1.heap.size, 1, none⟩ (.string Q3.1)).cell? ⟨v1.heap.size, 2, none⟩ = some (.bool false) := by rw [← EW3.out, Go.Joins.cell_of_block y3]; rfl
        have b1 : (v3.setCell ⟨v1.heap.size, 1, none⟩ (.string Q3.1)).cell? ⟨u1.heap.size, 1, none⟩ = some (.slice av lv cv) := by rw [← EW3.out, Go.Joins.cell_of_block J3.cb]; rfl
        have ro3 : (v3.setCell ⟨v1.heap.size, 1, none⟩ (.string Q3.1)).ownsRow (u1.heap.size + 1) 28 3 (.slice av lv cv) Ls.length (Ls.flatMap Wr.cells) := by rw [← EW3.out]; exact J3.ro
        have hszE : (v3.setCell ⟨v1.heap.size, 1, none⟩ (.string Q3.1)).heap.size = v3.heap.size := by simp
        have hsz3 : u1.heap.size + 1 ≤ v3.heap.size := by rw [← hszE, ← EW3.out]; exact J3.n4
        have hnew := cell_three_new (v3.setCell ⟨v1.heap.size, 1, none⟩ (.string Q3.1)) (.string Q2.1) (.string Q3.1) (.bool false) 28
        rw [hszE] at hnew
        have HNEW := hide3 hnew
        clear hnew hszE
        go_wp2_with (first
          | (at_builtin; refine Hid.out ?_)
          | fail)
        refine hide3 ?_
        refine wpList_append_own_at _ rfl _ _ 24 rfl (u1.heap.size + 1) 28 i0 (.agg #[.string .empty, .string .empty, .bool false]) 3 40 Try.underlying24 hi hz0 hz1 hz2 rfl (by decide) (.slice av lv cv) _ _ rfl (World.ownsRow.alloc ro3 (.cells #[.string Q2.1, .string Q3.1, .bool false] 28)) ⟨v3.heap.size, 0, none⟩ 1 1 [.string Q2.1, .string Q3.1, .bool false] rfl rfl HNEW.out (by intro u hu; simp at hu; rcases hu with rfl | rfl | rfl <;> rfl) (by unfold maxLen; omega) (by omega) (by simp; omega) ?_
        intro v' w4 hown' hgrow _ hat
        rw [← EW3.out] at hgrow
        have J4 := (J3.alloc (.cells #[.string Q2.1, .string Q3.1, .bool false] 28)).app hgrow hown'
        have d1 : w4.cell? ⟨u1.heap.size, 1, none⟩ = some (.slice av lv cv) := by rw [Go.Joins.cell_of_block J4.cb]; rfl
        have d1f := Go.Joins.unfrozen_of_block J4.cb 1
        have J5 := J4.setc 1 v'
        have HJ := hide3 J5
        obtain ⟨a', l', c', rfl⟩ := row_form hown'
        clear hown' hgrow ro3 J3 y3 J4 J5 b1 a0 a1 a2 hat
        go_frame
        go_wp2
        go_roundw
        case rel => exact ⟨k + 1, _, by omega, by go_num, by rw [HSN.out, hval.out, List.length_append, List.flatMap_append]; exact HJ.out⟩
        case measure => simp [intOf]; omega

end
end Go.Proofs.Yteihabdldiopeaa
