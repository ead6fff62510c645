/-
  XmL: The document's New.
-/
import Derived.Test.YtheidhkmmihjlaaDo17
set_option linter.unusedVariables false
set_option linter.unusedSimpArgs false
namespace Go.Proofs.Ytheidhkmmihjlaa
open Go.RowKit Go.Shelf Go.Maps
open ML (Ro RS Rr Sv rc rc_len rc_one rc_append infoRo Srt nless od nl_irr nl_tr nl_tot)
attribute [local go_sem] Oper.semAt_some

theorem rapp2 {w : World} {B : Nat} {v x : Value} {l m : List Ro} (h : Rr w B v l) (hB : B ≤ w.heap.size) (hs : Sv w x m) (hl : l.length + m.length ≤ big) :
    ∃ v' w', (Builtin.append_ #[22, 22] 22 #[v, x]).run Try.prog w = .ok v' w' ∧ Rr w' B v' (l ++ m) ∧ (∀ a n, n ≤ B → Below n a w → Below n a w') ∧ w.heap.size ≤ w'.heap.size ∧ (∀ k, k < w.heap.size → v.ownBlock ≠ some k → w'.heap[k]? = w.heap[k]?) := by
  unfold big at hl
  obtain ⟨i0, hi0, z0, z1, z2⟩ := info_parts infoRo
  rcases hs with ⟨rfl, rfl⟩ | ⟨ad, c, rfl, hc⟩
  · refine ⟨v, w, run_append_owned_none (P := Try.prog) (w := w) B 22 22 45 i0 3 Try.underlying22 hi0 v _ _ h, by rw [List.append_nil]; exact h, fun _ _ _ hb => hb, Nat.le_refl _, fun _ _ _ => rfl⟩
  · obtain ⟨v', w', hr, ho, hg, _, _⟩ := run_append_own_at (P := Try.prog) w B 22 22 45 i0 _ 3 40 Try.underlying22 hi0 z0 z1 z2 rfl (by decide) v _ _ h ad m.length c (rc m) (rc_len m) hc (rc_one m) (by unfold maxLen; omega) (by omega) hB
    refine ⟨v', w', hr, ?_, fun a n hn hb => hb.grown hg (by omega) (fun k e => Nat.le_trans hn (World.ownsRow.lt h k e).1), hg.size, fun k hk hne => hg.block k hk (fun e => hne e.symm)⟩
    unfold Rr
    rw [List.length_append, rc_append]
    exact ho
abbrev rmObj (l : Value) (t : Int) (open_ : Bool) (ws : Value) : Obj := .cells #[l, .int .i64 t, .bool open_, ws] 49 (0, 0)
section
set_option maxHeartbeats 1000000
set_option maxRecDepth 100000
variable {w : World} {ao : Option Addr} {len cap : Nat} {L : List Ro}
theorem rnew_any (h : RS w ao len cap L) (hn : ao = none → cap = 0) (hl : len ≤ big) : Calls Try.prog 10 #[.slice ao len cap] w fun e w' => Below w.heap.size w w' ∧
    ((okTo L L.length = false ∧ e = .returned (.tuple #[.pointer none, .int .i64 180])) ∨
     (okTo L L.length = true ∧ ∃ v, e = .returned (.tuple #[ptr w.heap.size, .int .i64 0]) ∧ w'.heap[w.heap.size]? = some (rmObj v (maxT L) false (.slice none 0 0)) ∧ Rr w' (w.heap.size + 1) v L)) := by
  obtain rfl := h.1
  have hmx : (L.length : Int) ≤ 9223372036854775807 := by unfold big at hl; omega
  have HA := xhide h
  have HRR := xhide (fun r w => refRightRow_any (w := w) r)
  have HS0 : Hid ((w.alloc (rmObj (.slice none 0 0) 0 false (.slice none 0 0))).heap[w.heap.size]? = some (rmObj (.slice none 0 0) (maxT (L.take 0)) false (.slice none 0 0)) ∧ Below w.heap.size w (w.alloc (rmObj (.slice none 0 0) 0 false (.slice none 0 0)))) := xhide ⟨heap_alloc_new _ _, ML.below1 _ _⟩
  clear h
  go_enter Try.func10, Try.ntmps10
  go_wp2_with fail
  go_loopw [5] (fun i wr => ∃ k : Nat, k ≤ L.length ∧ i = .int .i64 (k : Nat) ∧ Hid (okTo L k = true) ∧ Hid (wr.heap[w.heap.size]? = some (rmObj (.slice none 0 0) (maxT (L.take k)) false (.slice none 0 0)) ∧ Below w.heap.size w wr)) (fun i _ => L.length - (intOf i).toNat)
  case atStart => exact ⟨0, by omega, rfl, xhide rfl, HS0⟩
  case round =>
    obtain ⟨k, hk, rfl, HO, HS⟩ := hrel
    clear HS0
    obtain ⟨hblk, hB⟩ := HS.out
    by_cases hlt : k < L.length
    · obtain ⟨x, hx⟩ := some_at rfl hlt
      obtain ⟨g, off, rfl, hgl, hc⟩ := ML.RS.at HA.out (by omega)
      have c0 := (hB.cell (p := ⟨g, off + k * 3, none⟩) hgl).trans (hc k x hx).1
      have c1 := (hB.cell (p := ⟨g, off + k * 3 + 1, none⟩) hgl).trans (hc k x hx).2.1
      have c2 := (hB.cell (p := ⟨g, off + k * 3 + 2, none⟩) hgl).trans (hc k x hx).2.2
      have d1 : (k : Int) < (L.length : Int) := by omega
      have hat : okAt L k = (rightR (roW x) && (decide (k = 0) || match L[k - 1]? with | none => true | some p => nless p.k x.k)) := by unfold okAt; rw [hx]; rfl
      have HCC := xhide hc
      have HBW := xhide hB
      have HBK := xhide hblk
      have hs0 := hB.size
      have hTS := ML.take_snoc hx
      clear hc hB hblk
      go_wp2_with fail
      refine (HRR.out (roW x) _).mono ?_
      rintro e w3 ⟨rfl, hb3⟩
      have hb3' := HBW.out.trans (hb3.mono hs0)
      have hbk3 := (hb3.block _ (Array.getElem?_eq_some_iff.1 HBK.out).1).trans HBK.out
      have y0 := (hb3'.cell (p := ⟨g, off + k * 3, none⟩) hgl).trans (HCC.out k x hx).1
      have y2 := (hb3'.cell (p := ⟨g, off + k * 3 + 2, none⟩) hgl).trans (HCC.out k x hx).2.2
      have q1 : w3.cell? ⟨w.heap.size, 1, none⟩ = some (.int .i64 (maxT (L.take k))) := by rw [Go.Joins.cell_of_block hbk3]; rfl
      have q2 : w3.frozen? ⟨w.heap.size, 1, none⟩ = false := Go.Joins.unfrozen_of_block hbk3 1
      have hlw : w.heap.size < w3.heap.size := (Array.getElem?_eq_some_iff.1 hbk3).1
      have hgl3 : g < w3.heap.size := Nat.lt_of_lt_of_le hgl hb3'.size
      have HB3 := xhide hb3'
      have HBK3 := xhide hbk3
      clear c0 c1 c2 hb3 hb3' hbk3 HBW HBK
      have NX : Hid (∀ u, u = w3.setCell ⟨w.heap.size, 1, none⟩ (.int .i64 (max (maxT (L.take k)) x.t)) → u.heap[w.heap.size]? = some (rmObj (.slice none 0 0) (maxT (L.take (k + 1))) false (.slice none 0 0)) ∧ Below w.heap.size w u) := xhide (by
        rintro u rfl
        rw [hTS, maxT_snoc]
        exact ⟨(Go.Joins.block_setCell HBK3.out _).trans rfl, HB3.out.setCell (p := ⟨w.heap.size, 1, none⟩) (Nat.le_refl _) _⟩)
      cases hr : rightR (roW x) with
      | false =>
        have HN := xhide (okTo_bad hlt (by rw [hat, hr]; rfl))
        go_wp2_with fail
        go_quiet (fail)
        go_wp2_with fail
        go_ret2
        exact ⟨xdrew HB3.out _, .inl ⟨HN.out, rfl⟩⟩
      | true =>
        by_cases hk0 : k = 0
        · subst hk0
          have HO1 := xhide (show okTo L (0 + 1) = true by rw [okTo_succ, hat, hr]; rfl)
          go_wp2_with fail
          go_quiet (fail)
          go_wp2_with fail
          go_region
          all_goals
            go_wp2
            obtain ⟨n1, n2⟩ := NX.out _ rfl
            exact ⟨⟨1, by omega, by go_num, HO1, xhide ⟨n1, ⟨n2.os, n2.tape, n2.output, n2.size, n2.block⟩⟩⟩, by simp [intOf]; omega⟩
        · obtain ⟨y, hy⟩ := some_at (l := L) (i := k - 1) rfl (by omega)
          have y3 := (HB3.out.cell (p := ⟨g, off + (k - 1) * 3, none⟩) hgl).trans (HCC.out (k - 1) y hy).1
          have d2 : 0 < k := by omega
          have hsub : ((k : Int) - 1) = ((k - 1 : Nat) : Int) := by omega
          have d3 : ((k - 1 : Nat) : Int) < (L.length : Int) := by omega
          have d4 : decide (0 < k) = true := by simpa using d2
          rw [hy, hr] at hat
          simp only [hk0, decide_false, Bool.false_or, Bool.true_and] at hat
          cases hnl : nless y.k x.k with
          | false =>
            have HN := xhide (okTo_bad hlt (by rw [hat, hnl]))
            unfold nless at hnl
            go_wp2_with fail
            go_quiet (fail)
            go_wp2_with fail
            go_ret2
            exact ⟨xdrew HB3.out _, .inl ⟨HN.out, rfl⟩⟩
          | true =>
            have HO1 := xhide (show okTo L (k + 1) = true by rw [okTo_succ, HO.out, hat, hnl]; rfl)
            unfold nless at hnl
            go_wp2_with fail
            go_quiet (fail)
            go_wp2_with fail
            go_region
            all_goals
              go_wp2
              obtain ⟨n1, n2⟩ := NX.out _ rfl
              exact ⟨⟨k + 1, by omega, by go_num, HO1, xhide ⟨n1, ⟨n2.os, n2.tape, n2.output, n2.size, n2.block⟩⟩⟩, by simp [intOf]; omega⟩
    · have e1 : k = L.length := by omega
      subst e1
      have d1 : ¬ (L.length : Int) < (L.length : Int) := by omega
      have hs0 := hB.size
      have hwl : w.heap.size < wr.heap.size := (Array.getElem?_eq_some_iff.1 hblk).1
      obtain ⟨v', w', hrun, hR, hlow, hsz, hoth⟩ := rapp2 (w := wr) (B := w.heap.size + 1) (v := .slice none 0 0) (l := []) ⟨rfl, .inl ⟨rfl, rfl⟩⟩ (by omega) (ML.Sv.keep (ML.RS.sv HA.out hn) hB) (by simpa using hl)
      rw [List.nil_append] at hR
      rw [List.take_length] at hblk
      have q0 : wr.cell? ⟨w.heap.size, 0, none⟩ = some (.slice none 0 0) := by rw [Go.Joins.cell_of_block hblk]; rfl
      have hbk' : w'.heap[w.heap.size]? = some (rmObj (.slice none 0 0) (maxT L) false (.slice none 0 0)) := (hoth _ hwl nofun).trans hblk
      have q1 : w'.cell? ⟨w.heap.size, 0, none⟩ = some (.slice none 0 0) := by rw [Go.Joins.cell_of_block hbk']; rfl
      have q2 : w'.frozen? ⟨w.heap.size, 0, none⟩ = false := Go.Joins.unfrozen_of_block hbk' 0
      have hlw' : w.heap.size < w'.heap.size := (Array.getElem?_eq_some_iff.1 hbk').1
      have hlow' : Below w.heap.size w w' := hlow w _ (by omega) hB
      have hne : v'.ownBlock ≠ some w.heap.size := fun e => by have := (World.ownsRow.lt hR _ e).1; omega
      have FIN : Hid ((w'.setCell ⟨w.heap.size, 0, none⟩ v').heap[w.heap.size]? = some (rmObj v' (maxT L) false (.slice none 0 0)) ∧ Rr (w'.setCell ⟨w.heap.size, 0, none⟩ v') (w.heap.size + 1) v' L ∧ Below w.heap.size w (w'.setCell ⟨w.heap.size, 0, none⟩ v')) :=
        xhide ⟨(Go.Joins.block_setCell hbk' _).trans rfl, ownsRow_setCell_other hR hne _, hlow'.setCell (p := ⟨w.heap.size, 0, none⟩) (Nat.le_refl _) _⟩
      obtain ⟨aq, cq, ev, _⟩ := hR.seq
      subst ev
      have HRUN := xhide hrun
      clear hR hlow hsz hoth hblk hbk' hlow' hne hB HS hrun
      go_wp2_with (first
        | (at_builtin; refine Lib.wpList_append_run _ rfl _ _ _ _ rfl _ _ rfl rfl _ w' HRUN.out ?_)
        | go_in)
      go_wp2
      go_ret2
      exact ⟨FIN.out.2.2, .inr ⟨HO.out, rfl, _, FIN.out.1, FIN.out.2.1⟩⟩
end
end Go.Proofs.Ytheidhkmmihjlaa
