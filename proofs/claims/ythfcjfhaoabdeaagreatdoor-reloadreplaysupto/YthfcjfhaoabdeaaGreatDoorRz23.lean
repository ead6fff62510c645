/-
  Rl2: checkRows, checkCommits, checkTimes, dueAbove.
-/
import Derived.Test.YthfcjfhaoabdeaaGreatDoorRz16
import Derived.Test.YthfcjfhaoabdeaaGreatDoorRz19
import Derived.Test.YthfcjfhaoabdeaaGreatDoorRz22
import Derived.BigQuiet
import Derived.Deep.QuietTactic
set_option linter.unusedVariables false
set_option linter.unusedSimpArgs false
namespace Go.Proofs.YthfcjfhaoabdeaaGreatDoor
open Go.RowKit
open ML (Ro RS nless)
attribute [local go_sem] Oper.semAt_some

def prevOk (o : Option Ro) (r : Ro) : Bool := match o with
  | none => true
  | some p => nless p.k r.k
theorem okAt_some {L : List Ro} {i : Nat} {r : Ro} (h : L[i]? = some r) : okAt L i = (rightR (roW r) && (decide (i = 0) || prevOk L[i - 1]? r)) := by
  unfold okAt prevOk
  rw [h]
  cases L[i - 1]? <;> rfl
theorem tmAt_some {l : List Kc} {i : Nat} {a b : Kc} (h : l[i]? = some a) (h' : l[i - 1]? = some b) (h0 : i ≠ 0) : tmAt l i = !decide (a.t = b.t) := by
  unfold tmAt
  rw [h, h']
  simp [h0]
theorem nl_flip (a b : ByteArray) : (Op.bytesLess a.toList b.toList || (a.toList == b.toList)) = !nless b a := slt_flip a b
section
set_option maxHeartbeats 8000000
set_option maxRecDepth 100000
variable {w : World} {ao : Option Addr} {len cap : Nat}
theorem checkRows_any {L : List Ro} (h : RS w ao len cap L) :
    Calls Tryz.prog 14 #[.slice ao len cap] w fun e w' => e = .returned (fv (okTo L L.length)) ∧ Below w.heap.size w w' := by
  obtain rfl := h.1
  have hm : (L.length : Int) ≤ 9223372036854775807 := by have := h.2.1; have := h.2.2.1; unfold maxLen at this; omega
  have HP := ehide3 (fun r w => PutRow_any (w := w) r)
  have HC := ehide3 (fun w => corrupt_any w)
  have HA := ehide3 h
  clear h
  go_enter Tryz.func14, Tryz.ntmps14
  go_wp2_with fail
  go_loopw [9] (fun i wr => ∃ k : Nat, k ≤ L.length ∧ i = .int .i64 (k : Nat) ∧ Hid (okTo L k = true) ∧ Hid (Below w.heap.size w wr)) (fun i _ => L.length - (intOf i).toNat)
  case atStart => exact ⟨0, by omega, rfl, ehide3 rfl, ehide3 (Below.refl _ _)⟩
  case round =>
    obtain ⟨k, hk, rfl, HO, HB⟩ := hrel
    have hsz := HB.out.size
    by_cases hlt : k < L.length
    · obtain ⟨x, hx⟩ := some_at rfl hlt
      obtain ⟨g, off, rfl, hgl, hc⟩ := ML.RS.at HA.out (by omega)
      have c0 := (HB.out.cell (p := ⟨g, off + k * 3, none⟩) hgl).trans (hc k x hx).1
      have c1 := (HB.out.cell (p := ⟨g, off + k * 3 + 1, none⟩) hgl).trans (hc k x hx).2.1
      have c2 := (HB.out.cell (p := ⟨g, off + k * 3 + 2, none⟩) hgl).trans (hc k x hx).2.2
      have d1 : (k : Int) < (L.length : Int) := by omega
      have HK := ehide3 (okAt_some hx)
      have HCC := ehide3 hc
      clear hc
      go_wp2_with fail
      refine (HP.out (roW x) _).mono ?_
      rintro e w3 ⟨v3, rfl, _, hw3⟩
      have hB3 : Below wr.heap.size wr w3 := (ML.below1 wr _).trans (hw3.mono (by simp))
      have hs3 : wr.heap.size + 1 ≤ w3.heap.size := by have := hw3.size; simpa using this
      have HBw := ehide3 (HB.out.trans (hB3.mono hsz))
      have x0 : w3.cell? ⟨wr.heap.size, 0, none⟩ = some (.string x.k) := (hw3.cell (p := ⟨wr.heap.size, 0, none⟩) (by simp)).trans (by rw [Go.Joins.cell_of_block (heap_alloc_new _ _)]; rfl)
      clear hw3 hB3 c0 c1 c2
      cases hr : rightR (roW x) with
      | false =>
        rw [hr] at HK
        have HN := ehide3 (okTo_bad hlt (by rw [HK.out]; rfl))
        unfold er
        go_wp2_with fail
        refine (HC.out _).mono ?_
        rintro e w4 ⟨rfl, rfl⟩
        go_wp2
        go_ret
        exact ⟨by rw [HN.out]; rfl, HBw.out⟩
      | true =>
        rw [hr] at HK
        unfold er
        by_cases hk0 : k = 0
        · subst hk0
          have HN := ehide3 (show okTo L 1 = true by rw [okTo_succ, HK.out]; rfl)
          go_wp2_with fail
          go_quiet (fail)
          go_wp2_with fail
          go_roundw
          case rel => exact ⟨1, by omega, by go_num, HN, ehide3 (below_drewN HBw.out _)⟩
          case measure => simp [intOf]; omega
        · obtain ⟨y, hy⟩ := some_at (l := L) (i := k - 1) rfl (by omega)
          have y0 := (HBw.out.cell (p := ⟨g, off + (k - 1) * 3, none⟩) hgl).trans (HCC.out (k - 1) y hy).1
          have d2 : 0 < k := by omega
          have d4 : decide (0 < k) = true := by simpa using d2
          have hsub : ((k : Int) - 1) = ((k - 1 : Nat) : Int) := by omega
          have d3 : ((k - 1 : Nat) : Int) < (L.length : Int) := by omega
          have hfl := nl_flip x.k y.k
          rw [hy] at HK
          simp only [hk0, decide_false, Bool.false_or, Bool.true_and, prevOk] at HK
          cases hn : nless y.k x.k with
          | false =>
            rw [hn] at HK hfl
            have HN := ehide3 (okTo_bad hlt HK.out)
            go_wp2_with fail
            go_quiet (fail)
            go_wp2_with fail
            refine (HC.out _).mono ?_
            rintro e w4 ⟨rfl, rfl⟩
            go_wp2
            go_ret
            exact ⟨by rw [HN.out]; rfl, below_drewN HBw.out _⟩
          | true =>
            rw [hn] at HK hfl
            have HN := ehide3 (show okTo L (k + 1) = true by rw [okTo_succ, HO.out, HK.out]; rfl)
            go_wp2_with fail
            go_quiet (fail)
            go_wp2_with fail
            go_roundw
            case rel => exact ⟨k + 1, by omega, by go_num, HN, ehide3 (below_drewN HBw.out _)⟩
            case measure => simp [intOf]; omega
    · have e1 : k = L.length := by omega
      subst e1
      have d1 : ¬ (L.length : Int) < (L.length : Int) := by omega
      go_wp2
      go_ret
      exact ⟨by rw [HO.out]; rfl, HB.out⟩

theorem checkTimes_any {cs : List Kc} (h : KS w ao len cap cs) :
    Calls Tryz.prog 18 #[.slice ao len cap] w fun e w' => e = .returned (fv (tmTo cs cs.length)) ∧ Below w.heap.size w w' := by
  obtain rfl := h.1
  have hm : (cs.length : Int) ≤ 9223372036854775807 := by have := h.2.1; have := h.2.2.1; unfold maxLen at this; omega
  have HC := ehide3 (fun w => corrupt_any w)
  have HA := ehide3 h
  clear h
  go_enter Tryz.func18, Tryz.ntmps18
  go_wp2_with fail
  go_loopw [7] (fun i wr => ∃ k : Nat, k ≤ cs.length ∧ i = .int .i64 (k : Nat) ∧ Hid (tmTo cs k = true) ∧ Hid (Below w.heap.size w wr)) (fun i _ => cs.length - (intOf i).toNat)
  case atStart => exact ⟨0, by omega, rfl, ehide3 rfl, ehide3 (Below.refl _ _)⟩
  case round =>
    obtain ⟨k, hk, rfl, HO, HB⟩ := hrel
    have hsz := HB.out.size
    by_cases hlt : k < cs.length
    · obtain ⟨x, hx⟩ := some_at rfl hlt
      obtain ⟨g, off, rfl, hgl, hc⟩ := KS.at HA.out (by omega)
      have c0 := (HB.out.cell (p := ⟨g, off + k * 2, none⟩) hgl).trans (hc k x hx).1
      have c1 := (HB.out.cell (p := ⟨g, off + k * 2 + 1, none⟩) hgl).trans (hc k x hx).2
      have d1 : (k : Int) < (cs.length : Int) := by omega
      obtain ⟨W3, hW3⟩ : ∃ W3, W3 = wr.alloc (.cells #[.int .i64 x.t, .slice x.ao x.len x.cap] 27) := ⟨_, rfl⟩
      have hb3 : Below wr.heap.size wr W3 := by rw [hW3]; exact ML.below1 _ _
      have HBw := ehide3 (HB.out.trans (hb3.mono hsz))
      have x0 : W3.cell? ⟨wr.heap.size, 0, none⟩ = some (.int .i64 x.t) := by rw [hW3, Go.Joins.cell_of_block (heap_alloc_new _ _)]; rfl
      have hs3 : W3.heap.size = wr.heap.size + 1 := by rw [hW3]; simp
      clear hb3
      by_cases hk0 : k = 0
      · have HN := ehide3 (show tmTo cs (k + 1) = true by rw [tmTo_succ, HO.out]; simp [tmAt, hk0])
        have d4 : decide (0 < k) = false := by simp [hk0]
        clear hk0
        subst hW3
        go_wp2_with fail
        go_quiet (fail)
        go_wp2_with fail
        go_roundw
        case rel => exact ⟨k + 1, by omega, by go_num, HN, ehide3 (below_drewN HBw.out _)⟩
        case measure => simp [intOf]; omega
      · obtain ⟨y, hy⟩ := some_at (l := cs) (i := k - 1) rfl (by omega)
        have y0 := (HBw.out.cell (p := ⟨g, off + (k - 1) * 2, none⟩) hgl).trans (hc (k - 1) y hy).1
        have d2 : 0 < k := by omega
        have d4 : decide (0 < k) = true := by simpa using d2
        have hsub : ((k : Int) - 1) = ((k - 1 : Nat) : Int) := by omega
        have d3 : ((k - 1 : Nat) : Int) < (cs.length : Int) := by omega
        have HK := ehide3 (tmAt_some hx hy hk0)
        clear hc hx hy
        subst hW3
        by_cases hn : x.t = y.t
        · have HN := ehide3 (tmTo_bad hlt (by rw [HK.out]; simp [hn]))
          have d5 : (x.t == y.t) = true := by simpa using hn
          clear hn
          go_wp2_with fail
          go_quiet (fail)
          go_wp2_with fail
          refine (HC.out _).mono ?_
          rintro e w4 ⟨rfl, rfl⟩
          go_wp2
          go_ret
          exact ⟨by rw [HN.out]; rfl, below_drewN HBw.out _⟩
        · have HN := ehide3 (show tmTo cs (k + 1) = true by rw [tmTo_succ, HO.out, HK.out]; simp [hn])
          have d5 : (x.t == y.t) = false := by simpa using hn
          go_wp2_with fail
          go_quiet (fail)
          go_wp2_with fail
          go_roundw
          case rel => exact ⟨k + 1, by omega, by go_num, HN, ehide3 (below_drewN HBw.out _)⟩
          case measure => simp [intOf]; omega
    · have e1 : k = cs.length := by omega
      subst e1
      have d1 : ¬ (cs.length : Int) < (cs.length : Int) := by omega
      go_wp2
      go_ret
      exact ⟨by rw [HO.out]; rfl, HB.out⟩
end
end Go.Proofs.YthfcjfhaoabdeaaGreatDoor

/-
  Rl3: checkCommits, dueAbove.
-/
set_option linter.unusedVariables false
set_option linter.unusedSimpArgs false
namespace Go.Proofs.YthfcjfhaoabdeaaGreatDoor
open Go.RowKit
attribute [local go_sem] Oper.semAt_some

theorem allC_take {l : List Kc} {k : Nat} {c : Kc} (h : l[k]? = some c) : allC (l.take (k + 1)) = (allC (l.take k) && rightC c.cm) := by
  rw [ML.take_snoc h]; unfold allC; rw [List.all_append]; simp
theorem allC_bad {l : List Kc} {k : Nat} {c : Kc} (h : l[k]? = some c) (hb : rightC c.cm = false) : allC l = false := by
  unfold allC; rw [List.all_eq_false]; exact ⟨c, List.mem_of_getElem? h, by rw [hb]; simp⟩
theorem due_take {frm : Int} {l : List Kc} {k : Nat} {c : Kc} (h : l[k]? = some c) : due frm (l.take (k + 1)) = due frm (l.take k) ++ (if frm < c.t then [c] else []) := by
  rw [ML.take_snoc h]; unfold due; rw [List.filter_append]
  by_cases q : frm < c.t <;> simp [q]
section
set_option maxHeartbeats 8000000
set_option maxRecDepth 100000
variable {w : World} {ao : Option Addr} {len cap : Nat} {cs : List Kc}
theorem checkCommits_any (h : KS w ao len cap cs) (hw : ∀ c ∈ cs, Seq 3 Wr.cells w c.ao c.len c.cap c.ws) :
    Calls Tryz.prog 16 #[.slice ao len cap] w fun e w' => e = .returned (fv (allC cs)) ∧ Below w.heap.size w w' := by
  obtain rfl := h.1
  have hm : (cs.length : Int) ≤ 9223372036854775807 := by have := h.2.1; have := h.2.2.1; unfold maxLen at this; omega
  have HC := ehide3 (fun w => corrupt_any w)
  have HA := ehide3 h
  have HW := ehide3 hw
  clear h hw
  go_enter Tryz.func16, Tryz.ntmps16
  go_wp2_with fail
  go_loopw [9] (fun i wr => ∃ k : Nat, k ≤ cs.length ∧ i = .int .i64 (k : Nat) ∧ Hid (allC (cs.take k) = true) ∧ Hid (Below w.heap.size w wr)) (fun i _ => cs.length - (intOf i).toNat)
  case atStart => exact ⟨0, by omega, rfl, ehide3 rfl, ehide3 (Below.refl _ _)⟩
  case round =>
    obtain ⟨k, hk, rfl, HO, HB⟩ := hrel
    have hsz := HB.out.size
    by_cases hlt : k < cs.length
    · obtain ⟨x, hx⟩ := some_at rfl hlt
      obtain ⟨g, off, rfl, hgl, hc⟩ := KS.at HA.out (by omega)
      have c0 := (HB.out.cell (p := ⟨g, off + k * 2, none⟩) hgl).trans (hc k x hx).1
      have c1 := (HB.out.cell (p := ⟨g, off + k * 2 + 1, none⟩) hgl).trans (hc k x hx).2
      have d1 : (k : Int) < (cs.length : Int) := by omega
      have hb1 : Below w.heap.size w (wr.alloc (.cells #[.int .i64 x.t, .slice x.ao x.len x.cap] 27)) := HB.out.alloc hsz _
      have HP := ehide3 (PutCommit_any (w := wr.alloc (.cells #[.int .i64 x.t, .slice x.ao x.len x.cap] 27)) x.t ((HW.out x (List.mem_of_getElem? hx)).keep hb1))
      have HX := ehide3 hx
      clear hc hx
      go_wp2_with fail
      refine HP.out.mono ?_
      rintro e w3 ⟨v3, rfl, _, hw3⟩
      have HBw := ehide3 (hb1.trans (hw3.mono (by simp; omega)))
      clear hw3 hb1 c0 c1 HP
      cases hr : rightC ⟨x.t, x.ws⟩ with
      | false =>
        have HN := ehide3 (allC_bad HX.out hr)
        unfold er
        go_wp2_with fail
        refine (HC.out _).mono ?_
        rintro e w4 ⟨rfl, rfl⟩
        go_wp2
        go_ret
        exact ⟨by rw [HN.out]; rfl, HBw.out⟩
      | true =>
        have HN := ehide3 (show allC (cs.take (k + 1)) = true by rw [allC_take HX.out, HO.out, hr]; rfl)
        unfold er
        go_wp2_with fail
        go_roundw
        case rel => exact ⟨k + 1, by omega, by go_num, HN, HBw⟩
        case measure => simp [intOf]; omega
    · have e1 : k = cs.length := by omega
      subst e1
      have d1 : ¬ (cs.length : Int) < (cs.length : Int) := by omega
      have HN := ehide3 (show allC cs = true by have := HO.out; rwa [List.take_length] at this)
      clear HO
      go_wp2
      go_ret
      exact ⟨by rw [HN.out]; rfl, HB.out⟩

theorem dueAbove_any (h : KS w ao len cap cs) (hl : len ≤ 1000000) (frm : Int) :
    Calls Tryz.prog 11 #[.int .i64 frm, .slice ao len cap] w fun e w' => ∃ v ys, e = .returned v ∧ ys.Perm (due frm cs) ∧ ys.Pairwise (fun a b => a.t ≤ b.t) ∧ Kw w' w.heap.size v ys ∧ Below w.heap.size w w' := by
  obtain rfl := h.1
  have HA := ehide3 h
  clear h
  go_enter Tryz.func11, Tryz.ntmps11
  go_wp2_with fail
  go_loopw [5, 10] (fun v i wr => ∃ k : Nat, k ≤ cs.length ∧ i = .int .i64 (k : Nat) ∧ Hid (Kr wr w.heap.size v (due frm (cs.take k))) ∧ Hid (Below w.heap.size w wr)) (fun _ i _ => cs.length - (intOf i).toNat)
  case atStart => exact ⟨0, by omega, rfl, ehide3 (by simpa [due] using kr_nil w w.heap.size), ehide3 (Below.refl _ _)⟩
  case round =>
    obtain ⟨k, hk, rfl, HR, HB⟩ := hrel
    obtain ⟨aq, cq, ev, _⟩ := HR.out.seq
    subst ev
    have hsz := HB.out.size
    have hls : (due frm (cs.take k)).length ≤ 1000000 := by
      have := List.length_filter_le (fun c : Kc => decide (frm < c.t)) (cs.take k)
      rw [List.length_take] at this
      unfold due
      omega
    by_cases hlt : k < cs.length
    · obtain ⟨x, hx⟩ := some_at rfl hlt
      obtain ⟨g, off, rfl, hgl, hc⟩ := KS.at HA.out (by omega)
      have c0 := (HB.out.cell (p := ⟨g, off + k * 2, none⟩) hgl).trans (hc k x hx).1
      have c1 := (HB.out.cell (p := ⟨g, off + k * 2 + 1, none⟩) hgl).trans (hc k x hx).2
      have d1 : (k : Int) < (cs.length : Int) := by omega
      have HTS := ehide3 (due_take (frm := frm) hx)
      clear hc hx
      by_cases ht : frm < x.t
      · rw [if_pos ht] at HTS
        obtain ⟨W4, hW4⟩ : ∃ W4, W4 = wr.alloc (.cells #[.int .i64 x.t, .slice x.ao x.len x.cap] 27) := ⟨_, rfl⟩
        have hb4 : Below wr.heap.size wr W4 := by rw [hW4]; exact ML.below1 _ _
        have HB4 := ehide3 (HB.out.trans (hb4.mono hsz))
        have hs4 := HB4.out.size
        obtain ⟨v', w5, hrun, hown, hB5, hs5⟩ := kapp (w := W4.alloc (.cells #[.int .i64 x.t, .slice x.ao x.len x.cap] 27)) (World.ownsRow.alloc (Kr.keep HR.out hb4) _) (by simp; omega) (svk_one W4 x) (by simp; omega)
        have NX : Hid (Kr w5 w.heap.size v' (due frm (cs.take (k + 1)))) := ehide3 (by rw [HTS.out]; exact hown)
        have NB : Hid (Below w.heap.size w w5) := ehide3 (hB5 _ _ (Nat.le_refl _) (HB4.out.alloc hs4 _))
        have hsz4 : W4.heap.size = wr.heap.size + 1 := by rw [hW4]; simp
        rw [hsz4] at hrun
        have HRUN := ehide3 hrun
        obtain ⟨aq5, cq5, ev5, _⟩ := NX.out.seq
        clear HR HTS hrun hown hB5 hb4 HB4 hsz4 hs4 hs5
        subst hW4
        generalize (due frm (cs.take k)).length = ln at *
        go_wp2_with (at_builtin; refine Hid.out ?_)
        refine ehide3 ?_
        refine Lib.wpList_append_run _ rfl _ _ _ _ rfl _ _ rfl rfl v' w5 HRUN.out ?_
        subst ev5
        go_frame
        go_wp2_with fail
        go_roundw
        case rel => exact ⟨k + 1, by omega, by go_num, NX, NB⟩
        case measure => simp [intOf]; omega
      · rw [if_neg ht, List.append_nil] at HTS
        have d2 : decide (frm < x.t) = false := by simpa using ht
        have NX : Hid (Kr (wr.alloc (.cells #[.int .i64 x.t, .slice x.ao x.len x.cap] 27)) w.heap.size (.slice aq (due frm (cs.take k)).length cq) (due frm (cs.take (k + 1)))) := ehide3 (by rw [HTS.out]; exact World.ownsRow.alloc HR.out _)
        have NB : Hid (Below w.heap.size w (wr.alloc (.cells #[.int .i64 x.t, .slice x.ao x.len x.cap] 27))) := ehide3 (HB.out.alloc hsz _)
        clear HR HTS
        generalize (due frm (cs.take k)).length = ln at *
        go_wp2_with fail
        go_roundw
        case rel => exact ⟨k + 1, by omega, by go_num, NX, NB⟩
        case measure => simp [intOf]; omega
    · have e1 : k = cs.length := by omega
      subst e1
      have d1 : ¬ (cs.length : Int) < (cs.length : Int) := by omega
      rw [List.take_length] at HR hls
      have HSF := ehide3 (sortK_any HR.out hsz (by omega))
      rw [List.take_length]
      clear HR
      generalize hdu : due frm cs = du at *
      go_wp2_with fail
      refine HSF.out.mono ?_
      rintro e w2 ⟨rfl, ys, hp, hs, hw, hb2⟩
      have HP := ehide3 hp
      have HS := ehide3 hs
      have HW := ehide3 hw
      have HB2 := ehide3 (HB.out.trans (hb2.mono (Nat.le_refl _)))
      clear hp hs hw hb2 HSF
      go_wp2
      go_ret
      exact ⟨_, ys, rfl, by rw [hdu]; exact HP.out, HS.out, HW.out, HB2.out⟩
end
end Go.Proofs.YthfcjfhaoabdeaaGreatDoor

/-
  Rl7: firstOf of Replay's three closures.
-/
set_option linter.unusedVariables false
set_option linter.unusedSimpArgs false
namespace Go.Proofs.YthfcjfhaoabdeaaGreatDoor
open Go.RowKit
open ML (Ro RS)
attribute [local go_sem] Oper.semAt_some

section
set_option maxHeartbeats 8000000
set_option maxRecDepth 100000
variable {w : World} {ao : Option Addr} {len cap b : Nat}
theorem rep1_any {L : List Ro} (hc : w.cell? ⟨b, 0, none⟩ = some (.slice ao len cap)) (h : RS w ao len cap L) :
    Calls Tryz.prog 13 #[.pointer (some ⟨b, 0, none⟩)] w fun e w' => e = .returned (fv (okTo L L.length)) ∧ Below w.heap.size w w' := by
  have H := ehide3 (checkRows_any h)
  generalize fv (okTo L L.length) = r at *
  clear h
  go_enter Tryz.func13, Tryz.ntmps13
  go_wp2_with fail
  refine H.out.mono ?_
  rintro e w1 ⟨rfl, hb⟩
  clear H
  go_wp2
  go_ret
  exact ⟨rfl, hb⟩
theorem rep2_any {cs : List Kc} (hc : w.cell? ⟨b, 0, none⟩ = some (.slice ao len cap)) (h : KS w ao len cap cs) (hw : ∀ c ∈ cs, Seq 3 Wr.cells w c.ao c.len c.cap c.ws) :
    Calls Tryz.prog 15 #[.pointer (some ⟨b, 0, none⟩)] w fun e w' => e = .returned (fv (allC cs)) ∧ Below w.heap.size w w' := by
  have H := ehide3 (checkCommits_any h hw)
  generalize fv (allC cs) = r at *
  clear h hw
  go_enter Tryz.func15, Tryz.ntmps15
  go_wp2_with fail
  refine H.out.mono ?_
  rintro e w1 ⟨rfl, hb⟩
  clear H
  go_wp2
  go_ret
  exact ⟨rfl, hb⟩
theorem rep3_any {cs : List Kc} (hc : w.cell? ⟨b, 0, none⟩ = some (.slice ao len cap)) (h : KS w ao len cap cs) :
    Calls Tryz.prog 17 #[.pointer (some ⟨b, 0, none⟩)] w fun e w' => e = .returned (fv (tmTo cs cs.length)) ∧ Below w.heap.size w w' := by
  have H := ehide3 (checkTimes_any h)
  generalize fv (tmTo cs cs.length) = r at *
  clear h
  go_enter Tryz.func17, Tryz.ntmps17
  go_wp2_with fail
  refine H.out.mono ?_
  rintro e w1 ⟨rfl, hb⟩
  clear H
  go_wp2
  go_ret
  exact ⟨rfl, hb⟩

theorem fv_nil : fv true = .nilIface := rfl
theorem fv_bad : fv false = flt 165 := rfl
theorem firstOf3_any {g p1 p2 p3 : Nat} {b1 b2 b3 : Bool} (hg : g < w.heap.size)
    (c0 : w.cell? ⟨g, 0, none⟩ = some (.func (.func 13) #[] #[.pointer (some ⟨p1, 0, none⟩)]))
    (c1 : w.cell? ⟨g, 1, none⟩ = some (.func (.func 15) #[] #[.pointer (some ⟨p2, 0, none⟩)]))
    (c2 : w.cell? ⟨g, 2, none⟩ = some (.func (.func 17) #[] #[.pointer (some ⟨p3, 0, none⟩)]))
    (h1 : ∀ u, Below w.heap.size w u → Calls Tryz.prog 13 #[.pointer (some ⟨p1, 0, none⟩)] u fun e w' => e = .returned (fv b1) ∧ Below u.heap.size u w')
    (h2 : ∀ u, Below w.heap.size w u → Calls Tryz.prog 15 #[.pointer (some ⟨p2, 0, none⟩)] u fun e w' => e = .returned (fv b2) ∧ Below u.heap.size u w')
    (h3 : ∀ u, Below w.heap.size w u → Calls Tryz.prog 17 #[.pointer (some ⟨p3, 0, none⟩)] u fun e w' => e = .returned (fv b3) ∧ Below u.heap.size u w') :
    Calls Tryz.prog 12 #[.slice (some ⟨g, 0, none⟩) 3 3] w fun e w' => e = .returned (fv (b1 && b2 && b3)) ∧ Below w.heap.size w w' := by
  have H1 := ehide3 h1
  have H2 := ehide3 h2
  have H3 := ehide3 h3
  clear h1 h2 h3
  go_enter Tryz.func12, Tryz.ntmps12
  go_wp2_with fail
  go_loopw [8] (fun i wr => ∃ k : Nat, k ≤ 3 ∧ i = .int .i64 (k : Nat) ∧ Hid ((0 < k → b1 = true) ∧ (1 < k → b2 = true) ∧ (2 < k → b3 = true)) ∧ Hid (Below w.heap.size w wr)) (fun i _ => 3 - (intOf i).toNat)
  case atStart => exact ⟨0, by omega, rfl, ehide3 ⟨fun h => absurd h (by omega), fun h => absurd h (by omega), fun h => absurd h (by omega)⟩, ehide3 (Below.refl _ _)⟩
  case round =>
    obtain ⟨k, hk, rfl, HO, HB⟩ := hrel
    have hsz := HB.out.size
    have e0 := (HB.out.cell (p := ⟨g, 0, none⟩) hg).trans c0
    have e1 := (HB.out.cell (p := ⟨g, 1, none⟩) hg).trans c1
    have e2 := (HB.out.cell (p := ⟨g, 2, none⟩) hg).trans c2
    clear c0 c1 c2
    have hk4 : k = 0 ∨ k = 1 ∨ k = 2 ∨ k = 3 := by omega
    rcases hk4 with rfl | rfl | rfl | rfl
    · go_wp2_with fail
      refine (H1.out _ HB.out).mono ?_
      rintro e w1 ⟨rfl, hb⟩
      have HB1 := ehide3 (HB.out.trans (hb.mono hsz))
      clear hb e0 e1 e2
      cases hb1 : b1 with
      | false =>
        rw [fv_bad]
        go_wp2
        go_ret
        exact ⟨by rw [hb1]; rfl, HB1.out⟩
      | true =>
        rw [fv_nil]
        have HN : Hid ((0 < 1 → b1 = true) ∧ (1 < 1 → b2 = true) ∧ (2 < 1 → b3 = true)) := ehide3 ⟨fun _ => hb1, fun h => absurd h (by omega), fun h => absurd h (by omega)⟩
        clear hb1
        go_wp2
        go_roundw
        case rel => exact ⟨1, by omega, by go_num, HN, HB1⟩
        case measure => simp [intOf]
    · go_wp2_with fail
      refine (H2.out _ HB.out).mono ?_
      rintro e w1 ⟨rfl, hb⟩
      have HB1 := ehide3 (HB.out.trans (hb.mono hsz))
      have hb1 := HO.out.1 (by omega)
      clear hb e0 e1 e2
      cases hb2 : b2 with
      | false =>
        rw [fv_bad]
        go_wp2
        go_ret
        exact ⟨by rw [hb2, hb1]; rfl, HB1.out⟩
      | true =>
        rw [fv_nil]
        have HN : Hid ((0 < 2 → b1 = true) ∧ (1 < 2 → b2 = true) ∧ (2 < 2 → b3 = true)) := ehide3 ⟨fun _ => hb1, fun _ => hb2, fun h => absurd h (by omega)⟩
        clear hb1 hb2
        go_wp2
        go_roundw
        case rel => exact ⟨2, by omega, by go_num, HN, HB1⟩
        case measure => simp [intOf]
    · go_wp2_with fail
      refine (H3.out _ HB.out).mono ?_
      rintro e w1 ⟨rfl, hb⟩
      have HB1 := ehide3 (HB.out.trans (hb.mono hsz))
      have hb1 := HO.out.1 (by omega)
      have hb2 := HO.out.2.1 (by omega)
      clear hb e0 e1 e2
      cases hb3 : b3 with
      | false =>
        rw [fv_bad]
        go_wp2
        go_ret
        exact ⟨by rw [hb3, hb2, hb1]; rfl, HB1.out⟩
      | true =>
        rw [fv_nil]
        have HN : Hid ((0 < 3 → b1 = true) ∧ (1 < 3 → b2 = true) ∧ (2 < 3 → b3 = true)) := ehide3 ⟨fun _ => hb1, fun _ => hb2, fun _ => hb3⟩
        clear hb1 hb2 hb3
        go_wp2
        go_roundw
        case rel => exact ⟨3, by omega, by go_num, HN, HB1⟩
        case measure => simp [intOf]
    · have HN := ehide3 (show (b1 && b2 && b3) = true by rw [HO.out.1 (by omega), HO.out.2.1 (by omega), HO.out.2.2 (by omega)]; rfl)
      clear e0 e1 e2
      go_wp2
      go_ret
      exact ⟨by rw [HN.out]; rfl, HB.out⟩
end
end Go.Proofs.YthfcjfhaoabdeaaGreatDoor
