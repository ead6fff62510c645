/-
  Xm5: A write that stands; CCommit.
-/
import Derived.Test.YtheidhkmmihjlaaDo16
import Derived.Maps.RangeWalk
set_option linter.unusedVariables false
set_option linter.unusedSimpArgs false
namespace Go.Proofs.Ytheidhkmmihjlaa
open Go.RowKit Go.Shelf Go.Maps
open ML (Ro RS Srt nless fstOf Fst strLit strLit_inj setL setL_same setL_other delL delL_same delL_other od nl_irr nl_tr nl_tot Mg Rdg RVs strKeyed str_key turned_below zeroRo)
attribute [local go_sem] Oper.semAt_some

theorem doneD_ok {S : Ms} (h : S.ok) {x : Wr} (hx : okW x = true) : (⟨doneD S.L x S.t, S.t, S.ws⟩ : Ms).ok := by
  have h1 := done_ok (ws := [x]) h.srt h.rows h.tm (List.pairwise_singleton _ _) (fun w hw => by simp at hw; rw [hw]; exact hx)
  exact ⟨h1.srt, h1.rows, h.tm, h.wsrt⟩
/-! ### A map that is gone through -/
section
variable {α : Type} {key : α → ByteArray} {val : α → Value} {D : DataW Value} {f : Lit → Option Value} {xs ps : List α} {left : Lit → Bool}
def View (key : α → ByteArray) (val : α → Value) (f : Lit → Option Value) (xs : List α) : Prop := ∀ l v, f l = some v ↔ ∃ x ∈ xs, l = strLit (key x) ∧ v = val x
theorem entry_of (hr : Rdg D f) (hf : View key val f xs) {x : List UInt8} {c : Value} {kl : Lit} {y : DataW Value × List MemPlace} (hkey : keyOf Try.prog 9 (encStr x) = some kl) (hv : RVs c = some y) (hat : ∀ z, D.atKey kl z = y.1) :
    ∃ r ∈ xs, x = (key r).data.toList ∧ c = val r ∧ kl = .string (key r).data.toList := by
  obtain ⟨x', ex, rfl, _⟩ := Maps.keyOf_str Try.underlying9 hkey
  obtain rfl : x = x' := encStr_inj ex
  obtain ⟨yd, yp⟩ := y
  obtain ⟨rfl, rfl⟩ : yd = .held c ∧ yp = [] := by
    simp only [RVs, Option.some.injEq, Prod.mk.injEq] at hv
    exact ⟨hv.1.symm, hv.2.symm⟩
  have hhas : has D (.string x) = true := has_true_of_atKey hat
  cases hfx : f (.string x) with
  | none => rw [hr.no _ hfx] at hhas; cases hhas
  | some v =>
    have h1 := (hr.yes _ _ hfx).2 (.held c)
    rw [hat] at h1
    have h2 : c = v := by injection h1
    obtain ⟨r, hr1, hr2, hr3⟩ := (hf _ _).1 hfx
    have h3 : x = (key r).data.toList := by unfold strLit at hr2; injection hr2
    exact ⟨r, hr1, h3, by rw [h2, hr3], by rw [h3]⟩
theorem all_come (hr : Rdg D f) (hf : View key val f xs) (hx : (xs.map key).Nodup) (hC : Collected D left (ps.map fun p => (key p).data.toList)) (hl : ∀ kl, left kl = false) (hp : ∀ p ∈ ps, p ∈ xs) : ps.Perm xs := by
  have nx : xs.Nodup := List.Pairwise.of_map key (fun a b h e => h (by rw [e])) hx
  have np : ps.Nodup := List.Pairwise.of_map (fun p => (key p).data.toList) (fun a b h e => h (by rw [e])) hC.1
  refine (List.perm_ext_iff_of_nodup np nx).2 fun a => ⟨hp a, fun ha => ?_⟩
  have h1 : f (strLit (key a)) = some (val a) := (hf _ _).2 ⟨a, ha, rfl, rfl⟩
  have h2 := (hr.yes _ _ h1).1
  have h3 := (hC.2 (key a).data.toList).2 ⟨h2, hl _⟩
  obtain ⟨p, hp1, hp2⟩ := List.mem_map.1 h3
  have h4 : key p = key a := ByteArray.ext (Array.toList_inj.1 hp2)
  have inj : ∀ {l : List α}, (l.map key).Nodup → ∀ {a b : α}, a ∈ l → b ∈ l → key a = key b → a = b := by
    intro l
    induction l with
    | nil => intro _ a b ha; cases ha
    | cons c l ih =>
      intro hn a b ha hb e
      rw [List.map_cons, List.nodup_cons] at hn
      rcases List.mem_cons.1 ha with q | q
      · rcases List.mem_cons.1 hb with r | r
        · rw [q, r]
        · exact absurd (List.mem_map.2 ⟨b, r, by rw [← e, q]⟩) hn.1
      · rcases List.mem_cons.1 hb with r | r
        · exact absurd (List.mem_map.2 ⟨a, q, by rw [e, r]⟩) hn.1
        · exact ih hn.2 q r e
  rw [← inj hx (hp p hp1) ha h4]
  exact hp1
theorem step_come {x : α} {y : DataW Value} (hC : Collected D left (ps.map fun p => (key p).data.toList)) (hlk : left (.string (key x).data.toList) = true) (hat : ∀ z, D.atKey (.string (key x).data.toList) z = y) :
    Collected D (fun z => left z && !z.sameKey (.string (key x).data.toList)) ((ps ++ [x]).map fun p => (key p).data.toList) := by
  simpa using hC.step hlk hat
theorem ranges_same {w w' : World} {b r n : Nat} {cnt : Nat} (h : w.ranges Try.prog 9 RVs b r n D left cnt) (h1 : w'.heap[b]? = w.heap[b]?) (h2 : w'.heap[r]? = w.heap[r]?) : w'.ranges Try.prog 9 RVs b r n D left cnt := by
  obtain ⟨es, clock, since, seen, c0, hb, F, hs, hD, hr, rest⟩ := h
  exact ⟨es, clock, since, seen, c0, h1.trans hb, F, hs, hD, h2.trans hr, rest⟩
end
section
set_option maxHeartbeats 1000000
set_option maxRecDepth 100000
variable {w : World} {X b : Nat} {c : Option Nat} {S : Ms} {C : Cl}
theorem lay_any (h : Pm w X b c S) (hL : S.L.length ≤ 1000000000000000) (x : Wr) (hx : okW x = true) :
    Calls Try.prog 31 #[ptr X, x.w] w fun e w' => e = .returned (.tuple #[]) ∧ Pm w' X b c ⟨doneD S.L x S.t, S.t, S.ws⟩ ∧ Chg (fun j => j = b) w w' := by
  obtain ⟨W1, hW1⟩ : ∃ W1, W1 = w.alloc x.obj := ⟨_, rfl⟩
  have hb1 : Below w.heap.size w W1 := by rw [hW1]; exact ML.below1 _ _
  have h1 := h.below hb1
  obtain ⟨c0, c1, c2⟩ := h1.cells
  have hlt := h1.lt
  have hc : W1.heap[w.heap.size]? = some x.obj := by rw [hW1]; exact ML.heap_alloc_at rfl _
  have b0 : W1.cell? ⟨w.heap.size, 0, none⟩ = some (.string x.key) := by rw [Go.Joins.cell_of_block hc]; rfl
  have b1 : W1.cell? ⟨w.heap.size, 1, none⟩ = some (.string x.val) := by rw [Go.Joins.cell_of_block hc]; rfl
  have b2 : W1.cell? ⟨w.heap.size, 2, none⟩ = some (.bool x.gone) := by rw [Go.Joins.cell_of_block hc]; rfl
  have hlw : w.heap.size < W1.heap.size := (Array.getElem?_eq_some_iff.1 hc).1
  obtain ⟨f, hM, hF⟩ := h1.rm
  have hkl : x.key.size ≤ maxLen := by have := (okW_iff.1 hx).1.2; unfold maxLen; omega
  have hok := doneD_ok h1.ok hx
  have hS := h1.ok.srt
  have fin : ∀ (u : World) f', W1.drew.mapTurned u b → Mg 9 u b f' (S.L.length + 1) → Fm (doneD S.L x S.t) f' → Pm u X b c ⟨doneD S.L x S.t, S.t, S.ws⟩ ∧ Chg (fun j => j = b) w u := by
    intro u f' ht hM' hF'
    have hX : u.heap[X]? = W1.heap[X]? := turned_block ht h1.nb
    refine ⟨⟨hX.trans h1.blk, hok, ⟨f', Mg.tight hM' hF' hok.srt, hF'⟩, h1.wm.same (fun c0 e => turned_block ht (fun q => h1.nd (by rw [e, q]))), h1.nb, h1.nc, h1.nd⟩, ?_⟩
    refine (Chg.below hb1).trans (s' := fun j => j = b) ⟨⟨?_, ?_, ?_, ?_, fun k hk => absurd hk (Nat.not_lt_zero _)⟩, fun j hj n => turned_block ht n⟩ (fun j hj q => q)
    · exact (turned_below ht (Below.refl 0 _) (Nat.zero_le _)).os
    · exact (turned_below ht (Below.refl 0 _) (Nat.zero_le _)).tape
    · exact (turned_below ht (Below.refl 0 _) (Nat.zero_le _)).output
    · exact Nat.le_of_eq (turned_size ht).symm
  have FIN := xhide fin
  clear fin hok h h1 hb1 hc
  obtain ⟨xk, xv, xg⟩ := x
  simp only [] at b0 b1 b2 hkl
  cases xg with
  | true =>
    obtain ⟨w4, hrun, hM4, ht4⟩ := (hM.same (w' := W1.drew) rfl).drop (f' := delL f (strLit xk)) strKeyed Try.underlying63 (str_key hkl) 0 delL_same (fun m hm => delL_other hm)
    have HF := xhide (FIN.out w4 _ ht4 (hM4.more (by omega)) (Fm.del (w := ⟨xk, xv, true⟩) hS hF rfl))
    clear hM hF hM4 ht4 FIN
    go_enter Try.func31, Try.ntmps31
    go_wp2_with fail
    rw [← hW1]
    clear hW1
    go_region
    all_goals
      go_wp2
      exact bodyPost_ret (results_none rfl _ _ _) rfl ⟨rfl, HF.out⟩
  | false =>
    obtain ⟨w4, hrun, hM4, ht4⟩ := (hM.same (w' := W1.drew) rfl).store (f' := setL f (strLit xk) (Ro.val ⟨xk, xv, S.t⟩)) strKeyed Try.underlying63 (by unfold maxLen; omega) (str_key hkl) (Ro.val ⟨xk, xv, S.t⟩) setL_same (fun m hm => setL_other hm)
    have HF := xhide (FIN.out w4 _ ht4 hM4 (Fm.put (w := ⟨xk, xv, false⟩) hS hF rfl))
    clear hM hF hM4 ht4 FIN
    go_enter Try.func31, Try.ntmps31
    go_wp2_with fail
    rw [← hW1]
    clear hW1
    go_region
    all_goals
      go_wp2
      go_end0
      exact ⟨rfl, HF.out⟩
theorem commit_any (h : Pm w X b c S) (ho : S.ws ≠ none) (hL : S.L.length + 64 ≤ 1000000000000000) (C : Cl) :
    Calls Try.prog 58 #[ptr X, C.v] w fun e w' => Dn w w' X b c (cmt S) e := by
  obtain ⟨ws, hws⟩ := Option.ne_none_iff_exists'.1 ho
  have hwm := h.wm
  rw [hws] at hwm
  obtain ⟨d, g, rfl, hM, hF⟩ := hwm
  obtain ⟨hS, h64, hwk⟩ := h.ok.wsrt ws hws
  obtain ⟨W3, hW3, hb3, hz, hr, _⟩ := laid2 (w.setCell ⟨X, 2, none⟩ (.map none)) C
  have hsz : (w.setCell ⟨X, 2, none⟩ (.map none)).heap.size = w.heap.size := by simp [World.setCell]
  obtain ⟨c0, c1, c2⟩ := h.cells
  have f1 := h.free 1
  have f2 := h.free 2
  have htm := isT_iff.1 h.ok.tm
  have hlt := h.lt
  have h0b := h.ltb
  have h0d := hM.lt
  have hdX : d ≠ X := fun e => h.nc (by rw [e])
  have hdb : d ≠ b := fun e => h.nd (by rw [e])
  have h3 := h.shut.below hb3
  have hC3 : Chg (Ex X b (some d)) w W3 := Chg.trans set_chg (Chg.below hb3) (fun j hj q => q)
  have hM3 := hM.same ((hb3.block d (by rw [hsz]; exact hM.lt)).trans (set_else hdX))
  rw [hsz] at hz hr
  obtain ⟨⟨k0, k1, k2, k3, k4, k5⟩, g0, g1, g2, g3, g4, g5⟩ := rp_cells hr
  obtain ⟨x0, x1, x2⟩ := h3.cells
  have y1 := h3.free 1
  have hlt3 := h3.lt
  have hs3 : w.heap.size + 1 < W3.heap.size := by omega
  have HT := xhide (fun w => mTime_any (S.t + 1) w)
  have H := xhide h
  have H3 := xhide h3
  have HC3 := xhide hC3
  have HR := xhide hr
  have HZ := xhide hz
  have HM := xhide hM3
  have HF := xhide hF
  have hn1 : X ≠ w.heap.size + 1 := by omega
  have hn2 : w.heap.size + 1 ≠ X := fun e => hn1 e.symm
  have hKD := hS.kd
  have HWK := xhide hwk
  clear h h3 hC3 hM hM3 hF hb3 hr hz hwk hsz
  cases hT : isT (S.t + 1) with
  | false =>
    have hcm : cmt S = (⟨S.L, S.t, none⟩, { code := 161 }) := by unfold cmt; rw [hT]; rfl
    rw [hcm]
    go_enter Try.func58, Try.ntmps58
    go_wp2_with fail
    refine (HT.out _).mono ?_
    rintro e w1 ⟨rfl, rfl⟩
    rw [hT, ← hW3]
    clear hW3
    go_wp2
    refine bodyPost_ret (v := rp0 161 .empty false 0) (results_cell_row (p := 4) (ty := 41) rfl _ _ (w.heap.size + 1) 41 _ (0, 0) _ rfl (rp_set HR.out _ _ _ _ _ _) Try.underlying41 rfl (by kernel_rfl)) rfl ?_
    have hbb := rp_below (Below.refl w.heap.size W3) (g := w.heap.size + 1) (by omega) (.int .i64 161) (.string .empty) (.bool false) (.slice none 0 0) (.int .i64 0) (.int .i64 0)
    exact ⟨_, none, rfl, rpv0 _ _ _ _ _ _, H3.out.keep (hbb.block _ hlt) (hbb.block _ h0b) nofun, HC3.out.low2 hbb, .inr (.inl rfl)⟩
  | true =>
    have hcm : cmt S = (⟨doneW (S.t + 1) S.L ws, S.t + 1, none⟩, { time := S.t + 1 }) := by unfold cmt; rw [hT, hws]; rfl
    rw [hcm]
    obtain ⟨W4, hW4⟩ : ∃ W4, W4 = W3.setCell ⟨X, 1, none⟩ (.int .i64 (S.t + 1)) := ⟨_, rfl⟩
    have hz4 : W4.heap.size = W3.heap.size := by rw [hW4]; simp [World.setCell]
    have h4 : Pm W4 X b none ⟨doneW (S.t + 1) S.L [], S.t + 1, none⟩ := by
      obtain ⟨f, hMr, hFr⟩ := H3.out.rm
      rw [hW4]
      exact ⟨(Go.Joins.block_setCell H3.out.blk _).trans rfl, ⟨H3.out.ok.srt, H3.out.ok.rows, hT, fun ws q => by cases q⟩, ⟨f, hMr.same (set_else H3.out.nb.symm), hFr⟩, rfl, H3.out.nb, nofun, nofun⟩
    have hC4 : Chg (Ex X b (some d)) w W4 := by rw [hW4]; exact HC3.out.trans set_chg (fun j hj q => q)
    have hM4 : Mg 9 W4 d g ws.length := HM.out.same (by rw [hW4]; exact set_else hdX)
    have hr4 : W4.heap[w.heap.size + 1]? = some rpB := by rw [hW4]; exact (set_else hn2).trans HR.out
    obtain ⟨D, hown, hrd⟩ := hM4
    have HRD := xhide hrd
    have H4 := xhide h4
    have HC4 := xhide hC4
    have HR4 := xhide hr4
    have HOWN := xhide hown
    have hZ4 := xhide hz4
    clear h4 hC4 hr4 hrd hz4 hown k0 k1 k2 k3 k4 k5 g0 g1 g2 g3 g4 g5
    go_enter Try.func58, Try.ntmps58
    go_wp2_with fail
    refine (HT.out _).mono ?_
    rintro e w1 ⟨rfl, rfl⟩
    rw [hT, ← hW3]
    clear hW3
    go_wp2_with (first
      | (at_range; rw [← hW4]; refine wpList_range_own _ rfl _ 64 rfl 9 61 strKeyed Try.underlying64 _ d ws.length _ rfl HOWN.out ?_; intro w0 hrg0 hg0 hs0)
      | go_in)
    go_frame
    have hb0 : Below W4.heap.size W4 w0 := (Below.refl _ _).grown hg0 (Nat.le_refl _) (fun k e => by cases e)
    have HS0 : Hid (Pm w0 X b none ⟨doneW (S.t + 1) S.L [], S.t + 1, none⟩ ∧ Chg (Ex X b (some d)) w w0 ∧ w0.heap[w.heap.size + 1]? = some rpB) :=
      xhide ⟨H4.out.below hb0, HC4.out.low2 (hb0.mono HC4.out.size), (hb0.block _ (Array.getElem?_eq_some_iff.1 HR4.out).1).trans HR4.out⟩
    have hcs := HOWN.out.size_le
    have hdr : d < W4.heap.size := HOWN.out.lt
    have hz4' : W4.heap.size = w.heap.size + 2 := by rw [hZ4.out, HZ.out]
    have HZ4 := xhide hz4'
    clear hb0 hg0 hs0 hW4 hz4'
    go_loopw [7] (fun _ wr => ∃ (left : Lit → Bool) (cnt : Nat) (ps : List Wr), wr.ranges Try.prog 9 RVs d W4.heap.size ws.length D left cnt ∧ ps.length + cnt ≤ ws.length ∧ Hid (Collected D left (ps.map fun p => p.key.data.toList)) ∧ Hid (∀ p ∈ ps, p ∈ ws) ∧
        Hid (Pm wr X b none ⟨doneW (S.t + 1) S.L ps, S.t + 1, none⟩ ∧ Chg (Ex X b (some d)) w wr ∧ wr.heap[w.heap.size + 1]? = some rpB))
      (fun _ wr => wr.rangeLeft d W4.heap.size)
    case atStart => exact ⟨_, _, [], hrg0, by simpa using hcs, xhide (Collected.start D), xhide (by simp), HS0⟩
    case round =>
      obtain ⟨left, cnt, ps, hrg, hcn, HC, HP, HW⟩ := hrel
      clear HS0 hrg0
      go_wp2_with (first
        | (at_next; refine wpList_next_ranges _ rfl _ rfl 9 strKeyed RVs encStr (fun v : Value => v) (fun key kl hk => by obtain ⟨x, hx, _⟩ := Maps.keyOf_str Try.underlying9 hk; exact ⟨x, hx⟩) (fun v y hv => ⟨v, rfl⟩) d W4.heap.size ws.length _ _ _ rfl hrg ?_ ?_)
        | go_in)
      · intro hc0 hl0
        have hpm := all_come HRD.out HF.out (srtW_nd hS) HC.out hl0 HP.out
        have hdw := doneW_perm (t := S.t + 1) (L := S.L) H.out.ok.srt (hKD.perm hpm.symm) hpm
        obtain ⟨hPr, hCr, hrr⟩ := HW.out
        rw [hdw] at hPr
        obtain ⟨q0, q1, q2⟩ := hPr.cells
        obtain ⟨⟨k0, k1, k2, k3, k4, k5⟩, g0, g1, g2, g3, g4, g5⟩ := rp_cells hrr
        have hltr := hPr.lt
        have hsr : w.heap.size + 1 < wr.heap.size := (Array.getElem?_eq_some_iff.1 hrr).1
        have HPR := xhide hPr
        have HCR := xhide hCr
        have HRR := xhide hrr
        clear hPr hCr hrr HW HC HP hpm hdw
        go_wp2
        refine bodyPost_ret (v := rp0 0 .empty false (S.t + 1)) (results_cell_row (p := 4) (ty := 41) rfl _ _ (w.heap.size + 1) 41 _ (0, 0) _ rfl (rp_set HRR.out _ _ _ _ _ _) Try.underlying41 rfl (by kernel_rfl)) rfl ?_
        have hbb := rp_below (Below.refl w.heap.size wr) (g := w.heap.size + 1) (by omega) (.int .i64 0) (.string .empty) (.bool false) (.slice none 0 0) (.int .i64 (S.t + 1)) (.int .i64 0)
        exact ⟨_, none, rfl, rpv0 _ _ _ _ _ _, HPR.out.keep (hbb.block _ hlt) (hbb.block _ h0b) nofun, HCR.out.low2 hbb, .inr (.inl rfl)⟩
      · intro x cv kl yd yp w2 cnt2 hkey hlk hv hat hrg2 hlt2 hg2 hs2 hen
        obtain ⟨r, hr, rfl, rfl, rfl⟩ := entry_of (key := Wr.key) (val := Wr.w) HRD.out HF.out hkey hv hat
        have hC2 := xhide (step_come (key := Wr.key) HC.out hlk hat)
        have hP2 : Hid (∀ p ∈ ps ++ [r], p ∈ ws) := xhide (fun p hp => by
          rcases List.mem_append.1 hp with q | q
          · exact HP.out p q
          · simp at q; rw [q]; exact hr)
        obtain ⟨hPr, hCr, hrr⟩ := HW.out
        obtain ⟨w3, hw3⟩ : ∃ w3, w3 = w2.alloc r.obj := ⟨_, rfl⟩
        have hrz : wr.heap.size = w2.heap.size := hs2.symm
        have e23 : ∀ j, j < wr.heap.size → j ≠ W4.heap.size → w3.heap[j]? = wr.heap[j]? := fun j hj hn => by
          rw [hw3]
          exact (Below.heap_alloc _ _ _ (by omega)).trans (hg2.block j hj (fun e => hn (by cases e; rfl)))
        have hX3 : X ≠ W4.heap.size := by have := HZ4.out; omega
        have hb3' : b ≠ W4.heap.size := by have := HZ4.out; omega
        have hd3' : d ≠ W4.heap.size := by omega
        have hp3 : Pm w3 X b none ⟨doneW (S.t + 1) S.L ps, S.t + 1, none⟩ := hPr.keep (e23 X hPr.lt hX3) (e23 b hPr.ltb hb3') nofun
        have hll : (doneW (S.t + 1) S.L ps).length ≤ 1000000000000000 := by have := doneW_len (t := S.t + 1) ps S.L; omega
        have hlay := xhide (lay_any hp3 hll r (HWK.out r hr))
        have hst : doneD (doneW (S.t + 1) S.L ps) r (S.t + 1) = doneW (S.t + 1) S.L (ps ++ [r]) := by unfold doneW; rw [List.foldl_append]; rfl
        have hr3 : w3.heap[w.heap.size + 1]? = some rpB := (e23 _ (Array.getElem?_eq_some_iff.1 hrr).1 (by have := HZ4.out; omega)).trans hrr
        have hg3 : w3.ranges Try.prog 9 RVs d W4.heap.size ws.length D (fun z => left z && !z.sameKey (.string r.key.data.toList)) cnt2 := by rw [hw3]; exact hrg2.alloc _
        have hC3' : Chg (Ex X b (some d)) w w3 := by
          refine ⟨hCr.1.trans ⟨by rw [hw3]; exact hg2.os, by rw [hw3]; exact hg2.tape, by rw [hw3]; exact hg2.output, by rw [hw3]; simp; omega, fun k hk => absurd hk (Nat.not_lt_zero _)⟩, fun j hj n => ?_⟩
          rw [e23 j (Nat.lt_of_lt_of_le hj hCr.size) (by have := HZ4.out; omega)]
          exact hCr.2 j hj n
        have HG3 := xhide hg3
        have HC3' := xhide hC3'
        have HR3' := xhide hr3
        have HST := xhide hst
        have hlw2 : W4.heap.size < wr.heap.size := hrg.lt
        have hkk := hcn
        clear hg3 hC3' hr3 hst hp3 hll hPr hCr hrr HW HC HP hr hkey hv hat hrg2 hg2 hs2 hlk e23
        have CONT : Hid (∀ w5 : World, Pm w5 X b none ⟨doneD (doneW (S.t + 1) S.L ps) r (S.t + 1), S.t + 1, none⟩ → Chg (fun j => j = b) w3 w5 →
            w5.ranges Try.prog 9 RVs d W4.heap.size ws.length D (fun z => left z && !z.sameKey (.string r.key.data.toList)) cnt2 ∧ Hid (Pm w5 X b none ⟨doneW (S.t + 1) S.L (ps ++ [r]), S.t + 1, none⟩ ∧ Chg (Ex X b (some d)) w w5 ∧ w5.heap[w.heap.size + 1]? = some rpB)) := xhide (by
          intro w5 hp5 hc5
          have hdl := HG3.out.owns.lt
          have hrl := HG3.out.lt
          refine ⟨ranges_same HG3.out (hc5.2 _ hdl hdb) (hc5.2 _ hrl (fun e => hb3' e.symm)), xhide ⟨by rw [← HST.out]; exact hp5, HC3'.out.trans hc5 (fun j hj q => .inr (.inl q)), (hc5.2 _ (Array.getElem?_eq_some_iff.1 HR3'.out).1 (by omega)).trans HR3'.out⟩⟩)
        clear HG3 HC3' HR3' HST
        subst hw3
        go_wp2_with fail
        refine hlay.out.mono ?_
        rintro e w5 ⟨rfl, hp5, hc5⟩
        obtain ⟨hrg5, HW5⟩ := CONT.out w5 hp5 hc5
        clear hp5 hc5 CONT hlay
        go_wp2
        go_roundw
        case rel => exact ⟨_, cnt2, ps ++ [r], hrg5, by simp; omega, hC2, hP2, HW5⟩
        case measure => rw [hrg5.left_eq, hrg.left_eq]; exact hlt2
end
end Go.Proofs.Ytheidhkmmihjlaa

/-
  Xm6: CScan's closure: a key that is there is told.
-/
set_option linter.unusedVariables false
set_option linter.unusedSimpArgs false
namespace Go.Proofs.Ytheidhkmmihjlaa
open Go.RowKit Go.Shelf Go.Maps
open ML (Ro RS Rr rc rc_len rc_one rc_append infoRo Srt nless fstOf Fst strLit strLit_inj setL setL_same setL_other delL delL_same delL_other od nl_irr nl_tr nl_tot Mg Rdg RVs strKeyed str_key turned_below zeroRo)
attribute [local go_sem] Oper.semAt_some

theorem nl_flip (a b : ByteArray) : (Op.bytesLess a.toList b.toList || (a.toList == b.toList)) = !nless b a := slt_flip a b
/-- How many rows a list in memory may have here. -/
def big : Nat := 3518437208883
theorem xapp {w : World} {B : Nat} {v : Value} {l : List Ro} (h : Rr w B v l) (hB : B ≤ w.heap.size) (r : Ro) (g : Nat) (hg : w.heap[g]? = some (.cells #[.string r.k, .string r.v, .int .i64 r.t] 45 (0, 0))) (hl : l.length + 1 ≤ big) :
    ∃ v' w', (Builtin.append_ #[22, 22] 22 #[v, .slice (some ⟨g, 0, none⟩) 1 1]).run Try.prog w = .ok v' w' ∧ Rr w' B v' (l ++ [r]) ∧ (∀ a n, n ≤ B → Below n a w → Below n a w') ∧ w.heap.size ≤ w'.heap.size ∧ (∀ k, k < w.heap.size → v.ownBlock ≠ some k → w'.heap[k]? = w.heap[k]?) := by
  unfold big at hl
  obtain ⟨i0, hi0, z0, z1, z2⟩ := info_parts infoRo
  have hc : ∀ j u, (rc [r])[j]? = some u → w.cell? ((⟨g, 0, none⟩ : Addr).add j) = some u := by
    intro j u hj
    rw [addr_add, Nat.zero_add, Go.Joins.cell_of_block hg]
    simpa [rc] using hj
  obtain ⟨v', w', hr, ho, hgr, _, _⟩ := run_append_own_at (P := Try.prog) w B 22 22 45 i0 _ 3 40 Try.underlying22 hi0 z0 z1 z2 rfl (by decide) v _ _ h ⟨g, 0, none⟩ 1 1 (rc [r]) (rc_len _) hc (rc_one _) (by unfold maxLen; omega) (by omega) hB
  refine ⟨v', w', hr, ?_, fun a n hn hb => hb.grown hgr (by omega) (fun k e => Nat.le_trans hn (World.ownsRow.lt h k e).1), hgr.size, fun k hk hne => hgr.block k hk (fun e => hne e.symm)⟩
  unfold Rr
  rw [List.length_append, rc_append]
  exact ho
/-- Rows that a closure puts together. -/
def Acc (w : World) (B rb : Nat) (v : Value) (l : List Ro) : Prop := w.heap[rb]? = some (.cells #[v] 22 (0, 0)) ∧ Rr w B v l ∧ (l = [] → v = .slice none 0 0)
def seeL (S : Ms) (lo hi key : ByteArray) : List Ro := if ins lo hi ⟨key, .empty, 0⟩ = true then match look S key with
  | some v => [⟨key, v, 0⟩]
  | none => [] else []
/-- What a round leaves. -/
def Rnd (w w' : World) (rb : Nat) (v : Value) : Prop := Below 0 w w' ∧ ∀ j, j < w.heap.size → j ≠ rb → v.ownBlock ≠ some j → w'.heap[j]? = w.heap[j]?
theorem Rnd.below {w w' : World} {rb : Nat} {v : Value} (h : Below w.heap.size w w') : Rnd w w' rb v := ⟨h.mono (Nat.zero_le _), fun j hj _ _ => h.block j hj⟩
theorem Acc.keep {w w' : World} {B rb : Nat} {v : Value} {l : List Ro} (h : Acc w B rb v l) (hb : Below w.heap.size w w') : Acc w' B rb v l := ⟨(hb.block _ (Array.getElem?_eq_some_iff.1 h.1).1).trans h.1, h.2.1.keep hb, h.2.2⟩
theorem own_cells {w : World} {B j : Nat} {v : Value} {l : List Ro} {o : Obj} (h : Rr w B v l) (hj : w.heap[j]? = some o) (hc : o.isCells = false) : v.ownBlock ≠ some j := by
  rcases h.2 with ⟨rfl, _⟩ | ⟨g, cap, cur, rfl, hg, hh, _⟩
  · nofun
  · intro e
    have e' : g = j := by simpa [Value.ownBlock] using e
    subst e'
    rw [hh] at hj
    cases hj
    cases hc
theorem own_ge {w : World} {B : Nat} {v : Value} {l : List Ro} (h : Rr w B v l) {j : Nat} (hj : v.ownBlock = some j) : B ≤ j := (World.ownsRow.lt h j hj).1
section
set_option maxHeartbeats 1000000
set_option maxRecDepth 100000
variable {w : World} {X b cb mb rb B : Nat} {c : Option Nat} {S : Ms} {C : Cl} {v : Value} {acc : List Ro}
theorem see_any (h : Pm w X b c S) (ho : S.ws ≠ none) (hcb : w.heap[cb]? = some C.obj) (hmb : w.heap[mb]? = some (.cells #[ptr X] 25 (0, 0))) (hA : Acc w B rb v acc) (hB : B ≤ w.heap.size) (hrB : rb < B) (hl : acc.length + 1 ≤ big) (key : ByteArray) (hk : key.size ≤ maxLen) :
    Calls Try.prog 69 #[.string key, ptr cb, ptr mb, ptr rb] w fun e w' => e = .returned (.tuple #[]) ∧ Rnd w w' rb v ∧ ∃ v', Acc w' B rb v' (acc ++ seeL S C.key C.high key) := by
  have c0 : w.cell? ⟨cb, 2, none⟩ = some (.string C.key) := by rw [Go.Joins.cell_of_block hcb]; rfl
  have c1 : w.cell? ⟨cb, 3, none⟩ = some (.string C.high) := by rw [Go.Joins.cell_of_block hcb]; rfl
  have c2 : w.cell? ⟨mb, 0, none⟩ = some (ptr X) := by rw [Go.Joins.cell_of_block hmb]; rfl
  have HK := xhide (look_any h ho key hk)
  have HA := xhide hA
  have H := xhide h
  cases t0 : nless key C.key with
  | true =>
    have hs : seeL S C.key C.high key = [] := by unfold seeL ins; simp [t0]
    unfold nless at t0
    rw [hs, List.append_nil]
    clear h hA
    go_enter Try.func69, Try.ntmps69
    go_wp2
    refine bodyPost_ret (results_none rfl _ _ _) rfl ⟨rfl, Rnd.below (Below.refl _ _), v, HA.out⟩
  | false =>
    by_cases hz : C.high.size = 0
    · have te : C.high.toList.isEmpty = true := by rw [isEmpty_eq]; exact decide_eq_true hz
      have hin : ins C.key C.high ⟨key, .empty, 0⟩ = true := by unfold ins; simp [t0, hz]
      unfold nless at t0
      clear h hA
      go_enter Try.func69, Try.ntmps69
      go_wp2_with fail
      refine HK.out.mono ?_
      rintro e w1 ⟨rfl, hb⟩
      have hA1 := HA.out.keep hb
      have hB1 : B ≤ w1.heap.size := Nat.le_trans hB hb.size
      cases hlk : look S key with
      | none =>
        have hs : seeL S C.key C.high key = [] := by unfold seeL; rw [if_pos hin, hlk]
        simp only [hlk, Option.getD_none, Option.isSome_none] at *
        have FIN := xhide (show Rnd w w1 rb v ∧ ∃ v', Acc w1 B rb v' (acc ++ seeL S C.key C.high key) from ⟨Rnd.below hb, v, by rw [hs, List.append_nil]; exact hA1⟩)
        clear hA1 hb HK HA H hs
        go_wp2
        go_end0
        exact ⟨rfl, FIN.out⟩
      | some v0 =>
        have hs : seeL S C.key C.high key = [⟨key, v0, 0⟩] := by unfold seeL; rw [if_pos hin, hlk]
        simp only [hlk, Option.getD_some, Option.isSome_some] at *
        have hblk := heap_alloc_new w1 (.cells #[.string key, .string v0, .int .i64 0] 45)
        have hb2 := ML.below1 w1 (.cells #[.string key, .string v0, .int .i64 0] 45)
        have hA2 := hA1.keep hb2
        obtain ⟨v', w', hrun, hR, hlow, hsz, hoth⟩ := xapp hA2.2.1 (by simp; omega) ⟨key, v0, 0⟩ w1.heap.size hblk hl
        obtain ⟨aq, cq, ev, _⟩ := hR.seq
        subst ev
        have cr := hA1.1
        have crc : w1.cell? ⟨rb, 0, none⟩ = some v := by rw [Go.Joins.cell_of_block cr]; rfl
        have hrl : rb < w1.heap.size := (Array.getElem?_eq_some_iff.1 cr).1
        have hrl2 : rb < (w1.alloc (.cells #[.string key, .string v0, .int .i64 0] 45)).heap.size := by simp; omega
        have hro : v.ownBlock ≠ some rb := fun e => by have := own_ge hA1.2.1 e; omega
        have crw : w'.heap[rb]? = some (.cells #[v] 22 (0, 0)) := (hoth rb hrl2 hro).trans hA2.1
        have crw0 : w'.cell? ⟨rb, 0, none⟩ = some v := by rw [Go.Joins.cell_of_block crw]; rfl
        have crf : w'.frozen? ⟨rb, 0, none⟩ = false := Go.Joins.unfrozen_of_block crw 0
        have hrl3 : rb < w'.heap.size := (Array.getElem?_eq_some_iff.1 crw).1
        have FIN := xhide (show Rnd w (w'.setCell ⟨rb, 0, none⟩ (.slice aq (acc ++ [(⟨key, v0, 0⟩ : Ro)]).length cq)) rb v ∧ ∃ v'', Acc (w'.setCell ⟨rb, 0, none⟩ (.slice aq (acc ++ [(⟨key, v0, 0⟩ : Ro)]).length cq)) B rb v'' (acc ++ seeL S C.key C.high key) from by
          rw [hs]
          refine ⟨⟨(((hb.trans (hb2.mono hb.size)).mono (Nat.zero_le _)).trans ((hlow _ 0 (Nat.zero_le _) (Below.refl 0 _)).trans ((Below.refl 0 w').setCell (p := ⟨rb, 0, none⟩) (Nat.zero_le _) _))), fun j hj n1 n2 => ?_⟩, _, (Go.Joins.block_setCell crw _).trans rfl, ?_, fun q => by simp at q⟩
          · have hj1 : j < w1.heap.size := Nat.lt_of_lt_of_le hj hb.size
            exact (set_else n1).trans ((hoth j (by simp; omega) n2).trans ((hb2.block j hj1).trans (hb.block j hj)))
          · have hne : (Value.slice aq (acc ++ [(⟨key, v0, 0⟩ : Ro)]).length cq).ownBlock ≠ some rb := fun e => by have := own_ge hR e; omega
            exact ownsRow_setCell_other hR hne _)
        clear hA1 hA2 hb hb2 hR hlow hsz hoth cr crw HK HA H hs hblk hro
        have HRUN := xhide hrun
        clear hrun
        go_wp2_with (first
          | (at_builtin; refine Lib.wpList_append_run _ rfl _ _ _ _ rfl _ _ rfl rfl _ w' HRUN.out ?_)
          | go_in)
        go_wp2
        go_end0
        exact ⟨rfl, by have := FIN.out; rwa [List.length_append] at this⟩
    · have te : C.high.toList.isEmpty = false := by rw [isEmpty_eq]; exact decide_eq_false hz
      cases tl : nless key C.high with
      | false =>
        have hs : seeL S C.key C.high key = [] := by unfold seeL ins; simp [tl, hz]
        unfold nless at t0 tl
        rw [hs, List.append_nil]
        clear h hA
        go_enter Try.func69, Try.ntmps69
        go_wp2
        refine bodyPost_ret (results_none rfl _ _ _) rfl ⟨rfl, Rnd.below (Below.refl _ _), v, HA.out⟩
      | true =>
        have hin : ins C.key C.high ⟨key, .empty, 0⟩ = true := by unfold ins; simp [t0, tl]
        unfold nless at t0 tl
        clear h hA
        go_enter Try.func69, Try.ntmps69
        go_wp2_with fail
        refine HK.out.mono ?_
        rintro e w1 ⟨rfl, hb⟩
        have hA1 := HA.out.keep hb
        have hB1 : B ≤ w1.heap.size := Nat.le_trans hB hb.size
        cases hlk : look S key with
        | none =>
          have hs : seeL S C.key C.high key = [] := by unfold seeL; rw [if_pos hin, hlk]
          simp only [hlk, Option.getD_none, Option.isSome_none] at *
          have FIN := xhide (show Rnd w w1 rb v ∧ ∃ v', Acc w1 B rb v' (acc ++ seeL S C.key C.high key) from ⟨Rnd.below hb, v, by rw [hs, List.append_nil]; exact hA1⟩)
          clear hA1 hb HK HA H hs
          go_wp2
          go_end0
          exact ⟨rfl, FIN.out⟩
        | some v0 =>
          have hs : seeL S C.key C.high key = [⟨key, v0, 0⟩] := by unfold seeL; rw [if_pos hin, hlk]
          simp only [hlk, Option.getD_some, Option.isSome_some] at *
          have hblk := heap_alloc_new w1 (.cells #[.string key, .string v0, .int .i64 0] 45)
          have hb2 := ML.below1 w1 (.cells #[.string key, .string v0, .int .i64 0] 45)
          have hA2 := hA1.keep hb2
          obtain ⟨v', w', hrun, hR, hlow, hsz, hoth⟩ := xapp hA2.2.1 (by simp; omega) ⟨key, v0, 0⟩ w1.heap.size hblk hl
          obtain ⟨aq, cq, ev, _⟩ := hR.seq
          subst ev
          have cr := hA1.1
          have crc : w1.cell? ⟨rb, 0, none⟩ = some v := by rw [Go.Joins.cell_of_block cr]; rfl
          have hrl : rb < w1.heap.size := (Array.getElem?_eq_some_iff.1 cr).1
          have hrl2 : rb < (w1.alloc (.cells #[.string key, .string v0, .int .i64 0] 45)).heap.size := by simp; omega
          have hro : v.ownBlock ≠ some rb := fun e => by have := own_ge hA1.2.1 e; omega
          have crw : w'.heap[rb]? = some (.cells #[v] 22 (0, 0)) := (hoth rb hrl2 hro).trans hA2.1
          have crw0 : w'.cell? ⟨rb, 0, none⟩ = some v := by rw [Go.Joins.cell_of_block crw]; rfl
          have crf : w'.frozen? ⟨rb, 0, none⟩ = false := Go.Joins.unfrozen_of_block crw 0
          have hrl3 : rb < w'.heap.size := (Array.getElem?_eq_some_iff.1 crw).1
          have FIN := xhide (show Rnd w (w'.setCell ⟨rb, 0, none⟩ (.slice aq (acc ++ [(⟨key, v0, 0⟩ : Ro)]).length cq)) rb v ∧ ∃ v'', Acc (w'.setCell ⟨rb, 0, none⟩ (.slice aq (acc ++ [(⟨key, v0, 0⟩ : Ro)]).length cq)) B rb v'' (acc ++ seeL S C.key C.high key) from by
            rw [hs]
            refine ⟨⟨(((hb.trans (hb2.mono hb.size)).mono (Nat.zero_le _)).trans ((hlow _ 0 (Nat.zero_le _) (Below.refl 0 _)).trans ((Below.refl 0 w').setCell (p := ⟨rb, 0, none⟩) (Nat.zero_le _) _))), fun j hj n1 n2 => ?_⟩, _, (Go.Joins.block_setCell crw _).trans rfl, ?_, fun q => by simp at q⟩
            · have hj1 : j < w1.heap.size := Nat.lt_of_lt_of_le hj hb.size
              exact (set_else n1).trans ((hoth j (by simp; omega) n2).trans ((hb2.block j hj1).trans (hb.block j hj)))
            · have hne : (Value.slice aq (acc ++ [(⟨key, v0, 0⟩ : Ro)]).length cq).ownBlock ≠ some rb := fun e => by have := own_ge hR e; omega
              exact ownsRow_setCell_other hR hne _)
          clear hA1 hA2 hb hb2 hR hlow hsz hoth cr crw HK HA H hs hblk hro
          have HRUN := xhide hrun
          clear hrun
          go_wp2_with (first
            | (at_builtin; refine Lib.wpList_append_run _ rfl _ _ _ _ rfl _ _ rfl rfl _ w' HRUN.out ?_)
            | go_in)
          go_wp2
          go_end0
          exact ⟨rfl, by have := FIN.out; rwa [List.length_append] at this⟩
end
end Go.Proofs.Ytheidhkmmihjlaa

/-
  Xm7: CScan, plain: what a closure tells of all keys, put in order, is what is there.
-/
set_option linter.unusedVariables false
set_option linter.unusedSimpArgs false
namespace Go.Proofs.Ytheidhkmmihjlaa
open Go.RowKit
open ML (Ro Srt nless fstOf od nl_irr nl_tr nl_tot)

theorem seeL_mem {S : Ms} {lo hi key : ByteArray} {x : Ro} : x ∈ seeL S lo hi key ↔ ins lo hi x = true ∧ x.k = key ∧ x.t = 0 ∧ look S key = some x.v := by
  unfold seeL
  have hi' : ∀ y : Ro, y.k = key → ins lo hi y = ins lo hi ⟨key, .empty, 0⟩ := fun y e => by unfold ins; rw [e]
  split
  · next q =>
    split
    · next v hv =>
      rw [List.mem_singleton]
      constructor
      · rintro rfl
        exact ⟨by rw [hi' _ rfl]; exact q, rfl, rfl, hv⟩
      · rintro ⟨_, h1, h2, h3⟩
        cases x
        simp_all
    · next hv =>
      constructor
      · intro q; cases q
      · rintro ⟨_, _, _, h3⟩; rw [hv] at h3; cases h3
  · next q =>
    constructor
    · intro q; cases q
    · rintro ⟨h0, h1, _⟩
      rw [hi' x h1] at h0
      exact absurd h0 q
theorem seeL_keys (S : Ms) (lo hi key : ByteArray) : ((seeL S lo hi key).map Ro.k).Sublist [key] := by
  unfold seeL
  split
  · split
    · exact List.Sublist.refl _
    · exact List.nil_sublist _
  · exact List.nil_sublist _
theorem seeL_len (S : Ms) (lo hi key : ByteArray) : (seeL S lo hi key).length ≤ 1 := by
  have := (seeL_keys S lo hi key).length_le
  simpa using this
/-- What the second run tells of a row. -/
def seeR (S : Ms) (lo hi : ByteArray) (r : Ro) : List Ro := if (wOf (S.ws.getD []) r.k).isSome then [] else seeL S lo hi r.k
theorem seeR_len (S : Ms) (lo hi : ByteArray) (r : Ro) : (seeR S lo hi r).length ≤ 1 := by
  unfold seeR
  split
  · simp
  · exact seeL_len _ _ _ _
def told (S : Ms) (lo hi : ByteArray) (ws : List Wr) (L : List Ro) : List Ro := ws.flatMap (fun p => seeL S lo hi p.key) ++ L.flatMap (seeR S lo hi)
theorem flat_one {α β : Type} (f : α → List β) (hf : ∀ a, (f a).length ≤ 1) : ∀ l : List α, (l.flatMap f).length ≤ l.length
  | [] => Nat.le_refl _
  | a :: l => by
    have := flat_one f hf l
    have := hf a
    rw [List.flatMap_cons, List.length_append]
    simp only [List.length_cons]
    omega
theorem told_len (S : Ms) (lo hi : ByteArray) (ws : List Wr) (L : List Ro) : (told S lo hi ws L).length ≤ ws.length + L.length := by
  unfold told
  rw [List.length_append]
  have h1 := flat_one (fun p : Wr => seeL S lo hi p.key) (fun p => seeL_len _ _ _ _) ws
  have h2 := flat_one (seeR S lo hi) (seeR_len S lo hi) L
  omega
theorem flat_keys {α : Type} (f : α → List Ro) (key : α → ByteArray) (hf : ∀ a, ((f a).map Ro.k).Sublist [key a]) : ∀ l : List α, ((l.flatMap f).map Ro.k).Sublist (l.map key)
  | [] => List.Sublist.refl _
  | a :: l => by
    rw [List.flatMap_cons, List.map_append, List.map_cons]
    exact List.Sublist.append (l₁ := (f a).map Ro.k) (l₂ := [key a]) (hf a) (flat_keys f key hf l)
theorem told_mem {S : Ms} (h : S.ok) {lo hi : ByteArray} {ws : List Wr} {L : List Ro} (hw : ws.Perm (S.ws.getD [])) (hL : L.Perm S.L) {x : Ro} : x ∈ told S lo hi ws L ↔ x ∈ scn S lo hi := by
  rw [scn_mem h]
  unfold told
  rw [List.mem_append, List.mem_flatMap, List.mem_flatMap]
  constructor
  · rintro (⟨p, hp, q⟩ | ⟨r, hr, q⟩)
    · obtain ⟨h1, h2, h3, h4⟩ := seeL_mem.1 q
      exact ⟨⟨h3, by rw [h2]; exact h4⟩, h1⟩
    · unfold seeR at q
      split at q
      · cases q
      · obtain ⟨h1, h2, h3, h4⟩ := seeL_mem.1 q
        exact ⟨⟨h3, by rw [h2]; exact h4⟩, h1⟩
  · rintro ⟨⟨h3, h4⟩, h1⟩
    cases hq : wOf (S.ws.getD []) x.k with
    | some p =>
      obtain ⟨hp, hk⟩ := (wOf_some h.kd).1 hq
      exact .inl ⟨p, hw.mem_iff.2 hp, seeL_mem.2 ⟨h1, hk.symm, h3, by rw [hk]; exact h4⟩⟩
    | none =>
      have h5 := h4
      unfold look at h5
      rw [hq] at h5
      obtain ⟨r, hr, hv⟩ := Option.map_eq_some_iff.1 h5
      obtain ⟨hr1, hr2⟩ := (fst_iff h.srt).1 hr
      refine .inr ⟨r, hL.mem_iff.2 hr1, ?_⟩
      unfold seeR
      rw [hr2, hq]
      exact seeL_mem.2 ⟨h1, rfl, h3, h4⟩
theorem told_nd {S : Ms} (h : S.ok) {lo hi : ByteArray} {ws : List Wr} {L : List Ro} (hw : ws.Perm (S.ws.getD [])) (hL : L.Perm S.L) : ((told S lo hi ws L).map Ro.k).Nodup := by
  unfold told
  rw [List.map_append, List.nodup_append]
  refine ⟨(flat_keys _ Wr.key (fun p => seeL_keys S lo hi p.key) ws).nodup (((hw.map _).nodup_iff).2 (srtW_nd h.kd)), (flat_keys (seeR S lo hi) Ro.k (fun r => ?_) L).nodup (((hL.map _).nodup_iff).2 (srt_nd h.srt)), fun a ha c hc e => ?_⟩
  · unfold seeR
    split
    · exact List.nil_sublist _
    · exact seeL_keys S lo hi r.k
  · subst e
    obtain ⟨x, hx, rfl⟩ := List.mem_map.1 ha
    obtain ⟨y, hy, e2⟩ := List.mem_map.1 hc
    obtain ⟨p, hp, q⟩ := List.mem_flatMap.1 hx
    obtain ⟨r, hr, q2⟩ := List.mem_flatMap.1 hy
    have h1 := (seeL_mem.1 q).2.1
    unfold seeR at q2
    split at q2
    · cases q2
    · next hn =>
      have h2 := (seeL_mem.1 q2).2.1
      have h3 : wOf (S.ws.getD []) r.k = some p := (wOf_some h.kd).2 ⟨hw.mem_iff.1 hp, by rw [← h1, ← e2, h2]⟩
      rw [h3] at hn
      exact hn rfl
theorem sorted_is {ys zs : List Ro} (hp : ys.Pairwise fun a b => nless b.k a.k = false) (hn : (ys.map Ro.k).Nodup) (hz : Srt zs) (hm : ∀ x, x ∈ ys ↔ x ∈ zs) : ys = zs := by
  refine Ck.Ris.eq od ?_ hz hm
  have h1 : ys.Pairwise fun a b => a.k ≠ b.k := List.pairwise_map.1 hn
  exact (hp.and h1).imp fun {a b} q => by
    rcases nl_tot a.k b.k with t | t | t
    · exact t
    · exact absurd t q.2
    · rw [q.1] at t; cases t
end Go.Proofs.Ytheidhkmmihjlaa

/-
  Xm8: CScan.
-/
set_option linter.unusedVariables false
set_option linter.unusedSimpArgs false
namespace Go.Proofs.Ytheidhkmmihjlaa
open Go.RowKit Go.Shelf Go.Maps
open ML (Ro RS Rr rc Srt nless fstOf Fst strLit strLit_inj setL setL_same setL_other delL delL_same delL_other od nl_irr nl_tr nl_tot Mg Rdg RVs strKeyed str_key turned_below zeroRo)
attribute [local go_sem] Oper.semAt_some

/-- While CScan goes through a map. -/
structure Sc (w wr : World) (X b d : Nat) (S : Ms) (C : Cl) (v : Value) (acc : List Ro) : Prop where
  pm : Pm wr X b (some d) S
  cb : wr.heap[w.heap.size + 1]? = some C.obj
  mb : wr.heap[w.heap.size]? = some (.cells #[ptr X] 25 (0, 0))
  rp : wr.heap[w.heap.size + 2]? = some rpB
  ac : Acc wr (w.heap.size + 4) (w.heap.size + 3) v acc
  low : Below w.heap.size w wr
  big : w.heap.size + 4 ≤ wr.heap.size
theorem Sc.rnd {w wr w' : World} {X b d : Nat} {S : Ms} {C : Cl} {v v' : Value} {acc acc' : List Ro} (h : Sc w wr X b d S C v acc) (hr : Rnd wr w' (w.heap.size + 3) v) (ha : Acc w' (w.heap.size + 4) (w.heap.size + 3) v' acc') (hX : X < w.heap.size) (hb : b < w.heap.size) (hd : d < w.heap.size) :
    Sc w w' X b d S C v' acc' := by
  have hbg := h.big
  have e : ∀ j, j < w.heap.size + 3 → w'.heap[j]? = wr.heap[j]? := fun j hj => hr.2 j (by omega) (by omega) (fun q => by have := own_ge h.ac.2.1 q; omega)
  refine ⟨h.pm.keep (e X (by omega)) (e b (by omega)) (fun c0 q => by cases q; exact e d (by omega)), (e _ (by omega)).trans h.cb, (e _ (by omega)).trans h.mb, (e _ (by omega)).trans h.rp, ha, ?_, Nat.le_trans hbg hr.1.size⟩
  exact h.low.trans ⟨hr.1.os, hr.1.tape, hr.1.output, hr.1.size, fun j hj => e j (by omega)⟩
theorem Sc.below {w wr w' : World} {X b d : Nat} {S : Ms} {C : Cl} {v : Value} {acc : List Ro} (h : Sc w wr X b d S C v acc) (hb : Below wr.heap.size wr w') : Sc w w' X b d S C v acc :=
  ⟨h.pm.below hb, (hb.block _ (by have := h.big; omega)).trans h.cb, (hb.block _ (by have := h.big; omega)).trans h.mb, (hb.block _ (by have := h.big; omega)).trans h.rp, h.ac.keep hb, h.low.trans (hb.mono (by have := h.big; omega)), Nat.le_trans h.big hb.size⟩
/-- The map's iterator has moved. -/
theorem Sc.iter {w wr w' : World} {X b d r : Nat} {S : Ms} {C : Cl} {v : Value} {acc : List Ro} (h : Sc w wr X b d S C v acc) (hg : wr.grownBy w' (some r)) (hr : w.heap.size + 4 ≤ r) (hno : v.ownBlock ≠ some r) (hX : X < w.heap.size) (hb : b < w.heap.size) (hd : d < w.heap.size) : Sc w w' X b d S C v acc := by
  have hbg := h.big
  have e : ∀ j, j < wr.heap.size → j ≠ r → w'.heap[j]? = wr.heap[j]? := fun j hj hn => hg.block j hj (fun q => hn (by cases q; rfl))
  refine ⟨h.pm.keep (e X (by omega) (by omega)) (e b (by omega) (by omega)) (fun c0 q => by cases q; exact e d (by omega) (by omega)), (e _ (by omega) (by omega)).trans h.cb, (e _ (by omega) (by omega)).trans h.mb, (e _ (by omega) (by omega)).trans h.rp, ⟨(e _ (by omega) (by omega)).trans h.ac.1, ?_, h.ac.2.2⟩, ?_, Nat.le_trans hbg hg.size⟩
  · exact World.ownsRow.kept h.ac.2.1 hg (.inr hno)
  · exact h.low.trans ⟨hg.os, hg.tape, hg.output, hg.size, fun j hj => e j (by omega) (by omega)⟩
theorem ranges_iter {w : World} {b r n : Nat} {D : DataW Value} {left : Lit → Bool} {cnt : Nat} (h : w.ranges Try.prog 9 RVs b r n D left cnt) : ∃ o, w.heap[r]? = some o ∧ o.isCells = false := by
  obtain ⟨es, clock, since, seen, c0, hb, F, hs, hD, hr, rest⟩ := h
  exact ⟨_, hr, rfl⟩
theorem own_iter {w : World} {b r n B : Nat} {D : DataW Value} {left : Lit → Bool} {cnt : Nat} {v : Value} {l : List Ro} (h : w.ranges Try.prog 9 RVs b r n D left cnt) (ha : Rr w B v l) : v.ownBlock ≠ some r := by
  obtain ⟨o, h1, h2⟩ := ranges_iter h
  exact own_cells ha h1 h2
theorem wr_keep {w w' : World} {B B' : Nat} {v : Value} {l : List Ro} (h : ML.Wr w B v l) (hB : B' ≤ B) (hs : w.heap.size ≤ w'.heap.size) (e : ∀ j, B ≤ j → j < w.heap.size → w'.heap[j]? = w.heap[j]?) : ML.Wr w' B' v l := by
  obtain ⟨ao, cap, rfl, hr, hg⟩ := h
  refine ⟨ao, cap, rfl, ⟨hr.1, hr.2.1, hr.2.2.1, fun hl => ?_⟩, fun hl => ?_⟩
  · obtain ⟨g, off, rfl, hlt, hc⟩ := hr.2.2.2 hl
    obtain ⟨g', e1, hg1, _⟩ := hg hl
    cases e1
    exact ⟨g, 0, rfl, Nat.lt_of_lt_of_le hlt hs, fun i r hi u hu x => (World.cell?_of_block (e g hg1 hlt)).trans (hc i r hi u hu x)⟩
  · obtain ⟨g, off, e0, hlt, hc⟩ := hr.2.2.2 hl
    obtain ⟨g', rfl, hg1, ht⟩ := hg hl
    cases e0
    refine ⟨g, rfl, Nat.le_trans hB hg1, fun j hj => ?_⟩
    obtain ⟨t1, t2⟩ := ht j hj
    exact ⟨by rw [World.cell?_of_block (w := w) (e g hg1 hlt)]; exact t1, by rw [World.frozen?_of_block (w := w) (e g hg1 hlt)]; exact t2⟩
section
set_option maxHeartbeats 1000000
set_option maxRecDepth 100000
variable {w : World} {X b : Nat} {c : Option Nat} {S : Ms} {C : Cl}
theorem scan_any (h : Pm w X b c S) (ho : S.ws ≠ none) (hL : S.L.length + 64 ≤ big) : Calls Try.prog 52 #[ptr X, C.v] w fun e w' => Dn w w' X b c (S, { rows := scn S C.key C.high }) e := by
  obtain ⟨ws, hws⟩ := Option.ne_none_iff_exists'.1 ho
  have hwm := h.wm
  rw [hws] at hwm
  obtain ⟨d, g, rfl, hM, hF⟩ := hwm
  obtain ⟨hS, h64, hwk⟩ := h.ok.wsrt ws hws
  obtain ⟨W5, hW5⟩ : ∃ W5, W5 = (((w.alloc (.cells #[ptr X] 25)).alloc C.obj).alloc rpB).alloc (.cells #[.slice none 0 0] 22) := ⟨_, rfl⟩
  have hb5 : Below w.heap.size w W5 := by rw [hW5]; exact ((ML.below2 _ _ _).alloc (by simp; omega) _).alloc (by simp; omega) _
  have hz5 : W5.heap.size = w.heap.size + 4 := by rw [hW5]; simp
  have hlt := h.lt
  have h0b := h.ltb
  have h0d := hM.lt
  have hSC : Sc w W5 X b d S C (.slice none 0 0) [] := by
    refine ⟨h.below hb5, ?_, ?_, ?_, ⟨?_, ⟨rfl, .inl ⟨rfl, rfl⟩⟩, fun _ => rfl⟩, hb5, by omega⟩
    · rw [hW5]; exact (Below.heap_alloc _ _ _ (by simp)).trans ((Below.heap_alloc _ _ _ (by simp)).trans (ML.heap_alloc_at (by simp) _))
    · rw [hW5]; exact (Below.heap_alloc _ _ _ (by simp; omega)).trans ((Below.heap_alloc _ _ _ (by simp; omega)).trans ((Below.heap_alloc _ _ _ (by simp)).trans (ML.heap_alloc_at rfl _)))
    · rw [hW5]; exact (Below.heap_alloc _ _ _ (by simp)).trans (ML.heap_alloc_at (by simp) _)
    · rw [hW5]; exact ML.heap_alloc_at (by simp) _
  have hM5 := hM.same (hb5.block d hM.lt)
  obtain ⟨D, hown, hrd⟩ := hM5
  have hP5 := hSC.pm
  obtain ⟨c0, c1, c2⟩ := h.cells
  have hx1 : X < w.heap.size + 1 := by omega
  have hx2 : X < w.heap.size + 1 + 1 := by omega
  have hx3 : X < w.heap.size + 1 + 1 + 1 := by omega
  have H := xhide h
  have HSC := xhide hSC
  have HRD := xhide hrd
  have HF := xhide hF
  have HOWN := xhide hown
  have HZ5 := xhide hz5
  clear h hSC hM hF hP5 hb5 hrd hz5 hown
  go_enter Try.func52, Try.ntmps52
  go_wp2_with (first
    | (at_range; rw [← hW5]; clear hW5; refine wpList_range_own _ rfl _ 64 rfl 9 61 strKeyed Try.underlying64 _ d ws.length _ rfl HOWN.out ?_; intro w0 hrg0 hg0 hs0)
    | go_in)
  go_frame
  have hcs := HOWN.out.size_le
  have hb0 : Below W5.heap.size W5 w0 := (Below.refl _ _).grown hg0 (Nat.le_refl _) (fun k e => by cases e)
  have HS0 : Hid (Sc w w0 X b d S C (.slice none 0 0) []) := xhide (HSC.out.below hb0)
  clear hb0 hg0 hs0 c0 c1 c2 hx1 hx2 hx3
  go_loopw [7] (fun _ wr => ∃ (left : Lit → Bool) (cnt : Nat) (ps : List Wr) (v : Value), wr.ranges Try.prog 9 RVs d W5.heap.size ws.length D left cnt ∧ ps.length + cnt ≤ ws.length ∧ Hid (Collected D left (ps.map fun p => p.key.data.toList)) ∧ Hid (∀ p ∈ ps, p ∈ ws) ∧
      Hid (Sc w wr X b d S C v (ps.flatMap fun p => seeL S C.key C.high p.key)))
    (fun _ wr => wr.rangeLeft d W5.heap.size)
  case atStart => exact ⟨_, _, [], _, hrg0, by simpa using hcs, xhide (Collected.start D), xhide (by simp), HS0⟩
  case round =>
    obtain ⟨left, cnt, ps, v, hrg, hcn, HC, HP, HW⟩ := hrel
    clear HS0 hrg0
    go_wp2_with (first
      | (at_next; refine wpList_next_ranges _ rfl _ rfl 9 strKeyed RVs encStr (fun v : Value => v) (fun key kl hk => by obtain ⟨x, hx, _⟩ := Maps.keyOf_str Try.underlying9 hk; exact ⟨x, hx⟩) (fun v y hv => ⟨v, rfl⟩) d W5.heap.size ws.length _ _ _ rfl hrg ?_ ?_)
      | go_in)
    · intro hc0 hl0
      have HPM := xhide (all_come HRD.out HF.out (srtW_nd hS) HC.out hl0 HP.out)
      have HTL : Hid (ps.flatMap (fun p => seeL S C.key C.high p.key) = told S C.key C.high ps []) := xhide (by unfold told; simp)
      have hW := HW.out
      rw [HTL.out] at hW
      obtain ⟨q0, q1, q2⟩ := hW.pm.cells
      have m0 : wr.cell? ⟨w.heap.size, 0, none⟩ = some (ptr X) := by rw [Go.Joins.cell_of_block hW.mb]; rfl
      have hlr := hW.pm.lt
      obtain ⟨f, hMr, hFr⟩ := hW.pm.rm
      obtain ⟨D2, hown2, hrd2⟩ := hMr
      have HW2 := xhide hW
      have HRD2 := xhide hrd2
      have HF2 := xhide hFr
      have HOWN2 := xhide hown2
      clear hW hrd2 hFr hown2 HW HC HP HTL hrg
      go_wp2_with (first
        | (at_range; refine wpList_range_own _ rfl _ 63 rfl 9 45 strKeyed Try.underlying63 _ b S.L.length _ rfl HOWN2.out ?_; intro w0' hrg0' hg0' hs0')
        | go_in)
      go_frame
      have hcs2 := HOWN2.out.size_le
      have hb0 : Below wr.heap.size wr w0' := (Below.refl _ _).grown hg0' (Nat.le_refl _) (fun k e => by cases e)
      have HS0 : Hid (Sc w w0' X b d S C v (told S C.key C.high ps [])) := xhide (HW2.out.below hb0)
      have HZR : Hid (w.heap.size + 4 ≤ wr.heap.size) := xhide HW2.out.big
      have HLS : Hid (Srt S.L) := xhide H.out.ok.srt
      obtain ⟨r2, hr2⟩ : ∃ r2, r2 = wr.heap.size := ⟨_, rfl⟩
      rw [← hr2] at hrg0' HZR ⊢
      have hpl : ps.length ≤ 64 := by omega
      have hps64 := hpl
      clear hb0 hg0' hs0' q0 q1 q2 m0 HOWN2 HW2 hc0 hl0 hcn hlr hr2
      go_loopw [8] (fun _ wr => ∃ (left : Lit → Bool) (cnt : Nat) (qs : List Ro) (v : Value), wr.ranges Try.prog 9 RVs b r2 S.L.length D2 left cnt ∧ qs.length + cnt ≤ S.L.length ∧ Hid (Collected D2 left (qs.map fun p => p.k.data.toList)) ∧ Hid (∀ p ∈ qs, p ∈ S.L) ∧
          Hid (Sc w wr X b d S C v (told S C.key C.high ps qs)))
        (fun _ wr => wr.rangeLeft b r2)
      case atStart => exact ⟨_, _, [], _, hrg0', by simpa using hcs2, xhide (Collected.start D2), xhide (by simp), HS0⟩
      case round =>
        obtain ⟨left2, cntb, qs, v2, hrgb, hcnb, HC2, HP2, HW⟩ := hrel
        clear HS0 hrg0'
        go_wp2_with (first
          | (at_next; refine wpList_next_ranges _ rfl _ rfl 9 strKeyed RVs encStr (fun v : Value => v) (fun key kl hk => by obtain ⟨x, hx, _⟩ := Maps.keyOf_str Try.underlying9 hk; exact ⟨x, hx⟩) (fun v y hv => ⟨v, rfl⟩) b r2 S.L.length _ _ _ rfl hrgb ?_ ?_)
          | go_in)
        · intro hc0 hl0
          have HQM := xhide (all_come HRD2.out HF2.out (srt_nd HLS.out) HC2.out hl0 HP2.out)
          obtain ⟨aq, cq, ev, _⟩ := HW.out.ac.2.1.seq
          have hal : (told S C.key C.high ps qs).length ≤ ps.length + qs.length := told_len _ _ _ _ _
          have hws' : S.ws.getD [] = ws := by rw [hws]; rfl
          have hpw : ps.Perm (S.ws.getD []) := by rw [hws']; exact HPM.out
          have hnd := told_nd H.out.ok (lo := C.key) (hi := C.high) hpw HQM.out
          have hmm : ∀ x, x ∈ told S C.key C.high ps qs ↔ x ∈ scn S C.key C.high := fun x => told_mem H.out.ok hpw HQM.out
          have HSO := xhide (ML.sortF_any HW.out.ac.2.1 HW.out.big (by unfold big at hL; omega))
          have crb : wr.cell? ⟨w.heap.size + 3, 0, none⟩ = some v2 := by rw [Go.Joins.cell_of_block HW.out.ac.1]; rfl
          have HMM := xhide hmm
          have HND := xhide hnd
          clear hnd hmm hpw hal HQM HPM HC2 HP2
          subst ev
          go_wp2_with fail
          refine HSO.out.mono ?_
          rintro e w6 ⟨rfl, ys, hp, hs, hwr, hb6⟩
          have hys : ys = scn S C.key C.high := sorted_is hs (((hp.map _).nodup_iff).2 HND.out) (scn_srt H.out.ok) (fun x => hp.mem_iff.trans (HMM.out x))
          subst hys
          have hr6 : w6.heap[w.heap.size + 2]? = some rpB := (hb6.block _ (by omega)).trans HW.out.rp
          have crb6 := (hb6.cell (p := ⟨w.heap.size + 3, 0, none⟩) (by show w.heap.size + 3 < w.heap.size + 4; omega)).trans crb
          obtain ⟨⟨k0, k1, k2, k3, k4, k5⟩, g0, g1, g2, g3, g4, g5⟩ := rp_cells hr6
          have hlow : Below w.heap.size w w6 := HW.out.low.trans (hb6.mono (by omega))
          have hbig6 : w.heap.size + 4 ≤ w6.heap.size := Nat.le_trans HW.out.big hb6.size
          have hs61 : w.heap.size + 2 < w6.heap.size := by omega
          have hs62 : w.heap.size + 3 < w6.heap.size := by omega
          have hbb := rp_below hlow (g := w.heap.size + 2) (by omega) (.int .i64 0) (.string .empty) (.bool false) (.slice aq (told S C.key C.high ps qs).length cq) (.int .i64 0) (.int .i64 0)
          have hw7 : ML.Wr (rpSet w6 (w.heap.size + 2) (.int .i64 0) (.string .empty) (.bool false) (.slice aq (told S C.key C.high ps qs).length cq) (.int .i64 0) (.int .i64 0)) w.heap.size (.slice aq (told S C.key C.high ps qs).length cq) (scn S C.key C.high) :=
            wr_keep hwr (by omega) (by rw [rp_size]; exact Nat.le_refl _) (fun j hj _ => rp_else (by omega) _ _ _ _ _ _)
          have FIN : Hid (Dn w (rpSet w6 (w.heap.size + 2) (.int .i64 0) (.string .empty) (.bool false) (.slice aq (told S C.key C.high ps qs).length cq) (.int .i64 0) (.int .i64 0)) X b (some d) (S, { rows := scn S C.key C.high }) (.returned (.agg #[.int .i64 0, .string .empty, .bool false, .slice aq (told S C.key C.high ps qs).length cq, .int .i64 0, .int .i64 0]))) := xhide (by
            refine ⟨_, some d, rfl, ⟨_, rfl, ?_⟩, H.out.below hbb, Chg.below hbb, .inl rfl⟩
            by_cases hn : scn S C.key C.high = []
            · have hz := hp.length_eq
              rw [hn] at hz
              exact .inl ⟨HW.out.ac.2.2 (List.eq_nil_of_length_eq_zero hz.symm), hn⟩
            · exact .inr ⟨hn, hw7⟩)
          have HR6 := xhide hr6
          clear hr6 hlow hbb hw7 hwr hb6 hp hs HSO HW HMM HND
          go_wp2
          exact bodyPost_ret (v := .agg #[.int .i64 0, .string .empty, .bool false, .slice aq (told S C.key C.high ps qs).length cq, .int .i64 0, .int .i64 0]) (results_cell_row (p := 4) (ty := 41) rfl _ _ (w.heap.size + 2) 41 _ (0, 0) _ rfl (rp_set HR6.out _ _ _ _ _ _) Try.underlying41 rfl (by kernel_rfl)) rfl FIN.out
        · intro x cv kl yd yp w2 cnt2 hkey hlk hv hat hrg2 hlt2 hg2 hs2 hen
          obtain ⟨r, hr, rfl, rfl, rfl⟩ := entry_of (key := Ro.k) (val := Ro.val) HRD2.out HF2.out hkey hv hat
          have hC3 := xhide (step_come (key := Ro.k) HC2.out hlk hat)
          have hP3 : Hid (∀ p ∈ qs ++ [r], p ∈ S.L) := xhide (fun p hp => by
            rcases List.mem_append.1 hp with q | q
            · exact HP2.out p q
            · simp at q; rw [q]; exact hr)
          have hzr := HZR.out
          have hsc2 := HW.out.iter hg2 hzr (own_iter hrgb HW.out.ac.2.1) hlt h0b h0d
          have hkl : r.k.size ≤ maxLen := by have := (rightR_iff.1 (H.out.ok.rows r hr)).1.2; unfold maxLen; omega
          have hwm2 := hsc2.pm.wm
          rw [hws] at hwm2
          obtain ⟨d', g', ed, hMw, hFw⟩ := hwm2
          cases ed
          have hlkw := hMw.look strKeyed Try.underlying64 (zeroWr w2) (str_key hkl)
          rw [show (Lit.string r.k.data.toList) = strLit r.k from rfl, hFw.at hS] at hlkw
          obtain ⟨q0, q1, q2⟩ := hsc2.pm.cells
          have m0 : w2.cell? ⟨w.heap.size, 0, none⟩ = some (ptr X) := by rw [Go.Joins.cell_of_block hsc2.mb]; rfl
          have hal : (told S C.key C.high ps qs).length ≤ ps.length + qs.length := told_len _ _ _ _ _
          have hls : (told S C.key C.high ps qs).length + 1 ≤ big := by unfold big at *; omega
          obtain ⟨W3, hW3⟩ : ∃ W3, W3 = w2.alloc (Wr.obj (((wOf ws r.k).getD ⟨.empty, .empty, false⟩))) := ⟨_, rfl⟩
          have hb3 : Below w2.heap.size w2 W3 := by rw [hW3]; exact ML.below1 _ _
          have hsc3 := hsc2.below hb3
          have hrg3 : W3.ranges Try.prog 9 RVs b r2 S.L.length D2 (fun z => left2 z && !z.sameKey (.string r.k.data.toList)) cnt2 := by rw [hW3]; exact hrg2.alloc _
          have hno3 := own_iter hrg3 hsc3.ac.2.1
          have HSEE := xhide (see_any hsc3.pm ho hsc3.cb hsc3.mb hsc3.ac hsc3.big (by omega) hls r.k hkl)
          have CONT : Hid (∀ w5 : World, Rnd W3 w5 (w.heap.size + 3) v2 → (∃ v', Acc w5 (w.heap.size + 4) (w.heap.size + 3) v' (told S C.key C.high ps (qs ++ [r]))) →
              w5.ranges Try.prog 9 RVs b r2 S.L.length D2 (fun z => left2 z && !z.sameKey (.string r.k.data.toList)) cnt2 ∧ ∃ v', Hid (Sc w w5 X b d S C v' (told S C.key C.high ps (qs ++ [r])))) := xhide (by
            intro w5 hr5 ⟨v', ha5⟩
            have hsc5 := hsc3.rnd hr5 ha5 hlt h0b h0d
            exact ⟨ranges_same hrg3 (hr5.2 b (by have := hsc3.big; omega) (by omega) (fun q => by have := own_ge hsc3.ac.2.1 q; omega)) (hr5.2 _ hrg3.lt (by omega) hno3), v', xhide hsc5⟩)
          have HTS : Hid (told S C.key C.high ps (qs ++ [r]) = told S C.key C.high ps qs ++ seeR S C.key C.high r) := xhide (by unfold told; rw [List.flatMap_append]; simp)
          have HA3 := xhide hsc3.ac
          have hl2 := hsc2.pm.lt
          have hws' : S.ws.getD [] = ws := by rw [hws]; rfl
          clear hsc2 hsc3 hno3 HW HC2 HP2 hr hkey hv hat hrg2 hg2 hs2 hlk hkl hal hls hzr hMw hFw hb3 hrg3
          cases hq : wOf ws r.k with
          | some x =>
            have HSR : Hid (seeR S C.key C.high r = []) := xhide (by unfold seeR; rw [hws', hq]; rfl)
            rw [hq] at hlkw hW3
            simp only [Option.map_some, Option.getD_some, Option.isSome_some] at hlkw hW3
            obtain ⟨hrg5, v', HW5⟩ := CONT.out W3 (Rnd.below (Below.refl _ _)) ⟨v2, by rw [HTS.out, HSR.out, List.append_nil]; exact HA3.out⟩
            clear CONT HSEE HA3 HTS HSR
            subst hW3
            go_wp2
            go_roundw
            case rel => exact ⟨_, cnt2, qs ++ [r], v', hrg5, by simp; omega, hC3, hP3, HW5⟩
            case measure => rw [hrg5.left_eq, hrgb.left_eq]; exact hlt2
          | none =>
            have HSR : Hid (seeR S C.key C.high r = seeL S C.key C.high r.k) := xhide (by unfold seeR; rw [hws', hq]; rfl)
            rw [hq] at hlkw hW3
            simp only [Option.map_none, Option.getD_none, Option.isSome_none] at hlkw hW3
            clear HA3
            subst hW3
            go_wp2_with fail
            refine HSEE.out.mono ?_
            rintro e w5 ⟨rfl, hr5, ha5⟩
            obtain ⟨hrg5, v', HW5⟩ := CONT.out w5 hr5 (by rw [HTS.out, HSR.out]; exact ha5)
            clear hr5 ha5 CONT HSEE HTS HSR
            go_wp2
            go_roundw
            case rel => exact ⟨_, cnt2, qs ++ [r], v', hrg5, by simp; omega, hC3, hP3, HW5⟩
            case measure => rw [hrg5.left_eq, hrgb.left_eq]; exact hlt2
    · intro x cv kl yd yp w2 cnt2 hkey hlk hv hat hrg2 hlt2 hg2 hs2 hen
      obtain ⟨r, hr, rfl, rfl, rfl⟩ := entry_of (key := Wr.key) (val := Wr.w) HRD.out HF.out hkey hv hat
      have hC2 := xhide (step_come (key := Wr.key) HC.out hlk hat)
      have hP2 : Hid (∀ p ∈ ps ++ [r], p ∈ ws) := xhide (fun p hp => by
        rcases List.mem_append.1 hp with q | q
        · exact HP.out p q
        · simp at q; rw [q]; exact hr)
      have hz5 := HZ5.out
      have hsc2 := HW.out.iter hg2 (by omega) (own_iter hrg HW.out.ac.2.1) hlt h0b h0d
      have hno2 := own_iter hrg2 hsc2.ac.2.1
      have hkl : r.key.size ≤ maxLen := by have := (okW_iff.1 (hwk r hr)).1.2; unfold maxLen; omega
      have hal : (ps.flatMap fun p => seeL S C.key C.high p.key).length ≤ ps.length := flat_one _ (fun p => seeL_len _ _ _ _) ps
      have HSEE := xhide (see_any hsc2.pm ho hsc2.cb hsc2.mb hsc2.ac hsc2.big (by omega) (by unfold big at *; omega) r.key hkl)
      have CONT : Hid (∀ w5 : World, Rnd w2 w5 (w.heap.size + 3) v → (∃ v', Acc w5 (w.heap.size + 4) (w.heap.size + 3) v' ((ps.flatMap fun p => seeL S C.key C.high p.key) ++ seeL S C.key C.high r.key)) →
          w5.ranges Try.prog 9 RVs d W5.heap.size ws.length D (fun z => left z && !z.sameKey (.string r.key.data.toList)) cnt2 ∧ ∃ v', Hid (Sc w w5 X b d S C v' ((ps ++ [r]).flatMap fun p => seeL S C.key C.high p.key))) := xhide (by
        intro w5 hr5 ⟨v', ha5⟩
        have hsc5 := hsc2.rnd hr5 ha5 hlt h0b h0d
        refine ⟨ranges_same hrg2 (hr5.2 d (by have := hsc2.big; omega) (by omega) (fun q => by have := own_ge hsc2.ac.2.1 q; omega)) (hr5.2 _ hrg2.lt (by omega) hno2), v', xhide ?_⟩
        rw [List.flatMap_append]
        simpa using hsc5)
      clear hsc2 hno2 HW HC HP hr hkey hv hat hrg2 hg2 hs2 hlk hkl hal hz5
      go_wp2_with fail
      refine HSEE.out.mono ?_
      rintro e w5 ⟨rfl, hr5, ha5⟩
      obtain ⟨hrg5, v', HW5⟩ := CONT.out w5 hr5 ha5
      clear hr5 ha5 CONT HSEE
      go_wp2
      go_roundw
      case rel => exact ⟨_, cnt2, ps ++ [r], v', hrg5, by simp; omega, hC2, hP2, HW5⟩
      case measure => rw [hrg5.left_eq, hrg.left_eq]; exact hlt2
end
end Go.Proofs.Ytheidhkmmihjlaa

/-
  XmA: The table of what calls do.
-/
set_option linter.unusedVariables false
set_option linter.unusedSimpArgs false
namespace Go.Proofs.Ytheidhkmmihjlaa
open Go.RowKit Go.Shelf Go.Maps
attribute [local go_sem] Oper.semAt_some
/-- The table's cells. -/
def tblL : List Value := [.nilFunc, .nilFunc, .nilFunc, .nilFunc, .nilFunc, .func (.func 45) #[] #[], .func (.func 46) #[] #[], .nilFunc, .nilFunc, .func (.func 47) #[] #[], .func (.func 48) #[] #[], .func (.func 49) #[] #[], .nilFunc, .nilFunc, .func (.func 50) #[] #[], .func (.func 48) #[] #[], .func (.func 51) #[] #[], .nilFunc, .nilFunc, .func (.func 52) #[] #[], .func (.func 48) #[] #[], .func (.func 49) #[] #[], .func (.func 53) #[] #[], .func (.func 54) #[] #[], .func (.func 55) #[] #[], .func (.func 48) #[] #[], .func (.func 49) #[] #[], .func (.func 53) #[] #[], .func (.func 56) #[] #[], .func (.func 55) #[] #[], .func (.func 48) #[] #[], .func (.func 49) #[] #[], .func (.func 56) #[] #[], .nilFunc, .func (.func 57) #[] #[], .func (.func 48) #[] #[], .nilFunc, .nilFunc, .nilFunc, .func (.func 58) #[] #[], .func (.func 48) #[] #[], .nilFunc, .nilFunc, .nilFunc, .func (.func 59) #[] #[], .func (.func 45) #[] #[], .nilFunc, .nilFunc, .nilFunc, .func (.func 60) #[] #[], .func (.func 45) #[] #[], .nilFunc, .nilFunc, .nilFunc, .func (.func 60) #[] #[], .func (.func 45) #[] #[], .nilFunc, .nilFunc, .nilFunc, .func (.func 60) #[] #[]]
def tbl : Array Value := tblL.toArray
def nil60 : Array Value := Array.replicate 60 .nilFunc
section
set_option maxHeartbeats 1000000
set_option maxRecDepth 100000
variable {w : World}
theorem deeds_any (w : World) : Calls Try.prog 34 #[] w fun e w' => e = .returned (.agg tbl) ∧ Below w.heap.size w w' := by
  have hg : (w.alloc (.cells nil60 77)).heap[w.heap.size]? = some (.cells nil60 77 (0, 0)) := heap_alloc_new _ _
  go_enter Try.func34, Try.ntmps34
  go_wp2_with (first
    | (refine wpList_store_row rfl 77 (Operand.tmp 0) (Operand.tmp 23) rfl w.heap.size tbl rfl rfl 77 nil60 ?_ ?_ rfl ?_ ?_
       · exact hg
       · kernel_rfl
       · kernel_rfl)
    | fail)
  refine bodyPost_ret (v := .agg tbl) (results_cell_row (p := 0) (ty := 77) rfl _ _ w.heap.size 77 tbl (0, 0) _ rfl (setRow_heap _ _ _ _ _ _ hg) Try.underlying77 rfl (by kernel_rfl)) rfl ⟨rfl, ?_⟩
  exact row_below (ML.below1 w (.cells nil60 77)) (Nat.le_refl _) tbl
theorem do_nil (w : World) (C : Cl) : Calls Try.prog 13 #[.pointer none, C.v] w fun e w' => e = .returned (rp0 1 .empty false 0) ∧ Below w.heap.size w w' := by
  have HN := xhide none_nil
  go_enter Try.func13, Try.ntmps13
  go_wp2_with fail
  refine (HN.out _).mono ?_
  rintro e w1 ⟨rfl, rfl⟩
  go_wp2
  refine bodyPost_ret (v := rp0 1 .empty false 0) (results_cell_row (p := 4) (ty := 41) rfl _ _ (w.heap.size + 1) 41 _ (0, 0) _ rfl (ML.heap_alloc_at (by simp) _) Try.underlying41 rfl (by kernel_rfl)) rfl ?_
  exact ⟨rfl, ML.below2 _ _ _⟩
variable {X b : Nat} {c : Option Nat} {S : Ms} {C : Cl}
theorem do_bad (h : Pm w X b c S) (hk : C.kind < 1 ∨ 11 < C.kind) : Calls Try.prog 13 #[ptr X, C.v] w fun e w' => Dn w w' X b c (S, { code := 151 }) e := by
  have hb := ML.below2 w C.obj rpB
  have HN := xhide (none_any (h.below hb))
  have H := xhide h
  clear h
  rcases (show C.kind < 1 ∨ 1 ≤ C.kind by omega) with d1 | d1
  · go_enter Try.func13, Try.ntmps13
    go_wp2_with fail
    refine HN.out.mono ?_
    rintro e w1 ⟨rfl, rfl⟩
    go_wp2
    refine bodyPost_ret (v := rp0 151 .empty false 0) (results_cell_row (p := 4) (ty := 41) rfl _ _ (w.heap.size + 1) 41 _ (0, 0) _ rfl (ML.heap_alloc_at (by simp) _) Try.underlying41 rfl (by kernel_rfl)) rfl ?_
    have hb' := ML.below2 w C.obj (.cells (rpA 151 .empty false (.slice none 0 0) 0) 41)
    exact ⟨_, c, rfl, rpv0 _ _ _ _ _ _, H.out.below hb', Chg.below hb', .inl rfl⟩
  · have d2 : 11 < C.kind := by omega
    have d3 : ¬ C.kind < 1 := by omega
    go_enter Try.func13, Try.ntmps13
    go_wp2_with fail
    refine HN.out.mono ?_
    rintro e w1 ⟨rfl, rfl⟩
    go_wp2
    refine bodyPost_ret (v := rp0 151 .empty false 0) (results_cell_row (p := 4) (ty := 41) rfl _ _ (w.heap.size + 1) 41 _ (0, 0) _ rfl (ML.heap_alloc_at (by simp) _) Try.underlying41 rfl (by kernel_rfl)) rfl ?_
    have hb' := ML.below2 w C.obj (.cells (rpA 151 .empty false (.slice none 0 0) 0) 41)
    exact ⟨_, c, rfl, rpv0 _ _ _ _ _ _, H.out.below hb', Chg.below hb', .inl rfl⟩
end
end Go.Proofs.Ytheidhkmmihjlaa

/-
  Xm9: New; Rows; Time.
-/
set_option linter.unusedVariables false
set_option linter.unusedSimpArgs false
namespace Go.Proofs.Ytheidhkmmihjlaa
open Go.RowKit Go.Shelf Go.Maps
open ML (Ro RS Rr rc Srt nless fstOf Fst strLit strLit_inj setL setL_same setL_other delL delL_same delL_other od nl_irr nl_tr nl_tot Mg Rdg RVs strKeyed str_key turned_below zeroRo)
attribute [local go_sem] Oper.semAt_some

def maxT (L : List Ro) : Int := L.foldl (fun t r => max t r.t) 0
def prevK' (L : List Ro) (k : Nat) : ByteArray := if k = 0 then ⟨#[]⟩ else (L[k - 1]?.map Ro.k).getD ⟨#[]⟩
theorem okAt_is {L : List Ro} {k : Nat} {x : Ro} (h : L[k]? = some x) : okAt L k = (isK x.k && isV x.v && isT x.t && nless (prevK' L k) x.k) := by
  unfold okAt prevK'
  rw [h]
  simp only []
  show (rightR (roW x) && _) = _
  unfold rightR
  by_cases hk : k = 0
  · subst hk
    have e : nless ⟨#[]⟩ x.k = decide (1 ≤ x.k.size) := slt_empty x.k
    simp only [decide_true, Bool.true_or, Bool.and_true, if_true]
    rw [e]
    unfold isK
    cases decide (1 ≤ x.k.size) <;> simp
  · obtain ⟨y, hy⟩ := some_at (l := L) (i := k - 1) rfl (by have := (List.getElem?_eq_some_iff.1 h).1; omega)
    rw [hy]
    simp [hk]
theorem okTo_take {L : List Ro} {n : Nat} (h : okTo L n = true) (hn : n ≤ L.length) : okTo (L.take n) (L.take n).length = true := by
  have e : (L.take n).length = n := by rw [List.length_take]; omega
  rw [e]
  unfold okTo at h ⊢
  rw [List.all_eq_true] at h ⊢
  intro i hi
  have h1 := h i hi
  have h2 := List.mem_range.1 hi
  unfold okAt at h1 ⊢
  rw [List.getElem?_take_of_lt h2]
  by_cases hk : i = 0
  · simpa [hk] using h1
  · rw [List.getElem?_take_of_lt (by omega)]
    exact h1
theorem maxT_snoc (L : List Ro) (x : Ro) : maxT (L ++ [x]) = max (maxT L) x.t := by unfold maxT; rw [List.foldl_append]; rfl
theorem maxT_ok {L : List Ro} (h : ∀ r ∈ L, rightR (roW r) = true) : isT (maxT L) = true := by
  have key : ∀ (l : List Ro) (t : Int), (∀ r ∈ l, rightR (roW r) = true) → isT t = true → isT (l.foldl (fun t r => max t r.t) t) = true := by
    intro l
    induction l with
    | nil => intro t _ h; exact h
    | cons a l ih =>
      intro t h1 h2
      refine ih _ (fun r hr => h1 r (List.mem_cons_of_mem _ hr)) ?_
      have h3 := (rightR_iff.1 (h1 a List.mem_cons_self)).2.2
      have h4 := isT_iff.1 h2
      show isT (max t a.t) = true
      exact isT_iff.2 ⟨by omega, by omega⟩
  exact key L 0 h rfl
theorem okTo_ok {L : List Ro} (h : okTo L L.length = true) : (⟨L, maxT L, none⟩ : Ms).ok := by
  have hr : ∀ r ∈ L, rightR (roW r) = true := fun r hr => by
    obtain ⟨i, hi, rfl⟩ := List.getElem_of_mem hr
    have h1 := okTo_at h hi
    unfold okAt at h1
    rw [List.getElem?_eq_getElem hi] at h1
    simp only [Bool.and_eq_true] at h1
    exact h1.1
  exact ⟨okTo_srt h, hr, maxT_ok hr, fun ws e => by cases e⟩
section
set_option maxHeartbeats 1000000
set_option maxRecDepth 100000
variable {w : World} {X b : Nat} {c : Option Nat} {S : Ms} {ao : Option Addr} {len cap : Nat} {L : List Ro}
theorem time_any (h : Pm w X b c S) : Calls Try.prog 18 #[ptr X] w fun e w' => e = .returned (.int .i64 S.t) ∧ w' = w := by
  obtain ⟨c0, c1, c2⟩ := h.cells
  have HN := xhide (none_any h)
  clear h
  go_enter Try.func18, Try.ntmps18
  go_wp2_with fail
  refine HN.out.mono ?_
  rintro e w1 ⟨rfl, rfl⟩
  go_wp2
  go_ret
  exact ⟨rfl, rfl⟩
theorem rows_any (h : Pm w X b c S) (hL : S.L.length ≤ big) : Calls Try.prog 16 #[ptr X] w fun e w' => ∃ v, e = .returned v ∧ ML.Wr w' w.heap.size v S.L ∧ Below w.heap.size w w' := by
  obtain ⟨c0, c1, c2⟩ := h.cells
  have HN := xhide (none_any h)
  obtain ⟨f, hM, hF⟩ := h.rm
  have HV := xhide (ML.values_any (some b) w)
  obtain ⟨W1, hW1⟩ : ∃ W1, W1 = w.alloc (.cells #[.map (some b)] 63) := ⟨_, rfl⟩
  have hb1 : Below w.heap.size w W1 := by rw [hW1]; exact ML.below1 _ _
  have hm1 : W1.cell? ⟨w.heap.size, 0, none⟩ = some (.map (some b)) := by rw [hW1, Go.Joins.cell_of_block (heap_alloc_new _ _)]; rfl
  have hz1 : W1.heap.size = w.heap.size + 1 := by rw [hW1]; simp
  have hS := h.ok.srt
  have hall : ∀ xs, ML.AllR S.L xs → xs.length ≤ 3518437208883 := fun xs hx => by
    have np : xs.Nodup := List.Pairwise.of_map Ro.k (fun a b h e => h (by rw [e])) hx.1
    have nl : S.L.Nodup := List.Pairwise.of_map Ro.k (fun a b h e => h (by rw [e])) (srt_nd hS)
    have hp := (List.perm_ext_iff_of_nodup np nl).2 (fun r => (hx.2 r).trans ((fst_iff hS).trans ⟨fun q => q.1, fun q => ⟨q, rfl⟩⟩))
    rw [hp.length_eq]
    exact hL
  have HS := xhide (ML.sortedFunc_any w.heap.size b S.L.length (hF.fst hS) W1 (by omega) hm1 (hM.same (hb1.block _ hM.lt)) (by unfold big at hL; omega) hall)
  have HB1 := xhide hb1
  clear h hM hF hb1 hall
  go_enter Try.func16, Try.ntmps16
  go_wp2_with fail
  refine HN.out.mono ?_
  rintro e w1 ⟨rfl, rfl⟩
  go_wp2_with fail
  refine HV.out.mono ?_
  rintro e w2 ⟨rfl, hw2⟩
  rw [← hW1] at hw2
  clear hW1
  subst hw2
  go_wp2_with fail
  refine HS.out.mono ?_
  rintro e w3 ⟨v, ys, rfl, hys, hmem, hwr, hb3⟩
  have hyl : ys = S.L := Ck.Ris.eq od hys hS fun r => (hmem r).trans ((fst_iff hS).trans ⟨fun q => q.1, fun q => ⟨q, rfl⟩⟩)
  subst hyl
  have hwr' := hwr
  obtain ⟨aq, cq, ev, _⟩ := hwr
  subst ev
  go_wp2
  go_ret
  exact ⟨_, rfl, wr_keep hwr' (by omega) (Nat.le_refl _) (fun _ _ _ => rfl), HB1.out.trans (hb3.mono (by omega))⟩
theorem new_any (h : RS w ao len cap L) (hl : len ≤ 1000000000000000) : Calls Try.prog 9 #[.slice ao len cap] w fun e w' => Below w.heap.size w w' ∧
    ((okTo L L.length = false ∧ e = .returned (.tuple #[.pointer none, .int .i64 180])) ∨
     (okTo L L.length = true ∧ ∃ X b, e = .returned (.tuple #[ptr X, .int .i64 0]) ∧ Pm w' X b none ⟨L, maxT L, none⟩ ∧ w.heap.size ≤ X ∧ w.heap.size ≤ b)) := by
  obtain rfl := h.1
  have hmx : (L.length : Int) ≤ 9223372036854775807 := by omega
  have hmm : (Instr.makeMap 63 (some (.int .i64 (L.length : Int)))).run Try.prog w = .ok (.map (some w.heap.size)) (w.alloc (.map #[] 0)) := by kernel_rfl
  have HA := xhide h
  have HK := xhide (fun s w => mKey_any s w)
  have HV := xhide (fun s w => mVal_any s w)
  have HT := xhide (fun s w => mTime_any s w)
  have HS0 : Hid (Pm ((w.alloc (.map #[] 0)).alloc (.cells #[.map (some w.heap.size), .int .i64 0, .map none] 66)) (w.heap.size + 1) w.heap.size none ⟨L.take 0, maxT (L.take 0), none⟩ ∧ Below w.heap.size w ((w.alloc (.map #[] 0)).alloc (.cells #[.map (some w.heap.size), .int .i64 0, .map none] 66))) := xhide (by
    refine ⟨⟨ML.heap_alloc_at (by simp) _, ⟨List.Pairwise.nil, by simp, by simp [maxT, isT], fun ws e => by cases e⟩, ⟨fun _ => none, ?_, by simpa using Fm.nil⟩, rfl, by simp, nofun, nofun⟩, ML.below2 _ _ _⟩
    exact (Mg.made (q := 0)).same (Below.heap_alloc _ _ _ (by simp)))
  clear h
  go_enter Try.func9, Try.ntmps9
  go_wp2_with fail
  go_loopw [15, 5] (fun i a wr => ∃ k : Nat, k ≤ L.length ∧ i = .int .i64 (k : Nat) ∧ a = .string (prevK' L k) ∧ Hid (okTo L k = true) ∧ Hid (Pm wr (w.heap.size + 1) w.heap.size none ⟨L.take k, maxT (L.take k), none⟩ ∧ Below w.heap.size w wr)) (fun i _ _ => L.length - (intOf i).toNat)
  case atStart => exact ⟨0, by omega, rfl, rfl, xhide rfl, HS0⟩
  case round =>
    obtain ⟨k, hk, rfl, rfl, HO, HS⟩ := hrel
    clear HS0 hmm
    by_cases hlt : k < L.length
    · obtain ⟨x, hx⟩ := some_at rfl hlt
      obtain ⟨hP, hB⟩ := HS.out
      obtain ⟨g, off, rfl, hgl, hc⟩ := ML.RS.at HA.out (by omega)
      have c0 := (hB.cell (p := ⟨g, off + k * 3, none⟩) hgl).trans (hc k x hx).1
      have c1 := (hB.cell (p := ⟨g, off + k * 3 + 1, none⟩) hgl).trans (hc k x hx).2.1
      have c2 := (hB.cell (p := ⟨g, off + k * 3 + 2, none⟩) hgl).trans (hc k x hx).2.2
      have d1 : (k : Int) < (L.length : Int) := by omega
      have hat := okAt_is hx
      have HBW : Hid (Below w.heap.size w (wr.alloc (.cells #[.string x.k, .string x.v, .int .i64 x.t] 45))) := xhide (hB.trans ((ML.below1 wr _).mono hB.size))
      have hfl := nl_flip x.k (prevK' L k)
      clear hc hB
      obtain ⟨xk, xv, xt⟩ := x
      simp only [] at c0 c1 c2 hat hfl
      cases e1 : isK xk with
      | false =>
        have HN := xhide (okTo_bad hlt (by rw [hat]; simp [e1]))
        go_wp2_with (first
          | (go_at_call 25; refine (HK.out _ _).mono ?_; rintro e w' ⟨rfl, rfl⟩; rw [e1])
          | fail)
        go_ret2
        exact ⟨HBW.out, .inl ⟨HN.out, rfl⟩⟩
      | true =>
        cases e2 : isV xv with
        | false =>
          have HN := xhide (okTo_bad hlt (by rw [hat]; simp [e1, e2]))
          go_wp2_with (first
            | (go_at_call 25; refine (HK.out _ _).mono ?_; rintro e w' ⟨rfl, rfl⟩; rw [e1])
            | (go_at_call 26; refine (HV.out _ _).mono ?_; rintro e w' ⟨rfl, rfl⟩; rw [e2])
            | fail)
          go_ret2
          exact ⟨HBW.out, .inl ⟨HN.out, rfl⟩⟩
        | true =>
          cases e3 : isT xt with
          | false =>
            have HN := xhide (okTo_bad hlt (by rw [hat]; simp [e1, e2, e3]))
            go_wp2_with (first
              | (go_at_call 25; refine (HK.out _ _).mono ?_; rintro e w' ⟨rfl, rfl⟩; rw [e1])
              | (go_at_call 26; refine (HV.out _ _).mono ?_; rintro e w' ⟨rfl, rfl⟩; rw [e2])
              | (go_at_call 27; refine (HT.out _ _).mono ?_; rintro e w' ⟨rfl, rfl⟩; rw [e3])
              | fail)
            go_ret2
            exact ⟨HBW.out, .inl ⟨HN.out, rfl⟩⟩
          | true =>
            cases e4 : nless (prevK' L k) xk with
            | false =>
              rw [e4] at hfl
              have HN := xhide (okTo_bad hlt (by rw [hat]; simp [e1, e2, e3, e4]))
              go_wp2_with (first
                | (go_at_call 25; refine (HK.out _ _).mono ?_; rintro e w' ⟨rfl, rfl⟩; rw [e1])
                | (go_at_call 26; refine (HV.out _ _).mono ?_; rintro e w' ⟨rfl, rfl⟩; rw [e2])
                | (go_at_call 27; refine (HT.out _ _).mono ?_; rintro e w' ⟨rfl, rfl⟩; rw [e3])
                | fail)
              go_ret2
              exact ⟨HBW.out, .inl ⟨HN.out, rfl⟩⟩
            | true =>
              rw [e4] at hfl
              have hok1 : okTo L (k + 1) = true := by rw [okTo_succ, HO.out, hat, e1, e2, e3, e4]; rfl
              have hok2 := okTo_ok (okTo_take hok1 (by omega))
              have HTS := xhide (ML.take_snoc hx)
              have HO1 := xhide hok1
              have hpk : prevK' L (k + 1) = xk := by unfold prevK'; simp [hx]
              go_wp2_with (first
                | (go_at_call 25; refine (HK.out _ _).mono ?_; rintro e w' ⟨rfl, rfl⟩; rw [e1])
                | (go_at_call 26; refine (HV.out _ _).mono ?_; rintro e w' ⟨rfl, rfl⟩; rw [e2])
                | (go_at_call 27; refine (HT.out _ _).mono ?_; rintro e w' ⟨rfl, rfl⟩; rw [e3])
                | fail)
              obtain ⟨W3, hW3⟩ : ∃ W3, W3 = wr.alloc (.cells #[.string xk, .string xv, .int .i64 xt] 45) := ⟨_, rfl⟩
              rw [← hW3]
              rw [← hW3] at HBW
              have hb3 : Below wr.heap.size wr W3 := by rw [hW3]; exact ML.below1 _ _
              have hP3 := hP.below hb3
              have hc : W3.heap[wr.heap.size]? = some (.cells #[.string xk, .string xv, .int .i64 xt] 45 (0, 0)) := by rw [hW3]; exact ML.heap_alloc_at rfl _
              have z0 : W3.cell? ⟨wr.heap.size, 0, none⟩ = some (.string xk) := by rw [Go.Joins.cell_of_block hc]; rfl
              have z1 : W3.cell? ⟨wr.heap.size, 1, none⟩ = some (.string xv) := by rw [Go.Joins.cell_of_block hc]; rfl
              have z2 : W3.cell? ⟨wr.heap.size, 2, none⟩ = some (.int .i64 xt) := by rw [Go.Joins.cell_of_block hc]; rfl
              have hlw3 : wr.heap.size < W3.heap.size := (Array.getElem?_eq_some_iff.1 hc).1
              obtain ⟨x0, x1, x2⟩ := hP3.cells
              have hlX := hP3.lt
              obtain ⟨f, hM, hF⟩ := hP3.rm
              have hwl := hP.ltb
              have hkl : xk.size ≤ maxLen := by have := (isK_iff.1 e1).2; unfold maxLen; omega
              have hlen : (L.take k).length ≤ 1000000000000000 := by rw [List.length_take]; omega
              obtain ⟨w4, hrun, hM4, ht4⟩ := (hM.same (w' := W3.drew) rfl).store (f' := setL f (strLit xk) (Ro.val ⟨xk, xv, xt⟩)) strKeyed Try.underlying63 (by unfold maxLen; simp only [] at hlen ⊢; omega) (str_key hkl) (Ro.val ⟨xk, xv, xt⟩) setL_same (fun m hm => setL_other hm)
              have hX4 : w4.heap[w.heap.size + 1]? = W3.heap[w.heap.size + 1]? := turned_block ht4 (by omega)
              have hR4 : w4.heap[wr.heap.size]? = W3.heap[wr.heap.size]? := turned_block ht4 (by omega)
              have hz4' : w4.heap.size = W3.drew.heap.size := turned_size ht4
              have hz4 : w4.heap.size = W3.heap.size := hz4'
              clear hz4'
              have v1 : w4.cell? ⟨w.heap.size + 1, 1, none⟩ = some (.int .i64 (maxT (L.take k))) := (World.cell?_of_block hX4).trans x1
              have v2 : w4.frozen? ⟨w.heap.size + 1, 1, none⟩ = false := Go.Joins.unfrozen_of_block (hX4.trans hP3.blk) 1
              have v3 : w4.cell? ⟨wr.heap.size, 2, none⟩ = some (.int .i64 xt) := (World.cell?_of_block hR4).trans z2
              have hl4 : wr.heap.size < w4.heap.size := by omega
              have hl5 : w.heap.size + 1 < w4.heap.size := by omega
              have hne : ∀ r ∈ L.take k, r.k ≠ xk := by
                intro r hr e
                have hs := hok2.srt
                simp only [] at hs
                rw [HTS.out] at hs
                have := (List.pairwise_append.1 hs).2.2 r hr ⟨xk, xv, xt⟩ (by simp)
                simp only [] at this
                rw [e, nl_irr] at this; cases this
              have NX : Hid (∀ u, u = w4.setCell ⟨w.heap.size + 1, 1, none⟩ (.int .i64 (max (maxT (L.take k)) xt)) → Pm u (w.heap.size + 1) w.heap.size none ⟨L.take (k + 1), maxT (L.take (k + 1)), none⟩ ∧ Below w.heap.size w u) := xhide (by
                rintro u rfl
                have hbl : (w4.setCell ⟨w.heap.size + 1, 1, none⟩ (.int .i64 (max (maxT (L.take k)) xt))).heap[w.heap.size]? = w4.heap[w.heap.size]? := set_else (by omega)
                have hF' : Fm (L.take (k + 1)) (setL f (strLit xk) (Ro.val ⟨xk, xv, xt⟩)) := by rw [HTS.out]; exact Fm.snoc (x := ⟨xk, xv, xt⟩) hF hne
                refine ⟨⟨?_, hok2, ⟨_, (Mg.tight (hM4.same hbl) hF' hok2.srt), hF'⟩, rfl, by simp, nofun, nofun⟩, ?_⟩
                · rw [HTS.out, maxT_snoc]
                  exact (Go.Joins.block_setCell (hX4.trans hP3.blk) _).trans rfl
                · have b4 : Below w.heap.size W3.drew w4 := turned_below ht4 (Below.refl _ _) (Nat.le_refl _)
                  have b5 : Below w.heap.size W3 w4 := ⟨b4.os, b4.tape, b4.output, b4.size, b4.block⟩
                  exact (HBW.out.trans b5).setCell (p := ⟨w.heap.size + 1, 1, none⟩) (by show w.heap.size ≤ w.heap.size + 1; omega) _)
              clear hP HS hP3 hM hF hM4 ht4 hX4 hR4 hz4 hok2 hne hb3 hc hok1 hfl hat hx HBW hW3
              go_region
              all_goals
                go_wp2
                go_region
                all_goals
                  go_wp2
                  obtain ⟨n1, n2⟩ := NX.out _ rfl
                  exact ⟨⟨k + 1, by omega, by go_num, by rw [hpk], HO1, xhide ⟨n1.keep rfl rfl nofun, n2.drew⟩⟩, by simp [intOf]; omega⟩
    · have e1 : k = L.length := by omega
      subst e1
      have d1 : ¬ (L.length : Int) < (L.length : Int) := by omega
      go_wp2
      go_ret2
      have hP := HS.out
      rw [List.take_length] at hP
      exact ⟨hP.2, .inr ⟨HO.out, w.heap.size + 1, rfl, w.heap.size, hP.1, by omega, Nat.le_refl _⟩⟩
end
end Go.Proofs.Ytheidhkmmihjlaa

/-
  XmI: The document's example, without memory.
-/
set_option linter.unusedVariables false
set_option linter.unusedSimpArgs false
namespace Go.Proofs.Ytheidhkmmihjlaa
open ML (Ro Srt nless fstOf)
def bA : ByteArray := ⟨#[97]⟩
def bB : ByteArray := ⟨#[98]⟩
def bX : ByteArray := ⟨#[120]⟩
def bY : ByteArray := ⟨#[121]⟩
def z0 : ByteArray := ⟨#[]⟩
theorem n_ab : nless bA bB = true := by unfold nless bA bB; rw [ByteArray.toList_eq, ByteArray.toList_eq]; rfl
theorem n_ba : nless bB bA = false := by unfold nless bA bB; rw [ByteArray.toList_eq, ByteArray.toList_eq]; rfl
theorem n_aa : nless bA bA = false := ML.nl_irr _
theorem n_bz : nless bB z0 = false := by unfold nless bB z0; rw [ByteArray.toList_eq, ByteArray.toList_eq]; rfl
theorem e_ab : (bA = bB) = False := by simp [bA, bB]
theorem e_ba : (bB = bA) = False := by simp [bA, bB]
def T0 : Ms := ⟨[⟨bA, bX, 5⟩], 5, none⟩
def T1 : Ms := ⟨[⟨bA, bX, 5⟩], 5, some []⟩
def T2 : Ms := ⟨[⟨bA, bX, 5⟩], 5, some [⟨bB, bY, false⟩]⟩
def T3 : Ms := ⟨[⟨bA, bX, 5⟩], 5, some [⟨bA, .empty, true⟩, ⟨bB, bY, false⟩]⟩
def T4 : Ms := ⟨[⟨bB, bY, 6⟩], 6, none⟩
theorem s_z0 : z0.size = 0 := rfl
theorem s_zA : bA.size = 1 := rfl
theorem s_zB : bB.size = 1 := rfl
theorem s_zY : bY.size = 1 := rfl
theorem t1 : stp T0 ⟨2, 0, bA, z0, z0, 0, 0⟩ = (T0, { code := 152 }) := by simp [stp, wrg, fst0, T0]
theorem t2 : stp T0 ⟨1, 1, z0, z0, z0, 0, 0⟩ = (T1, {}) := by simp [stp, wrg, fst0, T0, T1, badM, ans]
theorem t3 : stp T1 ⟨2, 0, bA, z0, z0, 0, 0⟩ = (T1, { val := bX, found := true }) := by simp [stp, wrg, fst0, T1, ans, isK, s_zA, look, wOf, fstOf]
theorem t4 : stp T1 ⟨4, 0, bA, z0, z0, 0, 0⟩ = (T1, { code := 156 }) := by simp [stp, wrg, fst0, T1, ans, isK, isV, s_zA, look, wOf, fstOf, s_z0]
theorem t5 : stp T1 ⟨4, 0, bB, z0, bY, 0, 0⟩ = (T2, {}) := by simp [stp, wrg, fst0, T1, T2, ans, isK, isV, s_zB, s_zY, look, wOf, fstOf, wrt, putW, Ck.put, e_ab]
theorem t6 : stp T2 ⟨6, 0, bA, z0, z0, 0, 0⟩ = (T3, {}) := by simp [stp, wrg, fst0, T2, T3, ans, isK, isV, s_zA, look, wOf, fstOf, wrt, putW, Ck.put, e_ba, n_ba]
theorem t7 : stp T3 ⟨3, 0, z0, z0, z0, 0, 0⟩ = (T3, { rows := [⟨bB, bY, 0⟩] }) := by
  simp [stp, wrg, fst0, T3, ans, badS, s_z0, scn, now, doneW, doneD, zt, n_aa, n_ab, newR, cutK, ins, n_bz]
theorem t8 : stp T3 ⟨11, 0, z0, z0, z0, 0, 0⟩ = (T3, { code := 153 }) := by simp [stp, wrg, fst0, T3]
theorem t9 : stp T3 ⟨7, 0, z0, z0, z0, 0, 0⟩ = (T4, { time := 6 }) := by
  simp [stp, wrg, fst0, T3, T4, ans, cmt, isT, doneW, doneD, n_aa, n_ab, newR, cutK]
end Go.Proofs.Ytheidhkmmihjlaa
