/-
  Xm5: A write that stands; CCommit.
-/
import Derived.Test.YtheidhkmmihjlaaXm4
import Derived.Maps.RangeWalk
set_option linter.unusedVariables false
set_option linter.unusedSimpArgs false
namespace Go.Proofs.Ytheidhkmmihjlaa
open Go.RowKit Go.Shelf Go.Maps
open ML (Ro RS Srt nless fstOf Fst strLit strLit_inj setL setL_same setL_other delL delL_same delL_other od nl_irr nl_tr nl_tot Mg Rdg RVs strKeyed str_key turned_below zeroRo)
attribute [local go_sem] Oper.semAt_some

theorem doneD_ok {S : Ms} (h : S.ok) {x : Wr} (hx : okW x = true) : (⟨doneD S.L x S.t, S.t, S.ws⟩ : Ms).ok := by
  have h1 := done_ok (ws := [x]) h.srt h.rows h.tm (List.pairwise_singleton _ _) (fun w hw => by simp at hw; rw [hw]; exact hx)
  exact ⟨h1.srt, h1.rows, h.tm, h.wsrt⟩
/-! ### A map that is gone through -/
section
variable {α : Type} {key : α → ByteArray} {val : α → Value} {D : DataW Value} {f : Lit → Option Value} {xs ps : List α} {left : Lit → Bool}
def View (key : α → ByteArray) (val : α → Value) (f : Lit → Option Value) (xs : List α) : Prop := ∀ l v, f l = some v ↔ ∃ x ∈ xs, l = strLit (key x) ∧ v = val x
theorem entry_of (hr : Rdg D f) (hf : View key val f xs) {x : List UInt8} {c : Value} {kl : Lit} {y : DataW Value × List MemPlace} (hkey : keyOf Try.prog 9 (encStr x) = some kl) (hv : RVs c = some y) (hat : ∀ z, D.atKey kl z = y.1) :
    ∃ r ∈ xs, x = (key r).data.toList ∧ c = val r ∧ kl = .string (key r).data.toList := by
  obtain ⟨x', ex, rfl, _⟩ := Maps.keyOf_str Try.underlying9 hkey
  obtain rfl : x = x' := encStr_inj ex
  obtain ⟨yd, yp⟩ := y
  obtain ⟨rfl, rfl⟩ : yd = .held c ∧ yp = [] := by
    simp only [RVs, Option.some.injEq, Prod.mk.injEq] at hv
    exact ⟨hv.1.symm, hv.2.symm⟩
  have hhas : has D (.string x) = true := has_true_of_atKey hat
  cases hfx : f (.string x) with
  | none => rw [hr.no _ hfx] at hhas; cases hhas
  | some v =>
    have h1 := (hr.yes _ _ hfx).2 (.held c)
    rw [hat] at h1
    have h2 : c = v := by injection h1
    obtain ⟨r, hr1, hr2, hr3⟩ := (hf _ _).1 hfx
    have h3 : x = (key r).data.toList := by unfold strLit at hr2; injection hr2
    exact ⟨r, hr1, h3, by rw [h2, hr3], by rw [h3]⟩
theorem all_come (hr : Rdg D f) (hf : View key val f xs) (hx : (xs.map key).Nodup) (hC : Collected D left (ps.map fun p => (key p).data.toList)) (hl : ∀ kl, left kl = false) (hp : ∀ p ∈ ps, p ∈ xs) : ps.Perm xs := by
  have nx : xs.Nodup := List.Pairwise.of_map key (fun a b h e => h (by rw [e])) hx
  have np : ps.Nodup := List.Pairwise.of_map (fun p => (key p).data.toList) (fun a b h e => h (by rw [e])) hC.1
  refine (List.perm_ext_iff_of_nodup np nx).2 fun a => ⟨hp a, fun ha => ?_⟩
  have h1 : f (strLit (key a)) = some (val a) := (hf _ _).2 ⟨a, ha, rfl, rfl⟩
  have h2 := (hr.yes _ _ h1).1
  have h3 := (hC.2 (key a).data.toList).2 ⟨h2, hl _⟩
  obtain ⟨p, hp1, hp2⟩ := List.mem_map.1 h3
  have h4 : key p = key a := ByteArray.ext (Array.toList_inj.1 hp2)
  have inj : ∀ {l : List α}, (l.map key).Nodup → ∀ {a b : α}, a ∈ l → b ∈ l → key a = key b → a = b := by
    intro l
    induction l with
    | nil => intro _ a b ha; cases ha
    | cons c l ih =>
      intro hn a b ha hb e
      rw [List.map_cons, List.nodup_cons] at hn
      rcases List.mem_cons.1 ha with q | q
      · rcases List.mem_cons.1 hb with r | r
        · rw [q, r]
        · exact absurd (List.mem_map.2 ⟨b, r, by rw [← e, q]⟩) hn.1
      · rcases List.mem_cons.1 hb with r | r
        · exact absurd (List.mem_map.2 ⟨a, q, by rw [e, r]⟩) hn.1
        · exact ih hn.2 q r e
  rw [← inj hx (hp p hp1) ha h4]
  exact hp1
theorem step_come {x : α} {y : DataW Value} (hC : Collected D left (ps.map fun p => (key p).data.toList)) (hlk : left (.string (key x).data.toList) = true) (hat : ∀ z, D.atKey (.string (key x).data.toList) z = y) :
    Collected D (fun z => left z && !z.sameKey (.string (key x).data.toList)) ((ps ++ [x]).map fun p => (key p).data.toList) := by
  simpa using hC.step hlk hat
theorem ranges_same {w w' : World} {b r n : Nat} {cnt : Nat} (h : w.ranges Try.prog 9 RVs b r n D left cnt) (h1 : w'.heap[b]? = w.heap[b]?) (h2 : w'.heap[r]? = w.heap[r]?) : w'.ranges Try.prog 9 RVs b r n D left cnt := by
  obtain ⟨es, clock, since, seen, c0, hb, F, hs, hD, hr, rest⟩ := h
  exact ⟨es, clock, since, seen, c0, h1.trans hb, F, hs, hD, h2.trans hr, rest⟩
end
section
set_option maxHeartbeats 1000000
set_option maxRecDepth 100000
variable {w : World} {X b : Nat} {c : Option Nat} {S : Ms} {C : Cl}
theorem lay_any (h : Pm w X b c S) (hL : S.L.length ≤ 1000000000000000) (x : Wr) (hx : okW x = true) :
    Calls Try.prog 31 #[ptr X, x.w] w fun e w' => e = .returned (.tuple #[]) ∧ Pm w' X b c ⟨doneD S.L x S.t, S.t, S.ws⟩ ∧ Chg (fun j => j = b) w w' := by
  obtain ⟨W1, hW1⟩ : ∃ W1, W1 = w.alloc x.obj := ⟨_, rfl⟩
  have hb1 : Below w.heap.size w W1 := by rw [hW1]; exact ML.below1 _ _
  have h1 := h.below hb1
  obtain ⟨c0, c1, c2⟩ := h1.cells
  have hlt := h1.lt
  have hc : W1.heap[w.heap.size]? = some x.obj := by rw [hW1]; exact ML.heap_alloc_at rfl _
  have b0 : W1.cell? ⟨w.heap.size, 0, none⟩ = some (.string x.key) := by rw [Go.Joins.cell_of_block hc]; rfl
  have b1 : W1.cell? ⟨w.heap.size, 1, none⟩ = some (.string x.val) := by rw [Go.Joins.cell_of_block hc]; rfl
  have b2 : W1.cell? ⟨w.heap.size, 2, none⟩ = some (.bool x.gone) := by rw [Go.Joins.cell_of_block hc]; rfl
  have hlw : w.heap.size < W1.heap.size := (Array.getElem?_eq_some_iff.1 hc).1
  obtain ⟨f, hM, hF⟩ := h1.rm
  have hkl : x.key.size ≤ maxLen := by have := (okW_iff.1 hx).1.2; unfold maxLen; omega
  have hok := doneD_ok h1.ok hx
  have hS := h1.ok.srt
  have fin : ∀ (u : World) f', W1.drew.mapTurned u b → Mg 9 u b f' (S.L.length + 1) → Fm (doneD S.L x S.t) f' → Pm u X b c ⟨doneD S.L x S.t, S.t, S.ws⟩ ∧ Chg (fun j => j = b) w u := by
    intro u f' ht hM' hF'
    have hX : u.heap[X]? = W1.heap[X]? := turned_block ht h1.nb
    refine ⟨⟨hX.trans h1.blk, hok, ⟨f', Mg.tight hM' hF' hok.srt, hF'⟩, h1.wm.same (fun c0 e => turned_block ht (fun q => h1.nd (by rw [e, q]))), h1.nb, h1.nc, h1.nd⟩, ?_⟩
    refine (Chg.below hb1).trans (s' := fun j => j = b) ⟨⟨?_, ?_, ?_, ?_, fun k hk => absurd hk (Nat.not_lt_zero _)⟩, fun j hj n => turned_block ht n⟩ (fun j hj q => q)
    · exact (turned_below ht (Below.refl 0 _) (Nat.zero_le _)).os
    · exact (turned_below ht (Below.refl 0 _) (Nat.zero_le _)).tape
    · exact (turned_below ht (Below.refl 0 _) (Nat.zero_le _)).output
    · exact Nat.le_of_eq (turned_size ht).symm
  have FIN := xhide fin
  clear fin hok h h1 hb1 hc
  obtain ⟨xk, xv, xg⟩ := x
  simp only [] at b0 b1 b2 hkl
  cases xg with
  | true =>
    obtain ⟨w4, hrun, hM4, ht4⟩ := (hM.same (w' := W1.drew) rfl).drop (f' := delL f (strLit xk)) strKeyed Try.underlying63 (str_key hkl) 0 delL_same (fun m hm => delL_other hm)
    have HF := xhide (FIN.out w4 _ ht4 (hM4.more (by omega)) (Fm.del (w := ⟨xk, xv, true⟩) hS hF rfl))
    clear hM hF hM4 ht4 FIN
    go_enter Try.func31, Try.ntmps31
    go_wp2_with fail
    rw [← hW1]
    clear hW1
    go_region
    all_goals
      go_wp2
      exact bodyPost_ret (results_none rfl _ _ _) rfl ⟨rfl, HF.out⟩
  | false =>
    obtain ⟨w4, hrun, hM4, ht4⟩ := (hM.same (w' := W1.drew) rfl).store (f' := setL f (strLit xk) (Ro.val ⟨xk, xv, S.t⟩)) strKeyed Try.underlying63 (by unfold maxLen; omega) (str_key hkl) (Ro.val ⟨xk, xv, S.t⟩) setL_same (fun m hm => setL_other hm)
    have HF := xhide (FIN.out w4 _ ht4 hM4 (Fm.put (w := ⟨xk, xv, false⟩) hS hF rfl))
    clear hM hF hM4 ht4 FIN
    go_enter Try.func31, Try.ntmps31
    go_wp2_with fail
    rw [← hW1]
    clear hW1
    go_region
    all_goals
      go_wp2
      go_end0
      exact ⟨rfl, HF.out⟩
theorem commit_any (h : Pm w X b c S) (ho : S.ws ≠ none) (hL : S.L.length + 64 ≤ 1000000000000000) (C : Cl) :
    Calls Try.prog 58 #[ptr X, C.v] w fun e w' => Dn w w' X b c (cmt S) e := by
  obtain ⟨ws, hws⟩ := Option.ne_none_iff_exists'.1 ho
  have hwm := h.wm
  rw [hws] at hwm
  obtain ⟨d, g, rfl, hM, hF⟩ := hwm
  obtain ⟨hS, h64, hwk⟩ := h.ok.wsrt ws hws
  obtain ⟨W3, hW3, hb3, hz, hr, _⟩ := laid2 (w.setCell ⟨X, 2, none⟩ (.map none)) C
  have hsz : (w.setCell ⟨X, 2, none⟩ (.map none)).heap.size = w.heap.size := by simp [World.setCell]
  obtain ⟨c0, c1, c2⟩ := h.cells
  have f1 := h.free 1
  have f2 := h.free 2
  have htm := isT_iff.1 h.ok.tm
  have hlt := h.lt
  have h0b := h.ltb
  have h0d := hM.lt
  have hdX : d ≠ X := fun e => h.nc (by rw [e])
  have hdb : d ≠ b := fun e => h.nd (by rw [e])
  have h3 := h.shut.below hb3
  have hC3 : Chg (Ex X b (some d)) w W3 := Chg.trans set_chg (Chg.below hb3) (fun j hj q => q)
  have hM3 := hM.same ((hb3.block d (by rw [hsz]; exact hM.lt)).trans (set_else hdX))
  rw [hsz] at hz hr
  obtain ⟨⟨k0, k1, k2, k3, k4, k5⟩, g0, g1, g2, g3, g4, g5⟩ := rp_cells hr
  obtain ⟨x0, x1, x2⟩ := h3.cells
  have y1 := h3.free 1
  have hlt3 := h3.lt
  have hs3 : w.heap.size + 1 < W3.heap.size := by omega
  have HT := xhide (fun w => mTime_any (S.t + 1) w)
  have H := xhide h
  have H3 := xhide h3
  have HC3 := xhide hC3
  have HR := xhide hr
  have HZ := xhide hz
  have HM := xhide hM3
  have HF := xhide hF
  have hn1 : X ≠ w.heap.size + 1 := by omega
  have hn2 : w.heap.size + 1 ≠ X := fun e => hn1 e.symm
  have hKD := hS.kd
  have HWK := xhide hwk
  clear h h3 hC3 hM hM3 hF hb3 hr hz hwk hsz
  cases hT : isT (S.t + 1) with
  | false =>
    have hcm : cmt S = (⟨S.L, S.t, none⟩, { code := 161 }) := by unfold cmt; rw [hT]; rfl
    rw [hcm]
    go_enter Try.func58, Try.ntmps58
    go_wp2_with fail
    refine (HT.out _).mono ?_
    rintro e w1 ⟨rfl, rfl⟩
    rw [hT, ← hW3]
    clear hW3
    go_wp2
    refine bodyPost_ret (v := rp0 161 .empty false 0) (results_cell_row (p := 4) (ty := 41) rfl _ _ (w.heap.size + 1) 41 _ (0, 0) _ rfl (rp_set HR.out _ _ _ _ _ _) Try.underlying41 rfl (by kernel_rfl)) rfl ?_
    have hbb := rp_below (Below.refl w.heap.size W3) (g := w.heap.size + 1) (by omega) (.int .i64 161) (.string .empty) (.bool false) (.slice none 0 0) (.int .i64 0) (.int .i64 0)
    exact ⟨_, none, rfl, rpv0 _ _ _ _ _ _, H3.out.keep (hbb.block _ hlt) (hbb.block _ h0b) nofun, HC3.out.low2 hbb, .inr (.inl rfl)⟩
  | true =>
    have hcm : cmt S = (⟨doneW (S.t + 1) S.L ws, S.t + 1, none⟩, { time := S.t + 1 }) := by unfold cmt; rw [hT, hws]; rfl
    rw [hcm]
    obtain ⟨W4, hW4⟩ : ∃ W4, W4 = W3.setCell ⟨X, 1, none⟩ (.int .i64 (S.t + 1)) := ⟨_, rfl⟩
    have hz4 : W4.heap.size = W3.heap.size := by rw [hW4]; simp [World.setCell]
    have h4 : Pm W4 X b none ⟨doneW (S.t + 1) S.L [], S.t + 1, none⟩ := by
      obtain ⟨f, hMr, hFr⟩ := H3.out.rm
      rw [hW4]
      exact ⟨(Go.Joins.block_setCell H3.out.blk _).trans rfl, ⟨H3.out.ok.srt, H3.out.ok.rows, hT, fun ws q => by cases q⟩, ⟨f, hMr.same (set_else H3.out.nb.symm), hFr⟩, rfl, H3.out.nb, nofun, nofun⟩
    have hC4 : Chg (Ex X b (some d)) w W4 := by rw [hW4]; exact HC3.out.trans set_chg (fun j hj q => q)
    have hM4 : Mg 9 W4 d g ws.length := HM.out.same (by rw [hW4]; exact set_else hdX)
    have hr4 : W4.heap[w.heap.size + 1]? = some rpB := by rw [hW4]; exact (set_else hn2).trans HR.out
    obtain ⟨D, hown, hrd⟩ := hM4
    have HRD := xhide hrd
    have H4 := xhide h4
    have HC4 := xhide hC4
    have HR4 := xhide hr4
    have HOWN := xhide hown
    have hZ4 := xhide hz4
    clear h4 hC4 hr4 hrd hz4 hown k0 k1 k2 k3 k4 k5 g0 g1 g2 g3 g4 g5
    go_enter Try.func58, Try.ntmps58
    go_wp2_with fail
    refine (HT.out _).mono ?_
    rintro e w1 ⟨rfl, rfl⟩
    rw [hT, ← hW3]
    clear hW3
    go_wp2_with (first
      | (at_range; rw [← hW4]; refine wpList_range_own _ rfl _ 64 rfl 9 61 strKeyed Try.underlying64 _ d ws.length _ rfl HOWN.out ?_; intro w0 hrg0 hg0 hs0)
      | go_in)
    go_frame
    have hb0 : Below W4.heap.size W4 w0 := (Below.refl _ _).grown hg0 (Nat.le_refl _) (fun k e => by cases e)
    have HS0 : Hid (Pm w0 X b none ⟨doneW (S.t + 1) S.L [], S.t + 1, none⟩ ∧ Chg (Ex X b (some d)) w w0 ∧ w0.heap[w.heap.size + 1]? = some rpB) :=
      xhide ⟨H4.out.below hb0, HC4.out.low2 (hb0.mono HC4.out.size), (hb0.block _ (Array.getElem?_eq_some_iff.1 HR4.out).1).trans HR4.out⟩
    have hcs := HOWN.out.size_le
    have hdr : d < W4.heap.size := HOWN.out.lt
    have hz4' : W4.heap.size = w.heap.size + 2 := by rw [hZ4.out, HZ.out]
    have HZ4 := xhide hz4'
    clear hb0 hg0 hs0 hW4 hz4'
    go_loopw [7] (fun _ wr => ∃ (left : Lit → Bool) (cnt : Nat) (ps : List Wr), wr.ranges Try.prog 9 RVs d W4.heap.size ws.length D left cnt ∧ ps.length + cnt ≤ ws.length ∧ Hid (Collected D left (ps.map fun p => p.key.data.toList)) ∧ Hid (∀ p ∈ ps, p ∈ ws) ∧
        Hid (Pm wr X b none ⟨doneW (S.t + 1) S.L ps, S.t + 1, none⟩ ∧ Chg (Ex X b (some d)) w wr ∧ wr.heap[w.heap.size + 1]? = some rpB))
      (fun _ wr => wr.rangeLeft d W4.heap.size)
    case atStart => exact ⟨_, _, [], hrg0, by simpa using hcs, xhide (Collected.start D), xhide (by simp), HS0⟩
    case round =>
      obtain ⟨left, cnt, ps, hrg, hcn, HC, HP, HW⟩ := hrel
      clear HS0 hrg0
      go_wp2_with (first
        | (at_next; refine wpList_next_ranges _ rfl _ rfl 9 strKeyed RVs encStr (fun v : Value => v) (fun key kl hk => by obtain ⟨x, hx, _⟩ := Maps.keyOf_str Try.underlying9 hk; exact ⟨x, hx⟩) (fun v y hv => ⟨v, rfl⟩) d W4.heap.size ws.length _ _ _ rfl hrg ?_ ?_)
        | go_in)
      · intro hc0 hl0
        have hpm := all_come HRD.out HF.out (srtW_nd hS) HC.out hl0 HP.out
        have hdw := doneW_perm (t := S.t + 1) (L := S.L) H.out.ok.srt (hKD.perm hpm.symm) hpm
        obtain ⟨hPr, hCr, hrr⟩ := HW.out
        rw [hdw] at hPr
        obtain ⟨q0, q1, q2⟩ := hPr.cells
        obtain ⟨⟨k0, k1, k2, k3, k4, k5⟩, g0, g1, g2, g3, g4, g5⟩ := rp_cells hrr
        have hltr := hPr.lt
        have hsr : w.heap.size + 1 < wr.heap.size := (Array.getElem?_eq_some_iff.1 hrr).1
        have HPR := xhide hPr
        have HCR := xhide hCr
        have HRR := xhide hrr
        clear hPr hCr hrr HW HC HP hpm hdw
        go_wp2
        refine bodyPost_ret (v := rp0 0 .empty false (S.t + 1)) (results_cell_row (p := 4) (ty := 41) rfl _ _ (w.heap.size + 1) 41 _ (0, 0) _ rfl (rp_set HRR.out _ _ _ _ _ _) Try.underlying41 rfl (by kernel_rfl)) rfl ?_
        have hbb := rp_below (Below.refl w.heap.size wr) (g := w.heap.size + 1) (by omega) (.int .i64 0) (.string .empty) (.bool false) (.slice none 0 0) (.int .i64 (S.t + 1)) (.int .i64 0)
        exact ⟨_, none, rfl, rpv0 _ _ _ _ _ _, HPR.out.keep (hbb.block _ hlt) (hbb.block _ h0b) nofun, HCR.out.low2 hbb, .inr (.inl rfl)⟩
      · intro x cv kl yd yp w2 cnt2 hkey hlk hv hat hrg2 hlt2 hg2 hs2 hen
        obtain ⟨r, hr, rfl, rfl, rfl⟩ := entry_of (key := Wr.key) (val := Wr.w) HRD.out HF.out hkey hv hat
        have hC2 := xhide (step_come (key := Wr.key) HC.out hlk hat)
        have hP2 : Hid (∀ p ∈ ps ++ [r], p ∈ ws) := xhide (fun p hp => by
          rcases List.mem_append.1 hp with q | q
          · exact HP.out p q
          · simp at q; rw [q]; exact hr)
        obtain ⟨hPr, hCr, hrr⟩ := HW.out
        obtain ⟨w3, hw3⟩ : ∃ w3, w3 = w2.alloc r.obj := ⟨_, rfl⟩
        have hrz : wr.heap.size = w2.heap.size := hs2.symm
        have e23 : ∀ j, j < wr.heap.size → j ≠ W4.heap.size → w3.heap[j]? = wr.heap[j]? := fun j hj hn => by
          rw [hw3]
          exact (Below.heap_alloc _ _ _ (by omega)).trans (hg2.block j hj (fun e => hn (by cases e; rfl)))
        have hX3 : X ≠ W4.heap.size := by have := HZ4.out; omega
        have hb3' : b ≠ W4.heap.size := by have := HZ4.out; omega
        have hd3' : d ≠ W4.heap.size := by omega
        have hp3 : Pm w3 X b none ⟨doneW (S.t + 1) S.L ps, S.t + 1, none⟩ := hPr.keep (e23 X hPr.lt hX3) (e23 b hPr.ltb hb3') nofun
        have hll : (doneW (S.t + 1) S.L ps).length ≤ 1000000000000000 := by have := doneW_len (t := S.t + 1) ps S.L; omega
        have hlay := xhide (lay_any hp3 hll r (HWK.out r hr))
        have hst : doneD (doneW (S.t + 1) S.L ps) r (S.t + 1) = doneW (S.t + 1) S.L (ps ++ [r]) := by unfold doneW; rw [List.foldl_append]; rfl
        have hr3 : w3.heap[w.heap.size + 1]? = some rpB := (e23 _ (Array.getElem?_eq_some_iff.1 hrr).1 (by have := HZ4.out; omega)).trans hrr
        have hg3 : w3.ranges Try.prog 9 RVs d W4.heap.size ws.length D (fun z => left z && !z.sameKey (.string r.key.data.toList)) cnt2 := by rw [hw3]; exact hrg2.alloc _
        have hC3' : Chg (Ex X b (some d)) w w3 := by
          refine ⟨hCr.1.trans ⟨by rw [hw3]; exact hg2.os, by rw [hw3]; exact hg2.tape, by rw [hw3]; exact hg2.output, by rw [hw3]; simp; omega, fun k hk => absurd hk (Nat.not_lt_zero _)⟩, fun j hj n => ?_⟩
          rw [e23 j (Nat.lt_of_lt_of_le hj hCr.size) (by have := HZ4.out; omega)]
          exact hCr.2 j hj n
        have HG3 := xhide hg3
        have HC3' := xhide hC3'
        have HR3' := xhide hr3
        have HST := xhide hst
        have hlw2 : W4.heap.size < wr.heap.size := hrg.lt
        have hkk := hcn
        clear hg3 hC3' hr3 hst hp3 hll hPr hCr hrr HW HC HP hr hkey hv hat hrg2 hg2 hs2 hlk e23
        have CONT : Hid (∀ w5 : World, Pm w5 X b none ⟨doneD (doneW (S.t + 1) S.L ps) r (S.t + 1), S.t + 1, none⟩ → Chg (fun j => j = b) w3 w5 →
            w5.ranges Try.prog 9 RVs d W4.heap.size ws.length D (fun z => left z && !z.sameKey (.string r.key.data.toList)) cnt2 ∧ Hid (Pm w5 X b none ⟨doneW (S.t + 1) S.L (ps ++ [r]), S.t + 1, none⟩ ∧ Chg (Ex X b (some d)) w w5 ∧ w5.heap[w.heap.size + 1]? = some rpB)) := xhide (by
          intro w5 hp5 hc5
          have hdl := HG3.out.owns.lt
          have hrl := HG3.out.lt
          refine ⟨ranges_same HG3.out (hc5.2 _ hdl hdb) (hc5.2 _ hrl (fun e => hb3' e.symm)), xhide ⟨by rw [← HST.out]; exact hp5, HC3'.out.trans hc5 (fun j hj q => .inr (.inl q)), (hc5.2 _ (Array.getElem?_eq_some_iff.1 HR3'.out).1 (by omega)).trans HR3'.out⟩⟩)
        clear HG3 HC3' HR3' HST
        subst hw3
        go_wp2_with fail
        refine hlay.out.mono ?_
        rintro e w5 ⟨rfl, hp5, hc5⟩
        obtain ⟨hrg5, HW5⟩ := CONT.out w5 hp5 hc5
        clear hp5 hc5 CONT hlay
        go_wp2
        go_roundw
        case rel => exact ⟨_, cnt2, ps ++ [r], hrg5, by simp; omega, hC2, hP2, HW5⟩
        case measure => rw [hrg5.left_eq, hrg.left_eq]; exact hlt2
end
end Go.Proofs.Ytheidhkmmihjlaa
