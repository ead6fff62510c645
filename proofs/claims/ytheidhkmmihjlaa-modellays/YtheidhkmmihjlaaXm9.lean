/-
  Xm9: New; Rows; Time.
-/
import Derived.Test.YtheidhkmmihjlaaXm8
set_option linter.unusedVariables false
set_option linter.unusedSimpArgs false
namespace Go.Proofs.Ytheidhkmmihjlaa
open Go.RowKit Go.Shelf Go.Maps
open ML (Ro RS Rr rc Srt nless fstOf Fst strLit strLit_inj setL setL_same setL_other delL delL_same delL_other od nl_irr nl_tr nl_tot Mg Rdg RVs strKeyed str_key turned_below zeroRo)
attribute [local go_sem] Oper.semAt_some

def maxT (L : List Ro) : Int := L.foldl (fun t r => max t r.t) 0
def prevK' (L : List Ro) (k : Nat) : ByteArray := if k = 0 then ⟨#[]⟩ else (L[k - 1]?.map Ro.k).getD ⟨#[]⟩
theorem okAt_is {L : List Ro} {k : Nat} {x : Ro} (h : L[k]? = some x) : okAt L k = (isK x.k && isV x.v && isT x.t && nless (prevK' L k) x.k) := by
  unfold okAt prevK'
  rw [h]
  simp only []
  show (rightR (roW x) && _) = _
  unfold rightR
  by_cases hk : k = 0
  · subst hk
    have e : nless ⟨#[]⟩ x.k = decide (1 ≤ x.k.size) := slt_empty x.k
    simp only [decide_true, Bool.true_or, Bool.and_true, if_true]
    rw [e]
    unfold isK
    cases decide (1 ≤ x.k.size) <;> simp
  · obtain ⟨y, hy⟩ := some_at (l := L) (i := k - 1) rfl (by have := (List.getElem?_eq_some_iff.1 h).1; omega)
    rw [hy]
    simp [hk]
theorem okTo_take {L : List Ro} {n : Nat} (h : okTo L n = true) (hn : n ≤ L.length) : okTo (L.take n) (L.take n).length = true := by
  have e : (L.take n).length = n := by rw [List.length_take]; omega
  rw [e]
  unfold okTo at h ⊢
  rw [List.all_eq_true] at h ⊢
  intro i hi
  have h1 := h i hi
  have h2 := List.mem_range.1 hi
  unfold okAt at h1 ⊢
  rw [List.getElem?_take_of_lt h2]
  by_cases hk : i = 0
  · simpa [hk] using h1
  · rw [List.getElem?_take_of_lt (by omega)]
    exact h1
theorem maxT_snoc (L : List Ro) (x : Ro) : maxT (L ++ [x]) = max (maxT L) x.t := by unfold maxT; rw [List.foldl_append]; rfl
theorem maxT_ok {L : List Ro} (h : ∀ r ∈ L, rightR (roW r) = true) : isT (maxT L) = true := by
  have key : ∀ (l : List Ro) (t : Int), (∀ r ∈ l, rightR (roW r) = true) → isT t = true → isT (l.foldl (fun t r => max t r.t) t) = true := by
    intro l
    induction l with
    | nil => intro t _ h; exact h
    | cons a l ih =>
      intro t h1 h2
      refine ih _ (fun r hr => h1 r (List.mem_cons_of_mem _ hr)) ?_
      have h3 := (rightR_iff.1 (h1 a List.mem_cons_self)).2.2
      have h4 := isT_iff.1 h2
      show isT (max t a.t) = true
      exact isT_iff.2 ⟨by omega, by omega⟩
  exact key L 0 h rfl
theorem okTo_ok {L : List Ro} (h : okTo L L.length = true) : (⟨L, maxT L, none⟩ : Ms).ok := by
  have hr : ∀ r ∈ L, rightR (roW r) = true := fun r hr => by
    obtain ⟨i, hi, rfl⟩ := List.getElem_of_mem hr
    have h1 := okTo_at h hi
    unfold okAt at h1
    rw [List.getElem?_eq_getElem hi] at h1
    simp only [Bool.and_eq_true] at h1
    exact h1.1
  exact ⟨okTo_srt h, hr, maxT_ok hr, fun ws e => by cases e⟩
section
set_option maxHeartbeats 1000000
set_option maxRecDepth 100000
variable {w : World} {X b : Nat} {c : Option Nat} {S : Ms} {ao : Option Addr} {len cap : Nat} {L : List Ro}
theorem time_any (h : Pm w X b c S) : Calls Try.prog 18 #[ptr X] w fun e w' => e = .returned (.int .i64 S.t) ∧ w' = w := by
  obtain ⟨c0, c1, c2⟩ := h.cells
  have HN := xhide (none_any h)
  clear h
  go_enter Try.func18, Try.ntmps18
  go_wp2_with fail
  refine HN.out.mono ?_
  rintro e w1 ⟨rfl, rfl⟩
  go_wp2
  go_ret
  exact ⟨rfl, rfl⟩
theorem rows_any (h : Pm w X b c S) (hL : S.L.length ≤ big) : Calls Try.prog 16 #[ptr X] w fun e w' => ∃ v, e = .returned v ∧ ML.Wr w' w.heap.size v S.L ∧ Below w.heap.size w w' := by
  obtain ⟨c0, c1, c2⟩ := h.cells
  have HN := xhide (none_any h)
  obtain ⟨f, hM, hF⟩ := h.rm
  have HV := xhide (ML.values_any (some b) w)
  obtain ⟨W1, hW1⟩ : ∃ W1, W1 = w.alloc (.cells #[.map (some b)] 63) := ⟨_, rfl⟩
  have hb1 : Below w.heap.size w W1 := by rw [hW1]; exact ML.below1 _ _
  have hm1 : W1.cell? ⟨w.heap.size, 0, none⟩ = some (.map (some b)) := by rw [hW1, Go.Joins.cell_of_block (heap_alloc_new _ _)]; rfl
  have hz1 : W1.heap.size = w.heap.size + 1 := by rw [hW1]; simp
  have hS := h.ok.srt
  have hall : ∀ xs, ML.AllR S.L xs → xs.length ≤ 3518437208883 := fun xs hx => by
    have np : xs.Nodup := List.Pairwise.of_map Ro.k (fun a b h e => h (by rw [e])) hx.1
    have nl : S.L.Nodup := List.Pairwise.of_map Ro.k (fun a b h e => h (by rw [e])) (srt_nd hS)
    have hp := (List.perm_ext_iff_of_nodup np nl).2 (fun r => (hx.2 r).trans ((fst_iff hS).trans ⟨fun q => q.1, fun q => ⟨q, rfl⟩⟩))
    rw [hp.length_eq]
    exact hL
  have HS := xhide (ML.sortedFunc_any w.heap.size b S.L.length (hF.fst hS) W1 (by omega) hm1 (hM.same (hb1.block _ hM.lt)) (by unfold big at hL; omega) hall)
  have HB1 := xhide hb1
  clear h hM hF hb1 hall
  go_enter Try.func16, Try.ntmps16
  go_wp2_with fail
  refine HN.out.mono ?_
  rintro e w1 ⟨rfl, rfl⟩
  go_wp2_with fail
  refine HV.out.mono ?_
  rintro e w2 ⟨rfl, hw2⟩
  rw [← hW1] at hw2
  clear hW1
  subst hw2
  go_wp2_with fail
  refine HS.out.mono ?_
  rintro e w3 ⟨v, ys, rfl, hys, hmem, hwr, hb3⟩
  have hyl : ys = S.L := Ck.Ris.eq od hys hS fun r => (hmem r).trans ((fst_iff hS).trans ⟨fun q => q.1, fun q => ⟨q, rfl⟩⟩)
  subst hyl
  have hwr' := hwr
  obtain ⟨aq, cq, ev, _⟩ := hwr
  subst ev
  go_wp2
  go_ret
  exact ⟨_, rfl, wr_keep hwr' (by omega) (Nat.le_refl _) (fun _ _ _ => rfl), HB1.out.trans (hb3.mono (by omega))⟩
theorem new_any (h : RS w ao len cap L) (hl : len ≤ 1000000000000000) : Calls Try.prog 9 #[.slice ao len cap] w fun e w' => Below w.heap.size w w' ∧
    ((okTo L L.length = false ∧ e = .returned (.tuple #[.pointer none, .int .i64 180])) ∨
     (okTo L L.length = true ∧ ∃ X b, e = .returned (.tuple #[ptr X, .int .i64 0]) ∧ Pm w' X b none ⟨L, maxT L, none⟩ ∧ w.heap.size ≤ X ∧ w.heap.size ≤ b)) := by
  obtain rfl := h.1
  have hmx : (L.length : Int) ≤ 9223372036854775807 := by omega
  have hmm : (Instr.makeMap 63 (some (.int .i64 (L.length : Int)))).run Try.prog w = .ok (.map (some w.heap.size)) (w.alloc (.map #[] 0)) := by kernel_rfl
  have HA := xhide h
  have HK := xhide (fun s w => mKey_any s w)
  have HV := xhide (fun s w => mVal_any s w)
  have HT := xhide (fun s w => mTime_any s w)
  have HS0 : Hid (Pm ((w.alloc (.map #[] 0)).alloc (.cells #[.map (some w.heap.size), .int .i64 0, .map none] 66)) (w.heap.size + 1) w.heap.size none ⟨L.take 0, maxT (L.take 0), none⟩ ∧ Below w.heap.size w ((w.alloc (.map #[] 0)).alloc (.cells #[.map (some w.heap.size), .int .i64 0, .map none] 66))) := xhide (by
    refine ⟨⟨ML.heap_alloc_at (by simp) _, ⟨List.Pairwise.nil, by simp, by simp [maxT, isT], fun ws e => by cases e⟩, ⟨fun _ => none, ?_, by simpa using Fm.nil⟩, rfl, by simp, nofun, nofun⟩, ML.below2 _ _ _⟩
    exact (Mg.made (q := 0)).same (Below.heap_alloc _ _ _ (by simp)))
  clear h
  go_enter Try.func9, Try.ntmps9
  go_wp2_with fail
  go_loopw [15, 5] (fun i a wr => ∃ k : Nat, k ≤ L.length ∧ i = .int .i64 (k : Nat) ∧ a = .string (prevK' L k) ∧ Hid (okTo L k = true) ∧ Hid (Pm wr (w.heap.size + 1) w.heap.size none ⟨L.take k, maxT (L.take k), none⟩ ∧ Below w.heap.size w wr)) (fun i _ _ => L.length - (intOf i).toNat)
  case atStart => exact ⟨0, by omega, rfl, rfl, xhide rfl, HS0⟩
  case round =>
    obtain ⟨k, hk, rfl, rfl, HO, HS⟩ := hrel
    clear HS0 hmm
    by_cases hlt : k < L.length
    · obtain ⟨x, hx⟩ := some_at rfl hlt
      obtain ⟨hP, hB⟩ := HS.out
      obtain ⟨g, off, rfl, hgl, hc⟩ := ML.RS.at HA.out (by omega)
      have c0 := (hB.cell (p := ⟨g, off + k * 3, none⟩) hgl).trans (hc k x hx).1
      have c1 := (hB.cell (p := ⟨g, off + k * 3 + 1, none⟩) hgl).trans (hc k x hx).2.1
      have c2 := (hB.cell (p := ⟨g, off + k * 3 + 2, none⟩) hgl).trans (hc k x hx).2.2
      have d1 : (k : Int) < (L.length : Int) := by omega
      have hat := okAt_is hx
      have HBW : Hid (Below w.heap.size w (wr.alloc (.cells #[.string x.k, .string x.v, .int .i64 x.t] 45))) := xhide (hB.trans ((ML.below1 wr _).mono hB.size))
      have hfl := nl_flip x.k (prevK' L k)
      clear hc hB
      obtain ⟨xk, xv, xt⟩ := x
      simp only [] at c0 c1 c2 hat hfl
      cases e1 : isK xk with
      | false =>
        have HN := xhide (okTo_bad hlt (by rw [hat]; simp [e1]))
        go_wp2_with (first
          | (go_at_call 25; refine (HK.out _ _).mono ?_; rintro e w' ⟨rfl, rfl⟩; rw [e1])
          | fail)
        go_ret2
        exact ⟨HBW.out, .inl ⟨HN.out, rfl⟩⟩
      | true =>
        cases e2 : isV xv with
        | false =>
          have HN := xhide (okTo_bad hlt (by rw [hat]; simp [e1, e2]))
          go_wp2_with (first
            | (go_at_call 25; refine (HK.out _ _).mono ?_; rintro e w' ⟨rfl, rfl⟩; rw [e1])
            | (go_at_call 26; refine (HV.out _ _).mono ?_; rintro e w' ⟨rfl, rfl⟩; rw [e2])
            | fail)
          go_ret2
          exact ⟨HBW.out, .inl ⟨HN.out, rfl⟩⟩
        | true =>
          cases e3 : isT xt with
          | false =>
            have HN := xhide (okTo_bad hlt (by rw [hat]; simp [e1, e2, e3]))
            go_wp2_with (first
              | (go_at_call 25; refine (HK.out _ _).mono ?_; rintro e w' ⟨rfl, rfl⟩; rw [e1])
              | (go_at_call 26; refine (HV.out _ _).mono ?_; rintro e w' ⟨rfl, rfl⟩; rw [e2])
              | (go_at_call 27; refine (HT.out _ _).mono ?_; rintro e w' ⟨rfl, rfl⟩; rw [e3])
              | fail)
            go_ret2
            exact ⟨HBW.out, .inl ⟨HN.out, rfl⟩⟩
          | true =>
            cases e4 : nless (prevK' L k) xk with
            | false =>
              rw [e4] at hfl
              have HN := xhide (okTo_bad hlt (by rw [hat]; simp [e1, e2, e3, e4]))
              go_wp2_with (first
                | (go_at_call 25; refine (HK.out _ _).mono ?_; rintro e w' ⟨rfl, rfl⟩; rw [e1])
                | (go_at_call 26; refine (HV.out _ _).mono ?_; rintro e w' ⟨rfl, rfl⟩; rw [e2])
                | (go_at_call 27; refine (HT.out _ _).mono ?_; rintro e w' ⟨rfl, rfl⟩; rw [e3])
                | fail)
              go_ret2
              exact ⟨HBW.out, .inl ⟨HN.out, rfl⟩⟩
            | true =>
              rw [e4] at hfl
              have hok1 : okTo L (k + 1) = true := by rw [okTo_succ, HO.out, hat, e1, e2, e3, e4]; rfl
              have hok2 := okTo_ok (okTo_take hok1 (by omega))
              have HTS := xhide (ML.take_snoc hx)
              have HO1 := xhide hok1
              have hpk : prevK' L (k + 1) = xk := by unfold prevK'; simp [hx]
              go_wp2_with (first
                | (go_at_call 25; refine (HK.out _ _).mono ?_; rintro e w' ⟨rfl, rfl⟩; rw [e1])
                | (go_at_call 26; refine (HV.out _ _).mono ?_; rintro e w' ⟨rfl, rfl⟩; rw [e2])
                | (go_at_call 27; refine (HT.out _ _).mono ?_; rintro e w' ⟨rfl, rfl⟩; rw [e3])
                | fail)
              obtain ⟨W3, hW3⟩ : ∃ W3, W3 = wr.alloc (.cells #[.string xk, .string xv, .int .i64 xt] 45) := ⟨_, rfl⟩
              rw [← hW3]
              rw [← hW3] at HBW
              have hb3 : Below wr.heap.size wr W3 := by rw [hW3]; exact ML.below1 _ _
              have hP3 := hP.below hb3
              have hc : W3.heap[wr.heap.size]? = some (.cells #[.string xk, .string xv, .int .i64 xt] 45 (0, 0)) := by rw [hW3]; exact ML.heap_alloc_at rfl _
              have z0 : W3.cell? ⟨wr.heap.size, 0, none⟩ = some (.string xk) := by rw [Go.Joins.cell_of_block hc]; rfl
              have z1 : W3.cell? ⟨wr.heap.size, 1, none⟩ = some (.string xv) := by rw [Go.Joins.cell_of_block hc]; rfl
              have z2 : W3.cell? ⟨wr.heap.size, 2, none⟩ = some (.int .i64 xt) := by rw [Go.Joins.cell_of_block hc]; rfl
              have hlw3 : wr.heap.size < W3.heap.size := (Array.getElem?_eq_some_iff.1 hc).1
              obtain ⟨x0, x1, x2⟩ := hP3.cells
              have hlX := hP3.lt
              obtain ⟨f, hM, hF⟩ := hP3.rm
              have hwl := hP.ltb
              have hkl : xk.size ≤ maxLen := by have := (isK_iff.1 e1).2; unfold maxLen; omega
              have hlen : (L.take k).length ≤ 1000000000000000 := by rw [List.length_take]; omega
              obtain ⟨w4, hrun, hM4, ht4⟩ := (hM.same (w' := W3.drew) rfl).store (f' := setL f (strLit xk) (Ro.val ⟨xk, xv, xt⟩)) strKeyed Try.underlying63 (by unfold maxLen; simp only [] at hlen ⊢; omega) (str_key hkl) (Ro.val ⟨xk, xv, xt⟩) setL_same (fun m hm => setL_other hm)
              have hX4 : w4.heap[w.heap.size + 1]? = W3.heap[w.heap.size + 1]? := turned_block ht4 (by omega)
              have hR4 : w4.heap[wr.heap.size]? = W3.heap[wr.heap.size]? := turned_block ht4 (by omega)
              have hz4' : w4.heap.size = W3.drew.heap.size := turned_size ht4
              have hz4 : w4.heap.size = W3.heap.size := hz4'
              clear hz4'
              have v1 : w4.cell? ⟨w.heap.size + 1, 1, none⟩ = some (.int .i64 (maxT (L.take k))) := (World.cell?_of_block hX4).trans x1
              have v2 : w4.frozen? ⟨w.heap.size + 1, 1, none⟩ = false := Go.Joins.unfrozen_of_block (hX4.trans hP3.blk) 1
              have v3 : w4.cell? ⟨wr.heap.size, 2, none⟩ = some (.int .i64 xt) := (World.cell?_of_block hR4).trans z2
              have hl4 : wr.heap.size < w4.heap.size := by omega
              have hl5 : w.heap.size + 1 < w4.heap.size := by omega
              have hne : ∀ r ∈ L.take k, r.k ≠ xk := by
                intro r hr e
                have hs := hok2.srt
                simp only [] at hs
                rw [HTS.out] at hs
                have := (List.pairwise_append.1 hs).2.2 r hr ⟨xk, xv, xt⟩ (by simp)
                simp only [] at this
                rw [e, nl_irr] at this; cases this
              have NX : Hid (∀ u, u = w4.setCell ⟨w.heap.size + 1, 1, none⟩ (.int .i64 (max (maxT (L.take k)) xt)) → Pm u (w.heap.size + 1) w.heap.size none ⟨L.take (k + 1), maxT (L.take (k + 1)), none⟩ ∧ Below w.heap.size w u) := xhide (by
                rintro u rfl
                have hbl : (w4.setCell ⟨w.heap.size + 1, 1, none⟩ (.int .i64 (max (maxT (L.take k)) xt))).heap[w.heap.size]? = w4.heap[w.heap.size]? := set_else (by omega)
                have hF' : Fm (L.take (k + 1)) (setL f (strLit xk) (Ro.val ⟨xk, xv, xt⟩)) := by rw [HTS.out]; exact Fm.snoc (x := ⟨xk, xv, xt⟩) hF hne
                refine ⟨⟨?_, hok2, ⟨_, (Mg.tight (hM4.same hbl) hF' hok2.srt), hF'⟩, rfl, by simp, nofun, nofun⟩, ?_⟩
                · rw [HTS.out, maxT_snoc]
                  exact (Go.Joins.block_setCell (hX4.trans hP3.blk) _).trans rfl
                · have b4 : Below w.heap.size W3.drew w4 := turned_below ht4 (Below.refl _ _) (Nat.le_refl _)
                  have b5 : Below w.heap.size W3 w4 := ⟨b4.os, b4.tape, b4.output, b4.size, b4.block⟩
                  exact (HBW.out.trans b5).setCell (p := ⟨w.heap.size + 1, 1, none⟩) (by show w.heap.size ≤ w.heap.size + 1; omega) _)
              clear hP HS hP3 hM hF hM4 ht4 hX4 hR4 hz4 hok2 hne hb3 hc hok1 hfl hat hx HBW hW3
              go_region
              all_goals
                go_wp2
                go_region
                all_goals
                  go_wp2
                  obtain ⟨n1, n2⟩ := NX.out _ rfl
                  exact ⟨⟨k + 1, by omega, by go_num, by rw [hpk], HO1, xhide ⟨n1.keep rfl rfl nofun, n2.drew⟩⟩, by simp [intOf]; omega⟩
    · have e1 : k = L.length := by omega
      subst e1
      have d1 : ¬ (L.length : Int) < (L.length : Int) := by omega
      go_wp2
      go_ret2
      have hP := HS.out
      rw [List.take_length] at hP
      exact ⟨hP.2, .inr ⟨HO.out, w.heap.size + 1, rfl, w.heap.size, hP.1, by omega, Nat.le_refl _⟩⟩
end
end Go.Proofs.Ytheidhkmmihjlaa
