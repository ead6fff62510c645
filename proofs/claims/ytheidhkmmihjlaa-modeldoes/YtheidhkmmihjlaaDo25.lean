/-
  XnS: The document's scan, walked. (Printed by gen_xns.py.)
-/
import Derived.Test.YtheidhkmmihjlaaDo24
import Derived.BigQuiet
import Derived.Test.YtheidhkmmihjlaaDo23
set_option linter.unusedVariables false
set_option linter.unusedSimpArgs false
namespace Go.Proofs.Ytheidhkmmihjlaa
open Go.RowKit Go.Shelf Go.Maps
open ML (Ro RS Rr Sv Srt nless fstOf od nl_irr nl_tr nl_tot)
attribute [local go_sem] Oper.semAt_some
def lenV : Value → Nat
  | .slice _ n _ => n
  | _ => 0
def strV : Value → ByteArray
  | .string s => s
  | _ => ⟨#[]⟩
def muS (ks : List ByteArray) (n : Nat) (c : ByteArray) : Nat := if n = 0 then ks.length + 1 else (ks.filter fun k => nless c k).length
theorem muS_zero {ks : List ByteArray} {c : ByteArray} {n : Nat} (h : n = 0) : muS ks n c = ks.length + 1 := if_pos h
theorem muS_pos {ks : List ByteArray} {c : ByteArray} {n : Nat} (h : ¬ n = 0) : muS ks n c = (ks.filter fun k => nless c k).length := if_neg h
section
set_option maxHeartbeats 8000000
set_option maxRecDepth 100000
variable {w : World} {Y : Nat} {S : Ms}
theorem rscan_any (h : Rx w Y S) (ok : S.ok) (hl : S.L.length + 70 ≤ 1000000000) (lo hi : ByteArray) : Calls Try.prog 37 #[ptr Y, .string lo, .string hi] w fun e w' => ∃ v, e = .returned v ∧ Rr w' w.heap.size v (scn S lo hi) ∧ Below w.heap.size w w' := by
  have HGET : Hid (∀ u, Below w.heap.size w u → ∀ key, Calls Try.prog 36 #[ptr Y, .string key] u fun e w' => e = .returned (.tuple #[.string ((look S key).getD ⟨#[]⟩), .bool (look S key).isSome]) ∧ Below u.heap.size u w') := xhide (fun u hu key => rget_any (h.below hu) ok key)
  obtain ⟨ao, cap, ao2, cap2, h⟩ := h
  have H : Hid (∀ u, Below w.heap.size w u → Rm u Y S ao cap ao2 cap2) := xhide (fun u hu => h.below hu)
  have HOK := xhide ok
  have hwl : (S.ws.getD []).length ≤ 64 := by
    cases hw : S.ws with
    | none => simp
    | some ws => exact (ok.wsrt ws hw).2.1
  generalize hK : S.L.map Ro.k = lk at *
  have HK := xhide hK
  have hlk : lk.length = S.L.length := by rw [← hK]; simp
  clear h ok hK
  go_enter Try.func37, Try.ntmps37
  go_wp2_with fail
  go_loopw [7, 8] (fun v i wr => ∃ k : Nat, k ≤ S.L.length ∧ i = .int .i64 (k : Nat) ∧ Hid (So wr w.heap.size v ((S.L.take k).map Ro.k)) ∧ Hid (Below w.heap.size w wr)) (fun _ i _ => S.L.length - (intOf i).toNat)
  case atStart => exact ⟨0, by omega, rfl, xhide ⟨rfl, .inl ⟨rfl, rfl⟩⟩, xhide (Below.refl _ _)⟩
  case round =>
    obtain ⟨k, hk, rfl, HO, HB⟩ := hrel
    have hm := H.out wr HB.out
    obtain ⟨y0, y1, y2, y3⟩ := hm.cells
    have hY := hm.lt
    by_cases hlt : k < S.L.length
    · obtain ⟨x, hx⟩ := some_at (l := S.L) rfl hlt
      obtain ⟨g, off, rfl, hgl, hc⟩ := ML.RS.at hm.rs (by omega)
      obtain ⟨c0, c1, c2⟩ := hc k x hx
      have d1 : (k : Int) < (S.L.length : Int) := by omega
      obtain ⟨v', w2, hrun, hown, hlow⟩ := sapp HO.out HB.out.size x.k (by rw [List.length_map, List.length_take]; omega)
      have NO : Hid (So w2 w.heap.size v' ((S.L.take (k + 1)).map Ro.k)) := xhide (by rw [ML.take_snoc hx, List.map_append]; exact hown)
      have NB : Hid (Below w.heap.size w w2) := xhide (hlow w _ (Nat.le_refl _) (HB.out.trans ((ML.below1 wr _).mono HB.out.size)))
      have HRUN := xhide hrun
      clear hrun hown hlow hc hx hm
      go_wp2_with (at_builtin; refine Hid.out ?_)
      refine xhide ?_
      refine Lib.wpList_append_run _ rfl _ _ _ _ rfl _ _ rfl rfl _ _ HRUN.out ?_
      go_frame
      go_wp2_with fail
      go_roundw
      case rel => exact ⟨k + 1, by omega, by go_num, NO, NB⟩
      case measure => simp [intOf]; omega
    · obtain rfl : k = S.L.length := by omega
      have d1 : ¬ (S.L.length : Int) < (S.L.length : Int) := by omega
      rw [List.take_length, HK.out] at HO
      clear hm
      go_wp2_with fail
      go_loopw [7, 9] (fun v i wr => ∃ k : Nat, k ≤ (S.ws.getD []).length ∧ i = .int .i64 (k : Nat) ∧ Hid (So wr w.heap.size v (lk ++ ((S.ws.getD []).take k).map Wr.key)) ∧ Hid (Below w.heap.size w wr)) (fun _ i _ => (S.ws.getD []).length - (intOf i).toNat)
      case atStart => exact ⟨0, by omega, rfl, xhide (by simpa using HO.out), HB⟩
      case round =>
        obtain ⟨k, hk, rfl, HO2, HB2⟩ := hrel
        clear HO HB y0 y1 y2 y3 hY d1
        have hm := H.out wr HB2.out
        obtain ⟨y0, y1, y2, y3⟩ := hm.cells
        have hY := hm.lt
        by_cases hlt2 : k < (S.ws.getD []).length
        · obtain ⟨x, hx⟩ := some_at (l := S.ws.getD []) rfl hlt2
          obtain ⟨g, off, rfl, hgl, hc⟩ := hm.ws.2.2.2 (by omega)
          have c0 := hc k x hx 0 _ rfl
          rw [Nat.add_zero] at c0
          have d1 : (k : Int) < ((S.ws.getD []).length : Int) := by omega
          obtain ⟨v', w2, hrun, hown, hlow⟩ := sapp HO2.out HB2.out.size x.key (by rw [List.length_append, List.length_map, List.length_take]; omega)
          have NO : Hid (So w2 w.heap.size v' (lk ++ ((S.ws.getD []).take (k + 1)).map Wr.key)) := xhide (by rw [ML.take_snoc hx, List.map_append, ← List.append_assoc]; exact hown)
          have NB : Hid (Below w.heap.size w w2) := xhide (hlow w _ (Nat.le_refl _) (HB2.out.trans ((ML.below1 wr _).mono HB2.out.size)))
          have HRUN := xhide hrun
          clear hrun hown hlow hc hx hm
          go_wp2_with (at_builtin; refine Hid.out ?_)
          refine xhide ?_
          refine Lib.wpList_append_run _ rfl _ _ _ _ rfl _ _ rfl rfl _ _ HRUN.out ?_
          go_frame
          go_wp2_with fail
          go_roundw
          case rel => exact ⟨k + 1, by omega, by go_num, NO, NB⟩
          case measure => simp [intOf]; omega
        · obtain rfl : k = (S.ws.getD []).length := by omega
          have d1 : ¬ ((S.ws.getD []).length : Int) < ((S.ws.getD []).length : Int) := by omega
          rw [List.take_length] at HO2
          obtain ⟨ks, hks⟩ : ∃ ks, ks = lk ++ (S.ws.getD []).map Wr.key := ⟨_, rfl⟩
          have HKS : Hid (ks = kys S) := xhide (by rw [hks, ← HK.out]; rfl)
          have hkl : ks.length ≤ 1000000000 := by rw [hks, List.length_append, List.length_map]; omega
          rw [← hks] at HO2
          obtain ⟨ak, ck, rfl, hkat⟩ := HO2.out.at
          obtain ⟨wk, hwk⟩ : ∃ wk, wk = wr := ⟨_, rfl⟩
          subst hwk
          have HKA : Hid (∀ u, Below wk.heap.size wk u → 0 < ks.length → ∃ g, ak = some ⟨g, 0, none⟩ ∧ g < u.heap.size ∧ ∀ i k, ks[i]? = some k → u.cell? ⟨g, i, none⟩ = some (.string k)) := xhide (fun u hu h0 => by
            obtain ⟨g, e, hlt, hc⟩ := hkat h0
            exact ⟨g, e, Nat.lt_of_lt_of_le hlt hu.size, fun i k hi => (hu.cell (p := ⟨g, i, none⟩) hlt).trans (hc i k hi)⟩)
          have HPOS : Hid (∀ k ∈ ks, 1 ≤ k.size) := xhide (by rw [HKS.out]; exact kys_pos HOK.out)
          have hwk0 := HB2.out.size
          clear hm hks HO2 hkat
          go_wp2_with fail
          clear y0 y1 y2 y3 hY d1
          go_loopw [1, 10] (fun c v wr => ∃ (cur : ByteArray) (out : List Ro), c = .string cur ∧ Hid (Scn S lo hi cur out) ∧ Hid (Rr wr wk.heap.size v out) ∧ Hid (Below wk.heap.size wk wr) ∧ out.length ≤ ks.length ∧ Hid (out ≠ [] → out.length + (ks.filter fun k => nless cur k).length ≤ ks.length)) (fun c v _ => muS ks (lenV v) (strV c))
          case atStart => exact ⟨lo, [], rfl, xhide (scn_start S lo hi), xhide ⟨rfl, .inl ⟨rfl, rfl⟩⟩, xhide (Below.refl _ _), Nat.zero_le _, xhide (fun q => absurd rfl q)⟩
          case round =>
            obtain ⟨cur, out, rfl, HSC, HOUT, HBK, hol, HLEN⟩ := hrel
            obtain ⟨aq, cq, ev, hrs⟩ := HOUT.out.seq
            subst ev
            obtain ⟨w4, hw4⟩ : ∃ w4, w4 = wr := ⟨_, rfl⟩
            subst hw4
            have HRS := xhide hrs
            clear hrs
            go_wp2_with fail
            go_loopw [11, 12] (fun n i wr => ∃ (j : Nat) (nx : ByteArray), j ≤ ks.length ∧ i = .int .i64 (j : Nat) ∧ n = .string nx ∧ Hid (nxt cur (decide (out.length = 0)) (ks.take j) = nx) ∧ wr = w4) (fun _ i _ => ks.length - (intOf i).toNat)
            case atStart => exact ⟨0, ⟨#[]⟩, by omega, rfl, rfl, xhide (by simp [nxt]), rfl⟩
            case round =>
              obtain ⟨j, nx, hj, rfl, rfl, HNX, rfl⟩ := hrel
              by_cases hjl : j < ks.length
              · obtain ⟨k, hkj⟩ := some_at (l := ks) rfl hjl
                obtain ⟨g, rfl, hgl, hc⟩ := HKA.out _ HBK.out (by omega)
                have c0 := hc j k hkj
                have d1 : (j : Int) < (ks.length : Int) := by omega
                clear hc
                have te : nx.toList.isEmpty = decide (nx.size = 0) := by
                  rw [ByteArray.toList_eq]
                  show nx.data.toList.isEmpty = decide (nx.data.size = 0)
                  rw [← Array.length_toList]
                  cases nx.data.toList <;> simp
                as_aux_lemma =>
                  cases a1 : nless k cur with
                  | true =>
                    have NXE : nxt cur (decide (out.length = 0)) (ks.take (j + 1)) = nx := by rw [nxt_take hkj, HNX.out]; unfold nxtS cnd; rw [a1]; rfl
                    have NXH := xhide NXE
                    clear NXE hkj te
                    unfold nless at a1
                    go_wp2_with fail
                    go_roundw
                    case rel => exact ⟨j + 1, _, by omega, by go_num, rfl, NXH, trivial⟩
                    case measure => simp [intOf]; omega
                  | false =>
                    by_cases ho : out.length = 0
                    · have ho2 : decide (out.length = 0) = true := decide_eq_true ho
                      have ho3 : decide ((out.length : Int) = 0) = true := decide_eq_true (by omega)
                      have ho4 : ((out.length : Int) == 0) = true := by simpa using ho
                      by_cases hn0 : nx.size = 0
                      · have hn1 : decide (nx.size = 0) = true := decide_eq_true hn0
                        have NXE : nxt cur (decide (out.length = 0)) (ks.take (j + 1)) = k := by rw [nxt_take hkj, HNX.out]; unfold nxtS cnd; rw [a1, ho2, hn1]; rfl
                        have NXH := xhide NXE
                        rw [hn1] at te
                        clear NXE hkj hn0 hn1 ho ho2
                        unfold nless at a1
                        go_wp2_with fail
                        go_roundw
                        case rel => exact ⟨j + 1, _, by omega, by go_num, rfl, NXH, trivial⟩
                        case measure => simp [intOf]; omega
                      · have hn1 : decide (nx.size = 0) = false := decide_eq_false hn0
                        cases a3 : nless k nx with
                        | true =>
                          have NXE : nxt cur (decide (out.length = 0)) (ks.take (j + 1)) = k := by rw [nxt_take hkj, HNX.out]; unfold nxtS cnd; rw [a1, ho2, hn1, a3]; rfl
                          have NXH := xhide NXE
                          rw [hn1] at te
                          clear NXE hkj hn0 hn1 ho ho2
                          unfold nless at a1 a3
                          go_wp2_with fail
                          go_roundw
                          case rel => exact ⟨j + 1, _, by omega, by go_num, rfl, NXH, trivial⟩
                          case measure => simp [intOf]; omega
                        | false =>
                          have NXE : nxt cur (decide (out.length = 0)) (ks.take (j + 1)) = nx := by rw [nxt_take hkj, HNX.out]; unfold nxtS cnd; rw [a1, ho2, hn1, a3]; rfl
                          have NXH := xhide NXE
                          rw [hn1] at te
                          clear NXE hkj hn0 hn1 ho ho2
                          unfold nless at a1 a3
                          go_wp2_with fail
                          go_roundw
                          case rel => exact ⟨j + 1, _, by omega, by go_num, rfl, NXH, trivial⟩
                          case measure => simp [intOf]; omega
                    · have ho2 : decide (out.length = 0) = false := decide_eq_false ho
                      have ho3 : decide ((out.length : Int) = 0) = false := decide_eq_false (by omega)
                      have ho4 : ((out.length : Int) == 0) = false := by simpa using ho
                      cases a2 : nless cur k with
                      | true =>
                        have a4 : (k.toList == cur.toList) = false := by
                          rw [ML.str_test]
                          exact decide_eq_false (fun e => by rw [e, nl_irr] at a2; cases a2)
                        by_cases hn0 : nx.size = 0
                        · have hn1 : decide (nx.size = 0) = true := decide_eq_true hn0
                          have NXE : nxt cur (decide (out.length = 0)) (ks.take (j + 1)) = k := by rw [nxt_take hkj, HNX.out]; unfold nxtS cnd; rw [a1, ho2, a2, hn1]; rfl
                          have NXH := xhide NXE
                          rw [hn1] at te
                          clear NXE hkj hn0 hn1 ho ho2
                          unfold nless at a1 a2
                          go_wp2_with fail
                          go_roundw
                          case rel => exact ⟨j + 1, _, by omega, by go_num, rfl, NXH, trivial⟩
                          case measure => simp [intOf]; omega
                        · have hn1 : decide (nx.size = 0) = false := decide_eq_false hn0
                          cases a3 : nless k nx with
                          | true =>
                            have NXE : nxt cur (decide (out.length = 0)) (ks.take (j + 1)) = k := by rw [nxt_take hkj, HNX.out]; unfold nxtS cnd; rw [a1, ho2, a2, hn1, a3]; rfl
                            have NXH := xhide NXE
                            rw [hn1] at te
                            clear NXE hkj hn0 hn1 ho ho2
                            unfold nless at a1 a2 a3
                            go_wp2_with fail
                            go_roundw
                            case rel => exact ⟨j + 1, _, by omega, by go_num, rfl, NXH, trivial⟩
                            case measure => simp [intOf]; omega
                          | false =>
                            have NXE : nxt cur (decide (out.length = 0)) (ks.take (j + 1)) = nx := by rw [nxt_take hkj, HNX.out]; unfold nxtS cnd; rw [a1, ho2, a2, hn1, a3]; rfl
                            have NXH := xhide NXE
                            rw [hn1] at te
                            clear NXE hkj hn0 hn1 ho ho2
                            unfold nless at a1 a2 a3
                            go_wp2_with fail
                            go_roundw
                            case rel => exact ⟨j + 1, _, by omega, by go_num, rfl, NXH, trivial⟩
                            case measure => simp [intOf]; omega
                      | false =>
                        have a4 : (k.toList == cur.toList) = true := by
                          rw [ML.str_test]
                          refine decide_eq_true ?_
                          rcases nl_tot k cur with r | r | r
                          · rw [a1] at r; cases r
                          · exact r
                          · rw [a2] at r; cases r
                        have NXE : nxt cur (decide (out.length = 0)) (ks.take (j + 1)) = nx := by rw [nxt_take hkj, HNX.out]; unfold nxtS cnd; rw [a1, ho2, a2]; rfl
                        have NXH := xhide NXE
                        clear NXE hkj te ho ho2
                        unfold nless at a1 a2
                        go_wp2_with fail
                        go_roundw
                        case rel => exact ⟨j + 1, _, by omega, by go_num, rfl, NXH, trivial⟩
                        case measure => simp [intOf]; omega
              · obtain rfl : j = ks.length := by omega
                have d1 : ¬ (ks.length : Int) < (ks.length : Int) := by omega
                rw [List.take_length] at HNX
                have HOKN := xhide (nxt_ok (fr := cur) (first := decide (out.length = 0)) HPOS.out)
                rw [HNX.out] at HOKN
                have te : nx.toList.isEmpty = decide (nx.size = 0) := by
                  rw [ByteArray.toList_eq]
                  show nx.data.toList.isEmpty = decide (nx.data.size = 0)
                  rw [← Array.length_toList]
                  cases nx.data.toList <;> simp
                have th : hi.toList.isEmpty = decide (hi.size = 0) := by
                  rw [ByteArray.toList_eq]
                  show hi.data.toList.isEmpty = decide (hi.data.size = 0)
                  rw [← Array.length_toList]
                  cases hi.data.toList <;> simp
                by_cases hn0 : nx.size = 0
                · rw [decide_eq_true hn0] at te
                  have HEND : Hid (out.filter (fun r => decide (r.t = 0)) = scn S lo hi) := xhide (scn_end HOK.out HSC.out (fun k hk hc => by
                    rcases HOKN.out with ⟨_, q⟩ | ⟨q, _⟩
                    · rw [q k (by rw [HKS.out]; exact hk)] at hc; cases hc
                    · omega))
                  clear hn0 th
                  as_aux_lemma =>
                    go_wp2_with fail
                    refine (rtold_any HRS.out (by unfold big; omega)).mono ?_
                    rintro e w5 ⟨v5, rfl, hr5, hb5⟩
                    rw [HEND.out] at hr5
                    have hs5 := HBK.out.size
                    have FIN : Hid (Rr w5 w.heap.size v5 (scn S lo hi) ∧ Below w.heap.size w w5) := xhide ⟨Go.Joins.ownsRow_le hr5 (by omega), (HB2.out.trans (HBK.out.mono hwk0)).trans (hb5.mono (by omega))⟩
                    obtain ⟨av, cv, ev, _⟩ := hr5.seq
                    subst ev
                    clear hr5 hb5
                    go_wp2
                    go_ret
                    exact ⟨_, rfl, FIN.out.1, FIN.out.2⟩
                · rw [decide_eq_false hn0] at te
                  have hnx : 1 ≤ nx.size ∧ nx ∈ ks ∧ cnd cur (decide (out.length = 0)) nx = true ∧ ∀ k ∈ ks, cnd cur (decide (out.length = 0)) k = true → nless k nx = false := by
                    rcases HOKN.out with ⟨q, _⟩ | q
                    · exact absurd (by rw [q]; rfl) hn0
                    · exact q
                  have HNXK := xhide hnx
                  clear hn0 hnx
                  by_cases hh0 : hi.size = 0
                  · rw [decide_eq_true hh0] at th
                    have HH : Hid (hi.size = 0 ∨ nless nx hi = true) := xhide (.inl hh0)
                    clear hh0
                    as_aux_lemma =>
                      have hbw : Below w.heap.size w wr := HB2.out.trans (HBK.out.mono hwk0)
                      have HG := xhide (HGET.out wr hbw nx)
                      clear hbw
                      go_wp2_with fail
                      refine HG.out.mono ?_
                      rintro e w5 ⟨rfl, hb5⟩
                      have HB5 := xhide (HBK.out.trans (hb5.mono HBK.out.size))
                      have HO5 := xhide (ML.Rr.keep HOUT.out hb5)
                      clear hb5 HG
                      have hsz5 := HB5.out.size
                      obtain ⟨v6, w6, hrun, hown, hlow, hsz6, hoth⟩ := rapp2 (w := w5.alloc (.cells #[.string nx, .string ((look S nx).getD ⟨#[]⟩), .int .i64 0] 45)) (World.ownsRow.alloc HO5.out _) (by have := (ML.below1 w5 (.cells #[.string nx, .string ((look S nx).getD ⟨#[]⟩), .int .i64 0] 45)).size; omega) (ML.sv_one w5 ⟨nx, (look S nx).getD ⟨#[]⟩, 0⟩) (by unfold big; simp only [List.length_cons, List.length_nil]; omega)
                      have HB6 := xhide (hlow wk _ (Nat.le_refl _) (HB5.out.trans ((ML.below1 w5 _).mono hsz5)))
                      obtain ⟨g6, cp6, rfl, hB6, hg6, m0, m1, hmk⟩ := rr_mark hown
                      have HSN := xhide (scn_step HSC.out (by rw [← HKS.out]; exact HNXK.out.2.1) HNXK.out.2.2.1 (fun k hk => HNXK.out.2.2.2 k (by rw [HKS.out]; exact hk)) HH.out)
                      have hlt6 : (ks.filter fun k => nless nx k).length + (out.length + 1) ≤ ks.length ∧ (ks.filter fun k => nless nx k).length < muS ks out.length cur := by
                        by_cases e : out.length = 0
                        · have h1 := filter_less (p := fun _ => true) (q := fun k => nless nx k) (l := ks) (x := nx) (fun _ _ => rfl) HNXK.out.2.1 rfl (nl_irr nx)
                          rw [show (ks.filter fun _ => true) = ks from List.filter_eq_self.2 (fun _ _ => rfl)] at h1
                          rw [muS_zero e]
                          omega
                        · have hc := HNXK.out.2.2.1
                          unfold cnd at hc
                          rw [decide_eq_false e, Bool.false_or, Bool.and_eq_true] at hc
                          have h1 := filter_less (p := fun k => nless cur k) (q := fun k => nless nx k) (l := ks) (x := nx) (fun y hy => nl_tr hc.2 hy) HNXK.out.2.1 hc.2 (nl_irr nx)
                          have h2 := HLEN.out (fun q => e (by rw [q]; rfl))
                          rw [muS_pos e]
                          omega
                      obtain ⟨hlt6a, hlt6b⟩ := hlt6
                      have NLEN : ∀ t : Int, Hid ((out ++ [(⟨nx, (look S nx).getD ⟨#[]⟩, t⟩ : Ro)]) ≠ [] → (out ++ [(⟨nx, (look S nx).getD ⟨#[]⟩, t⟩ : Ro)]).length + (ks.filter fun k => nless nx k).length ≤ ks.length) := fun t => xhide (fun _ => by simp only [List.length_append, List.length_cons, List.length_nil]; omega)
                      have HL1 : (out ++ [(⟨nx, (look S nx).getD ⟨#[]⟩, 0⟩ : Ro)]).length = out.length + 1 := by simp
                      have hsub : (((out.length + 1 : Nat) : Int) - 1) = (out.length : Int) := by omega
                      have hix : (out.length : Int) < ((out.length + 1 : Nat) : Int) := by omega
                      have HRUN := xhide hrun
                      have HOWN := xhide hown
                      have HMK := xhide hmk
                      rw [HL1] at HRUN
                      cases hf : (look S nx).isSome with
                      | true =>
                        have HMR : Hid (mkR S nx = ⟨nx, (look S nx).getD ⟨#[]⟩, 0⟩) := xhide (by unfold mkR; rw [hf]; rfl)
                        clear hrun hown hlow hoth hmk
                        go_wp2_with (at_builtin; refine Hid.out ?_)
                        refine xhide ?_
                        refine Lib.wpList_append_run _ rfl _ _ _ _ rfl _ _ rfl rfl _ _ HRUN.out ?_
                        go_frame
                        go_wp2_with fail
                        go_roundw
                        case rel => exact ⟨nx, out ++ [⟨nx, (look S nx).getD ⟨#[]⟩, 0⟩], rfl, xhide (by have := HSN.out; rw [HMR.out] at this; exact this), xhide (by have := HOWN.out; rw [HL1] at this; exact this), HB6, by rw [HL1]; omega, NLEN 0⟩
                        case measure =>
                          show muS ks (out.length + 1) nx < muS ks out.length cur
                          rw [muS_pos (by omega)]
                          exact hlt6b
                      | false =>
                        have HMR : Hid (mkR S nx = ⟨nx, (look S nx).getD ⟨#[]⟩, -1⟩) := xhide (by unfold mkR; rw [hf]; rfl)
                        clear hrun hown hlow hoth hmk
                        go_wp2_with (at_builtin; refine Hid.out ?_)
                        refine xhide ?_
                        refine Lib.wpList_append_run _ rfl _ _ _ _ rfl _ _ rfl rfl _ _ HRUN.out ?_
                        go_frame
                        go_wp2_with fail
                        go_roundw
                        case rel => exact ⟨nx, out ++ [⟨nx, (look S nx).getD ⟨#[]⟩, -1⟩], rfl, xhide (by have := HSN.out; rw [HMR.out] at this; exact this), xhide (by have := HMK.out; rw [HL1] at this; exact this), xhide (HB6.out.setCell (p := ⟨g6, out.length * 3 + 2, none⟩) hB6 _), by rw [List.length_append, List.length_singleton]; omega, NLEN (-1)⟩
                        case measure =>
                          show muS ks (out.length + 1) nx < muS ks out.length cur
                          rw [muS_pos (by omega)]
                          exact hlt6b
                  · rw [decide_eq_false hh0] at th
                    cases t2 : nless nx hi with
                    | true =>
                      have HH : Hid (hi.size = 0 ∨ nless nx hi = true) := xhide (.inr t2)
                      have hfl := nl_flip hi nx
                      rw [t2] at hfl
                      unfold nless at t2
                      clear hh0
                      as_aux_lemma =>
                        have hbw : Below w.heap.size w wr := HB2.out.trans (HBK.out.mono hwk0)
                        have HG := xhide (HGET.out wr hbw nx)
                        clear hbw
                        go_wp2_with fail
                        refine HG.out.mono ?_
                        rintro e w5 ⟨rfl, hb5⟩
                        have HB5 := xhide (HBK.out.trans (hb5.mono HBK.out.size))
                        have HO5 := xhide (ML.Rr.keep HOUT.out hb5)
                        clear hb5 HG
                        have hsz5 := HB5.out.size
                        obtain ⟨v6, w6, hrun, hown, hlow, hsz6, hoth⟩ := rapp2 (w := w5.alloc (.cells #[.string nx, .string ((look S nx).getD ⟨#[]⟩), .int .i64 0] 45)) (World.ownsRow.alloc HO5.out _) (by have := (ML.below1 w5 (.cells #[.string nx, .string ((look S nx).getD ⟨#[]⟩), .int .i64 0] 45)).size; omega) (ML.sv_one w5 ⟨nx, (look S nx).getD ⟨#[]⟩, 0⟩) (by unfold big; simp only [List.length_cons, List.length_nil]; omega)
                        have HB6 := xhide (hlow wk _ (Nat.le_refl _) (HB5.out.trans ((ML.below1 w5 _).mono hsz5)))
                        obtain ⟨g6, cp6, rfl, hB6, hg6, m0, m1, hmk⟩ := rr_mark hown
                        have HSN := xhide (scn_step HSC.out (by rw [← HKS.out]; exact HNXK.out.2.1) HNXK.out.2.2.1 (fun k hk => HNXK.out.2.2.2 k (by rw [HKS.out]; exact hk)) HH.out)
                        have hlt6 : (ks.filter fun k => nless nx k).length + (out.length + 1) ≤ ks.length ∧ (ks.filter fun k => nless nx k).length < muS ks out.length cur := by
                          by_cases e : out.length = 0
                          · have h1 := filter_less (p := fun _ => true) (q := fun k => nless nx k) (l := ks) (x := nx) (fun _ _ => rfl) HNXK.out.2.1 rfl (nl_irr nx)
                            rw [show (ks.filter fun _ => true) = ks from List.filter_eq_self.2 (fun _ _ => rfl)] at h1
                            rw [muS_zero e]
                            omega
                          · have hc := HNXK.out.2.2.1
                            unfold cnd at hc
                            rw [decide_eq_false e, Bool.false_or, Bool.and_eq_true] at hc
                            have h1 := filter_less (p := fun k => nless cur k) (q := fun k => nless nx k) (l := ks) (x := nx) (fun y hy => nl_tr hc.2 hy) HNXK.out.2.1 hc.2 (nl_irr nx)
                            have h2 := HLEN.out (fun q => e (by rw [q]; rfl))
                            rw [muS_pos e]
                            omega
                        obtain ⟨hlt6a, hlt6b⟩ := hlt6
                        have NLEN : ∀ t : Int, Hid ((out ++ [(⟨nx, (look S nx).getD ⟨#[]⟩, t⟩ : Ro)]) ≠ [] → (out ++ [(⟨nx, (look S nx).getD ⟨#[]⟩, t⟩ : Ro)]).length + (ks.filter fun k => nless nx k).length ≤ ks.length) := fun t => xhide (fun _ => by simp only [List.length_append, List.length_cons, List.length_nil]; omega)
                        have HL1 : (out ++ [(⟨nx, (look S nx).getD ⟨#[]⟩, 0⟩ : Ro)]).length = out.length + 1 := by simp
                        have hsub : (((out.length + 1 : Nat) : Int) - 1) = (out.length : Int) := by omega
                        have hix : (out.length : Int) < ((out.length + 1 : Nat) : Int) := by omega
                        have HRUN := xhide hrun
                        have HOWN := xhide hown
                        have HMK := xhide hmk
                        rw [HL1] at HRUN
                        cases hf : (look S nx).isSome with
                        | true =>
                          have HMR : Hid (mkR S nx = ⟨nx, (look S nx).getD ⟨#[]⟩, 0⟩) := xhide (by unfold mkR; rw [hf]; rfl)
                          clear hrun hown hlow hoth hmk
                          go_wp2_with (at_builtin; refine Hid.out ?_)
                          refine xhide ?_
                          refine Lib.wpList_append_run _ rfl _ _ _ _ rfl _ _ rfl rfl _ _ HRUN.out ?_
                          go_frame
                          go_wp2_with fail
                          go_roundw
                          case rel => exact ⟨nx, out ++ [⟨nx, (look S nx).getD ⟨#[]⟩, 0⟩], rfl, xhide (by have := HSN.out; rw [HMR.out] at this; exact this), xhide (by have := HOWN.out; rw [HL1] at this; exact this), HB6, by rw [HL1]; omega, NLEN 0⟩
                          case measure =>
                            show muS ks (out.length + 1) nx < muS ks out.length cur
                            rw [muS_pos (by omega)]
                            exact hlt6b
                        | false =>
                          have HMR : Hid (mkR S nx = ⟨nx, (look S nx).getD ⟨#[]⟩, -1⟩) := xhide (by unfold mkR; rw [hf]; rfl)
                          clear hrun hown hlow hoth hmk
                          go_wp2_with (at_builtin; refine Hid.out ?_)
                          refine xhide ?_
                          refine Lib.wpList_append_run _ rfl _ _ _ _ rfl _ _ rfl rfl _ _ HRUN.out ?_
                          go_frame
                          go_wp2_with fail
                          go_roundw
                          case rel => exact ⟨nx, out ++ [⟨nx, (look S nx).getD ⟨#[]⟩, -1⟩], rfl, xhide (by have := HSN.out; rw [HMR.out] at this; exact this), xhide (by have := HMK.out; rw [HL1] at this; exact this), xhide (HB6.out.setCell (p := ⟨g6, out.length * 3 + 2, none⟩) hB6 _), by rw [List.length_append, List.length_singleton]; omega, NLEN (-1)⟩
                          case measure =>
                            show muS ks (out.length + 1) nx < muS ks out.length cur
                            rw [muS_pos (by omega)]
                            exact hlt6b
                    | false =>
                      have HEND : Hid (out.filter (fun r => decide (r.t = 0)) = scn S lo hi) := xhide (scn_end HOK.out HSC.out (fun k hk hc => ⟨hh0, nl_le t2 (HNXK.out.2.2.2 k (by rw [HKS.out]; exact hk) hc)⟩))
                      have hfl := nl_flip hi nx
                      rw [t2] at hfl
                      unfold nless at t2
                      clear hh0
                      as_aux_lemma =>
                        go_wp2_with fail
                        refine (rtold_any HRS.out (by unfold big; omega)).mono ?_
                        rintro e w5 ⟨v5, rfl, hr5, hb5⟩
                        rw [HEND.out] at hr5
                        have hs5 := HBK.out.size
                        have FIN : Hid (Rr w5 w.heap.size v5 (scn S lo hi) ∧ Below w.heap.size w w5) := xhide ⟨Go.Joins.ownsRow_le hr5 (by omega), (HB2.out.trans (HBK.out.mono hwk0)).trans (hb5.mono (by omega))⟩
                        obtain ⟨av, cv, ev, _⟩ := hr5.seq
                        subst ev
                        clear hr5 hb5
                        go_wp2
                        go_ret
                        exact ⟨_, rfl, FIN.out.1, FIN.out.2⟩
end
end Go.Proofs.Ytheidhkmmihjlaa

/-
  XnD: The document's Do. (Printed by gen_xnd.py.)
-/
set_option linter.unusedVariables false
set_option linter.unusedSimpArgs false
namespace Go.Proofs.Ytheidhkmmihjlaa
open Go.RowKit Go.Shelf Go.Maps
open ML (Ro RS Rr Srt nless)
attribute [local go_sem] Oper.semAt_some
theorem stp_no {S : Ms} {C : Cl} (h : rf S C ≠ 0) : stp S C = (S, { code := rf S C }) := by
  unfold stp rf at *
  by_cases hk : C.kind < 1 ∨ 11 < C.kind
  · rw [if_pos hk, if_pos hk]
  · rw [if_neg hk] at h ⊢
    rw [if_neg hk, if_neg h]
theorem stp_yes {S : Ms} {C : Cl} (h : rf S C = 0) : (1 ≤ C.kind ∧ C.kind ≤ 11) ∧ stp S C = ans S C C.kind.toNat := by
  unfold stp rf at *
  by_cases hk : C.kind < 1 ∨ 11 < C.kind
  · rw [if_pos hk] at h; cases h
  · rw [if_neg hk] at h
    rw [if_neg hk, if_pos h]
    exact ⟨by omega, rfl⟩
/-- A reply whose rows are read. -/
def RpR (w : World) (v : Value) (r : Rp) : Prop := ∃ ao cp, v = .agg #[.int .i64 r.code, .string r.val, .bool r.found, .slice ao r.rows.length cp, .int .i64 r.time, .int .i64 0] ∧ RS w ao r.rows.length cp r.rows
section
variable {w w2 w3 : World} {Y R : Nat} {S S' : Ms} {ao ao2 : Option Addr} {cap cap2 : Nat}
theorem rn_rp (h : Rm w Y S ao cap ao2 cap2) (h12 : Below w.heap.size w w2) (hR : w.heap.size ≤ R) (hR2 : R < w2.heap.size) (hn : Rn w2 w3 Y ao ao2 S') (hc : Chg (fun j => j = Y) w2 w3) (a b c d e f : Value) :
    Rn w (rpSet w3 R a b c d e f) Y ao ao2 S' ∧ Chg (fun j => j = Y) w (rpSet w3 R a b c d e f) := by
  obtain ⟨x, cx, x2, cx2, hm, h1, h2⟩ := hn
  have hlt := h.lt
  have hsz := h12.size
  refine ⟨⟨x, cx, x2, cx2, hm.rp (by omega) (fun j hj => (h1 j hj).elim (fun q => by have := h.l1 j q; omega) (fun q => by omega)) (fun j hj => (h2 j hj).elim (fun q => by have := h.l2 j q; omega) (fun q => by omega)) _ _ _ _ _ _, fun j hj => (h1 j hj).imp id (fun q => by omega), fun j hj => (h2 j hj).imp id (fun q => by omega)⟩, ?_⟩
  exact ((Chg.below (s := fun j => j = Y) h12).trans hc (fun j _ q => q)).trans (rp_chg w3 R a b c d e f) (fun j hj q => by omega)
theorem rn_same (h : Rm w Y S ao cap ao2 cap2) (hb : Below w.heap.size w w3) : Rn w w3 Y ao ao2 S := ⟨_, _, _, _, h.below hb, fun j hj => .inl hj, fun j hj => .inl hj⟩
end
section
set_option maxHeartbeats 8000000
set_option maxRecDepth 100000
variable {w : World} {Y : Nat} {L : List Ro} {tt : Int} {o : Option (List Wr)} {ao ao2 : Option Addr} {cap cap2 : Nat}
theorem rDo_no (h : Rm w Y ⟨L, tt, o⟩ ao cap ao2 cap2) (ok : (⟨L, tt, o⟩ : Ms).ok) (kind mode draw nn : Int) (key high val : ByteArray) (hno : rf ⟨L, tt, o⟩ ⟨kind, mode, key, high, val, draw, nn⟩ ≠ 0) : Calls Try.prog 14 #[ptr Y, Cl.v ⟨kind, mode, key, high, val, draw, nn⟩] w fun e w' => ∃ v, e = .returned v ∧ RpR w' v { code := rf ⟨L, tt, o⟩ ⟨kind, mode, key, high, val, draw, nn⟩ } ∧ Rn w w' Y ao ao2 ⟨L, tt, o⟩ ∧ Chg (fun j => j = Y) w w' := by
  have hlY := h.lt
  obtain ⟨W1, hW1⟩ : ∃ W1, W1 = (w.alloc (Cl.obj ⟨kind, mode, key, high, val, draw, nn⟩)).alloc rpB := ⟨_, rfl⟩
  have hb1 : Below w.heap.size w W1 := by rw [hW1]; exact ML.below2 _ _ _
  have hz1 : W1.heap.size = w.heap.size + 2 := by rw [hW1]; simp
  have hc1 : W1.heap[w.heap.size]? = some (Cl.obj ⟨kind, mode, key, high, val, draw, nn⟩) := by rw [hW1]; exact (Below.heap_alloc _ _ _ (by simp)).trans (heap_alloc_new _ _)
  have hr1 : W1.heap[w.heap.size + 1]? = some rpB := by rw [hW1]; exact ML.heap_alloc_at (by simp) _
  have HRF := xhide (rrefused_any (h.below hb1).x ok ⟨kind, mode, key, high, val, draw, nn⟩)
  have H := xhide h
  have HB1 := xhide hb1
  have HC1 := xhide hc1
  have HR1 := xhide hr1
  have HOK := xhide ok
  clear h hb1 hc1 hr1 ok
  go_enter Try.func14, Try.ntmps14
  go_wp2_with fail
  rw [← hW1]
  clear hW1
  refine HRF.out.mono ?_
  rintro e w2 ⟨rfl, hb2⟩
  have hb02 := HB1.out.trans (hb2.mono HB1.out.size)
  have hz2 := hb2.size
  have hc2 := (hb2.block _ (by omega)).trans HC1.out
  have hr2 := (hb2.block _ (by omega)).trans HR1.out
  have hm2 := H.out.below hb02
  have HB02 := xhide hb02
  have HM2 := xhide hm2
  have HR2 := xhide hr2
  have hRY : w.heap.size + 1 ≠ Y := by omega
  have hR2l : w.heap.size + 1 < w2.heap.size := by omega
  obtain ⟨⟨k0, k1, k2, k3, k4, k5⟩, g0, g1, g2, g3, g4, g5⟩ := rp_cells hr2
  have bno : ((rf ⟨L, tt, o⟩ ⟨kind, mode, key, high, val, draw, nn⟩) == 0) = false := by simpa using hno
  have FIN := xhide (rn_rp H.out hb02 (by omega : w.heap.size ≤ w.heap.size + 1) hR2l (rn_same HM2.out (Below.refl _ _)) Chg.refl (.int .i64 (rf ⟨L, tt, o⟩ ⟨kind, mode, key, high, val, draw, nn⟩)) (.string ⟨#[]⟩) (.bool false) (.slice none 0 0) (.int .i64 0) (.int .i64 0))
  clear hb02 hc2 hr2 hm2 hb2 HRF
  go_wp2
  refine bodyPost_ret (v := rp0 (rf ⟨L, tt, o⟩ ⟨kind, mode, key, high, val, draw, nn⟩) .empty false 0) (results_cell_row (p := 4) (ty := 41) rfl _ _ (w.heap.size + 1) 41 _ (0, 0) _ rfl (rp_set HR2.out _ _ _ _ _ _) Try.underlying41 rfl (by kernel_rfl)) rfl ?_
  exact ⟨_, rfl, ⟨none, 0, rfl, rfl, Nat.le_refl _, Nat.zero_le _, fun q => absurd q (Nat.lt_irrefl 0)⟩, FIN.out.1, FIN.out.2⟩
theorem rDo_1 (h : Rm w Y ⟨L, tt, o⟩ ao cap ao2 cap2) (ok : (⟨L, tt, o⟩ : Ms).ok) (hL : L.length + 70 ≤ 10000000) (mode draw nn : Int) (key high val : ByteArray) (hno : rf ⟨L, tt, o⟩ ⟨1, mode, key, high, val, draw, nn⟩ = 0) : Calls Try.prog 14 #[ptr Y, Cl.v ⟨1, mode, key, high, val, draw, nn⟩] w fun e w' => ∃ v, e = .returned v ∧ RpR w' v (ans ⟨L, tt, o⟩ ⟨1, mode, key, high, val, draw, nn⟩ 1).2 ∧ Rn w w' Y ao ao2 (ans ⟨L, tt, o⟩ ⟨1, mode, key, high, val, draw, nn⟩ 1).1 ∧ Chg (fun j => j = Y) w w' := by
  have hon : o = none := by
    cases o with
    | none => rfl
    | some ws =>
      exfalso
      unfold rf at hno
      rw [if_neg (by simp)] at hno
      revert hno
      show fst0 (wrg ⟨L, tt, some ws⟩ ⟨1, mode, key, high, val, draw, nn⟩ 1) = 0 → False
      simp [wrg, fst0]
  subst hon
  have hlY := h.lt
  obtain ⟨W1, hW1⟩ : ∃ W1, W1 = (w.alloc (Cl.obj ⟨1, mode, key, high, val, draw, nn⟩)).alloc rpB := ⟨_, rfl⟩
  have hb1 : Below w.heap.size w W1 := by rw [hW1]; exact ML.below2 _ _ _
  have hz1 : W1.heap.size = w.heap.size + 2 := by rw [hW1]; simp
  have hc1 : W1.heap[w.heap.size]? = some (Cl.obj ⟨1, mode, key, high, val, draw, nn⟩) := by rw [hW1]; exact (Below.heap_alloc _ _ _ (by simp)).trans (heap_alloc_new _ _)
  have hr1 : W1.heap[w.heap.size + 1]? = some rpB := by rw [hW1]; exact ML.heap_alloc_at (by simp) _
  have HRF := xhide (rrefused_any (h.below hb1).x ok ⟨1, mode, key, high, val, draw, nn⟩)
  have H := xhide h
  have HB1 := xhide hb1
  have HC1 := xhide hc1
  have HR1 := xhide hr1
  have HOK := xhide ok
  clear h hb1 hc1 hr1 ok
  go_enter Try.func14, Try.ntmps14
  go_wp2_with fail
  rw [← hW1]
  clear hW1
  refine HRF.out.mono ?_
  rintro e w2 ⟨rfl, hb2⟩
  have hb02 := HB1.out.trans (hb2.mono HB1.out.size)
  have hz2 := hb2.size
  have hc2 := (hb2.block _ (by omega)).trans HC1.out
  have hr2 := (hb2.block _ (by omega)).trans HR1.out
  have hm2 := H.out.below hb02
  have HB02 := xhide hb02
  have HM2 := xhide hm2
  have HR2 := xhide hr2
  have hRY : w.heap.size + 1 ≠ Y := by omega
  have hR2l : w.heap.size + 1 < w2.heap.size := by omega
  rw [hno]
  have x0 : w2.cell? ⟨w.heap.size, 0, none⟩ = some (.int .i64 1) := by rw [Go.Joins.cell_of_block hc2]; rfl
  have x2 : w2.cell? ⟨w.heap.size, 2, none⟩ = some (.string key) := by rw [Go.Joins.cell_of_block hc2]; rfl
  have x3 : w2.cell? ⟨w.heap.size, 3, none⟩ = some (.string high) := by rw [Go.Joins.cell_of_block hc2]; rfl
  have x4 : w2.cell? ⟨w.heap.size, 4, none⟩ = some (.string val) := by rw [Go.Joins.cell_of_block hc2]; rfl
  have hxl : w.heap.size < w2.heap.size := by omega
  have y2 := hm2.cells.2.2.1
  have f2 := hm2.free 2
  have hY2 := hm2.lt
  have hc3 := cell_chg w2 Y 2 (.bool true)
  have hr3 := (hc3.2 _ hR2l hRY).trans hr2
  obtain ⟨⟨k0, k1, k2, k3, k4, k5⟩, g0, g1, g2, g3, g4, g5⟩ := rp_cells hr3
  have hR3l : w.heap.size + 1 < (w2.setCell ⟨Y, 2, none⟩ (.bool true)).heap.size := (Array.getElem?_eq_some_iff.1 hr3).1
  have FIN := xhide (rn_rp H.out hb02 (by omega : w.heap.size ≤ w.heap.size + 1) hR2l (w3 := w2.setCell ⟨Y, 2, none⟩ (.bool true)) ⟨_, _, _, _, hm2.setO, fun j hj => .inl hj, fun j hj => .inl hj⟩ hc3 (.int .i64 0) (.string ⟨#[]⟩) (.bool false) (.slice none 0 0) (.int .i64 0) (.int .i64 0))
  have HR3 := xhide hr3
  clear hb02 hc2 hr2 hr3 hc3 hm2 hb2 HRF
  generalize hw3 : w2.setCell ⟨Y, 2, none⟩ (.bool true) = w3 at *
  go_wp2_with fail
  try rw [hw3]
  try go_wp2
  refine bodyPost_ret (v := rp0 0 .empty false 0) (results_cell_row (p := 4) (ty := 41) rfl _ _ (w.heap.size + 1) 41 _ (0, 0) _ rfl (rp_set HR3.out _ _ _ _ _ _) Try.underlying41 rfl (by kernel_rfl)) rfl ?_
  exact ⟨_, rfl, ⟨none, 0, rfl, rfl, Nat.le_refl _, Nat.zero_le _, fun q => absurd q (Nat.lt_irrefl 0)⟩, FIN.out.1, FIN.out.2⟩
theorem rDo_2 (h : Rm w Y ⟨L, tt, o⟩ ao cap ao2 cap2) (ok : (⟨L, tt, o⟩ : Ms).ok) (hL : L.length + 70 ≤ 10000000) (mode draw nn : Int) (key high val : ByteArray) (hno : rf ⟨L, tt, o⟩ ⟨2, mode, key, high, val, draw, nn⟩ = 0) : Calls Try.prog 14 #[ptr Y, Cl.v ⟨2, mode, key, high, val, draw, nn⟩] w fun e w' => ∃ v, e = .returned v ∧ RpR w' v (ans ⟨L, tt, o⟩ ⟨2, mode, key, high, val, draw, nn⟩ 2).2 ∧ Rn w w' Y ao ao2 (ans ⟨L, tt, o⟩ ⟨2, mode, key, high, val, draw, nn⟩ 2).1 ∧ Chg (fun j => j = Y) w w' := by
  obtain ⟨ps, rfl⟩ : ∃ ps, o = some ps := by
    cases o with
    | some ps => exact ⟨ps, rfl⟩
    | none =>
      exfalso
      unfold rf at hno
      rw [if_neg (by simp)] at hno
      revert hno
      show fst0 (wrg ⟨L, tt, none⟩ ⟨2, mode, key, high, val, draw, nn⟩ 2) = 0 → False
      simp [wrg, fst0]
  have hps := ok.wsrt ps rfl
  have hlY := h.lt
  obtain ⟨W1, hW1⟩ : ∃ W1, W1 = (w.alloc (Cl.obj ⟨2, mode, key, high, val, draw, nn⟩)).alloc rpB := ⟨_, rfl⟩
  have hb1 : Below w.heap.size w W1 := by rw [hW1]; exact ML.below2 _ _ _
  have hz1 : W1.heap.size = w.heap.size + 2 := by rw [hW1]; simp
  have hc1 : W1.heap[w.heap.size]? = some (Cl.obj ⟨2, mode, key, high, val, draw, nn⟩) := by rw [hW1]; exact (Below.heap_alloc _ _ _ (by simp)).trans (heap_alloc_new _ _)
  have hr1 : W1.heap[w.heap.size + 1]? = some rpB := by rw [hW1]; exact ML.heap_alloc_at (by simp) _
  have HRF := xhide (rrefused_any (h.below hb1).x ok ⟨2, mode, key, high, val, draw, nn⟩)
  have H := xhide h
  have HB1 := xhide hb1
  have HC1 := xhide hc1
  have HR1 := xhide hr1
  have HOK := xhide ok
  clear h hb1 hc1 hr1 ok
  go_enter Try.func14, Try.ntmps14
  go_wp2_with fail
  rw [← hW1]
  clear hW1
  refine HRF.out.mono ?_
  rintro e w2 ⟨rfl, hb2⟩
  have hb02 := HB1.out.trans (hb2.mono HB1.out.size)
  have hz2 := hb2.size
  have hc2 := (hb2.block _ (by omega)).trans HC1.out
  have hr2 := (hb2.block _ (by omega)).trans HR1.out
  have hm2 := H.out.below hb02
  have HB02 := xhide hb02
  have HM2 := xhide hm2
  have HR2 := xhide hr2
  have hRY : w.heap.size + 1 ≠ Y := by omega
  have hR2l : w.heap.size + 1 < w2.heap.size := by omega
  rw [hno]
  have x0 : w2.cell? ⟨w.heap.size, 0, none⟩ = some (.int .i64 2) := by rw [Go.Joins.cell_of_block hc2]; rfl
  have x2 : w2.cell? ⟨w.heap.size, 2, none⟩ = some (.string key) := by rw [Go.Joins.cell_of_block hc2]; rfl
  have x3 : w2.cell? ⟨w.heap.size, 3, none⟩ = some (.string high) := by rw [Go.Joins.cell_of_block hc2]; rfl
  have x4 : w2.cell? ⟨w.heap.size, 4, none⟩ = some (.string val) := by rw [Go.Joins.cell_of_block hc2]; rfl
  have hxl : w.heap.size < w2.heap.size := by omega
  have HG := xhide (rget_any hm2.x HOK.out key)
  clear hb02 hc2 hr2 hm2 hb2 HRF
  go_wp2_with fail
  refine HG.out.mono ?_
  rintro e w3 ⟨rfl, hb3⟩
  have hr3 := (hb3.block _ hR2l).trans HR2.out
  obtain ⟨⟨k0, k1, k2, k3, k4, k5⟩, g0, g1, g2, g3, g4, g5⟩ := rp_cells hr3
  have hR3l : w.heap.size + 1 < w3.heap.size := (Array.getElem?_eq_some_iff.1 hr3).1
  have FIN := xhide (rn_rp H.out HB02.out (by omega : w.heap.size ≤ w.heap.size + 1) hR2l (rn_same HM2.out hb3) (Chg.below hb3) (.int .i64 0) (.string ((look ⟨L, tt, some ps⟩ key).getD ⟨#[]⟩)) (.bool (look ⟨L, tt, some ps⟩ key).isSome) (.slice none 0 0) (.int .i64 0) (.int .i64 0))
  have HR3 := xhide hr3
  clear hr3 hb3 HG
  go_wp2
  refine bodyPost_ret (v := .agg #[.int .i64 0, .string ((look ⟨L, tt, some ps⟩ key).getD ⟨#[]⟩), .bool (look ⟨L, tt, some ps⟩ key).isSome, .slice none 0 0, .int .i64 0, .int .i64 0]) (results_cell_row (p := 4) (ty := 41) rfl _ _ (w.heap.size + 1) 41 _ (0, 0) _ rfl (rp_set HR3.out _ _ _ _ _ _) Try.underlying41 rfl (by kernel_rfl)) rfl ?_
  exact ⟨_, rfl, ⟨none, 0, rfl, rfl, Nat.le_refl _, Nat.zero_le _, fun q => absurd q (Nat.lt_irrefl 0)⟩, FIN.out.1, FIN.out.2⟩
theorem rDo_3 (h : Rm w Y ⟨L, tt, o⟩ ao cap ao2 cap2) (ok : (⟨L, tt, o⟩ : Ms).ok) (hL : L.length + 70 ≤ 10000000) (mode draw nn : Int) (key high val : ByteArray) (hno : rf ⟨L, tt, o⟩ ⟨3, mode, key, high, val, draw, nn⟩ = 0) : Calls Try.prog 14 #[ptr Y, Cl.v ⟨3, mode, key, high, val, draw, nn⟩] w fun e w' => ∃ v, e = .returned v ∧ RpR w' v (ans ⟨L, tt, o⟩ ⟨3, mode, key, high, val, draw, nn⟩ 3).2 ∧ Rn w w' Y ao ao2 (ans ⟨L, tt, o⟩ ⟨3, mode, key, high, val, draw, nn⟩ 3).1 ∧ Chg (fun j => j = Y) w w' := by
  obtain ⟨ps, rfl⟩ : ∃ ps, o = some ps := by
    cases o with
    | some ps => exact ⟨ps, rfl⟩
    | none =>
      exfalso
      unfold rf at hno
      rw [if_neg (by simp)] at hno
      revert hno
      show fst0 (wrg ⟨L, tt, none⟩ ⟨3, mode, key, high, val, draw, nn⟩ 3) = 0 → False
      simp [wrg, fst0]
  have hps := ok.wsrt ps rfl
  have hlY := h.lt
  obtain ⟨W1, hW1⟩ : ∃ W1, W1 = (w.alloc (Cl.obj ⟨3, mode, key, high, val, draw, nn⟩)).alloc rpB := ⟨_, rfl⟩
  have hb1 : Below w.heap.size w W1 := by rw [hW1]; exact ML.below2 _ _ _
  have hz1 : W1.heap.size = w.heap.size + 2 := by rw [hW1]; simp
  have hc1 : W1.heap[w.heap.size]? = some (Cl.obj ⟨3, mode, key, high, val, draw, nn⟩) := by rw [hW1]; exact (Below.heap_alloc _ _ _ (by simp)).trans (heap_alloc_new _ _)
  have hr1 : W1.heap[w.heap.size + 1]? = some rpB := by rw [hW1]; exact ML.heap_alloc_at (by simp) _
  have HRF := xhide (rrefused_any (h.below hb1).x ok ⟨3, mode, key, high, val, draw, nn⟩)
  have H := xhide h
  have HB1 := xhide hb1
  have HC1 := xhide hc1
  have HR1 := xhide hr1
  have HOK := xhide ok
  clear h hb1 hc1 hr1 ok
  go_enter Try.func14, Try.ntmps14
  go_wp2_with fail
  rw [← hW1]
  clear hW1
  refine HRF.out.mono ?_
  rintro e w2 ⟨rfl, hb2⟩
  have hb02 := HB1.out.trans (hb2.mono HB1.out.size)
  have hz2 := hb2.size
  have hc2 := (hb2.block _ (by omega)).trans HC1.out
  have hr2 := (hb2.block _ (by omega)).trans HR1.out
  have hm2 := H.out.below hb02
  have HB02 := xhide hb02
  have HM2 := xhide hm2
  have HR2 := xhide hr2
  have hRY : w.heap.size + 1 ≠ Y := by omega
  have hR2l : w.heap.size + 1 < w2.heap.size := by omega
  rw [hno]
  have x0 : w2.cell? ⟨w.heap.size, 0, none⟩ = some (.int .i64 3) := by rw [Go.Joins.cell_of_block hc2]; rfl
  have x2 : w2.cell? ⟨w.heap.size, 2, none⟩ = some (.string key) := by rw [Go.Joins.cell_of_block hc2]; rfl
  have x3 : w2.cell? ⟨w.heap.size, 3, none⟩ = some (.string high) := by rw [Go.Joins.cell_of_block hc2]; rfl
  have x4 : w2.cell? ⟨w.heap.size, 4, none⟩ = some (.string val) := by rw [Go.Joins.cell_of_block hc2]; rfl
  have hxl : w.heap.size < w2.heap.size := by omega
  have HG := xhide (rscan_any hm2.x HOK.out (by show L.length + 70 ≤ 1000000000; omega) key high)
  clear hb02 hc2 hr2 hm2 hb2 HRF
  go_wp2_with fail
  refine HG.out.mono ?_
  rintro e w3 ⟨v3, rfl, hrr, hb3⟩
  have hr3 := (hb3.block _ hR2l).trans HR2.out
  obtain ⟨⟨k0, k1, k2, k3, k4, k5⟩, g0, g1, g2, g3, g4, g5⟩ := rp_cells hr3
  have hR3l : w.heap.size + 1 < w3.heap.size := (Array.getElem?_eq_some_iff.1 hr3).1
  obtain ⟨a3, c3, rfl, hrs, _, hK3⟩ := rr_form hrr
  have FIN := xhide (rn_rp H.out HB02.out (by omega : w.heap.size ≤ w.heap.size + 1) hR2l (rn_same HM2.out hb3) (Chg.below hb3) (.int .i64 0) (.string ⟨#[]⟩) (.bool false) (.slice a3 (scn ⟨L, tt, some ps⟩ key high).length c3) (.int .i64 0) (.int .i64 0))
  have HRS := xhide (rs_chg hrs (rp_chg w3 (w.heap.size + 1) (.int .i64 0) (.string ⟨#[]⟩) (.bool false) (.slice a3 (scn ⟨L, tt, some ps⟩ key high).length c3) (.int .i64 0) (.int .i64 0)) (fun j hj q => by have := hK3 j hj; omega))
  have HR3 := xhide hr3
  clear hr3 hb3 hrr hrs hK3 HG
  go_wp2
  refine bodyPost_ret (v := .agg #[.int .i64 0, .string .empty, .bool false, .slice a3 (scn ⟨L, tt, some ps⟩ key high).length c3, .int .i64 0, .int .i64 0]) (results_cell_row (p := 4) (ty := 41) rfl _ _ (w.heap.size + 1) 41 _ (0, 0) _ rfl (rp_set HR3.out _ _ _ _ _ _) Try.underlying41 rfl (by kernel_rfl)) rfl ?_
  exact ⟨_, rfl, ⟨a3, c3, rfl, HRS.out⟩, FIN.out.1, FIN.out.2⟩
theorem rDo_4 (h : Rm w Y ⟨L, tt, o⟩ ao cap ao2 cap2) (ok : (⟨L, tt, o⟩ : Ms).ok) (hL : L.length + 70 ≤ 10000000) (mode draw nn : Int) (key high val : ByteArray) (hno : rf ⟨L, tt, o⟩ ⟨4, mode, key, high, val, draw, nn⟩ = 0) : Calls Try.prog 14 #[ptr Y, Cl.v ⟨4, mode, key, high, val, draw, nn⟩] w fun e w' => ∃ v, e = .returned v ∧ RpR w' v (ans ⟨L, tt, o⟩ ⟨4, mode, key, high, val, draw, nn⟩ 4).2 ∧ Rn w w' Y ao ao2 (ans ⟨L, tt, o⟩ ⟨4, mode, key, high, val, draw, nn⟩ 4).1 ∧ Chg (fun j => j = Y) w w' := by
  obtain ⟨ps, rfl⟩ : ∃ ps, o = some ps := by
    cases o with
    | some ps => exact ⟨ps, rfl⟩
    | none =>
      exfalso
      unfold rf at hno
      rw [if_neg (by simp)] at hno
      revert hno
      show fst0 (wrg ⟨L, tt, none⟩ ⟨4, mode, key, high, val, draw, nn⟩ 4) = 0 → False
      simp [wrg, fst0]
  have hps := ok.wsrt ps rfl
  have hlY := h.lt
  obtain ⟨W1, hW1⟩ : ∃ W1, W1 = (w.alloc (Cl.obj ⟨4, mode, key, high, val, draw, nn⟩)).alloc rpB := ⟨_, rfl⟩
  have hb1 : Below w.heap.size w W1 := by rw [hW1]; exact ML.below2 _ _ _
  have hz1 : W1.heap.size = w.heap.size + 2 := by rw [hW1]; simp
  have hc1 : W1.heap[w.heap.size]? = some (Cl.obj ⟨4, mode, key, high, val, draw, nn⟩) := by rw [hW1]; exact (Below.heap_alloc _ _ _ (by simp)).trans (heap_alloc_new _ _)
  have hr1 : W1.heap[w.heap.size + 1]? = some rpB := by rw [hW1]; exact ML.heap_alloc_at (by simp) _
  have HRF := xhide (rrefused_any (h.below hb1).x ok ⟨4, mode, key, high, val, draw, nn⟩)
  have H := xhide h
  have HB1 := xhide hb1
  have HC1 := xhide hc1
  have HR1 := xhide hr1
  have HOK := xhide ok
  clear h hb1 hc1 hr1 ok
  go_enter Try.func14, Try.ntmps14
  go_wp2_with fail
  rw [← hW1]
  clear hW1
  refine HRF.out.mono ?_
  rintro e w2 ⟨rfl, hb2⟩
  have hb02 := HB1.out.trans (hb2.mono HB1.out.size)
  have hz2 := hb2.size
  have hc2 := (hb2.block _ (by omega)).trans HC1.out
  have hr2 := (hb2.block _ (by omega)).trans HR1.out
  have hm2 := H.out.below hb02
  have HB02 := xhide hb02
  have HM2 := xhide hm2
  have HR2 := xhide hr2
  have hRY : w.heap.size + 1 ≠ Y := by omega
  have hR2l : w.heap.size + 1 < w2.heap.size := by omega
  rw [hno]
  have x0 : w2.cell? ⟨w.heap.size, 0, none⟩ = some (.int .i64 4) := by rw [Go.Joins.cell_of_block hc2]; rfl
  have x2 : w2.cell? ⟨w.heap.size, 2, none⟩ = some (.string key) := by rw [Go.Joins.cell_of_block hc2]; rfl
  have x3 : w2.cell? ⟨w.heap.size, 3, none⟩ = some (.string high) := by rw [Go.Joins.cell_of_block hc2]; rfl
  have x4 : w2.cell? ⟨w.heap.size, 4, none⟩ = some (.string val) := by rw [Go.Joins.cell_of_block hc2]; rfl
  have hxl : w.heap.size < w2.heap.size := by omega
  have HG := xhide (rwrite_any hm2 hps.1 hps.2.1 ⟨key, val, false⟩)
  clear hb02 hc2 hr2 hm2 hb2 HRF
  go_wp2_with fail
  refine HG.out.mono ?_
  rintro e w3 ⟨rfl, hn3, hc3⟩
  have hr3 := (hc3.2 _ hR2l hRY).trans HR2.out
  obtain ⟨⟨k0, k1, k2, k3, k4, k5⟩, g0, g1, g2, g3, g4, g5⟩ := rp_cells hr3
  have hR3l : w.heap.size + 1 < w3.heap.size := (Array.getElem?_eq_some_iff.1 hr3).1
  have FIN := xhide (rn_rp H.out HB02.out (by omega : w.heap.size ≤ w.heap.size + 1) hR2l hn3 hc3 (.int .i64 (wrt ⟨L, tt, some ps⟩ ⟨key, val, false⟩).2.code) (.string ⟨#[]⟩) (.bool false) (.slice none 0 0) (.int .i64 0) (.int .i64 0))
  have HPR : Hid ((ans ⟨L, tt, some ps⟩ ⟨4, mode, key, high, val, draw, nn⟩ 4).2 = { code := (wrt ⟨L, tt, some ps⟩ ⟨key, val, false⟩).2.code, time := 0 }) := xhide (by show (wrt ⟨L, tt, some ps⟩ ⟨key, val, false⟩).2 = _; unfold wrt; split <;> rfl)
  have HR3 := xhide hr3
  clear hr3 hn3 hc3 HG
  go_wp2
  refine bodyPost_ret (v := rp0 (wrt ⟨L, tt, some ps⟩ ⟨key, val, false⟩).2.code .empty false 0) (results_cell_row (p := 4) (ty := 41) rfl _ _ (w.heap.size + 1) 41 _ (0, 0) _ rfl (rp_set HR3.out _ _ _ _ _ _) Try.underlying41 rfl (by kernel_rfl)) rfl ?_
  rw [HPR.out]
  exact ⟨_, rfl, ⟨none, 0, rfl, rfl, Nat.le_refl _, Nat.zero_le _, fun q => absurd q (Nat.lt_irrefl 0)⟩, FIN.out.1, FIN.out.2⟩
theorem rDo_5 (h : Rm w Y ⟨L, tt, o⟩ ao cap ao2 cap2) (ok : (⟨L, tt, o⟩ : Ms).ok) (hL : L.length + 70 ≤ 10000000) (mode draw nn : Int) (key high val : ByteArray) (hno : rf ⟨L, tt, o⟩ ⟨5, mode, key, high, val, draw, nn⟩ = 0) : Calls Try.prog 14 #[ptr Y, Cl.v ⟨5, mode, key, high, val, draw, nn⟩] w fun e w' => ∃ v, e = .returned v ∧ RpR w' v (ans ⟨L, tt, o⟩ ⟨5, mode, key, high, val, draw, nn⟩ 5).2 ∧ Rn w w' Y ao ao2 (ans ⟨L, tt, o⟩ ⟨5, mode, key, high, val, draw, nn⟩ 5).1 ∧ Chg (fun j => j = Y) w w' := by
  obtain ⟨ps, rfl⟩ : ∃ ps, o = some ps := by
    cases o with
    | some ps => exact ⟨ps, rfl⟩
    | none =>
      exfalso
      unfold rf at hno
      rw [if_neg (by simp)] at hno
      revert hno
      show fst0 (wrg ⟨L, tt, none⟩ ⟨5, mode, key, high, val, draw, nn⟩ 5) = 0 → False
      simp [wrg, fst0]
  have hps := ok.wsrt ps rfl
  have hlY := h.lt
  obtain ⟨W1, hW1⟩ : ∃ W1, W1 = (w.alloc (Cl.obj ⟨5, mode, key, high, val, draw, nn⟩)).alloc rpB := ⟨_, rfl⟩
  have hb1 : Below w.heap.size w W1 := by rw [hW1]; exact ML.below2 _ _ _
  have hz1 : W1.heap.size = w.heap.size + 2 := by rw [hW1]; simp
  have hc1 : W1.heap[w.heap.size]? = some (Cl.obj ⟨5, mode, key, high, val, draw, nn⟩) := by rw [hW1]; exact (Below.heap_alloc _ _ _ (by simp)).trans (heap_alloc_new _ _)
  have hr1 : W1.heap[w.heap.size + 1]? = some rpB := by rw [hW1]; exact ML.heap_alloc_at (by simp) _
  have HRF := xhide (rrefused_any (h.below hb1).x ok ⟨5, mode, key, high, val, draw, nn⟩)
  have H := xhide h
  have HB1 := xhide hb1
  have HC1 := xhide hc1
  have HR1 := xhide hr1
  have HOK := xhide ok
  clear h hb1 hc1 hr1 ok
  go_enter Try.func14, Try.ntmps14
  go_wp2_with fail
  rw [← hW1]
  clear hW1
  refine HRF.out.mono ?_
  rintro e w2 ⟨rfl, hb2⟩
  have hb02 := HB1.out.trans (hb2.mono HB1.out.size)
  have hz2 := hb2.size
  have hc2 := (hb2.block _ (by omega)).trans HC1.out
  have hr2 := (hb2.block _ (by omega)).trans HR1.out
  have hm2 := H.out.below hb02
  have HB02 := xhide hb02
  have HM2 := xhide hm2
  have HR2 := xhide hr2
  have hRY : w.heap.size + 1 ≠ Y := by omega
  have hR2l : w.heap.size + 1 < w2.heap.size := by omega
  rw [hno]
  have x0 : w2.cell? ⟨w.heap.size, 0, none⟩ = some (.int .i64 5) := by rw [Go.Joins.cell_of_block hc2]; rfl
  have x2 : w2.cell? ⟨w.heap.size, 2, none⟩ = some (.string key) := by rw [Go.Joins.cell_of_block hc2]; rfl
  have x3 : w2.cell? ⟨w.heap.size, 3, none⟩ = some (.string high) := by rw [Go.Joins.cell_of_block hc2]; rfl
  have x4 : w2.cell? ⟨w.heap.size, 4, none⟩ = some (.string val) := by rw [Go.Joins.cell_of_block hc2]; rfl
  have hxl : w.heap.size < w2.heap.size := by omega
  have HG := xhide (rwrite_any hm2 hps.1 hps.2.1 ⟨key, val, false⟩)
  clear hb02 hc2 hr2 hm2 hb2 HRF
  go_wp2_with fail
  refine HG.out.mono ?_
  rintro e w3 ⟨rfl, hn3, hc3⟩
  have hr3 := (hc3.2 _ hR2l hRY).trans HR2.out
  obtain ⟨⟨k0, k1, k2, k3, k4, k5⟩, g0, g1, g2, g3, g4, g5⟩ := rp_cells hr3
  have hR3l : w.heap.size + 1 < w3.heap.size := (Array.getElem?_eq_some_iff.1 hr3).1
  have FIN := xhide (rn_rp H.out HB02.out (by omega : w.heap.size ≤ w.heap.size + 1) hR2l hn3 hc3 (.int .i64 (wrt ⟨L, tt, some ps⟩ ⟨key, val, false⟩).2.code) (.string ⟨#[]⟩) (.bool false) (.slice none 0 0) (.int .i64 0) (.int .i64 0))
  have HPR : Hid ((ans ⟨L, tt, some ps⟩ ⟨5, mode, key, high, val, draw, nn⟩ 5).2 = { code := (wrt ⟨L, tt, some ps⟩ ⟨key, val, false⟩).2.code, time := 0 }) := xhide (by show (wrt ⟨L, tt, some ps⟩ ⟨key, val, false⟩).2 = _; unfold wrt; split <;> rfl)
  have HR3 := xhide hr3
  clear hr3 hn3 hc3 HG
  go_wp2
  refine bodyPost_ret (v := rp0 (wrt ⟨L, tt, some ps⟩ ⟨key, val, false⟩).2.code .empty false 0) (results_cell_row (p := 4) (ty := 41) rfl _ _ (w.heap.size + 1) 41 _ (0, 0) _ rfl (rp_set HR3.out _ _ _ _ _ _) Try.underlying41 rfl (by kernel_rfl)) rfl ?_
  rw [HPR.out]
  exact ⟨_, rfl, ⟨none, 0, rfl, rfl, Nat.le_refl _, Nat.zero_le _, fun q => absurd q (Nat.lt_irrefl 0)⟩, FIN.out.1, FIN.out.2⟩
theorem rDo_6 (h : Rm w Y ⟨L, tt, o⟩ ao cap ao2 cap2) (ok : (⟨L, tt, o⟩ : Ms).ok) (hL : L.length + 70 ≤ 10000000) (mode draw nn : Int) (key high val : ByteArray) (hno : rf ⟨L, tt, o⟩ ⟨6, mode, key, high, val, draw, nn⟩ = 0) : Calls Try.prog 14 #[ptr Y, Cl.v ⟨6, mode, key, high, val, draw, nn⟩] w fun e w' => ∃ v, e = .returned v ∧ RpR w' v (ans ⟨L, tt, o⟩ ⟨6, mode, key, high, val, draw, nn⟩ 6).2 ∧ Rn w w' Y ao ao2 (ans ⟨L, tt, o⟩ ⟨6, mode, key, high, val, draw, nn⟩ 6).1 ∧ Chg (fun j => j = Y) w w' := by
  obtain ⟨ps, rfl⟩ : ∃ ps, o = some ps := by
    cases o with
    | some ps => exact ⟨ps, rfl⟩
    | none =>
      exfalso
      unfold rf at hno
      rw [if_neg (by simp)] at hno
      revert hno
      show fst0 (wrg ⟨L, tt, none⟩ ⟨6, mode, key, high, val, draw, nn⟩ 6) = 0 → False
      simp [wrg, fst0]
  have hps := ok.wsrt ps rfl
  have hlY := h.lt
  obtain ⟨W1, hW1⟩ : ∃ W1, W1 = (w.alloc (Cl.obj ⟨6, mode, key, high, val, draw, nn⟩)).alloc rpB := ⟨_, rfl⟩
  have hb1 : Below w.heap.size w W1 := by rw [hW1]; exact ML.below2 _ _ _
  have hz1 : W1.heap.size = w.heap.size + 2 := by rw [hW1]; simp
  have hc1 : W1.heap[w.heap.size]? = some (Cl.obj ⟨6, mode, key, high, val, draw, nn⟩) := by rw [hW1]; exact (Below.heap_alloc _ _ _ (by simp)).trans (heap_alloc_new _ _)
  have hr1 : W1.heap[w.heap.size + 1]? = some rpB := by rw [hW1]; exact ML.heap_alloc_at (by simp) _
  have HRF := xhide (rrefused_any (h.below hb1).x ok ⟨6, mode, key, high, val, draw, nn⟩)
  have H := xhide h
  have HB1 := xhide hb1
  have HC1 := xhide hc1
  have HR1 := xhide hr1
  have HOK := xhide ok
  clear h hb1 hc1 hr1 ok
  go_enter Try.func14, Try.ntmps14
  go_wp2_with fail
  rw [← hW1]
  clear hW1
  refine HRF.out.mono ?_
  rintro e w2 ⟨rfl, hb2⟩
  have hb02 := HB1.out.trans (hb2.mono HB1.out.size)
  have hz2 := hb2.size
  have hc2 := (hb2.block _ (by omega)).trans HC1.out
  have hr2 := (hb2.block _ (by omega)).trans HR1.out
  have hm2 := H.out.below hb02
  have HB02 := xhide hb02
  have HM2 := xhide hm2
  have HR2 := xhide hr2
  have hRY : w.heap.size + 1 ≠ Y := by omega
  have hR2l : w.heap.size + 1 < w2.heap.size := by omega
  rw [hno]
  have x0 : w2.cell? ⟨w.heap.size, 0, none⟩ = some (.int .i64 6) := by rw [Go.Joins.cell_of_block hc2]; rfl
  have x2 : w2.cell? ⟨w.heap.size, 2, none⟩ = some (.string key) := by rw [Go.Joins.cell_of_block hc2]; rfl
  have x3 : w2.cell? ⟨w.heap.size, 3, none⟩ = some (.string high) := by rw [Go.Joins.cell_of_block hc2]; rfl
  have x4 : w2.cell? ⟨w.heap.size, 4, none⟩ = some (.string val) := by rw [Go.Joins.cell_of_block hc2]; rfl
  have hxl : w.heap.size < w2.heap.size := by omega
  have HG := xhide (rwrite_any hm2 hps.1 hps.2.1 ⟨key, ⟨#[]⟩, true⟩)
  clear hb02 hc2 hr2 hm2 hb2 HRF
  go_wp2_with fail
  refine HG.out.mono ?_
  rintro e w3 ⟨rfl, hn3, hc3⟩
  have hr3 := (hc3.2 _ hR2l hRY).trans HR2.out
  obtain ⟨⟨k0, k1, k2, k3, k4, k5⟩, g0, g1, g2, g3, g4, g5⟩ := rp_cells hr3
  have hR3l : w.heap.size + 1 < w3.heap.size := (Array.getElem?_eq_some_iff.1 hr3).1
  have FIN := xhide (rn_rp H.out HB02.out (by omega : w.heap.size ≤ w.heap.size + 1) hR2l hn3 hc3 (.int .i64 (wrt ⟨L, tt, some ps⟩ ⟨key, ⟨#[]⟩, true⟩).2.code) (.string ⟨#[]⟩) (.bool false) (.slice none 0 0) (.int .i64 0) (.int .i64 0))
  have HPR : Hid ((ans ⟨L, tt, some ps⟩ ⟨6, mode, key, high, val, draw, nn⟩ 6).2 = { code := (wrt ⟨L, tt, some ps⟩ ⟨key, ⟨#[]⟩, true⟩).2.code, time := 0 }) := xhide (by show (wrt ⟨L, tt, some ps⟩ ⟨key, ⟨#[]⟩, true⟩).2 = _; unfold wrt; split <;> rfl)
  have HR3 := xhide hr3
  clear hr3 hn3 hc3 HG
  go_wp2
  refine bodyPost_ret (v := rp0 (wrt ⟨L, tt, some ps⟩ ⟨key, ⟨#[]⟩, true⟩).2.code .empty false 0) (results_cell_row (p := 4) (ty := 41) rfl _ _ (w.heap.size + 1) 41 _ (0, 0) _ rfl (rp_set HR3.out _ _ _ _ _ _) Try.underlying41 rfl (by kernel_rfl)) rfl ?_
  rw [HPR.out]
  exact ⟨_, rfl, ⟨none, 0, rfl, rfl, Nat.le_refl _, Nat.zero_le _, fun q => absurd q (Nat.lt_irrefl 0)⟩, FIN.out.1, FIN.out.2⟩
theorem rDo_7 (h : Rm w Y ⟨L, tt, o⟩ ao cap ao2 cap2) (ok : (⟨L, tt, o⟩ : Ms).ok) (hL : L.length + 70 ≤ 10000000) (mode draw nn : Int) (key high val : ByteArray) (hno : rf ⟨L, tt, o⟩ ⟨7, mode, key, high, val, draw, nn⟩ = 0) : Calls Try.prog 14 #[ptr Y, Cl.v ⟨7, mode, key, high, val, draw, nn⟩] w fun e w' => ∃ v, e = .returned v ∧ RpR w' v (ans ⟨L, tt, o⟩ ⟨7, mode, key, high, val, draw, nn⟩ 7).2 ∧ Rn w w' Y ao ao2 (ans ⟨L, tt, o⟩ ⟨7, mode, key, high, val, draw, nn⟩ 7).1 ∧ Chg (fun j => j = Y) w w' := by
  obtain ⟨ps, rfl⟩ : ∃ ps, o = some ps := by
    cases o with
    | some ps => exact ⟨ps, rfl⟩
    | none =>
      exfalso
      unfold rf at hno
      rw [if_neg (by simp)] at hno
      revert hno
      show fst0 (wrg ⟨L, tt, none⟩ ⟨7, mode, key, high, val, draw, nn⟩ 7) = 0 → False
      simp [wrg, fst0]
  have hps := ok.wsrt ps rfl
  have hlY := h.lt
  obtain ⟨W1, hW1⟩ : ∃ W1, W1 = (w.alloc (Cl.obj ⟨7, mode, key, high, val, draw, nn⟩)).alloc rpB := ⟨_, rfl⟩
  have hb1 : Below w.heap.size w W1 := by rw [hW1]; exact ML.below2 _ _ _
  have hz1 : W1.heap.size = w.heap.size + 2 := by rw [hW1]; simp
  have hc1 : W1.heap[w.heap.size]? = some (Cl.obj ⟨7, mode, key, high, val, draw, nn⟩) := by rw [hW1]; exact (Below.heap_alloc _ _ _ (by simp)).trans (heap_alloc_new _ _)
  have hr1 : W1.heap[w.heap.size + 1]? = some rpB := by rw [hW1]; exact ML.heap_alloc_at (by simp) _
  have HRF := xhide (rrefused_any (h.below hb1).x ok ⟨7, mode, key, high, val, draw, nn⟩)
  have H := xhide h
  have HB1 := xhide hb1
  have HC1 := xhide hc1
  have HR1 := xhide hr1
  have HOK := xhide ok
  clear h hb1 hc1 hr1 ok
  go_enter Try.func14, Try.ntmps14
  go_wp2_with fail
  rw [← hW1]
  clear hW1
  refine HRF.out.mono ?_
  rintro e w2 ⟨rfl, hb2⟩
  have hb02 := HB1.out.trans (hb2.mono HB1.out.size)
  have hz2 := hb2.size
  have hc2 := (hb2.block _ (by omega)).trans HC1.out
  have hr2 := (hb2.block _ (by omega)).trans HR1.out
  have hm2 := H.out.below hb02
  have HB02 := xhide hb02
  have HM2 := xhide hm2
  have HR2 := xhide hr2
  have hRY : w.heap.size + 1 ≠ Y := by omega
  have hR2l : w.heap.size + 1 < w2.heap.size := by omega
  rw [hno]
  have x0 : w2.cell? ⟨w.heap.size, 0, none⟩ = some (.int .i64 7) := by rw [Go.Joins.cell_of_block hc2]; rfl
  have x2 : w2.cell? ⟨w.heap.size, 2, none⟩ = some (.string key) := by rw [Go.Joins.cell_of_block hc2]; rfl
  have x3 : w2.cell? ⟨w.heap.size, 3, none⟩ = some (.string high) := by rw [Go.Joins.cell_of_block hc2]; rfl
  have x4 : w2.cell? ⟨w.heap.size, 4, none⟩ = some (.string val) := by rw [Go.Joins.cell_of_block hc2]; rfl
  have hxl : w.heap.size < w2.heap.size := by omega
  have HG := xhide (rcommit_any hm2 (by omega) hps.2.1 HOK.out.tm)
  clear hb02 hc2 hr2 hm2 hb2 HRF
  go_wp2_with fail
  refine HG.out.mono ?_
  rintro e w3 ⟨rfl, hn3, hc3⟩
  have hr3 := (hc3.2 _ hR2l hRY).trans HR2.out
  obtain ⟨⟨k0, k1, k2, k3, k4, k5⟩, g0, g1, g2, g3, g4, g5⟩ := rp_cells hr3
  have hR3l : w.heap.size + 1 < w3.heap.size := (Array.getElem?_eq_some_iff.1 hr3).1
  have FIN := xhide (rn_rp H.out HB02.out (by omega : w.heap.size ≤ w.heap.size + 1) hR2l hn3 hc3 (.int .i64 (cmt ⟨L, tt, some ps⟩).2.code) (.string ⟨#[]⟩) (.bool false) (.slice none 0 0) (.int .i64 (cmt ⟨L, tt, some ps⟩).2.time) (.int .i64 0))
  have HPR : Hid ((ans ⟨L, tt, some ps⟩ ⟨7, mode, key, high, val, draw, nn⟩ 7).2 = { code := (cmt ⟨L, tt, some ps⟩).2.code, time := (cmt ⟨L, tt, some ps⟩).2.time }) := xhide (by show (cmt ⟨L, tt, some ps⟩).2 = _; unfold cmt; split <;> rfl)
  have HR3 := xhide hr3
  clear hr3 hn3 hc3 HG
  go_wp2
  refine bodyPost_ret (v := rp0 (cmt ⟨L, tt, some ps⟩).2.code .empty false (cmt ⟨L, tt, some ps⟩).2.time) (results_cell_row (p := 4) (ty := 41) rfl _ _ (w.heap.size + 1) 41 _ (0, 0) _ rfl (rp_set HR3.out _ _ _ _ _ _) Try.underlying41 rfl (by kernel_rfl)) rfl ?_
  rw [HPR.out]
  exact ⟨_, rfl, ⟨none, 0, rfl, rfl, Nat.le_refl _, Nat.zero_le _, fun q => absurd q (Nat.lt_irrefl 0)⟩, FIN.out.1, FIN.out.2⟩
theorem rDo_8 (h : Rm w Y ⟨L, tt, o⟩ ao cap ao2 cap2) (ok : (⟨L, tt, o⟩ : Ms).ok) (hL : L.length + 70 ≤ 10000000) (mode draw nn : Int) (key high val : ByteArray) (hno : rf ⟨L, tt, o⟩ ⟨8, mode, key, high, val, draw, nn⟩ = 0) : Calls Try.prog 14 #[ptr Y, Cl.v ⟨8, mode, key, high, val, draw, nn⟩] w fun e w' => ∃ v, e = .returned v ∧ RpR w' v (ans ⟨L, tt, o⟩ ⟨8, mode, key, high, val, draw, nn⟩ 8).2 ∧ Rn w w' Y ao ao2 (ans ⟨L, tt, o⟩ ⟨8, mode, key, high, val, draw, nn⟩ 8).1 ∧ Chg (fun j => j = Y) w w' := by
  obtain ⟨ps, rfl⟩ : ∃ ps, o = some ps := by
    cases o with
    | some ps => exact ⟨ps, rfl⟩
    | none =>
      exfalso
      unfold rf at hno
      rw [if_neg (by simp)] at hno
      revert hno
      show fst0 (wrg ⟨L, tt, none⟩ ⟨8, mode, key, high, val, draw, nn⟩ 8) = 0 → False
      simp [wrg, fst0]
  have hps := ok.wsrt ps rfl
  have hlY := h.lt
  obtain ⟨W1, hW1⟩ : ∃ W1, W1 = (w.alloc (Cl.obj ⟨8, mode, key, high, val, draw, nn⟩)).alloc rpB := ⟨_, rfl⟩
  have hb1 : Below w.heap.size w W1 := by rw [hW1]; exact ML.below2 _ _ _
  have hz1 : W1.heap.size = w.heap.size + 2 := by rw [hW1]; simp
  have hc1 : W1.heap[w.heap.size]? = some (Cl.obj ⟨8, mode, key, high, val, draw, nn⟩) := by rw [hW1]; exact (Below.heap_alloc _ _ _ (by simp)).trans (heap_alloc_new _ _)
  have hr1 : W1.heap[w.heap.size + 1]? = some rpB := by rw [hW1]; exact ML.heap_alloc_at (by simp) _
  have HRF := xhide (rrefused_any (h.below hb1).x ok ⟨8, mode, key, high, val, draw, nn⟩)
  have H := xhide h
  have HB1 := xhide hb1
  have HC1 := xhide hc1
  have HR1 := xhide hr1
  have HOK := xhide ok
  clear h hb1 hc1 hr1 ok
  go_enter Try.func14, Try.ntmps14
  go_wp2_with fail
  rw [← hW1]
  clear hW1
  refine HRF.out.mono ?_
  rintro e w2 ⟨rfl, hb2⟩
  have hb02 := HB1.out.trans (hb2.mono HB1.out.size)
  have hz2 := hb2.size
  have hc2 := (hb2.block _ (by omega)).trans HC1.out
  have hr2 := (hb2.block _ (by omega)).trans HR1.out
  have hm2 := H.out.below hb02
  have HB02 := xhide hb02
  have HM2 := xhide hm2
  have HR2 := xhide hr2
  have hRY : w.heap.size + 1 ≠ Y := by omega
  have hR2l : w.heap.size + 1 < w2.heap.size := by omega
  rw [hno]
  have x0 : w2.cell? ⟨w.heap.size, 0, none⟩ = some (.int .i64 8) := by rw [Go.Joins.cell_of_block hc2]; rfl
  have x2 : w2.cell? ⟨w.heap.size, 2, none⟩ = some (.string key) := by rw [Go.Joins.cell_of_block hc2]; rfl
  have x3 : w2.cell? ⟨w.heap.size, 3, none⟩ = some (.string high) := by rw [Go.Joins.cell_of_block hc2]; rfl
  have x4 : w2.cell? ⟨w.heap.size, 4, none⟩ = some (.string val) := by rw [Go.Joins.cell_of_block hc2]; rfl
  have hxl : w.heap.size < w2.heap.size := by omega
  have HG := xhide (rover_any hm2)
  clear hb02 hc2 hr2 hm2 hb2 HRF
  go_wp2_with fail
  refine HG.out.mono ?_
  rintro e w3 ⟨rfl, hm3, hc3⟩
  have hr3 := (hc3.2 _ hR2l hRY).trans HR2.out
  obtain ⟨⟨k0, k1, k2, k3, k4, k5⟩, g0, g1, g2, g3, g4, g5⟩ := rp_cells hr3
  have hR3l : w.heap.size + 1 < w3.heap.size := (Array.getElem?_eq_some_iff.1 hr3).1
  have FIN := xhide (rn_rp H.out HB02.out (by omega : w.heap.size ≤ w.heap.size + 1) hR2l ⟨_, _, _, _, hm3, fun j hj => .inl hj, nofun⟩ hc3 (.int .i64 0) (.string ⟨#[]⟩) (.bool false) (.slice none 0 0) (.int .i64 0) (.int .i64 0))
  have HR3 := xhide hr3
  clear hr3 hm3 hc3 HG
  go_wp2
  refine bodyPost_ret (v := rp0 0 .empty false 0) (results_cell_row (p := 4) (ty := 41) rfl _ _ (w.heap.size + 1) 41 _ (0, 0) _ rfl (rp_set HR3.out _ _ _ _ _ _) Try.underlying41 rfl (by kernel_rfl)) rfl ?_
  exact ⟨_, rfl, ⟨none, 0, rfl, rfl, Nat.le_refl _, Nat.zero_le _, fun q => absurd q (Nat.lt_irrefl 0)⟩, FIN.out.1, FIN.out.2⟩
theorem rDo_9 (h : Rm w Y ⟨L, tt, o⟩ ao cap ao2 cap2) (ok : (⟨L, tt, o⟩ : Ms).ok) (hL : L.length + 70 ≤ 10000000) (mode draw nn : Int) (key high val : ByteArray) (hno : rf ⟨L, tt, o⟩ ⟨9, mode, key, high, val, draw, nn⟩ = 0) : Calls Try.prog 14 #[ptr Y, Cl.v ⟨9, mode, key, high, val, draw, nn⟩] w fun e w' => ∃ v, e = .returned v ∧ RpR w' v (ans ⟨L, tt, o⟩ ⟨9, mode, key, high, val, draw, nn⟩ 9).2 ∧ Rn w w' Y ao ao2 (ans ⟨L, tt, o⟩ ⟨9, mode, key, high, val, draw, nn⟩ 9).1 ∧ Chg (fun j => j = Y) w w' := by
  have hon : o = none := by
    cases o with
    | none => rfl
    | some ws =>
      exfalso
      unfold rf at hno
      rw [if_neg (by simp)] at hno
      revert hno
      show fst0 (wrg ⟨L, tt, some ws⟩ ⟨9, mode, key, high, val, draw, nn⟩ 9) = 0 → False
      simp [wrg, fst0]
  subst hon
  have hlY := h.lt
  obtain ⟨W1, hW1⟩ : ∃ W1, W1 = (w.alloc (Cl.obj ⟨9, mode, key, high, val, draw, nn⟩)).alloc rpB := ⟨_, rfl⟩
  have hb1 : Below w.heap.size w W1 := by rw [hW1]; exact ML.below2 _ _ _
  have hz1 : W1.heap.size = w.heap.size + 2 := by rw [hW1]; simp
  have hc1 : W1.heap[w.heap.size]? = some (Cl.obj ⟨9, mode, key, high, val, draw, nn⟩) := by rw [hW1]; exact (Below.heap_alloc _ _ _ (by simp)).trans (heap_alloc_new _ _)
  have hr1 : W1.heap[w.heap.size + 1]? = some rpB := by rw [hW1]; exact ML.heap_alloc_at (by simp) _
  have HRF := xhide (rrefused_any (h.below hb1).x ok ⟨9, mode, key, high, val, draw, nn⟩)
  have H := xhide h
  have HB1 := xhide hb1
  have HC1 := xhide hc1
  have HR1 := xhide hr1
  have HOK := xhide ok
  clear h hb1 hc1 hr1 ok
  go_enter Try.func14, Try.ntmps14
  go_wp2_with fail
  rw [← hW1]
  clear hW1
  refine HRF.out.mono ?_
  rintro e w2 ⟨rfl, hb2⟩
  have hb02 := HB1.out.trans (hb2.mono HB1.out.size)
  have hz2 := hb2.size
  have hc2 := (hb2.block _ (by omega)).trans HC1.out
  have hr2 := (hb2.block _ (by omega)).trans HR1.out
  have hm2 := H.out.below hb02
  have HB02 := xhide hb02
  have HM2 := xhide hm2
  have HR2 := xhide hr2
  have hRY : w.heap.size + 1 ≠ Y := by omega
  have hR2l : w.heap.size + 1 < w2.heap.size := by omega
  rw [hno]
  have x0 : w2.cell? ⟨w.heap.size, 0, none⟩ = some (.int .i64 9) := by rw [Go.Joins.cell_of_block hc2]; rfl
  have x2 : w2.cell? ⟨w.heap.size, 2, none⟩ = some (.string key) := by rw [Go.Joins.cell_of_block hc2]; rfl
  have x3 : w2.cell? ⟨w.heap.size, 3, none⟩ = some (.string high) := by rw [Go.Joins.cell_of_block hc2]; rfl
  have x4 : w2.cell? ⟨w.heap.size, 4, none⟩ = some (.string val) := by rw [Go.Joins.cell_of_block hc2]; rfl
  have hxl : w.heap.size < w2.heap.size := by omega
  obtain ⟨⟨k0, k1, k2, k3, k4, k5⟩, g0, g1, g2, g3, g4, g5⟩ := rp_cells hr2
  have FIN := xhide (rn_rp H.out hb02 (by omega : w.heap.size ≤ w.heap.size + 1) hR2l (rn_same HM2.out (Below.refl _ _)) Chg.refl (.int .i64 0) (.string ⟨#[]⟩) (.bool false) (.slice none 0 0) (.int .i64 0) (.int .i64 0))
  have HR3 := HR2
  clear hb02 hc2 hr2 hm2 hb2 HRF
  go_wp2
  refine bodyPost_ret (v := rp0 0 .empty false 0) (results_cell_row (p := 4) (ty := 41) rfl _ _ (w.heap.size + 1) 41 _ (0, 0) _ rfl (rp_set HR3.out _ _ _ _ _ _) Try.underlying41 rfl (by kernel_rfl)) rfl ?_
  exact ⟨_, rfl, ⟨none, 0, rfl, rfl, Nat.le_refl _, Nat.zero_le _, fun q => absurd q (Nat.lt_irrefl 0)⟩, FIN.out.1, FIN.out.2⟩
theorem rDo_10 (h : Rm w Y ⟨L, tt, o⟩ ao cap ao2 cap2) (ok : (⟨L, tt, o⟩ : Ms).ok) (hL : L.length + 70 ≤ 10000000) (mode draw nn : Int) (key high val : ByteArray) (hno : rf ⟨L, tt, o⟩ ⟨10, mode, key, high, val, draw, nn⟩ = 0) : Calls Try.prog 14 #[ptr Y, Cl.v ⟨10, mode, key, high, val, draw, nn⟩] w fun e w' => ∃ v, e = .returned v ∧ RpR w' v (ans ⟨L, tt, o⟩ ⟨10, mode, key, high, val, draw, nn⟩ 10).2 ∧ Rn w w' Y ao ao2 (ans ⟨L, tt, o⟩ ⟨10, mode, key, high, val, draw, nn⟩ 10).1 ∧ Chg (fun j => j = Y) w w' := by
  have hon : o = none := by
    cases o with
    | none => rfl
    | some ws =>
      exfalso
      unfold rf at hno
      rw [if_neg (by simp)] at hno
      revert hno
      show fst0 (wrg ⟨L, tt, some ws⟩ ⟨10, mode, key, high, val, draw, nn⟩ 10) = 0 → False
      simp [wrg, fst0]
  subst hon
  have hlY := h.lt
  obtain ⟨W1, hW1⟩ : ∃ W1, W1 = (w.alloc (Cl.obj ⟨10, mode, key, high, val, draw, nn⟩)).alloc rpB := ⟨_, rfl⟩
  have hb1 : Below w.heap.size w W1 := by rw [hW1]; exact ML.below2 _ _ _
  have hz1 : W1.heap.size = w.heap.size + 2 := by rw [hW1]; simp
  have hc1 : W1.heap[w.heap.size]? = some (Cl.obj ⟨10, mode, key, high, val, draw, nn⟩) := by rw [hW1]; exact (Below.heap_alloc _ _ _ (by simp)).trans (heap_alloc_new _ _)
  have hr1 : W1.heap[w.heap.size + 1]? = some rpB := by rw [hW1]; exact ML.heap_alloc_at (by simp) _
  have HRF := xhide (rrefused_any (h.below hb1).x ok ⟨10, mode, key, high, val, draw, nn⟩)
  have H := xhide h
  have HB1 := xhide hb1
  have HC1 := xhide hc1
  have HR1 := xhide hr1
  have HOK := xhide ok
  clear h hb1 hc1 hr1 ok
  go_enter Try.func14, Try.ntmps14
  go_wp2_with fail
  rw [← hW1]
  clear hW1
  refine HRF.out.mono ?_
  rintro e w2 ⟨rfl, hb2⟩
  have hb02 := HB1.out.trans (hb2.mono HB1.out.size)
  have hz2 := hb2.size
  have hc2 := (hb2.block _ (by omega)).trans HC1.out
  have hr2 := (hb2.block _ (by omega)).trans HR1.out
  have hm2 := H.out.below hb02
  have HB02 := xhide hb02
  have HM2 := xhide hm2
  have HR2 := xhide hr2
  have hRY : w.heap.size + 1 ≠ Y := by omega
  have hR2l : w.heap.size + 1 < w2.heap.size := by omega
  rw [hno]
  have x0 : w2.cell? ⟨w.heap.size, 0, none⟩ = some (.int .i64 10) := by rw [Go.Joins.cell_of_block hc2]; rfl
  have x2 : w2.cell? ⟨w.heap.size, 2, none⟩ = some (.string key) := by rw [Go.Joins.cell_of_block hc2]; rfl
  have x3 : w2.cell? ⟨w.heap.size, 3, none⟩ = some (.string high) := by rw [Go.Joins.cell_of_block hc2]; rfl
  have x4 : w2.cell? ⟨w.heap.size, 4, none⟩ = some (.string val) := by rw [Go.Joins.cell_of_block hc2]; rfl
  have hxl : w.heap.size < w2.heap.size := by omega
  obtain ⟨⟨k0, k1, k2, k3, k4, k5⟩, g0, g1, g2, g3, g4, g5⟩ := rp_cells hr2
  have FIN := xhide (rn_rp H.out hb02 (by omega : w.heap.size ≤ w.heap.size + 1) hR2l (rn_same HM2.out (Below.refl _ _)) Chg.refl (.int .i64 0) (.string ⟨#[]⟩) (.bool false) (.slice none 0 0) (.int .i64 0) (.int .i64 0))
  have HR3 := HR2
  clear hb02 hc2 hr2 hm2 hb2 HRF
  go_wp2
  refine bodyPost_ret (v := rp0 0 .empty false 0) (results_cell_row (p := 4) (ty := 41) rfl _ _ (w.heap.size + 1) 41 _ (0, 0) _ rfl (rp_set HR3.out _ _ _ _ _ _) Try.underlying41 rfl (by kernel_rfl)) rfl ?_
  exact ⟨_, rfl, ⟨none, 0, rfl, rfl, Nat.le_refl _, Nat.zero_le _, fun q => absurd q (Nat.lt_irrefl 0)⟩, FIN.out.1, FIN.out.2⟩
theorem rDo_11 (h : Rm w Y ⟨L, tt, o⟩ ao cap ao2 cap2) (ok : (⟨L, tt, o⟩ : Ms).ok) (hL : L.length + 70 ≤ 10000000) (mode draw nn : Int) (key high val : ByteArray) (hno : rf ⟨L, tt, o⟩ ⟨11, mode, key, high, val, draw, nn⟩ = 0) : Calls Try.prog 14 #[ptr Y, Cl.v ⟨11, mode, key, high, val, draw, nn⟩] w fun e w' => ∃ v, e = .returned v ∧ RpR w' v (ans ⟨L, tt, o⟩ ⟨11, mode, key, high, val, draw, nn⟩ 11).2 ∧ Rn w w' Y ao ao2 (ans ⟨L, tt, o⟩ ⟨11, mode, key, high, val, draw, nn⟩ 11).1 ∧ Chg (fun j => j = Y) w w' := by
  have hon : o = none := by
    cases o with
    | none => rfl
    | some ws =>
      exfalso
      unfold rf at hno
      rw [if_neg (by simp)] at hno
      revert hno
      show fst0 (wrg ⟨L, tt, some ws⟩ ⟨11, mode, key, high, val, draw, nn⟩ 11) = 0 → False
      simp [wrg, fst0]
  subst hon
  have hlY := h.lt
  obtain ⟨W1, hW1⟩ : ∃ W1, W1 = (w.alloc (Cl.obj ⟨11, mode, key, high, val, draw, nn⟩)).alloc rpB := ⟨_, rfl⟩
  have hb1 : Below w.heap.size w W1 := by rw [hW1]; exact ML.below2 _ _ _
  have hz1 : W1.heap.size = w.heap.size + 2 := by rw [hW1]; simp
  have hc1 : W1.heap[w.heap.size]? = some (Cl.obj ⟨11, mode, key, high, val, draw, nn⟩) := by rw [hW1]; exact (Below.heap_alloc _ _ _ (by simp)).trans (heap_alloc_new _ _)
  have hr1 : W1.heap[w.heap.size + 1]? = some rpB := by rw [hW1]; exact ML.heap_alloc_at (by simp) _
  have HRF := xhide (rrefused_any (h.below hb1).x ok ⟨11, mode, key, high, val, draw, nn⟩)
  have H := xhide h
  have HB1 := xhide hb1
  have HC1 := xhide hc1
  have HR1 := xhide hr1
  have HOK := xhide ok
  clear h hb1 hc1 hr1 ok
  go_enter Try.func14, Try.ntmps14
  go_wp2_with fail
  rw [← hW1]
  clear hW1
  refine HRF.out.mono ?_
  rintro e w2 ⟨rfl, hb2⟩
  have hb02 := HB1.out.trans (hb2.mono HB1.out.size)
  have hz2 := hb2.size
  have hc2 := (hb2.block _ (by omega)).trans HC1.out
  have hr2 := (hb2.block _ (by omega)).trans HR1.out
  have hm2 := H.out.below hb02
  have HB02 := xhide hb02
  have HM2 := xhide hm2
  have HR2 := xhide hr2
  have hRY : w.heap.size + 1 ≠ Y := by omega
  have hR2l : w.heap.size + 1 < w2.heap.size := by omega
  rw [hno]
  have x0 : w2.cell? ⟨w.heap.size, 0, none⟩ = some (.int .i64 11) := by rw [Go.Joins.cell_of_block hc2]; rfl
  have x2 : w2.cell? ⟨w.heap.size, 2, none⟩ = some (.string key) := by rw [Go.Joins.cell_of_block hc2]; rfl
  have x3 : w2.cell? ⟨w.heap.size, 3, none⟩ = some (.string high) := by rw [Go.Joins.cell_of_block hc2]; rfl
  have x4 : w2.cell? ⟨w.heap.size, 4, none⟩ = some (.string val) := by rw [Go.Joins.cell_of_block hc2]; rfl
  have hxl : w.heap.size < w2.heap.size := by omega
  obtain ⟨⟨k0, k1, k2, k3, k4, k5⟩, g0, g1, g2, g3, g4, g5⟩ := rp_cells hr2
  have FIN := xhide (rn_rp H.out hb02 (by omega : w.heap.size ≤ w.heap.size + 1) hR2l (rn_same HM2.out (Below.refl _ _)) Chg.refl (.int .i64 0) (.string ⟨#[]⟩) (.bool false) (.slice none 0 0) (.int .i64 0) (.int .i64 0))
  have HR3 := HR2
  clear hb02 hc2 hr2 hm2 hb2 HRF
  go_wp2
  refine bodyPost_ret (v := rp0 0 .empty false 0) (results_cell_row (p := 4) (ty := 41) rfl _ _ (w.heap.size + 1) 41 _ (0, 0) _ rfl (rp_set HR3.out _ _ _ _ _ _) Try.underlying41 rfl (by kernel_rfl)) rfl ?_
  exact ⟨_, rfl, ⟨none, 0, rfl, rfl, Nat.le_refl _, Nat.zero_le _, fun q => absurd q (Nat.lt_irrefl 0)⟩, FIN.out.1, FIN.out.2⟩
theorem rDo_any (h : Rm w Y ⟨L, tt, o⟩ ao cap ao2 cap2) (ok : (⟨L, tt, o⟩ : Ms).ok) (hL : L.length + 70 ≤ 10000000) (C : Cl) : Calls Try.prog 14 #[ptr Y, C.v] w fun e w' => ∃ v, e = .returned v ∧ RpR w' v (stp ⟨L, tt, o⟩ C).2 ∧ Rn w w' Y ao ao2 (stp ⟨L, tt, o⟩ C).1 ∧ Chg (fun j => j = Y) w w' := by
  by_cases hr : rf ⟨L, tt, o⟩ C = 0
  · obtain ⟨hk, e⟩ := stp_yes hr
    rw [e]
    obtain ⟨kind, mode, key, high, val, draw, nn⟩ := C
    simp only [] at hk
    rcases (show kind = 1 ∨ kind = 2 ∨ kind = 3 ∨ kind = 4 ∨ kind = 5 ∨ kind = 6 ∨ kind = 7 ∨ kind = 8 ∨ kind = 9 ∨ kind = 10 ∨ kind = 11 by omega) with rfl | rfl | rfl | rfl | rfl | rfl | rfl | rfl | rfl | rfl | rfl
    · exact rDo_1 h ok hL mode draw nn key high val hr
    · exact rDo_2 h ok hL mode draw nn key high val hr
    · exact rDo_3 h ok hL mode draw nn key high val hr
    · exact rDo_4 h ok hL mode draw nn key high val hr
    · exact rDo_5 h ok hL mode draw nn key high val hr
    · exact rDo_6 h ok hL mode draw nn key high val hr
    · exact rDo_7 h ok hL mode draw nn key high val hr
    · exact rDo_8 h ok hL mode draw nn key high val hr
    · exact rDo_9 h ok hL mode draw nn key high val hr
    · exact rDo_10 h ok hL mode draw nn key high val hr
    · exact rDo_11 h ok hL mode draw nn key high val hr
  · rw [stp_no hr]
    exact rDo_no h ok _ _ _ _ _ _ _ hr
end
end Go.Proofs.Ytheidhkmmihjlaa
