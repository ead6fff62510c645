/-
  Keys: all keys, rising.
-/
import Derived.Test.YtopihgdbfhiejaaDoorSh7
import Derived.Sort.OwnSorted
import Derived.Sort.KeysCollected
set_option linter.unusedVariables false
set_option linter.unusedSimpArgs false
namespace Go.Proofs.YtopihgdbfhiejaaDoor
open Go.RowKit Go.Maps Go.Sort Go.Shelf

def kt (k : ByteArray) : List UInt8 := k.data.toList
theorem kt_enc (k : ByteArray) : encStr (kt k) = .string k := by
  unfold kt encStr
  cases k
  simp
/-- The keys of a list, as they lie. -/
def kys (s : Sl) : List (List UInt8) := s.tw.tail.map fun t => kt t.k
theorem kys_len (s : Sl) : (kys s).length = s.tw.length - 1 := by simp [kys]
theorem kys_next (s : Sl) {i : Nat} (hi : i + 1 < s.tw.length) : (kys s).take (i + 1) = (kys s).take i ++ [kt (s.at (i + 1)).k] := by
  have h1 : i < (kys s).length := by rw [kys_len]; omega
  rw [List.take_add_one, List.getElem?_eq_getElem h1]
  congr 1
  simp only [Option.toList_some]
  congr 1
  simp [kys, Sl.at, List.getD, List.getElem?_eq_getElem hi]
theorem infoS9 : (Tryd.prog.info? 9).map (fun i => (i.zero, i.size, i.bytes)) = some (some (.string .empty), 1, 16) := by kernel_rfl

section
variable {w : World} {K : Nat → Prop} {lb d z M : Nat} {s : Sl}
set_option maxRecDepth 100000 in
set_option maxHeartbeats 8000000 in
theorem LT.keys (h : LT w K lb d z M s) :
    Calls Tryd.prog 22 #[.pointer (some ⟨lb, 0, none⟩)] w fun e w' => ∃ (v : Value) (ts : List (List UInt8)), e = .returned v ∧ w'.ownsRow w.heap.size 9 1 v ts.length (ts.map encStr) ∧
      ts.Pairwise (fun x y => x ≤ y) ∧ ts.Perm (kys s) ∧ Below w.heap.size w w' := by
  obtain ⟨i0, hi0, z0, z1, z2⟩ := info_parts infoS9
  obtain ⟨g, gt, tc, sv, T, N, m, F, hL, hok, hcw, hz, r⟩ := h
  have HN := hide2 (hL.isNone hok.n1)
  have hcap := hL.cap
  have hn1 := hok.n1
  have htl := tw_le hok hcw
  have hcl := hcw.le
  have htl2 := hcw.tl
  have hNl : N.length ≤ 65536 := hL.aw.one.2
  have HGD : Hid (∀ i, i < s.tw.length → (s.at i).k.size ≤ 16) := hide2 (fun i hi => good_le hok hi)
  have HL := hide2 hL
  have c1 := hL.lk.cells.2.1
  have hgt : Hid (gt < w.heap.size) := hide2 (hL.kl gt (hL.kk gt (by simp)))
  have hlk := hL.lk.lt
  obtain ⟨n, hn⟩ : ∃ n, s.tw.length = n + 1 := ⟨s.tw.length - 1, by omega⟩
  have hni : (1 : Int) ≤ ((n + 1 : Nat) : Int) := by omega
  rw [hn] at c1
  have hkn : Hid (n = s.tw.length - 1) := hide2 (by omega)
  have HNN := hide2 hn
  have hnb : n + 1 ≤ 65536 := by omega
  have hntc : n + 1 ≤ tc := by omega
  have htcm : tc ≤ maxLen := hcap.2
  clear hL hok hcw r hcap hn htl hcl htl2 hNl hz hn1
  by_cases htc : tc = 1
  · have hn0 : n = 0 := by omega
    subst htc
    go_enter Tryd.func22, Tryd.ntmps22
    go_wp2_with fail
    refine HN.out.mono ?_
    rintro e w0 ⟨rfl, q0⟩
    subst q0
    clear HN
    go_wp2
    go_loopw [3, 14] (fun v i wr => ∃ k : Nat, k ≤ n ∧ i = .int .i64 (k : Int) ∧ Hid (wr.ownsRow w0.heap.size 9 1 v k (((kys s).take k).map encStr)) ∧ Hid (Below w0.heap.size w0 wr)) (fun _ i _ => n - (intOf i).toNat)
    case atStart => exact ⟨0, Nat.zero_le _, rfl, hide2 ⟨rfl, .inl ⟨rfl, rfl⟩⟩, hide2 (Below.refl _ w0)⟩
    case round =>
      obtain ⟨k, hk, rfl, RW, BL⟩ := hrel
      by_cases hkn2 : k < n
      · omega
      · have hkk : k = n := by omega
        subst hkk
        obtain ⟨ss, hss⟩ : ∃ x, x = kys s := ⟨_, rfl⟩
        have hlen : ss.length = k := by rw [hss, kys_len]; exact hkn.out.symm
        have RW2 : wr.ownsRow w0.heap.size 9 1 u3 ss.length (ss.map encStr) := by
          have := RW.out
          rw [List.take_of_length_le (by rw [kys_len, ← hkn.out]; exact Nat.le_refl _), ← hss] at this
          rw [hlen]; exact this
        have hpm : (ss.mergeSort (fun x y => decide (x ≤ y))).Perm ss := List.mergeSort_perm _ _
        have hsrt : (ss.mergeSort (fun x y => decide (x ≤ y))).Pairwise (fun x y => x ≤ y) := by
          have := List.pairwise_mergeSort (le := fun x y : List UInt8 => decide (x ≤ y)) (fun a b c h1 h2 => by simp only [decide_eq_true_eq] at *; exact List.le_trans h1 h2) (fun a b => by simp only [Bool.or_eq_true, decide_eq_true_eq]; exact List.le_total a b) ss
          exact this.imp (fun h => by simpa using h)
        have FIN : Hid (∀ (v : Value) (w' : World), w'.ownsRow w0.heap.size 9 1 v ss.length ((ss.mergeSort (fun x y => decide (x ≤ y))).map encStr) → Below w0.heap.size w0 w' →
            ∃ (v' : Value) (ts : List (List UInt8)), Ending.returned v = .returned v' ∧ w'.ownsRow w0.heap.size 9 1 v' ts.length (ts.map encStr) ∧ ts.Pairwise (fun x y => x ≤ y) ∧ ts.Perm (kys s) ∧ Below w0.heap.size w0 w') := hide2 (fun v w' h1 h2 =>
          ⟨v, ss.mergeSort (fun x y => decide (x ≤ y)), rfl, by rw [hpm.length_eq]; exact h1, hsrt, by rw [← hss]; exact hpm, h2⟩)
        have hssl : ss.length < 4611686018427387904 := by omega
        have HLEN := hide2 hlen
        clear hpm hsrt hss RW hlen
        rcases RW2.2 with ⟨rfl, h0⟩ | ⟨gg, cap, cur, rfl, hgb, hh, hn, hm, hs, ht⟩
        · have e0 : ss = [] := List.eq_nil_of_length_eq_zero h0
          subst e0
          have HSN := hide2 (AnyM.slices_Sort_string_none sortL none 0 wr)
          have HSN2 : Hid (Calls Tryd.prog 35 #[.slice none 0 0] wr fun e w' => e = .returned (.tuple #[]) ∧ w' = wr) := hide2 HSN.out
          clear HSN RW2
          go_wp2_with fail
          refine HSN2.out.mono ?_
          rintro e w5 ⟨rfl, q5⟩
          subst q5
          go_wp2
          go_ret
          exact FIN.out _ _ ⟨by simp, .inl ⟨rfl, rfl⟩⟩ BL.out
        · have hct := AnyM.slices_Sort_string sortL gg 0 cap ss wr (holds_of_block hh (by simpa using ht)) (Array.getElem?_eq_some_iff.1 hh).1 hssl
          have HCT : Hid (Calls Tryd.prog 35 #[.slice (some ⟨gg, 0, none⟩) ss.length cap] wr fun e w' => e = .returned (.tuple #[]) ∧ ∃ n os, w' = grow (putRow encStr (Sort.ahead wr n) gg 0 (ss.mergeSort fun x y => decide (x ≤ y)).toArray) os) := hide2 hct
          have HROW : Hid (∀ n os, (grow (putRow encStr (Sort.ahead wr n) gg 0 (ss.mergeSort fun x y => decide (x ≤ y)).toArray) os).ownsRow w0.heap.size 9 1 (.slice (some ⟨gg, 0, none⟩) ss.length cap) ss.length ((ss.mergeSort (fun x y => decide (x ≤ y))).map encStr) ∧ Below w0.heap.size w0 (grow (putRow encStr (Sort.ahead wr n) gg 0 (ss.mergeSort fun x y => decide (x ≤ y)).toArray) os)) := hide2 (fun n os =>
            ⟨ownsRow_sorted (n := n) (os := os) (List.length_mergeSort ss) (by omega) hh hn hm hs, BL.out.grown (grownBy_sorted _) BL.out.size (fun j hj => by cases hj; omega)⟩)
          clear hct hh ht hs RW2
          go_wp2_with fail
          refine HCT.out.mono ?_
          rintro e w5 ⟨rfl, n5, os5, q5⟩
          have hR5 := HROW.out n5 os5
          rw [← q5] at hR5
          clear q5 HCT HROW
          have HR5 := hide2 hR5
          clear hR5
          go_wp2
          go_ret
          exact FIN.out _ _ HR5.out.1 HR5.out.2
  · have htc2 : 1 < tc := by omega
    go_enter Tryd.func22, Tryd.ntmps22
    go_wp2_with fail
    refine HN.out.mono ?_
    rintro e w0 ⟨rfl, q0⟩
    subst q0
    clear HN
    go_wp2
    go_loopw [3, 14] (fun v i wr => ∃ k : Nat, k ≤ n ∧ i = .int .i64 (k : Int) ∧ Hid (wr.ownsRow w0.heap.size 9 1 v k (((kys s).take k).map encStr)) ∧ Hid (Below w0.heap.size w0 wr)) (fun _ i _ => n - (intOf i).toNat)
    case atStart => exact ⟨0, Nat.zero_le _, rfl, hide2 ⟨rfl, .inl ⟨rfl, rfl⟩⟩, hide2 (Below.refl _ w0)⟩
    case round =>
      obtain ⟨k, hk, rfl, RW, BL⟩ := hrel
      by_cases hkn2 : k < n
      · have hki : (k : Int) < (n : Int) := by omega
        have htn : k + 1 < s.tw.length := by have := HNN.out; omega
        have hlw := HL.out.below BL.out
        have hta := hlw.towerAt htn
        rw [show (k + 1) * 34 = 34 + k * 34 by omega] at hta
        have HTA := hide2 hta
        have hgd := HGD.out _ htn
        obtain ⟨w1, hw1⟩ : ∃ y, y = (wr.alloc (.cells z34 74)).setRow wr.heap.size (twL (s.at (k + 1))).toArray := ⟨_, rfl⟩
        have hz : (wr.alloc (.cells z34 74)).heap[wr.heap.size]? = some (.cells z34 74 (0, 0)) := heap_alloc_new _ _
        have hxb : w1.heap[wr.heap.size]? = some (.cells (twL (s.at (k + 1))).toArray 74 (0, 0)) := by rw [hw1]; exact setRow_heap _ _ _ _ _ _ hz
        have hB : Below wr.heap.size wr w1 := by
          rw [hw1]
          exact ((Below.refl _ wr).alloc (Nat.le_refl _) _).trans ⟨rfl, rfl, rfl, by simp, fun k hk => setRow_other _ _ _ _ (by omega)⟩
        have s1 : w1.rangeAt wr.heap.size 0 (kC (s.at (k + 1)).k).toList := fun j v hv => by
          have hj : j < 17 := (List.getElem?_eq_some_iff.1 hv).1
          rw [Nat.zero_add, Go.Joins.cell_of_block hxb, ← hv]
          rcases (show j = 0 ∨ j = 1 ∨ j = 2 ∨ j = 3 ∨ j = 4 ∨ j = 5 ∨ j = 6 ∨ j = 7 ∨ j = 8 ∨ j = 9 ∨ j = 10 ∨ j = 11 ∨ j = 12 ∨ j = 13 ∨ j = 14 ∨ j = 15 ∨ j = 16 by omega) with rfl | rfl | rfl | rfl | rfl | rfl | rfl | rfl | rfl | rfl | rfl | rfl | rfl | rfl | rfl | rfl | rfl <;> rfl
        have HZ := hide2 hz
        have HS1 := hide2 s1
        have HTX := hide2 (text_any (s.at (k + 1)).k hgd w1)
        have hs0 := BL.out.size
        have hs1 := hB.size
        have HR1 := hide2 (hrow_fr RW.out (Fr.below (F := fun _ => False) hB) (fun _ _ => id))
        have BL1 : Hid (Below w0.heap.size w0 w1) := hide2 (BL.out.trans ⟨hB.os, hB.tape, hB.output, hB.size, fun j hj => hB.block j (by omega)⟩)
        clear hlw hta hz hxb hB s1 hgd
        go_wp2_with (first
          | (refine wpList_load_mid rfl 74 (Operand.tmp 16) rfl gt (34 + k * 34) rfl (twL (s.at (k + 1))) _ ?_ Tryd.underlying74 rfl ?_ ?_
             · exact HTA.out
             · kernel_rfl)
          | (refine wpList_store_row rfl 74 (Operand.tmp 5) (Operand.tmp 17) rfl wr.heap.size (twL (s.at (k + 1))).toArray rfl rfl 74 z34 ?_ ?_ rfl (twL_one _) ?_
             · exact HZ.out
             · kernel_rfl)
          | (rw [← hw1]; refine wpList_load_mid rfl 72 (Operand.tmp 19) rfl wr.heap.size 0 rfl (kC (s.at (k + 1)).k).toList _ ?_ Tryd.underlying72 rfl ?_ ?_
             · exact HS1.out
             · kernel_rfl))
        try rw [← hw1]
        clear hw1
        refine HTX.out.mono ?_
        rintro e w2 ⟨rfl, hb2⟩
        have hF2 : Fr (fun _ => False) w1 w2 := Fr.below hb2
        have HR4 := hide2 (hrow_fr HR1.out hF2 (fun _ _ => id))
        have BL4 : Hid (Below w0.heap.size w0 w2) := hide2 (BL1.out.trans (hF2.to (fun _ _ => id) BL1.out.size))
        have hs4 := hb2.size
        have HNEW := hide2 (hcell_new w2 (.string (s.at (k + 1)).k) 9)
        obtain ⟨ao, cap, ev⟩ : ∃ ao cap, u3 = .slice ao k cap := by
          rcases HR4.out.2 with ⟨q, h0⟩ | ⟨g9, c9, cur9, q, -⟩
          · exact ⟨none, 0, by rw [q, h0]⟩
          · exact ⟨_, c9, q⟩
        clear HTX hb2 HR1 BL1 hF2
        subst ev
        go_wp2_with (at_builtin; refine Hid.out ?_)
        refine hide2 ?_
        refine wpList_append_own_at _ rfl _ _ 44 rfl w0.heap.size 9 i0 (.string .empty) 1 16 Tryd.underlying44 hi0 z0 z1 z2 rfl (by decide) (.slice ao k cap) _ _ rfl (World.ownsRow.alloc HR4.out _) ⟨w2.heap.size, 0, none⟩ 1 1 [.string (s.at (k + 1)).k] rfl rfl HNEW.out (by simp [Value.oneCell']) (by unfold maxLen; omega) (by omega) (by simp; omega) ?_
        intro v' w6 hown6 hgrow6 hat6 hb6
        obtain ⟨gt6, capt, ev⟩ := hrow_succ hown6
        have hb5 : Below w0.heap.size w0 (w2.alloc (.cells #[.string (s.at (k + 1)).k] 9)) := BL4.out.alloc (by omega) _
        have BL6 : Hid (Below w0.heap.size w0 w6) := hide2 (hb5.grown hgrow6 hb5.size (fun j hj => by have := (World.ownsRow.lt HR4.out j hj).1; omega))
        have HR6 : Hid (w6.ownsRow w0.heap.size 9 1 v' (k + 1) (((kys s).take (k + 1)).map encStr)) := hide2 (by
          rw [kys_next s htn, List.map_append, List.map_singleton, kt_enc]
          exact hown6)
        have hs6 := hgrow6.size
        simp only [World.size_alloc] at hs6
        clear hown6 hgrow6 hat6 hb6 hb5 HNEW HR4 BL4
        subst ev
        go_frame
        go_wp2
        go_roundw
        case rel => exact ⟨k + 1, by omega, by go_num, HR6, BL6⟩
        case measure => simp [intOf]; omega
      · have hkk : k = n := by omega
        subst hkk
        obtain ⟨ss, hss⟩ : ∃ x, x = kys s := ⟨_, rfl⟩
        have hlen : ss.length = k := by rw [hss, kys_len]; exact hkn.out.symm
        have RW2 : wr.ownsRow w0.heap.size 9 1 u3 ss.length (ss.map encStr) := by
          have := RW.out
          rw [List.take_of_length_le (by rw [kys_len, ← hkn.out]; exact Nat.le_refl _), ← hss] at this
          rw [hlen]; exact this
        have hpm : (ss.mergeSort (fun x y => decide (x ≤ y))).Perm ss := List.mergeSort_perm _ _
        have hsrt : (ss.mergeSort (fun x y => decide (x ≤ y))).Pairwise (fun x y => x ≤ y) := by
          have := List.pairwise_mergeSort (le := fun x y : List UInt8 => decide (x ≤ y)) (fun a b c h1 h2 => by simp only [decide_eq_true_eq] at *; exact List.le_trans h1 h2) (fun a b => by simp only [Bool.or_eq_true, decide_eq_true_eq]; exact List.le_total a b) ss
          exact this.imp (fun h => by simpa using h)
        have FIN : Hid (∀ (v : Value) (w' : World), w'.ownsRow w0.heap.size 9 1 v ss.length ((ss.mergeSort (fun x y => decide (x ≤ y))).map encStr) → Below w0.heap.size w0 w' →
            ∃ (v' : Value) (ts : List (List UInt8)), Ending.returned v = .returned v' ∧ w'.ownsRow w0.heap.size 9 1 v' ts.length (ts.map encStr) ∧ ts.Pairwise (fun x y => x ≤ y) ∧ ts.Perm (kys s) ∧ Below w0.heap.size w0 w') := hide2 (fun v w' h1 h2 =>
          ⟨v, ss.mergeSort (fun x y => decide (x ≤ y)), rfl, by rw [hpm.length_eq]; exact h1, hsrt, by rw [← hss]; exact hpm, h2⟩)
        have hssl : ss.length < 4611686018427387904 := by omega
        have HLEN := hide2 hlen
        clear hpm hsrt hss RW hlen
        rcases RW2.2 with ⟨rfl, h0⟩ | ⟨gg, cap, cur, rfl, hgb, hh, hn, hm, hs, ht⟩
        · have e0 : ss = [] := List.eq_nil_of_length_eq_zero h0
          subst e0
          have HSN := hide2 (AnyM.slices_Sort_string_none sortL none 0 wr)
          have HSN2 : Hid (Calls Tryd.prog 35 #[.slice none 0 0] wr fun e w' => e = .returned (.tuple #[]) ∧ w' = wr) := hide2 HSN.out
          clear HSN RW2
          go_wp2_with fail
          refine HSN2.out.mono ?_
          rintro e w5 ⟨rfl, q5⟩
          subst q5
          go_wp2
          go_ret
          exact FIN.out _ _ ⟨by simp, .inl ⟨rfl, rfl⟩⟩ BL.out
        · have hct := AnyM.slices_Sort_string sortL gg 0 cap ss wr (holds_of_block hh (by simpa using ht)) (Array.getElem?_eq_some_iff.1 hh).1 hssl
          have HCT : Hid (Calls Tryd.prog 35 #[.slice (some ⟨gg, 0, none⟩) ss.length cap] wr fun e w' => e = .returned (.tuple #[]) ∧ ∃ n os, w' = grow (putRow encStr (Sort.ahead wr n) gg 0 (ss.mergeSort fun x y => decide (x ≤ y)).toArray) os) := hide2 hct
          have HROW : Hid (∀ n os, (grow (putRow encStr (Sort.ahead wr n) gg 0 (ss.mergeSort fun x y => decide (x ≤ y)).toArray) os).ownsRow w0.heap.size 9 1 (.slice (some ⟨gg, 0, none⟩) ss.length cap) ss.length ((ss.mergeSort (fun x y => decide (x ≤ y))).map encStr) ∧ Below w0.heap.size w0 (grow (putRow encStr (Sort.ahead wr n) gg 0 (ss.mergeSort fun x y => decide (x ≤ y)).toArray) os)) := hide2 (fun n os =>
            ⟨ownsRow_sorted (n := n) (os := os) (List.length_mergeSort ss) (by omega) hh hn hm hs, BL.out.grown (grownBy_sorted _) BL.out.size (fun j hj => by cases hj; omega)⟩)
          clear hct hh ht hs RW2
          go_wp2_with fail
          refine HCT.out.mono ?_
          rintro e w5 ⟨rfl, n5, os5, q5⟩
          have hR5 := HROW.out n5 os5
          rw [← q5] at hR5
          clear q5 HCT HROW
          have HR5 := hide2 hR5
          clear hR5
          go_wp2
          go_ret
          exact FIN.out _ _ HR5.out.1 HR5.out.2
end
end Go.Proofs.YtopihgdbfhiejaaDoor
