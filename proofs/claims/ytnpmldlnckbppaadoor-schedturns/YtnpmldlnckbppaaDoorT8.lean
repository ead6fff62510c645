/-
  Turns, the document's: its walk; SchedTurns' walk.
-/
import Derived.Test.YtnpmldlnckbppaaDoorT7
set_option linter.unusedVariables false
set_option linter.unusedSimpArgs false
namespace Go.Proofs.YtnpmldlnckbppaaDoor
open Go.RowKit

set_option maxRecDepth 100000 in
set_option maxHeartbeats 4000000 in
theorem RTurns_wrong (w : World) (n window : Int) (xao : Option Addr) (xlen xcap : Nat) (h : mayT n window xlen = false) :
    Calls Tryd.prog 15 #[.int .i64 n, .int .i64 window, .slice xao xlen xcap] w fun e w' => e = .returned (.tuple #[nilS, .int .i64 70]) ∧ w' = w := by
  have hm : ¬ (1 ≤ n ∧ n ≤ 16 ∧ (xlen : Int) ≤ 65536 ∧ 2 * n ≤ window ∧ window ≤ 1000) := of_decide_eq_false h
  by_cases h1 : n < 1
  · have t1 : decide (n < 1) = true := by simpa using h1
    go_enter Tryd.func15, Tryd.ntmps15
    go_wp2
    go_ret2
    exact ⟨rfl, rfl⟩
  · have t1 : decide (n < 1) = false := by simpa using h1
    by_cases h2 : 16 < n
    · have t2 : decide (16 < n) = true := by simpa using h2
      go_enter Tryd.func15, Tryd.ntmps15
      go_wp2
      go_ret2
      exact ⟨rfl, rfl⟩
    · have t2 : decide (16 < n) = false := by simpa using h2
      have u : IntKind.i64.wrap (2 * n) = 2 * n := by rw [IntKind.wrap_i64]; omega
      by_cases h3 : window < 2 * n
      · have t3 : decide (window < 2 * n) = true := by simpa using h3
        go_enter Tryd.func15, Tryd.ntmps15
        go_wp2
        go_ret2
        exact ⟨rfl, rfl⟩
      · have t3 : decide (window < 2 * n) = false := by simpa using h3
        by_cases h4 : 1000 < window
        · have t4 : decide (1000 < window) = true := by simpa using h4
          go_enter Tryd.func15, Tryd.ntmps15
          go_wp2
          go_ret2
          exact ⟨rfl, rfl⟩
        · have t4 : decide (1000 < window) = false := by simpa using h4
          have h5 : 65536 < xlen := by omega
          have t5 : decide (65536 < xlen) = true := by simpa using h5
          have t6 : decide (65536 < (xlen : Int)) = true := by simp; omega
          clear hm h
          go_enter Tryd.func15, Tryd.ntmps15
          go_wp2
          go_ret2
          exact ⟨rfl, rfl⟩

set_option maxRecDepth 100000 in
set_option maxHeartbeats 16000000 in
theorem RTurns_right (w : World) (n window : Nat) (xao : Option Addr) (xlen xcap : Nat) (xs : List Int) (hxs : Ints .i64 w xao xlen xcap xs) (h : mayT n window xlen = true) :
    Calls Tryd.prog 15 #[.int .i64 (n : Int), .int .i64 (window : Int), .slice xao xlen xcap] w fun e w' => ∃ lv, e = .returned (.tuple #[lv, .int .i64 0]) ∧ w'.ownsRow w.heap.size 3 1 lv (turnsF n window xs []).length ((ints (turnsF n window xs [])).map (Value.int .i64)) ∧ Below w.heap.size w w' := by
  obtain ⟨i0, hi0, z0, z1, z2⟩ := info_parts infoI2
  have hm : 1 ≤ n ∧ n ≤ 16 ∧ xlen ≤ 65536 ∧ 2 * n ≤ window ∧ window ≤ 1000 := by
    have := of_decide_eq_true h
    omega
  obtain ⟨h1, h2, h3, h4, h5⟩ := hm
  have HXL := hide2 hxs.1
  have HXS := hide2 hxs
  have hmk := mk_ints n (by omega)
  have hnew : (w.alloc (.cells (List.replicate n (Value.int .i64 0)).toArray 3)).heap[w.heap.size]? = some (.cells (List.replicate n (Value.int .i64 0)).toArray 3 (0, 0)) := heap_alloc_new _ _
  have hT0 : Tr (w.alloc (.cells (List.replicate n (Value.int .i64 0)).toArray 3)) (w.heap.size + 1) w.heap.size n [] nilS := by
    refine ⟨?_, ⟨rfl, .inl ⟨rfl, rfl⟩⟩, by omega, by simp⟩
    unfold Ib
    rw [hnew]
    simp [Wl, ints]
  have hB0 : Below w.heap.size w (w.alloc (.cells (List.replicate n (Value.int .i64 0)).toArray 3)) := (Below.refl _ w).alloc (Nat.le_refl _) _
  generalize (List.replicate n (Value.int .i64 0)).toArray = Y at *
  have HT0 := hide2 hT0
  have HB0 := hide2 hB0
  have t1 : decide ((n : Int) < 1) = false := by simp; omega
  have t2 : decide (16 < (n : Int)) = false := by simp; omega
  have u : IntKind.i64.wrap (2 * (n : Int)) = 2 * (n : Int) := by rw [IntKind.wrap_i64]; omega
  have t3 : decide ((window : Int) < 2 * (n : Int)) = false := by simp; omega
  have t4 : decide (1000 < (window : Int)) = false := by simp; omega
  have t5 : decide (65536 < xlen) = false := by simp; omega
  have t6 : decide (65536 < (xlen : Int)) = false := by simp; omega
  have u2 : IntKind.i64.wrap ((window : Int) - (n : Int)) = ((window - n : Nat) : Int) := by rw [IntKind.wrap_i64]; omega
  clear hT0 hB0 hnew hxs h
  obtain ⟨wb, hwb⟩ : ∃ wb, wb = w.heap.size := ⟨_, rfl⟩
  rw [← hwb] at HT0
  have HWB := hide2 hwb
  go_enter Tryd.func15, Tryd.ntmps15
  go_wp2
  rw [← hwb]
  clear hwb
  have hwl : w.heap.size ≤ wb := Nat.le_of_eq HWB.out.symm
  have hBE : Hid (∃ E, E = window - n) := hide2 ⟨_, rfl⟩
  obtain ⟨E, hE⟩ := hBE.out
  rw [← hE] at u2
  have hE1 : n ≤ E := by omega
  have hE2 : E ≤ 1000 := by omega
  have HE := hide2 hE
  clear hBE hE
  go_loopw [9, 10] (fun v i wr => ∃ k : Nat, k ≤ xlen ∧ i = .int .i64 k ∧ Tr wr (wb + 1) wb n (turnsF n window (xs.take k) []) v ∧ Below w.heap.size w wr ∧ (turnsF n window (xs.take k) []).length ≤ k * 17) (fun _ i _ => xlen - (intOf i).toNat)
  case atStart => exact ⟨0, by omega, rfl, HT0.out, HB0.out, Nat.zero_le _⟩
  case round =>
    clear HT0 HB0 hmk
    obtain ⟨k, hk, rfl, hT, hB, hlen⟩ := hrel
    obtain ⟨ao, cap, rfl⟩ := hT.form
    by_cases hkl : k < xlen
    · obtain ⟨b, off, rfl, hbl, hcell⟩ := (HXS.out.keep hB).num (by omega)
      have q0 := hcell k hkl
      have E1 := hide2 (turnsF_take (n := n) (window := window) (xs := xs) (k := k) (by rw [HXL.out]; exact hkl))
      rw [← HE.out] at E1
      have hkl2 : (k : Int) < (xlen : Int) := by omega
      generalize xs.getD k 0 = x at *
      generalize turnsF n window (xs.take k) [] = l at *
      clear hcell
      have HT := hide2 hT
      have HB := hide2 hB
      have hwsz := hB.size
      clear hT hB
      by_cases hout : x < 0 ∨ (n : Int) ≤ x
      · rw [if_pos hout] at E1
        by_cases hx0 : x < 0
        · have t1 : decide (x < 0) = true := by simpa using hx0
          clear hout
          go_wp2
          go_roundw
          case rel => exact ⟨k + 1, by omega, by go_num, by rw [E1.out]; exact HT.out, HB.out, by rw [E1.out]; omega⟩
          case measure => simp [intOf]; omega
        · have hx1 : (n : Int) ≤ x := by omega
          have t1 : decide (x < 0) = false := by simpa using hx0
          have t2 : decide ((n : Int) ≤ x) = true := by simpa using hx1
          clear hout
          go_wp2
          go_roundw
          case rel => exact ⟨k + 1, by omega, by go_num, by rw [E1.out]; exact HT.out, HB.out, by rw [E1.out]; omega⟩
          case measure => simp [intOf]; omega
      · rw [if_neg hout] at E1
        obtain ⟨p, rfl⟩ : ∃ p : Nat, x = p := ⟨x.toNat, by omega⟩
        have hpn : p < n := by omega
        have t1 : decide ((p : Int) < 0) = false := by simp
        have t2 : decide ((n : Int) ≤ (p : Int)) = false := by simp; omega
        have t3 : decide (n ≤ p) = false := by simp; omega
        rw [Int.toNat_natCast] at E1
        clear hout
        obtain ⟨wx, hwx⟩ : ∃ x, x = wr := ⟨_, rfl⟩
        subst hwx
        go_wp2
        go_loopw [9] (fun v wr => ∃ (s : Nat) (l' : List Nat), Sofar n l' s ∧ l'.length = l.length + s ∧ lateF n E n l = lateF n E (n - s) l' ∧ Tr wr (wb + 1) wb n l' v ∧ Fr (fun j => wb ≤ j) wx wr) (fun v _ => l.length + n - lenV v)
        case atStart => exact ⟨0, l, Sofar.zero n l, rfl, rfl, HT.out, Fr.refl _ _⟩
        case round =>
          obtain ⟨s, l', hs, hll, hlf, hT, hF⟩ := hrel
          have hl1 : l'.length ≤ l.length + s := by omega
          have hl2 : l.length + s ≤ l'.length := by omega
          clear hll
          obtain ⟨ao, cap, rfl⟩ := hT.form
          have hsn := hs.le
          have HT1 := hide2 hT
          have HF1 := hide2 hF
          have HS1 := hide2 hs
          have HLF := hide2 hlf
          have hWl : (Wl n l').length = n := Wl_len n l'
          have hIl : (ints (Wl n l')).length = n := by rw [ints_len, hWl]
          have hcl : ∀ j, j < n → wr.cell? ⟨wb, j, none⟩ = some (.int .i64 ((Wl n l').getD j 0 : Nat)) := fun j hj => by
            have := hT.waits.cell j (by omega)
            rw [ints_at] at this
            exact this
          have HCL := hide2 hcl
          have hWle : ∀ j, j < n → (Wl n l').getD j 0 ≤ l'.length := fun j hj => Wl_le n l' j hj
          have HWLE := hide2 hWle
          have HWL := hide2 hWl
          obtain ⟨wy, hwy⟩ : ∃ x, x = wr := ⟨_, rfl⟩
          subst hwy
          have hwbl : wb < wy.heap.size := hT.waits.lt
          clear hT hF hs hlf hcl hWle hWl hIl
          go_wp2
          go_loopw [12, 13] (fun qv kv wr => ∃ q k : Nat, 1 ≤ k ∧ k ≤ n ∧ qv = .int .i64 q ∧ kv = .int .i64 k ∧ TopK (Wl n l') k q ∧ ∃ m, wr = wy.drewN m) (fun _ kv _ => n - (intOf kv).toNat)
          case atStart =>
            refine ⟨0, 1, by omega, by omega, rfl, rfl, ⟨by omega, fun j hj => ?_, fun j hj => by omega⟩, 0, rfl⟩
            obtain rfl : j = 0 := by omega
            exact Nat.le_refl _
          case round =>
            obtain ⟨q, k2, hk0, hkn, rfl, rfl, htk, m, hwr⟩ := hrel
            have hqk := htk.1
            have HWR := hide2 hwr
            by_cases hkl3 : k2 < n
            · have c1 : wr.cell? ⟨wb, k2, none⟩ = some (.int .i64 ((Wl n l').getD k2 0 : Nat)) := by rw [hwr]; exact HCL.out k2 hkl3
              have c2 : wr.cell? ⟨wb, q, none⟩ = some (.int .i64 ((Wl n l').getD q 0 : Nat)) := by rw [hwr]; exact HCL.out q (by omega)
              have b1 : (k2 : Int) < (n : Int) := by omega
              have b2 : (q : Int) < (n : Int) := by omega
              have HTK := hide2 htk
              clear htk hwr
              by_cases hgt : (Wl n l').getD q 0 < (Wl n l').getD k2 0
              · have HNX : Hid (TopK (Wl n l') (k2 + 1) k2) := hide2 (by
                  obtain ⟨g1, g2, g3⟩ := HTK.out
                  refine ⟨by omega, fun j hj => ?_, fun j hj => ?_⟩
                  · by_cases e : j = k2
                    · rw [e]; exact Nat.le_refl _
                    · have := g2 j (by omega); omega
                  · have := g2 j hj; omega)
                have d1 : decide ((((Wl n l').getD q 0 : Nat) : Int) < (((Wl n l').getD k2 0 : Nat) : Int)) = true := decide_eq_true (by omega)
                have d2 : decide ((Wl n l').getD q 0 < (Wl n l').getD k2 0) = true := decide_eq_true hgt
                generalize (Wl n l').getD q 0 = x1 at *
                generalize (Wl n l').getD k2 0 = x2 at *
                go_wp2
                go_quiet (fail)
                go_wp2
                go_roundw
                case rel => exact ⟨k2, k2 + 1, by omega, by omega, by go_num, by go_num, HNX.out, _, by rw [HWR.out]; exact drewN_twice _ _ _⟩
                case measure => simp [intOf]; omega
              · have HNX : Hid (TopK (Wl n l') (k2 + 1) q) := hide2 (by
                  obtain ⟨g1, g2, g3⟩ := HTK.out
                  refine ⟨by omega, fun j hj => ?_, g3⟩
                  by_cases e : j = k2
                  · rw [e]; omega
                  · exact g2 j (by omega))
                have d1 : decide ((((Wl n l').getD q 0 : Nat) : Int) < (((Wl n l').getD k2 0 : Nat) : Int)) = false := decide_eq_false (by omega)
                have d2 : decide ((Wl n l').getD q 0 < (Wl n l').getD k2 0) = false := decide_eq_false hgt
                generalize (Wl n l').getD q 0 = x1 at *
                generalize (Wl n l').getD k2 0 = x2 at *
                go_wp2
                go_quiet (fail)
                go_wp2
                go_roundw
                case rel => exact ⟨q, k2 + 1, by omega, by omega, by go_num, by go_num, HNX.out, _, by rw [HWR.out]; exact drewN_twice _ _ _⟩
                case measure => simp [intOf]; omega
            · obtain rfl : n = k2 := by omega
              obtain ⟨g1, g2, g3⟩ := htk
              have etop : q = top (Wl n l') := top_unique _ q (by rw [HWL.out]; exact g1) (fun j hj => g2 j (by rw [HWL.out] at hj; exact hj)) g3
              have c2 : wr.cell? ⟨wb, q, none⟩ = some (.int .i64 ((Wl n l').getD q 0 : Nat)) := by rw [hwr]; exact HCL.out q g1
              have b2 : (q : Int) < (n : Int) := by omega
              have HTm : Hid (Tr wr (wb + 1) wb n l' (.slice ao l'.length cap)) := hide2 (by rw [hwr]; exact HT1.out.drewN m)
              have HFm : Hid (Fr (fun j => wb ≤ j) wx wr) := hide2 (by rw [hwr]; exact HF1.out.drewN m)
              clear hwr HWR g2 g3
              by_cases hla : isLate n E l'
              · have hs0 : 0 < n := by omega
                obtain ⟨hs1, hs2⟩ := HS1.out.next hs0 hE1 hla
                have hlaW : E ≤ (Wl n l').getD q 0 := by rw [etop]; exact hla
                have d1 : decide ((((Wl n l').getD q 0 : Nat) : Int) < (E : Int)) = false := decide_eq_false (by omega)
                have HEL : Hid (lateF n E (n - s) l' = lateF n E (n - (s + 1)) (l' ++ [q])) := hide2 (by
                  rw [show n - s = (n - (s + 1)) + 1 by omega, lateF_step hla, etop])
                rw [← etop] at hs2
                have HS2 := hide2 hs2
                have d2 : ¬ ((((Wl n l').getD q 0 : Nat) : Int) < (E : Int)) := by omega
                clear hs2 hla etop
                generalize hxx : (Wl n l').getD q 0 = x1 at c2 d1 d2 hlaW
                clear hxx
                have HNEW := hide2 (cell_one_new wr (.int .i64 (q : Int)) 3)
                go_wp2_with (at_builtin; refine Hid.out ?_)
                refine hide2 ?_
                refine wpList_append_own_at _ rfl _ _ 23 rfl (wb + 1) 3 i0 (.int .i64 0) 1 8 Tryd.underlying23 hi0 z0 z1 z2 rfl (by decide) (.slice ao l'.length cap) _ _ rfl (HTm.out.row.alloc _) ⟨wr.heap.size, 0, none⟩ 1 1 [.int .i64 (q : Int)] rfl rfl HNEW.out (by simp [Value.oneCell']) (by unfold maxLen; omega) (by omega) (by have := HTm.out.base; simp; omega) ?_
                intro v' w4 hown4 hgrow4 _ hb4
                obtain ⟨gt, capt, ev⟩ := row_succ hown4
                have hwl2 := HTm.out.waits.lt
                have hnw : (Value.slice ao l'.length cap).ownBlock ≠ some wb := fun e => by
                  have := (HTm.out.row.lt wb e).1
                  omega
                have hI4 : Ib w4 wb (ints (Wl n l')) := (hgrow4.block wb (by simp; omega) (fun e => hnw e.symm)).trans ((blk_alloc _ _ wb hwl2).trans HTm.out.waits)
                have hs4 := hgrow4.size
                have hbase4 : wb + 1 ≤ w4.heap.size := by have := HTm.out.base; simp at hs4; omega
                have hF4 : Fr (fun j => wb ≤ j) wx w4 := (HFm.out.alloc (.cells #[.int .i64 (q : Int)] 3)).trans (G := fun j => wb ≤ j) (Fr.grown hgrow4 (fun j e => by have := (HTm.out.row.lt j e).1; omega)) (fun j hj => .inl hj)
                have HCM := hide2 (come_any w4 wb n q (Wl n l') hI4 HWL.out h2 g1 (fun j hj => by have := HWLE.out j hj; omega))
                have HO4 := hide2 hown4
                have HF4 := hide2 hF4
                subst ev
                clear hown4 hgrow4 hb4 hI4 hF4 hs4 HNEW
                go_frame
                go_wp2_with fail
                refine HCM.out.mono ?_
                rintro e w5 ⟨rfl, hI5, hF5⟩
                clear HCM
                have hT5 : Tr w5 (wb + 1) wb n (l' ++ [q]) (.slice (some ⟨gt, 0, none⟩) (l'.length + 1) capt) := HTm.out.grown q HO4.out hbase4 hI5 hF5
                have hFF : Fr (fun j => wb ≤ j) wx w5 := HF4.out.trans hF5 (fun j hj => .inl (by omega))
                have HX := hide2 (And.intro hT5 hFF)
                clear hT5 hFF hI5 hF5 HO4 HF4
                go_wp2
                go_roundw
                case rel => exact ⟨s + 1, l' ++ [q], HS2.out, by rw [List.length_append, List.length_singleton]; omega, HLF.out.trans HEL.out, HX.out⟩
                case measure => simp only [lenV]; omega
              · have d1 : decide ((((Wl n l').getD q 0 : Nat) : Int) < (E : Int)) = true := decide_eq_true (by unfold isLate at hla; rw [← etop] at hla; omega)
                have d2 : ((((Wl n l').getD q 0 : Nat) : Int) < (E : Int)) := by unfold isLate at hla; rw [← etop] at hla; omega
                have HEL : Hid (lateF n E n l = l') := hide2 (HLF.out.trans (lateF_stop hla))
                clear hla etop
                generalize hxx : (Wl n l').getD q 0 = x1 at c2 d1 d2
                clear hxx
                rw [HEL.out] at E1
                have HNEW := hide2 (cell_one_new wr (.int .i64 (p : Int)) 3)
                go_wp2_with (at_builtin; refine Hid.out ?_)
                refine hide2 ?_
                refine wpList_append_own_at _ rfl _ _ 23 rfl (wb + 1) 3 i0 (.int .i64 0) 1 8 Tryd.underlying23 hi0 z0 z1 z2 rfl (by decide) (.slice ao l'.length cap) _ _ rfl (HTm.out.row.alloc _) ⟨wr.heap.size, 0, none⟩ 1 1 [.int .i64 (p : Int)] rfl rfl HNEW.out (by simp [Value.oneCell']) (by unfold maxLen; omega) (by omega) (by have := HTm.out.base; simp; omega) ?_
                intro v' w4 hown4 hgrow4 _ hb4
                obtain ⟨gt, capt, ev⟩ := row_succ hown4
                have hwl2 := HTm.out.waits.lt
                have hnw : (Value.slice ao l'.length cap).ownBlock ≠ some wb := fun e => by
                  have := (HTm.out.row.lt wb e).1
                  omega
                have hI4 : Ib w4 wb (ints (Wl n l')) := (hgrow4.block wb (by simp; omega) (fun e => hnw e.symm)).trans ((blk_alloc _ _ wb hwl2).trans HTm.out.waits)
                have hs4 := hgrow4.size
                have hbase4 : wb + 1 ≤ w4.heap.size := by have := HTm.out.base; simp at hs4; omega
                have hF4 : Fr (fun j => wb ≤ j) wx w4 := (HFm.out.alloc (.cells #[.int .i64 (p : Int)] 3)).trans (G := fun j => wb ≤ j) (Fr.grown hgrow4 (fun j e => by have := (HTm.out.row.lt j e).1; omega)) (fun j hj => .inl hj)
                have HCM := hide2 (come_any w4 wb n p (Wl n l') hI4 HWL.out h2 hpn (fun j hj => by have := HWLE.out j hj; omega))
                have HO4 := hide2 hown4
                have HF4 := hide2 hF4
                subst ev
                clear hown4 hgrow4 hb4 hI4 hF4 hs4 HNEW
                go_frame
                go_wp2_with fail
                refine HCM.out.mono ?_
                rintro e w5 ⟨rfl, hI5, hF5⟩
                clear HCM
                have hT5 : Tr w5 (wb + 1) wb n (l' ++ [p]) (.slice (some ⟨gt, 0, none⟩) (l'.length + 1) capt) := HTm.out.grown p HO4.out hbase4 hI5 hF5
                have hFF : Fr (fun j => wb ≤ j) wx w5 := HF4.out.trans hF5 (fun j hj => .inl (by omega))
                have HX := hide2 (And.intro hT5 hFF)
                clear hT5 hFF hI5 hF5 HO4 HF4
                have hB5 : Below w.heap.size w w5 := HB.out.trans (HX.out.2.to (fun j hj => by omega) hwsz)
                have HB5 := hide2 hB5
                clear hB5
                go_wp2
                go_roundw
                case rel => exact ⟨k + 1, by omega, by go_num, by rw [E1.out]; exact HX.out.1, HB5.out, by rw [E1.out, List.length_append, List.length_singleton]; omega⟩
                case measure => simp [intOf]; omega
    · obtain rfl : xlen = k := by omega
      have ext : xs.take xlen = xs := by rw [← HXL.out]; exact List.take_length
      rw [ext] at hT hlen
      have hrow := row_low (B' := w.heap.size) hT.row (by omega)
      rw [ext] at *
      have HX := hide2 (And.intro hrow hB)
      clear hrow hT hB hlen
      go_wp2
      go_ret2
      exact ⟨.slice ao (turnsF n window xs []).length cap, rfl, HX.out⟩

set_option maxRecDepth 100000 in
set_option maxHeartbeats 4000000 in
theorem turns_walk (n window : Int) (xao : Option Addr) (xlen xcap : Nat) (xs : List Int) (w : World) (hT : Tab w) (hxs : Ints .i64 w xao xlen xcap xs) :
    Calls Tryd.prog 4 #[.int .i64 n, .int .i64 window, .slice xao xlen xcap] w fun e w' => e = .returned (.bool true) ∧ Below w.heap.size w w' := by
  have HN := hide2 (shown_any w hT)
  cases hm : mayT n window xlen with
  | false =>
    clear hxs
    go_enter Tryd.func4, Tryd.ntmps4
    go_wp2_with fail
    refine HN.out.mono ?_
    rintro e w1 ⟨rfl, hB1⟩
    clear HN
    have HP := hide2 (Turns_wrong w1 n window xao xlen xcap hm)
    have HR := hide2 (RTurns_wrong w1 n window xao xlen xcap hm)
    have hnil : Ints .i64 w1 none 0 0 [] := ⟨rfl, Nat.le_refl _, Nat.zero_le _, fun h => absurd h (by omega)⟩
    have HI := hide2 (ints_any w1 none none 0 0 0 0 [] [] hnil hnil)
    rw [decide_eq_true rfl] at HI
    clear hnil
    go_wp2_with fail
    refine HP.out.mono ?_
    rintro e w2 ⟨rfl, rfl⟩
    clear HP
    go_wp2_with fail
    refine HR.out.mono ?_
    rintro e w3 ⟨rfl, rfl⟩
    clear HR
    go_wp2_with fail
    refine HI.out.mono ?_
    rintro e w4 ⟨rfl, q, rfl⟩
    clear HI
    go_wp2
    go_ret
    exact ⟨rfl, hB1.trans (below_drewN _ _ _)⟩
  | true =>
    have hm2 := of_decide_eq_true hm
    obtain ⟨n, rfl⟩ : ∃ m : Nat, n = m := ⟨n.toNat, by omega⟩
    obtain ⟨window, rfl⟩ : ∃ m : Nat, window = m := ⟨window.toNat, by omega⟩
    have HXS := hide2 hxs
    clear hm2 hxs
    go_enter Tryd.func4, Tryd.ntmps4
    go_wp2_with fail
    refine HN.out.mono ?_
    rintro e w1 ⟨rfl, hB1⟩
    clear HN
    have HP := hide2 (Turns_right w1 n window xao xlen xcap xs (HXS.out.keep hB1) hm)
    have hs1 := hB1.size
    go_wp2_with fail
    refine HP.out.mono ?_
    rintro e w2 ⟨lv, rfl, hrow2, hB2, -⟩
    clear HP
    have hs2 := hB2.size
    have HR := hide2 (RTurns_right w2 n window xao xlen xcap xs ((HXS.out.keep hB1).keep hB2) hm)
    obtain ⟨a1, c1, rfl, hi1⟩ := row_ints64 (xs := ints (turnsF n window xs [])) hrow2 (by rw [ints_len])
    have HI1 := hide2 hi1
    clear hrow2 hi1
    go_wp2_with fail
    refine HR.out.mono ?_
    rintro e w3 ⟨lv, rfl, hrow3, hB3⟩
    clear HR
    obtain ⟨a2, c2, rfl, hi2⟩ := row_ints64 (xs := ints (turnsF n window xs [])) hrow3 (by rw [ints_len])
    have HI := hide2 (ints_any w3 a1 a2 _ _ _ _ _ _ (HI1.out.keep hB3) hi2)
    rw [decide_eq_true rfl] at HI
    have hBB : Below w.heap.size w w3 := (hB1.trans (hB2.mono hs1)).trans (hB3.mono (by omega))
    have HX := hide2 hBB
    clear hrow3 hi2 HI1 hBB hB1 hB2 hB3
    go_wp2_with fail
    refine HI.out.mono ?_
    rintro e w4 ⟨rfl, q, rfl⟩
    clear HI
    go_wp2
    go_ret
    exact ⟨rfl, HX.out.trans (below_drewN _ _ _)⟩
end Go.Proofs.YtnpmldlnckbppaaDoor
