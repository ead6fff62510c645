/-
  TbG: The document's store: what lays and swaps a field; what is given up. (Printed by gen_tbg.py.)
  TbH: The document's store: Forget, Push, away. (Printed by gen_tbh.py.)
  TbI: The document's store: what is made. (Printed by gen_tbi.py.)
  TbJ: The document's store: Node, Version, Txn. (Printed by gen_tbj.py.)
  TbK: The document's store: chains.
  TbL: The document's store: Cut, Drop. (Printed by gen_tbl.py.)
  TbM: Drop of a node whose head is no version. (Printed by gen_tbm.py.)
  TbN: Both stores beside one another; a call of both. (Printed by gen_tbn.py.)
  TbO: Both stores: the other calls. (Printed by gen_tbo.py.)
-/
import Derived.Test.YtfhcphgjaobnoaaDoorTbF
set_option linter.unusedVariables false
set_option linter.unusedSimpArgs false
namespace Go.Proofs.YtfhcphgjaobnoaaDoor

section
open Go.RowKit Go.Maps

section
variable {w w' : World} {J : Nat → Prop} {rb : Nat} {vn vv vt : Value} {A : Stt} {fr st : Int}
theorem rbegins_any (n : Int) (w : World) (h0 : 0 ≤ n) (h9 : n ≤ 18446744073709551615) : Calls Tryd.prog 63 #[.int .u64 n] w fun e w' => e = .returned (.bool (mbg n)) ∧ w' = w := by
  have HP := hide2 (rparts_any n w h0 h9)
  unfold mbg
  cases hp : ptO n with
  | false =>
    rw [hp] at HP
    go_enter Tryd.func63, Tryd.ntmps63
    go_wp2_with fail
    refine HP.out.mono ?_
    rintro e w1 ⟨rfl, q1⟩
    subst q1
    clear HP hp
    go_wp2
    go_ret
    exact ⟨rfl, rfl⟩
  | true =>
    rw [hp] at HP
    go_enter Tryd.func63, Tryd.ntmps63
    go_wp2_with fail
    refine HP.out.mono ?_
    rintro e w1 ⟨rfl, q1⟩
    subst q1
    clear HP hp
    go_wp2
    go_ret
    refine ⟨wret_bool ?_, rfl⟩
    simp [bne]
    rfl
set_option maxRecDepth 100000 in
set_option maxHeartbeats 4000000 in
theorem rSetEnd_yes (h : Rf w J rb A fr st) {k : Nat} (hl : A.lv 1 (k + 1) = true) {now : Int} (hw : 0 ≤ now ∧ now ≤ 18446744073709551615) (ht : ptO now = true) (hst : 0 ≤ st ∧ st < 1000000000) :
    Calls Tryd.prog 38 #[.pointer (some ⟨rb, 0, none⟩), .int .i64 ((k : Int) + 1), .int .u64 now] w fun e w' => e = .returned (.int .i64 0) ∧ Raf w w' J rb (A.put 3 (k + 1) now) fr (st + 1) := by
  obtain ⟨vn, vv, vt, h⟩ := h
  have hnb := h.ok.n1 1 (k + 1) hl
  have hla := h.la 1
  have hsm := rversion_any h ((k : Int) + 1)
  rw [lvI_at, hl] at hsm
  have HSM := hide2 hsm
  have htc := rparts_any now w hw.1 hw.2
  rw [ht] at htc
  have HTC := hide2 htc
  clear htc ht
  obtain ⟨g, cp, ev, hc, hfz⟩ := h.rv.at (i := k) (by omega)
  have hgb := h.ne.2.1
  subst ev
  have hne : g ≠ rb := fun e => hgb (by rw [← e]; rfl)
  have hne2 : rb ≠ g := fun e => hne e.symm
  have q1 : w.cell? ⟨g, k * 5 + 2, none⟩ = some (.int .u64 (A.va 3 (k + 1))) := hc 2 (by omega)
  have fz := hfz (k * 5 + 2)
  obtain ⟨c0, c1, c2, c3, c4⟩ := h.cells
  have f4 := h.free 4
  have d3 : (k : Int) < (A.la 1 : Int) := by omega
  have d4 : ¬ ((k : Int) < 0) := by omega
  have H := hide2 h
  have hrl := h.lt
  clear h hsm hc hfz hgb
  go_enter Tryd.func38, Tryd.ntmps38
  go_wp2_with fail
  refine HSM.out.mono ?_
  rintro e w1 ⟨rfl, q⟩
  subst q
  clear HSM
  go_wp2_with fail
  refine HTC.out.mono ?_
  rintro e w2 ⟨rfl, q⟩
  subst q
  clear HTC
  go_wp2
  go_ret
  have hs := H.out.step (st + 1)
  have h2 := hs.putEnd (k := k) (x := now) (by omega) (Stt.put_ok H.out.ok hw (fun e => by omega) (fun e => by omega))
  have hF : Fr J w2 ((w2.setCell ⟨rb, 4, none⟩ (.int .i64 (st + 1))).setCell ⟨g, k * 5 + 2, none⟩ (.int .u64 now)) := Fr.setCell (p := ⟨g, k * 5 + 2, none⟩) (Fr.setCell (p := ⟨rb, 4, none⟩) (Fr.refl J w2) (.inl (H.out.jj rb (.inl rfl))) _) (.inl (H.out.jj g (by simp [Value.ownBlock]))) _
  exact ⟨rfl, H.out.fin h2 hF⟩
set_option maxRecDepth 100000 in
set_option maxHeartbeats 4000000 in
theorem rSetEnd_out (h : Rf w J rb A fr st) {now : Int} (hw : 0 ≤ now ∧ now ≤ 18446744073709551615) {n : Int} (hl : lvI A 1 n = false) :
    Calls Tryd.prog 38 #[.pointer (some ⟨rb, 0, none⟩), .int .i64 n, .int .u64 now] w fun e w' => e = .returned (.int .i64 110) ∧ w' = w := by
  obtain ⟨vn, vv, vt, h⟩ := h
  have hsm := rversion_any h n
  rw [hl] at hsm
  have HSM := hide2 hsm
  have htc := rparts_any now w hw.1 hw.2
  have HTC := hide2 htc
  clear htc
  clear h hsm hl
  go_enter Tryd.func38, Tryd.ntmps38
  go_wp2_with fail
  refine HSM.out.mono ?_
  rintro e w1 ⟨rfl, q⟩
  subst q
  clear HSM
  go_wp2_with fail
  refine HTC.out.mono ?_
  rintro e w2 ⟨rfl, q⟩
  subst q
  clear HTC
  go_wp2
  go_ret
  exact ⟨rfl, rfl⟩
set_option maxRecDepth 100000 in
set_option maxHeartbeats 4000000 in
theorem rSetEnd_form (h : Rf w J rb A fr st) {now : Int} (hw : 0 ≤ now ∧ now ≤ 18446744073709551615) {n : Int} (hl : lvI A 1 n = true) (ht : ptO now = false) :
    Calls Tryd.prog 38 #[.pointer (some ⟨rb, 0, none⟩), .int .i64 n, .int .u64 now] w fun e w' => e = .returned (.int .i64 50) ∧ w' = w := by
  obtain ⟨vn, vv, vt, h⟩ := h
  have hsm := rversion_any h n
  rw [hl] at hsm
  have HSM := hide2 hsm
  have htc := rparts_any now w hw.1 hw.2
  rw [ht] at htc
  have HTC := hide2 htc
  clear htc
  clear h hsm hl
  go_enter Tryd.func38, Tryd.ntmps38
  go_wp2_with fail
  refine HSM.out.mono ?_
  rintro e w1 ⟨rfl, q⟩
  subst q
  clear HSM
  go_wp2_with fail
  refine HTC.out.mono ?_
  rintro e w2 ⟨rfl, q⟩
  subst q
  clear HTC
  go_wp2
  go_ret
  exact ⟨rfl, rfl⟩
end
end

section
open Go.RowKit Go.Maps

section
variable {w w' : World} {J : Nat → Prop} {rb : Nat} {vn vv vt : Value} {A : Stt} {fr st : Int}
theorem lvI_le {c : Nat} {n : Int} (h : A.ok) (hl : lvI A c n = true) : 1 ≤ n ∧ n ≤ A.la c := by
  unfold lvI at hl
  simp only [Bool.and_eq_true, decide_eq_true_eq] at hl
  have := h.n1 c _ hl.2
  omega
set_option maxRecDepth 100000 in
set_option maxHeartbeats 4000000 in
theorem raway_in (h : Rf w J rb A fr st) {k : Nat} (hk : k < A.la 1) (hfr : -1000000000 ≤ fr ∧ fr < 100000000000) :
    Calls Tryd.prog 71 #[.pointer (some ⟨rb, 0, none⟩), .int .i64 ((k : Int) + 1)] w fun e w' => e = .returned (.tuple #[]) ∧ Raf w w' J rb (A.off 1 (k + 1)) (fr + 3) st := by
  obtain ⟨vn, vv, vt, h⟩ := h
  have hla := h.la 1
  obtain ⟨g, cp, ev, hc, hfz⟩ := h.rv.at (i := k) (by omega)
  have hgb := h.ne.2.1
  subst ev
  have hne : g ≠ rb := fun e => hgb (by rw [← e]; rfl)
  have hne2 : rb ≠ g := fun e => hne e.symm
  have fz := hfz (k * 5 + 4)
  obtain ⟨c0, c1, c2, c3, c4⟩ := h.cells
  have f3 := h.free 3
  have d3 : (k : Int) < (A.la 1 : Int) := by omega
  have d4 : ¬ ((k : Int) < 0) := by omega
  have H := hide2 h
  have hrl := h.lt
  have q1 := hc 4 (by omega)
  clear h hc hfz hgb
  go_enter Tryd.func71, Tryd.ntmps71
  go_wp2
  go_end0
  have h2 := (H.out.goneV (k := k) (by omega)).frs (fr + 3)
  have hF : Fr J w ((w.setCell ⟨g, k * 5 + 4, none⟩ (.bool true)).setCell ⟨rb, 3, none⟩ (.int .i64 (fr + 3))) := Fr.setCell (p := ⟨rb, 3, none⟩) (Fr.setCell (p := ⟨g, k * 5 + 4, none⟩) (Fr.refl J w) (.inl (H.out.jj g (by simp [Value.ownBlock]))) _) (.inl (H.out.jj rb (.inl rfl))) _
  exact ⟨rfl, H.out.fin h2 hF⟩
set_option maxRecDepth 100000 in
set_option maxHeartbeats 4000000 in
theorem rPush_yes_zero (h : Rf w J rb A fr st) {k : Nat} (hl : A.lv 0 (k + 1) = true) {now : Int} (hw : lvI A 1 now = true) (hv : A.va 0 (k + 1) = 0) (hst : 0 ≤ st ∧ st < 1000000000) :
    Calls Tryd.prog 39 #[.pointer (some ⟨rb, 0, none⟩), .int .i64 ((k : Int) + 1), .int .i64 0, .int .i64 now] w fun e w' => e = .returned (.tuple #[.bool true, .int .i64 0]) ∧ Raf w w' J rb (A.put 0 (k + 1) now) fr (st + 1) := by
  obtain ⟨vn, vv, vt, h⟩ := h
  have hnb := h.ok.n1 0 (k + 1) hl
  have hla := h.la 0
  have hla1 := h.la 1
  have hwb := lvI_le h.ok hw
  have hsm := rnode_any h ((k : Int) + 1)
  rw [lvI_at, hl] at hsm
  have HSM := hide2 hsm
  have hso := rversion_any h 0
  rw [lvI_out h.ok (.inl (by decide))] at hso
  have HSO := hide2 hso
  have hsw := rversion_any h now
  rw [hw] at hsw
  have HSW := hide2 hsw
  obtain ⟨g, cp, ev, hc, hfz⟩ := h.rn.at (i := k) (by omega)
  have hgb := h.ne.1
  subst ev
  have hne : g ≠ rb := fun e => hgb (by rw [← e]; rfl)
  have hne2 : rb ≠ g := fun e => hne e.symm
  have q1 : w.cell? ⟨g, k * 2, none⟩ = some (.int .i64 (A.va 0 (k + 1))) := hc 0 (by omega)
  have fz := hfz (k * 2)
  obtain ⟨c0, c1, c2, c3, c4⟩ := h.cells
  have f4 := h.free 4
  have d3 : (k : Int) < (A.la 0 : Int) := by omega
  have d4 : ¬ ((k : Int) < 0) := by omega
  rw [hv] at q1
  have H := hide2 h
  have hrl := h.lt
  clear h hsm hso hsw hc hfz hgb
  go_enter Tryd.func39, Tryd.ntmps39
  go_wp2_with fail
  refine HSM.out.mono ?_
  rintro e w1 ⟨rfl, q⟩
  subst q
  clear HSM
  go_wp2_with fail
  refine HSO.out.mono ?_
  rintro e w2 ⟨rfl, q⟩
  subst q
  clear HSO
  go_wp2_with fail
  refine HSW.out.mono ?_
  rintro e w3 ⟨rfl, q⟩
  subst q
  clear HSW
  go_wp2
  go_ret2
  have hs := H.out.step (st + 1)
  have h2 := hs.putHead (k := k) (x := now) (by omega) (Stt.put_ok H.out.ok (by omega) (fun e => hwb.2) (fun e => by omega))
  have hF : Fr J w3 ((w3.setCell ⟨rb, 4, none⟩ (.int .i64 (st + 1))).setCell ⟨g, k * 2 + 0, none⟩ (.int .i64 now)) := Fr.setCell (p := ⟨g, k * 2 + 0, none⟩) (Fr.setCell (p := ⟨rb, 4, none⟩) (Fr.refl J w3) (.inl (H.out.jj rb (.inl rfl))) _) (.inl (H.out.jj g (by simp [Value.ownBlock]))) _
  exact ⟨rfl, H.out.fin h2 hF⟩
set_option maxRecDepth 100000 in
set_option maxHeartbeats 4000000 in
theorem rPush_yes_old (h : Rf w J rb A fr st) {k : Nat} (hl : A.lv 0 (k + 1) = true) {old now : Int} (ho : lvI A 1 old = true) (hw : lvI A 1 now = true) (hv : A.va 0 (k + 1) = old) (hst : 0 ≤ st ∧ st < 1000000000) :
    Calls Tryd.prog 39 #[.pointer (some ⟨rb, 0, none⟩), .int .i64 ((k : Int) + 1), .int .i64 old, .int .i64 now] w fun e w' => e = .returned (.tuple #[.bool true, .int .i64 0]) ∧ Raf w w' J rb (A.put 0 (k + 1) now) fr (st + 1) := by
  obtain ⟨vn, vv, vt, h⟩ := h
  have hnb := h.ok.n1 0 (k + 1) hl
  have hla := h.la 0
  have hla1 := h.la 1
  have hwb := lvI_le h.ok hw
  have hsm := rnode_any h ((k : Int) + 1)
  rw [lvI_at, hl] at hsm
  have HSM := hide2 hsm
  have hso := rversion_any h old
  have hob := lvI_le h.ok ho
  rw [ho] at hso
  have d0 : decide (old = 0) = false := by simp; omega
  have HSO := hide2 hso
  have hsw := rversion_any h now
  rw [hw] at hsw
  have HSW := hide2 hsw
  obtain ⟨g, cp, ev, hc, hfz⟩ := h.rn.at (i := k) (by omega)
  have hgb := h.ne.1
  subst ev
  have hne : g ≠ rb := fun e => hgb (by rw [← e]; rfl)
  have hne2 : rb ≠ g := fun e => hne e.symm
  have q1 : w.cell? ⟨g, k * 2, none⟩ = some (.int .i64 (A.va 0 (k + 1))) := hc 0 (by omega)
  have fz := hfz (k * 2)
  obtain ⟨c0, c1, c2, c3, c4⟩ := h.cells
  have f4 := h.free 4
  have d3 : (k : Int) < (A.la 0 : Int) := by omega
  have d4 : ¬ ((k : Int) < 0) := by omega
  rw [hv] at q1
  have H := hide2 h
  have hrl := h.lt
  clear h hsm hso hsw hc hfz hgb
  go_enter Tryd.func39, Tryd.ntmps39
  go_wp2_with fail
  refine HSM.out.mono ?_
  rintro e w1 ⟨rfl, q⟩
  subst q
  clear HSM
  go_wp2_with fail
  refine HSO.out.mono ?_
  rintro e w2 ⟨rfl, q⟩
  subst q
  clear HSO
  go_wp2_with fail
  refine HSW.out.mono ?_
  rintro e w3 ⟨rfl, q⟩
  subst q
  clear HSW
  go_wp2
  go_ret2
  have hs := H.out.step (st + 1)
  have h2 := hs.putHead (k := k) (x := now) (by omega) (Stt.put_ok H.out.ok (by omega) (fun e => hwb.2) (fun e => by omega))
  have hF : Fr J w3 ((w3.setCell ⟨rb, 4, none⟩ (.int .i64 (st + 1))).setCell ⟨g, k * 2 + 0, none⟩ (.int .i64 now)) := Fr.setCell (p := ⟨g, k * 2 + 0, none⟩) (Fr.setCell (p := ⟨rb, 4, none⟩) (Fr.refl J w3) (.inl (H.out.jj rb (.inl rfl))) _) (.inl (H.out.jj g (by simp [Value.ownBlock]))) _
  exact ⟨rfl, H.out.fin h2 hF⟩
set_option maxRecDepth 100000 in
set_option maxHeartbeats 4000000 in
theorem rPush_no_zero (h : Rf w J rb A fr st) {k : Nat} (hl : A.lv 0 (k + 1) = true) {now : Int} (hw : lvI A 1 now = true) (hv : A.va 0 (k + 1) ≠ 0) (hst : 0 ≤ st ∧ st < 1000000000) :
    Calls Tryd.prog 39 #[.pointer (some ⟨rb, 0, none⟩), .int .i64 ((k : Int) + 1), .int .i64 0, .int .i64 now] w fun e w' => e = .returned (.tuple #[.bool false, .int .i64 0]) ∧ Raf w w' J rb A fr (st + 1) := by
  obtain ⟨vn, vv, vt, h⟩ := h
  have hnb := h.ok.n1 0 (k + 1) hl
  have hla := h.la 0
  have hla1 := h.la 1
  have hwb := lvI_le h.ok hw
  have hsm := rnode_any h ((k : Int) + 1)
  rw [lvI_at, hl] at hsm
  have HSM := hide2 hsm
  have hso := rversion_any h 0
  rw [lvI_out h.ok (.inl (by decide))] at hso
  have HSO := hide2 hso
  have hsw := rversion_any h now
  rw [hw] at hsw
  have HSW := hide2 hsw
  obtain ⟨g, cp, ev, hc, hfz⟩ := h.rn.at (i := k) (by omega)
  have hgb := h.ne.1
  subst ev
  have hne : g ≠ rb := fun e => hgb (by rw [← e]; rfl)
  have hne2 : rb ≠ g := fun e => hne e.symm
  have q1 : w.cell? ⟨g, k * 2, none⟩ = some (.int .i64 (A.va 0 (k + 1))) := hc 0 (by omega)
  have fz := hfz (k * 2)
  obtain ⟨c0, c1, c2, c3, c4⟩ := h.cells
  have f4 := h.free 4
  have d3 : (k : Int) < (A.la 0 : Int) := by omega
  have d4 : ¬ ((k : Int) < 0) := by omega
  obtain ⟨x, hx⟩ : ∃ x, x = A.va 0 (k + 1) := ⟨_, rfl⟩
  rw [← hx] at q1 hv
  have d5 : decide (x = 0) = false := by simp [hv]
  clear hx
  have H := hide2 h
  have hrl := h.lt
  clear h hsm hso hsw hc hfz hgb
  go_enter Tryd.func39, Tryd.ntmps39
  go_wp2_with fail
  refine HSM.out.mono ?_
  rintro e w1 ⟨rfl, q⟩
  subst q
  clear HSM
  go_wp2_with fail
  refine HSO.out.mono ?_
  rintro e w2 ⟨rfl, q⟩
  subst q
  clear HSO
  go_wp2_with fail
  refine HSW.out.mono ?_
  rintro e w3 ⟨rfl, q⟩
  subst q
  clear HSW
  go_wp2
  go_ret2
  exact ⟨rfl, H.out.fin (H.out.step (st + 1)) (Fr.setCell (p := ⟨rb, 4, none⟩) (Fr.refl J w3) (.inl (H.out.jj rb (.inl rfl))) _)⟩
set_option maxRecDepth 100000 in
set_option maxHeartbeats 4000000 in
theorem rPush_no_old (h : Rf w J rb A fr st) {k : Nat} (hl : A.lv 0 (k + 1) = true) {old now : Int} (ho : lvI A 1 old = true) (hw : lvI A 1 now = true) (hv : A.va 0 (k + 1) ≠ old) (hst : 0 ≤ st ∧ st < 1000000000) :
    Calls Tryd.prog 39 #[.pointer (some ⟨rb, 0, none⟩), .int .i64 ((k : Int) + 1), .int .i64 old, .int .i64 now] w fun e w' => e = .returned (.tuple #[.bool false, .int .i64 0]) ∧ Raf w w' J rb A fr (st + 1) := by
  obtain ⟨vn, vv, vt, h⟩ := h
  have hnb := h.ok.n1 0 (k + 1) hl
  have hla := h.la 0
  have hla1 := h.la 1
  have hwb := lvI_le h.ok hw
  have hsm := rnode_any h ((k : Int) + 1)
  rw [lvI_at, hl] at hsm
  have HSM := hide2 hsm
  have hso := rversion_any h old
  have hob := lvI_le h.ok ho
  rw [ho] at hso
  have d0 : decide (old = 0) = false := by simp; omega
  have HSO := hide2 hso
  have hsw := rversion_any h now
  rw [hw] at hsw
  have HSW := hide2 hsw
  obtain ⟨g, cp, ev, hc, hfz⟩ := h.rn.at (i := k) (by omega)
  have hgb := h.ne.1
  subst ev
  have hne : g ≠ rb := fun e => hgb (by rw [← e]; rfl)
  have hne2 : rb ≠ g := fun e => hne e.symm
  have q1 : w.cell? ⟨g, k * 2, none⟩ = some (.int .i64 (A.va 0 (k + 1))) := hc 0 (by omega)
  have fz := hfz (k * 2)
  obtain ⟨c0, c1, c2, c3, c4⟩ := h.cells
  have f4 := h.free 4
  have d3 : (k : Int) < (A.la 0 : Int) := by omega
  have d4 : ¬ ((k : Int) < 0) := by omega
  obtain ⟨x, hx⟩ : ∃ x, x = A.va 0 (k + 1) := ⟨_, rfl⟩
  rw [← hx] at q1 hv
  have d5 : decide (x = old) = false := by simp [hv]
  clear hx
  have H := hide2 h
  have hrl := h.lt
  clear h hsm hso hsw hc hfz hgb
  go_enter Tryd.func39, Tryd.ntmps39
  go_wp2_with fail
  refine HSM.out.mono ?_
  rintro e w1 ⟨rfl, q⟩
  subst q
  clear HSM
  go_wp2_with fail
  refine HSO.out.mono ?_
  rintro e w2 ⟨rfl, q⟩
  subst q
  clear HSO
  go_wp2_with fail
  refine HSW.out.mono ?_
  rintro e w3 ⟨rfl, q⟩
  subst q
  clear HSW
  go_wp2
  go_ret2
  exact ⟨rfl, H.out.fin (H.out.step (st + 1)) (Fr.setCell (p := ⟨rb, 4, none⟩) (Fr.refl J w3) (.inl (H.out.jj rb (.inl rfl))) _)⟩
set_option maxRecDepth 100000 in
set_option maxHeartbeats 4000000 in
theorem PushR_out (h : Rf w J rb A fr st) {n old now : Int} (hl : lvI A 0 n = false) :
    Calls Tryd.prog 39 #[.pointer (some ⟨rb, 0, none⟩), .int .i64 n, .int .i64 old, .int .i64 now] w fun e w' => e = .returned (.tuple #[.bool false, .int .i64 110]) ∧ w' = w := by
  obtain ⟨vn, vv, vt, h⟩ := h
  have hsm := rnode_any h n
  rw [hl] at hsm
  have hso := rversion_any h old
  generalize lvI A 1 old = bo at hso
  have hsw := rversion_any h now
  generalize lvI A 1 now = bn at hsw
  have HSM := hide2 hsm
  have HSO := hide2 hso
  have HSW := hide2 hsw
  clear h hsm hso hsw
  go_enter Tryd.func39, Tryd.ntmps39
  go_wp2_with fail
  refine HSM.out.mono ?_
  rintro e w1 ⟨rfl, q⟩
  subst q
  clear HSM
  go_wp2_with fail
  refine HSO.out.mono ?_
  rintro e w2 ⟨rfl, q⟩
  subst q
  clear HSO
  go_wp2_with fail
  refine HSW.out.mono ?_
  rintro e w3 ⟨rfl, q⟩
  subst q
  clear HSW
  go_wp2
  go_ret2
  exact ⟨rfl, rfl⟩
set_option maxRecDepth 100000 in
set_option maxHeartbeats 4000000 in
theorem PushR_now_zero (h : Rf w J rb A fr st) {n now : Int} (hl : lvI A 0 n = true) (hn : lvI A 1 now = false) :
    Calls Tryd.prog 39 #[.pointer (some ⟨rb, 0, none⟩), .int .i64 n, .int .i64 0, .int .i64 now] w fun e w' => e = .returned (.tuple #[.bool false, .int .i64 110]) ∧ w' = w := by
  obtain ⟨vn, vv, vt, h⟩ := h
  have hsm := rnode_any h n
  rw [hl] at hsm
  have hso := rversion_any h 0
  rw [lvI_out h.ok (.inl (by decide))] at hso
  have hsw := rversion_any h now
  rw [hn] at hsw
  have HSM := hide2 hsm
  have HSO := hide2 hso
  have HSW := hide2 hsw
  clear h hsm hso hsw hl hn
  go_enter Tryd.func39, Tryd.ntmps39
  go_wp2_with fail
  refine HSM.out.mono ?_
  rintro e w1 ⟨rfl, q⟩
  subst q
  clear HSM
  go_wp2_with fail
  refine HSO.out.mono ?_
  rintro e w2 ⟨rfl, q⟩
  subst q
  clear HSO
  go_wp2_with fail
  refine HSW.out.mono ?_
  rintro e w3 ⟨rfl, q⟩
  subst q
  clear HSW
  go_wp2
  go_ret2
  exact ⟨rfl, rfl⟩
set_option maxRecDepth 100000 in
set_option maxHeartbeats 4000000 in
theorem PushR_now_old (h : Rf w J rb A fr st) {n old now : Int} (hl : lvI A 0 n = true) (ho : lvI A 1 old = true) (hn : lvI A 1 now = false) :
    Calls Tryd.prog 39 #[.pointer (some ⟨rb, 0, none⟩), .int .i64 n, .int .i64 old, .int .i64 now] w fun e w' => e = .returned (.tuple #[.bool false, .int .i64 110]) ∧ w' = w := by
  obtain ⟨vn, vv, vt, h⟩ := h
  have hsm := rnode_any h n
  rw [hl] at hsm
  have hso := rversion_any h old
  have hob := lvI_le h.ok ho
  rw [ho] at hso
  have d0 : decide (old = 0) = false := by simp; omega
  have hsw := rversion_any h now
  rw [hn] at hsw
  have HSM := hide2 hsm
  have HSO := hide2 hso
  have HSW := hide2 hsw
  clear h hsm hso hsw hl ho hn
  go_enter Tryd.func39, Tryd.ntmps39
  go_wp2_with fail
  refine HSM.out.mono ?_
  rintro e w1 ⟨rfl, q⟩
  subst q
  clear HSM
  go_wp2_with fail
  refine HSO.out.mono ?_
  rintro e w2 ⟨rfl, q⟩
  subst q
  clear HSO
  go_wp2_with fail
  refine HSW.out.mono ?_
  rintro e w3 ⟨rfl, q⟩
  subst q
  clear HSW
  go_wp2
  go_ret2
  exact ⟨rfl, rfl⟩
set_option maxRecDepth 100000 in
set_option maxHeartbeats 4000000 in
theorem PushR_old (h : Rf w J rb A fr st) {n old now : Int} (hl : lvI A 0 n = true) (ho : old ≠ 0) (ho2 : lvI A 1 old = false) :
    Calls Tryd.prog 39 #[.pointer (some ⟨rb, 0, none⟩), .int .i64 n, .int .i64 old, .int .i64 now] w fun e w' => e = .returned (.tuple #[.bool false, .int .i64 110]) ∧ w' = w := by
  obtain ⟨vn, vv, vt, h⟩ := h
  have hsm := rnode_any h n
  rw [hl] at hsm
  have hso := rversion_any h old
  rw [ho2] at hso
  have hsw := rversion_any h now
  generalize lvI A 1 now = bn at hsw
  have d0 : decide (old = 0) = false := by simp [ho]
  have HSM := hide2 hsm
  have HSO := hide2 hso
  have HSW := hide2 hsw
  clear h hsm hso hsw
  go_enter Tryd.func39, Tryd.ntmps39
  go_wp2_with fail
  refine HSM.out.mono ?_
  rintro e w1 ⟨rfl, q⟩
  subst q
  clear HSM
  go_wp2_with fail
  refine HSO.out.mono ?_
  rintro e w2 ⟨rfl, q⟩
  subst q
  clear HSO
  go_wp2_with fail
  refine HSW.out.mono ?_
  rintro e w3 ⟨rfl, q⟩
  subst q
  clear HSW
  go_wp2
  go_ret2
  exact ⟨rfl, rfl⟩
end
end

section
open Go.RowKit Go.Maps

theorem infoRN : (Tryd.prog.info? 75).map (fun i => (i.zero, i.size, i.bytes)) = some (some (.agg #[.int .i64 0, .int .u64 0]), 2, 16) := by kernel_rfl
theorem infoRV : (Tryd.prog.info? 85).map (fun i => (i.zero, i.size, i.bytes)) = some (some (.agg #[.string .empty, .int .u64 0, .int .u64 0, .int .i64 0, .bool false]), 5, 48) := by kernel_rfl
theorem infoRT : (Tryd.prog.info? 167).map (fun i => (i.zero, i.size, i.bytes)) = some (some (.agg #[.int .u64 0, .bool false]), 2, 16) := by kernel_rfl
theorem cells_new (w : World) (L : Array Value) (t : TypeId) : ∀ j u, L.toList[j]? = some u → (w.alloc (.cells L t)).cell? ((⟨w.heap.size, 0, none⟩ : Addr).add j) = some u := by
  intro j u h
  have hb : (w.alloc (.cells L t)).heap[w.heap.size]? = some (.cells L t (0, 0)) := heap_alloc_new w _
  rw [addr_add, Go.Joins.cell_of_block hb, ← Array.getElem?_toList]
  simpa using h

section
variable {w w' : World} {J : Nat → Prop} {rb : Nat} {vn vv vt : Value} {A : Stt} {fr st : Int}
theorem Rg.addN (h : Rg w J rb vn vv vt A fr st) {v' : Value} (hF : Fr (fun j => vn.ownBlock = some j) w w') (hr : Fw w' 75 2 v' (A.la 0 + 1) (nF A.node)) (hbk : ∀ j, v'.ownBlock = some j → vn.ownBlock = some j ∨ w.heap.size ≤ j) (hl : A.la 0 < 1000000) :
    Raf w (w'.setCell ⟨rb, 0, none⟩ v') J rb A.node fr st := by
  obtain ⟨e1, e2, e3⟩ := h.ne
  obtain ⟨a1, a2⟩ := h.ap
  have hrl := h.lt
  have hs := hF.size
  have hbk2 : w'.heap[rb]? = some (.cells #[vn, vv, vt, .int .i64 fr, .int .i64 st] 71 (0, 0)) := (hF.block rb hrl e1).trans h.bk
  have hne : v'.ownBlock ≠ some rb := fun e => by
    rcases hbk rb e with q | q
    · exact e1 q
    · omega
  have hF2 : Fr (fun j => j = rb) w' (w'.setCell ⟨rb, 0, none⟩ v') := Fr.setCell (p := ⟨rb, 0, none⟩) (Fr.refl (fun j => j = rb) w') (.inl rfl) _
  refine ⟨fun j => J j ∨ v'.ownBlock = some j, ⟨_, _, _, (?_ : Rg _ _ rb v' vv vt _ fr st)⟩, fun j hj => ⟨fun e => ?_, .inl⟩, ?_⟩
  · refine ⟨by rw [Go.Joins.block_setCell hbk2]; rfl, ?_, ?_, ?_, Stt.node_ok h.ok, fun c' => ?_, fun j e => ?_, fun j e => ?_, fun e => ?_⟩
    · have e : A.node.la 0 = A.la 0 + 1 := by simp [Stt.node, Stt.ver, Stt.txn, up1]
      rw [e]
      exact hr.fr hF2 (fun j e z => hne (z ▸ e))
    · have e : A.node.la 1 = A.la 1 := by simp [Stt.node, Stt.ver, Stt.txn, up1]
      rw [e]
      refine ((h.rv.fr hF (fun j e z => (a1 j z).1 e)).fr hF2 (fun j e z => e2 (z ▸ e))).eqv (fun i' hi' j' hj' => ?_)
      rcases j' with _ | _ | _ | _ | _ | j2
      · rfl
      · simp [vF, Stt.node, Stt.ver, Stt.txn, up1, up2]
      · simp [vF, Stt.node, Stt.ver, Stt.txn, up1, up2]
      · simp [vF, Stt.node, Stt.ver, Stt.txn, up1, up2]
      · simp [vF, Stt.node, Stt.ver, Stt.txn, up1, up2]
      · omega
    · have e : A.node.la 2 = A.la 2 := by simp [Stt.node, Stt.ver, Stt.txn, up1]
      rw [e]
      refine ((h.rt.fr hF (fun j e z => (a1 j z).2 e)).fr hF2 (fun j e z => e3 (z ▸ e))).eqv (fun i' hi' j' hj' => ?_)
      rcases j' with _ | _ | j2
      · simp [tF, Stt.node, Stt.ver, Stt.txn, up1, up2]
      · simp [tF, Stt.node, Stt.ver, Stt.txn, up1, up2]
      · omega
    · have := h.la c'
      by_cases q : c' = 0
      · subst q
        simp [Stt.node, Stt.ver, Stt.txn, up1]
        omega
      · simp [Stt.node, Stt.ver, Stt.txn, up1, q]
        omega
    · rcases e with q | q | q | q
      · exact .inl (h.jj j (.inl q))
      · exact .inr q
      · exact .inl (h.jj j (.inr (.inr (.inl q))))
      · exact .inl (h.jj j (.inr (.inr (.inr q))))
    · have hs2 := hF2.size
      rcases e with q | q
      · have := h.jl j q
        omega
      · have := (hr.lt q).2
        omega
    · rcases e with q | q
      · exact h.j0 q
      · have := (hr.lt q).1
        omega
  · rcases e with q | q
    · exact q
    · rcases hbk j q with z | z
      · exact h.jj j (.inr (.inl z))
      · omega
  · exact (hF.mono (G := J) (fun j _ e => h.jj j (.inr (.inl e)))).trans (G := fun j => j = rb) hF2 (fun j e => .inl (by rw [e]; exact h.jj rb (.inl rfl)))
theorem Rg.addV (h : Rg w J rb vn vv vt A fr st) {t : ByteArray} {b x : Int} (ht : t.size ≤ 64) (hb : 0 ≤ b ∧ b ≤ 18446744073709551615) (hx : 0 ≤ x ∧ x ≤ A.la 1) {v' : Value} (hF : Fr (fun j => vv.ownBlock = some j) w w') (hr : Fw w' 85 5 v' (A.la 1 + 1) (vF (A.ver t b x))) (hbk : ∀ j, v'.ownBlock = some j → vv.ownBlock = some j ∨ w.heap.size ≤ j) (hl : A.la 1 < 1000000) :
    Raf w (w'.setCell ⟨rb, 1, none⟩ v') J rb (A.ver t b x) fr st := by
  obtain ⟨e1, e2, e3⟩ := h.ne
  obtain ⟨a1, a2⟩ := h.ap
  have hrl := h.lt
  have hs := hF.size
  have hbk2 : w'.heap[rb]? = some (.cells #[vn, vv, vt, .int .i64 fr, .int .i64 st] 71 (0, 0)) := (hF.block rb hrl e2).trans h.bk
  have hne : v'.ownBlock ≠ some rb := fun e => by
    rcases hbk rb e with q | q
    · exact e2 q
    · omega
  have hF2 : Fr (fun j => j = rb) w' (w'.setCell ⟨rb, 1, none⟩ v') := Fr.setCell (p := ⟨rb, 1, none⟩) (Fr.refl (fun j => j = rb) w') (.inl rfl) _
  refine ⟨fun j => J j ∨ v'.ownBlock = some j, ⟨_, _, _, (?_ : Rg _ _ rb vn v' vt _ fr st)⟩, fun j hj => ⟨fun e => ?_, .inl⟩, ?_⟩
  · refine ⟨by rw [Go.Joins.block_setCell hbk2]; rfl, ?_, ?_, ?_, Stt.ver_ok h.ok ht hb hx (by have := h.la 1; omega), fun c' => ?_, fun j e => ?_, fun j e => ?_, fun e => ?_⟩
    · have e : (A.ver t b x).la 0 = A.la 0 := by simp [Stt.node, Stt.ver, Stt.txn, up1]
      rw [e]
      refine ((h.rn.fr hF (fun j e z => (a1 j e).1 z)).fr hF2 (fun j e z => e1 (z ▸ e))).eqv (fun i' hi' j' hj' => ?_)
      rcases j' with _ | _ | j2
      · simp [nF, Stt.node, Stt.ver, Stt.txn, up1, up2]
      · simp [nF, Stt.node, Stt.ver, Stt.txn, up1, up2]
      · omega
    · have e : (A.ver t b x).la 1 = A.la 1 + 1 := by simp [Stt.node, Stt.ver, Stt.txn, up1]
      rw [e]
      exact hr.fr hF2 (fun j e z => hne (z ▸ e))
    · have e : (A.ver t b x).la 2 = A.la 2 := by simp [Stt.node, Stt.ver, Stt.txn, up1]
      rw [e]
      refine ((h.rt.fr hF (fun j e z => a2 j z e)).fr hF2 (fun j e z => e3 (z ▸ e))).eqv (fun i' hi' j' hj' => ?_)
      rcases j' with _ | _ | j2
      · simp [tF, Stt.node, Stt.ver, Stt.txn, up1, up2]
      · simp [tF, Stt.node, Stt.ver, Stt.txn, up1, up2]
      · omega
    · have := h.la c'
      by_cases q : c' = 1
      · subst q
        simp [Stt.node, Stt.ver, Stt.txn, up1]
        omega
      · simp [Stt.node, Stt.ver, Stt.txn, up1, q]
        omega
    · rcases e with q | q | q | q
      · exact .inl (h.jj j (.inl q))
      · exact .inl (h.jj j (.inr (.inl q)))
      · exact .inr q
      · exact .inl (h.jj j (.inr (.inr (.inr q))))
    · have hs2 := hF2.size
      rcases e with q | q
      · have := h.jl j q
        omega
      · have := (hr.lt q).2
        omega
    · rcases e with q | q
      · exact h.j0 q
      · have := (hr.lt q).1
        omega
  · rcases e with q | q
    · exact q
    · rcases hbk j q with z | z
      · exact h.jj j (.inr (.inr (.inl z)))
      · omega
  · exact (hF.mono (G := J) (fun j _ e => h.jj j (.inr (.inr (.inl e))))).trans (G := fun j => j = rb) hF2 (fun j e => .inl (by rw [e]; exact h.jj rb (.inl rfl)))
theorem Rg.addT (h : Rg w J rb vn vv vt A fr st) {v' : Value} (hF : Fr (fun j => vt.ownBlock = some j) w w') (hr : Fw w' 167 2 v' (A.la 2 + 1) (tF A.txn)) (hbk : ∀ j, v'.ownBlock = some j → vt.ownBlock = some j ∨ w.heap.size ≤ j) (hl : A.la 2 < 1000000) :
    Raf w (w'.setCell ⟨rb, 2, none⟩ v') J rb A.txn fr st := by
  obtain ⟨e1, e2, e3⟩ := h.ne
  obtain ⟨a1, a2⟩ := h.ap
  have hrl := h.lt
  have hs := hF.size
  have hbk2 : w'.heap[rb]? = some (.cells #[vn, vv, vt, .int .i64 fr, .int .i64 st] 71 (0, 0)) := (hF.block rb hrl e3).trans h.bk
  have hne : v'.ownBlock ≠ some rb := fun e => by
    rcases hbk rb e with q | q
    · exact e3 q
    · omega
  have hF2 : Fr (fun j => j = rb) w' (w'.setCell ⟨rb, 2, none⟩ v') := Fr.setCell (p := ⟨rb, 2, none⟩) (Fr.refl (fun j => j = rb) w') (.inl rfl) _
  refine ⟨fun j => J j ∨ v'.ownBlock = some j, ⟨_, _, _, (?_ : Rg _ _ rb vn vv v' _ fr st)⟩, fun j hj => ⟨fun e => ?_, .inl⟩, ?_⟩
  · refine ⟨by rw [Go.Joins.block_setCell hbk2]; rfl, ?_, ?_, ?_, Stt.txn_ok h.ok, fun c' => ?_, fun j e => ?_, fun j e => ?_, fun e => ?_⟩
    · have e : A.txn.la 0 = A.la 0 := by simp [Stt.node, Stt.ver, Stt.txn, up1]
      rw [e]
      refine ((h.rn.fr hF (fun j e z => (a1 j e).2 z)).fr hF2 (fun j e z => e1 (z ▸ e))).eqv (fun i' hi' j' hj' => ?_)
      rcases j' with _ | _ | j2
      · simp [nF, Stt.node, Stt.ver, Stt.txn, up1, up2]
      · simp [nF, Stt.node, Stt.ver, Stt.txn, up1, up2]
      · omega
    · have e : A.txn.la 1 = A.la 1 := by simp [Stt.node, Stt.ver, Stt.txn, up1]
      rw [e]
      refine ((h.rv.fr hF (fun j e z => a2 j e z)).fr hF2 (fun j e z => e2 (z ▸ e))).eqv (fun i' hi' j' hj' => ?_)
      rcases j' with _ | _ | _ | _ | _ | j2
      · rfl
      · simp [vF, Stt.node, Stt.ver, Stt.txn, up1, up2]
      · simp [vF, Stt.node, Stt.ver, Stt.txn, up1, up2]
      · simp [vF, Stt.node, Stt.ver, Stt.txn, up1, up2]
      · simp [vF, Stt.node, Stt.ver, Stt.txn, up1, up2]
      · omega
    · have e : A.txn.la 2 = A.la 2 + 1 := by simp [Stt.node, Stt.ver, Stt.txn, up1]
      rw [e]
      exact hr.fr hF2 (fun j e z => hne (z ▸ e))
    · have := h.la c'
      by_cases q : c' = 2
      · subst q
        simp [Stt.node, Stt.ver, Stt.txn, up1]
        omega
      · simp [Stt.node, Stt.ver, Stt.txn, up1, q]
        omega
    · rcases e with q | q | q | q
      · exact .inl (h.jj j (.inl q))
      · exact .inl (h.jj j (.inr (.inl q)))
      · exact .inl (h.jj j (.inr (.inr (.inl q))))
      · exact .inr q
    · have hs2 := hF2.size
      rcases e with q | q
      · have := h.jl j q
        omega
      · have := (hr.lt q).2
        omega
    · rcases e with q | q
      · exact h.j0 q
      · have := (hr.lt q).1
        omega
  · rcases e with q | q
    · exact q
    · rcases hbk j q with z | z
      · exact h.jj j (.inr (.inr (.inr z)))
      · omega
  · exact (hF.mono (G := J) (fun j _ e => h.jj j (.inr (.inr (.inr e))))).trans (G := fun j => j = rb) hF2 (fun j e => .inl (by rw [e]; exact h.jj rb (.inl rfl)))
end
end

section
open Go.RowKit Go.Maps

section
variable {w w' : World} {J : Nat → Prop} {rb : Nat} {vn vv vt : Value} {A : Stt} {fr st : Int}
set_option maxRecDepth 100000 in
set_option maxHeartbeats 4000000 in
theorem rNode_full (h : Rf w J rb A fr st) (hf : fr < 2) :
    Calls Tryd.prog 35 #[.pointer (some ⟨rb, 0, none⟩)] w fun e w' => e = .returned (.tuple #[.int .i64 0, .int .i64 31]) ∧ w' = w := by
  obtain ⟨vn, vv, vt, h⟩ := h
  obtain ⟨c0, c1, c2, c3, c4⟩ := h.cells
  have d1 : decide (fr < 2) = true := by simp [hf]
  clear h
  go_enter Tryd.func35, Tryd.ntmps35
  go_wp2
  go_ret2
  exact ⟨rfl, rfl⟩
set_option maxRecDepth 100000 in
set_option maxHeartbeats 4000000 in
theorem rNode_any (h : Rf w J rb A fr st)  (hfr : 2 ≤ fr ∧ fr < 100000000000) (hla : A.la 0 < 1000000) :
    Calls Tryd.prog 35 #[.pointer (some ⟨rb, 0, none⟩)] w fun e w' => e = .returned (.tuple #[.int .i64 ((A.la 0 : Int) + 1), .int .i64 0]) ∧ Raf w w' J rb A.node (fr - 2) st := by
  obtain ⟨vn, vv, vt, h⟩ := h
  obtain ⟨i0, hi0, z0, z1, z2⟩ := info_parts infoRN
  obtain ⟨c0, c1, c2, c3, c4⟩ := h.cells
  have f3 := h.free 3
  have hrl := h.lt
  have d1 : decide (fr < 2) = false := by simp; omega
  obtain ⟨w1, hw1⟩ : ∃ x, x = w.setCell ⟨rb, 3, none⟩ (.int .i64 (fr - 2)) := ⟨_, rfl⟩
  have h1 : Rg w1 J rb vn vv vt A (fr - 2) st := by rw [hw1]; exact h.frs (fr - 2)
  have hFJ : Fr J w w1 := by rw [hw1]; exact Fr.setCell (p := ⟨rb, 3, none⟩) (Fr.refl J w) (.inl (h.jj rb (.inl rfl))) _
  obtain ⟨ao, cp, ev⟩ := h1.rn.form
  obtain ⟨xs, hown, hxs⟩ := h1.rn
  obtain ⟨b0, b1, b2, b3, b4⟩ := h1.cells
  have hrl1 := h1.lt
  have hws : w1.heap.size = w.heap.size := by rw [hw1]; simp [World.setCell]
  have hnew := cells_new w1 #[.int .i64 0, .int .u64 0] 75
  rw [hws] at hnew
  have HNEW := hide2 hnew
  clear hnew
  have HOWN := hide2 hown
  have H1 := hide2 h1
  have HFJ := hide2 hFJ
  have HXS := hide2 hxs
  clear h h1 hown hxs hFJ
  subst ev
  go_enter Tryd.func35, Tryd.ntmps35
  go_wp2_with (at_builtin; refine Hid.out ?_)
  refine hide2 ?_
  rw [← hw1]
  clear c0 c1 c2 c3 c4 f3
  refine wpList_append_own_at _ rfl _ _ 67 rfl 1 75 i0 (.agg #[.int .i64 0, .int .u64 0]) 2 16 Tryd.underlying67 hi0 z0 z1 z2 rfl (by decide) (.slice ao (A.la 0) cp) _ _ rfl (World.ownsRow.alloc HOWN.out _) ⟨w.heap.size, 0, none⟩ 1 1 [.int .i64 0, .int .u64 0] rfl rfl HNEW.out (by simp [Value.oneCell']) (by unfold maxLen; omega) (by omega) (by simp) ?_
  intro v' w4 hown4 hgrow4 hat4 hb4
  obtain ⟨gt, capt, ev⟩ := hrow_succ hown4
  have hFa : Fr (fun _ => False) w1 (w1.alloc (.cells #[.int .i64 0, .int .u64 0] 75)) := (Fr.refl _ w1).alloc _
  have hF4 : Fr (fun j => (Value.slice ao (A.la 0) cp).ownBlock = some j) w1 w4 := (hFa.mono (G := fun j => (Value.slice ao (A.la 0) cp).ownBlock = some j) (fun _ _ e => e.elim)).trans (Fr.grown hgrow4 (fun j e => e)) (fun j e => .inl e)
  have hr4 : Fw w4 75 2 v' (A.la 0 + 1) (nF A.node) := by
    refine Fw.snoc (f := nF A) HXS.out HOWN.out.1 hown4 (fun i hi j hj => ?_) (fun j hj => ?_)
    · have hil : i ≠ A.la 0 := by omega
      rcases j with _ | _ | j2
      · simp [nF, Stt.node, Stt.ver, Stt.txn, up1, up2, hil]
      · simp [nF, Stt.node, Stt.ver, Stt.txn, up1, up2, hil]
      · omega
    · rcases j with _ | _ | j2
      · simp [nF, Stt.node, Stt.ver, Stt.txn, up1, up2]
      · simp [nF, Stt.node, Stt.ver, Stt.txn, up1, up2]
      · omega
  have hX := H1.out.addN  hF4 hr4 (fun j e => by
    rcases hb4 with e5 | e5
    · exact .inl (by rw [← e5]; exact e)
    · right
      rw [e5] at e
      simp at e
      omega) hla
  have hbk4 := hF4.block rb hrl1 (H1.out.ne.1)
  have hbk5 := hbk4.trans H1.out.bk
  have y0 : w4.cell? ⟨rb, 0, none⟩ = some (.slice ao (A.la 0) cp) := by rw [Go.Joins.cell_of_block hbk5]; rfl
  have fz : w4.frozen? ⟨rb, 0, none⟩ = false := Go.Joins.unfrozen_of_block hbk5 0
  have hl4 : rb < w4.heap.size := (Array.getElem?_eq_some_iff.1 hbk5).1
  have HX := hide2 hX
  clear hX hown4 hgrow4 hat4 hb4 hFa hF4 hr4 HNEW HOWN hbk4 hbk5 b0 b1 b2 b3 b4
  subst ev
  go_frame
  go_wp2
  go_ret2
  obtain ⟨J', q1, q2, q3⟩ := HX.out
  exact ⟨rfl, J', q1, fun j hj => q2 j (Nat.lt_of_lt_of_le hj HFJ.out.size), HFJ.out.trans q3 (fun j e => .inl e)⟩
set_option maxRecDepth 100000 in
set_option maxHeartbeats 4000000 in
theorem rVersion_long (h : Rf w J rb A fr st) {t : ByteArray} {b x : Int} (hb : 0 ≤ b ∧ b ≤ 18446744073709551615) (ht : 64 < t.size) (ht9 : t.size ≤ 9223372036854775807) :
    Calls Tryd.prog 36 #[.pointer (some ⟨rb, 0, none⟩), .string t, .int .u64 b, .int .i64 x] w fun e w' => e = .returned (.tuple #[.int .i64 0, .int .i64 111]) ∧ w' = w := by
  obtain ⟨vn, vv, vt, h⟩ := h
  obtain ⟨c0, c1, c2, c3, c4⟩ := h.cells
  have hbg := rbegins_any b w hb.1 hb.2
  generalize mbg b = bb at hbg
  have hsm := rversion_any h x
  generalize lvI A 1 x = bx at hsm
  have HBG := hide2 hbg
  have HSM := hide2 hsm
  clear hbg hsm
  have d4 : decide (64 < (t.size : Int)) = true := by simp; omega
  clear h
  go_enter Tryd.func36, Tryd.ntmps36
  go_wp2_with fail
  refine HBG.out.mono ?_
  rintro e w2 ⟨rfl, q⟩
  subst q
  clear HBG
  go_wp2_with fail
  refine HSM.out.mono ?_
  rintro e w3 ⟨rfl, q⟩
  subst q
  clear HSM
  go_wp2
  go_ret2
  exact ⟨rfl, rfl⟩
set_option maxRecDepth 100000 in
set_option maxHeartbeats 4000000 in
theorem rVersion_form (h : Rf w J rb A fr st) {t : ByteArray} {b x : Int} (hb : 0 ≤ b ∧ b ≤ 18446744073709551615) (ht : t.size ≤ 64) (hmb : mbg b = false) :
    Calls Tryd.prog 36 #[.pointer (some ⟨rb, 0, none⟩), .string t, .int .u64 b, .int .i64 x] w fun e w' => e = .returned (.tuple #[.int .i64 0, .int .i64 50]) ∧ w' = w := by
  obtain ⟨vn, vv, vt, h⟩ := h
  obtain ⟨c0, c1, c2, c3, c4⟩ := h.cells
  have hbg := rbegins_any b w hb.1 hb.2
  rw [hmb] at hbg
  have hsm := rversion_any h x
  generalize lvI A 1 x = bx at hsm
  have HBG := hide2 hbg
  have HSM := hide2 hsm
  clear hbg hsm
  have d4 : decide (64 < (t.size : Int)) = false := by simp; omega
  clear h
  go_enter Tryd.func36, Tryd.ntmps36
  go_wp2_with fail
  refine HBG.out.mono ?_
  rintro e w2 ⟨rfl, q⟩
  subst q
  clear HBG
  go_wp2_with fail
  refine HSM.out.mono ?_
  rintro e w3 ⟨rfl, q⟩
  subst q
  clear HSM
  go_wp2
  go_ret2
  exact ⟨rfl, rfl⟩
set_option maxRecDepth 100000 in
set_option maxHeartbeats 4000000 in
theorem rVersion_none (h : Rf w J rb A fr st) {t : ByteArray} {b x : Int} (hb : 0 ≤ b ∧ b ≤ 18446744073709551615) (ht : t.size ≤ 64) (hmb : mbg b = true) (hx0 : x ≠ 0) (hx : lvI A 1 x = false) :
    Calls Tryd.prog 36 #[.pointer (some ⟨rb, 0, none⟩), .string t, .int .u64 b, .int .i64 x] w fun e w' => e = .returned (.tuple #[.int .i64 0, .int .i64 110]) ∧ w' = w := by
  obtain ⟨vn, vv, vt, h⟩ := h
  obtain ⟨c0, c1, c2, c3, c4⟩ := h.cells
  have hbg := rbegins_any b w hb.1 hb.2
  rw [hmb] at hbg
  have hsm := rversion_any h x
  rw [hx] at hsm
  have HBG := hide2 hbg
  have HSM := hide2 hsm
  clear hbg hsm
  have d4 : decide (64 < (t.size : Int)) = false := by simp; omega
  have d5 : decide (x = 0) = false := by simp [hx0]
  clear h
  go_enter Tryd.func36, Tryd.ntmps36
  go_wp2_with fail
  refine HBG.out.mono ?_
  rintro e w2 ⟨rfl, q⟩
  subst q
  clear HBG
  go_wp2_with fail
  refine HSM.out.mono ?_
  rintro e w3 ⟨rfl, q⟩
  subst q
  clear HSM
  go_wp2
  go_ret2
  exact ⟨rfl, rfl⟩
set_option maxRecDepth 100000 in
set_option maxHeartbeats 4000000 in
theorem rVersion_full_zero (h : Rf w J rb A fr st) {t : ByteArray} {b : Int} (hb : 0 ≤ b ∧ b ≤ 18446744073709551615) (ht : t.size ≤ 64) (hmb : mbg b = true) (hf : fr < 3) :
    Calls Tryd.prog 36 #[.pointer (some ⟨rb, 0, none⟩), .string t, .int .u64 b, .int .i64 0] w fun e w' => e = .returned (.tuple #[.int .i64 0, .int .i64 31]) ∧ w' = w := by
  obtain ⟨vn, vv, vt, h⟩ := h
  obtain ⟨c0, c1, c2, c3, c4⟩ := h.cells
  have hbg := rbegins_any b w hb.1 hb.2
  rw [hmb] at hbg
  have hsm := rversion_any h 0
  rw [lvI_out h.ok (.inl (by decide))] at hsm
  have HBG := hide2 hbg
  have HSM := hide2 hsm
  clear hbg hsm
  have d4 : decide (64 < (t.size : Int)) = false := by simp; omega
  have d1 : decide (fr < 3) = true := by simp [hf]
  clear h
  go_enter Tryd.func36, Tryd.ntmps36
  go_wp2_with fail
  refine HBG.out.mono ?_
  rintro e w2 ⟨rfl, q⟩
  subst q
  clear HBG
  go_wp2_with fail
  refine HSM.out.mono ?_
  rintro e w3 ⟨rfl, q⟩
  subst q
  clear HSM
  go_wp2
  go_ret2
  exact ⟨rfl, rfl⟩
set_option maxRecDepth 100000 in
set_option maxHeartbeats 4000000 in
theorem rVersion_full_old (h : Rf w J rb A fr st) {t : ByteArray} {b x : Int} (hb : 0 ≤ b ∧ b ≤ 18446744073709551615) (ht : t.size ≤ 64) (hmb : mbg b = true) (hx : lvI A 1 x = true) (hf : fr < 3) :
    Calls Tryd.prog 36 #[.pointer (some ⟨rb, 0, none⟩), .string t, .int .u64 b, .int .i64 x] w fun e w' => e = .returned (.tuple #[.int .i64 0, .int .i64 31]) ∧ w' = w := by
  obtain ⟨vn, vv, vt, h⟩ := h
  obtain ⟨c0, c1, c2, c3, c4⟩ := h.cells
  have hbg := rbegins_any b w hb.1 hb.2
  rw [hmb] at hbg
  have hsm := rversion_any h x
  rw [hx] at hsm
  have HBG := hide2 hbg
  have HSM := hide2 hsm
  clear hbg hsm
  have d4 : decide (64 < (t.size : Int)) = false := by simp; omega
  have hxb := lvI_le h.ok hx
  have d5 : decide (x = 0) = false := by simp; omega
  have d1 : decide (fr < 3) = true := by simp [hf]
  clear h
  go_enter Tryd.func36, Tryd.ntmps36
  go_wp2_with fail
  refine HBG.out.mono ?_
  rintro e w2 ⟨rfl, q⟩
  subst q
  clear HBG
  go_wp2_with fail
  refine HSM.out.mono ?_
  rintro e w3 ⟨rfl, q⟩
  subst q
  clear HSM
  go_wp2
  go_ret2
  exact ⟨rfl, rfl⟩
set_option maxRecDepth 100000 in
set_option maxHeartbeats 4000000 in
theorem rVersion_zero (h : Rf w J rb A fr st) {t : ByteArray} {b : Int} (hb : 0 ≤ b ∧ b ≤ 18446744073709551615) (ht : t.size ≤ 64) (hmb : mbg b = true) (hfr : 3 ≤ fr ∧ fr < 100000000000) (hla : A.la 1 < 1000000) :
    Calls Tryd.prog 36 #[.pointer (some ⟨rb, 0, none⟩), .string t, .int .u64 b, .int .i64 0] w fun e w' => e = .returned (.tuple #[.int .i64 ((A.la 1 : Int) + 1), .int .i64 0]) ∧ Raf w w' J rb (A.ver t b 0) (fr - 3) st := by
  obtain ⟨vn, vv, vt, h⟩ := h
  obtain ⟨i0, hi0, z0, z1, z2⟩ := info_parts infoRV
  obtain ⟨c0, c1, c2, c3, c4⟩ := h.cells
  have f3 := h.free 3
  have hrl := h.lt
  have d1 : decide (fr < 3) = false := by simp; omega
  have hbg := rbegins_any b w hb.1 hb.2
  rw [hmb] at hbg
  have hsm := rversion_any h 0
  rw [lvI_out h.ok (.inl (by decide))] at hsm
  have HBG := hide2 hbg
  have HSM := hide2 hsm
  clear hbg hsm
  have d4 : decide (64 < (t.size : Int)) = false := by simp; omega
  obtain ⟨w1, hw1⟩ : ∃ x, x = w.setCell ⟨rb, 3, none⟩ (.int .i64 (fr - 3)) := ⟨_, rfl⟩
  have h1 : Rg w1 J rb vn vv vt A (fr - 3) st := by rw [hw1]; exact h.frs (fr - 3)
  have hFJ : Fr J w w1 := by rw [hw1]; exact Fr.setCell (p := ⟨rb, 3, none⟩) (Fr.refl J w) (.inl (h.jj rb (.inl rfl))) _
  obtain ⟨ao, cp, ev⟩ := h1.rv.form
  obtain ⟨xs, hown, hxs⟩ := h1.rv
  obtain ⟨b0, b1, b2, b3, b4⟩ := h1.cells
  have hrl1 := h1.lt
  have hws : w1.heap.size = w.heap.size := by rw [hw1]; simp [World.setCell]
  have hnew := cells_new w1 #[.string t, .int .u64 b, .int .u64 1099511627776, .int .i64 0, .bool false] 85
  rw [hws] at hnew
  have HNEW := hide2 hnew
  clear hnew
  have HOWN := hide2 hown
  have H1 := hide2 h1
  have HFJ := hide2 hFJ
  have HXS := hide2 hxs
  clear h h1 hown hxs hFJ
  subst ev
  go_enter Tryd.func36, Tryd.ntmps36
  go_wp2_with fail
  refine HBG.out.mono ?_
  rintro e w2 ⟨rfl, q⟩
  subst q
  clear HBG
  go_wp2_with fail
  refine HSM.out.mono ?_
  rintro e w3 ⟨rfl, q⟩
  subst q
  clear HSM
  go_wp2_with (at_builtin; refine Hid.out ?_)
  refine hide2 ?_
  rw [← hw1]
  clear c0 c1 c2 c3 c4 f3
  refine wpList_append_own_at _ rfl _ _ 68 rfl 1 85 i0 (.agg #[.string .empty, .int .u64 0, .int .u64 0, .int .i64 0, .bool false]) 5 48 Tryd.underlying68 hi0 z0 z1 z2 rfl (by decide) (.slice ao (A.la 1) cp) _ _ rfl (World.ownsRow.alloc HOWN.out _) ⟨w3.heap.size, 0, none⟩ 1 1 [.string t, .int .u64 b, .int .u64 1099511627776, .int .i64 0, .bool false] rfl rfl HNEW.out (by simp [Value.oneCell']) (by unfold maxLen; omega) (by omega) (by simp) ?_
  intro v' w4 hown4 hgrow4 hat4 hb4
  obtain ⟨gt, capt, ev⟩ := hrow_succ hown4
  have hFa : Fr (fun _ => False) w1 (w1.alloc (.cells #[.string t, .int .u64 b, .int .u64 1099511627776, .int .i64 0, .bool false] 85)) := (Fr.refl _ w1).alloc _
  have hF4 : Fr (fun j => (Value.slice ao (A.la 1) cp).ownBlock = some j) w1 w4 := (hFa.mono (G := fun j => (Value.slice ao (A.la 1) cp).ownBlock = some j) (fun _ _ e => e.elim)).trans (Fr.grown hgrow4 (fun j e => e)) (fun j e => .inl e)
  have hr4 : Fw w4 85 5 v' (A.la 1 + 1) (vF (A.ver t b 0)) := by
    refine Fw.snoc (f := vF A) HXS.out HOWN.out.1 hown4 (fun i hi j hj => ?_) (fun j hj => ?_)
    · have hil : i ≠ A.la 1 := by omega
      rcases j with _ | _ | _ | _ | _ | j2
      · simp [vF, Stt.node, Stt.ver, Stt.txn, up1, up2, hil]
      · simp [vF, Stt.node, Stt.ver, Stt.txn, up1, up2, hil]
      · simp [vF, Stt.node, Stt.ver, Stt.txn, up1, up2, hil]
      · simp [vF, Stt.node, Stt.ver, Stt.txn, up1, up2, hil]
      · simp [vF, Stt.node, Stt.ver, Stt.txn, up1, up2, hil]
      · omega
    · rcases j with _ | _ | _ | _ | _ | j2
      · simp [vF, Stt.node, Stt.ver, Stt.txn, up1, up2]
      · simp [vF, Stt.node, Stt.ver, Stt.txn, up1, up2]
      · simp [vF, Stt.node, Stt.ver, Stt.txn, up1, up2]
      · simp [vF, Stt.node, Stt.ver, Stt.txn, up1, up2]
      · simp [vF, Stt.node, Stt.ver, Stt.txn, up1, up2]
      · omega
  have hX := H1.out.addV ht hb (by omega) hF4 hr4 (fun j e => by
    rcases hb4 with e5 | e5
    · exact .inl (by rw [← e5]; exact e)
    · right
      rw [e5] at e
      simp at e
      omega) hla
  have hbk4 := hF4.block rb hrl1 (H1.out.ne.2.1)
  have hbk5 := hbk4.trans H1.out.bk
  have y1 : w4.cell? ⟨rb, 1, none⟩ = some (.slice ao (A.la 1) cp) := by rw [Go.Joins.cell_of_block hbk5]; rfl
  have fz : w4.frozen? ⟨rb, 1, none⟩ = false := Go.Joins.unfrozen_of_block hbk5 1
  have hl4 : rb < w4.heap.size := (Array.getElem?_eq_some_iff.1 hbk5).1
  have HX := hide2 hX
  clear hX hown4 hgrow4 hat4 hb4 hFa hF4 hr4 HNEW HOWN hbk4 hbk5 b0 b1 b2 b3 b4
  subst ev
  go_frame
  go_wp2
  go_ret2
  obtain ⟨J', q1, q2, q3⟩ := HX.out
  exact ⟨rfl, J', q1, fun j hj => q2 j (Nat.lt_of_lt_of_le hj HFJ.out.size), HFJ.out.trans q3 (fun j e => .inl e)⟩
set_option maxRecDepth 100000 in
set_option maxHeartbeats 4000000 in
theorem rVersion_old (h : Rf w J rb A fr st) {t : ByteArray} {b x : Int} (hb : 0 ≤ b ∧ b ≤ 18446744073709551615) (ht : t.size ≤ 64) (hmb : mbg b = true) (hx : lvI A 1 x = true) (hfr : 3 ≤ fr ∧ fr < 100000000000) (hla : A.la 1 < 1000000) :
    Calls Tryd.prog 36 #[.pointer (some ⟨rb, 0, none⟩), .string t, .int .u64 b, .int .i64 x] w fun e w' => e = .returned (.tuple #[.int .i64 ((A.la 1 : Int) + 1), .int .i64 0]) ∧ Raf w w' J rb (A.ver t b x) (fr - 3) st := by
  obtain ⟨vn, vv, vt, h⟩ := h
  obtain ⟨i0, hi0, z0, z1, z2⟩ := info_parts infoRV
  obtain ⟨c0, c1, c2, c3, c4⟩ := h.cells
  have f3 := h.free 3
  have hrl := h.lt
  have d1 : decide (fr < 3) = false := by simp; omega
  have hbg := rbegins_any b w hb.1 hb.2
  rw [hmb] at hbg
  have hsm := rversion_any h x
  rw [hx] at hsm
  have HBG := hide2 hbg
  have HSM := hide2 hsm
  clear hbg hsm
  have d4 : decide (64 < (t.size : Int)) = false := by simp; omega
  have hxb := lvI_le h.ok hx
  have d5 : decide (x = 0) = false := by simp; omega
  obtain ⟨w1, hw1⟩ : ∃ x, x = w.setCell ⟨rb, 3, none⟩ (.int .i64 (fr - 3)) := ⟨_, rfl⟩
  have h1 : Rg w1 J rb vn vv vt A (fr - 3) st := by rw [hw1]; exact h.frs (fr - 3)
  have hFJ : Fr J w w1 := by rw [hw1]; exact Fr.setCell (p := ⟨rb, 3, none⟩) (Fr.refl J w) (.inl (h.jj rb (.inl rfl))) _
  obtain ⟨ao, cp, ev⟩ := h1.rv.form
  obtain ⟨xs, hown, hxs⟩ := h1.rv
  obtain ⟨b0, b1, b2, b3, b4⟩ := h1.cells
  have hrl1 := h1.lt
  have hws : w1.heap.size = w.heap.size := by rw [hw1]; simp [World.setCell]
  have hnew := cells_new w1 #[.string t, .int .u64 b, .int .u64 1099511627776, .int .i64 x, .bool false] 85
  rw [hws] at hnew
  have HNEW := hide2 hnew
  clear hnew
  have HOWN := hide2 hown
  have H1 := hide2 h1
  have HFJ := hide2 hFJ
  have HXS := hide2 hxs
  clear h h1 hown hxs hFJ
  subst ev
  go_enter Tryd.func36, Tryd.ntmps36
  go_wp2_with fail
  refine HBG.out.mono ?_
  rintro e w2 ⟨rfl, q⟩
  subst q
  clear HBG
  go_wp2_with fail
  refine HSM.out.mono ?_
  rintro e w3 ⟨rfl, q⟩
  subst q
  clear HSM
  go_wp2_with (at_builtin; refine Hid.out ?_)
  refine hide2 ?_
  rw [← hw1]
  clear c0 c1 c2 c3 c4 f3
  refine wpList_append_own_at _ rfl _ _ 68 rfl 1 85 i0 (.agg #[.string .empty, .int .u64 0, .int .u64 0, .int .i64 0, .bool false]) 5 48 Tryd.underlying68 hi0 z0 z1 z2 rfl (by decide) (.slice ao (A.la 1) cp) _ _ rfl (World.ownsRow.alloc HOWN.out _) ⟨w3.heap.size, 0, none⟩ 1 1 [.string t, .int .u64 b, .int .u64 1099511627776, .int .i64 x, .bool false] rfl rfl HNEW.out (by simp [Value.oneCell']) (by unfold maxLen; omega) (by omega) (by simp) ?_
  intro v' w4 hown4 hgrow4 hat4 hb4
  obtain ⟨gt, capt, ev⟩ := hrow_succ hown4
  have hFa : Fr (fun _ => False) w1 (w1.alloc (.cells #[.string t, .int .u64 b, .int .u64 1099511627776, .int .i64 x, .bool false] 85)) := (Fr.refl _ w1).alloc _
  have hF4 : Fr (fun j => (Value.slice ao (A.la 1) cp).ownBlock = some j) w1 w4 := (hFa.mono (G := fun j => (Value.slice ao (A.la 1) cp).ownBlock = some j) (fun _ _ e => e.elim)).trans (Fr.grown hgrow4 (fun j e => e)) (fun j e => .inl e)
  have hr4 : Fw w4 85 5 v' (A.la 1 + 1) (vF (A.ver t b x)) := by
    refine Fw.snoc (f := vF A) HXS.out HOWN.out.1 hown4 (fun i hi j hj => ?_) (fun j hj => ?_)
    · have hil : i ≠ A.la 1 := by omega
      rcases j with _ | _ | _ | _ | _ | j2
      · simp [vF, Stt.node, Stt.ver, Stt.txn, up1, up2, hil]
      · simp [vF, Stt.node, Stt.ver, Stt.txn, up1, up2, hil]
      · simp [vF, Stt.node, Stt.ver, Stt.txn, up1, up2, hil]
      · simp [vF, Stt.node, Stt.ver, Stt.txn, up1, up2, hil]
      · simp [vF, Stt.node, Stt.ver, Stt.txn, up1, up2, hil]
      · omega
    · rcases j with _ | _ | _ | _ | _ | j2
      · simp [vF, Stt.node, Stt.ver, Stt.txn, up1, up2]
      · simp [vF, Stt.node, Stt.ver, Stt.txn, up1, up2]
      · simp [vF, Stt.node, Stt.ver, Stt.txn, up1, up2]
      · simp [vF, Stt.node, Stt.ver, Stt.txn, up1, up2]
      · simp [vF, Stt.node, Stt.ver, Stt.txn, up1, up2]
      · omega
  have hX := H1.out.addV ht hb (by omega) hF4 hr4 (fun j e => by
    rcases hb4 with e5 | e5
    · exact .inl (by rw [← e5]; exact e)
    · right
      rw [e5] at e
      simp at e
      omega) hla
  have hbk4 := hF4.block rb hrl1 (H1.out.ne.2.1)
  have hbk5 := hbk4.trans H1.out.bk
  have y1 : w4.cell? ⟨rb, 1, none⟩ = some (.slice ao (A.la 1) cp) := by rw [Go.Joins.cell_of_block hbk5]; rfl
  have fz : w4.frozen? ⟨rb, 1, none⟩ = false := Go.Joins.unfrozen_of_block hbk5 1
  have hl4 : rb < w4.heap.size := (Array.getElem?_eq_some_iff.1 hbk5).1
  have HX := hide2 hX
  clear hX hown4 hgrow4 hat4 hb4 hFa hF4 hr4 HNEW HOWN hbk4 hbk5 b0 b1 b2 b3 b4
  subst ev
  go_frame
  go_wp2
  go_ret2
  obtain ⟨J', q1, q2, q3⟩ := HX.out
  exact ⟨rfl, J', q1, fun j hj => q2 j (Nat.lt_of_lt_of_le hj HFJ.out.size), HFJ.out.trans q3 (fun j e => .inl e)⟩
end
end

section
open Go.RowKit Go.Maps

section
variable {w w' w1 w2 : World} {J J1 : Nat → Prop} {rb : Nat} {vn vv vt : Value} {A A1 A2 : Stt} {fr st fr1 st1 fr2 st2 : Int}
theorem Raf.trans (hk : ∀ j, j < w.heap.size → (J1 j ↔ J j)) (hF : Fr J w w1) (h2 : Raf w1 w2 J1 rb A2 fr2 st2) : Raf w w2 J rb A2 fr2 st2 := by
  obtain ⟨J2, hr, hk2, hF2⟩ := h2
  have hs := hF.size
  refine ⟨J2, hr, fun j hj => (hk2 j (by omega)).trans (hk j hj), hF.trans hF2 (fun j e => ?_)⟩
  rcases Nat.lt_or_ge j w.heap.size with q | q
  · exact .inl ((hk j q).1 e)
  · exact .inr q
theorem Ch.nil_lvI {x : Int} (h : Ch A x []) : lvI A 1 x = false := by
  unfold lvI
  rcases h with q | q
  · have : ¬ 0 ≤ x := by omega
    simp [this]
  · simp [q]
theorem Ch.cons_lvI {x : Int} {n : Nat} {l : List Nat} (h : Ch A x (n :: l)) : lvI A 1 x = true := by
  unfold lvI
  obtain ⟨rfl, h1, _⟩ := h
  simp [h1]
/-- From every number there is a chain. -/
theorem ch_ex (hok : A.ok) : ∀ (m : Nat) (x : Int), x < m → ∃ l, Ch A x l ∧ l.length ≤ m
  | 0, x, h => ⟨[], .inl (by omega), by simp⟩
  | m + 1, x, h => by
    by_cases q : 0 ≤ x ∧ A.lv 1 x.toNat = true
    · have := hok.nx _ q.2
      obtain ⟨l, hl, hn⟩ := ch_ex hok m (A.va 4 x.toNat) (by omega)
      exact ⟨x.toNat :: l, ⟨by omega, q.2, hl⟩, by simp; omega⟩
    · refine ⟨[], ?_, by simp⟩
      by_cases q1 : 0 ≤ x
      · right
        cases e : A.lv 1 x.toNat with
        | false => rfl
        | true => exact absurd ⟨q1, e⟩ q
      · exact .inl (by omega)
set_option maxRecDepth 100000 in
set_option maxHeartbeats 8000000 in
theorem rchain_any (h : Rg w J rb vn vv vt A fr st) {x0 : Int} {l : List Nat} (hc : Ch A x0 l) (hll : l.length ≤ 1000000) :
    Calls Tryd.prog 41 #[.pointer (some ⟨rb, 0, none⟩), .int .i64 x0] w fun e w' => ∃ v, e = .returned v ∧ Hr w' w.heap.size v l ∧ Fr (fun _ => False) w w' := by
  obtain ⟨i0, hi0, z0, z1, z2⟩ := info_parts infoH
  have hsm := rversion_any h x0
  have hbn : lvI A 1 x0 = !l.isEmpty := by
    cases l with
    | nil => exact hc.nil_lvI
    | cons y l => exact hc.cons_lvI
  rw [hbn] at hsm
  have HSM := hide2 hsm
  have HC := hide2 hc
  have H := hide2 h
  have hok := h.ok
  have HOK := hide2 hok
  have hla := h.la 1
  have hsz0 : 1 ≤ w.heap.size := by have := h.lt; omega
  clear h hsm hbn hc hok
  go_enter Tryd.func41, Tryd.ntmps41
  go_wp2_with fail
  refine HSM.out.mono ?_
  rintro e wz ⟨rfl, q⟩
  subst q
  clear HSM
  go_wp2
  go_loopw [1, 5, 6] (fun a v b wr => ∃ (l1 l2 : List Nat) (x : Int), l = l1 ++ l2 ∧ a = .int .i64 x ∧ b = .bool (!l2.isEmpty) ∧ Hid (Ch A x l2) ∧ Hid (Hr wr wz.heap.size v l1) ∧ Hid (Fr (fun _ => False) wz wr)) (fun _ v _ _ => match v with | .slice _ k _ => l.length + 1 - k | _ => 0)
  case atStart => exact ⟨[], l, x0, rfl, rfl, rfl, HC, hide2 ⟨rfl, .inl ⟨rfl, rfl⟩⟩, hide2 (Fr.refl _ _)⟩
  case round =>
    obtain ⟨l1, l2, x, hl12, rfl, rfl, C, HR, HF⟩ := hrel
    have hsz := HF.out.size
    obtain ⟨ao, cp, ev⟩ := HR.out.form
    subst ev
    have hlen : l.length = l1.length + l2.length := by rw [hl12]; simp
    have HLL := hide2 hl12
    clear hl12
    match l2, C with
    | [], C =>
      have RET : Hid (Hr wr wz.heap.size (.slice ao l1.length cp) l) := hide2 (by
        have e : l = l1 := by rw [HLL.out]; simp
        rw [e]
        exact HR.out)
      clear hlen
      go_wp2
      go_ret
      exact ⟨_, rfl, RET.out, HF.out⟩
    | y :: l3, C =>
      obtain ⟨hxy, hy, C3⟩ := C.out
      subst hxy
      have hnb := HOK.out.n1 1 y hy
      obtain ⟨k, rfl⟩ : ∃ k, y = k + 1 := ⟨y - 1, by omega⟩
      have hl3 : l1.length + 1 + l3.length = l.length := by simp at hlen; omega
      have hxk : ((k + 1 : Nat) : Int) = (k : Int) + 1 := by omega
      have HC3 := hide2 C3
      have hr1 : wr.ownsRow wz.heap.size 3 1 (.slice ao l1.length cp) l1.length (l1.map nv) := HR.out
      have HR1 := hide2 hr1
      have HNEW := hide2 (hcell_new wr (.int .i64 ((k : Int) + 1)) 3)
      rw [hxk]
      clear C3 hlen hr1
      go_wp2_with (at_builtin; refine Hid.out ?_)
      refine hide2 ?_
      refine wpList_append_own_at _ rfl _ _ 29 rfl wz.heap.size 3 i0 (.int .i64 0) 1 8 Tryd.underlying29 hi0 z0 z1 z2 rfl (by decide) (.slice ao l1.length cp) _ _ rfl (World.ownsRow.alloc HR1.out _) ⟨wr.heap.size, 0, none⟩ 1 1 [.int .i64 ((k : Int) + 1)] rfl rfl HNEW.out (by simp [Value.oneCell']) (by unfold maxLen; omega) (by omega) (by simp; omega) ?_
      intro v' w4 hown4 hgrow4 hat4 hb4
      obtain ⟨gt, capt, ev⟩ := hrow_succ hown4
      have hFg : Fr (fun j => (Value.slice ao l1.length cp).ownBlock = some j) wr w4 := ((Fr.refl (fun j => (Value.slice ao l1.length cp).ownBlock = some j) wr).alloc (.cells #[.int .i64 ((k : Int) + 1)] 3)).trans (Fr.grown hgrow4 (fun j e => e)) (fun j e => .inl e)
      have hF4 : Fr (fun _ => False) wz w4 := HF.out.trans hFg (fun j e => .inr (World.ownsRow.lt HR1.out j e).1)
      have hR4 := H.out.keep hF4 (fun _ _ e => e)
      have HH4 : Hid (Hr w4 wz.heap.size v' (l1 ++ [k + 1])) := hide2 (by
        unfold Hr
        rw [List.length_append, List.length_singleton, List.map_append]
        exact hown4)
      have HL4 : Hid (l = (l1 ++ [k + 1]) ++ l3) := hide2 (by rw [HLL.out]; simp)
      have HF4 := hide2 hF4
      obtain ⟨g, cq, ev2, hcell, hfz⟩ := hR4.rv.at (i := k) (by omega)
      obtain ⟨b0, b1, b2, b3, b4⟩ := hR4.cells
      rw [ev2] at b1
      have q1 : w4.cell? ⟨g, k * 5 + 3, none⟩ = some (.int .i64 (A.va 4 (k + 1))) := hcell 3 (by omega)
      have d3 : (k : Int) < (A.la 1 : Int) := by omega
      have d4 : ¬ ((k : Int) < 0) := by omega
      have hsm := rversion_any hR4 (A.va 4 (k + 1))
      have hbn : lvI A 1 (A.va 4 (k + 1)) = !l3.isEmpty := by
        cases l3 with
        | nil => exact HC3.out.nil_lvI
        | cons y l => exact HC3.out.cons_lvI
      rw [hbn] at hsm
      have HSM := hide2 hsm
      obtain ⟨x2, hx2⟩ : ∃ q, q = A.va 4 (k + 1) := ⟨_, rfl⟩
      rw [← hx2] at HSM HC3 q1
      clear hown4 hgrow4 hat4 hb4 hFg HNEW HR1 HR hF4 hR4 ev2 hcell hfz hsm hbn hx2
      subst ev
      go_frame
      go_wp2_with fail
      refine HSM.out.mono ?_
      rintro e w5 ⟨rfl, q⟩
      subst q
      clear HSM
      go_wp2
      go_roundw
      case rel => exact ⟨l1 ++ [k + 1], l3, x2, HL4.out, rfl, rfl, HC3, HH4, HF4⟩
      case measure => show l.length + 1 - (l1.length + 1) < l.length + 1 - l1.length; omega
set_option maxRecDepth 100000 in
set_option maxHeartbeats 4000000 in
theorem rChain_in (h : Rg w J rb vn vv vt A fr st) {k : Nat} (hl : A.lv 0 (k + 1) = true) {l : List Nat} (hc : Ch A (A.va 0 (k + 1)) l) (hll : l.length ≤ 1000000) :
    Calls Tryd.prog 15 #[.pointer (some ⟨rb, 0, none⟩), .int .i64 ((k : Int) + 1)] w fun e w' => ∃ v, e = .returned v ∧ Hr w' w.heap.size v l ∧ Fr (fun _ => False) w w' := by
  have hnb := h.ok.n1 0 (k + 1) hl
  have hla := h.la 0
  have hsm := rnode_any h ((k : Int) + 1)
  rw [lvI_at, hl] at hsm
  have HSM := hide2 hsm
  have HCH := hide2 (rchain_any h hc hll)
  obtain ⟨c0, c1, c2, c3, c4⟩ := h.cells
  obtain ⟨g, cp, ev, hcell, hfz⟩ := h.rn.at (i := k) (by omega)
  subst ev
  have q1 : w.cell? ⟨g, k * 2, none⟩ = some (.int .i64 (A.va 0 (k + 1))) := hcell 0 (by omega)
  have d3 : (k : Int) < (A.la 0 : Int) := by omega
  have d4 : ¬ ((k : Int) < 0) := by omega
  clear h hsm hcell hfz hc hl
  go_enter Tryd.func15, Tryd.ntmps15
  go_wp2_with fail
  refine HSM.out.mono ?_
  rintro e w1 ⟨rfl, q⟩
  subst q
  clear HSM
  go_wp2_with fail
  refine HCH.out.mono ?_
  rintro e w2 ⟨v, rfl, hv, hF⟩
  have HV := hide2 hv
  have HF := hide2 hF
  clear HCH hv hF
  go_wp2
  go_ret
  exact ⟨v, rfl, HV.out, HF.out⟩
set_option maxRecDepth 100000 in
set_option maxHeartbeats 4000000 in
theorem ChainR_out (h : Rg w J rb vn vv vt A fr st) {n : Int} (hl : lvI A 0 n = false) :
    Calls Tryd.prog 15 #[.pointer (some ⟨rb, 0, none⟩), .int .i64 n] w fun e w' => e = .returned (.slice none 0 0) ∧ w' = w := by
  have hsm := rnode_any h n
  rw [hl] at hsm
  have HSM := hide2 hsm
  clear h hsm hl
  go_enter Tryd.func15, Tryd.ntmps15
  go_wp2_with fail
  refine HSM.out.mono ?_
  rintro e w1 ⟨rfl, q⟩
  subst q
  clear HSM
  go_wp2
  go_ret
  exact ⟨rfl, rfl⟩
end
end

section
open Go.RowKit Go.Maps

section
variable {w w' : World} {J : Nat → Prop} {rb : Nat} {vn vv vt : Value} {A : Stt} {fr st : Int}
set_option maxRecDepth 100000 in
set_option maxHeartbeats 8000000 in
theorem rCut_in (h : Rf w J rb A fr st) {k : Nat} (hl : A.lv 1 (k + 1) = true) {l : List Nat} (hc : Ch A (A.va 4 (k + 1)) l) (hll : l.length ≤ 1000000) (hfr : -1000000000 ≤ fr ∧ fr < 10000000000) :
    Calls Tryd.prog 44 #[.pointer (some ⟨rb, 0, none⟩), .int .i64 ((k : Int) + 1)] w fun e w' => e = .returned (.tuple #[.int .i64 (l.length : Nat), .int .i64 0]) ∧ Raf w w' J rb (offs (A.put 4 (k + 1) 0) l) (fr + 3 * (l.length : Nat)) st := by
  obtain ⟨vn, vv, vt, h⟩ := h
  have hnb := h.ok.n1 1 (k + 1) hl
  have hla := h.la 1
  have hsm := rversion_any h ((k : Int) + 1)
  rw [lvI_at, hl] at hsm
  have HSM := hide2 hsm
  have HCH := hide2 (rchain_any h hc hll)
  have HLI : Hid (∀ n ∈ l, 1 ≤ n ∧ n ≤ A.la 1) := hide2 (fun n hn => h.ok.n1 1 n (hc.live n hn))
  have HP : Hid ((A.put 4 (k + 1) 0).ok) := hide2 (Stt.put_ok h.ok (by omega) (fun e => by omega) (fun e => by omega))
  obtain ⟨g, cp, ev, hcell, hfz⟩ := h.rv.at (i := k) (by omega)
  have hgb := h.ne.2.1
  subst ev
  have hne : g ≠ rb := fun e => hgb (by rw [← e]; rfl)
  have hne2 : rb ≠ g := fun e => hne e.symm
  have q1 : w.cell? ⟨g, k * 5 + 3, none⟩ = some (.int .i64 (A.va 4 (k + 1))) := hcell 3 (by omega)
  obtain ⟨c0, c1, c2, c3, c4⟩ := h.cells
  have d3 : (k : Int) < (A.la 1 : Int) := by omega
  have d4 : ¬ ((k : Int) < 0) := by omega
  have H := hide2 h
  clear h hsm hcell hfz hgb hc hl
  go_enter Tryd.func44, Tryd.ntmps44
  go_wp2_with fail
  refine HSM.out.mono ?_
  rintro e w1 ⟨rfl, q⟩
  subst q
  clear HSM
  go_wp2_with fail
  refine HCH.out.mono ?_
  rintro e w2 ⟨v, rfl, hv, hF⟩
  have h2 := H.out.keep hF (fun _ _ e => e)
  obtain ⟨g2, cp2, ev2, hcell2, hfz2⟩ := h2.rv.at (i := k) (by omega)
  simp only [Value.slice.injEq, Option.some.injEq, true_and] at ev2
  obtain ⟨eg, ec⟩ := ev2
  simp only [Addr.mk.injEq, and_true] at eg
  subst eg
  subst ec
  have q2 : w2.cell? ⟨g, k * 5 + 3, none⟩ = some (.int .i64 (A.va 4 (k + 1))) := hcell2 3 (by omega)
  have fz := hfz2 (k * 5 + 3)
  obtain ⟨b0, b1, b2, b3, b4⟩ := h2.cells
  obtain ⟨W, hW⟩ : ∃ x, x = w2.setCell ⟨g, k * 5 + 3, none⟩ (.int .i64 0) := ⟨_, rfl⟩
  have h3 : Rg W J rb vn (.slice (some ⟨g, 0, none⟩) (A.la 1) cp) vt (A.put 4 (k + 1) 0) fr st := by rw [hW]; exact h2.putNext (k := k) (x := 0) (by omega) HP.out
  have hF3 : Fr (fun j => j = g) w2 W := by rw [hW]; exact Fr.setCell (p := ⟨g, k * 5 + 3, none⟩) (Fr.refl (fun j => j = g) w2) (.inl rfl) _
  have hgj : J g := H.out.jj g (by simp [Value.ownBlock])
  have hjl := H.out.jl
  have hvb : ∀ j, v.ownBlock = some j → ¬ J j := fun j e q => by
    have := hjl j q
    have := (World.ownsRow.lt hv j e).1
    omega
  have hv3 : Hr W w1.heap.size v l := hrow_fr hv hF3 (fun j e q => hvb j e (by rw [q]; exact hgj))
  have hFJ : Fr J w1 W := (hF.mono (G := J) (fun _ _ e => e.elim)).trans hF3 (fun j e => .inl (by rw [e]; exact hgj))
  have HV3 := hide2 hv3
  have HVB := hide2 hvb
  have H3 : Hid (Rf W J rb (offs (A.put 4 (k + 1) 0) (l.take 0)) (fr + 3 * ((0 : Nat) : Int)) st) := hide2 (by simpa [offs] using ⟨_, _, _, h3⟩)
  have HFJ := hide2 hFJ
  obtain ⟨ao, cq, evv⟩ := hv.form
  clear HCH hv hF h2 hcell2 hfz2 h3 hF3 hgj hjl hvb hv3 hFJ HP c0 c1 c2 c3 c4 q1 H
  subst evv
  go_wp2_with fail
  rw [← hW]
  clear hW b0 b1 b2 b3 b4 q2 fz
  go_loopw [8] (fun a wr => ∃ (i : Nat) (J1 : Nat → Prop), a = .int .i64 (i : Int) ∧ i ≤ l.length ∧ Hid (Rf wr J1 rb (offs (A.put 4 (k + 1) 0) (l.take i)) (fr + 3 * (i : Int)) st) ∧ Hid (∀ j, j < w1.heap.size → (J1 j ↔ J j)) ∧ Hid (Fr J w1 wr) ∧ Hid (Hr wr w1.heap.size (.slice ao l.length cq) l) ∧ Hid (∀ j, (Value.slice ao l.length cq).ownBlock = some j → ¬ J1 j)) (fun a _ => l.length + 1 - (intOf a).toNat)
  case atStart => exact ⟨0, J, rfl, by omega, H3, hide2 (fun _ _ => Iff.rfl), HFJ, HV3, HVB⟩
  case round =>
    clear H3 HFJ HV3 HVB
    obtain ⟨i, J1, rfl, hi, H, HK, HF, HV, HB⟩ := hrel
    by_cases hlt : i < l.length
    · have c1 : decide ((i : Int) < (l.length : Int)) = true := by simp; omega
      have c2 : (i : Int) < (l.length : Int) := by omega
      have c3 : ¬ (i : Int) < 0 := by omega
      obtain ⟨g9, cp9, ev9, hcell9⟩ := HV.out.at hlt
      obtain ⟨n, hn⟩ : ∃ n, n = l.getD i 0 := ⟨_, rfl⟩
      have hmem : n ∈ l := by rw [hn, List.getD_eq_getElem?_getD, List.getElem?_eq_getElem hlt]; exact List.getElem_mem hlt
      have hnl := HLI.out n hmem
      obtain ⟨m, rfl⟩ : ∃ m, n = m + 1 := ⟨n - 1, by omega⟩
      rw [← hn] at hcell9
      have hcell : wr.cell? ⟨g9, i, none⟩ = some (.int .i64 ((m : Int) + 1)) := hcell9
      have hAW := raway_in H.out (k := m) (by rw [offs_la]; show m < A.la 1; omega) (by omega)
      have HAW := hide2 hAW
      have htk : l.take (i + 1) = l.take i ++ [m + 1] := by
        rw [List.take_add_one, List.getElem?_eq_getElem hlt, hn, List.getD_eq_getElem?_getD, List.getElem?_eq_getElem hlt]
        rfl
      have HTK := hide2 htk
      simp only [Value.slice.injEq, true_and] at ev9
      obtain ⟨rfl, rfl⟩ := ev9
      clear hAW hcell9 hn hmem hnl htk H
      go_wp2_with fail
      refine HAW.out.mono ?_
      rintro e w5 ⟨rfl, J2, hR2, hk2, hF2⟩
      have HR2 : Hid (Rf w5 J2 rb (offs (A.put 4 (k + 1) 0) (l.take (i + 1))) (fr + 3 * ((i + 1 : Nat) : Int)) st) := hide2 (by
        rw [HTK.out, offs_snoc, show fr + 3 * ((i + 1 : Nat) : Int) = fr + 3 * (i : Int) + 3 by omega]
        exact hR2)
      have hs1 := HF.out.size
      have HK2 : Hid (∀ j, j < w1.heap.size → (J2 j ↔ J j)) := hide2 (fun j hj => (hk2 j (by omega)).trans (HK.out j hj))
      have HF2 : Hid (Fr J w1 w5) := hide2 (HF.out.trans hF2 (fun j e => by
        rcases Nat.lt_or_ge j w1.heap.size with q | q
        · exact .inl ((HK.out j q).1 e)
        · exact .inr q))
      have HV2 : Hid (Hr w5 w1.heap.size (.slice (some ⟨g9, 0, none⟩) l.length cq) l) := hide2 (hrow_fr HV.out hF2 (fun j e => HB.out j e))
      have HB2 : Hid (∀ j, (Value.slice (some ⟨g9, 0, none⟩) l.length cq).ownBlock = some j → ¬ J2 j) := hide2 (fun j e q => HB.out j e ((hk2 j (World.ownsRow.lt HV.out j e).2).1 q))
      clear HAW hR2 hk2 hF2 HTK HK HF HV HB hs1
      go_wp2
      go_roundw
      case rel => exact ⟨i + 1, J2, by go_num, by omega, HR2, HK2, HF2, HV2, HB2⟩
      case measure => simp [intOf]; omega
    · have e : i = l.length := by omega
      subst e
      have c1 : decide ((l.length : Int) < (l.length : Int)) = false := by simp
      have RET : Hid (Raf w1 wr J rb (offs (A.put 4 (k + 1) 0) l) (fr + 3 * (l.length : Nat)) st) := hide2 (by
        refine ⟨J1, ?_, HK.out, HF.out⟩
        have q := H.out
        rw [List.take_length] at q
        exact q)
      clear H HK HF HV HB
      go_wp2
      go_ret2
      exact ⟨rfl, RET.out⟩
set_option maxRecDepth 100000 in
set_option maxHeartbeats 4000000 in
theorem CutR_out (h : Rf w J rb A fr st) {n : Int} (hl : lvI A 1 n = false) :
    Calls Tryd.prog 44 #[.pointer (some ⟨rb, 0, none⟩), .int .i64 n] w fun e w' => e = .returned (.tuple #[.int .i64 0, .int .i64 110]) ∧ w' = w := by
  obtain ⟨vn, vv, vt, h⟩ := h
  have hsm := rversion_any h n
  rw [hl] at hsm
  have HSM := hide2 hsm
  clear h hsm hl
  go_enter Tryd.func44, Tryd.ntmps44
  go_wp2_with fail
  refine HSM.out.mono ?_
  rintro e w1 ⟨rfl, q⟩
  subst q
  clear HSM
  go_wp2
  go_ret2
  exact ⟨rfl, rfl⟩
set_option maxRecDepth 100000 in
set_option maxHeartbeats 8000000 in
theorem rDrop_in (h : Rf w J rb A fr st) {k m : Nat} (hl : A.lv 0 (k + 1) = true) (hh : A.va 0 (k + 1) = (m : Int) + 1) (hm : A.lv 1 (m + 1) = true) (hfr : -1000000000 ≤ fr ∧ fr < 100000000000) :
    Calls Tryd.prog 45 #[.pointer (some ⟨rb, 0, none⟩), .int .i64 ((k : Int) + 1)] w fun e w' => e = .returned (.int .i64 0) ∧ Raf w w' J rb ((A.off 1 (m + 1)).put 0 (k + 1) (A.va 4 (m + 1))) (fr + 3) st := by
  obtain ⟨vn, vv, vt, h⟩ := h
  have hnb := h.ok.n1 0 (k + 1) hl
  have hmb := h.ok.n1 1 (m + 1) hm
  have hbd := h.ok.bd 4 (m + 1) (by decide) hm
  have hnx := h.ok.nx (m + 1) hm
  have hla := h.la 0
  have hla1 := h.la 1
  have hsm := rnode_any h ((k : Int) + 1)
  rw [lvI_at, hl] at hsm
  have HSM := hide2 hsm
  have hsv := rversion_any h ((m : Int) + 1)
  rw [lvI_at, hm] at hsv
  have HSV := hide2 hsv
  have HP : Hid ((A.put 0 (k + 1) (A.va 4 (m + 1))).ok) := hide2 (Stt.put_ok h.ok hbd (fun e => by omega) (fun e => by omega))
  obtain ⟨g, cp, ev, hcell, hfz⟩ := h.rn.at (i := k) (by omega)
  obtain ⟨gv, cv, ev2, hcell2, hfz2⟩ := h.rv.at (i := m) (by omega)
  have hgb := h.ne.1
  have hap := h.ap.1
  subst ev
  subst ev2
  have hne : g ≠ rb := fun e => hgb (by rw [← e]; rfl)
  have hne2 : rb ≠ g := fun e => hne e.symm
  have hgv : gv ≠ g := fun e => (hap g rfl).1 (by rw [← e]; rfl)
  have q1 : w.cell? ⟨g, k * 2, none⟩ = some (.int .i64 (A.va 0 (k + 1))) := hcell 0 (by omega)
  rw [hh] at q1
  have q2 : w.cell? ⟨gv, m * 5 + 3, none⟩ = some (.int .i64 (A.va 4 (m + 1))) := hcell2 3 (by omega)
  have fz := hfz (k * 2)
  obtain ⟨c0, c1, c2, c3, c4⟩ := h.cells
  have d3 : (k : Int) < (A.la 0 : Int) := by omega
  have d4 : ¬ ((k : Int) < 0) := by omega
  have d5 : (m : Int) < (A.la 1 : Int) := by omega
  have hkw : IntKind.i64.wrap (k : Int) = k := by rw [IntKind.wrap_i64]; omega
  have hmw : IntKind.i64.wrap (m : Int) = m := by rw [IntKind.wrap_i64]; omega
  have d6 : ¬ ((m : Int) < 0) := by omega
  have H := hide2 h
  have hrl := h.lt
  have hgl := (h.rn.lt (b := g) rfl).2
  have hgvl := (h.rv.lt (b := gv) rfl).2
  clear h hsm hsv hcell hfz hcell2 hfz2 hgb hap hl hm
  go_enter Tryd.func45, Tryd.ntmps45
  go_wp2_with fail
  refine HSM.out.mono ?_
  rintro e w1 ⟨rfl, q⟩
  subst q
  clear HSM
  go_wp2_with fail
  refine HSV.out.mono ?_
  rintro e w2 ⟨rfl, q⟩
  subst q
  clear HSV
  obtain ⟨x, hx⟩ : ∃ x, x = A.va 4 (m + 1) := ⟨_, rfl⟩
  rw [← hx] at q2 HP
  have HX := hide2 hx
  clear hx
  obtain ⟨W, hW⟩ : ∃ W, W = w2.setCell ⟨g, k * 2 + 0, none⟩ (.int .i64 x) := ⟨_, rfl⟩
  have h3 : Rg W J rb (.slice (some ⟨g, 0, none⟩) (A.la 0) cp) (.slice (some ⟨gv, 0, none⟩) (A.la 1) cv) vt (A.put 0 (k + 1) x) fr st := by rw [hW]; exact H.out.putHead (k := k) (x := x) (by omega) HP.out
  have hF3 : Fr (fun j => j = g) w2 W := by rw [hW]; exact Fr.setCell (p := ⟨g, k * 2 + 0, none⟩) (Fr.refl (fun j => j = g) w2) (.inl rfl) _
  have hW0 : W = w2.setCell ⟨g, k * 2, none⟩ (.int .i64 x) := hW
  have KEP : Hid (W.cell? ⟨rb, 0, none⟩ = some (.slice (some ⟨g, 0, none⟩) (A.la 0) cp) ∧ W.cell? ⟨rb, 1, none⟩ = some (.slice (some ⟨gv, 0, none⟩) (A.la 1) cv) ∧ W.cell? ⟨gv, m * 5 + 3, none⟩ = some (.int .i64 x)) := hide2 ⟨h3.cells.1, h3.cells.2.1, (hF3.cell (p := ⟨gv, m * 5 + 3, none⟩) hgvl hgv).trans q2⟩
  have H3 := hide2 h3
  have HF3 := hide2 hF3
  clear h3 hF3 hW
  go_wp2_with fail
  refine wp_region_noPanic ?_
  refine wp_region_held_drew (S := (fun u : World => u.cell? ⟨rb, 0, none⟩ = some (.slice (some ⟨g, 0, none⟩) (A.la 0) cp) ∧ u.cell? ⟨rb, 1, none⟩ = some (.slice (some ⟨gv, 0, none⟩) (A.la 1) cv) ∧ u.cell? ⟨gv, m * 5 + 3, none⟩ = some (.int .i64 (x)))) (by kernel_rfl) (⟨c0, c1, q2⟩) (fun hHeld => ?_)
  refine wpAnyH_take (i := 0) (oi := { dst := some 27, op := _, type := _, pos := _, after := _, guard := _ }) (v := ?_) rfl (by kernel_rfl) (by kernel_rfl) (by kernel_rfl) (fun _ _ _ h => h) (Or.inl ⟨by rfl, ?_⟩) (by assumption) ?_
  rotate_left 1
  · intro u hSw; obtain ⟨s1, s2, s3⟩ := hSw; go_simp; try with_reducible rfl
  try simp only [Act.put, List.setIfInBounds_toArray, List.set_cons_zero, List.set_cons_succ]
  refine wpAnyH_take (i := 1) (oi := { dst := some 28, op := _, type := _, pos := _, after := _, guard := _ }) (v := ?_) rfl (by kernel_rfl) (by kernel_rfl) (by kernel_rfl) (fun _ _ _ h => h) (Or.inl ⟨by rfl, ?_⟩) (by assumption) ?_
  rotate_left 1
  · intro u hSw; obtain ⟨s1, s2, s3⟩ := hSw; go_simp; try with_reducible rfl
  try simp only [Act.put, List.setIfInBounds_toArray, List.set_cons_zero, List.set_cons_succ]
  refine wpAnyH_take (i := 2) (oi := { dst := some 29, op := _, type := _, pos := _, after := _, guard := _ }) (v := ?_) rfl (by kernel_rfl) (by kernel_rfl) (by kernel_rfl) (fun _ _ _ h => h) (Or.inl ⟨by rfl, ?_⟩) (by assumption) ?_
  rotate_left 1
  · intro u hSw; obtain ⟨s1, s2, s3⟩ := hSw; go_simp; try with_reducible rfl
  try simp only [Act.put, List.setIfInBounds_toArray, List.set_cons_zero, List.set_cons_succ]
  refine wpAnyH_take (i := 3) (oi := { dst := some 30, op := _, type := _, pos := _, after := _, guard := _ }) (v := ?_) rfl (by kernel_rfl) (by kernel_rfl) (by kernel_rfl) (fun _ _ _ h => h) (Or.inl ⟨by rfl, ?_⟩) (by assumption) ?_
  rotate_left 1
  · intro u hSw; obtain ⟨s1, s2, s3⟩ := hSw; go_simp; try with_reducible rfl
  try simp only [Act.put, List.setIfInBounds_toArray, List.set_cons_zero, List.set_cons_succ]
  refine wpAnyH_take (i := 4) (oi := { dst := some 31, op := _, type := _, pos := _, after := _, guard := _ }) (v := ?_) rfl (by kernel_rfl) (by kernel_rfl) (by kernel_rfl) (fun _ _ _ h => h) (Or.inl ⟨by rfl, ?_⟩) (by assumption) ?_
  rotate_left 1
  · intro u hSw; obtain ⟨s1, s2, s3⟩ := hSw; go_simp; try with_reducible rfl
  try simp only [Act.put, List.setIfInBounds_toArray, List.set_cons_zero, List.set_cons_succ]
  refine wpAnyH_take (i := 5) (oi := { dst := some 32, op := _, type := _, pos := _, after := _, guard := _ }) (v := ?_) rfl (by kernel_rfl) (by kernel_rfl) (by kernel_rfl) (fun _ _ _ h => h) (Or.inl ⟨by rfl, ?_⟩) (by assumption) ?_
  rotate_left 1
  · intro u hSw; obtain ⟨s1, s2, s3⟩ := hSw; go_simp; try with_reducible rfl
  try simp only [Act.put, List.setIfInBounds_toArray, List.set_cons_zero, List.set_cons_succ]
  refine wpAnyH_take (i := 6) (oi := { dst := some 33, op := _, type := _, pos := _, after := _, guard := _ }) (v := ?_) rfl (by kernel_rfl) (by kernel_rfl) (by kernel_rfl) (fun _ _ _ h => h) (Or.inl ⟨by rfl, ?_⟩) (by assumption) ?_
  rotate_left 1
  · intro u hSw; obtain ⟨s1, s2, s3⟩ := hSw; go_simp; try with_reducible rfl
  try simp only [Act.put, List.setIfInBounds_toArray, List.set_cons_zero, List.set_cons_succ]
  refine wpAnyH_take (i := 7) (oi := { dst := some 34, op := _, type := _, pos := _, after := _, guard := _ }) (v := ?_) rfl (by kernel_rfl) (by kernel_rfl) (by kernel_rfl) (fun _ _ _ h => h) (Or.inl ⟨by rfl, ?_⟩) (by assumption) ?_
  rotate_left 1
  · intro u hSw; obtain ⟨s1, s2, s3⟩ := hSw; go_simp; try with_reducible rfl
  try simp only [Act.put, List.setIfInBounds_toArray, List.set_cons_zero, List.set_cons_succ]
  refine wpAnyH_take (i := 8) (oi := { dst := some 35, op := _, type := _, pos := _, after := _, guard := _ }) (v := ?_) rfl (by kernel_rfl) (by kernel_rfl) (by kernel_rfl) (fun _ _ _ h => h) (Or.inl ⟨by rfl, ?_⟩) (by assumption) ?_
  rotate_left 1
  · intro u hSw; obtain ⟨s1, s2, s3⟩ := hSw; go_simp; try with_reducible rfl
  try simp only [Act.put, List.setIfInBounds_toArray, List.set_cons_zero, List.set_cons_succ]
  refine wpAnyH_take (i := 9) (oi := { dst := some 36, op := _, type := _, pos := _, after := _, guard := _ }) (v := ?_) rfl (by kernel_rfl) (by kernel_rfl) (by kernel_rfl) (fun _ _ _ h => h) (Or.inl ⟨by rfl, ?_⟩) (by assumption) ?_
  rotate_left 1
  · intro u hSw; obtain ⟨s1, s2, s3⟩ := hSw; go_simp; try with_reducible rfl
  try simp only [Act.put, List.setIfInBounds_toArray, List.set_cons_zero, List.set_cons_succ]
  refine wpAnyH_take (i := 10) (oi := { dst := some 37, op := _, type := _, pos := _, after := _, guard := _ }) (v := ?_) rfl (by kernel_rfl) (by kernel_rfl) (by kernel_rfl) (fun _ _ _ h => h) (Or.inl ⟨by rfl, ?_⟩) (by assumption) ?_
  rotate_left 1
  · intro u hSw; obtain ⟨s1, s2, s3⟩ := hSw; go_simp; try with_reducible rfl
  try simp only [Act.put, List.setIfInBounds_toArray, List.set_cons_zero, List.set_cons_succ]
  refine wpAnyH_take (i := 11) (oi := { dst := some 38, op := _, type := _, pos := _, after := _, guard := _ }) (v := ?_) rfl (by kernel_rfl) (by kernel_rfl) (by kernel_rfl) (fun _ _ _ h => h) (Or.inl ⟨by rfl, ?_⟩) (by assumption) ?_
  rotate_left 1
  · intro u hSw; obtain ⟨s1, s2, s3⟩ := hSw; go_simp; try with_reducible rfl
  try simp only [Act.put, List.setIfInBounds_toArray, List.set_cons_zero, List.set_cons_succ]
  refine wpAnyH_take (i := 12) (oi := { dst := some 39, op := _, type := _, pos := _, after := _, guard := _ }) (v := ?_) rfl (by kernel_rfl) (by kernel_rfl) (by kernel_rfl) (fun _ _ _ h => h) (Or.inl ⟨by rfl, ?_⟩) (by assumption) ?_
  rotate_left 1
  · intro u hSw; obtain ⟨s1, s2, s3⟩ := hSw; go_simp; try with_reducible rfl
  try simp only [Act.put, List.setIfInBounds_toArray, List.set_cons_zero, List.set_cons_succ]
  refine wpAnyH_take (i := 13) (oi := { dst := some 40, op := _, type := _, pos := _, after := _, guard := _ }) (v := ?_) rfl (by kernel_rfl) (by kernel_rfl) (by kernel_rfl) (fun _ _ _ h => h) (Or.inl ⟨by rfl, ?_⟩) (by assumption) ?_
  rotate_left 1
  · intro u hSw; obtain ⟨s1, s2, s3⟩ := hSw; go_simp; try with_reducible rfl
  try simp only [Act.put, List.setIfInBounds_toArray, List.set_cons_zero, List.set_cons_succ]
  refine wpAnyH_take (i := 14) (oi := { dst := some 41, op := _, type := _, pos := _, after := _, guard := _ }) (v := ?_) rfl (by kernel_rfl) (by kernel_rfl) (by kernel_rfl) (fun _ _ _ h => h) (Or.inl ⟨by rfl, ?_⟩) (by assumption) ?_
  rotate_left 1
  · intro u hSw; obtain ⟨s1, s2, s3⟩ := hSw; go_simp; try with_reducible rfl
  try simp only [Act.put, List.setIfInBounds_toArray, List.set_cons_zero, List.set_cons_succ]
  refine wpAnyH_take (i := 15) (oi := { dst := some 42, op := _, type := _, pos := _, after := _, guard := _ }) (v := ?_) rfl (by kernel_rfl) (by kernel_rfl) (by kernel_rfl) (fun _ _ _ h => h) (Or.inl ⟨by rfl, ?_⟩) (by assumption) ?_
  rotate_left 1
  · intro u hSw; obtain ⟨s1, s2, s3⟩ := hSw; go_simp; try with_reducible rfl
  try simp only [Act.put, List.setIfInBounds_toArray, List.set_cons_zero, List.set_cons_succ]
  refine wpAnyH_take (i := 16) (oi := { dst := some 43, op := _, type := _, pos := _, after := _, guard := _ }) (v := ?_) rfl (by kernel_rfl) (by kernel_rfl) (by kernel_rfl) (fun _ _ _ h => h) (Or.inl ⟨by rfl, ?_⟩) (by assumption) ?_
  rotate_left 1
  · intro u hSw; obtain ⟨s1, s2, s3⟩ := hSw; go_simp; try with_reducible rfl
  try simp only [Act.put, List.setIfInBounds_toArray, List.set_cons_zero, List.set_cons_succ]
  refine wpAnyH_ready (rs := [17]) (by kernel_rfl) (by simp) ?_
  refine AllReadyH.cons (o := { dst := none, op := _, type := _, pos := _, after := _, guard := _ }) rfl (fun Kq hK => ?_) AllReadyH.nil
  obtain ⟨s1, s2, s3⟩ := hHeld
  go_simp
  go_wp2_with fail
  refine hK.out _ _ ((by rw [← hW0]; exact KEP.out)) (fun hHeld => ?_)
  clear hK Kq
  try simp only [Act.put, List.setIfInBounds_toArray, List.set_cons_zero, List.set_cons_succ]
  refine wpAnyH_done (by kernel_rfl) ?_ _
  refine NoPanic.normal ?_
  try rw [← hW0]
  have haw := raway_in (w := W.drew) (J := J) (rb := rb) (A := A.put 0 (k + 1) x) (fr := fr) (st := st) ⟨_, _, _, H3.out.keep ((Fr.refl (fun _ => False) W).drew) (fun _ _ e => e)⟩ (k := m) (show m < A.la 1 by omega) hfr
  have HAW := hide2 haw
  clear haw hW0 c0 c1 c2 c3 c4 q1 q2 fz KEP
  go_wp2_with fail
  refine HAW.out.mono ?_
  rintro e w5 ⟨rfl, hR⟩
  have HR := hide2 hR
  clear HAW hR
  go_wp2
  go_ret
  have hFJ : Fr J w2 W.drew := (HF3.out.mono (G := J) (fun j _ e => by rw [e]; exact H.out.jj g (by simp [Value.ownBlock]))).drew
  rw [← HX.out]
  exact ⟨rfl, Raf.trans (fun _ _ => Iff.rfl) hFJ HR.out⟩
set_option maxRecDepth 100000 in
set_option maxHeartbeats 4000000 in
theorem DropR_out (h : Rf w J rb A fr st) {n : Int} (hl : lvI A 0 n = false) :
    Calls Tryd.prog 45 #[.pointer (some ⟨rb, 0, none⟩), .int .i64 n] w fun e w' => e = .returned (.int .i64 110) ∧ w' = w := by
  obtain ⟨vn, vv, vt, h⟩ := h
  have hsm := rnode_any h n
  rw [hl] at hsm
  have HSM := hide2 hsm
  clear h hsm hl
  go_enter Tryd.func45, Tryd.ntmps45
  go_wp2_with fail
  refine HSM.out.mono ?_
  rintro e w1 ⟨rfl, q⟩
  subst q
  clear HSM
  go_wp2
  go_ret
  exact ⟨rfl, rfl⟩
set_option maxRecDepth 100000 in
set_option maxHeartbeats 4000000 in
theorem DropR_none (h : Rf w J rb A fr st) {k : Nat} (hl : A.lv 0 (k + 1) = true) (hh : lvI A 1 (A.va 0 (k + 1)) = false) :
    Calls Tryd.prog 45 #[.pointer (some ⟨rb, 0, none⟩), .int .i64 ((k : Int) + 1)] w fun e w' => e = .returned (.int .i64 110) ∧ w' = w := by
  obtain ⟨vn, vv, vt, h⟩ := h
  have hnb := h.ok.n1 0 (k + 1) hl
  have hla := h.la 0
  have hsm := rnode_any h ((k : Int) + 1)
  rw [lvI_at, hl] at hsm
  have HSM := hide2 hsm
  have hsv := rversion_any h (A.va 0 (k + 1))
  rw [hh] at hsv
  have HSV := hide2 hsv
  obtain ⟨g, cp, ev, hcell, hfz⟩ := h.rn.at (i := k) (by omega)
  subst ev
  have q1 : w.cell? ⟨g, k * 2, none⟩ = some (.int .i64 (A.va 0 (k + 1))) := hcell 0 (by omega)
  obtain ⟨c0, c1, c2, c3, c4⟩ := h.cells
  have d3 : (k : Int) < (A.la 0 : Int) := by omega
  have d4 : ¬ ((k : Int) < 0) := by omega
  clear h hsm hsv hcell hfz hl hh
  go_enter Tryd.func45, Tryd.ntmps45
  go_wp2_with fail
  refine HSM.out.mono ?_
  rintro e w1 ⟨rfl, q⟩
  subst q
  clear HSM
  go_wp2_with fail
  refine HSV.out.mono ?_
  rintro e w2 ⟨rfl, q⟩
  subst q
  clear HSV
  go_wp2
  go_ret
  exact ⟨rfl, rfl⟩
end
end

section
open Go.RowKit Go.Maps

section
variable {w w1 w2 w' : World} {K K1 : Nat → Prop} {sb d z M M' u u' : Nat} {A A' : Stt}
set_option maxRecDepth 100000 in
set_option maxHeartbeats 8000000 in
theorem drop_none (h : Rp w K sb d z M A u) {n : Nat} (hn : A.lv 0 n = true) (hno : A.va 0 n < 0 ∨ A.lv 1 (A.va 0 n).toNat = false) (hM : M < 3800000000000000000) :
    Calls Tryd.prog 92 #[.pointer (some ⟨sb, 0, none⟩), .int .i64 (n : Int)] w fun e w' => e = .returned (.int .i64 110) ∧ Aft w w' K sb d z (M + 1) A u := by
  obtain ⟨g, m0, m1, m2, T, N, m, F, own, pl, k1, h, r1, r2, r3, r4, r5⟩ := h
  have hbd := h.ok.bd 0 n (by decide) hn
  have hhd := h.ok.hd n hn
  have hl1 := r5 1
  have hcv : IntKind.i64.wrap (A.va 0 n) = A.va 0 n := by rw [IntKind.wrap_i64]; omega
  have HNO := hide2 hno
  have hnb := h.ok.n1 0 n hn
  have hnl := r5 0
  have HFD := hide2 (nodeOf_in h hn (by omega))
  have H := hide2 h
  have HR5 := hide2 r5
  have hlv : lvk A 0 n = true := lvk_of (by decide) hn
  have hct := h.pc.tak hlv
  have hvl := h.pc.vl 0 n hlv
  have HLV := hide2 hlv
  clear h r5 hlv
  go_enter Tryd.func92, Tryd.ntmps92
  go_wp2_with fail
  refine HFD.out.mono ?_
  rintro e w1 ⟨rfl, hb1⟩
  have h1 := H.out.below hb1
  obtain ⟨W2, hW2⟩ : ∃ x, x = w1.alloc (.cells #[.int .i64 (pl 0 n : Int), .int .i64 (pl 1 n : Int)] 91) := ⟨_, rfl⟩
  have hb2 : Below w1.heap.size w1 W2 := by rw [hW2]; exact (Below.refl _ _).alloc (Nat.le_refl _) _
  have h2 := h1.below hb2
  have nb : W2.heap[w1.heap.size]? = some (.cells #[.int .i64 (pl 0 n : Int), .int .i64 (pl 1 n : Int)] 91 (0, 0)) := by rw [hW2]; exact heap_alloc_new w1 _
  have s1 := h2.st.cells.1
  have s2 : W2.cell? ⟨w1.heap.size, 0, none⟩ = some (.int .i64 (pl 0 n : Int)) := by rw [Go.Joins.cell_of_block nb]; rfl
  have hkl := H.out.kl
  have hkk := H.out.kk
  have hs1 := hb1.size
  have hs2 : W2.heap.size = w1.heap.size + 1 := by rw [hW2]; simp
  have hdl := hkl d (hkk d (by simp))
  have hgl := hkl g (hkk g (by simp))
  have hsbl := hkl sb (hkk sb (by simp))
  have HST := hide2 (sLoad_any (w := W2.drew) (h2.aw.same rfl rfl) (pl 0 n) hct (by omega))
  rw [hvl] at HST
  have hnd := h2.nsd
  have hng := h2.nsg
  have FRC : Hid (∀ (wq : World) w5, wq.heap.size = W2.heap.size → wq.cell? ⟨sb, 0, none⟩ = some (.pointer (some ⟨d, 0, none⟩)) → wq.cell? ⟨w1.heap.size, 0, none⟩ = some (.int .i64 (pl 0 n : Int)) → Fr (fun j => j = d ∨ j = g) wq w5 → w5.cell? ⟨sb, 0, none⟩ = some (.pointer (some ⟨d, 0, none⟩)) ∧ w5.cell? ⟨w1.heap.size, 0, none⟩ = some (.int .i64 (pl 0 n : Int))) := hide2 (fun wq w5 hq c1 c2 h5 => ⟨(h5.cell (p := ⟨sb, 0, none⟩) (show sb < wq.heap.size by omega) (show ¬ (sb = d ∨ sb = g) by omega)).trans c1, (h5.cell (p := ⟨w1.heap.size, 0, none⟩) (show w1.heap.size < wq.heap.size by omega) (show ¬ (w1.heap.size = d ∨ w1.heap.size = g) by omega)).trans c2⟩)
  have H2 := hide2 h2
  have HB : Hid (Below w.heap.size w W2) := hide2 (hb1.trans ⟨hb2.os, hb2.tape, hb2.output, hb2.size, fun j hj => hb2.block j (by omega)⟩)
  have NB := hide2 nb
  have S1 := hide2 s1
  have S2 := hide2 s2
  clear HFD h1 hb1 hb2 h2 nb hkl hkk hvl hn hno
  go_wp2_with fail
  rw [← hW2]
  clear hW2
  refine wp_region_noPanic ?_
  refine wp_region_held_drew (S := (fun u : World => u.cell? ⟨sb, 0, none⟩ = some (.pointer (some ⟨d, 0, none⟩)) ∧ u.cell? ⟨w1.heap.size, 0, none⟩ = some (.int .i64 (pl 0 n : Int)))) (by kernel_rfl) (⟨s1, s2⟩) (fun hHeld => ?_)
  refine wpAnyH_take (i := 0) (oi := { dst := some 20, op := _, type := _, pos := _, after := _, guard := _ }) (v := ?_) rfl (by kernel_rfl) (by kernel_rfl) (by kernel_rfl) (fun _ _ _ h => h) (Or.inl ⟨by rfl, ?_⟩) (by assumption) ?_
  rotate_left 1
  · intro u hSw; obtain ⟨s1, s2⟩ := hSw; go_simp; try with_reducible rfl
  try simp only [Act.put, List.setIfInBounds_toArray, List.set_cons_zero, List.set_cons_succ]
  refine wpAnyH_take (i := 1) (oi := { dst := some 21, op := _, type := _, pos := _, after := _, guard := _ }) (v := ?_) rfl (by kernel_rfl) (by kernel_rfl) (by kernel_rfl) (fun _ _ _ h => h) (Or.inl ⟨by rfl, ?_⟩) (by assumption) ?_
  rotate_left 1
  · intro u hSw; obtain ⟨s1, s2⟩ := hSw; go_simp; try with_reducible rfl
  try simp only [Act.put, List.setIfInBounds_toArray, List.set_cons_zero, List.set_cons_succ]
  refine wpAnyH_take (i := 2) (oi := { dst := some 22, op := _, type := _, pos := _, after := _, guard := _ }) (v := ?_) rfl (by kernel_rfl) (by kernel_rfl) (by kernel_rfl) (fun _ _ _ h => h) (Or.inl ⟨by rfl, ?_⟩) (by assumption) ?_
  rotate_left 1
  · intro u hSw; obtain ⟨s1, s2⟩ := hSw; go_simp; try with_reducible rfl
  try simp only [Act.put, List.setIfInBounds_toArray, List.set_cons_zero, List.set_cons_succ]
  refine wpAnyH_take (i := 3) (oi := { dst := some 23, op := _, type := _, pos := _, after := _, guard := _ }) (v := ?_) rfl (by kernel_rfl) (by kernel_rfl) (by kernel_rfl) (fun _ _ _ h => h) (Or.inl ⟨by rfl, ?_⟩) (by assumption) ?_
  rotate_left 1
  · intro u hSw; obtain ⟨s1, s2⟩ := hSw; go_simp; try with_reducible rfl
  try simp only [Act.put, List.setIfInBounds_toArray, List.set_cons_zero, List.set_cons_succ]
  refine wpAnyH_take (i := 4) (oi := { dst := some 24, op := _, type := _, pos := _, after := _, guard := _ }) (v := ?_) rfl (by kernel_rfl) (by kernel_rfl) (by kernel_rfl) (fun _ _ _ h => h) (Or.inl ⟨by rfl, ?_⟩) (by assumption) ?_
  rotate_left 1
  · intro u hSw; obtain ⟨s1, s2⟩ := hSw; go_simp; try with_reducible rfl
  try simp only [Act.put, List.setIfInBounds_toArray, List.set_cons_zero, List.set_cons_succ]
  refine wpAnyH_take (i := 5) (oi := { dst := some 25, op := _, type := _, pos := _, after := _, guard := _ }) (v := ?_) rfl (by kernel_rfl) (by kernel_rfl) (by kernel_rfl) (fun _ _ _ h => h) (Or.inl ⟨by rfl, ?_⟩) (by assumption) ?_
  rotate_left 1
  · intro u hSw; obtain ⟨s1, s2⟩ := hSw; go_simp; try with_reducible rfl
  try simp only [Act.put, List.setIfInBounds_toArray, List.set_cons_zero, List.set_cons_succ]
  refine wpAnyH_ready (rs := [6]) (by kernel_rfl) (by simp) ?_
  refine AllReadyH.cons (o := { dst := some 26, op := _, type := _, pos := _, after := _, guard := _ }) rfl (fun Kq hK => ?_) AllReadyH.nil
  obtain ⟨s1, s2⟩ := hHeld
  go_simp
  refine HST.out.mono ?_
  rintro e w5 ⟨rfl, hA5, hF5⟩
  go_wp2_with fail
  refine hK.out _ _ (FRC.out W2.drew w5 rfl S1.out S2.out hF5) (fun hHeld => ?_)
  clear hK Kq
  try simp only [Act.put, List.setIfInBounds_toArray, List.set_cons_zero, List.set_cons_succ]
  refine wpAnyH_take (i := 7) (oi := { dst := some 19, op := _, type := _, pos := _, after := _, guard := _ }) (v := ?_) rfl (by kernel_rfl) (by kernel_rfl) (by kernel_rfl) (fun _ _ _ h => h) (Or.inl ⟨by rfl, ?_⟩) (by assumption) ?_
  rotate_left 1
  · intro u hSw; obtain ⟨s1, s2⟩ := hSw; go_simp; try with_reducible rfl
  try simp only [Act.put, List.setIfInBounds_toArray, List.set_cons_zero, List.set_cons_succ]
  refine wpAnyH_take (i := 8) (oi := { dst := some 27, op := _, type := _, pos := _, after := _, guard := _ }) (v := ?_) rfl (by kernel_rfl) (by kernel_rfl) (by kernel_rfl) (fun _ _ _ h => h) (Or.inl ⟨by rfl, ?_⟩) (by assumption) ?_
  rotate_left 1
  · intro u hSw; obtain ⟨s1, s2⟩ := hSw; go_simp; try with_reducible rfl
  try simp only [Act.put, List.setIfInBounds_toArray, List.set_cons_zero, List.set_cons_succ]
  refine wpAnyH_take (i := 9) (oi := { dst := some 28, op := _, type := _, pos := _, after := _, guard := _ }) (v := ?_) rfl (by kernel_rfl) (by kernel_rfl) (by kernel_rfl) (fun _ _ _ h => h) (Or.inl ⟨by rfl, ?_⟩) (by assumption) ?_
  rotate_left 1
  · intro u hSw; obtain ⟨s1, s2⟩ := hSw; go_simp; try with_reducible rfl
  try simp only [Act.put, List.setIfInBounds_toArray, List.set_cons_zero, List.set_cons_succ]
  refine wpAnyH_take (i := 10) (oi := { dst := some 7, op := _, type := _, pos := _, after := _, guard := _ }) (v := ?_) rfl (by kernel_rfl) (by kernel_rfl) (by kernel_rfl) (fun _ _ _ h => h) (Or.inl ⟨by rfl, ?_⟩) (by assumption) ?_
  rotate_left 1
  · intro u hSw; obtain ⟨s1, s2⟩ := hSw; go_simp; try with_reducible rfl
  try simp only [Act.put, List.setIfInBounds_toArray, List.set_cons_zero, List.set_cons_succ]
  refine wpAnyH_take (i := 11) (oi := { dst := some 8, op := _, type := _, pos := _, after := _, guard := _ }) (v := ?_) rfl (by kernel_rfl) (by kernel_rfl) (by kernel_rfl) (fun _ _ _ h => h) (Or.inl ⟨by rfl, ?_⟩) (by assumption) ?_
  rotate_left 1
  · intro u hSw; obtain ⟨s1, s2⟩ := hSw; go_simp; try with_reducible rfl
  try simp only [Act.put, List.setIfInBounds_toArray, List.set_cons_zero, List.set_cons_succ]
  refine wpAnyH_done (by kernel_rfl) ?_ _
  refine NoPanic.normal ?_
  have hF0 : Fr (fun j => j = d ∨ j = g) W2 w5 := (Fr.refl (fun j => j = d ∨ j = g) W2).drew.trans hF5 (fun j e => .inl e)
  have h5 := H2.out.arena hF0 hA5 H2.out.ok H2.out.pc rfl rfl rfl
  have hP5 : Rp w5 K sb d z (M + 1) A u := ⟨g, m0, m1, m2, T, N, m + 1, F, own, pl, k1, h5, r1, r2, by omega, by omega, HR5.out⟩
  have HTA := hide2 (takeAway_out hP5 (n := A.va 0 n) (by omega) (by omega) HNO.out)
  have HP5 := hide2 hP5
  have HF0 := hide2 hF0
  clear HST FRC S1 S2 hA5 hF5 hF0 h5 hP5 hct
  go_wp2_with fail
  refine HTA.out.mono ?_
  rintro e w6 ⟨rfl, hb6⟩
  have HB6 := hide2 hb6
  clear HTA hb6
  go_wp2
  go_ret
  have hFw : Fr K w w6 := ((Fr.below (F := K) HB.out).trans HF0.out (fun j e => .inl (H.out.kk j (by rcases e with e | e <;> simp [e])))).trans (G := fun _ => False) (Fr.below HB6.out) (fun j e => e.elim)
  exact ⟨rfl, K, HP5.out.below HB6.out, fun _ _ => Iff.rfl, hFw⟩
end
end

section
open Go.RowKit Go.Maps

/-- The program's store and the document's have the same; their blocks are apart; i calls were made. -/
structure Bo (w : World) (K J : Nat → Prop) (sb d z rb : Nat) (A : Stt) (u : Nat) (m st : Int) (i : Nat) : Prop where
  p : Re w K sb d z m A u
  r : Rf w J rb A ((z : Int) - (u : Int)) st
  ap : ∀ j, K j → ¬ J j
  la : ∀ c, A.la c ≤ i
  mi : m ≤ 10 + 10000 * (i : Int)
  si : 0 ≤ st ∧ st ≤ i
  ii : i ≤ 6000
  zz : z ≤ 1000000000
/-- What a call of the program and one of the document's do: the same answer, and the same is left. -/
def Twin (fp fq : FuncId) (args : Value → Array Value) (tch : Prop) (w : World) (K J : Nat → Prop) (sb d z rb : Nat) (A : Stt) (u : Nat) (m st : Int) (v : Value) : Prop :=
  ∃ (A' : Stt) (fr' st' : Int), (∀ c, A'.la c ≤ A.la c + 1) ∧ st ≤ st' ∧ st' ≤ st + 1 ∧
    (Calls Tryd.prog fp (args (.pointer (some ⟨sb, 0, none⟩))) w fun e w' => e = .returned v ∧ ∃ (m' : Int) (u' : Nat), m' ≤ m + 10000 ∧ (tch → m' - m = st' - st) ∧ (z : Int) - (u' : Int) = fr' ∧ Afe w w' K sb d z m' A' u') ∧
    ∀ w1, Rf w1 J rb A ((z : Int) - (u : Int)) st → Calls Tryd.prog fq (args (.pointer (some ⟨rb, 0, none⟩))) w1 fun e w' => e = .returned v ∧ Raf w1 w' J rb A' fr' st'
section
variable {w w' w1 w2 : World} {K J K1 : Nat → Prop} {sb d z rb u u' : Nat} {A A' : Stt} {m m' st st' fr' : Int} {i : Nat}
theorem Re.keep {G : Nat → Prop} (h : Re w K sb d z m A u) (hF : Fr G w w') (hG : ∀ j, K j → ¬ G j) (h0 : ¬ G 0) : Re w' K sb d z m A u := by
  obtain ⟨g, m0, m1, m2, T, N, F, own, pl, k1, h, r⟩ := h
  exact ⟨g, m0, m1, m2, T, N, F, own, pl, k1, h.keep hF hG h0, r⟩
theorem Re.kl (h : Re w K sb d z m A u) : ∀ j, K j → j < w.heap.size := by
  obtain ⟨g, m0, m1, m2, T, N, F, own, pl, k1, h, r⟩ := h
  exact h.kl
theorem Re.ul (h : Re w K sb d z m A u) : u ≤ z := by
  obtain ⟨g, m0, m1, m2, T, N, F, own, pl, k1, h, r1, r2, r3, r5⟩ := h
  have hl := h.aw.len
  have hc := List.count_le_length (a := true) (l := T)
  omega
theorem Bo.ul (h : Bo w K J sb d z rb A u m st i) : u ≤ z := h.p.ul
theorem Rf.jl (h : Rf w J rb A fr' st) : ∀ j, J j → j < w.heap.size := by
  obtain ⟨_, _, _, h⟩ := h
  exact h.jl
theorem Rf.j0 (h : Rf w J rb A fr' st) : ¬ J 0 := by
  obtain ⟨_, _, _, h⟩ := h
  exact h.j0
/-- The document's store after a call of the program's. -/
theorem Bo.mid (h : Bo w K J sb d z rb A u m st i) (h1 : Afe w w1 K sb d z m' A' u') : Rf w1 J rb A ((z : Int) - (u : Int)) st := by
  obtain ⟨K1, hr, hk, hF⟩ := h1
  exact h.r.keep hF (fun j hj hk => h.ap j hk hj)
/-- Both after both. -/
theorem Bo.fin (h : Bo w K J sb d z rb A u m st i) (h1 : Afe w w1 K sb d z m' A' u') (h2 : Raf w1 w2 J rb A' fr' st') (hfr : (z : Int) - (u' : Int) = fr') (hla : ∀ c, A'.la c ≤ A.la c + 1) (hm : m' ≤ m + 10000) (hs : st ≤ st' ∧ st' ≤ st + 1) (hi : i < 6000) :
    ∃ K' J', Bo w2 K' J' sb d z rb A' u' m' st' (i + 1) ∧ (∀ j, j < w.heap.size → ((K' j ∨ J' j) ↔ (K j ∨ J j))) ∧ Fr (fun j => K j ∨ J j) w w2 := by
  obtain ⟨K1, hr, hk, hF⟩ := h1
  obtain ⟨J1, hr2, hk2, hF2⟩ := h2
  have hs1 := hF.size
  have hjl := h.r.jl
  have hkl := hr.kl
  have a1 : ∀ j, K1 j → ¬ J j := fun j q q2 => h.ap j ((hk j (hjl j q2)).1 q) q2
  have a2 : ∀ j, K1 j → ¬ J1 j := fun j q q2 => a1 j q ((hk2 j (hkl j q)).1 q2)
  refine ⟨K1, J1, ⟨hr.keep hF2 a1 h.r.j0, by rw [hfr]; exact hr2, a2, fun c => ?_, ?_, ?_, by omega, h.zz⟩, fun j hj => ?_, ?_⟩
  · have := hla c
    have := h.la c
    omega
  · have := h.mi
    omega
  · have := h.si
    omega
  · rw [hk j hj, hk2 j (by omega)]
  · exact (hF.mono (G := fun j => K j ∨ J j) (fun j _ e => .inl e)).trans (hF2.mono (G := fun j => K j ∨ J j) (fun j _ e => .inr e)) (fun j e => .inl e)
/-- Nothing changes. -/
theorem Twin.same {fp fq : FuncId} {args : Value → Array Value} {tch : Prop} {v : Value} (h : Re w K sb d z m A u) (h1 : Calls Tryd.prog fp (args (.pointer (some ⟨sb, 0, none⟩))) w fun e w' => e = .returned v ∧ Below w.heap.size w w')
    (h2 : ∀ w1, Rf w1 J rb A ((z : Int) - (u : Int)) st → Calls Tryd.prog fq (args (.pointer (some ⟨rb, 0, none⟩))) w1 fun e w' => e = .returned v ∧ w' = w1) : Twin fp fq args tch w K J sb d z rb A u m st v :=
  ⟨A, _, st, fun c => by omega, by omega, by omega, h1.mono fun e w' q => ⟨q.1, m, u, by omega, fun _ => by omega, rfl, Afe.refl h q.2⟩, fun w1 hr => (h2 w1 hr).mono fun e w' q => ⟨q.1, by rw [q.2]; exact Raf.same hr⟩⟩
/-- One touch. -/
theorem Twin.touch {fp fq : FuncId} {args : Value → Array Value} {tch : Prop} {v : Value} (hla : ∀ c, A'.la c = A.la c) (h1 : Calls Tryd.prog fp (args (.pointer (some ⟨sb, 0, none⟩))) w fun e w' => e = .returned v ∧ Afe w w' K sb d z (m + 1) A' u)
    (h2 : ∀ w1, Rf w1 J rb A ((z : Int) - (u : Int)) st → Calls Tryd.prog fq (args (.pointer (some ⟨rb, 0, none⟩))) w1 fun e w' => e = .returned v ∧ Raf w1 w' J rb A' ((z : Int) - (u : Int)) (st + 1)) : Twin fp fq args tch w K J sb d z rb A u m st v :=
  ⟨A', _, st + 1, fun c => by rw [hla c]; omega, by omega, by omega, h1.mono fun e w' q => ⟨q.1, m + 1, u, by omega, fun _ => by omega, rfl, q.2⟩, h2⟩
theorem lvI_cases (c : Nat) (n : Int) : (∃ k : Nat, n = (k : Int) ∧ A.lv c k = true) ∨ (lvI A c n = false ∧ (n < 0 ∨ A.lv c n.toNat = false)) := by
  by_cases q : 0 ≤ n
  · obtain ⟨k, rfl⟩ : ∃ k : Nat, n = k := ⟨n.toNat, by omega⟩
    cases e : A.lv c k with
    | true => exact .inl ⟨k, rfl, e⟩
    | false => exact .inr ⟨by unfold lvI; simp [e], .inr (by simpa using e)⟩
  · exact .inr ⟨by unfold lvI; simp [q], .inl (by omega)⟩
theorem lvI_in {c k : Nat} (h : A.lv c k = true) : lvI A c (k : Int) = true := by unfold lvI; simp [h]
def i64ok (n : Int) : Prop := -9223372036854775808 ≤ n ∧ n ≤ 9223372036854775807
def u64ok (n : Int) : Prop := 0 ≤ n ∧ n ≤ 18446744073709551615
theorem tw_SetEnd (h : Bo w K J sb d z rb A u m st i) {n x : Int} (hn : i64ok n) (hx : u64ok x) (tch : Prop) : ∃ e : Int, Twin 37 38 (fun p => #[p, .int .i64 n, .int .u64 x]) tch w K J sb d z rb A u m st (.int .i64 e) := by
  have hp := h.p.rp (M := 100000000) (by have := h.mi; have := h.ii; omega)
  have hm : m < 4000000000000000000 := by have := h.mi; have := h.ii; omega
  have hs := h.si
  have hi := h.ii
  rcases lvI_cases (A := A) 1 n with ⟨k, rfl, hk⟩ | ⟨h1, h2⟩
  · have hnb := h.p.ok.n1 1 k hk
    obtain ⟨k, rfl⟩ : ∃ q, k = q + 1 := ⟨k - 1, by omega⟩
    cases ht : ptO x with
    | true => exact ⟨0, Twin.touch (A' := A.put 3 (k + 1) x) (fun _ => rfl) (setEndE h.p hk hx ht hm) (fun w1 hr => rSetEnd_yes hr hk hx ht (by omega))⟩
    | false => exact ⟨50, Twin.same h.p (SetEnd_form hp hk x hx.1 ht) (fun w1 hr => rSetEnd_form hr hx (lvI_in hk) ht)⟩
  · exact ⟨110, Twin.same h.p (SetEnd_out hp hn.1 hn.2 h2 x) (fun w1 hr => rSetEnd_out hr hx h1)⟩
end
end

section
open Go.RowKit Go.Maps

section
variable {w w' w1 w2 : World} {K J K1 : Nat → Prop} {sb d z rb u u' : Nat} {A A' : Stt} {m m' st st' fr' : Int} {i : Nat}
theorem swap_yes {k n : Nat} {a b : Int} (h : A.va k n = a) : A.swap k n a b = A.put k n b := by unfold Stt.swap; rw [if_pos h]
theorem swap_no {k n : Nat} {a b : Int} (h : A.va k n ≠ a) : A.swap k n a b = A := by unfold Stt.swap; rw [if_neg h]
/-- The program's side told by steps at most. -/
theorem Twin.most {fp fq : FuncId} {args : Value → Array Value} {tch : Prop} {v : Value} {M : Nat} (hno : ¬ tch) (hM : (M : Int) ≤ m + 10000) (hla : ∀ c, A'.la c ≤ A.la c + 1) (hu : (z : Int) - (u' : Int) = fr') (h1 : Calls Tryd.prog fp (args (.pointer (some ⟨sb, 0, none⟩))) w fun e w' => e = .returned v ∧ Aft w w' K sb d z M A' u')
    (h2 : ∀ w1, Rf w1 J rb A ((z : Int) - (u : Int)) st → Calls Tryd.prog fq (args (.pointer (some ⟨rb, 0, none⟩))) w1 fun e w' => e = .returned v ∧ Raf w1 w' J rb A' fr' st) : Twin fp fq args tch w K J sb d z rb A u m st v :=
  ⟨A', _, st, hla, by omega, by omega, h1.mono fun e w' q => by
    obtain ⟨m', hm', ha⟩ := q.2.ex
    exact ⟨q.1, m', u', by omega, fun e => absurd e hno, hu, ha⟩, h2⟩
/-- As it was, but for what the program's store is told by. -/
theorem Twin.still {fp fq : FuncId} {args : Value → Array Value} {tch : Prop} {v : Value} (h1 : Calls Tryd.prog fp (args (.pointer (some ⟨sb, 0, none⟩))) w fun e w' => e = .returned v ∧ Afe w w' K sb d z m A u)
    (h2 : ∀ w1, Rf w1 J rb A ((z : Int) - (u : Int)) st → Calls Tryd.prog fq (args (.pointer (some ⟨rb, 0, none⟩))) w1 fun e w' => e = .returned v ∧ w' = w1) : Twin fp fq args tch w K J sb d z rb A u m st v :=
  ⟨A, _, st, fun c => by omega, by omega, by omega, h1.mono fun e w' q => ⟨q.1, m, u, by omega, fun _ => by omega, rfl, q.2⟩, fun w1 hr => (h2 w1 hr).mono fun e w' q => ⟨q.1, by rw [q.2]; exact Raf.same hr⟩⟩
theorem tw_Push (h : Bo w K J sb d z rb A u m st i) {n old now : Int} (hn : i64ok n) (ho : i64ok old) (hw : i64ok now) (tch : Prop) : ∃ (b : Bool) (e : Int), Twin 27 39 (fun p => #[p, .int .i64 n, .int .i64 old, .int .i64 now]) tch w K J sb d z rb A u m st (.tuple #[.bool b, .int .i64 e]) := by
  have hm0 := h.p.m0
  have hp := h.p.rp (M := m.toNat) (by omega)
  have hM : m.toNat < 100000000 := by have := h.mi; have := h.ii; omega
  have hm : m < 4000000000000000000 := by omega
  have hs := h.si
  have hi := h.ii
  have hz := h.zz
  have hok := h.p.ok
  rcases lvI_cases (A := A) 0 n with ⟨k, rfl, hk⟩ | ⟨h1, h2⟩
  · have hnb := hok.n1 0 k hk
    obtain ⟨k, rfl⟩ : ∃ q, k = q + 1 := ⟨k - 1, by omega⟩
    have hk1 := lvI_in hk
    rcases lvI_cases (A := A) 1 now with ⟨y, rfl, hy⟩ | ⟨h1, h2⟩
    · have hy1 := lvI_in hy
      by_cases h0 : old = 0
      · subst h0
        have hP := pushE_zero h.p hk hy hm
        by_cases hv : A.va 0 (k + 1) = 0
        · rw [swap_yes hv, show decide (A.va 0 (k + 1) = 0) = true by simp [hv]] at hP
          exact ⟨true, 0, Twin.touch (A' := A.put 0 (k + 1) (y : Int)) (fun _ => rfl) hP (fun w1 hr => rPush_yes_zero hr hk hy1 hv (by omega))⟩
        · rw [swap_no hv, show decide (A.va 0 (k + 1) = 0) = false by simp [hv]] at hP
          exact ⟨false, 0, Twin.touch (A' := A) (fun _ => rfl) hP (fun w1 hr => rPush_no_zero hr hk hy1 hv (by omega))⟩
      · rcases lvI_cases (A := A) 1 old with ⟨x, rfl, hx⟩ | ⟨h1, h2⟩
        · have hx1 := lvI_in hx
          have hP := pushE_old h.p hk hy hx hm
          by_cases hv : A.va 0 (k + 1) = (x : Int)
          · rw [swap_yes hv, show decide (A.va 0 (k + 1) = (x : Int)) = true by simp [hv]] at hP
            exact ⟨true, 0, Twin.touch (A' := A.put 0 (k + 1) (y : Int)) (fun _ => rfl) hP (fun w1 hr => rPush_yes_old hr hk hx1 hy1 hv (by omega))⟩
          · rw [swap_no hv, show decide (A.va 0 (k + 1) = (x : Int)) = false by simp [hv]] at hP
            exact ⟨false, 0, Twin.touch (A' := A) (fun _ => rfl) hP (fun w1 hr => rPush_no_old hr hk hx1 hy1 hv (by omega))⟩
        · exact ⟨false, 110, Twin.same h.p (Push_old hp hk ho.1 ho.2 h0 h2) (fun w1 hr => PushR_old hr hk1 h0 h1)⟩
    · by_cases h0 : old = 0
      · subst h0
        exact ⟨false, 110, Twin.same h.p (Push_now_zero hp hk hw.1 hw.2 h2) (fun w1 hr => PushR_now_zero hr hk1 h1)⟩
      · rcases lvI_cases (A := A) 1 old with ⟨x, rfl, hx⟩ | ⟨h3, h4⟩
        · exact ⟨false, 110, Twin.same h.p (Push_now_old hp hk hx hw.1 hw.2 h2) (fun w1 hr => PushR_now_old hr hk1 (lvI_in hx) h1)⟩
        · exact ⟨false, 110, Twin.same h.p (Push_old hp hk ho.1 ho.2 h0 h4) (fun w1 hr => PushR_old hr hk1 h0 h3)⟩
  · exact ⟨false, 110, Twin.same h.p (Push_out hp hn.1 hn.2 h2 old now) (fun w1 hr => PushR_out hr h1)⟩
theorem tw_Drop (h : Bo w K J sb d z rb A u m st i) {n : Int} (hn : i64ok n) {tch : Prop} (hno : ¬ tch) : ∃ (e : Int), Twin 92 45 (fun p => #[p, .int .i64 n]) tch w K J sb d z rb A u m st (.int .i64 e) := by
  have hm0 := h.p.m0
  have hp := h.p.rp (M := m.toNat) (by omega)
  have hM : m.toNat < 100000000 := by have := h.mi; have := h.ii; omega
  have hm : m < 4000000000000000000 := by omega
  have hs := h.si
  have hi := h.ii
  have hz := h.zz
  have hok := h.p.ok
  rcases lvI_cases (A := A) 0 n with ⟨k, rfl, hk⟩ | ⟨h1, h2⟩
  · have hnb := hok.n1 0 k hk
    obtain ⟨k, rfl⟩ : ∃ q, k = q + 1 := ⟨k - 1, by omega⟩
    have hu := h.ul
    rcases lvI_cases (A := A) 1 (A.va 0 (k + 1)) with ⟨y, hy0, hy⟩ | ⟨h1, h2⟩
    · have hyb := hok.n1 1 y hy
      obtain ⟨y, rfl⟩ : ∃ q, y = q + 1 := ⟨y - 1, by omega⟩
      refine ⟨0, (A.off 1 (y + 1)).put 0 (k + 1) (A.va 4 (y + 1)), _, st, fun c => by show A.la c ≤ _; omega, by omega, by omega, (drop_in hp hk hy0 hy (by omega)).mono fun e w' q => ?_, fun w1 hr => rDrop_in hr hk hy0 hy (by omega)⟩
      obtain ⟨q1, q2, q3⟩ := q
      obtain ⟨m', hm', ha⟩ := q3.ex
      exact ⟨q1, m', u - 3, by omega, fun e => absurd e hno, by omega, ha⟩
    · refine ⟨110, A, _, st, fun c => by omega, by omega, by omega, (drop_none hp hk h2 (by omega)).mono fun e w' q => ?_, fun w1 hr => (DropR_none hr hk h1).mono fun e w' q => ⟨q.1, by rw [q.2]; exact Raf.same hr⟩⟩
      obtain ⟨m', hm', ha⟩ := q.2.ex
      exact ⟨q.1, m', u, by omega, fun e => absurd e hno, rfl, ha⟩
  · exact ⟨110, Twin.same h.p (Drop_out hp hn.1 hn.2 h2) (fun w1 hr => DropR_out hr h1)⟩
theorem tw_Cut (h : Bo w K J sb d z rb A u m st i) {n : Int} (hn : i64ok n) {tch : Prop} (hno : ¬ tch) : ∃ (a e : Int), Twin 91 44 (fun p => #[p, .int .i64 n]) tch w K J sb d z rb A u m st (.tuple #[.int .i64 a, .int .i64 e]) := by
  have hm0 := h.p.m0
  have hp := h.p.rp (M := m.toNat) (by omega)
  have hM : m.toNat < 100000000 := by have := h.mi; have := h.ii; omega
  have hm : m < 4000000000000000000 := by omega
  have hs := h.si
  have hi := h.ii
  have hz := h.zz
  have hok := h.p.ok
  rcases lvI_cases (A := A) 1 n with ⟨k, rfl, hk⟩ | ⟨h1, h2⟩
  · have hnb := hok.n1 1 k hk
    obtain ⟨k, rfl⟩ : ∃ q, k = q + 1 := ⟨k - 1, by omega⟩
    have hu := h.ul
    have hnx := hok.nx (k + 1) hk
    have hla := h.la 1
    obtain ⟨l, hl, hll⟩ := ch_ex hok (A.la 1) (A.va 4 (k + 1)) (by omega)
    refine ⟨(l.length : Nat), 0, offs (A.put 4 (k + 1) 0) l, _, st, fun c => by rw [offs_la]; show A.la c ≤ _; omega, by omega, by omega, (cut_in hp hk hl (by omega) (by omega)).mono fun e w' q => ?_, fun w1 hr => rCut_in hr hk hl (by omega) (by omega)⟩
    obtain ⟨q1, q2, q3⟩ := q
    obtain ⟨m', hm', ha⟩ := q3.ex
    exact ⟨q1, m', u - 3 * l.length, by omega, fun e => absurd e hno, by omega, ha⟩
  · exact ⟨0, 110, Twin.same h.p (Cut_out hp hn.1 hn.2 h2) (fun w1 hr => CutR_out hr h1)⟩
theorem tw_Node (h : Bo w K J sb d z rb A u m st i) {tch : Prop} (hno : ¬ tch) : ∃ (a e : Int), Twin 30 35 (fun p => #[p]) tch w K J sb d z rb A u m st (.tuple #[.int .i64 a, .int .i64 e]) := by
  have hm0 := h.p.m0
  have hp := h.p.rp (M := m.toNat) (by omega)
  have hM : m.toNat < 100000000 := by have := h.mi; have := h.ii; omega
  have hm : m < 4000000000000000000 := by omega
  have hs := h.si
  have hi := h.ii
  have hz := h.zz
  have hok := h.p.ok
  have hu := h.ul
  have hla := h.la 0
  by_cases hr : u + 2 ≤ z
  · refine ⟨_, 0, Twin.most (u' := u + 2) (fr' := (z : Int) - (u : Int) - 2) hno (by omega) (fun c => ?_) (by omega) (node_any hp (by omega) hr (by omega)) (fun w1 hr => ?_)⟩
    · by_cases q : c = 0 <;> simp [Stt.node, up1, q]
    · exact rNode_any hr (by omega) (by omega)
  · exact ⟨0, 31, Twin.still (node_full h.p (by omega) hm) (fun w1 hr => rNode_full hr (by omega))⟩
theorem tw_Version (h : Bo w K J sb d z rb A u m st i) {t : ByteArray} {b x : Int} (ht9 : t.size ≤ 9223372036854775807) (hb : u64ok b) (hx : i64ok x) {tch : Prop} (hno : ¬ tch) : ∃ (a e : Int), Twin 26 36 (fun p => #[p, .string t, .int .u64 b, .int .i64 x]) tch w K J sb d z rb A u m st (.tuple #[.int .i64 a, .int .i64 e]) := by
  have hm0 := h.p.m0
  have hp := h.p.rp (M := m.toNat) (by omega)
  have hM : m.toNat < 100000000 := by have := h.mi; have := h.ii; omega
  have hm : m < 4000000000000000000 := by omega
  have hs := h.si
  have hi := h.ii
  have hz := h.zz
  have hok := h.p.ok
  have hu := h.ul
  have hla := h.la 1
  have hl2 : ∀ c, (A.ver t b x).la c ≤ A.la c + 1 := fun c => by by_cases q : c = 1 <;> simp [Stt.ver, up1, q]
  by_cases ht : t.size ≤ 64
  · cases hmb : mbg b with
    | false => exact ⟨0, 50, Twin.same h.p ((Version_form hp ht b x hb.1 hmb).mono fun e w' q => ⟨q.1, by rw [q.2]; exact Below.refl _ _⟩) (fun w1 hr => rVersion_form hr hb ht hmb)⟩
    | true =>
      by_cases h0 : x = 0
      · subst h0
        by_cases hr : u + 3 ≤ z
        · exact ⟨_, 0, Twin.most (u' := u + 3) (fr' := (z : Int) - (u : Int) - 3) hno (by omega) hl2 (by omega) (ver_zero hp ht hb hmb (by omega) hr (by omega)) (fun w1 hr => rVersion_zero hr hb ht hmb (by omega) (by omega))⟩
        · exact ⟨0, 31, Twin.still (ver_full_zero h.p ht hb hmb (by omega) hm) (fun w1 hr => rVersion_full_zero hr hb ht hmb (by omega))⟩
      · rcases lvI_cases (A := A) 1 x with ⟨k, rfl, hk⟩ | ⟨h1, h2⟩
        · by_cases hr : u + 3 ≤ z
          · exact ⟨_, 0, Twin.most (u' := u + 3) (fr' := (z : Int) - (u : Int) - 3) hno (by omega) hl2 (by omega) (ver_next hp ht hb hmb hk (by omega) hr (by omega)) (fun w1 hr => rVersion_old hr hb ht hmb (lvI_in hk) (by omega) (by omega))⟩
          · exact ⟨0, 31, Twin.still (ver_full_next h.p ht hb hmb hk (by omega) hm) (fun w1 hr => rVersion_full_old hr hb ht hmb (lvI_in hk) (by omega))⟩
        · exact ⟨0, 110, Twin.same h.p (Version_none hp ht b x hb.1 hmb hx.1 hx.2 h0 h2) (fun w1 hr => rVersion_none hr hb ht hmb h0 h1)⟩
  · exact ⟨0, 111, Twin.same h.p ((ver_long hp (by omega)).mono fun e w' q => ⟨q.1, by rw [q.2]; exact Below.refl _ _⟩) (fun w1 hr => rVersion_long hr hb (by omega) ht9)⟩
end
end
end Go.Proofs.YtfhcphgjaobnoaaDoor
