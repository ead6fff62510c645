/-
  Lf1: A path and one more: slices.Grow, slices.Concat.
-/
import Derived.Test.YtafbchjmjfpilaaDoorLc2
import Derived.Lib.AppendZeros
set_option linter.unusedVariables false
set_option linter.unusedSimpArgs false
namespace Go.Proofs.YtafbchjmjfpilaaDoor
open Go.RowKit

section
set_option maxHeartbeats 4000000
set_option maxRecDepth 100000
theorem grow_any (n : Nat) (h0 : 0 < n) (hn : n ≤ 100) (w : World) :
    Calls Tryd.prog 29 #[.slice none 0 0, .int .i64 (n : Int)] w fun e w' => ∃ g cap, e = .returned (.slice (some ⟨g, 0, none⟩) 0 cap) ∧ Hr w' w.heap.size (.slice (some ⟨g, 0, none⟩) 0 cap) [] ∧ Below w.heap.size w w' := by
  obtain ⟨i0, hi0, z0, z1, z2⟩ := info_parts info3
  have hrun := fun ty => Lib.run_append_nil_zeros (P := Tryd.prog) w 33 3 ty 3 i0 (.int .i64 0) .i64 .i64 Tryd.underlying33 Tryd.underlying3 hi0 z0 n h0 (by rw [z1]; decide) (by omega) (by rw [z2]; omega)
  have hge := grownCap_ge w n 0 3
  have hmx := grownCap_le_maxLen w n 0 3 (by unfold maxLen; omega)
  have hb : (w.drew.alloc (.cells (Builtin.zeroCells (Value.int .i64 0).cells n ++ Builtin.zeroCells (Value.int .i64 0).cells (grownCap w n 0 3 - n)) 3)).heap[w.heap.size]? = some (.cells (Builtin.zeroCells (Value.int .i64 0).cells n ++ Builtin.zeroCells (Value.int .i64 0).cells (grownCap w n 0 3 - n)) 3 (0, 0)) := World.alloc_heap_new w.drew _
  have hsz : (Builtin.zeroCells (Value.int .i64 0).cells n ++ Builtin.zeroCells (Value.int .i64 0).cells (grownCap w n 0 3 - n)).size = grownCap w n 0 3 * 1 := by
    rw [Array.size_append, size_zeroCells, size_zeroCells]
    simp [Value.cells]
    omega
  have hB : Below w.heap.size w (w.drew.alloc (.cells (Builtin.zeroCells (Value.int .i64 0).cells n ++ Builtin.zeroCells (Value.int .i64 0).cells (grownCap w n 0 3 - n)) 3)) := (Below.refl _ w).drew.alloc (Nat.le_refl _) _
  have RET : Hid (Hr (w.drew.alloc (.cells (Builtin.zeroCells (Value.int .i64 0).cells n ++ Builtin.zeroCells (Value.int .i64 0).cells (grownCap w n 0 3 - n)) 3)) w.heap.size (.slice (some ⟨w.heap.size, 0, none⟩) 0 (grownCap w n 0 3)) [] ∧ Below w.heap.size w (w.drew.alloc (.cells (Builtin.zeroCells (Value.int .i64 0).cells n ++ Builtin.zeroCells (Value.int .i64 0).cells (grownCap w n 0 3 - n)) 3))) :=
    hide2 ⟨⟨rfl, .inr ⟨w.heap.size, _, _, rfl, Nat.le_refl _, hb, Nat.zero_le _, hmx, hsz, rfl⟩⟩, hB⟩
  have HRUN := hide2 hrun
  have hn1 : (0 : Int) < (n : Int) := by omega
  have hnneg : ¬ (n : Int) < 0 := by omega
  clear hb hsz hB hrun
  go_enter Tryd.func29, Tryd.ntmps29
  go_wp2_with (at_builtin; refine Hid.out ?_)
  refine hide2 ?_
  refine Lib.wpList_append_run _ rfl _ _ _ _ rfl _ _ rfl rfl _ _ (HRUN.out _) ?_
  generalize w.drew.alloc (.cells (Builtin.zeroCells (Value.int .i64 0).cells n ++ Builtin.zeroCells (Value.int .i64 0).cells (grownCap w n 0 3 - n)) 3) = W at *
  generalize grownCap w n 0 3 = cp at *
  clear HRUN
  go_frame
  go_wp2
  go_ret
  exact ⟨_, _, rfl, RET.out.1, RET.out.2⟩

theorem concat_any {w : World} {ao : Option Addr} {cp b0 q g2 k : Nat} {p : List Nat} (hp : Hr w b0 (.slice ao p.length cp) p) (hq : w.cell? ⟨q, 0, none⟩ = some (.slice ao p.length cp)) (hq1 : w.cell? ⟨q, 1, none⟩ = some (.slice (some ⟨g2, 0, none⟩) 1 1))
    (hx : w.cell? ⟨g2, 0, none⟩ = some (nv k)) (h0 : 0 < p.length) (h16 : p.length ≤ 32) :
    Calls Tryd.prog 24 #[.slice (some ⟨q, 0, none⟩) 2 2] w fun e w' => ∃ v, e = .returned v ∧ Hr w' w.heap.size v (p ++ [k]) ∧ Below w.heap.size w w' := by
  obtain ⟨i0, hi0, z0, z1, z2⟩ := info_parts info3
  have HG := hide2 (grow_any (p.length + 1) (by omega) (by omega) w)
  obtain ⟨g1, rfl, hg1, hg1l, hcells⟩ := hp.cell h0
  have HP : Hid (∀ j u, (p.map nv)[j]? = some u → w.cell? ((⟨g1, 0, none⟩ : Addr).add j) = some u) := hide2 (fun j u hu => by
    rw [addr_plus, Nat.zero_add]
    rw [List.getElem?_map] at hu
    obtain ⟨x, hx1, hx2⟩ := Option.map_eq_some_iff.1 hu
    have hj := (List.getElem?_eq_some_iff.1 hx1).1
    rw [hcells j hj, ← hx2]
    simp [List.getD, hx1])
  have HX : Hid (∀ j u, [nv k][j]? = some u → w.cell? ((⟨g2, 0, none⟩ : Addr).add j) = some u) := hide2 (fun j u hu => by
    rw [addr_plus, Nat.zero_add]
    cases j with
    | zero => simp at hu; subst hu; exact hx
    | succ j => simp at hu)
  have hgl : g1 < w.heap.size := hg1l
  have hg2l : g2 < w.heap.size := World.block_lt_of_cell? w _ hx
  have hql : q < w.heap.size := World.block_lt_of_cell? w _ hq
  clear hp hcells hx
  generalize hm : p.length = m at *
  have HM := hide2 hm
  clear hm
  go_enter Tryd.func24, Tryd.ntmps24
  go_wp2
  go_loopw [3, 11] (fun s i wr => Hid (wr = w) ∧ (i = .int .i64 0 ∧ s = .int .i64 0 ∨ i = .int .i64 1 ∧ s = .int .i64 (m : Int) ∨ i = .int .i64 2 ∧ s = .int .i64 ((m : Int) + 1))) (fun _ i _ => 2 - (intOf i).toNat)
  case atStart => exact ⟨hide2 rfl, .inl ⟨rfl, rfl⟩⟩
  case round =>
    obtain ⟨HWR, hc⟩ := hrel
    have hwr := HWR.out.symm
    subst hwr
    clear HWR
    rcases hc with ⟨rfl, rfl⟩ | ⟨rfl, rfl⟩ | ⟨rfl, rfl⟩
    · go_wp2
      go_roundw
      case rel => exact ⟨hide2 (by first | rfl | trivial), .inr (.inl ⟨rfl, by go_num⟩)⟩
      case measure => simp [intOf]
    · go_wp2
      go_roundw
      case rel => exact ⟨hide2 (by first | rfl | trivial), .inr (.inr ⟨rfl, by go_num⟩)⟩
      case measure => simp [intOf]
    · have e1 : ((m + 1 : Nat) : Int) = (m : Int) + 1 := by omega
      rw [e1] at HG
      go_wp2_with fail
      refine HG.out.mono ?_
      rintro e w1 ⟨g, cap, rfl, hr0, hb1⟩
      have HV0 := hide2 hr0
      have B1 := hide2 hb1
      clear hr0 hb1 HG
      go_wp2
      go_loopw [6, 27] (fun v i wr => Hid (Below w.heap.size w wr) ∧ (i = .int .i64 0 ∧ Hid (Hr wr w.heap.size v []) ∨ i = .int .i64 1 ∧ Hid (Hr wr w.heap.size v p) ∨ i = .int .i64 2 ∧ Hid (Hr wr w.heap.size v (p ++ [k])))) (fun _ i _ => 2 - (intOf i).toNat)
      case atStart => exact ⟨B1, .inl ⟨rfl, HV0⟩⟩
      case round =>
        obtain ⟨BW, hc⟩ := hrel
        have r0 : wr.cell? ⟨q, 0, none⟩ = some (.slice (some ⟨g1, 0, none⟩) m cp) := (BW.out.cell (p := ⟨q, 0, none⟩) hql).trans hq
        have r1 : wr.cell? ⟨q, 1, none⟩ = some (.slice (some ⟨g2, 0, none⟩) 1 1) := (BW.out.cell (p := ⟨q, 1, none⟩) hql).trans hq1
        have hsz := BW.out.size
        have HPN : Hid (∀ j u, (p.map nv)[j]? = some u → wr.cell? ((⟨g1, 0, none⟩ : Addr).add j) = some u) := hide2 (fun j u hu => (BW.out.cell (p := (⟨g1, 0, none⟩ : Addr).add j) (by rw [addr_plus]; exact hgl)).trans (HP.out j u hu))
        have HXN : Hid (∀ j u, [nv k][j]? = some u → wr.cell? ((⟨g2, 0, none⟩ : Addr).add j) = some u) := hide2 (fun j u hu => (BW.out.cell (p := (⟨g2, 0, none⟩ : Addr).add j) (by rw [addr_plus]; exact hg2l)).trans (HX.out j u hu))
        rcases hc with ⟨rfl, HV⟩ | ⟨rfl, HV⟩ | ⟨rfl, HV⟩
        · obtain ⟨ao, c1, rfl, hc1⟩ := HV.out.form
          have HROW := hide2 (show wr.ownsRow w.heap.size 3 1 (.slice ao 0 c1) 0 [] from HV.out)
          clear HV
          simp only [List.length_nil] at hc1 ⊢
          go_wp2_with (at_builtin; refine Hid.out ?_)
          refine hide2 ?_
          refine wpList_append_own_at _ rfl _ _ 33 rfl w.heap.size 3 i0 (.int .i64 0) 1 8 Tryd.underlying33 hi0 z0 z1 z2 rfl (by decide) (.slice ao 0 c1) _ _ rfl HROW.out ⟨g1, 0, none⟩ m cp (p.map nv) rfl (by rw [List.length_map, HM.out]; omega) HPN.out (by simp [Value.oneCell', nv]) (by unfold maxLen; omega) (by omega) (by omega) ?_
          intro v' w4 hown4 hgrow4 hat4 hb4
          have HH4 : Hid (Hr w4 w.heap.size v' p) := hide2 (by
            unfold Hr
            rw [HM.out]
            simpa using hown4)
          have BW4 : Hid (Below w.heap.size w w4) := hide2 (BW.out.grown hgrow4 hsz (fun j e => (World.ownsRow.lt HROW.out j e).1))
          obtain ⟨av, cv, ev, _⟩ := HH4.out.form
          clear hown4 hgrow4 hat4 hb4 HROW
          subst ev
          go_frame
          go_wp2
          go_roundw
          case rel => exact ⟨BW4, .inr (.inl ⟨rfl, HH4⟩)⟩
          case measure => simp [intOf]
        · obtain ⟨ao, c1, rfl, hc1⟩ := HV.out.form
          have HROW := hide2 (show wr.ownsRow w.heap.size 3 1 (.slice ao p.length c1) p.length (p.map nv) from HV.out)
          rw [HM.out] at HROW
          rw [HM.out]
          clear HV
          go_wp2_with (at_builtin; refine Hid.out ?_)
          refine hide2 ?_
          refine wpList_append_own_at _ rfl _ _ 33 rfl w.heap.size 3 i0 (.int .i64 0) 1 8 Tryd.underlying33 hi0 z0 z1 z2 rfl (by decide) (.slice ao m c1) _ _ rfl HROW.out ⟨g2, 0, none⟩ 1 1 [nv k] rfl rfl HXN.out (by simp [Value.oneCell', nv]) (by unfold maxLen; omega) (by omega) (by omega) ?_
          intro v' w4 hown4 hgrow4 hat4 hb4
          have HH4 : Hid (Hr w4 w.heap.size v' (p ++ [k])) := hide2 (by
            unfold Hr
            rw [List.length_append, HM.out, List.map_append]
            exact hown4)
          have BW4 : Hid (Below w.heap.size w w4) := hide2 (BW.out.grown hgrow4 hsz (fun j e => (World.ownsRow.lt HROW.out j e).1))
          obtain ⟨av, cv, ev, _⟩ := HH4.out.form
          clear hown4 hgrow4 hat4 hb4 HROW
          subst ev
          go_frame
          go_wp2
          go_roundw
          case rel => exact ⟨BW4, .inr (.inr ⟨rfl, HH4⟩)⟩
          case measure => simp [intOf]
        · obtain ⟨ao, c1, rfl, hc1⟩ := HV.out.form
          go_wp2
          go_ret
          exact ⟨_, rfl, HV.out, BW.out⟩
end
end Go.Proofs.YtafbchjmjfpilaaDoor
