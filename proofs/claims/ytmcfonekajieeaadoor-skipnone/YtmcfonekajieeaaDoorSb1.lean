/-
  takeAll: so many cells of an arena of which none is taken.
-/
import Derived.Test.YtmcfonekajieeaaDoorSa7
import Derived.Test.YtmcfonekajieeaaDoorC8
set_option linter.unusedVariables false
set_option linter.unusedSimpArgs false
namespace Go.Proofs.YtmcfonekajieeaaDoor
open Go.RowKit Go.Maps

/-- The first k of z cells are taken; are not any more. -/
def upT (z k : Nat) : List Bool := List.replicate k true ++ List.replicate (z - k) false
def dnT (z k : Nat) : List Bool := List.replicate k false ++ List.replicate (z - k) true
theorem upT_len (z k : Nat) (h : k ≤ z) : (upT z k).length = z := by simp [upT]; omega
theorem dnT_len (z k : Nat) (h : k ≤ z) : (dnT z k).length = z := by simp [dnT]; omega
theorem upT_count (z k : Nat) : (upT z k).count true = k := by simp [upT, List.count_append, List.count_replicate]
theorem upT_at (z k j : Nat) (h : k ≤ z) (t : Bool) : (upT z k).getD j t = if j < k then true else if j < z then false else t := by
  unfold upT
  simp only [List.getD, List.getElem?_append, List.length_replicate, List.getElem?_replicate]
  by_cases h1 : j < k
  · simp [h1]
  · by_cases h2 : j < z
    · have : j - k < z - k := by omega
      simp [h1, h2, this]
    · have : ¬ j - k < z - k := by omega
      simp [h1, h2, this]
theorem dnT_at (z k j : Nat) (h : k ≤ z) (t : Bool) : (dnT z k).getD j t = if j < k then false else if j < z then true else t := by
  unfold dnT
  simp only [List.getD, List.getElem?_append, List.length_replicate, List.getElem?_replicate]
  by_cases h1 : j < k
  · simp [h1]
  · by_cases h2 : j < z
    · have : j - k < z - k := by omega
      simp [h1, h2, this]
    · have : ¬ j - k < z - k := by omega
      simp [h1, h2, this]
theorem bool_ext {L M : List Bool} (h : L.length = M.length) (he : ∀ k, L.getD k false = M.getD k false) : L = M := by
  apply List.ext_getElem h
  intro i h1 h2
  have := he i
  simpa [List.getD, List.getElem?_eq_getElem h1, List.getElem?_eq_getElem h2] using this
theorem upT_set (z k : Nat) (h : k < z) : (upT z k).set k true = upT z (k + 1) := by
  apply bool_ext (by rw [List.length_set, upT_len z k (by omega), upT_len z (k + 1) (by omega)])
  intro j
  rw [getD_set, upT_at z k j (by omega), upT_at z (k + 1) j (by omega), upT_len z k (by omega)]
  by_cases e : j = k
  · subst e; simp [h]
  · rw [if_neg (fun q => e q.1)]
    by_cases e2 : j < k
    · simp only [if_pos e2, if_pos (show j < k + 1 by omega)]
    · simp only [if_neg e2, if_neg (show ¬ j < k + 1 by omega)]
theorem dnT_set (z k : Nat) (h : k < z) : (dnT z k).set k false = dnT z (k + 1) := by
  apply bool_ext (by rw [List.length_set, dnT_len z k (by omega), dnT_len z (k + 1) (by omega)])
  intro j
  rw [getD_set, dnT_at z k j (by omega), dnT_at z (k + 1) j (by omega), dnT_len z k (by omega)]
  by_cases e : j = k
  · subst e; simp [h]
  · rw [if_neg (fun q => e q.1)]
    by_cases e2 : j < k
    · simp only [if_pos e2, if_pos (show j < k + 1 by omega)]
    · simp only [if_neg e2, if_neg (show ¬ j < k + 1 by omega)]
theorem up_dn (z : Nat) : upT z z = dnT z 0 := by simp [upT, dnT]
theorem rep_set (z k : Nat) : (List.replicate z (0 : Int)).set k 0 = List.replicate z 0 := by
  apply List.ext_getElem (by simp)
  intro i h1 h2
  simp [List.getElem_set]

section
variable {w : World} {d g z n : Nat} {m : Int} {F : List Nat}

set_option maxRecDepth 100000 in
set_option maxHeartbeats 4000000 in
theorem takeAll_any (h : Aw w d g (upT z 0) (List.replicate z 0) m F) (hT : Tab w) (hd0 : d ≠ 0) (hg0 : g ≠ 0) (hn : n ≤ 1000) :
    Calls Tryd.prog 31 #[.pointer (some ⟨d, 0, none⟩), .int .i64 (n : Int)] w fun e w' =>
      (n ≤ z → ∃ v F', e = .returned (.tuple #[v, .int .i64 0]) ∧ Hr w' w.heap.size v (List.range n) ∧ Aw w' d g (upT z n) (List.replicate z 0) m F') ∧
      (z < n → ∃ F', e = .returned (.tuple #[.slice none 0 0, .int .i64 31]) ∧ Aw w' d g (dnT z z) (List.replicate z 0) m F') ∧ Fr (fun j => j = d ∨ j = g) w w' := by
  obtain ⟨i0, hi0, z0, z1, z2⟩ := info_parts infoH
  have hdl := h.ab.lt
  have hgl := h.nb.lt
  have hz1 : z ≤ 65536 := by have := h.one.2; simpa using this
  have HT := hide2 hT
  have H := hide2 h
  clear h hT
  go_enter Tryd.func31, Tryd.ntmps31
  go_wp2
  go_loopw [6, 12] (fun v i wr => ∃ (k : Nat) (F' : List Nat), k ≤ n ∧ k ≤ z ∧ i = .int .i64 k ∧ Hid (Hr wr w.heap.size v (List.range k)) ∧ Hid (Aw wr d g (upT z k) (List.replicate z 0) m F') ∧ Hid (Fr (fun j => j = d ∨ j = g) w wr)) (fun _ i _ => n - (intOf i).toNat)
  case atStart =>
    exact ⟨0, F, by omega, by omega, rfl, hide2 ⟨rfl, .inl ⟨rfl, rfl⟩⟩, H, hide2 (Fr.refl _ w)⟩
  case round =>
    obtain ⟨k, F', hkn, hkz, rfl, HR, HA, HF⟩ := hrel
    have hsz := HF.out.size
    by_cases hk : k < n
    · have hki : (k : Int) < (n : Int) := by omega
      by_cases hkz2 : k < z
      · -- a cell is taken
        have ha := Alloc_one HA.out (HT.out.fr HF.out (by rintro (e | e); exact hd0 e.symm; exact hg0 e.symm)) k (by rw [upT_at z k k hkz]; simp [hkz2]) (fun j hj => by rw [upT_at z k j hkz, if_pos hj]) hd0 hg0
        rw [upT_set z k hkz2, rep_set] at ha
        have HAL := hide2 ha
        clear ha
        obtain ⟨ao, cap, ev⟩ := HR.out.form
        rw [List.length_range] at ev
        subst ev
        go_wp2_with fail
        refine HAL.out.mono ?_
        rintro e w1 ⟨rfl, hA1, hF1⟩
        have hr1 : Hr w1 w.heap.size (.slice ao k cap) (List.range k) := hrow_fr HR.out hF1 (fun j e => by
          have := (World.ownsRow.lt HR.out j e).1
          rintro (q | q) <;> omega)
        have HR1 : Hid (w1.ownsRow w.heap.size 3 1 (.slice ao k cap) k ((List.range k).map nv)) := hide2 (by unfold Hr at hr1; rw [List.length_range] at hr1; exact hr1)
        have HA1 := hide2 hA1
        have HF1 := hide2 (HF.out.trans hF1 (fun j e => .inl e))
        have hs1 := HF1.out.size
        have HNEW := hide2 (hcell_new w1 (.int .i64 (k : Int)) 3)
        clear HAL hA1 hF1 hr1
        go_wp2_with (at_builtin; refine Hid.out ?_)
        refine hide2 ?_
        refine wpList_append_own_at _ rfl _ _ 47 rfl w.heap.size 3 i0 (.int .i64 0) 1 8 Tryd.underlying47 hi0 z0 z1 z2 rfl (by decide) (.slice ao k cap) _ _ rfl (World.ownsRow.alloc HR1.out _) ⟨w1.heap.size, 0, none⟩ 1 1 [.int .i64 (k : Int)] rfl rfl HNEW.out (by simp [Value.oneCell']) (by unfold maxLen; omega) (by omega) (by simp; omega) ?_
        intro v' w4 hown4 hgrow4 hat4 hb4
        obtain ⟨gt, capt, ev⟩ := hrow_succ hown4
        have hFg : Fr (fun j => w.heap.size ≤ j) w1 w4 := ((Fr.refl (fun j => w.heap.size ≤ j) w1).alloc (.cells #[.int .i64 (k : Int)] 3)).trans (G := fun j => w.heap.size ≤ j) (Fr.grown hgrow4 (fun j e => (World.ownsRow.lt HR1.out j e).1)) (fun j e => .inl e)
        have HX : Hid (Hr w4 w.heap.size v' (List.range (k + 1))) := hide2 (by
          unfold Hr
          rw [List.length_range, List.range_succ, List.map_append]
          exact hown4)
        have HA4 := hide2 (HA1.out.fr hFg (by omega) (by omega))
        have HF4 := hide2 (HF1.out.trans hFg (fun j e => .inr e))
        clear hown4 hgrow4 hat4 hb4 hFg HNEW HR1 HA1
        subst ev
        go_frame
        go_wp2
        go_round
        case rel => exact ⟨k + 1, _, by omega, by omega, by go_num, HX, HA4, HF4⟩
        case measure => simp [intOf]; omega
      · -- no cell is free: all are given back
        obtain rfl : k = z := by omega
        have ha := Alloc_full HA.out (by rw [upT_count, upT_len k k (Nat.le_refl _)])
        have HAL := hide2 ha
        clear ha
        obtain ⟨ao, cap, hev, hseq⟩ := HR.out.seq
        rw [List.length_range] at hev hseq
        subst hev
        go_wp2_with fail
        refine HAL.out.mono ?_
        rintro e w1 ⟨rfl, q, hw1⟩
        have hFq : Fr (fun _ => False) wr w1 := by rw [hw1]; exact (Fr.refl _ wr).drewN q
        have HA1 := hide2 (HA.out.fr hFq id id)
        have HF1 := hide2 (HF.out.trans hFq (fun j e => e.elim))
        have hs1 := HF1.out.size
        have HQ := hide2 (hseq.keep ⟨hFq.os, hFq.tape, hFq.output, hFq.size, fun j hj => hFq.block j hj id⟩)
        have HRW := hide2 HR.out
        clear HAL hw1 hFq hseq
        go_wp2
        obtain ⟨wQ, hwQ⟩ : ∃ x, x = wr := ⟨_, rfl⟩
        subst hwQ
        go_loopw [23] (fun i wr => ∃ (j : Nat) (F2 : List Nat), j ≤ k ∧ i = .int .i64 j ∧ Hid (Aw wr d g (dnT k j) (List.replicate k 0) m F2) ∧ Hid (Fr (fun j => j = d ∨ j = g) w1 wr)) (fun i _ => k - (intOf i).toNat)
        case atStart => exact ⟨0, F', by omega, rfl, hide2 (by rw [← up_dn]; exact HA1.out), hide2 (Fr.refl _ _)⟩
        case round =>
          obtain ⟨j, F2, hjk, rfl, HA2, HF2⟩ := hrel
          have hs2 := HF2.out.size
          by_cases hj : j < k
          · have hji : (j : Int) < (k : Int) := by omega
            obtain ⟨b, off, rfl, hbl, hcell⟩ := HQ.out.2.2.2 (by omega)
            have hbb : w.heap.size ≤ b := by
              have := (World.ownsRow.lt HRW.out b rfl).1
              exact this
            have q0 : wr.cell? ⟨b, off + j, none⟩ = some (.int .i64 (j : Int)) := by
              rw [HF2.out.cell (p := ⟨b, off + j, none⟩) hbl (by show ¬ (b = d ∨ b = g); omega)]
              have := hcell j (j : Int) (by simp [List.getElem?_range hj]) 0 _ rfl
              simpa using this
            have hfr := Free_in HA2.out j (by unfold tk; rw [show (j : Int).toNat = j from rfl, dnT_at k j j hjk]; simp [hj])
            rw [dnT_set k j hj] at hfr
            have HFR := hide2 hfr
            clear hfr hcell hbl
            go_wp2_with fail
            refine HFR.out.mono ?_
            rintro e w3 ⟨rfl, hA3, hF3⟩
            have HA3 := hide2 hA3
            have HF3 := hide2 (HF2.out.trans hF3 (fun j e => .inl e))
            clear HFR hA3 hF3
            go_wp2
            go_round
            case rel => exact ⟨j + 1, _, by omega, by go_num, HA3, HF3⟩
            case measure => simp [intOf]; omega
          · obtain rfl : j = k := by omega
            go_wp2
            go_ret2
            exact ⟨fun e => absurd e (by omega), fun _ => ⟨F2, rfl, HA2.out⟩, HF1.out.trans HF2.out (fun j e => .inl e)⟩
    · obtain rfl : k = n := by omega
      go_wp2
      go_ret2
      exact ⟨fun _ => ⟨_, F', rfl, HR.out, HA.out⟩, fun e => absurd e (by omega), HF.out⟩
end
end Go.Proofs.YtmcfonekajieeaaDoor
