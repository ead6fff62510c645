/-
  Mr6: The first rows of a list that have each of its keys.
-/
import Derived.Test.YtffgmpgmflbekaaGreatDoorMr5
set_option linter.unusedVariables false
set_option linter.unusedSimpArgs false
namespace Go.Proofs.YtffgmpgmflbekaaGreatDoor
open Go.RowKit Go.Maps
attribute [local go_sem] Oper.semAt_some

section
set_option maxHeartbeats 4000000
set_option maxRecDepth 100000
variable {w : World}
/-- The first row of a key. -/
def fstOf (l : List Ro) (s : ByteArray) : Option Ro := l.find? fun r => decide (r.k = s)
theorem fstOf_snoc {l : List Ro} {x : Ro} {s : ByteArray} : fstOf (l ++ [x]) s = (fstOf l s).or (if x.k = s then some x else none) := by
  unfold fstOf
  rw [List.find?_append]
  congr 1
  by_cases h : x.k = s <;> simp [h]
def strLit (s : ByteArray) : Lit := .string s.data.toList
theorem strLit_inj {s t : ByteArray} (h : strLit s = strLit t) : s = t := by
  unfold strLit at h
  injection h with h
  exact ByteArray.ext (Array.toList_inj.1 h)
def Ro.ok (r : Ro) : Prop := r.k.size ≤ 1048576 ∧ r.v.size ≤ 1048576 ∧ -9223372036854775808 ≤ r.t ∧ r.t ≤ 9223372036854775807
theorem Ro.ok.key {r : Ro} (h : r.ok) : keyOf Tryz.prog 9 (.string r.k) = some (strLit r.k) := str_key (by have := h.1; unfold maxLen; omega)
theorem Ro.ok.nm {r : Ro} (h : r.ok) : r.nm.ok := ⟨h.1, h.2.2.1, h.2.2.2⟩
theorem zeroRo (u : World) : (zeroValue 28).run Tryz.prog u = .ok (.agg #[.string .empty, .string .empty, .int .i64 0]) u := by kernel_rfl
/-- What the map has: the first row of each key. -/
def Fst (L : List Ro) (f : Lit → Option Value) : Prop := (∀ l v, f l = some v → ∃ r ∈ L, l = strLit r.k ∧ v = r.val) ∧ ∀ s, f (strLit s) = (fstOf L s).map Ro.val

variable {bo : Option Addr} {lb cb : Nat} {L : List Ro}
theorem firstsR_any (h : RS w bo lb cb L) (hok : ∀ g ∈ L, g.ok) (hl : lb ≤ 10000000) :
    Calls Tryz.prog 49 #[.slice bo lb cb, .func (.func 50) #[] #[]] w fun e w' => ∃ mb f, e = .returned (.map (some mb)) ∧ Mg 9 w' mb f lb ∧ w.heap.size ≤ mb ∧ Below w.heap.size w w' ∧ Fst L f := by
  have hxl := h.1
  have H := hide2 h
  have HOK := hide2 hok
  have HI := hide2 (fun g w => keyOf_any g w)
  have hmm : (Instr.makeMap 105 none).run Tryz.prog w = .ok (.map (some w.heap.size)) (w.alloc (.map #[] 0)) := rfl
  clear h hok
  go_enter Tryz.func49, Tryz.ntmps49
  go_wp2_with fail
  go_loopw [13] (fun i wr => ∃ k : Nat, k ≤ lb ∧ i = .int .i64 (k : Nat) ∧ Hid (∃ f, Mg 9 wr w.heap.size f k ∧ Below w.heap.size w wr ∧ Fst (L.take k) f)) (fun i _ => lb - (intOf i).toNat)
  case atStart => exact ⟨0, by omega, rfl, hide2 ⟨_, Mg.made, below1 _ _, ⟨fun l v e => (nomatch e), fun s => rfl⟩⟩⟩
  case round =>
    obtain ⟨k, hk, rfl, HM⟩ := hrel
    by_cases hlt : k < lb
    · obtain ⟨x, hx⟩ := some_at hxl hlt
      obtain ⟨f, hM, hB, hf⟩ := HM.out
      have hxo := HOK.out x (List.mem_of_getElem? hx)
      obtain ⟨g, off, rfl, hgl, hc⟩ := RS.at H.out (by omega)
      have c0 := (hB.cell (p := ⟨g, off + k * 3, none⟩) hgl).trans (hc k x hx).1
      have c1 := (hB.cell (p := ⟨g, off + k * 3 + 1, none⟩) hgl).trans (hc k x hx).2.1
      have c2 := (hB.cell (p := ⟨g, off + k * 3 + 2, none⟩) hgl).trans (hc k x hx).2.2
      have d1 : (k : Int) < (lb : Int) := by omega
      have HTS := hide2 (take_snoc hx)
      have HMG := hide2 hM
      have HBW := hide2 hB
      have HF := hide2 hf
      have HK := hide2 hxo.key
      have HXO := hide2 hxo
      have hBs := hB.size
      clear hM hB hf HM hc hx hxo
      go_wp2_with fail
      refine (HI.out x _).mono ?_
      rintro e w1 ⟨rfl, hw1⟩
      have hB1 : Below wr.heap.size wr w1 := (below1 wr _).trans (hw1.mono (by simp))
      have hs1 : wr.heap.size + 1 ≤ w1.heap.size := by have := hw1.size; simpa using this
      have hM1 : Mg 9 w1 w.heap.size f k := HMG.out.same (hB1.block _ HMG.out.lt)
      have hlk := hM1.look strKeyed Tryz.underlying105 (zeroRo w1) HK.out
      have x0 : w1.cell? ⟨wr.heap.size, 0, none⟩ = some (.string x.k) := (hw1.cell (p := ⟨wr.heap.size, 0, none⟩) (by simp)).trans (by rw [Go.Joins.cell_of_block (heap_alloc_new _ _)]; rfl)
      have x1 : w1.cell? ⟨wr.heap.size, 1, none⟩ = some (.string x.v) := (hw1.cell (p := ⟨wr.heap.size, 1, none⟩) (by simp)).trans (by rw [Go.Joins.cell_of_block (heap_alloc_new _ _)]; rfl)
      have x2 : w1.cell? ⟨wr.heap.size, 2, none⟩ = some (.int .i64 x.t) := (hw1.cell (p := ⟨wr.heap.size, 2, none⟩) (by simp)).trans (by rw [Go.Joins.cell_of_block (heap_alloc_new _ _)]; rfl)
      have hBw1 := HBW.out.trans (hB1.mono hBs)
      have HB1 := hide2 hBw1
      have HM1 := hide2 hM1
      have hmlt := HMG.out.lt
      clear hw1 hB1 hM1 hBw1 HMG HBW
      cases hfx : f (strLit x.k) with
      | some v =>
        obtain ⟨g', _, _, hgv⟩ := HF.out.1 _ _ hfx
        subst hgv
        rw [hfx] at hlk
        simp only [Option.getD_some, Option.isSome_some] at hlk
        have NX : Hid (∃ f, Mg 9 (w1.alloc (.cells #[.string g'.k, .string g'.v, .int .i64 g'.t] 28)) w.heap.size f (k + 1) ∧ Below w.heap.size w (w1.alloc (.cells #[.string g'.k, .string g'.v, .int .i64 g'.t] 28)) ∧ Fst (L.take (k + 1)) f) := hide2 ⟨f, (HM1.out.same (Below.heap_alloc _ _ _ HM1.out.lt)).more (by omega), HB1.out.alloc (by omega) _, by
          rw [HTS.out]
          refine ⟨fun l v e => ?_, fun s => ?_⟩
          · obtain ⟨r, hr, q⟩ := HF.out.1 l v e
            exact ⟨r, List.mem_append_left _ hr, q⟩
          · rw [fstOf_snoc, HF.out.2 s]
            by_cases q : x.k = s
            · have h1 := HF.out.2 x.k
              rw [hfx] at h1
              rw [← q]
              cases hq : fstOf (L.take k) x.k with
              | none => rw [hq] at h1; cases h1
              | some r => rfl
            · rw [if_neg q, Option.or_none]⟩
        clear hfx HM1 HF HK
        go_wp2_with fail
        go_roundw
        case rel => exact ⟨k + 1, by omega, by go_num, NX⟩
        case measure => simp [intOf]; omega
      | none =>
        rw [hfx] at hlk
        simp only [Option.getD_none, Option.isSome_none] at hlk
        obtain ⟨W2, hW2⟩ : ∃ W2, W2 = w1.alloc (.cells #[.string .empty, .string .empty, .int .i64 0] 28) := ⟨_, rfl⟩
        have hb2 : Below w1.heap.size w1 W2 := by rw [hW2]; exact below1 _ _
        have hs2 := hb2.size
        have HB2 := hide2 (HB1.out.trans (hb2.mono (by omega)))
        have HM2 := hide2 (HM1.out.same (hb2.block _ HM1.out.lt))
        have y0 := (hb2.cell (p := ⟨wr.heap.size, 0, none⟩) (by show wr.heap.size < _; omega)).trans x0
        have y1 := (hb2.cell (p := ⟨wr.heap.size, 1, none⟩) (by show wr.heap.size < _; omega)).trans x1
        have y2 := (hb2.cell (p := ⟨wr.heap.size, 2, none⟩) (by show wr.heap.size < _; omega)).trans x2
        have HCL : Hid (∀ u, Below W2.heap.size W2 u → u.cell? ⟨wr.heap.size, 0, none⟩ = some (.string x.k) ∧ u.cell? ⟨wr.heap.size, 1, none⟩ = some (.string x.v) ∧ u.cell? ⟨wr.heap.size, 2, none⟩ = some (.int .i64 x.t)) := hide2 (fun u hu => ⟨(hu.cell (p := ⟨wr.heap.size, 0, none⟩) (by show wr.heap.size < _; omega)).trans y0, (hu.cell (p := ⟨wr.heap.size, 1, none⟩) (by show wr.heap.size < _; omega)).trans y1, (hu.cell (p := ⟨wr.heap.size, 2, none⟩) (by show wr.heap.size < _; omega)).trans y2⟩)
        have HST : Hid (∀ u, Below W2.heap.size W2 u → ∃ w4, (Instr.mapUpdate 105 (.map (some w.heap.size)) (.string x.k) x.val).run Tryz.prog u = .ok () w4 ∧ ∃ f, Mg 9 w4 w.heap.size f (k + 1) ∧ Below w.heap.size w w4 ∧ Fst (L.take (k + 1)) f) := hide2 (fun u hu => by
          have hMu := HM2.out.same (hu.block _ HM2.out.lt)
          have hBu := HB2.out.trans (hu.mono HB2.out.size)
          obtain ⟨w4, h1, h2, h3⟩ := hMu.store (f' := setL f (strLit x.k) x.val) strKeyed Tryz.underlying105 (by unfold maxLen; omega) HK.out x.val setL_same (fun m hm => setL_other hm)
          refine ⟨w4, h1, _, h2, turned_below h3 hBu (Nat.le_refl _), ?_⟩
          rw [HTS.out]
          refine ⟨fun l v e => ?_, fun s => ?_⟩
          · by_cases q : l = strLit x.k
            · rw [q, setL_same] at e
              exact ⟨x, by simp, q, (Option.some.inj e).symm⟩
            · rw [setL_other q] at e
              obtain ⟨r, hr, q⟩ := HF.out.1 l v e
              exact ⟨r, List.mem_append_left _ hr, q⟩
          · rw [fstOf_snoc]
            by_cases q : x.k = s
            · rw [← q, setL_same, if_pos rfl]
              have h1 := HF.out.2 x.k
              rw [hfx] at h1
              cases hq : fstOf (L.take k) x.k with
              | none => rfl
              | some r => rw [hq] at h1; cases h1
            · rw [setL_other (fun e => q (strLit_inj e).symm), HF.out.2 s, if_neg q, Option.or_none])
        clear hfx HM1 HF HK HTS hb2 HB1 HM2 HXO HB2 x0 x1 x2
        go_wp2_with fail
        rw [← hW2]
        clear hW2 hlk
        go_region_with (go_at_call 50; refine (HI.out x _).mono ?_; rintro e w3 ⟨rfl, hw3⟩; obtain ⟨u0, u1, u2⟩ := HCL.out w3 (by first | exact hw3 | exact Below.undrew hw3); obtain ⟨w4, hrun4, hM4⟩ := HST.out w3 (by first | exact hw3 | exact Below.undrew hw3); replace hM4 := hide2 hM4; clear hw3)
        all_goals
          go_wp2_with fail
          go_roundw
          case rel => exact ⟨k + 1, by omega, by go_num, hM4⟩
          case measure => simp [intOf]; omega
    · have e1 : k = lb := by omega
      subst e1
      have d1 : ¬ (k : Int) < (k : Int) := by omega
      have ec : L.take k = L := List.take_of_length_le (by omega)
      rw [ec] at HM
      go_wp2
      go_ret
      obtain ⟨f, h1, h2, h3⟩ := HM.out
      exact ⟨w.heap.size, rfl, f, h1, Nat.le_refl _, h2, h3⟩
end
end Go.Proofs.YtffgmpgmflbekaaGreatDoor
