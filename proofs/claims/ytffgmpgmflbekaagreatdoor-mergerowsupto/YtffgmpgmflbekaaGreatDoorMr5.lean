/-
  Mr5: The program's: itself, nameOf, keyOf; the first ones of a list that have each of its keys.
-/
import Derived.Test.YtffgmpgmflbekaaGreatDoorMr4
import Derived.Test.YtffgmpgmflbekaaGreatDoorMr1
import Derived.Laws.Tables
import Derived.Laws.Rows
set_option linter.unusedVariables false
set_option linter.unusedSimpArgs false
namespace Go.Proofs.YtffgmpgmflbekaaGreatDoor
open Go.RowKit Go.Maps
attribute [local go_sem] Oper.semAt_some

theorem heap_alloc_at {w : World} {n : Nat} (h : n = w.heap.size) (o : Obj) : (w.alloc o).heap[n]? = some o := by rw [h]; exact heap_alloc_new w o
section
set_option maxHeartbeats 4000000
set_option maxRecDepth 100000
theorem itself_any (g : Gn) (w : World) : Calls Tryz.prog 44 #[g.val] w fun e w' => e = .returned g.val ∧ Below w.heap.size w w' := by
  go_enter Tryz.func44, Tryz.ntmps44
  go_wp2
  refine bodyPost_ret (v := .agg #[.string g.k, .int .i64 g.t]) (results_cell_row (p := 2) (ty := 30) rfl _ _ (w.heap.size + 1) 30 #[.string g.k, .int .i64 g.t] (0, 0) _ rfl ?_ Tryz.underlying30 rfl (by kernel_rfl)) rfl ⟨rfl, ?_⟩
  · exact heap_alloc_at (by simp) _
  · exact below2 _ _ _
theorem nameOf_any (r : Ro) (w : World) : Calls Tryz.prog 46 #[r.val] w fun e w' => e = .returned r.nm.val ∧ Below w.heap.size w w' := by
  go_enter Tryz.func46, Tryz.ntmps46
  go_wp2
  refine bodyPost_ret (v := .agg #[.string r.k, .int .i64 r.t]) (results_cell_row (p := 2) (ty := 30) rfl _ _ (w.heap.size + 1) 30 #[.string r.k, .int .i64 r.t] (0, 0) _ rfl ?_ Tryz.underlying30 rfl (by kernel_rfl)) rfl ⟨rfl, ?_⟩
  · exact heap_alloc_at (by simp) _
  · exact below2 _ _ _
theorem keyOf_any (r : Ro) (w : World) : Calls Tryz.prog 50 #[r.val] w fun e w' => e = .returned (.string r.k) ∧ Below w.heap.size w w' := by
  go_enter Tryz.func50, Tryz.ntmps50
  go_wp2
  go_ret
  refine ⟨rfl, ?_⟩
  first | exact Below.refl _ _ | exact below1 _ _

variable {w : World} {go : Option Addr} {lg cg : Nat} {gone : List Gn}
/-- A text, and a time, as there can be. -/
def Gn.ok (g : Gn) : Prop := g.k.size ≤ 1048576 ∧ -9223372036854775808 ≤ g.t ∧ g.t ≤ 9223372036854775807
theorem Gn.ok.key {g : Gn} (h : g.ok) : keyOf Tryz.prog 30 g.val = some (gnLit g) := gn_key (by have := h.1; unfold maxLen; omega) h.2.1 h.2.2
theorem Gn.ok.inj {g g' : Gn} (h : g.ok) (h' : g'.ok) (e : gnLit g = gnLit g') : g = g' := gnLit_inj (by have := h.1; unfold maxLen; omega) h.2.1 h.2.2 (by have := h'.1; unfold maxLen; omega) h'.2.1 h'.2.2 e
theorem zeroGn (u : World) : (zeroValue 30).run Tryz.prog u = .ok (.agg #[.string .empty, .int .i64 0]) u := by kernel_rfl

/-- One more stands there. -/
noncomputable def setL (f : Lit → Option Value) (l : Lit) (v : Value) : Lit → Option Value := by
  classical
  exact fun m => if m = l then some v else f m
theorem setL_same {f : Lit → Option Value} {l : Lit} {v : Value} : setL f l v l = some v := by unfold setL; simp
theorem setL_other {f : Lit → Option Value} {l m : Lit} {v : Value} (h : m ≠ l) : setL f l v m = f m := by unfold setL; simp [h]
theorem Below.undrew {n q : Nat} {w u : World} (h : Below n (w.drewN q) u) : Below n w u := ⟨h.os, h.tape, h.output, h.size, h.block⟩
theorem turned_below {n : Nat} {a w w' : World} {b : Nat} (h : w.mapTurned w' b) (hb : Below n a w) (hn : n ≤ b) : Below n a w' := by
  obtain ⟨es, clock, es', clock', h1, rfl⟩ := h
  refine ⟨hb.os, hb.tape, hb.output, ?_, fun k hk => ?_⟩
  · have := hb.size
    simpa [Go.ChangeMaps.setBlock] using this
  · rw [← hb.block k hk]
    simp only [Go.ChangeMaps.setBlock]
    rw [Array.getElem?_setIfInBounds_ne (by omega)]

theorem firstsG_any (h : GS w go lg cg gone) (hok : ∀ g ∈ gone, g.ok) (hl : lg ≤ 1000000) :
    Calls Tryz.prog 43 #[.slice go lg cg, .func (.func 44) #[] #[]] w fun e w' => ∃ mb f, e = .returned (.map (some mb)) ∧ Mg 30 w' mb f lg ∧ w.heap.size ≤ mb ∧ Below w.heap.size w w' ∧ (∀ l v, f l = some v → ∃ g : Gn, v = g.val) ∧ ∀ g : Gn, g.ok → ((f (gnLit g)).isSome = true ↔ g ∈ gone) := by
  have hxl := h.1
  have H := hide2 h
  have HOK := hide2 hok
  have HI := hide2 (fun g w => itself_any g w)
  have hmm : (Instr.makeMap 95 none).run Tryz.prog w = .ok (.map (some w.heap.size)) (w.alloc (.map #[] 0)) := rfl
  clear h hok
  go_enter Tryz.func43, Tryz.ntmps43
  go_wp2_with fail
  go_loopw [13] (fun i wr => ∃ k : Nat, k ≤ lg ∧ i = .int .i64 (k : Nat) ∧ Hid (∃ f, Mg 30 wr w.heap.size f k ∧ Below w.heap.size w wr ∧ (∀ l v, f l = some v → ∃ g : Gn, v = g.val) ∧ ∀ g : Gn, g.ok → ((f (gnLit g)).isSome = true ↔ g ∈ gone.take k))) (fun i _ => lg - (intOf i).toNat)
  case atStart => exact ⟨0, by omega, rfl, hide2 ⟨_, Mg.made, below1 _ _, fun l v e => (nomatch e), fun g hg => by simp⟩⟩
  case round =>
    obtain ⟨k, hk, rfl, HM⟩ := hrel
    by_cases hlt : k < lg
    · obtain ⟨x, hx⟩ := some_at hxl hlt
      obtain ⟨f, hM, hB, hv, hf⟩ := HM.out
      have hxo := HOK.out x (List.mem_of_getElem? hx)
      obtain ⟨g, off, rfl, hgl, hc⟩ := GS.at H.out (by omega)
      have c0 := (hB.cell (p := ⟨g, off + k * 2, none⟩) hgl).trans (hc k x hx).1
      have c1 := (hB.cell (p := ⟨g, off + k * 2 + 1, none⟩) hgl).trans (hc k x hx).2
      have d1 : (k : Int) < (lg : Int) := by omega
      have HTS := hide2 (take_snoc hx)
      have HMG := hide2 hM
      have HBW := hide2 hB
      have HF := hide2 hf
      have HV := hide2 hv
      have HK := hide2 hxo.key
      have HXO := hide2 hxo
      have hBs := hB.size
      clear hM hB hf hv HM hc hx hxo
      go_wp2_with fail
      refine (HI.out x _).mono ?_
      rintro e w1 ⟨rfl, hw1⟩
      have hB1 : Below wr.heap.size wr w1 := (below1 wr _).trans (hw1.mono (by simp))
      have hs1 : wr.heap.size + 1 ≤ w1.heap.size := by have := hw1.size; simpa using this
      have hM1 : Mg 30 w1 w.heap.size f k := HMG.out.same (hB1.block _ HMG.out.lt)
      have hlk := hM1.look gnKeyed Tryz.underlying95 (zeroGn w1) HK.out
      have x0 : w1.cell? ⟨wr.heap.size, 0, none⟩ = some (.string x.k) := (hw1.cell (p := ⟨wr.heap.size, 0, none⟩) (by simp)).trans (by rw [Go.Joins.cell_of_block (heap_alloc_new _ _)]; rfl)
      have x1 : w1.cell? ⟨wr.heap.size, 1, none⟩ = some (.int .i64 x.t) := (hw1.cell (p := ⟨wr.heap.size, 1, none⟩) (by simp)).trans (by rw [Go.Joins.cell_of_block (heap_alloc_new _ _)]; rfl)
      have hBw1 := HBW.out.trans (hB1.mono hBs)
      have HB1 := hide2 hBw1
      have HM1 := hide2 hM1
      have hmlt := HMG.out.lt
      clear hw1 hB1 hM1 hBw1 HMG HBW
      cases hfx : f (gnLit x) with
      | some v =>
        obtain ⟨g', rfl⟩ := HV.out _ _ hfx
        rw [hfx] at hlk
        simp only [Option.getD_some, Option.isSome_some] at hlk
        have NX : Hid (∃ f, Mg 30 (w1.alloc (.cells #[.string g'.k, .int .i64 g'.t] 30)) w.heap.size f (k + 1) ∧ Below w.heap.size w (w1.alloc (.cells #[.string g'.k, .int .i64 g'.t] 30)) ∧ (∀ l v, f l = some v → ∃ g : Gn, v = g.val) ∧ ∀ g : Gn, g.ok → ((f (gnLit g)).isSome = true ↔ g ∈ gone.take (k + 1))) := hide2 ⟨f, (HM1.out.same (Below.heap_alloc _ _ _ HM1.out.lt)).more (by omega), HB1.out.alloc (by omega) _, HV.out, fun g hg => by
          rw [HTS.out, List.mem_append, List.mem_singleton]
          constructor
          · intro e; exact .inl ((HF.out g hg).1 e)
          · rintro (e | e)
            · exact (HF.out g hg).2 e
            · rw [e, hfx]; rfl⟩
        clear hfx HM1 HV HF HK
        go_wp2_with fail
        go_roundw
        case rel => exact ⟨k + 1, by omega, by go_num, NX⟩
        case measure => simp [intOf]; omega
      | none =>
        rw [hfx] at hlk
        simp only [Option.getD_none, Option.isSome_none] at hlk
        obtain ⟨W2, hW2⟩ : ∃ W2, W2 = w1.alloc (.cells #[.string .empty, .int .i64 0] 30) := ⟨_, rfl⟩
        have hb2 : Below w1.heap.size w1 W2 := by rw [hW2]; exact below1 _ _
        have hs2 := hb2.size
        have HB2 := hide2 (HB1.out.trans (hb2.mono (by omega)))
        have HM2 := hide2 (HM1.out.same (hb2.block _ HM1.out.lt))
        have y0 := (hb2.cell (p := ⟨wr.heap.size, 0, none⟩) (by show wr.heap.size < _; omega)).trans x0
        have y1 := (hb2.cell (p := ⟨wr.heap.size, 1, none⟩) (by show wr.heap.size < _; omega)).trans x1
        have HCL : Hid (∀ u, Below W2.heap.size W2 u → u.cell? ⟨wr.heap.size, 0, none⟩ = some (.string x.k) ∧ u.cell? ⟨wr.heap.size, 1, none⟩ = some (.int .i64 x.t)) := hide2 (fun u hu => ⟨(hu.cell (p := ⟨wr.heap.size, 0, none⟩) (by show wr.heap.size < _; omega)).trans y0, (hu.cell (p := ⟨wr.heap.size, 1, none⟩) (by show wr.heap.size < _; omega)).trans y1⟩)
        have HST : Hid (∀ u, Below W2.heap.size W2 u → ∃ w4, (Instr.mapUpdate 95 (.map (some w.heap.size)) x.val x.val).run Tryz.prog u = .ok () w4 ∧ ∃ f, Mg 30 w4 w.heap.size f (k + 1) ∧ Below w.heap.size w w4 ∧ (∀ l v, f l = some v → ∃ g : Gn, v = g.val) ∧ ∀ g : Gn, g.ok → ((f (gnLit g)).isSome = true ↔ g ∈ gone.take (k + 1))) := hide2 (fun u hu => by
          have hMu := HM2.out.same (hu.block _ HM2.out.lt)
          have hBu := HB2.out.trans (hu.mono HB2.out.size)
          obtain ⟨w4, h1, h2, h3⟩ := hMu.store (f' := setL f (gnLit x) x.val) gnKeyed Tryz.underlying95 (by unfold maxLen; omega) HK.out x.val setL_same (fun m hm => setL_other hm)
          refine ⟨w4, h1, _, h2, turned_below h3 hBu (Nat.le_refl _), fun l v e => ?_, fun g hg => ?_⟩
          · by_cases q : l = gnLit x
            · rw [q, setL_same] at e
              exact ⟨x, (Option.some.inj e).symm⟩
            · rw [setL_other q] at e
              exact HV.out l v e
          · rw [HTS.out, List.mem_append, List.mem_singleton]
            by_cases q : gnLit g = gnLit x
            · have := Gn.ok.inj hg HXO.out q
              subst this
              rw [setL_same]
              simp
            · have hne : ¬ g = x := fun e => q (by rw [e])
              rw [setL_other q, HF.out g hg]
              simp [hne])
        clear hfx HM1 HV HF HK HTS hb2 HB1 HM2 HXO HB2 x0 x1
        go_wp2_with fail
        rw [← hW2]
        clear hW2 hlk
        go_region_with (go_at_call 44; refine (HI.out x _).mono ?_; rintro e w3 ⟨rfl, hw3⟩; obtain ⟨u0, u1⟩ := HCL.out w3 (by first | exact hw3 | exact Below.undrew hw3); obtain ⟨w4, hrun4, hM4⟩ := HST.out w3 (by first | exact hw3 | exact Below.undrew hw3); replace hM4 := hide2 hM4; clear hw3)
        all_goals
          go_wp2_with fail
          go_roundw
          case rel => exact ⟨k + 1, by omega, by go_num, hM4⟩
          case measure => simp [intOf]; omega
    · have e1 : k = lg := by omega
      subst e1
      have d1 : ¬ (k : Int) < (k : Int) := by omega
      have ec : gone.take k = gone := List.take_of_length_le (by omega)
      rw [ec] at HM
      go_wp2
      go_ret
      obtain ⟨f, h1, h2, hv, h3⟩ := HM.out
      exact ⟨w.heap.size, rfl, f, h1, Nat.le_refl _, h2, hv, h3⟩
end
end Go.Proofs.YtffgmpgmflbekaaGreatDoor
