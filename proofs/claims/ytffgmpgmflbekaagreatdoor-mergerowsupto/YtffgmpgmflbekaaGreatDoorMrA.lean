/-
  MrA: The program's Rows.
-/
import Derived.Test.YtffgmpgmflbekaaGreatDoorMr9
import Derived.Lib.SlBytesConst
set_option linter.unusedVariables false
set_option linter.unusedSimpArgs false
namespace Go.Proofs.YtffgmpgmflbekaaGreatDoor
open Go.RowKit Go.Shelf
attribute [local go_sem] Oper.semAt_some

section
set_option maxHeartbeats 8000000
set_option maxRecDepth 100000
theorem rr_empty (w : World) : Rr (w.alloc (.cells #[] 28)) w.heap.size (.slice (some ⟨w.heap.size, 0, none⟩) 0 0) [] :=
  ⟨rfl, .inr ⟨w.heap.size, 0, #[], rfl, Nat.le_refl _, heap_alloc_new _ _, Nat.le_refl _, Nat.zero_le _, rfl, rfl⟩⟩
theorem clone_any {w : World} {bo : Option Addr} {lb cb : Nat} {b : List Ro} (h : RS w bo lb cb b) (hn : bo = none → cb = 0) (hl : lb ≤ 10000000) :
    Calls Tryz.prog 45 #[.slice bo lb cb] w fun e w' => ∃ v, e = .returned v ∧ Rr w' w.heap.size v b ∧ Below w.heap.size w w' := by
  have hlb := h.1
  have HSV := hide2 (RS.sv h hn)
  have hq := Go.Lib.run_eql_slice_nil (P := Tryz.prog) w 22 28 bo lb cb 0 0 Tryz.underlying22
  cases bo with
  | none =>
    have hb : b = [] := by
      rcases HSV.out with ⟨_, q⟩ | ⟨ad, c, q, _⟩
      · exact q
      · injection q with q1; cases q1
    have hl0 : lb = 0 := by rw [← hlb, hb]; rfl
    have hc0 := hn rfl
    subst hb hl0 hc0
    clear h hn HSV
    go_enter Tryz.func45, Tryz.ntmps45
    go_wp2
    go_ret
    exact ⟨_, rfl, rr_nil _ _, Below.refl _ _⟩
  | some ad =>
    obtain ⟨W1, hW1⟩ : ∃ W1, W1 = w.alloc (.cells #[] 28) := ⟨_, rfl⟩
    have hb1 : Below w.heap.size w W1 := by rw [hW1]; exact below1 _ _
    obtain ⟨v', w2, hrun, hown, hB2, hs2, _⟩ := rapp (w := W1) (B := w.heap.size) (by rw [hW1]; exact rr_empty w) hb1.size (HSV.out.keep hb1) (by rw [hlb]; simp; omega)
    have HRUN := hide2 hrun
    have HO : Hid (Rr w2 w.heap.size v' b) := hide2 (by simpa using hown)
    have HB2 := hide2 (hB2 _ _ (Nat.le_refl _) hb1)
    rw [hW1] at HRUN
    clear h hn HSV hrun hown hB2 hb1
    go_enter Tryz.func45, Tryz.ntmps45
    go_wp2_with (at_builtin; refine Hid.out ?_)
    refine hide2 ?_
    refine Lib.wpList_append_run _ rfl _ _ _ _ rfl _ _ rfl rfl v' w2 HRUN.out ?_
    go_frame
    go_wp2
    go_ret
    exact ⟨_, rfl, HO.out, HB2.out⟩

theorem namedB_iff {gone : List Gn} {r : Ro} : namedB gone r = true ↔ r.nm ∈ gone := by
  unfold namedB
  rw [List.any_eq_true]
  constructor
  · rintro ⟨g, hg, e⟩
    simp only [Bool.and_eq_true, decide_eq_true_eq] at e
    have : g = r.nm := by cases g; unfold Ro.nm; simp at e; rw [e.1, e.2]
    rw [← this]; exact hg
  · intro h
    exact ⟨_, h, by simp [Ro.nm]⟩
theorem allR_len {L xs : List Ro} (h : AllR L xs) : xs.length ≤ L.length := by
  have h1 : xs.Nodup := List.Pairwise.of_map Ro.k (fun a b h e => h (by rw [e])) h.1
  have h2 : ∀ x ∈ xs, x ∈ L := fun x hx => List.mem_of_find?_eq_some ((h.2 x).1 hx)
  clear h
  induction xs generalizing L with
  | nil => exact Nat.zero_le _
  | cons a xs ih =>
    have ha := h2 a List.mem_cons_self
    have hn := List.nodup_cons.1 h1
    have := ih (L := L.erase a) hn.2 (fun x hx => (List.mem_erase_of_ne (fun q : x = a => hn.1 (by rw [← q]; exact hx))).2 (h2 x (List.mem_cons_of_mem _ hx)))
    rw [List.length_erase_of_mem ha] at this
    have := List.length_pos_of_mem ha
    simp only [List.length_cons]
    omega

variable {w : World} {ao bo go : Option Addr} {la ca lb cb lg cg : Nat} {a b : List Ro} {gone : List Gn}
theorem rowsP_any (ha : RS w ao la ca a) (hb : RS w bo lb cb b) (hg : GS w go lg cg gone) (hnb : bo = none → cb = 0) (h1 : la ≤ 1000000) (h2 : lb ≤ 1000000) (h3 : lg ≤ 1000000) (oa : ∀ r ∈ a, r.ok) (ob : ∀ r ∈ b, r.ok) (og : ∀ g ∈ gone, g.ok) :
    Calls Tryz.prog 9 #[.slice ao la ca, .slice bo lb cb, .slice go lg cg] w fun e w' => ∃ v, e = .returned v ∧ Wr w' w.heap.size v (rowsD a b gone) ∧ Below w.heap.size w w' := by
  obtain rfl := ha.1
  obtain rfl := hb.1
  have HF := hide2 (firstsG_any hg og h3)
  have HA := hide2 ha
  have HBB := hide2 hb
  have HNM := hide2 (fun r w => nameOf_any r w)
  have HOA := hide2 oa
  have HOB := hide2 ob
  clear ha hb hg oa ob og
  go_enter Tryz.func9, Tryz.ntmps9
  go_wp2_with fail
  refine HF.out.mono ?_
  rintro e w1 ⟨mb, f, rfl, hM, hmb, hb1, hfv, hfn⟩
  have HM1 := hide2 hM
  have HB1 := hide2 hb1
  have HFN := hide2 hfn
  have HFV := hide2 hfv
  have HCL := hide2 (clone_any (HBB.out.keep hb1) hnb (by omega))
  clear hM hb1 hfn hfv HF
  go_wp2_with fail
  refine HCL.out.mono ?_
  rintro e w2 ⟨v2, rfl, hr2, hb2⟩
  have HR2 := hide2 hr2
  have HB2 := hide2 hb2
  obtain ⟨aq, cq, ev, _⟩ := hr2.seq
  subst ev
  clear hr2 hb2 HCL
  go_wp2_with fail
  go_loopw [8, 19] (fun v i wr => ∃ k : Nat, k ≤ a.length ∧ i = .int .i64 (k : Nat) ∧ Hid (Rr wr w1.heap.size v (b ++ (a.take k).filter fun r => !namedB gone r)) ∧ Hid (Below w1.heap.size w1 wr)) (fun _ i _ => a.length - (intOf i).toNat)
  case atStart => exact ⟨0, by omega, rfl, hide2 (by simpa using HR2.out), HB2⟩
  case round =>
    obtain ⟨k, hk, rfl, HR, HB⟩ := hrel
    obtain ⟨aq, cq, ev, hsq⟩ := HR.out.seq
    subst ev
    clear HR2 HB2
    have HBw := hide2 (HB1.out.trans (HB.out.mono HB1.out.size))
    have hsz := HB.out.size
    by_cases hlt : k < a.length
    · obtain ⟨x, hx⟩ := some_at rfl hlt
      have hxo := HOA.out x (List.mem_of_getElem? hx)
      obtain ⟨g, off, rfl, hgl, hc⟩ := RS.at HA.out (by omega)
      have c0 := (HBw.out.cell (p := ⟨g, off + k * 3, none⟩) hgl).trans (hc k x hx).1
      have c1 := (HBw.out.cell (p := ⟨g, off + k * 3 + 1, none⟩) hgl).trans (hc k x hx).2.1
      have c2 := (HBw.out.cell (p := ⟨g, off + k * 3 + 2, none⟩) hgl).trans (hc k x hx).2.2
      have d1 : (k : Int) < (a.length : Int) := by omega
      have HTS := hide2 (take_snoc hx)
      clear hc hx hsq
      go_wp2_with fail
      refine (HNM.out x _).mono ?_
      rintro e w3 ⟨rfl, hw3⟩
      have hB3 : Below wr.heap.size wr w3 := (below1 wr _).trans (hw3.mono (by simp))
      have hs3 : wr.heap.size + 1 ≤ w3.heap.size := by have := hw3.size; simpa using this
      have hBw3 : Below w1.heap.size w1 w3 := HB.out.trans (hB3.mono hsz)
      have hM3 : Mg 30 w3 mb f lg := HM1.out.same (hBw3.block _ HM1.out.lt)
      have hlk := hM3.look gnKeyed Tryz.underlying95 (zeroGn w3) hxo.nm.key
      have x0 : w3.cell? ⟨wr.heap.size, 0, none⟩ = some (.string x.k) := (hw3.cell (p := ⟨wr.heap.size, 0, none⟩) (by simp)).trans (by rw [Go.Joins.cell_of_block (heap_alloc_new _ _)]; rfl)
      have x1 : w3.cell? ⟨wr.heap.size, 1, none⟩ = some (.string x.v) := (hw3.cell (p := ⟨wr.heap.size, 1, none⟩) (by simp)).trans (by rw [Go.Joins.cell_of_block (heap_alloc_new _ _)]; rfl)
      have x2 : w3.cell? ⟨wr.heap.size, 2, none⟩ = some (.int .i64 x.t) := (hw3.cell (p := ⟨wr.heap.size, 2, none⟩) (by simp)).trans (by rw [Go.Joins.cell_of_block (heap_alloc_new _ _)]; rfl)
      have HB3 := hide2 hBw3
      have HR3 := hide2 (Rr.keep HR.out hB3)
      have hfx := HFN.out x.nm hxo.nm
      rw [← namedB_iff] at hfx
      have hls : (b ++ (a.take k).filter fun r => !namedB gone r).length ≤ 2000000 := by
        rw [List.length_append]
        have := List.length_filter_le (fun r => !namedB gone r) (a.take k)
        rw [List.length_take] at this
        omega
      clear hw3 hB3 hBw3 hM3 HR c0 c1 c2
      cases hq : f (gnLit x.nm) with
      | some v =>
        obtain ⟨g', rfl⟩ := HFV.out _ _ hq
        rw [hq] at hlk hfx
        simp only [Option.getD_some, Option.isSome_some, true_iff] at hlk hfx
        have NX : Hid (Rr (w3.alloc (.cells #[.string g'.k, .int .i64 g'.t] 30)) w1.heap.size (.slice aq (b ++ (a.take k).filter fun r => !namedB gone r).length cq) (b ++ (a.take (k + 1)).filter fun r => !namedB gone r)) := hide2 (by
          rw [HTS.out, List.filter_append]
          simp only [hfx, List.filter_cons, List.filter_nil, Bool.not_true, if_false, Bool.false_eq_true, List.append_nil]
          exact World.ownsRow.alloc HR3.out _)
        have NB : Hid (Below w1.heap.size w1 (w3.alloc (.cells #[.string g'.k, .int .i64 g'.t] 30))) := hide2 (HB3.out.alloc HB3.out.size _)
        clear hq hfx HR3 HB3 HTS
        generalize (b ++ (a.take k).filter fun r => !namedB gone r).length = ln at *
        go_wp2_with fail
        go_roundw
        case rel => exact ⟨k + 1, by omega, by go_num, NX, NB⟩
        case measure => simp [intOf]; omega
      | none =>
        rw [hq] at hlk hfx
        have hnx : namedB gone x = false := by
          cases hz : namedB gone x with
          | false => rfl
          | true => have := hfx.2 hz; cases this
        simp only [Option.getD_none, Option.isSome_none] at hlk
        obtain ⟨W4, hW4⟩ : ∃ W4, W4 = w3.alloc (.cells #[.string .empty, .int .i64 0] 30) := ⟨_, rfl⟩
        have hb4 : Below w3.heap.size w3 W4 := by rw [hW4]; exact below1 _ _
        have y0 := (hb4.cell (p := ⟨wr.heap.size, 0, none⟩) (by show wr.heap.size < _; omega)).trans x0
        have y1 := (hb4.cell (p := ⟨wr.heap.size, 1, none⟩) (by show wr.heap.size < _; omega)).trans x1
        have y2 := (hb4.cell (p := ⟨wr.heap.size, 2, none⟩) (by show wr.heap.size < _; omega)).trans x2
        have HB4 := hide2 (HB3.out.trans (hb4.mono HB3.out.size))
        have hs4 := HB4.out.size
        obtain ⟨v', w5, hrun, hown, hB5, hs5, _⟩ := rapp (w := W4.alloc (.cells #[.string x.k, .string x.v, .int .i64 x.t] 28)) (World.ownsRow.alloc (Rr.keep HR3.out hb4) _) (by simp; omega) (sv_one W4 x) (by simp at hls ⊢; omega)
        have NX : Hid (Rr w5 w1.heap.size v' (b ++ (a.take (k + 1)).filter fun r => !namedB gone r)) := hide2 (by
          rw [HTS.out, List.filter_append, ← List.append_assoc]
          simp only [hnx, List.filter_cons, List.filter_nil, Bool.not_false, if_true]
          exact hown)
        have NB : Hid (Below w1.heap.size w1 w5) := hide2 (hB5 _ _ (Nat.le_refl _) (HB4.out.alloc hs4 _))
        have hsz4 : W4.heap.size = w3.heap.size + 1 := by rw [hW4]; simp
        rw [hsz4] at hrun
        have HRUN := hide2 hrun
        obtain ⟨aq5, cq5, ev5, _⟩ := NX.out.seq
        clear hq hfx HR3 HB3 HTS x0 x1 x2 hrun hown hB5 hb4 hnx HB4 hsz4 hs4 hs5
        subst hW4
        generalize (b ++ (a.take k).filter fun r => !namedB gone r).length = ln at *
        go_wp2_with (at_builtin; refine Hid.out ?_)
        refine hide2 ?_
        refine Lib.wpList_append_run _ rfl _ _ _ _ rfl _ _ rfl rfl v' w5 HRUN.out ?_
        subst ev5
        go_frame
        go_wp2_with fail
        go_roundw
        case rel => exact ⟨k + 1, by omega, by go_num, NX, NB⟩
        case measure => simp [intOf]; omega
    · have e1 : k = a.length := by omega
      subst e1
      have d1 : ¬ (a.length : Int) < (a.length : Int) := by omega
      have ec : a.take a.length = a := List.take_length
      rw [ec] at HR hsq ⊢
      have hls : (b ++ a.filter fun r => !namedB gone r).length ≤ 10000000 := by
        rw [List.length_append]
        have := List.length_filter_le (fun r => !namedB gone r) a
        omega
      have HFR := hide2 (firstsR_any hsq (fun r hr => by
        rcases List.mem_append.1 hr with q | q
        · exact HOB.out r q
        · exact HOA.out r (List.mem_filter.1 q).1) hls)
      have HONE := hide2 (fun ys h1 h2 => rows_one (a := a) (b := b) (gone := gone) (ys := ys) h1 h2)
      clear ec hsq HR
      generalize (b ++ a.filter fun r => !namedB gone r) = LL at *
      go_wp2_with fail
      refine HFR.out.mono ?_
      rintro e w4 ⟨mb2, f2, rfl, hM2, hmb2, hb4, hf2⟩
      have HB4 := hide2 (HBw.out.trans (hb4.mono HBw.out.size))
      have HM2 := hide2 hM2
      have HF2 := hide2 hf2
      have HV := hide2 (fun w => values_any (some mb2) w)
      clear HFR hM2 hb4 hf2
      go_wp2_with fail
      refine (HV.out _).mono ?_
      rintro e w5 ⟨rfl, hw5⟩
      have hb5 : Below w4.heap.size w4 w5 := by rw [hw5]; exact below1 _ _
      have hcm : w5.cell? ⟨w4.heap.size, 0, none⟩ = some (.map (some mb2)) := by rw [hw5, Go.Joins.cell_of_block (heap_alloc_new _ _)]; rfl
      have hlt5 : w4.heap.size < w5.heap.size := by rw [hw5]; simp
      have HSO := hide2 (sortedFunc_any w4.heap.size mb2 LL.length HF2.out w5 hlt5 hcm (HM2.out.same (hb5.block _ HM2.out.lt)) (by omega) (fun xs hx => Nat.le_trans (allR_len hx) hls))
      have HB5 := hide2 (HB4.out.trans (hb5.mono HB4.out.size))
      clear hw5 hb5 hcm hlt5 HM2 HF2 HV
      go_wp2_with fail
      refine HSO.out.mono ?_
      rintro e w6 ⟨v6, ys, rfl, hs6, hm6, hw6, hb6⟩
      have hy := HONE.out ys hs6 hm6
      subst hy
      have HW : Hid (Wr w6 w.heap.size v6 (rowsD a b gone)) := hide2 (by
        obtain ⟨ao6, c6, e6, r6, t6⟩ := hw6
        exact ⟨ao6, c6, e6, r6, fun q => by
          obtain ⟨g6, e7, hg6, ht6⟩ := t6 q
          exact ⟨g6, e7, Nat.le_trans HB5.out.size hg6, ht6⟩⟩)
      have HB6 := hide2 (HB5.out.trans (hb6.mono HB5.out.size))
      obtain ⟨ao6, c6, e6, _, _⟩ := hw6
      subst e6
      clear HSO hs6 hm6 hb6 HONE HB5 HB4
      go_wp2
      go_ret
      exact ⟨_, rfl, HW.out, HB6.out⟩
end
end Go.Proofs.YtffgmpgmflbekaaGreatDoor
