/-
  XmK: The document's example in memory.
-/
import Derived.Test.YtheidhkmmihjlaaXmJ
import Derived.Test.YtheidhkmmihjlaaXnB
set_option linter.unusedVariables false
set_option linter.unusedSimpArgs false
namespace Go.Proofs.Ytheidhkmmihjlaa
open Go.RowKit Go.Shelf Go.Maps
open ML (Ro RS Srt nless)
attribute [local go_sem] Oper.semAt_some
section
set_option maxHeartbeats 1000000
set_option maxRecDepth 100000
variable {w : World} {X b : Nat} {c : Option Nat} {S : Ms} {C : Cl} {B : Nat}
theorem isRight_none (t : Int) (ht : isT t = true) (w : World) : Calls Try.prog 30 #[.agg #[.int .i64 t, .slice none 0 0]] w fun e w' => e = .returned (.bool true) ∧ Below w.heap.size w w' := by
  have HT := xhide (fun w => mTime_any t w)
  go_enter Try.func30, Try.ntmps30
  go_wp2_with fail
  refine (HT.out _).mono ?_
  rintro e w1 ⟨rfl, rfl⟩
  rw [ht]
  go_wp2_with fail
  go_loopw [19] (fun i wr => i = .int .i64 0 ∧ Hid (Below w.heap.size w wr)) (fun _ _ => 0)
  case atStart => exact ⟨rfl, xhide (ML.below1 _ _)⟩
  case round =>
    obtain ⟨rfl, HB⟩ := hrel
    go_wp2
    go_ret
    exact ⟨rfl, HB.out⟩
theorem apply_none (h : Pm w X b c S) (ho : S.ws = none) (t : Int) (ht : isT t = true) (hle : t ≤ S.t) : Calls Try.prog 11 #[ptr X, .agg #[.int .i64 t, .slice none 0 0]] w fun e w' => e = .returned (.int .i64 180) ∧ Below w.heap.size w w' := by
  obtain ⟨W1, hW1⟩ : ∃ W1, W1 = w.alloc (.cells #[.int .i64 t, .slice none 0 0] 36) := ⟨_, rfl⟩
  have hb1 : Below w.heap.size w W1 := by rw [hW1]; exact ML.below1 _ _
  have h1 := h.below hb1
  obtain ⟨c0, c1, c2⟩ := h1.cells
  have hcn : c = none := by have := h.wm; rw [ho] at this; exact this
  subst hcn
  have hc : W1.heap[w.heap.size]? = some (.cells #[.int .i64 t, .slice none 0 0] 36 (0, 0)) := by rw [hW1]; exact ML.heap_alloc_at rfl _
  have z0 : W1.cell? ⟨w.heap.size, 0, none⟩ = some (.int .i64 t) := by rw [Go.Joins.cell_of_block hc]; rfl
  have z1 : W1.cell? ⟨w.heap.size, 1, none⟩ = some (.slice none 0 0) := by rw [Go.Joins.cell_of_block hc]; rfl
  have hlw : w.heap.size < W1.heap.size := (Array.getElem?_eq_some_iff.1 hc).1
  have hlX := h1.lt
  have HN := xhide (none_any h1)
  have HR := xhide (fun w => isRight_none t ht w)
  have HB1 := xhide hb1
  have q1 := neWn
  have hX := xhide (show X < W1.heap.size from hlX)
  clear h h1 hb1 hc
  go_enter Try.func11, Try.ntmps11
  go_wp2_with fail
  rw [← hW1]
  clear hW1
  refine HN.out.mono ?_
  rintro e w1 ⟨rfl, rfl⟩
  go_wp2_with fail
  go_region_with (go_at_call 30; refine (HR.out _).mono ?_; rintro e w3 ⟨rfl, hb3⟩; have k0 := (hb3.cell (p := ⟨w.heap.size, 0, none⟩) (by simpa using hlw)).trans (by first | exact z0 | simpa using z0); have k1 := (hb3.cell (p := ⟨X, 1, none⟩) (by simpa using hlX)).trans (by first | exact c1 | simpa using c1))
  all_goals
    go_wp2
    go_ret
    have hb4 : Below w1.heap.size w1 w3 := ⟨hb3.os, hb3.tape, hb3.output, hb3.size, hb3.block⟩
    exact ⟨rfl, HB1.out.trans (hb4.mono HB1.out.size)⟩
theorem ok0 : okTo [(⟨bA, bX, 5⟩ : Ro)] 1 = true := by simp [okTo, okAt, rightR, roW, isK, isV, isT, List.range_succ, s_zA, show bX.size = 1 from rfl]
theorem eqRo (r : Ro) (u : World) : (binOp .eql 45 (.agg #[.string r.k, .string r.v, .int .i64 r.t]) (.agg #[.string r.k, .string r.v, .int .i64 r.t])).run Try.prog u = .ok (.bool true) u := by
  rw [run_eql_struct, run_equalIn_agg _ 9999 45 _ _ ML.htRo ML.hpRo]
  unfold Program.fieldsOf
  rw [Try.underlying45]
  simp only [Op.eqFields]
  simp [go_sem, Try.isAgg9, Try.isAgg2, Try.sizeOf9, Try.sizeOf2, Try.underlying9, Try.underlying2]
theorem rs_one (w : World) (r : Ro) : RS (w.alloc (.cells #[.string r.k, .string r.v, .int .i64 r.t] 45)) (some ⟨w.heap.size, 0, none⟩) 1 1 [r] := by
  refine ⟨rfl, Nat.le_refl _, by unfold maxLen; omega, fun _ => ⟨w.heap.size, 0, rfl, by simp, fun i x hi j u hu => ?_⟩⟩
  have hi0 : i = 0 := by have := (List.getElem?_eq_some_iff.1 hi).1; simpa using this
  subst hi0
  simp only [List.getElem?_cons_zero, Option.some.injEq] at hi
  subst hi
  rw [Go.Joins.cell_of_block (heap_alloc_new _ _)]
  simpa using hu
def RB (u : World) (g : Nat) (r : Ro) : Prop := u.cell? ⟨g, 0, none⟩ = some (.string r.k) ∧ u.cell? ⟨g, 1, none⟩ = some (.string r.v) ∧ u.cell? ⟨g, 2, none⟩ = some (.int .i64 r.t)
theorem RB.keep {u u' : World} {g : Nat} {r : Ro} (h : RB u g r) (e : u'.heap[g]? = u.heap[g]?) : RB u' g r :=
  ⟨(World.cell?_of_block e).trans h.1, (World.cell?_of_block e).trans h.2.1, (World.cell?_of_block e).trans h.2.2⟩
theorem big_T : (1 : Nat) + 64 ≤ big := by unfold big; omega
theorem shown18 (w : World) : Calls Try.prog 7 #[] w fun e w' => e = .returned (.bool true) ∧ Below w.heap.size w w' := by
  have HNEW := xhide (new_any (rs_one w ⟨bA, bX, 5⟩) (by omega))
  have hB1 := ML.below1 w (.cells #[.string bA, .string bX, .int .i64 5] 45)
  have HB1 := xhide hB1
  clear hB1
  go_enter Try.func7, Try.ntmps7
  go_wp2_with fail
  refine HNEW.out.mono ?_
  rintro e u0 ⟨hb0, ⟨hbad, _⟩ | ⟨_, X, b, rfl, hP, hX, hb⟩⟩
  · rw [show okTo [(⟨bA, bX, 5⟩ : Ro)] [(⟨bA, bX, 5⟩ : Ro)].length = true from ok0] at hbad; cases hbad
  have hm0 : Mo w.heap.size [] u0 X T0 := ⟨b, none, hP, by have := hX; simp at this; omega, by have := hb; simp at this; omega, nofun, by have h1 := hb0.size; simp at h1; omega, nofun⟩
  have hc0 : Below w.heap.size w u0 := HB1.out.trans (hb0.mono (by simp))
  have HM := xhide hm0
  have HC := xhide hc0
  clear hP hX hb hb0 hm0 hc0 HNEW HB1
  go_wp2_with fail
  refine (mo_code HM.out big_T ⟨2, 0, bA, z0, z0, 0, 0⟩).mono ?_
  rintro e u1 ⟨he, hm, hb, hk⟩
  rw [t1] at he hm
  simp only [] at he hm
  subst he
  have HC1 := xhide (HC.out.trans hb)
  clear HC
  replace HM := xhide hm
  clear hm hb hk
  go_wp2_with fail
  refine (mo_code HM.out big_T ⟨1, 1, z0, z0, z0, 0, 0⟩).mono ?_
  rintro e u2 ⟨he, hm, hb, hk⟩
  rw [t2] at he hm
  simp only [] at he hm
  subst he
  have HC2 := xhide (HC1.out.trans hb)
  clear HC1
  replace HM := xhide hm
  clear hm hb hk
  go_wp2_with fail
  refine (mo_do HM.out big_T ⟨2, 0, bA, z0, z0, 0, 0⟩).mono ?_
  rintro e u3 ⟨v3, rfl, hv, hm, hb, hk, hg⟩
  rw [t3] at hv hm hg
  obtain ⟨ao3, ln3, cp3, rfl, hrs3, hth3⟩ := rpv_slice hv
  simp only [] at hrs3 hm hg
  have hbA := ML.below1 u3 (.cells (rpA 0 bX true (.slice ao3 ln3 cp3) 0) 41)
  have HC3 := xhide ((HC2.out.trans hb).trans (hbA.mono hm.base))
  have RP3_3 := xhide (heap_alloc_new u3 (.cells (rpA 0 bX true (.slice ao3 ln3 cp3) 0) 41))
  clear HC2
  replace HM := xhide (hm.add (.cells (rpA 0 bX true (.slice ao3 ln3 cp3) 0) 41))
  clear hm hb hk hg hv hbA hrs3 hth3
  go_wp2_with fail
  refine (mo_code HM.out big_T ⟨4, 0, bA, z0, z0, 0, 0⟩).mono ?_
  rintro e u4 ⟨he, hm, hb, hk⟩
  rw [t4] at he hm
  simp only [] at he hm
  subst he
  have HC4 := xhide (HC3.out.trans hb)
  have RP3_4 := xhide ((hk _ (by simp)).trans RP3_3.out)
  clear HC3 RP3_3
  replace HM := xhide hm
  clear hm hb hk
  go_wp2_with fail
  refine (mo_code HM.out big_T ⟨4, 0, bB, z0, bY, 0, 0⟩).mono ?_
  rintro e u5 ⟨he, hm, hb, hk⟩
  rw [t5] at he hm
  simp only [] at he hm
  subst he
  have HC5 := xhide (HC4.out.trans hb)
  have RP3_5 := xhide ((hk _ (by simp)).trans RP3_4.out)
  clear HC4 RP3_4
  replace HM := xhide hm
  clear hm hb hk
  go_wp2_with fail
  refine (mo_code HM.out big_T ⟨6, 0, bA, z0, z0, 0, 0⟩).mono ?_
  rintro e u6 ⟨he, hm, hb, hk⟩
  rw [t6] at he hm
  simp only [] at he hm
  subst he
  have HC6 := xhide (HC5.out.trans hb)
  have RP3_6 := xhide ((hk _ (by simp)).trans RP3_5.out)
  clear HC5 RP3_5
  replace HM := xhide hm
  clear hm hb hk
  go_wp2_with fail
  refine (mo_do HM.out big_T ⟨3, 0, z0, z0, z0, 0, 0⟩).mono ?_
  rintro e u7 ⟨v7, rfl, hv, hm, hb, hk, hg⟩
  rw [t7] at hv hm hg
  obtain ⟨ao7, ln7, cp7, rfl, hrs7, hth7⟩ := rpv_slice hv
  simp only [] at hrs7 hm hg
  obtain rfl := hrs7.1
  obtain ⟨gg, off, rfl, hgl, hgc⟩ := ML.RS.at hrs7 (by simp)
  obtain ⟨gg', e1, hge, _⟩ := hth7 (by simp)
  cases e1
  replace hm := hg gg hge hgl (by simp)
  have hRB : RB u7 gg ⟨bB, bY, 0⟩ := by simpa [RB] using hgc 0 ⟨bB, bY, 0⟩ rfl
  have hbA := ML.below1 u7 (.cells (rpA 0 .empty false (.slice (some ⟨gg, 0, none⟩) [(⟨bB, bY, 0⟩ : Ro)].length cp7) 0) 41)
  have HC7 := xhide ((HC6.out.trans hb).trans (hbA.mono hm.base))
  have RP3_7 := xhide ((hbA.block _ ((show _ < u7.heap.size from by obtain ⟨_, _, _, _, _, _, _, h5⟩ := hm; exact (h5 _ (by simp)).1))).trans ((hk _ (by simp)).trans RP3_6.out))
  have RB_7 := xhide (hRB.keep (hbA.block gg hgl))
  have RP7_7 := xhide (heap_alloc_new u7 (.cells (rpA 0 .empty false (.slice (some ⟨gg, 0, none⟩) [(⟨bB, bY, 0⟩ : Ro)].length cp7) 0) 41))
  clear HC6 RP3_6
  replace HM := xhide (hm.add (.cells (rpA 0 .empty false (.slice (some ⟨gg, 0, none⟩) [(⟨bB, bY, 0⟩ : Ro)].length cp7) 0) 41))
  clear hm hb hk hg hv hbA hRB hgc hrs7 hth7
  go_wp2_with fail
  refine (mo_code HM.out big_T ⟨11, 0, z0, z0, z0, 0, 0⟩).mono ?_
  rintro e u8 ⟨he, hm, hb, hk⟩
  rw [t8] at he hm
  simp only [] at he hm
  subst he
  have RB_8 := xhide (RB_7.out.keep (hk gg (by simp)))
  have HC8 := xhide (HC7.out.trans hb)
  have RP3_8 := xhide ((hk _ (by simp)).trans RP3_7.out)
  have RP7_8 := xhide ((hk _ (by simp)).trans RP7_7.out)
  clear HC7 RP3_7 RP7_7 RB_7
  replace HM := xhide hm
  clear hm hb hk
  go_wp2_with fail
  refine (mo_do HM.out big_T ⟨7, 0, z0, z0, z0, 0, 0⟩).mono ?_
  rintro e u9 ⟨v9, rfl, hv, hm, hb, hk, hg⟩
  rw [t9] at hv hm hg
  obtain ⟨ao9, ln9, cp9, rfl, hrs9, hth9⟩ := rpv_slice hv
  simp only [] at hrs9 hm hg
  have hbA := ML.below1 u9 (.cells (rpA 0 .empty false (.slice ao9 ln9 cp9) 6) 41)
  have HC9 := xhide ((HC8.out.trans hb).trans (hbA.mono hm.base))
  have RP3_9 := xhide ((hbA.block _ ((show _ < u9.heap.size from by obtain ⟨_, _, _, _, _, _, _, h5⟩ := hm; exact (h5 _ (by simp)).1))).trans ((hk _ (by simp)).trans RP3_8.out))
  have RP7_9 := xhide ((hbA.block _ ((show _ < u9.heap.size from by obtain ⟨_, _, _, _, _, _, _, h5⟩ := hm; exact (h5 _ (by simp)).1))).trans ((hk _ (by simp)).trans RP7_8.out))
  have RB_9 := xhide ((RB_8.out.keep (hk gg (by simp))).keep (hbA.block gg ((show _ < u9.heap.size from by obtain ⟨_, _, _, _, _, _, _, h5⟩ := hm; exact (h5 _ (by simp)).1))))
  have RP9_9 := xhide (heap_alloc_new u9 (.cells (rpA 0 .empty false (.slice ao9 ln9 cp9) 6) 41))
  clear HC8 RP3_8 RP7_8 RB_8
  replace HM := xhide (hm.add (.cells (rpA 0 .empty false (.slice ao9 ln9 cp9) 6) 41))
  clear hm hb hk hg hv hbA hrs9 hth9
  go_wp2_with fail
  refine (mo_rows HM.out (by have := big_T; show (1 : Nat) ≤ big; omega)).mono ?_
  rintro e ua ⟨aoa, cpa, he, hrsa, _, hma, hba⟩
  rw [show T4.L.length = 1 from rfl] at he hrsa
  subst he
  obtain ⟨ga, offa, rfl, hgla, hgca⟩ := ML.RS.at hrsa (by omega)
  have la0 : ua.cell? ⟨ga, offa, none⟩ = some (.string bB) := by simpa using (hgca 0 ⟨bB, bY, 6⟩ rfl).1
  have la1 : ua.cell? ⟨ga, offa + 1, none⟩ = some (.string bY) := by simpa using (hgca 0 ⟨bB, bY, 6⟩ rfl).2.1
  have la2 : ua.cell? ⟨ga, offa + 2, none⟩ = some (.int .i64 6) := by simpa using (hgca 0 ⟨bB, bY, 6⟩ rfl).2.2
  replace la0 : ua.cell? ⟨ga, offa, none⟩ = some (.string ⟨#[98]⟩) := la0
  replace la1 : ua.cell? ⟨ga, offa + 1, none⟩ = some (.string ⟨#[121]⟩) := la1
  have rp3 := (hba.block _ (Array.getElem?_eq_some_iff.1 RP3_9.out).1).trans RP3_9.out
  have rp7 := (hba.block _ (Array.getElem?_eq_some_iff.1 RP7_9.out).1).trans RP7_9.out
  have rp9 := (hba.block _ (Array.getElem?_eq_some_iff.1 RP9_9.out).1).trans RP9_9.out
  have hggl : gg < (u9.alloc (.cells (rpA 0 .empty false (.slice ao9 ln9 cp9) 6) 41)).heap.size := by obtain ⟨_, _, _, _, _, _, _, h5⟩ := HM.out; exact (h5 gg (by simp)).1
  obtain ⟨rb0', rb1', rb2'⟩ := RB_9.out.keep (hba.block gg hggl)
  have rb0 : ua.cell? ⟨gg, 0, none⟩ = some (.string ⟨#[98]⟩) := rb0'
  have rb1 : ua.cell? ⟨gg, 1, none⟩ = some (.string ⟨#[121]⟩) := rb1'
  have rb2 : ua.cell? ⟨gg, 2, none⟩ = some (.int .i64 0) := rb2'
  have x31 : ua.cell? ⟨u3.heap.size, 1, none⟩ = some (.string ⟨#[120]⟩) := by rw [Go.Joins.cell_of_block rp3]; rfl
  have x32 : ua.cell? ⟨u3.heap.size, 2, none⟩ = some (.bool true) := by rw [Go.Joins.cell_of_block rp3]; rfl
  have x73 : ua.cell? ⟨u7.heap.size, 3, none⟩ = some (.slice (some ⟨gg, 0, none⟩) 1 cp7) := by rw [Go.Joins.cell_of_block rp7]; rfl
  have x94 : ua.cell? ⟨u9.heap.size, 4, none⟩ = some (.int .i64 6) := by rw [Go.Joins.cell_of_block rp9]; rfl
  have e1 := eqRo ⟨⟨#[98]⟩, ⟨#[121]⟩, 0⟩
  have e2 := eqRo ⟨⟨#[98]⟩, ⟨#[121]⟩, 6⟩
  simp only [] at e1 e2
  have HCA := xhide (HC9.out.trans (hba.mono HM.out.base))
  have HMA := xhide hma
  have HAP : Hid (Calls Try.prog 11 #[ptr X, .agg #[.int .i64 6, .slice none 0 0]] ua fun e w' => e = .returned (.int .i64 180) ∧ Below ua.heap.size ua w') := xhide (by
    obtain ⟨b', c', hP', _⟩ := HMA.out
    exact apply_none hP' rfl 6 (by simp [isT]) (by show (6 : Int) ≤ 6; omega))
  clear hrsa hma hba hgca rp3 rp7 rp9 hggl rb0' rb1' rb2' HC9 RP3_9 RP7_9 RP9_9 RB_9 HM
  go_wp2_with fail
  refine HAP.out.mono ?_
  rintro e ub ⟨rfl, hbb⟩
  have HCB := xhide (HCA.out.trans (hbb.mono HMA.out.base))
  clear hbb
  go_wp2
  go_ret
  exact ⟨rfl, HCB.out⟩
end
end Go.Proofs.Ytheidhkmmihjlaa
