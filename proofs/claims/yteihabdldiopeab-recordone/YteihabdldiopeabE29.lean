/-
  RecordOne: bytes that are read are those of what is told, and are read as one kind at most.
-/
import Derived.Test.YteihabdldiopeabE22
import Derived.Test.YteihabdldiopeabE1
set_option linter.unusedVariables false
set_option linter.unusedSimpArgs false
namespace Go.Proofs.Yteihabdldiopeab
open Go.RowKit Go.Maps

/-- At most one kind. -/
theorem one_kind {xs : List Int} (hb : Byt xs) :
    ((vC xs).2 = 0 → ¬ (vR xs).2 = 0 ∧ ¬ (vG xs).2 = 0 ∧ ¬ (vM xs).2 = 0) ∧ ((vR xs).2 = 0 → ¬ (vG xs).2 = 0 ∧ ¬ (vM xs).2 = 0) ∧ ((vG xs).2 = 0 → ¬ (vM xs).2 = 0) := by
  have h1 : (vC xs).2 = 0 → xs.head? = some 67 := fun h => by rw [(one_C hb h).1]; rfl
  have h2 : (vR xs).2 = 0 → xs.head? = some 82 := fun h => by rw [(one_R hb h).1]; rfl
  have h3 : (vG xs).2 = 0 → xs.head? = some 71 := fun h => by rw [(one_G hb h).1]; rfl
  have h4 : (vM xs).2 = 0 → xs.head? = some 77 := fun h => by rw [(one_M hb h).1]; rfl
  refine ⟨fun h => ⟨fun k => ?_, fun k => ?_, fun k => ?_⟩, fun h => ⟨fun k => ?_, fun k => ?_⟩, fun h k => ?_⟩
  · have := (h1 h).symm.trans (h2 k); simp at this
  · have := (h1 h).symm.trans (h3 k); simp at this
  · have := (h1 h).symm.trans (h4 k); simp at this
  · have := (h2 h).symm.trans (h3 k); simp at this
  · have := (h2 h).symm.trans (h4 k); simp at this
  · have := (h3 h).symm.trans (h4 k); simp at this

section
variable (w : World)
set_option maxRecDepth 100000
set_option maxHeartbeats 2000000

theorem one_walk (ao : Option Addr) (len cap : Nat) (xs : List Int) (h : Sl w ao len cap xs) :
    Calls Try.prog 3 #[.slice ao len cap] w fun e w' => e = .returned (.bool true) ∧ Below w.heap.size w w' := by
  have hb := h.2.2.2.1
  obtain ⟨k1, k2, k3⟩ := one_kind hb
  have qC := one_C hb
  have qR := one_R hb
  have qG := one_G hb
  have qM := one_M hb
  have HSL := hide3 h
  have HC := fun (u : World) (hu : Below w.heap.size w u) => PCommit_any (h.below hu)
  have HR := fun (u : World) (hu : Below w.heap.size w u) => PRow_any (h.below hu)
  have HG := fun (u : World) (hu : Below w.heap.size w u) => PGone_any (h.below hu)
  have HM := fun (u : World) (hu : Below w.heap.size w u) => PManifest_any (h.below hu)
  generalize vC xs = VC at *
  generalize oC xs = OC at *
  generalize vR xs = VR at *
  generalize oR xs = OR at *
  generalize vG xs = VG at *
  generalize oG xs = OG at *
  generalize vM xs = VM at *
  generalize oM xs = OM at *
  obtain ⟨tc, wsc⟩ := OC
  obtain ⟨rk, rv, rt⟩ := OR
  obtain ⟨gk, gt⟩ := OG
  obtain ⟨tm, lm, psm⟩ := OM
  unfold Rw.v at HR
  unfold Gn.v at HG
  simp only [] at *
  have QC := hide3 qC
  have QR := hide3 qR
  have QG := hide3 qG
  have QM := hide3 qM
  clear h qC qR qG qM
  go_enter Try.func3, Try.ntmps3
  go_wp2_with fail
  refine (shown_any).mono ?_
  rintro e w1 ⟨rfl, B1⟩
  go_wp2_with fail
  refine (HC w1 B1).mono ?_
  rintro e w2 ⟨v2, rfl, o2, hb2⟩
  obtain ⟨a2, l2, c2, rfl⟩ := row_form o2
  have B2 := below_more (below_on B1 hb2) (.cells #[.int .i64 tc, .slice a2 l2 c2] 26)
  have b2 := heap_alloc_new w2 (.cells #[.int .i64 tc, .slice a2 l2 c2] 26)
  have o2' := row_below o2 ((Below.refl _ _).alloc (Nat.le_refl _) (.cells #[.int .i64 tc, .slice a2 l2 c2] 26))
  have n2 : w2.heap.size < (w2.alloc (.cells #[.int .i64 tc, .slice a2 l2 c2] 26)).heap.size := by simp
  clear HC B1 hb2 o2
  go_wp2_with fail
  refine (HR _ B2).mono ?_
  rintro e w3 ⟨rfl, hb3⟩
  have B3 := below_more (below_on B2 hb3) (.cells #[.string rk, .string rv, .int .i64 rt] 31)
  have s3 := hb3.size
  have b3 := (blk_alloc' w3 (.cells #[.string rk, .string rv, .int .i64 rt] 31) w2.heap.size (by omega)).trans ((hb3.block _ n2).trans b2)
  have r3 := heap_alloc_new w3 (.cells #[.string rk, .string rv, .int .i64 rt] 31)
  have o3 := row_below (row_below o2' hb3) ((Below.refl _ _).alloc (Nat.le_refl _) (.cells #[.string rk, .string rv, .int .i64 rt] 31))
  have n3 : w3.heap.size < (w3.alloc (.cells #[.string rk, .string rv, .int .i64 rt] 31)).heap.size := by simp
  clear HR B2 hb3 b2 o2'
  go_wp2_with fail
  refine (HG _ B3).mono ?_
  rintro e w4 ⟨rfl, hb4⟩
  have B4 := below_more (below_on B3 hb4) (.cells #[.string gk, .int .i64 gt] 35)
  have s4 := hb4.size
  have b4 := (blk_alloc' w4 (.cells #[.string gk, .int .i64 gt] 35) w2.heap.size (by omega)).trans ((hb4.block _ (by omega)).trans b3)
  have r4 := (blk_alloc' w4 (.cells #[.string gk, .int .i64 gt] 35) w3.heap.size (by omega)).trans ((hb4.block _ n3).trans r3)
  have g4 := heap_alloc_new w4 (.cells #[.string gk, .int .i64 gt] 35)
  have o4 := row_below (row_below o3 hb4) ((Below.refl _ _).alloc (Nat.le_refl _) (.cells #[.string gk, .int .i64 gt] 35))
  have n4 : w4.heap.size < (w4.alloc (.cells #[.string gk, .int .i64 gt] 35)).heap.size := by simp
  clear HG B3 hb4 b3 r3 o3
  go_wp2_with fail
  refine (HM _ B4).mono ?_
  rintro e w5 ⟨v5, rfl, o5, hb5⟩
  obtain ⟨a5, l5, c5, rfl⟩ := row_form o5
  have B5 := below_more (below_on B4 hb5) (.cells #[.int .i64 tm, .int .i64 lm, .slice a5 l5 c5] 40)
  have s5 := hb5.size
  have b5 := (blk_alloc' w5 (.cells #[.int .i64 tm, .int .i64 lm, .slice a5 l5 c5] 40) w2.heap.size (by omega)).trans ((hb5.block _ (by omega)).trans b4)
  have r5 := (blk_alloc' w5 (.cells #[.int .i64 tm, .int .i64 lm, .slice a5 l5 c5] 40) w3.heap.size (by omega)).trans ((hb5.block _ (by omega)).trans r4)
  have g5 := (blk_alloc' w5 (.cells #[.int .i64 tm, .int .i64 lm, .slice a5 l5 c5] 40) w4.heap.size (by omega)).trans ((hb5.block _ n4).trans g4)
  have m5 := heap_alloc_new w5 (.cells #[.int .i64 tm, .int .i64 lm, .slice a5 l5 c5] 40)
  have oc := row_below (row_below o4 hb5) ((Below.refl _ _).alloc (Nat.le_refl _) (.cells #[.int .i64 tm, .int .i64 lm, .slice a5 l5 c5] 40))
  have om := row_below o5 ((Below.refl _ _).alloc (Nat.le_refl _) (.cells #[.int .i64 tm, .int .i64 lm, .slice a5 l5 c5] 40))
  clear HM B4 hb5 b4 r4 g4 o4 o5
  obtain ⟨pC, eC⟩ := VC
  obtain ⟨pR, eR⟩ := VR
  obtain ⟨pG, eG⟩ := VG
  obtain ⟨pM, eM⟩ := VM
  simp only [] at *
  by_cases hC : eC = 0
  · obtain ⟨zR0, zG0, zM0⟩ := k1 hC
    have zR : ¬ eR = 0 := zR0
    have zR1 : (eR == 0) = false := by simpa using zR0
    have zR2 : (eR != 0) = true := by simpa using zR0
    have zG : ¬ eG = 0 := zG0
    have zG1 : (eG == 0) = false := by simpa using zG0
    have zG2 : (eG != 0) = true := by simpa using zG0
    have zM : ¬ eM = 0 := zM0
    have zM1 : (eM == 0) = false := by simpa using zM0
    have zM2 : (eM != 0) = true := by simpa using zM0
    clear k1 k2 k3
    subst hC
    obtain ⟨q1, q2⟩ := QC.out rfl
    have HP : Calls Try.prog 9 #[.agg #[.int .i64 tc, .slice a2 l2 c2]] (w5.alloc (.cells #[.int .i64 tm, .int .i64 lm, .slice a5 l5 c5] 40)) _ := PutCommit_any tc (row_seq oc (fun _ => rfl))
    rw [q2, ← q1] at HP
    have HP2 := hide3 HP
    have d0 : (w5.alloc (.cells #[.int .i64 tm, .int .i64 lm, .slice a5 l5 c5] 40)).cell? ⟨w2.heap.size, 0, none⟩ = some (.int .i64 tc) := by rw [Go.Joins.cell_of_block b5]; rfl
    have d1 : (w5.alloc (.cells #[.int .i64 tm, .int .i64 lm, .slice a5 l5 c5] 40)).cell? ⟨w2.heap.size, 1, none⟩ = some (.slice a2 l2 c2) := by rw [Go.Joins.cell_of_block b5]; rfl
    clear HP q1 q2 QC QR QG QM
    go_wp2_with fail
    refine HP2.out.mono ?_
    rintro e w6 ⟨v6, rfl, o6, hb6⟩
    rw [show er true = 0 from rfl]
    replace o6 : Own w6 (w5.alloc (.cells #[.int .i64 tm, .int .i64 lm, .slice a5 l5 c5] 40)).heap.size v6 xs := o6
    have B6 := below_on B5 hb6
    obtain ⟨a6, n6, p6, rfl, s6, _⟩ := o6.sl' hb
    have t6 := s6.str (P := Try.prog) 22 Try.underlying22 Try.underlying5 Try.underlying9
    have t7 := (HSL.out.below B6).str (P := Try.prog) 22 Try.underlying22 Try.underlying5 Try.underlying9
    clear HP2 o6 s6 d0 d1
    go_wp2
    go_ret
    exact ⟨rfl, B6⟩
  have zC0 := hC
  by_cases hR : eR = 0
  · obtain ⟨zG0, zM0⟩ := k2 hR
    have zC : ¬ eC = 0 := zC0
    have zC1 : (eC == 0) = false := by simpa using zC0
    have zC2 : (eC != 0) = true := by simpa using zC0
    have zG : ¬ eG = 0 := zG0
    have zG1 : (eG == 0) = false := by simpa using zG0
    have zG2 : (eG != 0) = true := by simpa using zG0
    have zM : ¬ eM = 0 := zM0
    have zM1 : (eM == 0) = false := by simpa using zM0
    have zM2 : (eM != 0) = true := by simpa using zM0
    clear k1 k2 k3
    subst hR
    obtain ⟨q1, q2⟩ := QR.out rfl
    have HP : Calls Try.prog 10 #[.agg #[.string rk, .string rv, .int .i64 rt]] (w5.alloc (.cells #[.int .i64 tm, .int .i64 lm, .slice a5 l5 c5] 40)) _ := PutRow_any ⟨rk, rv, rt⟩
    rw [q2, ← q1] at HP
    have HP2 := hide3 HP
    have d0 : (w5.alloc (.cells #[.int .i64 tm, .int .i64 lm, .slice a5 l5 c5] 40)).cell? ⟨w3.heap.size, 0, none⟩ = some (.string rk) := by rw [Go.Joins.cell_of_block r5]; rfl
    have d1 : (w5.alloc (.cells #[.int .i64 tm, .int .i64 lm, .slice a5 l5 c5] 40)).cell? ⟨w3.heap.size, 1, none⟩ = some (.string rv) := by rw [Go.Joins.cell_of_block r5]; rfl
    have d2 : (w5.alloc (.cells #[.int .i64 tm, .int .i64 lm, .slice a5 l5 c5] 40)).cell? ⟨w3.heap.size, 2, none⟩ = some (.int .i64 rt) := by rw [Go.Joins.cell_of_block r5]; rfl
    clear HP q1 q2 QC QR QG QM
    go_wp2_with fail
    refine HP2.out.mono ?_
    rintro e w6 ⟨v6, rfl, o6, hb6⟩
    rw [show er true = 0 from rfl]
    replace o6 : Own w6 (w5.alloc (.cells #[.int .i64 tm, .int .i64 lm, .slice a5 l5 c5] 40)).heap.size v6 xs := o6
    have B6 := below_on B5 hb6
    obtain ⟨a6, n6, p6, rfl, s6, _⟩ := o6.sl' hb
    have t6 := s6.str (P := Try.prog) 22 Try.underlying22 Try.underlying5 Try.underlying9
    have t7 := (HSL.out.below B6).str (P := Try.prog) 22 Try.underlying22 Try.underlying5 Try.underlying9
    clear HP2 o6 s6 d0 d1 d2
    go_wp2
    go_ret
    exact ⟨rfl, B6⟩
  have zR0 := hR
  by_cases hG : eG = 0
  · have zM0 := k3 hG
    have zC : ¬ eC = 0 := zC0
    have zC1 : (eC == 0) = false := by simpa using zC0
    have zC2 : (eC != 0) = true := by simpa using zC0
    have zR : ¬ eR = 0 := zR0
    have zR1 : (eR == 0) = false := by simpa using zR0
    have zR2 : (eR != 0) = true := by simpa using zR0
    have zM : ¬ eM = 0 := zM0
    have zM1 : (eM == 0) = false := by simpa using zM0
    have zM2 : (eM != 0) = true := by simpa using zM0
    clear k1 k2 k3
    subst hG
    obtain ⟨q1, q2⟩ := QG.out rfl
    have HP : Calls Try.prog 11 #[.agg #[.string gk, .int .i64 gt]] (w5.alloc (.cells #[.int .i64 tm, .int .i64 lm, .slice a5 l5 c5] 40)) _ := PutGone_any ⟨gk, gt⟩
    rw [q2, ← q1] at HP
    have HP2 := hide3 HP
    have d0 : (w5.alloc (.cells #[.int .i64 tm, .int .i64 lm, .slice a5 l5 c5] 40)).cell? ⟨w4.heap.size, 0, none⟩ = some (.string gk) := by rw [Go.Joins.cell_of_block g5]; rfl
    have d1 : (w5.alloc (.cells #[.int .i64 tm, .int .i64 lm, .slice a5 l5 c5] 40)).cell? ⟨w4.heap.size, 1, none⟩ = some (.int .i64 gt) := by rw [Go.Joins.cell_of_block g5]; rfl
    clear HP q1 q2 QC QR QG QM
    go_wp2_with fail
    refine HP2.out.mono ?_
    rintro e w6 ⟨v6, rfl, o6, hb6⟩
    rw [show er true = 0 from rfl]
    replace o6 : Own w6 (w5.alloc (.cells #[.int .i64 tm, .int .i64 lm, .slice a5 l5 c5] 40)).heap.size v6 xs := o6
    have B6 := below_on B5 hb6
    obtain ⟨a6, n6, p6, rfl, s6, _⟩ := o6.sl' hb
    have t6 := s6.str (P := Try.prog) 22 Try.underlying22 Try.underlying5 Try.underlying9
    have t7 := (HSL.out.below B6).str (P := Try.prog) 22 Try.underlying22 Try.underlying5 Try.underlying9
    clear HP2 o6 s6 d0 d1
    go_wp2
    go_ret
    exact ⟨rfl, B6⟩
  have zG0 := hG
  by_cases hM : eM = 0
  · skip
    have zC : ¬ eC = 0 := zC0
    have zC1 : (eC == 0) = false := by simpa using zC0
    have zC2 : (eC != 0) = true := by simpa using zC0
    have zR : ¬ eR = 0 := zR0
    have zR1 : (eR == 0) = false := by simpa using zR0
    have zR2 : (eR != 0) = true := by simpa using zR0
    have zG : ¬ eG = 0 := zG0
    have zG1 : (eG == 0) = false := by simpa using zG0
    have zG2 : (eG != 0) = true := by simpa using zG0
    clear k1 k2 k3
    subst hM
    obtain ⟨q1, q2⟩ := QM.out rfl
    have HP : Calls Try.prog 12 #[.agg #[.int .i64 tm, .int .i64 lm, .slice a5 l5 c5]] (w5.alloc (.cells #[.int .i64 tm, .int .i64 lm, .slice a5 l5 c5] 40)) _ := PutManifest_any tm lm (row_seq om (fun _ => rfl))
    rw [q2, ← q1] at HP
    have HP2 := hide3 HP
    have d0 : (w5.alloc (.cells #[.int .i64 tm, .int .i64 lm, .slice a5 l5 c5] 40)).cell? ⟨w5.heap.size, 0, none⟩ = some (.int .i64 tm) := by rw [Go.Joins.cell_of_block m5]; rfl
    have d1 : (w5.alloc (.cells #[.int .i64 tm, .int .i64 lm, .slice a5 l5 c5] 40)).cell? ⟨w5.heap.size, 1, none⟩ = some (.int .i64 lm) := by rw [Go.Joins.cell_of_block m5]; rfl
    have d2 : (w5.alloc (.cells #[.int .i64 tm, .int .i64 lm, .slice a5 l5 c5] 40)).cell? ⟨w5.heap.size, 2, none⟩ = some (.slice a5 l5 c5) := by rw [Go.Joins.cell_of_block m5]; rfl
    clear HP q1 q2 QC QR QG QM
    go_wp2_with fail
    refine HP2.out.mono ?_
    rintro e w6 ⟨v6, rfl, o6, hb6⟩
    rw [show er true = 0 from rfl]
    replace o6 : Own w6 (w5.alloc (.cells #[.int .i64 tm, .int .i64 lm, .slice a5 l5 c5] 40)).heap.size v6 xs := o6
    have B6 := below_on B5 hb6
    obtain ⟨a6, n6, p6, rfl, s6, _⟩ := o6.sl' hb
    have t6 := s6.str (P := Try.prog) 22 Try.underlying22 Try.underlying5 Try.underlying9
    have t7 := (HSL.out.below B6).str (P := Try.prog) 22 Try.underlying22 Try.underlying5 Try.underlying9
    clear HP2 o6 s6 d0 d1 d2
    go_wp2
    go_ret
    exact ⟨rfl, B6⟩
  · have zM0 := hM
    have zC : ¬ eC = 0 := zC0
    have zC1 : (eC == 0) = false := by simpa using zC0
    have zC2 : (eC != 0) = true := by simpa using zC0
    have zR : ¬ eR = 0 := zR0
    have zR1 : (eR == 0) = false := by simpa using zR0
    have zR2 : (eR != 0) = true := by simpa using zR0
    have zG : ¬ eG = 0 := zG0
    have zG1 : (eG == 0) = false := by simpa using zG0
    have zG2 : (eG != 0) = true := by simpa using zG0
    have zM : ¬ eM = 0 := zM0
    have zM1 : (eM == 0) = false := by simpa using zM0
    have zM2 : (eM != 0) = true := by simpa using zM0
    clear k1 k2 k3 QC QR QG QM
    go_wp2
    go_ret
    exact ⟨rfl, B5⟩
end
end Go.Proofs.Yteihabdldiopeab
