/-
  The document's examples at the head of each law.
-/
import Derived.Test.YteihabdldiopeaaE10
import Derived.Test.YteihabdldiopeaaE16c
import Derived.Test.YteihabdldiopeaaE16m
import Derived.Test.YteihabdldiopeaaE16g
set_option linter.unusedVariables false
set_option linter.unusedSimpArgs false
namespace Go.Proofs.Yteihabdldiopeaa
open Go.RowKit Go.Maps

def exC : Cm := ⟨300, [⟨⟨#[97]⟩, ⟨#[120]⟩, false⟩, ⟨⟨#[98]⟩, ⟨#[]⟩, true⟩]⟩
theorem ex1 : rightC exC = true := by decide +kernel
theorem ex2 : cb exC = [67, 172, 2, 2, 0, 1, 97, 1, 120, 1, 1, 98] := by decide +kernel
theorem ex3 : vC [67, 0, 1, 2] = (3, 61) := by decide +kernel
theorem ex4 : vM [77, 5, 2, 1, 1, 0, 5] = (0, 0) := by decide +kernel
theorem ex5 : (oM [77, 5, 2, 1, 1, 0, 5]).log = 2 ∧ (oM [77, 5, 2, 1, 1, 0, 5]).ps.length = 1 := by decide +kernel
theorem ex6 : vR [82, 0, 0, 0] = (0, 60) := by decide +kernel

/-- Bytes that are typed out. -/
theorem sl_new (w : World) (xs : List Int) (n : Nat) (hn : xs.length = n) (hb : Byt xs) (hm : n ≤ 1000) : Sl (w.alloc (.cells (bc xs).toArray 5)) (some ⟨w.heap.size, 0, none⟩) n n xs := by
  subst hn
  have hh := heap_alloc_new w (.cells (bc xs).toArray 5)
  refine ⟨rfl, Nat.le_refl _, by unfold maxLen; omega, hb, (fun e => by cases e), fun hl => ⟨w.heap.size, 0, rfl, by simp, fun i hi => ?_⟩⟩
  rw [Go.Joins.cell_of_block hh]
  simp [bc, List.getD, List.getElem?_eq_getElem hi]

theorem Own.alloc' {w : World} {base : Nat} {v : Value} {xs : List Int} (h : Own w base v xs) (o : Obj) : Own (w.alloc o) base v xs := World.ownsRow.alloc h o
theorem below_on {w u u' : World} (h : Below w.heap.size w u) (k : Below u.heap.size u u') : Below w.heap.size w u' := h.trans (k.mono h.size)
theorem below_more {w u : World} (h : Below w.heap.size w u) (o : Obj) : Below w.heap.size w (u.alloc o) := h.alloc h.size o

section
variable {w : World}
set_option maxRecDepth 100000
set_option maxHeartbeats 800000
theorem shown_any : Calls Try.prog 9 #[] w fun e w' => e = .returned (.bool true) ∧ Below w.heap.size w w' := by
  have hA : Below w.heap.size w (w.alloc (.cells #[.string ⟨#[97]⟩, .string ⟨#[120]⟩, .bool false, .string ⟨#[98]⟩, .string ⟨#[]⟩, .bool true] 28)) := (Below.refl _ _).alloc (Nat.le_refl _) _
  have hseq : Seq 3 Wr.cells (w.alloc (.cells #[.string ⟨#[97]⟩, .string ⟨#[120]⟩, .bool false, .string ⟨#[98]⟩, .string ⟨#[]⟩, .bool true] 28)) (some ⟨w.heap.size, 0, none⟩) 2 2 exC.ws := by
    have hh := heap_alloc_new w (.cells #[.string ⟨#[97]⟩, .string ⟨#[120]⟩, .bool false, .string ⟨#[98]⟩, .string ⟨#[]⟩, .bool true] 28)
    refine ⟨rfl, Nat.le_refl _, by unfold maxLen; omega, fun _ => ⟨w.heap.size, 0, rfl, by simp, fun i x hi j u hu => ?_⟩⟩
    rw [Go.Joins.cell_of_block hh]
    rcases i with _ | _ | i
    · cases hi
      rcases j with _ | _ | _ | j
      · cases hu; rfl
      · cases hu; rfl
      · cases hu; rfl
      · cases hu
    · cases hi
      rcases j with _ | _ | _ | j
      · cases hu; rfl
      · cases hu; rfl
      · cases hu; rfl
      · cases hu
    · cases hi
  have HP := PutCommit_any 300 hseq
  rw [show (⟨300, exC.ws⟩ : Cm) = exC from rfl, ex1, ex2] at HP
  have HP2 := hide3 HP
  clear HP hseq
  go_enter Try.func9, Try.ntmps9
  go_wp2_with fail
  refine HP2.out.mono ?_
  rintro e w1 ⟨v1, rfl, ho1, hb1⟩
  rw [show er true = 0 from rfl]
  replace ho1 : Own w1 _ v1 [67, 172, 2, 2, 0, 1, 97, 1, 120, 1, 1, 98] := ho1
  have hB1 : Below w.heap.size w w1 := below_on hA hb1
  have B1' := below_more hB1 (.cells #[.int .u8 67, .int .u8 0, .int .u8 1, .int .u8 2] 5)
  have o1' := ho1.alloc' (.cells #[.int .u8 67, .int .u8 0, .int .u8 1, .int .u8 2] 5)
  have S4 : Sl (w1.alloc (.cells #[.int .u8 67, .int .u8 0, .int .u8 1, .int .u8 2] 5)) (some ⟨w1.heap.size, 0, none⟩) 4 4 [67, 0, 1, 2] := sl_new w1 [67, 0, 1, 2] 4 rfl (by intro x hx; simp at hx; omega) (by omega)
  have HC := PCommit_any S4
  rw [ex3] at HC
  obtain ⟨OC, eOC⟩ : ∃ O, O = oC [67, 0, 1, 2] := ⟨_, rfl⟩
  rw [← eOC] at HC
  clear eOC S4
  have HC2 := hide3 HC
  clear HC HP2 hA hb1 ho1 hB1
  go_wp2_with fail
  refine HC2.out.mono ?_
  rintro e w2 ⟨v2, rfl, ho2, hb2⟩
  obtain ⟨a2, l2, c2, rfl⟩ := row_form ho2
  have B2 := below_more (below_on B1' hb2) (.cells #[.int .i64 OC.time, .slice a2 l2 c2] 26)
  have o2 := (o1'.keep hb2).alloc' (.cells #[.int .i64 OC.time, .slice a2 l2 c2] 26)
  have B2' := below_more B2 (.cells #[.int .u8 77, .int .u8 5, .int .u8 2, .int .u8 1, .int .u8 1, .int .u8 0, .int .u8 5] 5)
  have o2' := o2.alloc' (.cells #[.int .u8 77, .int .u8 5, .int .u8 2, .int .u8 1, .int .u8 1, .int .u8 0, .int .u8 5] 5)
  have S7 : Sl ((w2.alloc (.cells #[.int .i64 OC.time, .slice a2 l2 c2] 26)).alloc (.cells #[.int .u8 77, .int .u8 5, .int .u8 2, .int .u8 1, .int .u8 1, .int .u8 0, .int .u8 5] 5)) (some ⟨(w2.alloc (.cells #[.int .i64 OC.time, .slice a2 l2 c2] 26)).heap.size, 0, none⟩) 7 7 [77, 5, 2, 1, 1, 0, 5] := sl_new (w2.alloc (.cells #[.int .i64 OC.time, .slice a2 l2 c2] 26)) [77, 5, 2, 1, 1, 0, 5] 7 rfl (by intro x hx; simp at hx; omega) (by omega)
  rw [show (w2.alloc (.cells #[.int .i64 OC.time, .slice a2 l2 c2] 26)).heap.size = w2.heap.size + 1 from by simp] at S7
  have HM := PManifest_any S7
  rw [ex4] at HM
  obtain ⟨OM, eOM⟩ : ∃ O, O = oM [77, 5, 2, 1, 1, 0, 5] := ⟨_, rfl⟩
  have ex5a : OM.log = 2 := by rw [eOM]; exact ex5.1
  have ex5b : OM.ps.length = 1 := by rw [eOM]; exact ex5.2
  rw [← eOM, ex5a] at HM
  clear eOM S7 ex5a
  have HM2 := hide3 HM
  clear HM HC2 B1' o1' B2 o2 ho2 hb2
  go_wp2_with fail
  refine HM2.out.mono ?_
  rintro e w3 ⟨v3, rfl, ho3, hb3⟩
  obtain ⟨a3, l3, c3, rfl⟩ := row_form ho3
  have hl3 : l3 = 1 := by
    rcases ho3.2 with ⟨e1, h0⟩ | ⟨g, cp, cur, e1, _⟩
    · rw [ex5b] at h0; cases h0
    · rw [ex5b] at e1; cases e1; rfl
  subst hl3
  have B3 := below_more (below_on B2' hb3) (.cells #[.int .i64 OM.time, .int .i64 2, .slice a3 1 c3] 44)
  have o3 := (o2'.keep hb3).alloc' (.cells #[.int .i64 OM.time, .int .i64 2, .slice a3 1 c3] 44)
  have m3 := heap_alloc_new w3 (.cells #[.int .i64 OM.time, .int .i64 2, .slice a3 1 c3] 44)
  have B3' := below_more B3 (.cells #[.int .u8 82, .int .u8 0, .int .u8 0, .int .u8 0] 5)
  have o3' := o3.alloc' (.cells #[.int .u8 82, .int .u8 0, .int .u8 0, .int .u8 0] 5)
  have m3' := (blk_alloc' (w3.alloc (.cells #[.int .i64 OM.time, .int .i64 2, .slice a3 1 c3] 44)) (.cells #[.int .u8 82, .int .u8 0, .int .u8 0, .int .u8 0] 5) w3.heap.size (by simp)).trans m3
  have S5 : Sl ((w3.alloc (.cells #[.int .i64 OM.time, .int .i64 2, .slice a3 1 c3] 44)).alloc (.cells #[.int .u8 82, .int .u8 0, .int .u8 0, .int .u8 0] 5)) (some ⟨(w3.alloc (.cells #[.int .i64 OM.time, .int .i64 2, .slice a3 1 c3] 44)).heap.size, 0, none⟩) 4 4 [82, 0, 0, 0] := sl_new (w3.alloc (.cells #[.int .i64 OM.time, .int .i64 2, .slice a3 1 c3] 44)) [82, 0, 0, 0] 4 rfl (by intro x hx; simp at hx; omega) (by omega)
  rw [show (w3.alloc (.cells #[.int .i64 OM.time, .int .i64 2, .slice a3 1 c3] 44)).heap.size = w3.heap.size + 1 from by simp] at S5
  have HR := PRow_any S5
  rw [ex6] at HR
  obtain ⟨rr, err⟩ : ∃ O, O = oR [82, 0, 0, 0] := ⟨_, rfl⟩
  rw [← err] at HR
  clear err S5
  have HR2 := hide3 HR
  clear HR HM2 B2' o2' B3 o3 ho3 hb3 m3 ex5b
  go_wp2_with fail
  refine HR2.out.mono ?_
  rintro e w4 ⟨rfl, hb4⟩
  have hlt3 : w3.heap.size < ((w3.alloc (.cells #[.int .i64 OM.time, .int .i64 2, .slice a3 1 c3] 44)).alloc (.cells #[.int .u8 82, .int .u8 0, .int .u8 0, .int .u8 0] 5)).heap.size := by simp; omega
  obtain ⟨rk, rv, rt⟩ := rr
  unfold Rw.v
  simp only []
  have B4 := below_more (below_on B3' hb4) (.cells #[.string rk, .string rv, .int .i64 rt] 36)
  have o4 := (o3'.keep hb4).alloc' (.cells #[.string rk, .string rv, .int .i64 rt] 36)
  have m4 := (blk_alloc' w4 (.cells #[.string rk, .string rv, .int .i64 rt] 36) w3.heap.size (Nat.lt_of_lt_of_le hlt3 hb4.size)).trans ((hb4.block w3.heap.size hlt3).trans m3')
  obtain ⟨ao, cp, rfl, hsl, _⟩ := o4.sl (by intro x hx; simp at hx; omega)
  obtain ⟨bb, off, rfl, _, hcell⟩ := hsl.2.2.2.2.2 (by decide)
  have q0 := hcell 0 (by decide)
  have q11 := hcell 11 (by decide)
  have n1 : (w4.alloc (.cells #[.string rk, .string rv, .int .i64 rt] 36)).cell? ⟨w3.heap.size, 1, none⟩ = some (.int .i64 2) := by rw [Go.Joins.cell_of_block m4]; rfl
  have n2 : (w4.alloc (.cells #[.string rk, .string rv, .int .i64 rt] 36)).cell? ⟨w3.heap.size, 2, none⟩ = some (.slice a3 1 c3) := by rw [Go.Joins.cell_of_block m4]; rfl
  replace q0 : (w4.alloc (.cells #[.string rk, .string rv, .int .i64 rt] 36)).cell? ⟨bb, off, none⟩ = some (.int .u8 67) := q0
  replace q11 : (w4.alloc (.cells #[.string rk, .string rv, .int .i64 rt] 36)).cell? ⟨bb, off + 11, none⟩ = some (.int .u8 98) := q11
  clear HR2 B3' o3' o4 hsl hcell m4 m3'
  simp only [List.length_cons, List.length_nil]
  go_wp2
  go_ret
  exact ⟨rfl, B4⟩
end
end Go.Proofs.Yteihabdldiopeaa
